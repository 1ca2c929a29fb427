package tests

import (
	"slices"
	"testing"
)

// behind is what a test puts behind the length of a slice, where no function may read or write.
const behind = 77

// roomy returns a copy of l with spare elements behind its length.
func roomy(l []int) []int {
	long := append(slices.Clone(l), behind, behind, behind)
	return long[:len(l)]
}

// checkKept fails if a roomy list, or what is behind its length, is no longer what it was.
func checkKept(t *testing.T, name string, got []int, was []int) {
	t.Helper()
	if !slices.Equal(got, was) {
		t.Errorf("%s changed its argument %v to %v", name, was, got)
	}
	for _, n := range got[len(got) : len(got)+3] {
		if n != behind {
			t.Errorf("%s wrote behind the length of its argument %v", name, was)
		}
	}
}

// overwrite changes every element of a list up to its capacity.
func overwrite(l []int) {
	l = l[:cap(l)]
	for i := range l {
		l[i] = -behind
	}
}

// sameList compares lists of which an empty one and nil are the same value.
func sameList(a []int, b []int) bool {
	return slices.Equal(a, b)
}
