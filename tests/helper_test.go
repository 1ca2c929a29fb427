package tests

import (
	"slices"
	"testing"
)

// behind is what a test puts behind the length of a slice, where no function may read or write.
const behind = 77

// roomyWith returns a copy of l with three spare elements behind its length.
func roomyWith[T any](l []T, spare T) []T {
	long := append(slices.Clone(l), spare, spare, spare)
	return long[:len(l)]
}

// checkKeptWith fails if a list of roomyWith, or what is behind its length, is no longer what it was.
func checkKeptWith[T comparable](t *testing.T, name string, got []T, was []T, spare T) {
	t.Helper()
	if !slices.Equal(got, was) {
		t.Errorf("%s changed its argument %v to %v", name, was, got)
	}
	for _, n := range got[len(got) : len(got)+3] {
		if n != spare {
			t.Errorf("%s wrote behind the length of its argument %v", name, was)
		}
	}
}

func roomy(l []int) []int {
	return roomyWith(l, behind)
}

func checkKept(t *testing.T, name string, got []int, was []int) {
	t.Helper()
	checkKeptWith(t, name, got, was, behind)
}

// overwrite changes every element of a list up to its capacity.
func overwrite(l []int) {
	l = l[:cap(l)]
	for i := range l {
		l[i] = -behind
	}
}

// sameList compares lists of which an empty one and nil are the same value.
func sameList(a []int, b []int) bool {
	return slices.Equal(a, b)
}

// sameLists compares lists of lists in the same way.
func sameLists(a [][]int, b [][]int) bool {
	return slices.EqualFunc(a, b, sameList)
}
