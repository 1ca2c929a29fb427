/- What is proved here: the law's comparison of two slices of integers tells whether they read as the same list, at every two slices. No conditions. -/
import Derived.Test.YtgdgajgfehjjdaaWalksB
namespace Go.Proofs.Ytgdgajgfehjjdaa
open Go.RowKit

def eqB (xs ys : List Int) : Bool := decide (xs = ys)
theorem eqB_len {xs ys : List Int} (h : xs.length ≠ ys.length) : eqB xs ys = false := by
  unfold eqB; simp; rintro rfl; exact h rfl
theorem eqB_no {xs ys : List Int} {k : Nat} (h : xs[k]?.getD 0 ≠ ys[k]?.getD 0) : eqB xs ys = false := by
  unfold eqB; simp; rintro rfl; exact h rfl
theorem eqB_yes {xs ys : List Int} (hl : xs.length = ys.length) (h : ∀ j, j < xs.length → xs[j]?.getD 0 = ys[j]?.getD 0) : eqB xs ys = true := by
  unfold eqB; simp
  refine List.ext_getElem hl fun i h1 h2 => ?_
  have := h i h1
  rw [List.getElem?_eq_getElem h1, List.getElem?_eq_getElem h2] at this
  simpa using this

set_option maxHeartbeats 400000 in
theorem eqIntS_any (A A' : Option Addr) (n n' c c' B : Nat) (xs ys : List Int) (w : World) (h : IntsAt w B A n xs) (h' : IntsAt w B A' n' ys) (hn : n ≤ 1048576) (hn' : n' ≤ 1048576) :
    Calls Try.prog 23 #[.slice A n c, .slice A' n' c'] w fun e w' => e = .returned (.bool (eqB xs ys)) ∧ ∃ m, w' = w.drewN m := by
  have hl' := Lib.hid h.1
  have hr := Lib.hid h; clear h
  have hl2' := Lib.hid h'.1
  have hr2 := Lib.hid h'; clear h'
  by_cases he : n = n'
  · subst he
    have hne : ((n : Int) != (n : Int)) = false := by simp
    go_enter Try.func23, Try.ntmps23
    go_wp2
    go_loopw [5] (fun i wr => ∃ k : Nat, k ≤ n ∧ i = .int .i64 k ∧ Hid (∀ j, j < k → xs[j]?.getD 0 = ys[j]?.getD 0) ∧ ∃ m, wr = w.drewN m) (fun i _ => n - (intOf i).toNat)
    case atStart => exact ⟨0, Nat.zero_le _, rfl, Lib.hid (fun j hj => absurd hj (Nat.not_lt_zero _)), 0, rfl⟩
    case round =>
      obtain ⟨k, hk, rfl, hall, m, rfl⟩ := hrel
      by_cases hlt : k < n
      · obtain ⟨b, off, rfl, _, hc⟩ := hr.out.2 k hlt
        obtain ⟨b', off', rfl, _, hc'⟩ := hr2.out.2 k hlt
        cases hx : (xs[k]?.getD 0 != ys[k]?.getD 0)
        · go_wp2
          go_quiet (fail)
          go_wp2
          go_roundw
          case rel =>
            refine ⟨k + 1, by omega, by go_num, Lib.hid (fun j hj => ?_), _, rfl⟩
            by_cases e : j = k
            · subst e; simpa using hx
            · exact hall.out j (by omega)
          case measure => simp [intOf]; omega
        · go_wp2
          go_quiet (fail)
          go_wp2
          go_ret
          exact ⟨ret_bool (eqB_no (k := k) (by simpa using hx)).symm, _, World.drewN_drewN _ _ _⟩
      · go_wp2
        go_ret
        exact ⟨ret_bool (eqB_yes (by rw [hl'.out, hl2'.out]) (fun j hj => hall.out j (by rw [hl'.out] at hj; omega))).symm, _, rfl⟩
  · have hne : ((n : Int) != (n' : Int)) = true := by simp; omega
    have hq := Lib.hid (eqB_len (xs := xs) (ys := ys) (by rw [hl'.out, hl2'.out]; exact he))
    go_enter Try.func23, Try.ntmps23
    go_wp2
    go_ret
    exact ⟨ret_bool hq.out.symm, 0, rfl⟩
end Go.Proofs.Ytgdgajgfehjjdaa
