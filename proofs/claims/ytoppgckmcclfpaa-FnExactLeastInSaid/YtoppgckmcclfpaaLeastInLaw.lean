/- What is proved here: the law on LeastIn returns true at every slice of slices of integers and every two integers, and writes nothing that was there. No conditions. -/
import Derived.Test.YtoppgckmcclfpaaRowsCopy
import Derived.Test.YtoppgckmcclfpaaLeastModel
namespace Go.Proofs.Ytoppgckmcclfpaa
open Go.RowKit

/-- The law's comparison of two slices of slices that hold the same rows. -/
theorem eqRowsF_any (A A' : Option Addr) (n c c' B : Nat) (rows : List (List Int)) (w : World) (h : RowsAt w B A n rows) (h' : RowsAt w B A' n rows) (hs : fewRows rows) (hn : n ≤ 1048576) :
    Calls Try.prog 71 #[.slice A n c, .slice A' n c'] w fun e w' => e = .returned (.bool true) ∧ ∃ m, w' = w.drewN m := by
  have hr := Lib.hid h; clear h
  have hr2 := Lib.hid h'; clear h'
  have hs' := Lib.hid hs; clear hs
  have hne : ((n : Int) != (n : Int)) = false := by simp
  go_enter Try.func71, Try.ntmps71
  go_wp2_with fail
  go_loopw [5] (fun i wr => ∃ k : Nat, k ≤ n ∧ i = .int .i64 k ∧ ∃ m, wr = w.drewN m) (fun i _ => n - (intOf i).toNat)
  case atStart => exact ⟨0, Nat.zero_le _, rfl, 0, rfl⟩
  case round =>
    obtain ⟨k, hk, rfl, m, hm⟩ := hrel
    have hmh := Lib.hid hm
    by_cases hlt : k < n
    · obtain ⟨b, off, Ai, ci, rfl, _, hc0, hi⟩ := hr.out.row k hlt
      obtain ⟨b', off', Aj, cj, rfl, _, hc0', hj⟩ := hr2.out.row k hlt
      have hc : wr.cell? ⟨b, off + k, none⟩ = some (.slice Ai (rowG rows k).length ci) := by rw [hm]; exact hc0
      have hc' : wr.cell? ⟨b', off' + k, none⟩ = some (.slice Aj (rowG rows k).length cj) := by rw [hm]; exact hc0'
      have hi' := Lib.hid (show IntsAt wr B Ai (rowG rows k).length (rowG rows k) by rw [hm]; exact hi)
      have hj' := Lib.hid (show IntsAt wr B Aj (rowG rows k).length (rowG rows k) by rw [hm]; exact hj)
      have hl := hs'.out k
      have hq := Lib.hid (show eqB (rowG rows k) (rowG rows k) = true from eqB_yes rfl (fun _ _ => rfl))
      clear hi hj hm hc0 hc0'
      have hcon := Lib.hid (fun (q : Nat) => (show Calls Try.prog 66 #[.slice Ai (rowG rows k).length ci, .slice Aj (rowG rows k).length cj] (wr.drewN q) (fun e w'' => e = .returned (.bool true) ∧ ∃ m', w'' = wr.drewN m') from Calls.quiet_of (by
        have := eqIntS_any Ai Aj _ _ ci cj B _ _ (wr.drewN q) hi'.out hj'.out (by omega) (by omega)
        rw [hq.out] at this
        exact this)))
      generalize (rowG rows k).length = L at hc hc' hcon
      go_wp2_with fail
      go_quiet ((go_at_call 66; exact hcon.out _))
      go_wp2_with fail
      go_roundw
      case rel => exact ⟨k + 1, by omega, by go_num, _, by rw [hmh.out]; exact World.drewN_drewN _ _ _⟩
      case measure => simp [intOf]; omega
    · clear hm
      go_wp2_with fail
      go_ret
      exact ⟨rfl, m, hmh.out⟩


theorem tight_cap {w : World} {A : Option Addr} {n : Nat} {rows : List (List Int)} (h : Tight w A n rows) (hn : 0 < n) : ∀ b off Ai ci, A = some ⟨b, off, none⟩ → w.cell? ⟨b, off, none⟩ = some (.slice Ai (rowG rows 0).length ci) → (rowG rows 0).length ≤ ci := by
  intro b off Ai ci e hc
  obtain ⟨b', off', g, e', hc'⟩ := h 0 hn
  rw [e] at e'
  cases e'
  rw [Nat.add_zero, hc] at hc'
  simp only [Option.some.injEq, Value.slice.injEq] at hc'
  omega
theorem tight_cap0 {w : World} {A : Option Addr} {n : Nat} {rows : List (List Int)} (hr : RowsAt w w.heap.size A n rows) (h : Tight w A n rows) : ∀ b off Ai ci, A = some ⟨b, off, none⟩ → w.cell? ⟨b, off, none⟩ = some (.slice Ai (rowG rows 0).length ci) → (rowG rows 0).length ≤ ci := by
  by_cases hn : 0 < n
  · exact tight_cap h hn
  · intro b off Ai ci _ _
    have : rows = [] := List.length_eq_zero_iff.1 (by rw [hr.len]; omega)
    subst this
    exact Nat.zero_le _

set_option maxRecDepth 100000 in
set_option maxHeartbeats 1600000 in
theorem lawLeastIn (A : Option Addr) (n c : Nat) (rows : List (List Int)) (f t : Int) (w : World) (h : RowsAt w w.heap.size A n rows) (hn : n ≤ 9223372036854775807) (hrl : ∀ i, i < n → (rowG rows i).length ≤ 9223372036854775807) :
    Calls Try.prog 12 #[.slice A n c, .int .i64 f, .int .i64 t] w fun e w' => e = .returned (.bool true) ∧ Below w.heap.size w w' := by
  have hh := Lib.hid h
  have hq0 : (leastOk rows f t != leastOk rows f t) = false := by simp
  have hq1 : (leastR rows f t != leastR rows f t) = false := by simp
  have hsz := Lib.hid (szRows_any A n c rows w h hn hrl)
  clear h hrl
  go_enter Try.func12, Try.ntmps12
  go_wp2_with fail
  refine hsz.out.mono ?_
  rintro e w0 ⟨r, rfl, hr0, rfl⟩
  by_cases hr : 0 ≤ r
  · obtain ⟨hm, hrows⟩ := hr0 hr
    have hf : fewRows rows := fun i => by
      by_cases hi : i < n
      · exact hrows i hi
      · unfold rowG; rw [List.getElem?_eq_none (by rw [hh.out.len]; omega)]; simp
    have hf' := Lib.hid hf
    have hrn : ¬ r < 0 := by omega
    clear hsz hr0 hrows hf
    go_wp2_with fail
    refine (toRows_any _ _ _ rows _ hh.out hf'.out hm).mono ?_
    rintro e w1 ⟨rfl, r1, t1, b1⟩
    have r1' := Lib.hid r1; have t1' := Lib.hid t1; have u1 := Lib.hid b1
    clear r1 t1 b1
    go_wp2_with fail
    refine (specLeast_any _ n _ rows f t _ r1'.out hf'.out hm (tight_cap0 r1'.out t1'.out)).mono ?_
    rintro e w2 ⟨rfl, b2⟩
    have u2 := Lib.hid (u1.out.trans (b2.mono u1.out.size))
    clear b2 r1' t1'
    go_wp2_with fail
    refine (toRows_any _ _ _ rows _ ((hh.out.below u2.out).more u2.out.size) hf'.out hm).mono ?_
    rintro e w3 ⟨rfl, r3, t3, b3⟩
    have r3' := Lib.hid r3
    have u3 := Lib.hid (u2.out.trans (b3.mono u2.out.size))
    clear r3 t3 b3
    generalize w2.heap.size = gx at r3' ⊢
    go_wp2_with fail
    refine (implLeast_any _ n _ rows f t _ r3'.out hf'.out hm).mono ?_
    rintro e w4 ⟨rfl, b4⟩
    have r4 := Lib.hid ((r3'.out.below b4).more b4.size)
    have u4 := Lib.hid (u3.out.trans (b4.mono u3.out.size))
    clear b4 r3'
    go_wp2_with fail
    refine (toRows_any _ _ _ rows _ ((hh.out.below u4.out).more u4.out.size) hf'.out hm).mono ?_
    rintro e w5 ⟨rfl, r5, t5, b5⟩
    have r5' := Lib.hid r5
    have r4' := Lib.hid ((r4.out.below b5).more b5.size)
    have u5 := Lib.hid (u4.out.trans (b5.mono u4.out.size))
    clear r5 t5 b5 r4
    go_wp2_with fail
    refine (eqRowsF_any _ _ n _ _ w5.heap.size rows w5 r4'.out r5'.out hf'.out hm).mono ?_
    rintro e w6 ⟨rfl, m, hw6⟩
    have u6 := Lib.hid (show Below w.heap.size w w6 by rw [hw6]; exact below_drewN u5.out m)
    clear hw6
    go_wp2_with fail
    go_ret
    exact ⟨rfl, u6.out⟩
  · have hrn : r < 0 := by omega
    clear hsz hr0
    go_wp2_with fail
    go_ret
    exact ⟨rfl, Below.refl _ _⟩
end Go.Proofs.Ytoppgckmcclfpaa
