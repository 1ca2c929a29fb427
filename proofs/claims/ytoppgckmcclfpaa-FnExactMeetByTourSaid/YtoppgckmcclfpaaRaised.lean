/- What is proved here: what the program's leaps by jump pointers lead to; AncestorOf of the program and of the model. No conditions. -/
import Derived.Test.YtoppgckmcclfpaaJumps
namespace Go.Proofs.Ytoppgckmcclfpaa
open Go.RowKit

theorem bit_set {u k : Nat} (h : u.testBit k = true) : u % 2 ^ (k + 1) = u % 2 ^ k + 2 ^ k := by
  rw [Nat.mod_pow_succ, Nat.testBit_eq_decide_div_mod_eq, decide_eq_true_iff] at *
  rw [h]; omega
theorem bit_clear {u k : Nat} (h : u.testBit k = false) : u % 2 ^ (k + 1) = u % 2 ^ k := by
  rw [Nat.mod_pow_succ]
  rw [Nat.testBit_eq_decide_div_mod_eq, decide_eq_false_iff_not] at h
  have : u / 2 ^ k % 2 = 0 := by omega
  rw [this]; omega
theorem shr_bits : ∀ u : Nat, u < 32 → ∀ k : Nat, k < 5 → (bits .and .i64 ((u : Int) / 2 ^ k) 1 == 1) = u.testBit k := by decide +kernel
theorem leap_bit {ts : List Blk} (h : Tree ts) {b u k : Nat} (hb : b < ts.length) (hu : u ≤ dep ts b) (hs : u.testBit k = true) : jmp ts (anc ts b (u % 2 ^ k)) k = anc ts b (u % 2 ^ (k + 1)) := by
  have hm := bit_set hs
  have hle : u % 2 ^ (k + 1) ≤ u := Nat.mod_le _ _
  have hd := dep_anc h hb (u % 2 ^ k) (by omega)
  unfold jmp
  rw [if_pos (by omega), hm, anc_add]

set_option maxHeartbeats 400000 in
theorem raised_any (cs : Array Value) (ts : List Blk) (b u : Nat) (w : World) (hc : IsJumps ts cs) (ht : Tree ts) (hb : b < ts.length) (hu : u ≤ dep ts b) :
    Calls Try.prog 81 #[.agg cs, .int .i64 b, .int .i64 u] w (UpPost w (.int .i64 (anc ts b u))) := by
  have hu32 : u < 32 := by have := dep_le ht hb; have := ht.few; omega
  have hfew := ht.few
  have hcell : ∀ i, i < ts.length * 5 → (w.alloc (.cells cs 72)).cell? ⟨w.heap.size, i, none⟩ = some (.int .i64 (jmpC ts i)) := fun i hi => by
    rw [cell_of_row _ _ _ _ _ _ (heap_alloc_new _ _)]; exact hc.2 i hi
  have hbel : Below w.heap.size w (w.alloc (.cells cs 72)) := (Below.refl _ _).alloc (Nat.le_refl _) _
  have hcl := Lib.hid hcell
  have hbl := Lib.hid hbel
  clear hcell hbel
  go_enter Try.func81, Try.ntmps81
  go_wp2_with fail
  generalize w.alloc (.cells cs 72) = wx at hcl hbl ⊢
  clear hc
  go_loop [1, 7, 8] (fun x _ i => ∃ k : Nat, k ≤ 5 ∧ i = .int .i64 k ∧ x = .int .i64 (anc ts b (u % 2 ^ k) : Nat)) (fun _ _ i => 5 - (intOf i).toNat)
  case atStart => exact ⟨0, by omega, rfl, by rw [Nat.pow_zero, Nat.mod_one]; rfl⟩
  case round =>
    obtain ⟨k, hk, rfl, rfl⟩ := hrel
    by_cases hlt : k < 5
    · have hsb := shr_bits u hu32 k hlt
      have hal := anc_lt ht hb (u % 2 ^ k)
      have hcc := hcl.out (anc ts b (u % 2 ^ k) * 5 + k) (by omega)
      cases hbit : u.testBit k
      · rw [hbit] at hsb
        have hst := Lib.hid (bit_clear hbit)
        clear hbit hcc
        go_wp2_with fail
        go_round
        case rel => exact ⟨k + 1, by omega, by go_num, by rw [hst.out]⟩
        case measure => simp [intOf]; omega
      · rw [hbit] at hsb
        rw [jmpC_at ts hlt, leap_bit ht hb hu hbit] at hcc
        clear hbit
        have hal2 : anc ts b (u % 2 ^ k) < 24 := by omega
        go_wp2_with fail
        go_round
        case rel => exact ⟨k + 1, by omega, by go_num, rfl⟩
        case measure => simp [intOf]; omega
    · have hk5 : k = 5 := by omega
      subst hk5
      have hfin := Lib.hid (show anc ts b (u % 2 ^ 5) = anc ts b u by rw [Nat.mod_eq_of_lt (by omega)])
      go_wp2_with fail
      go_ret
      exact ⟨ret_int (by rw [hfin.out]), hbl.out⟩

/-- AncestorOf, as the document says it. -/
def ancOk (ts : List Blk) (b u : Int) : Bool := okK ts b && inB u 0 (dep ts b.toNat)
def ancR (ts : List Blk) (b u : Int) : Int := if ancOk ts b u then (anc ts b.toNat u.toNat : Nat) else 0

set_option maxHeartbeats 400000 in
theorem implAnc_any (A : Option Addr) (n c : Nat) (ts : List Blk) (a b : Int) (w : World) (h : BlksAt w w.heap.size A n ts) (hn : n ≤ 1048576) :
    Calls Try.prog 32 #[.slice A n c, .int .i64 a, .int .i64 b] w (UpPost w (.tuple #[.int .i64 (ancR ts a b), .bool (ancOk ts a b)])) := by
  have hh := Lib.hid h; clear h
  cases hk : okK ts a
  · have hr := Lib.hid (show ancOk ts a b = false by unfold ancOk; rw [hk]; rfl)
    have hr2 := Lib.hid (show ancR ts a b = 0 by unfold ancR; rw [hr.out]; rfl)
    go_enter Try.func32, Try.ntmps32
    go_wp2_with (go_at_call 78; refine (isBlock_ok _ _ _ ts _ _ hh.out hn).mono ?_; rintro e w1 ⟨rfl, b1⟩; rw [hk])
    go_ret2
    exact ⟨ret_two hr2.out.symm hr.out.symm, b1⟩
  · by_cases hb : b < 0
    · have hr := Lib.hid (show ancOk ts a b = false by unfold ancOk; rw [hk, inB_low hb]; rfl)
      have hr2 := Lib.hid (show ancR ts a b = 0 by unfold ancR; rw [hr.out]; rfl)
      go_enter Try.func32, Try.ntmps32
      go_wp2_with (go_at_call 78; refine (isBlock_ok _ _ _ ts _ _ hh.out hn).mono ?_; rintro e w1 ⟨rfl, b1⟩; rw [hk])
      go_ret2
      exact ⟨ret_two hr2.out.symm hr.out.symm, b1⟩
    · obtain ⟨ht, k0, rfl, hkl⟩ := okK_iff.1 hk
      obtain ⟨u, rfl⟩ := Int.eq_ofNat_of_zero_le (show 0 ≤ b by omega)
      have hkn : k0 < n := by rw [← hh.out.1]; exact hkl
      by_cases hle : u ≤ dep ts k0
      · have hr := Lib.hid (show ancOk ts k0 u = true by unfold ancOk; rw [hk, Int.toNat_natCast, inB_true (by omega) (by omega)]; rfl)
        have hr2 := Lib.hid (show ancR ts k0 u = anc ts k0 u by unfold ancR; rw [hr.out]; rfl)
        go_enter Try.func32, Try.ntmps32
        go_wp2_with (go_at_call 78; refine (isBlock_ok _ _ _ ts _ _ hh.out hn).mono ?_; rintro e w1 ⟨rfl, b1⟩; rw [hk]; have u1 := Lib.hid b1; have h1 := Lib.hid (hh.out.up b1); clear b1)
        refine (depthIn_any _ _ _ ts k0 _ h1.out hn ht hkn).mono ?_
        rintro e w2 ⟨rfl, b2⟩
        have u2 := Lib.hid (u1.out.trans (b2.mono u1.out.size)); have h2 := Lib.hid (h1.out.up b2); clear b2
        go_wp2_with fail
        refine (leapsIn_any _ _ _ ts _ h2.out ht).mono ?_
        rintro e w3 ⟨cs, rfl, hj, hone, b3⟩
        have u3 := Lib.hid (u2.out.trans (b3.mono u2.out.size)); clear b3
        have hj' := Lib.hid hj; clear hj hone
        go_wp2_with fail
        refine (raised_any cs ts k0 u _ hj'.out ht hkl hle).mono ?_
        rintro e w4 ⟨rfl, b4⟩
        have u4 := Lib.hid (u3.out.trans (b4.mono u3.out.size)); clear b4
        go_wp2_with fail
        go_ret2
        exact ⟨ret_two hr2.out.symm hr.out.symm, u4.out⟩
      · have hr := Lib.hid (show ancOk ts k0 u = false by unfold ancOk; rw [hk, Int.toNat_natCast, inB_high (by omega)]; rfl)
        have hr2 := Lib.hid (show ancR ts k0 u = 0 by unfold ancR; rw [hr.out]; rfl)
        go_enter Try.func32, Try.ntmps32
        go_wp2_with (go_at_call 78; refine (isBlock_ok _ _ _ ts _ _ hh.out hn).mono ?_; rintro e w1 ⟨rfl, b1⟩; rw [hk]; have u1 := Lib.hid b1; have h1 := Lib.hid (hh.out.up b1); clear b1)
        refine (depthIn_any _ _ _ ts k0 _ h1.out hn ht hkn).mono ?_
        rintro e w2 ⟨rfl, b2⟩
        have u2 := Lib.hid (u1.out.trans (b2.mono u1.out.size)); clear b2
        go_wp2_with fail
        go_ret2
        exact ⟨ret_two hr2.out.symm hr.out.symm, u2.out⟩

theorem wayV_get {ts : List Blk} (h : Tree ts) {k : Nat} (hk : k < ts.length) (j : Nat) (hj : j ≤ dep ts k) : (wayV ts k)[dep ts k - j]?.getD 0 = (anc ts k j : Nat) := by
  unfold wayV
  rw [List.getElem?_map, way_get h hk j hj]; rfl

set_option maxHeartbeats 400000 in
theorem specAnc_any (A : Option Addr) (n c : Nat) (ts : List Blk) (a b : Int) (w : World) (h : BlksAt w w.heap.size A n ts) (hn : n ≤ 1048576) :
    Calls Try.prog 34 #[.slice A n c, .int .i64 a, .int .i64 b] w (UpPost w (.tuple #[.int .i64 (ancR ts a b), .bool (ancOk ts a b)])) := by
  have hh := Lib.hid h; clear h
  cases hk : okK ts a
  · have hr := Lib.hid (show ancOk ts a b = false by unfold ancOk; rw [hk]; rfl)
    have hr2 := Lib.hid (show ancR ts a b = 0 by unfold ancR; rw [hr.out]; rfl)
    go_enter Try.func34, Try.ntmps34
    go_wp2_with (go_at_call 83; refine (there_ok _ _ _ ts _ _ hh.out hn).mono ?_; rintro e w1 ⟨rfl, b1⟩; rw [hk])
    go_ret2
    exact ⟨ret_two hr2.out.symm hr.out.symm, b1⟩
  · obtain ⟨ht, k0, rfl, hkl⟩ := okK_iff.1 hk
    have hkn : k0 < n := by rw [← hh.out.1]; exact hkl
    have hwl := Lib.hid (wayV_len ht hkl)
    have hdl := dep_le ht hkl
    have hfew := ht.few
    cases hi : inB b 0 (dep ts k0)
    · have hr := Lib.hid (show ancOk ts k0 b = false by unfold ancOk; rw [hk, Int.toNat_natCast, hi]; rfl)
      have hr2 := Lib.hid (show ancR ts k0 b = 0 by unfold ancR; rw [hr.out]; rfl)
      go_enter Try.func34, Try.ntmps34
      go_wp2_with (go_at_call 83; refine (there_ok _ _ _ ts _ _ hh.out hn).mono ?_; rintro e w1 ⟨rfl, b1⟩; rw [hk]; have u1 := Lib.hid b1; have h1 := Lib.hid (hh.out.up b1); clear b1)
      refine (way_ok _ _ _ ts k0 _ h1.out hn ht hkn).mono ?_
      rintro e w2 ⟨A2, n2, c2, rfl, ho, b2⟩
      have hn2 : n2 = dep ts k0 + 1 := by rw [← ho.len, hwl.out]
      subst hn2
      have u2 := Lib.hid (u1.out.trans (b2.mono u1.out.size)); clear b2 ho
      go_wp2_with fail
      refine (l1In_any _ _ _ _).mono ?_
      rintro e w' ⟨rfl, rfl⟩
      try rw [show ((dep ts k0 + 1 : Nat) : Int) - 1 = dep ts k0 by omega]
      try rw [show (dep ts k0 : Int) + 1 - 1 = dep ts k0 by omega]
      rw [hi]
      go_wp2_with fail
      go_ret2
      exact ⟨ret_two hr2.out.symm hr.out.symm, u2.out⟩
    · obtain ⟨i0, i1⟩ := inB_iff.1 hi
      obtain ⟨u, rfl⟩ := Int.eq_ofNat_of_zero_le i0
      have hr := Lib.hid (show ancOk ts k0 u = true by unfold ancOk; rw [hk, Int.toNat_natCast, hi]; rfl)
      have hr2 := Lib.hid (show ancR ts k0 u = anc ts k0 u by unfold ancR; rw [hr.out]; rfl)
      have hget := Lib.hid (wayV_get ht hkl u (by omega))
      have hud : u ≤ dep ts k0 := by omega
      go_enter Try.func34, Try.ntmps34
      go_wp2_with (go_at_call 83; refine (there_ok _ _ _ ts _ _ hh.out hn).mono ?_; rintro e w1 ⟨rfl, b1⟩; rw [hk]; have u1 := Lib.hid b1; have h1 := Lib.hid (hh.out.up b1); clear b1)
      refine (way_ok _ _ _ ts k0 _ h1.out hn ht hkn).mono ?_
      rintro e w2 ⟨A2, n2, c2, rfl, ho, b2⟩
      have hn2 : n2 = dep ts k0 + 1 := by rw [← ho.len, hwl.out]
      subst hn2
      have u2 := Lib.hid (u1.out.trans (b2.mono u1.out.size))
      obtain ⟨g, off, rfl, _, hc⟩ := ho.ints.2 (dep ts k0 - u) (by omega)
      rw [hget.out] at hc
      clear b2 ho
      go_wp2_with fail
      refine (l1In_any _ _ _ _).mono ?_
      rintro e w' ⟨rfl, rfl⟩
      try rw [show ((dep ts k0 + 1 : Nat) : Int) - 1 = dep ts k0 by omega]
      try rw [show (dep ts k0 : Int) + 1 - 1 = dep ts k0 by omega]
      rw [hi]
      go_wp2_with fail
      go_ret2
      exact ⟨ret_two hr2.out.symm hr.out.symm, u2.out⟩
end Go.Proofs.Ytoppgckmcclfpaa
