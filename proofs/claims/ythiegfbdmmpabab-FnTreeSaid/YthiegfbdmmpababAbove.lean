/- What is proved here: IsAbove of the program and of the model. No conditions. -/
import Derived.Test.YthiegfbdmmpababRaised
namespace Go.Proofs.Ythiegfbdmmpabab
open Go.RowKit

def hasI (xs : List Int) (x : Int) : Bool := decide (x ∈ xs)
set_option maxHeartbeats 400000 in
theorem hasI_any (A : Option Addr) (n c B : Nat) (xs : List Int) (x : Int) (w : World) (h : IntsAt w B A n xs) (hn : n ≤ 1048576) :
    Calls Try.prog 136 #[.slice A n c, .int .i64 x] w fun e w' => e = .returned (.bool (hasI xs x)) ∧ w = w' := by
  have hl' := Lib.hid h.1
  have hr := Lib.hid h; clear h
  go_enter Try.func136, Try.ntmps136
  go_wp2_with fail
  go_loop [9] (fun i => ∃ k : Nat, k ≤ n ∧ i = .int .i64 k ∧ Hid (∀ j, j < k → xs[j]?.getD 0 ≠ x)) (fun i => n - (intOf i).toNat)
  case atStart => exact ⟨0, Nat.zero_le _, rfl, Lib.hid (fun j hj => absurd hj (Nat.not_lt_zero _))⟩
  case round =>
    obtain ⟨k, hk, rfl, hall⟩ := hrel
    by_cases hlt : k < n
    · obtain ⟨b, off, rfl, _, hc⟩ := hr.out.2 k hlt
      cases hx : (xs[k]?.getD 0 == x)
      · go_wp2_with fail
        go_round
        case rel =>
          refine ⟨k + 1, by omega, by go_num, Lib.hid (fun j hj => ?_)⟩
          by_cases e : j = k
          · subst e; simpa using hx
          · exact hall.out j (by omega)
        case measure => simp [intOf]; omega
      · have hy := Lib.hid (show hasI xs x = true by
          have hk' : k < xs.length := by rw [hl'.out]; exact hlt
          have e := eq_of_beq hx
          rw [List.getElem?_eq_getElem hk', Option.getD_some] at e
          unfold hasI; rw [← e]; exact decide_eq_true (List.getElem_mem hk'))
        go_wp2_with fail
        go_ret
        exact ⟨ret_bool hy.out.symm, rfl⟩
    · have hy := Lib.hid (show hasI xs x = false by
        unfold hasI
        refine decide_eq_false fun hm => ?_
        obtain ⟨j, hj, e⟩ := List.mem_iff_getElem.1 hm
        have := hall.out j (by rw [hl'.out] at hj; omega)
        rw [List.getElem?_eq_getElem hj, Option.getD_some] at this
        exact this e)
      go_wp2_with fail
      go_ret
      exact ⟨ret_bool hy.out.symm, rfl⟩

/-- Block a lies on the path to block b. -/
def abv (ts : List Blk) (a b : Nat) : Bool := decide (dep ts a ≤ dep ts b) && (anc ts b (dep ts b - dep ts a) == a)
theorem abv_iff {ts : List Blk} {a b : Nat} : abv ts a b = true ↔ dep ts a ≤ dep ts b ∧ anc ts b (dep ts b - dep ts a) = a := by
  unfold abv; rw [Bool.and_eq_true, decide_eq_true_iff, beq_iff_eq]
theorem mem_way {ts : List Blk} (h : Tree ts) {b : Nat} (hb : b < ts.length) (x : Nat) : x ∈ way ts b ↔ ∃ j, j ≤ dep ts b ∧ anc ts b j = x := by
  have hl := way_len h hb
  constructor
  · intro hm
    obtain ⟨i, hi, e⟩ := List.mem_iff_getElem.1 hm
    have hg := way_get h hb (dep ts b - i) (by omega)
    rw [show dep ts b - (dep ts b - i) = i by omega, List.getElem?_eq_getElem hi, e] at hg
    exact ⟨dep ts b - i, by omega, (Option.some.inj hg).symm⟩
  · rintro ⟨j, hj, rfl⟩
    exact List.mem_of_getElem? (way_get h hb j hj)
theorem has_way {ts : List Blk} (h : Tree ts) {a b : Nat} (hb : b < ts.length) : hasI (wayV ts b) a = abv ts a b := by
  have e : ((a : Int) ∈ wayV ts b) ↔ abv ts a b = true := by
    unfold wayV
    rw [List.mem_map, abv_iff]
    constructor
    · rintro ⟨x, hx, e⟩
      have : x = a := by omega
      subst this
      obtain ⟨j, hj, rfl⟩ := (mem_way h hb _).1 hx
      have := dep_anc h hb j hj
      exact ⟨by omega, by rw [show dep ts b - dep ts (anc ts b j) = j by omega]⟩
    · rintro ⟨_, h2⟩
      exact ⟨a, (mem_way h hb a).2 ⟨_, Nat.sub_le _ _, h2⟩, rfl⟩
  unfold hasI
  cases hab : abv ts a b
  · exact decide_eq_false fun hm => by rw [e.1 hm] at hab; cases hab
  · exact decide_eq_true (e.2 hab)

theorem l3Above_any (A : Option Addr) (n c : Nat) (ts : List Blk) (a b : Nat) (w : World) (h : BlksAt w w.heap.size A n ts) (hn : n ≤ 1048576) (ht : Tree ts) (hb : b < ts.length) :
    Calls Try.prog 120 #[.slice A n c, .int .i64 a, .int .i64 b] w (UpPost w (.bool (abv ts a b))) := by
  have hw := Lib.hid (has_way ht (a := a) hb)
  have hwl := Lib.hid (wayV_len ht hb)
  have hdl := dep_le ht hb
  have hl := Lib.hid h.1
  go_enter Try.func120, Try.ntmps120
  go_wp2_with fail
  refine (way_ok _ _ _ ts b _ h hn ht (by rw [← hl.out]; exact hb)).mono ?_
  rintro e w2 ⟨A2, n2, c2, rfl, ho, b2⟩
  have hn2 : n2 ≤ 1048576 := by have := ho.len; have := hwl.out; have := ht.few; omega
  have hint := Lib.hid ho.ints
  have u2 := Lib.hid b2
  clear ho b2
  go_wp2_with fail
  refine (hasI_any _ _ _ _ (wayV ts b) _ _ hint.out hn2).mono ?_
  rintro e w3 ⟨rfl, rfl⟩
  rw [hw.out]
  go_wp2_with fail
  go_ret
  exact ⟨rfl, u2.out⟩

def abvOk (ts : List Blk) (a b : Int) : Bool := okK ts a && okK ts b
def abvR (ts : List Blk) (a b : Int) : Bool := abvOk ts a b && abv ts a.toNat b.toNat

set_option maxHeartbeats 400000 in
theorem specAbove_any (A : Option Addr) (n c : Nat) (ts : List Blk) (a b : Int) (w : World) (h : BlksAt w w.heap.size A n ts) (hn : n ≤ 1048576) :
    Calls Try.prog 59 #[.slice A n c, .int .i64 a, .int .i64 b] w (UpPost w (.tuple #[.bool (abvR ts a b), .bool (abvOk ts a b)])) := by
  have hh := Lib.hid h; clear h
  cases hk : okK ts a
  · have hr := Lib.hid (show abvOk ts a b = false by unfold abvOk; rw [hk]; rfl)
    have hr2 := Lib.hid (show abvR ts a b = false by unfold abvR; rw [hr.out]; rfl)
    go_enter Try.func59, Try.ntmps59
    go_wp2_with (go_at_call 118; refine (there_ok _ _ _ ts _ _ hh.out hn).mono ?_; rintro e w1 ⟨rfl, b1⟩; rw [hk])
    go_ret2
    exact ⟨ret_bools hr2.out.symm hr.out.symm, b1⟩
  · cases hk2 : okK ts b
    · have hr := Lib.hid (show abvOk ts a b = false by unfold abvOk; rw [hk, hk2]; rfl)
      have hr2 := Lib.hid (show abvR ts a b = false by unfold abvR; rw [hr.out]; rfl)
      go_enter Try.func59, Try.ntmps59
      go_wp2_with fail
      refine (there_ok _ _ _ ts _ _ hh.out hn).mono ?_
      rintro e w1 ⟨rfl, b1⟩
      rw [hk]
      have u1 := Lib.hid b1; have h1 := Lib.hid (hh.out.up b1); clear b1
      go_wp2_with fail
      refine (there_ok _ _ _ ts _ _ h1.out hn).mono ?_
      rintro e w2 ⟨rfl, b2⟩
      rw [hk2]
      have u2 := Lib.hid (u1.out.trans (b2.mono u1.out.size)); clear b2
      go_wp2_with fail
      go_ret2
      exact ⟨ret_bools hr2.out.symm hr.out.symm, u2.out⟩
    · obtain ⟨ht, x, rfl, hxl⟩ := okK_iff.1 hk
      obtain ⟨_, y, rfl, hyl⟩ := okK_iff.1 hk2
      have hr := Lib.hid (show abvOk ts x y = true by unfold abvOk; rw [hk, hk2]; rfl)
      have hr2 := Lib.hid (show abvR ts x y = abv ts x y by unfold abvR; rw [hr.out]; rfl)
      go_enter Try.func59, Try.ntmps59
      go_wp2_with fail
      refine (there_ok _ _ _ ts _ _ hh.out hn).mono ?_
      rintro e w1 ⟨rfl, b1⟩
      rw [hk]
      have u1 := Lib.hid b1; have h1 := Lib.hid (hh.out.up b1); clear b1
      go_wp2_with fail
      refine (there_ok _ _ _ ts _ _ h1.out hn).mono ?_
      rintro e w2 ⟨rfl, b2⟩
      rw [hk2]
      have u2 := Lib.hid (u1.out.trans (b2.mono u1.out.size)); have h2 := Lib.hid (h1.out.up b2); clear b2
      go_wp2_with fail
      refine (l3Above_any _ _ _ ts x y _ h2.out hn ht hyl).mono ?_
      rintro e w3 ⟨rfl, b3⟩
      have u3 := Lib.hid (u2.out.trans (b3.mono u2.out.size)); clear b3
      go_wp2_with fail
      go_ret2
      exact ⟨ret_bools hr2.out.symm hr.out.symm, u3.out⟩

set_option maxHeartbeats 400000 in
theorem implAbove_any (A : Option Addr) (n c : Nat) (ts : List Blk) (a b : Int) (w : World) (h : BlksAt w w.heap.size A n ts) (hn : n ≤ 1048576) :
    Calls Try.prog 58 #[.slice A n c, .int .i64 a, .int .i64 b] w (UpPost w (.tuple #[.bool (abvR ts a b), .bool (abvOk ts a b)])) := by
  have hh := Lib.hid h; clear h
  cases hk : okK ts a
  · have hr := Lib.hid (show abvOk ts a b = false by unfold abvOk; rw [hk]; rfl)
    have hr2 := Lib.hid (show abvR ts a b = false by unfold abvR; rw [hr.out]; rfl)
    go_enter Try.func58, Try.ntmps58
    go_wp2_with (go_at_call 70; refine (isBlock_ok _ _ _ ts _ _ hh.out hn).mono ?_; rintro e w1 ⟨rfl, b1⟩; rw [hk])
    go_ret2
    exact ⟨ret_bools hr2.out.symm hr.out.symm, b1⟩
  · cases hk2 : okK ts b
    · have hr := Lib.hid (show abvOk ts a b = false by unfold abvOk; rw [hk, hk2]; rfl)
      have hr2 := Lib.hid (show abvR ts a b = false by unfold abvR; rw [hr.out]; rfl)
      go_enter Try.func58, Try.ntmps58
      go_wp2_with fail
      refine (isBlock_ok _ _ _ ts _ _ hh.out hn).mono ?_
      rintro e w1 ⟨rfl, b1⟩
      rw [hk]
      have u1 := Lib.hid b1; have h1 := Lib.hid (hh.out.up b1); clear b1
      go_wp2_with fail
      refine (isBlock_ok _ _ _ ts _ _ h1.out hn).mono ?_
      rintro e w2 ⟨rfl, b2⟩
      rw [hk2]
      have u2 := Lib.hid (u1.out.trans (b2.mono u1.out.size)); clear b2
      go_wp2_with fail
      go_ret2
      exact ⟨ret_bools hr2.out.symm hr.out.symm, u2.out⟩
    · obtain ⟨ht, x, rfl, hxl⟩ := okK_iff.1 hk
      obtain ⟨_, y, rfl, hyl⟩ := okK_iff.1 hk2
      have hr := Lib.hid (show abvOk ts x y = true by unfold abvOk; rw [hk, hk2]; rfl)
      have hr2 := Lib.hid (show abvR ts x y = abv ts x y by unfold abvR; rw [hr.out]; rfl)
      have hxn : x < n := by rw [← hh.out.1]; exact hxl
      have hyn : y < n := by rw [← hh.out.1]; exact hyl
      have hdx := dep_le ht hxl
      have hdy := dep_le ht hyl
      by_cases hle : dep ts x ≤ dep ts y
      · have hab := Lib.hid (show abv ts x y = ((anc ts y (dep ts y - dep ts x) : Nat) == (x : Int)) by
          unfold abv; rw [decide_eq_true hle, Bool.true_and]
          cases hq : (anc ts y (dep ts y - dep ts x) == x)
          · symm; simp at hq ⊢; omega
          · symm; simp at hq ⊢; omega)
        go_enter Try.func58, Try.ntmps58
        go_wp2_with fail
        refine (isBlock_ok _ _ _ ts _ _ hh.out hn).mono ?_
        rintro e w1 ⟨rfl, b1⟩
        rw [hk]
        have u1 := Lib.hid b1; have h1 := Lib.hid (hh.out.up b1); clear b1
        go_wp2_with fail
        refine (isBlock_ok _ _ _ ts _ _ h1.out hn).mono ?_
        rintro e w2 ⟨rfl, b2⟩
        rw [hk2]
        have u2 := Lib.hid (u1.out.trans (b2.mono u1.out.size)); have h2 := Lib.hid (h1.out.up b2); clear b2
        go_wp2_with fail
        refine (depthIn_any _ _ _ ts y _ h2.out hn ht hyn).mono ?_
        rintro e w3 ⟨rfl, b3⟩
        have u3 := Lib.hid (u2.out.trans (b3.mono u2.out.size)); have h3 := Lib.hid (h2.out.up b3); clear b3
        go_wp2_with fail
        refine (depthIn_any _ _ _ ts x _ h3.out hn ht hxn).mono ?_
        rintro e w4 ⟨rfl, b4⟩
        have u4 := Lib.hid (u3.out.trans (b4.mono u3.out.size)); have h4 := Lib.hid (h3.out.up b4); clear b4
        go_wp2_with fail
        refine (leapsIn_any _ _ _ ts _ h4.out ht).mono ?_
        rintro e w5 ⟨cs, rfl, hj, hone, b5⟩
        have u5 := Lib.hid (u4.out.trans (b5.mono u4.out.size)); clear b5
        have hj' := Lib.hid hj; clear hj hone
        go_wp2_with fail
        rw [show ((dep ts y : Int) - dep ts x) = ((dep ts y - dep ts x : Nat) : Int) by omega]
        refine (raised_any cs ts y (dep ts y - dep ts x) _ hj'.out ht hyl (Nat.sub_le _ _)).mono ?_
        rintro e w6 ⟨rfl, b6⟩
        have u6 := Lib.hid (u5.out.trans (b6.mono u5.out.size)); clear b6
        go_wp2_with fail
        go_ret2
        exact ⟨ret_bools (by rw [hr2.out, hab.out]) hr.out.symm, u6.out⟩
      · have hab := Lib.hid (show abv ts x y = false by unfold abv; rw [decide_eq_false hle]; rfl)
        go_enter Try.func58, Try.ntmps58
        go_wp2_with fail
        refine (isBlock_ok _ _ _ ts _ _ hh.out hn).mono ?_
        rintro e w1 ⟨rfl, b1⟩
        rw [hk]
        have u1 := Lib.hid b1; have h1 := Lib.hid (hh.out.up b1); clear b1
        go_wp2_with fail
        refine (isBlock_ok _ _ _ ts _ _ h1.out hn).mono ?_
        rintro e w2 ⟨rfl, b2⟩
        rw [hk2]
        have u2 := Lib.hid (u1.out.trans (b2.mono u1.out.size)); have h2 := Lib.hid (h1.out.up b2); clear b2
        go_wp2_with fail
        refine (depthIn_any _ _ _ ts y _ h2.out hn ht hyn).mono ?_
        rintro e w3 ⟨rfl, b3⟩
        have u3 := Lib.hid (u2.out.trans (b3.mono u2.out.size)); have h3 := Lib.hid (h2.out.up b3); clear b3
        go_wp2_with fail
        refine (depthIn_any _ _ _ ts x _ h3.out hn ht hxn).mono ?_
        rintro e w4 ⟨rfl, b4⟩
        have u4 := Lib.hid (u3.out.trans (b4.mono u3.out.size)); clear b4
        go_wp2_with fail
        go_ret2
        exact ⟨ret_bools (by rw [hr2.out, hab.out]) hr.out.symm, u4.out⟩
end Go.Proofs.Ythiegfbdmmpabab
