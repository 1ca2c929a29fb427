/- What is proved here: plain facts on trees of blocks, given as a list of pairs (parent, slot). No conditions. -/
import Derived.Test.YthiegfbdmmpababBlocks
import Derived.WalkLawsBesides
namespace Go.Proofs.Ythiegfbdmmpabab
open Go.RowKit

def parZ (ts : List Blk) (k : Nat) : Int := (ts[k]?.getD (0, 0)).1
def sloZ (ts : List Blk) (k : Nat) : Int := (ts[k]?.getD (0, 0)).2
def parN (ts : List Blk) (k : Nat) : Nat := (parZ ts k).toNat

/-- What the document asks of block k. -/
def okB (ts : List Blk) (k : Nat) : Bool :=
  if k = 0 then parZ ts 0 == -1 && sloZ ts 0 == 0
  else inB (parZ ts k) 0 (k - 1) && decide (sloZ ts (parN ts k) < sloZ ts k) && decide (sloZ ts k ≤ 4000)
def okTo (ts : List Blk) (k : Nat) : Prop := ∀ j, j < k → okB ts j = true
/-- GoodTree, as the document says it. -/
def goodT (ts : List Blk) : Bool := inB ts.length 1 24 && (List.range ts.length).all (okB ts)

theorem okTo_zero (ts : List Blk) : okTo ts 0 := fun _ h => absurd h (Nat.not_lt_zero _)
theorem okTo_step {ts : List Blk} {k : Nat} (h : okTo ts k) (hk : okB ts k = true) : okTo ts (k + 1) := fun j hj => by
  by_cases e : j = k
  · subst e; exact hk
  · exact h j (by omega)
theorem goodT_no {ts : List Blk} {k : Nat} (hk : k < ts.length) (h : okB ts k = false) : goodT ts = false := by
  unfold goodT
  have : (List.range ts.length).all (okB ts) = false := List.all_eq_false.2 ⟨k, List.mem_range.2 hk, by rw [h]; simp⟩
  rw [this]; simp
theorem goodT_len {ts : List Blk} (h : inB ts.length 1 24 = false) : goodT ts = false := by unfold goodT; rw [h]; rfl
theorem goodT_yes {ts : List Blk} (h : okTo ts ts.length) : goodT ts = inB ts.length 1 24 := by
  unfold goodT
  have : (List.range ts.length).all (okB ts) = true := List.all_eq_true.2 fun k hk => h k (List.mem_range.1 hk)
  rw [this]; simp
theorem ok_root {ts : List Blk} (h : okB ts 0 = true) : parZ ts 0 = -1 ∧ sloZ ts 0 = 0 := by
  simpa [okB] using h
theorem ok_iff {ts : List Blk} {k : Nat} (hk : 0 < k) : okB ts k = true ↔ (0 ≤ parZ ts k ∧ parZ ts k ≤ k - 1) ∧ sloZ ts (parN ts k) < sloZ ts k ∧ sloZ ts k ≤ 4000 := by
  unfold okB
  rw [if_neg (by omega), Bool.and_eq_true, Bool.and_eq_true, inB_iff, decide_eq_true_iff, decide_eq_true_iff, and_assoc]
theorem slo_nonneg {ts : List Blk} {k : Nat} (h : okTo ts k) : ∀ j, j < k → 0 ≤ sloZ ts j := by
  intro j
  induction j using Nat.strongRecOn with
  | ind j ih =>
    intro hj
    by_cases h0 : j = 0
    · subst h0; rw [(ok_root (h 0 hj)).2]; exact Int.le_refl _
    · obtain ⟨⟨a, b⟩, c, _⟩ := (ok_iff (by omega)).1 (h j hj)
      have hp : parN ts j < j := by unfold parN; omega
      have := ih _ hp (by omega)
      omega
/-- What the model asks, block by block, is the same. -/
theorem ok_model {ts : List Blk} {k q : Nat} (hk : 0 < k) (h : okTo ts k) (hq : parZ ts k = q) (hqk : q < k) : okB ts k = (inB (sloZ ts k) 1 4000 && decide (sloZ ts q < sloZ ts k)) := by
  have e : parN ts k = q := by unfold parN; omega
  have h0 := slo_nonneg h q hqk
  cases hb : okB ts k
  · cases hc : (inB (sloZ ts k) 1 4000 && decide (sloZ ts q < sloZ ts k))
    · rfl
    · rw [Bool.and_eq_true, inB_iff, decide_eq_true_iff] at hc
      have : okB ts k = true := (ok_iff hk).2 ⟨⟨by omega, by omega⟩, by rw [e]; exact hc.2, hc.1.2⟩
      rw [this] at hb; exact hb.symm
  · obtain ⟨_, c, d⟩ := (ok_iff hk).1 hb
    rw [e] at c
    rw [inB_true (by omega) d, decide_eq_true c]; rfl

/-- A tree that is valid. -/
structure Tree (ts : List Blk) : Prop where
  pos : 0 < ts.length
  few : ts.length ≤ 24
  ok : okTo ts ts.length
theorem goodT_iff {ts : List Blk} : goodT ts = true ↔ Tree ts := by
  constructor
  · intro h
    unfold goodT at h
    rw [Bool.and_eq_true, inB_iff, List.all_eq_true] at h
    exact ⟨by omega, by omega, fun j hj => h.2 j (List.mem_range.2 hj)⟩
  · intro h
    rw [goodT_yes h.ok, inB_true (by have := h.pos; omega) (by have := h.few; omega)]

section
variable {ts : List Blk} {k : Nat}
theorem Tree.root (h : Tree ts) : parZ ts 0 = -1 := (ok_root (h.ok 0 h.pos)).1
theorem Tree.root_slot (h : Tree ts) : sloZ ts 0 = 0 := (ok_root (h.ok 0 h.pos)).2
theorem Tree.up (h : Tree ts) (hk : k < ts.length) (h0 : k ≠ 0) : parZ ts k = parN ts k ∧ parN ts k < k := by
  obtain ⟨⟨a, b⟩, _, _⟩ := (ok_iff (by omega)).1 (h.ok k hk)
  unfold parN; omega
theorem Tree.slots (h : Tree ts) (hk : k < ts.length) (h0 : k ≠ 0) : sloZ ts (parN ts k) < sloZ ts k := ((ok_iff (by omega)).1 (h.ok k hk)).2.1
end

/-- The path from the genesis block to block k, over at most f steps. -/
def wayF (ts : List Blk) : Nat → Nat → List Nat
  | 0, k => [k]
  | f + 1, k => if k = 0 then [0] else wayF ts f (parN ts k) ++ [k]
def way (ts : List Blk) (k : Nat) : List Nat := wayF ts k k
def dep (ts : List Blk) (k : Nat) : Nat := (way ts k).length - 1
/-- The block that lies j steps above k. -/
def anc (ts : List Blk) (k : Nat) : Nat → Nat
  | 0 => k
  | j + 1 => parN ts (anc ts k j)

theorem wayF_enough {ts : List Blk} (h : Tree ts) : ∀ f g k, k < ts.length → k ≤ f → k ≤ g → wayF ts f k = wayF ts g k := by
  intro f
  induction f with
  | zero =>
    intro g k _ hf _
    have : k = 0 := by omega
    subst this
    cases g <;> simp [wayF]
  | succ f ih =>
    intro g k hk hf hg
    by_cases h0 : k = 0
    · subst h0; cases g <;> simp [wayF]
    · obtain ⟨_, hp⟩ := h.up hk h0
      obtain ⟨g, rfl⟩ : ∃ g', g = g' + 1 := ⟨g - 1, by omega⟩
      simp only [wayF, if_neg h0]
      rw [ih g (parN ts k) (by omega) (by omega) (by omega)]
theorem way_root (ts : List Blk) : way ts 0 = [0] := rfl
theorem way_step {ts : List Blk} (h : Tree ts) {k : Nat} (hk : k < ts.length) (h0 : k ≠ 0) : way ts k = way ts (parN ts k) ++ [k] := by
  obtain ⟨_, hp⟩ := h.up hk h0
  obtain ⟨m, rfl⟩ : ∃ m, k = m + 1 := ⟨k - 1, by omega⟩
  show wayF ts (m + 1) (m + 1) = _
  simp only [wayF, if_neg h0]
  rw [wayF_enough h m (parN ts (m + 1)) (parN ts (m + 1)) (by omega) (by omega) (Nat.le_refl _)]
  rfl
theorem dep_root (ts : List Blk) : dep ts 0 = 0 := rfl
theorem way_len {ts : List Blk} (h : Tree ts) : ∀ {k : Nat}, k < ts.length → (way ts k).length = dep ts k + 1 := by
  intro k hk
  by_cases h0 : k = 0
  · subst h0; rfl
  · unfold dep; rw [way_step h hk h0]; simp
theorem dep_step {ts : List Blk} (h : Tree ts) {k : Nat} (hk : k < ts.length) (h0 : k ≠ 0) : dep ts k = dep ts (parN ts k) + 1 := by
  have hp := (h.up hk h0).2
  have := way_len h (k := parN ts k) (by omega)
  unfold dep at this ⊢
  rw [way_step h hk h0]; simp; omega
theorem dep_le {ts : List Blk} (h : Tree ts) {k : Nat} (hk : k < ts.length) : dep ts k ≤ k := by
  induction k using Nat.strongRecOn with
  | ind k ih =>
    by_cases h0 : k = 0
    · subst h0; exact Nat.le_refl _
    · have hp := (h.up hk h0).2
      have := ih _ hp (by omega)
      rw [dep_step h hk h0]; omega
theorem anc_lt {ts : List Blk} (h : Tree ts) {k : Nat} (hk : k < ts.length) (j : Nat) : anc ts k j < ts.length := by
  induction j with
  | zero => exact hk
  | succ j ih =>
    show parN ts (anc ts k j) < _
    by_cases h0 : anc ts k j = 0
    · rw [h0]; unfold parN; rw [h.root]; exact h.pos
    · have := (h.up ih h0).2; omega
theorem dep_anc {ts : List Blk} (h : Tree ts) {k : Nat} (hk : k < ts.length) (j : Nat) (hj : j ≤ dep ts k) : dep ts (anc ts k j) + j = dep ts k := by
  induction j with
  | zero => rfl
  | succ j ih =>
    have := ih (by omega)
    have h0 : anc ts k j ≠ 0 := fun e => by rw [e, dep_root] at this; omega
    have e := dep_step h (anc_lt h hk j) h0
    show dep ts (parN ts (anc ts k j)) + (j + 1) = _
    omega
theorem anc_add (ts : List Blk) (k i j : Nat) : anc ts k (i + j) = anc ts (anc ts k i) j := by
  induction j with
  | zero => rfl
  | succ j ih => show parN ts (anc ts k (i + j)) = _; rw [ih]; rfl
theorem dep_zero {ts : List Blk} (h : Tree ts) {k : Nat} (hk : k < ts.length) (hd : dep ts k = 0) : k = 0 := by
  by_cases h0 : k = 0
  · exact h0
  · rw [dep_step h hk h0] at hd; omega
/-- The path read from its end: single steps upwards. -/
theorem way_get {ts : List Blk} (h : Tree ts) {k : Nat} (hk : k < ts.length) (j : Nat) (hj : j ≤ dep ts k) : (way ts k)[dep ts k - j]? = some (anc ts k j) := by
  induction j generalizing k with
  | zero =>
    by_cases h0 : k = 0
    · subst h0; rfl
    · have hl := way_len h (k := parN ts k) (by have := (h.up hk h0).2; omega)
      rw [way_step h hk h0, dep_step h hk h0, List.getElem?_append_right (by omega)]
      simp [hl, anc]
  | succ j ih =>
    have h0 : k ≠ 0 := fun e => by rw [e, dep_root] at hj; omega
    have hp := (h.up hk h0).2
    have hd := dep_step h hk h0
    have hl := way_len h (k := parN ts k) (by omega)
    rw [way_step h hk h0, List.getElem?_append_left (by omega)]
    have := ih (k := parN ts k) (by omega) (by omega)
    rw [show dep ts k - (j + 1) = dep ts (parN ts k) - j by omega, this]
    congr 1
    rw [Nat.add_comm, anc_add]; rfl
end Go.Proofs.Ythiegfbdmmpabab

/- What is proved here: GoodTree of the program and of the model return what the document says, at every slice of blocks. No conditions. -/
namespace Go.Proofs.Ythiegfbdmmpabab
open Go.RowKit

def UpPost (w : World) (v : Value) (e : Ending) (w' : World) : Prop := e = .returned v ∧ Below w.heap.size w w'

theorem quiet_l1In {w : World} {n : Nat} (x lo hi : Int) : Calls Try.prog 96 #[.int .i64 x, .int .i64 lo, .int .i64 hi] (w.drewN n) fun e w'' => e = .returned (.bool (inB x lo hi)) ∧ ∃ m, w'' = w.drewN m :=
  (l1In_any x lo hi _).mono fun _ _ ⟨he, hm⟩ => ⟨he, n, hm.symm⟩

set_option maxHeartbeats 400000 in
theorem implGoodT_any (A : Option Addr) (n c : Nat) (ts : List Blk) (w : World) (h : BlksAt w w.heap.size A n ts) (hn : n ≤ 1048576) :
    Calls Try.prog 60 #[.slice A n c] w (UpPost w (.bool (goodT ts))) := by
  have hl' := Lib.hid h.1
  by_cases h1 : n < 1
  · have hg := Lib.hid (goodT_len (ts := ts) (inB_low (by rw [hl'.out]; omega)))
    clear h
    go_enter Try.func60, Try.ntmps60
    go_wp2_with fail
    go_ret
    exact ⟨ret_bool hg.out.symm, Below.refl _ _⟩
  · by_cases h2 : 24 < n
    · have hg := Lib.hid (goodT_len (ts := ts) (inB_high (by rw [hl'.out]; omega)))
      clear h
      go_enter Try.func60, Try.ntmps60
      go_wp2_with fail
      go_ret
      exact ⟨ret_bool hg.out.symm, Below.refl _ _⟩
    · obtain ⟨b, off, rfl, hb, hcs⟩ := h.at (by omega)
      have c0 := (hcs 0 (by omega)).1
      have c1 := (hcs 0 (by omega)).2
      rw [Nat.zero_mul, Nat.add_zero] at c0 c1
      have hcs' := Lib.hid hcs; clear hcs h
      by_cases hp : (ts[0]?.getD (0, 0)).1 = -1
      · by_cases hs : (ts[0]?.getD (0, 0)).2 = 0
        · rw [hp] at c0
          rw [hs] at c1
          have hx := Lib.hid (show okTo ts 1 from okTo_step (okTo_zero ts) (by unfold okB parZ sloZ; rw [hp, hs]; rfl))
          clear hp hs
          go_enter Try.func60, Try.ntmps60
          go_wp2_with fail
          clear c0 c1
          go_loopw [3] (fun i wr => ∃ k : Nat, 1 ≤ k ∧ k ≤ n ∧ i = .int .i64 k ∧ Hid (okTo ts k) ∧ ∃ m, wr = w.drewN m) (fun i _ => n - (intOf i).toNat)
          case atStart => exact ⟨1, Nat.le_refl _, by omega, rfl, hx, 0, rfl⟩
          case round =>
            obtain ⟨k, hk1, hk, rfl, hall, m, rfl⟩ := hrel
            by_cases hlt : k < n
            · obtain ⟨d0, d1⟩ := hcs'.out k hlt
              have hfin := Lib.hid (fun hx => (goodT_no (ts := ts) (k := k) (by rw [hl'.out]; omega) hx).symm)
              by_cases g1 : 0 ≤ (ts[k]?.getD (0, 0)).1
              · by_cases g2 : (ts[k]?.getD (0, 0)).1 < k
                · obtain ⟨q, hq⟩ := Int.eq_ofNat_of_zero_le g1
                  have hqk : q < k := by omega
                  obtain ⟨_, e1⟩ := hcs'.out q (by omega)
                  have hq' := Lib.hid (show parZ ts k = q from hq)
                  rw [hq] at d0
                  clear hq g1 g2
                  by_cases g3 : (ts[k]?.getD (0, 0)).2 ≤ (ts[q]?.getD (0, 0)).2
                  · go_wp2_with fail
                    go_quiet (fail)
                    go_wp2_with fail
                    go_ret
                    refine ⟨ret_bool (hfin.out ?_), below_drewN (Below.refl _ _) _⟩
                    rw [ok_model (by omega) hall.out hq'.out hqk, decide_eq_false (show ¬ sloZ ts q < sloZ ts k by unfold sloZ; omega)]; simp
                  · by_cases g4 : 4000 < (ts[k]?.getD (0, 0)).2
                    · go_wp2_with fail
                      go_quiet (fail)
                      go_wp2_with fail
                      go_ret
                      refine ⟨ret_bool (hfin.out ?_), below_drewN (Below.refl _ _) _⟩
                      rw [ok_model (by omega) hall.out hq'.out hqk, inB_high (show 4000 < sloZ ts k by unfold sloZ; omega)]; simp
                    · go_wp2_with fail
                      go_quiet (fail)
                      go_wp2_with fail
                      go_roundw
                      case rel =>
                        refine ⟨k + 1, by omega, by omega, by go_num, Lib.hid (okTo_step hall.out ((ok_iff (by omega)).2 ?_)), _, rfl⟩
                        have e2 : parN ts k = q := by unfold parN; rw [hq'.out]; rfl
                        rw [e2, hq'.out]
                        refine ⟨⟨by omega, by omega⟩, ?_, ?_⟩ <;> unfold sloZ <;> omega
                      case measure => simp [intOf]; omega
                · go_wp2_with fail
                  go_quiet (fail)
                  go_wp2_with fail
                  go_ret
                  refine ⟨ret_bool (hfin.out ?_), below_drewN (Below.refl _ _) _⟩
                  unfold okB; rw [if_neg (by omega), inB_high (show (k : Int) - 1 < parZ ts k by unfold parZ; omega)]; rfl
              · go_wp2_with fail
                go_quiet (fail)
                go_wp2_with fail
                go_ret
                refine ⟨ret_bool (hfin.out ?_), below_drewN (Below.refl _ _) _⟩
                unfold okB; rw [if_neg (by omega), inB_low (show parZ ts k < 0 by unfold parZ; omega)]; rfl
            · go_wp2_with fail
              go_ret
              have hkn : ts.length = k := by rw [hl'.out]; omega
              refine ⟨ret_bool ?_, below_drewN (Below.refl _ _) _⟩
              rw [goodT_yes (by rw [hkn]; exact hall.out), inB_true (by omega) (by omega)]
        · have hg := Lib.hid (goodT_no (ts := ts) (k := 0) (by rw [hl'.out]; omega) (by unfold okB sloZ; simp [hs]))
          rw [hp] at c0
          clear hp
          go_enter Try.func60, Try.ntmps60
          go_wp2_with fail
          go_ret
          exact ⟨ret_bool hg.out.symm, Below.refl _ _⟩
      · have hg := Lib.hid (goodT_no (ts := ts) (k := 0) (by rw [hl'.out]; omega) (by unfold okB parZ; simp [hp]))
        go_enter Try.func60, Try.ntmps60
        go_wp2_with fail
        go_ret
        exact ⟨ret_bool hg.out.symm, Below.refl _ _⟩
end Go.Proofs.Ythiegfbdmmpabab

/- What is proved here: GoodTree of the model returns what the document says, at every slice of blocks. No conditions. -/
namespace Go.Proofs.Ythiegfbdmmpabab
open Go.RowKit

set_option maxHeartbeats 400000 in
theorem specGoodT_any (A : Option Addr) (n c : Nat) (ts : List Blk) (w : World) (h : BlksAt w w.heap.size A n ts) (hn : n ≤ 1048576) :
    Calls Try.prog 61 #[.slice A n c] w (UpPost w (.bool (goodT ts))) := by
  have hl' := Lib.hid h.1
  have hr := Lib.hid h; clear h
  go_enter Try.func61, Try.ntmps61
  go_wp2_with fail
  go_loopw [7] (fun i wr => ∃ k : Nat, k ≤ n ∧ i = .int .i64 k ∧ Hid (okTo ts k) ∧ Below w.heap.size w wr) (fun i _ => n - (intOf i).toNat)
  case atStart => exact ⟨0, Nat.zero_le _, rfl, Lib.hid (okTo_zero ts), Below.refl _ _⟩
  case round =>
    obtain ⟨k, hk, rfl, hall, hbel⟩ := hrel
    by_cases hlt : k < n
    · obtain ⟨b, off, rfl, hb, hcs⟩ := hr.out.at (by omega)
      have hsz := hbel.size
      have d0 := (hbel.cell (p := ⟨b, off + k * 2, none⟩) hb).trans (hcs k hlt).1
      have d1 := (hbel.cell (p := ⟨b, off + k * 2 + 1, none⟩) hb).trans (hcs k hlt).2
      have hcs' := Lib.hid (fun (q : Nat) (hq : q < n) (o : Obj) => ((hbel.alloc hbel.size o).cell (p := ⟨b, off + q * 2 + 1, none⟩) hb).trans (hcs q hq).2)
      have hB := Lib.hid (fun (o : Obj) => hbel.alloc hbel.size o)
      clear hbel hcs
      have hfin := Lib.hid (fun hx => (goodT_no (ts := ts) (k := k) (by rw [hl'.out]; omega) hx).symm)
      by_cases h0 : k = 0
      · subst h0
        rw [Nat.zero_mul, Nat.add_zero] at d0 d1
        cases g1 : ((ts[0]?.getD (0, 0)).1 != -1)
        · cases g2 : ((ts[0]?.getD (0, 0)).2 != 0)
          · have hok := Lib.hid (show okB ts 0 = true by unfold okB parZ sloZ; simp at g1 g2; simp [g1, g2])
            go_wp2_with fail
            go_roundw
            case rel => exact ⟨1, by omega, by go_num, Lib.hid (okTo_step hall.out hok.out), hB.out _⟩
            case measure => simp [intOf]; omega
          · have hok := Lib.hid (show okB ts 0 = false by unfold okB parZ sloZ; simp at g1 g2; simp [g2])
            go_wp2_with fail
            go_ret
            exact ⟨ret_bool (hfin.out hok.out), hB.out _⟩
        · have hok := Lib.hid (show okB ts 0 = false by unfold okB parZ sloZ; simp at g1; simp [g1])
          go_wp2_with fail
          go_ret
          exact ⟨ret_bool (hfin.out hok.out), hB.out _⟩
      · have hkz : ((k : Int) == 0) = false := by simp; omega
        have hk1 : 1 ≤ k := by omega
        clear h0
        cases g1 : inB (ts[k]?.getD (0, 0)).1 0 ((k : Int) - 1)
        · have hok := Lib.hid (show okB ts k = false by unfold okB; rw [if_neg (by omega), show inB (parZ ts k) 0 ((k : Int) - 1) = false from g1]; rfl)
          go_wp2_with fail
          go_quiet ((go_at_call 96; exact quiet_l1In _ _ _))
          go_wp2_with fail
          go_ret
          exact ⟨ret_bool (hfin.out hok.out), below_drewN (hB.out _) _⟩
        · have hg := inB_iff.1 g1
          obtain ⟨q, hq⟩ := Int.eq_ofNat_of_zero_le hg.1
          have hqk : q < k := by omega
          have e1 := hcs'.out q (by omega)
          have hq' := Lib.hid (show parZ ts k = q from hq)
          rw [hq] at d0 g1
          clear hq hg
          have hmod := Lib.hid (ok_model (by omega) hall.out hq'.out hqk)
          cases g2 : inB (ts[k]?.getD (0, 0)).2 1 4000
          · have hok := Lib.hid (show okB ts k = false by rw [hmod.out, show inB (sloZ ts k) 1 4000 = false from g2]; rfl)
            go_wp2_with fail
            go_quiet ((go_at_call 96; exact quiet_l1In _ _ _))
            go_wp2_with fail
            go_ret
            exact ⟨ret_bool (hfin.out hok.out), below_drewN (hB.out _) _⟩
          · by_cases g3 : (ts[k]?.getD (0, 0)).2 ≤ (ts[q]?.getD (0, 0)).2
            · have hok := Lib.hid (show okB ts k = false by rw [hmod.out, decide_eq_false (show ¬ sloZ ts q < sloZ ts k by unfold sloZ; omega)]; simp)
              go_wp2_with fail
              go_quiet ((go_at_call 96; exact quiet_l1In _ _ _))
              go_wp2_with fail
              go_ret
              exact ⟨ret_bool (hfin.out hok.out), below_drewN (hB.out _) _⟩
            · have hok := Lib.hid (show okB ts k = true by rw [hmod.out, show inB (sloZ ts k) 1 4000 = true from g2, decide_eq_true (show sloZ ts q < sloZ ts k by unfold sloZ; omega)]; rfl)
              go_wp2_with fail
              go_quiet ((go_at_call 96; exact quiet_l1In _ _ _))
              go_wp2_with fail
              go_roundw
              case rel => exact ⟨k + 1, by omega, by go_num, Lib.hid (okTo_step hall.out hok.out), below_drewN (hB.out _) _⟩
              case measure => simp [intOf]; omega
    · have hkn := Lib.hid (show ts.length = k by rw [hl'.out]; omega)
      have hbel' := Lib.hid hbel; clear hbel
      go_wp2_with (go_at_call 96; refine (l1In_any _ _ _ _).mono ?_; rintro e w' ⟨rfl, rfl⟩)
      go_ret
      refine ⟨ret_bool ?_, hbel'.out⟩
      rw [goodT_yes (by rw [hkn.out]; exact hall.out), hl'.out]
end Go.Proofs.Ythiegfbdmmpabab
