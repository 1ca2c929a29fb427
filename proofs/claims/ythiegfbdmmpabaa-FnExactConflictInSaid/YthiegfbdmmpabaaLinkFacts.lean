/- What is proved here: plain facts on checkpoint links. No conditions. -/
import Derived.Test.YthiegfbdmmpabaaLiarsPlain
import Derived.Test.YthiegfbdmmpabaaAbove
import Derived.Test.YthiegfbdmmpabaaBoth
import Derived.Test.YthiegfbdmmpabaaPoolFacts
namespace Go.Proofs.Ythiegfbdmmpabaa
open Go.RowKit

/-- The first block is above the second one, and is another. -/
def oneR (ts : List Blk) (a b : Int) : Bool := abvR ts a b && (a != b)
def linkOk (ts : List Blk) (ns : Nat) (x : Vt) : Bool := oneR ts x.2.1 x.2.2 && inB x.1 0 ((ns : Int) - 1)
def linksOk (ts : List Blk) (ss : List Int) (ls : List Vt) : Bool := goodT ts && goodB ss && decide (ls.length ≤ 40) && (List.range ls.length).all fun k => linkOk ts ss.length (getV ls k)
theorem linksOk_iff {ts : List Blk} {ss : List Int} {ls : List Vt} : linksOk ts ss ls = true ↔ ((Tree ts ∧ goodB ss = true) ∧ ls.length ≤ 40) ∧ ∀ k, k < ls.length → linkOk ts ss.length (getV ls k) = true := by
  unfold linksOk
  rw [Bool.and_eq_true, Bool.and_eq_true, Bool.and_eq_true, goodT_iff, decide_eq_true_iff, List.all_eq_true]
  exact ⟨fun ⟨h, g⟩ => ⟨h, fun k hk => g k (List.mem_range.2 hk)⟩, fun ⟨h, g⟩ => ⟨h, fun k hk => g k (List.mem_range.1 hk)⟩⟩
theorem abvR_iff {ts : List Blk} {a b : Int} : abvR ts a b = true ↔ Tree ts ∧ ∃ x y : Nat, a = x ∧ b = y ∧ x < ts.length ∧ y < ts.length ∧ abv ts x y = true := by
  unfold abvR abvOk
  rw [Bool.and_eq_true, Bool.and_eq_true]
  constructor
  · rintro ⟨⟨h1, h2⟩, h3⟩
    obtain ⟨ht, x, rfl, hx⟩ := okK_iff.1 h1
    obtain ⟨_, y, rfl, hy⟩ := okK_iff.1 h2
    exact ⟨ht, x, y, rfl, rfl, hx, hy, by simpa using h3⟩
  · rintro ⟨ht, x, y, rfl, rfl, hx, hy, h⟩
    exact ⟨⟨okK_iff.2 ⟨ht, x, rfl, hx⟩, okK_iff.2 ⟨ht, y, rfl, hy⟩⟩, by simpa using h⟩
theorem linkOk_iff {ts : List Blk} {ns : Nat} {x : Vt} : linkOk ts ns x = true ↔ abvR ts x.2.1 x.2.2 = true ∧ x.2.1 ≠ x.2.2 ∧ ∃ i : Nat, x.1 = i ∧ i < ns := by
  unfold linkOk oneR
  simp only [Bool.and_eq_true, inB_iff, bne_iff_ne]
  constructor
  · rintro ⟨⟨h1, h2⟩, h3, h4⟩; exact ⟨h1, h2, x.1.toNat, by omega, by omega⟩
  · rintro ⟨h1, h2, i, h3, h4⟩; exact ⟨⟨h1, h2⟩, by omega, by omega⟩

/-- The link leads from the one block to the other. -/
def whoP (f t : Int) (x : Vt) : Bool := x.2.1 == f && x.2.2 == t
/-- The voters of the first k links that lead so, put together one by one. -/
def whoS (ls : List Vt) (f t : Int) : Nat → List Int
  | 0 => []
  | k + 1 => if whoP f t (getV ls k) = true then putL (whoS ls f t k) (getV ls k).1 else whoS ls f t k
def whoL (ls : List Vt) (f t : Int) : List Int := whoS ls f t ls.length
theorem whoS_len (ls : List Vt) (f t : Int) (k : Nat) : (whoS ls f t k).length ≤ k := by
  induction k with
  | zero => exact Nat.le_refl _
  | succ k ih =>
    simp only [whoS]
    split
    · have := putL_len (whoS ls f t k) (getV ls k).1; omega
    · omega
theorem putL_memL {l : List Int} {x y : Int} : y ∈ putL l x ↔ y = x ∨ y ∈ l := by
  unfold putL
  split
  · next h =>
    constructor
    · exact Or.inr
    · rintro (rfl | h')
      · exact List.mem_of_getElem? h
      · exact h'
  · rw [List.mem_append, List.mem_cons]
    constructor
    · rintro (h | h | h)
      · exact .inr (List.mem_of_mem_take h)
      · exact .inl h
      · exact .inr (List.mem_of_mem_drop h)
    · rintro (h | h)
      · exact .inr (.inl h)
      · have h2 : y ∈ l.take (putK l x) ++ l.drop (putK l x) := by rw [List.take_append_drop]; exact h
        rcases List.mem_append.1 h2 with h2 | h2
        · exact .inl h2
        · exact .inr (.inr h2)
theorem whoS_sorted (ls : List Vt) (f t : Int) : ∀ k, (whoS ls f t k).Pairwise (· < ·)
  | 0 => List.Pairwise.nil
  | k + 1 => by
    simp only [whoS]
    split
    · exact putL_sorted (whoS_sorted ls f t k)
    · exact whoS_sorted ls f t k
theorem whoS_mem {ls : List Vt} {f t x : Int} : ∀ k, x ∈ whoS ls f t k ↔ ∃ j, j < k ∧ whoP f t (getV ls j) = true ∧ (getV ls j).1 = x
  | 0 => by simp [whoS]
  | k + 1 => by
    simp only [whoS]
    by_cases h : whoP f t (getV ls k) = true
    · rw [if_pos h, putL_memL, whoS_mem k]
      constructor
      · rintro (rfl | ⟨j, hj, h1, h2⟩)
        · exact ⟨k, by omega, h, rfl⟩
        · exact ⟨j, by omega, h1, h2⟩
      · rintro ⟨j, hj, h1, h2⟩
        by_cases e : j = k
        · subst e; exact .inl h2.symm
        · exact .inr ⟨j, by omega, h1, h2⟩
    · rw [if_neg h, whoS_mem k]
      constructor
      · rintro ⟨j, hj, h1, h2⟩; exact ⟨j, by omega, h1, h2⟩
      · rintro ⟨j, hj, h1, h2⟩
        by_cases e : j = k
        · subst e; exact absurd h1 h
        · exact ⟨j, by omega, h1, h2⟩
theorem compact_sorted : ∀ n (xs : List Int), xs.length = n → xs.Pairwise (· ≤ ·) → (Lib.compact xs).Pairwise (· < ·) ∧ ∀ x, x ∈ Lib.compact xs ↔ x ∈ xs := by
  intro n
  induction n with
  | zero =>
    intro xs hl _
    have : xs = [] := List.length_eq_zero_iff.1 hl
    subst this
    rw [compact_nil]; exact ⟨List.Pairwise.nil, fun _ => Iff.rfl⟩
  | succ n ih =>
    intro xs hl hp
    obtain ⟨zs, x, rfl⟩ : ∃ zs x, xs = zs ++ [x] := ⟨xs.dropLast, xs.getLast (by intro h; rw [h] at hl; cases hl), (List.dropLast_concat_getLast _).symm⟩
    have hz : zs.length = n := by simpa using hl
    obtain ⟨hp1, _, hp2⟩ := List.pairwise_append.1 hp
    have hle : ∀ y ∈ zs, y ≤ x := fun y hy => hp2 y hy x (List.mem_singleton.2 rfl)
    obtain ⟨h1, h2⟩ := ih zs hz hp1
    by_cases h0 : zs = []
    · subst h0
      rw [List.nil_append, compact_one]
      exact ⟨List.pairwise_singleton _ _, fun _ => Iff.rfl⟩
    · obtain ⟨us, y, rfl⟩ : ∃ us y, zs = us ++ [y] := ⟨zs.dropLast, zs.getLast h0, (List.dropLast_concat_getLast _).symm⟩
      by_cases e : y = x
      · subst e
        rw [compact_same]
        refine ⟨h1, fun z => ?_⟩
        rw [h2]; simp
      · rw [compact_new e]
        have hyx : y < x := by have := hle y (by simp); omega
        have hlt : ∀ z ∈ us ++ [y], z < x := fun z hz => by
          rcases List.mem_append.1 hz with h | h
          · have := (List.pairwise_append.1 hp1).2.2 z h y (List.mem_singleton.2 rfl); omega
          · rw [List.mem_singleton.1 h]; exact hyx
        refine ⟨List.pairwise_append.2 ⟨h1, List.pairwise_singleton _ _, fun z hz w hw => ?_⟩, fun z => ?_⟩
        · rw [List.mem_singleton.1 hw]; exact hlt z ((h2 z).1 hz)
        · rw [List.mem_append, h2]; simp [or_assoc]
theorem sortI_le (l : List Int) : (sortI l).Pairwise (· ≤ ·) := by
  have := List.pairwise_mergeSort (le := fun (x y : Int) => decide (x ≤ y)) (fun a b c hab hbc => by simp at *; omega) (fun a b => by simp; omega) l
  exact this.imp (fun h => by simpa using h)
theorem sortI_mem {l : List Int} {x : Int} : x ∈ sortI l ↔ x ∈ l := (List.mergeSort_perm l _).mem_iff
/-- The program's list of the voters: the voters of the links that lead so, sorted and compacted. -/
theorem whoL_eq (ls : List Vt) (f t : Int) : Lib.compact (sortI ((ls.filter (whoP f t)).map (·.1))) = whoL ls f t := by
  obtain ⟨h1, h2⟩ := compact_sorted _ _ rfl (sortI_le ((ls.filter (whoP f t)).map (·.1)))
  refine sorted_ext _ _ h1 (whoS_sorted ls f t _) fun x => ?_
  unfold whoL
  rw [h2, sortI_mem, whoS_mem, List.mem_map]
  constructor
  · rintro ⟨v, hv, rfl⟩
    rw [List.mem_filter] at hv
    obtain ⟨j, hj, e⟩ := List.mem_iff_getElem.1 hv.1
    have hg : getV ls j = v := by unfold getV; rw [List.getElem?_eq_getElem hj, Option.getD_some, e]
    exact ⟨j, hj, by rw [hg]; exact hv.2, by rw [hg]⟩
  · rintro ⟨j, hj, h3, h4⟩
    refine ⟨getV ls j, List.mem_filter.2 ⟨?_, h3⟩, h4⟩
    unfold getV; rw [List.getElem?_eq_getElem hj, Option.getD_some]; exact List.getElem_mem hj
/-- The voters are voters of the stakes. -/
theorem whoL_in {ts : List Blk} {ss : List Int} {ls : List Vt} (h : linksOk ts ss ls = true) (f t : Int) : ∀ x ∈ whoL ls f t, 0 ≤ x ∧ x ≤ (ss.length : Int) - 1 := fun x hx => by
  obtain ⟨j, hj, _, e⟩ := (whoS_mem _).1 hx
  obtain ⟨_, _, i, e2, hi⟩ := linkOk_iff.1 ((linksOk_iff.1 h).2 j hj)
  omega
theorem whoL_of {ts : List Blk} {ss : List Int} {ls : List Vt} (h : linksOk ts ss ls = true) (f t : Int) : ofB ss (whoL ls f t) = true := by
  unfold ofB
  rw [(linksOk_iff.1 h).1.1.2, Bool.true_and, risB_iff]
  intro k hk
  have hs := whoS_sorted ls f t ls.length
  have hb := whoL_in h f t
  have hm : (whoL ls f t)[k]?.getD 0 ∈ whoL ls f t := by rw [List.getElem?_eq_getElem hk, Option.getD_some]; exact List.getElem_mem hk
  refine risAt_iff.2 ⟨hb _ hm, fun h0 => ?_⟩
  have := List.pairwise_iff_getElem.1 hs (k - 1) k (by show k - 1 < (whoL ls f t).length; omega) hk (by omega)
  rw [List.getElem?_eq_getElem hk, List.getElem?_eq_getElem (show k - 1 < (whoL ls f t).length by omega)]
  exact this
theorem whoL_vot {ts : List Blk} {ss : List Int} {ls : List Vt} (h : linksOk ts ss ls = true) (f t : Int) : Vot ss.length (whoL ls f t) := fun k hk => by
  have hm : (whoL ls f t)[k]?.getD 0 ∈ whoL ls f t := by rw [List.getElem?_eq_getElem hk, Option.getD_some]; exact List.getElem_mem hk
  have := whoL_in h f t _ hm; omega
theorem whoL_len {ls : List Vt} (h : ls.length ≤ 40) (f t : Int) : (whoL ls f t).length ≤ 40 := Nat.le_trans (whoS_len ls f t _) h

/-- The blocks are linked by a quorum. -/
def grB (ss : List Int) (ls : List Vt) (f t : Int) : Bool := greatB ss (whoL ls f t)
theorem grB_of {ts : List Blk} {ss : List Int} {ls : List Vt} (h : linksOk ts ss ls = true) (f t : Int) : gOf ss (whoL ls f t) = grB ss ls f t := by
  unfold gOf grB; rw [whoL_of h]; rfl
def askOK (ts : List Blk) (ss : List Int) (ls : List Vt) (f t : Int) : Bool := linksOk ts ss ls && (okK ts f && okK ts t)
def whoR (ts : List Blk) (ss : List Int) (ls : List Vt) (f t : Int) : List Int := if askOK ts ss ls f t = true then whoL ls f t else []
def isLR (ts : List Blk) (ss : List Int) (ls : List Vt) (f t : Int) : Bool := askOK ts ss ls f t && grB ss ls f t
theorem whoR_len (ts : List Blk) (ss : List Int) (ls : List Vt) (f t : Int) : (whoR ts ss ls f t).length ≤ 100 := by
  unfold whoR
  split
  · next h =>
    unfold askOK at h
    rw [Bool.and_eq_true] at h
    have := whoL_len (linksOk_iff.1 h.1).1.2 f t; omega
  · exact Nat.zero_le _

/-- The justified blocks among 0..k. -/
def justS (ss : List Int) (ls : List Vt) : Nat → List Int
  | 0 => [0]
  | k + 1 => if (justS ss ls k).any (fun f => grB ss ls f ((k + 1 : Nat) : Int)) = true then justS ss ls k ++ [((k + 1 : Nat) : Int)] else justS ss ls k
def justL (ts : List Blk) (ss : List Int) (ls : List Vt) : List Int := justS ss ls (ts.length - 1)
def justR (ts : List Blk) (ss : List Int) (ls : List Vt) : List Int := if linksOk ts ss ls = true then justL ts ss ls else []
theorem justS_len (ss : List Int) (ls : List Vt) : ∀ k, 1 ≤ (justS ss ls k).length ∧ (justS ss ls k).length ≤ k + 1
  | 0 => ⟨Nat.le_refl _, Nat.le_refl _⟩
  | k + 1 => by
    have := justS_len ss ls k
    simp only [justS]
    split
    · simp; omega
    · omega
theorem justS_in {ss : List Int} {ls : List Vt} : ∀ k, ∀ x ∈ justS ss ls k, ∃ i : Nat, x = i ∧ i ≤ k
  | 0, x, hx => ⟨0, by simpa [justS] using hx, Nat.le_refl _⟩
  | k + 1, x, hx => by
    simp only [justS] at hx
    split at hx
    · rcases List.mem_append.1 hx with h | h
      · obtain ⟨i, e, hi⟩ := justS_in k x h; exact ⟨i, e, by omega⟩
      · exact ⟨k + 1, List.mem_singleton.1 h, Nat.le_refl _⟩
    · obtain ⟨i, e, hi⟩ := justS_in k x hx; exact ⟨i, e, by omega⟩
theorem justS_sorted (ss : List Int) (ls : List Vt) : ∀ k, (justS ss ls k).Pairwise (· < ·)
  | 0 => List.pairwise_singleton _ _
  | k + 1 => by
    simp only [justS]
    split
    · refine List.pairwise_append.2 ⟨justS_sorted ss ls k, List.pairwise_singleton _ _, fun x hx y hy => ?_⟩
      obtain ⟨i, e, hi⟩ := justS_in k x hx
      rw [List.mem_singleton.1 hy, e]; omega
    · exact justS_sorted ss ls k
theorem justL_len {ts : List Blk} {ss : List Int} {ls : List Vt} (h : Tree ts) : 1 ≤ (justL ts ss ls).length ∧ (justL ts ss ls).length ≤ 24 := by
  have h1 := justS_len ss ls (ts.length - 1); have h2 := h.few; have h3 := h.pos; unfold justL; omega
theorem justL_in {ts : List Blk} {ss : List Int} {ls : List Vt} (h : Tree ts) : ∀ x ∈ justL ts ss ls, ∃ i : Nat, x = i ∧ i < ts.length := fun x hx => by
  obtain ⟨i, e, hi⟩ := justS_in _ x hx
  have := h.pos
  exact ⟨i, e, by omega⟩
theorem justR_len (ts : List Blk) (ss : List Int) (ls : List Vt) : (justR ts ss ls).length ≤ 100 := by
  unfold justR
  split
  · next h => have := justL_len (ss := ss) (ls := ls) (linksOk_iff.1 h).1.1.1; omega
  · exact Nat.zero_le _

/-- A child of the block is linked from it. -/
def finlP (ts : List Blk) (ss : List Int) (ls : List Vt) (b : Int) : Bool := (List.range ts.length).any fun c => parZ ts c == b && grB ss ls b (c : Int)
def finlL (ts : List Blk) (ss : List Int) (ls : List Vt) : List Int := (justL ts ss ls).filter (finlP ts ss ls)
def finlR (ts : List Blk) (ss : List Int) (ls : List Vt) : List Int := if linksOk ts ss ls = true then finlL ts ss ls else []
theorem finlL_len {ts : List Blk} {ss : List Int} {ls : List Vt} (h : Tree ts) : (finlL ts ss ls).length ≤ 24 := Nat.le_trans (List.length_filter_le _ _) (justL_len h).2
theorem finlR_len (ts : List Blk) (ss : List Int) (ls : List Vt) : (finlR ts ss ls).length ≤ 100 := by
  unfold finlR
  split
  · next h => have := finlL_len (ss := ss) (ls := ls) (linksOk_iff.1 h).1.1.1; omega
  · exact Nat.zero_le _
theorem finlL_sorted (ts : List Blk) (ss : List Int) (ls : List Vt) : (finlL ts ss ls).Pairwise (· < ·) := (justS_sorted ss ls _).filter _
theorem finlL_in {ts : List Blk} {ss : List Int} {ls : List Vt} (h : Tree ts) : ∀ x ∈ finlL ts ss ls, ∃ i : Nat, x = i ∧ i < ts.length := fun x hx => justL_in h x (List.mem_filter.1 hx).1

/-- The deepest of the first k blocks of a list, of several the last. -/
def hiS (ts : List Blk) (l : List Int) : Nat → Int
  | 0 => 0
  | k + 1 => if dep ts (hiS ts l k).toNat ≤ dep ts (l[k]?.getD 0).toNat then l[k]?.getD 0 else hiS ts l k
def highR (ts : List Blk) (ss : List Int) (ls : List Vt) : Int := if linksOk ts ss ls = true then hiS ts (justL ts ss ls) (justL ts ss ls).length else 0

/-- The first of the blocks behind place i that the block at i is not above. -/
def rowC (ts : List Blk) (F : List Int) (i : Nat) : Option Int := (F.drop (i + 1)).find? fun b => !abv ts (F[i]?.getD 0).toNat b.toNat
def confL (ts : List Blk) (F : List Int) : Option (Int × Int) := (List.range F.length).findSome? fun i => (rowC ts F i).map fun b => (F[i]?.getD 0, b)
def confF (ts : List Blk) (ss : List Int) (ls : List Vt) : Option (Int × Int) := if linksOk ts ss ls = true then confL ts (finlL ts ss ls) else none
def confA (ts : List Blk) (ss : List Int) (ls : List Vt) : Int := ((confF ts ss ls).getD (0, 0)).1
def confB (ts : List Blk) (ss : List Int) (ls : List Vt) : Int := ((confF ts ss ls).getD (0, 0)).2
def confOK (ts : List Blk) (ss : List Int) (ls : List Vt) : Bool := (confF ts ss ls).isSome
end Go.Proofs.Ythiegfbdmmpabaa
