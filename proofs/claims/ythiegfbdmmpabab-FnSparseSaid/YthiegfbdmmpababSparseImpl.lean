/- What is proved here: plain facts on the rows of a sparse table, and memory that holds rows which a call appends one by one. No conditions. -/
import Derived.Test.YthiegfbdmmpababRowsMarks
import Derived.Test.YthiegfbdmmpababSpecTour
import Derived.Deep.AppendLies
import Derived.Deep.RegionLaw
namespace Go.Proofs.Ythiegfbdmmpabab
open Go.RowKit

def minI (a b : Int) : Int := if a < b then a else b
/-- Row k of the sparse table of l: the minima of 2^k numbers. -/
def spRow (l : List Int) : Nat → List Int
  | 0 => l
  | k + 1 => (List.range (l.length + 1 - 2 ^ (k + 1))).map fun i => minI ((spRow l k)[i]?.getD 0) ((spRow l k)[i + 2 ^ k]?.getD 0)
theorem spRow_len (l : List Int) : ∀ k, (spRow l k).length = l.length + 1 - 2 ^ k
  | 0 => by simp [spRow]
  | k + 1 => by simp [spRow]
/-- The first j numbers of row k + 1. -/
def spPart (l : List Int) (k j : Nat) : List Int := (List.range j).map fun i => minI ((spRow l k)[i]?.getD 0) ((spRow l k)[i + 2 ^ k]?.getD 0)
theorem spPart_zero (l : List Int) (k : Nat) : spPart l k 0 = [] := rfl
theorem spPart_step (l : List Int) (k j : Nat) : spPart l k (j + 1) = spPart l k j ++ [minI ((spRow l k)[j]?.getD 0) ((spRow l k)[j + 2 ^ k]?.getD 0)] := by
  unfold spPart; rw [List.range_succ, List.map_append]; rfl
theorem spPart_len (l : List Int) (k j : Nat) : (spPart l k j).length = j := by simp [spPart]
theorem spPart_all (l : List Int) (k : Nat) : spPart l k (l.length + 1 - 2 ^ (k + 1)) = spRow l (k + 1) := rfl
/-- How many rows it has. -/
def spN (n : Nat) : Nat := n.log2 + 1
theorem spN_in {n k : Nat} (hn : 0 < n) : k < spN n ↔ 2 ^ k ≤ n := by
  unfold spN
  rw [Nat.lt_succ_iff]
  exact Nat.le_log2 (by omega)
theorem spN_le {n : Nat} (hn : 0 < n) (h : n ≤ 60) : spN n ≤ 6 := by
  rcases Nat.lt_or_ge (spN n) 7 with h1 | h1
  · omega
  · have := (spN_in (k := 6) hn).1 (by omega)
    have e : (2 : Nat) ^ 6 = 64 := rfl
    omega
def spT (l : List Int) : List (List Int) := (List.range (spN l.length)).map (spRow l)
theorem spT_len (l : List Int) : (spT l).length = spN l.length := by simp [spT]
theorem spT_row {l : List Int} {k : Nat} (hk : k < spN l.length) : rowG (spT l) k = spRow l k := by
  unfold rowG spT; simp [hk]
def goodN (l : List Int) : Bool := inB l.length 1 60 && allB l 0 100000
def spR (l : List Int) : List (List Int) := if goodN l then spT l else []
theorem spR_short (l : List Int) : short (spR l) := by
  intro i
  unfold spR
  cases hg : goodN l
  · simp [rowG]
  · have hl : l.length ≤ 60 := by
      unfold goodN at hg; rw [Bool.and_eq_true, inB_iff] at hg; omega
    simp only [if_true]
    by_cases h : i < spN l.length
    · rw [spT_row h, spRow_len]; exact Nat.le_trans (Nat.sub_le _ _) (by omega)
    · unfold rowG spT
      rw [List.getElem?_eq_none (by simp; omega)]; simp
theorem spR_len (l : List Int) : (spR l).length ≤ 100 := by
  unfold spR
  cases hg : goodN l
  · simp
  · unfold goodN at hg; rw [Bool.and_eq_true, inB_iff] at hg
    simp only [if_true]
    rw [spT_len]
    have := spN_le (n := l.length) (by omega) (by omega)
    omega

/-- b rows r 0, r 1, .. that a call has made, in a slice v of its own. -/
structure RowsSt (B : Nat) (w : World) (v : Value) (b : Nat) (r : Nat → List Int) : Prop where
  own : ∃ (vals : List Value) (ad : Nat → Option Addr) (ca : Nat → Nat), w.ownsRow B 24 1 v b vals ∧
    (∀ i, i < b → vals[i]? = some (.slice (ad i) (r i).length (ca i)) ∧ OwnAt w B (ad i) (r i).length (r i) ∧ ∀ x, ad i = some x → v.ownBlock ≠ some x.block) ∧
    ∀ i j, i < b → j < b → i ≠ j → ∀ x y, ad i = some x → ad j = some y → x.block ≠ y.block
theorem owns_below' {w w' : World} {base : Nat} {e : TypeId} {size : Nat} {v : Value} {n : Nat} {xs : List Value} (h : w.ownsRow base e size v n xs) (hb : Below w.heap.size w w') : w'.ownsRow base e size v n xs :=
  h.kept (row := none) ⟨hb.os, hb.tape, hb.output, hb.size, fun k hk _ => hb.block k hk⟩ (by cases hv : v.ownBlock <;> simp)
theorem RowsSt.below {B b : Nat} {w w' : World} {v : Value} {r : Nat → List Int} (h : RowsSt B w v b r) (hb : Below w.heap.size w w') : RowsSt B w' v b r := by
  obtain ⟨vals, ad, ca, h1, h2, h3⟩ := h.own
  exact ⟨vals, ad, ca, owns_below' h1 hb, fun i hi => ⟨(h2 i hi).1, (h2 i hi).2.1.below hb, (h2 i hi).2.2⟩, h3⟩
theorem RowsSt.rows {B b : Nat} {w : World} {v : Value} {r : Nat → List Int} (h : RowsSt B w v b r) : ∃ A c, v = .slice A b c ∧ RowsOwn w B A b r := by
  obtain ⟨vals, ad, ca, ⟨hl, hh⟩, hv, hap⟩ := h.own
  rcases hh with ⟨rfl, h0⟩ | ⟨g, cap, cur, rfl, hB, hblk, hn, hm, hc, ht⟩
  · exact ⟨none, 0, by rw [h0], ⟨fun hi => absurd hi (by omega)⟩⟩
  · refine ⟨_, cap, rfl, ⟨fun _ => ⟨g, cap, fun i => cur[i]?.getD undef, rfl, hB, hn, ⟨cur, hblk, by omega, fun i hi => ?_⟩, ad, ca, fun i hi => ?_, hap⟩⟩⟩
    · show cur[i]? = some (cur[i]?.getD undef)
      rw [Array.getElem?_eq_getElem (show i < cur.size by omega), Option.getD_some]
    · obtain ⟨e, ho, hne⟩ := hv i hi
      refine ⟨?_, ho, fun x hx e' => hne x hx (by rw [e']; rfl)⟩
      have e1 : (cur.toList.take (b * 1))[i]? = vals[i]? := by rw [ht]
      rw [List.getElem?_take_of_lt (by omega), Array.getElem?_toList] at e1
      show cur[i]?.getD undef = _
      rw [e1, e]; rfl
/-- One row more. -/
theorem RowsSt.next {B : Nat} {w1 w w' : World} {v : Value} {b g cap L c H : Nat} {A : Option Addr} {r : Nat → List Int} {vals : List Value} {ad : Nat → Option Addr} {ca : Nat → Nat} (hB : B ≤ w1.heap.size)
    (hv : ∀ i, i < b → vals[i]? = some (.slice (ad i) (r i).length (ca i)) ∧ OwnAt w1 B (ad i) (r i).length (r i) ∧ ∀ x, ad i = some x → v.ownBlock ≠ some x.block)
    (hap : ∀ i j, i < b → j < b → i ≠ j → ∀ x y, ad i = some x → ad j = some y → x.block ≠ y.block)
    (hvl : vals.length = b) (hL : L = (r b).length)
    (h1 : Below w1.heap.size w1 w) (hrow : OwnAt w w1.heap.size A L (r b)) (hvb : ∀ k, v.ownBlock = some k → B ≤ k ∧ k < w1.heap.size)
    (hown : w'.ownsRow B 24 1 (.slice (some ⟨g, 0, none⟩) (b + 1) cap) (b + 1) (vals ++ [.slice A L c]))
    (hgrow : (w.alloc (.cells #[.slice A L c] 24)).grownBy w' v.ownBlock) (hat : v.ownBlock = some g ∨ g = H) (hH : (w.alloc (.cells #[.slice A L c] 24)).heap.size = H) :
    RowsSt B w' (.slice (some ⟨g, 0, none⟩) (b + 1) cap) (b + 1) r ∧ Below B w w' := by
  have hsz1 := h1.size
  have hsH : w.heap.size + 1 = H := by rw [← hH]; simp
  have hb2 : Below B w w' := (((Below.refl B w).alloc (by omega) _)).grown hgrow (by simp; omega) (fun k hk => (hvb k hk).1)
  have keep : ∀ k, k < w.heap.size → v.ownBlock ≠ some k → w'.heap[k]? = w.heap[k]? := fun k hk hne => (hgrow.block k (by simp; omega) (fun e => hne e.symm)).trans (Below.heap_alloc _ _ _ hk)
  have hsz' : w.heap.size ≤ w'.heap.size := by have := hgrow.size; simp at this; omega
  subst hL
  refine ⟨⟨vals ++ [.slice A _ c], fun i => if i = b then A else ad i, fun i => if i = b then c else ca i, hown, fun i hi => ?_, fun i j hi hj hij x y hx hy => ?_⟩, hb2⟩
  · by_cases e : i = b
    · subst e
      refine ⟨?_, ?_, fun x hx => ?_⟩
      · rw [List.getElem?_append_right (by omega)]; simp [hvl]
      · simp only [if_true]
        exact (hrow.keep hsz' (fun x hx => keep _ (hrow.low x hx).2 (fun e => by have := (hvb _ e).2; have := (hrow.low x hx).1; omega))).fewer hB
      · simp only [if_true] at hx
        have l1 := hrow.low x hx
        intro e
        have e' : g = x.block := by simpa [Value.ownBlock] using e
        rcases hat with h | h
        · have := (hvb g h).2; omega
        · omega
    · obtain ⟨a1, a2, a3⟩ := hv i (by omega)
      have a4 := a2.below h1
      refine ⟨?_, ?_, fun x hx => ?_⟩
      · rw [List.getElem?_append_left (by omega), a1]; simp [e]
      · simp only [e, if_false]
        exact a4.keep hsz' (fun x hx => keep _ (a4.low x hx).2 (a3 x hx))
      · simp only [e, if_false] at hx
        intro e'
        have e2 : g = x.block := by simpa [Value.ownBlock] using e'
        rcases hat with h | h
        · exact a3 x hx (by rw [h, e2])
        · have := (a4.low x hx).2; omega
  · by_cases e : i = b
    · have ej : j ≠ b := fun e' => hij (e.trans e'.symm)
      simp only [e, ej, if_true, if_false] at hx hy
      have l1 := (hrow.low x hx).1
      have l2 := ((hv j (by omega)).2.1.low y hy).2
      omega
    · by_cases ej : j = b
      · simp only [e, ej, if_true, if_false] at hx hy
        have l1 := (hrow.low y hy).1
        have l2 := ((hv i (by omega)).2.1.low x hx).2
        omega
      · simp only [e, ej, if_false] at hx hy
        exact hap i j (by omega) (by omega) hij x y hx hy
/-- Row i of them, to read. -/
theorem RowsSt.read {B b i : Nat} {w : World} {v : Value} {r : Nat → List Int} (h : RowsSt B w v b r) (hi : i < b) : ∃ g cap Ai ci, v = .slice (some ⟨g, 0, none⟩) b cap ∧ w.cell? ⟨g, i, none⟩ = some (.slice Ai (r i).length ci) ∧ OwnAt w B Ai (r i).length (r i) := by
  obtain ⟨vals, ad, ca, ⟨hl, hh⟩, hv, _⟩ := h.own
  rcases hh with ⟨rfl, h0⟩ | ⟨g, cap, cur, rfl, hB, hblk, hn, hm, hc, ht⟩
  · omega
  · obtain ⟨e, ho, _⟩ := hv i hi
    refine ⟨g, cap, ad i, ca i, rfl, ?_, ho⟩
    rw [cell_of_row _ _ _ _ _ _ hblk]
    have e1 : (cur.toList.take (b * 1))[i]? = vals[i]? := by rw [ht]
    rw [List.getElem?_take_of_lt (by omega), Array.getElem?_toList] at e1
    rw [e1, e]
end Go.Proofs.Ythiegfbdmmpabab

/- What is proved here: what the model's l4Sparse returns. No conditions. -/
namespace Go.Proofs.Ythiegfbdmmpabab
open Go.RowKit

/-- An append of a whole slice of integers in a plain walk, with where the result lies. -/
theorem appendAll {P : Program} (w : World) {ops : Array Oper} {rest : List Oper} {o : Oper} {a : Act} {Q : Exit → Act → World → Prop} (hg : o.guard = none) (s x : Operand) (t : TypeId)
    (hop : o.op = Op.call { callee := Callee.builtin Builtin.append, args := #[s, x], argTypes := #[t, t] }) (base : Nat) (i : TypeInfo)
    (h1 : P.underlying t = some (.slice 3)) (h2 : P.info? 3 = some i) (h3 : i.zero = some (.int .i64 0)) (h4 : i.size = 1) (h5 : i.bytes = 8)
    (v : Value) (ys : List Int) (hs : a.eval s = v) (hown : w.ownsRow base 3 1 v ys.length (ys.map (Value.int .i64))) (ab ao m : Nat) (c : Nat) (ls : List Int) (hl : ls.length = m) (hm : 0 < m) (hx : a.eval x = .slice (some ⟨ab, ao, none⟩) m c)
    (hc : ∀ j, j < m → w.cell? ⟨ab, ao + j, none⟩ = some (.int .i64 (ls[j]?.getD 0))) (b1 : ys.length + m ≤ 1048576) (b3 : base ≤ w.heap.size)
    (hK : ∀ g c' w', w'.ownsRow base 3 1 (.slice (some ⟨g, 0, none⟩) (ys.length + m) c') (ys ++ ls).length ((ys ++ ls).map (Value.int .i64)) → w.grownBy w' v.ownBlock → (v.ownBlock = some g ∨ g = w.heap.size) → wpList P ops Q rest (a.put o.dst (.slice (some ⟨g, 0, none⟩) (ys.length + m) c')) w') :
    wpList P ops Q (o :: rest) a w := by
  refine wpList_append_own_at w hg s x t hop base 3 i (.int .i64 0) 1 8 h1 h2 h3 h4 h5 rfl (by decide) v ys.length _ hs hown ⟨ab, ao, none⟩ m c (ls.map (Value.int .i64)) hx (by simp [hl])
    (fun j u hu => by
      rw [List.getElem?_map] at hu
      have hj : j < ls.length := by
        rcases Nat.lt_or_ge j ls.length with h | h
        · exact h
        · rw [List.getElem?_eq_none h] at hu; cases hu
      rw [Addr.add_lit, hc j (by omega)]
      rw [List.getElem?_eq_getElem hj] at hu ⊢
      exact hu)
    (by simp [Value.oneCell']) (by simp only [maxLen]; omega) (by omega) b3 ?_
  intro v' w' r1 r2 _ r4
  obtain ⟨m', rfl⟩ : ∃ m', m = m' + 1 := ⟨m - 1, by omega⟩
  obtain ⟨g, c', rfl⟩ := ownsRow_succ (k := ys.length + m') r1
  refine hK g c' w' (by simpa [hl, Nat.add_assoc] using r1) r2 ?_
  rcases r4 with e | e
  · exact .inl (by rw [← e]; rfl)
  · exact .inr (by simpa [Value.ownBlock] using e)

/-- A slice of one row. -/
theorem RowsSt.one {B n c : Nat} {w : World} {A : Option Addr} {l : List Int} {r : Nat → List Int} (h : OwnAt w B A n l) (hr : r 0 = l) (hB : B ≤ w.heap.size) :
    RowsSt B (w.alloc (.cells #[.slice A n c] 24)) (.slice (some ⟨w.heap.size, 0, none⟩) 1 1) 1 r := by
  have hb : Below w.heap.size w (w.alloc (.cells #[.slice A n c] 24)) := (Below.refl _ w).alloc (Nat.le_refl _) _
  refine ⟨[.slice A n c], fun _ => A, fun _ => c, ⟨rfl, .inr ⟨w.heap.size, 1, #[.slice A n c], rfl, hB, World.alloc_heap_new w _, Nat.le_refl _, by decide, rfl, rfl⟩⟩, fun i hi => ?_, fun i j hi hj hij => by omega⟩
  have : i = 0 := by omega
  subst this
  rw [hr, h.len]
  refine ⟨rfl, h.below hb, fun x hx e => ?_⟩
  have := (h.low x hx).2
  have e' : w.heap.size = x.block := by simpa [Value.ownBlock] using e
  omega

theorem infoInts' : (Try.prog.info? 24).map (fun i => (i.zero, i.size, i.bytes)) = some (some (.slice none 0 0), 1, 24) := by kernel_rfl
theorem wrap_nat {P : Nat} (h : P ≤ 1000) : IntKind.i64.wrap (P : Int) = (P : Int) := by rw [IntKind.wrap_i64]; omega
theorem wrap_nat2 {j P : Nat} (h : j + P ≤ 1000) : IntKind.i64.wrap ((j : Int) + (P : Int)) = ((j + P : Nat) : Int) := by rw [IntKind.wrap_i64]; omega
theorem l1Least_any (a b : Int) (w : World) : Calls Try.prog 110 #[.int .i64 a, .int .i64 b] w fun e w' => e = .returned (.int .i64 (minI a b)) ∧ w' = w := by
  by_cases h : a < b
  · have hr := Lib.hid (show minI a b = a by unfold minI; rw [if_pos h])
    go_enter Try.func110, Try.ntmps110
    go_wp2_with fail
    go_ret
    exact ⟨by rw [hr.out]; rfl, rfl⟩
  · have hr := Lib.hid (show minI a b = b by unfold minI; rw [if_neg h])
    go_enter Try.func110, Try.ntmps110
    go_wp2_with fail
    go_ret
    exact ⟨by rw [hr.out]; rfl, rfl⟩

set_option maxRecDepth 100000 in
set_option maxHeartbeats 1000000 in
theorem l4Sparse_any (A : Option Addr) (n c B0 : Nat) (l : List Int) (w : World) (h : IntsAt w B0 A n l) (hB0 : B0 ≤ w.heap.size) (hn0 : 0 < n) (hn : n ≤ 60) :
    Calls Try.prog 105 #[.slice A n c] w fun e w' => ∃ v, e = .returned v ∧ RowsSt w.heap.size w' v (spN n) (spRow l) ∧ Below w.heap.size w w' := by
  obtain ⟨i0, hi, hz0, hz1, hz2⟩ := info_parts info3
  obtain ⟨j0, hj0, hy0, hy1, hy2⟩ := info_parts infoInts'
  have hl := Lib.hid h.1
  obtain ⟨ab, ao, rfl, hab, _⟩ := h.2 0 hn0
  have hcs : ∀ j, j < n → w.cell? ⟨ab, ao + j, none⟩ = some (.int .i64 (l[j]?.getD 0)) := fun j hj => by
    obtain ⟨b', o', e, _, hc⟩ := h.2 j hj
    cases e; exact hc
  have hcs' := Lib.hid hcs
  have h0 := Lib.hid (World.ownsRow_made (base := w.heap.size) (e := 3) (size := 1) w #[] 0 (Nat.le_refl _) (by decide) rfl)
  clear h hcs
  go_enter Try.func105, Try.ntmps105
  go_wp2_with (at_builtin; refine appendAll _ rfl _ _ 24 rfl w.heap.size i0 Try.underlying24 hi hz0 hz1 hz2 _ [] rfl ?k1 ab ao n c l hl.out hn0 rfl ?k2 ?k3 ?k4 ?k5)
  case k1 => exact h0.out
  case k2 => intro j hj; exact (((Below.refl w.heap.size w).alloc (Nat.le_refl _) _).cell (p := ⟨ab, ao + j, none⟩) (by show ab < w.heap.size; omega)).trans (hcs'.out j hj)
  case k3 => simp; omega
  case k4 => simp
  case k5 =>
    intro g c' w1 h1 h2 h3
    have b1 : Below w.heap.size w w1 := ((Below.refl w.heap.size w).alloc (Nat.le_refl _) _).grown h2 (by simp) (fun k e => by cases e; exact Nat.le_refl _)
    obtain ⟨A1, c1, e1, o1⟩ := OwnAt.of_owns h1
    have hA1 : A1 = some ⟨g, 0, none⟩ := by injection e1 with e1 _ _; exact e1.symm
    rw [hA1, hl.out] at o1
    have r1 := Lib.hid (RowsSt.one (c := c') (r := spRow l) o1 rfl b1.size)
    have u1 := Lib.hid (b1.alloc b1.size (.cells #[.slice (some ⟨g, 0, none⟩) n c'] 24))
    clear h1 h2 h3 b1 e1 hA1 o1 h0
    go_wp2_with fail
    go_loopw [3, 4, 5, 6, 7] (fun rv nv _ _ _ wr => ∃ k : Nat, nv = .int .i64 (((2 ^ k : Nat) : Int) * 2) ∧ 2 ^ k ≤ n ∧ Hid (RowsSt w.heap.size wr rv (k + 1) (spRow l)) ∧ Hid (Below w.heap.size w wr)) (fun _ nv _ _ _ _ => 128 - (intOf nv).toNat)
    case atStart => exact ⟨0, rfl, hn0, r1, u1⟩
    case round =>
      obtain ⟨k, rfl, hkn, hs, hbel⟩ := hrel
      obtain ⟨w2, hw2⟩ : ∃ w2, w2 = wr := ⟨_, rfl⟩
      subst hw2
      have hk5 : k ≤ 5 := by have := (spN_in (k := k) hn0).2 hkn; have := spN_le hn0 hn; omega
      have hps := Lib.hid (Nat.pow_succ (n := 2) (m := k))
      have hkp : 0 < 2 ^ k := Nat.two_pow_pos k
      by_cases hle : 2 ^ k * 2 ≤ n
      · obtain ⟨gR, cap, Ai, ci, e, hcell, hrow⟩ := hs.out.read (i := k) (by omega)
        have hrl := spRow_len l k
        rw [hl.out] at hrl
        have hrow' := Lib.hid hrow
        have hP := Lib.hid (spPart_all l k)
        rw [hl.out, hps.out] at hP
        have hst := Lib.hid (fun j => spPart_step l k j)
        have hs' := Lib.hid hs.out
        subst e
        obtain ⟨P, hPe⟩ : ∃ P, 2 ^ k = P := ⟨_, rfl⟩
        rw [hPe] at hkn hkp hle hrl hP hst ⊢
        have hPe' := Lib.hid hPe
        have hleI : (P : Int) * 2 ≤ (n : Int) := by omega
        obtain ⟨M, hM⟩ : ∃ M, M = n + 1 - P := ⟨_, rfl⟩
        rw [← hM] at hrl
        rw [hrl] at hcell
        have hrl' := Lib.hid hrl
        have hM' := Lib.hid hM
        have hM1 : n + 1 ≤ M + P := by omega
        have hM2 : M + P ≤ n + 1 := by omega
        clear hPe hrow hs hrl hM
        go_wp2_with fail
        go_loopw [6, 7] (fun ov iv wq => ∃ j : Nat, j ≤ n + 1 - P * 2 ∧ iv = .int .i64 j ∧ Hid (wq.ownsRow w2.heap.size 3 1 ov (spPart l k j).length ((spPart l k j).map (Value.int .i64))) ∧ Hid (Below w2.heap.size w2 wq)) (fun _ iv _ => n + 1 - (intOf iv).toNat)
        case atStart => exact ⟨0, Nat.zero_le _, rfl, Lib.hid (World.ownsRow_nil _ _ _ _), Lib.hid (Below.refl _ _)⟩
        case round =>
          obtain ⟨j, hj, rfl, ho, hbq⟩ := hrel
          by_cases hjl : j + P * 2 ≤ n
          · obtain ⟨ga, oa, eA, hga, hca⟩ := hrow'.out.ints.2 j (by rw [hrl'.out]; omega)
            obtain ⟨gb, ob, eB, _, hcb⟩ := hrow'.out.ints.2 (j + P) (by rw [hrl'.out]; omega)
            rw [eA] at eB
            cases eB
            have hca' := (hbq.out.cell (p := ⟨ga, oa + j, none⟩) hga).trans hca
            have hcb' := (hbq.out.cell (p := ⟨ga, oa + (j + P), none⟩) hga).trans hcb
            have hstj := Lib.hid (hst.out j)
            subst eA
            clear hca hcb
            have hsq := hbq.out.size
            have hsp := spPart_len l k j
            have hj1 : (j : Int) < (M : Int) := by omega
            have hj3 : j < M := by omega
            obtain ⟨Q, hQ⟩ : ∃ Q, Q = j + P := ⟨_, rfl⟩
            rw [← hQ] at hcb' hstj
            have wP := wrap_nat (P := P) (by omega)
            have wQ : IntKind.i64.wrap ((j : Int) + (P : Int)) = (Q : Int) := by rw [hQ]; exact wrap_nat2 (by omega)
            have hj2 : (Q : Int) < (M : Int) := by omega
            have hj4 : Q < M := by omega
            clear hQ
            go_wp2_with fail
            go_region_law (first
              | (refine step_append_lies _ rfl (.tmp 32) (.tmp 45) 24 rfl w2.heap.size 3 i0 _ 1 8 Try.underlying24 hi hz0 hz1 hz2 rfl (by decide) _ (spPart l k j).length ((spPart l k j).map (Value.int .i64)) rfl ((show wr.drew.ownsRow _ _ _ _ _ _ from ho.out).alloc _) ⟨wr.heap.size, 0, none⟩ 1 1 _ rfl rfl (World.news_of_block (heap_alloc_new _ _)) (by intro u hu; simp at hu; subst hu; rfl) (by decide) (by unfold maxLen; omega) (by omega) (by simp; omega) _ rfl ?_; intro g8 cap8 w8 hown8 hgrow8 _ _)
              | (go_simp; go_at_call 110; refine (l1Least_any _ _ _).mono ?_; rintro e w7 ⟨rfl, rfl⟩))
            all_goals
              have hb8 := Lib.hid (hbq.out.trans ((((Below.refl w2.heap.size wr).alloc hsq _).drew).grown hgrow8 (by simp; omega) (fun g hg => (ho.out.lt g hg).1)))
              have o9 := Lib.hid (show w8.ownsRow w2.heap.size 3 1 (.slice (some ⟨g8, 0, none⟩) (j + 1) cap8) (spPart l k (j + 1)).length ((spPart l k (j + 1)).map (Value.int .i64)) by rw [hstj.out]; simpa [hsp] using hown8)
              clear hown8 hgrow8 hca' hcb'
              go_simp
              go_wp2_with fail
              go_roundw
              case rel => first | exact ⟨j + 1, by omega, by go_num, o9, hb8⟩ | exact ⟨_, _, _, _, _, _, _, _, _, _, _, _, _, _, _, _, _, _, _, _, _, _, _, _, _, ⟨j + 1, by omega, by go_num, o9, hb8⟩, by first | rfl | simp [hleI]⟩
              case measure => simp [intOf]; omega
          · have hje : j = n + 1 - P * 2 := by omega
            have hall := Lib.hid (show spPart l k j = spRow l (k + 1) by rw [hje]; exact hP.out)
            have ho' := ho.out
            rw [hall.out] at ho'
            obtain ⟨A5, c5, e5, ho5⟩ := OwnAt.of_owns ho'
            obtain ⟨vals, ad, ca, hown, hv, hap⟩ := hs'.out.own
            have hb2q := hbq.out
            have hownq := owns_below' hown hb2q
            have hvl : vals.length = k + 1 := by simpa using hown.1
            have hvb := Lib.hid (fun k hk => hown.lt k hk)
            have hro := Lib.hid ho5
            have hv' := Lib.hid hv; have hap' := Lib.hid hap; have hb2' := Lib.hid hb2q
            have hsz1 := hb2q.size
            have hsz0 := hbel.out.size
            have hownq' := Lib.hid hownq
            have hvl' := Lib.hid hvl
            subst e5
            obtain ⟨L, hL⟩ : ∃ L, L = (spRow l (k + 1)).length := ⟨_, rfl⟩
            rw [← hL] at hro ⊢
            have hL' := Lib.hid hL
            clear hje ho' ho5 hown hv hap hb2q hownq hvl hall ho hL
            go_wp2_with (at_builtin; refine wpList_append_lies _ rfl _ _ 57 rfl w.heap.size 24 j0 (.slice none 0 0) 1 24 Try.underlying57 hj0 hy0 hy1 hy2 rfl (by decide) _ _ _ rfl (hownq'.out.alloc _) ⟨wr.heap.size, 0, none⟩ 1 1 [.slice A5 L c5] rfl rfl ?c1 ?c2 (by decide) ?c3 ?c4 ?c5 _ rfl ?_)
            try
              case c1 =>
                intro j u hj
                match j, hj with
                | 0, hj => simp at hj; subst hj; simp [Addr.add]
            case c2 => first | rfl | (intro u hu; simp at hu; subst hu; rfl)
            case c3 => unfold maxLen; omega
            case c4 => omega
            case c5 => first | omega | (simp; omega)
            intro g6 cap6 w6 hown6 hgrow6 hat6 hlt6
            have hfin := RowsSt.next (r := spRow l) hsz0 hv'.out hap'.out hvl'.out hL'.out hb2'.out hro.out hvb.out hown6 hgrow6 hat6 (by simp)
            have hf1 := Lib.hid hfin.1
            have hf2 := Lib.hid ((hbel.out.trans (hb2'.out.mono hbel.out.size)).trans hfin.2)
            clear hown6 hgrow6 hat6 hfin
            go_wp2_with fail
            go_roundw
            case rel => exact ⟨k + 1, by rw [hps.out, hPe'.out]; go_num, by rw [hps.out, hPe'.out]; exact hle, hf1, hf2⟩
            case measure => simp [intOf]; omega
      · have hkN : k + 1 = spN n := by
          have h1 := (spN_in (k := k) hn0).2 hkn
          have h2 : ¬ k + 1 < spN n := fun h => by have := (spN_in (k := k + 1) hn0).1 h; rw [hps.out] at this; omega
          omega
        have hs' := hs.out
        rw [hkN] at hs'
        have hs2 := Lib.hid hs'
        clear hs' hs hkN
        generalize 2 ^ k = P at hkn hkp hle ⊢
        clear hps
        go_wp2_with fail
        go_ret
        exact ⟨_, rfl, hs2.out, hbel.out⟩
end Go.Proofs.Ythiegfbdmmpabab

/- What is proved here: what the program's sparseRows returns. No conditions. -/
namespace Go.Proofs.Ythiegfbdmmpabab
open Go.RowKit

theorem not_nil (ab ao n c : Nat) (w : World) : (binOp BinOp.eql 24 (.slice (some ⟨ab, ao, none⟩) n c) (.slice none 0 0)).run Try.prog w = .ok (.bool false) w := by kernel_rfl

set_option maxRecDepth 100000 in
theorem clone_any (ab ao n c B0 : Nat) (l : List Int) (w : World) (h : IntsAt w B0 (some ⟨ab, ao, none⟩) n l) (hB0 : B0 ≤ w.heap.size) (hn0 : 0 < n) (hn : n ≤ 1000) :
    Calls Try.prog 75 #[.slice (some ⟨ab, ao, none⟩) n c] w fun e w' => ∃ g c', e = .returned (.slice (some ⟨g, 0, none⟩) n c') ∧ OwnAt w' w.heap.size (some ⟨g, 0, none⟩) n l ∧ Below w.heap.size w w' := by
  obtain ⟨i0, hi, hz0, hz1, hz2⟩ := info_parts info3
  have hl := Lib.hid h.1
  have hab : ab < B0 := by obtain ⟨b', o', e, hb, _⟩ := h.2 0 hn0; cases e; exact hb
  have hcs' := Lib.hid (show ∀ j, j < n → w.cell? ⟨ab, ao + j, none⟩ = some (.int .i64 (l[j]?.getD 0)) from fun j hj => by
    obtain ⟨b', o', e, _, hc⟩ := h.2 j hj
    cases e; exact hc)
  have h0 := Lib.hid (World.ownsRow_made (base := w.heap.size) (e := 3) (size := 1) w #[] 0 (Nat.le_refl _) (by decide) rfl)
  have hne := not_nil ab ao n c
  clear h
  go_enter Try.func75, Try.ntmps75
  go_wp2_with (at_builtin; refine appendAll _ rfl _ _ 24 rfl w.heap.size i0 Try.underlying24 hi hz0 hz1 hz2 _ [] rfl ?k1 ab ao n c l hl.out hn0 rfl ?k2 ?k3 ?k4 ?k5)
  case k1 => exact h0.out
  case k2 => intro j hj; exact (((Below.refl w.heap.size w).alloc (Nat.le_refl _) _).cell (p := ⟨ab, ao + j, none⟩) (by show ab < w.heap.size; omega)).trans (hcs'.out j hj)
  case k3 => simp; omega
  case k4 => simp
  case k5 =>
    intro g c' w1 h1 h2 h3
    have b1 : Below w.heap.size w w1 := ((Below.refl w.heap.size w).alloc (Nat.le_refl _) _).grown h2 (by simp) (fun k e => by cases e; exact Nat.le_refl _)
    obtain ⟨A1, c1, e1, o1⟩ := OwnAt.of_owns h1
    have hA1 : A1 = some ⟨g, 0, none⟩ := by injection e1 with e1 _ _; exact e1.symm
    rw [hA1, hl.out] at o1
    have o1' := Lib.hid o1; have b1' := Lib.hid b1
    clear h1 h2 h3 b1 e1 hA1 o1 h0
    go_wp2_with fail
    go_ret
    exact ⟨g, c', by first | rfl | simp, o1'.out, b1'.out⟩
theorem minI_alt (x y : Int) : (if y < x then y else x) = minI x y := by unfold minI; split <;> split <;> omega
theorem wrap64_2 {P : Nat} (h : P ≤ 1000) : wrap64 (2 * (P : Int)) = 2 * (P : Int) := by unfold wrap64; omega

set_option maxRecDepth 100000 in
set_option maxHeartbeats 1000000 in
theorem sparseRows_any (A : Option Addr) (n c B0 : Nat) (l : List Int) (w : World) (h : IntsAt w B0 A n l) (hB0 : B0 ≤ w.heap.size) (hn0 : 0 < n) (hn : n ≤ 60) :
    Calls Try.prog 103 #[.slice A n c] w fun e w' => ∃ v, e = .returned v ∧ RowsSt w.heap.size w' v (spN n) (spRow l) ∧ Below w.heap.size w w' := by
  obtain ⟨i0, hi, hz0, hz1, hz2⟩ := info_parts info3
  obtain ⟨j0, hj0, hy0, hy1, hy2⟩ := info_parts infoInts'
  have hl := Lib.hid h.1
  obtain ⟨ab, ao, rfl, hab, _⟩ := h.2 0 hn0
  have hcs : ∀ j, j < n → w.cell? ⟨ab, ao + j, none⟩ = some (.int .i64 (l[j]?.getD 0)) := fun j hj => by
    obtain ⟨b', o', e, _, hc⟩ := h.2 j hj
    cases e; exact hc
  have hh := Lib.hid h
  clear h hcs
  go_enter Try.func103, Try.ntmps103
  go_wp2_with fail
  refine (clone_any ab ao n c B0 l w hh.out hB0 hn0 (by omega)).mono ?_
  rintro e w1 ⟨g, c', rfl, o1, b1⟩
  · have r1 := Lib.hid (RowsSt.one (c := c') (r := spRow l) o1 rfl b1.size)
    have u1 := Lib.hid (b1.alloc b1.size (.cells #[.slice (some ⟨g, 0, none⟩) n c'] 24))
    clear b1 o1
    go_wp2_with fail
    go_loopw [3, 4, 5, 6, 7] (fun rv nv _ _ _ wr => ∃ k : Nat, nv = .int .i64 ((2 ^ k : Nat) : Int) ∧ 2 ^ k ≤ n ∧ Hid (RowsSt w.heap.size wr rv (k + 1) (spRow l)) ∧ Hid (Below w.heap.size w wr)) (fun _ nv _ _ _ _ => 128 - (intOf nv).toNat)
    case atStart => exact ⟨0, rfl, hn0, r1, u1⟩
    case round =>
      obtain ⟨k, rfl, hkn, hs, hbel⟩ := hrel
      obtain ⟨w2, hw2⟩ : ∃ w2, w2 = wr := ⟨_, rfl⟩
      subst hw2
      have hk5 : k ≤ 5 := by have := (spN_in (k := k) hn0).2 hkn; have := spN_le hn0 hn; omega
      have hps := Lib.hid (Nat.pow_succ (n := 2) (m := k))
      have hkp : 0 < 2 ^ k := Nat.two_pow_pos k
      by_cases hle : 2 ^ k * 2 ≤ n
      · obtain ⟨gR, cap, Ai, ci, e, hcell, hrow⟩ := hs.out.read (i := k) (by omega)
        have hrl := spRow_len l k
        rw [hl.out] at hrl
        have hrow' := Lib.hid hrow
        have hP := Lib.hid (spPart_all l k)
        rw [hl.out, hps.out] at hP
        have hst := Lib.hid (fun j => spPart_step l k j)
        have hs' := Lib.hid hs.out
        subst e
        obtain ⟨P, hPe⟩ : ∃ P, 2 ^ k = P := ⟨_, rfl⟩
        rw [hPe] at hkn hkp hle hrl hP hst ⊢
        have hPe' := Lib.hid hPe
        have hleI : 2 * (P : Int) ≤ (n : Int) := by omega
        have hwP := wrap64_2 (P := P) (by omega)
        obtain ⟨M, hM⟩ : ∃ M, M = n + 1 - P := ⟨_, rfl⟩
        rw [← hM] at hrl
        rw [hrl] at hcell
        have hrl' := Lib.hid hrl
        have hM' := Lib.hid hM
        have hM1 : n + 1 ≤ M + P := by omega
        have hM2 : M + P ≤ n + 1 := by omega
        clear hPe hrow hs hrl hM
        go_wp2_with fail
        go_loopw [6, 7, 30] (fun ov _ iv wq => ∃ j : Nat, j ≤ n + 1 - P * 2 ∧ iv = .int .i64 j ∧ Hid (wq.ownsRow w2.heap.size 3 1 ov (spPart l k j).length ((spPart l k j).map (Value.int .i64))) ∧ Hid (Below w2.heap.size w2 wq)) (fun _ _ iv _ => n + 1 - (intOf iv).toNat)
        case atStart => exact ⟨0, Nat.zero_le _, rfl, Lib.hid (World.ownsRow_nil _ _ _ _), Lib.hid (Below.refl _ _)⟩
        case round =>
          obtain ⟨j, hj, rfl, ho, hbq⟩ := hrel
          by_cases hjl : j + P * 2 ≤ n
          · obtain ⟨ga, oa, eA, hga, hca⟩ := hrow'.out.ints.2 j (by rw [hrl'.out]; omega)
            obtain ⟨gb, ob, eB, _, hcb⟩ := hrow'.out.ints.2 (j + P) (by rw [hrl'.out]; omega)
            rw [eA] at eB
            cases eB
            have hca' := (hbq.out.cell (p := ⟨ga, oa + j, none⟩) hga).trans hca
            have hcb' := (hbq.out.cell (p := ⟨ga, oa + (j + P), none⟩) hga).trans hcb
            have hstj := Lib.hid (hst.out j)
            subst eA
            clear hca hcb
            have hsq := hbq.out.size
            have hsp := spPart_len l k j
            have hj1 : (j : Int) < (M : Int) := by omega
            have hj3 : j < M := by omega
            have hjI : (j : Int) < (n : Int) - 2 * (P : Int) + 1 := by omega
            obtain ⟨Q, hQ⟩ : ∃ Q, Q = j + P := ⟨_, rfl⟩
            rw [← hQ] at hcb' hstj
            have wP := wrap_nat (P := P) (by omega)
            have wQ : IntKind.i64.wrap ((j : Int) + (P : Int)) = (Q : Int) := by rw [hQ]; exact wrap_nat2 (by omega)
            have hj2 : (Q : Int) < (M : Int) := by omega
            have hj4 : Q < M := by omega
            clear hQ
            go_wp2_with fail
            go_region_law (first
              | (refine step_append_lies _ rfl (.tmp 33) (.tmp 45) 24 rfl w2.heap.size 3 i0 _ 1 8 Try.underlying24 hi hz0 hz1 hz2 rfl (by decide) _ (spPart l k j).length ((spPart l k j).map (Value.int .i64)) rfl ((show wr.drew.ownsRow _ _ _ _ _ _ from ho.out).alloc _) ⟨wr.heap.size, 0, none⟩ 1 1 _ rfl rfl (World.news_of_block (heap_alloc_new _ _)) (by intro u hu; simp at hu; subst hu; rfl) (by decide) (by unfold maxLen; omega) (by omega) (by simp; omega) _ rfl ?_; intro g8 cap8 w8 hown8 hgrow8 _ _)
              | fail)
            all_goals
              have hb8 := Lib.hid (hbq.out.trans ((((Below.refl w2.heap.size wr).alloc hsq _).drew).grown hgrow8 (by simp; omega) (fun g hg => (ho.out.lt g hg).1)))
              have o9 := Lib.hid (show w8.ownsRow w2.heap.size 3 1 (.slice (some ⟨g8, 0, none⟩) (j + 1) cap8) (spPart l k (j + 1)).length ((spPart l k (j + 1)).map (Value.int .i64)) by rw [hstj.out]; simpa [hsp, minI_alt] using hown8)
              clear hown8 hgrow8 hca' hcb'
              go_simp
              go_wp2_with fail
              go_roundw
              case rel => first | exact ⟨j + 1, by omega, by go_num, o9, hb8⟩ | exact ⟨_, _, _, _, _, _, _, _, _, _, _, _, _, _, _, _, _, _, _, _, _, _, _, _, _, ⟨j + 1, by omega, by go_num, o9, hb8⟩, by first | rfl | simp [hleI]⟩
              case measure => simp [intOf]; omega
          · have hjI : ¬ (j : Int) < (n : Int) - 2 * (P : Int) + 1 := by omega
            have hje : j = n + 1 - P * 2 := by omega
            have hall := Lib.hid (show spPart l k j = spRow l (k + 1) by rw [hje]; exact hP.out)
            have ho' := ho.out
            rw [hall.out] at ho'
            obtain ⟨A5, c5, e5, ho5⟩ := OwnAt.of_owns ho'
            obtain ⟨vals, ad, ca, hown, hv, hap⟩ := hs'.out.own
            have hb2q := hbq.out
            have hownq := owns_below' hown hb2q
            have hvl : vals.length = k + 1 := by simpa using hown.1
            have hvb := Lib.hid (fun k hk => hown.lt k hk)
            have hro := Lib.hid ho5
            have hv' := Lib.hid hv; have hap' := Lib.hid hap; have hb2' := Lib.hid hb2q
            have hsz1 := hb2q.size
            have hsz0 := hbel.out.size
            have hownq' := Lib.hid hownq
            have hvl' := Lib.hid hvl
            subst e5
            obtain ⟨L, hL⟩ : ∃ L, L = (spRow l (k + 1)).length := ⟨_, rfl⟩
            rw [← hL] at hro ⊢
            have hL' := Lib.hid hL
            clear hje ho' ho5 hown hv hap hb2q hownq hvl hall ho hL
            go_wp2_with (at_builtin; refine wpList_append_lies _ rfl _ _ 57 rfl w.heap.size 24 j0 (.slice none 0 0) 1 24 Try.underlying57 hj0 hy0 hy1 hy2 rfl (by decide) _ _ _ rfl (hownq'.out.alloc _) ⟨wr.heap.size, 0, none⟩ 1 1 [.slice A5 L c5] rfl rfl ?c1 ?c2 (by decide) ?c3 ?c4 ?c5 _ rfl ?_)
            try
              case c1 =>
                intro j u hj
                match j, hj with
                | 0, hj => simp at hj; subst hj; simp [Addr.add]
            case c2 => first | rfl | (intro u hu; simp at hu; subst hu; rfl)
            case c3 => unfold maxLen; omega
            case c4 => omega
            case c5 => first | omega | (simp; omega)
            intro g6 cap6 w6 hown6 hgrow6 hat6 hlt6
            have hfin := RowsSt.next (r := spRow l) hsz0 hv'.out hap'.out hvl'.out hL'.out hb2'.out hro.out hvb.out hown6 hgrow6 hat6 (by simp)
            have hf1 := Lib.hid hfin.1
            have hf2 := Lib.hid ((hbel.out.trans (hb2'.out.mono hbel.out.size)).trans hfin.2)
            clear hown6 hgrow6 hat6 hfin
            go_wp2_with fail
            go_roundw
            case rel => exact ⟨k + 1, by rw [hps.out, hPe'.out]; go_num, by rw [hps.out, hPe'.out]; exact hle, hf1, hf2⟩
            case measure => simp [intOf]; omega
      · have hkN : k + 1 = spN n := by
          have h1 := (spN_in (k := k) hn0).2 hkn
          have h2 : ¬ k + 1 < spN n := fun h => by have := (spN_in (k := k + 1) hn0).1 h; rw [hps.out] at this; omega
          omega
        have hs' := hs.out
        rw [hkN] at hs'
        have hs2 := Lib.hid hs'
        clear hs' hs hkN
        generalize 2 ^ k = P at hkn hkp hle ⊢
        clear hps
        go_wp2_with fail
        go_ret
        exact ⟨_, rfl, hs2.out, hbel.out⟩
end Go.Proofs.Ythiegfbdmmpabab
