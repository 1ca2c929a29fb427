/- What is proved here: what the model's draws of the arguments of SparseOf, LeastIn and MeetByTour return, at every slice of bytes. No conditions beside the slice's length. -/
import Derived.Test.YthiegfbdmmpababSparseCap
import Derived.Test.YthiegfbdmmpababDrawNums
import Derived.Test.YthiegfbdmmpababDrawTrees
namespace Go.Proofs.Ythiegfbdmmpabab
open Go.RowKit

def RetRowsC (w : World) (b : Bool) (rows : List (List Int)) (e : Ending) (w' : World) : Prop :=
  ∃ A n c, e = .returned (.tuple #[.slice A n c, .bool b]) ∧ rows.length = n ∧ RowsOwn w' w.heap.size A n (rowG rows) ∧
    (0 < n → ∀ b off Ai ci, A = some ⟨b, off, none⟩ → w'.cell? ⟨b, off, none⟩ = some (.slice Ai (rowG rows 0).length ci) → (rowG rows 0).length ≤ ci) ∧ Below w.heap.size w w'
theorem rowsC_nil (w : World) (b : Bool) : RetRowsC w b [] (.returned (.tuple #[.slice none 0 0, .bool b])) w := ⟨none, 0, 0, rfl, rfl, ⟨fun h => absurd h (Nat.lt_irrefl _)⟩, fun h => absurd h (Nat.lt_irrefl _), Below.refl _ _⟩

set_option maxRecDepth 100000 in
theorem specSparseC_any (A : Option Addr) (n c : Nat) (l : List Int) (w : World) (h : IntsAt w w.heap.size A n l) (hn : n ≤ 1048576) :
    Calls Try.prog 47 #[.slice A n c] w (RetRowsC w (goodN l) (spR l)) := by
  have hl := Lib.hid h.1
  have hh := Lib.hid h; clear h
  have hfin := Lib.hid (show goodN l = false → RetRowsC w (goodN l) (spR l) (.returned (.tuple #[.slice none 0 0, .bool false])) w from fun e => by
    have : spR l = [] := by unfold spR; rw [e]; rfl
    rw [e, this]; exact rowsC_nil w false)
  go_enter Try.func47, Try.ntmps47
  go_wp2_with fail
  refine (l4Numbers_any _ _ _ _ l w hh.out hn).mono ?_
  rintro e w1 ⟨rfl, rfl⟩
  cases hb : goodN l
  · go_wp2_with fail
    go_ret2
    have := hfin.out hb
    rw [hb] at this ⊢
    exact this
  · have hr := Lib.hid (show spR l = spT l by unfold spR; rw [hb]; rfl)
    have hb' := hb
    unfold goodN at hb'
    rw [Bool.and_eq_true, inB_iff, hl.out] at hb'
    obtain ⟨⟨g1, g2⟩, _⟩ := hb'
    have hb2 := Lib.hid hb
    clear hb
    go_wp2_with fail
    refine (l4SparseC_any A n c w.heap.size l w hh.out (Nat.le_refl _) (by omega) (by omega)).mono ?_
    rintro e w2 ⟨v, rfl, hst, hcz, b2⟩
    rw [← hl.out] at hst
    obtain ⟨A', c', rfl, ho⟩ := rows_ret hst
    have ho' := Lib.hid ho; have b2' := Lib.hid b2
    have hsl := Lib.hid (spT_len l)
    have hcz' := Lib.hid hcz
    have h0r := Lib.hid (show 0 < spN l.length → rowG (spT l) 0 = l from fun h => by rw [spT_row h]; rfl)
    clear hst ho b2 hcz
    generalize spN l.length = N at ho' hsl hcz' h0r ⊢
    go_wp2_with fail
    go_ret2
    refine ⟨A', N, c', by rw [hb2.out]; rfl, by rw [hr.out]; exact hsl.out, by rw [hr.out]; exact ho'.out, fun hN b off Ai ci e hc => ?_, b2'.out⟩
    obtain ⟨A0, c0, hc0, hcell⟩ := hcz'.out
    obtain ⟨gT, mT, fT, eT, _⟩ := ho'.out.own hN
    rw [eT] at e
    cases e
    rw [eT] at hcell
    have := hcell _ N c' rfl
    rw [hr.out, h0r.out hN] at hc ⊢
    rw [hc] at this
    simp only [Option.some.injEq, Value.slice.injEq] at this
    rw [hl.out]
    omega

def pokeR (r : Nat → List Int) (i : Nat) (z : Int) (j : Nat) : List Int := if j = i then (r i).set 0 z else r j
/-- The first number of row i is changed. -/
theorem RowsOwn.poke {w : World} {B n i : Nat} {A : Option Addr} {r : Nat → List Int} (h : RowsOwn w B A n r) (hi : i < n) (hr : 0 < (r i).length) :
    ∃ g gi ci, A = some ⟨g, 0, none⟩ ∧ gi ≠ g ∧ B ≤ gi ∧ w.cell? ⟨g, i, none⟩ = some (.slice (some ⟨gi, 0, none⟩) (r i).length ci) ∧ w.cell? ⟨gi, 0, none⟩ = some (.int .i64 ((r i)[0]?.getD 0)) ∧ w.frozen? ⟨gi, 0, none⟩ = false ∧
      ∀ z, RowsOwn (w.setCell ⟨gi, 0, none⟩ (.int .i64 z)) B A n (pokeR r i z) := by
  obtain ⟨g, m, f, e, hB, hm, hrow, ad, ca, h1, h2⟩ := h.own (by omega)
  obtain ⟨a1, a2, a3⟩ := h1 i hi
  obtain ⟨gi, mi, fi, ei, hmi, hri, hfi⟩ := a2.own hr
  have hne : gi ≠ g := a3 _ ei
  have hc0 := hri.cell (i := 0) (by omega)
  rw [hfi 0 hr] at hc0
  refine ⟨g, gi, ca i, e, hne, (a2.low _ ei).1, by rw [hrow.cell (by omega), a1, ei], hc0, hri.frozen 0, fun z => ⟨fun _ => ⟨g, m, f, e, hB, hm, hrow.of_block (Below.heap_setCell _ _ _ _ hne.symm), ad, ca, fun j hj => ?_, h2⟩⟩⟩
  by_cases ej : j = i
  · subst ej
    unfold pokeR
    simp only [if_true, List.length_set]
    refine ⟨a1, ⟨by simp, fun _ => ⟨gi, mi, _, ei, hmi, hri.set 0 _, fun t ht => ?_⟩, fun x hx => ?_⟩, a3⟩
    · by_cases e0 : t = 0
      · subst e0
        simp only [if_true]
        rw [List.getElem?_set_self hr]; rfl
      · simp only [e0, if_false]
        rw [List.getElem?_set_ne (fun h => e0 h.symm)]; exact hfi t ht
    · rw [ei] at hx; cases hx; exact ⟨(a2.low _ ei).1, by have := (a2.low _ ei).2; simpa [World.setCell] using this⟩
  · unfold pokeR
    simp only [ej, if_false]
    obtain ⟨b1, b2, b3⟩ := h1 j hj
    exact ⟨b1, b2.keep (by simp [World.setCell]) (fun x hx => Below.heap_setCell _ _ _ _ (h2 j i hj hi ej x _ hx ei)), b3⟩
theorem pokeR_len (r : Nat → List Int) (i : Nat) (z : Int) (j : Nat) : (pokeR r i z j).length = (r j).length := by
  unfold pokeR; by_cases e : j = i
  · subst e; simp
  · simp [e]
def pokeL (rows : List (List Int)) (i : Nat) (z : Int) : List (List Int) := (List.range rows.length).map (pokeR (rowG rows) i z)
theorem pokeL_len (rows : List (List Int)) (i : Nat) (z : Int) : (pokeL rows i z).length = rows.length := by simp [pokeL]
theorem pokeL_row {rows : List (List Int)} {i j : Nat} {z : Int} (h : j < rows.length) : rowG (pokeL rows i z) j = pokeR (rowG rows) i z j := by unfold pokeL rowG; simp [h]
theorem pokeL_short {rows : List (List Int)} {i : Nat} {z : Int} (h : short rows) : short (pokeL rows i z) := fun j => by
  by_cases hj : j < rows.length
  · rw [pokeL_row hj, pokeR_len]; exact h j
  · unfold rowG; rw [List.getElem?_eq_none (by rw [pokeL_len]; omega)]; simp

def DrawRows (w : World) (e : Ending) (w' : World) : Prop :=
  ∃ A n c rows f t, e = .returned (.tuple #[.slice A n c, .int .i64 f, .int .i64 t]) ∧ RowsAt w' w'.heap.size A n rows ∧ short rows ∧ n ≤ 100 ∧
    (∀ b off Ai ci, A = some ⟨b, off, none⟩ → w'.cell? ⟨b, off, none⟩ = some (.slice Ai (rowG rows 0).length ci) → (rowG rows 0).length ≤ ci) ∧ Below w.heap.size w w'
/-- What stays while the cursor moves on: the rows, and the first one's room. -/
structure DrewR (w0 w : World) (lim : Nat) (A : Option Addr) (n : Nat) (rows : List (List Int)) : Prop where
  len : rows.length = n
  own : RowsOwn w (w0.heap.size + 1) A n (rowG rows)
  cap : 0 < n → ∀ b off Ai ci, A = some ⟨b, off, none⟩ → w.cell? ⟨b, off, none⟩ = some (.slice Ai (rowG rows 0).length ci) → (rowG rows 0).length ≤ ci
  cur : CurOk w w0.heap.size (w0.heap.size + 1) lim
  bel : Below w0.heap.size w0 w
theorem RowsOwn.only {w w' : World} {B n g : Nat} {A : Option Addr} {r : Nat → List Int} (h : RowsOwn w B A n r) (ho : Only (some ⟨g, 0, none⟩) w w') (hg : g < B) : RowsOwn w' B A n r :=
  ⟨fun hn => by
    obtain ⟨gT, m, f, e, hB, hm, hr, ad, ca, h1, h2⟩ := h.own hn
    have hb : ∀ k, B ≤ k → w'.heap[k]? = w.heap[k]? := fun k hk => ho.block k (fun ad e => by cases e; show k ≠ g; omega)
    exact ⟨gT, m, f, e, hB, hm, hr.of_block (hb gT hB), ad, ca, fun i hi => ⟨(h1 i hi).1, (h1 i hi).2.1.keep (by rw [ho.size]; exact Nat.le_refl _) (fun x hx => hb _ ((h1 i hi).2.1.low x hx).1), (h1 i hi).2.2⟩, h2⟩⟩
theorem DrewR.only {w0 w w' : World} {lim lim' n : Nat} {A : Option Addr} {rows : List (List Int)} (h : DrewR w0 w lim A n rows) (ho : Only (some ⟨w0.heap.size, 0, none⟩) w w') (hc : CurOk w' w0.heap.size (w0.heap.size + 1) lim') : DrewR w0 w' lim' A n rows :=
  ⟨h.len, h.own.only ho (by omega), fun hn b off Ai ci e hcell => by
    obtain ⟨gT, m, f, eT, hB, _⟩ := h.own.own hn
    rw [eT] at e
    cases e
    have hb : w'.heap[b]? = w.heap[b]? := ho.block b (fun ad e => by cases e; show b ≠ w0.heap.size; omega)
    exact h.cap hn b 0 Ai ci eT ((World.cell?_of_block (a := ⟨b, 0, none⟩) hb).symm.trans hcell), hc, h.bel.trans (ho.below (fun ad e => by cases e; exact Nat.le_refl _))⟩

theorem newNums_any (A : Option Addr) (n c : Nat) (w : World) (h : BytesIn w A n) (hn : n ≤ 1048576) :
    Calls Try.prog 100 #[.pointer (some ⟨w.heap.size, 0, none⟩)] (w.alloc (.cells #[.slice A n c, .int .i64 0, .int .u64 0] 76)) fun e w' =>
      ∃ A1 n1 c1 xs, e = .returned (.slice A1 n1 c1) ∧ n1 ≤ 61 ∧ n1 ≤ c1 ∧ OwnAt w' (w.heap.size + 1) A1 n1 xs ∧ CurOk w' w.heap.size (w.heap.size + 1) 200 ∧ Below w.heap.size w w' := by
  refine (numbers_any w.heap.size (w.heap.size + 1) 0 _ (cur_new (c := c) h hn) (by simp) (by decide)).mono ?_
  rintro e w1 ⟨A1, n1, c1, xs, rfl, ho, h1, hcap, hc, hg⟩
  exact ⟨A1, n1, c1, xs, rfl, h1, hcap, by simpa using ho, hc.more (by omega), grew_new hg⟩
def DrawNumsP (w : World) (e : Ending) (w' : World) : Prop := ∃ A n c xs, e = .returned (.slice A n c) ∧ IntsAt w' w'.heap.size A n xs ∧ n ≤ 61 ∧ n ≤ c ∧ Below w.heap.size w w'
theorem drawSparse_any (A : Option Addr) (n c : Nat) (w : World) (h : BytesIn w A n) (hn : n ≤ 1048576) :
    Calls Try.prog 45 #[.slice A n c] w (DrawNumsP w) := by
  go_enter Try.func45, Try.ntmps45
  go_wp2_with fail
  refine (newNums_any A n c w h hn).mono ?_
  rintro e w1 ⟨A1, n1, c1, xs, rfl, h1, hcap, ho, hc, hb⟩
  have ho' := Lib.hid ho.ints; clear ho hc
  go_wp2_with fail
  go_ret
  exact ⟨_, _, _, xs, rfl, ho'.out, h1, hcap, hb⟩
theorem drawMeetTour_any (A : Option Addr) (n c : Nat) (w : World) (h : BytesIn w A n) (hn : n ≤ 1048576) :
    Calls Try.prog 52 #[.slice A n c] w (DrawBlk3 w) := by
  go_enter Try.func52, Try.ntmps52
  go_wp2_with fail
  refine (drawAbove_any A n c w h hn).mono ?_
  rintro e w1 ⟨A1, n1, c1, ts, a, b, rfl, h1, h2, h3⟩
  have h1' := Lib.hid h1; clear h1
  go_wp2_with fail
  go_ret3
  exact ⟨_, _, _, ts, a, b, rfl, h1'.out, h2, h3⟩

theorem DrewR.draw {w0 w : World} {lim n : Nat} {A : Option Addr} {rows : List (List Int)} (h : DrewR w0 w lim A n rows) (hs : short rows) (hn : n ≤ 100) {c : Nat} (f t : Int) : DrawRows w0 (.returned (.tuple #[.slice A n c, .int .i64 f, .int .i64 t])) w :=
  ⟨A, n, c, rows, f, t, rfl, h.own.at h.len (fun _ _ => rfl), hs, hn, fun b off Ai ci e hc => by
    by_cases hp : 0 < n
    · exact h.cap hp b off Ai ci e hc
    · have : rows = [] := List.length_eq_zero_iff.1 (by rw [h.len]; omega)
      subst this; exact Nat.zero_le _, h.bel⟩

set_option maxHeartbeats 3200000 in
set_option maxRecDepth 100000 in
theorem drawLeastIn_any (A : Option Addr) (n c : Nat) (w : World) (h : BytesIn w A n) (hn : n ≤ 1048576) :
    Calls Try.prog 50 #[.slice A n c] w (DrawRows w) := by
  go_enter Try.func50, Try.ntmps50
  go_wp2_with fail
  refine (newNums_any A n c w h hn).mono ?_
  rintro e w1 ⟨A1, n1, c1, l, rfl, h1, _, ho, hc, hb⟩
  have hll := Lib.hid ho.len
  have ho' := Lib.hid ho.ints; have hc' := Lib.hid hc; have u1 := Lib.hid hb
  have s1 : w.heap.size + 1 ≤ w1.heap.size := hc.lt
  clear ho hc hb h
  go_wp2_with fail
  refine (specSparseC_any A1 n1 c1 l w1 ho'.out (by omega)).mono ?_
  rintro e w2 ⟨A2, n2, c2, rfl, hl2, o2, cap2, b2⟩
  have hn2 : n2 ≤ 100 := by rw [← hl2]; exact spR_len l
  have own2 : RowsOwn w2 (w.heap.size + 1) A2 n2 (rowG (spR l)) := ⟨fun hp => by
    obtain ⟨g, m, f, e, hB, hm, hr, ad, ca, h1, h2⟩ := o2.own hp
    exact ⟨g, m, f, e, by omega, hm, hr, ad, ca, fun i hi => ⟨(h1 i hi).1, (h1 i hi).2.1.fewer s1, (h1 i hi).2.2⟩, h2⟩⟩
  have hd := Lib.hid (show DrewR w w2 200 A2 n2 (spR l) from ⟨hl2, own2, cap2, hc'.out.below (b2.mono s1), u1.out.trans (b2.mono (by have := u1.out.size; exact this))⟩)
  have hsh := Lib.hid (spR_short l)
  have hrow1 := Lib.hid (show 1 < n2 → 0 < (rowG (spR l) 1).length from fun h => by
    have hg : goodN l = true := by
      cases e : goodN l
      · unfold spR at hl2; rw [e] at hl2; simp at hl2; omega
      · rfl
    have e1 : spR l = spT l := by unfold spR; rw [hg]; rfl
    rw [e1] at hl2 ⊢
    rw [spT_len] at hl2
    have hlp : 0 < l.length := by
      unfold goodN at hg; rw [Bool.and_eq_true, inB_iff] at hg; omega
    rw [spT_row (by omega), spRow_len]
    have := (spN_in (k := 1) hlp).1 (by omega)
    omega)
  clear o2 cap2 b2 own2 hc' ho' hl2
  by_cases hp : 0 < n2
  · obtain ⟨gT, mT, fT, eT, hB, hm, hrT, ad, ca, hr1, hr2⟩ := hd.out.own.own hp
    have hcT := hrT.cell (i := 0) (by omega)
    rw [(hr1 0 hp).1] at hcT
    have hL0 := hsh.out 0
    obtain ⟨L0, hL⟩ : ∃ L0, Hid ((rowG (spR l) 0).length = L0) := ⟨_, Lib.hid rfl⟩
    rw [hL.out] at hcT hL0
    subst eT
    clear hr1 hr2 hrT hm
    by_cases hp1 : 1 < n2
    · obtain ⟨g, gi, ci, eg, hne, hBi, d1, d2, d3, hpk⟩ := hd.out.own.poke hp1 (hrow1.out hp1)
      cases eg
      have hpk' := Lib.hid hpk
      have hq1 : decide (1 < n2) = true := decide_eq_true hp1
      obtain ⟨L1, hL1⟩ : ∃ L1, Hid ((rowG (spR l) 1).length = L1) := ⟨_, Lib.hid rfl⟩
      have hL1p := hrow1.out hp1
      rw [hL1.out] at d1 hL1p
      clear hpk
      go_wp2_with fail
      refine (one_any w.heap.size (w.heap.size + 1) 200 8 w2 hd.out.cur (by decide) (by decide)).mono ?_
      rintro e w3 ⟨b, rfl, c3, o3⟩
      have hd3' := Lib.hid (hd.out.only o3 c3)
      cases b
      · clear d1 d2 d3 c3 o3
        go_wp2_with fail
        refine (pick_any w.heap.size (w.heap.size + 1) 202 _ w3 hd3'.out.cur (by decide) (by omega)).mono ?_
        rintro e p1 ⟨x, rfl, x0, x1, k1, q1⟩
        have hd1 := Lib.hid (hd3'.out.only q1 k1)
        have hx : x ≤ 101 := by omega
        clear k1 q1 x1
        go_wp2_with fail
        refine (pick_any w.heap.size (w.heap.size + 1) 204 _ p1 hd1.out.cur (by decide) (by decide)).mono ?_
        rintro e p2 ⟨y, rfl, y0, y1, k2, q2⟩
        have hd2 := Lib.hid (hd1.out.only q2 k2)
        have hy : y ≤ 8 := by omega
        clear k2 q2 y1
        go_wp2_with fail
        refine (pick_any w.heap.size (w.heap.size + 1) 206 _ p2 hd2.out.cur (by decide) (by omega)).mono ?_
        rintro e p3 ⟨z, rfl, z0, z1, k3, q3⟩
        have hd3 := Lib.hid (hd2.out.only q3 k3)
        have hz : z ≤ 102 := by omega
        clear k3 q3 z1
        go_wp2_with fail
        refine (pick_any w.heap.size (w.heap.size + 1) 208 _ p3 hd3.out.cur (by decide) (by decide)).mono ?_
        rintro e p4 ⟨v, rfl, v0, v1, k4, q4⟩
        have hd4 := Lib.hid (hd3.out.only q4 k4)
        have hv : v ≤ 8 := by omega
        clear k4 q4 v1
        go_wp2_with fail
        go_ret3
        exact hd4.out.draw hsh.out hn2 _ _
      · obtain ⟨g', gi', ci', eg', hne', hBi', e1, e2, e3, hpk3⟩ := hd3'.out.own.poke hp1 (hrow1.out hp1)
        cases eg'
        rw [hL1.out] at e1
        have hpk4 := Lib.hid hpk3
        have b4 := fun (z : Int) => ((Below.refl (w.heap.size + 1) w3).setCell (p := ⟨gi', 0, none⟩) hBi' (.int .i64 z))
        have hd4' := Lib.hid (fun (z : Int) => (show DrewR w (w3.setCell ⟨gi', 0, none⟩ (.int .i64 z)) 202 _ n2 (pokeL (spR l) 1 z) from
          ⟨by rw [pokeL_len]; exact hd3'.out.len, ⟨fun hn' => by
            obtain ⟨a1, a2, a3, a4, a5, a6, a7, a8, a9, a10, a11⟩ := (hpk4.out z).own hn'
            exact ⟨a1, a2, a3, a4, a5, a6, a7, a8, a9, fun i hi => by rw [pokeL_row (by rw [hd3'.out.len]; exact hi)]; exact a10 i hi, a11⟩⟩,
            fun hn' b off Ai ci e hcell => by
              rw [pokeL_row (by rw [hd3'.out.len]; exact hn')] at hcell ⊢
              rw [pokeR_len] at hcell ⊢
              cases e
              refine hd3'.out.cap hn' _ _ Ai ci rfl ?_
              rw [World.cell?_setCell_other _ _ _ _ (by intro h; simp only [Addr.mk.injEq] at h; omega)] at hcell
              exact hcell,
            hd3'.out.cur.below (b4 z), hd3'.out.bel.trans ((b4 z).mono (by omega))⟩))
        generalize (rowG (spR l) 1)[0]?.getD 0 = y0 at e2
        clear d1 d2 d3 c3 o3 hpk3 b4
        go_wp2_with fail
        have hd5 := Lib.hid (hd4'.out (wrap64 (y0 + 1)))
        have hs5 := Lib.hid (pokeL_short (i := 1) (z := wrap64 (y0 + 1)) hsh.out)
        clear e1 e2 e3 hd4' hpk4 hpk'
        generalize wrap64 (y0 + 1) = zz at hd5 hs5 ⊢
        refine (pick_any w.heap.size (w.heap.size + 1) 202 _ _ hd5.out.cur (by decide) (by omega)).mono ?_
        rintro e p1 ⟨x, rfl, x0, x1, k1, q1⟩
        have hd1 := Lib.hid (hd5.out.only q1 k1)
        have hx : x ≤ 101 := by omega
        clear k1 q1 x1
        go_wp2_with fail
        refine (pick_any w.heap.size (w.heap.size + 1) 204 _ p1 hd1.out.cur (by decide) (by decide)).mono ?_
        rintro e p2 ⟨y, rfl, y0, y1, k2, q2⟩
        have hd2 := Lib.hid (hd1.out.only q2 k2)
        have hy : y ≤ 8 := by omega
        clear k2 q2 y1
        go_wp2_with fail
        refine (pick_any w.heap.size (w.heap.size + 1) 206 _ p2 hd2.out.cur (by decide) (by omega)).mono ?_
        rintro e p3 ⟨z, rfl, z0, z1, k3, q3⟩
        have hd3 := Lib.hid (hd2.out.only q3 k3)
        have hz : z ≤ 102 := by omega
        clear k3 q3 z1
        go_wp2_with fail
        refine (pick_any w.heap.size (w.heap.size + 1) 208 _ p3 hd3.out.cur (by decide) (by decide)).mono ?_
        rintro e p4 ⟨v, rfl, v0, v1, k4, q4⟩
        have hd4 := Lib.hid (hd3.out.only q4 k4)
        have hv : v ≤ 8 := by omega
        clear k4 q4 v1
        go_wp2_with fail
        go_ret3
        exact hd4.out.draw hs5.out hn2 _ _
    · have hq1 : decide (1 < n2) = false := decide_eq_false hp1
      go_wp2_with fail
      refine (pick_any w.heap.size (w.heap.size + 1) 200 _ w2 hd.out.cur (by decide) (by omega)).mono ?_
      rintro e p1 ⟨x, rfl, x0, x1, k1, q1⟩
      have hd1 := Lib.hid (hd.out.only q1 k1)
      have hx : x ≤ 101 := by omega
      clear k1 q1 x1
      go_wp2_with fail
      refine (pick_any w.heap.size (w.heap.size + 1) 202 _ p1 hd1.out.cur (by decide) (by decide)).mono ?_
      rintro e p2 ⟨y, rfl, y0, y1, k2, q2⟩
      have hd2 := Lib.hid (hd1.out.only q2 k2)
      have hy : y ≤ 8 := by omega
      clear k2 q2 y1
      go_wp2_with fail
      refine (pick_any w.heap.size (w.heap.size + 1) 204 _ p2 hd2.out.cur (by decide) (by omega)).mono ?_
      rintro e p3 ⟨z, rfl, z0, z1, k3, q3⟩
      have hd3 := Lib.hid (hd2.out.only q3 k3)
      have hz : z ≤ 102 := by omega
      clear k3 q3 z1
      go_wp2_with fail
      refine (pick_any w.heap.size (w.heap.size + 1) 206 _ p3 hd3.out.cur (by decide) (by decide)).mono ?_
      rintro e p4 ⟨v, rfl, v0, v1, k4, q4⟩
      have hd4 := Lib.hid (hd3.out.only q4 k4)
      have hv : v ≤ 8 := by omega
      clear k4 q4 v1
      go_wp2_with fail
      go_ret3
      exact hd4.out.draw hsh.out hn2 _ _
  · have hn20 : n2 = 0 := by omega
    subst hn20
    have hL0 : (0 : Nat) ≤ 100 := by omega
    go_wp2_with fail
    refine (pick_any w.heap.size (w.heap.size + 1) 200 _ w2 hd.out.cur (by decide) (by omega)).mono ?_
    rintro e p1 ⟨x, rfl, x0, x1, k1, q1⟩
    have hd1 := Lib.hid (hd.out.only q1 k1)
    have hx : x ≤ 101 := by omega
    clear k1 q1 x1
    go_wp2_with fail
    refine (pick_any w.heap.size (w.heap.size + 1) 202 _ p1 hd1.out.cur (by decide) (by decide)).mono ?_
    rintro e p2 ⟨y, rfl, y0, y1, k2, q2⟩
    have hd2 := Lib.hid (hd1.out.only q2 k2)
    have hy : y ≤ 8 := by omega
    clear k2 q2 y1
    go_wp2_with fail
    refine (pick_any w.heap.size (w.heap.size + 1) 204 _ p2 hd2.out.cur (by decide) (by omega)).mono ?_
    rintro e p3 ⟨z, rfl, z0, z1, k3, q3⟩
    have hd3 := Lib.hid (hd2.out.only q3 k3)
    have hz : z ≤ 102 := by omega
    clear k3 q3 z1
    go_wp2_with fail
    refine (pick_any w.heap.size (w.heap.size + 1) 206 _ p3 hd3.out.cur (by decide) (by decide)).mono ?_
    rintro e p4 ⟨v, rfl, v0, v1, k4, q4⟩
    have hd4 := Lib.hid (hd3.out.only q4 k4)
    have hv : v ≤ 8 := by omega
    clear k4 q4 v1
    go_wp2_with fail
    go_ret3
    exact hd4.out.draw hsh.out hn2 _ _
end Go.Proofs.Ythiegfbdmmpabab
