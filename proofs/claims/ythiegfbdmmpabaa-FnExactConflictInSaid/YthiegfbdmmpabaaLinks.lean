/- What is proved here: what the law's copying, comparing and marking of slices of links do, and that a slice of links that can be read as data holds a list of triples. No conditions but lengths. -/
import Derived.Test.YthiegfbdmmpabaaVotes
import Derived.Test.YthiegfbdmmpabaaPoolRes
import Derived.Test.YthiegfbdmmpabaaOpenVotes
namespace Go.Proofs.Ythiegfbdmmpabaa
open Go.RowKit

/-- The slice with the address A and n elements holds the links vs; where it is not nil it begins a block of its own, from block B on. -/
structure OwnL (w : World) (B : Nat) (A : Option Addr) (n : Nat) (vs : List Vt) : Prop where
  len : vs.length = n
  own : 0 < n → ∃ g m f, A = some ⟨g, 0, none⟩ ∧ n ≤ m ∧ w.rowIs g 93 (m * 3) f ∧ ∀ i, i < n * 3 → f i = cellsV vs i
  low : ∀ ad, A = some ad → B ≤ ad.block ∧ ad.block < w.heap.size
section
variable {w w' : World} {B B' n : Nat} {A : Option Addr} {vs : List Vt}
theorem OwnL.votes (h : OwnL w B A n vs) : VotesAt w w.heap.size A n vs :=
  ⟨h.len, fun k hk => by
    obtain ⟨g, m, f, e, hm, hr, hf⟩ := h.own (by omega)
    exact ⟨g, 0, e, hr.lt, by rw [Nat.zero_add, hr.cell (by omega), hf _ (by omega), cellsV_0], by rw [Nat.zero_add, hr.cell (by omega), hf _ (by omega), cellsV_1], by rw [Nat.zero_add, hr.cell (by omega), hf _ (by omega), cellsV_2]⟩⟩
theorem OwnL.fewer (h : OwnL w B A n vs) (hB : B' ≤ B) : OwnL w B' A n vs :=
  ⟨h.len, h.own, fun ad e => ⟨Nat.le_trans hB (h.low ad e).1, (h.low ad e).2⟩⟩
theorem OwnL.keep (h : OwnL w B A n vs) (hs : w.heap.size ≤ w'.heap.size) (hk : ∀ ad, A = some ad → w'.heap[ad.block]? = w.heap[ad.block]?) : OwnL w' B A n vs :=
  ⟨h.len, fun hn => by
    obtain ⟨g, m, f, e, hm, hr, hf⟩ := h.own hn
    exact ⟨g, m, f, e, hm, hr.of_block (hk _ e), hf⟩, fun ad e => ⟨(h.low ad e).1, Nat.lt_of_lt_of_le (h.low ad e).2 hs⟩⟩
theorem OwnL.below (h : OwnL w B A n vs) (hb : Below w.heap.size w w') : OwnL w' B A n vs :=
  h.keep hb.size (fun ad e => hb.block _ (h.low ad e).2)
theorem OwnL.drewN (h : OwnL w B A n vs) (k : Nat) : OwnL (w.drewN k) B A n vs := ⟨h.len, h.own, h.low⟩
theorem OwnL.only {A' : Option Addr} (h : OwnL w B A n vs) (ho : Only A' w w') (hd : ∀ ad ad', A = some ad → A' = some ad' → ad.block ≠ ad'.block) : OwnL w' B A n vs :=
  h.keep (by rw [ho.size]; exact Nat.le_refl _) (fun ad e => ho.block _ (fun ad' e' => hd ad ad' e e'))
theorem OwnL.nil (w : World) (B : Nat) : OwnL w B none 0 [] := ⟨rfl, fun h => absurd h (Nat.lt_irrefl _), fun _ e => by cases e⟩
theorem OwnL.of_row {g : Nat} (hl : vs.length = n) (hB : B ≤ g) (h : w.rowIs g 93 (n * 3) (cellsV vs)) : OwnL w B (some ⟨g, 0, none⟩) n vs :=
  ⟨hl, fun _ => ⟨g, n, _, rfl, Nat.le_refl _, h, fun _ _ => rfl⟩, fun ad e => by cases e; exact ⟨hB, h.lt⟩⟩
end
theorem toLink_any (x y z : Int) (w : World) :
    Calls Try.prog 83 #[.agg #[.int .i64 x, .int .i64 y, .int .i64 z]] w fun e w' => e = .returned (.agg #[.int .i64 x, .int .i64 y, .int .i64 z]) ∧ Below w.heap.size w w' := by
  have hb : ∀ a b c : Obj, Below w.heap.size w (((w.alloc a).alloc b).alloc c) := fun a b c => (((Below.refl _ w).alloc (Nat.le_refl _) a).alloc (by simp) b).alloc (by simp; omega) c
  have hB := Lib.hid hb; clear hb
  go_enter Try.func83, Try.ntmps83
  go_wp2
  refine bodyPost_ret (results_cell_row rfl _ _ (w.heap.size + 1) 93 #[.int .i64 x, .int .i64 y, .int .i64 z] (0, 0) _ rfl ?_ Try.underlying93 rfl (by kernel_rfl)) rfl ?_
  · rw [Below.heap_alloc _ _ _ (by simp)]
    exact heap_alloc2_new _ _ _
  · exact ⟨rfl, hB.out _ _ _⟩
theorem eqLink_any (x y z x' y' z' : Int) (w : World) :
    Calls Try.prog 87 #[.agg #[.int .i64 x, .int .i64 y, .int .i64 z], .agg #[.int .i64 x', .int .i64 y', .int .i64 z']] w fun e w' => e = .returned (.bool (x == x' && y == y' && z == z')) ∧ Below w.heap.size w w' := by
  have hb : ∀ a b : Obj, Below w.heap.size w ((w.alloc a).alloc b) := fun a b => ((Below.refl _ w).alloc (Nat.le_refl _) a).alloc (by simp) b
  have hB := Lib.hid hb; clear hb
  cases h1 : (x != x')
  · have e1 := Lib.hid (show (x == x') = true by simpa using h1)
    cases h2 : (y != y')
    · have e2 := Lib.hid (show (y == y') = true by simpa using h2)
      cases h3 : (z != z')
      · have e3 := Lib.hid (show (z == z') = true by simpa using h3)
        go_enter Try.func87, Try.ntmps87
        go_wp2
        go_ret
        exact ⟨ret_bool (by rw [e1.out, e2.out, e3.out]; rfl), hB.out _ _⟩
      · have e3 := Lib.hid (show (z == z') = false by simpa using h3)
        go_enter Try.func87, Try.ntmps87
        go_wp2
        go_ret
        exact ⟨ret_bool (by rw [e3.out]; simp), hB.out _ _⟩
    · have e2 := Lib.hid (show (y == y') = false by simpa using h2)
      go_enter Try.func87, Try.ntmps87
      go_wp2
      go_ret
      exact ⟨ret_bool (by rw [e2.out]; simp), hB.out _ _⟩
  · have e1 := Lib.hid (show (x == x') = false by simpa using h1)
    go_enter Try.func87, Try.ntmps87
    go_wp2
    go_ret
    exact ⟨ret_bool (by rw [e1.out]; simp), hB.out _ _⟩
theorem szLink_g (A : Option Addr) (n c : Nat) (L : Int) (w : World) (hn : n ≤ 9223372036854775807) (hL0 : 0 ≤ L) (hL1 : L ≤ 1048576) :
    Calls Try.prog 15 #[.slice A n c, .int .i64 L] w fun e w' => e = .returned (.int .i64 (if (n : Int) ≤ L then L - n else -1)) ∧ w = w' := by
  by_cases h : (n : Int) ≤ L
  · have hr := Lib.hid (show (if (n : Int) ≤ L then L - n else -1) = L - n from if_pos h)
    have h' : ¬ (L - (n : Int) < 0) := by omega
    go_enter Try.func15, Try.ntmps15
    go_wp2
    go_ret
    first | exact ⟨rfl, rfl⟩ | exact ⟨ret_int hr.out.symm, rfl⟩
  · have hr := Lib.hid (show (if (n : Int) ≤ L then L - n else -1) = -1 from if_neg h)
    have h' : L - (n : Int) < 0 := by omega
    go_enter Try.func15, Try.ntmps15
    go_wp2
    go_ret
    first | exact ⟨rfl, rfl⟩ | exact ⟨ret_int hr.out.symm, rfl⟩
theorem infoLink : (Try.prog.info? 93).map (fun i => (i.zero, i.size, i.bytes)) = some (some (.agg #[.int .i64 0, .int .i64 0, .int .i64 0]), 3, 24) := by kernel_rfl
theorem make_links (n : Nat) (hn : n ≤ 1048576) (w : World) :
    (Instr.makeSlice 31 (.int .i64 (n : Int)) (.int .i64 (n : Int))).run Try.prog w = .ok (.slice (some ⟨w.heap.size, 0, none⟩) n n) (w.alloc (.cells (madeCells #[.int .i64 0, .int .i64 0, .int .i64 0] (n * 3)) 93)) := by
  obtain ⟨i, hi, hzz⟩ := Option.map_eq_some_iff.1 infoLink
  simp only [Prod.mk.injEq] at hzz
  obtain ⟨hz, hs, hb⟩ := hzz
  have hr := run_make w 31 93 i _ Try.underlying31 hi hz .i64 .i64 n n (by omega) (Int.le_refl _) (by rw [hb]; omega) (by omega)
  rw [hs, Int.toNat_natCast] at hr
  exact hr
theorem row_links (w : World) (n : Nat) : (w.alloc (.cells (madeCells #[.int .i64 0, .int .i64 0, .int .i64 0] (n * 3)) 93)).rowIs w.heap.size 93 (n * 3) (fun _ => .int .i64 0) :=
  ⟨_, Go.Deep.blk_alloc_new _ _, size_madeCells _ _, fun i hi => by
    have h2 : i % 3 = 0 ∨ i % 3 = 1 ∨ i % 3 = 2 := by omega
    rcases h2 with h | h | h <;> simp [madeCells, hi, h]⟩
set_option maxHeartbeats 800000 in
theorem toLinkS_any (A : Option Addr) (n c : Nat) (vs : List Vt) (w : World) (h : VotesAt w w.heap.size A n vs) (hn : n ≤ 1048576) :
    Calls Try.prog 19 #[.slice A n c] w fun e w' => ∃ g, e = .returned (.slice (some ⟨g, 0, none⟩) n n) ∧
      w'.rowIs g 93 (n * 3) (cellsV vs) ∧ Below w.heap.size w w' ∧ w.heap.size ≤ g ∧ g < w'.heap.size := by
  have hl' := Lib.hid h.1
  have hr := Lib.hid h; clear h
  have hmk := fun W => make_links n hn W
  go_enter Try.func19, Try.ntmps19
  go_wp2_with fail
  go_loopw [4] (fun i wr => ∃ k : Nat, k ≤ n ∧ i = .int .i64 k ∧ wr.rowIs w.heap.size 93 (n * 3) (fun j => if j < k * 3 then cellsV vs j else .int .i64 0) ∧ Below w.heap.size w wr ∧ w.heap.size < wr.heap.size) (fun i _ => n - (intOf i).toNat)
  case atStart => exact ⟨0, Nat.zero_le _, rfl, (row_links w n).congr (by intro i hi; simp), (Below.refl _ _).alloc (Nat.le_refl _) _, by simp⟩
  case round =>
    obtain ⟨k, hk, rfl, hrow, hbel, hsz⟩ := hrel
    by_cases hlt : k < n
    · obtain ⟨b, off, rfl, hb, hc0, hd0, he0⟩ := hr.out.2 k hlt
      have hc := (hbel.cell (p := ⟨b, off + k * 3, none⟩) hb).trans hc0
      have hd := (hbel.cell (p := ⟨b, off + k * 3 + 1, none⟩) hb).trans hd0
      have he := (hbel.cell (p := ⟨b, off + k * 3 + 2, none⟩) hb).trans he0
      have hrow' := Lib.hid hrow; clear hrow hc0 hd0 he0
      have hbel' := Lib.hid hbel; clear hbel
      go_wp2_with fail
      refine (toLink_any _ _ _ _).mono ?_
      rintro e w2 ⟨rfl, hb2⟩
      have hrow2 := rowIs_below hrow'.out hb2 (by omega)
      have hs2 := hb2.size
      have c1 := hrow2.cell (i := k * 3) (by omega)
      have c2 := hrow2.cell (i := k * 3 + 1) (by omega)
      have c3 := hrow2.cell (i := k * 3 + 2) (by omega)
      have f1 := hrow2.frozen (k * 3)
      have f2 := hrow2.frozen (k * 3 + 1)
      have f3 := hrow2.frozen (k * 3 + 2)
      have hrow3 := Lib.hid hrow2
      have hbel2 := Lib.hid (hbel'.out.trans (hb2.mono (Nat.le_of_lt hsz)))
      clear hrow2 hb2
      go_wp2_with fail
      go_roundw
      case rel =>
        refine ⟨k + 1, by omega, by go_num, (((hrow3.out.set (k * 3) _).set (k * 3 + 1) _).set (k * 3 + 2) _).congr ?_, ((hbel2.out.setCell (by simp) _).setCell (by simp) _).setCell (by simp) _, by simp; omega⟩
        intro j hj
        by_cases e3 : j = k * 3 + 2
        · subst e3; rw [if_pos rfl, if_pos (by omega), cellsV_2]
        · rw [if_neg e3]
          by_cases e2 : j = k * 3 + 1
          · subst e2; rw [if_pos rfl, if_pos (by omega), cellsV_1]
          · rw [if_neg e2]
            by_cases e1 : j = k * 3
            · subst e1; rw [if_pos rfl, if_pos (by omega), cellsV_0]
            · rw [if_neg e1]
              by_cases e4 : j < k * 3
              · rw [if_pos e4, if_pos (by omega)]
              · rw [if_neg e4, if_neg (by omega)]
      case measure => simp [intOf]; omega
    · have hrow' := Lib.hid hrow; clear hrow
      go_wp2_with fail
      go_ret
      exact ⟨_, rfl, hrow'.out.congr (by intro j hj; simp [show j < k * 3 by omega]), hbel, Nat.le_refl _, hsz⟩
set_option maxHeartbeats 800000 in
theorem eqLinkS_b (A A' : Option Addr) (n n' c c' : Nat) (vs : List Vt) (w : World) (h : VotesAt w w.heap.size A n vs) (h' : VotesAt w w.heap.size A' n' vs) (hn : n ≤ 1048576) (hn' : n' ≤ 1048576) :
    Calls Try.prog 23 #[.slice A n c, .slice A' n' c'] w fun e w' => e = .returned (.bool true) ∧ Below w.heap.size w w' := by
  have he : n = n' := h.1.symm.trans h'.1
  subst he
  have hr := Lib.hid h; clear h
  have hr2 := Lib.hid h'; clear h'
  have hne : ((n : Int) != (n : Int)) = false := by simp
  go_enter Try.func23, Try.ntmps23
  go_wp2_with fail
  go_loopw [5] (fun i wr => ∃ k : Nat, k ≤ n ∧ i = .int .i64 k ∧ Below w.heap.size w wr) (fun i _ => n - (intOf i).toNat)
  case atStart => exact ⟨0, Nat.zero_le _, rfl, Below.refl _ _⟩
  case round =>
    obtain ⟨k, hk, rfl, hbel⟩ := hrel
    by_cases hlt : k < n
    · obtain ⟨b, off, rfl, hb, hc0, hd0, he0⟩ := hr.out.2 k hlt
      obtain ⟨b', off', rfl, hb', hc0', hd0', he0'⟩ := hr2.out.2 k hlt
      have hc := (hbel.cell (p := ⟨b, off + k * 3, none⟩) hb).trans hc0
      have hd := (hbel.cell (p := ⟨b, off + k * 3 + 1, none⟩) hb).trans hd0
      have he := (hbel.cell (p := ⟨b, off + k * 3 + 2, none⟩) hb).trans he0
      have hc' := (hbel.cell (p := ⟨b', off' + k * 3, none⟩) hb').trans hc0'
      have hd' := (hbel.cell (p := ⟨b', off' + k * 3 + 1, none⟩) hb').trans hd0'
      have he' := (hbel.cell (p := ⟨b', off' + k * 3 + 2, none⟩) hb').trans he0'
      have hbel' := Lib.hid hbel; clear hbel hc0 hd0 he0 hc0' hd0' he0'
      have hx := Lib.hid (show ((getV vs k).1 == (getV vs k).1 && (getV vs k).2.1 == (getV vs k).2.1 && (getV vs k).2.2 == (getV vs k).2.2) = true by simp)
      go_wp2_with fail
      go_region_with (go_at_call 87; refine (eqLink_any _ _ _ _ _ _ _).mono ?_; rintro e w2 ⟨rfl, hb2⟩; rw [hx.out]; have hb3 := Lib.hid (hbel'.out.trans ((show Below wr.heap.size wr w2 from ⟨hb2.os, hb2.tape, hb2.output, hb2.size, hb2.block⟩).mono hbel'.out.size)); clear hb2)
      all_goals
        go_wp2_with fail
        go_roundw
        case rel => exact ⟨k + 1, by omega, by go_num, hb3.out⟩
        case measure => simp [intOf]; omega
    · go_wp2_with fail
      go_ret
      exact ⟨rfl, hbel⟩
set_option maxHeartbeats 800000 in
theorem markLinks_b (A : Option Addr) (n c B : Nat) (vs : List Vt) (k : Int) (w : World) (h : OwnL w B A n vs) (hn : n ≤ 1048576) (hk0 : 0 ≤ k) (hk1 : k ≤ 4294967296) :
    Calls Try.prog 28 #[.slice A n c, .int .i64 k] w fun e w' => e = .returned (.int .i64 (k + n * 3)) ∧ OwnL w' B A n (vmarks k n) ∧ Only A w w' := by
  by_cases h0 : n = 0
  · subst h0
    have hF := Lib.hid (show OwnL w B A 0 (vmarks k 0) from ⟨by simp [vmarks], fun h => absurd h (Nat.lt_irrefl _), h.low⟩)
    clear h
    go_enter Try.func28, Try.ntmps28
    go_wp2_with fail
    go_loop [1, 5] (fun a i => a = .int .i64 k ∧ i = .int .i64 0) (fun _ _ => 0)
    case atStart => exact ⟨rfl, rfl⟩
    case round =>
      obtain ⟨rfl, rfl⟩ := hrel
      go_wp2_with fail
      go_ret
      exact ⟨ret_int (by simp), hF.out, Only.refl _ _⟩
  · obtain ⟨g, m, f, rfl, hm, hr, hf⟩ := h.own (by omega)
    have hlow := Lib.hid h.low
    clear h hf
    have hr' := Lib.hid hr; clear hr
    go_enter Try.func28, Try.ntmps28
    go_wp2_with fail
    go_loopw [1, 5] (fun a i wr => ∃ j : Nat, j ≤ n ∧ i = .int .i64 j ∧ a = .int .i64 (k + j * 3) ∧ (∃ f', wr.rowIs g 93 (m * 3) f' ∧ Hid (∀ i, i < j * 3 → f' i = .int .i64 (k + (i : Int)))) ∧ Only (some ⟨g, 0, none⟩) w wr) (fun _ i _ => n - (intOf i).toNat)
    case atStart => exact ⟨0, Nat.zero_le _, rfl, by simp, ⟨f, hr'.out, Lib.hid (fun _ h => absurd h (by omega))⟩, Only.refl _ _⟩
    case round =>
      obtain ⟨j, hj, rfl, rfl, ⟨f', hrow, hf'⟩, honly⟩ := hrel
      have ho := Lib.hid honly; clear honly
      by_cases hlt : j < n
      · have c1 := hrow.cell (i := j * 3) (by omega)
        have c2 := hrow.cell (i := j * 3 + 1) (by omega)
        have c3 := hrow.cell (i := j * 3 + 2) (by omega)
        have f1 := hrow.frozen (j * 3)
        have f2 := hrow.frozen (j * 3 + 1)
        have f3 := hrow.frozen (j * 3 + 2)
        have hrow' := Lib.hid hrow; clear hrow
        go_wp2_with fail
        go_roundw
        case rel =>
          refine ⟨j + 1, by omega, by go_num, by go_num, ⟨_, ((hrow'.out.set (j * 3) _).set (j * 3 + 1) _).set (j * 3 + 2) _, Lib.hid (fun i hi => ?_)⟩, ((ho.out.set _).set _).set _⟩
          by_cases e3 : i = j * 3 + 2
          · subst e3; rw [if_pos rfl]; congr 1 <;> omega
          · rw [if_neg e3]
            by_cases e2 : i = j * 3 + 1
            · subst e2; rw [if_pos rfl]; congr 1 <;> omega
            · rw [if_neg e2]
              by_cases e1 : i = j * 3
              · subst e1; rw [if_pos rfl]; congr 1 <;> omega
              · rw [if_neg e1]; exact hf'.out i (by omega)
        case measure => simp [intOf]; omega
      · have hrow' := Lib.hid hrow; clear hrow
        go_wp2_with fail
        go_ret
        refine ⟨ret_int (by omega), ⟨vmarks_len _ _, fun _ => ⟨g, m, f', rfl, hm, hrow'.out, fun i hi => ?_⟩, fun ad e => ⟨(hlow.out ad e).1, by rw [ho.out.size]; exact (hlow.out ad e).2⟩⟩, ho.out⟩
        rw [hf'.out i (by omega), cells_vmarks hi]
theorem row_linksB {w : World} {g n : Nat} {vs : List Vt} (hl : vs.length = n) (h : w.rowIs g 93 (n * 3) (cellsV vs)) : VotesAt w w.heap.size (some ⟨g, 0, none⟩) n vs := VotesAt.of_row h.lt hl (Nat.le_refl _) h
theorem markLinksG_b (g n c : Nat) (vs : List Vt) (k : Int) (w : World) (hl : vs.length = n) (h : w.rowIs g 93 (n * 3) (cellsV vs)) (hn : n ≤ 1048576) (hk0 : 0 ≤ k) (hk1 : k ≤ 4294967296) :
    Calls Try.prog 28 #[.slice (some ⟨g, 0, none⟩) n c, .int .i64 k] w fun e w' => e = .returned (.int .i64 (k + n * 3)) ∧ Only (some ⟨g, 0, none⟩) w w' :=
  (markLinks_b _ n c g vs k w (OwnL.of_row hl (Nat.le_refl _) h) hn hk0 hk1).mono fun _ _ ⟨he, _, ho⟩ => ⟨he, ho⟩
theorem toLinks_g (A : Option Addr) (n c : Nat) (vs : List Vt) (w : World) (h : VotesAt w w.heap.size A n vs) (hn : n ≤ 1048576) :
    Calls Try.prog 19 #[.slice A n c] w fun e w' => ∃ g, e = .returned (.slice (some ⟨g, 0, none⟩) n n) ∧ w'.rowIs g 93 (n * 3) (cellsV vs) ∧ Below w.heap.size w w' ∧ w.heap.size ≤ g ∧ g < w'.heap.size :=
  toLinkS_any A n c vs w h hn
end Go.Proofs.Ythiegfbdmmpabaa

/- What is proved here: a slice of links that can be read as data holds a list of triples. No conditions. -/
namespace Go.Proofs.Ythiegfbdmmpabaa
open Go.ChangeShapes Go.WideShapes Go.RowKit
set_option maxRecDepth 100000 in
theorem open_links {H : Type} {enc : TypeId × Value → H} {W : World} {fuel : Nat} {u : Value} {y : DataW H × List MemPlace} (h : DataW.trod enc Try.prog W 0 (fun _ => true) true fuel 24 [u] = some y) :
    ∃ a len cap vs, u = .slice a len cap ∧ VotesAt W W.heap.size a len vs ∧ len ≤ 9223372036854775807 := by
  rcases Go.Deep.open_slice Try.underlying24 h with ⟨hcs, _⟩ | ⟨a, len, cap, m, n, D, Pl, hcs, _, hl, hm, hmm, _, hx⟩
  · injection hcs with hcs _
    subst hcs
    exact ⟨none, 0, 0, [], rfl, VotesAt.nil, Nat.zero_le _⟩
  · injection hcs with hcs _
    subst hcs
    have hmc : m = cap := by simpa using hmm
    have c3 : Try.prog.cellsOf 3 = 1 := by kernel_rfl
    have each : ∀ i, i < m → ∃ q : Vt, W.cell? (a.add (i * 3)) = some (.int .i64 q.1) ∧ W.cell? (a.add (i * 3 + 1)) = some (.int .i64 q.2.1) ∧ W.cell? (a.add (i * 3 + 2)) = some (.int .i64 q.2.2) := by
      intro i hi
      obtain ⟨cs', h1, h2⟩ := hx i hi
      rw [show Try.prog.cellsOf 101 = 3 from by kernel_rfl] at h1
      obtain ⟨_, hlen, hcell⟩ := World.cells?_some h1
      obtain ⟨y0, y1, y2, k, _, _, g0, g1, g2⟩ := Go.Deep.trod_struct3 Try.underlying101 h2
      obtain ⟨v0, v1, v2, rfl⟩ := list3 hlen
      · skip
        simp [c3] at g0 g1 g2
        have e0 := hcell 0 (by omega)
        have e1 := hcell 1 (by omega)
        have e2 := hcell 2 (by omega)
        rw [Go.Deep.add_add] at e0 e1 e2
        obtain ⟨x0, hx0, _⟩ := DataW.trod_int Try.underlying3 g0
        obtain ⟨x1, hx1, _⟩ := DataW.trod_int Try.underlying3 g1
        obtain ⟨x2, hx2, _⟩ := DataW.trod_int Try.underlying3 g2
        have k0 : v0 = .int .i64 x0 := by simpa using hx0
        have k1 : v1 = .int .i64 x1 := by simpa using hx1
        have k2 : v2 = .int .i64 x2 := by simpa using hx2
        subst k0; subst k1; subst k2
        exact ⟨(x0, x1, x2), by simpa using e0, by simpa using e1, by simpa using e2⟩
    obtain ⟨q, hq⟩ := Go.Deep.choose_lt each
    refine ⟨some a, len, cap, (List.range len).map q, rfl, ⟨by simp, fun i hi => ?_⟩, by unfold maxLen at hm; omega⟩
    obtain ⟨hc0, hc1, hc2⟩ := hq i (by omega)
    obtain ⟨b, off, spot⟩ := a
    have hs : spot = none := by simpa [Addr.add] using World.cell?_spot (hq 0 (by omega)).1
    subst hs
    have hb := World.block_lt_of_cell? W _ hc0
    have e0 : (⟨b, off, none⟩ : Addr).add (i * 3) = ⟨b, off + i * 3, none⟩ := by
      unfold Addr.add; by_cases e : i * 3 = 0 <;> simp [e]
    have e1 : (⟨b, off, none⟩ : Addr).add (i * 3 + 1) = ⟨b, off + i * 3 + 1, none⟩ := by
      unfold Addr.add; simp [Nat.add_assoc]
    have e2 : (⟨b, off, none⟩ : Addr).add (i * 3 + 2) = ⟨b, off + i * 3 + 2, none⟩ := by
      unfold Addr.add; simp [Nat.add_assoc]
    rw [e0] at hc0 hb
    rw [e1] at hc1
    rw [e2] at hc2
    have hg : getV ((List.range len).map q) i = q i := by unfold getV; simp [hi]
    rw [hg]
    exact ⟨b, off, rfl, hb, hc0, hc1, hc2⟩
end Go.Proofs.Ythiegfbdmmpabaa
