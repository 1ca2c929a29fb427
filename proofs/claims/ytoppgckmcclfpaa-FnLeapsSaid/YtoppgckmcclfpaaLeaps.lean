/- What is proved here: LeapsOf of the program. No conditions. -/
import Derived.Test.YtoppgckmcclfpaaJumps
import Derived.Test.YtoppgckmcclfpaaRowsMarks
import Derived.Test.YtoppgckmcclfpaaCursor
namespace Go.Proofs.Ytoppgckmcclfpaa
open Go.RowKit

/-- The first k jump pointers of block b, as far as they lead to a block. -/
def leapsL (ts : List Blk) (b k : Nat) : List Int := ((List.range k).map (jmp ts b)).filter fun z => z != -1
theorem leapsL_zero (ts : List Blk) (b : Nat) : leapsL ts b 0 = [] := rfl
theorem leapsL_yes {ts : List Blk} {b k : Nat} (h : (jmp ts b k != -1) = true) : leapsL ts b (k + 1) = leapsL ts b k ++ [jmp ts b k] := by
  unfold leapsL; rw [List.range_succ, List.map_append, List.filter_append]; simp at h; simp [h]
theorem leapsL_no {ts : List Blk} {b k : Nat} (h : (jmp ts b k != -1) = false) : leapsL ts b (k + 1) = leapsL ts b k := by
  unfold leapsL; rw [List.range_succ, List.map_append, List.filter_append]; simp at h; simp [h]
theorem leapsL_len (ts : List Blk) (b k : Nat) : (leapsL ts b k).length ≤ k := by
  unfold leapsL; exact Nat.le_trans (List.length_filter_le _ _) (by simp)
def leapsT (ts : List Blk) : List (List Int) := (List.range ts.length).map fun b => leapsL ts b 5
def leapsR (ts : List Blk) : List (List Int) := if goodT ts then leapsT ts else []
theorem leapsT_row {ts : List Blk} {b : Nat} (hb : b < ts.length) : rowG (leapsT ts) b = leapsL ts b 5 := by
  unfold rowG leapsT; simp [hb]
theorem leapsT_len (ts : List Blk) : (leapsT ts).length = ts.length := by simp [leapsT]
theorem leapsR_short (ts : List Blk) : short (leapsR ts) := by
  intro i
  unfold leapsR
  cases goodT ts
  · simp [rowG]
  · by_cases h : i < ts.length
    · have := leapsL_len ts i 5
      show (rowG (leapsT ts) i).length ≤ 100
      rw [leapsT_row h]; omega
    · show (rowG (leapsT ts) i).length ≤ 100
      unfold rowG leapsT
      rw [List.getElem?_eq_none (by simp; omega)]; simp

theorem ji0 (x0 x1 x2 x3 x4 : Int) (w : World) : (Instr.index 71 (.agg #[.int .i64 x0, .int .i64 x1, .int .i64 x2, .int .i64 x3, .int .i64 x4]) (.int .i64 0)).run Try.prog w = .ok (.int .i64 x0) w := by kernel_rfl
theorem ji1 (x0 x1 x2 x3 x4 : Int) (w : World) : (Instr.index 71 (.agg #[.int .i64 x0, .int .i64 x1, .int .i64 x2, .int .i64 x3, .int .i64 x4]) (.int .i64 1)).run Try.prog w = .ok (.int .i64 x1) w := by kernel_rfl
theorem ji2 (x0 x1 x2 x3 x4 : Int) (w : World) : (Instr.index 71 (.agg #[.int .i64 x0, .int .i64 x1, .int .i64 x2, .int .i64 x3, .int .i64 x4]) (.int .i64 2)).run Try.prog w = .ok (.int .i64 x2) w := by kernel_rfl
theorem ji3 (x0 x1 x2 x3 x4 : Int) (w : World) : (Instr.index 71 (.agg #[.int .i64 x0, .int .i64 x1, .int .i64 x2, .int .i64 x3, .int .i64 x4]) (.int .i64 3)).run Try.prog w = .ok (.int .i64 x3) w := by kernel_rfl
theorem ji4 (x0 x1 x2 x3 x4 : Int) (w : World) : (Instr.index 71 (.agg #[.int .i64 x0, .int .i64 x1, .int .i64 x2, .int .i64 x3, .int .i64 x4]) (.int .i64 4)).run Try.prog w = .ok (.int .i64 x4) w := by kernel_rfl
theorem idx_jump (ts : List Blk) (b k : Nat) (hk : k < 5) (w : World) : (Instr.index 71 (.agg #[.int .i64 (jmp ts b 0), .int .i64 (jmp ts b 1), .int .i64 (jmp ts b 2), .int .i64 (jmp ts b 3), .int .i64 (jmp ts b 4)]) (.int .i64 (k : Int))).run Try.prog w = .ok (.int .i64 (jmp ts b k)) w := by
  have : k = 0 ∨ k = 1 ∨ k = 2 ∨ k = 3 ∨ k = 4 := by omega
  rcases this with rfl | rfl | rfl | rfl | rfl
  · exact ji0 _ _ _ _ _ w
  · exact ji1 _ _ _ _ _ w
  · exact ji2 _ _ _ _ _ w
  · exact ji3 _ _ _ _ _ w
  · exact ji4 _ _ _ _ _ w
theorem infoInts : (Try.prog.info? 31).map (fun i => (i.zero, i.size, i.bytes)) = some (some (.slice none 0 0), 1, 24) := by kernel_rfl
theorem Grew.set {g B i : Nat} {w w' : World} (h : Grew g B w w') (v : Value) : Grew g B w (w'.setCell ⟨g, i, none⟩ v) :=
  ⟨h.os, h.tape, h.output, by simpa [World.setCell] using h.size, fun k hk hn => (Below.heap_setCell w' ⟨g, i, none⟩ v k hn).trans (h.block k hk hn)⟩

/-- The rows that are done, b of them, in the outer block gO. -/
structure RowsTo (w0 w : World) (gO n b : Nat) (f : Nat → Value) (ad : Nat → Option Addr) (ca : Nat → Nat) (ts : List Blk) : Prop where
  done : ∀ i, i < b → f i = .slice (ad i) (leapsL ts i 5).length (ca i) ∧ OwnAt w w0.heap.size (ad i) (leapsL ts i 5).length (leapsL ts i 5) ∧ ∀ x, ad i = some x → x.block ≠ gO
  todo : ∀ i, b ≤ i → i < n → f i = .slice none 0 0
  apart : ∀ i j, i < b → j < b → i ≠ j → ∀ x y, ad i = some x → ad j = some y → x.block ≠ y.block
/-- The memory of LeapsOf: the jump pointers in block gJ, the rows in block gO. -/
structure LeapSt (w0 w : World) (gJ gO : Nat) (cs : Array Value) (n b : Nat) (ts : List Blk) : Prop where
  jrow : w.heap[gJ]? = some (.cells cs 72 (0, 0))
  bel : Below w0.heap.size w0 w
  out : ∃ f ad ca, w.rowIs gO 31 n f ∧ RowsTo w0 w gO n b f ad ca ts

/-- One row is done. -/
theorem LeapSt.next {w0 w1 w : World} {gJ gO n b : Nat} {cs : Array Value} {ts : List Blk} {f : Nat → Value} {ad : Nat → Option Addr} {ca : Nat → Nat} {v : Value}
    (hj : w1.heap[gJ]? = some (.cells cs 72 (0, 0))) (hne : gJ ≠ gO) (hlow : w0.heap.size ≤ gO) (hb1 : Below w0.heap.size w0 w1) (hr1 : RowsTo w0 w1 gO n b f ad ca ts)
    (hg : Grew gO w1.heap.size w1 w) (hO : gO < w1.heap.size) (hrow : w.rowIs gO 31 n (fun i => if i = b then v else f i)) (hown : w.ownsRow w1.heap.size 3 1 v (leapsL ts b 5).length ((leapsL ts b 5).map (Value.int .i64))) :
    LeapSt w0 w gJ gO cs n (b + 1) ts := by
  obtain ⟨A, c, rfl, ho⟩ := OwnAt.of_owns hown
  refine ⟨(hg.block gJ (Array.getElem?_eq_some_iff.1 hj).1 hne).trans hj, hb1.trans ((hg.mono hb1.size).below hlow), _, fun i => if i = b then A else ad i, fun i => if i = b then c else ca i, hrow, ⟨fun i hi => ?_, fun i h1 h2 => ?_, fun i j hi hj' hij x y hx hy => ?_⟩⟩
  · by_cases e : i = b
    · subst e
      refine ⟨by simp, by simpa using ho.fewer hb1.size, fun x hx => ?_⟩
      simp only [if_true] at hx
      have := (ho.low x hx).1; omega
    · simp only [e, if_false]
      obtain ⟨a1, a2, a3⟩ := hr1.done i (by omega)
      exact ⟨a1, a2.keep hg.size (fun x hx => hg.block _ (a2.low x hx).2 (a3 x hx)), a3⟩
  · have e : i ≠ b := by omega
    simp only [e, if_false]
    exact hr1.todo i (by omega) h2
  · by_cases e1 : i = b
    · have e2 : j ≠ b := by omega
      simp only [e1, if_true] at hx
      simp only [e2, if_false] at hy
      have l1 := (ho.low x hx).1
      have l2 := ((hr1.done j (by omega)).2.1.low y hy).2
      omega
    · by_cases e2 : j = b
      · simp only [e1, if_false] at hx
        simp only [e2, if_true] at hy
        have l1 := (ho.low y hy).1
        have l2 := ((hr1.done i (by omega)).2.1.low x hx).2
        omega
      · simp only [e1, if_false] at hx
        simp only [e2, if_false] at hy
        exact hr1.apart i j (by omega) (by omega) hij x y hx hy

def RetRows (w : World) (b : Bool) (rows : List (List Int)) (e : Ending) (w' : World) : Prop :=
  ∃ A n c, e = .returned (.tuple #[.slice A n c, .bool b]) ∧ rows.length = n ∧ RowsOwn w' w.heap.size A n (rowG rows) ∧ Below w.heap.size w w'

set_option maxRecDepth 100000 in
set_option maxHeartbeats 800000 in
theorem implLeaps_any (A : Option Addr) (n c : Nat) (ts : List Blk) (w : World) (h : BlksAt w w.heap.size A n ts) (hn : n ≤ 1048576) :
    Calls Try.prog 29 #[.slice A n c] w (RetRows w (goodT ts) (leapsR ts)) := by
  have hl := Lib.hid h.1
  have hh := Lib.hid h; clear h
  cases hg : goodT ts
  · have hr := Lib.hid (show leapsR ts = [] by unfold leapsR; rw [hg]; rfl)
    go_enter Try.func29, Try.ntmps29
    go_wp2_with (go_at_call 20; refine (implGoodT_any _ _ _ ts _ hh.out hn).mono ?_; rintro e w1 ⟨rfl, b1⟩; rw [hg])
    go_ret2
    exact ⟨none, 0, 0, rfl, by rw [hr.out]; rfl, ⟨fun h => absurd h (Nat.lt_irrefl _)⟩, b1⟩
  · have hr := Lib.hid (show leapsR ts = leapsT ts by unfold leapsR; rw [hg]; rfl)
    have ht := goodT_iff.1 hg
    have hfew : n ≤ 24 := by rw [← hl.out]; exact ht.few
    have hpos : 0 < n := by rw [← hl.out]; exact ht.pos
    obtain ⟨i0, hi0, hz0, hz1, hz2⟩ := info_parts info3
    have hz := (zero_of_info infoJumps).1
    have hmk := fun W => run_make_row' (P := Try.prog) 42 31 (.slice none 0 0) 24 Try.underlying42 infoInts rfl .i64 .i64 n (by omega) (by omega) W
    go_enter Try.func29, Try.ntmps29
    go_wp2_with (go_at_call 20; refine (implGoodT_any _ _ _ ts _ hh.out hn).mono ?_; rintro e w1 ⟨rfl, b1⟩; rw [hg]; have u1 := Lib.hid b1; have h1 := Lib.hid (hh.out.up b1); clear b1)
    refine (leapsIn_any _ _ _ ts _ h1.out ht).mono ?_
    rintro e w2 ⟨cs, rfl, hj, hone, b2⟩
    have u2 := Lib.hid (u1.out.trans (b2.mono u1.out.size)); clear b2
    have hsz' := Lib.hid hj.1
    have hj' := Lib.hid hj; clear hj
    have hone' := Lib.hid hone; clear hone
    go_wp2_with (refine wpList_store_row rfl 72 _ _ rfl w2.heap.size cs rfl rfl 72 (Array.replicate 120 (.int .i64 0)) (heap_alloc_new _ _) (by rw [hsz'.out]; kernel_rfl) (by rw [hsz'.out]; simp) hone'.out ?_)
    rw [World.setRow_alloc_new]
    have hst := Lib.hid (show LeapSt w ((w2.alloc (.cells cs 72)).alloc (.cells (madeCells #[.slice none 0 0] n) 31)) w2.heap.size (w2.heap.size + 1) cs n 0 ts from
      ⟨heap_alloc2_old _ _ _, (u2.out.alloc u2.out.size _).alloc (by have := u2.out.size; simp; omega) _, _, fun _ => none, fun _ => 0, ⟨_, heap_alloc2_new _ _ _, size_madeCells _ _, fun i hi => by simp [madeCells, hi, Nat.mod_one]⟩,
        ⟨fun i hi => absurd hi (Nat.not_lt_zero _), fun i _ _ => rfl, fun i j hi => absurd hi (Nat.not_lt_zero _)⟩⟩)
    have hOJ : w2.heap.size ≠ w2.heap.size + 1 := by omega
    have hlow : w.heap.size ≤ w2.heap.size + 1 := by have := u2.out.size; omega
    generalize (w2.alloc (.cells cs 72)).alloc (.cells (madeCells #[.slice none 0 0] n) 31) = w3 at hst ⊢
    generalize w2.heap.size + 1 = gO at hst hOJ hlow ⊢
    generalize w2.heap.size = gJ at hst hOJ ⊢
    clear hmk hz u2 u1 h1 hsz' hone'
    have hOJ' := Lib.hid hOJ; clear hOJ
    go_loopw [19] (fun i wr => ∃ b : Nat, b ≤ n ∧ i = .int .i64 b ∧ Hid (LeapSt w wr gJ gO cs n b ts)) (fun i _ => n - (intOf i).toNat)
    case atStart => exact ⟨0, Nat.zero_le _, rfl, hst⟩
    case round =>
      obtain ⟨b, hb, rfl, hs⟩ := hrel
      by_cases hlt : b < n
      · have hbl : b < ts.length := by rw [hl.out]; exact hlt
        have hcell := Lib.hid (fun (k : Nat) (hk : k < 5) => show wr.cell? ⟨gJ, b * 5 + k, none⟩ = some (.int .i64 (jmp ts b k)) by
          rw [cell_of_row _ _ _ _ _ _ hs.out.jrow, hj'.out.2 _ (by omega), jmpC_at ts hk])
        have a0 := hcell.out 0 (by omega)
        have a1 := hcell.out 1 (by omega)
        have a2 := hcell.out 2 (by omega)
        have a3 := hcell.out 3 (by omega)
        have a4 := hcell.out 4 (by omega)
        rw [Nat.add_zero] at a0
        obtain ⟨f, ad, ca, hrow, hrt⟩ := hs.out.out
        have hrow0 := Lib.hid hrow; have hrt' := Lib.hid hrt
        have hO := hrow.lt
        have hstart := Lib.hid (show wr.rowIs gO 31 n (fun i => if i = b then .slice none 0 0 else f i) from hrow.congr (fun i hi => by
          by_cases e : i = b
          · subst e; rw [if_pos rfl]; exact hrt.todo i (Nat.le_refl _) hi
          · rw [if_neg e]))
        clear hrow hrt hcell
        go_wp2_with fail
        clear a0 a1 a2 a3 a4
        obtain ⟨w1, hw1⟩ : ∃ w1, w1 = wr := ⟨_, rfl⟩
        have hw1' := Lib.hid hw1
        have hO1 : gO < w1.heap.size := by rw [hw1]; exact hO
        clear hw1
        go_loopw [25] (fun i wq => ∃ (k : Nat) (v : Value), k ≤ 5 ∧ i = .int .i64 k ∧ Hid (wq.rowIs gO 31 n (fun i => if i = b then v else f i)) ∧ Hid (wq.ownsRow w1.heap.size 3 1 v (leapsL ts b k).length ((leapsL ts b k).map (Value.int .i64))) ∧ Hid (Grew gO w1.heap.size w1 wq)) (fun i _ => 5 - (intOf i).toNat)
        case atStart => exact ⟨0, .slice none 0 0, by omega, rfl, hstart, Lib.hid (World.ownsRow_nil _ _ _ _), Lib.hid (by rw [hw1'.out]; exact Grew.refl _ _ _)⟩
        case round =>
          obtain ⟨k, v, hk, rfl, hrw, how, hgr⟩ := hrel
          by_cases hk5 : k < 5
          · have hidx := fun W => idx_jump ts b k hk5 W
            cases hm : (jmp ts b k != -1)
            · have hno := Lib.hid (leapsL_no hm)
              go_wp2_with fail
              go_roundw
              case rel => exact ⟨k + 1, v, by omega, by go_num, hrw, by rw [hno.out]; exact how, hgr⟩
              case measure => simp [intOf]; omega
            · have hyes := Lib.hid (leapsL_yes hm)
              have hlen := leapsL_len ts b k
              have hc := hrw.out.cell (i := b) hlt
              rw [if_pos rfl] at hc
              have hown := how.out
              have hszq : w1.heap.size ≤ wr.heap.size := hgr.out.size
              go_wp2_with (at_builtin; refine wpList_append_own _ rfl _ _ 31 rfl w1.heap.size 3 i0 (.int .i64 0) 1 8 Try.underlying31 hi0 hz0 hz1 hz2 rfl (by decide) _ _ _ rfl (hown.alloc _) ⟨wr.heap.size, 0, none⟩ 1 1 [.int .i64 (jmp ts b k)] rfl rfl ?c1 ?c2 ?c3 ?c4 ?c5 ?_)
              case c1 =>
                intro j u hj
                match j, hj with
                | 0, hj => simp at hj; subst hj; simp [Addr.add]
              case c2 => intro u hu; simp at hu; subst hu; rfl
              case c3 => unfold maxLen; omega
              case c4 => omega
              case c5 => simp; omega
              intro v' w4 hown4 hgrow _
              have hown5 : w4.ownsRow w1.heap.size 3 1 v' (leapsL ts b k ++ [jmp ts b k]).length ((leapsL ts b k ++ [jmp ts b k]).map (Value.int .i64)) := by simpa using hown4
              obtain ⟨A5, c5, rfl, _⟩ := OwnAt.of_owns hown5
              have hb4 : Below w1.heap.size wr w4 := ((Below.refl w1.heap.size wr).alloc hszq _).grown hgrow (by simp; omega) (fun g hg => (hown.lt g hg).1)
              have hrw4 := rowIs_below hrw.out hb4 hO1
              have cc := hrw4.cell hlt
              have ff := hrw4.frozen b
              have hrw5 := Lib.hid hrw4; have how5 := Lib.hid hown5; have hgr5 := Lib.hid (hgr.out.trans (Grew.of_below hb4))
              clear hown4 hgrow hown hb4 hrw4 hown5 hc
              go_wp2_with fail
              go_roundw
              case rel =>
                refine ⟨k + 1, _, by omega, by go_num, Lib.hid ((hrw5.out.set b _).congr (fun i hi => ?_)), Lib.hid (ownsRow_setCell_below (by rw [hyes.out]; exact how5.out) hO1 _), Lib.hid (hgr5.out.set _)⟩
                by_cases e : i = b
                · rw [if_pos e, if_pos e]; simp
                · rw [if_neg e, if_neg e, if_neg e]
              case measure => simp [intOf]; omega
          · have hk' : k = 5 := by omega
            subst hk'
            have hnx := Lib.hid (hs.out.jrow)
            have hfin := Lib.hid (show LeapSt w wr gJ gO cs n (b + 1) ts from LeapSt.next (w1 := w1) (v := v) (by rw [hw1'.out]; exact hnx.out) hOJ'.out hlow (by rw [hw1'.out]; exact hs.out.bel) (by rw [hw1'.out]; exact hrt'.out) hgr.out (by rw [hw1'.out]; exact hO) hrw.out how.out)
            go_wp2_with fail
            go_roundw
            case rel => exact ⟨b + 1, by omega, by go_num, hfin⟩
            case measure => simp [intOf]; omega
      · have hbn : b = n := by omega
        subst hbn
        obtain ⟨f, ad, ca, hrow, hrt⟩ := hs.out.out
        have hrow' := Lib.hid hrow; have hrt' := Lib.hid hrt
        clear hrow hrt
        go_wp2_with fail
        go_ret2
        refine ⟨_, _, _, rfl, by rw [hr.out, leapsT_len, hl.out], ⟨fun _ => ⟨gO, b, f, rfl, hlow, Nat.le_refl _, hrow'.out, ad, ca, fun i hi => ?_, hrt'.out.apart⟩⟩, hs.out.bel⟩
        rw [hr.out, leapsT_row (by rw [hl.out]; exact hi)]
        exact hrt'.out.done i hi
end Go.Proofs.Ytoppgckmcclfpaa
