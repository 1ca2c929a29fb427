/- What is proved here: LeavesOf of the program and of the model. No conditions. -/
import Derived.Test.YthiegfbdmmpababWays
namespace Go.Proofs.Ythiegfbdmmpabab
open Go.RowKit

theorem owns_below {w w' : World} {base : Nat} {e : TypeId} {size : Nat} {v : Value} {n : Nat} {xs : List Value} (h : w.ownsRow base e size v n xs) (hb : Below w.heap.size w w') : w'.ownsRow base e size v n xs := by
  obtain ⟨hl, hh⟩ := h
  refine ⟨hl, ?_⟩
  rcases hh with h | ⟨g, cap, cur, e, hB, hblk, hn, hm, hc, ht⟩
  · exact .inl h
  · exact .inr ⟨g, cap, cur, e, hB, (hb.block g (Array.getElem?_eq_some_iff.1 hblk).1).trans hblk, hn, hm, hc, ht⟩

/-- No block among the first j has the parent b. -/
def noPar (ts : List Blk) (b : Int) (j : Nat) : Bool := (List.range j).all fun i => parZ ts i != b
theorem noPar_zero (ts : List Blk) (b : Int) : noPar ts b 0 = true := rfl
theorem noPar_step (ts : List Blk) (b : Int) (j : Nat) : noPar ts b (j + 1) = (noPar ts b j && parZ ts j != b) := by
  unfold noPar
  rw [List.range_succ, List.all_append]; simp
theorem noPar_hit {ts : List Blk} {b : Int} {j m : Nat} (hj : j < m) (h : (parZ ts j == b) = true) : noPar ts b m = false := by
  unfold noPar
  rw [List.all_eq_false]
  exact ⟨j, List.mem_range.2 hj, by rw [eq_of_beq h]; simp⟩
def leavesL (ts : List Blk) (k : Nat) : List Int := ((List.range k).filter fun b => noPar ts (b : Nat) ts.length).map fun (b : Nat) => (b : Int)
theorem leaves_zero (ts : List Blk) : leavesL ts 0 = [] := rfl
theorem leaves_yes {ts : List Blk} {k : Nat} (h : noPar ts k ts.length = true) : leavesL ts (k + 1) = leavesL ts k ++ [(k : Int)] := by
  unfold leavesL; rw [List.range_succ, List.filter_append]; simp [h]
theorem leaves_no {ts : List Blk} {k : Nat} (h : noPar ts k ts.length = false) : leavesL ts (k + 1) = leavesL ts k := by
  unfold leavesL; rw [List.range_succ, List.filter_append]; simp [h]
theorem leaves_len (ts : List Blk) (k : Nat) : (leavesL ts k).length ≤ k := by
  unfold leavesL
  rw [List.length_map]
  exact Nat.le_trans (List.length_filter_le _ _) (by simp)
def leavesR (ts : List Blk) : List Int := if goodT ts then leavesL ts ts.length else []

/-- The program's test of one block. -/
theorem isChild_any (p s b : Int) (g : Nat) (w : World) (hc : w.cell? ⟨g, 0, none⟩ = some (.int .i64 b)) (hg : g < w.heap.size) :
    Calls Try.prog 78 #[.agg #[.int .i64 p, .int .i64 s], .pointer (some ⟨g, 0, none⟩)] w (UpPost w (.bool (p == b))) := by
  have hb := Lib.hid (fun o : Obj => (Below.refl w.heap.size w).alloc (Nat.le_refl _) o)
  go_enter Try.func78, Try.ntmps78
  go_wp2_with fail
  go_ret
  exact ⟨rfl, hb.out _⟩

def FoundPost (w : World) (r : Bool) (e : Ending) (w' : World) : Prop := ∃ z : Int, e = .returned (.int .i64 z) ∧ (r = true → z = -1) ∧ (r = false → 0 ≤ z) ∧ Below w.heap.size w w'

set_option maxHeartbeats 400000 in
theorem indexFunc_any (A : Option Addr) (n c : Nat) (ts : List Blk) (b : Int) (g : Nat) (w : World) (h : BlksAt w w.heap.size A n ts) (hn : n ≤ 1048576) (hc : w.cell? ⟨g, 0, none⟩ = some (.int .i64 b)) (hg : g < w.heap.size) :
    Calls Try.prog 124 #[.slice A n c, .func (.func 78) #[] #[.pointer (some ⟨g, 0, none⟩)]] w (FoundPost w (noPar ts b ts.length)) := by
  have hl := Lib.hid h.1
  have hh := Lib.hid h; clear h
  have hc' := Lib.hid hc; clear hc
  go_enter Try.func124, Try.ntmps124
  go_wp2_with fail
  go_loopw [5, 8] (fun _ i wr => ∃ k : Nat, k ≤ n ∧ i = .int .i64 k ∧ Hid (noPar ts b k = true) ∧ Hid (Below w.heap.size w wr)) (fun _ i _ => n - (intOf i).toNat)
  case atStart => exact ⟨0, Nat.zero_le _, rfl, Lib.hid (noPar_zero ts b), Lib.hid (Below.refl _ _)⟩
  case round =>
    obtain ⟨k, hk, rfl, hall, hbel⟩ := hrel
    by_cases hlt : k < n
    · obtain ⟨bb, off, e, hbb, hcs⟩ := hh.out.at (by omega)
      have d0 := (hbel.out.cell (p := ⟨bb, off + k * 2, none⟩) hbb).trans (hcs k hlt).1
      have d1 := (hbel.out.cell (p := ⟨bb, off + k * 2 + 1, none⟩) hbb).trans (hcs k hlt).2
      have hcc := Lib.hid ((hbel.out.cell (p := ⟨g, 0, none⟩) hg).trans hc'.out)
      have hsz := hbel.out.size
      subst e
      clear hcs
      cases hx : ((ts[k]?.getD (0, 0)).1 == b)
      · have hst := Lib.hid (show noPar ts b (k + 1) = true by rw [noPar_step, hall.out]; simp only [Bool.true_and]; unfold parZ; simp at hx ⊢; exact hx)
        go_wp2_with fail
        refine (isChild_any _ _ b g _ hcc.out (by omega)).mono ?_
        rintro e w2 ⟨rfl, b2⟩
        rw [hx]
        have u2 := Lib.hid (hbel.out.trans (b2.mono hbel.out.size)); clear b2
        go_wp2_with fail
        go_roundw
        case rel => exact ⟨k + 1, by omega, by go_num, hst, u2⟩
        case measure => simp [intOf]; omega
      · have hst := Lib.hid (noPar_hit (ts := ts) (b := b) (j := k) (m := ts.length) (by rw [hl.out]; exact hlt) hx)
        go_wp2_with fail
        refine (isChild_any _ _ b g _ hcc.out (by omega)).mono ?_
        rintro e w2 ⟨rfl, b2⟩
        rw [hx]
        have u2 := Lib.hid (hbel.out.trans (b2.mono hbel.out.size)); clear b2
        go_wp2_with fail
        go_ret
        exact ⟨k, rfl, (fun h => by rw [hst.out] at h; cases h), (fun _ => by omega), u2.out⟩
    · have hkn := Lib.hid (show noPar ts b ts.length = true by rw [show ts.length = k by rw [hl.out]; omega]; exact hall.out)
      go_wp2_with fail
      go_ret
      exact ⟨-1, rfl, (fun _ => rfl), (fun h => by rw [hkn.out] at h; cases h), hbel.out⟩

theorem contains_any (A : Option Addr) (n c : Nat) (ts : List Blk) (b : Int) (g : Nat) (w : World) (h : BlksAt w w.heap.size A n ts) (hn : n ≤ 1048576) (hc : w.cell? ⟨g, 0, none⟩ = some (.int .i64 b)) (hg : g < w.heap.size) :
    Calls Try.prog 77 #[.slice A n c, .func (.func 78) #[] #[.pointer (some ⟨g, 0, none⟩)]] w (UpPost w (.bool (!noPar ts b ts.length))) := by
  have hh := Lib.hid h; clear h
  have hc' := Lib.hid hc; clear hc
  cases hp : noPar ts b ts.length
  · go_enter Try.func77, Try.ntmps77
    go_wp2_with fail
    refine (indexFunc_any _ _ _ ts b g _ hh.out hn hc'.out hg).mono ?_
    rintro e w2 ⟨z, rfl, _, hz, b2⟩
    have hz0 := hz hp
    clear hz
    go_wp2_with fail
    go_ret
    exact ⟨ret_bool (by simp), b2⟩
  · go_enter Try.func77, Try.ntmps77
    go_wp2_with fail
    refine (indexFunc_any _ _ _ ts b g _ hh.out hn hc'.out hg).mono ?_
    rintro e w2 ⟨z, rfl, hz, _, b2⟩
    obtain rfl := hz hp
    go_wp2_with fail
    go_ret
    exact ⟨rfl, b2⟩

set_option maxHeartbeats 400000 in
theorem implLeaves_any (A : Option Addr) (n c : Nat) (ts : List Blk) (w : World) (h : BlksAt w w.heap.size A n ts) (hn : n ≤ 1048576) :
    Calls Try.prog 14 #[.slice A n c] w (RetOwn w (goodT ts) (leavesR ts)) := by
  have hl := Lib.hid h.1
  have hh := Lib.hid h; clear h
  have hmf : ∀ (fn : Fn) (first cap : Array Value) (w : World), (Instr.makeFunc fn first cap).run Try.prog w = .ok (.func fn first cap) w := fun _ _ _ _ => rfl
  cases hg : goodT ts
  · have hr := Lib.hid (show leavesR ts = [] by unfold leavesR; rw [hg]; rfl)
    go_enter Try.func14, Try.ntmps14
    go_wp2_with (go_at_call 60; refine (implGoodT_any _ _ _ ts _ hh.out hn).mono ?_; rintro e w1 ⟨rfl, b1⟩; rw [hg])
    go_ret2
    exact ⟨none, 0, 0, rfl, by rw [hr.out]; exact own_nil _ _, b1⟩
  · have hr := Lib.hid (show leavesR ts = leavesL ts ts.length by unfold leavesR; rw [hg]; rfl)
    have hfew : n ≤ 24 := by rw [← hl.out]; exact (goodT_iff.1 hg).few
    obtain ⟨i0, hi0, hz0, hz1, hz2⟩ := info_parts info3
    go_enter Try.func14, Try.ntmps14
    go_wp2_with (go_at_call 60; refine (implGoodT_any _ _ _ ts _ hh.out hn).mono ?_; rintro e w1 ⟨rfl, b1⟩; rw [hg]; have u1 := Lib.hid b1; clear b1)
    go_loopw [4, 5, 6, 12] (fun v _ _ i wr => ∃ k : Nat, k ≤ n ∧ i = .int .i64 k ∧ wr.ownsRow w.heap.size 3 1 v (leavesL ts k).length ((leavesL ts k).map (Value.int .i64)) ∧ Below w.heap.size w wr) (fun _ _ _ i _ => n - (intOf i).toNat)
    case atStart => exact ⟨0, by omega, rfl, World.ownsRow_nil _ _ _ _, u1.out⟩
    case round =>
      obtain ⟨k, hk, rfl, hown, hbel⟩ := hrel
      have hown' := Lib.hid hown; clear hown
      have hbel' := Lib.hid hbel; clear hbel
      by_cases hlt : k < n
      · have hx := Lib.hid (show (wr.alloc (.cells #[.int .i64 (k : Int)] 3)).cell? ⟨wr.heap.size, 0, none⟩ = some (.int .i64 (k : Int)) by rw [cell_of_row _ _ _ _ _ _ (heap_alloc_new _ _)]; rfl)
        have hw2 := Lib.hid (show Below w.heap.size w (wr.alloc (.cells #[.int .i64 (k : Int)] 3)) from hbel'.out.alloc hbel'.out.size _)
        have ho2 := Lib.hid (hown'.out.alloc (.cells #[.int .i64 (k : Int)] 3))
        have hlen := leaves_len ts k
        have hsz0 := hbel'.out.size
        cases hp : noPar ts k ts.length
        · have hs := Lib.hid (leaves_no hp)
          go_wp2_with fail
          refine (contains_any _ _ _ ts k wr.heap.size _ (hh.out.up hw2.out) hn hx.out (by simp)).mono ?_
          rintro e w2 ⟨rfl, b2⟩
          rw [hp]
          have u2 := Lib.hid (hw2.out.trans (b2.mono hw2.out.size))
          have ho3 := Lib.hid (owns_below ho2.out b2)
          clear b2
          go_wp2_with fail
          go_roundw
          case rel => exact ⟨k + 1, by omega, by go_num, by rw [hs.out]; exact ho3.out, u2.out⟩
          case measure => simp [intOf]; omega
        · have hs := Lib.hid (leaves_yes hp)
          go_wp2_with fail
          refine (contains_any _ _ _ ts k wr.heap.size _ (hh.out.up hw2.out) hn hx.out (by simp)).mono ?_
          rintro e w2 ⟨rfl, b2⟩
          rw [hp]
          have hx2 := (b2.cell (p := ⟨wr.heap.size, 0, none⟩) (by simp)).trans hx.out
          have hbel2 := hw2.out.trans (b2.mono hw2.out.size)
          have hown2 := owns_below ho2.out b2
          have hs2 := hbel2.size
          clear b2
          go_wp2_with (at_builtin; refine wpList_append_own _ rfl _ _ 24 rfl w.heap.size 3 i0 (.int .i64 0) 1 8 Try.underlying24 hi0 hz0 hz1 hz2 rfl (by decide) _ _ _ rfl (hown2.alloc _) ⟨w2.heap.size, 0, none⟩ 1 1 [.int .i64 (k : Int)] rfl rfl ?c1 ?c2 ?c3 ?c4 ?c5 ?_)
          case c1 =>
            intro j u hj
            match j, hj with
            | 0, hj => simp at hj; subst hj; simp [Addr.add]
          case c2 => intro u hu; simp at hu; subst hu; rfl
          case c3 => unfold maxLen; omega
          case c4 => omega
          case c5 => simp; omega
          intro v' w3 hown3 hgrow _
          have hbel3 : Below w.heap.size w w3 := (hbel2.alloc hbel2.size _).grown hgrow (by simp; omega) (fun g hg => (hown2.lt g hg).1)
          have hown3' := Lib.hid hown3; clear hown3 hgrow hown2
          go_wp2_with fail
          go_roundw
          case rel =>
            refine ⟨k + 1, by omega, by go_num, ?_, hbel3⟩
            have := hown3'.out
            rw [hs.out]
            simpa using this
          case measure => simp [intOf]; omega
      · have hkk : k = n := by omega
        subst hkk
        obtain ⟨A2, c2, rfl, hoa⟩ := OwnAt.of_owns hown'.out
        have hoa' := Lib.hid hoa
        clear hoa hown'
        go_wp2_with fail
        go_ret2
        exact ⟨A2, _, c2, rfl, by rw [hr.out, hl.out]; exact hoa'.out, hbel'.out⟩
end Go.Proofs.Ythiegfbdmmpabab
