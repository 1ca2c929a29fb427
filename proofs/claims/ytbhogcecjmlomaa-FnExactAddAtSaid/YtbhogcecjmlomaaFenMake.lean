/- What is proved here: what the program's SumsOf and AddAt return, at every list. No conditions but the list's length. -/
import Derived.Test.YtbhogcecjmlomaaFenFns
import Derived.Test.YtbhogcecjmlomaaFenAdd
import Derived.Laws.ResultCell
import Derived.Test.YtbhogcecjmlomaaSparseImpl
namespace Go.Proofs.Ytbhogcecjmlomaa
open Go.RowKit

theorem results_cell_row2 {P : Program} {fn : Func} {p u : Tmp} {ty : TypeId} (h : fn.results = #[.cell p ty, .tmp u]) (tmps : Array Value) (w : World) (g : Nat) (t : TypeId) (cs : Array Value) (fr : Nat × Nat) (d : TypeDesc)
    (hp : tmps.getD p undef = .pointer (some ⟨g, 0, none⟩)) (hg : w.heap[g]? = some (.cells cs t fr))
    (hu : P.underlying ty = some d) (hd : (match d with | .struct _ | .array _ _ => true | _ => false) = true) (hi : (P.info? ty).map (·.size) = some cs.size) :
    (results fn tmps).run P w = .ok (.tuple #[.agg cs, tmps.getD u undef]) w := by
  rw [results_cell_tmp h, hp]
  simp [asAddr, run_loadVar_row w g t ty cs fr d hg hu hd hi]

def RetSums (w : World) (b : Bool) (xs : List Int) (e : Ending) (w' : World) : Prop :=
  ∃ A n c, e = .returned (.tuple #[.agg #[.slice A n c], .bool b]) ∧ OwnAt w' w.heap.size A n xs ∧ Below w.heap.size w w'

def sumsR (l : List Int) : List Int := if goodW l = true then ofL l else []

/-- A block of one cell. -/
theorem row_one {w : World} {g : Nat} {t : TypeId} {f : Nat → Value} (h : w.rowIs g t 1 f) : w.heap[g]? = some (.cells #[f 0] t (0, 0)) := by
  obtain ⟨cs, h1, h2, h3⟩ := h
  have e : cs = #[f 0] := by
    apply Array.ext (by simp [h2])
    intro i hi _
    have hi0 : i = 0 := by omega
    subst hi0
    have := h3 0 (by omega)
    rw [Array.getElem?_eq_getElem hi] at this
    simpa using this
  rw [← e]; exact h1
theorem row_one_set {w : World} {g : Nat} {t : TypeId} {f : Nat → Value} (h : w.rowIs g t 1 f) (v : Value) : (w.setCell ⟨g, 0, none⟩ v).heap[g]? = some (.cells #[v] t (0, 0)) := by
  have := row_one (h.set 0 v)
  simpa using this
theorem row_box (w : World) (v : Value) (t : TypeId) : (w.alloc (.cells #[v] t)).rowIs w.heap.size t 1 (fun _ => v) :=
  ⟨#[v], heap_alloc_new _ _, rfl, fun i hi => by
    have hi0 : i = 0 := by omega
    subst hi0; rfl⟩
theorem made_own (w : World) (n : Nat) (xs : List Int) (hl : xs.length = n) (hz : ∀ k : Nat, xs[k]?.getD 0 = 0) (o : Obj) : OwnAt ((w.alloc o).alloc (.cells (madeCells #[.int .i64 0] n) 3)) (w.heap.size + 1) (some ⟨w.heap.size + 1, 0, none⟩) n xs := by
  have e : (w.alloc o).heap.size = w.heap.size + 1 := by simp
  have hr := World.rowIs_made (w.alloc o) (.int .i64 0) n 3
  rw [e] at hr
  exact ⟨hl, fun _ => ⟨_, n, _, rfl, Nat.le_refl _, hr, fun i hi => by rw [hz]⟩, fun ad e => by cases e; exact ⟨Nat.le_refl _, by simp⟩⟩
theorem part_addC {l : List Int} (h : goodW l = true) {j : Nat} (hj : j < l.length) : addC (part l j) j (l[j]?.getD 0) = part l (j + 1) := by
  obtain ⟨h1, h2⟩ := goodW_iff.1 h
  refine ext_get (by rw [addC_len, part_len, part_len]) (fun k hk => ?_)
  rw [addC_len, part_len] at hk
  rw [addC_get (by rw [part_len]; exact hk), part_step hj hk h1.2]
  have hb := part_bd h (j := j) (by omega) hk
  have hv := h2 j hj
  by_cases hc : cov (k + 1) j = true
  · rw [if_pos hc, if_pos hc]; unfold wrap64; omega
  · rw [if_neg hc, if_neg hc]; omega

set_option maxRecDepth 100000 in
set_option maxHeartbeats 800000 in
theorem sumsOf_any (A : Option Addr) (n c : Nat) (xs : List Int) (w : World) (h : IntsAt w w.heap.size A n xs) (hn : n ≤ 1048576) :
    Calls Try.prog 41 #[.slice A n c] w (RetSums w (goodW xs) (sumsR xs)) := by
  have hl := Lib.hid h.1
  have hr := Lib.hid h; clear h
  cases hg : goodW xs
  · have hR := Lib.hid (show sumsR xs = [] by unfold sumsR; rw [hg]; rfl)
    go_enter Try.func41, Try.ntmps41
    go_wp2_with fail
    refine (areWeights_any A n c w.heap.size xs _ (hr.out.below (box_below w _)) hn).mono ?_
    rintro e w' ⟨rfl, rfl⟩
    go_wp2_with fail
    refine bodyPost_ret (results_cell_row2 rfl _ _ w.heap.size 53 #[.slice none 0 0] (0, 0) _ rfl (heap_alloc_new _ _) Try.underlying53 rfl (by kernel_rfl)) rfl ?_
    exact ⟨none, 0, 0, rfl, by rw [hR.out]; exact own_nil _ _, box_below w _⟩
  · obtain ⟨q1, q2⟩ := goodW_iff.1 hg
    have hn32 : n ≤ 32 := by rw [hl.out] at q1; exact q1.2
    have hn1 : 1 ≤ n := by rw [hl.out] at q1; exact q1.1
    have hR := Lib.hid (show sumsR xs = ofL xs by unfold sumsR; rw [hg]; rfl)
    have hg' := Lib.hid hg
    clear q1 q2
    have hmk := fun W => run_make_row' (P := Try.prog) 31 3 (.int .i64 0) 8 Try.underlying31 info3 rfl .i64 .i64 n (by omega) (by omega) W
    go_enter Try.func41, Try.ntmps41
    go_wp2_with fail
    refine (areWeights_any A n c w.heap.size xs _ (hr.out.below (box_below w _)) hn).mono ?_
    rintro e w' ⟨rfl, rfl⟩
    go_wp2_with fail
    go_loopw [16] (fun i wr => ∃ k : Nat, k ≤ n ∧ i = .int .i64 k ∧ OwnAt wr (w.heap.size + 1) (some ⟨w.heap.size + 1, 0, none⟩) n (part xs k) ∧ wr.rowIs w.heap.size 53 1 (fun _ => .slice none 0 0) ∧ Below w.heap.size w wr) (fun i _ => n - (intOf i).toNat)
    case atStart =>
      have b0 : Below (w.alloc (.cells #[.slice none 0 0] 53)).heap.size (w.alloc (.cells #[.slice none 0 0] 53)) ((w.alloc (.cells #[.slice none 0 0] 53)).alloc (.cells (madeCells #[.int .i64 0] n) 3)) := box_below _ _
      exact ⟨0, Nat.zero_le _, rfl, made_own w n _ (by rw [part_len]; exact hl.out) (fun _ => part_zero) _, rowIs_below (row_box w _ _) b0 (by simp), (box_below w _).trans (b0.mono (box_below w _).size)⟩
    case round =>
      obtain ⟨k, hk, rfl, ho, hbx, hbl⟩ := hrel
      have ho' := Lib.hid ho; have hbx' := Lib.hid hbx; have hbl' := Lib.hid hbl
      clear ho hbx hbl
      by_cases hlt : k < n
      · obtain ⟨b, off, rfl, hb, hc0⟩ := hr.out.2 k hlt
        have hc := (hbl'.out.cell (p := ⟨b, off + k, none⟩) hb).trans hc0
        clear hc0
        go_wp2_with fail
        refine (addTo_any (w.heap.size + 1) n n (w.heap.size + 1) (part xs k) k (xs[k]?.getD 0) _ ho'.out hlt hn32).mono ?_
        rintro e w2 ⟨rfl, o2, only2⟩
        have o2' := Lib.hid o2
        have bx2 := Lib.hid (show w2.rowIs w.heap.size 53 1 (fun _ => .slice none 0 0) from hbx'.out.of_block (only2.block _ (fun ad e => by cases e; show w.heap.size ≠ w.heap.size + 1; omega)))
        have bl2 := Lib.hid (hbl'.out.trans (only2.below (B := w.heap.size) (fun ad e => by cases e; show w.heap.size ≤ w.heap.size + 1; omega)))
        clear o2 only2
        go_wp2_with fail
        go_roundw
        case rel => exact ⟨k + 1, by omega, by go_num, by rw [← part_addC hg'.out (by rw [hl.out]; exact hlt)]; exact o2'.out, bx2.out, bl2.out⟩
        case measure => simp [intOf]; omega
      · have hkn : k = n := by omega
        have hcell := hbx'.out.cell (i := 0) (by omega)
        have hfz := hbx'.out.frozen 0
        have hlow := hbx'.out.lt
        have hkn' := Lib.hid hkn
        clear hkn
        go_wp2_with fail
        have o3 : OwnAt (wr.setCell ⟨w.heap.size, 0, none⟩ (.slice (some ⟨w.heap.size + 1, 0, none⟩) n n)) (w.heap.size + 1) (some ⟨w.heap.size + 1, 0, none⟩) n (part xs k) := ho'.out.keep (by simp) (fun ad e => by cases e; exact Below.heap_setCell wr _ _ _ (by show w.heap.size + 1 ≠ w.heap.size; omega))
        refine bodyPost_ret (results_cell_row2 rfl _ _ w.heap.size 53 #[.slice (some ⟨w.heap.size + 1, 0, none⟩) n n] (0, 0) _ rfl (row_one_set hbx'.out _) Try.underlying53 rfl (by kernel_rfl)) rfl ?_
        refine ⟨_, n, n, rfl, ?_, hbl'.out.setCell (by simp) _⟩
        rw [hR.out, ← part_all, hl.out]
        rw [hkn'.out] at o3
        exact o3.fewer (Nat.le_succ _)

/-- What AddAt returns. -/
def addOk (xs : List Int) (k b : Int) : Bool := goodS xs && inB k 0 ((xs.length : Int) - 1) && inB b (-(wrap64 (wt xs k.toNat))) (100000 - wrap64 (wt xs k.toNat))
def addR (xs : List Int) (k b : Int) : List Int := if addOk xs k b = true then addC xs k.toNat b else []

theorem box2_below (w : World) (o p : Obj) : Below w.heap.size w ((w.alloc o).alloc p) := (box_below w o).alloc (by simp) p
theorem box2_size (w : World) (o p : Obj) : ((w.alloc o).alloc p).heap.size = w.heap.size + 2 := by simp
theorem row_box2 (w : World) (v u : Value) (t : TypeId) : ((w.alloc (.cells #[v] t)).alloc (.cells #[u] t)).rowIs w.heap.size t 1 (fun _ => v) ∧ ((w.alloc (.cells #[v] t)).alloc (.cells #[u] t)).rowIs (w.heap.size + 1) t 1 (fun _ => u) := by
  constructor
  · exact rowIs_below (row_box w v t) (box_below _ _) (by simp)
  · have := row_box (w.alloc (.cells #[v] t)) u t
    rwa [show (w.alloc (.cells #[v] t)).heap.size = w.heap.size + 1 by simp] at this

set_option maxRecDepth 100000 in
set_option maxHeartbeats 1600000 in
theorem addAt_any (A : Option Addr) (n c : Nat) (xs : List Int) (k b : Int) (w : World) (h : IntsAt w w.heap.size A n xs) (hn : n ≤ 1048576) :
    Calls Try.prog 48 #[.agg #[.slice A n c], .int .i64 k, .int .i64 b] w (RetSums w (addOk xs k b) (addR xs k b)) := by
  have hl := Lib.hid h.1
  have hr := Lib.hid h; clear h
  by_cases hpre : goodS xs = true ∧ 0 ≤ k ∧ k < (n : Int)
  · obtain ⟨hg, hk0, hk1⟩ := hpre
    obtain ⟨j, rfl⟩ := Int.eq_ofNat_of_zero_le hk0
    have hj : j < n := by omega
    have hn32 : n ≤ 32 := by have := (goodS_few hg).2; rw [hl.out] at this; exact this
    have hWb : 0 ≤ wrap64 (wt xs j) ∧ wrap64 (wt xs j) ≤ 100000 := by
      have h2 := hg
      unfold goodS at h2
      rw [Bool.and_eq_true] at h2
      have := allB_get h2.2 (k := j) (by rw [wtsW_len, hl.out]; exact hj)
      rwa [wtsW_get (by rw [hl.out]; exact hj)] at this
    have hokd := Lib.hid (show addOk xs j b = inB b (-(wrap64 (wt xs j))) (100000 - wrap64 (wt xs j)) by
      unfold addOk; rw [hg, hl.out, inB_true (by omega) (by omega), Int.toNat_natCast]; rfl)
    have hW := Lib.hid (show wrap64 (fs xs (j + 1) - fs xs j) = wrap64 (wt xs j) from rfl)
    generalize wrap64 (wt xs j) = W at hWb hokd hW
    obtain ⟨hW0, hW1⟩ := hWb
    have hRc := Lib.hid (show addOk xs j b = true → addR xs j b = addC xs j b from fun e => by unfold addR; rw [e, if_pos rfl, Int.toNat_natCast])
    have hRn := Lib.hid (show addOk xs j b = false → addR xs j b = [] from fun e => by unfold addR; rw [e]; rfl)
    clear hk0 hk1
    by_cases hlo : b < -W
    · have hok := Lib.hid (hokd.out.trans (inB_low hlo))
      go_enter Try.func48, Try.ntmps48
      go_wp2_with fail
      refine (goodSums_any A n c xs _ (hr.out.up (box2_below w _ _)) hn).mono ?_
      rintro e w1 ⟨rfl, b1⟩
      rw [box2_size] at b1
      obtain ⟨rx1, rx2⟩ := row_box2 w (.slice A n c) (.slice none 0 0) 53
      have r1 := rowIs_below rx1 b1 (by omega)
      have r2 := rowIs_below rx2 b1 (by omega)
      have u1 := Lib.hid ((box2_below w (.cells #[.slice A n c] 53) (.cells #[.slice none 0 0] 53)).trans (b1.mono (by omega)))
      have hc1 := r1.cell (i := 0) (by omega)
      have hc2 := r2.cell (i := 0) (by omega)
      have hf2 := r2.frozen 0
      have r2' := Lib.hid r2
      clear rx1 rx2 r1 r2 b1
      go_wp2_with fail
      refine (sumBetween_any A n c w1.heap.size xs j (j + 1) _ (hr.out.up u1.out) (by omega) (by omega) hn32).mono ?_
      rintro e w' ⟨rfl, rfl⟩
      rw [hW.out]
      go_wp2_with fail
      refine bodyPost_ret (results_cell_row2 rfl _ _ (w.heap.size + 1) 53 #[.slice none 0 0] (0, 0) _ rfl (row_one_set r2'.out _) Try.underlying53 rfl (by kernel_rfl)) rfl ?_
      exact ⟨none, 0, 0, by rw [hok.out]; rfl, by rw [hRn.out hok.out]; exact own_nil _ _, u1.out.setCell (by simp) _⟩
    · by_cases hhi : 100000 - W < b
      · have hok := Lib.hid (hokd.out.trans (inB_high hhi))
        go_enter Try.func48, Try.ntmps48
        go_wp2_with fail
        refine (goodSums_any A n c xs _ (hr.out.up (box2_below w _ _)) hn).mono ?_
        rintro e w1 ⟨rfl, b1⟩
        rw [box2_size] at b1
        obtain ⟨rx1, rx2⟩ := row_box2 w (.slice A n c) (.slice none 0 0) 53
        have r1 := rowIs_below rx1 b1 (by omega)
        have r2 := rowIs_below rx2 b1 (by omega)
        have u1 := Lib.hid ((box2_below w (.cells #[.slice A n c] 53) (.cells #[.slice none 0 0] 53)).trans (b1.mono (by omega)))
        have hc1 := r1.cell (i := 0) (by omega)
        have hc2 := r2.cell (i := 0) (by omega)
        have hf2 := r2.frozen 0
        have r2' := Lib.hid r2
        clear rx1 rx2 r1 r2 b1
        go_wp2_with fail
        refine (sumBetween_any A n c w1.heap.size xs j (j + 1) _ (hr.out.up u1.out) (by omega) (by omega) hn32).mono ?_
        rintro e w' ⟨rfl, rfl⟩
        rw [hW.out]
        go_wp2_with fail
        refine bodyPost_ret (results_cell_row2 rfl _ _ (w.heap.size + 1) 53 #[.slice none 0 0] (0, 0) _ rfl (row_one_set r2'.out _) Try.underlying53 rfl (by kernel_rfl)) rfl ?_
        exact ⟨none, 0, 0, by rw [hok.out]; rfl, by rw [hRn.out hok.out]; exact own_nil _ _, u1.out.setCell (by simp) _⟩
      · have hok := Lib.hid (hokd.out.trans (inB_true (by omega) (by omega)))
        obtain ⟨ab, ao, rfl, _, _⟩ := hr.out.2 0 (by omega)
        go_enter Try.func48, Try.ntmps48
        go_wp2_with fail
        refine (goodSums_any _ n c xs _ (hr.out.up (box2_below w _ _)) hn).mono ?_
        rintro e w1 ⟨rfl, b1⟩
        rw [box2_size] at b1
        obtain ⟨rx1, rx2⟩ := row_box2 w (.slice (some ⟨ab, ao, none⟩) n c) (.slice none 0 0) 53
        have r1 := rowIs_below rx1 b1 (by omega)
        have r2 := rowIs_below rx2 b1 (by omega)
        have u1 := Lib.hid ((box2_below w (.cells #[.slice (some ⟨ab, ao, none⟩) n c] 53) (.cells #[.slice none 0 0] 53)).trans (b1.mono (by omega)))
        have hz1 : w.heap.size + 2 ≤ w1.heap.size := by have := b1.size; simpa using this
        have hc1 := r1.cell (i := 0) (by omega)
        have r2' := Lib.hid r2
        clear rx1 rx2 r1 r2 b1
        go_wp2_with fail
        refine (sumBetween_any _ n c w1.heap.size xs j (j + 1) _ (hr.out.up u1.out) (by omega) (by omega) hn32).mono ?_
        rintro e w' ⟨rfl, rfl⟩
        rw [hW.out]
        go_wp2_with fail
        refine (clone_any ab ao n c w1.heap.size xs _ (hr.out.up u1.out) (Nat.le_refl _) (by omega) (by omega)).mono ?_
        rintro e w2 ⟨g, c', rfl, o2, b2⟩
        have o2' := Lib.hid o2
        have u2 := Lib.hid (u1.out.trans (b2.mono u1.out.size))
        have q2 := Lib.hid (rowIs_below r2'.out b2 (by omega))
        have hgl : w1.heap.size ≤ g := (o2.low _ rfl).1
        clear o2 b2 hc1
        go_wp2_with fail
        refine (addTo_any g n c' w1.heap.size xs j b _ o2'.out hj hn32).mono ?_
        rintro e w3 ⟨rfl, o3, only3⟩
        have q3 := q2.out.of_block (only3.block (w.heap.size + 1) (fun ad e => by cases e; show w.heap.size + 1 ≠ g; omega))
        have u3 := Lib.hid (u2.out.trans (only3.below (B := w.heap.size) (fun ad e => by cases e; show w.heap.size ≤ g; omega)))
        have o3' := Lib.hid o3
        have hc2 := q3.cell (i := 0) (by omega)
        have hf2 := q3.frozen 0
        have q3' := Lib.hid q3
        clear o3 only3 q3
        go_wp2_with fail
        refine bodyPost_ret (results_cell_row2 rfl _ _ (w.heap.size + 1) 53 #[.slice (some ⟨g, 0, none⟩) n c'] (0, 0) _ rfl (row_one_set q3'.out _) Try.underlying53 rfl (by kernel_rfl)) rfl ?_
        refine ⟨_, n, c', by rw [hok.out]; rfl, ?_, u3.out.setCell (by simp) _⟩
        rw [hRc.out hok.out]
        exact (o3'.out.keep (by simp) (fun ad e => by cases e; exact Below.heap_setCell w3 _ _ _ (by show g ≠ w.heap.size + 1; omega))).fewer (by omega)
  · have hok := Lib.hid (show addOk xs k b = false by
      unfold addOk
      rw [hl.out]
      cases hg : goodS xs
      · rfl
      · by_cases hk0 : 0 ≤ k
        · rw [inB_high (n := k) (lo := 0) (hi := (n : Int) - 1)]; rfl
          by_cases hk1 : k < (n : Int)
          · exact absurd ⟨hg, hk0, hk1⟩ hpre
          · omega
        · rw [inB_low (n := k) (lo := 0) (hi := (n : Int) - 1) (by omega)]; rfl)
    have hR := Lib.hid (show addR xs k b = [] by unfold addR; rw [hok.out]; rfl)
    have hcases : goodS xs = false ∨ (goodS xs = true ∧ k < 0) ∨ (goodS xs = true ∧ 0 ≤ k ∧ (n : Int) ≤ k) := by
      cases hg : goodS xs
      · exact .inl rfl
      · by_cases hk0 : 0 ≤ k
        · by_cases hk1 : k < (n : Int)
          · exact absurd ⟨hg, hk0, hk1⟩ hpre
          · exact .inr (.inr ⟨rfl, hk0, by omega⟩)
        · exact .inr (.inl ⟨rfl, by omega⟩)
    clear hpre
    rcases hcases with hg | ⟨hg, hk0⟩ | ⟨hg, hk0, hk1⟩
    all_goals
      go_enter Try.func48, Try.ntmps48
      go_wp2_with fail
      refine (goodSums_any A n c xs _ (hr.out.up (box2_below w _ _)) hn).mono ?_
      rw [hg]
      rintro e w1 ⟨rfl, b1⟩
      rw [box2_size] at b1
      obtain ⟨rx1, rx2⟩ := row_box2 w (.slice A n c) (.slice none 0 0) 53
      have r1 := rowIs_below rx1 b1 (by omega)
      have r2 := rowIs_below rx2 b1 (by omega)
      have u1 := Lib.hid ((box2_below w (.cells #[.slice A n c] 53) (.cells #[.slice none 0 0] 53)).trans (b1.mono (by omega)))
      have hc1 := r1.cell (i := 0) (by omega)
      have hc2 := r2.cell (i := 0) (by omega)
      have hf2 := r2.frozen 0
      have r2' := Lib.hid r2
      clear rx1 rx2 r1 r2 b1
      go_wp2_with fail
      refine bodyPost_ret (results_cell_row2 rfl _ _ (w.heap.size + 1) 53 #[.slice none 0 0] (0, 0) _ rfl (row_one_set r2'.out _) Try.underlying53 rfl (by kernel_rfl)) rfl ?_
      exact ⟨none, 0, 0, by rw [hok.out]; rfl, by rw [hR.out]; exact own_nil _ _, u1.out.setCell (by simp) _⟩
end Go.Proofs.Ytbhogcecjmlomaa
