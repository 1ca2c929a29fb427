/- What is proved here: what the program's copyOf, refill and includes do. No conditions but lengths. -/
import Derived.Test.YtlobjfipefibaaaVSetImpl
import Derived.Test.YtlobjfipefibaaaViewFacts
import Derived.Test.YtlobjfipefibaaaPutImpl
import Derived.Laws.CopyRow
import Derived.Test.YtlobjfipefibaaaViewBox
namespace Go.Proofs.Ytlobjfipefibaaa
open Go.RowKit Go.Maps Go.Sort Go.Shelf Go.Lib

set_option maxRecDepth 100000 in
theorem run_copy_votes (w : World) (ty : TypeId) (g n : Nat) (V : Option Addr) (d : Nat) (vs : List Vt) (cur : Array Value) (hg : w.heap[g]? = some (.cells cur 53 (0, 0))) (hc : cur.size = n * 3) (hl : vs.length = n) (hnil : V = none → n = 0) (hcl : ∀ ad, V = some ad → ∀ t, t < n * 3 → w.cell? (ad.add t) = some (cellsV vs t)) :
    (Builtin.copy_ #[27, 27] ty #[.slice (some ⟨g, 0, none⟩) n n, .slice V n d]).run Try.prog w = .ok (.int .i64 n) (w.setRow g (flatV vs).toArray) := by
  obtain ⟨i0, hi, hzz⟩ := Option.map_eq_some_iff.1 infoVote
  simp only [Prod.mk.injEq] at hzz
  obtain ⟨hz, hsz, hb⟩ := hzz
  have hfl : (flatV vs).length = n * 3 := by rw [flatV_len, hl]
  have hone : ∀ v ∈ flatV vs, v.oneCell' = true := fun u hu => by
    obtain ⟨j, hj, e⟩ := List.mem_iff_getElem.1 hu
    rw [flatV_len] at hj
    have := flatV_get vs j hj
    rw [List.getElem?_eq_getElem (by rw [flatV_len]; exact hj), e] at this
    injection this with this
    rw [this]; rfl
  have hst := run_storeCells_at Try.prog g 0 53 (flatV vs) 0 cur w hg (by rw [hfl]; omega) hone
  have hall : (cur.toList.take (0 + 0) ++ flatV vs ++ cur.toList.drop (0 + 0 + (flatV vs).length)) = flatV vs := by
    rw [List.drop_eq_nil_of_le (by rw [hfl]; simp [hc])]; simp
  rw [hall] at hst
  have hfc : (Builtin.firstCells 3 n (.slice V n d)).run Try.prog w = .ok (flatV vs).toArray w := by
    cases V with
    | none =>
      have h0 := hnil rfl
      have e : flatV vs = [] := List.length_eq_zero_iff.1 (by rw [hfl, h0])
      rw [e]
      exact run_firstCells_none w 3 n n d
    | some ad => exact run_firstCells_some w 3 n ad n d (flatV vs) hfl (fun j v hj => by
        have hj' : j < vs.length * 3 := by
          rcases Nat.lt_or_ge j (vs.length * 3) with h | h
          · exact h
          · rw [List.getElem?_eq_none (by rw [flatV_len]; exact h)] at hj; cases hj
        rw [flatV_get vs j hj'] at hj
        rw [hcl ad rfl j (by rw [← hl]; exact hj')]
        exact hj)
  simp [Builtin.copy_, run_underlying Try.underlying27, Builtin.lenOf, Go.sizeOf, typeInfo, hi, hsz, hfc, hst, goInt]

theorem wpList_copy_votes (w : World) {ops : Array Oper} {rest : List Oper} {o : Oper} {a : Act} {Q : Exit → Act → World → Prop} (hg : o.guard = none) (d s : Operand)
    (hop : o.op = Op.call { callee := Callee.builtin Builtin.copy, args := #[d, s], argTypes := #[27, 27] }) (g n : Nat) (V : Option Addr) (c : Nat) (vs : List Vt) (cur : Array Value)
    (hd : a.eval d = .slice (some ⟨g, 0, none⟩) n n) (hs : a.eval s = .slice V n c) (hgg : w.heap[g]? = some (.cells cur 53 (0, 0))) (hc : cur.size = n * 3) (hl : vs.length = n) (hnil : V = none → n = 0) (hcl : ∀ ad, V = some ad → ∀ t, t < n * 3 → w.cell? (ad.add t) = some (cellsV vs t))
    (hK : wpList Try.prog ops Q rest (a.put o.dst (.int .i64 n)) (w.setRow g (flatV vs).toArray)) : wpList Try.prog ops Q (o :: rest) a w := by
  refine wpList_plain hg fun K' hK' => ?_
  have hrun := run_copy_votes w o.type g n V c vs cur hgg hc hl hnil hcl
  unfold Oper.wp
  simp [execOp, hop, resolve, invoke, builtin, hd, hs, hrun, Result.andThen]
  exact hK' _ _ hK

theorem wpList_clear_own {P : Program} {k e : TypeId} (w : World) {ops : Array Oper} {rest : List Oper} {o : Oper} {a : Act} {Q : Exit → Act → World → Prop} (hg : o.guard = none) (m : Operand) (t : TypeId)
    (hop : o.op = Op.call { callee := Callee.builtin Builtin.clear, args := #[m], argTypes := #[t] }) (ht : P.underlying t = some (.map k e)) (R : Value → Option (DataW Unit × List MemPlace)) (b n : Nat) (D : DataW Unit) (hm : a.eval m = .map (some b)) (hown : w.ownsMap P k R b n D)
    (hK : ∀ w', w'.ownsMap P k R b 0 (.map []) → w.grownBy w' (some b) → wpList P ops Q rest (a.put o.dst (.tuple #[])) w') : wpList P ops Q (o :: rest) a w := by
  refine wpList_plain hg fun K' hK' => ?_
  obtain ⟨es, clock, hb, F, hs, rfl⟩ := hown
  have hrun : (Builtin.clear_ #[t] o.type #[.map (some b)]).run P w = .ok (.tuple #[]) (ChangeMaps.setBlock w b (.map #[] clock)) := by
    simp [Builtin.clear_, run_underlying ht, MapKept.run_getObj_map hb, MapKept.run_setObj_map _ hb, Result.andThen, ChangeMaps.setBlock]
  unfold Oper.wp
  simp [execOp, hop, resolve, invoke, builtin, hm, hrun, Result.andThen]
  refine hK' _ _ (hK _ ⟨#[], clock, ChangeMaps.heap_setBlock_same hb _, ⟨by simp, MapKept.stamped_empty clock, by simp⟩, Nat.le_refl _, rfl⟩ ⟨rfl, rfl, rfl, by simp [ChangeMaps.setBlock], fun i _ hi => ChangeMaps.heap_setBlock_other hb _ (fun e => hi (by rw [e]))⟩)

/-- A cell lies in no map's block. -/
theorem cell_grown_map {P : Program} {k : TypeId} {R : Value → Option (DataW Unit × List MemPlace)} {w w' : World} {b n : Nat} {D : DataW Unit} (hown : w.ownsMap P k R b n D) (hg : w.grownBy w' (some b)) {p : Addr} {v : Value} (hc : w.cell? p = some v) : w'.cell? p = some v := by
  obtain ⟨es, clock, hb, _, _, _⟩ := hown
  have hne : p.block ≠ b := fun e => by
    unfold World.cell? at hc
    rw [e, hb] at hc
    simp at hc
  have hlt : p.block < w.heap.size := World.block_lt_of_cell? w _ hc
  have := hg.block p.block hlt (fun e => hne (by injection e))
  rw [← hc]
  unfold World.cell?
  rw [this]
theorem votes_grown_map {P : Program} {k : TypeId} {R : Value → Option (DataW Unit × List MemPlace)} {w w' : World} {b n m : Nat} {D : DataW Unit} {V : Option Addr} {vs : List Vt} (hown : w.ownsMap P k R b n D) (hg : w.grownBy w' (some b)) (h : VotesAt w w.heap.size V m vs) : VotesAt w' w'.heap.size V m vs :=
  ⟨h.1, fun k hk => by
    obtain ⟨b', off, e, hb, c0, c1, c2⟩ := h.2 k hk
    exact ⟨b', off, e, Nat.lt_of_lt_of_le hb hg.size, cell_grown_map hown hg c0, cell_grown_map hown hg c1, cell_grown_map hown hg c2⟩⟩
theorem grownBy_step {w w1 w2 : World} {b : Nat} (h : w.grownBy w1 (some b)) (h' : w1.grownBy w2 (some b)) : w.grownBy w2 (some b) := h.andThen h' (fun _ e => .inr e)
theorem grownBy_bx {w w1 : World} {b : Nat} (h : w.grownBy w1 (some b)) (o : Obj) : w.grownBy (w1.alloc o) (some b) := h.andThen (World.grownBy_alloc w1 o none) (fun j e => by cases e)

set_option maxRecDepth 100000 in
set_option maxHeartbeats 1600000 in
theorem refill_any (b N : Nat) (D : DataW Unit) (V : Option Addr) (m d : Nat) (vs : List Vt) (w : World) (hown : w.ownsMap Try.prog 53 boE b N D) (hv : VotesAt w w.heap.size V m vs) (hm : m ≤ 1048576) (hw : ∀ j, j < m → wfV (getV vs j)) :
    Calls Try.prog 91 #[.map (some b), .slice V m d] w fun e w' => e = .returned (.tuple #[]) ∧ w'.ownsMap Try.prog 53 boE b m (vD vs m) ∧ w.grownBy w' (some b) := by
  have hlv := Lib.hid hv.1
  have hvv := Lib.hid hv; clear hv
  have hw' := Lib.hid hw; clear hw
  have ho := Lib.hid hown; clear hown
  go_enter Try.func91, Try.ntmps91
  go_wp2_with (refine wpList_clear_own _ rfl _ 111 rfl Try.underlying111 boE b N D rfl ho.out ?_; intro w0 h0 g0; have o0 := Lib.hid h0; have s0 := Lib.hid g0; clear h0 g0)
  go_loopw [5, 9] (fun _ i wr => ∃ k : Nat, k ≤ m ∧ i = .int .i64 k ∧ Hid (wr.ownsMap Try.prog 53 boE b k (vD vs k)) ∧ Hid (w.grownBy wr (some b))) (fun _ i _ => m - (intOf i).toNat)
  case atStart => exact ⟨0, Nat.zero_le _, rfl, o0, s0⟩
  case round =>
    obtain ⟨k, hk, rfl, hown, hgr⟩ := hrel
    by_cases hlt : k < m
    · have hvr := votes_grown_map ho.out hgr.out hvv.out
      obtain ⟨vb, vo, rfl, hvb, q0', q1', q2'⟩ := hvr.2 k hlt
      have hkey := Lib.hid (keyVote (hw'.out k hlt))
      obtain ⟨a, ha⟩ : ∃ a, getV vs k = a := ⟨_, rfl⟩
      have hst := Lib.hid (show vD vs (k + 1) = (vD vs k).put (kv a) (.lit (.bool true)) by simp only [vD]; rw [ha])
      rw [ha] at q0' q1' q2' hkey
      obtain ⟨b1, b2, b3⟩ := a
      simp only at q0' q1' q2'
      clear ha hvr
      go_wp2_with (at_mapUpdate; refine wpList_mapUpdate_own _ rfl _ _ _ 111 rfl 53 4 lawVt Try.underlying111 boE b k (vD vs k) rfl (hown.out.alloc _) (by unfold maxLen; omega) _ _ _ rfl rfl hkey.out _ [] (boE_mk true) ?_; intro w1 hown1 hgrow1; have z1 := Lib.hid hown1; have z2 := Lib.hid hgrow1; clear hown1 hgrow1)
      have z3 := Lib.hid (grownBy_step (grownBy_bx hgr.out (.cells #[.int .i64 b1, .int .i64 b2, .int .i64 b3] 53)) z2.out)
      go_roundw
      case rel => exact ⟨k + 1, by omega, by go_num, Lib.hid (by rw [hst.out]; exact z1.out), z3⟩
      case measure => simp [intOf]; omega
    · have hkm : k = m := by omega
      have hown' := Lib.hid (show wr.ownsMap Try.prog 53 boE b m (vD vs m) by rw [hkm] at hown; exact hown.out)
      clear hkm hown
      go_wp2_with fail
      go_end0
      exact ⟨rfl, hown'.out, hgr.out⟩

set_option maxRecDepth 100000 in
set_option maxHeartbeats 1600000 in
theorem includes_any (b N : Nat) (D : DataW Unit) (M : List Vt) (U : Option Addr) (k0 e0 : Nat) (us : List Vt) (w : World) (hown : w.ownsMap Try.prog 53 boE b N D) (hD : ∀ x, wfV x → D.atKey (kv x) (.lit (.bool false)) = .lit (.bool (decide (x ∈ M)))) (hu : VotesAt w w.heap.size U k0 us) (hk0 : k0 ≤ 1048576) (hw : ∀ j, j < k0 → wfV (getV us j)) :
    Calls Try.prog 92 #[.map (some b), .slice U k0 e0] w fun e w' => e = .returned (.bool (withinB us M)) ∧ Below w.heap.size w w' := by
  have hlu := Lib.hid hu.1
  have huu := Lib.hid hu; clear hu
  have hw' := Lib.hid hw; clear hw
  have ho := Lib.hid hown; clear hown
  have hD' := Lib.hid hD; clear hD
  have hz : ∀ w, (zeroValue 4).run Try.prog w = .ok (.bool false) w := fun w => by kernel_rfl
  go_enter Try.func92, Try.ntmps92
  go_wp2_with fail
  go_loopw [6, 9] (fun _ i wr => ∃ k : Nat, k ≤ k0 ∧ i = .int .i64 k ∧ Hid (∀ j, j < k → getV us j ∈ M) ∧ Hid (Below w.heap.size w wr)) (fun _ i _ => k0 - (intOf i).toNat)
  case atStart => exact ⟨0, Nat.zero_le _, rfl, Lib.hid (fun j hj => absurd hj (Nat.not_lt_zero _)), Lib.hid (Below.refl _ _)⟩
  case round =>
    obtain ⟨k, hk, rfl, hall, hbel⟩ := hrel
    by_cases hlt : k < k0
    · obtain ⟨vb, vo, rfl, hvb, q0, q1, q2⟩ := huu.out.2 k hlt
      have q0' := (hbel.out.cell (p := ⟨vb, vo + k * 3, none⟩) hvb).trans q0
      have q1' := (hbel.out.cell (p := ⟨vb, vo + k * 3 + 1, none⟩) hvb).trans q1
      have q2' := (hbel.out.cell (p := ⟨vb, vo + k * 3 + 2, none⟩) hvb).trans q2
      have hkey := Lib.hid (keyVote (hw'.out k hlt))
      have hat := Lib.hid (hD'.out _ (hw'.out k hlt))
      have hor := Lib.hid (show wr.ownsMap Try.prog 53 boE b N D from ho.out.kept (row := none) ⟨hbel.out.os, hbel.out.tape, hbel.out.output, hbel.out.size, fun k hk _ => hbel.out.block k hk⟩ (by simp))
      obtain ⟨a, ha⟩ : ∃ a, getV us k = a := ⟨_, rfl⟩
      have ha' := Lib.hid ha
      rw [ha] at q0' q1' q2' hkey hat
      clear q0 q1 q2 ha
      by_cases hin : a ∈ M
      · have hat2 := Lib.hid (show D.atKey (kv a) (.lit (.bool false)) = .lit (.bool true) by rw [hat.out, decide_eq_true hin])
        have hnext := Lib.hid (show ∀ j, j < k + 1 → getV us j ∈ M from fun j hj => by
          by_cases e : j = k
          · subst e; rw [ha'.out]; exact hin
          · exact hall.out j (by omega))
        obtain ⟨b1, b2, b3⟩ := a
        simp only at q0' q1' q2'
        clear hat hin
        go_wp2_with (at_lookup; refine wpList_lookup_mark _ rfl _ _ 111 rfl 53 4 lawVt Try.underlying111 (hz _) b N D rfl (hor.out.alloc _) _ _ rfl hkey.out _ hat2.out ?_)
        have u1 := Lib.hid (hbel.out.alloc hbel.out.size (.cells #[.int .i64 b1, .int .i64 b2, .int .i64 b3] 53))
        go_roundw
        case rel => exact ⟨k + 1, by omega, by go_num, hnext, u1⟩
        case measure => simp [intOf]; omega
      · have hat2 := Lib.hid (show D.atKey (kv a) (.lit (.bool false)) = .lit (.bool false) by rw [hat.out, decide_eq_false hin])
        have hr := Lib.hid (show false = withinB us M by
          cases hc : withinB us M
          · rfl
          · exact absurd (withinB_iff.1 hc a (by rw [← ha'.out]; exact get_mem.1 ⟨k, by rw [hlu.out]; exact hlt, rfl⟩)) hin)
        obtain ⟨b1, b2, b3⟩ := a
        simp only at q0' q1' q2'
        clear hat hin
        go_wp2_with (at_lookup; refine wpList_lookup_mark _ rfl _ _ 111 rfl 53 4 lawVt Try.underlying111 (hz _) b N D rfl (hor.out.alloc _) _ _ rfl hkey.out _ hat2.out ?_)
        have u1 := Lib.hid (hbel.out.alloc hbel.out.size (.cells #[.int .i64 b1, .int .i64 b2, .int .i64 b3] 53))
        go_ret
        exact ⟨ret_bool hr.out, u1.out⟩
    · have hr := Lib.hid (show true = withinB us M from (withinB_iff.2 fun v hv => by
        obtain ⟨j, hj, e⟩ := get_mem.2 hv
        rw [← e]; exact hall.out j (by rw [hlu.out] at hj; omega)).symm)
      go_wp2_with fail
      go_ret
      exact ⟨ret_bool hr.out, hbel.out⟩

set_option maxRecDepth 100000 in
set_option maxHeartbeats 800000 in
theorem copyOf_any (V : Option Addr) (n d : Nat) (vs : List Vt) (w : World) (hv : VotesAt w w.heap.size V n vs) (hn : n ≤ 1048576) :
    Calls Try.prog 87 #[.agg #[.slice V n d]] w (RetPl w vs) := by
  have hlv := Lib.hid hv.1
  have hvv := Lib.hid hv; clear hv
  have hmk := fun W => make_votes n hn W
  obtain ⟨r1, r2, bW, sW⟩ := bx2_rows w (.slice V n d) (.slice none 0 0) 29 29
  have hc1 := r1.cell (i := 0) (by omega)
  have q1 := Lib.hid r1; have q2 := Lib.hid r2; have u := Lib.hid bW; have hs := Lib.hid sW
  have hnil := Lib.hid (show V = none → n = 0 from fun e => by
    by_cases h0 : n = 0
    · exact h0
    · obtain ⟨b, off, e', _⟩ := hvv.out.2 0 (by omega)
      rw [e] at e'; cases e')
  have hb3 := bx_below ((w.alloc (.cells #[.slice V n d] 29)).alloc (.cells #[.slice none 0 0] 29)) (.cells (madeCells #[.int .i64 0, .int .i64 0, .int .i64 0] (n * 3)) 53)
  have hnew0 := heap_alloc_new ((w.alloc (.cells #[.slice V n d] 29)).alloc (.cells #[.slice none 0 0] 29)) (.cells (madeCells #[.int .i64 0, .int .i64 0, .int .i64 0] (n * 3)) 53)
  rw [hs.out] at hnew0
  have hnew := Lib.hid hnew0
  clear hnew0
  have hcl := Lib.hid (cells_of_votes hvv.out u.out)
  have hc2 := (rowIs_below q1.out hb3 q1.out.lt).cell (i := 0) (by omega)
  have q2a := Lib.hid ((rowIs_below q2.out hb3 q2.out.lt).of_block (setRow_other (((w.alloc (.cells #[.slice V n d] 29)).alloc (.cells #[.slice none 0 0] 29)).alloc (.cells (madeCells #[.int .i64 0, .int .i64 0, .int .i64 0] (n * 3)) 53)) (w.heap.size + 2) (w.heap.size + 1) (flatV vs).toArray (by omega)))
  have hc3 := q2a.out.cell (i := 0) (by omega); have hf3 := q2a.out.frozen 0
  have hsz := size_madeCells #[.int .i64 0, .int .i64 0, .int .i64 0] (n * 3)
  have hsz' := Lib.hid hsz
  have hb3' := Lib.hid hb3
  clear r1 r2 bW sW hsz hb3
  go_enter Try.func87, Try.ntmps87
  go_wp2_with (refine wpList_copy_votes _ rfl _ _ rfl (w.heap.size + 2) n V d vs _ rfl rfl hnew.out hsz'.out hlv.out hnil.out (fun ad e t ht => hcl.out ad e t ht _ hb3'.out) ?_)
  have hlast := Lib.hid (setRow_heap (((w.alloc (.cells #[.slice V n d] 29)).alloc (.cells #[.slice none 0 0] 29)).alloc (.cells (madeCells #[.int .i64 0, .int .i64 0, .int .i64 0] (n * 3)) 53)) (w.heap.size + 2) _ (flatV vs).toArray 53 (0, 0) hnew.out)
  refine bodyPost_ret (results_cell_row rfl _ _ (w.heap.size + 1) 29 #[.slice (some ⟨(w.heap.size + 2), 0, none⟩) n n] (0, 0) _ rfl (pl_one_set q2a.out _) Try.underlying29 rfl (by kernel_rfl)) rfl ?_
  have hrow : ((((w.alloc (.cells #[.slice V n d] 29)).alloc (.cells #[.slice none 0 0] 29)).alloc (.cells (madeCells #[.int .i64 0, .int .i64 0, .int .i64 0] (n * 3)) 53)).setRow (w.heap.size + 2) (flatV vs).toArray).rowIs (w.heap.size + 2) 53 (n * 3) (cellsV vs) :=
    ⟨_, hlast.out, by simp [flatV_len, hlv.out], fun i hi => by rw [← Array.getElem?_toList]; exact flatV_get vs i (by rw [hlv.out]; exact hi)⟩
  have hrow2 := hrow.setOther (a := ⟨w.heap.size + 1, 0, none⟩) (by show (w.heap.size + 2) ≠ w.heap.size + 1; omega) (.slice (some ⟨(w.heap.size + 2), 0, none⟩) n n)
  have hbl : Below w.heap.size w ((((w.alloc (.cells #[.slice V n d] 29)).alloc (.cells #[.slice none 0 0] 29)).alloc (.cells (madeCells #[.int .i64 0, .int .i64 0, .int .i64 0] (n * 3)) 53)).setRow (w.heap.size + 2) (flatV vs).toArray) := by
    have b := u.out.trans (hb3'.out.mono u.out.size)
    exact ⟨b.os, b.tape, b.output, by rw [setRow_size]; exact b.size, fun k hk => (setRow_other _ _ _ _ (by omega)).trans (b.block k hk)⟩
  exact ⟨some ⟨(w.heap.size + 2), 0, none⟩, n, n, rfl, OwnV.of_row hlv.out (by omega) hrow2, hbl.setCell (by show w.heap.size ≤ w.heap.size + 1; omega) _⟩
end Go.Proofs.Ytlobjfipefibaaa

/- What is proved here: what the program's areViews and GoodView return. No conditions but lengths. -/
namespace Go.Proofs.Ytlobjfipefibaaa
open Go.RowKit Go.Maps Go.Sort Go.Shelf Go.Lib

abbrev Vw := List Vt × List Vt
def getW (ws : List Vw) (k : Nat) : Vw := ws[k]?.getD ([], [])
/-- The slice with the address A and n elements holds the views ws, in memory below B. -/
def ViewsAt (w : World) (B : Nat) (A : Option Addr) (n : Nat) (ws : List Vw) : Prop :=
  ws.length = n ∧ ∀ k, k < n → ∃ b off A1 n1 c1 A2 n2 c2, A = some ⟨b, off, none⟩ ∧ b < B ∧ w.cell? ⟨b, off + k * 2, none⟩ = some (.slice A1 n1 c1) ∧ w.cell? ⟨b, off + k * 2 + 1, none⟩ = some (.slice A2 n2 c2) ∧
    VotesAt w B A1 n1 (getW ws k).1 ∧ VotesAt w B A2 n2 (getW ws k).2 ∧ (n1 ≤ 1048576 ∧ n1 ≤ c1 ∧ (A1 = none → n1 = 0 ∧ c1 = 0)) ∧ n2 ≤ 1048576 ∧ n2 ≤ c2 ∧ (A2 = none → n2 = 0 ∧ c2 = 0)
section
variable {w w' : World} {B B' n : Nat} {A : Option Addr} {ws : List Vw}
theorem ViewsAt.below (h : ViewsAt w B A n ws) (hb : Below B w w') : ViewsAt w' B A n ws :=
  ⟨h.1, fun k hn => by
    obtain ⟨b, off, A1, n1, c1, A2, n2, c2, e, hb', h0, h1, h2, h3, h4⟩ := h.2 k hn
    exact ⟨b, off, A1, n1, c1, A2, n2, c2, e, hb', (hb.cell hb').trans h0, (hb.cell hb').trans h1, h2.below hb, h3.below hb, h4⟩⟩
theorem ViewsAt.more (h : ViewsAt w B A n ws) (hB : B ≤ B') : ViewsAt w B' A n ws :=
  ⟨h.1, fun k hn => by
    obtain ⟨b, off, A1, n1, c1, A2, n2, c2, e, hb', h0, h1, h2, h3, h4⟩ := h.2 k hn
    exact ⟨b, off, A1, n1, c1, A2, n2, c2, e, by omega, h0, h1, h2.more hB, h3.more hB, h4⟩⟩
theorem ViewsAt.up (h : ViewsAt w w.heap.size A n ws) (hb : Below w.heap.size w w') : ViewsAt w' w'.heap.size A n ws := (h.below hb).more hb.size
end
def vwAt (ts : List Blk) (ss : List Int) (ws : List Vw) (k : Nat) : Bool := viewOk ts ss (getW ws k).1 (getW ws k).2
def areV (ts : List Blk) (ss : List Int) (ws : List Vw) : Bool := (List.range ws.length).all (vwAt ts ss ws)
theorem areV_one (ts : List Blk) (ss : List Int) (s f : List Vt) : areV ts ss [(s, f)] = viewOk ts ss s f := by
  unfold areV vwAt getW; simp
/-- What the look-ups in a valid pool's set say. -/
theorem vD_pool {ts : List Blk} {ss : List Int} {vs : List Vt} {m n n' : Nat} (h : poolOk ts ss vs = true) (hl : ts.length = n) (hl' : ss.length = n') (hv : vs.length = m) (hn : n ≤ 1048576) (hn' : n' ≤ 1048576) :
    (∀ j, j < m → wfV (getV vs j)) ∧ ∀ x, wfV x → (vD vs m).atKey (kv x) (.lit (.bool false)) = .lit (.bool (decide (x ∈ vs))) := by
  have hw := (set_of_ok (votesOk_of_pool h) hl hl' hv hn hn').1
  refine ⟨hw, fun x hx => ?_⟩
  have hid := setV_id (poolOk_iff'.1 h).2.2
  have hall : allV [] vs m = vs := by rw [← hv]; exact hid
  have := vD_at hx m hw
  rw [hall] at this
  exact this

set_option maxRecDepth 100000 in
set_option maxHeartbeats 3200000 in
theorem areViews_any (A : Option Addr) (n c : Nat) (ts : List Blk) (A' : Option Addr) (n' c' : Nat) (ss : List Int) (Q : Option Addr) (q r : Nat) (ws : List Vw) (w : World) (h : BlksAt w w.heap.size A n ts) (h' : IntsAt w w.heap.size A' n' ss) (hv : ViewsAt w w.heap.size Q q ws) (hn : n ≤ 1048576) (hn' : n' ≤ 1048576) (hq : q ≤ 1048576) :
    Calls Try.prog 85 #[.slice A n c, .slice A' n' c', .slice Q q r] w (UpPost w (.bool (areV ts ss ws))) := by
  have hl := Lib.hid h.1; have hl' := Lib.hid h'.1; have hlv := Lib.hid hv.1
  have hh := Lib.hid h; have hh' := Lib.hid h'; have hvv := Lib.hid hv; clear h h' hv
  have hmm := @run_makeMap Try.prog
  have hm0 := Lib.hid (World.ownsMap_made w Try.prog 53 boE)
  have u0 := Lib.hid (bx_below w (.map #[] 0))
  have hs0 : w.heap.size < (w.alloc (.map #[] 0)).heap.size := by simp
  go_enter Try.func85, Try.ntmps85
  go_wp2_with fail
  clear hmm
  go_loopw [9, 13] (fun _ i wr => ∃ k : Nat, k ≤ q ∧ i = .int .i64 k ∧ (∃ N D, Hid (wr.ownsMap Try.prog 53 boE w.heap.size N D)) ∧ Hid (Below w.heap.size w wr) ∧ w.heap.size < wr.heap.size ∧ Hid (∀ j, j < k → vwAt ts ss ws j = true)) (fun _ i _ => q - (intOf i).toNat)
  case atStart => exact ⟨0, Nat.zero_le _, rfl, ⟨_, _, hm0⟩, u0, hs0, Lib.hid (fun j hj => absurd hj (Nat.not_lt_zero _))⟩
  case round =>
    obtain ⟨k, hk, rfl, ⟨N, D, hown⟩, hbel, hsz, hall⟩ := hrel
    by_cases hlt : k < q
    · obtain ⟨vb, vo, A1, n1, c1, A2, n2, c2, rfl, hvb, q0, q1, hv1, hv2, ⟨hn1, -, -⟩, hn2, -, -⟩ := hvv.out.2 k hlt
      have q0' := (hbel.out.cell (p := ⟨vb, vo + k * 2, none⟩) hvb).trans q0
      have q1' := (hbel.out.cell (p := ⟨vb, vo + k * 2 + 1, none⟩) hvb).trans q1
      obtain ⟨S, hS⟩ : ∃ S, (getW ws k).1 = S := ⟨_, rfl⟩
      obtain ⟨F, hF⟩ : ∃ F, (getW ws k).2 = F := ⟨_, rfl⟩
      rw [hS] at hv1; rw [hF] at hv2
      have hat := Lib.hid (show vwAt ts ss ws k = viewOk ts ss S F by unfold vwAt; rw [hS, hF])
      have hvs := Lib.hid hv1; have hvf := Lib.hid hv2
      have ls := Lib.hid hv1.1; have lf := Lib.hid hv2.1
      have r0 := bx_row2 wr (.slice A1 n1 c1) (.slice A2 n2 c2) 63
      have b0 := bx_below wr (.cells #[.slice A1 n1 c1, .slice A2 n2 c2] 63)
      have x := Lib.hid r0
      have u := Lib.hid (hbel.out.trans (b0.mono hbel.out.size))
      have om := Lib.hid (hown.out.alloc (.cells #[.slice A1 n1 c1, .slice A2 n2 c2] 63))
      have hx0 := row2_0 x.out; have hx1 := row2_1 x.out
      have hkI : (k : Int) < (q : Int) := by omega
      clear q0 q1 hv1 hv2 hS hF r0 b0 hown
      cases hg : poolOk ts ss S
      · have hr := Lib.hid (show areV ts ss ws = false from all_no (k := k) (by rw [hlv.out]; exact hlt) (by rw [hat.out]; unfold viewOk; rw [hg]; rfl))
        go_wp2_with (go_at_call 81; refine (goodPool_any A n c ts A' n' c' ss A1 n1 c1 S _ (hh.out.up u.out) (hh'.out.up' u.out) (hvs.out.up u.out) hn hn' hn1).mono ?_; rintro e w1 ⟨rfl, b1⟩; rw [hg]; replace u := Lib.hid (u.out.trans (b1.mono u.out.size)); clear b1)
        go_ret
        exact ⟨ret_bool hr.out.symm, u.out⟩
      · cases hg2 : poolOk ts ss F
        · have hr := Lib.hid (show areV ts ss ws = false from all_no (k := k) (by rw [hlv.out]; exact hlt) (by rw [hat.out]; unfold viewOk; rw [hg2]; simp))
          have tk0 : True := trivial
          go_wp2_with (first
            | (clear tk0; go_at_call 81; refine (goodPool_any A n c ts A' n' c' ss A1 n1 c1 S _ (hh.out.up u.out) (hh'.out.up' u.out) (hvs.out.up u.out) hn hn' hn1).mono ?_; rintro e w1 ⟨rfl, b1⟩; rw [hg]; replace u := Lib.hid (u.out.trans (b1.mono u.out.size)); replace x := Lib.hid (rowIs_below x.out b1 x.out.lt); clear b1 hx0 hx1; have hx0 := row2_0 x.out; have hx1 := row2_1 x.out; have tk1 : True := trivial)
            | (clear tk1; go_at_call 81; refine (goodPool_any A n c ts A' n' c' ss A2 n2 c2 F _ (hh.out.up u.out) (hh'.out.up' u.out) (hvf.out.up u.out) hn hn' hn2).mono ?_; rintro e w1 ⟨rfl, b1⟩; rw [hg2]; replace u := Lib.hid (u.out.trans (b1.mono u.out.size)); clear b1))
          go_ret
          exact ⟨ret_bool hr.out.symm, u.out⟩
        · obtain ⟨hwS, hDS⟩ := vD_pool hg hl.out hl'.out ls.out hn hn'
          obtain ⟨hwF, _⟩ := vD_pool hg2 hl.out hl'.out lf.out hn hn'
          have hwS' := Lib.hid hwS; have hDS' := Lib.hid hDS; have hwF' := Lib.hid hwF
          have hvw := Lib.hid (show viewOk ts ss S F = withinB F S by unfold viewOk; rw [hg, hg2, Bool.true_and, Bool.true_and])
          clear hwS hDS hwF
          cases hw : withinB F S
          · have hr := Lib.hid (show areV ts ss ws = false from all_no (k := k) (by rw [hlv.out]; exact hlt) (by rw [hat.out, hvw.out, hw]))
            have tk0 : True := trivial
            go_wp2_with (first
              | (clear tk0; go_at_call 81; refine (goodPool_any A n c ts A' n' c' ss A1 n1 c1 S _ (hh.out.up u.out) (hh'.out.up' u.out) (hvs.out.up u.out) hn hn' hn1).mono ?_; rintro e w1 ⟨rfl, b1⟩; rw [hg]; replace u := Lib.hid (u.out.trans (b1.mono u.out.size)); replace om := Lib.hid (om.out.kept (row := none) ⟨b1.os, b1.tape, b1.output, b1.size, fun k hk _ => b1.block k hk⟩ (by simp)); replace x := Lib.hid (rowIs_below x.out b1 x.out.lt); clear b1 hx0 hx1; have hx0 := row2_0 x.out; have hx1 := row2_1 x.out; have tk1 : True := trivial)
              | (clear tk1; go_at_call 81; refine (goodPool_any A n c ts A' n' c' ss A2 n2 c2 F _ (hh.out.up u.out) (hh'.out.up' u.out) (hvf.out.up u.out) hn hn' hn2).mono ?_; rintro e w2 ⟨rfl, b1⟩; rw [hg2]; replace u := Lib.hid (u.out.trans (b1.mono u.out.size)); replace om := Lib.hid (om.out.kept (row := none) ⟨b1.os, b1.tape, b1.output, b1.size, fun k hk _ => b1.block k hk⟩ (by simp)); replace x := Lib.hid (rowIs_below x.out b1 x.out.lt); clear b1 hx0 hx1; have hx0 := row2_0 x.out; have hx1 := row2_1 x.out; have tk2 : True := trivial)
              | (clear tk2; go_at_call 91; refine (refill_any w.heap.size N D A1 n1 c1 S _ om.out (hvs.out.up u.out) hn1 hwS'.out).mono ?_; rintro e w3 ⟨rfl, om3, g3⟩; replace x := Lib.hid (x.out.of_block (g3.block _ x.out.lt (fun e => by injection e with e; omega))); replace u := Lib.hid (u.out.grown g3 u.out.size (fun j e => by injection e with e; omega)); have om4 := Lib.hid om3; clear om om3 g3 hx0 hx1; have hx0 := row2_0 x.out; have hx1 := row2_1 x.out; have tk3 : True := trivial)
              | (clear tk3; go_at_call 92; refine (includes_any w.heap.size n1 (vD S n1) S A2 n2 c2 F _ om4.out hDS'.out (hvf.out.up u.out) hn2 hwF'.out).mono ?_; rw [hw]; rintro e w4 ⟨rfl, b4⟩; replace u := Lib.hid (u.out.trans (b4.mono u.out.size)); clear b4))
            go_ret
            exact ⟨ret_bool hr.out.symm, u.out⟩
          · have hnext := Lib.hid (show ∀ j, j < k + 1 → vwAt ts ss ws j = true from fun j hj => by
              by_cases e : j = k
              · subst e; rw [hat.out, hvw.out, hw]
              · exact hall.out j (by omega))
            have tk0 : True := trivial
            go_wp2_with (first
              | (clear tk0; go_at_call 81; refine (goodPool_any A n c ts A' n' c' ss A1 n1 c1 S _ (hh.out.up u.out) (hh'.out.up' u.out) (hvs.out.up u.out) hn hn' hn1).mono ?_; rintro e w1 ⟨rfl, b1⟩; rw [hg]; replace u := Lib.hid (u.out.trans (b1.mono u.out.size)); replace om := Lib.hid (om.out.kept (row := none) ⟨b1.os, b1.tape, b1.output, b1.size, fun k hk _ => b1.block k hk⟩ (by simp)); replace x := Lib.hid (rowIs_below x.out b1 x.out.lt); clear b1 hx0 hx1; have hx0 := row2_0 x.out; have hx1 := row2_1 x.out; have tk1 : True := trivial)
              | (clear tk1; go_at_call 81; refine (goodPool_any A n c ts A' n' c' ss A2 n2 c2 F _ (hh.out.up u.out) (hh'.out.up' u.out) (hvf.out.up u.out) hn hn' hn2).mono ?_; rintro e w2 ⟨rfl, b1⟩; rw [hg2]; replace u := Lib.hid (u.out.trans (b1.mono u.out.size)); replace om := Lib.hid (om.out.kept (row := none) ⟨b1.os, b1.tape, b1.output, b1.size, fun k hk _ => b1.block k hk⟩ (by simp)); replace x := Lib.hid (rowIs_below x.out b1 x.out.lt); clear b1 hx0 hx1; have hx0 := row2_0 x.out; have hx1 := row2_1 x.out; have tk2 : True := trivial)
              | (clear tk2; go_at_call 91; refine (refill_any w.heap.size N D A1 n1 c1 S _ om.out (hvs.out.up u.out) hn1 hwS'.out).mono ?_; rintro e w3 ⟨rfl, om3, g3⟩; replace x := Lib.hid (x.out.of_block (g3.block _ x.out.lt (fun e => by injection e with e; omega))); replace u := Lib.hid (u.out.grown g3 u.out.size (fun j e => by injection e with e; omega)); have om4 := Lib.hid om3; clear om om3 g3 hx0 hx1; have hx0 := row2_0 x.out; have hx1 := row2_1 x.out; have tk3 : True := trivial)
              | (clear tk3; go_at_call 92; refine (includes_any w.heap.size n1 (vD S n1) S A2 n2 c2 F _ om4.out hDS'.out (hvf.out.up u.out) hn2 hwF'.out).mono ?_; rw [hw]; rintro e w4 ⟨rfl, b4⟩; have om5 := Lib.hid (om4.out.kept (row := none) ⟨b4.os, b4.tape, b4.output, b4.size, fun k hk _ => b4.block k hk⟩ (by simp)); have lw := Nat.lt_of_lt_of_le x.out.lt b4.size; replace u := Lib.hid (u.out.trans (b4.mono u.out.size)); clear b4))
            go_roundw
            case rel => exact ⟨k + 1, by omega, by go_num, ⟨_, _, om5⟩, u, by omega, hnext⟩
            case measure => simp [intOf]; omega
    · have hr := Lib.hid (show areV ts ss ws = true from all_yes (fun j hj => hall.out j (by rw [hlv.out] at hj; omega)))
      go_wp2_with fail
      go_ret
      exact ⟨ret_bool hr.out.symm, hbel.out⟩

/-- One view, laid as a slice of one. -/
theorem one_view {w : World} {V : Option Addr} {n c : Nat} {U : Option Addr} {m d : Nat} {s f : List Vt} (h : VotesAt w w.heap.size V n s) (h' : VotesAt w w.heap.size U m f) (hn : n ≤ 1048576) (hm : m ≤ 1048576) (hc : n ≤ c) (hd : m ≤ d) (hnil : V = none → n = 0 ∧ c = 0) (hnil' : U = none → m = 0 ∧ d = 0) (t : TypeId) :
    ViewsAt (w.alloc (.cells #[.slice V n c, .slice U m d] t)) (w.alloc (.cells #[.slice V n c, .slice U m d] t)).heap.size (some ⟨w.heap.size, 0, none⟩) 1 [(s, f)] := by
  have r := bx_row2 w (.slice V n c) (.slice U m d) t
  have b := bx_below w (.cells #[.slice V n c, .slice U m d] t)
  refine ⟨rfl, fun k hk => ?_⟩
  obtain rfl : k = 0 := by omega
  exact ⟨w.heap.size, 0, V, n, c, U, m, d, rfl, r.lt, row2_0 r, row2_1 r, h.up b, h'.up b, ⟨hn, hc, hnil⟩, hm, hd, hnil'⟩
set_option maxRecDepth 100000 in
theorem goodView_any (A : Option Addr) (n c : Nat) (ts : List Blk) (A' : Option Addr) (n' c' : Nat) (ss : List Int) (V : Option Addr) (m d : Nat) (vs : List Vt) (U : Option Addr) (k e0 : Nat) (us : List Vt) (w : World) (h : BlksAt w w.heap.size A n ts) (h' : IntsAt w w.heap.size A' n' ss) (hv : VotesAt w w.heap.size V m vs) (hu : VotesAt w w.heap.size U k us) (hn : n ≤ 1048576) (hn' : n' ≤ 1048576) (hm : m ≤ 1048576) (hk : k ≤ 1048576) (hc : m ≤ d) (hd : k ≤ e0) (hnil : V = none → m = 0 ∧ d = 0) (hnil' : U = none → k = 0 ∧ e0 = 0) :
    Calls Try.prog 40 #[.slice A n c, .slice A' n' c', .agg #[.slice V m d, .slice U k e0]] w (UpPost w (.bool (viewOk ts ss vs us))) := by
  have b0 := bx_below w (.cells #[.slice V m d, .slice U k e0] 63)
  have r0 := bx_row2 w (.slice V m d) (.slice U k e0) 63
  have b1 := bx_below (w.alloc (.cells #[.slice V m d, .slice U k e0] 63)) (.cells #[.slice V m d, .slice U k e0] 63)
  have hone0 := one_view (hv.up b0) (hu.up b0) hm hk hc hd hnil hnil' 63
  rw [show (w.alloc (.cells #[.slice V m d, .slice U k e0] 63)).heap.size = w.heap.size + 1 by simp] at hone0
  have hone := Lib.hid hone0
  clear hone0
  have u := Lib.hid (b0.trans (b1.mono b0.size))
  have hh := Lib.hid (h.up u.out); have hh' := Lib.hid (h'.up' u.out)
  have hx0 := row2_0 r0; have hx1 := row2_1 r0
  have hr := Lib.hid (areV_one ts ss vs us)
  clear b0 r0 b1 h h' hv hu
  go_enter Try.func40, Try.ntmps40
  go_wp2_with (go_at_call 85; refine (areViews_any A n c ts A' n' c' ss (some ⟨w.heap.size + 1, 0, none⟩) 1 1 [(vs, us)] _ hh.out hh'.out hone.out hn hn' (by omega)).mono ?_; rw [hr.out]; rintro e w1 ⟨rfl, b1⟩; replace u := Lib.hid (u.out.trans (b1.mono u.out.size)); clear b1)
  go_ret
  exact ⟨rfl, u.out⟩
end Go.Proofs.Ytlobjfipefibaaa
