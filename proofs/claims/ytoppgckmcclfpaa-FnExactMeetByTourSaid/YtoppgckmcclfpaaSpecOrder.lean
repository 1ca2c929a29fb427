/- What is proved here: what the model's l4Order and l4Tour append. No conditions. -/
import Derived.Test.YtoppgckmcclfpaaSpecTour
namespace Go.Proofs.Ytoppgckmcclfpaa
open Go.RowKit

/-- From w to w' nothing that lay has turned but v's own block, and v' lies there or in a new block. -/
structure Grows (w : World) (v : Value) (w' : World) (v' : Value) : Prop where
  by_ : w.grownBy w' v.ownBlock
  at_ : v'.ownBlock = v.ownBlock ∨ ∃ g, v'.ownBlock = some g ∧ w.heap.size ≤ g
theorem Grows.trans {w w1 w2 : World} {v v1 v2 : Value} (h : Grows w v w1 v1) (k : Grows w1 v1 w2 v2) : Grows w v w2 v2 := by
  have hs := h.by_.size
  refine ⟨⟨k.by_.os.trans h.by_.os, k.by_.tape.trans h.by_.tape, k.by_.output.trans h.by_.output, Nat.le_trans hs k.by_.size, fun i hi hne => (k.by_.block i (Nat.lt_of_lt_of_le hi hs) (fun e => ?_)).trans (h.by_.block i hi hne)⟩, ?_⟩
  · rcases h.at_ with e1 | ⟨g, e1, hg⟩
    · exact hne (e.trans e1)
    · rw [e1] at e; injection e with e; omega
  · rcases k.at_ with e2 | ⟨g, e2, hg⟩
    · rcases h.at_ with e1 | ⟨g, e1, hg⟩
      · exact .inl (e2.trans e1)
      · exact .inr ⟨g, e2.trans e1, hg⟩
    · exact .inr ⟨g, e2, Nat.le_trans hs hg⟩
theorem Grows.still {w w' : World} (v : Value) (h : Below w.heap.size w w') : Grows w v w' v := ⟨⟨h.os, h.tape, h.output, h.size, fun k hk _ => h.block k hk⟩, .inl rfl⟩
theorem Grows.append {w w1 : World} {v : Value} {tmp : Obj} {g n c : Nat} (h : (w.alloc tmp).grownBy w1 v.ownBlock) (hat : v.ownBlock = some g ∨ g = (w.alloc tmp).heap.size) : Grows w v w1 (.slice (some ⟨g, 0, none⟩) n c) := by
  have hz : (w.alloc tmp).heap.size = w.heap.size + 1 := by simp
  have hs := h.size
  refine ⟨⟨h.os, h.tape, h.output, by omega, fun k hk hne => (h.block k (by omega) hne).trans (Below.heap_alloc w tmp k hk)⟩, ?_⟩
  rcases hat with e | e
  · exact .inl (by rw [e]; rfl)
  · exact .inr ⟨g, rfl, by omega⟩
theorem Grows.below {w w' : World} {v v' : Value} {B : Nat} (h : Grows w v w' v') (hB : B ≤ w.heap.size) (hv : ∀ g, v.ownBlock = some g → B ≤ g) : Below B w w' :=
  (Below.refl B w).grown h.by_ hB (fun k e => hv k e)
def GrowPost (w : World) (base : Nat) (v : Value) (zs : List Int) (e : Ending) (w' : World) : Prop :=
  ∃ v', e = .returned v' ∧ w'.ownsRow base 3 1 v' zs.length (zs.map (Value.int .i64)) ∧ Grows w v w' v'

theorem orderL_cons (x : Nat) (xs : List (Nat × Bool)) : orderL ((x, true) :: xs) = (x : Int) :: orderL xs := by simp [orderL]
theorem orderL_append (xs ys : List (Nat × Bool)) : orderL (xs ++ ys) = orderL xs ++ orderL ys := by simp [orderL]
theorem orderL_part {ts : List Blk} {b : Nat} (cs : List Nat) (x : Nat) : orderL (tourPart ts b (cs ++ [x])) = orderL (tourPart ts b cs) ++ orderL (tour ts x) := by
  rw [tourPart_snoc, orderL_no, orderL_append]
theorem tourL_part {ts : List Blk} {b : Nat} (cs : List Nat) (x : Nat) : tourL (tourPart ts b (cs ++ [x])) = tourL (tourPart ts b cs) ++ tourL (tour ts x) ++ [(b : Int)] := by
  rw [tourPart_snoc]; simp [tourL]
theorem take_snoc {l : List Nat} {j : Nat} (h : j < l.length) : l.take (j + 1) = l.take j ++ [l[j]?.getD 0] := by
  rw [List.take_succ_eq_append_getElem h, List.getElem?_eq_getElem h]; rfl
theorem kidsZ_at {l : List Nat} {j : Nat} (h : j < l.length) : (kidsZ l)[j]?.getD 0 = ((l[j]?.getD 0 : Nat) : Int) := by
  unfold kidsZ; rw [List.getElem?_map, List.getElem?_eq_getElem h]; rfl

set_option maxRecDepth 100000 in
set_option maxHeartbeats 2000000 in
theorem l4Order_any (A : Option Addr) (n c : Nat) (ts : List Blk) (base : Nat) (hn : n ≤ 1000) (ht : Tree ts) (L : Nat) (hL : L ≤ 100000) : ∀ (f b : Nat) (v : Value) (ys : List Int) (w : World), ts.length - b ≤ f → b < ts.length →
    BlksAt w base A n ts → base ≤ w.heap.size → w.ownsRow base 3 1 v ys.length (ys.map (Value.int .i64)) → (ys ++ orderL (tour ts b)).length ≤ L →
    Calls Try.prog 97 #[.slice A n c, .int .i64 b, v] w (GrowPost w base v (ys ++ orderL (tour ts b))) := by
  intro f
  induction f with
  | zero => intro b v ys w hf hb; omega
  | succ f ih =>
    intro b v ys w hf hb hA hbase hown hlen
    obtain ⟨i0, hi, hz0, hz1, hz2⟩ := info_parts info3
    have hln : ts.length = n := hA.1
    have hA' := Lib.hid hA; have hown' := Lib.hid hown; have ih' := Lib.hid ih
    have hall := Lib.hid (show kidsL ts b n = kids ts b by unfold kids; rw [hln])
    have htp := Lib.hid (tourPart_all ht hb)
    have hyl : ys.length ≤ 1048576 := by rw [List.length_append] at hlen; omega
    have hlen' := Lib.hid hlen
    have hln' := Lib.hid hln
    clear hA hown ih hln hlen
    go_enter Try.func97, Try.ntmps97
    go_wp2_with (at_builtin; refine appendPl _ rfl _ _ 31 rfl base i0 Try.underlying31 hi hz0 hz1 hz2 _ ys rfl (hown'.out.alloc _) w.heap.size 0 1 b rfl (Boxed.new w 3 (.int .i64 b)).cell hyl (by rw [World.size_alloc]; omega) ?_; intro g c' w1 h1 h2 h3; have f1 := Lib.hid h1; have f2 := Lib.hid (Grows.append (n := ys.length + 1) (c := c') h2 h3); clear h1 h2 h3)
    have bw1 := f2.out.below hbase (fun g e => (hown'.out.lt g e).1)
    have hA1 := Lib.hid (hA'.out.below bw1)
    have hs1 := Nat.le_trans hbase bw1.size
    clear bw1
    refine (l4Children_any A n c ts b w1 (hA1.out.more hs1) hn ht).mono ?_
    rintro e w2 ⟨Ak, nk, ck, rfl, o2, b2⟩
    have hnk : nk ≤ 1000 := by
      rw [← o2.len]; unfold kidsZ kidsL; rw [List.length_map]; refine Nat.le_trans (List.length_filter_le _ _) ?_; simp; omega
    have o2' := Lib.hid o2
    have hkl := Lib.hid (show (kids ts b).length = nk by rw [← hall.out, ← o2.len]; unfold kidsZ; simp)
    have r2 := Lib.hid (show w2.ownsRow base 3 1 (.slice (some ⟨g, 0, none⟩) (ys.length + 1) c') (ys ++ orderL (tourPart ts b ([] : List Nat))).length ((ys ++ orderL (tourPart ts b [])).map (Value.int .i64)) from
      f1.out.kept ⟨b2.os, b2.tape, b2.output, b2.size, fun k hk _ => b2.block k hk⟩ (.inr (by simp [Value.ownBlock]) : _ ∨ _ ≠ (none : Option Nat)))
    have g2 := Lib.hid (f2.out.trans (Grows.still (.slice (some ⟨g, 0, none⟩) (ys.length + 1) c') b2))
    have hg1 := Lib.hid (f1.out.lt g rfl)
    have hs2 := b2.size
    clear o2 b2 f1 f2 hA1
    go_wp2_with fail
    go_loopw [2, 8, 17] (fun o _ i wr => ∃ j : Nat, j ≤ nk ∧ i = .int .i64 j ∧ Hid (wr.ownsRow base 3 1 o (ys ++ orderL (tourPart ts b ((kids ts b).take j))).length ((ys ++ orderL (tourPart ts b ((kids ts b).take j))).map (Value.int .i64))) ∧ Hid (Grows w2 (.slice (some ⟨g, 0, none⟩) (ys.length + 1) c') wr o)) (fun _ _ i _ => nk - (intOf i).toNat)
    case atStart => exact ⟨0, Nat.zero_le _, rfl, r2, Lib.hid (Grows.still _ (Below.refl _ _))⟩
    case round =>
      obtain ⟨j, hj, rfl, ho, hgr⟩ := hrel
      by_cases hlt : j < nk
      · have hjl : j < (kids ts b).length := by rw [hkl.out]; exact hlt
        have hx := kids_above ht (b := b) (i := (kids ts b)[j]?.getD 0) (by rw [List.getElem?_eq_getElem hjl]; exact List.getElem_mem _)
        have hst := take_snoc hjl
        have hpart := orderL_part (ts := ts) (b := b) ((kids ts b).take j) ((kids ts b)[j]?.getD 0)
        rw [← hst] at hpart
        have hpre : orderL (tourPart ts b ((kids ts b).take (j + 1))) <+: orderL (tour ts b) := by
          obtain ⟨r, hr⟩ := tourPart_prefix ht hb (List.take_prefix (j + 1) (kids ts b))
          rw [← hr, orderL_append]; exact List.prefix_append _ _
        have hln2 := hpre.length_le
        rw [hpart] at hln2
        have hL2 : (ys ++ orderL (tourPart ts b ((kids ts b).take j)) ++ orderL (tour ts ((kids ts b)[j]?.getD 0))).length ≤ L := by
          have := hlen'.out; simp only [List.length_append] at this hln2 ⊢; omega
        have bwr := hgr.out.below (B := base) (by omega) (fun g' e => by cases e; exact hg1.out.1)
        have hsr := hgr.out.by_.size
        have hAr := hA'.out.below ((g2.out.below hbase (fun g' e => (hown'.out.lt g' e).1)).trans bwr)
        have ok := o2'.out.keep hsr (fun ad e => hgr.out.by_.block _ (o2'.out.low ad e).2 (fun e' => by injection e' with e'; have := (o2'.out.low ad e).1; have := hg1.out.2; simp at e'; omega))
        obtain ⟨gk, ok2, eK, _, hck⟩ := ok.ints.2 j hlt
        rw [hall.out, kidsZ_at hjl] at hck
        have call := Lib.hid (ih'.out ((kids ts b)[j]?.getD 0) _ (ys ++ orderL (tourPart ts b ((kids ts b).take j))) wr (by omega) hx.2.1 hAr (by omega) ho.out hL2)
        rw [List.append_assoc, ← hpart] at call
        have call' := call
        subst eK
        generalize (kids ts b)[j]?.getD 0 = X at hck call'
        clear call hx hst hpart hpre hln2 hL2 bwr hAr ok
        go_wp2_with fail
        refine call'.out.mono ?_
        rintro e w3 ⟨v3, rfl, ho3, hg3⟩
        have q1 := Lib.hid ho3; have q2 := Lib.hid (hgr.out.trans hg3); clear ho3 hg3
        go_wp2_with fail
        go_roundw
        case rel => exact ⟨j + 1, by omega, by go_num, q1, q2⟩
        case measure => simp [intOf]; omega
      · have hjk : (kids ts b).take j = kids ts b := List.take_of_length_le (by rw [hkl.out]; omega)
        rw [hjk, htp.out] at ho
        have q2 := Lib.hid (g2.out.trans hgr.out)
        clear hjk
        go_wp2_with fail
        go_ret
        exact ⟨_, rfl, ho.out, q2.out⟩
end Go.Proofs.Ytoppgckmcclfpaa
