/- What is proved here: what MeetByTour of the program returns. No conditions. -/
import Derived.Test.YthiegfbdmmpababFirstStep
import Derived.Test.YthiegfbdmmpababLeastWalks
import Derived.Test.YthiegfbdmmpababMeetWalks
namespace Go.Proofs.Ythiegfbdmmpabab
open Go.RowKit Go.Shelf

attribute [local go_sem] Oper.semAt_some

def onlyNormal (Q : Exit → Act → World → Prop) : Exit → Act → World → Prop
  | .normal, a, w => Q .normal a w
  | _, _, _ => False
theorem onlyNormal_le {Q : Exit → Act → World → Prop} : ∀ e a w, onlyNormal Q e a w → Q e a w := fun e a w h => by cases e <;> first | exact h | exact h.elim

set_option maxRecDepth 100000 in
set_option maxHeartbeats 4000000 in
theorem implMeetTour_any (A : Option Addr) (n c : Nat) (ts : List Blk) (a b : Int) (w : World) (h : BlksAt w w.heap.size A n ts) (hn : n ≤ 1048576) :
    Calls Try.prog 53 #[.slice A n c, .int .i64 a, .int .i64 b] w (UpPost w (.tuple #[.int .i64 (meetR ts a b), .bool (abvOk ts a b)])) := by
  obtain ⟨i0, hi, hz0, hz1, hz2⟩ := info_parts info3
  have hh := Lib.hid h; clear h
  refine (callsIn_wide (n := 0)).1 ?_
  refine callsIn_of_wp_marks Try.func53 rfl trivial ?_ rfl
  simp only [Try.ntmps53, List.size_toArray, List.length_cons, List.length_nil, Nat.reduceAdd, Nat.reduceSub, Array.replicate_succ, Array.replicate_zero, List.push_toArray, List.append_toArray, List.nil_append, List.cons_append]
  obtain ⟨W0, hW0⟩ : ∃ W0, w.alloc (.cells #[.slice A n c] 23) = W0 := ⟨_, rfl⟩
  have bx0 : Boxed W0 w.heap.size 23 (.slice A n c) := by rw [← hW0]; exact Boxed.new w 23 (.slice A n c)
  have hb0 : Below w.heap.size w W0 := by rw [← hW0]; exact (Below.refl _ w).alloc (Nat.le_refl _) _
  have hs0 : w.heap.size < W0.heap.size := by rw [← hW0]; simp
  have cx0 := bx0.cell
  gi_wp2
  have hW0' := Lib.hid hW0
  have hb0' := Lib.hid hb0; have bx0' := Lib.hid bx0
  clear hW0 hb0 bx0
  refine ⟨trivial, rfl, (callsIn_wide.2 (isBlock_ok _ _ _ ts a W0 (hh.out.up hb0'.out) hn)).mono ?_⟩
  rintro e w1 ⟨rfl, b1⟩
  have u1 := Lib.hid (hb0'.out.trans (b1.mono hb0'.out.size))
  have bx1 : Boxed w1 w.heap.size 23 (.slice A n c) := (b1.block _ hs0).trans bx0'.out
  have cx1 := bx1.cell
  have bx1' := Lib.hid bx1
  have hs1 := bx1.lt
  clear b1 cx0 bx1
  cases hga : okK ts a
  · have hz := Lib.hid (show abvOk ts a b = false by unfold abvOk; rw [hga]; rfl)
    have hzr := Lib.hid (show meetR ts a b = 0 by unfold meetR; rw [hz.out]; rfl)
    gi_wp2
    refine ⟨trivial, ?_⟩
    gi_wp2
    exact ⟨_, results_tmp2 rfl _ _ _, by rw [hz.out, hzr.out]; rfl, u1.out⟩
  · gi_wp2
    refine ⟨trivial, rfl, (callsIn_wide.2 (isBlock_ok _ _ _ ts b w1 (hh.out.up u1.out) hn)).mono ?_⟩
    rintro e w2 ⟨rfl, b2⟩
    have u2 := Lib.hid (u1.out.trans (b2.mono u1.out.size))
    have bx2 : Boxed w2 w.heap.size 23 (.slice A n c) := (b2.block _ hs1).trans bx1'.out
    have cx2 := bx2.cell
    have bx2' := Lib.hid bx2
    have hs2 := bx2.lt
    clear b2 cx1 bx2
    cases hgb : okK ts b
    · have hz := Lib.hid (show abvOk ts a b = false by unfold abvOk; rw [hga, hgb]; rfl)
      have hzr := Lib.hid (show meetR ts a b = 0 by unfold meetR; rw [hz.out]; rfl)
      gi_wp2
      exact ⟨_, results_tmp2 rfl _ _ _, by rw [hz.out, hzr.out]; rfl, u2.out⟩
    · obtain ⟨ht, x, rfl, hx⟩ := okK_iff.1 hga
      obtain ⟨_, y, rfl, hy⟩ := okK_iff.1 hgb
      have hz := Lib.hid (show abvOk ts x y = true by unfold abvOk; rw [hga, hgb]; rfl)
      have hzr := Lib.hid (show meetR ts x y = (meet ts x y : Nat) by unfold meetR; rw [hz.out]; rfl)
      have hlt := Lib.hid (tour_short ht ht.pos)
      have hln := Lib.hid hh.out.1
      have hx' := Lib.hid hx; have hy' := Lib.hid hy
      clear hga hgb
      gi_wp2
      refine ⟨trivial, rfl, (callsIn_wide.2 (tourFrom_any A n c 0 _)).mono ?_⟩
      rintro e W3 ⟨rfl, hW3⟩
      obtain ⟨W2, hW2⟩ : ∃ W2, w2.alloc (.cells #[.slice none 0 0] 24) = W2 := ⟨_, rfl⟩
      rw [hW2] at hW3 ⊢
      have hs2' : W2.heap.size = w2.heap.size + 1 := by rw [← hW2]; simp
      have hs3 : W3.heap.size = W2.heap.size + 2 := by rw [← hW3]; simp
      have hb2 : Below w2.heap.size w2 W2 := by rw [← hW2]; exact (Below.refl _ w2).alloc (Nat.le_refl _) _
      have hb3 : Below W2.heap.size W2 W3 := by rw [← hW3]; exact ((Below.refl _ W2).alloc (Nat.le_refl _) _).alloc (by simp) _
      have c0 : Boxed W3 W2.heap.size 23 (.slice A n c) := by rw [← hW3]; exact (Boxed.new W2 23 (.slice A n c)).alloc _
      have c1 : Boxed W3 (W2.heap.size + 1) 3 (.int .i64 (0 : Nat)) := by have := Boxed.new (W2.alloc (.cells #[.slice A n c] 23)) 3 (.int .i64 0); rw [World.size_alloc] at this; rw [← hW3]; exact this
      have co : Boxed W3 w2.heap.size 24 (.slice none 0 0) := (hb3.block _ (by omega)).trans (by rw [← hW2]; exact Boxed.new w2 24 (.slice none 0 0))
      have cx : Boxed W3 w.heap.size 23 (.slice A n c) := ((hb2.trans (hb3.mono (by omega))).block _ hs2).trans bx2'.out
      have hB := u2.out.trans ((hb2.trans (hb3.mono (by omega))).mono u2.out.size)
      have hA := hh.out.below hB
      have hs23 := Lib.hid (And.intro hs2' hs3)
      have hA' := Lib.hid hA; have hB' := Lib.hid hB; have c0' := Lib.hid c0; have c1' := Lib.hid c1; have co' := Lib.hid co; have cx' := Lib.hid cx
      clear hW2 hW3 hb2 hb3 hs2' hs3 hA hB c0 c1 co cx cx2
      gi_wp2
      have hs2'' := hs23.out.1
      have hs3 := hs23.out.2
      refine rangeO (n₀ := w.heap.size) rfl (enters_of Try.func134 (by kernel_rfl) rfl) (tour_seq A n c ts 0 W2.heap.size (W2.heap.size + 1) w.heap.size W3 hA'.out hn ht ht.pos (by omega) c0'.out c1'.out) (fun k hk => hk.elim) (by omega) (Below.refl _ _) (fun _ => rfl)
        (fun pre Pr W => Coll w w.heap.size w2.heap.size (ranksL pre ts) Pr W ∧ Boxed W w.heap.size 23 (.slice A n c) ∧ ¬ Pr w.heap.size) (fun _ _ _ _ => False)
        (fun _ Pr Pr' W W' row hs hg hr hp => ⟨hs.1.step hg hr hp, hs.2.1.kept hg (fun e => hs.2.2 (hr _ e.symm)), fun hp' => by
          rcases hp _ hp' with h1 | h1
          · exact hs.2.2 h1
          · have := hs.2.1.lt; omega⟩) (fun _ _ _ _ _ _ _ hs _ _ _ => hs)
        ⟨⟨⟨_, co'.out, World.ownsRow_nil _ _ _ _, fun g e => by cases e⟩, fun h => h, by omega, Nat.le_refl _, fun _ h => h.elim, fun _ h => h.elim, hB'.out⟩, cx'.out, fun h => h⟩ ?a1 ?assign ?body ?done ?stop
      case assign =>
        intro l x W K hK
        gi_wp2
        exact hK
      case body =>
        clear hs2'' hs3
        rintro l pre ⟨k, fst⟩ Pr W hpre ⟨hC, hbx, hnb⟩ hP
        have hkl := tour_lt ht hpre
        have hpl := hpre.length_le
        have hl1 := hlt.out
        rw [List.length_append] at hpl
        have hpl' : (ranksL pre ts).length ≤ 1048576 := by unfold ranksL; rw [List.length_map]; omega
        obtain ⟨v, hv, ho, hnp⟩ := hC.val
        have hc := hv.cell
        have hcx := hbx.cell
        have hC' := Lib.hid hC; have hv' := Lib.hid hv; have ho' := Lib.hid ho; have hnp' := Lib.hid hnp; have hbx' := Lib.hid hbx; have hnb' := Lib.hid hnb
        have hbs := hC.below.size
        have hblk := Lib.hid ((hh.out.below hC.below).more hbs)
        have hkn : k < n := by rw [← hln.out]; exact hkl
        have hf := ht.few
        have hdk := dep_le ht hkl
        obtain ⟨Dk, hDk⟩ : ∃ Dk, Hid (dep ts k = Dk) := ⟨_, Lib.hid rfl⟩
        rw [hDk.out] at hdk
        have hD24 : Dk ≤ 24 := by omega
        have hk24 : k ≤ 24 := by omega
        have hdcall := Lib.hid (depthIn_any A n c ts k W.drew (show BlksAt W.drew W.drew.heap.size A n ts from hblk.out) hn ht hkn)
        rw [hDk.out] at hdcall
        have hw1 : IntKind.i64.wrap ((Dk : Int) * 24) = (Dk : Int) * 24 := by rw [IntKind.wrap_i64]; omega
        have hw2 : IntKind.i64.wrap ((Dk : Int) * 24 + (k : Int)) = (Dk : Int) * 24 + (k : Int) := by rw [IntKind.wrap_i64]; omega
        have hlast := Lib.hid (show ranksL (pre ++ [(k, fst)]) ts = ranksL pre ts ++ [(Dk : Int) * 24 + (k : Int)] by unfold ranksL; rw [List.map_append]; simp [rankZ, hDk.out])
        have hst := Lib.hid (fun (w4 : World) (b4 : Below W.drew.heap.size W.drew w4) => (show Coll w w.heap.size w2.heap.size (ranksL pre ts) Pr w4 ∧ Boxed w4 w2.heap.size 24 v ∧ w4.ownsRow w.heap.size 3 1 v (ranksL pre ts).length ((ranksL pre ts).map (Value.int .i64)) ∧ Below W.heap.size W w4 from by
          have b4' : Below W.heap.size W w4 := ⟨b4.os, b4.tape, b4.output, b4.size, b4.block⟩
          have g4 : W.grownBy w4 none := ⟨b4.os, b4.tape, b4.output, b4.size, fun k hk _ => b4.block k hk⟩
          exact ⟨hC'.out.step g4 (fun _ e => by cases e) (fun k hk => .inl hk), hv'.out.kept g4 (by simp), ho'.out.kept g4 (by cases hv2 : v.ownBlock <;> simp), b4'⟩))
        clear hC hv ho hnp hpre hl1 hpl hbx hnb hkl hf hdk
        gi_wp2
        refine wpIn_region_any (by kernel_rfl) ?_
        refine any_round l (noDefer_all (by kernel_rfl)) _ _ _ _ ?_
        try (change wpAnyIn _ _ _ _ _ _ _ _ _ (World.drew _))
        refine wpAnyIn_take (i := 2) (v := ?_) rfl rfl (by kernel_rfl) (by kernel_rfl) (by kernel_rfl) (fun _ _ _ h => h) ⟨Or.inl ⟨by rfl, ?_⟩, fun _ => rfl⟩ ?_
        rotate_left 1
        · intro w
          go_simp
          try with_reducible rfl
        refine wpAnyIn_take (i := 5) (v := ?_) rfl rfl (by kernel_rfl) (by kernel_rfl) (by kernel_rfl) (fun _ _ _ h => h) ⟨Or.inl ⟨by rfl, ?_⟩, fun _ => rfl⟩ ?_
        rotate_left 1
        · intro w
          go_simp
          try with_reducible rfl
        refine wpAnyIn_ready (rs := [0, 1]) (by kernel_rfl) (by simp) ?_
        refine AllReadyIn.cons rfl (fun K hK => ?_) (AllReadyIn.cons rfl (fun K hK => ?_) AllReadyIn.nil)
        · go_simp
          refine hK _ _ ?_
          clear hK K
          refine wpAnyIn_ready (rs := [1]) (by kernel_rfl) (by simp) ?_
          refine AllReadyIn.cons rfl (fun K hK => ?_) AllReadyIn.nil
          go_simp
          refine hK _ _ ?_
          clear hK K
          refine wpAnyIn_ready (rs := [3]) (by kernel_rfl) (by simp) ?_
          refine AllReadyIn.cons rfl (fun K hK => ?_) AllReadyIn.nil
          go_simp
          refine ⟨trivial, rfl, (callsIn_wide.2 hdcall.out).mono ?_⟩
          rintro e w4 ⟨rfl, b4⟩
          refine hK _ _ ?_
          clear hK K
          obtain ⟨s1, s2, s3, s4⟩ := hst.out w4 b4
          have hc4 := s2.cell
          have s1' := Lib.hid s1; have s2' := Lib.hid s2; have s3' := Lib.hid s3; have s4' := Lib.hid s4
          have hs4 := s4.size
          clear s1 s2 s3 s4 b4 hdcall hc
          refine wpAnyIn_take (i := 4) (v := ?_) rfl rfl (by kernel_rfl) (by kernel_rfl) (by kernel_rfl) (fun _ _ _ h => h) ⟨Or.inl ⟨by rfl, ?_⟩, fun _ => rfl⟩ ?_
          rotate_left 1
          · intro w
            go_simp
            try with_reducible rfl
          refine wpAnyIn_take (i := 6) (v := ?_) rfl rfl (by kernel_rfl) (by kernel_rfl) (by kernel_rfl) (fun _ _ _ h => h) ⟨Or.inl ⟨by rfl, ?_⟩, fun _ => rfl⟩ ?_
          rotate_left 1
          · intro w
            go_simp
            try with_reducible rfl
          refine wpAnyIn_ready (rs := [7]) (by kernel_rfl) (by simp) ?_
          refine AllReadyIn.cons rfl (fun K hK => ?_) AllReadyIn.nil
          go_simp
          refine hK _ _ ?_
          clear hK K
          refine wpAnyIn_ready (rs := [8]) (by kernel_rfl) (by simp) ?_
          refine AllReadyIn.cons rfl (fun K hK => ?_) AllReadyIn.nil
          refine stepAppendIn rfl (.tmp 27) (.tmp 34) 24 rfl w.heap.size i0 Try.underlying24 hi hz0 hz1 hz2 v (ranksL pre ts) rfl (s3'.out.alloc _) w4.heap.size 0 1 ((Dk : Int) * 24 + (k : Int)) rfl (Boxed.new w4 3 _).cell hpl' (by rw [World.size_alloc]; omega) ?_
          intro g c' w6 h1 h2 h3
          obtain ⟨q1, q2, q3, q4⟩ := s1'.out.push (by decide) s2'.out s3'.out hnp'.out h1 h2 h3
          have q2' := Lib.hid q2; have q3' := Lib.hid q3; have q4' := Lib.hid q4
          have hc6 := q1.cell
          have hf6 := q1.frozen
          have hx4 : Boxed w4 w.heap.size 23 (.slice A n c) := (s4'.out.block _ hbx'.out.lt).trans hbx'.out
          have hx6 := Lib.hid ((hx4.alloc (.cells #[.int .i64 ((Dk : Int) * 24 + (k : Int))] 3)).kept h2 (hx4.not_row (by decide) s3'.out))
          clear h1 h2 h3 q1 q2 q3 q4 hx4
          refine hK _ _ ?_
          clear hK K
          refine wpAnyIn_ready (rs := [9]) (by kernel_rfl) (by simp) ?_
          refine AllReadyIn.cons rfl (fun K hK => ?_) AllReadyIn.nil
          go_simp
          refine hK _ _ ?_
          clear hK K
          refine wpAnyIn_done (by kernel_rfl) ?_ _
          gi_wp2
          refine ⟨(Kept.below s4'.out).trans q3'.out, (s4'.out.mono hbs).trans q4'.out, ?_, hx6.out.other (by omega) _, hnb'.out⟩
          show Coll w w.heap.size w2.heap.size (ranksL (pre ++ [(k, fst)]) ts) Pr _
          rw [hlast.out]; exact q2'.out
        · go_simp
          refine hK _ _ ?_
          clear hK K
          refine wpAnyIn_ready (rs := [0, 3]) (by kernel_rfl) (by simp) ?_
          refine AllReadyIn.cons rfl (fun K hK => ?_) (AllReadyIn.cons rfl (fun K hK => ?_) AllReadyIn.nil)
          · go_simp
            refine hK _ _ ?_
            clear hK K
            refine wpAnyIn_ready (rs := [3]) (by kernel_rfl) (by simp) ?_
            refine AllReadyIn.cons rfl (fun K hK => ?_) AllReadyIn.nil
            go_simp
            refine ⟨trivial, rfl, (callsIn_wide.2 hdcall.out).mono ?_⟩
            rintro e w4 ⟨rfl, b4⟩
            refine hK _ _ ?_
            clear hK K
            obtain ⟨s1, s2, s3, s4⟩ := hst.out w4 b4
            have hc4 := s2.cell
            have s1' := Lib.hid s1; have s2' := Lib.hid s2; have s3' := Lib.hid s3; have s4' := Lib.hid s4
            have hs4 := s4.size
            clear s1 s2 s3 s4 b4 hdcall hc
            refine wpAnyIn_take (i := 4) (v := ?_) rfl rfl (by kernel_rfl) (by kernel_rfl) (by kernel_rfl) (fun _ _ _ h => h) ⟨Or.inl ⟨by rfl, ?_⟩, fun _ => rfl⟩ ?_
            rotate_left 1
            · intro w
              go_simp
              try with_reducible rfl
            refine wpAnyIn_take (i := 6) (v := ?_) rfl rfl (by kernel_rfl) (by kernel_rfl) (by kernel_rfl) (fun _ _ _ h => h) ⟨Or.inl ⟨by rfl, ?_⟩, fun _ => rfl⟩ ?_
            rotate_left 1
            · intro w
              go_simp
              try with_reducible rfl
            refine wpAnyIn_ready (rs := [7]) (by kernel_rfl) (by simp) ?_
            refine AllReadyIn.cons rfl (fun K hK => ?_) AllReadyIn.nil
            go_simp
            refine hK _ _ ?_
            clear hK K
            refine wpAnyIn_ready (rs := [8]) (by kernel_rfl) (by simp) ?_
            refine AllReadyIn.cons rfl (fun K hK => ?_) AllReadyIn.nil
            refine stepAppendIn rfl (.tmp 27) (.tmp 34) 24 rfl w.heap.size i0 Try.underlying24 hi hz0 hz1 hz2 v (ranksL pre ts) rfl (s3'.out.alloc _) w4.heap.size 0 1 ((Dk : Int) * 24 + (k : Int)) rfl (Boxed.new w4 3 _).cell hpl' (by rw [World.size_alloc]; omega) ?_
            intro g c' w6 h1 h2 h3
            obtain ⟨q1, q2, q3, q4⟩ := s1'.out.push (by decide) s2'.out s3'.out hnp'.out h1 h2 h3
            have q2' := Lib.hid q2; have q3' := Lib.hid q3; have q4' := Lib.hid q4
            have hc6 := q1.cell
            have hf6 := q1.frozen
            have hx4 : Boxed w4 w.heap.size 23 (.slice A n c) := (s4'.out.block _ hbx'.out.lt).trans hbx'.out
            have hx6 := Lib.hid ((hx4.alloc (.cells #[.int .i64 ((Dk : Int) * 24 + (k : Int))] 3)).kept h2 (hx4.not_row (by decide) s3'.out))
            clear h1 h2 h3 q1 q2 q3 q4 hx4
            refine hK _ _ ?_
            clear hK K
            refine wpAnyIn_ready (rs := [9]) (by kernel_rfl) (by simp) ?_
            refine AllReadyIn.cons rfl (fun K hK => ?_) AllReadyIn.nil
            go_simp
            refine hK _ _ ?_
            clear hK K
            refine wpAnyIn_done (by kernel_rfl) ?_ _
            gi_wp2
            refine ⟨(Kept.below s4'.out).trans q3'.out, (s4'.out.mono hbs).trans q4'.out, ?_, hx6.out.other (by omega) _, hnb'.out⟩
            show Coll w w.heap.size w2.heap.size (ranksL (pre ++ [(k, fst)]) ts) Pr _
            rw [hlast.out]; exact q2'.out
          · go_simp
            refine ⟨trivial, rfl, (callsIn_wide.2 hdcall.out).mono ?_⟩
            rintro e w4 ⟨rfl, b4⟩
            refine hK _ _ ?_
            clear hK K
            obtain ⟨s1, s2, s3, s4⟩ := hst.out w4 b4
            have hc4 := s2.cell
            have s1' := Lib.hid s1; have s2' := Lib.hid s2; have s3' := Lib.hid s3; have s4' := Lib.hid s4
            have hs4 := s4.size
            clear s1 s2 s3 s4 b4 hdcall hc
            refine wpAnyIn_take (i := 4) (v := ?_) rfl rfl (by kernel_rfl) (by kernel_rfl) (by kernel_rfl) (fun _ _ _ h => h) ⟨Or.inl ⟨by rfl, ?_⟩, fun _ => rfl⟩ ?_
            rotate_left 1
            · intro w
              go_simp
              try with_reducible rfl
            refine wpAnyIn_take (i := 6) (v := ?_) rfl rfl (by kernel_rfl) (by kernel_rfl) (by kernel_rfl) (fun _ _ _ h => h) ⟨Or.inl ⟨by rfl, ?_⟩, fun _ => rfl⟩ ?_
            rotate_left 1
            · intro w
              go_simp
              try with_reducible rfl
            refine wpAnyIn_ready (rs := [0, 7]) (by kernel_rfl) (by simp) ?_
            refine AllReadyIn.cons rfl (fun K hK => ?_) (AllReadyIn.cons rfl (fun K hK => ?_) AllReadyIn.nil)
            · go_simp
              refine hK _ _ ?_
              clear hK K
              refine wpAnyIn_ready (rs := [7]) (by kernel_rfl) (by simp) ?_
              refine AllReadyIn.cons rfl (fun K hK => ?_) AllReadyIn.nil
              go_simp
              refine hK _ _ ?_
              clear hK K
              refine wpAnyIn_ready (rs := [8]) (by kernel_rfl) (by simp) ?_
              refine AllReadyIn.cons rfl (fun K hK => ?_) AllReadyIn.nil
              refine stepAppendIn rfl (.tmp 27) (.tmp 34) 24 rfl w.heap.size i0 Try.underlying24 hi hz0 hz1 hz2 v (ranksL pre ts) rfl (s3'.out.alloc _) w4.heap.size 0 1 ((Dk : Int) * 24 + (k : Int)) rfl (Boxed.new w4 3 _).cell hpl' (by rw [World.size_alloc]; omega) ?_
              intro g c' w6 h1 h2 h3
              obtain ⟨q1, q2, q3, q4⟩ := s1'.out.push (by decide) s2'.out s3'.out hnp'.out h1 h2 h3
              have q2' := Lib.hid q2; have q3' := Lib.hid q3; have q4' := Lib.hid q4
              have hc6 := q1.cell
              have hf6 := q1.frozen
              have hx4 : Boxed w4 w.heap.size 23 (.slice A n c) := (s4'.out.block _ hbx'.out.lt).trans hbx'.out
              have hx6 := Lib.hid ((hx4.alloc (.cells #[.int .i64 ((Dk : Int) * 24 + (k : Int))] 3)).kept h2 (hx4.not_row (by decide) s3'.out))
              clear h1 h2 h3 q1 q2 q3 q4 hx4
              refine hK _ _ ?_
              clear hK K
              refine wpAnyIn_ready (rs := [9]) (by kernel_rfl) (by simp) ?_
              refine AllReadyIn.cons rfl (fun K hK => ?_) AllReadyIn.nil
              go_simp
              refine hK _ _ ?_
              clear hK K
              refine wpAnyIn_done (by kernel_rfl) ?_ _
              gi_wp2
              refine ⟨(Kept.below s4'.out).trans q3'.out, (s4'.out.mono hbs).trans q4'.out, ?_, hx6.out.other (by omega) _, hnb'.out⟩
              show Coll w w.heap.size w2.heap.size (ranksL (pre ++ [(k, fst)]) ts) Pr _
              rw [hlast.out]; exact q2'.out
            · go_simp
              refine hK _ _ ?_
              clear hK K
              have hc5 : (w4.alloc (.cells #[.int .i64 ((Dk : Int) * 24 + (k : Int))] 3)).cell? ⟨w2.heap.size, 0, none⟩ = some v := (s2'.out.alloc _).cell
              refine wpAnyIn_ready (rs := [0]) (by kernel_rfl) (by simp) ?_
              refine AllReadyIn.cons rfl (fun K hK => ?_) AllReadyIn.nil
              go_simp
              refine hK _ _ ?_
              clear hK K
              refine wpAnyIn_ready (rs := [8]) (by kernel_rfl) (by simp) ?_
              refine AllReadyIn.cons rfl (fun K hK => ?_) AllReadyIn.nil
              refine stepAppendIn rfl (.tmp 27) (.tmp 34) 24 rfl w.heap.size i0 Try.underlying24 hi hz0 hz1 hz2 v (ranksL pre ts) rfl (s3'.out.alloc _) w4.heap.size 0 1 ((Dk : Int) * 24 + (k : Int)) rfl (Boxed.new w4 3 _).cell hpl' (by rw [World.size_alloc]; omega) ?_
              intro g c' w6 h1 h2 h3
              obtain ⟨q1, q2, q3, q4⟩ := s1'.out.push (by decide) s2'.out s3'.out hnp'.out h1 h2 h3
              have q2' := Lib.hid q2; have q3' := Lib.hid q3; have q4' := Lib.hid q4
              have hc6 := q1.cell
              have hf6 := q1.frozen
              have hx4 : Boxed w4 w.heap.size 23 (.slice A n c) := (s4'.out.block _ hbx'.out.lt).trans hbx'.out
              have hx6 := Lib.hid ((hx4.alloc (.cells #[.int .i64 ((Dk : Int) * 24 + (k : Int))] 3)).kept h2 (hx4.not_row (by decide) s3'.out))
              clear h1 h2 h3 q1 q2 q3 q4 hx4
              refine hK _ _ ?_
              clear hK K
              refine wpAnyIn_ready (rs := [9]) (by kernel_rfl) (by simp) ?_
              refine AllReadyIn.cons rfl (fun K hK => ?_) AllReadyIn.nil
              go_simp
              refine hK _ _ ?_
              clear hK K
              refine wpAnyIn_done (by kernel_rfl) ?_ _
              gi_wp2
              refine ⟨(Kept.below s4'.out).trans q3'.out, (s4'.out.mono hbs).trans q4'.out, ?_, hx6.out.other (by omega) _, hnb'.out⟩
              show Coll w w.heap.size w2.heap.size (ranksL (pre ++ [(k, fst)]) ts) Pr _
              rw [hlast.out]; exact q2'.out
      case done =>
        rintro D Pr W hD hPD hP ⟨hC, hbx, hnb⟩ hK
        obtain ⟨v, hv, ho, hnp⟩ := hC.val
        obtain ⟨A8, c8, e8, o8⟩ := OwnAt.of_owns ho
        subst e8
        have hln8 : (ranksL (tour ts 0) ts).length ≤ 47 := by unfold ranksL; rw [List.length_map]; exact hlt.out
        have hln0 : 0 < (ranksL (tour ts 0) ts).length := by unfold ranksL; rw [List.length_map, tour_len ht]; have := ht.pos; omega
        have hcx := hbx.cell
        have hbs := hC.below.size
        have hblk := Lib.hid ((hh.out.below hC.below).more hbs)
        have hK' := Lib.hid hK; have hbx' := Lib.hid hbx; have hv' := Lib.hid hv; have o8' := Lib.hid o8; have hbel := Lib.hid hC.below
        have hhi := hC.high D hPD
        have hDl := hC.there D hPD
        have fs1 := Lib.hid (firstStep_any A n c ts x W.drew (show BlksAt W.drew W.drew.heap.size A n ts from hblk.out) hn ht hx'.out)
        have fs2 := Lib.hid (fun (w4 : World) (b4 : Below W.drew.heap.size W.drew w4) => firstStep_any A n c ts y w4 ((show BlksAt W.drew W.drew.heap.size A n ts from hblk.out).up b4) hn ht hy'.out)
        have fsx := Lib.hid (fun (w4 : World) (b4 : Below W.drew.heap.size W.drew w4) => ((b4.block _ hbx.lt).trans hbx : Boxed w4 w.heap.size 23 (.slice A n c)))
        clear hC hv ho hnp hK hbx hnb o8 hP
        gi_wp2
        refine wpIn_mono ?_ onlyNormal_le
        refine wpIn_region_any (by kernel_rfl) ?_
        try (change wpAnyIn _ _ _ _ _ _ _ _ _ (World.drew _))
        refine wpAnyIn_take (i := 1) (v := ?_) rfl rfl (by kernel_rfl) (by kernel_rfl) (by kernel_rfl) (fun _ _ _ h => h) ⟨Or.inl ⟨by rfl, ?_⟩, fun _ => rfl⟩ ?_
        rotate_left 1
        · intro w
          go_simp
          try with_reducible rfl
        refine wpAnyIn_take (i := 4) (v := ?_) rfl rfl (by kernel_rfl) (by kernel_rfl) (by kernel_rfl) (fun _ _ _ h => h) ⟨Or.inl ⟨by rfl, ?_⟩, fun _ => rfl⟩ ?_
        rotate_left 1
        · intro w
          go_simp
          try with_reducible rfl
        refine wpAnyIn_ready (rs := [0, 3]) (by kernel_rfl) (by simp) ?_
        refine AllReadyIn.cons rfl (fun K hK => ?_) (AllReadyIn.cons rfl (fun K hK => ?_) AllReadyIn.nil)
        · go_simp
          refine hK _ _ ?_
          clear hK K
          refine wpAnyIn_ready (rs := [2, 3]) (by kernel_rfl) (by simp) ?_
          refine AllReadyIn.cons rfl (fun K hK => ?_) (AllReadyIn.cons rfl (fun K hK => ?_) AllReadyIn.nil)
          · go_simp
            refine ⟨trivial, rfl, (callsIn_wide.2 fs1.out).mono ?_⟩
            rintro e w4 ⟨i, rfl, hfi, hi46, b4⟩
            have hfi' := Lib.hid hfi; have b4' := Lib.hid b4
            have hc4 := Boxed.cell (show Boxed w4 w.heap.size 23 (.slice A n c) from fsx.out w4 b4)
            clear hfi b4 hcx
            refine hK _ _ ?_
            clear hK K
            refine wpAnyIn_ready (rs := [3]) (by kernel_rfl) (by simp) ?_
            refine AllReadyIn.cons rfl (fun K hK => ?_) AllReadyIn.nil
            go_simp
            refine hK _ _ ?_
            clear hK K
            refine wpAnyIn_ready (rs := [5]) (by kernel_rfl) (by simp) ?_
            refine AllReadyIn.cons rfl (fun K hK => ?_) AllReadyIn.nil
            go_simp
            refine ⟨trivial, rfl, (callsIn_wide.2 (fs2.out w4 b4'.out)).mono ?_⟩
            rintro e w5 ⟨j, rfl, hfj, hj46, b5⟩
            have hfj' := Lib.hid hfj
            have b5' := Lib.hid (b4'.out.trans (b5.mono b4'.out.size))
            clear hfj b5
            refine hK _ _ ?_
            clear hK K
            refine wpAnyIn_take (i := 6) (v := ?_) rfl rfl (by kernel_rfl) (by kernel_rfl) (by kernel_rfl) (fun _ _ _ h => h) ⟨Or.inl ⟨by rfl, ?_⟩, fun _ => rfl⟩ ?_
            rotate_left 1
            · intro w
              go_simp
              try with_reducible rfl
            refine wpAnyIn_take (i := 7) (v := ?_) rfl rfl (by kernel_rfl) (by kernel_rfl) (by kernel_rfl) (fun _ _ _ h => h) ⟨Or.inl ⟨by rfl, ?_⟩, fun _ => rfl⟩ ?_
            rotate_left 1
            · intro w
              go_simp
              try with_reducible rfl
            refine wpAnyIn_done (by kernel_rfl) ?_ _
            simp only [onlyNormal]
            have hcv := Boxed.cell (show Boxed w5 w2.heap.size 24 (.slice A8 (ranksL (tour ts 0) ts).length c8) from (b5'.out.block _ hv'.out.lt).trans hv'.out)
            obtain ⟨N, hN⟩ : ∃ N, Hid ((ranksL (tour ts 0) ts).length = N) := ⟨_, Lib.hid rfl⟩
            have o9 : OwnAt w5 w.heap.size A8 (ranksL (tour ts 0) ts).length (ranksL (tour ts 0) ts) := (show OwnAt W.drew w.heap.size A8 _ (ranksL (tour ts 0) ts) from ⟨o8'.out.len, o8'.out.own, o8'.out.low⟩).below b5'.out
            have htl : (tn ts 0).length = N := by rw [← hN.out]; unfold tn ranksL; simp
            have hiN : i < N := by rw [← htl]; exact (List.getElem?_eq_some_iff.1 hfi'.out.1).1
            have hjN : j < N := by rw [← htl]; exact (List.getElem?_eq_some_iff.1 hfj'.out.1).1
            have hml := Lib.hid (meet_least ht hx'.out hy'.out hfi'.out hfj'.out)
            rw [hN.out] at hcv o9 hln8 hln0
            have hsp := Lib.hid (sparseRows_any A8 N c8 w5.heap.size (ranksL (tour ts 0) ts) w5 o9.ints (Nat.le_refl _) hln0 (by omega))
            have u5 := Lib.hid (hbel.out.trans ((show Below W.heap.size W w5 from ⟨b5'.out.os, b5'.out.tape, b5'.out.output, b5'.out.size, b5'.out.block⟩).mono hbs))
            have hK5 := Lib.hid ((b5'.out.block D hDl).trans hK'.out)
            have hDl5 : D < w5.heap.size := Nat.lt_of_lt_of_le hDl b5'.out.size
            obtain ⟨M, hM⟩ : ∃ M, Hid (meet ts x y = M) := ⟨_, Lib.hid rfl⟩
            have hMl : M < ts.length := by rw [← hM.out]; exact abv_lt ht hx'.out (meet_a ht hy'.out x hx'.out)
            have hmod := rank_mod ht hMl
            have hnn : 0 ≤ rankZ ts M := by unfold rankZ; omega
            rw [hM.out] at hml
            clear o9 htl hc4 hMl
            gi_wp2
            refine ⟨trivial, rfl, (callsIn_wide.2 hsp.out).mono ?_⟩
            rintro e w6 ⟨v6, rfl, r6, b6⟩
            obtain ⟨A6, c6, rfl, ro6⟩ := r6.rows
            have hK6 := Lib.hid ((b6.block D hDl5).trans hK5.out)
            have R6 := Lib.hid (show RowsAt w6 w6.heap.size A6 (spN N) (spT (ranksL (tour ts 0) ts)) from ro6.at (by rw [spT_len, hN.out]) (fun i hi => spT_row (by rw [hN.out]; exact hi)))
            have u6 := Lib.hid (u5.out.trans (b6.mono u5.out.size))
            clear hcv r6 b6 ro6 hsp
            obtain ⟨R, hR⟩ : ∃ R, Hid (rankZ ts M = R) := ⟨_, Lib.hid rfl⟩
            rw [hR.out] at hmod hnn hml
            have htm : Int.tmod R 24 = (M : Int) := by rw [Int.tmod_eq_emod_of_nonneg hnn]; exact hmod
            by_cases hij : i ≤ j
            · rw [Nat.min_eq_left hij, Nat.max_eq_right hij] at hml
              have hcall := Lib.hid (leastOf_any A6 (spN N) c6 w6.heap.size (ranksL (tour ts 0) ts) i (j + 1) w6 R6.out (by rw [hN.out]; omega) (by omega) (by rw [hN.out]; omega))
              rw [hml.out, show ((j + 1 : Nat) : Int) = (j : Int) + 1 by omega] at hcall
              have g1 : ¬ (j : Int) < (i : Int) := by omega
              have g2 : min (i : Int) (j : Int) = (i : Int) := by omega
              have g3 : max (i : Int) (j : Int) = (j : Int) := by omega
              gi_wp2
              refine ⟨trivial, rfl, (callsIn_wide.2 hcall.out).mono ?_⟩
              rintro e w7 ⟨rfl, m7, hw7⟩
              have hK7 := Lib.hid (show w7.heap[D]? = some (.deferred (some [])) by rw [hw7]; exact hK6.out)
              have u7 := Lib.hid (show Below w.heap.size w w7 by rw [hw7]; exact below_drewN u6.out m7)
              clear hw7
              gi_wp2
              refine ⟨by simp, .inl ⟨_, _, rfl, run_takeDeferred hK7.out, ?_⟩⟩
              exact ⟨_, results_tmp2 rfl _ _ _, by rw [hz.out, hzr.out, hM.out]; rfl, u7.out.grown (grownBy_putObj' w7 D (.deferred none)) u7.out.size (fun k e => by cases e; exact hhi)⟩
            · have hji : j ≤ i := by omega
              rw [Nat.min_eq_right hji, Nat.max_eq_left hji] at hml
              have hcall := Lib.hid (leastOf_any A6 (spN N) c6 w6.heap.size (ranksL (tour ts 0) ts) j (i + 1) w6 R6.out (by rw [hN.out]; omega) (by omega) (by rw [hN.out]; omega))
              rw [hml.out, show ((i + 1 : Nat) : Int) = (i : Int) + 1 by omega] at hcall
              have g1 : (j : Int) < (i : Int) := by omega
              have g2 : min (i : Int) (j : Int) = (j : Int) := by omega
              have g3 : max (i : Int) (j : Int) = (i : Int) := by omega
              gi_wp2
              refine ⟨trivial, rfl, (callsIn_wide.2 hcall.out).mono ?_⟩
              rintro e w7 ⟨rfl, m7, hw7⟩
              have hK7 := Lib.hid (show w7.heap[D]? = some (.deferred (some [])) by rw [hw7]; exact hK6.out)
              have u7 := Lib.hid (show Below w.heap.size w w7 by rw [hw7]; exact below_drewN u6.out m7)
              clear hw7
              gi_wp2
              refine ⟨by simp, .inl ⟨_, _, rfl, run_takeDeferred hK7.out, ?_⟩⟩
              exact ⟨_, results_tmp2 rfl _ _ _, by rw [hz.out, hzr.out, hM.out]; rfl, u7.out.grown (grownBy_putObj' w7 D (.deferred none)) u7.out.size (fun k e => by cases e; exact hhi)⟩
          · go_simp
            refine hK _ _ ?_
            clear hK K
            refine wpAnyIn_ready (rs := [2]) (by kernel_rfl) (by simp) ?_
            refine AllReadyIn.cons rfl (fun K hK => ?_) AllReadyIn.nil
            go_simp
            refine ⟨trivial, rfl, (callsIn_wide.2 fs1.out).mono ?_⟩
            rintro e w4 ⟨i, rfl, hfi, hi46, b4⟩
            have hfi' := Lib.hid hfi; have b4' := Lib.hid b4
            have hc4 := Boxed.cell (show Boxed w4 w.heap.size 23 (.slice A n c) from fsx.out w4 b4)
            clear hfi b4 hcx
            refine hK _ _ ?_
            clear hK K
            refine wpAnyIn_ready (rs := [5]) (by kernel_rfl) (by simp) ?_
            refine AllReadyIn.cons rfl (fun K hK => ?_) AllReadyIn.nil
            go_simp
            refine ⟨trivial, rfl, (callsIn_wide.2 (fs2.out w4 b4'.out)).mono ?_⟩
            rintro e w5 ⟨j, rfl, hfj, hj46, b5⟩
            have hfj' := Lib.hid hfj
            have b5' := Lib.hid (b4'.out.trans (b5.mono b4'.out.size))
            clear hfj b5
            refine hK _ _ ?_
            clear hK K
            refine wpAnyIn_take (i := 6) (v := ?_) rfl rfl (by kernel_rfl) (by kernel_rfl) (by kernel_rfl) (fun _ _ _ h => h) ⟨Or.inl ⟨by rfl, ?_⟩, fun _ => rfl⟩ ?_
            rotate_left 1
            · intro w
              go_simp
              try with_reducible rfl
            refine wpAnyIn_take (i := 7) (v := ?_) rfl rfl (by kernel_rfl) (by kernel_rfl) (by kernel_rfl) (fun _ _ _ h => h) ⟨Or.inl ⟨by rfl, ?_⟩, fun _ => rfl⟩ ?_
            rotate_left 1
            · intro w
              go_simp
              try with_reducible rfl
            refine wpAnyIn_done (by kernel_rfl) ?_ _
            simp only [onlyNormal]
            have hcv := Boxed.cell (show Boxed w5 w2.heap.size 24 (.slice A8 (ranksL (tour ts 0) ts).length c8) from (b5'.out.block _ hv'.out.lt).trans hv'.out)
            obtain ⟨N, hN⟩ : ∃ N, Hid ((ranksL (tour ts 0) ts).length = N) := ⟨_, Lib.hid rfl⟩
            have o9 : OwnAt w5 w.heap.size A8 (ranksL (tour ts 0) ts).length (ranksL (tour ts 0) ts) := (show OwnAt W.drew w.heap.size A8 _ (ranksL (tour ts 0) ts) from ⟨o8'.out.len, o8'.out.own, o8'.out.low⟩).below b5'.out
            have htl : (tn ts 0).length = N := by rw [← hN.out]; unfold tn ranksL; simp
            have hiN : i < N := by rw [← htl]; exact (List.getElem?_eq_some_iff.1 hfi'.out.1).1
            have hjN : j < N := by rw [← htl]; exact (List.getElem?_eq_some_iff.1 hfj'.out.1).1
            have hml := Lib.hid (meet_least ht hx'.out hy'.out hfi'.out hfj'.out)
            rw [hN.out] at hcv o9 hln8 hln0
            have hsp := Lib.hid (sparseRows_any A8 N c8 w5.heap.size (ranksL (tour ts 0) ts) w5 o9.ints (Nat.le_refl _) hln0 (by omega))
            have u5 := Lib.hid (hbel.out.trans ((show Below W.heap.size W w5 from ⟨b5'.out.os, b5'.out.tape, b5'.out.output, b5'.out.size, b5'.out.block⟩).mono hbs))
            have hK5 := Lib.hid ((b5'.out.block D hDl).trans hK'.out)
            have hDl5 : D < w5.heap.size := Nat.lt_of_lt_of_le hDl b5'.out.size
            obtain ⟨M, hM⟩ : ∃ M, Hid (meet ts x y = M) := ⟨_, Lib.hid rfl⟩
            have hMl : M < ts.length := by rw [← hM.out]; exact abv_lt ht hx'.out (meet_a ht hy'.out x hx'.out)
            have hmod := rank_mod ht hMl
            have hnn : 0 ≤ rankZ ts M := by unfold rankZ; omega
            rw [hM.out] at hml
            clear o9 htl hc4 hMl
            gi_wp2
            refine ⟨trivial, rfl, (callsIn_wide.2 hsp.out).mono ?_⟩
            rintro e w6 ⟨v6, rfl, r6, b6⟩
            obtain ⟨A6, c6, rfl, ro6⟩ := r6.rows
            have hK6 := Lib.hid ((b6.block D hDl5).trans hK5.out)
            have R6 := Lib.hid (show RowsAt w6 w6.heap.size A6 (spN N) (spT (ranksL (tour ts 0) ts)) from ro6.at (by rw [spT_len, hN.out]) (fun i hi => spT_row (by rw [hN.out]; exact hi)))
            have u6 := Lib.hid (u5.out.trans (b6.mono u5.out.size))
            clear hcv r6 b6 ro6 hsp
            obtain ⟨R, hR⟩ : ∃ R, Hid (rankZ ts M = R) := ⟨_, Lib.hid rfl⟩
            rw [hR.out] at hmod hnn hml
            have htm : Int.tmod R 24 = (M : Int) := by rw [Int.tmod_eq_emod_of_nonneg hnn]; exact hmod
            by_cases hij : i ≤ j
            · rw [Nat.min_eq_left hij, Nat.max_eq_right hij] at hml
              have hcall := Lib.hid (leastOf_any A6 (spN N) c6 w6.heap.size (ranksL (tour ts 0) ts) i (j + 1) w6 R6.out (by rw [hN.out]; omega) (by omega) (by rw [hN.out]; omega))
              rw [hml.out, show ((j + 1 : Nat) : Int) = (j : Int) + 1 by omega] at hcall
              have g1 : ¬ (j : Int) < (i : Int) := by omega
              have g2 : min (i : Int) (j : Int) = (i : Int) := by omega
              have g3 : max (i : Int) (j : Int) = (j : Int) := by omega
              gi_wp2
              refine ⟨trivial, rfl, (callsIn_wide.2 hcall.out).mono ?_⟩
              rintro e w7 ⟨rfl, m7, hw7⟩
              have hK7 := Lib.hid (show w7.heap[D]? = some (.deferred (some [])) by rw [hw7]; exact hK6.out)
              have u7 := Lib.hid (show Below w.heap.size w w7 by rw [hw7]; exact below_drewN u6.out m7)
              clear hw7
              gi_wp2
              refine ⟨by simp, .inl ⟨_, _, rfl, run_takeDeferred hK7.out, ?_⟩⟩
              exact ⟨_, results_tmp2 rfl _ _ _, by rw [hz.out, hzr.out, hM.out]; rfl, u7.out.grown (grownBy_putObj' w7 D (.deferred none)) u7.out.size (fun k e => by cases e; exact hhi)⟩
            · have hji : j ≤ i := by omega
              rw [Nat.min_eq_right hji, Nat.max_eq_left hji] at hml
              have hcall := Lib.hid (leastOf_any A6 (spN N) c6 w6.heap.size (ranksL (tour ts 0) ts) j (i + 1) w6 R6.out (by rw [hN.out]; omega) (by omega) (by rw [hN.out]; omega))
              rw [hml.out, show ((i + 1 : Nat) : Int) = (i : Int) + 1 by omega] at hcall
              have g1 : (j : Int) < (i : Int) := by omega
              have g2 : min (i : Int) (j : Int) = (j : Int) := by omega
              have g3 : max (i : Int) (j : Int) = (i : Int) := by omega
              gi_wp2
              refine ⟨trivial, rfl, (callsIn_wide.2 hcall.out).mono ?_⟩
              rintro e w7 ⟨rfl, m7, hw7⟩
              have hK7 := Lib.hid (show w7.heap[D]? = some (.deferred (some [])) by rw [hw7]; exact hK6.out)
              have u7 := Lib.hid (show Below w.heap.size w w7 by rw [hw7]; exact below_drewN u6.out m7)
              clear hw7
              gi_wp2
              refine ⟨by simp, .inl ⟨_, _, rfl, run_takeDeferred hK7.out, ?_⟩⟩
              exact ⟨_, results_tmp2 rfl _ _ _, by rw [hz.out, hzr.out, hM.out]; rfl, u7.out.grown (grownBy_putObj' w7 D (.deferred none)) u7.out.size (fun k e => by cases e; exact hhi)⟩
        · go_simp
          refine hK _ _ ?_
          clear hK K
          refine wpAnyIn_ready (rs := [0]) (by kernel_rfl) (by simp) ?_
          refine AllReadyIn.cons rfl (fun K hK => ?_) AllReadyIn.nil
          go_simp
          refine hK _ _ ?_
          clear hK K
          refine wpAnyIn_ready (rs := [2]) (by kernel_rfl) (by simp) ?_
          refine AllReadyIn.cons rfl (fun K hK => ?_) AllReadyIn.nil
          go_simp
          refine ⟨trivial, rfl, (callsIn_wide.2 fs1.out).mono ?_⟩
          rintro e w4 ⟨i, rfl, hfi, hi46, b4⟩
          have hfi' := Lib.hid hfi; have b4' := Lib.hid b4
          have hc4 := Boxed.cell (show Boxed w4 w.heap.size 23 (.slice A n c) from fsx.out w4 b4)
          clear hfi b4 hcx
          refine hK _ _ ?_
          clear hK K
          refine wpAnyIn_ready (rs := [5]) (by kernel_rfl) (by simp) ?_
          refine AllReadyIn.cons rfl (fun K hK => ?_) AllReadyIn.nil
          go_simp
          refine ⟨trivial, rfl, (callsIn_wide.2 (fs2.out w4 b4'.out)).mono ?_⟩
          rintro e w5 ⟨j, rfl, hfj, hj46, b5⟩
          have hfj' := Lib.hid hfj
          have b5' := Lib.hid (b4'.out.trans (b5.mono b4'.out.size))
          clear hfj b5
          refine hK _ _ ?_
          clear hK K
          refine wpAnyIn_take (i := 6) (v := ?_) rfl rfl (by kernel_rfl) (by kernel_rfl) (by kernel_rfl) (fun _ _ _ h => h) ⟨Or.inl ⟨by rfl, ?_⟩, fun _ => rfl⟩ ?_
          rotate_left 1
          · intro w
            go_simp
            try with_reducible rfl
          refine wpAnyIn_take (i := 7) (v := ?_) rfl rfl (by kernel_rfl) (by kernel_rfl) (by kernel_rfl) (fun _ _ _ h => h) ⟨Or.inl ⟨by rfl, ?_⟩, fun _ => rfl⟩ ?_
          rotate_left 1
          · intro w
            go_simp
            try with_reducible rfl
          refine wpAnyIn_done (by kernel_rfl) ?_ _
          simp only [onlyNormal]
          have hcv := Boxed.cell (show Boxed w5 w2.heap.size 24 (.slice A8 (ranksL (tour ts 0) ts).length c8) from (b5'.out.block _ hv'.out.lt).trans hv'.out)
          obtain ⟨N, hN⟩ : ∃ N, Hid ((ranksL (tour ts 0) ts).length = N) := ⟨_, Lib.hid rfl⟩
          have o9 : OwnAt w5 w.heap.size A8 (ranksL (tour ts 0) ts).length (ranksL (tour ts 0) ts) := (show OwnAt W.drew w.heap.size A8 _ (ranksL (tour ts 0) ts) from ⟨o8'.out.len, o8'.out.own, o8'.out.low⟩).below b5'.out
          have htl : (tn ts 0).length = N := by rw [← hN.out]; unfold tn ranksL; simp
          have hiN : i < N := by rw [← htl]; exact (List.getElem?_eq_some_iff.1 hfi'.out.1).1
          have hjN : j < N := by rw [← htl]; exact (List.getElem?_eq_some_iff.1 hfj'.out.1).1
          have hml := Lib.hid (meet_least ht hx'.out hy'.out hfi'.out hfj'.out)
          rw [hN.out] at hcv o9 hln8 hln0
          have hsp := Lib.hid (sparseRows_any A8 N c8 w5.heap.size (ranksL (tour ts 0) ts) w5 o9.ints (Nat.le_refl _) hln0 (by omega))
          have u5 := Lib.hid (hbel.out.trans ((show Below W.heap.size W w5 from ⟨b5'.out.os, b5'.out.tape, b5'.out.output, b5'.out.size, b5'.out.block⟩).mono hbs))
          have hK5 := Lib.hid ((b5'.out.block D hDl).trans hK'.out)
          have hDl5 : D < w5.heap.size := Nat.lt_of_lt_of_le hDl b5'.out.size
          obtain ⟨M, hM⟩ : ∃ M, Hid (meet ts x y = M) := ⟨_, Lib.hid rfl⟩
          have hMl : M < ts.length := by rw [← hM.out]; exact abv_lt ht hx'.out (meet_a ht hy'.out x hx'.out)
          have hmod := rank_mod ht hMl
          have hnn : 0 ≤ rankZ ts M := by unfold rankZ; omega
          rw [hM.out] at hml
          clear o9 htl hc4 hMl
          gi_wp2
          refine ⟨trivial, rfl, (callsIn_wide.2 hsp.out).mono ?_⟩
          rintro e w6 ⟨v6, rfl, r6, b6⟩
          obtain ⟨A6, c6, rfl, ro6⟩ := r6.rows
          have hK6 := Lib.hid ((b6.block D hDl5).trans hK5.out)
          have R6 := Lib.hid (show RowsAt w6 w6.heap.size A6 (spN N) (spT (ranksL (tour ts 0) ts)) from ro6.at (by rw [spT_len, hN.out]) (fun i hi => spT_row (by rw [hN.out]; exact hi)))
          have u6 := Lib.hid (u5.out.trans (b6.mono u5.out.size))
          clear hcv r6 b6 ro6 hsp
          obtain ⟨R, hR⟩ : ∃ R, Hid (rankZ ts M = R) := ⟨_, Lib.hid rfl⟩
          rw [hR.out] at hmod hnn hml
          have htm : Int.tmod R 24 = (M : Int) := by rw [Int.tmod_eq_emod_of_nonneg hnn]; exact hmod
          by_cases hij : i ≤ j
          · rw [Nat.min_eq_left hij, Nat.max_eq_right hij] at hml
            have hcall := Lib.hid (leastOf_any A6 (spN N) c6 w6.heap.size (ranksL (tour ts 0) ts) i (j + 1) w6 R6.out (by rw [hN.out]; omega) (by omega) (by rw [hN.out]; omega))
            rw [hml.out, show ((j + 1 : Nat) : Int) = (j : Int) + 1 by omega] at hcall
            have g1 : ¬ (j : Int) < (i : Int) := by omega
            have g2 : min (i : Int) (j : Int) = (i : Int) := by omega
            have g3 : max (i : Int) (j : Int) = (j : Int) := by omega
            gi_wp2
            refine ⟨trivial, rfl, (callsIn_wide.2 hcall.out).mono ?_⟩
            rintro e w7 ⟨rfl, m7, hw7⟩
            have hK7 := Lib.hid (show w7.heap[D]? = some (.deferred (some [])) by rw [hw7]; exact hK6.out)
            have u7 := Lib.hid (show Below w.heap.size w w7 by rw [hw7]; exact below_drewN u6.out m7)
            clear hw7
            gi_wp2
            refine ⟨by simp, .inl ⟨_, _, rfl, run_takeDeferred hK7.out, ?_⟩⟩
            exact ⟨_, results_tmp2 rfl _ _ _, by rw [hz.out, hzr.out, hM.out]; rfl, u7.out.grown (grownBy_putObj' w7 D (.deferred none)) u7.out.size (fun k e => by cases e; exact hhi)⟩
          · have hji : j ≤ i := by omega
            rw [Nat.min_eq_right hji, Nat.max_eq_left hji] at hml
            have hcall := Lib.hid (leastOf_any A6 (spN N) c6 w6.heap.size (ranksL (tour ts 0) ts) j (i + 1) w6 R6.out (by rw [hN.out]; omega) (by omega) (by rw [hN.out]; omega))
            rw [hml.out, show ((i + 1 : Nat) : Int) = (i : Int) + 1 by omega] at hcall
            have g1 : (j : Int) < (i : Int) := by omega
            have g2 : min (i : Int) (j : Int) = (j : Int) := by omega
            have g3 : max (i : Int) (j : Int) = (i : Int) := by omega
            gi_wp2
            refine ⟨trivial, rfl, (callsIn_wide.2 hcall.out).mono ?_⟩
            rintro e w7 ⟨rfl, m7, hw7⟩
            have hK7 := Lib.hid (show w7.heap[D]? = some (.deferred (some [])) by rw [hw7]; exact hK6.out)
            have u7 := Lib.hid (show Below w.heap.size w w7 by rw [hw7]; exact below_drewN u6.out m7)
            clear hw7
            gi_wp2
            refine ⟨by simp, .inl ⟨_, _, rfl, run_takeDeferred hK7.out, ?_⟩⟩
            exact ⟨_, results_tmp2 rfl _ _ _, by rw [hz.out, hzr.out, hM.out]; rfl, u7.out.grown (grownBy_putObj' w7 D (.deferred none)) u7.out.size (fun k e => by cases e; exact hhi)⟩
      case stop =>
        rintro D cd pre Pr W _ _ _ _ h _
        exact h.elim
end Go.Proofs.Ythiegfbdmmpabab
