/- What is proved here: what the model's l4Children, l4Order, l4Tour, ChildrenOf, OrderOf and TourOf return. No conditions. -/
import Derived.Test.YthiegfbdmmpababTourFns
namespace Go.Proofs.Ythiegfbdmmpabab
open Go.RowKit

/-- An append in a plain walk, with where the result lies. -/
theorem appendPl {P : Program} (w : World) {ops : Array Oper} {rest : List Oper} {o : Oper} {a : Act} {Q : Exit → Act → World → Prop} (hg : o.guard = none) (s x : Operand) (t : TypeId)
    (hop : o.op = Op.call { callee := Callee.builtin Builtin.append, args := #[s, x], argTypes := #[t, t] }) (base : Nat) (i : TypeInfo)
    (h1 : P.underlying t = some (.slice 3)) (h2 : P.info? 3 = some i) (h3 : i.zero = some (.int .i64 0)) (h4 : i.size = 1) (h5 : i.bytes = 8)
    (v : Value) (ys : List Int) (hs : a.eval s = v) (hown : w.ownsRow base 3 1 v ys.length (ys.map (Value.int .i64))) (ab ao : Nat) (c : Nat) (y : Int) (hx : a.eval x = .slice (some ⟨ab, ao, none⟩) 1 c) (hc : w.cell? ⟨ab, ao, none⟩ = some (.int .i64 y))
    (b1 : ys.length ≤ 1048576) (b3 : base ≤ w.heap.size)
    (hK : ∀ g c' w', w'.ownsRow base 3 1 (.slice (some ⟨g, 0, none⟩) (ys.length + 1) c') (ys ++ [y]).length ((ys ++ [y]).map (Value.int .i64)) → w.grownBy w' v.ownBlock → (v.ownBlock = some g ∨ g = w.heap.size) → wpList P ops Q rest (a.put o.dst (.slice (some ⟨g, 0, none⟩) (ys.length + 1) c')) w') :
    wpList P ops Q (o :: rest) a w := by
  refine wpList_append_own_at w hg s x t hop base 3 i (.int .i64 0) 1 8 h1 h2 h3 h4 h5 rfl (by decide) v ys.length _ hs hown ⟨ab, ao, none⟩ 1 c [.int .i64 y] hx rfl
    (fun j u hu => by
      cases j with
      | zero => simp at hu; subst hu; rw [Addr.add_lit]; exact hc
      | succ j => simp at hu)
    (by simp [Value.oneCell']) (by simp only [maxLen]; omega) (by omega) b3 ?_
  intro v' w' r1 r2 _ r4
  obtain ⟨g, c', rfl⟩ := ownsRow_succ r1
  refine hK g c' w' (by simpa using r1) r2 ?_
  rcases r4 with e | e
  · exact .inl (by rw [← e]; rfl)
  · exact .inr (by simpa [Value.ownBlock] using e)

theorem kid_pos {ts : List Blk} (h : Tree ts) {b k : Nat} (hp : parZ ts k = b) : 0 < k := by
  cases k with
  | zero => rw [h.root] at hp; omega
  | succ k => omega

set_option maxRecDepth 100000 in
set_option maxHeartbeats 1000000 in
theorem l4Children_any (A : Option Addr) (n c : Nat) (ts : List Blk) (b : Nat) (w : World) (h : BlksAt w w.heap.size A n ts) (hn : n ≤ 1000) (ht : Tree ts) :
    Calls Try.prog 86 #[.slice A n c, .int .i64 b] w (RetSl w (kidsZ (kidsL ts b n))) := by
  obtain ⟨i0, hi, hz0, hz1, hz2⟩ := info_parts info3
  have hh := Lib.hid h; clear h
  go_enter Try.func86, Try.ntmps86
  go_wp2_with fail
  go_loopw [5, 6, 7, 10] (fun o _ _ i wr => ∃ (k : Nat), k ≤ n ∧ i = .int .i64 k ∧ Hid (wr.ownsRow w.heap.size 3 1 o (kidsZ (kidsL ts b k)).length ((kidsZ (kidsL ts b k)).map (Value.int .i64))) ∧ Hid (Below w.heap.size w wr)) (fun _ _ _ i _ => n - (intOf i).toNat)
  case atStart => exact ⟨0, Nat.zero_le _, rfl, Lib.hid (World.ownsRow_nil _ _ _ _), Lib.hid (Below.refl _ _)⟩
  case round =>
    obtain ⟨k, hk, rfl, ho, hbel⟩ := hrel
    by_cases hlt : k < n
    · obtain ⟨bb, off, e, hbb, hcs⟩ := hh.out.at (by omega)
      have d0 := (hbel.out.cell (p := ⟨bb, off + k * 2, none⟩) hbb).trans (hcs k hlt).1
      have d1 := (hbel.out.cell (p := ⟨bb, off + k * 2 + 1, none⟩) hbb).trans (hcs k hlt).2
      subst e
      clear hcs
      obtain ⟨p, hpp⟩ : ∃ p, (ts[k]?.getD (0, 0)).1 = p := ⟨_, rfl⟩
      obtain ⟨q, hqq⟩ : ∃ q, (ts[k]?.getD (0, 0)).2 = q := ⟨_, rfl⟩
      rw [hpp] at d0
      rw [hqq] at d1
      have hpz := Lib.hid (show parZ ts k = p from hpp)
      clear hpp hqq
      have hsz := hbel.out.size
      by_cases hpb : p = b
      · subst hpb
        have hk0 := kid_pos ht hpz.out
        have hst := Lib.hid (kids_yes hpz.out)
        have hkl : (kidsZ (kidsL ts b k)).length ≤ 1048576 := by
          unfold kidsZ kidsL; rw [List.length_map]; refine Nat.le_trans (List.length_filter_le _ _) ?_; simp; omega
        have hg1 : decide (0 < k) = true := decide_eq_true hk0
        go_wp2_with (at_builtin; refine appendPl _ rfl _ _ 24 rfl w.heap.size i0 Try.underlying24 hi hz0 hz1 hz2 _ (kidsZ (kidsL ts b k)) rfl ((ho.out.alloc _).alloc _) (wr.heap.size + 1) 0 1 k rfl (by have := (Boxed.new (wr.alloc (.cells #[.int .i64 b, .int .i64 q] 37)) 3 (.int .i64 k)).cell; rw [World.size_alloc] at this; exact this) hkl (by simp; omega) ?_; intro g c' w1 h1 h2 h3; have f1 := Lib.hid h1; have f2 := Lib.hid h2; clear h1 h2 h3)
        have hb2 := Lib.hid (((hbel.out.alloc hbel.out.size (.cells #[.int .i64 b, .int .i64 q] 37)).alloc (by simp; omega) (.cells #[.int .i64 k] 3)).grown f2.out (by simp; omega) (fun j e => (((ho.out.alloc (.cells #[.int .i64 b, .int .i64 q] 37)).alloc (.cells #[.int .i64 k] 3)).lt j e).1))
        clear f2
        go_roundw
        case rel => exact ⟨k + 1, by omega, by go_num, by rw [hst.out, kidsZ_snoc]; exact f1, hb2⟩
        case measure => simp [intOf]; omega
      · have hst := Lib.hid (kids_no (ts := ts) (b := b) (k := k) (fun e => hpb (hpz.out.symm.trans e)))
        have hcb : (p == (b : Int)) = false := by simp [hpb]
        have hb2 := Lib.hid (hbel.out.alloc hbel.out.size (.cells #[.int .i64 p, .int .i64 q] 37))
        have ho2 := Lib.hid (ho.out.alloc (.cells #[.int .i64 p, .int .i64 q] 37))
        go_wp2_with fail
        go_roundw
        case rel => exact ⟨k + 1, by omega, by go_num, by rw [hst.out]; exact ho2, hb2⟩
        case measure => simp [intOf]; omega
    · have hkn : k = n := by omega
      have ho' := Lib.hid (show wr.ownsRow w.heap.size 3 1 _ (kidsZ (kidsL ts b n)).length ((kidsZ (kidsL ts b n)).map (Value.int .i64)) by rw [← hkn]; exact ho.out)
      clear hkn
      go_wp2_with fail
      go_ret
      obtain ⟨A', c', e, hown⟩ := OwnAt.of_owns ho'.out
      exact ⟨A', _, c', by rw [e]; rfl, hown, hbel.out⟩
end Go.Proofs.Ythiegfbdmmpabab
