/- What is proved here: what the model's l1Put returns: a list with a number put in its place. No conditions. -/
import Derived.Test.YthiegfbdmmpababOwn
import Derived.Maps.AppendAt
import Derived.Laws.OwnMore
import Derived.Deep.Onto
import Derived.RangeFuncBox
namespace Go.Proofs.Ythiegfbdmmpabab
open Go.RowKit

/-- How many numbers of the head of l are below x. -/
def putK : List Int → Int → Nat
  | [], _ => 0
  | y :: l, x => if y < x then putK l x + 1 else 0
theorem putK_le (l : List Int) (x : Int) : putK l x ≤ l.length := by
  induction l with
  | nil => exact Nat.le_refl _
  | cons y l ih => unfold putK; split <;> simp; exact ih
theorem putK_lt {l : List Int} {x : Int} {j : Nat} (h : j < putK l x) : l[j]?.getD 0 < x := by
  induction l generalizing j with
  | nil => exact absurd h (Nat.not_lt_zero _)
  | cons y l ih =>
    unfold putK at h
    split at h
    · cases j with
      | zero => simpa
      | succ j => simpa using ih (j := j) (by omega)
    · omega
theorem putK_at {l : List Int} {x : Int} (h : putK l x < l.length) : ¬ l[putK l x]?.getD 0 < x := by
  induction l with
  | nil => simp at h
  | cons y l ih =>
    unfold putK at h ⊢
    split
    · rename_i hy
      rw [if_pos hy] at h
      simpa using ih (by simpa using h)
    · rename_i hy
      simpa using hy
def putL (l : List Int) (x : Int) : List Int := if l[putK l x]? = some x then l else l.take (putK l x) ++ x :: l.drop (putK l x)
theorem putL_len (l : List Int) (x : Int) : (putL l x).length ≤ l.length + 1 := by
  unfold putL; split
  · omega
  · simp; omega
theorem put_take {l : List Int} {x : Int} : ∀ y ∈ l.take (putK l x), y < x := by
  intro y hy
  obtain ⟨j, hj, e⟩ := List.mem_iff_getElem.1 hy
  rw [List.length_take] at hj
  rw [List.getElem_take] at e
  have := putK_lt (l := l) (x := x) (j := j) (by omega)
  rw [List.getElem?_eq_getElem (by omega), Option.getD_some, e] at this
  exact this
theorem put_drop {l : List Int} {x : Int} (hl : l.Pairwise (· < ·)) : ∀ y ∈ l.drop (putK l x), x ≤ y := by
  intro y hy
  obtain ⟨j, hj, e⟩ := List.mem_iff_getElem.1 hy
  rw [List.length_drop] at hj
  rw [List.getElem_drop] at e
  have h0 := putK_at (l := l) (x := x) (by omega)
  rw [List.getElem?_eq_getElem (by omega), Option.getD_some] at h0
  cases j with
  | zero => rw [← e]; simp only [Nat.add_zero]; omega
  | succ j =>
    have := List.pairwise_iff_getElem.1 hl (putK l x) (putK l x + (j + 1)) (by omega) (by omega) (by omega)
    rw [← e]; omega
theorem putL_sorted {l : List Int} {x : Int} (hl : l.Pairwise (· < ·)) : (putL l x).Pairwise (· < ·) := by
  unfold putL
  split
  · exact hl
  · rename_i hne
    have hd : ∀ y ∈ l.drop (putK l x), x < y := fun y hy => by
      have h1 := put_drop hl y hy
      rcases Int.lt_or_eq_of_le h1 with h2 | h2
      · exact h2
      · exfalso
        subst h2
        obtain ⟨j, hj, e⟩ := List.mem_iff_getElem.1 hy
        rw [List.length_drop] at hj
        rw [List.getElem_drop] at e
        cases j with
        | zero => exact hne (by rw [List.getElem?_eq_getElem (by omega)]; simpa using e)
        | succ j =>
          have h3 := List.pairwise_iff_getElem.1 hl (putK l x) (putK l x + (j + 1)) (by omega) (by omega) (by omega)
          have h4 := putK_at (l := l) (x := x) (by omega)
          rw [List.getElem?_eq_getElem (by omega), Option.getD_some] at h4
          omega
    rw [List.pairwise_append]
    refine ⟨hl.sublist (List.take_sublist _ _), List.pairwise_cons.2 ⟨hd, hl.sublist (List.drop_sublist _ _)⟩, fun a ha b hb => ?_⟩
    have h1 := put_take a ha
    rcases List.mem_cons.1 hb with rfl | hb
    · exact h1
    · have := hd b hb; omega
theorem putL_perm {l : List Int} {x : Int} (hx : x ∉ l) : (putL l x).Perm (x :: l) := by
  unfold putL
  split
  · rename_i h
    exact absurd (List.mem_iff_getElem?.2 ⟨_, h⟩) hx
  · exact (List.perm_middle.trans (by rw [List.take_append_drop]))
/-- All numbers of ks, put one after the other. -/
def putAll (l ks : List Int) : List Int := ks.foldl putL l
theorem putAll_ok : ∀ (ks l : List Int), l.Pairwise (· < ·) → (l ++ ks).Nodup → (putAll l ks).Pairwise (· < ·) ∧ (putAll l ks).Perm (l ++ ks)
  | [], l, h, _ => ⟨h, by simp [putAll]⟩
  | x :: ks, l, h, hn => by
    have hx : x ∉ l := by
      rw [List.nodup_append] at hn
      exact fun hm => hn.2.2 x hm x (by simp) rfl
    have hp := putL_perm hx
    have hp2 : (putL l x ++ ks).Perm (l ++ x :: ks) := (hp.append_right ks).trans (List.perm_middle (l₁ := l)).symm
    have hn2 : (putL l x ++ ks).Nodup := hp2.nodup_iff.2 hn
    obtain ⟨h1, h2⟩ := putAll_ok ks (putL l x) (putL_sorted h) hn2
    exact ⟨h1, h2.trans hp2⟩
def sortI (l : List Int) : List Int := l.mergeSort fun x y => decide (x ≤ y)
theorem sortI_len (l : List Int) : (sortI l).length = l.length := by unfold sortI; simp
theorem putAll_sort {ks : List Int} (h : ks.Nodup) : putAll [] ks = sortI ks := by
  obtain ⟨h1, h2⟩ := putAll_ok ks [] List.Pairwise.nil (by simpa using h)
  have h3 : (sortI ks).Pairwise (· ≤ ·) := by
    have := List.pairwise_mergeSort (le := fun (x y : Int) => decide (x ≤ y)) (fun a b c hab hbc => by simp at *; omega) (fun a b => by simp; omega) ks
    exact this.imp (fun h => by simpa using h)
  refine List.Perm.eq_of_pairwise (le := (· ≤ ·)) (fun a b _ _ h1 h2 => by omega) (h1.imp (fun h => Int.le_of_lt h)) h3 (h2.trans ?_)
  rw [List.nil_append]
  exact (List.mergeSort_perm ks _).symm

/-- An append of a slice that is read whole, nil or empty too, in a plain walk. -/
theorem appendSl {P : Program} (w : World) {ops : Array Oper} {rest : List Oper} {o : Oper} {a : Act} {Q : Exit → Act → World → Prop} (hg : o.guard = none) (s x : Operand) (t : TypeId)
    (hop : o.op = Op.call { callee := Callee.builtin Builtin.append, args := #[s, x], argTypes := #[t, t] }) (base : Nat) (i : TypeInfo)
    (h1 : P.underlying t = some (.slice 3)) (h2 : P.info? 3 = some i) (h3 : i.zero = some (.int .i64 0)) (h4 : i.size = 1) (h5 : i.bytes = 8)
    (v : Value) (ys : List Int) (hs : a.eval s = v) (hown : w.ownsRow base 3 1 v ys.length (ys.map (Value.int .i64))) (A : Option Addr) (m : Nat) (c : Nat) (ls : List Int) (hl : ls.length = m) (hx : a.eval x = .slice A m c)
    (hnil : A = none → m = 0 ∧ c = 0) (hc : ∀ ad, A = some ad → ∀ j, j < m → w.cell? (ad.add j) = some (.int .i64 (ls[j]?.getD 0))) (b1 : ys.length + m ≤ 1048576) (b3 : base ≤ w.heap.size)
    (hK : ∀ v' w', w'.ownsRow base 3 1 v' (ys ++ ls).length ((ys ++ ls).map (Value.int .i64)) → w.grownBy w' v.ownBlock → (v'.ownBlock = v.ownBlock ∨ v'.ownBlock = some w.heap.size) → wpList P ops Q rest (a.put o.dst v') w') :
    wpList P ops Q (o :: rest) a w := by
  cases A with
  | none =>
    obtain ⟨rfl, rfl⟩ := hnil rfl
    have e : ls = [] := List.length_eq_zero_iff.1 hl
    subst e
    refine wpList_plain hg fun K hK' => ?_
    unfold Oper.wp execOp
    simp only [hop, resolve, invoke, builtin, Sem.run_bind, Sem.run_pure, Result.andThen_ok, List.map_toArray, List.map_cons, List.map_nil, hs, hx, run_append_owned_none (P := P) (w := w) base t o.type 3 i 1 h1 h2 v ys.length _ hown]
    exact hK' _ _ (hK v w (by simpa using hown) ⟨rfl, rfl, rfl, Nat.le_refl _, fun _ _ _ => rfl⟩ (.inl rfl))
  | some ad =>
    refine wpList_append_own_at w hg s x t hop base 3 i (.int .i64 0) 1 8 h1 h2 h3 h4 h5 rfl (by decide) v ys.length _ hs hown ad m c (ls.map (Value.int .i64)) hx (by simp [hl])
      (fun j u hu => by
        rw [List.getElem?_map] at hu
        have hj : j < ls.length := by
          rcases Nat.lt_or_ge j ls.length with h | h
          · exact h
          · rw [List.getElem?_eq_none h] at hu; cases hu
        rw [hc ad rfl j (by omega)]
        rw [List.getElem?_eq_getElem hj] at hu ⊢
        exact hu)
      (by simp [Value.oneCell']) (by simp only [maxLen]; omega) (by omega) b3 ?_
    intro v' w' r1 r2 _ r4
    exact hK v' w' (by simpa [hl] using r1) r2 r4
end Go.Proofs.Ythiegfbdmmpabab

/- What is proved here: what the model's l1Put does to a slice that a call has made. No conditions. -/
namespace Go.Proofs.Ythiegfbdmmpabab
open Go.RowKit

theorem put_info3 : (Try.prog.info? 3).map (fun i => (i.zero, i.size, i.bytes)) = some (some (.int .i64 0), 1, 8) := by kernel_rfl
theorem put_parts {t : TypeId} {z : Option Value} {s b : Nat} (h : (Try.prog.info? t).map (fun i => (i.zero, i.size, i.bytes)) = some (z, s, b)) : ∃ i, Try.prog.info? t = some i ∧ i.zero = z ∧ i.size = s ∧ i.bytes = b := by
  obtain ⟨i, hi, hzz⟩ := Option.map_eq_some_iff.1 h
  simp only [Prod.mk.injEq] at hzz
  exact ⟨i, hi, hzz⟩
theorem ownsRow_belowW {w w' : World} {base : Nat} {v : Value} {n : Nat} {xs : List Value} (h : w.ownsRow base 3 1 v n xs) (hb : Below w.heap.size w w') : w'.ownsRow base 3 1 v n xs :=
  h.kept (row := none) ⟨hb.os, hb.tape, hb.output, hb.size, fun k hk _ => hb.block k hk⟩ (by cases hv : v.ownBlock <;> simp)

def PutPost (w : World) (base : Nat) (zs : List Int) (e : Ending) (w' : World) : Prop :=
  ∃ v', e = .returned v' ∧ w'.ownsRow base 3 1 v' zs.length (zs.map (Value.int .i64)) ∧ Below w.heap.size w w'

theorem put_cell1 (w : World) (x : Int) : ∀ ad, some (⟨w.heap.size, 0, none⟩ : Addr) = some ad → ∀ j, j < 1 → (w.alloc (.cells #[.int .i64 x] 3)).cell? (ad.add j) = some (.int .i64 ([x][j]?.getD 0)) := by
  intro ad e j hj
  cases e
  have : j = 0 := by omega
  subst this
  exact (Boxed.new w 3 (.int .i64 x)).cell

theorem put_cell2 (w : World) (x : Int) : ∀ ad, some (⟨w.heap.size + 1, 0, none⟩ : Addr) = some ad → ∀ j, j < 1 → ((w.alloc (.cells #[] 3)).alloc (.cells #[.int .i64 x] 3)).cell? (ad.add j) = some (.int .i64 ([x][j]?.getD 0)) := by
  have := put_cell1 (w.alloc (.cells #[] 3)) x
  rwa [World.size_alloc] at this

end Go.Proofs.Ythiegfbdmmpabab
