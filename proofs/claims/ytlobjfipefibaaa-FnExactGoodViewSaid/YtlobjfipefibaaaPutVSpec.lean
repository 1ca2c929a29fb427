/- What is proved here: what the model's l6Put does: a list with a vote put in its place. No conditions but lengths. -/
import Derived.Test.YtlobjfipefibaaaPutVFacts
import Derived.Test.YtlobjfipefibaaaVoteApp
import Derived.Test.YtlobjfipefibaaaVotePoolSpec
import Derived.Laws.OwnMore
namespace Go.Proofs.Ytlobjfipefibaaa
open Go.RowKit

set_option maxRecDepth 100000 in
/-- An append of a slice of votes that is read whole, nil or empty too, in a plain walk. -/
theorem appendSlV (w : World) {ops : Array Oper} {rest : List Oper} {o : Oper} {a : Act} {Q : Exit → Act → World → Prop} (hg : o.guard = none) (s x : Operand) (t : TypeId)
    (hop : o.op = Op.call { callee := Callee.builtin Builtin.append, args := #[s, x], argTypes := #[t, t] }) (base : Nat)
    (h1 : Try.prog.underlying t = some (.slice 53))
    (v : Value) (ys : List Vt) (hs : a.eval s = v) (hown : w.ownsRow base 53 3 v ys.length (flatV ys)) (A : Option Addr) (m : Nat) (c : Nat) (ls : List Vt) (hl : ls.length = m) (hx : a.eval x = .slice A m c)
    (hnil : A = none → m = 0 ∧ c = 0) (hc : ∀ ad, A = some ad → ∀ j, j < m * 3 → w.cell? (ad.add j) = some (cellsV ls j)) (b1 : ys.length + m ≤ 4194304) (b3 : base ≤ w.heap.size)
    (hK : ∀ v' w', w'.ownsRow base 53 3 v' (ys ++ ls).length (flatV (ys ++ ls)) → w.grownBy w' v.ownBlock → (v'.ownBlock = v.ownBlock ∨ v'.ownBlock = some w.heap.size) → wpList Try.prog ops Q rest (a.put o.dst v') w') :
    wpList Try.prog ops Q (o :: rest) a w := by
  obtain ⟨i0, hi, hzz⟩ := Option.map_eq_some_iff.1 infoVote
  simp only [Prod.mk.injEq] at hzz
  obtain ⟨hz, hsz, hb⟩ := hzz
  cases A with
  | none =>
    obtain ⟨rfl, rfl⟩ := hnil rfl
    have e : ls = [] := List.length_eq_zero_iff.1 hl
    subst e
    refine wpList_plain hg fun K hK' => ?_
    unfold Oper.wp execOp
    simp only [hop, resolve, invoke, builtin, Sem.run_bind, Sem.run_pure, Result.andThen_ok, List.map_toArray, List.map_cons, List.map_nil, hs, hx, run_append_owned_none (P := Try.prog) (w := w) base t o.type 53 i0 3 h1 hi v ys.length _ hown]
    exact hK' _ _ (hK v w (by simpa using hown) ⟨rfl, rfl, rfl, Nat.le_refl _, fun _ _ _ => rfl⟩ (.inl rfl))
  | some ad =>
    refine wpList_append_own_at w hg s x t hop base 53 i0 (.agg #[.int .i64 0, .int .i64 0, .int .i64 0]) 3 24 h1 hi hz hsz hb rfl (by decide) v ys.length _ hs hown ad m c (flatV ls) hx (by rw [flatV_len, hl])
      (fun j u hu => by
        have hj : j < ls.length * 3 := by
          rcases Nat.lt_or_ge j (ls.length * 3) with h | h
          · exact h
          · rw [List.getElem?_eq_none (by rw [flatV_len]; exact h)] at hu; cases hu
        rw [flatV_get ls j hj] at hu
        rw [hc ad rfl j (by omega)]
        exact hu)
      (fun u hu => by
        obtain ⟨j, hj, e⟩ := List.mem_iff_getElem.1 hu
        rw [flatV_len] at hj
        have := flatV_get ls j hj
        rw [List.getElem?_eq_getElem (by rw [flatV_len]; exact hj), e] at this
        injection this with this
        rw [this]; rfl)
      (by simp only [maxLen]; omega) (by omega) b3 ?_
    intro v' w' r1 r2 _ r4
    exact hK v' w' (by rw [flatV_app]; simpa [hl] using r1) r2 r4
end Go.Proofs.Ytlobjfipefibaaa
