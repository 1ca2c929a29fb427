/- What is proved here: how a map from integers to votes reads, and the look-up in it. No conditions. -/
import Derived.Test.YtgdgajgfehjjdaaVoteFacts
import Derived.Maps.OwnOps
import Derived.Maps.OwnSet
import Derived.Maps.RangeWalk
namespace Go.Proofs.Ytgdgajgfehjjdaa
open Go.RowKit Go.Maps

/-- How a vote reads as an element of a map. -/
def votD (v : Vt) : DataW Unit := .agg [.lit (.int .i64 v.1), .lit (.int .i64 v.2.1), .lit (.int .i64 v.2.2)]
def votL (l : List Value) : Option (DataW Unit × List MemPlace) :=
  match l with
  | [.int .i64 a, .int .i64 b, .int .i64 c] => some (votD (a, b, c), [])
  | _ => none
def votE (v : Value) : Option (DataW Unit × List MemPlace) :=
  match v with
  | .agg cs => votL cs.toList
  | _ => none
theorem votE_mk (v : Vt) : votE (vtV v) = some (votD v, []) := rfl
theorem votE_inv {u : Value} {z : DataW Unit × List MemPlace} (h : votE u = some z) : ∃ v : Vt, u = vtV v ∧ z = (votD v, []) := by
  unfold votE at h
  split at h
  · next cs =>
    unfold votL at h
    split at h
    · next a b c e =>
      injection h with h
      refine ⟨(a, b, c), ?_, h.symm⟩
      unfold vtV
      congr 1
      exact Array.ext' e
    · cases h
  · cases h
theorem votD_inj {u v : Vt} (h : votD u = votD v) : u = v := by
  obtain ⟨a, b, c⟩ := u
  obtain ⟨a', b', c'⟩ := v
  unfold votD at h
  injection h with h
  injection h with h1 h
  injection h with h2 h
  injection h with h3 _
  injection h1 with h1
  injection h1 with _ h1
  injection h2 with h2
  injection h2 with _ h2
  injection h3 with h3
  injection h3 with _ h3
  subst h1; subst h2; subst h3; rfl

/-- 'm[k]' at a map of votes: the walk goes on with some vote, of which the datum says what it is. -/
theorem wpList_lookup_votes {P : Program} (w : World) {ops : Array Oper} {rest : List Oper} {o : Oper} {a : Act} {Q : Exit → Act → World → Prop}
    (hg : o.guard = none) (m x : Operand) (t : TypeId) (hop : o.op = Op.lookup t m x false)
    (k e : TypeId) (K : Keyed P k) (ht : P.underlying t = some (.map k e)) (hz : (zeroValue e).run P w = .ok (vtV (0, 0, 0)) w) (b n : Nat) (D : DataW Unit)
    (hm : a.eval m = .map (some b)) (hown : w.ownsMap P k votE b n D) (key : Value) (kl : Lit) (hx : a.eval x = key) (hkey : keyOf P k key = some kl)
    (hK : ∀ v : Vt, D.atKey kl (votD (0, 0, 0)) = votD v → wpList P ops Q rest (a.put o.dst (vtV v)) w) :
    wpList P ops Q (o :: rest) a w := by
  refine wpList_plain hg fun K' hK' => ?_
  obtain ⟨u, ps, hrun, hv⟩ := hown.lookup K ht hz (votE_mk (0, 0, 0)) hkey
  obtain ⟨v, rfl, hc⟩ := votE_inv hv
  simp only [Prod.mk.injEq] at hc
  unfold Oper.wp
  simp [execOp, hop, hm, hx, hrun, Result.andThen]
  exact hK' _ _ (hK v hc.1)

/-- The map after the first k votes: each voter's last one. -/
def latD (vs : List Vt) : Nat → DataW Unit
  | 0 => .map []
  | k + 1 => (latD vs k).put (.int .i64 (getV vs k).1) (votD (getV vs k))
theorem latD_isMap (vs : List Vt) (k : Nat) : IsMap (latD vs k) := by
  induction k with
  | zero => exact isMap_empty
  | succ k ih => exact ih.put _ _
/-- The voter x has voted among the first k. -/
def votedB (vs : List Vt) (k : Nat) (x : Int) : Bool := (List.range k).any fun i => (getV vs i).1 == x
theorem voted_succ (vs : List Vt) (k : Nat) (x : Int) : votedB vs (k + 1) x = (votedB vs k x || ((getV vs k).1 == x)) := by
  unfold votedB; rw [List.range_succ, List.any_append]; simp
theorem lat_has (vs : List Vt) (x : Int) : ∀ k, Maps.has (latD vs k) (.int .i64 x) = votedB vs k x := by
  intro k
  induction k with
  | zero => rfl
  | succ k ih =>
    rw [voted_succ]
    by_cases e : (getV vs k).1 = x
    · subst e
      rw [show ((getV vs k).1 == (getV vs k).1) = true by simp, Bool.or_true]
      exact has_put_same (latD_isMap vs k) (by simp [WideAt.IsKeyLit]) _
    · rw [show ((getV vs k).1 == x) = false by simp [e], Bool.or_false]
      show Maps.has ((latD vs k).put _ _) _ = _
      rw [has_put_other (fun h => e (by injection h with _ h; exact h.symm)), ih]
/-- What the map holds of the voter x: its last vote among the first k. -/
theorem lat_at {vs : List Vt} {x : Int} {j : Nat} : ∀ k, j < k → (getV vs j).1 = x → (∀ i, j < i → i < k → (getV vs i).1 ≠ x) → ∀ z, (latD vs k).atKey (.int .i64 x) z = votD (getV vs j) := by
  intro k
  induction k with
  | zero => intro h; omega
  | succ k ih =>
    intro hj hx hno z
    show ((latD vs k).put _ _).atKey _ z = _
    by_cases e : j = k
    · subst e
      rw [← hx]
      exact atKey_put_same (latD_isMap vs j) (by simp [WideAt.IsKeyLit]) _ z
    · rw [atKey_put_other (fun h => hno k (by omega) (by omega) (by injection h with _ h; exact h.symm))]
      exact ih (by omega) hx (fun i h1 h2 => hno i h1 (by omega)) z
end Go.Proofs.Ytgdgajgfehjjdaa
