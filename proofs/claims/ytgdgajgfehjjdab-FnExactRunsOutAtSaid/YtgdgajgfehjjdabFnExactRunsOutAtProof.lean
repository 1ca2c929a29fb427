/- What is proved here: the law FnExactRunsOutAt returns true at every input and leaves its arguments as they were (the statement Rows.FnExactRunsOutAtSaid). No conditions. -/
import Derived.Test.YtgdgajgfehjjdabRows
import Derived.Test.YtgdgajgfehjjdabRunsOutAtLaw
import Derived.WalkKit
import Derived.ProofKit
import Derived.OpenShut
import Derived.ShutString
import Derived.ChangeOld
import Derived.Below
import Derived.SizedLaws
namespace Go.Proofs.Ytgdgajgfehjjdab.fnExactRunsOutAt
open Go.ChangeShapes Go.WideShapes Go.ChangeAt Go.RowKit
set_option linter.unusedVariables false

theorem own : ownKnob Try.prog.godebug = none := by kernel_rfl
theorem laidOut : laidOutB Try.prog = true := by kernel_rfl
theorem bytes3 : Try.prog.bytesOf 3 = 8 := by kernel_rfl


def IsRow (k : IntKind) (w : World) (a : Option Addr) (len cap : Nat) (zs : List Int) : Prop :=
  (a = none ∧ len = 0 ∧ cap = 0 ∧ zs = []) ∨
  ∃ x, a = some x ∧ len ≤ cap ∧ cap ≤ maxLen ∧ zs.length = cap ∧ (∀ i, i < zs.length → w.cell? (x.add i) = some (.int k (zs.getD i 0))) ∧ ∀ n ∈ zs, (Lit.int k n).wf = true
theorem IsRow.reads {k : IntKind} {w : World} {a : Option Addr} {len cap : Nat} {zs : List Int} (h : IsRow k w a len cap zs) : ∃ xs : List Int, (xs.length = len ∧ ∀ j, j < len → ∃ b off, a = some ⟨b, off, none⟩ ∧ b < w.heap.size ∧ w.cell? ⟨b, off + j, none⟩ = some (.int k (xs[j]?.getD 0))) ∧ len ≤ maxLen ∧ ∀ n ∈ xs, (Lit.int k n).wf = true := by
  rcases h with ⟨rfl, rfl, rfl, rfl⟩ | ⟨x, rfl, hl, hm, hz, hcell, hwf⟩
  · exact ⟨[], ⟨rfl, fun _ h => absurd h (Nat.not_lt_zero _)⟩, Nat.zero_le _, fun _ h => by cases h⟩
  · refine ⟨zs.take len, ⟨by rw [List.length_take]; omega, fun k hk => ?_⟩, by omega, fun n hn => hwf n (List.mem_of_mem_take hn)⟩
    have hc := hcell k (by omega)
    obtain ⟨b, off, spot⟩ := x
    have hs : spot = none := by simpa [Addr.add] using World.cell?_spot (hcell 0 (by omega))
    subst hs
    have hb := World.block_lt_of_cell? w _ hc
    have e : (⟨b, off, none⟩ : Addr).add k = ⟨b, off + k, none⟩ := by
      unfold Addr.add; by_cases e : k = 0 <;> simp [e]
    rw [e] at hc hb
    refine ⟨b, off, rfl, hb, ?_⟩
    rw [hc, List.getElem?_take_of_lt hk]
    simp

set_option maxRecDepth 100000 in
theorem lifted (os : Os) (started : os.Started) (H : Type) (enc : TypeId × Value → H) :
    ReturnsInHanded {} Try.checked os 8 .any (Rows.fnExactRunsOutAtSpec.pre6 enc Try.prog Try.f8 Rows.fnExactRunsOutAtRow.domain false) (Rows.fnExactRunsOutAtSpec.post enc Try.prog Try.f8 false true false false) := by
  refine returnsInHanded_of_change_sized (C := Try.checked) own started (by kernel_rfl) Try.func8
    (ChangeSpec.witness6 (enc := enc) (C := Try.checked) false ⟨#[], #[.agg #[.int .i64 0, .int .i64 0, .int .i64 0], .int .i64 0], []⟩ 8 (by kernel_rfl) (by kernel_rfl) (by kernel_rfl) (by kernel_rfl)) ?_
  intro W base args ds gs before hval0 hW hcnd hsz0 _
  have hval : ∀ (j : Nat) t v, Try.f8.params[j]? = some t → args[j]? = some v → Value.okWide Try.prog W .any base t v := hval0
  have hW' := hW
  obtain ⟨p, q, hA0, hV, rfl, hfz, hnd⟩ := hW
  have hA : DataW.TrodAll enc Try.prog W 0 (fun _ => true) true Try.f8.params.toList args.toList ds p := hA0
  have hsz : (DataW.weightsEach Try.prog (Try.f8.params.toList ++ Rows.fnExactRunsOutAtSpec.plain.varTypes Try.prog) (ds ++ gs)).all (· ≤ reachBytes) = true := hsz0
  clear hsz0
  rw [Try.params8] at hA hval hsz
  obtain ⟨v0, vs0, d0, ds0, p0, q0, hargs, rfl, rfl, h0, r0⟩ := trodAll_cons hA
  obtain ⟨v1, vs1, d1, ds1, p1, q1, rfl, rfl, rfl, h1, r1⟩ := trodAll_cons r0
  obtain ⟨rfl, rfl, rfl⟩ := trodAll_nil r1
  obtain rfl : args = #[v0, v1] := by cases args; simp_all
  obtain ⟨rfl, rfl⟩ := trodVars_none hV
  obtain ⟨cs0, rfl, hcs0⟩ := okWide_struct Try.underlying66 (hval 0 66 v0 rfl rfl)
  have k0 := h0
  have lt0 : ∀ x ∈ p0, x.block < W.heap.size := by obtain ⟨m, hm⟩ := k0; exact DataW.trod_lt m _ _ _ hm
  obtain ⟨x0, y0, z0, hce0⟩ : ∃ x y z, cs0 = #[.int .i64 x, .int .i64 y, .int .i64 z] := by
    obtain ⟨fuel, hf⟩ := h0
    have hcl : cs0.size = 3 := hcs0.trans (by kernel_rfl)
    obtain ⟨u0, u1, u2, e⟩ := list3 (l := cs0.toList) (by simpa using hcl)
    have e' : cs0 = #[u0, u1, u2] := by rw [← Array.toArray_toList (xs := cs0), e]
    subst e'
    obtain ⟨y0, y1, y2, m, _, _, g0, g1, g2⟩ := Go.Deep.trod_struct3 Try.underlying66 hf
    have c3 : Try.prog.cellsOf 3 = 1 := by kernel_rfl
    simp [c3, Value.cells] at g0 g1 g2
    obtain ⟨a0, ha0, _⟩ := DataW.trod_int Try.underlying3 g0
    obtain ⟨a1, ha1, _⟩ := DataW.trod_int Try.underlying3 g1
    obtain ⟨a2, ha2, _⟩ := DataW.trod_int Try.underlying3 g2
    have q0 : u0 = .int .i64 a0 := by simpa using ha0
    have q1 : u1 = .int .i64 a1 := by simpa using ha1
    have q2 : u2 = .int .i64 a2 := by simpa using ha2
    exact ⟨a0, a1, a2, by rw [q0, q1, q2]⟩
  subst hce0
  obtain ⟨a1, rfl, rfl, rfl, w1⟩ := open_int Try.underlying3 (hval 1 3 v1 rfl rfl) h1
  clear hA0 hval0
  refine (lawRunsOutAt x0 y0 z0 a1 W).mono fun e W' ⟨he, bel⟩ => ?_
  subst he
  exact ⟨_, rfl, _, _, _, [], _, [], hW', trodAll_mk1 (shut_bool Try.underlying4 _), (trodAll_cons_mk (Below.trod laidOut (by kernel_rfl) (of_decide_eq_true (by kernel_rfl)) k0 bel lt0) (trodAll_cons_mk (shut_int Try.underlying3 w1) trodAll_mk0)), rfl, bel.frame _, fun h => by cases h⟩

theorem proved : Rows.FnExactRunsOutAtSaid :=
  OpenClaim.holds_of_wide 8 Try.f8 rfl rfl rfl rfl rfl rfl rfl ⟨rfl, rfl, rfl, rfl, rfl⟩ rfl rfl rfl rfl rfl (by kernel_rfl) Try.func8 (by kernel_rfl)
    (of_decide_eq_true (by kernel_rfl)) (by unfold Func.isWrapper; first | (rw [if_pos (by decide +kernel)]; kernel_rfl) | (rw [if_neg (by decide +kernel)]; exact ⟨rfl, rfl⟩))
    (fun os started H enc _ => lifted os started H enc)
end Go.Proofs.Ytgdgajgfehjjdab.fnExactRunsOutAt

namespace Go.Proofs.Ytgdgajgfehjjdab
theorem FnExactRunsOutAt_holds : Rows.FnExactRunsOutAtSaid := fnExactRunsOutAt.proved
end Go.Proofs.Ytgdgajgfehjjdab
