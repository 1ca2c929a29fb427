/- What is proved here: what a map from votes to marks reads as: its keys, its size; a list of votes sorted. No conditions but that the votes' numbers are of 64 bits. -/
import Derived.Test.YtlobjfipefibaaaPutVFacts
import Derived.Maps.OwnOps
import Derived.Maps.OwnSet
import Derived.Maps.RangeWalk
import Derived.Test.YtlobjfipefibaaaVoteApp
import Derived.DeepKeys4
import Derived.Shelf.SlSortCmp.InsertionK
namespace Go.Proofs.Ytlobjfipefibaaa
open Go.RowKit Go.Maps Go.Sort Go.Shelf Go.Lib

def wfV (v : Vt) : Prop := (Lit.int .i64 v.1).wf = true ∧ (Lit.int .i64 v.2.1).wf = true ∧ (Lit.int .i64 v.2.2).wf = true
def kv (v : Vt) : Lit := .string (keyBytes [.int .i64 v.1, .int .i64 v.2.1, .int .i64 v.2.2])
theorem wfV_of_ok {ts : List Blk} {ns : Nat} {v : Vt} (h : voteOk ts ns v = true) (hn : ns ≤ 1048576) (hl : ts.length ≤ 1048576) : wfV v := by
  obtain ⟨⟨i, e1, h1⟩, ⟨b, e2, h2, _⟩, h3, h4⟩ := voteOk_iff.1 h
  refine ⟨?_, ?_, ?_⟩
  · exact WalkArith.wf_i64 (by omega)
  · exact WalkArith.wf_i64 (by omega)
  · exact WalkArith.wf_i64 (by omega)
theorem laidV : laidOutB Try.prog = true := by kernel_rfl
theorem vtKeyT : Try.prog.keyType 53 = true := by kernel_rfl
theorem vtWide : (match Try.prog.underlying 53 with | some (.array _ _) | some (.struct _) => true | _ => false) = true := by kernel_rfl
set_option maxRecDepth 100000 in
theorem lawVt : Keyed Try.prog 53 := Keyed.of_law (deep_law_laid laidV (m := 2) (by omega) (of_decide_eq_true (by kernel_rfl)) (by kernel_rfl) vtWide)
theorem vtCells : Try.prog.cellsOf 53 = 3 := by kernel_rfl
theorem intCells : Try.prog.cellsOf 3 = 1 := by kernel_rfl
theorem keyLits_int (d : Nat) (x : Int) (hw : (Lit.int .i64 x).wf = true) : Try.prog.keyLits (d + 1) 3 [.int .i64 x] = some [.int .i64 x] := by
  simp [Program.keyLits, Try.underlying3, hw]
set_option maxRecDepth 100000 in
theorem keyLits_int_inv {d : Nat} {u : Value} {L : List Lit} (h : Try.prog.keyLits (d + 1) 3 [u] = some L) : ∃ x, u = .int .i64 x ∧ (Lit.int .i64 x).wf = true ∧ L = [.int .i64 x] := by
  unfold Program.keyLits at h
  rw [Try.underlying3] at h
  cases u <;> simp at h
  obtain ⟨⟨rfl, hw⟩, rfl⟩ := h
  exact ⟨_, rfl, hw, rfl⟩
set_option maxRecDepth 100000 in
theorem typesPos : ∃ d, Try.prog.types.size = d + 1 := ⟨Try.prog.types.size - 1, by have : 0 < Try.prog.types.size := of_decide_eq_true (by kernel_rfl); omega⟩
theorem keyVote {v : Vt} (h : wfV v) : keyOf Try.prog 53 (vtV v) = some (kv v) := by
  obtain ⟨d, hd⟩ := typesPos
  have hf : (vtV v).formed Try.prog 53 = true := by unfold vtV; simp [Value.formed, Try.underlying53, vtCells]
  unfold keyOf
  rw [Try.underlying53]
  simp only
  rw [vtKeyT, hf, hd]
  have hk : Try.prog.keyLits (d + 1 + 1) 53 (vtV v).cells.toList = some [.int .i64 v.1, .int .i64 v.2.1, .int .i64 v.2.2] := by
    unfold Program.keyLits
    rw [Try.underlying53]
    simp [vtV, Value.cells, vtCells, intCells, keyLits_int d _ h.1, keyLits_int d _ h.2.1, keyLits_int d _ h.2.2]
  rw [hk]
  rfl
set_option maxRecDepth 100000 in
theorem keyVote_inv {u : Value} {kl : Lit} (h : keyOf Try.prog 53 u = some kl) : ∃ v : Vt, u = vtV v ∧ kl = kv v ∧ wfV v := by
  obtain ⟨xs, L, rfl, h1, rfl⟩ := keyOf_top vtWide h
  obtain ⟨d, hd⟩ := typesPos
  rw [hd] at h1
  unfold Program.keyLits at h1
  rw [Try.underlying53] at h1
  simp only [vtCells] at h1
  split at h1
  · rename_i hc
    have hs : xs.toList.length = 3 := by simpa using hc.1
    have : ∃ a b c, xs.toList = [a, b, c] := by
      match hl : xs.toList, hs with
      | [a, b, c], _ => exact ⟨a, b, c, rfl⟩
    obtain ⟨a, b, c, e⟩ := this
    rw [e] at h1
    rcases e1 : Try.prog.keyLits (d + 1) 3 [a] with _ | L1
    · simp [intCells, List.mapM_cons, e1] at h1
    rcases e2 : Try.prog.keyLits (d + 1) 3 [b] with _ | L2
    · simp [intCells, List.mapM_cons, e1, e2] at h1
    rcases e3 : Try.prog.keyLits (d + 1) 3 [c] with _ | L3
    · simp [intCells, List.mapM_cons, e1, e2, e3] at h1
    simp [intCells, List.mapM_cons, e1, e2, e3] at h1
    obtain ⟨x, rfl, wx, rfl⟩ := keyLits_int_inv e1
    obtain ⟨y, rfl, wy, rfl⟩ := keyLits_int_inv e2
    obtain ⟨z, rfl, wz, rfl⟩ := keyLits_int_inv e3
    simp at h1
    subst h1
    refine ⟨(x, y, z), ?_, rfl, wx, wy, wz⟩
    unfold vtV
    congr 1
    exact Array.ext' e
  · cases h1
theorem vtV_inj {u v : Vt} (h : vtV u = vtV v) : u = v := by
  obtain ⟨a, b, c⟩ := u
  obtain ⟨a', b', c'⟩ := v
  unfold vtV at h
  simp at h
  obtain ⟨rfl, rfl, rfl⟩ := h
  rfl
theorem kv_inj {u v : Vt} (hu : wfV u) (hv : wfV v) (h : kv u = kv v) : u = v :=
  vtV_inj (lawVt.inj (keyVote hu) (by rw [h]; exact keyVote hv))
theorem kv_lit (v : Vt) : WideAt.IsKeyLit (kv v) := trivial
theorem same_kv {x y : Vt} (hx : wfV x) (hy : wfV y) : (kv x).sameKey (kv y) = decide (x = y) := by
  by_cases h : x = y
  · subst h; rw [WideAt.sameKey_self (kv_lit x)]; simp
  · rw [sameKey_ne (fun e => h (kv_inj hx hy e)), decide_eq_false h]

/-- The set of the first k votes of a list. -/
def vD (l : List Vt) : Nat → DataW Unit
  | 0 => .map []
  | k + 1 => (vD l k).put (kv (getV l k)) (.lit (.bool true))
theorem vD_tidy (l : List Vt) (k : Nat) : Tidy (vD l k) := by
  induction k with
  | zero => exact tidy_empty
  | succ k ih => exact ih.put (kv_lit _) _
theorem vD_isMap (l : List Vt) (k : Nat) : IsMap (vD l k) := (vD_tidy l k).isMap
theorem vD_has {l : List Vt} {x : Vt} (hx : wfV x) : ∀ k, (∀ j, j < k → wfV (getV l j)) → Maps.has (vD l k) (kv x) = decide (x ∈ allV [] l k) := by
  intro k
  induction k with
  | zero => intro _; rw [decide_eq_false (by show x ∉ ([] : List Vt); simp)]; rfl
  | succ k ih =>
    intro hw
    have hk := hw k (Nat.lt_succ_self _)
    rw [Bool.eq_iff_iff, decide_eq_true_iff]
    show Maps.has ((vD l k).put (kv (getV l k)) (.lit (.bool true))) (kv x) = true ↔ x ∈ putV (allV [] l k) (getV l k)
    rw [putV_mem]
    by_cases e : x = getV l k
    · subst e
      rw [has_put_same (vD_isMap l k) (kv_lit _)]
      simp
    · rw [has_put_other (fun h => e (kv_inj hx hk h)), ih (fun j hj => hw j (by omega)), decide_eq_true_iff]
      exact ⟨.inr, fun h => h.resolve_left e⟩
theorem putV_size {l : List Vt} (hl : l.Pairwise LtV) (x : Vt) : (putV l x).length = if x ∈ l then l.length else l.length + 1 := by
  split
  · next h =>
    rw [ltV_uniq (putV_sorted hl) hl (fun y => by rw [putV_mem]; exact ⟨fun h' => h'.elim (fun e => e ▸ h) id, .inr⟩)]
  · next h =>
    unfold putV
    rw [if_neg (fun e => h (List.mem_iff_getElem?.2 ⟨_, e⟩))]
    have := putKV_le l x
    simp; omega
theorem vD_size {l : List Vt} : ∀ k, (∀ j, j < k → wfV (getV l j)) → Maps.size (vD l k) = (allV [] l k).length := by
  intro k
  induction k with
  | zero => intro _; rfl
  | succ k ih =>
    intro hw
    show Maps.size ((vD l k).put (kv (getV l k)) (.lit (.bool true))) = (putV (allV [] l k) (getV l k)).length
    rw [size_put (vD_tidy l k), putV_size (allV_sorted List.Pairwise.nil k), vD_has (hw k (Nat.lt_succ_self _)) k (fun j hj => hw j (by omega)), ih (fun j hj => hw j (by omega))]
    by_cases h : getV l k ∈ allV [] l k <;> simp [h]
theorem vD_at {l : List Vt} {x : Vt} (hx : wfV x) : ∀ k, (∀ j, j < k → wfV (getV l j)) → (vD l k).atKey (kv x) (.lit (.bool false)) = .lit (.bool (decide (x ∈ allV [] l k))) := by
  intro k
  induction k with
  | zero => intro _; rw [decide_eq_false (by show x ∉ ([] : List Vt); simp)]; rfl
  | succ k ih =>
    intro hw
    have hk := hw k (Nat.lt_succ_self _)
    by_cases e : x = getV l k
    · subst e
      rw [decide_eq_true (show getV l k ∈ allV [] l (k + 1) from putV_mem.2 (.inl rfl))]
      exact atKey_put_same (vD_isMap l k) (kv_lit _) _ _
    · show ((vD l k).put (kv (getV l k)) (.lit (.bool true))).atKey (kv x) (.lit (.bool false)) = _
      rw [atKey_put_other (fun h => e (kv_inj hx hk h)), ih (fun j hj => hw j (by omega))]
      by_cases hm : x ∈ allV [] l k
      · rw [decide_eq_true hm, decide_eq_true (show x ∈ allV [] l (k + 1) from putV_mem.2 (.inr hm))]
      · rw [decide_eq_false hm, decide_eq_false (show x ∉ allV [] l (k + 1) from fun h => (putV_mem.1 h).elim e hm)]

/-- How a mark reads as an element of a map. -/
def boE (v : Value) : Option (DataW Unit × List MemPlace) :=
  match v with
  | .bool b => some (.lit (.bool b), [])
  | _ => none
theorem boE_mk (b : Bool) : boE (.bool b) = some (.lit (.bool b), []) := rfl
theorem boE_inv {u : Value} {z : DataW Unit × List MemPlace} (h : boE u = some z) : ∃ b, u = .bool b ∧ z = (.lit (.bool b), []) := by
  unfold boE at h
  split at h
  · next b => injection h with h; exact ⟨b, rfl, h.symm⟩
  · cases h
/-- 'm[k]' at a map of marks. -/
theorem wpList_lookup_mark {P : Program} (w : World) {ops : Array Oper} {rest : List Oper} {o : Oper} {a : Act} {Q : Exit → Act → World → Prop}
    (hg : o.guard = none) (m x : Operand) (t : TypeId) (hop : o.op = Op.lookup t m x false)
    (k e : TypeId) (K : Keyed P k) (ht : P.underlying t = some (.map k e)) (hz : (zeroValue e).run P w = .ok (.bool false) w) (b n : Nat) (D : DataW Unit)
    (hm : a.eval m = .map (some b)) (hown : w.ownsMap P k boE b n D) (key : Value) (kl : Lit) (hx : a.eval x = key) (hkey : keyOf P k key = some kl)
    (r : Bool) (hr : D.atKey kl (.lit (.bool false)) = .lit (.bool r)) (hK : wpList P ops Q rest (a.put o.dst (.bool r)) w) :
    wpList P ops Q (o :: rest) a w := by
  refine wpList_plain hg fun K' hK' => ?_
  obtain ⟨u, ps, hrun, hv⟩ := hown.lookup K ht hz (boE_mk false) hkey
  obtain ⟨v, rfl, hc⟩ := boE_inv hv
  simp only [Prod.mk.injEq] at hc
  rw [hr] at hc
  obtain ⟨hc, _⟩ := hc
  injection hc with hc
  injection hc with hc
  subst hc
  unfold Oper.wp
  simp [execOp, hop, hm, hx, hrun, Result.andThen]
  exact hK' _ _ hK

/-- What has been collected of the keys: each once, and just those that are no longer to come. -/
def CollV (D : DataW Unit) (left : Lit → Bool) (ss : List Vt) : Prop := ss.Nodup ∧ (∀ x ∈ ss, wfV x) ∧ (∀ x, wfV x → (x ∈ ss ↔ (Maps.has D (kv x) = true ∧ left (kv x) = false))) ∧ ∀ x, left (kv x) = true → Maps.has D (kv x) = true
theorem collV_start (D : DataW Unit) : CollV D (Maps.has D) [] := ⟨List.nodup_nil, (fun x h => by cases h), (fun x _ => by cases Maps.has D (kv x) <;> simp), fun _ h => h⟩
theorem collV_step {D : DataW Unit} {left : Lit → Bool} {ss : List Vt} (h : CollV D left ss) {x : Vt} (hwx : wfV x) (hx : left (kv x) = true) : CollV D (fun z => left z && !z.sameKey (kv x)) (ss ++ [x]) := by
  obtain ⟨h1, hw, h2, h3⟩ := h
  have hn : x ∉ ss := fun hm => by have := ((h2 x hwx).1 hm).2; rw [hx] at this; cases this
  refine ⟨?_, fun y hy => ?_, fun y hwy => ?_, fun y hy => ?_⟩
  · rw [List.nodup_append]
    exact ⟨h1, by simp, fun a ha b hb => by simp at hb; subst hb; intro e; subst e; exact hn ha⟩
  · rcases List.mem_append.1 hy with hy | hy
    · exact hw y hy
    · rw [List.mem_singleton.1 hy]; exact hwx
  · rw [List.mem_append, List.mem_singleton, h2 y hwy]
    show _ ↔ (_ ∧ (left (kv y) && !(kv y).sameKey (kv x)) = false)
    rw [same_kv hwy hwx]
    by_cases e : y = x
    · subst e; simp [h3 y hx]
    · simp [e]
  · have hy' : (left (kv y) && !(kv y).sameKey (kv x)) = true := hy
    rw [Bool.and_eq_true] at hy'
    exact h3 y hy'.1
theorem collV_end {D : DataW Unit} {left : Lit → Bool} {ss : List Vt} (h : CollV D left ss) (h0 : ∀ kl, left kl = false) : ss.Nodup ∧ (∀ x ∈ ss, wfV x) ∧ ∀ x, wfV x → (x ∈ ss ↔ Maps.has D (kv x) = true) :=
  ⟨h.1, h.2.1, fun x hx => by rw [h.2.2.1 x hx, h0]; simp⟩

theorem ltOf_cmp (x y : Vt) : ltOf cmpV x y = lessV x y := by rw [cmp_less]; rfl
theorem swoV : SWO (ltOf cmpV) where
  irrefl x := by rw [ltOf_cmp]; exact less_irr x
  trans x y z h1 h2 := by rw [ltOf_cmp] at *; exact less_trans h1 h2
  ntrans x y z h1 h2 := by
    rw [ltOf_cmp] at *
    cases h : lessV x z
    · rfl
    · have a : ¬ lessV x y = true := by rw [h1]; decide
      have b : ¬ lessV y z = true := by rw [h2]; decide
      rw [less_iff] at a b h; omega
theorem totV (x y : Vt) (h1 : ltOf cmpV x y = false) (h2 : ltOf cmpV y x = false) : x = y := by
  rw [ltOf_cmp] at h1 h2; exact less_tot h1 h2
def sortV (ss : List Vt) : List Vt := ss.mergeSort fun x y => !(ltOf cmpV) y x
theorem sortV_len (ss : List Vt) : (sortV ss).length = ss.length := (List.mergeSort_perm _ _).length_eq
theorem sortV_mem {ss : List Vt} {x : Vt} : x ∈ sortV ss ↔ x ∈ ss := (List.mergeSort_perm _ _).mem_iff
theorem sortV_lt {ss : List Vt} (h : ss.Nodup) : (sortV ss).Pairwise LtV := by
  have h1 := List.pairwise_mergeSort (le := fun x y : Vt => !(ltOf cmpV) y x) (fun a b c hab hbc => by
      simp only [ltOf_cmp, Bool.not_eq_true'] at *
      cases hc : lessV c a
      · rfl
      · have a1 : ¬ lessV b a = true := by rw [hab]; decide
        have b1 : ¬ lessV c b = true := by rw [hbc]; decide
        rw [less_iff] at a1 b1 hc; omega) (fun a b => by
      simp only [ltOf_cmp, Bool.or_eq_true, Bool.not_eq_true']
      cases hc : lessV b a
      · exact .inl rfl
      · exact .inr (less_asym hc)) ss
  have h2 : (sortV ss).Nodup := (List.mergeSort_perm _ _).nodup_iff.2 h
  refine (h1.and h2).imp (fun {a b} hab => ?_)
  obtain ⟨a1, a2⟩ := hab
  rw [Bool.not_eq_true', ltOf_cmp] at a1
  unfold LtV
  cases hc : lessV a b
  · exact absurd (less_tot hc a1) a2
  · rfl
theorem sortV_set {ss l : List Vt} (h : ss.Nodup) (hm : ∀ x, x ∈ ss ↔ x ∈ l) : sortV ss = setV l :=
  ltV_uniq (sortV_lt h) (setV_sorted l) fun x => by rw [sortV_mem, setV_mem, hm]
end Go.Proofs.Ytlobjfipefibaaa
