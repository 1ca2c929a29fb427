/- What is proved here: what a map from votes to marks reads as: its keys, its size; a list of votes sorted. No conditions but that the votes' numbers are of 64 bits. -/
import Derived.Test.YtlobjfipefibaaaPutVFacts
import Derived.Maps.OwnOps
import Derived.Maps.OwnSet
import Derived.Maps.RangeWalk
import Derived.Test.YtlobjfipefibaaaVoteApp
import Derived.DeepKeys4
import Derived.Shelf.SlSortCmp.InsertionK
import Derived.Test.YtlobjfipefibaaaVotePool
import Derived.Sort.OwnSortedInts
import Derived.Deep.Onto
import Derived.Test.YtlobjfipefibaaaPoolBox
import Derived.Test.YtlobjfipefibaaaShelf
namespace Go.Proofs.Ytlobjfipefibaaa
open Go.RowKit Go.Maps Go.Sort Go.Shelf Go.Lib

def wfV (v : Vt) : Prop := (Lit.int .i64 v.1).wf = true ∧ (Lit.int .i64 v.2.1).wf = true ∧ (Lit.int .i64 v.2.2).wf = true
def kv (v : Vt) : Lit := .string (keyBytes [.int .i64 v.1, .int .i64 v.2.1, .int .i64 v.2.2])
theorem wfV_of_ok {ts : List Blk} {ns : Nat} {v : Vt} (h : voteOk ts ns v = true) (hn : ns ≤ 1048576) (hl : ts.length ≤ 1048576) : wfV v := by
  obtain ⟨⟨i, e1, h1⟩, ⟨b, e2, h2, _⟩, h3, h4⟩ := voteOk_iff.1 h
  refine ⟨?_, ?_, ?_⟩
  · exact WalkArith.wf_i64 (by omega)
  · exact WalkArith.wf_i64 (by omega)
  · exact WalkArith.wf_i64 (by omega)
theorem laidV : laidOutB Try.prog = true := by kernel_rfl
theorem vtKeyT : Try.prog.keyType 53 = true := by kernel_rfl
theorem vtWide : (match Try.prog.underlying 53 with | some (.array _ _) | some (.struct _) => true | _ => false) = true := by kernel_rfl
set_option maxRecDepth 100000 in
theorem lawVt : Keyed Try.prog 53 := Keyed.of_law (deep_law_laid laidV (m := 2) (by omega) (of_decide_eq_true (by kernel_rfl)) (by kernel_rfl) vtWide)
theorem vtCells : Try.prog.cellsOf 53 = 3 := by kernel_rfl
theorem intCells : Try.prog.cellsOf 3 = 1 := by kernel_rfl
theorem keyLits_int (d : Nat) (x : Int) (hw : (Lit.int .i64 x).wf = true) : Try.prog.keyLits (d + 1) 3 [.int .i64 x] = some [.int .i64 x] := by
  simp [Program.keyLits, Try.underlying3, hw]
set_option maxRecDepth 100000 in
theorem keyLits_int_inv {d : Nat} {u : Value} {L : List Lit} (h : Try.prog.keyLits (d + 1) 3 [u] = some L) : ∃ x, u = .int .i64 x ∧ (Lit.int .i64 x).wf = true ∧ L = [.int .i64 x] := by
  unfold Program.keyLits at h
  rw [Try.underlying3] at h
  cases u <;> simp at h
  obtain ⟨⟨rfl, hw⟩, rfl⟩ := h
  exact ⟨_, rfl, hw, rfl⟩
set_option maxRecDepth 100000 in
theorem typesPos : ∃ d, Try.prog.types.size = d + 1 := ⟨Try.prog.types.size - 1, by have : 0 < Try.prog.types.size := of_decide_eq_true (by kernel_rfl); omega⟩
theorem keyVote {v : Vt} (h : wfV v) : keyOf Try.prog 53 (vtV v) = some (kv v) := by
  obtain ⟨d, hd⟩ := typesPos
  have hf : (vtV v).formed Try.prog 53 = true := by unfold vtV; simp [Value.formed, Try.underlying53, vtCells]
  unfold keyOf
  rw [Try.underlying53]
  simp only
  rw [vtKeyT, hf, hd]
  have hk : Try.prog.keyLits (d + 1 + 1) 53 (vtV v).cells.toList = some [.int .i64 v.1, .int .i64 v.2.1, .int .i64 v.2.2] := by
    unfold Program.keyLits
    rw [Try.underlying53]
    simp [vtV, Value.cells, vtCells, intCells, keyLits_int d _ h.1, keyLits_int d _ h.2.1, keyLits_int d _ h.2.2]
  rw [hk]
  rfl
set_option maxRecDepth 100000 in
theorem keyVote_inv {u : Value} {kl : Lit} (h : keyOf Try.prog 53 u = some kl) : ∃ v : Vt, u = vtV v ∧ kl = kv v ∧ wfV v := by
  obtain ⟨xs, L, rfl, h1, rfl⟩ := keyOf_top vtWide h
  obtain ⟨d, hd⟩ := typesPos
  rw [hd] at h1
  unfold Program.keyLits at h1
  rw [Try.underlying53] at h1
  simp only [vtCells] at h1
  split at h1
  · rename_i hc
    have hs : xs.toList.length = 3 := by simpa using hc.1
    have : ∃ a b c, xs.toList = [a, b, c] := by
      match hl : xs.toList, hs with
      | [a, b, c], _ => exact ⟨a, b, c, rfl⟩
    obtain ⟨a, b, c, e⟩ := this
    rw [e] at h1
    rcases e1 : Try.prog.keyLits (d + 1) 3 [a] with _ | L1
    · simp [intCells, List.mapM_cons, e1] at h1
    rcases e2 : Try.prog.keyLits (d + 1) 3 [b] with _ | L2
    · simp [intCells, List.mapM_cons, e1, e2] at h1
    rcases e3 : Try.prog.keyLits (d + 1) 3 [c] with _ | L3
    · simp [intCells, List.mapM_cons, e1, e2, e3] at h1
    simp [intCells, List.mapM_cons, e1, e2, e3] at h1
    obtain ⟨x, rfl, wx, rfl⟩ := keyLits_int_inv e1
    obtain ⟨y, rfl, wy, rfl⟩ := keyLits_int_inv e2
    obtain ⟨z, rfl, wz, rfl⟩ := keyLits_int_inv e3
    simp at h1
    subst h1
    refine ⟨(x, y, z), ?_, rfl, wx, wy, wz⟩
    unfold vtV
    congr 1
    exact Array.ext' e
  · cases h1
theorem vtV_inj {u v : Vt} (h : vtV u = vtV v) : u = v := by
  obtain ⟨a, b, c⟩ := u
  obtain ⟨a', b', c'⟩ := v
  unfold vtV at h
  simp at h
  obtain ⟨rfl, rfl, rfl⟩ := h
  rfl
theorem kv_inj {u v : Vt} (hu : wfV u) (hv : wfV v) (h : kv u = kv v) : u = v :=
  vtV_inj (lawVt.inj (keyVote hu) (by rw [h]; exact keyVote hv))
theorem kv_lit (v : Vt) : WideAt.IsKeyLit (kv v) := trivial
theorem same_kv {x y : Vt} (hx : wfV x) (hy : wfV y) : (kv x).sameKey (kv y) = decide (x = y) := by
  by_cases h : x = y
  · subst h; rw [WideAt.sameKey_self (kv_lit x)]; simp
  · rw [sameKey_ne (fun e => h (kv_inj hx hy e)), decide_eq_false h]

/-- The set of the first k votes of a list. -/
def vD (l : List Vt) : Nat → DataW Unit
  | 0 => .map []
  | k + 1 => (vD l k).put (kv (getV l k)) (.lit (.bool true))
theorem vD_tidy (l : List Vt) (k : Nat) : Tidy (vD l k) := by
  induction k with
  | zero => exact tidy_empty
  | succ k ih => exact ih.put (kv_lit _) _
theorem vD_isMap (l : List Vt) (k : Nat) : IsMap (vD l k) := (vD_tidy l k).isMap
theorem vD_has {l : List Vt} {x : Vt} (hx : wfV x) : ∀ k, (∀ j, j < k → wfV (getV l j)) → Maps.has (vD l k) (kv x) = decide (x ∈ allV [] l k) := by
  intro k
  induction k with
  | zero => intro _; rw [decide_eq_false (by show x ∉ ([] : List Vt); simp)]; rfl
  | succ k ih =>
    intro hw
    have hk := hw k (Nat.lt_succ_self _)
    rw [Bool.eq_iff_iff, decide_eq_true_iff]
    show Maps.has ((vD l k).put (kv (getV l k)) (.lit (.bool true))) (kv x) = true ↔ x ∈ putV (allV [] l k) (getV l k)
    rw [putV_mem]
    by_cases e : x = getV l k
    · subst e
      rw [has_put_same (vD_isMap l k) (kv_lit _)]
      simp
    · rw [has_put_other (fun h => e (kv_inj hx hk h)), ih (fun j hj => hw j (by omega)), decide_eq_true_iff]
      exact ⟨.inr, fun h => h.resolve_left e⟩
theorem putV_size {l : List Vt} (hl : l.Pairwise LtV) (x : Vt) : (putV l x).length = if x ∈ l then l.length else l.length + 1 := by
  split
  · next h =>
    rw [ltV_uniq (putV_sorted hl) hl (fun y => by rw [putV_mem]; exact ⟨fun h' => h'.elim (fun e => e ▸ h) id, .inr⟩)]
  · next h =>
    unfold putV
    rw [if_neg (fun e => h (List.mem_iff_getElem?.2 ⟨_, e⟩))]
    have := putKV_le l x
    simp; omega
theorem vD_size {l : List Vt} : ∀ k, (∀ j, j < k → wfV (getV l j)) → Maps.size (vD l k) = (allV [] l k).length := by
  intro k
  induction k with
  | zero => intro _; rfl
  | succ k ih =>
    intro hw
    show Maps.size ((vD l k).put (kv (getV l k)) (.lit (.bool true))) = (putV (allV [] l k) (getV l k)).length
    rw [size_put (vD_tidy l k), putV_size (allV_sorted List.Pairwise.nil k), vD_has (hw k (Nat.lt_succ_self _)) k (fun j hj => hw j (by omega)), ih (fun j hj => hw j (by omega))]
    by_cases h : getV l k ∈ allV [] l k <;> simp [h]
theorem vD_at {l : List Vt} {x : Vt} (hx : wfV x) : ∀ k, (∀ j, j < k → wfV (getV l j)) → (vD l k).atKey (kv x) (.lit (.bool false)) = .lit (.bool (decide (x ∈ allV [] l k))) := by
  intro k
  induction k with
  | zero => intro _; rw [decide_eq_false (by show x ∉ ([] : List Vt); simp)]; rfl
  | succ k ih =>
    intro hw
    have hk := hw k (Nat.lt_succ_self _)
    by_cases e : x = getV l k
    · subst e
      rw [decide_eq_true (show getV l k ∈ allV [] l (k + 1) from putV_mem.2 (.inl rfl))]
      exact atKey_put_same (vD_isMap l k) (kv_lit _) _ _
    · show ((vD l k).put (kv (getV l k)) (.lit (.bool true))).atKey (kv x) (.lit (.bool false)) = _
      rw [atKey_put_other (fun h => e (kv_inj hx hk h)), ih (fun j hj => hw j (by omega))]
      by_cases hm : x ∈ allV [] l k
      · rw [decide_eq_true hm, decide_eq_true (show x ∈ allV [] l (k + 1) from putV_mem.2 (.inr hm))]
      · rw [decide_eq_false hm, decide_eq_false (show x ∉ allV [] l (k + 1) from fun h => (putV_mem.1 h).elim e hm)]

/-- How a mark reads as an element of a map. -/
def boE (v : Value) : Option (DataW Unit × List MemPlace) :=
  match v with
  | .bool b => some (.lit (.bool b), [])
  | _ => none
theorem boE_mk (b : Bool) : boE (.bool b) = some (.lit (.bool b), []) := rfl
theorem boE_inv {u : Value} {z : DataW Unit × List MemPlace} (h : boE u = some z) : ∃ b, u = .bool b ∧ z = (.lit (.bool b), []) := by
  unfold boE at h
  split at h
  · next b => injection h with h; exact ⟨b, rfl, h.symm⟩
  · cases h
/-- 'm[k]' at a map of marks. -/
theorem wpList_lookup_mark {P : Program} (w : World) {ops : Array Oper} {rest : List Oper} {o : Oper} {a : Act} {Q : Exit → Act → World → Prop}
    (hg : o.guard = none) (m x : Operand) (t : TypeId) (hop : o.op = Op.lookup t m x false)
    (k e : TypeId) (K : Keyed P k) (ht : P.underlying t = some (.map k e)) (hz : (zeroValue e).run P w = .ok (.bool false) w) (b n : Nat) (D : DataW Unit)
    (hm : a.eval m = .map (some b)) (hown : w.ownsMap P k boE b n D) (key : Value) (kl : Lit) (hx : a.eval x = key) (hkey : keyOf P k key = some kl)
    (r : Bool) (hr : D.atKey kl (.lit (.bool false)) = .lit (.bool r)) (hK : wpList P ops Q rest (a.put o.dst (.bool r)) w) :
    wpList P ops Q (o :: rest) a w := by
  refine wpList_plain hg fun K' hK' => ?_
  obtain ⟨u, ps, hrun, hv⟩ := hown.lookup K ht hz (boE_mk false) hkey
  obtain ⟨v, rfl, hc⟩ := boE_inv hv
  simp only [Prod.mk.injEq] at hc
  rw [hr] at hc
  obtain ⟨hc, _⟩ := hc
  injection hc with hc
  injection hc with hc
  subst hc
  unfold Oper.wp
  simp [execOp, hop, hm, hx, hrun, Result.andThen]
  exact hK' _ _ hK

/-- What has been collected of the keys: each once, and just those that are no longer to come. -/
def CollV (D : DataW Unit) (left : Lit → Bool) (ss : List Vt) : Prop := ss.Nodup ∧ (∀ x ∈ ss, wfV x) ∧ (∀ x, wfV x → (x ∈ ss ↔ (Maps.has D (kv x) = true ∧ left (kv x) = false))) ∧ ∀ x, left (kv x) = true → Maps.has D (kv x) = true
theorem collV_start (D : DataW Unit) : CollV D (Maps.has D) [] := ⟨List.nodup_nil, (fun x h => by cases h), (fun x _ => by cases Maps.has D (kv x) <;> simp), fun _ h => h⟩
theorem collV_step {D : DataW Unit} {left : Lit → Bool} {ss : List Vt} (h : CollV D left ss) {x : Vt} (hwx : wfV x) (hx : left (kv x) = true) : CollV D (fun z => left z && !z.sameKey (kv x)) (ss ++ [x]) := by
  obtain ⟨h1, hw, h2, h3⟩ := h
  have hn : x ∉ ss := fun hm => by have := ((h2 x hwx).1 hm).2; rw [hx] at this; cases this
  refine ⟨?_, fun y hy => ?_, fun y hwy => ?_, fun y hy => ?_⟩
  · rw [List.nodup_append]
    exact ⟨h1, by simp, fun a ha b hb => by simp at hb; subst hb; intro e; subst e; exact hn ha⟩
  · rcases List.mem_append.1 hy with hy | hy
    · exact hw y hy
    · rw [List.mem_singleton.1 hy]; exact hwx
  · rw [List.mem_append, List.mem_singleton, h2 y hwy]
    show _ ↔ (_ ∧ (left (kv y) && !(kv y).sameKey (kv x)) = false)
    rw [same_kv hwy hwx]
    by_cases e : y = x
    · subst e; simp [h3 y hx]
    · simp [e]
  · have hy' : (left (kv y) && !(kv y).sameKey (kv x)) = true := hy
    rw [Bool.and_eq_true] at hy'
    exact h3 y hy'.1
theorem collV_end {D : DataW Unit} {left : Lit → Bool} {ss : List Vt} (h : CollV D left ss) (h0 : ∀ kl, left kl = false) : ss.Nodup ∧ (∀ x ∈ ss, wfV x) ∧ ∀ x, wfV x → (x ∈ ss ↔ Maps.has D (kv x) = true) :=
  ⟨h.1, h.2.1, fun x hx => by rw [h.2.2.1 x hx, h0]; simp⟩

theorem ltOf_cmp (x y : Vt) : ltOf cmpV x y = lessV x y := by rw [cmp_less]; rfl
theorem swoV : SWO (ltOf cmpV) where
  irrefl x := by rw [ltOf_cmp]; exact less_irr x
  trans x y z h1 h2 := by rw [ltOf_cmp] at *; exact less_trans h1 h2
  ntrans x y z h1 h2 := by
    rw [ltOf_cmp] at *
    cases h : lessV x z
    · rfl
    · have a : ¬ lessV x y = true := by rw [h1]; decide
      have b : ¬ lessV y z = true := by rw [h2]; decide
      rw [less_iff] at a b h; omega
theorem totV (x y : Vt) (h1 : ltOf cmpV x y = false) (h2 : ltOf cmpV y x = false) : x = y := by
  rw [ltOf_cmp] at h1 h2; exact less_tot h1 h2
def sortV (ss : List Vt) : List Vt := ss.mergeSort fun x y => !(ltOf cmpV) y x
theorem sortV_len (ss : List Vt) : (sortV ss).length = ss.length := (List.mergeSort_perm _ _).length_eq
theorem sortV_mem {ss : List Vt} {x : Vt} : x ∈ sortV ss ↔ x ∈ ss := (List.mergeSort_perm _ _).mem_iff
theorem sortV_lt {ss : List Vt} (h : ss.Nodup) : (sortV ss).Pairwise LtV := by
  have h1 := List.pairwise_mergeSort (le := fun x y : Vt => !(ltOf cmpV) y x) (fun a b c hab hbc => by
      simp only [ltOf_cmp, Bool.not_eq_true'] at *
      cases hc : lessV c a
      · rfl
      · have a1 : ¬ lessV b a = true := by rw [hab]; decide
        have b1 : ¬ lessV c b = true := by rw [hbc]; decide
        rw [less_iff] at a1 b1 hc; omega) (fun a b => by
      simp only [ltOf_cmp, Bool.or_eq_true, Bool.not_eq_true']
      cases hc : lessV b a
      · exact .inl rfl
      · exact .inr (less_asym hc)) ss
  have h2 : (sortV ss).Nodup := (List.mergeSort_perm _ _).nodup_iff.2 h
  refine (h1.and h2).imp (fun {a b} hab => ?_)
  obtain ⟨a1, a2⟩ := hab
  rw [Bool.not_eq_true', ltOf_cmp] at a1
  unfold LtV
  cases hc : lessV a b
  · exact absurd (less_tot hc a1) a2
  · rfl
theorem sortV_set {ss l : List Vt} (h : ss.Nodup) (hm : ∀ x, x ∈ ss ↔ x ∈ l) : sortV ss = setV l :=
  ltV_uniq (sortV_lt h) (setV_sorted l) fun x => by rw [sortV_mem, setV_mem, hm]
end Go.Proofs.Ytlobjfipefibaaa

/- What is proved here: a list of votes that a call owns, sorted by Go's library. No conditions but lengths. -/
namespace Go.Proofs.Ytlobjfipefibaaa
open Go.RowKit Go.Sort Go.Shelf Go.Lib

theorem holds_of_blockF {w : World} {g : Nat} {cur : Array Value} {e : TypeId} (F : Array Value) (hb : w.heap[g]? = some (.cells cur e (0, 0))) (ht : cur.toList.take F.size = F.toList) : Holds id w g 0 F := by
  intro j hj
  refine ⟨?_, by simp [World.frozen?, hb]⟩
  have h1 : (cur.toList.take F.size)[j]? = F.toList[j]? := by rw [ht]
  rw [List.getElem?_take_of_lt hj] at h1
  simp only [World.cell?, hb, Nat.zero_add]
  simp only [Option.isSome_none, Bool.false_eq_true, if_false]
  rw [← Array.getElem?_toList, h1]
  simp [hj]
theorem heap_sortedF {w : World} {g n : Nat} {os : Array Obj} {cur : Array Value} {e : TypeId} {fr : Nat × Nat} (F : Array Value) (hb : w.heap[g]? = some (.cells cur e fr)) :
    (grow (putRow id (Sort.ahead w n) g 0 F) os).heap[g]? = some (.cells (putCells id 0 F cur) e fr) := by
  have hg : g < w.heap.size := (Array.getElem?_eq_some_iff.1 hb).1
  rw [heap_grow_old _ _ (by simpa using hg)]
  simp [putRow, mapBlock, Sort.ahead, Array.getElem?_modify, hb, onCells]
theorem grownBy_sortedF {w : World} {g n : Nat} {os : Array Obj} (F : Array Value) : w.grownBy (grow (putRow id (Sort.ahead w n) g 0 F) os) (some g) := by
  refine ⟨rfl, rfl, rfl, by simp, fun k hk hne => ?_⟩
  rw [heap_grow_old _ _ (by simpa using hk)]
  have : g ≠ k := fun e => hne (by rw [e])
  simp [putRow, mapBlock, Sort.ahead, Array.getElem?_modify, this]
theorem take_putCellsF (cur : Array Value) (F : Array Value) (h : F.size ≤ cur.size) : (putCells id 0 F cur).toList.take F.size = F.toList := by
  apply List.ext_getElem?
  intro j
  by_cases hj : j < F.size
  · rw [List.getElem?_take_of_lt hj, Array.getElem?_toList]
    simp [putCells, hj, show j < cur.size by omega]
  · rw [List.getElem?_take_eq_none (by omega), List.getElem?_eq_none (by simp; omega)]
theorem ownsRow_sortedF {w : World} {base g cap n m k : Nat} {e : TypeId} {os : Array Obj} {cur : Array Value} (F : Array Value) (hbase : base ≤ g) (hb : w.heap[g]? = some (.cells cur e (0, 0)))
    (h1 : m ≤ cap) (h2 : cap ≤ maxLen) (h3 : cur.size = cap * k) (hF : F.size = m * k) :
    (grow (putRow id (Sort.ahead w n) g 0 F) os).ownsRow base e k (.slice (some ⟨g, 0, none⟩) m cap) m F.toList :=
  ⟨by simp [hF], .inr ⟨g, cap, _, rfl, hbase, heap_sortedF _ hb, h1, h2, by simp [putCells, h3], by rw [← hF]; exact take_putCellsF cur F (by rw [hF, h3]; exact Nat.mul_le_mul_right k h1)⟩⟩

def encV (v : Vt) : List Value := [.int .i64 v.1, .int .i64 v.2.1, .int .i64 v.2.2]
theorem flatK_V (ss : List Vt) : (flatK encV 3 ss.toArray).toList = flatV ss := by
  apply List.ext_getElem?
  intro t
  by_cases ht : t < ss.length * 3
  · rw [flatV_get ss t ht, Array.getElem?_toList]
    have hs : t < (flatK encV 3 ss.toArray).size := by simpa using ht
    rw [Array.getElem?_eq_getElem hs, ← getElem!_pos _ t hs, get_flatK _ _ _ t (by simpa using ht)]
    have hq : t / 3 < ss.length := by omega
    have e : ss.toArray[t / 3]! = getV ss (t / 3) := by rw [getV_at hq]; simp [hq]
    rw [e]
    unfold cellsV encV
    have h3 : t % 3 = 0 ∨ t % 3 = 1 ∨ t % 3 = 2 := by omega
    rcases h3 with h | h | h <;> rw [h] <;> simp
  · rw [List.getElem?_eq_none (by simp; omega), List.getElem?_eq_none (by rw [flatV_len]; omega)]

set_option maxRecDepth 100000 in
set_option maxHeartbeats 800000 in
theorem compareV_g (a1 a2 a3 b1 b2 b3 : Int) (w : World) : Calls Try.prog 110 #[.agg #[.int .i64 a1, .int .i64 a2, .int .i64 a3], .agg #[.int .i64 b1, .int .i64 b2, .int .i64 b3]] w fun e w' => e = .returned (.int .i64 (cmpV (a1, a2, a3) (b1, b2, b3))) ∧ ∃ q os', w' = grow (w.drewN q) os' := by
  have hr := Lib.hid (cmpV_or (a1, a2, a3) (b1, b2, b3))
  obtain ⟨W, hW, c1, c2, c3, d1, d2, d3, hb, hs⟩ := two_boxes w a1 a2 a3 b1 b2 b3 53
  have hW' := Lib.hid hW
  clear hb hW
  go_enter Try.func110, Try.ntmps110
  go_wp2_with fail
  rw [hW'.out]
  generalize w.heap.size + 1 = g2 at d1 d2 d3 hs ⊢
  generalize w.heap.size = g1 at c1 c2 c3 hs ⊢
  go_still_tail 15, (by kernel_rfl)
  still_call (compareI_any _ _ _)
  repeat still_step
  still_call (compareI_any _ _ _)
  repeat still_step
  still_call (compareI_any _ _ _)
  repeat still_step
  try refine wpStill_nil ?_
  change wpList _ _ _ _ _ W.drew
  obtain ⟨V, hV⟩ : ∃ V, W.drew = V := ⟨_, rfl⟩
  have hV' := Lib.hid hV
  rw [hV]
  obtain ⟨r0, r1, r2⟩ := row_three V (cmpI a1 b1) (cmpI a2 b2) (cmpI a3 b3)
  clear hV
  go_wp2_with fail
  refine (or3_any V.heap.size _ _ _ _ r0 r1 r2).mono ?_
  rintro e w' ⟨rfl, rfl⟩
  go_wp2_with fail
  go_ret
  refine ⟨ret_int hr.out.symm, 1, #[.cells #[.int .i64 a1, .int .i64 a2, .int .i64 a3] 53, .cells #[.int .i64 b1, .int .i64 b2, .int .i64 b3] 53, .cells #[.int .i64 (cmpI a1 b1), .int .i64 (cmpI a2 b2), .int .i64 (cmpI a3 b3)] 3], ?_⟩
  rw [← hV'.out, ← hW'.out, alloc_eq_grow, alloc_eq_grow, alloc_eq_grow, grow_grow]
  show grow (grow w.drew _) _ = _
  rw [grow_grow]
  rfl
theorem cmpLays_V (blk off size : Nat) (w : World) : CmpLays Try.prog 110 #[] encV 3 cmpV blk off size w :=
  fun _ _ _ _ x y => by
    obtain ⟨a1, a2, a3⟩ := x
    obtain ⟨b1, b2, b3⟩ := y
    exact compareV_g a1 a2 a3 b1 b2 b3 _
end Go.Proofs.Ytlobjfipefibaaa

/- What is proved here: what the program's setOfVotes, votesInOrder and codeOfPut return. No conditions but lengths. -/
namespace Go.Proofs.Ytlobjfipefibaaa
open Go.RowKit Go.Maps Go.Sort Go.Shelf Go.Lib

set_option maxRecDepth 100000 in
set_option maxHeartbeats 1600000 in
theorem setOf_any (V : Option Addr) (m d : Nat) (vs : List Vt) (w : World) (hv : VotesAt w w.heap.size V m vs) (hm : m ≤ 1048576) (hw : ∀ j, j < m → wfV (getV vs j)) :
    Calls Try.prog 73 #[.slice V m d] w fun e w' => ∃ b, e = .returned (.map (some b)) ∧ w'.ownsMap Try.prog 53 boE b m (vD vs m) ∧ w.heap.size ≤ b ∧ Below w.heap.size w w' := by
  have hlv := Lib.hid hv.1
  have hvv := Lib.hid hv; clear hv
  have hw' := Lib.hid hw; clear hw
  have hmm := @run_makeMap Try.prog
  have hm0 := Lib.hid (World.ownsMap_made w Try.prog 53 boE)
  have u0 := Lib.hid (bx_below w (.map #[] 0))
  have hs0 : w.heap.size + 1 ≤ (w.alloc (.map #[] 0)).heap.size := by simp
  go_enter Try.func73, Try.ntmps73
  go_wp2_with fail
  clear hmm
  go_loopw [5, 9] (fun _ i wr => ∃ k : Nat, k ≤ m ∧ i = .int .i64 k ∧ Hid (wr.ownsMap Try.prog 53 boE w.heap.size k (vD vs k)) ∧ Hid (Below w.heap.size w wr) ∧ w.heap.size + 1 ≤ wr.heap.size) (fun _ i _ => m - (intOf i).toNat)
  case atStart => exact ⟨0, Nat.zero_le _, rfl, hm0, u0, hs0⟩
  case round =>
    obtain ⟨k, hk, rfl, hown, hbel, hsz⟩ := hrel
    by_cases hlt : k < m
    · obtain ⟨vb, vo, rfl, hvb, q0, q1, q2⟩ := hvv.out.2 k hlt
      have q0' := (hbel.out.cell (p := ⟨vb, vo + k * 3, none⟩) hvb).trans q0
      have q1' := (hbel.out.cell (p := ⟨vb, vo + k * 3 + 1, none⟩) hvb).trans q1
      have q2' := (hbel.out.cell (p := ⟨vb, vo + k * 3 + 2, none⟩) hvb).trans q2
      have hkey := Lib.hid (keyVote (hw'.out k hlt))
      obtain ⟨b, hb⟩ : ∃ b, getV vs k = b := ⟨_, rfl⟩
      have hst := Lib.hid (show vD vs (k + 1) = (vD vs k).put (kv b) (.lit (.bool true)) by simp only [vD]; rw [hb])
      rw [hb] at q0' q1' q2' hkey
      obtain ⟨b1, b2, b3⟩ := b
      simp only at q0' q1' q2'
      clear q0 q1 q2 hb
      go_wp2_with (at_mapUpdate; refine wpList_mapUpdate_own _ rfl _ _ _ 97 rfl 53 4 lawVt Try.underlying97 boE w.heap.size k (vD vs k) rfl (hown.out.alloc _) (by unfold maxLen; omega) _ _ _ rfl rfl hkey.out _ [] (boE_mk true) ?_; intro w1 hown1 hgrow1; have z1 := Lib.hid hown1; have z2 := Lib.hid hgrow1; clear hown1 hgrow1)
      have u1 := Lib.hid (show Below w.heap.size w w1 from by
        exact (hbel.out.alloc (Nat.le_trans (Nat.le_succ _) hsz) _).grown z2.out (by simp; omega) (fun j e => by cases e; exact Nat.le_refl _))
      have hs1 : w.heap.size + 1 ≤ w1.heap.size := by have := z2.out.size; simp at this; omega
      go_roundw
      case rel => exact ⟨k + 1, by omega, by go_num, Lib.hid (by rw [hst.out]; exact z1.out), u1, hs1⟩
      case measure => simp [intOf]; omega
    · have hkm : k = m := by omega
      have hown' := Lib.hid (show wr.ownsMap Try.prog 53 boE w.heap.size m (vD vs m) by rw [hkm] at hown; exact hown.out)
      clear hkm hown
      go_wp2_with fail
      go_ret
      exact ⟨w.heap.size, rfl, hown'.out, Nat.le_refl _, hbel.out⟩

theorem vtSort (g cap : Nat) (ss : List Vt) (w : World) (hH : Holds id w g 0 (flatK encV 3 ss.toArray)) (hg : g < w.heap.size) (hs : ss.length < 4611686018427387904) :
    Calls Try.prog 109 #[.slice (some ⟨g, 0, none⟩) ss.length cap, .func (.func 110) #[] #[]] w fun e w' => e = .returned (.tuple #[]) ∧ ∃ n os, w' = grow (putRow id (Sort.ahead w n) g 0 (flatK encV 3 (sortV ss).toArray)) os := by
  have eg : ∀ args w, (callFunc 110 args).run Try.prog w = .ok (.enter 110 args) w := enters_of Try.func110 (by kernel_rfl) rfl
  have h := AnyQ.slices_SortFunc_total Try.vtSortL 3 Try.isAgg53 Try.sizeOf53 encV (fun _ => rfl) (fun x v hv => by simp [encV] at hv; rcases hv with rfl | rfl | rfl <;> rfl) cmpV swoV 110 #[] g 0 cap ss.toArray w eg (cmpLays_V g 0 ss.toArray.size w) hH hg (by simpa using hs) totV
  change Calls Try.prog 109 _ _ _ at h
  simp only [List.size_toArray] at h
  exact h
theorem vtSortNil (p : Option Addr) (cap : Nat) (fv : Value) (w : World) :
    Calls Try.prog 109 #[.slice p 0 cap, fv] w fun e w' => e = .returned (.tuple #[]) ∧ w' = w := by
  have h := AnyF.slices_SortFunc_none Try.vtSortL p cap fv w
  change Calls Try.prog 109 _ _ _ at h
  exact h
def RetVt (w : World) (vs : List Vt) (e : Ending) (w' : World) : Prop :=
  ∃ A n c, e = .returned (.slice A n c) ∧ OwnV w' w.heap.size A n vs ∧ Below w.heap.size w w'

set_option maxRecDepth 100000 in
set_option maxHeartbeats 1600000 in
theorem inOrder_any (b N : Nat) (D : DataW Unit) (w : World) (hown : w.ownsMap Try.prog 53 boE b N D) (hN : N ≤ 1048576) :
    Calls Try.prog 74 #[.map (some b)] w fun e w' => ∃ ss : List Vt, (ss.Nodup ∧ (∀ x ∈ ss, wfV x) ∧ ∀ x, wfV x → (x ∈ ss ↔ Maps.has D (kv x) = true)) ∧ RetVt w (sortV ss) e w' := by
  have ho := Lib.hid hown
  have hbl := hown.lt
  have hsD := hown.size_le
  clear hown
  go_enter Try.func74, Try.ntmps74
  go_wp2_with (at_range; refine wpList_range_own _ rfl _ 97 rfl 53 4 lawVt Try.underlying97 boE b N D rfl ho.out ?_; intro w0 hrg0 hg0 hs0; have z0 := Lib.hid hrg0; have u0 := Lib.hid ((Below.refl w.heap.size w).grown hg0 (Nat.le_refl _) (fun k e => by cases e)); have hw0 : w.heap.size + 1 ≤ w0.heap.size := Nat.le_of_eq hs0.symm; clear hrg0 hg0 hs0)
  try go_simp
  go_wp2_with fail
  go_loopw [3, 4] (fun o _ wr => ∃ (left : Lit → Bool) (cnt : Nat) (ss : List Vt), Hid (wr.ranges Try.prog 53 boE b w.heap.size N D left cnt) ∧ Hid (wr.ownsRow (w.heap.size + 1) 53 3 o ss.length (flatV ss)) ∧ Hid (CollV D left ss) ∧ ss.length + cnt ≤ N ∧ Hid (Below w.heap.size w wr) ∧ w.heap.size + 1 ≤ wr.heap.size) (fun _ _ wr => wr.rangeLeft b w.heap.size)
  case atStart => exact ⟨_, _, [], z0, Lib.hid (World.ownsRow_nil _ _ _ _), Lib.hid (collV_start D), by simpa using hsD, u0, hw0⟩
  case round =>
    obtain ⟨left, cnt, ss, hrg, hss, hC, hle, hbel, hws⟩ := hrel
    have hleft := Lib.hid hrg.out.left_eq
    go_wp2_with (at_next; refine wpList_next_ranges _ rfl _ rfl 53 lawVt boE vtV (fun b : Bool => Value.bool b) (fun key kl hk => by obtain ⟨x, hx, _⟩ := keyVote_inv hk; exact ⟨x, hx⟩) (fun v y hv => by obtain ⟨c, hc, _⟩ := boE_inv hv; exact ⟨c, hc⟩) b w.heap.size N D left cnt rfl hrg.out ?_ ?_)
    · intro h0 hl0
      have hC0 := Lib.hid (collV_end hC.out hl0)
      have b1 : ss.length ≤ 1048576 := by omega
      clear hl0 hleft
      rcases hss.out.2 with ⟨rfl, hn0⟩ | ⟨g, cap, cur, rfl, hbase, hgg, c1, c2, c3, c4⟩
      · have hs0 : ss = [] := List.length_eq_zero_iff.1 hn0
        subst hs0
        have hnil := Lib.hid (vtSortNil none 0 (.func (.func 110) #[] #[]) wr)
        go_wp2_with fail
        refine hnil.out.mono ?_
        rintro e w3 ⟨rfl, rfl⟩
        go_wp2_with fail
        go_ret
        exact ⟨[], hC0.out, none, 0, 0, rfl, by rw [show sortV [] = [] from by simp [sortV]]; exact OwnV.nil _ _, hbel.out⟩
      · have hgl : g < wr.heap.size := (Array.getElem?_eq_some_iff.1 hgg).1
        have hF := flatK_V ss
        have hFs : (flatK encV 3 ss.toArray).size = ss.length * 3 := by simp
        have hsort := Lib.hid (vtSort g cap ss wr (holds_of_blockF (flatK encV 3 ss.toArray) hgg (by rw [hFs, hF]; exact c4)) hgl (by omega))
        have hp := Lib.hid hgg; have hq1 := Lib.hid c1; have hq2 := Lib.hid c2; have hq3 := Lib.hid c3
        clear hgg c1 c2 c3 c4 hF hFs
        go_wp2_with fail
        refine hsort.out.mono ?_
        rintro e w3 ⟨rfl, q, os, hw3⟩
        have o3 := Lib.hid (show w3.ownsRow w.heap.size 53 3 (.slice (some ⟨g, 0, none⟩) ss.length cap) ss.length (flatV (sortV ss)) by
          rw [hw3, ← flatK_V (sortV ss)]
          exact (ownsRow_sortedF (flatK encV 3 (sortV ss).toArray) hbase hp.out hq1.out hq2.out hq3.out (by simp [sortV_len])).mono (by omega))
        have u3 := Lib.hid (hbel.out.grown (show wr.grownBy w3 (some g) by rw [hw3]; exact grownBy_sortedF _) (by omega) (fun j e => by injection e with e; omega))
        clear hw3 hsort
        go_wp2_with fail
        go_ret
        obtain ⟨A6, c6, e6, o6⟩ := OwnV.of_owns o3.out
        exact ⟨ss, hC0.out, A6, _, c6, by rw [e6]; rfl, o6, u3.out⟩
    · intro x1 x2 x3
      refine ⟨?_, ?_⟩
      all_goals
        intro kl yd yp w2 cnt2 hkey hlk hv hat hrg2 hlt hg2 hs2 hen
        simp only [vtV] at hen ⊢
        obtain ⟨x', hx1, hx2, hwx⟩ := keyVote_inv hkey
        have hx1 := vtV_inj hx1
        subst hx1
        subst hx2
        have hss2 := Lib.hid (hss.out.kept hg2 (by
          cases hob : u3.ownBlock with
          | none => exact Or.inl rfl
          | some k => exact Or.inr (fun e => by injection e with e; have := (hss.out.lt k hob).1; omega)))
        have hbel2 := Lib.hid (hbel.out.grown hg2 (by omega) (fun j e => by injection e with e; omega))
        have hC2 := Lib.hid (collV_step hC.out hwx hlk)
        have hr2 := Lib.hid hrg2
        have hl2 := Lib.hid hrg2.left_eq
        have b1 : ss.length ≤ 1048576 := by omega
        have hws2 : w.heap.size + 1 ≤ w2.heap.size := by rw [hs2]; exact hws
        have hen' := Lib.hid hen
        have hb3 := three_cells (w2.alloc (.cells #[.int .i64 x1, .int .i64 x2, .int .i64 x3] 53)) x1 x2 x3 53
        rw [show (w2.alloc (.cells #[.int .i64 x1, .int .i64 x2, .int .i64 x3] 53)).heap.size = w2.heap.size + 1 by simp] at hb3
        have k0 := hb3.cell (i := 0) (by omega)
        have k1 := hb3.cell (i := 1) (by omega)
        have k2 := hb3.cell (i := 2) (by omega)
        simp only [if_true, if_false, show (1 : Nat) ≠ 0 by decide, show (2 : Nat) ≠ 0 by decide, show (2 : Nat) ≠ 1 by decide] at k0 k1 k2
        have K0 := Lib.hid k0; have K1 := Lib.hid k1; have K2 := Lib.hid k2
        clear hs2 hg2 hrg2 hv hat hkey hlk hen hwx hb3 k0 k1 k2
        go_wp2_with fail
        rw [hen'.out]
        try go_simp
        go_wp2_with (at_builtin; refine appendVt _ rfl _ _ 27 rfl (w.heap.size + 1) Try.underlying27 _ ss rfl ((hss2.out.alloc _).alloc _) (w2.heap.size + 1) 1 x1 x2 x3 rfl K0.out K1.out K2.out (by omega) (by simp; omega) ?_; intro g c' w3 r1 r2 r3; have z1 := Lib.hid r1; have z2 := Lib.hid r2; clear r1 r2 r3)
        have z3 := Lib.hid (show ((w2.alloc (.cells #[.int .i64 x1, .int .i64 x2, .int .i64 x3] 53)).alloc (.cells #[.int .i64 x1, .int .i64 x2, .int .i64 x3] 53)).grownBy w3 u3.ownBlock from z2.out)
        have hlt1 : ∀ k, u3.ownBlock = some k → w.heap.size + 1 ≤ k := fun k e => (hss2.out.lt k e).1
        have hr3 := Lib.hid (((hr2.out.alloc (.cells #[.int .i64 x1, .int .i64 x2, .int .i64 x3] 53)).alloc (.cells #[.int .i64 x1, .int .i64 x2, .int .i64 x3] 53)).kept z3.out (fun e => by have := hlt1 b e.symm; omega) (fun e => by have := hlt1 _ e.symm; omega))
        have hbel3 := Lib.hid (((hbel2.out.alloc (by omega) (.cells #[.int .i64 x1, .int .i64 x2, .int .i64 x3] 53)).alloc (by simp; omega) (.cells #[.int .i64 x1, .int .i64 x2, .int .i64 x3] 53)).grown z3.out (by simp; omega) (fun j e => by have := hlt1 j e; omega))
        have hl3 := hr3.out.left_eq
        have hs3 : w.heap.size + 1 ≤ w3.heap.size := by have h9 := z3.out.size; simp at h9; omega
        exact ⟨⟨_, cnt2, ss ++ [(x1, x2, x3)], hr3, z1, hC2, by simp; omega, hbel3, hs3⟩, by rw [hl3, hleft]; exact hlt⟩

set_option maxRecDepth 100000 in
theorem codeOf_any (b N : Nat) (D : DataW Unit) (x y z : Int) (w : World) (hown : w.ownsMap Try.prog 53 boE b N D) (hwf : wfV (x, y, z)) (r : Bool) (hr : D.atKey (kv (x, y, z)) (.lit (.bool false)) = .lit (.bool r)) :
    Calls Try.prog 82 #[.map (some b), .agg #[.int .i64 x, .int .i64 y, .int .i64 z]] w fun e w' => e = .returned (.int .i64 (if r = true then 1 else if Maps.size D = 60 then 2 else 0)) ∧ Below w.heap.size w w' := by
  have ho := Lib.hid (hown.alloc (.cells #[.int .i64 x, .int .i64 y, .int .i64 z] 53))
  have hb := Lib.hid (bx_below w (.cells #[.int .i64 x, .int .i64 y, .int .i64 z] 53))
  have hz : ∀ w, (zeroValue 4).run Try.prog w = .ok (.bool false) w := fun w => by kernel_rfl
  have hkey := Lib.hid (keyVote hwf)
  have hat := Lib.hid hr
  obtain ⟨K, hK⟩ : ∃ K, Maps.size D = K := ⟨_, rfl⟩
  rw [hK]
  clear hown hwf hr
  cases r
  · by_cases hs : K = 60
    · have hsI : ((K : Int) == 60) = true := by rw [hs]; rfl
      go_enter Try.func82, Try.ntmps82
      go_wp2_with (first
        | (at_lookup; refine wpList_lookup_mark _ rfl _ _ 97 rfl 53 4 lawVt Try.underlying97 (hz _) b N D rfl ho.out _ _ rfl hkey.out _ hat.out ?_)
        | (at_len; refine wpList_len_own _ rfl _ 97 rfl 53 4 Try.underlying97 boE b N D rfl ho.out ?_))
      go_ret
      exact ⟨by first | rfl | (rw [if_neg (by decide), if_pos hs]; rfl), hb.out⟩
    · have hsI : ((K : Int) == 60) = false := by simp; omega
      go_enter Try.func82, Try.ntmps82
      go_wp2_with (first
        | (at_lookup; refine wpList_lookup_mark _ rfl _ _ 97 rfl 53 4 lawVt Try.underlying97 (hz _) b N D rfl ho.out _ _ rfl hkey.out _ hat.out ?_)
        | (at_len; refine wpList_len_own _ rfl _ 97 rfl 53 4 Try.underlying97 boE b N D rfl ho.out ?_))
      go_ret
      exact ⟨by first | rfl | (rw [if_neg (by decide), if_neg hs]; rfl), hb.out⟩
  · go_enter Try.func82, Try.ntmps82
    go_wp2_with (first
      | (at_lookup; refine wpList_lookup_mark _ rfl _ _ 97 rfl 53 4 lawVt Try.underlying97 (hz _) b N D rfl ho.out _ _ rfl hkey.out _ hat.out ?_)
      | (at_len; refine wpList_len_own _ rfl _ 97 rfl 53 4 Try.underlying97 boE b N D rfl ho.out ?_))
    go_ret
    exact ⟨rfl, hb.out⟩
end Go.Proofs.Ytlobjfipefibaaa
