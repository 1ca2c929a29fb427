/- What is proved here: what leastOf, isSparse and LeastIn of the program return. No conditions. -/
import Derived.Test.YthiegfbdmmpababLeastFacts
import Derived.Test.YthiegfbdmmpababShelf
namespace Go.Proofs.Ythiegfbdmmpabab
open Go.RowKit

theorem min_minI (x y : Int) : min x y = minI x y := by unfold minI; split <;> omega
theorem w64_nat {m : Nat} (h : m ≤ 1000) : wrap64 (m : Int) = (m : Int) := by unfold wrap64; omega
theorem wu64_nat {m : Nat} (h : m ≤ 1000) : IntKind.u64.wrap (m : Int) = (m : Int) := by rw [IntKind.wrap_u64]; omega
theorem wsub_nat {t P q : Nat} (h : t = P + q) (ht : t ≤ 1000) : IntKind.i64.wrap ((t : Int) - (P : Int)) = (q : Int) := by rw [IntKind.wrap_i64]; omega
theorem shl64_pow {k : Nat} (h : k < 6) : wrap64 ((2 : Int) ^ k) = ((2 ^ k : Nat) : Int) := by
  have h6 : k = 0 ∨ k = 1 ∨ k = 2 ∨ k = 3 ∨ k = 4 ∨ k = 5 := by omega
  rcases h6 with rfl | rfl | rfl | rfl | rfl | rfl <;> first | decide | (unfold wrap64; simp)
theorem shlW_pow {k : Nat} (h : k < 6) : IntKind.i64.wrap ((2 : Int) ^ k) = ((2 ^ k : Nat) : Int) := by
  have h6 : k = 0 ∨ k = 1 ∨ k = 2 ∨ k = 3 ∨ k = 4 ∨ k = 5 := by omega
  rcases h6 with rfl | rfl | rfl | rfl | rfl | rfl <;> decide

set_option maxRecDepth 100000 in
set_option maxHeartbeats 1600000 in
theorem leastOf_any (A : Option Addr) (n c B : Nat) (l : List Int) (f t : Nat) (w : World) (h : RowsAt w B A n (spT l)) (hl : l.length ≤ 60) (hf : f < t) (ht : t ≤ l.length) :
    Calls Try.prog 107 #[.slice A n c, .int .i64 f, .int .i64 t] w fun e w' => e = .returned (.int .i64 (minTo l f (t - f))) ∧ ∃ m, w' = w.drewN m := by
  have hfin := Lib.hid (two_rows hf ht hl)
  obtain ⟨e1, e2, e3⟩ := logN_ok (m := t - f) (by omega) (by omega)
  obtain ⟨m, hm⟩ : ∃ m, t = f + m := ⟨t - f, by omega⟩
  have hmf : t - f = m := by omega
  rw [hmf] at hfin e1 e2 e3 ⊢
  obtain ⟨k, hk⟩ : ∃ k, Hid (logN m = k) := ⟨_, Lib.hid rfl⟩
  rw [hk.out] at hfin e1 e2 e3
  have hn := h.len
  rw [spT_len] at hn
  have hpos : 0 < l.length := by omega
  have hkn : k < n := by rw [← hn]; exact (spN_in hpos).2 (by omega)
  obtain ⟨g, off, Ai, ci, rfl, _, hc, hi⟩ := h.row k hkn
  rw [spT_row (by rw [hn]; exact hkn)] at hc hi
  have hrl := spRow_len l k
  obtain ⟨P, hP⟩ : ∃ P, Hid (2 ^ k = P) := ⟨_, Lib.hid rfl⟩
  rw [hP.out] at hrl e2 e3 hfin
  obtain ⟨M, hM⟩ : ∃ M, Hid ((spRow l k).length = M) := ⟨_, Lib.hid rfl⟩
  rw [hM.out] at hc hi hrl
  obtain ⟨b1, o1, eA, _, hc1⟩ := hi.2 f (by omega)
  obtain ⟨b2, o2, eA2, _, hc2⟩ := hi.2 (t - P) (by omega)
  rw [eA] at eA2
  cases eA2
  subst eA
  obtain ⟨q, hq⟩ : ∃ q, Hid (t - P = q) := ⟨_, Lib.hid rfl⟩
  rw [hq.out] at hc2 hfin
  have hk6 : k < 6 := by have := spN_le hpos hl; omega
  have hqM : q < M := by have := hq.out; omega
  have hfM : f < M := by omega
  have hmI : (t : Int) - (f : Int) = (m : Int) := by omega
  have hlenc := Lib.hid (fun W => Try.bits_Len (m : Int) W (by omega) (by omega))
  simp only [Int.toNat_natCast, e1] at hlenc
  have e1' := Lib.hid e1
  have ht60 : t ≤ 60 := Nat.le_trans ht hl
  have hqt : t = P + q := by have := hq.out; omega
  have hsub := wsub_nat hqt (by omega)
  have hsub2 : (t : Int) - (P : Int) = (q : Int) := by omega
  have hm60 : m ≤ 1000 := by omega
  have hu1 := w64_nat hm60
  have hu2 := wu64_nat hm60
  clear e1 hi h hn hm hmf hqt hrl ht hl ht60 e2 e3 hpos
  generalize (spRow l k)[f]?.getD 0 = x at hc1 hfin
  generalize (spRow l k)[q]?.getD 0 = y at hc2 hfin
  have hP' := hP.out
  clear hP hk hM hq e1'
  have h6 : k = 0 ∨ k = 1 ∨ k = 2 ∨ k = 3 ∨ k = 4 ∨ k = 5 := by omega
  have hknI : (k : Int) < (n : Int) := by omega
  have z0 : IntKind.i64.wrap 1 = 1 := by decide
  have z1 : IntKind.i64.wrap 2 = 2 := by decide
  have z2 : IntKind.i64.wrap 4 = 4 := by decide
  have z3 : IntKind.i64.wrap 8 = 8 := by decide
  have z4 : IntKind.i64.wrap 16 = 16 := by decide
  have z5 : IntKind.i64.wrap 32 = 32 := by decide
  rcases h6 with rfl | rfl | rfl | rfl | rfl | rfl
  all_goals
    simp only [Nat.reducePow, Nat.reduceAdd, Nat.add_zero] at hP' hc hlenc
    subst hP'
    go_enter Try.func107, Try.ntmps107
    go_wp2_with fail
    refine (hlenc.out _).mono ?_
    rintro e w1 ⟨rfl, rfl⟩
    clear hmI hu1 hu2
    clear hsub2
    push_cast at hsub hknI
    go_wp2_with fail
    go_quiet (fail)
    go_wp2_with fail
    go_ret
    exact ⟨ret_int (by rw [← hfin.out, min_minI]), _, rfl⟩

def eqRB (xs ys : List (List Int)) : Bool := decide (xs = ys)
theorem eqRB_len {xs ys : List (List Int)} (h : xs.length ≠ ys.length) : eqRB xs ys = false := by
  unfold eqRB; simp; rintro rfl; exact h rfl
theorem eqRB_no {xs ys : List (List Int)} {k : Nat} (h : rowG xs k ≠ rowG ys k) : eqRB xs ys = false := by
  unfold eqRB; simp; rintro rfl; exact h rfl
theorem eqRB_yes {xs ys : List (List Int)} (hl : xs.length = ys.length) (h : ∀ j, j < xs.length → rowG xs j = rowG ys j) : eqRB xs ys = true := by
  unfold eqRB; simp
  refine List.ext_getElem hl fun i h1 h2 => ?_
  have := h i h1
  unfold rowG at this
  rw [List.getElem?_eq_getElem h1, List.getElem?_eq_getElem h2] at this
  simpa using this
def fewRows (rows : List (List Int)) : Prop := ∀ i, (rowG rows i).length ≤ 1048576

set_option maxRecDepth 100000 in
set_option maxHeartbeats 1600000 in
theorem equalFunc_any (A A' : Option Addr) (n n' c c' B : Nat) (rows rows' : List (List Int)) (w : World) (h : RowsAt w B A n rows) (h' : RowsAt w B A' n' rows') (hs : fewRows rows) (hs' : fewRows rows') (hn : n ≤ 1048576) (hn' : n' ≤ 1048576) :
    Calls Try.prog 131 #[.slice A n c, .slice A' n' c', .func (.func 132) #[] #[]] w fun e w' => e = .returned (.bool (eqRB rows rows')) ∧ ∃ m, w' = w.drewN m := by
  have hl := Lib.hid h.len
  have hl2 := Lib.hid h'.len
  have hr := Lib.hid h; clear h
  have hr2 := Lib.hid h'; clear h'
  have hsA := Lib.hid hs; have hsB := Lib.hid hs'
  clear hs hs'
  by_cases he : n = n'
  · subst he
    have hne : ((n : Int) != (n : Int)) = false := by simp
    go_enter Try.func131, Try.ntmps131
    go_wp2_with fail
    go_loopw [17] (fun i wr => ∃ k : Nat, k ≤ n ∧ i = .int .i64 k ∧ Hid (∀ j, j < k → rowG rows j = rowG rows' j) ∧ ∃ m, wr = w.drewN m) (fun i _ => n - (intOf i).toNat)
    case atStart => exact ⟨0, Nat.zero_le _, rfl, Lib.hid (fun j hj => absurd hj (Nat.not_lt_zero _)), 0, rfl⟩
    case round =>
      obtain ⟨k, hk, rfl, hall, m, hm⟩ := hrel
      have hmh := Lib.hid hm
      by_cases hlt : k < n
      · obtain ⟨b, off, Ai, ci, rfl, _, hc0, hi⟩ := hr.out.row k hlt
        obtain ⟨b', off', Aj, cj, rfl, _, hc0', hj⟩ := hr2.out.row k hlt
        have hc : wr.cell? ⟨b, off + k, none⟩ = some (.slice Ai (rowG rows k).length ci) := by rw [hm]; exact hc0
        have hc' : wr.cell? ⟨b', off' + k, none⟩ = some (.slice Aj (rowG rows' k).length cj) := by rw [hm]; exact hc0'
        have hi' := Lib.hid (show IntsAt wr B Ai (rowG rows k).length (rowG rows k) by rw [hm]; exact hi)
        have hj' := Lib.hid (show IntsAt wr B Aj (rowG rows' k).length (rowG rows' k) by rw [hm]; exact hj)
        have hcon := Lib.hid (slEqual_any Ai Aj _ _ ci cj B _ _ wr hi'.out hj'.out (hsA.out k) (hsB.out k))
        generalize (rowG rows k).length = L at hc hcon
        generalize (rowG rows' k).length = L' at hc' hcon
        clear hi hj hc0 hc0' hm
        cases hq : eqB (rowG rows k) (rowG rows' k)
        · have hq' := Lib.hid (show rowG rows k ≠ rowG rows' k by unfold eqB at hq; simpa using hq)
          rw [hq] at hcon
          clear hq
          go_wp2_with fail
          refine hcon.out.mono ?_
          rintro e w2 ⟨rfl, m2, hw2⟩
          have hw2' := Lib.hid hw2; clear hw2
          go_wp2_with fail
          go_ret
          exact ⟨ret_bool (eqRB_no (k := k) hq'.out).symm, _, by rw [hw2'.out, hmh.out]; exact World.drewN_drewN _ _ _⟩
        · have hq' := Lib.hid (show rowG rows k = rowG rows' k by unfold eqB at hq; simpa using hq)
          rw [hq] at hcon
          clear hq
          go_wp2_with fail
          refine hcon.out.mono ?_
          rintro e w2 ⟨rfl, m2, hw2⟩
          have hw2' := Lib.hid hw2; clear hw2
          go_wp2_with fail
          go_roundw
          case rel =>
            refine ⟨k + 1, by omega, by go_num, Lib.hid (fun j hj => ?_), _, by rw [hw2'.out, hmh.out]; exact World.drewN_drewN _ _ _⟩
            by_cases e : j = k
            · subst e; exact hq'.out
            · exact hall.out j (by omega)
          case measure => simp [intOf]; omega
      · clear hm
        go_wp2_with fail
        go_ret
        exact ⟨ret_bool (eqRB_yes (by rw [hl.out, hl2.out]) (fun j hj => hall.out j (by rw [hl.out] at hj; omega))).symm, _, hmh.out⟩
  · have hne : ((n : Int) != (n' : Int)) = true := by simp; omega
    have hq := Lib.hid (eqRB_len (xs := rows) (ys := rows') (by rw [hl.out, hl2.out]; exact he))
    go_enter Try.func131, Try.ntmps131
    go_wp2_with fail
    go_ret
    exact ⟨ret_bool hq.out.symm, 0, rfl⟩

/-- Whether rows is a sparse table. -/
def tabOk (rows : List (List Int)) : Bool := decide (0 < rows.length) && goodN (rowG rows 0) && eqRB rows (spT (rowG rows 0))
theorem short_few {rows : List (List Int)} (h : short rows) : fewRows rows := fun i => Nat.le_trans (h i) (by omega)

set_option maxRecDepth 100000 in
set_option maxHeartbeats 1600000 in
theorem isSparse_any (A : Option Addr) (n c : Nat) (rows : List (List Int)) (w : World) (h : RowsAt w w.heap.size A n rows) (hs : fewRows rows) (hn : n ≤ 1048576) :
    Calls Try.prog 106 #[.slice A n c] w fun e w' => e = .returned (.bool (tabOk rows)) ∧ Below w.heap.size w w' := by
  have hl := Lib.hid h.len
  have hr := Lib.hid h
  have hsA := Lib.hid hs
  clear hs
  by_cases h0 : n = 0
  · have hz := Lib.hid (show tabOk rows = false by unfold tabOk; rw [h.len, h0]; rfl)
    subst h0
    clear h
    go_enter Try.func106, Try.ntmps106
    go_wp2_with fail
    go_ret
    exact ⟨ret_bool hz.out.symm, Below.refl _ _⟩
  · have hpos : 0 < n := by omega
    obtain ⟨b, off, Ai, ci, e, _, hc, hi⟩ := h.row 0 hpos
    have htab := Lib.hid (show tabOk rows = (goodN (rowG rows 0) && eqRB rows (spT (rowG rows 0))) by unfold tabOk; rw [h.len, decide_eq_true hpos]; simp)
    have hi' := Lib.hid hi
    have hlen0 := hsA.out 0
    have hn0 : ((n : Int) == 0) = false := by simp; omega
    rw [Nat.add_zero] at hc
    subst e
    clear h hi h0
    obtain ⟨L, hL⟩ : ∃ L, Hid ((rowG rows 0).length = L) := ⟨_, Lib.hid rfl⟩
    rw [hL.out] at hc hi' hlen0
    go_enter Try.func106, Try.ntmps106
    go_wp2_with fail
    refine (implSparse_any Ai L ci (rowG rows 0) w hi'.out hlen0).mono ?_
    rintro e w1 ⟨A1, n1, c1, rfl, hl1, o1, b1⟩
    have o1' := Lib.hid (o1.at hl1 (fun _ _ => rfl))
    have hn1 : n1 ≤ 100 := by rw [← hl1]; exact spR_len _
    have r1 := Lib.hid ((hr.out.below b1).more b1.size)
    have u1 := Lib.hid b1
    clear o1 b1 hl1 hc
    cases hg : goodN (rowG rows 0)
    · have hz := Lib.hid (show tabOk rows = false by rw [htab.out, hg]; rfl)
      clear hg
      go_wp2_with fail
      go_ret
      exact ⟨ret_bool hz.out.symm, u1.out⟩
    · have hz := Lib.hid (show tabOk rows = eqRB rows (spR (rowG rows 0)) by rw [htab.out, hg]; unfold spR; rw [hg]; simp)
      clear hg
      go_wp2_with fail
      refine (equalFunc_any _ _ _ _ _ _ w1.heap.size rows (spR (rowG rows 0)) w1 r1.out o1'.out hsA.out (short_few (spR_short _)) hn (by omega)).mono ?_
      rintro e w2 ⟨rfl, m, hw2⟩
      have u2 := Lib.hid (show Below w.heap.size w w2 by rw [hw2]; exact below_drewN u1.out m)
      clear hw2
      go_wp2_with fail
      go_ret
      exact ⟨ret_bool hz.out.symm, u2.out⟩

def leastOk (rows : List (List Int)) (f t : Int) : Bool := tabOk rows && decide (0 ≤ f) && decide (f < t) && decide (t ≤ (rowG rows 0).length)
def leastR (rows : List (List Int)) (f t : Int) : Int := if leastOk rows f t then minTo (rowG rows 0) f.toNat (t.toNat - f.toNat) else 0
theorem tabOk_parts {rows : List (List Int)} (h : tabOk rows = true) : 0 < rows.length ∧ goodN (rowG rows 0) = true ∧ rows = spT (rowG rows 0) := by
  unfold tabOk eqRB at h
  simp only [Bool.and_eq_true, decide_eq_true_iff] at h
  exact ⟨h.1.1, h.1.2, h.2⟩

set_option maxRecDepth 100000 in
set_option maxHeartbeats 1600000 in
theorem implLeast_any (A : Option Addr) (n c : Nat) (rows : List (List Int)) (f t : Int) (w : World) (h : RowsAt w w.heap.size A n rows) (hs : fewRows rows) (hn : n ≤ 1048576) :
    Calls Try.prog 49 #[.slice A n c, .int .i64 f, .int .i64 t] w fun e w' => e = .returned (.tuple #[.int .i64 (leastR rows f t), .bool (leastOk rows f t)]) ∧ Below w.heap.size w w' := by
  have hfin := Lib.hid (fun (e : leastOk rows f t = false) => show leastR rows f t = 0 by unfold leastR; rw [e]; rfl)
  have hr := Lib.hid h
  have hl := Lib.hid h.len
  clear h
  go_enter Try.func49, Try.ntmps49
  go_wp2_with fail
  refine (isSparse_any A n c rows w hr.out hs hn).mono ?_
  rintro e w1 ⟨rfl, b1⟩
  have r1 := Lib.hid ((hr.out.below b1).more b1.size)
  have u1 := Lib.hid b1
  clear b1
  cases hg : tabOk rows
  · have hz := Lib.hid (show leastOk rows f t = false by unfold leastOk; rw [hg]; rfl)
    clear hg
    go_wp2_with fail
    go_ret2
    exact ⟨by rw [hfin.out hz.out, hz.out]; rfl, u1.out⟩
  · obtain ⟨hp, hgood, hT⟩ := tabOk_parts hg
    have hpos : 0 < n := by rw [← hl.out]; exact hp
    have hT' := Lib.hid hT; have hgood' := Lib.hid hgood; have hg' := Lib.hid hg
    clear hp hgood hT hg
    by_cases hf0 : f < 0
    · have hz := Lib.hid (show leastOk rows f t = false by unfold leastOk; rw [hg'.out, decide_eq_false (show ¬ 0 ≤ f by omega)]; rfl)
      go_wp2_with fail
      go_ret2
      exact ⟨by rw [hfin.out hz.out, hz.out]; rfl, u1.out⟩
    · by_cases hft : t ≤ f
      · have hz := Lib.hid (show leastOk rows f t = false by unfold leastOk; rw [hg'.out, decide_eq_false (show ¬ f < t by omega)]; simp)
        go_wp2_with fail
        go_ret2
        exact ⟨by rw [hfin.out hz.out, hz.out]; rfl, u1.out⟩
      · obtain ⟨b, off, Ai, ci, e, _, hc, _⟩ := r1.out.row 0 hpos
        rw [Nat.add_zero] at hc
        subst e
        obtain ⟨L, hL⟩ : ∃ L, Hid ((rowG rows 0).length = L) := ⟨_, Lib.hid rfl⟩
        rw [hL.out] at hc
        by_cases htl : (L : Int) < t
        · have hz := Lib.hid (show leastOk rows f t = false by unfold leastOk; rw [hL.out, decide_eq_false (show ¬ t ≤ (L : Int) by omega)]; simp)
          go_wp2_with fail
          go_ret2
          exact ⟨by rw [hfin.out hz.out, hz.out]; rfl, u1.out⟩
        · obtain ⟨F, rfl⟩ : ∃ F : Nat, f = F := ⟨f.toNat, by omega⟩
          obtain ⟨T, rfl⟩ : ∃ T : Nat, t = T := ⟨t.toNat, by omega⟩
          have hz := Lib.hid (show leastOk rows F T = true by unfold leastOk; rw [hg'.out, hL.out, decide_eq_true (show (0 : Int) ≤ F by omega), decide_eq_true (show (F : Int) < T by omega), decide_eq_true (show (T : Int) ≤ L by omega)]; rfl)
          have hv := Lib.hid (show leastR rows F T = minTo (rowG rows 0) F (T - F) by unfold leastR; rw [hz.out]; simp)
          have hL60 : (rowG rows 0).length ≤ 60 := by
            have := hgood'.out
            unfold goodN at this
            rw [Bool.and_eq_true, inB_iff] at this
            omega
          have hcall := Lib.hid (leastOf_any (some ⟨b, off, none⟩) n c w1.heap.size (rowG rows 0) F T w1 (by rw [← hT'.out]; exact r1.out) hL60 (by omega) (by rw [hL.out]; omega))
          clear hL60
          go_wp2_with fail
          refine hcall.out.mono ?_
          rintro e w2 ⟨rfl, m, hw2⟩
          have u2 := Lib.hid (show Below w.heap.size w w2 by rw [hw2]; exact below_drewN u1.out m)
          clear hw2
          go_wp2_with fail
          go_ret2
          exact ⟨by rw [hz.out, hv.out]; rfl, u2.out⟩
end Go.Proofs.Ythiegfbdmmpabab
