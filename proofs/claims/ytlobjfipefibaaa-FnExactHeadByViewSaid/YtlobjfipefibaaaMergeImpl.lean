/- What is proved here: what the program's PoolOf returns. No conditions but lengths. -/
import Derived.Test.YtlobjfipefibaaaVSetImpl
import Derived.Test.YtlobjfipefibaaaMergeSpec
namespace Go.Proofs.Ytlobjfipefibaaa
open Go.RowKit Go.Maps Go.Sort Go.Shelf Go.Lib

/-- What the program needs of a list of valid votes. -/
theorem set_of_ok {ts : List Blk} {ss : List Int} {vs : List Vt} {m n n' : Nat} (h : votesOk ts ss vs = true) (hl : ts.length = n) (hl' : ss.length = n') (hv : vs.length = m) (hn : n ≤ 1048576) (hn' : n' ≤ 1048576) :
    (∀ j, j < m → wfV (getV vs j)) ∧ Maps.size (vD vs m) = (setV vs).length ∧ ∀ us : List Vt, (us.Nodup ∧ (∀ x ∈ us, wfV x) ∧ ∀ x, wfV x → (x ∈ us ↔ Maps.has (vD vs m) (kv x) = true)) → sortV us = setV vs := by
  have hw : ∀ j, j < m → wfV (getV vs j) := fun j hj => wfV_of_ok ((votesOk_iff.1 h).2 j (by omega)) (by omega) (by omega)
  have hall : allV [] vs m = setV vs := by unfold setV; rw [hv]
  refine ⟨hw, by rw [vD_size m hw, hall], fun us hu => sortV_set hu.1 fun x => ?_⟩
  constructor
  · intro hx
    have := (hu.2.2 x (hu.2.1 x hx)).1 hx
    rw [vD_has (hu.2.1 x hx) m hw, decide_eq_true_iff, hall, setV_mem] at this
    exact this
  · intro hx
    obtain ⟨j, hj, e⟩ := get_mem.2 hx
    have hwx : wfV x := by rw [← e]; exact hw j (by omega)
    rw [hu.2.2 x hwx, vD_has hwx m hw, decide_eq_true_iff, hall, setV_mem]
    exact hx

set_option maxRecDepth 100000 in
set_option maxHeartbeats 1600000 in
theorem implPoolOf_any (A : Option Addr) (n c : Nat) (ts : List Blk) (A' : Option Addr) (n' c' : Nat) (ss : List Int) (V : Option Addr) (m d : Nat) (vs : List Vt) (w : World) (h : BlksAt w w.heap.size A n ts) (h' : IntsAt w w.heap.size A' n' ss) (hv : VotesAt w w.heap.size V m vs) (hn : n ≤ 1048576) (hn' : n' ≤ 1048576) (hm : m ≤ 1048576) :
    Calls Try.prog 20 #[.slice A n c, .slice A' n' c', .slice V m d] w (RetPool w (pofOK ts ss vs) (pofR ts ss vs)) := by
  have hl := Lib.hid h.1; have hl' := Lib.hid h'.1; have hlv := Lib.hid hv.1
  have hh := Lib.hid h; have hh' := Lib.hid h'; have hvv := Lib.hid hv; clear h h' hv
  obtain ⟨rR, bW, sW⟩ := bx1_rows w (.slice none 0 0) 29
  have qR := Lib.hid rR; have u := Lib.hid bW
  clear rR bW sW
  cases hg : votesOk ts ss vs
  · have hok := Lib.hid (show pofOK ts ss vs = false by unfold pofOK; rw [hg]; rfl)
    have hr := Lib.hid (show pofR ts ss vs = [] by unfold pofR; rw [if_neg (by rw [hok.out]; decide)])
    go_enter Try.func20, Try.ntmps20
    go_wp2_with (go_at_call 72; refine (areVotes_any A n c ts A' n' c' ss V m d vs _ (hh.out.up u.out) (hh'.out.up' u.out) (hvv.out.up u.out) hn hn' hm).mono ?_; rintro e w1 ⟨rfl, b1⟩; rw [hg]; replace u := Lib.hid (u.out.trans (b1.mono u.out.size)); replace qR := Lib.hid (rowIs_below qR.out b1 qR.out.lt); clear b1; have hcR := qR.out.cell (i := 0) (by omega); have hfR := qR.out.frozen 0)
    refine bodyPost_ret (results_row2 rfl _ _ (w.heap.size) 29 #[.slice none 0 0] (0, 0) _ rfl (pl_one_set qR.out _) Try.underlying29 rfl (by kernel_rfl)) rfl ?_
    exact ⟨none, 0, 0, by rw [hok.out]; rfl, by rw [hr.out]; exact OwnV.nil _ _, u.out.setCell (by show w.heap.size ≤ w.heap.size; omega) _⟩
  · obtain ⟨hw, hsz, huq⟩ := set_of_ok hg hl.out hl'.out hlv.out hn hn'
    have hsz' := Lib.hid hsz; have huq' := Lib.hid huq; have hww := Lib.hid hw
    clear hsz huq hw
    have hset := fun W hW => setOf_any V m d vs W hW hm hww.out
    have hset' := Lib.hid hset; clear hset
    by_cases h60 : (setV vs).length ≤ 60
    · have hok := Lib.hid (show pofOK ts ss vs = true by unfold pofOK; rw [hg, decide_eq_true h60]; rfl)
      have hr := Lib.hid (show pofR ts ss vs = setV vs by unfold pofR; rw [if_pos hok.out])
      have hsI : ¬ (60 : Int) < (Maps.size (vD vs m) : Int) := by rw [hsz'.out]; omega
      go_enter Try.func20, Try.ntmps20
      have tk0 : True := trivial
      go_wp2_with (first
        | (clear tk0; go_at_call 72; refine (areVotes_any A n c ts A' n' c' ss V m d vs _ (hh.out.up u.out) (hh'.out.up' u.out) (hvv.out.up u.out) hn hn' hm).mono ?_; rintro e w1 ⟨rfl, b1⟩; rw [hg]; replace u := Lib.hid (u.out.trans (b1.mono u.out.size)); replace qR := Lib.hid (rowIs_below qR.out b1 qR.out.lt); clear b1; have tk1 : True := trivial)
        | (clear tk1; go_at_call 73; refine (hset'.out _ (hvv.out.up u.out)).mono ?_; rintro e w2 ⟨mb, rfl, om, lo, b2⟩; have om' := Lib.hid om; replace u := Lib.hid (u.out.trans (b2.mono u.out.size)); replace qR := Lib.hid (rowIs_below qR.out b2 qR.out.lt); clear b2 om lo; have tk2 : True := trivial)
        | (clear tk2; at_len; refine wpList_len_own _ rfl _ 97 rfl 53 4 Try.underlying97 boE mb m (vD vs m) rfl om'.out ?_; have tk3 : True := trivial)
        | (clear tk3; go_at_call 74; refine (inOrder_any mb m (vD vs m) _ om'.out hm).mono ?_; rintro e w3 ⟨us, hus, A3, n3, c3, rfl, o3, b3⟩; rw [huq'.out us hus] at o3; have o4 := Lib.hid o3; have lR := Lib.hid qR.out.lt; replace u := Lib.hid (u.out.trans (b3.mono u.out.size)); replace qR := Lib.hid (rowIs_below qR.out b3 qR.out.lt); clear o3 b3 hus; have hcR := qR.out.cell (i := 0) (by omega); have hfR := qR.out.frozen 0))
      refine bodyPost_ret (results_row2 rfl _ _ (w.heap.size) 29 #[.slice A3 n3 c3] (0, 0) _ rfl (pl_one_set qR.out _) Try.underlying29 rfl (by kernel_rfl)) rfl ?_
      exact ⟨A3, n3, c3, by rw [hok.out]; rfl, by rw [hr.out]; exact (o4.out.setBox lR.out _).fewer (by have := lR.out; omega), u.out.setCell (by show w.heap.size ≤ w.heap.size; omega) _⟩
    · have hok := Lib.hid (show pofOK ts ss vs = false by unfold pofOK; rw [hg, decide_eq_false h60]; rfl)
      have hr := Lib.hid (show pofR ts ss vs = [] by unfold pofR; rw [if_neg (by rw [hok.out]; decide)])
      have hsI : (60 : Int) < (Maps.size (vD vs m) : Int) := by rw [hsz'.out]; omega
      go_enter Try.func20, Try.ntmps20
      have tk0 : True := trivial
      go_wp2_with (first
        | (clear tk0; go_at_call 72; refine (areVotes_any A n c ts A' n' c' ss V m d vs _ (hh.out.up u.out) (hh'.out.up' u.out) (hvv.out.up u.out) hn hn' hm).mono ?_; rintro e w1 ⟨rfl, b1⟩; rw [hg]; replace u := Lib.hid (u.out.trans (b1.mono u.out.size)); replace qR := Lib.hid (rowIs_below qR.out b1 qR.out.lt); clear b1; have tk1 : True := trivial)
        | (clear tk1; go_at_call 73; refine (hset'.out _ (hvv.out.up u.out)).mono ?_; rintro e w2 ⟨mb, rfl, om, lo, b2⟩; have om' := Lib.hid om; replace u := Lib.hid (u.out.trans (b2.mono u.out.size)); replace qR := Lib.hid (rowIs_below qR.out b2 qR.out.lt); clear b2 om lo; have hcR := qR.out.cell (i := 0) (by omega); have hfR := qR.out.frozen 0; have tk2 : True := trivial)
        | (clear tk2; at_len; refine wpList_len_own _ rfl _ 97 rfl 53 4 Try.underlying97 boE mb m (vD vs m) rfl om'.out ?_))
      refine bodyPost_ret (results_row2 rfl _ _ (w.heap.size) 29 #[.slice none 0 0] (0, 0) _ rfl (pl_one_set qR.out _) Try.underlying29 rfl (by kernel_rfl)) rfl ?_
      exact ⟨none, 0, 0, by rw [hok.out]; rfl, by rw [hr.out]; exact OwnV.nil _ _, u.out.setCell (by show w.heap.size ≤ w.heap.size; omega) _⟩
end Go.Proofs.Ytlobjfipefibaaa

/- What is proved here: what the program's MergePools returns. No conditions but lengths, and a slice's room. -/
namespace Go.Proofs.Ytlobjfipefibaaa
open Go.RowKit Go.Maps Go.Sort Go.Shelf Go.Lib

theorem growRoom (base : Option Addr) (l c n : Nat) (w : World) (hlc : l ≤ c) (hc63 : c ≤ 9223372036854775807) (hn63 : n ≤ 9223372036854775807) (hroom : l + n ≤ c) :
    Calls Try.prog 113 #[.slice base l c, .int .i64 n] w fun e w' => e = .returned (.slice base l c) ∧ w' = w := by
  have h := Any8.slices_Grow_room Try.vtGrowL base l c n w hlc hc63 hn63 hroom
  change Calls Try.prog 113 _ _ _ at h
  exact h
theorem growMore (i0 : TypeInfo) (z : Value) (hi0 : Try.prog.info? 53 = some i0) (hz0 : i0.zero = some z) (hs0 : 0 < i0.size)
    (base : Option Addr) (l c n : Nat) (cs : List Value) (w : World) (hlc : l ≤ c) (hroom : c < l + n) (hbig : (l + n) * i0.bytes ≤ 140737488355328) (h63 : l + n ≤ 4611686018427387904)
    (hcl : cs.length = c * i0.size) (hnil : base = none → c = 0) (hcs : ∀ a, base = some a → ∀ j v, cs[j]? = some v → w.cell? (a.add j) = some v) :
    Calls Try.prog 113 #[.slice base l c, .int .i64 n] w fun e w' =>
      e = .returned (.slice (some ⟨w.heap.size, 0, none⟩) l (grownCap w (l + n) c 53)) ∧
      w' = w.drew.alloc (.cells (cs.toArray ++ Builtin.zeroCells z.cells (l + n - c) ++ Builtin.zeroCells z.cells (grownCap w (l + n) c 53 - (l + n))) 53) := by
  have h := Any8.slices_Grow_grow Try.vtGrowL i0 z hi0 hz0 hs0 base l c n cs w hlc hroom hbig h63 hcl hnil hcs
  change Calls Try.prog 113 _ _ _ at h
  exact h
set_option maxRecDepth 100000 in
set_option maxHeartbeats 1600000 in
theorem grow_any (K : Nat) (w : World) (hK : K ≤ 1048576) :
    Calls Try.prog 113 #[.slice none 0 0, .int .i64 K] w fun e w' => ∃ v, e = .returned v ∧ w'.ownsRow w.heap.size 53 3 v 0 (flatV []) ∧ Below w.heap.size w w' := by
  by_cases h0 : K = 0
  · subst h0
    refine (growRoom none 0 0 0 w (by omega) (by omega) (by omega) (by omega)).mono ?_
    rintro e w' ⟨rfl, rfl⟩
    exact ⟨_, rfl, World.ownsRow_nil _ _ _ _, Below.refl _ _⟩
  · obtain ⟨i0, hi, hzz⟩ := Option.map_eq_some_iff.1 infoVote
    simp only [Prod.mk.injEq] at hzz
    obtain ⟨hz, hsz, hb⟩ := hzz
    refine (growMore i0 _ hi hz (by omega) none 0 0 K [] w (by omega) (by omega) (by rw [hb]; omega) (by omega) (by simp) (fun _ => rfl) (fun a e => by cases e)).mono ?_
    rintro e w' ⟨rfl, rfl⟩
    have hG := grownCap_ge w (0 + K) 0 53
    have hM := grownCap_le_maxLen w (0 + K) 0 53 (by unfold maxLen; omega)
    obtain ⟨G, hGG⟩ : ∃ G, grownCap w (0 + K) 0 53 = G := ⟨_, rfl⟩
    rw [hGG] at hG hM ⊢
    have hbd := bx_below w.drew (.cells (([] : List Value).toArray ++ Builtin.zeroCells (Value.agg #[.int .i64 0, .int .i64 0, .int .i64 0]).cells (0 + K - 0) ++ Builtin.zeroCells (Value.agg #[.int .i64 0, .int .i64 0, .int .i64 0]).cells (G - (0 + K))) 53)
    refine ⟨_, rfl, ⟨rfl, .inr ⟨w.heap.size, G, _, rfl, Nat.le_refl _, heap_alloc_new w.drew _, Nat.zero_le _, hM, ?_, rfl⟩⟩, ⟨hbd.os, hbd.tape, hbd.output, hbd.size, hbd.block⟩⟩
    simp [Builtin.zeroCells, Value.cells]
    omega

set_option maxRecDepth 100000 in
set_option maxHeartbeats 1600000 in
theorem concat_any (g : Nat) (V : Option Addr) (m d : Nat) (vs : List Vt) (V' : Option Addr) (m' d' : Nat) (vs' : List Vt) (w : World) (hc0 : w.cell? ⟨g, 0, none⟩ = some (.slice V m d)) (hc1 : w.cell? ⟨g, 1, none⟩ = some (.slice V' m' d'))
    (hv : VotesAt w w.heap.size V m vs) (hv' : VotesAt w w.heap.size V' m' vs') (hm : m ≤ 60) (hm' : m' ≤ 60) (hnil : V = none → m = 0 ∧ d = 0) (hnil' : V' = none → m' = 0 ∧ d' = 0) :
    Calls Try.prog 83 #[.slice (some ⟨g, 0, none⟩) 2 2] w (RetVt w (vs ++ vs')) := by
  have hg : g < w.heap.size := World.block_lt_of_cell? w _ hc0
  have hall := Lib.hid (show ∀ k, k < 2 → ∃ Vk mk dk us, w.cell? ⟨g, k, none⟩ = some (.slice Vk mk dk) ∧ VotesAt w w.heap.size Vk mk us ∧ mk ≤ 60 ∧ (Vk = none → mk = 0 ∧ dk = 0) ∧ mk = (if k = 0 then m else m') ∧ us = (if k = 0 then vs else vs') from fun k hk => by
    have : k = 0 ∨ k = 1 := by omega
    rcases this with rfl | rfl
    · exact ⟨V, m, d, vs, hc0, hv, hm, hnil, rfl, rfl⟩
    · exact ⟨V', m', d', vs', hc1, hv', hm', hnil', rfl, rfl⟩)
  clear hc0 hc1 hv hv' hnil hnil'
  go_enter Try.func83, Try.ntmps83
  go_wp2_with fail
  go_loop [3, 5, 11] (fun sz _ i => ∃ k q : Nat, k ≤ 2 ∧ i = .int .i64 k ∧ q ≤ 60 * k ∧ sz = .int .i64 q) (fun _ _ i => 2 - (intOf i).toNat)
  case atStart => exact ⟨0, 0, Nat.zero_le _, rfl, Nat.zero_le _, rfl⟩
  case round =>
    obtain ⟨k, q, hk, rfl, hq, rfl⟩ := hrel
    by_cases hlt : k < 2
    · obtain ⟨Vk, mk, dk, us, hck, -, hmk, -, -, -⟩ := hall.out k hlt
      have hkI : (k : Int) < 2 := by omega
      have hsum := Lib.hid (show ((q : Int) + (mk : Int)) = ((q + mk : Nat) : Int) by omega)
      have hno : ¬ ((q : Int) + (mk : Int)) < 0 := by omega
      go_wp2
      go_round
      case rel => exact ⟨k + 1, q + mk, by omega, by go_num, by omega, by go_num⟩
      case measure => simp [intOf]; omega
    · have hq2 : q ≤ 1048576 := by omega
      obtain rfl : k = 2 := by omega
      clear hlt hq
      go_wp2_with (go_at_call 113; refine (grow_any q w hq2).mono ?_; rintro e w1 ⟨v0, rfl, o0, b0⟩; have o0' := Lib.hid o0; have b0' := Lib.hid b0; clear o0 b0)
      go_loopw [6, 8, 27] (fun o _ i wr => ∃ k : Nat, k ≤ 2 ∧ i = .int .i64 k ∧ (∃ T : List Vt, T.length ≤ 60 * k ∧ Hid (wr.ownsRow w.heap.size 53 3 o T.length (flatV T)) ∧ Hid (T = if k = 0 then [] else if k = 1 then vs else vs ++ vs')) ∧ Hid (Below w.heap.size w wr)) (fun _ _ i _ => 2 - (intOf i).toNat)
      case atStart => exact ⟨0, Nat.zero_le _, rfl, ⟨[], Nat.zero_le _, o0', Lib.hid rfl⟩, b0'⟩
      case round =>
        obtain ⟨k, hk, rfl, ⟨T, hT, ho, hTe⟩, hbel⟩ := hrel
        by_cases hlt : k < 2
        · obtain ⟨Vk, mk, dk, us, hck, hvk, hmk, hnk, -, hus⟩ := hall.out k hlt
          have hck' := (hbel.out.cell (p := ⟨g, k, none⟩) hg).trans hck
          have hkI : (k : Int) < 2 := by omega
          have hvk' := Lib.hid hvk; have hnk' := Lib.hid hnk
          have hcl := Lib.hid (show ∀ ad, Vk = some ad → ∀ t, t < mk * 3 → wr.cell? (ad.add t) = some (cellsV us t) from fun ad e0 t ht => by
            obtain ⟨b', off', e, hbl, _⟩ := hvk.2 0 (by omega)
            rw [e0] at e
            cases e
            have h1 := hvk
            rw [e0] at h1
            rw [Addr.add_lit]
            exact (hbel.out.cell (p := ⟨b', off' + t, none⟩) hbl).trans (votes_cell h1 ht))
          have hTn := Lib.hid (show T ++ us = if k + 1 = 0 then [] else if k + 1 = 1 then vs else vs ++ vs' by
            have h3 := hTe.out
            have : k = 0 ∨ k = 1 := by omega
            rcases this with rfl | rfl
            · rw [h3, hus]; simp
            · rw [h3, hus]; simp)
          have hul : us.length = mk := hvk.1
          have hul' := Lib.hid hul
          have hbs := hbel.out.size
          obtain ⟨L, hL⟩ : ∃ L, T.length = L := ⟨_, rfl⟩
          have hL' := Lib.hid hL
          have ho' := Lib.hid (show wr.ownsRow w.heap.size 53 3 u6 T.length (flatV T) from ho.out)
          clear hck hvk hnk hul hL
          go_wp2_with (at_builtin; refine appendSlV _ rfl _ _ 27 rfl w.heap.size Try.underlying27 _ T rfl ho'.out Vk mk dk us hul'.out rfl hnk'.out (fun ad e t ht => hcl.out ad e t ht) (by omega) (by omega) ?_; intro v3 w3 o3 g3 a3; have z3 := Lib.hid o3; have y3 := Lib.hid (hbel.out.grown g3 hbs (fun q e => (ho'.out.lt q e).1)); clear o3 g3 a3)
          go_roundw
          case rel => exact ⟨k + 1, by omega, by go_num, ⟨T ++ us, by rw [List.length_append, hul'.out]; omega, z3, hTn⟩, y3⟩
          case measure => simp [intOf]; omega
        · have hTe2 := Lib.hid (show T = vs ++ vs' by
            have h3 := hTe.out
            rw [if_neg (by omega), if_neg (by omega)] at h3; exact h3)
          have ho' := ho.out
          rw [hTe2.out] at ho'
          have ho2 := Lib.hid ho'
          clear ho'
          obtain rfl : k = 2 := by omega
          clear hlt
          go_wp2_with fail
          go_ret
          obtain ⟨A6, c6, e6, o6⟩ := OwnV.of_owns ho2.out
          exact ⟨A6, _, c6, by rw [← e6]; rfl, o6, hbel.out⟩
/-- Two slices laid side by side. -/
theorem two_slices (w : World) (v1 v2 : Value) : (w.alloc (.cells #[v1, v2] 27)).cell? ⟨w.heap.size, 0, none⟩ = some v1 ∧ (w.alloc (.cells #[v1, v2] 27)).cell? ⟨w.heap.size, 1, none⟩ = some v2 ∧ Below w.heap.size w (w.alloc (.cells #[v1, v2] 27)) := by
  have h : (w.alloc (.cells #[v1, v2] 27)).rowIs w.heap.size 27 2 (fun i => if i = 0 then v1 else v2) :=
    ⟨_, heap_alloc_new _ _, rfl, fun i hi => by
      have : i = 0 ∨ i = 1 := by omega
      rcases this with rfl | rfl <;> rfl⟩
  exact ⟨h.cell (by omega), h.cell (by omega), bx_below w _⟩
theorem mrg_pof {ts : List Blk} {ss : List Int} {a b : List Vt} (ha : poolOk ts ss a = true) (hb : poolOk ts ss b = true) : pofOK ts ss (a ++ b) = mrgOK ts ss a b ∧ pofR ts ss (a ++ b) = mrgR ts ss a b := by
  have h := (mrg_tell ha hb).2.1
  rw [pool_set] at h
  refine ⟨h, ?_⟩
  unfold pofR mrgR; rw [h]
set_option maxRecDepth 100000 in
set_option maxHeartbeats 1600000 in
theorem implMergePools_any (A : Option Addr) (n c : Nat) (ts : List Blk) (A' : Option Addr) (n' c' : Nat) (ss : List Int) (V : Option Addr) (m d : Nat) (vs : List Vt) (V' : Option Addr) (m' d' : Nat) (vs' : List Vt) (w : World) (h : BlksAt w w.heap.size A n ts) (h' : IntsAt w w.heap.size A' n' ss) (hv : VotesAt w w.heap.size V m vs) (hv' : VotesAt w w.heap.size V' m' vs') (hn : n ≤ 1048576) (hn' : n' ≤ 1048576) (hm : m ≤ 1048576) (hm' : m' ≤ 1048576) (_hcap : m ≤ d) (hnil : V = none → m = 0 ∧ d = 0) (hnil' : V' = none → m' = 0 ∧ d' = 0) :
    Calls Try.prog 36 #[.slice A n c, .slice A' n' c', .agg #[.slice V m d], .agg #[.slice V' m' d']] w (RetPool w (mrgOK ts ss vs vs') (mrgR ts ss vs vs')) := by
  have hlv := Lib.hid hv.1; have hlv' := Lib.hid hv'.1
  have hh := Lib.hid h; have hh' := Lib.hid h'; have hvv := Lib.hid hv; have hvv' := Lib.hid hv'; have hni := Lib.hid hnil; have hni' := Lib.hid hnil'; clear h h' hv hv' hnil hnil'
  obtain ⟨r1, r2, rR, bW, sW⟩ := bx3_rows w (.slice V m d) (.slice V' m' d') (.slice none 0 0) 29 29 29
  have hc1 := r1.cell (i := 0) (by omega)
  have hc2 := r2.cell (i := 0) (by omega)
  have q1 := Lib.hid r1; have q2 := Lib.hid r2
  have qR := Lib.hid rR; have u := Lib.hid bW
  clear bW sW rR r1 r2
  cases hg : poolOk ts ss vs
  · skip
    have hok := Lib.hid (show mrgOK ts ss vs vs' = false by unfold mrgOK; rw [hg]; simp)
    have hr := Lib.hid (show mrgR ts ss vs vs' = [] by unfold mrgR; rw [if_neg (by rw [hok.out]; decide)])
    go_enter Try.func36, Try.ntmps36
    have tk0 : True := trivial
    have tk1 : True := trivial
    go_wp2_with (first
      | (clear tk0; go_at_call 81; refine (goodPool_any A n c ts A' n' c' ss V m d vs _ (hh.out.up u.out) (hh'.out.up' u.out) (hvv.out.up u.out) hn hn' hm).mono ?_; rintro e w1 ⟨rfl, b1⟩; rw [hg]; replace u := Lib.hid (u.out.trans (b1.mono u.out.size)); replace q1 := Lib.hid (rowIs_below q1.out b1 q1.out.lt); replace q2 := Lib.hid (rowIs_below q2.out b1 q2.out.lt); replace qR := Lib.hid (rowIs_below qR.out b1 qR.out.lt); clear b1 hc1 hc2; have hc1 := q1.out.cell (i := 0) (by omega); have hc2 := q2.out.cell (i := 0) (by omega); have hcR := qR.out.cell (i := 0) (by omega); have hfR := qR.out.frozen 0))
    refine bodyPost_ret (results_row2 rfl _ _ (w.heap.size + 2) 29 #[.slice none 0 0] (0, 0) _ rfl (pl_one_set qR.out _) Try.underlying29 rfl (by kernel_rfl)) rfl ?_
    exact ⟨none, 0, 0, by rw [hok.out]; rfl, by rw [hr.out]; exact OwnV.nil _ _, u.out.setCell (by show w.heap.size ≤ w.heap.size + 2; omega) _⟩
  · skip
    cases hg' : poolOk ts ss vs'
    · skip
      have hok := Lib.hid (show mrgOK ts ss vs vs' = false by unfold mrgOK; rw [hg']; simp)
      have hr := Lib.hid (show mrgR ts ss vs vs' = [] by unfold mrgR; rw [if_neg (by rw [hok.out]; decide)])
      go_enter Try.func36, Try.ntmps36
      have tk0 : True := trivial
      have tk1 : True := trivial
      go_wp2_with (first
        | (clear tk0; go_at_call 81; refine (goodPool_any A n c ts A' n' c' ss V m d vs _ (hh.out.up u.out) (hh'.out.up' u.out) (hvv.out.up u.out) hn hn' hm).mono ?_; rintro e w1 ⟨rfl, b1⟩; rw [hg]; replace u := Lib.hid (u.out.trans (b1.mono u.out.size)); replace q1 := Lib.hid (rowIs_below q1.out b1 q1.out.lt); replace q2 := Lib.hid (rowIs_below q2.out b1 q2.out.lt); replace qR := Lib.hid (rowIs_below qR.out b1 qR.out.lt); clear b1 hc1 hc2; have hc1 := q1.out.cell (i := 0) (by omega); have hc2 := q2.out.cell (i := 0) (by omega); have hcR := qR.out.cell (i := 0) (by omega); have hfR := qR.out.frozen 0)
        | (clear tk1; go_at_call 81; refine (goodPool_any A n c ts A' n' c' ss V' m' d' vs' _ (hh.out.up u.out) (hh'.out.up' u.out) (hvv'.out.up u.out) hn hn' hm').mono ?_; rintro e w1 ⟨rfl, b1⟩; rw [hg']; replace u := Lib.hid (u.out.trans (b1.mono u.out.size)); replace q1 := Lib.hid (rowIs_below q1.out b1 q1.out.lt); replace q2 := Lib.hid (rowIs_below q2.out b1 q2.out.lt); replace qR := Lib.hid (rowIs_below qR.out b1 qR.out.lt); clear b1 hc1 hc2 hcR hfR; have hc1 := q1.out.cell (i := 0) (by omega); have hc2 := q2.out.cell (i := 0) (by omega); have hcR := qR.out.cell (i := 0) (by omega); have hfR := qR.out.frozen 0))
      refine bodyPost_ret (results_row2 rfl _ _ (w.heap.size + 2) 29 #[.slice none 0 0] (0, 0) _ rfl (pl_one_set qR.out _) Try.underlying29 rfl (by kernel_rfl)) rfl ?_
      exact ⟨none, 0, 0, by rw [hok.out]; rfl, by rw [hr.out]; exact OwnV.nil _ _, u.out.setCell (by show w.heap.size ≤ w.heap.size + 2; omega) _⟩
    · skip
      have hm60 : m ≤ 60 := by rw [← hlv.out]; exact (poolOk_iff'.1 hg).1.2
      have hm60' : m' ≤ 60 := by rw [← hlv'.out]; exact (poolOk_iff'.1 hg').1.2
      obtain ⟨e2, e3⟩ := mrg_pof hg hg'
      have k2 := Lib.hid e2; have k3 := Lib.hid e3; clear e2 e3
      have klen : vs.length + vs'.length ≤ 120 := by rw [hlv.out, hlv'.out]; omega
      go_enter Try.func36, Try.ntmps36
      have tk0 : True := trivial
      have tk1 : True := trivial
      go_wp2_with (first
        | (clear tk0; go_at_call 81; refine (goodPool_any A n c ts A' n' c' ss V m d vs _ (hh.out.up u.out) (hh'.out.up' u.out) (hvv.out.up u.out) hn hn' hm).mono ?_; rintro e w1 ⟨rfl, b1⟩; rw [hg]; replace u := Lib.hid (u.out.trans (b1.mono u.out.size)); replace q1 := Lib.hid (rowIs_below q1.out b1 q1.out.lt); replace q2 := Lib.hid (rowIs_below q2.out b1 q2.out.lt); replace qR := Lib.hid (rowIs_below qR.out b1 qR.out.lt); clear b1 hc1 hc2; have hc1 := q1.out.cell (i := 0) (by omega); have hc2 := q2.out.cell (i := 0) (by omega); have hcR := qR.out.cell (i := 0) (by omega); have hfR := qR.out.frozen 0)
        | (clear tk1; go_at_call 81; refine (goodPool_any A n c ts A' n' c' ss V' m' d' vs' _ (hh.out.up u.out) (hh'.out.up' u.out) (hvv'.out.up u.out) hn hn' hm').mono ?_; rintro e w2k ⟨rfl, b1⟩; rw [hg']; replace u := Lib.hid (u.out.trans (b1.mono u.out.size)); replace q1 := Lib.hid (rowIs_below q1.out b1 q1.out.lt); replace q2 := Lib.hid (rowIs_below q2.out b1 q2.out.lt); replace qR := Lib.hid (rowIs_below qR.out b1 qR.out.lt); clear b1 hc1 hc2 hcR hfR; have hc1 := q1.out.cell (i := 0) (by omega); have hc2 := q2.out.cell (i := 0) (by omega); have hcR := qR.out.cell (i := 0) (by omega); have hfR := qR.out.frozen 0)
        | (go_at_call 83; clear hcR hfR; have hk2 := two_slices w2k (.slice V m d) (.slice V' m' d'); refine (concat_any w2k.heap.size V m d vs V' m' d' vs' _ hk2.1 hk2.2.1 (hvv.out.up (u.out.trans (hk2.2.2.mono u.out.size))) (hvv'.out.up (u.out.trans (hk2.2.2.mono u.out.size))) hm60 hm60' hni.out hni'.out).mono ?_; rintro e w2 ⟨A2, n2, c2, rfl, o2, b2⟩; have b3 := hk2.2.2.trans (b2.mono hk2.2.2.size); have z2 := Lib.hid o2.votes; have hl2 := Lib.hid o2.len; replace u := Lib.hid (u.out.trans (b3.mono u.out.size)); replace qR := Lib.hid (rowIs_below qR.out b3 qR.out.lt); clear o2 b2 b3 hk2 hc1 hc2)
        | (go_at_call 20; refine (implPoolOf_any A n c ts A' n' c' ss A2 n2 c2 (vs ++ vs') _ (hh.out.up u.out) (hh'.out.up' u.out) z2.out hn hn' (by have a1 := hl2.out; rw [List.length_append] at a1; omega)).mono ?_; rw [k2.out, k3.out]; rintro e w3 ⟨A3, n3, c3, rfl, o3, b3⟩; have o4 := Lib.hid o3; have lR := Lib.hid qR.out.lt; replace u := Lib.hid (u.out.trans (b3.mono u.out.size)); replace qR := Lib.hid (rowIs_below qR.out b3 qR.out.lt); clear o3 b3; have hcR := qR.out.cell (i := 0) (by omega); have hfR := qR.out.frozen 0))
      refine bodyPost_ret (results_row2 rfl _ _ (w.heap.size + 2) 29 #[.slice A3 n3 c3] (0, 0) _ rfl (pl_one_set qR.out _) Try.underlying29 rfl (by kernel_rfl)) rfl ?_
      exact ⟨A3, n3, c3, rfl, (o4.out.setBox lR.out _).fewer (by have := lR.out; omega), u.out.setCell (by show w.heap.size ≤ w.heap.size + 2; omega) _⟩
theorem specMergePoolsX_any (A : Option Addr) (n c : Nat) (ts : List Blk) (A' : Option Addr) (n' c' : Nat) (ss : List Int) (V : Option Addr) (m d : Nat) (vs : List Vt) (V' : Option Addr) (m' d' : Nat) (vs' : List Vt) (w : World) (h : BlksAt w w.heap.size A n ts) (h' : IntsAt w w.heap.size A' n' ss) (hv : VotesAt w w.heap.size V m vs) (hv' : VotesAt w w.heap.size V' m' vs') (hn : n ≤ 1048576) (hn' : n' ≤ 1048576) (hm : m ≤ 1048576) (hm' : m' ≤ 1048576) (hcap : m ≤ d) (hnil : V = none → m = 0 ∧ d = 0) (_hnil' : V' = none → m' = 0 ∧ d' = 0) :
    Calls Try.prog 35 #[.slice A n c, .slice A' n' c', .agg #[.slice V m d], .agg #[.slice V' m' d']] w (RetPool w (mrgOK ts ss vs vs') (mrgR ts ss vs vs')) :=
  specMergePools_any A n c ts A' n' c' ss V m d vs V' m' d' vs' w h h' hv hv' hn hn' hm hm' hcap hnil
theorem mrgR_len (ts : List Blk) (ss : List Int) (a b : List Vt) : (mrgR ts ss a b).length ≤ 100 := by
  unfold mrgR
  split
  · next h => unfold mrgOK at h; simp only [Bool.and_eq_true, decide_eq_true_iff] at h; omega
  · exact Nat.zero_le _
end Go.Proofs.Ytlobjfipefibaaa
