/- What is proved here: what the model's l6All, l6Tell and PoolOf return. No conditions but lengths. -/
import Derived.Test.YtlobjfipefibaaaPutVWalk
import Derived.Test.YtlobjfipefibaaaPoolBox
namespace Go.Proofs.Ytlobjfipefibaaa
open Go.RowKit

set_option maxRecDepth 100000 in
set_option maxHeartbeats 1600000 in
theorem l6All_any (A : Option Addr) (n c : Nat) (l : List Vt) (V : Option Addr) (m d : Nat) (vs : List Vt) (w : World) (hl : VotesAt w w.heap.size A n l) (hv : VotesAt w w.heap.size V m vs) (hn : n + m ≤ 1048576) (hcap : n ≤ c) (hnil : A = none → n = 0 ∧ c = 0) :
    Calls Try.prog 70 #[.slice A n c, .slice V m d] w (RetL w (allV l vs m)) := by
  have hlv := Lib.hid hv.1; have hll := Lib.hid hl.1
  have hvv := Lib.hid hv; have hl0 := Lib.hid hl; have hnil' := Lib.hid hnil
  clear hl hv hnil
  go_enter Try.func70, Try.ntmps70
  go_wp2_with fail
  go_loopw [0, 6, 9] (fun o _ i wr => ∃ k : Nat, k ≤ m ∧ i = .int .i64 k ∧ (∃ A1 n1 c1, o = .slice A1 n1 c1 ∧ Hid (VotesAt wr wr.heap.size A1 n1 (allV l vs k)) ∧ n1 ≤ c1 ∧ Hid (A1 = none → n1 = 0 ∧ c1 = 0)) ∧ Hid (Below w.heap.size w wr)) (fun _ _ i _ => m - (intOf i).toNat)
  case atStart => exact ⟨0, Nat.zero_le _, rfl, ⟨A, n, c, rfl, hl0, hcap, hnil'⟩, Lib.hid (Below.refl _ _)⟩
  case round =>
    obtain ⟨k, hk, rfl, ⟨A1, n1, c1, rfl, hl1, hcap1, hnil1⟩, hbel⟩ := hrel
    have hn1 : n1 ≤ n + k := by have := allV_len l vs k; rw [hl1.out.1, hll.out] at this; exact this
    by_cases hlt : k < m
    · obtain ⟨vb, vo, rfl, hvb, e0', e1', e2'⟩ := hvv.out.2 k hlt
      have e0 := (hbel.out.cell (p := ⟨vb, vo + k * 3, none⟩) hvb).trans e0'
      have e1 := (hbel.out.cell (p := ⟨vb, vo + k * 3 + 1, none⟩) hvb).trans e1'
      have e2 := (hbel.out.cell (p := ⟨vb, vo + k * 3 + 2, none⟩) hvb).trans e2'
      obtain ⟨v, hvk⟩ : ∃ v, getV vs k = v := ⟨_, rfl⟩
      rw [hvk] at e0 e1 e2
      obtain ⟨x, y, z⟩ := v
      simp only at e0 e1 e2
      have hst := Lib.hid (show allV l vs (k + 1) = putV (allV l vs k) (x, y, z) by simp only [allV]; rw [hvk])
      have hb1 := bx_below wr (.cells #[.int .i64 x, .int .i64 y, .int .i64 z] 53)
      have u1 := Lib.hid (hbel.out.trans (hb1.mono hbel.out.size))
      have l1 := Lib.hid (hl1.out.up hb1)
      clear hvk e0' e1' e2' hb1
      go_wp2_with (go_at_call 80; refine (l6Put_any A1 n1 c1 (allV l vs k) x y z _ l1.out (by omega) hcap1 hnil1.out).mono ?_; rintro e w4 ⟨A4, n4, c4, rfl, v4, cap4, nil4, b4⟩; have z4 := Lib.hid v4; have y4 := Lib.hid nil4; have u4 := Lib.hid (u1.out.trans (b4.mono u1.out.size)); clear v4 nil4 b4)
      go_roundw
      case rel => exact ⟨k + 1, by omega, by go_num, ⟨A4, n4, c4, rfl, Lib.hid (by rw [hst.out]; exact z4.out), cap4, y4⟩, u4⟩
      case measure => simp [intOf]; omega
    · have hkm : k = m := by omega
      subst hkm
      go_wp2_with fail
      go_ret
      exact ⟨A1, n1, c1, rfl, hl1.out, hcap1, hnil1.out, hbel.out⟩

def tellR (ts : List Blk) (ss : List Int) (vs : List Vt) : List Vt := if poolOk ts ss vs = true then vs else []
set_option maxRecDepth 100000 in
set_option maxHeartbeats 1600000 in
theorem l6Tell_any (A : Option Addr) (n c : Nat) (ts : List Blk) (A' : Option Addr) (n' c' : Nat) (ss : List Int) (V : Option Addr) (m d : Nat) (vs : List Vt) (w : World) (h : BlksAt w w.heap.size A n ts) (h' : IntsAt w w.heap.size A' n' ss) (hv : VotesAt w w.heap.size V m vs) (hn : n ≤ 1048576) (hn' : n' ≤ 1048576) (hm : m ≤ 1048576) (hnil : V = none → m = 0 ∧ d = 0) :
    Calls Try.prog 69 #[.slice A n c, .slice A' n' c', .slice V m d] w (RetPool w (poolOk ts ss vs) (tellR ts ss vs)) := by
  have hlv := Lib.hid hv.1
  have hh := Lib.hid h; have hh' := Lib.hid h'; have hvv := Lib.hid hv; have hnil' := Lib.hid hnil; clear h h' hv hnil
  obtain ⟨rR, bW, sW⟩ := bx1_rows w (.slice none 0 0) 29
  have qR := Lib.hid rR; have u := Lib.hid bW
  have s0 := Lib.hid (World.ownsRow_made (base := w.heap.size + 1) (e := 53) (size := 3) (w.alloc (.cells #[.slice none 0 0] 29)) #[] 0 (Nat.le_of_eq sW.symm) (by decide) rfl)
  have u0 := Lib.hid (bW.trans ((bx_below (w.alloc (.cells #[.slice none 0 0] 29)) (.cells #[] 53)).mono bW.size))
  have hcl := Lib.hid (show ∀ ad, V = some ad → ∀ t, t < m * 3 → ∀ W', Below w.heap.size w W' → W'.cell? (ad.add t) = some (cellsV vs t) from fun ad e0 t ht W' hb => by
    obtain ⟨b', off', e, hbl, _⟩ := hvv.out.2 0 (by omega)
    rw [e0] at e
    cases e
    have h1 := hvv.out
    rw [e0] at h1
    rw [Addr.add_lit]
    exact (hb.cell (p := ⟨b', off' + t, none⟩) hbl).trans (votes_cell h1 ht))
  rw [sW] at s0
  clear rR bW sW
  cases hg : poolOk ts ss vs
  · have hr := Lib.hid (show tellR ts ss vs = [] by unfold tellR; rw [if_neg (by rw [hg]; decide)])
    go_enter Try.func69, Try.ntmps69
    go_wp2_with (first
      | (at_builtin
         refine appendSlV _ rfl (.tmp 9) (.tmp 10) 27 rfl (w.heap.size + 1) Try.underlying27 _ [] rfl s0.out V m d vs hlv.out rfl hnil'.out (fun ad e t ht => hcl.out ad e t ht _ u0.out) (by simp; omega) (by simp) ?_
         intro v1 w1 o1 g1 a1
         have f1 : Below (w.heap.size + 1) (w.alloc (.cells #[.slice none 0 0] 29)) w1 := (((Below.refl (w.heap.size + 1) (w.alloc (.cells #[.slice none 0 0] 29))).alloc (by simp) (.cells #[] 53)).grown g1 (by simp) (fun q e => by cases e; exact Nat.le_refl _))
         rw [List.nil_append] at o1
         obtain ⟨A1, c1, e1, p1⟩ := OwnV.of_owns o1
         obtain ⟨L, hL⟩ : ∃ L, vs.length = L := ⟨_, rfl⟩
         rw [hL] at e1 p1
         have hLm : L ≤ 1048576 := (by rw [← hL, hlv.out]; exact hm)
         subst e1
         have kk := bx_below w1 (.cells #[.slice A1 L c1] 29)
         have fs : (w.alloc (.cells #[.slice none 0 0] 29)).heap.size ≤ w1.heap.size := f1.size
         have hlt1 : w.heap.size + 1 ≤ w1.heap.size := (by simpa using fs)
         have x1 := Lib.hid (bx_row w1 (.slice A1 L c1) 29)
         have hx1 := x1.out.cell (i := 0) (by omega)
         have p1' := Lib.hid (p1.below kk)
         replace qR := Lib.hid (rowIs_below (rowIs_below qR.out f1 (Nat.lt_succ_self _)) kk (by omega))
         replace u := Lib.hid (u.out.trans ((f1.trans (kk.mono hlt1)).mono (Nat.le_succ _)))
         clear o1 g1 a1 p1 kk fs f1 hL)
      | (go_at_call 78; refine (specGoodPool_any A n c ts A' n' c' ss A1 L c1 vs _ (hh.out.up u.out) (hh'.out.up' u.out) p1'.out.votes hn hn' hLm).mono ?_; rintro e w2 ⟨rfl, b2⟩; rw [hg]; have p2 := Lib.hid (p1'.out.below b2); replace u := Lib.hid (u.out.trans (b2.mono u.out.size)); replace qR := Lib.hid (rowIs_below qR.out b2 qR.out.lt); replace x1 := Lib.hid (rowIs_below x1.out b2 x1.out.lt); clear b2 hx1; have hcR := qR.out.cell (i := 0) (by omega); have hfR := qR.out.frozen 0))
    refine bodyPost_ret (results_row2 rfl _ _ (w.heap.size) 29 #[.slice none 0 0] (0, 0) _ rfl (pl_one_set qR.out _) Try.underlying29 rfl (by kernel_rfl)) rfl ?_
    exact ⟨none, 0, 0, rfl, by rw [hr.out]; exact OwnV.nil _ _, u.out.setCell (by show w.heap.size ≤ w.heap.size; omega) _⟩
  · have hr := Lib.hid (show tellR ts ss vs = vs by unfold tellR; rw [if_pos hg])
    go_enter Try.func69, Try.ntmps69
    go_wp2_with (first
      | (at_builtin
         refine appendSlV _ rfl (.tmp 9) (.tmp 10) 27 rfl (w.heap.size + 1) Try.underlying27 _ [] rfl s0.out V m d vs hlv.out rfl hnil'.out (fun ad e t ht => hcl.out ad e t ht _ u0.out) (by simp; omega) (by simp) ?_
         intro v1 w1 o1 g1 a1
         have f1 : Below (w.heap.size + 1) (w.alloc (.cells #[.slice none 0 0] 29)) w1 := (((Below.refl (w.heap.size + 1) (w.alloc (.cells #[.slice none 0 0] 29))).alloc (by simp) (.cells #[] 53)).grown g1 (by simp) (fun q e => by cases e; exact Nat.le_refl _))
         rw [List.nil_append] at o1
         obtain ⟨A1, c1, e1, p1⟩ := OwnV.of_owns o1
         obtain ⟨L, hL⟩ : ∃ L, vs.length = L := ⟨_, rfl⟩
         rw [hL] at e1 p1
         have hLm : L ≤ 1048576 := (by rw [← hL, hlv.out]; exact hm)
         subst e1
         have kk := bx_below w1 (.cells #[.slice A1 L c1] 29)
         have fs : (w.alloc (.cells #[.slice none 0 0] 29)).heap.size ≤ w1.heap.size := f1.size
         have hlt1 : w.heap.size + 1 ≤ w1.heap.size := (by simpa using fs)
         have x1 := Lib.hid (bx_row w1 (.slice A1 L c1) 29)
         have hx1 := x1.out.cell (i := 0) (by omega)
         have p1' := Lib.hid (p1.below kk)
         replace qR := Lib.hid (rowIs_below (rowIs_below qR.out f1 (Nat.lt_succ_self _)) kk (by omega))
         replace u := Lib.hid (u.out.trans ((f1.trans (kk.mono hlt1)).mono (Nat.le_succ _)))
         clear o1 g1 a1 p1 kk fs f1 hL)
      | (go_at_call 78; refine (specGoodPool_any A n c ts A' n' c' ss A1 L c1 vs _ (hh.out.up u.out) (hh'.out.up' u.out) p1'.out.votes hn hn' hLm).mono ?_; rintro e w2 ⟨rfl, b2⟩; rw [hg]; have p2 := Lib.hid (p1'.out.below b2); replace u := Lib.hid (u.out.trans (b2.mono u.out.size)); replace qR := Lib.hid (rowIs_below qR.out b2 qR.out.lt); replace x1 := Lib.hid (rowIs_below x1.out b2 x1.out.lt); clear b2 hx1; have hx1 := x1.out.cell (i := 0) (by omega); have hcR := qR.out.cell (i := 0) (by omega); have hfR := qR.out.frozen 0))
    refine bodyPost_ret (results_row2 rfl _ _ (w.heap.size) 29 #[.slice A1 L c1] (0, 0) _ rfl (pl_one_set qR.out _) Try.underlying29 rfl (by kernel_rfl)) rfl ?_
    exact ⟨A1, L, c1, rfl, by rw [hr.out]; exact (p2.out.setBox (Nat.lt_succ_self _) _).fewer (Nat.le_succ _), u.out.setCell (by show w.heap.size ≤ w.heap.size; omega) _⟩

theorem tell_set (ts : List Blk) (ss : List Int) (l : List Vt) : tellR ts ss (setV l) = pofR ts ss l := by
  unfold tellR pofR; rw [pool_set]
set_option maxRecDepth 100000 in
set_option maxHeartbeats 1600000 in
theorem specPoolOf_any (A : Option Addr) (n c : Nat) (ts : List Blk) (A' : Option Addr) (n' c' : Nat) (ss : List Int) (V : Option Addr) (m d : Nat) (vs : List Vt) (w : World) (h : BlksAt w w.heap.size A n ts) (h' : IntsAt w w.heap.size A' n' ss) (hv : VotesAt w w.heap.size V m vs) (hn : n ≤ 1048576) (hn' : n' ≤ 1048576) (hm : m ≤ 1048576) :
    Calls Try.prog 16 #[.slice A n c, .slice A' n' c', .slice V m d] w (RetPool w (pofOK ts ss vs) (pofR ts ss vs)) := by
  have hlv := Lib.hid hv.1
  have hh := Lib.hid h; have hh' := Lib.hid h'; have hvv := Lib.hid hv; clear h h' hv
  obtain ⟨rR, bW, sW⟩ := bx1_rows w (.slice none 0 0) 29
  have qR := Lib.hid rR; have u := Lib.hid bW
  have hset := Lib.hid (show allV [] vs m = setV vs by unfold setV; rw [hlv.out])
  have hsl := Lib.hid (setV_len vs)
  have hok := Lib.hid (pool_set ts ss vs)
  have htl := Lib.hid (tell_set ts ss vs)
  clear rR bW sW
  go_enter Try.func16, Try.ntmps16
  go_wp2_with (first
    | (go_at_call 70; refine (l6All_any none 0 0 [] V m d vs _ VotesAt.nil (hvv.out.up u.out) (by omega) (Nat.le_refl _) (fun _ => ⟨rfl, rfl⟩)).mono ?_; rw [hset.out]; rintro e w1 ⟨A1, n1, c1, rfl, v1, cap1, nil1, b1⟩; have z1 := Lib.hid v1; have y1 := Lib.hid nil1; replace u := Lib.hid (u.out.trans (b1.mono u.out.size)); replace qR := Lib.hid (rowIs_below qR.out b1 qR.out.lt); clear v1 nil1 b1)
    | (go_at_call 69; refine (l6Tell_any A n c ts A' n' c' ss A1 n1 c1 (setV vs) _ (hh.out.up u.out) (hh'.out.up' u.out) z1.out hn hn' (by have := z1.out.1; have := hsl.out; have := hlv.out; omega) y1.out).mono ?_; rw [hok.out, htl.out]; rintro e w2 ⟨A2, n2, c2, rfl, o2, b2⟩; have o2' := Lib.hid o2; have lR := Lib.hid qR.out.lt; replace u := Lib.hid (u.out.trans (b2.mono u.out.size)); replace qR := Lib.hid (rowIs_below qR.out b2 qR.out.lt); clear o2 b2; have hcR := qR.out.cell (i := 0) (by omega); have hfR := qR.out.frozen 0))
  refine bodyPost_ret (results_row2 rfl _ _ (w.heap.size) 29 #[.slice A2 n2 c2] (0, 0) _ rfl (pl_one_set qR.out _) Try.underlying29 rfl (by kernel_rfl)) rfl ?_
  exact ⟨A2, n2, c2, rfl, (o2'.out.setBox lR.out _).fewer (by have := lR.out; omega), u.out.setCell (by show w.heap.size ≤ w.heap.size; omega) _⟩
end Go.Proofs.Ytlobjfipefibaaa
