/- What is proved here: what the model's l4Sparse and SparseOf return, and that the first row's length is at most its capacity. No conditions. -/
import Derived.Test.YthiegfbdmmpababSparseFns
namespace Go.Proofs.Ythiegfbdmmpabab
open Go.RowKit

theorem owns_cap {w : World} {base : Nat} {e : TypeId} {size : Nat} {A : Option Addr} {n c m : Nat} {xs : List Value} (h : w.ownsRow base e size (.slice A n c) m xs) : n ≤ c := by
  rcases h.2 with ⟨e1, _⟩ | ⟨g, cap, cur, e1, _, _, hc, _⟩
  · cases e1; exact Nat.le_refl _
  · cases e1; exact hc
/-- The first row of the table v is a slice of n numbers with room for as many. -/
def Cap0 (w : World) (v : Value) (n : Nat) : Prop := ∃ A c, n ≤ c ∧ ∀ g len cap, v = .slice (some ⟨g, 0, none⟩) len cap → w.cell? ⟨g, 0, none⟩ = some (.slice A n c)
theorem Cap0.one {n c : Nat} (w : World) (A : Option Addr) (h : n ≤ c) : Cap0 (w.alloc (.cells #[.slice A n c] 24)) (.slice (some ⟨w.heap.size, 0, none⟩) 1 1) n :=
  ⟨A, c, h, fun g len cap e => by cases e; simp⟩
theorem Cap0.next {w w' : World} {v : Value} {n k g cap B : Nat} {vals : List Value} {x : Value} (h : Cap0 w v n) (ho : w.ownsRow B 24 1 v (k + 1) vals) (ho' : w'.ownsRow B 24 1 (.slice (some ⟨g, 0, none⟩) (k + 1 + 1) cap) (k + 1 + 1) (vals ++ [x])) (_hk : 0 ≤ k) : Cap0 w' (.slice (some ⟨g, 0, none⟩) (k + 1 + 1) cap) n := by
  obtain ⟨A, c, hc, hcell⟩ := h
  refine ⟨A, c, hc, fun g' len cap' e => ?_⟩
  cases e
  obtain ⟨g1, c1, rfl⟩ := ownsRow_succ ho
  have h1 := hcell g1 _ _ rfl
  have hl : vals.length = k + 1 := by simpa using ho.1
  rw [ho.cellAt 0 (by omega)] at h1
  rw [ho'.cellAt 0 (by omega), List.getElem?_append_left (by omega)]
  exact h1

set_option maxRecDepth 100000 in
set_option maxHeartbeats 1000000 in
theorem l4SparseC_any (A : Option Addr) (n c B0 : Nat) (l : List Int) (w : World) (h : IntsAt w B0 A n l) (hB0 : B0 ≤ w.heap.size) (hn0 : 0 < n) (hn : n ≤ 60) :
    Calls Try.prog 105 #[.slice A n c] w fun e w' => ∃ v, e = .returned v ∧ RowsSt w.heap.size w' v (spN n) (spRow l) ∧ Cap0 w' v n ∧ Below w.heap.size w w' := by
  obtain ⟨i0, hi, hz0, hz1, hz2⟩ := info_parts info3
  obtain ⟨j0, hj0, hy0, hy1, hy2⟩ := info_parts infoInts'
  have hl := Lib.hid h.1
  obtain ⟨ab, ao, rfl, hab, _⟩ := h.2 0 hn0
  have hcs : ∀ j, j < n → w.cell? ⟨ab, ao + j, none⟩ = some (.int .i64 (l[j]?.getD 0)) := fun j hj => by
    obtain ⟨b', o', e, _, hc⟩ := h.2 j hj
    cases e; exact hc
  have hcs' := Lib.hid hcs
  have h0 := Lib.hid (World.ownsRow_made (base := w.heap.size) (e := 3) (size := 1) w #[] 0 (Nat.le_refl _) (by decide) rfl)
  clear h hcs
  go_enter Try.func105, Try.ntmps105
  go_wp2_with (at_builtin; refine appendAll _ rfl _ _ 24 rfl w.heap.size i0 Try.underlying24 hi hz0 hz1 hz2 _ [] rfl ?k1 ab ao n c l hl.out hn0 rfl ?k2 ?k3 ?k4 ?k5)
  case k1 => exact h0.out
  case k2 => intro j hj; exact (((Below.refl w.heap.size w).alloc (Nat.le_refl _) _).cell (p := ⟨ab, ao + j, none⟩) (by show ab < w.heap.size; omega)).trans (hcs'.out j hj)
  case k3 => simp; omega
  case k4 => simp
  case k5 =>
    intro g c' w1 h1 h2 h3
    have b1 : Below w.heap.size w w1 := ((Below.refl w.heap.size w).alloc (Nat.le_refl _) _).grown h2 (by simp) (fun k e => by cases e; exact Nat.le_refl _)
    obtain ⟨A1, c1, e1, o1⟩ := OwnAt.of_owns h1
    have hA1 : A1 = some ⟨g, 0, none⟩ := by injection e1 with e1 _ _; exact e1.symm
    rw [hA1, hl.out] at o1
    have r1 := Lib.hid (RowsSt.one (c := c') (r := spRow l) o1 rfl b1.size)
    have u1 := Lib.hid (b1.alloc b1.size (.cells #[.slice (some ⟨g, 0, none⟩) n c'] 24))
    have hcn : n ≤ c' := by have := owns_cap h1; simpa using this
    have z1 := Lib.hid (Cap0.one (c := c') w1 (some ⟨g, 0, none⟩) hcn)
    clear hcn
    clear h1 h2 h3 b1 e1 hA1 o1 h0
    go_wp2_with fail
    go_loopw [3, 4, 5, 6, 7] (fun rv nv _ _ _ wr => ∃ k : Nat, nv = .int .i64 (((2 ^ k : Nat) : Int) * 2) ∧ 2 ^ k ≤ n ∧ Hid (RowsSt w.heap.size wr rv (k + 1) (spRow l)) ∧ Hid (Cap0 wr rv n) ∧ Hid (Below w.heap.size w wr)) (fun _ nv _ _ _ _ => 128 - (intOf nv).toNat)
    case atStart => exact ⟨0, rfl, hn0, r1, z1, u1⟩
    case round =>
      obtain ⟨k, rfl, hkn, hs, hcz, hbel⟩ := hrel
      obtain ⟨w2, hw2⟩ : ∃ w2, w2 = wr := ⟨_, rfl⟩
      subst hw2
      have hk5 : k ≤ 5 := by have := (spN_in (k := k) hn0).2 hkn; have := spN_le hn0 hn; omega
      have hps := Lib.hid (Nat.pow_succ (n := 2) (m := k))
      have hkp : 0 < 2 ^ k := Nat.two_pow_pos k
      by_cases hle : 2 ^ k * 2 ≤ n
      · obtain ⟨gR, cap, Ai, ci, e, hcell, hrow⟩ := hs.out.read (i := k) (by omega)
        have hrl := spRow_len l k
        rw [hl.out] at hrl
        have hrow' := Lib.hid hrow
        have hP := Lib.hid (spPart_all l k)
        rw [hl.out, hps.out] at hP
        have hst := Lib.hid (fun j => spPart_step l k j)
        have hs' := Lib.hid hs.out
        subst e
        obtain ⟨P, hPe⟩ : ∃ P, 2 ^ k = P := ⟨_, rfl⟩
        rw [hPe] at hkn hkp hle hrl hP hst ⊢
        have hPe' := Lib.hid hPe
        have hleI : (P : Int) * 2 ≤ (n : Int) := by omega
        obtain ⟨M, hM⟩ : ∃ M, M = n + 1 - P := ⟨_, rfl⟩
        rw [← hM] at hrl
        rw [hrl] at hcell
        have hrl' := Lib.hid hrl
        have hM' := Lib.hid hM
        have hM1 : n + 1 ≤ M + P := by omega
        have hM2 : M + P ≤ n + 1 := by omega
        clear hPe hrow hs hrl hM
        go_wp2_with fail
        go_loopw [6, 7] (fun ov iv wq => ∃ j : Nat, j ≤ n + 1 - P * 2 ∧ iv = .int .i64 j ∧ Hid (wq.ownsRow w2.heap.size 3 1 ov (spPart l k j).length ((spPart l k j).map (Value.int .i64))) ∧ Hid (Below w2.heap.size w2 wq)) (fun _ iv _ => n + 1 - (intOf iv).toNat)
        case atStart => exact ⟨0, Nat.zero_le _, rfl, Lib.hid (World.ownsRow_nil _ _ _ _), Lib.hid (Below.refl _ _)⟩
        case round =>
          obtain ⟨j, hj, rfl, ho, hbq⟩ := hrel
          by_cases hjl : j + P * 2 ≤ n
          · obtain ⟨ga, oa, eA, hga, hca⟩ := hrow'.out.ints.2 j (by rw [hrl'.out]; omega)
            obtain ⟨gb, ob, eB, _, hcb⟩ := hrow'.out.ints.2 (j + P) (by rw [hrl'.out]; omega)
            rw [eA] at eB
            cases eB
            have hca' := (hbq.out.cell (p := ⟨ga, oa + j, none⟩) hga).trans hca
            have hcb' := (hbq.out.cell (p := ⟨ga, oa + (j + P), none⟩) hga).trans hcb
            have hstj := Lib.hid (hst.out j)
            subst eA
            clear hca hcb
            have hsq := hbq.out.size
            have hsp := spPart_len l k j
            have hj1 : (j : Int) < (M : Int) := by omega
            have hj3 : j < M := by omega
            obtain ⟨Q, hQ⟩ : ∃ Q, Q = j + P := ⟨_, rfl⟩
            rw [← hQ] at hcb' hstj
            have wP := wrap_nat (P := P) (by omega)
            have wQ : IntKind.i64.wrap ((j : Int) + (P : Int)) = (Q : Int) := by rw [hQ]; exact wrap_nat2 (by omega)
            have hj2 : (Q : Int) < (M : Int) := by omega
            have hj4 : Q < M := by omega
            clear hQ
            go_wp2_with fail
            go_region_law (first
              | (refine step_append_lies _ rfl (.tmp 32) (.tmp 45) 24 rfl w2.heap.size 3 i0 _ 1 8 Try.underlying24 hi hz0 hz1 hz2 rfl (by decide) _ (spPart l k j).length ((spPart l k j).map (Value.int .i64)) rfl ((show wr.drew.ownsRow _ _ _ _ _ _ from ho.out).alloc _) ⟨wr.heap.size, 0, none⟩ 1 1 _ rfl rfl (World.news_of_block (heap_alloc_new _ _)) (by intro u hu; simp at hu; subst hu; rfl) (by decide) (by unfold maxLen; omega) (by omega) (by simp; omega) _ rfl ?_; intro g8 cap8 w8 hown8 hgrow8 _ _)
              | (go_simp; go_at_call 110; refine (l1Least_any _ _ _).mono ?_; rintro e w7 ⟨rfl, rfl⟩))
            all_goals
              have hb8 := Lib.hid (hbq.out.trans ((((Below.refl w2.heap.size wr).alloc hsq _).drew).grown hgrow8 (by simp; omega) (fun g hg => (ho.out.lt g hg).1)))
              have o9 := Lib.hid (show w8.ownsRow w2.heap.size 3 1 (.slice (some ⟨g8, 0, none⟩) (j + 1) cap8) (spPart l k (j + 1)).length ((spPart l k (j + 1)).map (Value.int .i64)) by rw [hstj.out]; simpa [hsp] using hown8)
              clear hown8 hgrow8 hca' hcb'
              go_simp
              go_wp2_with fail
              go_roundw
              case rel => first | exact ⟨j + 1, by omega, by go_num, o9, hb8⟩ | exact ⟨_, _, _, _, _, _, _, _, _, _, _, _, _, _, _, _, _, _, _, _, _, _, _, _, _, ⟨j + 1, by omega, by go_num, o9, hb8⟩, by first | rfl | simp [hleI]⟩
              case measure => simp [intOf]; omega
          · have hje : j = n + 1 - P * 2 := by omega
            have hall := Lib.hid (show spPart l k j = spRow l (k + 1) by rw [hje]; exact hP.out)
            have ho' := ho.out
            rw [hall.out] at ho'
            obtain ⟨A5, c5, e5, ho5⟩ := OwnAt.of_owns ho'
            obtain ⟨vals, ad, ca, hown, hv, hap⟩ := hs'.out.own
            have hb2q := hbq.out
            have hownq := owns_below' hown hb2q
            have hvl : vals.length = k + 1 := by simpa using hown.1
            have hvb := Lib.hid (fun k hk => hown.lt k hk)
            have hv0 := Lib.hid hown
            have hro := Lib.hid ho5
            have hv' := Lib.hid hv; have hap' := Lib.hid hap; have hb2' := Lib.hid hb2q
            have hsz1 := hb2q.size
            have hsz0 := hbel.out.size
            have hownq' := Lib.hid hownq
            have hvl' := Lib.hid hvl
            subst e5
            obtain ⟨L, hL⟩ : ∃ L, L = (spRow l (k + 1)).length := ⟨_, rfl⟩
            rw [← hL] at hro ⊢
            have hL' := Lib.hid hL
            clear hje ho' ho5 hown hv hap hb2q hownq hvl hall ho hL
            go_wp2_with (at_builtin; refine wpList_append_lies _ rfl _ _ 57 rfl w.heap.size 24 j0 (.slice none 0 0) 1 24 Try.underlying57 hj0 hy0 hy1 hy2 rfl (by decide) _ _ _ rfl (hownq'.out.alloc _) ⟨wr.heap.size, 0, none⟩ 1 1 [.slice A5 L c5] rfl rfl ?c1 ?c2 (by decide) ?c3 ?c4 ?c5 _ rfl ?_)
            try
              case c1 =>
                intro j u hj
                match j, hj with
                | 0, hj => simp at hj; subst hj; simp [Addr.add]
            case c2 => first | rfl | (intro u hu; simp at hu; subst hu; rfl)
            case c3 => unfold maxLen; omega
            case c4 => omega
            case c5 => first | omega | (simp; omega)
            intro g6 cap6 w6 hown6 hgrow6 hat6 hlt6
            have hfin := RowsSt.next (r := spRow l) hsz0 hv'.out hap'.out hvl'.out hL'.out hb2'.out hro.out hvb.out hown6 hgrow6 hat6 (by simp)
            have hf1 := Lib.hid hfin.1
            have hf3 := Lib.hid (Cap0.next hcz.out hv0.out hown6 (by omega))
            have hf2 := Lib.hid ((hbel.out.trans (hb2'.out.mono hbel.out.size)).trans hfin.2)
            clear hown6 hgrow6 hat6 hfin
            go_wp2_with fail
            go_roundw
            case rel => exact ⟨k + 1, by rw [hps.out, hPe'.out]; go_num, by rw [hps.out, hPe'.out]; exact hle, hf1, hf3, hf2⟩
            case measure => simp [intOf]; omega
      · have hkN : k + 1 = spN n := by
          have h1 := (spN_in (k := k) hn0).2 hkn
          have h2 : ¬ k + 1 < spN n := fun h => by have := (spN_in (k := k + 1) hn0).1 h; rw [hps.out] at this; omega
          omega
        have hs' := hs.out
        rw [hkN] at hs'
        have hs2 := Lib.hid hs'
        clear hs' hs hkN
        generalize 2 ^ k = P at hkn hkp hle ⊢
        clear hps
        go_wp2_with fail
        go_ret
        exact ⟨_, rfl, hs2.out, hcz.out, hbel.out⟩
end Go.Proofs.Ythiegfbdmmpabab
