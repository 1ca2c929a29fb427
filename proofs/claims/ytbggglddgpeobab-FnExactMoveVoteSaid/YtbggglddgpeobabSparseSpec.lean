/- What is proved here: what the model's l4Sparse returns. No conditions. -/
import Derived.Test.YtbggglddgpeobabSparse
import Derived.Deep.RegionLaw
namespace Go.Proofs.Ytbggglddgpeobab
open Go.RowKit

/-- An append of a whole slice of integers in a plain walk, with where the result lies. -/
theorem appendAll {P : Program} (w : World) {ops : Array Oper} {rest : List Oper} {o : Oper} {a : Act} {Q : Exit → Act → World → Prop} (hg : o.guard = none) (s x : Operand) (t : TypeId)
    (hop : o.op = Op.call { callee := Callee.builtin Builtin.append, args := #[s, x], argTypes := #[t, t] }) (base : Nat) (i : TypeInfo)
    (h1 : P.underlying t = some (.slice 3)) (h2 : P.info? 3 = some i) (h3 : i.zero = some (.int .i64 0)) (h4 : i.size = 1) (h5 : i.bytes = 8)
    (v : Value) (ys : List Int) (hs : a.eval s = v) (hown : w.ownsRow base 3 1 v ys.length (ys.map (Value.int .i64))) (ab ao m : Nat) (c : Nat) (ls : List Int) (hl : ls.length = m) (hm : 0 < m) (hx : a.eval x = .slice (some ⟨ab, ao, none⟩) m c)
    (hc : ∀ j, j < m → w.cell? ⟨ab, ao + j, none⟩ = some (.int .i64 (ls[j]?.getD 0))) (b1 : ys.length + m ≤ 1048576) (b3 : base ≤ w.heap.size)
    (hK : ∀ g c' w', w'.ownsRow base 3 1 (.slice (some ⟨g, 0, none⟩) (ys.length + m) c') (ys ++ ls).length ((ys ++ ls).map (Value.int .i64)) → w.grownBy w' v.ownBlock → (v.ownBlock = some g ∨ g = w.heap.size) → wpList P ops Q rest (a.put o.dst (.slice (some ⟨g, 0, none⟩) (ys.length + m) c')) w') :
    wpList P ops Q (o :: rest) a w := by
  refine wpList_append_own_at w hg s x t hop base 3 i (.int .i64 0) 1 8 h1 h2 h3 h4 h5 rfl (by decide) v ys.length _ hs hown ⟨ab, ao, none⟩ m c (ls.map (Value.int .i64)) hx (by simp [hl])
    (fun j u hu => by
      rw [List.getElem?_map] at hu
      have hj : j < ls.length := by
        rcases Nat.lt_or_ge j ls.length with h | h
        · exact h
        · rw [List.getElem?_eq_none h] at hu; cases hu
      rw [Addr.add_lit, hc j (by omega)]
      rw [List.getElem?_eq_getElem hj] at hu ⊢
      exact hu)
    (by simp [Value.oneCell']) (by simp only [maxLen]; omega) (by omega) b3 ?_
  intro v' w' r1 r2 _ r4
  obtain ⟨m', rfl⟩ : ∃ m', m = m' + 1 := ⟨m - 1, by omega⟩
  obtain ⟨g, c', rfl⟩ := ownsRow_succ (k := ys.length + m') r1
  refine hK g c' w' (by simpa [hl, Nat.add_assoc] using r1) r2 ?_
  rcases r4 with e | e
  · exact .inl (by rw [← e]; rfl)
  · exact .inr (by simpa [Value.ownBlock] using e)

/-- A slice of one row. -/
theorem RowsSt.one {B n c : Nat} {w : World} {A : Option Addr} {l : List Int} {r : Nat → List Int} (h : OwnAt w B A n l) (hr : r 0 = l) (hB : B ≤ w.heap.size) :
    RowsSt B (w.alloc (.cells #[.slice A n c] 24)) (.slice (some ⟨w.heap.size, 0, none⟩) 1 1) 1 r := by
  have hb : Below w.heap.size w (w.alloc (.cells #[.slice A n c] 24)) := (Below.refl _ w).alloc (Nat.le_refl _) _
  refine ⟨[.slice A n c], fun _ => A, fun _ => c, ⟨rfl, .inr ⟨w.heap.size, 1, #[.slice A n c], rfl, hB, World.alloc_heap_new w _, Nat.le_refl _, by decide, rfl, rfl⟩⟩, fun i hi => ?_, fun i j hi hj hij => by omega⟩
  have : i = 0 := by omega
  subst this
  rw [hr, h.len]
  refine ⟨rfl, h.below hb, fun x hx e => ?_⟩
  have := (h.low x hx).2
  have e' : w.heap.size = x.block := by simpa [Value.ownBlock] using e
  omega

theorem infoInts' : (Try.prog.info? 24).map (fun i => (i.zero, i.size, i.bytes)) = some (some (.slice none 0 0), 1, 24) := by kernel_rfl
theorem wrap_nat {P : Nat} (h : P ≤ 1000) : IntKind.i64.wrap (P : Int) = (P : Int) := by rw [IntKind.wrap_i64]; omega
theorem wrap_nat2 {j P : Nat} (h : j + P ≤ 1000) : IntKind.i64.wrap ((j : Int) + (P : Int)) = ((j + P : Nat) : Int) := by rw [IntKind.wrap_i64]; omega
theorem l1Least_any (a b : Int) (w : World) : Calls Try.prog 133 #[.int .i64 a, .int .i64 b] w fun e w' => e = .returned (.int .i64 (minI a b)) ∧ w' = w := by
  by_cases h : a < b
  · have hr := Lib.hid (show minI a b = a by unfold minI; rw [if_pos h])
    go_enter Try.func133, Try.ntmps133
    go_wp2_with fail
    go_ret
    exact ⟨by rw [hr.out]; rfl, rfl⟩
  · have hr := Lib.hid (show minI a b = b by unfold minI; rw [if_neg h])
    go_enter Try.func133, Try.ntmps133
    go_wp2_with fail
    go_ret
    exact ⟨by rw [hr.out]; rfl, rfl⟩

set_option maxRecDepth 100000 in
set_option maxHeartbeats 1000000 in
theorem l4Sparse_any (A : Option Addr) (n c B0 : Nat) (l : List Int) (w : World) (h : IntsAt w B0 A n l) (hB0 : B0 ≤ w.heap.size) (hn0 : 0 < n) (hn : n ≤ 60) :
    Calls Try.prog 128 #[.slice A n c] w fun e w' => ∃ v, e = .returned v ∧ RowsSt w.heap.size w' v (spN n) (spRow l) ∧ Below w.heap.size w w' := by
  obtain ⟨i0, hi, hz0, hz1, hz2⟩ := info_parts info3
  obtain ⟨j0, hj0, hy0, hy1, hy2⟩ := info_parts infoInts'
  have hl := Lib.hid h.1
  obtain ⟨ab, ao, rfl, hab, _⟩ := h.2 0 hn0
  have hcs : ∀ j, j < n → w.cell? ⟨ab, ao + j, none⟩ = some (.int .i64 (l[j]?.getD 0)) := fun j hj => by
    obtain ⟨b', o', e, _, hc⟩ := h.2 j hj
    cases e; exact hc
  have hcs' := Lib.hid hcs
  have h0 := Lib.hid (World.ownsRow_made (base := w.heap.size) (e := 3) (size := 1) w #[] 0 (Nat.le_refl _) (by decide) rfl)
  clear h hcs
  go_enter Try.func128, Try.ntmps128
  go_wp2_with (at_builtin; refine appendAll _ rfl _ _ 24 rfl w.heap.size i0 Try.underlying24 hi hz0 hz1 hz2 _ [] rfl ?k1 ab ao n c l hl.out hn0 rfl ?k2 ?k3 ?k4 ?k5)
  case k1 => exact h0.out
  case k2 => intro j hj; exact (((Below.refl w.heap.size w).alloc (Nat.le_refl _) _).cell (p := ⟨ab, ao + j, none⟩) (by show ab < w.heap.size; omega)).trans (hcs'.out j hj)
  case k3 => simp; omega
  case k4 => simp
  case k5 =>
    intro g c' w1 h1 h2 h3
    have b1 : Below w.heap.size w w1 := ((Below.refl w.heap.size w).alloc (Nat.le_refl _) _).grown h2 (by simp) (fun k e => by cases e; exact Nat.le_refl _)
    obtain ⟨A1, c1, e1, o1⟩ := OwnAt.of_owns h1
    have hA1 : A1 = some ⟨g, 0, none⟩ := by injection e1 with e1 _ _; exact e1.symm
    rw [hA1, hl.out] at o1
    have r1 := Lib.hid (RowsSt.one (c := c') (r := spRow l) o1 rfl b1.size)
    have u1 := Lib.hid (b1.alloc b1.size (.cells #[.slice (some ⟨g, 0, none⟩) n c'] 24))
    clear h1 h2 h3 b1 e1 hA1 o1 h0
    go_wp2_with fail
    go_loopw [3, 4, 5, 6, 7] (fun rv nv _ _ _ wr => ∃ k : Nat, nv = .int .i64 (((2 ^ k : Nat) : Int) * 2) ∧ 2 ^ k ≤ n ∧ Hid (RowsSt w.heap.size wr rv (k + 1) (spRow l)) ∧ Hid (Below w.heap.size w wr)) (fun _ nv _ _ _ _ => 128 - (intOf nv).toNat)
    case atStart => exact ⟨0, rfl, hn0, r1, u1⟩
    case round =>
      obtain ⟨k, rfl, hkn, hs, hbel⟩ := hrel
      obtain ⟨w2, hw2⟩ : ∃ w2, w2 = wr := ⟨_, rfl⟩
      subst hw2
      have hk5 : k ≤ 5 := by have := (spN_in (k := k) hn0).2 hkn; have := spN_le hn0 hn; omega
      have hps := Lib.hid (Nat.pow_succ (n := 2) (m := k))
      have hkp : 0 < 2 ^ k := Nat.two_pow_pos k
      by_cases hle : 2 ^ k * 2 ≤ n
      · obtain ⟨gR, cap, Ai, ci, e, hcell, hrow⟩ := hs.out.read (i := k) (by omega)
        have hrl := spRow_len l k
        rw [hl.out] at hrl
        have hrow' := Lib.hid hrow
        have hP := Lib.hid (spPart_all l k)
        rw [hl.out, hps.out] at hP
        have hst := Lib.hid (fun j => spPart_step l k j)
        have hs' := Lib.hid hs.out
        subst e
        obtain ⟨P, hPe⟩ : ∃ P, 2 ^ k = P := ⟨_, rfl⟩
        rw [hPe] at hkn hkp hle hrl hP hst ⊢
        have hPe' := Lib.hid hPe
        have hleI : (P : Int) * 2 ≤ (n : Int) := by omega
        obtain ⟨M, hM⟩ : ∃ M, M = n + 1 - P := ⟨_, rfl⟩
        rw [← hM] at hrl
        rw [hrl] at hcell
        have hrl' := Lib.hid hrl
        have hM' := Lib.hid hM
        have hM1 : n + 1 ≤ M + P := by omega
        have hM2 : M + P ≤ n + 1 := by omega
        clear hPe hrow hs hrl hM
        go_wp2_with fail
        go_loopw [6, 7] (fun ov iv wq => ∃ j : Nat, j ≤ n + 1 - P * 2 ∧ iv = .int .i64 j ∧ Hid (wq.ownsRow w2.heap.size 3 1 ov (spPart l k j).length ((spPart l k j).map (Value.int .i64))) ∧ Hid (Below w2.heap.size w2 wq)) (fun _ iv _ => n + 1 - (intOf iv).toNat)
        case atStart => exact ⟨0, Nat.zero_le _, rfl, Lib.hid (World.ownsRow_nil _ _ _ _), Lib.hid (Below.refl _ _)⟩
        case round =>
          obtain ⟨j, hj, rfl, ho, hbq⟩ := hrel
          by_cases hjl : j + P * 2 ≤ n
          · obtain ⟨ga, oa, eA, hga, hca⟩ := hrow'.out.ints.2 j (by rw [hrl'.out]; omega)
            obtain ⟨gb, ob, eB, _, hcb⟩ := hrow'.out.ints.2 (j + P) (by rw [hrl'.out]; omega)
            rw [eA] at eB
            cases eB
            have hca' := (hbq.out.cell (p := ⟨ga, oa + j, none⟩) hga).trans hca
            have hcb' := (hbq.out.cell (p := ⟨ga, oa + (j + P), none⟩) hga).trans hcb
            have hstj := Lib.hid (hst.out j)
            subst eA
            clear hca hcb
            have hsq := hbq.out.size
            have hsp := spPart_len l k j
            have hj1 : (j : Int) < (M : Int) := by omega
            have hj3 : j < M := by omega
            obtain ⟨Q, hQ⟩ : ∃ Q, Q = j + P := ⟨_, rfl⟩
            rw [← hQ] at hcb' hstj
            have wP := wrap_nat (P := P) (by omega)
            have wQ : IntKind.i64.wrap ((j : Int) + (P : Int)) = (Q : Int) := by rw [hQ]; exact wrap_nat2 (by omega)
            have hj2 : (Q : Int) < (M : Int) := by omega
            have hj4 : Q < M := by omega
            clear hQ
            go_wp2_with fail
            go_region_law (first
              | (refine step_append_lies _ rfl (.tmp 32) (.tmp 45) 24 rfl w2.heap.size 3 i0 _ 1 8 Try.underlying24 hi hz0 hz1 hz2 rfl (by decide) _ (spPart l k j).length ((spPart l k j).map (Value.int .i64)) rfl ((show wr.drew.ownsRow _ _ _ _ _ _ from ho.out).alloc _) ⟨wr.heap.size, 0, none⟩ 1 1 _ rfl rfl (World.news_of_block (heap_alloc_new _ _)) (by intro u hu; simp at hu; subst hu; rfl) (by decide) (by unfold maxLen; omega) (by omega) (by simp; omega) _ rfl ?_; intro g8 cap8 w8 hown8 hgrow8 _ _)
              | (go_simp; go_at_call 133; refine (l1Least_any _ _ _).mono ?_; rintro e w7 ⟨rfl, rfl⟩))
            all_goals
              have hb8 := Lib.hid (hbq.out.trans ((((Below.refl w2.heap.size wr).alloc hsq _).drew).grown hgrow8 (by simp; omega) (fun g hg => (ho.out.lt g hg).1)))
              have o9 := Lib.hid (show w8.ownsRow w2.heap.size 3 1 (.slice (some ⟨g8, 0, none⟩) (j + 1) cap8) (spPart l k (j + 1)).length ((spPart l k (j + 1)).map (Value.int .i64)) by rw [hstj.out]; simpa [hsp] using hown8)
              clear hown8 hgrow8 hca' hcb'
              go_simp
              go_wp2_with fail
              go_roundw
              case rel => first | exact ⟨j + 1, by omega, by go_num, o9, hb8⟩ | exact ⟨_, _, _, _, _, _, _, _, _, _, _, _, _, _, _, _, _, _, _, _, _, _, _, _, _, ⟨j + 1, by omega, by go_num, o9, hb8⟩, by first | rfl | simp [hleI]⟩
              case measure => simp [intOf]; omega
          · have hje : j = n + 1 - P * 2 := by omega
            have hall := Lib.hid (show spPart l k j = spRow l (k + 1) by rw [hje]; exact hP.out)
            have ho' := ho.out
            rw [hall.out] at ho'
            obtain ⟨A5, c5, e5, ho5⟩ := OwnAt.of_owns ho'
            obtain ⟨vals, ad, ca, hown, hv, hap⟩ := hs'.out.own
            have hb2q := hbq.out
            have hownq := owns_below' hown hb2q
            have hvl : vals.length = k + 1 := by simpa using hown.1
            have hvb := Lib.hid (fun k hk => hown.lt k hk)
            have hro := Lib.hid ho5
            have hv' := Lib.hid hv; have hap' := Lib.hid hap; have hb2' := Lib.hid hb2q
            have hsz1 := hb2q.size
            have hsz0 := hbel.out.size
            have hownq' := Lib.hid hownq
            have hvl' := Lib.hid hvl
            subst e5
            obtain ⟨L, hL⟩ : ∃ L, L = (spRow l (k + 1)).length := ⟨_, rfl⟩
            rw [← hL] at hro ⊢
            have hL' := Lib.hid hL
            clear hje ho' ho5 hown hv hap hb2q hownq hvl hall ho hL
            go_wp2_with (at_builtin; refine wpList_append_lies _ rfl _ _ 77 rfl w.heap.size 24 j0 (.slice none 0 0) 1 24 Try.underlying77 hj0 hy0 hy1 hy2 rfl (by decide) _ _ _ rfl (hownq'.out.alloc _) ⟨wr.heap.size, 0, none⟩ 1 1 [.slice A5 L c5] rfl rfl ?c1 ?c2 (by decide) ?c3 ?c4 ?c5 _ rfl ?_)
            try
              case c1 =>
                intro j u hj
                match j, hj with
                | 0, hj => simp at hj; subst hj; simp [Addr.add]
            case c2 => first | rfl | (intro u hu; simp at hu; subst hu; rfl)
            case c3 => unfold maxLen; omega
            case c4 => omega
            case c5 => first | omega | (simp; omega)
            intro g6 cap6 w6 hown6 hgrow6 hat6 hlt6
            have hfin := RowsSt.next (r := spRow l) hsz0 hv'.out hap'.out hvl'.out hL'.out hb2'.out hro.out hvb.out hown6 hgrow6 hat6 (by simp)
            have hf1 := Lib.hid hfin.1
            have hf2 := Lib.hid ((hbel.out.trans (hb2'.out.mono hbel.out.size)).trans hfin.2)
            clear hown6 hgrow6 hat6 hfin
            go_wp2_with fail
            go_roundw
            case rel => exact ⟨k + 1, by rw [hps.out, hPe'.out]; go_num, by rw [hps.out, hPe'.out]; exact hle, hf1, hf2⟩
            case measure => simp [intOf]; omega
      · have hkN : k + 1 = spN n := by
          have h1 := (spN_in (k := k) hn0).2 hkn
          have h2 : ¬ k + 1 < spN n := fun h => by have := (spN_in (k := k + 1) hn0).1 h; rw [hps.out] at this; omega
          omega
        have hs' := hs.out
        rw [hkN] at hs'
        have hs2 := Lib.hid hs'
        clear hs' hs hkN
        generalize 2 ^ k = P at hkn hkp hle ⊢
        clear hps
        go_wp2_with fail
        go_ret
        exact ⟨_, rfl, hs2.out, hbel.out⟩
end Go.Proofs.Ytbggglddgpeobab
