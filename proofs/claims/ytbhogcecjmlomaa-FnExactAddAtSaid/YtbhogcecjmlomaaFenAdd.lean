/- What is proved here: what the program's addToCells writes. No conditions but the cells' number. -/
import Derived.Test.YtbhogcecjmlomaaFenImpl
namespace Go.Proofs.Ytbhogcecjmlomaa
open Go.RowKit

/-- A number added to the cells that cover the weight k. -/
def addC (xs : List Int) (k : Nat) (by_ : Int) : List Int := (List.range xs.length).map fun i => if cov (i + 1) k = true then wrap64 (xs[i]?.getD 0 + by_) else xs[i]?.getD 0
theorem addC_len (xs : List Int) (k : Nat) (by_ : Int) : (addC xs k by_).length = xs.length := by simp [addC]
theorem addC_get {xs : List Int} {k i : Nat} {by_ : Int} (h : i < xs.length) : (addC xs k by_)[i]?.getD 0 = if cov (i + 1) k = true then wrap64 (xs[i]?.getD 0 + by_) else xs[i]?.getD 0 := by simp [addC, h]

/-- The cells below n have been seen to. -/
def addF (xs : List Int) (k : Nat) (by_ : Int) (n : Nat) (i : Nat) : Value := .int .i64 (if cov (i + 1) k = true ∧ i + 1 < n then wrap64 (xs[i]?.getD 0 + by_) else xs[i]?.getD 0)
theorem addF_at (xs : List Int) (k : Nat) (by_ : Int) {p : Nat} (hp : 0 < p) : addF xs k by_ p (p - 1) = .int .i64 (xs[p - 1]?.getD 0) := by
  unfold addF; rw [if_neg (fun h => by have := h.2; omega)]
theorem addF_first (xs : List Int) {k : Nat} (by_ : Int) (hk : k < 32) (i : Nat) : addF xs k by_ (k + 1) i = .int .i64 (xs[i]?.getD 0) := by
  unfold addF
  rw [if_neg]
  rintro ⟨h1, h2⟩
  rw [cov_low k hk (i + 1) h2] at h1; cases h1
theorem addF_step (xs : List Int) {k : Nat} (by_ : Int) {p n i : Nat} (hk : k < 32) (hp : 0 < p) (hpn : p ≤ n) (hn : n ≤ 32) (hi : i < n) (hc : cov p k = true) :
    (if i = p - 1 then Value.int .i64 (wrap64 (xs[p - 1]?.getD 0 + by_)) else addF xs k by_ p i) = addF xs k by_ (p + low p) i := by
  have h1 := low_pos hp (by omega)
  by_cases e : i = p - 1
  · subst e
    rw [if_pos rfl]
    unfold addF
    rw [show p - 1 + 1 = p by omega, if_pos ⟨hc, by omega⟩]
  · rw [if_neg e]
    unfold addF
    by_cases h2 : cov (i + 1) k = true ∧ i + 1 < p
    · rw [if_pos h2, if_pos ⟨h2.1, by omega⟩]
    · rw [if_neg h2, if_neg]
      rintro ⟨h3, h4⟩
      have h5 : p < i + 1 := by
        by_cases h6 : i + 1 < p
        · exact absurd ⟨h3, h6⟩ h2
        · omega
      rw [cov_gap_all (by omega) hk (by omega) hp hc h5 h4] at h3
      cases h3
theorem addF_end (xs : List Int) {k : Nat} (by_ : Int) {p n i : Nat} (hl : xs.length = n) (hi : i < n) (hp : n < p) : addF xs k by_ p i = .int .i64 ((addC xs k by_)[i]?.getD 0) := by
  rw [addC_get (by omega)]
  unfold addF
  by_cases h : cov (i + 1) k = true
  · rw [if_pos h, if_pos ⟨h, by omega⟩]
  · rw [if_neg h, if_neg (fun e => h e.1)]

set_option maxRecDepth 100000 in
set_option maxHeartbeats 400000 in
theorem addTo_any (g n c B : Nat) (xs : List Int) (k : Nat) (by_ : Int) (w : World) (h : OwnAt w B (some ⟨g, 0, none⟩) n xs) (hk : k < n) (hn : n ≤ 32) :
    Calls Try.prog 108 #[.slice (some ⟨g, 0, none⟩) n c, .int .i64 k, .int .i64 by_] w fun e w' => e = .returned (.tuple #[]) ∧ OwnAt w' B (some ⟨g, 0, none⟩) n (addC xs k by_) ∧ Only (some ⟨g, 0, none⟩) w w' := by
  obtain ⟨g', m, f, e, hm, hrow0, hf⟩ := h.own (by omega)
  cases e
  have hl := Lib.hid h.len
  have hlow := Lib.hid h.low
  clear h
  have hrow := Lib.hid hrow0
  have hf' := Lib.hid hf
  clear hrow0 hf
  go_enter Try.func108, Try.ntmps108
  go_wp2
  refine wp_scope_jumps 0 (fun a' w' => Only (some ⟨g, 0, none⟩) w w' ∧ ∃ (p : Nat) (u9 u10 u11 u12 u13 u14 u15 u16 u17 u18 u19 u20 u21 u22 u23 u24 : Value), a' = { tmps := #[.slice (some ⟨g, 0, none⟩) n c, .int .i64 k, .int .i64 by_, undef, undef, undef, .int .i64 p, .int .i64 k, .int .i64 (k + 1), u9, u10, u11, u12, u13, u14, u15, u16, u17, u18, u19, u20, u21, u22, u23, u24], defers := [] } ∧ 0 < p ∧ p ≤ 64 ∧ cov p k = true ∧ ∃ f', w'.rowIs g 3 m f' ∧ ∀ i, i < n → f' i = addF xs k by_ p i) (fun a' _ => 64 - (intOf (a'.tmps.getD 6 undef)).toNat) rfl ?_ ?_
  · go_wp2
    go_step3
    have hd := hrow.out.cell (i := k) (by omega)
    have hfz := hrow.out.frozen k
    have hv := hf'.out k hk
    rw [hv] at hd
    clear hv
    have h1 := low_pos (n := k + 1) (by omega) (by omega)
    have h2 := low_le (n := k + 1) (by omega) (by omega)
    go_wp2_with fail
    refine (width_any (k + 1) _ (by omega)).mono ?_
    rintro e w' ⟨rfl, rfl⟩
    go_wp2_with fail
    go_step3
    have e1 : (k : Int) + 1 + (low (k + 1) : Nat) = ((k + 1 + low (k + 1) : Nat) : Int) := by omega
    rw [e1]
    refine ⟨rfl, (Only.refl _ _).set _, k + 1 + low (k + 1), _, _, _, _, _, _, _, _, _, _, _, _, _, _, _, _, rfl, by omega, by omega, cov_next_all (k + 1) (by omega) k (by omega) (by omega) (cov_first k (by omega)), _, hrow.out.set k _, fun i hi => ?_⟩
    rw [← addF_step xs by_ (by omega) (show 0 < k + 1 by omega) (show k + 1 ≤ n by omega) hn hi (cov_first k (by omega)), Nat.add_sub_cancel, addF_first xs by_ (by omega), hf'.out i hi]
  · rintro a' w' ⟨ho, p, u9, u10, u11, u12, u13, u14, u15, u16, u17, u18, u19, u20, u21, u22, u23, u24, rfl, hp0, hp1, hc, f', hrow', hf''⟩
    have ho' := Lib.hid ho; have hr2 := Lib.hid hrow'; have hv2 := Lib.hid hf''; have hc' := Lib.hid hc
    clear ho hrow' hf'' hc hrow hf'
    by_cases hpn : p ≤ n
    · have hd := hr2.out.cell (i := p - 1) (by omega)
      have hfz := hr2.out.frozen (p - 1)
      rw [hv2.out (p - 1) (by omega), addF_at xs k by_ hp0] at hd
      have h1 := low_pos hp0 hp1
      have h2 := low_le hp0 hp1
      go_wp2_with fail
      refine (width_any p _ (by omega)).mono ?_
      rintro e w'' ⟨rfl, rfl⟩
      go_wp2_with fail
      go_step3
      have e1 : (p : Int) + (low p : Nat) = ((p + low p : Nat) : Int) := by omega
      rw [e1]
      refine ⟨rfl, ⟨ho'.out.set _, p + low p, _, _, _, _, _, _, _, _, _, _, _, _, _, _, _, _, rfl, by omega, by omega, cov_next_all p (by omega) k (by omega) (by omega) hc'.out, _, hr2.out.set (p - 1) _, fun i hi => ?_⟩, ?_⟩
      · rw [← addF_step xs by_ (by omega) hp0 hpn hn hi hc'.out, hv2.out i hi]
      · simp [intOf]; omega
    · go_wp2
      simp only [Exit.jump]
      go_end0
      refine ⟨rfl, ⟨by rw [addC_len]; exact hl.out, fun _ => ⟨g, m, f', rfl, hm, hr2.out, fun i hi => ?_⟩, fun ad e => ⟨(hlow.out ad e).1, by rw [ho'.out.size]; exact (hlow.out ad e).2⟩⟩, ho'.out⟩
      rw [hv2.out i hi, addF_end xs by_ hl.out hi (by omega)]
end Go.Proofs.Ytbhogcecjmlomaa
