/- What is proved here: what the program's mostWithin returns at good cells. No conditions but that. -/
import Derived.Test.YtbhogcecjmlomaaFenImpl
namespace Go.Proofs.Ytbhogcecjmlomaa
open Go.RowKit

/-- The width, and how far the search has come. -/
def Wd (wd d : Nat) : Prop := (wd = 0 ∧ d = 1) ∨ (d = 2 * wd ∧ wd ∈ [1, 2, 4, 8, 16, 32])
theorem low_end_all : ∀ wd, wd ∈ [1, 2, 4, 8, 16, 32] → ∀ ct, ct < 33 → ct % (2 * wd) = 0 → ct + wd < 65 → low (ct + wd) = wd := by decide +kernel
theorem Wd.le {wd d : Nat} (h : Wd wd d) : wd ≤ 32 := by
  rcases h with ⟨rfl, _⟩ | ⟨_, h⟩
  · omega
  · simp at h; omega
theorem Wd.next {wd d : Nat} (h : Wd wd d) (h0 : 0 < wd) : Wd (wd / 2) wd ∧ d = 2 * wd := by
  rcases h with ⟨rfl, _⟩ | ⟨h1, h⟩
  · omega
  · refine ⟨?_, h1⟩
    simp only [List.mem_cons, List.not_mem_nil, or_false] at h
    rcases h with rfl | rfl | rfl | rfl | rfl | rfl
    · exact .inl ⟨rfl, rfl⟩
    all_goals exact .inr ⟨rfl, by decide⟩
theorem Wd.low {wd d ct : Nat} (h : Wd wd d) (h0 : 0 < wd) (hc : ct < 33) (hm : ct % d = 0) (he : ct + wd < 65) : low (ct + wd) = wd := by
  rcases h with ⟨rfl, _⟩ | ⟨h1, h⟩
  · omega
  · subst h1
    exact low_end_all wd h ct hc hm he

structure Most (xs : List Int) (len : Nat) (N : Int) (wd d ct : Nat) : Prop where
  wd : Wd wd d
  le : ct ≤ len
  mod : ct % d = 0
  low : fs xs ct ≤ N
  high : len < ct + d ∨ N < fs xs (ct + d)

theorem Most.cell {xs : List Int} {len : Nat} {N : Int} {wd d ct : Nat} (h : Most xs len N wd d ct) (h0 : 0 < wd) (hl : len ≤ 32) : fs xs (ct + wd) = xs[ct + wd - 1]?.getD 0 + fs xs ct := by
  have h1 := h.wd.le
  have h2 := h.le
  have h3 := h.wd.low h0 (by omega) h.mod (by omega)
  rw [fs_step xs (n := ct + wd) (by omega) (by omega), h3, show ct + wd - wd = ct by omega]
theorem mod_half {ct wd : Nat} (h : ct % (2 * wd) = 0) : ct % wd = 0 := by
  have h1 : wd ∣ 2 * wd := Nat.dvd_mul_left wd 2
  exact Nat.mod_eq_zero_of_dvd (Nat.dvd_trans h1 (Nat.dvd_of_mod_eq_zero h))
theorem Most.yes {xs : List Int} {len : Nat} {N : Int} {wd d ct : Nat} (h : Most xs len N wd d ct) (h0 : 0 < wd) (hl : len ≤ 32) (h1 : ct + wd ≤ len) (h2 : xs[ct + wd - 1]?.getD 0 ≤ N - fs xs ct) : Most xs len N (wd / 2) wd (ct + wd) := by
  obtain ⟨hn, hd⟩ := h.wd.next h0
  have hc := h.cell h0 hl
  have hm := h.mod
  rw [hd] at hm
  refine ⟨hn, h1, by rw [Nat.add_mod_right]; exact mod_half hm, by omega, ?_⟩
  have := h.high
  rw [hd] at this
  rw [show ct + wd + wd = ct + 2 * wd by omega]
  exact this
theorem Most.no {xs : List Int} {len : Nat} {N : Int} {wd d ct : Nat} (h : Most xs len N wd d ct) (h0 : 0 < wd) (hl : len ≤ 32) (h1 : len < ct + wd ∨ N - fs xs ct < xs[ct + wd - 1]?.getD 0) : Most xs len N (wd / 2) wd ct := by
  obtain ⟨hn, hd⟩ := h.wd.next h0
  have hc := h.cell h0 hl
  have hm := h.mod
  rw [hd] at hm
  refine ⟨hn, h.le, mod_half hm, h.low, ?_⟩
  rcases h1 with h1 | h1
  · exact .inl h1
  · right; omega

/-- The count that it returns. -/
def IsMost (xs : List Int) (len : Nat) (N : Int) (ct : Nat) : Prop := ct ≤ len ∧ fs xs ct ≤ N ∧ (ct < len → N < fs xs (ct + 1))
theorem Most.done {xs : List Int} {len : Nat} {N : Int} {d ct : Nat} (h : Most xs len N 0 d ct) : IsMost xs len N ct := by
  have hd : d = 1 := by
    rcases h.wd with ⟨_, h⟩ | ⟨_, h⟩
    · exact h
    · simp at h
  refine ⟨h.le, h.low, fun hc => ?_⟩
  have := h.high
  rw [hd] at this
  rcases this with h | h
  · omega
  · exact h
theorem Most.start (xs : List Int) {len : Nat} {N : Int} (hl : len ≤ 32) (hN : 0 ≤ N) : Most xs len N 32 64 0 :=
  ⟨.inr ⟨rfl, by decide⟩, by omega, rfl, by rw [fs_zero]; exact hN, .inl (by omega)⟩

set_option maxRecDepth 100000 in
set_option maxHeartbeats 800000 in
theorem mostWithin_any (A : Option Addr) (len c B : Nat) (xs : List Int) (N : Int) (w : World) (h : IntsAt w B A len xs) (hl : len ≤ 32) (hx : ∀ k, k < len → 0 ≤ xs[k]?.getD 0 ∧ xs[k]?.getD 0 ≤ 3200000) (hN : 0 ≤ N) (hN1 : N ≤ 9223372036854775807) :
    Calls Try.prog 117 #[.slice A len c, .int .i64 N] w fun e w' => (∃ ct : Nat, e = .returned (.int .i64 ct) ∧ IsMost xs len N ct) ∧ w = w' := by
  have hr := Lib.hid h; clear h
  have hx' := Lib.hid hx; clear hx
  have hst := Lib.hid (Most.start xs hl hN)
  have hf0 := Lib.hid (fs_zero xs)
  go_enter Try.func117, Try.ntmps117
  go_wp2
  refine wp_scope_jumps 0 (fun a' w' => w' = w ∧ ∃ (wd d ct : Nat) (y : Int) (u7 u8 u9 u10 u11 u12 u13 u14 u15 u16 u17 u18 u19 u20 u21 u22 u23 u24 u25 u26 u27 u28 u29 u30 u31 u32 u33 u34 u35 : Value), a' = { tmps := #[.slice A len c, .int .i64 y, undef, undef, .int .i64 0, .int .i64 ct, .int .i64 wd, u7, u8, u9, u10, u11, u12, u13, u14, u15, u16, u17, u18, u19, u20, u21, u22, u23, u24, u25, u26, u27, u28, u29, u30, u31, u32, u33, u34, u35, undef], defers := [] } ∧ y = N - fs xs ct ∧ y ≤ 9223372036854775807 ∧ Most xs len N wd d ct) (fun a' _ => (intOf (a'.tmps.getD 6 undef)).toNat) rfl ?_ ?_
  · go_wp2
    go_step3
    by_cases h1 : 32 ≤ len
    · obtain ⟨b, off, rfl, _, hc⟩ := hr.out.2 31 (by omega)
      obtain ⟨x0, x1⟩ := hx'.out 31 (by omega)
      by_cases h2 : xs[31]?.getD 0 ≤ N
      · go_wp2
        go_step3
        refine ⟨rfl, rfl, 16, 32, 32, _, _, _, _, _, _, _, _, _, _, _, _, _, _, _, _, _, _, _, _, _, _, _, _, _, _, _, _, _, _, rfl, ?_, ?_, hst.out.yes (by omega) hl h1 (by rw [hf0.out]; show xs[31]?.getD 0 ≤ _; omega)⟩
        · have := hst.out.cell (by omega) hl
          rw [hf0.out, Int.add_zero] at this
          show _ = N - fs xs (0 + 32)
          rw [this]
        · omega
      · go_wp2
        go_step3
        refine ⟨rfl, rfl, 16, 32, 0, _, _, _, _, _, _, _, _, _, _, _, _, _, _, _, _, _, _, _, _, _, _, _, _, _, _, _, _, _, _, rfl, by rw [hf0.out]; omega, hN1, hst.out.no (by omega) hl (.inr (by rw [hf0.out]; show _ < xs[31]?.getD 0; omega))⟩
    · go_wp2
      go_step3
      refine ⟨rfl, rfl, 16, 32, 0, _, _, _, _, _, _, _, _, _, _, _, _, _, _, _, _, _, _, _, _, _, _, _, _, _, _, _, _, _, _, rfl, by rw [hf0.out]; omega, hN1, hst.out.no (by omega) hl (.inl (by omega))⟩
  · rintro a' w' ⟨rfl, wd, d, ct, y, u7, u8, u9, u10, u11, u12, u13, u14, u15, u16, u17, u18, u19, u20, u21, u22, u23, u24, u25, u26, u27, u28, u29, u30, u31, u32, u33, u34, u35, rfl, hy, hyb, hm⟩
    have hm' := Lib.hid hm
    have g1 := hm.le
    have g2 := hm.wd.le
    have g3 := hm.low
    have hy' := Lib.hid hy
    have hy0 : 0 ≤ y := by omega
    clear hm g3 hy
    by_cases h0 : 0 < wd
    · have e2 : (wd : Int) / 2 = ((wd / 2 : Nat) : Int) := by omega
      have e3 : (ct : Int) + (wd : Int) = ((ct + wd : Nat) : Int) := by omega
      have e2' := Lib.hid e2; have e3' := Lib.hid e3
      clear e2 e3
      by_cases h1 : ct + wd ≤ len
      · obtain ⟨b, off, rfl, _, hc⟩ := hr.out.2 (ct + wd - 1) (by omega)
        obtain ⟨x0, x1⟩ := hx'.out (ct + wd - 1) (by omega)
        have hcell := Lib.hid (hm'.out.cell h0 hl)
        by_cases h2 : xs[ct + wd - 1]?.getD 0 ≤ y
        · go_wp2
          go_step3
          rw [e2'.out, e3'.out]
          refine ⟨rfl, ⟨rfl, wd / 2, wd, ct + wd, _, _, _, _, _, _, _, _, _, _, _, _, _, _, _, _, _, _, _, _, _, _, _, _, _, _, _, _, _, _, rfl, ?_, ?_, hm'.out.yes h0 hl h1 (by rw [← hy'.out]; exact h2)⟩, ?_⟩
          · rw [hcell.out, hy'.out]; omega
          · omega
          · simp [intOf]; omega
        · go_wp2
          go_step3
          rw [e2'.out]
          refine ⟨rfl, ⟨rfl, wd / 2, wd, ct, _, _, _, _, _, _, _, _, _, _, _, _, _, _, _, _, _, _, _, _, _, _, _, _, _, _, _, _, _, _, rfl, hy'.out, hyb, hm'.out.no h0 hl (.inr (by rw [← hy'.out]; omega))⟩, ?_⟩
          simp [intOf]; omega
      · go_wp2
        go_step3
        rw [e2'.out]
        refine ⟨rfl, ⟨rfl, wd / 2, wd, ct, _, _, _, _, _, _, _, _, _, _, _, _, _, _, _, _, _, _, _, _, _, _, _, _, _, _, _, _, _, _, rfl, hy'.out, hyb, hm'.out.no h0 hl (.inl (by omega))⟩, ?_⟩
        simp [intOf]; omega
    · go_wp2
      simp only [Exit.jump]
      go_ret
      have hz : wd = 0 := by omega
      subst hz
      exact ⟨⟨ct, rfl, hm'.out.done⟩, rfl⟩
end Go.Proofs.Ytbhogcecjmlomaa
