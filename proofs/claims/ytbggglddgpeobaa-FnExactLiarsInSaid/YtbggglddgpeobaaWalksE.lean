/- What is proved here: what WeightOf and IsGreat return, in the program and in the model, at every two slices of integers. No conditions. -/
import Derived.Test.YtbggglddgpeobaaWalksD
namespace Go.Proofs.Ytbggglddgpeobaa
open Go.RowKit

theorem ret_two {a b : Int} {c d : Bool} (h : a = b) (h' : c = d) : Ending.returned (.tuple #[.int .i64 a, .bool c]) = .returned (.tuple #[.int .i64 b, .bool d]) := by rw [h, h']
theorem ret_bools {a b c d : Bool} (h : a = b) (h' : c = d) : Ending.returned (.tuple #[.bool a, .bool c]) = .returned (.tuple #[.bool b, .bool d]) := by rw [h, h']

def wOf (s who : List Int) : Int := if ofB s who = true then wtL s who else 0
def gOf (s who : List Int) : Bool := ofB s who && greatB s who

/-- Stakes that are good: their bounds, one by one. -/
def Bds (s : List Int) : Prop := ∀ k, k < s.length → 0 ≤ s[k]?.getD 0 ∧ s[k]?.getD 0 ≤ 1000
theorem bds_of_good {s : List Int} (h : goodB s = true) : Bds s := fun k hk => by
  have := allB_get (goodB_iff.1 h).2 hk; omega
/-- Some voters of some stakes. -/
def Vot (m : Nat) (who : List Int) : Prop := ∀ k, k < who.length → 0 ≤ who[k]?.getD 0 ∧ who[k]?.getD 0 < (m : Int)
theorem vot_of_ris {m : Nat} {who : List Int} (h : risB who 0 ((m : Int) - 1) = true) : Vot m who := fun k hk => by
  have := risB_in h hk; omega
theorem bds_stakesOf {s who : List Int} (h : Bds s) (hv : Vot s.length who) : Bds (stakesOf s who) := fun k hk => by
  rw [stakesOf_len] at hk
  rw [stakesOf_get s who hk]
  have := hv k hk
  exact h _ (by omega)

set_option maxHeartbeats 400000 in
theorem specSum_any (A : Option Addr) (n c B : Nat) (xs : List Int) (w : World) (h : IntsAt w B A n xs) (hn : n ≤ 1048576) (hb : Bds xs) :
    Calls Try.prog 94 #[.slice A n c] w fun e w' => e = .returned (.int .i64 (sumL xs)) ∧ w = w' := by
  have hl' := Lib.hid h.1
  have hr := Lib.hid h; clear h
  have hb' := Lib.hid hb; clear hb
  go_enter Try.func94, Try.ntmps94
  go_wp2
  go_loop [3, 8] (fun s i => ∃ k : Nat, k ≤ n ∧ i = .int .i64 k ∧ s = .int .i64 (sumL (xs.take k))) (fun _ i => n - (intOf i).toNat)
  case atStart => exact ⟨0, Nat.zero_le _, rfl, rfl⟩
  case round =>
    obtain ⟨k, hk, rfl, rfl⟩ := hrel
    by_cases hlt : k < n
    · obtain ⟨b, off, rfl, _, hc⟩ := hr.out.2 k hlt
      have hs := Lib.hid (sumL_step (s := xs) (k := k) (by rw [hl'.out]; exact hlt))
      obtain ⟨g1, g2⟩ := sumL_bd hb'.out k (by rw [hl'.out]; exact hk)
      obtain ⟨g3, g4⟩ := hb'.out k (by rw [hl'.out]; exact hlt)
      go_wp2
      go_round
      case rel => exact ⟨k + 1, by omega, by go_num, by rw [hs.out]⟩
      case measure => simp [intOf]; omega
    · go_wp2
      go_ret
      exact ⟨ret_int (sumL_end (by rw [hl'.out]; omega)), rfl⟩

end Go.Proofs.Ytbggglddgpeobaa
