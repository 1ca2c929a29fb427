/- What is proved here: LeavesOf of the model. No conditions. -/
import Derived.Test.YtoppgckmcclfpaaLeaves
namespace Go.Proofs.Ytoppgckmcclfpaa
open Go.RowKit

set_option maxHeartbeats 400000 in
theorem l3Leaves_any (A : Option Addr) (n c : Nat) (ts : List Blk) (w : World) (h : BlksAt w w.heap.size A n ts) (hn : n ≤ 24) :
    Calls Try.prog 95 #[.slice A n c] w (RetSl w (leavesL ts ts.length)) := by
  have hl := Lib.hid h.1
  have hh := Lib.hid h; clear h
  obtain ⟨i0, hi0, hz0, hz1, hz2⟩ := info_parts info3
  go_enter Try.func95, Try.ntmps95
  go_wp2_with fail
  go_loopw [3, 10] (fun v i wr => ∃ k : Nat, k ≤ n ∧ i = .int .i64 k ∧ wr.ownsRow w.heap.size 3 1 v (leavesL ts k).length ((leavesL ts k).map (Value.int .i64)) ∧ Below w.heap.size w wr) (fun _ i _ => n - (intOf i).toNat)
  case atStart => exact ⟨0, by omega, rfl, World.ownsRow_nil _ _ _ _, Below.refl _ _⟩
  case round =>
    obtain ⟨k, hk, rfl, hown, hbel⟩ := hrel
    have hown' := Lib.hid hown; clear hown
    have hbel' := Lib.hid hbel; clear hbel
    by_cases hlt : k < n
    · go_wp2_with fail
      go_loopw [5, 15] (fun l i wq => ∃ j : Nat, j ≤ n ∧ i = .int .i64 j ∧ l = .bool (noPar ts k j) ∧ Hid (Below wr.heap.size wr wq)) (fun _ i _ => n - (intOf i).toNat)
      case atStart => exact ⟨0, by omega, rfl, rfl, Lib.hid (Below.refl _ _)⟩
      case round =>
        obtain ⟨j, hj, rfl, rfl, hq⟩ := hrel
        by_cases hjn : j < n
        · obtain ⟨bb, off, e, hbb, hcs⟩ := hh.out.at (by omega)
          have hb2 := hbel'.out.trans (hq.out.mono hbel'.out.size)
          have d0 := (hb2.cell (p := ⟨bb, off + j * 2, none⟩) hbb).trans (hcs j hjn).1
          have d1 := (hb2.cell (p := ⟨bb, off + j * 2 + 1, none⟩) hbb).trans (hcs j hjn).2
          have hq2 := Lib.hid (fun o => hq.out.alloc hq.out.size o)
          have hst := Lib.hid (noPar_step ts k j)
          have hpz := Lib.hid (show parZ ts j = (ts[j]?.getD (0, 0)).1 from rfl)
          subst e
          clear hcs hb2
          cases hnp : noPar ts k j
          · go_wp2_with fail
            go_roundw
            case rel => exact ⟨j + 1, by omega, by go_num, by rw [hst.out, hnp]; rfl, hq2.out _⟩
            case measure => simp [intOf]; omega
          · go_wp2_with fail
            go_roundw
            case rel => exact ⟨j + 1, by omega, by go_num, by rw [hst.out, hnp, hpz.out]; rfl, hq2.out _⟩
            case measure => simp [intOf]; omega
        · have hj' : j = n := by omega
          subst hj'
          have hown2 := owns_below hown'.out hq.out
          have hbel2 := hbel'.out.trans (hq.out.mono hbel'.out.size)
          have hs2 := hbel2.size
          have hlen := leaves_len ts k
          cases hp : noPar ts k j
          · have hs := Lib.hid (leaves_no (ts := ts) (k := k) (by rw [hl.out]; exact hp))
            have ho := Lib.hid hown2; clear hown2
            go_wp2_with fail
            go_roundw
            case rel => exact ⟨k + 1, by omega, by go_num, by rw [hs.out]; exact ho.out, hbel2⟩
            case measure => simp [intOf]; omega
          · have hs := Lib.hid (leaves_yes (ts := ts) (k := k) (by rw [hl.out]; exact hp))
            go_wp2_with (at_builtin; refine wpList_append_own _ rfl _ _ 31 rfl w.heap.size 3 i0 (.int .i64 0) 1 8 Try.underlying31 hi0 hz0 hz1 hz2 rfl (by decide) _ _ _ rfl (hown2.alloc _) ⟨wr.heap.size, 0, none⟩ 1 1 [.int .i64 (k : Int)] rfl rfl ?c1 ?c2 ?c3 ?c4 ?c5 ?_)
            case c1 =>
              intro j u hj
              match j, hj with
              | 0, hj => simp at hj; subst hj; simp [Addr.add]
            case c2 => intro u hu; simp at hu; subst hu; rfl
            case c3 => unfold maxLen; omega
            case c4 => omega
            case c5 => simp; omega
            intro v' w3 hown3 hgrow _
            have hbel3 : Below w.heap.size w w3 := (hbel2.alloc hbel2.size _).grown hgrow (by simp; omega) (fun g hg => (hown2.lt g hg).1)
            have hown3' := Lib.hid hown3; clear hown3 hgrow hown2
            go_wp2_with fail
            go_roundw
            case rel =>
              refine ⟨k + 1, by omega, by go_num, ?_, hbel3⟩
              have := hown3'.out
              rw [hs.out]
              simpa using this
            case measure => simp [intOf]; omega
    · have hkk : k = n := by omega
      subst hkk
      obtain ⟨A2, c2, rfl, hoa⟩ := OwnAt.of_owns hown'.out
      have hoa' := Lib.hid hoa
      clear hoa hown'
      go_wp2_with fail
      go_ret
      exact ⟨A2, _, c2, rfl, by rw [hl.out]; exact hoa'.out, hbel'.out⟩

theorem leavesR_len (ts : List Blk) : (leavesR ts).length ≤ 100 := by
  unfold leavesR
  cases hg : goodT ts
  · simp
  · have := leaves_len ts ts.length
    have := (goodT_iff.1 hg).few
    simp; omega
theorem specLeaves_any (A : Option Addr) (n c : Nat) (ts : List Blk) (w : World) (h : BlksAt w w.heap.size A n ts) (hn : n ≤ 1048576) :
    Calls Try.prog 40 #[.slice A n c] w (RetOwn w (goodT ts) (leavesR ts)) := by
  have hl := Lib.hid h.1
  have hh := Lib.hid h; clear h
  cases hg : goodT ts
  · have hr := Lib.hid (show leavesR ts = [] by unfold leavesR; rw [hg]; rfl)
    go_enter Try.func40, Try.ntmps40
    go_wp2_with (go_at_call 21; refine (specGoodT_any _ _ _ ts _ hh.out hn).mono ?_; rintro e w1 ⟨rfl, b1⟩; rw [hg])
    go_ret2
    exact ⟨none, 0, 0, rfl, by rw [hr.out]; exact own_nil _ _, b1⟩
  · have hr := Lib.hid (show leavesR ts = leavesL ts ts.length by unfold leavesR; rw [hg]; rfl)
    have hfew : n ≤ 24 := by rw [← hl.out]; exact (goodT_iff.1 hg).few
    go_enter Try.func40, Try.ntmps40
    go_wp2_with (go_at_call 21; refine (specGoodT_any _ _ _ ts _ hh.out hn).mono ?_; rintro e w1 ⟨rfl, b1⟩; rw [hg]; have u1 := Lib.hid b1; clear b1)
    refine (l3Leaves_any _ _ _ ts _ (hh.out.up u1.out) hfew).mono ?_
    rintro e w2 ⟨A2, n2, c2, rfl, ho, b2⟩
    have u2 := Lib.hid (u1.out.trans (b2.mono u1.out.size))
    have ho' := Lib.hid (ho.fewer u1.out.size)
    clear ho b2
    go_wp2_with fail
    go_ret2
    exact ⟨A2, n2, c2, rfl, by rw [hr.out]; exact ho'.out, u2.out⟩
end Go.Proofs.Ytoppgckmcclfpaa
