/- What is proved here: what the program's jump pointers are. No conditions. -/
import Derived.Test.YthiegfbdmmpababWays
import Derived.Deep.WholeRow
namespace Go.Proofs.Ythiegfbdmmpabab
open Go.RowKit

theorem anc_less {ts : List Blk} (h : Tree ts) {k : Nat} (hk : k < ts.length) (j : Nat) (h1 : 0 < j) (hj : j ≤ dep ts k) : anc ts k j < k := by
  induction j with
  | zero => omega
  | succ j ih =>
    have hd := dep_anc h hk j (by omega)
    have h0 : anc ts k j ≠ 0 := fun e => by rw [e, dep_root] at hd; omega
    have hp := (h.up (anc_lt h hk j) h0).2
    show parN ts (anc ts k j) < k
    by_cases hz : j = 0
    · subst hz; exact hp
    · have := ih (by omega) (by omega); omega
def jmp (ts : List Blk) (b k : Nat) : Int := if 2 ^ k ≤ dep ts b then (anc ts b (2 ^ k) : Nat) else -1
theorem jmp_zero {ts : List Blk} (h : Tree ts) {b : Nat} (hb : b < ts.length) : jmp ts b 0 = parZ ts b := by
  unfold jmp
  by_cases h0 : b = 0
  · subst h0; rw [dep_root, if_neg (by decide), h.root]
  · rw [if_pos (by rw [dep_step h hb h0]; simp), (h.up hb h0).1]; rfl
theorem jmp_stop {ts : List Blk} {b k : Nat} (h : jmp ts b k = -1) : jmp ts b (k + 1) = -1 := by
  unfold jmp at *
  by_cases hd : 2 ^ k ≤ dep ts b
  · rw [if_pos hd] at h; omega
  · rw [if_neg (by rw [Nat.pow_succ]; omega)]
theorem jmp_next {ts : List Blk} (h : Tree ts) {b k : Nat} (hb : b < ts.length) (hn : jmp ts b k ≠ -1) : ∃ a : Nat, jmp ts b k = a ∧ a < b ∧ jmp ts a k = jmp ts b (k + 1) := by
  have hd : 2 ^ k ≤ dep ts b := by
    by_cases hd : 2 ^ k ≤ dep ts b
    · exact hd
    · exact absurd (by unfold jmp; rw [if_neg hd]) hn
  have hp : 0 < 2 ^ k := Nat.two_pow_pos k
  refine ⟨anc ts b (2 ^ k), by unfold jmp; rw [if_pos hd], anc_less h hb _ hp hd, ?_⟩
  have e := dep_anc h hb (2 ^ k) hd
  unfold jmp
  rw [Nat.pow_succ, Nat.mul_two]
  by_cases h2 : 2 ^ k ≤ dep ts (anc ts b (2 ^ k))
  · rw [if_pos h2, if_pos (by omega), anc_add]
  · rw [if_neg h2, if_neg (by omega)]
/-- The jump pointers, row behind row. -/
def jmpC (ts : List Blk) (i : Nat) : Int := jmp ts (i / 5) (i % 5)
theorem jmpC_at (ts : List Blk) {b k : Nat} (hk : k < 5) : jmpC ts (b * 5 + k) = jmp ts b k := by
  unfold jmpC; rw [show (b * 5 + k) / 5 = b by omega, show (b * 5 + k) % 5 = k by omega]

theorem infoJumps : (Try.prog.info? 115).map (fun i => (i.zero, i.size)) = some (some (.agg (Array.replicate 120 (.int .i64 0))), 120) := by kernel_rfl

/-- The memory while the pointers are laid: m of them lie. -/
structure Jumps (w0 wr : World) (ts : List Blk) (m : Nat) : Prop where
  res : ∃ f, wr.rowIs w0.heap.size 115 120 f
  tab : ∃ f, wr.rowIs (w0.heap.size + 1) 115 120 f ∧ (∀ i, i < m → f i = .int .i64 (jmpC ts i)) ∧ ∀ i, ∃ z : Int, f i = .int .i64 z
  bel : Below w0.heap.size w0 wr
theorem Jumps.alloc {w0 wr : World} {ts : List Blk} {m : Nat} (h : Jumps w0 wr ts m) (o : Obj) : Jumps w0 (wr.alloc o) ts m := by
  obtain ⟨⟨f, hf⟩, ⟨f', hf', hv⟩, hb⟩ := h
  exact ⟨⟨f, hf.alloc o⟩, ⟨f', hf'.alloc o, hv⟩, hb.alloc hb.size o⟩
theorem Jumps.set {w0 wr : World} {ts : List Blk} {m : Nat} (h : Jumps w0 wr ts m) {v : Int} (hv : v = jmpC ts m) : Jumps w0 (wr.setCell ⟨w0.heap.size + 1, m, none⟩ (.int .i64 v)) ts (m + 1) := by
  obtain ⟨⟨f, hf⟩, ⟨f', hf', hx, hz⟩, hb⟩ := h
  refine ⟨⟨f, hf.setOther (by show w0.heap.size ≠ w0.heap.size + 1; omega) _⟩, ⟨_, hf'.set m _, fun i hi => ?_, fun i => ?_⟩, hb.setCell (by show w0.heap.size ≤ w0.heap.size + 1; omega) _⟩
  · by_cases e : i = m
    · subst e; rw [if_pos rfl, hv]
    · rw [if_neg e]; exact hx i (by omega)
  · by_cases e : i = m
    · exact ⟨v, by rw [if_pos e]⟩
    · obtain ⟨z, hz⟩ := hz i
      exact ⟨z, by rw [if_neg e, hz]⟩
theorem Jumps.room {w0 wr : World} {ts : List Blk} {m : Nat} (h : Jumps w0 wr ts m) {i : Nat} (hi : i < 120) : (∃ v, wr.cell? ⟨w0.heap.size + 1, i, none⟩ = some v) ∧ wr.frozen? ⟨w0.heap.size + 1, i, none⟩ = false := by
  obtain ⟨f', hf', _⟩ := h.tab
  exact ⟨⟨_, hf'.cell hi⟩, hf'.frozen i⟩
theorem Jumps.cell {w0 wr : World} {ts : List Blk} {m : Nat} (h : Jumps w0 wr ts m) {i : Nat} (hi : i < 120) (hm : i < m) : wr.cell? ⟨w0.heap.size + 1, i, none⟩ = some (.int .i64 (jmpC ts i)) := by
  obtain ⟨f', hf', hv, _⟩ := h.tab
  rw [hf'.cell hi, hv i hm]

/-- A value that is the whole array of jump pointers. -/
def IsJumps (ts : List Blk) (cs : Array Value) : Prop := cs.size = 120 ∧ ∀ i, i < ts.length * 5 → cs[i]? = some (.int .i64 (jmpC ts i))
def JumpsPost (w : World) (ts : List Blk) (e : Ending) (w' : World) : Prop := ∃ cs, e = .returned (.agg cs) ∧ IsJumps ts cs ∧ cs.all (·.oneCell') = true ∧ Below w.heap.size w w'

set_option maxHeartbeats 400000 in
theorem leapsIn_any (A : Option Addr) (n c : Nat) (ts : List Blk) (w : World) (h : BlksAt w w.heap.size A n ts) (ht : Tree ts) :
    Calls Try.prog 115 #[.slice A n c] w (JumpsPost w ts) := by
  have hl := Lib.hid h.1
  have hh := Lib.hid h; clear h
  have hfew : n ≤ 24 := by rw [← hl.out]; exact ht.few
  have hz := (zero_of_info infoJumps).1
  go_enter Try.func115, Try.ntmps115
  go_wp2_with fail
  go_loopw [10] (fun i wr => ∃ b : Nat, b ≤ n ∧ i = .int .i64 b ∧ Hid (Jumps w wr ts (b * 5))) (fun i _ => n - (intOf i).toNat)
  case atStart =>
    refine ⟨0, Nat.zero_le _, rfl, Lib.hid ⟨⟨fun _ => .int .i64 0, ?_⟩, ⟨fun _ => .int .i64 0, ?_, fun i hi => absurd hi (by omega), fun _ => ⟨0, rfl⟩⟩, ((Below.refl _ _).alloc (Nat.le_refl _) _).alloc (by simp) _⟩⟩
    · exact ⟨_, heap_alloc2_old _ _ _, by simp, fun i hi => by simp [hi]⟩
    · exact ⟨_, heap_alloc2_new _ _ _, by simp, fun i hi => by simp [hi]⟩
  case round =>
    obtain ⟨b, hb, rfl, hj⟩ := hrel
    by_cases hlt : b < n
    · obtain ⟨bb, off, e, hbb, hcs⟩ := hh.out.at (by omega)
      have d0 := (hj.out.bel.cell (p := ⟨bb, off + b * 2, none⟩) hbb).trans (hcs b hlt).1
      have d1 := (hj.out.bel.cell (p := ⟨bb, off + b * 2 + 1, none⟩) hbb).trans (hcs b hlt).2
      have hbl : b < ts.length := by rw [hl.out]; exact hlt
      rw [show (ts[b]?.getD (0, 0)).1 = jmp ts b 0 from (jmp_zero ht hbl).symm] at d0
      have hj1 := Lib.hid (fun o => hj.out.alloc o)
      clear hcs hj
      subst e
      go_wp2_with fail
      go_loopw [6, 7, 17] (fun a _ i wq => ∃ k : Nat, k ≤ 5 ∧ i = .int .i64 k ∧ a = .int .i64 (jmp ts b k) ∧ Hid (Jumps w wq ts (b * 5 + k))) (fun _ _ i _ => 5 - (intOf i).toNat)
      case atStart => exact ⟨0, by omega, rfl, rfl, hj1.out _⟩
      case round =>
        obtain ⟨k, hk, rfl, rfl, hj⟩ := hrel
        by_cases hk5 : k < 5
        · obtain ⟨⟨v, hv⟩, hf⟩ := hj.out.room (i := b * 5 + k) (by omega)
          have hj2 := Lib.hid (hj.out.set (v := jmp ts b k) (jmpC_at ts hk5).symm)
          by_cases hm : jmp ts b k = -1
          · have hst := Lib.hid (jmp_stop hm)
            have hm' : (jmp ts b k != -1) = false := by rw [hm]; rfl
            have hmh := Lib.hid hm
            clear hm
            go_wp2_with fail
            go_roundw
            case rel => exact ⟨k + 1, by omega, by go_num, by rw [hst.out, hmh.out], hj2⟩
            case measure => simp [intOf]; omega
          · obtain ⟨a, ha, hab, hnx⟩ := jmp_next ht hbl hm
            have hc := hj2.out.cell (i := a * 5 + k) (by omega) (by omega)
            rw [jmpC_at ts hk5] at hc
            have hnx' := Lib.hid hnx
            have hne : ((a : Int) != -1) = true := by simp
            rw [ha] at hj2 hc ⊢
            clear hm ha hnx
            go_wp2_with fail
            go_roundw
            case rel => exact ⟨k + 1, by omega, by go_num, by rw [hnx'.out], hj2⟩
            case measure => simp [intOf]; omega
        · have hk' : k = 5 := by omega
          subst hk'
          go_wp2_with fail
          go_roundw
          case rel => exact ⟨b + 1, by omega, by go_num, by rw [show (b + 1) * 5 = b * 5 + 5 by omega]; exact hj⟩
          case measure => simp [intOf]; omega
    · have hbn : b = n := by omega
      subst hbn
      obtain ⟨f1, c1, r1, s1, v1⟩ := hj.out.res
      obtain ⟨f2, ⟨c2, r2, s2, v2⟩, x2, z2⟩ := hj.out.tab
      have hone : c2.all (·.oneCell') = true := by
        rw [Array.all_eq_true_iff_forall_mem]
        intro x hx
        obtain ⟨i, hi, rfl⟩ := Array.mem_iff_getElem.1 hx
        have := v2 i (by omega)
        rw [Array.getElem?_eq_getElem hi] at this
        obtain ⟨z, hz⟩ := z2 i
        rw [Option.some.inj this, hz]; rfl
      have hval := Lib.hid (show IsJumps ts c2 from ⟨s2, fun i hi => by rw [v2 i (by rw [hl.out] at hi; omega), x2 i (by rw [hl.out] at hi; exact hi)]⟩)
      have hu := Lib.hid hj.out.bel
      clear hj
      go_wp2_with (first
        | refine wpList_load_row rfl 115 _ rfl (w.heap.size + 1) rfl 115 c2 (0, 0) _ r2 Try.underlying115 rfl (by rw [s2]; kernel_rfl) ?_
        | refine wpList_store_row rfl 115 _ _ rfl w.heap.size c2 rfl rfl 115 c1 r1 (by rw [s2]; kernel_rfl) (by rw [s1, s2]) hone ?_)
      refine bodyPost_ret (results_cell_row rfl _ _ w.heap.size 115 c2 (0, 0) _ rfl (setRow_heap _ _ _ _ _ _ r1) Try.underlying115 rfl (by rw [s2]; kernel_rfl)) rfl ?_
      exact ⟨c2, rfl, hval.out, hone, hu.out.trans ⟨rfl, rfl, rfl, by simp, fun k hk => setRow_other _ _ _ _ (by omega)⟩⟩
end Go.Proofs.Ythiegfbdmmpabab

/- What is proved here: what the program's leaps by jump pointers lead to; AncestorOf of the program and of the model. No conditions. -/
namespace Go.Proofs.Ythiegfbdmmpabab
open Go.RowKit

theorem bit_set {u k : Nat} (h : u.testBit k = true) : u % 2 ^ (k + 1) = u % 2 ^ k + 2 ^ k := by
  rw [Nat.mod_pow_succ, Nat.testBit_eq_decide_div_mod_eq, decide_eq_true_iff] at *
  rw [h]; omega
theorem bit_clear {u k : Nat} (h : u.testBit k = false) : u % 2 ^ (k + 1) = u % 2 ^ k := by
  rw [Nat.mod_pow_succ]
  rw [Nat.testBit_eq_decide_div_mod_eq, decide_eq_false_iff_not] at h
  have : u / 2 ^ k % 2 = 0 := by omega
  rw [this]; omega
theorem shr_bits : ∀ u : Nat, u < 32 → ∀ k : Nat, k < 5 → (bits .and .i64 ((u : Int) / 2 ^ k) 1 == 1) = u.testBit k := by decide +kernel
theorem leap_bit {ts : List Blk} (h : Tree ts) {b u k : Nat} (hb : b < ts.length) (hu : u ≤ dep ts b) (hs : u.testBit k = true) : jmp ts (anc ts b (u % 2 ^ k)) k = anc ts b (u % 2 ^ (k + 1)) := by
  have hm := bit_set hs
  have hle : u % 2 ^ (k + 1) ≤ u := Nat.mod_le _ _
  have hd := dep_anc h hb (u % 2 ^ k) (by omega)
  unfold jmp
  rw [if_pos (by omega), hm, anc_add]

set_option maxHeartbeats 400000 in
theorem raised_any (cs : Array Value) (ts : List Blk) (b u : Nat) (w : World) (hc : IsJumps ts cs) (ht : Tree ts) (hb : b < ts.length) (hu : u ≤ dep ts b) :
    Calls Try.prog 116 #[.agg cs, .int .i64 b, .int .i64 u] w (UpPost w (.int .i64 (anc ts b u))) := by
  have hu32 : u < 32 := by have := dep_le ht hb; have := ht.few; omega
  have hfew := ht.few
  have hcell : ∀ i, i < ts.length * 5 → (w.alloc (.cells cs 115)).cell? ⟨w.heap.size, i, none⟩ = some (.int .i64 (jmpC ts i)) := fun i hi => by
    rw [cell_of_row _ _ _ _ _ _ (heap_alloc_new _ _)]; exact hc.2 i hi
  have hbel : Below w.heap.size w (w.alloc (.cells cs 115)) := (Below.refl _ _).alloc (Nat.le_refl _) _
  have hcl := Lib.hid hcell
  have hbl := Lib.hid hbel
  clear hcell hbel
  go_enter Try.func116, Try.ntmps116
  go_wp2_with fail
  generalize w.alloc (.cells cs 115) = wx at hcl hbl ⊢
  clear hc
  go_loop [1, 7, 8] (fun x _ i => ∃ k : Nat, k ≤ 5 ∧ i = .int .i64 k ∧ x = .int .i64 (anc ts b (u % 2 ^ k) : Nat)) (fun _ _ i => 5 - (intOf i).toNat)
  case atStart => exact ⟨0, by omega, rfl, by rw [Nat.pow_zero, Nat.mod_one]; rfl⟩
  case round =>
    obtain ⟨k, hk, rfl, rfl⟩ := hrel
    by_cases hlt : k < 5
    · have hsb := shr_bits u hu32 k hlt
      have hal := anc_lt ht hb (u % 2 ^ k)
      have hcc := hcl.out (anc ts b (u % 2 ^ k) * 5 + k) (by omega)
      cases hbit : u.testBit k
      · rw [hbit] at hsb
        have hst := Lib.hid (bit_clear hbit)
        clear hbit hcc
        go_wp2_with fail
        go_round
        case rel => exact ⟨k + 1, by omega, by go_num, by rw [hst.out]⟩
        case measure => simp [intOf]; omega
      · rw [hbit] at hsb
        rw [jmpC_at ts hlt, leap_bit ht hb hu hbit] at hcc
        clear hbit
        have hal2 : anc ts b (u % 2 ^ k) < 24 := by omega
        go_wp2_with fail
        go_round
        case rel => exact ⟨k + 1, by omega, by go_num, rfl⟩
        case measure => simp [intOf]; omega
    · have hk5 : k = 5 := by omega
      subst hk5
      have hfin := Lib.hid (show anc ts b (u % 2 ^ 5) = anc ts b u by rw [Nat.mod_eq_of_lt (by omega)])
      go_wp2_with fail
      go_ret
      exact ⟨ret_int (by rw [hfin.out]), hbl.out⟩

/-- AncestorOf, as the document says it. -/
def ancOk (ts : List Blk) (b u : Int) : Bool := okK ts b && inB u 0 (dep ts b.toNat)
def ancR (ts : List Blk) (b u : Int) : Int := if ancOk ts b u then (anc ts b.toNat u.toNat : Nat) else 0

theorem wayV_get {ts : List Blk} (h : Tree ts) {k : Nat} (hk : k < ts.length) (j : Nat) (hj : j ≤ dep ts k) : (wayV ts k)[dep ts k - j]?.getD 0 = (anc ts k j : Nat) := by
  unfold wayV
  rw [List.getElem?_map, way_get h hk j hj]; rfl

end Go.Proofs.Ythiegfbdmmpabab
