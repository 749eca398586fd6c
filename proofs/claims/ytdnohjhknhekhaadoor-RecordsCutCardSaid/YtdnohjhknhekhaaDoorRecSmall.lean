/- reclog's small functions: where the next piece begins, a head's numbers, within the block, cut off. -/
import Derived.Test.YtdnohjhknhekhaaDoorRecRun
import Derived.Test.YtdnohjhknhekhaaDoorNumFix
import Derived.Test.YtdnohjhknhekhaaDoorCrcSum
import Derived.RegionTactic
import Derived.Deep.QuietTactic
import Derived.BigQuiet
namespace Go.Proofs.YtdnohjhknhekhaaDoor
set_option linter.unusedVariables false
open Go.RowKit
/-- A sum's four bytes. -/
def smN (l : List UInt8) : List UInt8 := fixN 4 (moreN 0 l)
theorem smN_len (l : List UInt8) : (smN l).length = 4 := fixN_len _ _
theorem fix_unf : ∀ (k : Nat) (l : List UInt8), l.length = k → fixN k (unfN l) = l
  | 0, l, h => by rw [List.eq_nil_of_length_eq_zero h]; rfl
  | k + 1, [], h => by simp at h
  | k + 1, b :: l, h => by
    have hb : b.toNat < 256 := b.toNat_lt
    have e1 : (b.toNat + 256 * unfN l) % 256 = b.toNat := by omega
    have e2 : (b.toNat + 256 * unfN l) / 256 = unfN l := by omega
    rw [unfN, fixN, e1, e2, fix_unf k l (by simpa using h)]
    simp
/-- The sum that a head holds is that of what follows it. -/
theorem sum_is {r l : List UInt8} (h : 4 ≤ r.length) : (unfK 4 r = moreN 0 l) ↔ r.take 4 = smN l := by
  have hl : (r.take 4).length = 4 := by rw [List.length_take]; omega
  unfold unfK smN
  rw [if_pos h]
  refine ⟨fun e => ?_, fun e => ?_⟩
  · rw [← e, fix_unf 4 _ hl]
  · rw [e, unf_fix 4 _ (Nat.lt_of_lt_of_le (moreN_lt (by decide) l) (by decide))]
set_option maxHeartbeats 400000 in
theorem next_any (a : Nat) (ha : a ≤ 10000000000000) (w : World) : Calls Tryd.prog 14 #[.int .i64 (a : Int)] w fun e w' => e = .returned (.int .i64 ((a + padN a : Nat) : Int)) ∧ w = w' := by
  unfold padN
  by_cases h : 256 - a % 256 < 7
  · rw [if_pos h]
    have hz : (256 : Int) - (a : Int) % 256 < 7 := by omega
    go_enter Tryd.func14, Tryd.ntmps14
    go_wp2
    go_ret
    refine ⟨?_, rfl⟩
    have e : (a : Int) + (256 - (a : Int) % 256) = ((a + (256 - a % 256) : Nat) : Int) := by omega
    rw [← e]; rfl
  · rw [if_neg h]
    have hz : ¬ (256 : Int) - (a : Int) % 256 < 7 := by omega
    go_enter Tryd.func14, Tryd.ntmps14
    go_wp2
    go_ret
    exact ⟨rfl, rfl⟩
set_option maxHeartbeats 400000 in
theorem head_any (s : Option Addr) (len cap a : Nat) (ha : a ≤ 10000000000000) (hl : len ≤ 1000000000000) (w : World) : Calls Tryd.prog 25 #[.slice s len cap, .int .i64 (a : Int)] w fun e w' => e = .returned (.bool (decide (7 ≤ len - a))) ∧ w = w' := by
  have hz : decide (7 ≤ len - a) = decide ((7 : Int) ≤ (len : Int) - (a : Int)) := by
    by_cases h : 7 ≤ len - a
    · rw [decide_eq_true h, decide_eq_true (by omega)]
    · rw [decide_eq_false h, decide_eq_false (by omega)]
  rw [hz]
  go_enter Tryd.func25, Tryd.ntmps25
  go_wp2
  go_ret
  exact ⟨rfl, rfl⟩
set_option maxHeartbeats 400000 in
theorem block_any (a b : Nat) (ha : a ≤ 10000000000000) (hb : b ≤ 20000000000000) (w : World) : Calls Tryd.prog 27 #[.int .i64 (a : Int), .int .i64 (b : Int)] w fun e w' => e = .returned (.bool (decide (b ≤ a - a % 256 + 256))) ∧ w = w' := by
  have hz : decide (b ≤ a - a % 256 + 256) = decide ((b : Int) ≤ (a : Int) - (a : Int) % 256 + 256) := by
    by_cases h : b ≤ a - a % 256 + 256
    · rw [decide_eq_true h, decide_eq_true (by omega)]
    · rw [decide_eq_false h, decide_eq_false (by omega)]
  rw [hz]
  go_enter Tryd.func27, Tryd.ntmps27
  go_wp2
  go_ret
  exact ⟨rfl, rfl⟩
set_option maxHeartbeats 1000000 in
theorem ending_any (s : Option Addr) (len cap a : Nat) (log : List UInt8) (hl : log.length ≤ 1000000000000) (ha : a + 7 ≤ log.length) (w : World) (h : RdB w (.slice s len cap) log) :
    Calls Tryd.prog 26 #[.slice s len cap, .int .i64 (a : Int)] w fun e w' => e = .returned (.int .i64 ((a + 7 + szS (log.drop a) : Nat) : Int)) ∧ DrN w w' := by
  obtain ⟨x, hx⟩ : ∃ x, log[a + 4]? = some x := ⟨_, List.getElem?_eq_getElem (by omega)⟩
  obtain ⟨y, hy⟩ : ∃ y, log[a + 5]? = some y := ⟨_, List.getElem?_eq_getElem (by omega)⟩
  have hs : szS (log.drop a) = x.toNat + 256 * y.toNat := by
    unfold szS
    rw [List.getD_eq_getElem?_getD, List.getD_eq_getElem?_getD, List.getElem?_drop, List.getElem?_drop, hx, hy]; rfl
  obtain ⟨b, off, rfl, hb, c1⟩ := h.at (a + 4) x hx
  obtain ⟨b', off', e, -, c2⟩ := h.at (a + 5) y hy
  simp only [Option.some.injEq, Addr.mk.injEq, and_true] at e
  obtain ⟨rfl, rfl⟩ := e
  obtain ⟨_, _, _, e, hlen, hc⟩ := h.form
  simp only [Value.slice.injEq] at e
  obtain ⟨-, rfl, rfl⟩ := e
  obtain ⟨hc1, hc2⟩ := hc (by omega)
  unfold maxLen at hc2
  have hxb : x.toNat < 256 := x.toNat_lt
  have hyb : y.toNat < 256 := y.toNat_lt
  rw [hs]
  generalize x.toNat = m at *
  generalize y.toNat = n at *
  have ha2 : a ≤ 1000000000000 := by omega
  have hl2 : len ≤ 1000000000000 := by omega
  have hz1 : (a : Int) + 4 < (len : Int) := by omega
  have hz2 : (a : Int) + 5 < (len : Int) := by omega
  have t4 : ((a : Int) + 4).toNat = a + 4 := by omega
  have t5 : ((a : Int) + 5).toNat = a + 5 := by omega
  have z4 : (0 : Int) ≤ (a : Int) + 4 := by omega
  have z5 : (0 : Int) ≤ (a : Int) + 5 := by omega
  clear hx hy hs h hc hlen hl ha
  go_enter Tryd.func26, Tryd.ntmps26
  have f7 : IntKind.i64.wrap ((a : Int) + 7) = (a : Int) + 7 := IntWalk.i64_in _ (by omega)
  have f4 : IntKind.i64.wrap ((a : Int) + 4) = (a : Int) + 4 := IntWalk.i64_in _ (by omega)
  have f5 : IntKind.i64.wrap ((a : Int) + 5) = (a : Int) + 5 := IntWalk.i64_in _ (by omega)
  have f8 : IntKind.i64.wrap (m : Int) = (m : Int) := IntWalk.i64_in _ (by omega)
  have f9 : IntKind.i64.wrap (n : Int) = (n : Int) := IntWalk.i64_in _ (by omega)
  have f10 : IntKind.i64.wrap ((a : Int) + 7 + (m : Int)) = (a : Int) + 7 + (m : Int) := IntWalk.i64_in _ (by omega)
  have f11 : IntKind.i64.wrap ((n : Int) * 256) = (n : Int) * 256 := IntWalk.i64_in _ (by omega)
  have f12 : IntKind.i64.wrap ((a : Int) + 7 + (m : Int) + (n : Int) * 256) = (a : Int) + 7 + (m : Int) + (n : Int) * 256 := IntWalk.i64_in _ (by omega)
  go_wp2_with fail
  go_quiet (fail)
  go_wp2
  go_ret
  refine ⟨?_, _, rfl⟩
  have e : (a : Int) + 7 + (m : Int) + (n : Int) * 256 = ((a + 7 + (m + 256 * n) : Nat) : Int) := by omega
  rw [← e]; rfl
end Go.Proofs.YtdnohjhknhekhaaDoor
