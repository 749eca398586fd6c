/- Letters, and the tables that the laws VersionSpan and VersionMoves make of them. -/
import Derived.Test.YtgdmmhdihgajkaaMVerC
import Derived.Test.YtgdmmhdihgajkaaMVerR
import Derived.Test.YtgdmmhdihgajkaaMBase
namespace Go.Proofs.Ytgdmmhdihgajkaa
set_option linter.unusedVariables false
set_option maxRecDepth 100000
open Go.RowKit
def ltr (i : Nat) : ByteArray := ⟨#[UInt8.ofNat (97 + i)]⟩
theorem ltr_size (i : Nat) : (ltr i).size = 1 := rfl
theorem conv_let (W : World) (i : Nat) (hi : i ≤ 100) : (convert 47 9 (.slice (some ⟨W.heap.size, 0, none⟩) 1 1)).run Try.prog (W.alloc (.cells #[.int .u8 (97 + (i : Int))] 5)) = .ok (.string (ltr i)) (W.alloc (.cells #[.int .u8 (97 + (i : Int))] 5)) := by
  refine RdB.text (bs := [UInt8.ofNat (97 + i)]) (OwnB.lit W [UInt8.ofNat (97 + i)] _ 1 0 rfl (by decide) ?_ (Nat.zero_le _)).rd
  have e1 : bv (UInt8.ofNat (97 + i)) = .int .u8 (97 + (i : Int)) := by unfold bv; rw [byte_of _ (by omega)]; congr 1
  rw [List.map_cons, e1]; rfl
theorem bl_ltr {i j : Nat} (hi : i ≤ 100) (hj : j ≤ 100) : bl (ltr i) (ltr j) ↔ i < j := by
  show [UInt8.ofNat (97 + i)] < [UInt8.ofNat (97 + j)] ↔ i < j
  rw [List.cons_lt_cons_iff, UInt8.lt_iff_toNat_lt, byte_of _ (by omega), byte_of _ (by omega)]
  constructor
  · rintro (h | ⟨-, h⟩)
    · omega
    · exact absurd h (List.lt_irrefl _)
  · intro h
    exact .inl (by omega)
/-- Table i of VersionSpan. -/
def spT (i : Nat) : Tbf := ⟨(i : Int) + 1, 2, 0, ltr (2 * i), ltr (2 * i + 1)⟩
def spL (n : Nat) : List Tbf := (List.range n).map spT
theorem spL_len (n : Nat) : (spL n).length = n := by unfold spL; rw [List.length_map, List.length_range]
theorem spL_succ (n : Nat) : spL (n + 1) = spL n ++ [spT n] := by unfold spL; rw [List.range_succ, List.map_append]; rfl
def spE (n : Nat) : Edt := ⟨50, 0, 0, spL n, []⟩
theorem spE_is : ∀ n, n ≤ 12 → applyV Ver.new (spE n) = some ⟨spL n, 50, 0, 0⟩
  | 0, _ => by kernel_rfl
  | 1, _ => by kernel_rfl
  | 2, _ => by kernel_rfl
  | 3, _ => by kernel_rfl
  | 4, _ => by kernel_rfl
  | 5, _ => by kernel_rfl
  | 6, _ => by kernel_rfl
  | 7, _ => by kernel_rfl
  | 8, _ => by kernel_rfl
  | 9, _ => by kernel_rfl
  | 10, _ => by kernel_rfl
  | 11, _ => by kernel_rfl
  | 12, _ => by kernel_rfl
  | n + 13, h => by omega
theorem ltr_ok (i : Nat) : (ltr i).size ≤ maxLen := by rw [ltr_size]; unfold maxLen; omega
theorem spE_ok (n : Nat) (hn : n ≤ 12) : (spE n).ok := by
  refine ⟨fun f hf => ?_, by show (spL n).length ≤ _; rw [spL_len]; omega, by simp [spE]⟩
  obtain ⟨i, -, rfl⟩ := List.mem_map.1 hf
  exact ⟨ltr_ok _, ltr_ok _⟩
/-- Does table i have a text from a to b? -/
def spP (a b i : Nat) : Prop := a ≤ b ∧ 2 * i ≤ b ∧ a ≤ 2 * i + 1
instance (a b i : Nat) : Decidable (spP a b i) := inferInstanceAs (Decidable (_ ∧ _ ∧ _))
def spC (a b n : Nat) : Nat := ((List.range n).filter fun i => decide (spP a b i)).length
theorem spC_succ (a b n : Nat) : spC a b (n + 1) = if spP a b n then spC a b n + 1 else spC a b n := by
  unfold spC
  rw [List.range_succ, List.filter_append, List.length_append]
  by_cases h : spP a b n
  · rw [if_pos h, List.filter_cons_of_pos (by simpa using h)]; rfl
  · rw [if_neg h, List.filter_cons_of_neg (by simpa using h)]; rfl
theorem spC_le (a b n : Nat) : spC a b n ≤ n := by
  unfold spC
  have := List.length_filter_le (fun i => decide (spP a b i)) (List.range n)
  rwa [List.length_range] at this
theorem sp_over {V : Ver} {n a b : Nat} (hn : n ≤ 12) (ha : a ≤ 25) (hb : b ≤ 25) (h : vSame ⟨spL n, 50, 0, 0⟩ V) : (V.fs.filter fun f => decide (f.lvl = 2 ∧ vOverB (ltr a) (ltr b) f = true)).length = spC a b n := by
  rw [← (h.1.filter _).length_eq]
  show ((spL n).filter _).length = _
  unfold spL spC
  rw [List.filter_map, List.length_map]
  congr 1
  refine List.filter_congr fun i hi => ?_
  have hi := List.mem_range.1 hi
  show decide ((spT i).lvl = 2 ∧ vOverB (ltr a) (ltr b) (spT i) = true) = decide (spP a b i)
  refine decide_eq_decide.2 ?_
  unfold spP vOverB spT
  simp only [true_and, Bool.and_eq_true, Bool.not_eq_true', decide_eq_false_iff_not, bl_ltr (show b ≤ 100 by omega) (show a ≤ 100 by omega), bl_ltr (show b ≤ 100 by omega) (show 2 * i ≤ 100 by omega), bl_ltr (show 2 * i + 1 ≤ 100 by omega) (show a ≤ 100 by omega)]
  omega
end Go.Proofs.Ytgdmmhdihgajkaa
