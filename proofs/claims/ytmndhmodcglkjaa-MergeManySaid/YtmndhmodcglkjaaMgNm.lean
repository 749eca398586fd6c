/- Texts of one and of two letters; entries that are alike, put together. -/
import Derived.Test.YtmndhmodcglkjaaMgBeg
namespace Go.Proofs.Ytmndhmodcglkjaa
set_option linter.unusedVariables false
set_option maxRecDepth 100000
open Go.RowKit
def ltr1 (i : Nat) : ByteArray := ⟨#[UInt8.ofNat (97 + i)]⟩
theorem ltr1_own (w : World) (i : Nat) (hi : i < 100) : OwnB 0 (w.alloc (.cells #[.int .u8 (97 + (i : Int))] 5)) (.slice (some ⟨w.heap.size, 0, none⟩) 1 1) [UInt8.ofNat (97 + i)] := by
  refine OwnB.lit w _ _ 1 0 rfl (by decide) ?_ (Nat.zero_le _)
  have e1 : bv (UInt8.ofNat (97 + i)) = .int .u8 (97 + (i : Int)) := by unfold bv; rw [byte_of _ (by omega)]; congr 1
  rw [List.map_cons, e1]; rfl
theorem ltr1_conv {w W : World} {i : Nat} (hi : i < 100) (h : Below (w.alloc (.cells #[.int .u8 (97 + (i : Int))] 5)).heap.size (w.alloc (.cells #[.int .u8 (97 + (i : Int))] 5)) W) : (convert 43 9 (.slice (some ⟨w.heap.size, 0, none⟩) 1 1)).run Try.prog W = .ok (.string (ltr1 i)) W :=
  RdB.text (RdV.below (ltr1_own w i hi).rd h)
def ltr2 (i : Nat) : ByteArray := ⟨#[UInt8.ofNat (97 + i / 26), UInt8.ofNat (97 + i % 26)]⟩
theorem ltr2_own (w : World) (i : Nat) (hi : i < 200) : OwnB 0 (w.alloc (.cells #[.int .u8 (97 + (i : Int) / 26), .int .u8 (97 + (i : Int) % 26)] 5)) (.slice (some ⟨w.heap.size, 0, none⟩) 2 2) [UInt8.ofNat (97 + i / 26), UInt8.ofNat (97 + i % 26)] := by
  refine OwnB.lit w _ _ 2 0 rfl (by decide) ?_ (Nat.zero_le _)
  have e1 : bv (UInt8.ofNat (97 + i / 26)) = .int .u8 (97 + (i : Int) / 26) := by unfold bv; rw [byte_of _ (by omega)]; congr 1
  have e2 : bv (UInt8.ofNat (97 + i % 26)) = .int .u8 (97 + (i : Int) % 26) := by unfold bv; rw [byte_of _ (by omega)]; congr 1
  rw [List.map_cons, List.map_cons, e1, e2]; rfl
theorem ltr2_conv {w W : World} {i : Nat} (hi : i < 200) (h : Below (w.alloc (.cells #[.int .u8 (97 + (i : Int) / 26), .int .u8 (97 + (i : Int) % 26)] 5)).heap.size (w.alloc (.cells #[.int .u8 (97 + (i : Int) / 26), .int .u8 (97 + (i : Int) % 26)] 5)) W) : (convert 43 9 (.slice (some ⟨w.heap.size, 0, none⟩) 2 2)).run Try.prog W = .ok (.string (ltr2 i)) W :=
  RdB.text (RdV.below (ltr2_own w i hi).rd h)
theorem mrgL_alike {l : List Ent} (h : ∀ a, a ∈ l → ∀ b, b ∈ l → ¬ ltE a b) : mrgL l = l := by
  have : ∀ (n : Nat) (l : List Ent), l.length = n → (∀ a, a ∈ l → ∀ b, b ∈ l → ¬ ltE a b) → mrgL l = l := fun n => by
    induction n with
    | zero => intro l hl _; rw [List.eq_nil_of_length_eq_zero hl]; rfl
    | succ n ih =>
      intro l hl h
      have hne : l ≠ [] := by intro e; rw [e] at hl; cases hl
      have e := List.dropLast_concat_getLast hne
      rw [← e, mrgL_snoc, ih l.dropLast (by simp [hl]) fun a ha b hb => h a (List.dropLast_subset _ ha) b (List.dropLast_subset _ hb)]
      exact into_last fun a ha => h _ (List.getLast_mem hne) a (List.dropLast_subset _ ha)
  exact this _ l rfl h
theorem elemK_ll : ElemK Try.prog 22 24 1 24 (.slice none 0 0) := ⟨by kernel_rfl, by kernel_rfl, rfl, by decide⟩
end Go.Proofs.Ytmndhmodcglkjaa
