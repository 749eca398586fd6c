/- The list's laws: norms of one letter; a list of the law's own. -/
import Derived.Test.YtacaofnonmgfoaaSkipBegun
namespace Go.Proofs.Ytacaofnonmgfoaa
set_option linter.unusedVariables false
open Go.RowKit
/-- A norm of one letter. -/
def nmB (k : Nat) : ByteArray := ⟨#[(97 + k).toUInt8]⟩
theorem nmB_size (k : Nat) : (nmB k).size = 1 := rfl
theorem conv_letter (w : World) (k : Nat) (hk : k < 100) : (convert 41 9 (.slice (some ⟨w.heap.size, 0, none⟩) 1 1)).run Try.prog (w.alloc (.cells #[.int .u8 (97 + (k : Int))] 5)) = .ok (.string (nmB k)) (w.alloc (.cells #[.int .u8 (97 + (k : Int))] 5)) := by
  have hz : (((97 + k).toUInt8).toNat : Int) = 97 + (k : Int) := by
    have : ((97 + k).toUInt8).toNat = (97 + k) % 256 := by simp [Nat.toUInt8, UInt8.toNat_ofNat']
    rw [this]; omega
  have h := (OwnB.lit w [(97 + k).toUInt8] #[.int .u8 (97 + (k : Int))] 1 w.heap.size rfl (by unfold maxLen; omega) (by show #[Value.int .u8 (((97 + k).toUInt8).toNat : Int)] = _; rw [hz]) (Nat.le_refl _)).rd.text
  exact h
theorem letter_own (w : World) (k : Nat) (hk : k < 100) : OwnB w.heap.size (w.alloc (.cells #[.int .u8 (97 + (k : Int))] 5)) (.slice (some ⟨w.heap.size, 0, none⟩) 1 1) [(97 + k).toUInt8] := by
  have hz : (((97 + k).toUInt8).toNat : Int) = 97 + (k : Int) := by
    have : ((97 + k).toUInt8).toNat = (97 + k) % 256 := by simp [Nat.toUInt8, UInt8.toNat_ofNat']
    rw [this]; omega
  exact OwnB.lit w [(97 + k).toUInt8] #[.int .u8 (97 + (k : Int))] 1 w.heap.size rfl (by unfold maxLen; omega) (by show #[Value.int .u8 (((97 + k).toUInt8).toNat : Int)] = _; rw [hz]) (Nat.le_refl _)
theorem letter_at (w : World) (k : Nat) (hk : k < 100) {W : World} (h : Below (w.alloc (.cells #[.int .u8 (97 + (k : Int))] 5)).heap.size (w.alloc (.cells #[.int .u8 (97 + (k : Int))] 5)) W) : (convert 41 9 (.slice (some ⟨w.heap.size, 0, none⟩) 1 1)).run Try.prog W = .ok (.string (nmB k)) W := by
  exact (RdB.text (RdV.below (letter_own w k hk).rd h))
theorem nmB_inj {i j : Nat} (hi : i < 100) (hj : j < 100) (h : nmB i = nmB j) : i = j := by
  have h1 : (97 + i).toUInt8 = (97 + j).toUInt8 := by
    have := congrArg (fun b : ByteArray => b.data.toList) h
    simpa [nmB] using this
  have h2 := congrArg UInt8.toNat h1
  have e : ∀ k, ((97 + k).toUInt8).toNat = (97 + k) % 256 := fun k => by simp [Nat.toUInt8, UInt8.toNat_ofNat']
  rw [e, e] at h2
  omega
/-- Own blocks of a list that lie behind w. -/
structure OneAt (w : World) (b : Nat) (ρ : Nat → Option Rl) (H : List Int) (l : List Ent) (W : World) : Prop where
  at_ : SkAt W b ρ H l
  new : ∀ k, ρ k ≠ none → w.heap.size ≤ k
  below : Below w.heap.size w W
theorem OneAt.put {w : World} {b : Nat} {ρ : Nat → Option Rl} {H : List Int} {l : List Ent} {W : World} (h : OneAt w b ρ H l W) {W1 W2 : World} (u : Below W.heap.size W W1) {l' : List Ent} (t : SkTo W1 b ρ W2 H l') : ∃ ρ', OneAt w b ρ' H l' W2 := by
  obtain ⟨ρ', h1, h2, h3⟩ := t
  have hb := h.below.trans (u.mono h.below.size)
  refine ⟨ρ', h1, fun k hk => ?_, hb.trans (h2.below hb.size fun k hk f => by have := h.new k f; omega)⟩
  rcases h3 k hk with h4 | h4
  · exact h.new k h4
  · exact Nat.le_trans hb.size h4
end Go.Proofs.Ytacaofnonmgfoaa
