/- Plain facts on the two tables as lines of bytes: digits, words, fields, the line of a character. No program is named here. -/
import Derived.Test.YtmglnpnkkidnnaaDoorBits
namespace Go.Proofs.YtmglnpnkkidnnaaDoor
set_option linter.unusedVariables false
open Go.RowKit

/-- a text of bytes. -/
def bs (l : List UInt8) : ByteArray := ⟨l.toArray⟩
theorem bs_data (l : List UInt8) : (bs l).data.toList = l := by simp [bs]
theorem bs_size (l : List UInt8) : (bs l).size = l.length := by rw [← size_toList, bs_data]
theorem bs_of (s : ByteArray) : bs s.data.toList = s := by cases s; simp [bs]
theorem bs_ext {s : ByteArray} {l : List UInt8} (h : s.data.toList = l) : s = bs l := by rw [← h, bs_of]

def dig (c : UInt8) : Nat := if c.toNat < 58 then c.toNat - 48 else c.toNat - 55
def digOk (b : Nat) (c : UInt8) : Bool := decide (48 ≤ c.toNat ∧ c.toNat ≤ 57 ∨ b = 16 ∧ 65 ≤ c.toNat ∧ c.toNat ≤ 70)
def numB (b : Nat) (l : List UInt8) : Nat := l.foldl (fun n c => n * b + dig c) 0
theorem numB_snoc (b : Nat) (l : List UInt8) (c : UInt8) : numB b (l ++ [c]) = numB b l * b + dig c := by simp [numB]
theorem dig_lt {b : Nat} {c : UInt8} (hb : b = 10 ∨ b = 16) (h : digOk b c = true) : dig c < b := by
  unfold digOk at h; have := of_decide_eq_true h; unfold dig; split <;> omega
theorem numB_lt {b : Nat} (hb : b = 10 ∨ b = 16) (l : List UInt8) (h : l.all (digOk b) = true) (n : Nat) (hl : l.length ≤ n) : numB b l < 16 ^ n := by
  induction n generalizing l with
  | zero => have : l = [] := List.eq_nil_of_length_eq_zero (by omega)
            subst this; show 0 < 16 ^ 0; decide
  | succ n ih =>
    rcases List.eq_nil_or_concat l with rfl | ⟨l', c, rfl⟩
    · simp [numB]; exact Nat.pow_pos (by decide)
    · rw [List.concat_eq_append, numB_snoc]
      simp only [List.concat_eq_append, List.all_append, List.all_cons, List.all_nil, Bool.and_true, Bool.and_eq_true] at h
      have h1 := ih l' h.1 (by simp at hl; omega)
      have h2 := dig_lt hb h.2
      have h3 : numB b l' * b ≤ numB b l' * 16 := Nat.mul_le_mul (Nat.le_refl _) (by omega)
      rw [Nat.pow_succ]; omega
/-- digits of a base, at most ten of them: what both number functions are handed. -/
def DigsOk (b : Nat) (l : List UInt8) : Prop := l.all (digOk b) = true ∧ l.length ≤ 10
theorem numB_bd {b : Nat} (hb : b = 10 ∨ b = 16) {l : List UInt8} (h : DigsOk b l) : numB b l < 1099511627776 := numB_lt hb l h.1 10 h.2
theorem digsOk_take {b : Nat} {l : List UInt8} (h : DigsOk b l) (k : Nat) : DigsOk b (l.take k) :=
  ⟨List.all_eq_true.2 fun x hx => List.all_eq_true.1 h.1 x (List.mem_of_mem_take hx), by rw [List.length_take]; have := h.2; omega⟩

end Go.Proofs.YtmglnpnkkidnnaaDoor
