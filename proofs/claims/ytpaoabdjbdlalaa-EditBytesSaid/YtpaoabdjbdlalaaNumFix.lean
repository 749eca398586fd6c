/- The walks of varint.putFixed and varint.getFixed. -/
import Derived.Test.YtpaoabdjbdlalaaNumPut
import Derived.Test.YtpaoabdjbdlalaaNumGet
import Derived.Laws.OwnMore
import Derived.Deep.OwnRows
import Derived.Deep.DeepCutAuto
import Derived.Deep.CutBlock
namespace Go.Proofs.Ytpaoabdjbdlalaa
set_option linter.unusedVariables false
open Go.RowKit
theorem fixN_snoc : ∀ (j n : Nat), fixN (j + 1) n = fixN j n ++ [UInt8.ofNat (n / 2 ^ (8 * j) % 256)]
  | 0, n => by simp [fixN]
  | j + 1, n => by
    rw [fixN, fixN_snoc j (n / 256), fixN, List.cons_append, Nat.div_div_eq_div_mul]
    have : 256 * 2 ^ (8 * j) = 2 ^ (8 * (j + 1)) := by rw [Nat.mul_add, Nat.pow_add, Nat.mul_comm]
    rw [this]
/-- the row that is being filled -/
def fixAt (K n j : Nat) : List Value := (fixN j n).map bv ++ List.replicate (K - j) (.int .u8 0)
theorem fixAt_len (K n j : Nat) (h : j ≤ K) : (fixAt K n j).length = K := by
  unfold fixAt; rw [List.length_append, List.length_map, fixN_len, List.length_replicate]; omega
theorem fixAt_old (K n j : Nat) (h : j < K) : (fixAt K n j)[j]? = some (.int .u8 0) := by
  unfold fixAt
  rw [List.getElem?_append_right (by rw [List.length_map, fixN_len]; exact Nat.le_refl _), List.length_map, fixN_len, Nat.sub_self, List.getElem?_replicate, if_pos (by omega)]
theorem fixAt_step (K n j : Nat) (h : j < K) : (fixAt K n j).set j (.int .u8 ((n / 2 ^ (8 * j) % 256 : Nat) : Int)) = fixAt K n (j + 1) := by
  unfold fixAt
  rw [fixN_snoc, List.map_append, show K - j = (K - (j + 1)) + 1 by omega, List.replicate_succ]
  have hl : ((fixN j n).map bv).length = j := by rw [List.length_map, fixN_len]
  generalize (fixN j n).map bv = p at hl
  subst hl
  rw [List.set_append_right _ _ (Nat.le_refl _), Nat.sub_self, List.set_cons_zero, List.append_assoc]
  simp only [List.map_cons, List.map_nil, List.cons_append, List.nil_append]
  unfold bv
  rw [byte_of _ (by omega)]
theorem pf_big (n j : Nat) : ((n : Int) / 2 ^ (8 * j)) = ((n / 2 ^ (8 * j) : Nat) : Int) := by
  rw [Int.natCast_ediv, Int.natCast_pow]; rfl
theorem unfN_snoc : ∀ (p : List UInt8) (c : UInt8), unfN (p ++ [c]) = unfN p + c.toNat * 2 ^ (8 * p.length)
  | [], c => by simp [unfN]
  | b :: p, c => by
    have h : 2 ^ (8 * (p.length + 1)) = 2 ^ (8 * p.length) * 256 := by rw [Nat.mul_add, Nat.pow_add]
    rw [List.cons_append, unfN, unfN, unfN_snoc p c, List.length_cons, h]
    generalize 2 ^ (8 * p.length) = q
    rw [Nat.mul_add, ← Nat.mul_assoc, Nat.mul_comm 256 c.toNat, Nat.mul_assoc c.toNat 256 q, Nat.mul_comm 256 q, Nat.add_assoc]
theorem pow8 {j : Nat} (h : j ≤ 7) : 2 ^ (8 * j) ≤ 2 ^ 56 := Nat.pow_le_pow_right (by decide) (by omega)
theorem cast_wrap8 (a s : Nat) : ((a : Int) * 2 ^ s) % 18446744073709551616 = (((a * 2 ^ s) % 2 ^ 64 : Nat) : Int) := by
  rw [Int.natCast_emod, Int.natCast_mul, Int.natCast_pow]; rfl
theorem fix_bd (c : UInt8) (m j : Nat) (h : j ≤ 7) (hm : m < 2 ^ (8 * j)) : m + c.toNat * 2 ^ (8 * j) < 2 ^ (8 * (j + 1)) ∧ c.toNat * 2 ^ (8 * j) < 2 ^ 64 := by
  have h1 : c.toNat < 256 := c.toNat_lt
  have h2 := pow8 h
  have h6 : 2 ^ (8 * (j + 1)) = 2 ^ (8 * j) * 256 := by rw [Nat.mul_add, Nat.pow_add]
  have h8 : c.toNat * 2 ^ (8 * j) ≤ 255 * 2 ^ (8 * j) := Nat.mul_le_mul_right _ (by omega)
  omega
theorem fix_or (m j : Nat) (c : UInt8) (hj : j ≤ 7) (hm : m < 2 ^ (8 * j)) : bits .or .u64 (m : Int) (IntKind.u64.wrap ((c.toNat : Int) * 2 ^ (8 * j))) = ((m + c.toNat * 2 ^ (8 * j) : Nat) : Int) := by
  have h1 := (fix_bd c m j hj hm).2
  have h2 := pow8 hj
  rw [IntKind.wrap_u64, cast_wrap8, Nat.mod_eq_of_lt h1, u64_or_nat m _ (by omega) (by omega), Nat.or_comm, nat_join (8 * j) _ m (Nat.mul_mod_left _ _) hm, Nat.add_comm]
/-- the number of the first K bytes (0: fewer) -/
def unfK (K : Nat) (l : List UInt8) : Nat := if K ≤ l.length then unfN (l.take K) else 0
end Go.Proofs.Ytpaoabdjbdlalaa
