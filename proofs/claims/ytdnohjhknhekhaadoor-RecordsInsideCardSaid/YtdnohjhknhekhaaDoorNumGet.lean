/- The walks of varint.ended and varint.Get. -/
import Derived.Test.YtdnohjhknhekhaaDoorByt
import Derived.Test.YtdnohjhknhekhaaDoorNumMath
import Derived.RegionTactic
import Derived.Deep.QuietTactic
import Derived.Deep.LoopGhost
import Derived.BigQuiet
namespace Go.Proofs.YtdnohjhknhekhaaDoor
set_option linter.unusedVariables false
open Go.RowKit
def numRes (r : Option (Nat × Nat)) : Value := match r with
  | none => .tuple #[.int .u64 0, .int .i64 0]
  | some (n, k) => .tuple #[.int .u64 (n : Int), .int .i64 (k : Int)]
def GetRes (r : Option (Nat × Nat)) (w : World) (e : Ending) (w' : World) : Prop := e = .returned (numRes r) ∧ w = w'
theorem valN_snoc : ∀ (p : List UInt8) (c : UInt8), valN (p ++ [c]) = valN p + c.toNat % 128 * 2 ^ (7 * p.length)
  | [], c => by simp [valN]
  | b :: p, c => by
    have h : 2 ^ (7 * (p.length + 1)) = 2 ^ (7 * p.length) * 128 := by rw [Nat.mul_add, Nat.pow_add]
    rw [List.cons_append, valN, valN, valN_snoc p c, List.length_cons, h]
    generalize 2 ^ (7 * p.length) = q
    rw [Nat.mul_add, ← Nat.mul_assoc, Nat.mul_comm 128 (c.toNat % 128), Nat.mul_assoc (c.toNat % 128) 128 q, Nat.mul_comm 128 q, Nat.add_assoc]
theorem pow7 {j : Nat} (h : j ≤ 9) : 2 ^ (7 * j) ≤ 2 ^ 63 := Nat.pow_le_pow_right (by decide) (by omega)
theorem pow7' {j : Nat} (h : j ≤ 8) : 2 ^ (7 * j) ≤ 2 ^ 56 := Nat.pow_le_pow_right (by decide) (by omega)
theorem cast_wrap (a s : Nat) : ((a : Int) % 128 * 2 ^ s) % 18446744073709551616 = (((a % 128 * 2 ^ s) % 2 ^ 64 : Nat) : Int) := by
  rw [Int.natCast_emod, Int.natCast_mul, Int.natCast_emod, Int.natCast_pow]; rfl
theorem and127b : ∀ n : Fin 256, bits .and .u8 (n.val : Int) 127 = (n.val % 128 : Nat) := by decide +kernel
theorem byte_and127 (b : UInt8) : bits .and .u8 (b.toNat : Int) 127 = (b.toNat % 128 : Nat) := and127b ⟨b.toNat, b.toNat_lt⟩
/-- 'n | c << 7 j' -/
theorem get_or (m j : Nat) (c : UInt8) (hm : m < 18446744073709551616) : ∃ M : Nat, bits .or .u64 (m : Int) (IntKind.u64.wrap ((c.toNat : Int) % 128 * 2 ^ (7 * j))) = (M : Int) ∧ M < 18446744073709551616 ∧ Hid (m < 2 ^ (7 * j) → c.toNat % 128 * 2 ^ (7 * j) < 2 ^ 64 → M = m + c.toNat % 128 * 2 ^ (7 * j)) := by
  refine ⟨m ||| (c.toNat % 128 * 2 ^ (7 * j)) % 2 ^ 64, ?_, ?_, Lib.hid fun h1 h2 => ?_⟩
  · rw [IntKind.wrap_u64, show ((c.toNat : Int) % 128 * 2 ^ (7 * j)) % 18446744073709551616 = (((c.toNat % 128 * 2 ^ (7 * j)) % 2 ^ 64 : Nat) : Int) from cast_wrap _ _, u64_or_nat m _ hm (Nat.mod_lt _ (by decide))]
  · exact Nat.or_lt_two_pow (n := 64) hm (Nat.mod_lt _ (by decide))
  · rw [Nat.mod_eq_of_lt h2, Nat.or_comm, nat_join (7 * j) _ m (Nat.mul_mod_left _ _) h1, Nat.add_comm]
theorem get_snoc {l : List UInt8} {j : Nat} {c : UInt8} (hc : l[j]? = some c) (hj : j < l.length) : valN (l.take (j + 1)) = valN (l.take j) + c.toNat % 128 * 2 ^ (7 * j) := by
  rw [List.take_add_one, hc, Option.toList_some, valN_snoc, List.length_take, Nat.min_eq_left (by omega)]
theorem get_bd (c : UInt8) (j : Nat) (h : j ≤ 8) : c.toNat % 128 * 2 ^ (7 * j) < 2 ^ 63 := by
  have h1 : c.toNat % 128 < 128 := Nat.mod_lt _ (by decide)
  have h2 := pow7' h
  calc c.toNat % 128 * 2 ^ (7 * j) < 128 * 2 ^ (7 * j) := Nat.mul_lt_mul_of_pos_right h1 (Nat.two_pow_pos _)
    _ ≤ 128 * 2 ^ 56 := Nat.mul_le_mul_left _ h2
    _ = 2 ^ 63 := by decide
/-- one byte more that is 128 or more -/
theorem get_next {l : List UInt8} {j m M : Nat} {c : UInt8} (hc : l[j]? = some c) (hj : j < l.length) (h10 : j < 10) (h128 : 128 ≤ c.toNat)
    (HT : Hid (∀ (t : Nat) (c : UInt8), t < j → l[t]? = some c → 128 ≤ c.toNat)) (HM : Hid (j ≤ 9 → m = valN (l.take j) ∧ m < 2 ^ (7 * j)))
    (HE : Hid (m < 2 ^ (7 * j) → c.toNat % 128 * 2 ^ (7 * j) < 2 ^ 64 → M = m + c.toNat % 128 * 2 ^ (7 * j))) :
    Hid (∀ (t : Nat) (c : UInt8), t < j + 1 → l[t]? = some c → 128 ≤ c.toNat) ∧ Hid (j + 1 ≤ 9 → M = valN (l.take (j + 1)) ∧ M < 2 ^ (7 * (j + 1))) := by
  refine ⟨Lib.hid fun t d ht hd => ?_, Lib.hid fun h9 => ?_⟩
  · rcases Nat.lt_or_ge t j with h | h
    · exact HT.out t d h hd
    · obtain rfl : t = j := by omega
      rw [hc] at hd
      obtain rfl := Option.some.inj hd
      exact h128
  · obtain ⟨h1, h2⟩ := HM.out (by omega)
    have h3 := get_bd c j (by omega)
    have h4 := HE.out h2 (by omega)
    have h5 := get_snoc hc hj
    refine ⟨by rw [h4, h5, h1], ?_⟩
    have h6 : 2 ^ (7 * (j + 1)) = 2 ^ (7 * j) * 128 := by rw [Nat.mul_add, Nat.pow_add]
    have h7 : c.toNat % 128 < 128 := Nat.mod_lt _ (by decide)
    have h8 : c.toNat % 128 * 2 ^ (7 * j) ≤ 127 * 2 ^ (7 * j) := Nat.mul_le_mul_right _ (by omega)
    omega
/-- the last byte -/
theorem get_last {l : List UInt8} {j m M : Nat} {c : UInt8} (hc : l[j]? = some c) (hj : j < l.length) (h10 : j < 10) (h128 : c.toNat < 128)
    (HT : Hid (∀ (t : Nat) (c : UInt8), t < j → l[t]? = some c → 128 ≤ c.toNat)) (HM : Hid (j ≤ 9 → m = valN (l.take j) ∧ m < 2 ^ (7 * j)))
    (HE : Hid (m < 2 ^ (7 * j) → c.toNat % 128 * 2 ^ (7 * j) < 2 ^ 64 → M = m + c.toNat % 128 * 2 ^ (7 * j))) :
    getN l = if 0 < j ∧ c.toNat = 0 ∨ j = 9 ∧ 1 < c.toNat then none else some (M, j + 1) := by
  obtain ⟨h1, h2⟩ := HM.out (by omega)
  have h5 := get_snoc hc hj
  rw [getN_at HT.out h10 hc h128, h5, ← h1]
  have hz : c = 0 ↔ c.toNat = 0 := ⟨fun e => by rw [e]; rfl, fun e => UInt8.toNat_inj.1 (by rw [e]; rfl)⟩
  have hmod : c.toNat % 128 = c.toNat := Nat.mod_eq_of_lt h128
  by_cases hA : 0 < j ∧ c.toNat = 0
  · rw [if_pos ⟨hA.1, hz.2 hA.2⟩, if_pos (.inl hA)]
  · rw [if_neg fun h => hA ⟨h.1, hz.1 h.2⟩]
    by_cases h9 : j = 9
    · subst h9
      by_cases hB : 1 < c.toNat
      · rw [if_neg, if_pos (.inr ⟨rfl, hB⟩)]
        rw [hmod]; simp only [Nat.reduceMul, Nat.reducePow]; omega
      · have h3 : c.toNat % 128 * 2 ^ (7 * 9) < 2 ^ 64 := by rw [hmod]; simp only [Nat.reduceMul, Nat.reducePow]; omega
        have h4 := HE.out h2 h3
        rw [if_pos, if_neg, h4]
        · rintro (h | h)
          · exact hA h
          · exact hB h.2
        · simp only [Nat.reduceMul, Nat.reducePow] at h2 h3 ⊢; rw [hmod] at h3 ⊢; omega
    · have h3 := get_bd c j (by omega)
      have h4 := HE.out h2 (by omega)
      have h6 := pow7 (j := j) (by omega)
      rw [if_pos, if_neg, h4]
      · rintro (h | h)
        · exact hA h
        · exact h9 h.1
      · omega
end Go.Proofs.YtdnohjhknhekhaaDoor
