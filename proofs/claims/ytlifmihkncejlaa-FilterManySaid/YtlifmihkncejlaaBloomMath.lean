/- Plain mathematics of filters: bits of bytes that are set and stay set; a text's six places. -/
import Derived.Test.YtlifmihkncejlaaBits
namespace Go.Proofs.Ytlifmihkncejlaa
set_option linter.unusedVariables false
/-- Bit k of bytes one behind the other. -/
def hasBit (f : List UInt8) (k : Nat) : Bool := ((f[k / 8]?.getD 0).toNat).testBit (k % 8)
/-- A byte with one bit more. -/
def orBit (b : UInt8) (i : Nat) : UInt8 := UInt8.ofNat (b.toNat ||| 2 ^ i)
theorem orBit_nat (b : UInt8) {i : Nat} (h : i < 8) : (orBit b i).toNat = b.toNat ||| 2 ^ i := by
  unfold orBit
  have h1 : b.toNat ||| 2 ^ i < 2 ^ 8 := Nat.or_lt_two_pow (by have := b.toNat_lt; omega) (Nat.pow_lt_pow_right (by omega) h)
  rw [UInt8.toNat_ofNat']
  exact Nat.mod_eq_of_lt (by simpa using h1)
def putBit (f : List UInt8) (k : Nat) : List UInt8 := f.set (k / 8) (orBit (f[k / 8]?.getD 0) (k % 8))
theorem putBit_len (f : List UInt8) (k : Nat) : (putBit f k).length = f.length := List.length_set
theorem putBit_has (f : List UInt8) {k : Nat} (h : k < 8 * f.length) : hasBit (putBit f k) k = true := by
  unfold hasBit putBit
  have hl : k / 8 < f.length := by omega
  rw [List.getElem?_set_self hl, Option.getD_some, orBit_nat _ (Nat.mod_lt _ (by omega)), Nat.testBit_or, Nat.testBit_two_pow_self, Bool.or_true]
theorem putBit_keep (f : List UInt8) (k : Nat) {j : Nat} (h : hasBit f j = true) : hasBit (putBit f k) j = true := by
  unfold hasBit putBit at *
  by_cases e : k / 8 = j / 8
  · by_cases hl : k / 8 < f.length
    · rw [← e, List.getElem?_set_self hl, Option.getD_some, orBit_nat _ (Nat.mod_lt _ (by omega)), Nat.testBit_or]
      rw [← e] at h
      rw [h, Bool.true_or]
    · rw [List.set_eq_of_length_le (by omega)]; exact h
  · rw [List.getElem?_set_ne e]; exact h
/-- h turned right by 17 bits. -/
def rotN (h : Nat) : Nat := h / 2 ^ 17 + h % 2 ^ 17 * 2 ^ 47
/-- A text's k-th place, h its sum. -/
def plcN (bits h k : Nat) : Nat := (h + k * rotN h) % 2 ^ 64 % bits
theorem plcN_lt {bits : Nat} (hb : 0 < bits) (h k : Nat) : plcN bits h k < bits := Nat.mod_lt _ hb
def addTo (bits h : Nat) (f : List UInt8) : Nat → List UInt8
  | 0 => f
  | n + 1 => putBit (addTo bits h f n) (plcN bits h n)
def addH (bits : Nat) (f : List UInt8) (h : Nat) : List UInt8 := addTo bits h f 6
def mayH (bits : Nat) (f : List UInt8) (h : Nat) : Bool := (List.range 6).all fun k => hasBit f (plcN bits h k)
theorem addTo_len (bits h : Nat) (f : List UInt8) : ∀ n, (addTo bits h f n).length = f.length
  | 0 => rfl
  | n + 1 => by rw [addTo, putBit_len, addTo_len bits h f n]
theorem addH_len (bits h : Nat) (f : List UInt8) : (addH bits f h).length = f.length := addTo_len bits h f 6
theorem addTo_keep (bits h : Nat) (f : List UInt8) {j : Nat} (hj : hasBit f j = true) : ∀ n, hasBit (addTo bits h f n) j = true
  | 0 => hj
  | n + 1 => putBit_keep _ _ (addTo_keep bits h f hj n)
theorem addTo_has (bits h : Nat) (f : List UInt8) (hb : 0 < bits) (hl : bits ≤ 8 * f.length) : ∀ n k, k < n → hasBit (addTo bits h f n) (plcN bits h k) = true
  | 0, k, hk => by omega
  | n + 1, k, hk => by
    by_cases e : k = n
    · subst e
      exact putBit_has _ (by rw [addTo_len]; have := plcN_lt hb h k; omega)
    · exact putBit_keep _ _ (addTo_has bits h f hb hl n k (by omega))
theorem mayH_add {bits : Nat} (hb : 0 < bits) {f : List UInt8} (hl : bits ≤ 8 * f.length) (h : Nat) : mayH bits (addH bits f h) h = true := by
  unfold mayH
  rw [List.all_eq_true]
  exact fun k hk => addTo_has bits h f hb hl 6 k (List.mem_range.1 hk)
theorem mayH_keep {bits : Nat} {f : List UInt8} (g : Nat) {h : Nat} (hm : mayH bits f h = true) : mayH bits (addH bits f g) h = true := by
  unfold mayH at *
  rw [List.all_eq_true] at *
  exact fun k hk => addTo_keep bits g f (hm k hk) 6
/-- The bits of a filter of texts whose sums are hs. -/
def bitsN (n : Nat) : Nat := (max 64 (10 * n) + 7) / 8 * 8
def filterF (hs : List Nat) : List UInt8 := hs.foldl (addH (bitsN hs.length)) (List.replicate (bitsN hs.length / 8) 0)
theorem fold_len (bits : Nat) : ∀ (hs : List Nat) (f : List UInt8), (hs.foldl (addH bits) f).length = f.length
  | [], _ => rfl
  | h :: hs, f => by rw [List.foldl_cons, fold_len bits hs, addH_len]
theorem fold_keep (bits : Nat) {g : Nat} : ∀ (hs : List Nat) (f : List UInt8), mayH bits f g = true → mayH bits (hs.foldl (addH bits) f) g = true
  | [], _, h => h
  | h :: hs, f, hm => by rw [List.foldl_cons]; exact fold_keep bits hs _ (mayH_keep h hm)
theorem fold_has {bits : Nat} (hb : 0 < bits) {g : Nat} : ∀ (hs : List Nat) (f : List UInt8), bits ≤ 8 * f.length → g ∈ hs → mayH bits (hs.foldl (addH bits) f) g = true
  | [], _, _, h => absurd h List.not_mem_nil
  | h :: hs, f, hl, hm => by
    rw [List.foldl_cons]
    rcases List.mem_cons.1 hm with rfl | hm
    · exact fold_keep bits hs _ (mayH_add hb hl g)
    · exact fold_has hb hs _ (by rw [addH_len]; exact hl) hm
theorem filterF_len (hs : List Nat) : (filterF hs).length = bitsN hs.length / 8 := by
  unfold filterF; rw [fold_len, List.length_replicate]
theorem filterF_has {hs : List Nat} {g : Nat} (h : g ∈ hs) : mayH (bitsN hs.length) (filterF hs) g = true := by
  unfold filterF
  refine fold_has (by unfold bitsN; omega) hs _ ?_ h
  rw [List.length_replicate]
  unfold bitsN; omega
end Go.Proofs.Ytlifmihkncejlaa
