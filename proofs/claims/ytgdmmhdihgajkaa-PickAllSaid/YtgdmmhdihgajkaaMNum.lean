/- Plain mathematics of numbers as bytes, seven bits a byte: what is written is read again; what is longer than needed is none. -/
import Derived.Test.YtgdmmhdihgajkaaMBase
import Derived.RegionTactic
import Derived.Deep.QuietTactic
import Derived.Deep.LoopGhost
import Derived.BigQuiet
import Derived.Laws.Bits128
import Derived.Laws.OwnMore
import Derived.Deep.OwnRows
import Derived.Deep.DeepCutAuto
import Derived.Deep.CutBlock
namespace Go.Proofs.Ytgdmmhdihgajkaa
set_option linter.unusedVariables false
/-- a number's bytes (fuel: ten go for 64 bits) -/
def putF : Nat → Nat → List UInt8
  | 0, n => [UInt8.ofNat n]
  | f + 1, n => if n < 128 then [UInt8.ofNat n] else UInt8.ofNat (n % 128 + 128) :: putF f (n / 128)
def putN (n : Nat) : List UInt8 := putF 9 n
/-- how many bytes up to the first one below 128 (0: none is) -/
def endN : List UInt8 → Nat
  | [] => 0
  | b :: r => if b.toNat < 128 then 1 else if endN r = 0 then 0 else endN r + 1
/-- the number that bytes make -/
def valN : List UInt8 → Nat
  | [] => 0
  | b :: r => b.toNat % 128 + 128 * valN r
def getN (l : List UInt8) : Option (Nat × Nat) :=
  if endN l = 0 ∨ 10 < endN l then none else
  if 1 < endN l ∧ l[endN l - 1]? = some 0 then none else
  if valN (l.take (endN l)) < 2 ^ 64 then some (valN (l.take (endN l)), endN l) else none
theorem endN_le : ∀ l, endN l ≤ l.length
  | [] => by simp [endN]
  | b :: r => by
    have := endN_le r
    unfold endN
    split
    · simp
    · split <;> simp; omega
theorem endN_app : ∀ (l m : List UInt8), endN l ≠ 0 → endN (l ++ m) = endN l
  | [], m, h => by simp [endN] at h
  | b :: r, m, h => by
    rw [List.cons_append]
    unfold endN at h ⊢
    split
    · rfl
    · rename_i hb
      rw [if_neg hb] at h
      have h2 : endN r ≠ 0 := by
        intro e; rw [if_pos e] at h; exact h rfl
      rw [endN_app r m h2]
theorem getN_app (l m : List UInt8) (h : endN l ≠ 0) : getN (l ++ m) = getN l := by
  have hl := endN_le l
  unfold getN
  rw [endN_app l m h, List.getElem?_append_left (by omega), List.take_append_of_le_length hl]
theorem putF_len : ∀ f n, 1 ≤ (putF f n).length ∧ (putF f n).length ≤ f + 1
  | 0, n => by simp [putF]
  | f + 1, n => by
    unfold putF
    split
    · simp
    · have := putF_len f (n / 128); simp; omega
theorem putF_end : ∀ f n, n < 128 ^ (f + 1) → endN (putF f n) = (putF f n).length
  | 0, n, h => by
    have : n < 128 := by simpa using h
    simp [putF, endN, Nat.mod_eq_of_lt (show n < 256 by omega), this]
  | f + 1, n, h => by
    unfold putF
    split
    · rename_i hn
      simp [endN, Nat.mod_eq_of_lt (show n < 256 by omega), hn]
    · rename_i hn
      have hd : n / 128 < 128 ^ (f + 1) := by
        rw [Nat.pow_succ] at h
        exact Nat.div_lt_of_lt_mul (by rw [Nat.mul_comm]; exact h)
      have ih := putF_end f (n / 128) hd
      have hl := (putF_len f (n / 128)).1
      unfold endN
      rw [byte_of _ (by omega), if_neg (by omega), ih, if_neg (by omega)]; rfl
theorem putF_val : ∀ f n, n < 128 ^ (f + 1) → valN (putF f n) = n
  | 0, n, h => by
    have : n < 128 := by simpa using h
    unfold putF valN
    rw [byte_of _ (by omega)]; simp [valN]; omega
  | f + 1, n, h => by
    unfold putF
    split
    · rename_i hn
      unfold valN
      rw [byte_of _ (by omega)]; simp [valN]; omega
    · rename_i hn
      have hd : n / 128 < 128 ^ (f + 1) := by
        rw [Nat.pow_succ] at h
        exact Nat.div_lt_of_lt_mul (by rw [Nat.mul_comm]; exact h)
      unfold valN
      rw [byte_of _ (by omega), putF_val f _ hd]; omega
/-- the last byte of a number that takes more than one is not 0 -/
theorem putF_last : ∀ f n, n < 128 ^ (f + 1) → 0 < n → ∃ b, (putF f n).getLast? = some b ∧ b ≠ 0
  | 0, n, h, h0 => by
    have : n < 128 := by simpa using h
    refine ⟨UInt8.ofNat n, rfl, fun e => ?_⟩
    have := congrArg UInt8.toNat e
    rw [byte_of _ (by omega)] at this
    simp at this; omega
  | f + 1, n, h, h0 => by
    unfold putF
    split
    · rename_i hn
      refine ⟨UInt8.ofNat n, rfl, fun e => ?_⟩
      have := congrArg UInt8.toNat e
      rw [byte_of _ (by omega)] at this
      simp at this; omega
    · rename_i hn
      have hd : n / 128 < 128 ^ (f + 1) := by
        rw [Nat.pow_succ] at h
        exact Nat.div_lt_of_lt_mul (by rw [Nat.mul_comm]; exact h)
      obtain ⟨b, h1, h2⟩ := putF_last f (n / 128) hd (by omega)
      refine ⟨b, ?_, h2⟩
      have hl := (putF_len f (n / 128)).1
      cases hp : putF f (n / 128) with
      | nil => rw [hp] at hl; simp at hl
      | cons x y => rw [hp] at h1; rw [List.getLast?_cons_cons]; exact h1
theorem p70 : (2 : Nat) ^ 64 ≤ 128 ^ (9 + 1) := by decide
theorem putN_len (n : Nat) : 1 ≤ (putN n).length ∧ (putN n).length ≤ 10 := putF_len 9 n
theorem putN_end {n : Nat} (h : n < 2 ^ 64) : endN (putN n) = (putN n).length := putF_end 9 n (Nat.lt_of_lt_of_le h p70)
theorem putN_val {n : Nat} (h : n < 2 ^ 64) : valN (putN n) = n := putF_val 9 n (Nat.lt_of_lt_of_le h p70)
/-- What was written is read again, whatever stands behind. -/
theorem get_put {n : Nat} (h : n < 2 ^ 64) (r : List UInt8) : getN (putN n ++ r) = some (n, (putN n).length) := by
  have h1 := putN_len n
  have h2 := putN_end h
  rw [getN_app _ _ (by omega)]
  unfold getN
  rw [h2, if_neg (by omega), if_neg, List.take_length, putN_val h, if_pos h]
  rintro ⟨h3, h4⟩
  have h0 : 0 < n := by
    rcases Nat.eq_zero_or_pos n with e | e
    · subst e; have : (putN 0).length = 1 := rfl
      omega
    · exact e
  obtain ⟨b, h5, h6⟩ := putF_last 9 n (Nat.lt_of_lt_of_le h p70) h0
  rw [List.getLast?_eq_getElem?] at h5
  have h7 : (putN n)[(putN n).length - 1]? = some b := h5
  rw [h4] at h7
  exact h6 (Option.some.inj h7).symm
/-- Bytes of 128 and more, then a 0: longer than needed, or none. -/
theorem get_tight (l : List UInt8) (hl : l ≠ []) (h : ∀ b ∈ l, 128 ≤ b.toNat) (r : List UInt8) : getN (l ++ 0 :: r) = none := by
  have e : endN (l ++ [0]) = l.length + 1 := by
    clear hl
    induction l with
    | nil => rfl
    | cons b l ih =>
      have hb := h b (List.mem_cons_self ..)
      rw [List.cons_append, endN, if_neg (by omega), ih fun x hx => h x (List.mem_cons_of_mem _ hx), if_neg (by omega)]; rfl
  have e2 : l ++ 0 :: r = (l ++ [0]) ++ r := by simp
  rw [e2, getN_app _ _ (by omega)]
  unfold getN
  rw [e]
  split
  · rfl
  · rw [if_pos]
    have := List.length_pos_iff.2 hl
    refine ⟨by omega, ?_⟩
    rw [Nat.add_sub_cancel, List.getElem?_append_right (Nat.le_refl _), Nat.sub_self]; rfl
/-- The first byte below 128 stands at place k. -/
theorem endN_at : ∀ (k : Nat) (l : List UInt8) (b : UInt8), (∀ (j : Nat) (c : UInt8), j < k → l[j]? = some c → 128 ≤ c.toNat) → l[k]? = some b → b.toNat < 128 → endN l = k + 1
  | _, [], b, _, h, _ => by simp at h
  | 0, c :: r, b, _, h, hb => by
    obtain rfl : c = b := by simpa using h
    rw [endN, if_pos hb]
  | k + 1, c :: r, b, hf, h, hb => by
    have hc := hf 0 c (by omega) rfl
    have := endN_at k r b (fun j d hj hd => hf (j + 1) d (by omega) (by simpa using hd)) (by simpa using h) hb
    rw [endN, if_neg (by omega), this, if_neg (by omega)]
theorem endN_pos : ∀ l : List UInt8, endN l ≠ 0 → ∃ b, l[endN l - 1]? = some b ∧ b.toNat < 128
  | [], h => by simp [endN] at h
  | c :: r, h => by
    by_cases hc : c.toNat < 128
    · exact ⟨c, by rw [endN, if_pos hc]; rfl, hc⟩
    · have e : endN (c :: r) = if endN r = 0 then 0 else endN r + 1 := by rw [endN, if_neg hc]
      by_cases h0 : endN r = 0
      · rw [e, if_pos h0] at h; exact absurd rfl h
      · obtain ⟨b, hb, h2⟩ := endN_pos r h0
        refine ⟨b, ?_, h2⟩
        rw [e, if_neg h0, show endN r + 1 - 1 = (endN r - 1) + 1 by omega, List.getElem?_cons_succ]
        exact hb
/-- Ten bytes (or all) of 128 and more begin no number. -/
theorem getN_high {l : List UInt8} (h : ∀ (j : Nat) (c : UInt8), j < 10 → l[j]? = some c → 128 ≤ c.toNat) : getN l = none := by
  unfold getN
  rw [if_pos]
  by_cases h0 : endN l = 0
  · exact .inl h0
  · right
    obtain ⟨b, hb, h2⟩ := endN_pos l h0
    rcases Nat.lt_or_ge 10 (endN l) with h3 | h3
    · exact h3
    · have := h (endN l - 1) b (by omega) hb
      omega
theorem getN_at {l : List UInt8} {k : Nat} {b : UInt8} (hf : ∀ (j : Nat) (c : UInt8), j < k → l[j]? = some c → 128 ≤ c.toNat) (hk : k < 10) (hb : l[k]? = some b) (hl : b.toNat < 128) :
    getN l = if 0 < k ∧ b = 0 then none else if valN (l.take (k + 1)) < 2 ^ 64 then some (valN (l.take (k + 1)), k + 1) else none := by
  have he := endN_at k l b hf hb hl
  unfold getN
  rw [he, if_neg (by omega), Nat.add_sub_cancel, hb]
  by_cases h : 0 < k ∧ b = 0
  · rw [if_pos h, if_pos ⟨by omega, by rw [h.2]⟩]
  · rw [if_neg h, if_neg]
    rintro ⟨h1, h2⟩
    exact h ⟨by omega, Option.some.inj h2⟩
theorem valN_drop : ∀ (l : List UInt8) (i : Nat) (b : UInt8), l[i]? = some b → valN (l.drop i) = b.toNat % 128 + 128 * valN (l.drop (i + 1))
  | [], i, b, h => by simp at h
  | c :: r, 0, b, h => by
    obtain rfl : c = b := by simpa using h
    rfl
  | c :: r, i + 1, b, h => by
    rw [List.drop_succ_cons, List.drop_succ_cons]
    exact valN_drop r i b (by simpa using h)
theorem valN_ge : ∀ (l : List UInt8) (i : Nat), valN (l.drop i) ≤ valN l
  | l, 0 => by simp
  | [], i + 1 => by simp
  | c :: r, i + 1 => by
    rw [List.drop_succ_cons]
    have := valN_ge r i
    show valN (r.drop i) ≤ c.toNat % 128 + 128 * valN r
    omega
/-- Read from the top: it grows beyond 64 bits just where what is read so far has more than 57. -/
theorem valN_big {l : List UInt8} {i : Nat} (h : 2 ^ 57 ≤ valN (l.drop (i + 1))) (hi : i < l.length) : ¬ valN l < 2 ^ 64 := by
  have h1 := valN_drop l i l[i] (List.getElem?_eq_getElem hi)
  have h2 := valN_ge l i
  omega
/-- All bytes of a number but its last are 128 and more. -/
theorem putF_front : ∀ (f n : Nat), ∃ (p : List UInt8) (x : UInt8), putF f n = p ++ [x] ∧ ∀ b ∈ p, 128 ≤ b.toNat
  | 0, n => ⟨[], UInt8.ofNat n, rfl, by simp⟩
  | f + 1, n => by
    unfold putF
    split
    · exact ⟨[], UInt8.ofNat n, rfl, by simp⟩
    · obtain ⟨p, x, e, hp⟩ := putF_front f (n / 128)
      refine ⟨UInt8.ofNat (n % 128 + 128) :: p, x, by rw [e]; rfl, fun b hb => ?_⟩
      rcases List.mem_cons.1 hb with rfl | hb
      · rw [byte_of _ (by omega)]; omega
      · exact hp b hb
theorem putN_front (n : Nat) : ∃ (p : List UInt8) (x : UInt8), putN n = p ++ [x] ∧ ∀ b ∈ p, 128 ≤ b.toNat := putF_front 9 n
theorem or128 (b : UInt8) : 128 ≤ (b ||| 128).toNat := by
  rw [UInt8.toNat_or]
  exact Nat.right_le_or
/-- A text with its length ahead. -/
def textE (s : List UInt8) : List UInt8 := putN s.length ++ s
/-- The text that bytes begin with, and how many it takes. -/
def getT (l : List UInt8) : Option (List UInt8 × Nat) :=
  match getN l with
  | none => none
  | some (n, k) => if n ≤ l.length - k then some ((l.drop k).take n, k + n) else none
theorem getT_text (s r : List UInt8) (h : s.length < 2 ^ 64) : getT (textE s ++ r) = some (s, (textE s).length) := by
  have e : textE s ++ r = putN s.length ++ (s ++ r) := by unfold textE; simp
  unfold getT
  rw [e, get_put h]
  simp only
  rw [if_pos (by simp), List.drop_left' rfl, List.take_left' rfl]
  unfold textE
  simp
theorem getN_le {l : List UInt8} {n k : Nat} (h : getN l = some (n, k)) : 1 ≤ k ∧ k ≤ l.length ∧ k ≤ 10 ∧ n < 2 ^ 64 := by
  have := endN_le l
  unfold getN at h
  split at h
  · cases h
  · split at h
    · cases h
    · split at h
      · simp only [Option.some.injEq, Prod.mk.injEq] at h
        obtain ⟨rfl, rfl⟩ := h
        exact ⟨by omega, by omega, by omega, by assumption⟩
      · cases h
/-- four, eight bytes, the lowest first -/
def fixN : Nat → Nat → List UInt8
  | 0, _ => []
  | k + 1, n => UInt8.ofNat (n % 256) :: fixN k (n / 256)
def unfN : List UInt8 → Nat
  | [] => 0
  | b :: r => b.toNat + 256 * unfN r
theorem fixN_len : ∀ k n, (fixN k n).length = k
  | 0, _ => rfl
  | k + 1, n => by rw [fixN, List.length_cons, fixN_len]
theorem unf_fix : ∀ k n, n < 256 ^ k → unfN (fixN k n) = n
  | 0, n, h => by simp at h; subst h; rfl
  | k + 1, n, h => by
    rw [Nat.pow_succ] at h
    rw [fixN, unfN, byte_of _ (by omega), unf_fix k (n / 256) (Nat.div_lt_of_lt_mul (by rw [Nat.mul_comm]; exact h))]; omega
end Go.Proofs.Ytgdmmhdihgajkaa
/- The walks of varint.Put and of the reference's Put: the bytes of one plain function. -/
namespace Go.Proofs.Ytgdmmhdihgajkaa
set_option linter.unusedVariables false
open Go.RowKit
theorem and127 (k : Nat) (hk : k < 18446744073709551616) : bits .and .u64 (k : Int) 127 = ((k % 128 : Nat) : Int) := by
  rw [show (127 : Int) = ((127 : Nat) : Int) from rfl, u64_and_nat k 127 hk (by omega), nat_mask7]
theorem put_stop {f m : Nat} {r bs : List UInt8} (h : ¬ 128 ≤ m) (H : Hid (r = bs ++ putF f m)) : ∃ x : UInt8, Hid (x.toNat = m) ∧ r = bs ++ [x] := by
  refine ⟨UInt8.ofNat m, Lib.hid (byte_of _ (by omega)), ?_⟩
  rw [H.out]
  cases f with
  | zero => rfl
  | succ f => rw [putF, if_pos (by omega)]
theorem put_more {f m : Nat} {r bs : List UInt8} (h : 128 ≤ m) (hf : m < 128 ^ (f + 1)) (H : Hid (r = bs ++ putF f m)) :
    ∃ (g : Nat) (x : UInt8), f = g + 1 ∧ Hid (x.toNat = m % 128 + 128) ∧ Hid (m / 128 < 128 ^ (g + 1)) ∧ Hid (r = (bs ++ [x]) ++ putF g (m / 128)) := by
  cases f with
  | zero => simp at hf; omega
  | succ g =>
    refine ⟨g, UInt8.ofNat (m % 128 + 128), rfl, Lib.hid (byte_of _ (by omega)), Lib.hid ?_, Lib.hid ?_⟩
    · rw [Nat.pow_succ] at hf
      exact Nat.div_lt_of_lt_mul (by rw [Nat.mul_comm]; exact hf)
    · rw [H.out, putF, if_neg (by omega)]; simp
theorem fix_more {K j m : Nat} {r bs : List UInt8} (h : j < K) (H : Hid (r = bs ++ fixN (K - j) m)) : ∃ x : UInt8, Hid (x.toNat = m % 256) ∧ Hid (r = (bs ++ [x]) ++ fixN (K - (j + 1)) (m / 256)) := by
  refine ⟨UInt8.ofNat (m % 256), Lib.hid (byte_of _ (by omega)), Lib.hid ?_⟩
  rw [H.out, show K - j = (K - (j + 1)) + 1 by omega, fixN]; simp
end Go.Proofs.Ytgdmmhdihgajkaa
/- The walks of varint.ended and varint.Get. -/
namespace Go.Proofs.Ytgdmmhdihgajkaa
set_option linter.unusedVariables false
open Go.RowKit
def numRes (r : Option (Nat × Nat)) : Value := match r with
  | none => .tuple #[.int .u64 0, .int .i64 0]
  | some (n, k) => .tuple #[.int .u64 (n : Int), .int .i64 (k : Int)]
def GetRes (r : Option (Nat × Nat)) (w : World) (e : Ending) (w' : World) : Prop := e = .returned (numRes r) ∧ w = w'
theorem valN_snoc : ∀ (p : List UInt8) (c : UInt8), valN (p ++ [c]) = valN p + c.toNat % 128 * 2 ^ (7 * p.length)
  | [], c => by simp [valN]
  | b :: p, c => by
    have h : 2 ^ (7 * (p.length + 1)) = 2 ^ (7 * p.length) * 128 := by rw [Nat.mul_add, Nat.pow_add]
    rw [List.cons_append, valN, valN, valN_snoc p c, List.length_cons, h]
    generalize 2 ^ (7 * p.length) = q
    rw [Nat.mul_add, ← Nat.mul_assoc, Nat.mul_comm 128 (c.toNat % 128), Nat.mul_assoc (c.toNat % 128) 128 q, Nat.mul_comm 128 q, Nat.add_assoc]
theorem pow7 {j : Nat} (h : j ≤ 9) : 2 ^ (7 * j) ≤ 2 ^ 63 := Nat.pow_le_pow_right (by decide) (by omega)
theorem pow7' {j : Nat} (h : j ≤ 8) : 2 ^ (7 * j) ≤ 2 ^ 56 := Nat.pow_le_pow_right (by decide) (by omega)
theorem cast_wrap (a s : Nat) : ((a : Int) % 128 * 2 ^ s) % 18446744073709551616 = (((a % 128 * 2 ^ s) % 2 ^ 64 : Nat) : Int) := by
  rw [Int.natCast_emod, Int.natCast_mul, Int.natCast_emod, Int.natCast_pow]; rfl
theorem and127b : ∀ n : Fin 256, bits .and .u8 (n.val : Int) 127 = (n.val % 128 : Nat) := by decide +kernel
theorem byte_and127 (b : UInt8) : bits .and .u8 (b.toNat : Int) 127 = (b.toNat % 128 : Nat) := and127b ⟨b.toNat, b.toNat_lt⟩
/-- 'n | c << 7 j' -/
theorem get_or (m j : Nat) (c : UInt8) (hm : m < 18446744073709551616) : ∃ M : Nat, bits .or .u64 (m : Int) (IntKind.u64.wrap ((c.toNat : Int) % 128 * 2 ^ (7 * j))) = (M : Int) ∧ M < 18446744073709551616 ∧ Hid (m < 2 ^ (7 * j) → c.toNat % 128 * 2 ^ (7 * j) < 2 ^ 64 → M = m + c.toNat % 128 * 2 ^ (7 * j)) := by
  refine ⟨m ||| (c.toNat % 128 * 2 ^ (7 * j)) % 2 ^ 64, ?_, ?_, Lib.hid fun h1 h2 => ?_⟩
  · rw [IntKind.wrap_u64, show ((c.toNat : Int) % 128 * 2 ^ (7 * j)) % 18446744073709551616 = (((c.toNat % 128 * 2 ^ (7 * j)) % 2 ^ 64 : Nat) : Int) from cast_wrap _ _, u64_or_nat m _ hm (Nat.mod_lt _ (by decide))]
  · exact Nat.or_lt_two_pow (n := 64) hm (Nat.mod_lt _ (by decide))
  · rw [Nat.mod_eq_of_lt h2, Nat.or_comm, nat_join (7 * j) _ m (Nat.mul_mod_left _ _) h1, Nat.add_comm]
theorem get_snoc {l : List UInt8} {j : Nat} {c : UInt8} (hc : l[j]? = some c) (hj : j < l.length) : valN (l.take (j + 1)) = valN (l.take j) + c.toNat % 128 * 2 ^ (7 * j) := by
  rw [List.take_add_one, hc, Option.toList_some, valN_snoc, List.length_take, Nat.min_eq_left (by omega)]
theorem get_bd (c : UInt8) (j : Nat) (h : j ≤ 8) : c.toNat % 128 * 2 ^ (7 * j) < 2 ^ 63 := by
  have h1 : c.toNat % 128 < 128 := Nat.mod_lt _ (by decide)
  have h2 := pow7' h
  calc c.toNat % 128 * 2 ^ (7 * j) < 128 * 2 ^ (7 * j) := Nat.mul_lt_mul_of_pos_right h1 (Nat.two_pow_pos _)
    _ ≤ 128 * 2 ^ 56 := Nat.mul_le_mul_left _ h2
    _ = 2 ^ 63 := by decide
/-- one byte more that is 128 or more -/
theorem get_next {l : List UInt8} {j m M : Nat} {c : UInt8} (hc : l[j]? = some c) (hj : j < l.length) (h10 : j < 10) (h128 : 128 ≤ c.toNat)
    (HT : Hid (∀ (t : Nat) (c : UInt8), t < j → l[t]? = some c → 128 ≤ c.toNat)) (HM : Hid (j ≤ 9 → m = valN (l.take j) ∧ m < 2 ^ (7 * j)))
    (HE : Hid (m < 2 ^ (7 * j) → c.toNat % 128 * 2 ^ (7 * j) < 2 ^ 64 → M = m + c.toNat % 128 * 2 ^ (7 * j))) :
    Hid (∀ (t : Nat) (c : UInt8), t < j + 1 → l[t]? = some c → 128 ≤ c.toNat) ∧ Hid (j + 1 ≤ 9 → M = valN (l.take (j + 1)) ∧ M < 2 ^ (7 * (j + 1))) := by
  refine ⟨Lib.hid fun t d ht hd => ?_, Lib.hid fun h9 => ?_⟩
  · rcases Nat.lt_or_ge t j with h | h
    · exact HT.out t d h hd
    · obtain rfl : t = j := by omega
      rw [hc] at hd
      obtain rfl := Option.some.inj hd
      exact h128
  · obtain ⟨h1, h2⟩ := HM.out (by omega)
    have h3 := get_bd c j (by omega)
    have h4 := HE.out h2 (by omega)
    have h5 := get_snoc hc hj
    refine ⟨by rw [h4, h5, h1], ?_⟩
    have h6 : 2 ^ (7 * (j + 1)) = 2 ^ (7 * j) * 128 := by rw [Nat.mul_add, Nat.pow_add]
    have h7 : c.toNat % 128 < 128 := Nat.mod_lt _ (by decide)
    have h8 : c.toNat % 128 * 2 ^ (7 * j) ≤ 127 * 2 ^ (7 * j) := Nat.mul_le_mul_right _ (by omega)
    omega
/-- the last byte -/
theorem get_last {l : List UInt8} {j m M : Nat} {c : UInt8} (hc : l[j]? = some c) (hj : j < l.length) (h10 : j < 10) (h128 : c.toNat < 128)
    (HT : Hid (∀ (t : Nat) (c : UInt8), t < j → l[t]? = some c → 128 ≤ c.toNat)) (HM : Hid (j ≤ 9 → m = valN (l.take j) ∧ m < 2 ^ (7 * j)))
    (HE : Hid (m < 2 ^ (7 * j) → c.toNat % 128 * 2 ^ (7 * j) < 2 ^ 64 → M = m + c.toNat % 128 * 2 ^ (7 * j))) :
    getN l = if 0 < j ∧ c.toNat = 0 ∨ j = 9 ∧ 1 < c.toNat then none else some (M, j + 1) := by
  obtain ⟨h1, h2⟩ := HM.out (by omega)
  have h5 := get_snoc hc hj
  rw [getN_at HT.out h10 hc h128, h5, ← h1]
  have hz : c = 0 ↔ c.toNat = 0 := ⟨fun e => by rw [e]; rfl, fun e => UInt8.toNat_inj.1 (by rw [e]; rfl)⟩
  have hmod : c.toNat % 128 = c.toNat := Nat.mod_eq_of_lt h128
  by_cases hA : 0 < j ∧ c.toNat = 0
  · rw [if_pos ⟨hA.1, hz.2 hA.2⟩, if_pos (.inl hA)]
  · rw [if_neg fun h => hA ⟨h.1, hz.1 h.2⟩]
    by_cases h9 : j = 9
    · subst h9
      by_cases hB : 1 < c.toNat
      · rw [if_neg, if_pos (.inr ⟨rfl, hB⟩)]
        rw [hmod]; simp only [Nat.reduceMul, Nat.reducePow]; omega
      · have h3 : c.toNat % 128 * 2 ^ (7 * 9) < 2 ^ 64 := by rw [hmod]; simp only [Nat.reduceMul, Nat.reducePow]; omega
        have h4 := HE.out h2 h3
        rw [if_pos, if_neg, h4]
        · rintro (h | h)
          · exact hA h
          · exact hB h.2
        · simp only [Nat.reduceMul, Nat.reducePow] at h2 h3 ⊢; rw [hmod] at h3 ⊢; omega
    · have h3 := get_bd c j (by omega)
      have h4 := HE.out h2 (by omega)
      have h6 := pow7 (j := j) (by omega)
      rw [if_pos, if_neg, h4]
      · rintro (h | h)
        · exact hA h
        · exact h9 h.1
      · omega
end Go.Proofs.Ytgdmmhdihgajkaa
/- The walk of the reference's Get. -/
namespace Go.Proofs.Ytgdmmhdihgajkaa
set_option linter.unusedVariables false
open Go.RowKit
theorem rget_step {p : List UInt8} {t m : Nat} {c : UInt8} (hc : p[t]? = some c) (H : Hid (m = valN (p.drop (t + 1)))) : Hid (m * 128 + c.toNat % 128 = valN (p.drop t)) := Lib.hid (by
  rw [valN_drop p t c hc, H.out, Nat.mul_comm, Nat.add_comm])
theorem rget_last {l : List UInt8} {j : Nat} {c : UInt8} {r : Option (Nat × Nat)} (HR : Hid (getN l = r)) (hc : l[j]? = some c) (h10 : j < 10) (h128 : c.toNat < 128)
    (HT : Hid (∀ (t : Nat) (c : UInt8), t < j → l[t]? = some c → 128 ≤ c.toNat)) :
    Hid (r = if 0 < j ∧ c.toNat = 0 then none else if valN (l.take (j + 1)) < 2 ^ 64 then some (valN (l.take (j + 1)), j + 1) else none) := Lib.hid (by
  have hz : c = 0 ↔ c.toNat = 0 := ⟨fun e => by rw [e]; rfl, fun e => UInt8.toNat_inj.1 (by rw [e]; rfl)⟩
  rw [← HR.out, getN_at HT.out h10 hc h128]
  simp only [hz])
end Go.Proofs.Ytgdmmhdihgajkaa
/- The walks of varint.putFixed and varint.getFixed. -/
namespace Go.Proofs.Ytgdmmhdihgajkaa
set_option linter.unusedVariables false
open Go.RowKit
theorem fixN_snoc : ∀ (j n : Nat), fixN (j + 1) n = fixN j n ++ [UInt8.ofNat (n / 2 ^ (8 * j) % 256)]
  | 0, n => by simp [fixN]
  | j + 1, n => by
    rw [fixN, fixN_snoc j (n / 256), fixN, List.cons_append, Nat.div_div_eq_div_mul]
    have : 256 * 2 ^ (8 * j) = 2 ^ (8 * (j + 1)) := by rw [Nat.mul_add, Nat.pow_add, Nat.mul_comm]
    rw [this]
/-- the row that is being filled -/
def fixAt (K n j : Nat) : List Value := (fixN j n).map bv ++ List.replicate (K - j) (.int .u8 0)
theorem fixAt_len (K n j : Nat) (h : j ≤ K) : (fixAt K n j).length = K := by
  unfold fixAt; rw [List.length_append, List.length_map, fixN_len, List.length_replicate]; omega
theorem fixAt_old (K n j : Nat) (h : j < K) : (fixAt K n j)[j]? = some (.int .u8 0) := by
  unfold fixAt
  rw [List.getElem?_append_right (by rw [List.length_map, fixN_len]; exact Nat.le_refl _), List.length_map, fixN_len, Nat.sub_self, List.getElem?_replicate, if_pos (by omega)]
theorem fixAt_step (K n j : Nat) (h : j < K) : (fixAt K n j).set j (.int .u8 ((n / 2 ^ (8 * j) % 256 : Nat) : Int)) = fixAt K n (j + 1) := by
  unfold fixAt
  rw [fixN_snoc, List.map_append, show K - j = (K - (j + 1)) + 1 by omega, List.replicate_succ]
  have hl : ((fixN j n).map bv).length = j := by rw [List.length_map, fixN_len]
  generalize (fixN j n).map bv = p at hl
  subst hl
  rw [List.set_append_right _ _ (Nat.le_refl _), Nat.sub_self, List.set_cons_zero, List.append_assoc]
  simp only [List.map_cons, List.map_nil, List.cons_append, List.nil_append]
  unfold bv
  rw [byte_of _ (by omega)]
theorem pf_big (n j : Nat) : ((n : Int) / 2 ^ (8 * j)) = ((n / 2 ^ (8 * j) : Nat) : Int) := by
  rw [Int.natCast_ediv, Int.natCast_pow]; rfl
theorem unfN_snoc : ∀ (p : List UInt8) (c : UInt8), unfN (p ++ [c]) = unfN p + c.toNat * 2 ^ (8 * p.length)
  | [], c => by simp [unfN]
  | b :: p, c => by
    have h : 2 ^ (8 * (p.length + 1)) = 2 ^ (8 * p.length) * 256 := by rw [Nat.mul_add, Nat.pow_add]
    rw [List.cons_append, unfN, unfN, unfN_snoc p c, List.length_cons, h]
    generalize 2 ^ (8 * p.length) = q
    rw [Nat.mul_add, ← Nat.mul_assoc, Nat.mul_comm 256 c.toNat, Nat.mul_assoc c.toNat 256 q, Nat.mul_comm 256 q, Nat.add_assoc]
theorem pow8 {j : Nat} (h : j ≤ 7) : 2 ^ (8 * j) ≤ 2 ^ 56 := Nat.pow_le_pow_right (by decide) (by omega)
theorem cast_wrap8 (a s : Nat) : ((a : Int) * 2 ^ s) % 18446744073709551616 = (((a * 2 ^ s) % 2 ^ 64 : Nat) : Int) := by
  rw [Int.natCast_emod, Int.natCast_mul, Int.natCast_pow]; rfl
theorem fix_bd (c : UInt8) (m j : Nat) (h : j ≤ 7) (hm : m < 2 ^ (8 * j)) : m + c.toNat * 2 ^ (8 * j) < 2 ^ (8 * (j + 1)) ∧ c.toNat * 2 ^ (8 * j) < 2 ^ 64 := by
  have h1 : c.toNat < 256 := c.toNat_lt
  have h2 := pow8 h
  have h6 : 2 ^ (8 * (j + 1)) = 2 ^ (8 * j) * 256 := by rw [Nat.mul_add, Nat.pow_add]
  have h8 : c.toNat * 2 ^ (8 * j) ≤ 255 * 2 ^ (8 * j) := Nat.mul_le_mul_right _ (by omega)
  omega
theorem fix_or (m j : Nat) (c : UInt8) (hj : j ≤ 7) (hm : m < 2 ^ (8 * j)) : bits .or .u64 (m : Int) (IntKind.u64.wrap ((c.toNat : Int) * 2 ^ (8 * j))) = ((m + c.toNat * 2 ^ (8 * j) : Nat) : Int) := by
  have h1 := (fix_bd c m j hj hm).2
  have h2 := pow8 hj
  rw [IntKind.wrap_u64, cast_wrap8, Nat.mod_eq_of_lt h1, u64_or_nat m _ (by omega) (by omega), Nat.or_comm, nat_join (8 * j) _ m (Nat.mul_mod_left _ _) hm, Nat.add_comm]
/-- the number of the first K bytes (0: fewer) -/
def unfK (K : Nat) (l : List UInt8) : Nat := if K ≤ l.length then unfN (l.take K) else 0
end Go.Proofs.Ytgdmmhdihgajkaa
/- The walks of varint.Put32, Put64, Get32, Get64, Text, GetText and of the reference's Text8, GetText. -/
namespace Go.Proofs.Ytgdmmhdihgajkaa
set_option linter.unusedVariables false
open Go.RowKit
theorem unfN_lt : ∀ l : List UInt8, unfN l < 256 ^ l.length
  | [] => by simp [unfN]
  | b :: r => by
    have h1 := unfN_lt r
    have h2 : b.toNat < 256 := b.toNat_lt
    rw [unfN, List.length_cons, Nat.pow_succ]
    omega
theorem unfK_lt4 (l : List UInt8) : unfK 4 l < 4294967296 := by
  unfold unfK
  split
  · have := unfN_lt (l.take 4)
    rw [List.length_take, Nat.min_eq_left (by assumption)] at this
    exact this
  · omega
def txtRes (r : Option (List UInt8 × Nat)) : Value := match r with
  | none => .tuple #[.string ⟨#[]⟩, .int .i64 0]
  | some (s, k) => .tuple #[.string ⟨s.toArray⟩, .int .i64 (k : Int)]
def TxtRes (r : Option (List UInt8 × Nat)) (w : World) (e : Ending) (w' : World) : Prop := e = .returned (txtRes r) ∧ w = w'
/-- 'string(b[k:k+n])' -/
theorem cut_conv {w : World} {b off cap : Nat} {l : List UInt8} (h : RdB w (.slice (some ⟨b, off, none⟩) l.length cap) l) (k n : Nat) (hk : k ≤ l.length) (hn : n ≤ l.length - k) :
    (convert 47 9 (.slice (if cap = k then some ⟨b, off, none⟩ else some ⟨b, off + k, none⟩) n (cap - k))).run Try.prog w = .ok (.string ⟨((l.drop k).take n).toArray⟩) w := by
  have H := (RdB.mid h k (k + n) (by omega) (by omega)).text
  rw [List.drop_take, Nat.add_sub_cancel_left] at H
  rw [show (if cap = k then some ⟨b, off, none⟩ else some ⟨b, off + k, none⟩ : Option Addr) = if cap = k then some ⟨b, off, none⟩ else (some (⟨b, off, none⟩ : Addr)).map (·.add k) by simp [add_at]]
  exact H
end Go.Proofs.Ytgdmmhdihgajkaa
/- The bytes that are read as a number are those that it is written with. -/
namespace Go.Proofs.Ytgdmmhdihgajkaa
set_option linter.unusedVariables false
theorem endN_take : ∀ l : List UInt8, endN l ≠ 0 → endN (l.take (endN l)) = endN l
  | [], h => by simp [endN] at h
  | b :: r, h => by
    by_cases hb : b.toNat < 128
    · have e : endN (b :: r) = 1 := by unfold endN; rw [if_pos hb]
      rw [e, List.take_succ_cons, List.take_zero]
      unfold endN; rw [if_pos hb]
    · have h2 : endN r ≠ 0 := fun e => h (by rw [endN, if_neg hb, if_pos e])
      have e : endN (b :: r) = endN r + 1 := by rw [endN, if_neg hb, if_neg h2]
      rw [e, List.take_succ_cons, endN, if_neg hb, endN_take r h2, if_neg h2]
theorem putF_get : ∀ (L : List UInt8) (f : Nat), L ≠ [] → endN L = L.length → L.length ≤ f + 1 → (1 < L.length → L.getLast? ≠ some 0) → putF f (valN L) = L ∧ (L.getLast? ≠ some 0 → 0 < valN L)
  | [], f, h, _, _, _ => absurd rfl h
  | [b], f, _, he, _, _ => by
    have hb : b.toNat < 128 := by
      by_cases h : b.toNat < 128
      · exact h
      · unfold endN at he; rw [if_neg h] at he; simp [endN] at he
    have hv : valN [b] = b.toNat := by simp [valN]; omega
    refine ⟨?_, fun h => ?_⟩
    · rw [hv]
      cases f with
      | zero => simp [putF]
      | succ f => unfold putF; rw [if_pos hb]; simp
    · rw [hv]
      rcases Nat.eq_zero_or_pos b.toNat with e | e
      · exact absurd (by rw [List.getLast?_singleton]; congr 1; exact UInt8.toNat_inj.1 (by simpa using e)) h
      · exact e
  | b :: c :: r, f, _, he, hl, hlast => by
    have hb : ¬ b.toNat < 128 := fun h => by
      unfold endN at he; rw [if_pos h] at he; simp at he
    have he2 : endN (c :: r) = (c :: r).length := by
      have h := he
      rw [endN, if_neg hb] at h
      split at h
      · simp at h
      · simp only [List.length_cons] at h ⊢; omega
    have hlast2 : (c :: r).getLast? ≠ some 0 := by
      have := hlast (by simp)
      rwa [List.getLast?_cons_cons] at this
    obtain ⟨g, rfl⟩ : ∃ g, f = g + 1 := ⟨f - 1, by simp only [List.length_cons] at hl; omega⟩
    obtain ⟨ih1, ih2⟩ := putF_get (c :: r) g (by simp) he2 (by simpa using hl) (fun _ => hlast2)
    have hp := ih2 hlast2
    have hv : valN (b :: c :: r) = b.toNat % 128 + 128 * valN (c :: r) := rfl
    have hbb := b.toNat_lt
    refine ⟨?_, fun _ => by rw [hv]; omega⟩
    unfold putF
    rw [if_neg (by rw [hv]; omega), hv, show (b.toNat % 128 + 128 * valN (c :: r)) / 128 = valN (c :: r) by omega, ih1, show (b.toNat % 128 + 128 * valN (c :: r)) % 128 + 128 = b.toNat by omega]
    simp
/-- The bytes that are read as a number are those that it is written with. -/
theorem put_get {l : List UInt8} {n k : Nat} (h : getN l = some (n, k)) : l.take k = putN n := by
  unfold getN at h
  split at h
  · cases h
  · rename_i h1
    split at h
    · cases h
    · rename_i h2
      split at h
      · rename_i h3
        have h4 := Option.some.inj h
        obtain ⟨rfl, rfl⟩ := Prod.mk.inj h4
        have hle := endN_le l
        have hlen : (l.take (endN l)).length = endN l := by rw [List.length_take]; omega
        refine ((putF_get (l.take (endN l)) 9 (fun e => ?_) ?_ (by omega) fun h5 => ?_).1).symm
        · rw [e] at hlen; simp at hlen; omega
        · rw [endN_take l (by omega), hlen]
        · rw [hlen] at h5
          rw [List.getLast?_eq_getElem?, hlen, List.getElem?_take, if_pos (by omega)]
          exact fun e => h2 ⟨h5, e⟩
      · cases h
end Go.Proofs.Ytgdmmhdihgajkaa
