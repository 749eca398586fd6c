/- Plain mathematics of numbers as bytes, seven bits a byte: what is written is read again; what is longer than needed is none. -/
import Derived.Test.YtpaoabdjbdlalaaBits
namespace Go.Proofs.Ytpaoabdjbdlalaa
set_option linter.unusedVariables false
/-- a number's bytes (fuel: ten go for 64 bits) -/
def putF : Nat → Nat → List UInt8
  | 0, n => [UInt8.ofNat n]
  | f + 1, n => if n < 128 then [UInt8.ofNat n] else UInt8.ofNat (n % 128 + 128) :: putF f (n / 128)
def putN (n : Nat) : List UInt8 := putF 9 n
/-- how many bytes up to the first one below 128 (0: none is) -/
def endN : List UInt8 → Nat
  | [] => 0
  | b :: r => if b.toNat < 128 then 1 else if endN r = 0 then 0 else endN r + 1
/-- the number that bytes make -/
def valN : List UInt8 → Nat
  | [] => 0
  | b :: r => b.toNat % 128 + 128 * valN r
def getN (l : List UInt8) : Option (Nat × Nat) :=
  if endN l = 0 ∨ 10 < endN l then none else
  if 1 < endN l ∧ l[endN l - 1]? = some 0 then none else
  if valN (l.take (endN l)) < 2 ^ 64 then some (valN (l.take (endN l)), endN l) else none
theorem endN_le : ∀ l, endN l ≤ l.length
  | [] => by simp [endN]
  | b :: r => by
    have := endN_le r
    unfold endN
    split
    · simp
    · split <;> simp; omega
theorem endN_app : ∀ (l m : List UInt8), endN l ≠ 0 → endN (l ++ m) = endN l
  | [], m, h => by simp [endN] at h
  | b :: r, m, h => by
    rw [List.cons_append]
    unfold endN at h ⊢
    split
    · rfl
    · rename_i hb
      rw [if_neg hb] at h
      have h2 : endN r ≠ 0 := by
        intro e; rw [if_pos e] at h; exact h rfl
      rw [endN_app r m h2]
theorem getN_app (l m : List UInt8) (h : endN l ≠ 0) : getN (l ++ m) = getN l := by
  have hl := endN_le l
  unfold getN
  rw [endN_app l m h, List.getElem?_append_left (by omega), List.take_append_of_le_length hl]
theorem putF_len : ∀ f n, 1 ≤ (putF f n).length ∧ (putF f n).length ≤ f + 1
  | 0, n => by simp [putF]
  | f + 1, n => by
    unfold putF
    split
    · simp
    · have := putF_len f (n / 128); simp; omega
theorem putF_end : ∀ f n, n < 128 ^ (f + 1) → endN (putF f n) = (putF f n).length
  | 0, n, h => by
    have : n < 128 := by simpa using h
    simp [putF, endN, Nat.mod_eq_of_lt (show n < 256 by omega), this]
  | f + 1, n, h => by
    unfold putF
    split
    · rename_i hn
      simp [endN, Nat.mod_eq_of_lt (show n < 256 by omega), hn]
    · rename_i hn
      have hd : n / 128 < 128 ^ (f + 1) := by
        rw [Nat.pow_succ] at h
        exact Nat.div_lt_of_lt_mul (by rw [Nat.mul_comm]; exact h)
      have ih := putF_end f (n / 128) hd
      have hl := (putF_len f (n / 128)).1
      unfold endN
      rw [byte_of _ (by omega), if_neg (by omega), ih, if_neg (by omega)]; rfl
theorem putF_val : ∀ f n, n < 128 ^ (f + 1) → valN (putF f n) = n
  | 0, n, h => by
    have : n < 128 := by simpa using h
    unfold putF valN
    rw [byte_of _ (by omega)]; simp [valN]; omega
  | f + 1, n, h => by
    unfold putF
    split
    · rename_i hn
      unfold valN
      rw [byte_of _ (by omega)]; simp [valN]; omega
    · rename_i hn
      have hd : n / 128 < 128 ^ (f + 1) := by
        rw [Nat.pow_succ] at h
        exact Nat.div_lt_of_lt_mul (by rw [Nat.mul_comm]; exact h)
      unfold valN
      rw [byte_of _ (by omega), putF_val f _ hd]; omega
/-- the last byte of a number that takes more than one is not 0 -/
theorem putF_last : ∀ f n, n < 128 ^ (f + 1) → 0 < n → ∃ b, (putF f n).getLast? = some b ∧ b ≠ 0
  | 0, n, h, h0 => by
    have : n < 128 := by simpa using h
    refine ⟨UInt8.ofNat n, rfl, fun e => ?_⟩
    have := congrArg UInt8.toNat e
    rw [byte_of _ (by omega)] at this
    simp at this; omega
  | f + 1, n, h, h0 => by
    unfold putF
    split
    · rename_i hn
      refine ⟨UInt8.ofNat n, rfl, fun e => ?_⟩
      have := congrArg UInt8.toNat e
      rw [byte_of _ (by omega)] at this
      simp at this; omega
    · rename_i hn
      have hd : n / 128 < 128 ^ (f + 1) := by
        rw [Nat.pow_succ] at h
        exact Nat.div_lt_of_lt_mul (by rw [Nat.mul_comm]; exact h)
      obtain ⟨b, h1, h2⟩ := putF_last f (n / 128) hd (by omega)
      refine ⟨b, ?_, h2⟩
      have hl := (putF_len f (n / 128)).1
      cases hp : putF f (n / 128) with
      | nil => rw [hp] at hl; simp at hl
      | cons x y => rw [hp] at h1; rw [List.getLast?_cons_cons]; exact h1
theorem p70 : (2 : Nat) ^ 64 ≤ 128 ^ (9 + 1) := by decide
theorem putN_len (n : Nat) : 1 ≤ (putN n).length ∧ (putN n).length ≤ 10 := putF_len 9 n
theorem putN_end {n : Nat} (h : n < 2 ^ 64) : endN (putN n) = (putN n).length := putF_end 9 n (Nat.lt_of_lt_of_le h p70)
theorem putN_val {n : Nat} (h : n < 2 ^ 64) : valN (putN n) = n := putF_val 9 n (Nat.lt_of_lt_of_le h p70)
/-- What was written is read again, whatever stands behind. -/
theorem get_put {n : Nat} (h : n < 2 ^ 64) (r : List UInt8) : getN (putN n ++ r) = some (n, (putN n).length) := by
  have h1 := putN_len n
  have h2 := putN_end h
  rw [getN_app _ _ (by omega)]
  unfold getN
  rw [h2, if_neg (by omega), if_neg, List.take_length, putN_val h, if_pos h]
  rintro ⟨h3, h4⟩
  have h0 : 0 < n := by
    rcases Nat.eq_zero_or_pos n with e | e
    · subst e; have : (putN 0).length = 1 := rfl
      omega
    · exact e
  obtain ⟨b, h5, h6⟩ := putF_last 9 n (Nat.lt_of_lt_of_le h p70) h0
  rw [List.getLast?_eq_getElem?] at h5
  have h7 : (putN n)[(putN n).length - 1]? = some b := h5
  rw [h4] at h7
  exact h6 (Option.some.inj h7).symm
/-- Bytes of 128 and more, then a 0: longer than needed, or none. -/
theorem get_tight (l : List UInt8) (hl : l ≠ []) (h : ∀ b ∈ l, 128 ≤ b.toNat) (r : List UInt8) : getN (l ++ 0 :: r) = none := by
  have e : endN (l ++ [0]) = l.length + 1 := by
    clear hl
    induction l with
    | nil => rfl
    | cons b l ih =>
      have hb := h b (List.mem_cons_self ..)
      rw [List.cons_append, endN, if_neg (by omega), ih fun x hx => h x (List.mem_cons_of_mem _ hx), if_neg (by omega)]; rfl
  have e2 : l ++ 0 :: r = (l ++ [0]) ++ r := by simp
  rw [e2, getN_app _ _ (by omega)]
  unfold getN
  rw [e]
  split
  · rfl
  · rw [if_pos]
    have := List.length_pos_iff.2 hl
    refine ⟨by omega, ?_⟩
    rw [Nat.add_sub_cancel, List.getElem?_append_right (Nat.le_refl _), Nat.sub_self]; rfl
/-- The first byte below 128 stands at place k. -/
theorem endN_at : ∀ (k : Nat) (l : List UInt8) (b : UInt8), (∀ (j : Nat) (c : UInt8), j < k → l[j]? = some c → 128 ≤ c.toNat) → l[k]? = some b → b.toNat < 128 → endN l = k + 1
  | _, [], b, _, h, _ => by simp at h
  | 0, c :: r, b, _, h, hb => by
    obtain rfl : c = b := by simpa using h
    rw [endN, if_pos hb]
  | k + 1, c :: r, b, hf, h, hb => by
    have hc := hf 0 c (by omega) rfl
    have := endN_at k r b (fun j d hj hd => hf (j + 1) d (by omega) (by simpa using hd)) (by simpa using h) hb
    rw [endN, if_neg (by omega), this, if_neg (by omega)]
theorem endN_pos : ∀ l : List UInt8, endN l ≠ 0 → ∃ b, l[endN l - 1]? = some b ∧ b.toNat < 128
  | [], h => by simp [endN] at h
  | c :: r, h => by
    by_cases hc : c.toNat < 128
    · exact ⟨c, by rw [endN, if_pos hc]; rfl, hc⟩
    · have e : endN (c :: r) = if endN r = 0 then 0 else endN r + 1 := by rw [endN, if_neg hc]
      by_cases h0 : endN r = 0
      · rw [e, if_pos h0] at h; exact absurd rfl h
      · obtain ⟨b, hb, h2⟩ := endN_pos r h0
        refine ⟨b, ?_, h2⟩
        rw [e, if_neg h0, show endN r + 1 - 1 = (endN r - 1) + 1 by omega, List.getElem?_cons_succ]
        exact hb
/-- Ten bytes (or all) of 128 and more begin no number. -/
theorem getN_high {l : List UInt8} (h : ∀ (j : Nat) (c : UInt8), j < 10 → l[j]? = some c → 128 ≤ c.toNat) : getN l = none := by
  unfold getN
  rw [if_pos]
  by_cases h0 : endN l = 0
  · exact .inl h0
  · right
    obtain ⟨b, hb, h2⟩ := endN_pos l h0
    rcases Nat.lt_or_ge 10 (endN l) with h3 | h3
    · exact h3
    · have := h (endN l - 1) b (by omega) hb
      omega
theorem getN_at {l : List UInt8} {k : Nat} {b : UInt8} (hf : ∀ (j : Nat) (c : UInt8), j < k → l[j]? = some c → 128 ≤ c.toNat) (hk : k < 10) (hb : l[k]? = some b) (hl : b.toNat < 128) :
    getN l = if 0 < k ∧ b = 0 then none else if valN (l.take (k + 1)) < 2 ^ 64 then some (valN (l.take (k + 1)), k + 1) else none := by
  have he := endN_at k l b hf hb hl
  unfold getN
  rw [he, if_neg (by omega), Nat.add_sub_cancel, hb]
  by_cases h : 0 < k ∧ b = 0
  · rw [if_pos h, if_pos ⟨by omega, by rw [h.2]⟩]
  · rw [if_neg h, if_neg]
    rintro ⟨h1, h2⟩
    exact h ⟨by omega, Option.some.inj h2⟩
theorem valN_drop : ∀ (l : List UInt8) (i : Nat) (b : UInt8), l[i]? = some b → valN (l.drop i) = b.toNat % 128 + 128 * valN (l.drop (i + 1))
  | [], i, b, h => by simp at h
  | c :: r, 0, b, h => by
    obtain rfl : c = b := by simpa using h
    rfl
  | c :: r, i + 1, b, h => by
    rw [List.drop_succ_cons, List.drop_succ_cons]
    exact valN_drop r i b (by simpa using h)
theorem valN_ge : ∀ (l : List UInt8) (i : Nat), valN (l.drop i) ≤ valN l
  | l, 0 => by simp
  | [], i + 1 => by simp
  | c :: r, i + 1 => by
    rw [List.drop_succ_cons]
    have := valN_ge r i
    show valN (r.drop i) ≤ c.toNat % 128 + 128 * valN r
    omega
/-- Read from the top: it grows beyond 64 bits just where what is read so far has more than 57. -/
theorem valN_big {l : List UInt8} {i : Nat} (h : 2 ^ 57 ≤ valN (l.drop (i + 1))) (hi : i < l.length) : ¬ valN l < 2 ^ 64 := by
  have h1 := valN_drop l i l[i] (List.getElem?_eq_getElem hi)
  have h2 := valN_ge l i
  omega
/-- All bytes of a number but its last are 128 and more. -/
theorem putF_front : ∀ (f n : Nat), ∃ (p : List UInt8) (x : UInt8), putF f n = p ++ [x] ∧ ∀ b ∈ p, 128 ≤ b.toNat
  | 0, n => ⟨[], UInt8.ofNat n, rfl, by simp⟩
  | f + 1, n => by
    unfold putF
    split
    · exact ⟨[], UInt8.ofNat n, rfl, by simp⟩
    · obtain ⟨p, x, e, hp⟩ := putF_front f (n / 128)
      refine ⟨UInt8.ofNat (n % 128 + 128) :: p, x, by rw [e]; rfl, fun b hb => ?_⟩
      rcases List.mem_cons.1 hb with rfl | hb
      · rw [byte_of _ (by omega)]; omega
      · exact hp b hb
theorem putN_front (n : Nat) : ∃ (p : List UInt8) (x : UInt8), putN n = p ++ [x] ∧ ∀ b ∈ p, 128 ≤ b.toNat := putF_front 9 n
theorem or128 (b : UInt8) : 128 ≤ (b ||| 128).toNat := by
  rw [UInt8.toNat_or]
  exact Nat.right_le_or
/-- A text with its length ahead. -/
def textE (s : List UInt8) : List UInt8 := putN s.length ++ s
/-- The text that bytes begin with, and how many it takes. -/
def getT (l : List UInt8) : Option (List UInt8 × Nat) :=
  match getN l with
  | none => none
  | some (n, k) => if n ≤ l.length - k then some ((l.drop k).take n, k + n) else none
theorem getT_text (s r : List UInt8) (h : s.length < 2 ^ 64) : getT (textE s ++ r) = some (s, (textE s).length) := by
  have e : textE s ++ r = putN s.length ++ (s ++ r) := by unfold textE; simp
  unfold getT
  rw [e, get_put h]
  simp only
  rw [if_pos (by simp), List.drop_left' rfl, List.take_left' rfl]
  unfold textE
  simp
theorem getN_le {l : List UInt8} {n k : Nat} (h : getN l = some (n, k)) : 1 ≤ k ∧ k ≤ l.length ∧ k ≤ 10 ∧ n < 2 ^ 64 := by
  have := endN_le l
  unfold getN at h
  split at h
  · cases h
  · split at h
    · cases h
    · split at h
      · simp only [Option.some.injEq, Prod.mk.injEq] at h
        obtain ⟨rfl, rfl⟩ := h
        exact ⟨by omega, by omega, by omega, by assumption⟩
      · cases h
/-- four, eight bytes, the lowest first -/
def fixN : Nat → Nat → List UInt8
  | 0, _ => []
  | k + 1, n => UInt8.ofNat (n % 256) :: fixN k (n / 256)
def unfN : List UInt8 → Nat
  | [] => 0
  | b :: r => b.toNat + 256 * unfN r
theorem fixN_len : ∀ k n, (fixN k n).length = k
  | 0, _ => rfl
  | k + 1, n => by rw [fixN, List.length_cons, fixN_len]
theorem unf_fix : ∀ k n, n < 256 ^ k → unfN (fixN k n) = n
  | 0, n, h => by simp at h; subst h; rfl
  | k + 1, n, h => by
    rw [Nat.pow_succ] at h
    rw [fixN, unfN, byte_of _ (by omega), unf_fix k (n / 256) (Nat.div_lt_of_lt_mul (by rw [Nat.mul_comm]; exact h))]; omega
end Go.Proofs.Ytpaoabdjbdlalaa
