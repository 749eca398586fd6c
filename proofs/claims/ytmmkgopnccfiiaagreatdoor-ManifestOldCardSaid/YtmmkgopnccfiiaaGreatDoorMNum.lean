/- Plain mathematics of numbers as bytes, seven bits a byte: what is written is read again; what is longer than needed is none. -/
import Derived.Test.YtmmkgopnccfiiaaGreatDoorMBase
import Derived.RegionTactic
import Derived.Deep.QuietTactic
import Derived.Deep.LoopGhost
import Derived.BigQuiet
import Derived.Laws.Bits128
import Derived.Laws.OwnMore
import Derived.Deep.OwnRows
import Derived.Deep.DeepCutAuto
import Derived.Deep.CutBlock
namespace Go.Proofs.YtmmkgopnccfiiaaGreatDoor
set_option linter.unusedVariables false
/-- a number's bytes (fuel: ten go for 64 bits) -/
def putF : Nat → Nat → List UInt8
  | 0, n => [UInt8.ofNat n]
  | f + 1, n => if n < 128 then [UInt8.ofNat n] else UInt8.ofNat (n % 128 + 128) :: putF f (n / 128)
def putN (n : Nat) : List UInt8 := putF 9 n
/-- how many bytes up to the first one below 128 (0: none is) -/
def endN : List UInt8 → Nat
  | [] => 0
  | b :: r => if b.toNat < 128 then 1 else if endN r = 0 then 0 else endN r + 1
/-- the number that bytes make -/
def valN : List UInt8 → Nat
  | [] => 0
  | b :: r => b.toNat % 128 + 128 * valN r
def getN (l : List UInt8) : Option (Nat × Nat) :=
  if endN l = 0 ∨ 10 < endN l then none else
  if 1 < endN l ∧ l[endN l - 1]? = some 0 then none else
  if valN (l.take (endN l)) < 2 ^ 64 then some (valN (l.take (endN l)), endN l) else none
theorem endN_le : ∀ l, endN l ≤ l.length
  | [] => by simp [endN]
  | b :: r => by
    have := endN_le r
    unfold endN
    split
    · simp
    · split <;> simp; omega
theorem endN_app : ∀ (l m : List UInt8), endN l ≠ 0 → endN (l ++ m) = endN l
  | [], m, h => by simp [endN] at h
  | b :: r, m, h => by
    rw [List.cons_append]
    unfold endN at h ⊢
    split
    · rfl
    · rename_i hb
      rw [if_neg hb] at h
      have h2 : endN r ≠ 0 := by
        intro e; rw [if_pos e] at h; exact h rfl
      rw [endN_app r m h2]
theorem getN_app (l m : List UInt8) (h : endN l ≠ 0) : getN (l ++ m) = getN l := by
  have hl := endN_le l
  unfold getN
  rw [endN_app l m h, List.getElem?_append_left (by omega), List.take_append_of_le_length hl]
theorem putF_len : ∀ f n, 1 ≤ (putF f n).length ∧ (putF f n).length ≤ f + 1
  | 0, n => by simp [putF]
  | f + 1, n => by
    unfold putF
    split
    · simp
    · have := putF_len f (n / 128); simp; omega
theorem putF_end : ∀ f n, n < 128 ^ (f + 1) → endN (putF f n) = (putF f n).length
  | 0, n, h => by
    have : n < 128 := by simpa using h
    simp [putF, endN, Nat.mod_eq_of_lt (show n < 256 by omega), this]
  | f + 1, n, h => by
    unfold putF
    split
    · rename_i hn
      simp [endN, Nat.mod_eq_of_lt (show n < 256 by omega), hn]
    · rename_i hn
      have hd : n / 128 < 128 ^ (f + 1) := by
        rw [Nat.pow_succ] at h
        exact Nat.div_lt_of_lt_mul (by rw [Nat.mul_comm]; exact h)
      have ih := putF_end f (n / 128) hd
      have hl := (putF_len f (n / 128)).1
      unfold endN
      rw [byte_of _ (by omega), if_neg (by omega), ih, if_neg (by omega)]; rfl
theorem putF_val : ∀ f n, n < 128 ^ (f + 1) → valN (putF f n) = n
  | 0, n, h => by
    have : n < 128 := by simpa using h
    unfold putF valN
    rw [byte_of _ (by omega)]; simp [valN]; omega
  | f + 1, n, h => by
    unfold putF
    split
    · rename_i hn
      unfold valN
      rw [byte_of _ (by omega)]; simp [valN]; omega
    · rename_i hn
      have hd : n / 128 < 128 ^ (f + 1) := by
        rw [Nat.pow_succ] at h
        exact Nat.div_lt_of_lt_mul (by rw [Nat.mul_comm]; exact h)
      unfold valN
      rw [byte_of _ (by omega), putF_val f _ hd]; omega
/-- the last byte of a number that takes more than one is not 0 -/
theorem putF_last : ∀ f n, n < 128 ^ (f + 1) → 0 < n → ∃ b, (putF f n).getLast? = some b ∧ b ≠ 0
  | 0, n, h, h0 => by
    have : n < 128 := by simpa using h
    refine ⟨UInt8.ofNat n, rfl, fun e => ?_⟩
    have := congrArg UInt8.toNat e
    rw [byte_of _ (by omega)] at this
    simp at this; omega
  | f + 1, n, h, h0 => by
    unfold putF
    split
    · rename_i hn
      refine ⟨UInt8.ofNat n, rfl, fun e => ?_⟩
      have := congrArg UInt8.toNat e
      rw [byte_of _ (by omega)] at this
      simp at this; omega
    · rename_i hn
      have hd : n / 128 < 128 ^ (f + 1) := by
        rw [Nat.pow_succ] at h
        exact Nat.div_lt_of_lt_mul (by rw [Nat.mul_comm]; exact h)
      obtain ⟨b, h1, h2⟩ := putF_last f (n / 128) hd (by omega)
      refine ⟨b, ?_, h2⟩
      have hl := (putF_len f (n / 128)).1
      cases hp : putF f (n / 128) with
      | nil => rw [hp] at hl; simp at hl
      | cons x y => rw [hp] at h1; rw [List.getLast?_cons_cons]; exact h1
theorem p70 : (2 : Nat) ^ 64 ≤ 128 ^ (9 + 1) := by decide
theorem putN_len (n : Nat) : 1 ≤ (putN n).length ∧ (putN n).length ≤ 10 := putF_len 9 n
theorem putN_end {n : Nat} (h : n < 2 ^ 64) : endN (putN n) = (putN n).length := putF_end 9 n (Nat.lt_of_lt_of_le h p70)
theorem putN_val {n : Nat} (h : n < 2 ^ 64) : valN (putN n) = n := putF_val 9 n (Nat.lt_of_lt_of_le h p70)
/-- What was written is read again, whatever stands behind. -/
theorem get_put {n : Nat} (h : n < 2 ^ 64) (r : List UInt8) : getN (putN n ++ r) = some (n, (putN n).length) := by
  have h1 := putN_len n
  have h2 := putN_end h
  rw [getN_app _ _ (by omega)]
  unfold getN
  rw [h2, if_neg (by omega), if_neg, List.take_length, putN_val h, if_pos h]
  rintro ⟨h3, h4⟩
  have h0 : 0 < n := by
    rcases Nat.eq_zero_or_pos n with e | e
    · subst e; have : (putN 0).length = 1 := rfl
      omega
    · exact e
  obtain ⟨b, h5, h6⟩ := putF_last 9 n (Nat.lt_of_lt_of_le h p70) h0
  rw [List.getLast?_eq_getElem?] at h5
  have h7 : (putN n)[(putN n).length - 1]? = some b := h5
  rw [h4] at h7
  exact h6 (Option.some.inj h7).symm
/-- The first byte below 128 stands at place k. -/
theorem endN_at : ∀ (k : Nat) (l : List UInt8) (b : UInt8), (∀ (j : Nat) (c : UInt8), j < k → l[j]? = some c → 128 ≤ c.toNat) → l[k]? = some b → b.toNat < 128 → endN l = k + 1
  | _, [], b, _, h, _ => by simp at h
  | 0, c :: r, b, _, h, hb => by
    obtain rfl : c = b := by simpa using h
    rw [endN, if_pos hb]
  | k + 1, c :: r, b, hf, h, hb => by
    have hc := hf 0 c (by omega) rfl
    have := endN_at k r b (fun j d hj hd => hf (j + 1) d (by omega) (by simpa using hd)) (by simpa using h) hb
    rw [endN, if_neg (by omega), this, if_neg (by omega)]
theorem endN_pos : ∀ l : List UInt8, endN l ≠ 0 → ∃ b, l[endN l - 1]? = some b ∧ b.toNat < 128
  | [], h => by simp [endN] at h
  | c :: r, h => by
    by_cases hc : c.toNat < 128
    · exact ⟨c, by rw [endN, if_pos hc]; rfl, hc⟩
    · have e : endN (c :: r) = if endN r = 0 then 0 else endN r + 1 := by rw [endN, if_neg hc]
      by_cases h0 : endN r = 0
      · rw [e, if_pos h0] at h; exact absurd rfl h
      · obtain ⟨b, hb, h2⟩ := endN_pos r h0
        refine ⟨b, ?_, h2⟩
        rw [e, if_neg h0, show endN r + 1 - 1 = (endN r - 1) + 1 by omega, List.getElem?_cons_succ]
        exact hb
/-- Ten bytes (or all) of 128 and more begin no number. -/
theorem getN_high {l : List UInt8} (h : ∀ (j : Nat) (c : UInt8), j < 10 → l[j]? = some c → 128 ≤ c.toNat) : getN l = none := by
  unfold getN
  rw [if_pos]
  by_cases h0 : endN l = 0
  · exact .inl h0
  · right
    obtain ⟨b, hb, h2⟩ := endN_pos l h0
    rcases Nat.lt_or_ge 10 (endN l) with h3 | h3
    · exact h3
    · have := h (endN l - 1) b (by omega) hb
      omega
theorem getN_at {l : List UInt8} {k : Nat} {b : UInt8} (hf : ∀ (j : Nat) (c : UInt8), j < k → l[j]? = some c → 128 ≤ c.toNat) (hk : k < 10) (hb : l[k]? = some b) (hl : b.toNat < 128) :
    getN l = if 0 < k ∧ b = 0 then none else if valN (l.take (k + 1)) < 2 ^ 64 then some (valN (l.take (k + 1)), k + 1) else none := by
  have he := endN_at k l b hf hb hl
  unfold getN
  rw [he, if_neg (by omega), Nat.add_sub_cancel, hb]
  by_cases h : 0 < k ∧ b = 0
  · rw [if_pos h, if_pos ⟨by omega, by rw [h.2]⟩]
  · rw [if_neg h, if_neg]
    rintro ⟨h1, h2⟩
    exact h ⟨by omega, Option.some.inj h2⟩
/-- A text with its length ahead. -/
def textE (s : List UInt8) : List UInt8 := putN s.length ++ s
/-- The text that bytes begin with, and how many it takes. -/
def getT (l : List UInt8) : Option (List UInt8 × Nat) :=
  match getN l with
  | none => none
  | some (n, k) => if n ≤ l.length - k then some ((l.drop k).take n, k + n) else none
theorem getT_text (s r : List UInt8) (h : s.length < 2 ^ 64) : getT (textE s ++ r) = some (s, (textE s).length) := by
  have e : textE s ++ r = putN s.length ++ (s ++ r) := by unfold textE; simp
  unfold getT
  rw [e, get_put h]
  simp only
  rw [if_pos (by simp), List.drop_left' rfl, List.take_left' rfl]
  unfold textE
  simp
theorem getN_le {l : List UInt8} {n k : Nat} (h : getN l = some (n, k)) : 1 ≤ k ∧ k ≤ l.length ∧ k ≤ 10 ∧ n < 2 ^ 64 := by
  have := endN_le l
  unfold getN at h
  split at h
  · cases h
  · split at h
    · cases h
    · split at h
      · simp only [Option.some.injEq, Prod.mk.injEq] at h
        obtain ⟨rfl, rfl⟩ := h
        exact ⟨by omega, by omega, by omega, by assumption⟩
      · cases h
/-- four, eight bytes, the lowest first -/
def fixN : Nat → Nat → List UInt8
  | 0, _ => []
  | k + 1, n => UInt8.ofNat (n % 256) :: fixN k (n / 256)
def unfN : List UInt8 → Nat
  | [] => 0
  | b :: r => b.toNat + 256 * unfN r
theorem fixN_len : ∀ k n, (fixN k n).length = k
  | 0, _ => rfl
  | k + 1, n => by rw [fixN, List.length_cons, fixN_len]
theorem unf_fix : ∀ k n, n < 256 ^ k → unfN (fixN k n) = n
  | 0, n, h => by simp at h; subst h; rfl
  | k + 1, n, h => by
    rw [Nat.pow_succ] at h
    rw [fixN, unfN, byte_of _ (by omega), unf_fix k (n / 256) (Nat.div_lt_of_lt_mul (by rw [Nat.mul_comm]; exact h))]; omega
end Go.Proofs.YtmmkgopnccfiiaaGreatDoor
/- The walks of varint.Put and of the reference's Put: the bytes of one plain function. -/
namespace Go.Proofs.YtmmkgopnccfiiaaGreatDoor
set_option linter.unusedVariables false
open Go.RowKit
theorem and127 (k : Nat) (hk : k < 18446744073709551616) : bits .and .u64 (k : Int) 127 = ((k % 128 : Nat) : Int) := by
  rw [show (127 : Int) = ((127 : Nat) : Int) from rfl, u64_and_nat k 127 hk (by omega), nat_mask7]
theorem put_stop {f m : Nat} {r bs : List UInt8} (h : ¬ 128 ≤ m) (H : Hid (r = bs ++ putF f m)) : ∃ x : UInt8, Hid (x.toNat = m) ∧ r = bs ++ [x] := by
  refine ⟨UInt8.ofNat m, Lib.hid (byte_of _ (by omega)), ?_⟩
  rw [H.out]
  cases f with
  | zero => rfl
  | succ f => rw [putF, if_pos (by omega)]
theorem put_more {f m : Nat} {r bs : List UInt8} (h : 128 ≤ m) (hf : m < 128 ^ (f + 1)) (H : Hid (r = bs ++ putF f m)) :
    ∃ (g : Nat) (x : UInt8), f = g + 1 ∧ Hid (x.toNat = m % 128 + 128) ∧ Hid (m / 128 < 128 ^ (g + 1)) ∧ Hid (r = (bs ++ [x]) ++ putF g (m / 128)) := by
  cases f with
  | zero => simp at hf; omega
  | succ g =>
    refine ⟨g, UInt8.ofNat (m % 128 + 128), rfl, Lib.hid (byte_of _ (by omega)), Lib.hid ?_, Lib.hid ?_⟩
    · rw [Nat.pow_succ] at hf
      exact Nat.div_lt_of_lt_mul (by rw [Nat.mul_comm]; exact hf)
    · rw [H.out, putF, if_neg (by omega)]; simp
set_option maxHeartbeats 1000000 in
theorem put_any (n : Nat) (hn : n < 2 ^ 64) (w : World) : Calls Tryz.prog 121 #[.int .u64 (n : Int)] w (MkB (putN n) w) := by
  obtain ⟨r, hr⟩ : ∃ r, putN n = r := ⟨_, rfl⟩
  have HR : Hid (r = [] ++ putF 9 n) := Lib.hid (by rw [← hr]; rfl)
  have HF : Hid (n < 128 ^ (9 + 1)) := Lib.hid (Nat.lt_of_lt_of_le hn p70)
  have hn2 : n < 18446744073709551616 := by omega
  rw [hr]
  clear hr hn
  go_enter Tryz.func121, Tryz.ntmps121
  go_wp2
  go_loopw [3, 0] (fun b m wr => ∃ (f k : Nat) (bs : List UInt8), m = .int .u64 (k : Int) ∧ k < 18446744073709551616 ∧ Hid (k < 128 ^ (f + 1)) ∧ OwnB w.heap.size wr b bs ∧ Below w.heap.size w wr ∧ bs.length + f = 9 ∧ Hid (r = bs ++ putF f k))
    (fun _ m _ => (intOf m).toNat)
  case atStart => exact ⟨9, n, [], rfl, hn2, HF, OwnB.nil _ _, Below.refl _ _, rfl, HR⟩
  case round =>
    obtain ⟨f, k, bs, rfl, hk, HFk, hown, hbel, hlen, HRk⟩ := hrel
    have hwr := hbel.size
    by_cases hlt : 128 ≤ k
    · obtain ⟨g, x, rfl, HX, HG, HRn⟩ := put_more hlt HFk.out HRk
      clear HRk HFk
      have hz : (127 : Int) < (k : Int) := by omega
      have h127 := and127 k hk
      have HU : Hid (Value.int .u8 (bits .or .u8 ((k : Int) % 128) 128) = bv x) := Lib.hid (by
        rw [show ((k : Int) % 128) = ((k % 128 : Nat) : Int) from rfl, u8_or128_right _ (by omega) (by omega)]
        unfold bv; rw [HX.out]; rfl)
      have hbl : bs.length ≤ 9 := by omega
      go_wp2_with (at_builtin; refine wp_app1B _ _ (by rfl) (by rfl) (by rfl) hown x _ ?c1 _ (by rfl) (by rfl) ?c2 hwr ?_)
      case c1 => exact HU.out
      case c2 => omega
      intro v' w2 hown2 hb2
      go_wp2
      go_roundw
      case rel => exact ⟨g, k / 128, _, by go_num, by omega, HG, hown2, hbel.trans hb2, by rw [List.length_append, List.length_singleton]; omega, HRn⟩
      case measure => simp [intOf]; omega
    · obtain ⟨x, HX, rfl⟩ := put_stop hlt HRk
      clear HRk HFk HR
      have hz : ¬ (127 : Int) < (k : Int) := by omega
      have HU : Hid (Value.int .u8 (k : Int) = bv x) := Lib.hid (by
        unfold bv; rw [HX.out])
      have hbl : bs.length ≤ 9 := by omega
      go_wp2_with (at_builtin; refine wp_app1B _ _ (by rfl) (by rfl) (by rfl) hown x _ ?c1 _ (by rfl) (by rfl) ?c2 hwr ?_)
      case c1 => exact HU.out
      case c2 => omega
      intro v' w2 hown2 hb2
      go_wp2
      go_ret
      exact ⟨_, rfl, hown2, hbel.trans hb2⟩
end Go.Proofs.YtmmkgopnccfiiaaGreatDoor
/- The walks of varint.ended and varint.Get. -/
namespace Go.Proofs.YtmmkgopnccfiiaaGreatDoor
set_option linter.unusedVariables false
open Go.RowKit
def numRes (r : Option (Nat × Nat)) : Value := match r with
  | none => .tuple #[.int .u64 0, .int .i64 0]
  | some (n, k) => .tuple #[.int .u64 (n : Int), .int .i64 (k : Int)]
def GetRes (r : Option (Nat × Nat)) (w : World) (e : Ending) (w' : World) : Prop := e = .returned (numRes r) ∧ w = w'
set_option maxHeartbeats 1000000 in
theorem ended_no (n : Int) (i : Nat) (x : Int) (hi : i < 10) (h : 0 < i ∧ x = 0 ∨ i = 9 ∧ 1 < x) (w : World) :
    Calls Tryz.prog 169 #[.int .u64 n, .int .i64 (i : Int), .int .u8 x] w (GetRes none w) := by
  go_enter Tryz.func169, Tryz.ntmps169
  rcases h with ⟨h1, rfl⟩ | ⟨rfl, h1⟩
  · have hz : (0 : Int) < (i : Int) := by omega
    go_wp2
    go_ret2
    exact ⟨rfl, rfl⟩
  · have hz : ¬ x = 0 := by omega
    go_wp2
    go_ret2
    exact ⟨rfl, rfl⟩
set_option maxHeartbeats 1000000 in
theorem ended_yes (n : Int) (i : Nat) (x : Int) (hi : i < 10) (h : ¬ (0 < i ∧ x = 0 ∨ i = 9 ∧ 1 < x)) (w : World) :
    Calls Tryz.prog 169 #[.int .u64 n, .int .i64 (i : Int), .int .u8 x] w fun e w' => e = .returned (.tuple #[.int .u64 n, .int .i64 ((i : Int) + 1)]) ∧ w = w' := by
  go_enter Tryz.func169, Tryz.ntmps169
  by_cases h0 : 0 < i
  · have hx : ¬ x = 0 := fun e => h (.inl ⟨h0, e⟩)
    have hz : (0 : Int) < (i : Int) := by omega
    by_cases h9 : i = 9
    · have hx1 : ¬ 1 < x := fun e => h (.inr ⟨h9, e⟩)
      subst h9
      clear h
      go_wp2
      go_ret2
      exact ⟨rfl, rfl⟩
    · have hz9 : ¬ (i : Int) = 9 := by omega
      clear h
      go_wp2
      go_ret2
      exact ⟨rfl, rfl⟩
  · obtain rfl : i = 0 := by omega
    clear h
    go_wp2
    go_ret2
    exact ⟨rfl, rfl⟩
theorem valN_snoc : ∀ (p : List UInt8) (c : UInt8), valN (p ++ [c]) = valN p + c.toNat % 128 * 2 ^ (7 * p.length)
  | [], c => by simp [valN]
  | b :: p, c => by
    have h : 2 ^ (7 * (p.length + 1)) = 2 ^ (7 * p.length) * 128 := by rw [Nat.mul_add, Nat.pow_add]
    rw [List.cons_append, valN, valN, valN_snoc p c, List.length_cons, h]
    generalize 2 ^ (7 * p.length) = q
    rw [Nat.mul_add, ← Nat.mul_assoc, Nat.mul_comm 128 (c.toNat % 128), Nat.mul_assoc (c.toNat % 128) 128 q, Nat.mul_comm 128 q, Nat.add_assoc]
theorem pow7 {j : Nat} (h : j ≤ 9) : 2 ^ (7 * j) ≤ 2 ^ 63 := Nat.pow_le_pow_right (by decide) (by omega)
theorem pow7' {j : Nat} (h : j ≤ 8) : 2 ^ (7 * j) ≤ 2 ^ 56 := Nat.pow_le_pow_right (by decide) (by omega)
theorem cast_wrap (a s : Nat) : ((a : Int) % 128 * 2 ^ s) % 18446744073709551616 = (((a % 128 * 2 ^ s) % 2 ^ 64 : Nat) : Int) := by
  rw [Int.natCast_emod, Int.natCast_mul, Int.natCast_emod, Int.natCast_pow]; rfl
theorem and127b : ∀ n : Fin 256, bits .and .u8 (n.val : Int) 127 = (n.val % 128 : Nat) := by decide +kernel
theorem byte_and127 (b : UInt8) : bits .and .u8 (b.toNat : Int) 127 = (b.toNat % 128 : Nat) := and127b ⟨b.toNat, b.toNat_lt⟩
/-- 'n | c << 7 j' -/
theorem get_or (m j : Nat) (c : UInt8) (hm : m < 18446744073709551616) : ∃ M : Nat, bits .or .u64 (m : Int) (IntKind.u64.wrap ((c.toNat : Int) % 128 * 2 ^ (7 * j))) = (M : Int) ∧ M < 18446744073709551616 ∧ Hid (m < 2 ^ (7 * j) → c.toNat % 128 * 2 ^ (7 * j) < 2 ^ 64 → M = m + c.toNat % 128 * 2 ^ (7 * j)) := by
  refine ⟨m ||| (c.toNat % 128 * 2 ^ (7 * j)) % 2 ^ 64, ?_, ?_, Lib.hid fun h1 h2 => ?_⟩
  · rw [IntKind.wrap_u64, show ((c.toNat : Int) % 128 * 2 ^ (7 * j)) % 18446744073709551616 = (((c.toNat % 128 * 2 ^ (7 * j)) % 2 ^ 64 : Nat) : Int) from cast_wrap _ _, u64_or_nat m _ hm (Nat.mod_lt _ (by decide))]
  · exact Nat.or_lt_two_pow (n := 64) hm (Nat.mod_lt _ (by decide))
  · rw [Nat.mod_eq_of_lt h2, Nat.or_comm, nat_join (7 * j) _ m (Nat.mul_mod_left _ _) h1, Nat.add_comm]
theorem get_snoc {l : List UInt8} {j : Nat} {c : UInt8} (hc : l[j]? = some c) (hj : j < l.length) : valN (l.take (j + 1)) = valN (l.take j) + c.toNat % 128 * 2 ^ (7 * j) := by
  rw [List.take_add_one, hc, Option.toList_some, valN_snoc, List.length_take, Nat.min_eq_left (by omega)]
theorem get_bd (c : UInt8) (j : Nat) (h : j ≤ 8) : c.toNat % 128 * 2 ^ (7 * j) < 2 ^ 63 := by
  have h1 : c.toNat % 128 < 128 := Nat.mod_lt _ (by decide)
  have h2 := pow7' h
  calc c.toNat % 128 * 2 ^ (7 * j) < 128 * 2 ^ (7 * j) := Nat.mul_lt_mul_of_pos_right h1 (Nat.two_pow_pos _)
    _ ≤ 128 * 2 ^ 56 := Nat.mul_le_mul_left _ h2
    _ = 2 ^ 63 := by decide
/-- one byte more that is 128 or more -/
theorem get_next {l : List UInt8} {j m M : Nat} {c : UInt8} (hc : l[j]? = some c) (hj : j < l.length) (h10 : j < 10) (h128 : 128 ≤ c.toNat)
    (HT : Hid (∀ (t : Nat) (c : UInt8), t < j → l[t]? = some c → 128 ≤ c.toNat)) (HM : Hid (j ≤ 9 → m = valN (l.take j) ∧ m < 2 ^ (7 * j)))
    (HE : Hid (m < 2 ^ (7 * j) → c.toNat % 128 * 2 ^ (7 * j) < 2 ^ 64 → M = m + c.toNat % 128 * 2 ^ (7 * j))) :
    Hid (∀ (t : Nat) (c : UInt8), t < j + 1 → l[t]? = some c → 128 ≤ c.toNat) ∧ Hid (j + 1 ≤ 9 → M = valN (l.take (j + 1)) ∧ M < 2 ^ (7 * (j + 1))) := by
  refine ⟨Lib.hid fun t d ht hd => ?_, Lib.hid fun h9 => ?_⟩
  · rcases Nat.lt_or_ge t j with h | h
    · exact HT.out t d h hd
    · obtain rfl : t = j := by omega
      rw [hc] at hd
      obtain rfl := Option.some.inj hd
      exact h128
  · obtain ⟨h1, h2⟩ := HM.out (by omega)
    have h3 := get_bd c j (by omega)
    have h4 := HE.out h2 (by omega)
    have h5 := get_snoc hc hj
    refine ⟨by rw [h4, h5, h1], ?_⟩
    have h6 : 2 ^ (7 * (j + 1)) = 2 ^ (7 * j) * 128 := by rw [Nat.mul_add, Nat.pow_add]
    have h7 : c.toNat % 128 < 128 := Nat.mod_lt _ (by decide)
    have h8 : c.toNat % 128 * 2 ^ (7 * j) ≤ 127 * 2 ^ (7 * j) := Nat.mul_le_mul_right _ (by omega)
    omega
/-- the last byte -/
theorem get_last {l : List UInt8} {j m M : Nat} {c : UInt8} (hc : l[j]? = some c) (hj : j < l.length) (h10 : j < 10) (h128 : c.toNat < 128)
    (HT : Hid (∀ (t : Nat) (c : UInt8), t < j → l[t]? = some c → 128 ≤ c.toNat)) (HM : Hid (j ≤ 9 → m = valN (l.take j) ∧ m < 2 ^ (7 * j)))
    (HE : Hid (m < 2 ^ (7 * j) → c.toNat % 128 * 2 ^ (7 * j) < 2 ^ 64 → M = m + c.toNat % 128 * 2 ^ (7 * j))) :
    getN l = if 0 < j ∧ c.toNat = 0 ∨ j = 9 ∧ 1 < c.toNat then none else some (M, j + 1) := by
  obtain ⟨h1, h2⟩ := HM.out (by omega)
  have h5 := get_snoc hc hj
  rw [getN_at HT.out h10 hc h128, h5, ← h1]
  have hz : c = 0 ↔ c.toNat = 0 := ⟨fun e => by rw [e]; rfl, fun e => UInt8.toNat_inj.1 (by rw [e]; rfl)⟩
  have hmod : c.toNat % 128 = c.toNat := Nat.mod_eq_of_lt h128
  by_cases hA : 0 < j ∧ c.toNat = 0
  · rw [if_pos ⟨hA.1, hz.2 hA.2⟩, if_pos (.inl hA)]
  · rw [if_neg fun h => hA ⟨h.1, hz.1 h.2⟩]
    by_cases h9 : j = 9
    · subst h9
      by_cases hB : 1 < c.toNat
      · rw [if_neg, if_pos (.inr ⟨rfl, hB⟩)]
        rw [hmod]; simp only [Nat.reduceMul, Nat.reducePow]; omega
      · have h3 : c.toNat % 128 * 2 ^ (7 * 9) < 2 ^ 64 := by rw [hmod]; simp only [Nat.reduceMul, Nat.reducePow]; omega
        have h4 := HE.out h2 h3
        rw [if_pos, if_neg, h4]
        · rintro (h | h)
          · exact hA h
          · exact hB h.2
        · simp only [Nat.reduceMul, Nat.reducePow] at h2 h3 ⊢; rw [hmod] at h3 ⊢; omega
    · have h3 := get_bd c j (by omega)
      have h4 := HE.out h2 (by omega)
      have h6 := pow7 (j := j) (by omega)
      rw [if_pos, if_neg, h4]
      · rintro (h | h)
        · exact hA h
        · exact h9 h.1
      · omega
set_option maxHeartbeats 1000000 in
set_option maxRecDepth 100000 in
theorem get_any (v : Value) (l : List UInt8) (w : World) (h : RdB w v l) : Calls Tryz.prog 139 #[v] w (GetRes (getN l) w) := by
  rcases h with ⟨a, cap, rfl, e⟩ | ⟨b, off, cap, rfl, h1, h2, h3, h4, h5⟩
  · have : l = [] := by simpa using e
    subst this
    go_enter Tryz.func139, Tryz.ntmps139
    go_wp2
    refine wp_loop_rounds 1 ?_
    rw [rounds_succ]
    go_wp2
    go_ret2
    exact ⟨rfl, rfl⟩
  · rw [List.length_map] at h1 h2 h5 ⊢
    have HC : Hid (∀ i, i < l.length → w.cell? ⟨b, off + i, none⟩ = some (.int .u8 ((l.getD i 0).toNat : Int))) := Lib.hid fun i hi => by
      rw [h5 i hi, List.getD_eq_getElem?_getD, List.getD_eq_getElem?_getD, List.getElem?_map, List.getElem?_eq_getElem hi]; rfl
    obtain ⟨r, hr⟩ : ∃ r, getN l = r := ⟨_, rfl⟩
    have HR := Lib.hid hr
    rw [hr]
    clear hr h5
    unfold maxLen at h3
    go_enter Tryz.func139, Tryz.ntmps139
    go_wp2
    go_loop [4, 5] (fun n i => ∃ (j m : Nat), n = .int .u64 (m : Int) ∧ i = .int .i64 (j : Int) ∧ j ≤ 10 ∧ j ≤ l.length ∧ m < 18446744073709551616 ∧ Hid (∀ (t : Nat) (c : UInt8), t < j → l[t]? = some c → 128 ≤ c.toNat) ∧ Hid (j ≤ 9 → m = valN (l.take j) ∧ m < 2 ^ (7 * j)))
      (fun _ i => 10 - (intOf i).toNat)
    case atStart => exact ⟨0, 0, rfl, rfl, by omega, by omega, by omega, Lib.hid (fun t c h => by omega), Lib.hid fun _ => ⟨rfl, by decide⟩⟩
    case round =>
      obtain ⟨j, m, rfl, rfl, hj, hjl, hm, HT, HM⟩ := hrel
      by_cases hlt : j < l.length ∧ j < 10
      · obtain ⟨hlt, h10⟩ := hlt
        have hc := HC.out j hlt
        have HG : Hid (l[j]? = some (l.getD j 0)) := Lib.hid (by rw [List.getD_eq_getElem?_getD, List.getElem?_eq_getElem hlt]; rfl)
        generalize l.getD j 0 = c at hc HG
        have hz1 : (j : Int) < (l.length : Int) := by omega
        have hz2 : (j : Int) < 10 := by omega
        have hcb : c.toNat < 256 := c.toNat_lt
        have h127 := byte_and127 c
        obtain ⟨M, hE, hM, HE⟩ := get_or m j c hm
        by_cases h128 : 128 ≤ c.toNat
        · obtain ⟨HTn, HMn⟩ := get_next HG.out hlt h10 h128 HT HM HE
          clear HT HM HE HG
          have hz3 : ¬ (c.toNat : Int) < 128 := by omega
          go_wp2_with fail
          refine ⟨⟨j + 1, M, rfl, by go_num, by omega, hlt, hM, HTn, HMn⟩, by simp [intOf]; omega⟩
        · have HL := Lib.hid (get_last HG.out hlt h10 (by omega) HT HM HE)
          rw [HR.out] at HL
          clear HT HM HE HG HR
          have hz3 : (c.toNat : Int) < 128 := by omega
          by_cases hA : 0 < j ∧ c.toNat = 0 ∨ j = 9 ∧ 1 < c.toNat
          · have HN : Hid (∀ w, Calls Tryz.prog 169 #[.int .u64 (M : Int), .int .i64 (j : Int), .int .u8 (c.toNat : Int)] w (GetRes none w)) := Lib.hid fun w => ended_no _ j _ h10 (by omega) w
            rw [if_pos hA] at HL
            obtain rfl := HL.out
            clear hA HL
            go_wp2_with fail
            refine (HN.out _).mono ?_
            rintro e w' ⟨rfl, rfl⟩
            unfold numRes
            go_wp2
            go_ret2
            exact ⟨rfl, rfl⟩
          · have HN : Hid (∀ w, Calls Tryz.prog 169 #[.int .u64 (M : Int), .int .i64 (j : Int), .int .u8 (c.toNat : Int)] w fun e w' => e = .returned (.tuple #[.int .u64 (M : Int), .int .i64 ((j : Int) + 1)]) ∧ w = w') := Lib.hid fun w => ended_yes _ j _ h10 (by omega) w
            rw [if_neg hA] at HL
            obtain rfl := HL.out
            clear hA HL
            go_wp2_with fail
            refine (HN.out _).mono ?_
            rintro e w' ⟨rfl, rfl⟩
            go_wp2
            go_ret2
            exact ⟨rfl, rfl⟩
      · have HL : Hid (r = none) := Lib.hid (by
          rw [← HR.out]
          refine getN_high fun t c ht hc => HT.out t c ?_ hc
          have := (List.getElem?_eq_some_iff.1 hc).1
          omega)
        obtain rfl := HL.out
        clear HT HM HL HR
        rcases Nat.lt_or_ge j l.length with h | h
        · obtain rfl : j = 10 := by omega
          have hz1 : (10 : Int) < (l.length : Int) := by omega
          clear hlt
          go_wp2
          go_ret2
          exact ⟨rfl, rfl⟩
        · have hz1 : ¬ (j : Int) < (l.length : Int) := by omega
          clear hlt
          go_wp2
          go_ret2
          exact ⟨rfl, rfl⟩
end Go.Proofs.YtmmkgopnccfiiaaGreatDoor
/- The walk of the reference's Get. -/
namespace Go.Proofs.YtmmkgopnccfiiaaGreatDoor
set_option linter.unusedVariables false
open Go.RowKit
end Go.Proofs.YtmmkgopnccfiiaaGreatDoor
/- The walks of varint.putFixed and varint.getFixed. -/
namespace Go.Proofs.YtmmkgopnccfiiaaGreatDoor
set_option linter.unusedVariables false
open Go.RowKit
theorem fixN_snoc : ∀ (j n : Nat), fixN (j + 1) n = fixN j n ++ [UInt8.ofNat (n / 2 ^ (8 * j) % 256)]
  | 0, n => by simp [fixN]
  | j + 1, n => by
    rw [fixN, fixN_snoc j (n / 256), fixN, List.cons_append, Nat.div_div_eq_div_mul]
    have : 256 * 2 ^ (8 * j) = 2 ^ (8 * (j + 1)) := by rw [Nat.mul_add, Nat.pow_add, Nat.mul_comm]
    rw [this]
/-- the row that is being filled -/
def fixAt (K n j : Nat) : List Value := (fixN j n).map bv ++ List.replicate (K - j) (.int .u8 0)
theorem fixAt_old (K n j : Nat) (h : j < K) : (fixAt K n j)[j]? = some (.int .u8 0) := by
  unfold fixAt
  rw [List.getElem?_append_right (by rw [List.length_map, fixN_len]; exact Nat.le_refl _), List.length_map, fixN_len, Nat.sub_self, List.getElem?_replicate, if_pos (by omega)]
theorem fixAt_step (K n j : Nat) (h : j < K) : (fixAt K n j).set j (.int .u8 ((n / 2 ^ (8 * j) % 256 : Nat) : Int)) = fixAt K n (j + 1) := by
  unfold fixAt
  rw [fixN_snoc, List.map_append, show K - j = (K - (j + 1)) + 1 by omega, List.replicate_succ]
  have hl : ((fixN j n).map bv).length = j := by rw [List.length_map, fixN_len]
  generalize (fixN j n).map bv = p at hl
  subst hl
  rw [List.set_append_right _ _ (Nat.le_refl _), Nat.sub_self, List.set_cons_zero, List.append_assoc]
  simp only [List.map_cons, List.map_nil, List.cons_append, List.nil_append]
  unfold bv
  rw [byte_of _ (by omega)]
theorem pf_big (n j : Nat) : ((n : Int) / 2 ^ (8 * j)) = ((n / 2 ^ (8 * j) : Nat) : Int) := by
  rw [Int.natCast_ediv, Int.natCast_pow]; rfl
set_option maxHeartbeats 1000000 in
theorem putFixed_any (n : Nat) (hn : n < 2 ^ 64) (K : Nat) (hK : K ≤ 8) (w : World) : Calls Tryz.prog 124 #[.int .u64 (n : Int), .int .i64 (K : Int)] w (MkB (fixN K n) w) := by
  have hn2 : n < 18446744073709551616 := by omega
  clear hn
  have hmk := run_make_row' (P := Tryz.prog) 51 5 (.int .u8 0) 1 Tryz.underlying51 (by kernel_rfl) rfl .i64 .i64 K (by omega) (by omega)
  have HROW : Hid ((w.alloc (.cells (madeCells #[.int .u8 0] K) 5)).ownsRow w.heap.size 5 1 (.slice (some ⟨w.heap.size, 0, none⟩) K K) K (fixAt K n 0)) := Lib.hid (by
    have := World.ownsRow_lit (base := w.heap.size) (e := 5) (size := 1) w (madeCells #[.int .u8 0] K) K (Nat.le_refl _) (by unfold maxLen; omega) (by rw [size_madeCells]; omega)
    rw [toList_madeCells_one] at this
    unfold fixAt
    rw [fixN, List.map_nil, List.nil_append, Nat.sub_zero]
    exact this)
  have HB : Hid (Below w.heap.size w (w.alloc (.cells (madeCells #[.int .u8 0] K) 5))) := Lib.hid ((Below.refl _ w).alloc (Nat.le_refl _) _)
  obtain ⟨g, hg⟩ : ∃ g, w.heap.size = g := ⟨_, rfl⟩
  have HG : Hid (w.heap.size = g) := Lib.hid hg
  rw [hg] at HROW HB
  go_enter Tryz.func124, Tryz.ntmps124
  go_upto_region 2 with fail
  clear hmk
  generalize w.alloc (.cells (madeCells #[.int .u8 0] K) 5) = w2 at HROW HB ⊢
  go_wp2
  go_loopg [11] K (fun kk vi wr => ∃ j : Nat, vi = .int .i64 (j : Int) ∧ j ≤ K ∧ K - j ≤ kk ∧ Hid (wr.ownsRow g 5 1 (.slice (some ⟨g, 0, none⟩) K K) K (fixAt K n j) ∧ Below g w wr))
  case atStart => exact ⟨0, rfl, by omega, by omega, Lib.hid ⟨HROW.out, HB.out⟩⟩
  case round =>
    clear HROW HB
    obtain ⟨j, rfl, hj, hkk, HS⟩ := hrel
    by_cases hlt : j < K
    · have hz : (j : Int) < (K : Int) := by omega
      have c2 : wr.cell? ⟨g, j, none⟩ = some (.int .u8 0) := (HS.out.1.cellAt j (by omega)).trans (fixAt_old K n j hlt)
      have f2 := HS.out.1.frozenAt j
      have hq := pf_big n j
      obtain ⟨q, hqq⟩ : ∃ q, n / 2 ^ (8 * j) = q := ⟨_, rfl⟩
      have HSN : Hid ((wr.setCell ⟨g, j, none⟩ (.int .u8 ((q % 256 : Nat) : Int))).ownsRow g 5 1 (.slice (some ⟨g, 0, none⟩) K K) K (fixAt K n (j + 1)) ∧ Below g w (wr.setCell ⟨g, j, none⟩ (.int .u8 ((q % 256 : Nat) : Int)))) := by
        obtain ⟨s1, s2⟩ := HS.out
        have := (s1.stored j (.int .u8 ((q % 256 : Nat) : Int))).1
        rw [← hqq, fixAt_step K n j hlt] at this
        rw [← hqq]
        exact ⟨this, s2.setCell (p := ⟨g, j, none⟩) (Nat.le_refl _) _⟩
      rw [hqq] at hq
      clear hqq HS hg
      go_wp2
      go_roundg (K - (j + 1))
      case measure => omega
      case rel => exact ⟨j + 1, by go_num, by omega, Nat.le_refl _, HSN⟩
    · obtain rfl : j = K := by omega
      have hz : ¬ (j : Int) < (j : Int) := by omega
      have hown : OwnB w.heap.size wr (.slice (some ⟨g, 0, none⟩) j j) (fixN j n) := by
        have := HS.out.1
        unfold fixAt at this
        rw [Nat.sub_self, List.replicate_zero, List.append_nil] at this
        unfold OwnB OwnV
        rw [List.length_map, fixN_len, HG.out]; exact this
      have hbb : Below w.heap.size w wr := by rw [HG.out]; exact HS.out.2
      clear HS
      go_wp2
      go_ret
      exact ⟨_, rfl, hown, hbb⟩
theorem unfN_snoc : ∀ (p : List UInt8) (c : UInt8), unfN (p ++ [c]) = unfN p + c.toNat * 2 ^ (8 * p.length)
  | [], c => by simp [unfN]
  | b :: p, c => by
    have h : 2 ^ (8 * (p.length + 1)) = 2 ^ (8 * p.length) * 256 := by rw [Nat.mul_add, Nat.pow_add]
    rw [List.cons_append, unfN, unfN, unfN_snoc p c, List.length_cons, h]
    generalize 2 ^ (8 * p.length) = q
    rw [Nat.mul_add, ← Nat.mul_assoc, Nat.mul_comm 256 c.toNat, Nat.mul_assoc c.toNat 256 q, Nat.mul_comm 256 q, Nat.add_assoc]
theorem pow8 {j : Nat} (h : j ≤ 7) : 2 ^ (8 * j) ≤ 2 ^ 56 := Nat.pow_le_pow_right (by decide) (by omega)
theorem cast_wrap8 (a s : Nat) : ((a : Int) * 2 ^ s) % 18446744073709551616 = (((a * 2 ^ s) % 2 ^ 64 : Nat) : Int) := by
  rw [Int.natCast_emod, Int.natCast_mul, Int.natCast_pow]; rfl
theorem fix_bd (c : UInt8) (m j : Nat) (h : j ≤ 7) (hm : m < 2 ^ (8 * j)) : m + c.toNat * 2 ^ (8 * j) < 2 ^ (8 * (j + 1)) ∧ c.toNat * 2 ^ (8 * j) < 2 ^ 64 := by
  have h1 : c.toNat < 256 := c.toNat_lt
  have h2 := pow8 h
  have h6 : 2 ^ (8 * (j + 1)) = 2 ^ (8 * j) * 256 := by rw [Nat.mul_add, Nat.pow_add]
  have h8 : c.toNat * 2 ^ (8 * j) ≤ 255 * 2 ^ (8 * j) := Nat.mul_le_mul_right _ (by omega)
  omega
theorem fix_or (m j : Nat) (c : UInt8) (hj : j ≤ 7) (hm : m < 2 ^ (8 * j)) : bits .or .u64 (m : Int) (IntKind.u64.wrap ((c.toNat : Int) * 2 ^ (8 * j))) = ((m + c.toNat * 2 ^ (8 * j) : Nat) : Int) := by
  have h1 := (fix_bd c m j hj hm).2
  have h2 := pow8 hj
  rw [IntKind.wrap_u64, cast_wrap8, Nat.mod_eq_of_lt h1, u64_or_nat m _ (by omega) (by omega), Nat.or_comm, nat_join (8 * j) _ m (Nat.mul_mod_left _ _) hm, Nat.add_comm]
/-- the number of the first K bytes (0: fewer) -/
def unfK (K : Nat) (l : List UInt8) : Nat := if K ≤ l.length then unfN (l.take K) else 0
set_option maxHeartbeats 1000000 in
set_option maxRecDepth 100000 in
theorem getFixed_any (v : Value) (l : List UInt8) (K : Nat) (hK : K ≤ 8) (h0 : 0 < K) (w : World) (h : RdB w v l) :
    Calls Tryz.prog 103 #[v, .int .i64 (K : Int)] w fun e w' => e = .returned (.int .u64 (unfK K l : Int)) ∧ w = w' := by
  rcases h with ⟨a, cap, rfl, e⟩ | ⟨b, off, cap, rfl, h1, h2, h3, h4, h5⟩
  · have : l = [] := by simpa using e
    subst this
    have e : unfK K [] = 0 := if_neg (by simp; omega)
    rw [e]
    have hz : (0 : Int) < (K : Int) := by omega
    go_enter Tryz.func103, Tryz.ntmps103
    go_wp2
    go_ret
    exact ⟨rfl, rfl⟩
  · rw [List.length_map] at h1 h2 h5 ⊢
    have HC : Hid (∀ i, i < l.length → w.cell? ⟨b, off + i, none⟩ = some (.int .u8 ((l.getD i 0).toNat : Int))) := Lib.hid fun i hi => by
      rw [h5 i hi, List.getD_eq_getElem?_getD, List.getD_eq_getElem?_getD, List.getElem?_map, List.getElem?_eq_getElem hi]; rfl
    have HGet : Hid (∀ j, j < l.length → l[j]? = some (l.getD j 0)) := Lib.hid fun j hj => by rw [List.getD_eq_getElem?_getD, List.getElem?_eq_getElem hj]; rfl
    unfold maxLen at h3
    obtain ⟨r, hr⟩ : ∃ r, unfK K l = r := ⟨_, rfl⟩
    have HR := Lib.hid hr
    rw [hr]
    clear hr h5
    by_cases hlt : l.length < K
    · have HL : Hid (r = 0) := Lib.hid (by rw [← HR.out]; exact if_neg (by omega))
      obtain rfl := HL.out
      have hz : (l.length : Int) < (K : Int) := by omega
      clear HR HL
      go_enter Tryz.func103, Tryz.ntmps103
      go_wp2
      go_ret
      exact ⟨rfl, rfl⟩
    · have HL : Hid (r = unfN (l.take K)) := Lib.hid (by rw [← HR.out]; exact if_pos (by omega))
      have hz : ¬ (l.length : Int) < (K : Int) := by omega
      clear HR
      go_enter Tryz.func103, Tryz.ntmps103
      go_wp2
      go_loop [5, 16] (fun n i => ∃ (j m : Nat), n = .int .u64 (m : Int) ∧ i = .int .i64 (j : Int) ∧ j ≤ K ∧ Hid (m = unfN (l.take j) ∧ m < 2 ^ (8 * j)))
        (fun _ i => K - (intOf i).toNat)
      case atStart => exact ⟨0, 0, rfl, rfl, by omega, Lib.hid ⟨rfl, by decide⟩⟩
      case round =>
        obtain ⟨j, m, rfl, rfl, hj, HM⟩ := hrel
        by_cases hjK : j < K
        · have hjl : j < l.length := by omega
          have hc := HC.out j hjl
          have HG : Hid (l[j]? = some (l.getD j 0)) := Lib.hid (HGet.out j hjl)
          generalize l.getD j 0 = c at hc HG
          have hz1 : (j : Int) < (K : Int) := by omega
          have hcb : c.toNat < 256 := c.toNat_lt
          have hE := fix_or m j c (by omega) HM.out.2
          have HMn : Hid (m + c.toNat * 2 ^ (8 * j) = unfN (l.take (j + 1)) ∧ m + c.toNat * 2 ^ (8 * j) < 2 ^ (8 * (j + 1))) := Lib.hid (by
            refine ⟨?_, (fix_bd c m j (by omega) HM.out.2).1⟩
            rw [List.take_add_one, HG.out, Option.toList_some, unfN_snoc, List.length_take, Nat.min_eq_left (by omega), ← HM.out.1])
          obtain ⟨M, hM⟩ : ∃ M, m + c.toNat * 2 ^ (8 * j) = M := ⟨_, rfl⟩
          rw [hM] at hE HMn
          clear HM HG hM
          go_wp2
          refine ⟨⟨j + 1, M, rfl, by go_num, by omega, HMn⟩, by simp [intOf]; omega⟩
        · obtain rfl : j = K := by omega
          have e := HM.out.1
          rw [← HL.out] at e
          subst e
          have hz1 : ¬ (j : Int) < (j : Int) := by omega
          clear HL HM
          go_wp2
          go_ret
          exact ⟨rfl, rfl⟩
end Go.Proofs.YtmmkgopnccfiiaaGreatDoor
/- The walks of varint.Put32, Put64, Get32, Get64, Text, GetText and of the reference's Text8, GetText. -/
namespace Go.Proofs.YtmmkgopnccfiiaaGreatDoor
set_option linter.unusedVariables false
open Go.RowKit
set_option maxHeartbeats 400000 in
theorem put32_any (n : Nat) (hn : n < 2 ^ 32) (w : World) : Calls Tryz.prog 91 #[.int .u32 (n : Int)] w (MkB (fixN 4 n) w) := by
  have HF : Hid (∀ w, Calls Tryz.prog 124 #[.int .u64 (n : Int), .int .i64 4] w (MkB (fixN 4 n) w)) := Lib.hid (putFixed_any n (by omega) 4 (by omega))
  have hn2 : n < 4294967296 := by omega
  go_enter Tryz.func91, Tryz.ntmps91
  go_wp2_with fail
  refine (HF.out _).mono ?_
  rintro e w' ⟨v, rfl, h1, h2⟩
  go_wp2
  go_ret
  exact ⟨_, rfl, h1, h2⟩
set_option maxHeartbeats 400000 in
theorem put64_any (n : Nat) (hn : n < 2 ^ 64) (w : World) : Calls Tryz.prog 90 #[.int .u64 (n : Int)] w (MkB (fixN 8 n) w) := by
  have HF : Hid (∀ w, Calls Tryz.prog 124 #[.int .u64 (n : Int), .int .i64 8] w (MkB (fixN 8 n) w)) := Lib.hid (putFixed_any n hn 8 (by omega))
  go_enter Tryz.func90, Tryz.ntmps90
  go_wp2_with fail
  refine (HF.out _).mono ?_
  rintro e w' ⟨v, rfl, h1, h2⟩
  go_wp2
  go_ret
  exact ⟨_, rfl, h1, h2⟩
theorem unfN_lt : ∀ l : List UInt8, unfN l < 256 ^ l.length
  | [] => by simp [unfN]
  | b :: r => by
    have h1 := unfN_lt r
    have h2 : b.toNat < 256 := b.toNat_lt
    rw [unfN, List.length_cons, Nat.pow_succ]
    omega
theorem unfK_lt4 (l : List UInt8) : unfK 4 l < 4294967296 := by
  unfold unfK
  split
  · have := unfN_lt (l.take 4)
    rw [List.length_take, Nat.min_eq_left (by assumption)] at this
    exact this
  · omega
set_option maxHeartbeats 400000 in
theorem get32_any (v : Value) (l : List UInt8) (w : World) (h : RdB w v l) :
    Calls Tryz.prog 138 #[v] w fun e w' => e = .returned (.int .u32 (unfK 4 l : Int)) ∧ w = w' := by
  have HF : Hid (Calls Tryz.prog 103 #[v, .int .i64 4] w fun e w' => e = .returned (.int .u64 (unfK 4 l : Int)) ∧ w = w') := Lib.hid (getFixed_any v l 4 (by omega) (by omega) w h)
  have hb := unfK_lt4 l
  clear h
  go_enter Tryz.func138, Tryz.ntmps138
  go_wp2_with fail
  refine HF.out.mono ?_
  rintro e w' ⟨rfl, rfl⟩
  go_wp2
  go_ret
  exact ⟨rfl, rfl⟩
set_option maxHeartbeats 400000 in
theorem get64_any (v : Value) (l : List UInt8) (w : World) (h : RdB w v l) :
    Calls Tryz.prog 70 #[v] w fun e w' => e = .returned (.int .u64 (unfK 8 l : Int)) ∧ w = w' := by
  have HF : Hid (Calls Tryz.prog 103 #[v, .int .i64 8] w fun e w' => e = .returned (.int .u64 (unfK 8 l : Int)) ∧ w = w') := Lib.hid (getFixed_any v l 8 (by omega) (by omega) w h)
  clear h
  go_enter Tryz.func70, Tryz.ntmps70
  go_wp2_with fail
  refine HF.out.mono ?_
  rintro e w' ⟨rfl, rfl⟩
  go_wp2
  go_ret
  exact ⟨rfl, rfl⟩
set_option maxHeartbeats 400000 in
theorem text_putL (s : ByteArray) (hs : s.size ≤ 1000000000000) (w : World) : Calls Tryz.prog 122 #[.string s] w (MkB (textE s.data.toList) w) := by
  have HF : Hid (∀ w, Calls Tryz.prog 121 #[.int .u64 (s.size : Int)] w (MkB (putN s.size) w)) := Lib.hid (put_any s.size (by omega))
  have hpl := (putN_len s.size).2
  go_enter Tryz.func122, Tryz.ntmps122
  go_wp2_with fail
  refine (HF.out _).mono ?_
  rintro e w1 ⟨v, rfl, h1, h2⟩
  go_wp2_with (at_builtin; refine wp_appTB (by rfl) _ _ (by rfl) (by rfl) h1 s (by rfl) ?c1 h2.size ?_)
  case c1 => omega
  intro v' w2 hown2 hb2
  go_wp2
  go_ret
  exact ⟨_, rfl, by unfold textE; rw [size_toList]; exact hown2, h2.trans hb2⟩
def txtRes (r : Option (List UInt8 × Nat)) : Value := match r with
  | none => .tuple #[.string ⟨#[]⟩, .int .i64 0]
  | some (s, k) => .tuple #[.string ⟨s.toArray⟩, .int .i64 (k : Int)]
def TxtRes (r : Option (List UInt8 × Nat)) (w : World) (e : Ending) (w' : World) : Prop := e = .returned (txtRes r) ∧ w = w'
/-- 'string(b[k:k+n])' -/
theorem cut_conv {w : World} {b off cap : Nat} {l : List UInt8} (h : RdB w (.slice (some ⟨b, off, none⟩) l.length cap) l) (k n : Nat) (hk : k ≤ l.length) (hn : n ≤ l.length - k) :
    (convert 51 9 (.slice (if cap = k then some ⟨b, off, none⟩ else some ⟨b, off + k, none⟩) n (cap - k))).run Tryz.prog w = .ok (.string ⟨((l.drop k).take n).toArray⟩) w := by
  have H := (RdB.mid h k (k + n) (by omega) (by omega)).text
  rw [List.drop_take, Nat.add_sub_cancel_left] at H
  rw [show (if cap = k then some ⟨b, off, none⟩ else some ⟨b, off + k, none⟩ : Option Addr) = if cap = k then some ⟨b, off, none⟩ else (some (⟨b, off, none⟩ : Addr)).map (·.add k) by simp [add_at]]
  exact H
set_option maxHeartbeats 1000000 in
set_option maxRecDepth 100000 in
theorem gettext_any (v : Value) (l : List UInt8) (w : World) (h : RdB w v l) : Calls Tryz.prog 194 #[v] w (TxtRes (getT l) w) := by
  have HF : Hid (Calls Tryz.prog 139 #[v] w (GetRes (getN l) w)) := Lib.hid (get_any v l w h)
  obtain ⟨r, hr⟩ : ∃ r, getT l = r := ⟨_, rfl⟩
  rw [hr]
  unfold getT at hr
  go_enter Tryz.func194, Tryz.ntmps194
  go_wp2_with fail
  refine HF.out.mono ?_
  rintro e w' ⟨rfl, rfl⟩
  cases hg : getN l with
  | none =>
    rw [hg] at hr
    subst hr
    clear HF hg h
    unfold numRes
    go_wp2
    go_ret2
    exact ⟨rfl, rfl⟩
  | some p =>
    obtain ⟨n, k⟩ := p
    obtain ⟨hk1, hk2, hk10, hn⟩ := getN_le hg
    rw [hg] at hr
    simp only at hr
    have HR := Lib.hid hr
    rcases id h with ⟨a, cap, rfl, e⟩ | ⟨b, off, cap, rfl, h1, h2, h3, h4, h5⟩
    · have : l = [] := by simpa using e
      subst this
      simp at hk2; omega
    · rw [List.length_map] at h1 h2 h ⊢
      unfold maxLen at h3
      clear hr h5 HF hg
      unfold numRes
      have hz0 : ¬ (k : Int) = 0 := by omega
      have hz1 : (k : Int) ≤ (l.length : Int) := by omega
      by_cases hle : n ≤ l.length - k
      · have hL := HR.out
        rw [if_pos hle] at hL
        subst hL
        have hz2 : ¬ (l.length : Int) - (k : Int) < (n : Int) := by omega
        have hcv := cut_conv h k n hk2 hle
        have hzb : ((k : Int) == 0) = false := by simp; omega
        clear HR h
        by_cases hck : cap = k
        · obtain rfl : n = 0 := by omega
          subst hck
          rw [if_pos rfl, Nat.sub_self] at hcv
          go_wp2
          go_ret2
          exact ⟨rfl, rfl⟩
        · rw [if_neg hck] at hcv
          go_wp2
          go_ret2
          exact ⟨rfl, rfl⟩
      · have hL := HR.out
        rw [if_neg hle] at hL
        subst hL
        have hz2 : (l.length : Int) - (k : Int) < (n : Int) := by omega
        have hzb : ((k : Int) == 0) = false := by simp; omega
        clear HR h
        go_wp2
        go_ret2
        exact ⟨rfl, rfl⟩
end Go.Proofs.YtmmkgopnccfiiaaGreatDoor
/- The bytes that are read as a number are those that it is written with. -/
namespace Go.Proofs.YtmmkgopnccfiiaaGreatDoor
set_option linter.unusedVariables false
theorem endN_take : ∀ l : List UInt8, endN l ≠ 0 → endN (l.take (endN l)) = endN l
  | [], h => by simp [endN] at h
  | b :: r, h => by
    by_cases hb : b.toNat < 128
    · have e : endN (b :: r) = 1 := by unfold endN; rw [if_pos hb]
      rw [e, List.take_succ_cons, List.take_zero]
      unfold endN; rw [if_pos hb]
    · have h2 : endN r ≠ 0 := fun e => h (by rw [endN, if_neg hb, if_pos e])
      have e : endN (b :: r) = endN r + 1 := by rw [endN, if_neg hb, if_neg h2]
      rw [e, List.take_succ_cons, endN, if_neg hb, endN_take r h2, if_neg h2]
theorem putF_get : ∀ (L : List UInt8) (f : Nat), L ≠ [] → endN L = L.length → L.length ≤ f + 1 → (1 < L.length → L.getLast? ≠ some 0) → putF f (valN L) = L ∧ (L.getLast? ≠ some 0 → 0 < valN L)
  | [], f, h, _, _, _ => absurd rfl h
  | [b], f, _, he, _, _ => by
    have hb : b.toNat < 128 := by
      by_cases h : b.toNat < 128
      · exact h
      · unfold endN at he; rw [if_neg h] at he; simp [endN] at he
    have hv : valN [b] = b.toNat := by simp [valN]; omega
    refine ⟨?_, fun h => ?_⟩
    · rw [hv]
      cases f with
      | zero => simp [putF]
      | succ f => unfold putF; rw [if_pos hb]; simp
    · rw [hv]
      rcases Nat.eq_zero_or_pos b.toNat with e | e
      · exact absurd (by rw [List.getLast?_singleton]; congr 1; exact UInt8.toNat_inj.1 (by simpa using e)) h
      · exact e
  | b :: c :: r, f, _, he, hl, hlast => by
    have hb : ¬ b.toNat < 128 := fun h => by
      unfold endN at he; rw [if_pos h] at he; simp at he
    have he2 : endN (c :: r) = (c :: r).length := by
      have h := he
      rw [endN, if_neg hb] at h
      split at h
      · simp at h
      · simp only [List.length_cons] at h ⊢; omega
    have hlast2 : (c :: r).getLast? ≠ some 0 := by
      have := hlast (by simp)
      rwa [List.getLast?_cons_cons] at this
    obtain ⟨g, rfl⟩ : ∃ g, f = g + 1 := ⟨f - 1, by simp only [List.length_cons] at hl; omega⟩
    obtain ⟨ih1, ih2⟩ := putF_get (c :: r) g (by simp) he2 (by simpa using hl) (fun _ => hlast2)
    have hp := ih2 hlast2
    have hv : valN (b :: c :: r) = b.toNat % 128 + 128 * valN (c :: r) := rfl
    have hbb := b.toNat_lt
    refine ⟨?_, fun _ => by rw [hv]; omega⟩
    unfold putF
    rw [if_neg (by rw [hv]; omega), hv, show (b.toNat % 128 + 128 * valN (c :: r)) / 128 = valN (c :: r) by omega, ih1, show (b.toNat % 128 + 128 * valN (c :: r)) % 128 + 128 = b.toNat by omega]
    simp
/-- The bytes that are read as a number are those that it is written with. -/
theorem put_get {l : List UInt8} {n k : Nat} (h : getN l = some (n, k)) : l.take k = putN n := by
  unfold getN at h
  split at h
  · cases h
  · rename_i h1
    split at h
    · cases h
    · rename_i h2
      split at h
      · rename_i h3
        have h4 := Option.some.inj h
        obtain ⟨rfl, rfl⟩ := Prod.mk.inj h4
        have hle := endN_le l
        have hlen : (l.take (endN l)).length = endN l := by rw [List.length_take]; omega
        refine ((putF_get (l.take (endN l)) 9 (fun e => ?_) ?_ (by omega) fun h5 => ?_).1).symm
        · rw [e] at hlen; simp at hlen; omega
        · rw [endN_take l (by omega), hlen]
        · rw [hlen] at h5
          rw [List.getLast?_eq_getElem?, hlen, List.getElem?_take, if_pos (by omega)]
          exact fun e => h2 ⟨h5, e⟩
      · cases h
end Go.Proofs.YtmmkgopnccfiiaaGreatDoor
