/- Plain mathematics of the sum CRC-32C: one step shifts a number below 2^32 and undoes itself; bytes in a window of four that differ leave other states. -/
import Derived.Test.YtdnohjhknhekhaaDoorBits
namespace Go.Proofs.YtdnohjhknhekhaaDoor
set_option linter.unusedVariables false
/-- the polynomial's number -/
def cpoly : Nat := 2197175160
def cs1 (c : Nat) : Nat := if c % 2 = 1 then c / 2 ^^^ cpoly else c / 2
def cs8 (c : Nat) : Nat := cs1 (cs1 (cs1 (cs1 (cs1 (cs1 (cs1 (cs1 c)))))))
theorem xor_can {a b p : Nat} (h : a ^^^ p = b ^^^ p) : a = b := by
  have := congrArg (· ^^^ p) h
  simpa [Nat.xor_assoc] using this
theorem xor_canl {a b p : Nat} (h : p ^^^ a = p ^^^ b) : a = b := xor_can (p := p) (by rw [Nat.xor_comm a, Nat.xor_comm b]; exact h)
theorem cpoly_lt : cpoly < 2 ^ 32 := by decide
theorem cs1_lt {c : Nat} (h : c < 2 ^ 32) : cs1 c < 2 ^ 32 := by
  unfold cs1
  split
  · exact Nat.xor_lt_two_pow (by omega) cpoly_lt
  · omega
theorem cs1_bit {c : Nat} (h : c < 2 ^ 32) : (cs1 c).testBit 31 = decide (c % 2 = 1) := by
  have h2 : (c / 2).testBit 31 = false := Nat.testBit_lt_two_pow (by omega)
  unfold cs1
  split
  · rename_i e
    rw [Nat.testBit_xor, h2, decide_eq_true e]
    decide
  · rename_i e
    rw [h2, decide_eq_false e]
theorem cs1_inj {c d : Nat} (hc : c < 2 ^ 32) (hd : d < 2 ^ 32) (h : cs1 c = cs1 d) : c = d := by
  have hb : decide (c % 2 = 1) = decide (d % 2 = 1) := by rw [← cs1_bit hc, ← cs1_bit hd, h]
  unfold cs1 at h
  by_cases e : c % 2 = 1
  · have e2 : d % 2 = 1 := by simpa [e] using hb
    rw [if_pos e, if_pos e2] at h
    have := xor_can h
    omega
  · have e2 : ¬ d % 2 = 1 := by simpa [e] using hb
    rw [if_neg e, if_neg e2] at h
    omega
theorem xor_div2 (a b : Nat) : (a ^^^ b) / 2 = a / 2 ^^^ b / 2 := Nat.xor_div_two
theorem cs1_xor (v y : Nat) : cs1 (v ^^^ 2 * y) = cs1 v ^^^ y := by
  have h1 : (v ^^^ 2 * y) % 2 = v % 2 := by
    have := Nat.xor_mod_two_pow (a := v) (b := 2 * y) (n := 1)
    simpa using this
  have h2 : (v ^^^ 2 * y) / 2 = v / 2 ^^^ y := by rw [xor_div2]; congr 1; omega
  unfold cs1
  rw [h1, h2]
  split
  · rw [Nat.xor_assoc, Nat.xor_comm y, ← Nat.xor_assoc]
  · rfl
theorem cs8_lt {c : Nat} (h : c < 2 ^ 32) : cs8 c < 2 ^ 32 := cs1_lt (cs1_lt (cs1_lt (cs1_lt (cs1_lt (cs1_lt (cs1_lt (cs1_lt h)))))))
theorem cs8_inj {c d : Nat} (hc : c < 2 ^ 32) (hd : d < 2 ^ 32) (h : cs8 c = cs8 d) : c = d := by
  unfold cs8 at h
  have c1 := cs1_lt hc; have c2 := cs1_lt c1; have c3 := cs1_lt c2; have c4 := cs1_lt c3; have c5 := cs1_lt c4; have c6 := cs1_lt c5; have c7 := cs1_lt c6
  have d1 := cs1_lt hd; have d2 := cs1_lt d1; have d3 := cs1_lt d2; have d4 := cs1_lt d3; have d5 := cs1_lt d4; have d6 := cs1_lt d5; have d7 := cs1_lt d6
  exact cs1_inj hc hd (cs1_inj c1 d1 (cs1_inj c2 d2 (cs1_inj c3 d3 (cs1_inj c4 d4 (cs1_inj c5 d5 (cs1_inj c6 d6 (cs1_inj c7 d7 h)))))))
theorem cs8_xor (v y : Nat) : cs8 (v ^^^ 256 * y) = cs8 v ^^^ y := by
  unfold cs8
  rw [show 256 * y = 2 * (128 * y) by omega, cs1_xor, show 128 * y = 2 * (64 * y) by omega, cs1_xor, show 64 * y = 2 * (32 * y) by omega, cs1_xor, show 32 * y = 2 * (16 * y) by omega, cs1_xor,
    show 16 * y = 2 * (8 * y) by omega, cs1_xor, show 8 * y = 2 * (4 * y) by omega, cs1_xor, show 4 * y = 2 * (2 * y) by omega, cs1_xor, cs1_xor]
/-- a state, a byte further -/
def cstep (c : Nat) (b : UInt8) : Nat := cs8 (c ^^^ b.toNat)
def crun (c : Nat) (l : List UInt8) : Nat := l.foldl cstep c
theorem b32 (b : UInt8) : b.toNat < 2 ^ 32 := by have := b.toNat_lt; omega
theorem cstep_lt {c : Nat} (h : c < 2 ^ 32) (b : UInt8) : cstep c b < 2 ^ 32 := cs8_lt (Nat.xor_lt_two_pow h (b32 b))
theorem crun_lt (l : List UInt8) : ∀ {c : Nat}, c < 2 ^ 32 → crun c l < 2 ^ 32 := by
  induction l with
  | nil => intro c h; exact h
  | cons b l ih => intro c h; exact ih (cstep_lt h b)
theorem crun_app (c : Nat) (l m : List UInt8) : crun c (l ++ m) = crun (crun c l) m := List.foldl_append ..
theorem crun_inj (l : List UInt8) : ∀ {c d : Nat}, c < 2 ^ 32 → d < 2 ^ 32 → crun c l = crun d l → c = d := by
  induction l with
  | nil => intro c d _ _ h; exact h
  | cons b l ih =>
    intro c d hc hd h
    have := ih (cstep_lt hc b) (cstep_lt hd b) h
    exact xor_can (cs8_inj (Nat.xor_lt_two_pow hc (b32 b)) (Nat.xor_lt_two_pow hd (b32 b)) this)
/-- bytes as one number, the first lowest -/
def pack : List UInt8 → Nat
  | [] => 0
  | b :: r => b.toNat ^^^ 256 * pack r
theorem pack_lt : ∀ l : List UInt8, pack l < 2 ^ (8 * l.length)
  | [] => by simp [pack]
  | b :: r => by
    have h := pack_lt r
    have hb := b.toNat_lt
    unfold pack
    refine Nat.xor_lt_two_pow ?_ ?_
    · refine Nat.lt_of_lt_of_le hb ?_
      rw [List.length_cons]
      exact Nat.pow_le_pow_right (by omega) (by omega)
    · rw [List.length_cons, show 8 * (r.length + 1) = 8 + 8 * r.length by omega, Nat.pow_add]
      exact Nat.mul_lt_mul_of_pos_left h (by decide)
theorem pack_mod (b : UInt8) (y : Nat) : (b.toNat ^^^ 256 * y) % 256 = b.toNat := by
  have := Nat.xor_mod_two_pow (a := b.toNat) (b := 256 * y) (n := 8)
  have hb := b.toNat_lt
  have h2 : 256 * y % 256 = 0 := by omega
  rw [show (256 : Nat) = 2 ^ 8 from rfl, this]
  rw [show (2 : Nat) ^ 8 = 256 from rfl, h2, Nat.xor_zero]; omega
theorem pack_inj : ∀ {l m : List UInt8}, l.length = m.length → pack l = pack m → l = m
  | [], [], _, _ => rfl
  | [], _ :: _, h, _ => by simp at h
  | _ :: _, [], h, _ => by simp at h
  | a :: l, b :: m, h, e => by
    unfold pack at e
    have h1 : a.toNat = b.toNat := by rw [← pack_mod a (pack l), e, pack_mod]
    rw [h1] at e
    have h2 := xor_canl e
    have h3 : pack l = pack m := by omega
    rw [UInt8.toNat_inj.1 h1, pack_inj (by simpa using h) h3]
/-- so many bytes' worth of shifts -/
def csN : Nat → Nat → Nat
  | 0, c => c
  | n + 1, c => csN n (cs8 c)
theorem csN_inj : ∀ (n : Nat) {c d : Nat}, c < 2 ^ 32 → d < 2 ^ 32 → csN n c = csN n d → c = d
  | 0, _, _, _, _, h => h
  | n + 1, c, d, hc, hd, h => cs8_inj hc hd (csN_inj n (cs8_lt hc) (cs8_lt hd) h)
theorem crun_pack : ∀ (l : List UInt8) (c : Nat), crun c l = csN l.length (c ^^^ pack l)
  | [], c => by simp [crun, csN, pack]
  | b :: r, c => by
    show crun (cstep c b) r = csN r.length (cs8 (c ^^^ (b.toNat ^^^ 256 * pack r)))
    rw [crun_pack r, ← Nat.xor_assoc, cs8_xor]; rfl
/-- Up to four bytes that are not the same leave states that are not. -/
theorem crun_win {c : Nat} (hc : c < 2 ^ 32) {l m : List UInt8} (hl : l.length = m.length) (h4 : l.length ≤ 4) (h : crun c l = crun c m) : l = m := by
  rw [crun_pack, crun_pack, ← hl] at h
  have p1 : pack l < 2 ^ 32 := Nat.lt_of_lt_of_le (pack_lt l) (Nat.pow_le_pow_right (by omega) (by omega))
  have p2 : pack m < 2 ^ 32 := Nat.lt_of_lt_of_le (pack_lt m) (Nat.pow_le_pow_right (by omega) (by omega))
  exact pack_inj hl (xor_canl (csN_inj _ (Nat.xor_lt_two_pow hc p1) (Nat.xor_lt_two_pow hc p2) h))
/-- A text of which a window of up to four bytes was changed has another state. -/
theorem crun_burst {c : Nat} (hc : c < 2 ^ 32) (p l m r : List UInt8) (hl : l.length = m.length) (h4 : l.length ≤ 4) (hne : l ≠ m) : crun c (p ++ l ++ r) ≠ crun c (p ++ m ++ r) := by
  intro h
  rw [crun_app, crun_app, crun_app, crun_app] at h
  have h0 := crun_lt p hc
  exact hne (crun_win h0 hl h4 (crun_inj r (crun_lt l h0) (crun_lt m h0) h))
end Go.Proofs.YtdnohjhknhekhaaDoor
