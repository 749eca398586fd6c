/- Plain mathematics of strict UTF-8: decoding by the project's road and by the reference's road is one function; no program is named here. -/
import Derived.Test.YtmglnpnkkidnnaaDoorBits
namespace Go.Proofs.YtmglnpnkkidnnaaDoor
set_option linter.unusedVariables false

def vldB (c : Int) : Bool := decide (0 ≤ c) && decide (c ≤ 1114111) && !(decide (55296 ≤ c) && decide (c ≤ 57343))
theorem vldB_iff (c : Int) : vldB c = true ↔ (0 ≤ c ∧ c ≤ 1114111 ∧ (c < 55296 ∨ 57343 < c)) := by
  unfold vldB; simp; omega
def szI (c : Int) : Nat := if c < 128 then 1 else if c < 2048 then 2 else if c < 65536 then 3 else 4
/-- the project's lead byte: how many bytes, and what it carries -/
def ldn (b : Int) : Nat := if b < 128 then 1 else if b < 192 then 0 else if b < 224 then 2 else if b < 240 then 3 else if b < 248 then 4 else 0
def ldc (b : Int) : Int := if b < 128 then b else if b < 192 then 0 else if b < 224 then b - 192 else if b < 240 then b - 224 else if b < 248 then b - 240 else 0
/-- the reference's -/
def rdn (b : Int) : Nat := if b < 128 then 1 else if b < 192 then 0 else if b < 224 then 2 else if b < 240 then 3 else 4
def rdc (b : Int) : Int := if b < 128 then b else if b < 192 then 0 else if b < 224 then b - 192 else if b < 240 then b - 224 else b - 240
theorem ldn_le (b : Int) : ldn b ≤ 4 := by unfold ldn; (repeat' split) <;> omega
theorem ldc_bd (b : Int) (h0 : 0 ≤ b) (h1 : b < 256) : 0 ≤ ldc b ∧ ldc b < 128 := by unfold ldc; (repeat' split) <;> omega
theorem rdn_le (b : Int) : rdn b ≤ 4 := by unfold rdn; (repeat' split) <;> omega
theorem rdc_bd (b : Int) (h0 : 0 ≤ b) (h1 : b < 256) : 0 ≤ rdc b ∧ rdc b < 128 := by unfold rdc; (repeat' split) <;> omega

/-- the bytes behind the first one -/
def tl : List UInt8 → Int → Option Int
  | [], c => some c
  | b :: r, c => if b.toNat / 64 = 2 then tl r (c * 64 + (b.toNat : Int) % 64) else none
def Bnd (k : Nat) (x : Int) : Prop := (k = 1 → x < 128) ∧ (k = 2 → x < 8192) ∧ (k = 3 → x < 524288)
theorem bnd_lt {k : Nat} {x : Int} (h : Bnd k x) (h1 : 1 ≤ k) (h2 : k < 4) : x < 524288 := by
  obtain ⟨a, b, c⟩ := h
  have : k = 1 ∨ k = 2 ∨ k = 3 := by omega
  rcases this with e | e | e
  · have := a e; omega
  · have := b e; omega
  · exact c e
theorem bnd_step {k : Nat} {x y : Int} (h : Bnd k x) (h1 : 1 ≤ k) (hy : y < 64) : Bnd (k + 1) (x * 64 + y) := by
  obtain ⟨a, b, c⟩ := h
  refine ⟨fun e => by omega, fun e => ?_, fun e => ?_⟩
  · have := a (by omega); omega
  · have := b (by omega); omega

def firstP (l : List UInt8) : Int × Nat :=
  match l with
  | [] => (-1, 0)
  | b :: r =>
    if ldn b.toNat = 0 ∨ r.length + 1 < ldn b.toNat then (-1, 0) else
    match tl (r.take (ldn b.toNat - 1)) (ldc b.toNat) with
    | none => (-1, 0)
    | some c => if vldB c = true ∧ szI c = ldn b.toNat then (c, ldn b.toNat) else (-1, 0)

def encP (c : Int) : List UInt8 :=
  let B (n : Int) : UInt8 := UInt8.ofNat n.toNat
  if c < 128 then [B c] else
  if c < 2048 then [B (192 + c / 64), B (128 + c % 64)] else
  if c < 65536 then [B (224 + c / 4096), B (128 + c / 64 % 64), B (128 + c % 64)] else
  [B (240 + c / 262144), B (128 + c / 4096 % 64), B (128 + c / 64 % 64), B (128 + c % 64)]

def firstR (l : List UInt8) : Int × Nat :=
  match l with
  | [] => (-1, 0)
  | b :: r =>
    if rdn b.toNat = 0 ∨ r.length + 1 < rdn b.toNat then (-1, 0) else
    match tl (r.take (rdn b.toNat - 1)) (rdc b.toNat) with
    | none => (-1, 0)
    | some c => if vldB c = true ∧ encP c = l.take (rdn b.toNat) then (c, rdn b.toNat) else (-1, 0)

theorem encP_length (c : Int) : (encP c).length = szI c := by unfold encP szI; (repeat' split) <;> rfl

theorem B_eq (n : Int) (b : UInt8) (h : n = b.toNat) : UInt8.ofNat n.toNat = b := by
  subst h; rw [Int.toNat_natCast]; exact UInt8.ofNat_toNat
theorem tl1 (b : UInt8) (c d : Int) (h : tl [b] c = some d) : b.toNat / 64 = 2 ∧ d = c * 64 + (b.toNat : Int) % 64 := by
  unfold tl at h; split at h
  · unfold tl at h; exact ⟨‹_›, by simpa using h.symm⟩
  · simp at h
theorem tl2 (a b : UInt8) (c d : Int) (h : tl [a, b] c = some d) : a.toNat / 64 = 2 ∧ b.toNat / 64 = 2 ∧ d = (c * 64 + (a.toNat : Int) % 64) * 64 + (b.toNat : Int) % 64 := by
  unfold tl at h; split at h
  · obtain ⟨h1, h2⟩ := tl1 _ _ _ h; exact ⟨‹_›, h1, h2⟩
  · simp at h
theorem tl3 (x a b : UInt8) (c d : Int) (h : tl [x, a, b] c = some d) : x.toNat / 64 = 2 ∧ a.toNat / 64 = 2 ∧ b.toNat / 64 = 2 ∧ d = ((c * 64 + (x.toNat : Int) % 64) * 64 + (a.toNat : Int) % 64) * 64 + (b.toNat : Int) % 64 := by
  unfold tl at h; split at h
  · obtain ⟨h1, h2, h3⟩ := tl2 _ _ _ _ h; exact ⟨‹_›, h1, h2, h3⟩
  · simp at h

theorem enc_of_sz {l : List UInt8} {c : Int} (hv : vldB c = true) (h : encP c = l) : szI c = l.length := by rw [← encP_length, h]

/-- The two roads are one. -/
theorem first_eq (l : List UInt8) : firstR l = firstP l := by
  cases l with
  | nil => rfl
  | cons b r =>
    have hb := b.toNat_lt
    unfold firstR firstP
    by_cases h8 : b.toNat < 248
    · have e1 : rdn b.toNat = ldn b.toNat := by unfold rdn ldn; (repeat' split) <;> omega
      have e2 : rdc b.toNat = ldc b.toNat := by unfold rdc ldc; (repeat' split) <;> omega
      simp only [e1, e2]
      by_cases hg : ldn b.toNat = 0 ∨ r.length + 1 < ldn b.toNat
      · rw [if_pos hg, if_pos hg]
      · rw [if_neg hg, if_neg hg]
        cases ht : tl (r.take (ldn b.toNat - 1)) (ldc b.toNat) with
        | none => rfl
        | some c =>
          simp only
          have key : vldB c = true → (encP c = (b :: r).take (ldn b.toNat) ↔ szI c = ldn b.toNat) := by
            intro hv
            constructor
            · intro h
              rw [enc_of_sz hv h, List.length_take, List.length_cons]; omega
            · intro h
              have hn : ldn b.toNat = 1 ∨ ldn b.toNat = 2 ∨ ldn b.toNat = 3 ∨ ldn b.toNat = 4 := by have := ldn_le b.toNat; omega
              rw [vldB_iff] at hv
              rcases hn with e | e | e | e
              · have hc : b.toNat < 128 := by unfold ldn at e; (repeat' split at e) <;> omega
                have h2 : ldc b.toNat = b.toNat := by unfold ldc; rw [if_pos (by omega)]
                rw [e, h2] at ht
                simp [tl] at ht
                rw [e]; unfold encP; rw [if_pos (by omega)]
                simp only [List.take_succ_cons, List.take_zero]
                rw [B_eq c b (by omega)]
              · have hc : 192 ≤ b.toNat ∧ b.toNat < 224 := by unfold ldn at e; (repeat' split at e) <;> omega
                have h2 : ldc b.toNat = b.toNat - 192 := by unfold ldc; rw [if_neg (by omega), if_neg (by omega), if_pos (by omega)]
                rcases r with _ | ⟨a, r⟩
                · simp [e] at hg
                ·
                  rw [e, h2] at ht
                  obtain ⟨g1, g2⟩ := tl1 _ _ _ ht
                  have ha := a.toNat_lt
                  rw [e] at h ⊢
                  have hr : 128 ≤ c ∧ c < 2048 := by unfold szI at h; (repeat' split at h) <;> omega
                  unfold encP; rw [if_neg (by omega), if_pos (by omega)]
                  simp only [List.take_succ_cons, List.take_zero]
                  rw [B_eq _ b (by omega), B_eq _ a (by omega)]
              · have hc : 224 ≤ b.toNat ∧ b.toNat < 240 := by unfold ldn at e; (repeat' split at e) <;> omega
                have h2 : ldc b.toNat = b.toNat - 224 := by unfold ldc; rw [if_neg (by omega), if_neg (by omega), if_neg (by omega), if_pos (by omega)]
                rcases r with _ | ⟨a, _ | ⟨a2, r⟩⟩
                · simp [e] at hg
                · simp [e] at hg
                ·
                  rw [e, h2] at ht
                  obtain ⟨g1, g2, g3⟩ := tl2 _ _ _ _ ht
                  have ha := a.toNat_lt
                  have ha2 := a2.toNat_lt
                  rw [e] at h ⊢
                  have hr : 2048 ≤ c ∧ c < 65536 := by unfold szI at h; (repeat' split at h) <;> omega
                  unfold encP; rw [if_neg (by omega), if_neg (by omega), if_pos (by omega)]
                  simp only [List.take_succ_cons, List.take_zero]
                  rw [B_eq _ b (by omega), B_eq _ a (by omega), B_eq _ a2 (by omega)]
              · have hc : 240 ≤ b.toNat ∧ b.toNat < 248 := by unfold ldn at e; (repeat' split at e) <;> omega
                have h2 : ldc b.toNat = b.toNat - 240 := by unfold ldc; rw [if_neg (by omega), if_neg (by omega), if_neg (by omega), if_neg (by omega), if_pos (by omega)]
                rcases r with _ | ⟨a, _ | ⟨a2, _ | ⟨a3, r⟩⟩⟩
                · simp [e] at hg
                · simp [e] at hg
                · simp [e] at hg
                ·
                  rw [e, h2] at ht
                  obtain ⟨g1, g2, g3, g4⟩ := tl3 _ _ _ _ _ ht
                  have ha := a.toNat_lt
                  have ha2 := a2.toNat_lt
                  have ha3 := a3.toNat_lt
                  rw [e] at h ⊢
                  have hr : 65536 ≤ c := by unfold szI at h; (repeat' split at h) <;> omega
                  unfold encP; rw [if_neg (by omega), if_neg (by omega), if_neg (by omega)]
                  simp only [List.take_succ_cons, List.take_zero]
                  rw [B_eq _ b (by omega), B_eq _ a (by omega), B_eq _ a2 (by omega), B_eq _ a3 (by omega)]
          by_cases hv : vldB c = true
          · simp only [hv, true_and, key hv]
          · simp [hv]
    · have e1 : rdn b.toNat = 4 := by unfold rdn; rw [if_neg (by omega), if_neg (by omega), if_neg (by omega), if_neg (by omega)]
      have e2 : rdc b.toNat = b.toNat - 240 := by unfold rdc; rw [if_neg (by omega), if_neg (by omega), if_neg (by omega), if_neg (by omega)]
      have e3 : ldn b.toNat = 0 := by unfold ldn; rw [if_neg (by omega), if_neg (by omega), if_neg (by omega), if_neg (by omega), if_neg (by omega)]
      simp only [e1, e2, e3, true_or, if_true]
      split
      · rfl
      · rename_i hg
        cases ht : tl (r.take (4 - 1)) ((b.toNat : Int) - 240) with
        | none => rfl
        | some c =>
          simp only
          rw [if_neg]
          rintro ⟨hv, -⟩
          rw [vldB_iff] at hv
          match r, hg, ht with
          | [], hg, _ => simp at hg
          | [_], hg, _ => simp at hg
          | [_, _], hg, _ => simp at hg
          | a :: a2 :: a3 :: r, hg, ht =>
            obtain ⟨g1, g2, g3, g4⟩ := tl3 _ _ _ _ _ ht
            omega
end Go.Proofs.YtmglnpnkkidnnaaDoor
