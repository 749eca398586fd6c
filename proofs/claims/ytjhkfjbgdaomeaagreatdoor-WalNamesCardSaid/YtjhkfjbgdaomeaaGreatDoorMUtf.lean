/- Plain mathematics of strict UTF-8: decoding by the project's road and by the reference's road is one function; no program is named here. -/
import Derived.Test.YtjhkfjbgdaomeaaGreatDoorMBase
import Derived.Laws.BytesArg
import Derived.Handy
import Derived.Deep.QuietTactic
import Derived.BigQuiet
import Derived.Deep.DeepCutAuto
import Derived.Deep.CutBlock
import Derived.Deep.RegionWith
import Derived.RegionTactic
namespace Go.Proofs.YtjhkfjbgdaomeaaGreatDoor
set_option linter.unusedVariables false

def vldB (c : Int) : Bool := decide (0 ≤ c) && decide (c ≤ 1114111) && !(decide (55296 ≤ c) && decide (c ≤ 57343))
theorem vldB_iff (c : Int) : vldB c = true ↔ (0 ≤ c ∧ c ≤ 1114111 ∧ (c < 55296 ∨ 57343 < c)) := by
  unfold vldB; simp; omega
def szI (c : Int) : Nat := if c < 128 then 1 else if c < 2048 then 2 else if c < 65536 then 3 else 4
/-- the project's lead byte: how many bytes, and what it carries -/
def ldn (b : Int) : Nat := if b < 128 then 1 else if b < 192 then 0 else if b < 224 then 2 else if b < 240 then 3 else if b < 248 then 4 else 0
def ldc (b : Int) : Int := if b < 128 then b else if b < 192 then 0 else if b < 224 then b - 192 else if b < 240 then b - 224 else if b < 248 then b - 240 else 0
/-- the reference's -/
def rdn (b : Int) : Nat := if b < 128 then 1 else if b < 192 then 0 else if b < 224 then 2 else if b < 240 then 3 else 4
def rdc (b : Int) : Int := if b < 128 then b else if b < 192 then 0 else if b < 224 then b - 192 else if b < 240 then b - 224 else b - 240
theorem ldn_le (b : Int) : ldn b ≤ 4 := by unfold ldn; (repeat' split) <;> omega
theorem ldc_bd (b : Int) (h0 : 0 ≤ b) (h1 : b < 256) : 0 ≤ ldc b ∧ ldc b < 128 := by unfold ldc; (repeat' split) <;> omega
theorem rdn_le (b : Int) : rdn b ≤ 4 := by unfold rdn; (repeat' split) <;> omega
theorem rdc_bd (b : Int) (h0 : 0 ≤ b) (h1 : b < 256) : 0 ≤ rdc b ∧ rdc b < 128 := by unfold rdc; (repeat' split) <;> omega

/-- the bytes behind the first one -/
def tl : List UInt8 → Int → Option Int
  | [], c => some c
  | b :: r, c => if b.toNat / 64 = 2 then tl r (c * 64 + (b.toNat : Int) % 64) else none
def Bnd (k : Nat) (x : Int) : Prop := (k = 1 → x < 128) ∧ (k = 2 → x < 8192) ∧ (k = 3 → x < 524288)
theorem bnd_lt {k : Nat} {x : Int} (h : Bnd k x) (h1 : 1 ≤ k) (h2 : k < 4) : x < 524288 := by
  obtain ⟨a, b, c⟩ := h
  have : k = 1 ∨ k = 2 ∨ k = 3 := by omega
  rcases this with e | e | e
  · have := a e; omega
  · have := b e; omega
  · exact c e
theorem bnd_step {k : Nat} {x y : Int} (h : Bnd k x) (h1 : 1 ≤ k) (hy : y < 64) : Bnd (k + 1) (x * 64 + y) := by
  obtain ⟨a, b, c⟩ := h
  refine ⟨fun e => by omega, fun e => ?_, fun e => ?_⟩
  · have := a (by omega); omega
  · have := b (by omega); omega

def firstP (l : List UInt8) : Int × Nat :=
  match l with
  | [] => (-1, 0)
  | b :: r =>
    if ldn b.toNat = 0 ∨ r.length + 1 < ldn b.toNat then (-1, 0) else
    match tl (r.take (ldn b.toNat - 1)) (ldc b.toNat) with
    | none => (-1, 0)
    | some c => if vldB c = true ∧ szI c = ldn b.toNat then (c, ldn b.toNat) else (-1, 0)

def encP (c : Int) : List UInt8 :=
  let B (n : Int) : UInt8 := UInt8.ofNat n.toNat
  if c < 128 then [B c] else
  if c < 2048 then [B (192 + c / 64), B (128 + c % 64)] else
  if c < 65536 then [B (224 + c / 4096), B (128 + c / 64 % 64), B (128 + c % 64)] else
  [B (240 + c / 262144), B (128 + c / 4096 % 64), B (128 + c / 64 % 64), B (128 + c % 64)]

def firstR (l : List UInt8) : Int × Nat :=
  match l with
  | [] => (-1, 0)
  | b :: r =>
    if rdn b.toNat = 0 ∨ r.length + 1 < rdn b.toNat then (-1, 0) else
    match tl (r.take (rdn b.toNat - 1)) (rdc b.toNat) with
    | none => (-1, 0)
    | some c => if vldB c = true ∧ encP c = l.take (rdn b.toNat) then (c, rdn b.toNat) else (-1, 0)

theorem encP_length (c : Int) : (encP c).length = szI c := by unfold encP szI; (repeat' split) <;> rfl

theorem B_eq (n : Int) (b : UInt8) (h : n = b.toNat) : UInt8.ofNat n.toNat = b := by
  subst h; rw [Int.toNat_natCast]; exact UInt8.ofNat_toNat
theorem tl1 (b : UInt8) (c d : Int) (h : tl [b] c = some d) : b.toNat / 64 = 2 ∧ d = c * 64 + (b.toNat : Int) % 64 := by
  unfold tl at h; split at h
  · unfold tl at h; exact ⟨‹_›, by simpa using h.symm⟩
  · simp at h
theorem tl2 (a b : UInt8) (c d : Int) (h : tl [a, b] c = some d) : a.toNat / 64 = 2 ∧ b.toNat / 64 = 2 ∧ d = (c * 64 + (a.toNat : Int) % 64) * 64 + (b.toNat : Int) % 64 := by
  unfold tl at h; split at h
  · obtain ⟨h1, h2⟩ := tl1 _ _ _ h; exact ⟨‹_›, h1, h2⟩
  · simp at h
theorem tl3 (x a b : UInt8) (c d : Int) (h : tl [x, a, b] c = some d) : x.toNat / 64 = 2 ∧ a.toNat / 64 = 2 ∧ b.toNat / 64 = 2 ∧ d = ((c * 64 + (x.toNat : Int) % 64) * 64 + (a.toNat : Int) % 64) * 64 + (b.toNat : Int) % 64 := by
  unfold tl at h; split at h
  · obtain ⟨h1, h2, h3⟩ := tl2 _ _ _ _ h; exact ⟨‹_›, h1, h2, h3⟩
  · simp at h

theorem enc_of_sz {l : List UInt8} {c : Int} (hv : vldB c = true) (h : encP c = l) : szI c = l.length := by rw [← encP_length, h]

/-- The two roads are one. -/
theorem first_eq (l : List UInt8) : firstR l = firstP l := by
  cases l with
  | nil => rfl
  | cons b r =>
    have hb := b.toNat_lt
    unfold firstR firstP
    by_cases h8 : b.toNat < 248
    · have e1 : rdn b.toNat = ldn b.toNat := by unfold rdn ldn; (repeat' split) <;> omega
      have e2 : rdc b.toNat = ldc b.toNat := by unfold rdc ldc; (repeat' split) <;> omega
      simp only [e1, e2]
      by_cases hg : ldn b.toNat = 0 ∨ r.length + 1 < ldn b.toNat
      · rw [if_pos hg, if_pos hg]
      · rw [if_neg hg, if_neg hg]
        cases ht : tl (r.take (ldn b.toNat - 1)) (ldc b.toNat) with
        | none => rfl
        | some c =>
          simp only
          have key : vldB c = true → (encP c = (b :: r).take (ldn b.toNat) ↔ szI c = ldn b.toNat) := by
            intro hv
            constructor
            · intro h
              rw [enc_of_sz hv h, List.length_take, List.length_cons]; omega
            · intro h
              have hn : ldn b.toNat = 1 ∨ ldn b.toNat = 2 ∨ ldn b.toNat = 3 ∨ ldn b.toNat = 4 := by have := ldn_le b.toNat; omega
              rw [vldB_iff] at hv
              rcases hn with e | e | e | e
              · have hc : b.toNat < 128 := by unfold ldn at e; (repeat' split at e) <;> omega
                have h2 : ldc b.toNat = b.toNat := by unfold ldc; rw [if_pos (by omega)]
                rw [e, h2] at ht
                simp [tl] at ht
                rw [e]; unfold encP; rw [if_pos (by omega)]
                simp only [List.take_succ_cons, List.take_zero]
                rw [B_eq c b (by omega)]
              · have hc : 192 ≤ b.toNat ∧ b.toNat < 224 := by unfold ldn at e; (repeat' split at e) <;> omega
                have h2 : ldc b.toNat = b.toNat - 192 := by unfold ldc; rw [if_neg (by omega), if_neg (by omega), if_pos (by omega)]
                rcases r with _ | ⟨a, r⟩
                · simp [e] at hg
                ·
                  rw [e, h2] at ht
                  obtain ⟨g1, g2⟩ := tl1 _ _ _ ht
                  have ha := a.toNat_lt
                  rw [e] at h ⊢
                  have hr : 128 ≤ c ∧ c < 2048 := by unfold szI at h; (repeat' split at h) <;> omega
                  unfold encP; rw [if_neg (by omega), if_pos (by omega)]
                  simp only [List.take_succ_cons, List.take_zero]
                  rw [B_eq _ b (by omega), B_eq _ a (by omega)]
              · have hc : 224 ≤ b.toNat ∧ b.toNat < 240 := by unfold ldn at e; (repeat' split at e) <;> omega
                have h2 : ldc b.toNat = b.toNat - 224 := by unfold ldc; rw [if_neg (by omega), if_neg (by omega), if_neg (by omega), if_pos (by omega)]
                rcases r with _ | ⟨a, _ | ⟨a2, r⟩⟩
                · simp [e] at hg
                · simp [e] at hg
                ·
                  rw [e, h2] at ht
                  obtain ⟨g1, g2, g3⟩ := tl2 _ _ _ _ ht
                  have ha := a.toNat_lt
                  have ha2 := a2.toNat_lt
                  rw [e] at h ⊢
                  have hr : 2048 ≤ c ∧ c < 65536 := by unfold szI at h; (repeat' split at h) <;> omega
                  unfold encP; rw [if_neg (by omega), if_neg (by omega), if_pos (by omega)]
                  simp only [List.take_succ_cons, List.take_zero]
                  rw [B_eq _ b (by omega), B_eq _ a (by omega), B_eq _ a2 (by omega)]
              · have hc : 240 ≤ b.toNat ∧ b.toNat < 248 := by unfold ldn at e; (repeat' split at e) <;> omega
                have h2 : ldc b.toNat = b.toNat - 240 := by unfold ldc; rw [if_neg (by omega), if_neg (by omega), if_neg (by omega), if_neg (by omega), if_pos (by omega)]
                rcases r with _ | ⟨a, _ | ⟨a2, _ | ⟨a3, r⟩⟩⟩
                · simp [e] at hg
                · simp [e] at hg
                · simp [e] at hg
                ·
                  rw [e, h2] at ht
                  obtain ⟨g1, g2, g3, g4⟩ := tl3 _ _ _ _ _ ht
                  have ha := a.toNat_lt
                  have ha2 := a2.toNat_lt
                  have ha3 := a3.toNat_lt
                  rw [e] at h ⊢
                  have hr : 65536 ≤ c := by unfold szI at h; (repeat' split at h) <;> omega
                  unfold encP; rw [if_neg (by omega), if_neg (by omega), if_neg (by omega)]
                  simp only [List.take_succ_cons, List.take_zero]
                  rw [B_eq _ b (by omega), B_eq _ a (by omega), B_eq _ a2 (by omega), B_eq _ a3 (by omega)]
          by_cases hv : vldB c = true
          · simp only [hv, true_and, key hv]
          · simp [hv]
    · have e1 : rdn b.toNat = 4 := by unfold rdn; rw [if_neg (by omega), if_neg (by omega), if_neg (by omega), if_neg (by omega)]
      have e2 : rdc b.toNat = b.toNat - 240 := by unfold rdc; rw [if_neg (by omega), if_neg (by omega), if_neg (by omega), if_neg (by omega)]
      have e3 : ldn b.toNat = 0 := by unfold ldn; rw [if_neg (by omega), if_neg (by omega), if_neg (by omega), if_neg (by omega), if_neg (by omega)]
      simp only [e1, e2, e3, true_or, if_true]
      split
      · rfl
      · rename_i hg
        cases ht : tl (r.take (4 - 1)) ((b.toNat : Int) - 240) with
        | none => rfl
        | some c =>
          simp only
          rw [if_neg]
          rintro ⟨hv, -⟩
          rw [vldB_iff] at hv
          match r, hg, ht with
          | [], hg, _ => simp at hg
          | [_], hg, _ => simp at hg
          | [_, _], hg, _ => simp at hg
          | a :: a2 :: a3 :: r, hg, ht =>
            obtain ⟨g1, g2, g3, g4⟩ := tl3 _ _ _ _ _ ht
            omega
end Go.Proofs.YtjhkfjbgdaomeaaGreatDoor
/- The walks of utf.Valid, utf.size, utf.lead, utf.First: what each call answers. -/
namespace Go.Proofs.YtjhkfjbgdaomeaaGreatDoor
set_option linter.unusedVariables false
open Go.RowKit

set_option maxHeartbeats 400000 in
theorem valid_any (c : Int) (w : World) :
    Calls Tryz.prog 135 #[.int .i64 c] w fun e w' => e = .returned (.bool (vldB c)) ∧ w = w' := by
  go_enter Tryz.func135, Tryz.ntmps135
  go_wp2
  all_goals (go_ret; first | exact ⟨rfl, rfl⟩ | exact ⟨ret_bool (by simp only [vldB]; rw [Bool.eq_iff_iff]; simp; omega), rfl⟩)
set_option maxHeartbeats 400000 in
theorem size_any (c : Int) (w : World) :
    Calls Tryz.prog 143 #[.int .i64 c] w fun e w' => e = .returned (.int .i64 (szI c : Nat)) ∧ w = w' := by
  go_enter Tryz.func143, Tryz.ntmps143
  go_wp2
  all_goals (go_ret; exact ⟨ret_int (by unfold szI; (repeat' split) <;> first | rfl | omega), rfl⟩)
set_option maxHeartbeats 400000 in
theorem lead_any (b : Int) (h0 : 0 ≤ b) (h1 : b < 256) (w : World) :
    Calls Tryz.prog 142 #[.int .u8 b] w fun e w' => e = .returned (.tuple #[.int .i64 (ldn b : Nat), .int .i64 (ldc b)]) ∧ w = w' := by
  go_enter Tryz.func142, Tryz.ntmps142
  go_wp2
  all_goals (go_ret2; exact ⟨ret2_int (by unfold ldn; (repeat' split) <;> omega) (by unfold ldc; (repeat' split) <;> omega), rfl⟩)

/-- what the check behind the bytes gives -/
def finP (n : Nat) : Option Int → Int × Nat
  | none => (-1, 0)
  | some c => if vldB c = true ∧ szI c = n then (c, n) else (-1, 0)
theorem firstP_cons (s : ByteArray) (h : 0 < s.size) : firstP s.data.toList =
    (if ldn (s[0]'h).toNat = 0 ∨ s.size < ldn (s[0]'h).toNat then (-1, 0) else
      finP (ldn (s[0]'h).toNat) (tl ((s.data.toList.take (ldn (s[0]'h).toNat)).drop 1) (ldc (s[0]'h).toNat))) := by
  have e := drop_cons s 0 h
  rw [List.drop_zero] at e
  have hl : (s.data.toList.drop (0 + 1)).length + 1 = s.size := by rw [List.length_drop, size_toList]; omega
  rw [e]
  unfold firstP
  simp only [hl]
  by_cases g : ldn (s[0]'h).toNat = 0 ∨ s.size < ldn (s[0]'h).toNat
  · rw [if_pos g, if_pos g]
  · rw [if_neg g, if_neg g]
    obtain ⟨m, hm⟩ : ∃ m, ldn (s[0]'h).toNat = m + 1 := ⟨ldn (s[0]'h).toNat - 1, by omega⟩
    rw [hm, List.take_succ_cons, List.drop_succ_cons, List.drop_zero, Nat.add_sub_cancel]
    cases tl ((s.data.toList.drop (0 + 1)).take m) (ldc (s[0]'h).toNat) <;> rfl

set_option maxHeartbeats 400000 in
theorem first_nil (s : ByteArray) (h : ¬ 0 < s.size) (hs : s.size ≤ maxLen) (w : World) :
    Calls Tryz.prog 134 #[.string s] w fun e w' => e = .returned (.tuple #[.int .i64 (-1), .int .i64 0]) ∧ w = w' := by
  have hemp := isEmpty_yes h
  go_enter Tryz.func134, Tryz.ntmps134
  go_wp2
  go_ret2
  exact ⟨rfl, rfl⟩
set_option maxHeartbeats 400000 in
theorem first_no (s : ByteArray) (h : 0 < s.size) (g : ldn (s[0]'h).toNat = 0 ∨ s.size < ldn (s[0]'h).toNat) (hs : s.size ≤ maxLen) (w : World) :
    Calls Tryz.prog 134 #[.string s] w fun e w' => e = .returned (.tuple #[.int .i64 (-1), .int .i64 0]) ∧ w = w' := by
  have HB : Hid (∀ (w : World), Calls Tryz.prog 142 #[.int .u8 (s[0]'h).toNat] w fun e w' => e = .returned (.tuple #[.int .i64 (ldn (s[0]'h).toNat : Nat), .int .i64 (ldc (s[0]'h).toNat)]) ∧ w = w') := Lib.hid fun w => lead_any _ (byte_bd _).1 (byte_bd _).2 w
  have hn4 := ldn_le (s[0]'h).toNat
  generalize ldn (s[0]'h).toNat = n at *
  generalize ldc (s[0]'h).toNat = c0 at *
  have hemp := isEmpty_no h
  by_cases g0 : n = 0
  · subst g0
    go_enter Tryz.func134, Tryz.ntmps134
    go_wp2_with (go_at_call 142; refine (HB.out _).mono ?_; rintro e w' ⟨rfl, rfl⟩)
    go_ret2
    exact ⟨rfl, rfl⟩
  · have hn0 : ((n : Int) == 0) = false := by simp; omega
    have hnl : decide (s.size < n) = true := by simp; omega
    clear g g0
    go_enter Tryz.func134, Tryz.ntmps134
    go_wp2_with (go_at_call 142; refine (HB.out _).mono ?_; rintro e w' ⟨rfl, rfl⟩)
    go_ret2
    exact ⟨rfl, rfl⟩

theorem ret_fin {v : Int × Nat} {a : Int} {b : Nat} (h : v = (a, b)) : Ending.returned (.tuple #[.int .i64 a, .int .i64 (b : Int)]) = .returned (.tuple #[.int .i64 v.1, .int .i64 (v.2 : Int)]) := by rw [h]
theorem tl_no {s : ByteArray} {n k : Nat} {x : Int} {T : Option Int} (hk : k < n) (hks : k < s.size) (HT : Hid (tl ((s.data.toList.take n).drop k) x = T))
    (hc : (bits BinOp.and IntKind.u8 ((s[k]'hks).toNat) 192 != 128) = true) : finP n T = (-1, 0) := by
  have h := HT.out
  rw [List.drop_take, drop_cons s k hks] at h
  obtain ⟨m, hm⟩ : ∃ m, n - k = m + 1 := ⟨n - k - 1, by omega⟩
  rw [hm, List.take_succ_cons] at h
  unfold tl at h
  rw [byte_and192, bne_iff_ne] at hc
  rw [if_neg (by omega)] at h
  rw [← h]; rfl
theorem tl_yes {s : ByteArray} {n k : Nat} {x : Int} {T : Option Int} (hk : k < n) (hks : k < s.size) (h0 : 0 ≤ x) (h1 : x < 33554432) (HT : Hid (tl ((s.data.toList.take n).drop k) x = T))
    (hc : (bits BinOp.and IntKind.u8 ((s[k]'hks).toNat) 192 != 128) = false) :
    bits BinOp.or IntKind.i64 (x * 64) (wrap64 (bits BinOp.and IntKind.u8 ((s[k]'hks).toNat) 63)) = x * 64 + ((s[k]'hks).toNat % 64 : Nat)
      ∧ tl ((s.data.toList.take n).drop (k + 1)) (x * 64 + ((s[k]'hks).toNat % 64 : Nat)) = T := by
  have h := HT.out
  refine ⟨?_, ?_⟩
  · rw [byte_and63, wrap64_nat _ (by omega), or6 _ _ h0 (by omega) (by omega) (by omega)]
  · rw [List.drop_take, drop_cons s k hks] at h
    obtain ⟨m, hm⟩ : ∃ m, n - k = m + 1 := ⟨n - k - 1, by omega⟩
    rw [hm, List.take_succ_cons] at h
    unfold tl at h
    rw [byte_and192, bne_eq_false_iff_eq] at hc
    rw [if_pos (by omega)] at h
    rw [← h, List.drop_take, show n - (k + 1) = m from by omega]
    congr 1
theorem tl_end {s : ByteArray} {n : Nat} {x : Int} {T : Option Int} (HT : Hid (tl ((s.data.toList.take n).drop n) x = T)) : T = some x := by
  have h := HT.out
  rw [List.drop_of_length_le (by rw [List.length_take]; omega)] at h
  rw [← h]; rfl

set_option maxHeartbeats 400000 in
theorem first_loop (s : ByteArray) (h : 0 < s.size) (hn : ldn (s[0]'h).toNat ≠ 0) (hl : ldn (s[0]'h).toNat ≤ s.size) (hs : s.size ≤ maxLen) (w : World) :
    Calls Tryz.prog 134 #[.string s] w fun e w' =>
      e = .returned (.tuple #[.int .i64 (finP (ldn (s[0]'h).toNat) (tl ((s.data.toList.take (ldn (s[0]'h).toNat)).drop 1) (ldc (s[0]'h).toNat))).1, .int .i64 ((finP (ldn (s[0]'h).toNat) (tl ((s.data.toList.take (ldn (s[0]'h).toNat)).drop 1) (ldc (s[0]'h).toNat))).2 : Nat)]) ∧ w = w' := by
  have HB : Hid (∀ (w : World), Calls Tryz.prog 142 #[.int .u8 (s[0]'h).toNat] w fun e w' => e = .returned (.tuple #[.int .i64 (ldn (s[0]'h).toNat : Nat), .int .i64 (ldc (s[0]'h).toNat)]) ∧ w = w') := Lib.hid fun w => lead_any _ (byte_bd _).1 (byte_bd _).2 w
  have hc := ldc_bd (s[0]'h).toNat (byte_bd _).1 (byte_bd _).2
  have hn4 := ldn_le (s[0]'h).toNat
  generalize ldn (s[0]'h).toNat = n at *
  generalize ldc (s[0]'h).toNat = c0 at *
  have HT0 : Hid (tl ((s.data.toList.take n).drop 1) c0 = tl ((s.data.toList.take n).drop 1) c0) := Lib.hid rfl
  generalize hT : tl ((s.data.toList.take n).drop 1) c0 = T at HT0 ⊢
  have HT1 : Hid (tl ((s.data.toList.take n).drop 1) c0 = T) := Lib.hid hT
  clear hT HT0
  obtain ⟨hc1, hc2⟩ := hc
  have hn0 : ((n : Int) == 0) = false := by simp; omega
  have hemp := isEmpty_no h
  have hn1 : 1 ≤ n := by omega
  clear hn
  go_enter Tryz.func134, Tryz.ntmps134
  go_wp2_with (go_at_call 142; refine (HB.out _).mono ?_; rintro e w' ⟨rfl, rfl⟩)
  go_loop [5, 6] (fun c i => ∃ (k : Nat) (x : Int), c = .int .i64 x ∧ i = .int .i64 k ∧ 1 ≤ k ∧ k ≤ n ∧ 0 ≤ x ∧ x < 33554432 ∧ Bnd k x ∧ Hid (tl ((s.data.toList.take n).drop k) x = T)) (fun _ i => n - (intOf i).toNat)
  case atStart => exact ⟨1, c0, rfl, rfl, by omega, by omega, by omega, by omega, ⟨by omega, by omega, by omega⟩, HT1⟩
  case round =>
    obtain ⟨k, x, rfl, rfl, hk1, hk2, hx1, hx2, hbn, HT⟩ := hrel
    by_cases hlt : k < n
    · have hks : k < s.size := by omega
      go_wp2
      · go_ret2
        exact ⟨ret_fin (tl_no hlt hks HT (by assumption)), rfl⟩
      · go_round
        case rel =>
          obtain ⟨e1, e2⟩ := tl_yes hlt hks hx1 hx2 HT (by assumption)
          have := bnd_lt hbn hk1 (by omega)
          exact ⟨k + 1, x * 64 + ((s[k]'hks).toNat % 64 : Nat), by rw [e1], by go_num, by omega, by omega, by omega, by omega, bnd_step hbn hk1 (by omega), Lib.hid e2⟩
        case measure => simp [intOf]; omega
    · obtain rfl : k = n := by omega
      obtain rfl := tl_end HT
      clear HT HT1
      cases hv : vldB x with
      | false =>
        have HV : Hid (vldB x = false) := Lib.hid hv
        clear hv
        go_wp2_with (go_at_call 135; refine (valid_any _ _).mono ?_; rintro e w' ⟨rfl, rfl⟩; rw [HV.out])
        go_ret2
        exact ⟨ret_fin (by simp [finP, HV.out]), rfl⟩
      | true =>
        have HV : Hid (vldB x = true) := Lib.hid hv
        clear hv
        have HS : Hid (∀ (w : World), Calls Tryz.prog 143 #[.int .i64 x] w fun e w' => e = .returned (.int .i64 (szI x : Nat)) ∧ w = w') := Lib.hid (size_any x)
        have HF : Hid (finP k (some x) = if szI x = k then (x, k) else (-1, 0)) := Lib.hid (by unfold finP; simp only [HV.out, true_and])
        generalize szI x = z at *
        by_cases hz : z = k
        · subst hz
          go_wp2_with (first | (go_at_call 135; refine (valid_any _ _).mono ?_; rintro e w' ⟨rfl, rfl⟩; rw [HV.out]) | (go_at_call 143; refine (HS.out _).mono ?_; rintro e w' ⟨rfl, rfl⟩))
          go_ret2
          exact ⟨ret_fin (by rw [HF.out]; simp), rfl⟩
        · have hz1 : ((z : Int) != (k : Int)) = true := by rw [bne_iff_ne]; omega
          go_wp2_with (first | (go_at_call 135; refine (valid_any _ _).mono ?_; rintro e w' ⟨rfl, rfl⟩; rw [HV.out]) | (go_at_call 143; refine (HS.out _).mono ?_; rintro e w' ⟨rfl, rfl⟩))
          go_ret2
          exact ⟨ret_fin (by rw [HF.out, if_neg hz]), rfl⟩

theorem first_any (s : ByteArray) (hs : s.size ≤ maxLen) (w : World) :
    Calls Tryz.prog 134 #[.string s] w fun e w' => e = .returned (.tuple #[.int .i64 (firstP s.data.toList).1, .int .i64 ((firstP s.data.toList).2 : Nat)]) ∧ w = w' := by
  by_cases h : 0 < s.size
  · rw [firstP_cons s h]
    by_cases g : ldn (s[0]'h).toNat = 0 ∨ s.size < ldn (s[0]'h).toNat
    · rw [if_pos g]; exact first_no s h g hs w
    · rw [if_neg g]; exact first_loop s h (fun e => g (Or.inl e)) (Nat.le_of_not_lt fun e => g (Or.inr e)) hs w
  · rw [toList_nil h]; exact first_nil s h hs w
end Go.Proofs.YtjhkfjbgdaomeaaGreatDoor
/- The walks of the reference's Valid, one, First: what each call answers. -/
namespace Go.Proofs.YtjhkfjbgdaomeaaGreatDoor
set_option linter.unusedVariables false
open Go.RowKit

set_option maxHeartbeats 400000 in
theorem rvalid_any (c : Int) (w : World) :
    Calls Tryz.prog 93 #[.int .i64 c] w fun e w' => e = .returned (.bool (vldB c)) ∧ w = w' := by
  go_enter Tryz.func93, Tryz.ntmps93
  go_wp2
  all_goals (go_ret; first | exact ⟨rfl, rfl⟩ | exact ⟨ret_bool (by simp only [vldB]; rw [Bool.eq_iff_iff]; simp; omega), rfl⟩)
/-- 'string(b)' of a slice of bytes that was just laid. -/
theorem conv_new (w : World) (ns : List Int) (n : Nat) (hn : ns.length = n) : (convert 38 9 (.slice (some ⟨w.heap.size, 0, none⟩) n n)).run Tryz.prog (w.alloc (.cells (ns.map (Value.int .u8)).toArray 5)) = .ok (.string (strOfNums ns)) (w.alloc (.cells (ns.map (Value.int .u8)).toArray 5)) := by
  refine run_convert_bytes_arg _ 38 5 Tryz.underlying38 Tryz.underlying5 w.heap.size 0 n n ns hn ?_ 9 Tryz.underlying9
  intro i hi
  subst hn
  unfold World.cell?
  rw [heap_alloc_new]
  simp [List.getElem?_eq_getElem hi]
theorem conv1 (w : World) (a : Int) : (convert 38 9 (.slice (some ⟨w.heap.size, 0, none⟩) 1 1)).run Tryz.prog (w.alloc (.cells #[.int .u8 a] 5)) = .ok (.string (strOfNums [a])) (w.alloc (.cells #[.int .u8 a] 5)) := conv_new w [a] 1 rfl
theorem conv2 (w : World) (a b : Int) : (convert 38 9 (.slice (some ⟨w.heap.size, 0, none⟩) 2 2)).run Tryz.prog (w.alloc (.cells #[.int .u8 a, .int .u8 b] 5)) = .ok (.string (strOfNums [a, b])) (w.alloc (.cells #[.int .u8 a, .int .u8 b] 5)) := conv_new w [a, b] 2 rfl
theorem conv3 (w : World) (a b c : Int) : (convert 38 9 (.slice (some ⟨w.heap.size, 0, none⟩) 3 3)).run Tryz.prog (w.alloc (.cells #[.int .u8 a, .int .u8 b, .int .u8 c] 5)) = .ok (.string (strOfNums [a, b, c])) (w.alloc (.cells #[.int .u8 a, .int .u8 b, .int .u8 c] 5)) := conv_new w [a, b, c] 3 rfl
theorem conv4 (w : World) (a b c d : Int) : (convert 38 9 (.slice (some ⟨w.heap.size, 0, none⟩) 4 4)).run Tryz.prog (w.alloc (.cells #[.int .u8 a, .int .u8 b, .int .u8 c, .int .u8 d] 5)) = .ok (.string (strOfNums [a, b, c, d])) (w.alloc (.cells #[.int .u8 a, .int .u8 b, .int .u8 c, .int .u8 d] 5)) := conv_new w [a, b, c, d] 4 rfl

theorem ret_str {a b : ByteArray} (h : a = b) : Ending.returned (.string a) = .returned (.string b) := by rw [h]
set_option maxHeartbeats 400000 in
theorem one_any (c : Int) (h0 : 0 ≤ c) (h1 : c ≤ 1114111) (w : World) :
    Calls Tryz.prog 94 #[.int .i64 c] w fun e w' => e = .returned (.string ⟨(encP c).toArray⟩) ∧ Below w.heap.size w w' := by
  have k1 := conv1 w
  have k2 := conv2 w
  have k3 := conv3 w
  have k4 := conv4 w
  go_enter Tryz.func94, Tryz.ntmps94
  go_wp2
  all_goals (go_ret; refine ⟨ret_str ?_, (Below.refl _ _).alloc (Nat.le_refl _) _⟩; unfold encP; (repeat' split) <;> first | rfl | omega)
end Go.Proofs.YtjhkfjbgdaomeaaGreatDoor
/- The walk of the reference's First. -/
namespace Go.Proofs.YtjhkfjbgdaomeaaGreatDoor
set_option linter.unusedVariables false
open Go.RowKit

set_option maxHeartbeats 400000 in
set_option maxRecDepth 100000 in
theorem rfirst_nil (s : ByteArray) (h : ¬ 0 < s.size) (hs : s.size ≤ maxLen) (w : World) :
    Calls Tryz.prog 92 #[.string s] w fun e w' => e = .returned (.tuple #[.int .i64 (-1), .int .i64 0]) ∧ Below w.heap.size w w' := by
  have hemp := isEmpty_yes h
  go_enter Tryz.func92, Tryz.ntmps92
  go_wp2
  go_ret2
  exact ⟨rfl, Below.refl _ _⟩
/-- what the reference's check behind the bytes gives -/
def finR (l : List UInt8) (n : Nat) : Option Int → Int × Nat
  | none => (-1, 0)
  | some c => if vldB c = true ∧ encP c = l.take n then (c, n) else (-1, 0)
theorem firstR_cons (s : ByteArray) (h : 0 < s.size) : firstR s.data.toList =
    (if rdn (s[0]'h).toNat = 0 ∨ s.size < rdn (s[0]'h).toNat then (-1, 0) else
      finR s.data.toList (rdn (s[0]'h).toNat) (tl ((s.data.toList.take (rdn (s[0]'h).toNat)).drop 1) (rdc (s[0]'h).toNat))) := by
  have e := drop_cons s 0 h
  rw [List.drop_zero] at e
  have hl : (s.data.toList.drop (0 + 1)).length + 1 = s.size := by rw [List.length_drop, size_toList]; omega
  rw [e]
  unfold firstR
  simp only [hl]
  by_cases g : rdn (s[0]'h).toNat = 0 ∨ s.size < rdn (s[0]'h).toNat
  · rw [if_pos g, if_pos g]
  · rw [if_neg g, if_neg g]
    obtain ⟨m, hm⟩ : ∃ m, rdn (s[0]'h).toNat = m + 1 := ⟨rdn (s[0]'h).toNat - 1, by omega⟩
    rw [hm, List.take_succ_cons, List.drop_succ_cons, List.drop_zero, Nat.add_sub_cancel]
    cases tl ((s.data.toList.drop (0 + 1)).take m) (rdc (s[0]'h).toNat) <;> rfl
theorem rtl_no {s : ByteArray} {l : List UInt8} {n k : Nat} {x : Int} {T : Option Int} (hk : k < n) (hks : k < s.size) (HT : Hid (tl ((s.data.toList.take n).drop k) x = T))
    (hc : (((s[k]'hks).toNat : Int) / 64 % 256 != 2) = true) : finR l n T = (-1, 0) := by
  have h := HT.out
  have hb := byte_nat (s[k]'hks)
  rw [List.drop_take, drop_cons s k hks] at h
  obtain ⟨m, hm⟩ : ∃ m, n - k = m + 1 := ⟨n - k - 1, by omega⟩
  rw [hm, List.take_succ_cons] at h
  unfold tl at h
  rw [bne_iff_ne] at hc
  rw [if_neg (by omega)] at h
  rw [← h]; rfl
theorem rtl_yes {s : ByteArray} {n k : Nat} {x : Int} {T : Option Int} (hk : k < n) (hks : k < s.size) (HT : Hid (tl ((s.data.toList.take n).drop k) x = T))
    (hc : (((s[k]'hks).toNat : Int) / 64 % 256 != 2) = false) :
    tl ((s.data.toList.take n).drop (k + 1)) (x * 64 + ((s[k]'hks).toNat : Int) % 64) = T := by
  have h := HT.out
  have hb := byte_nat (s[k]'hks)
  rw [List.drop_take, drop_cons s k hks] at h
  obtain ⟨m, hm⟩ : ∃ m, n - k = m + 1 := ⟨n - k - 1, by omega⟩
  rw [hm, List.take_succ_cons] at h
  unfold tl at h
  rw [bne_eq_false_iff_eq] at hc
  rw [if_pos (by omega)] at h
  rw [← h, List.drop_take, show n - (k + 1) = m from by omega]
theorem str_eq (l : List UInt8) (s : ByteArray) (k : Nat) : (l == (s.extract 0 k).toList) = decide (l = s.data.toList.take k) := by
  rw [Lib.toList_data, Lib.extract_data, List.drop_zero, Nat.sub_zero, Bool.eq_iff_iff, beq_iff_eq, decide_eq_true_eq]
theorem int_eq {a b : Int} (h : a = b) : Value.int .i64 a = .int .i64 b := by rw [h]
theorem rd_of (b : UInt8) : wrap64 (b.toNat : Int) = b.toNat := wrap64_nat _ (by have := byte_nat b; omega)
theorem rd4 {b : UInt8} (h : 240 ≤ wrap64 (b.toNat : Int)) : (4 : Int) = (rdn b.toNat : Nat) ∧ wrap64 (wrap64 (b.toNat : Int) - 240) = rdc b.toNat := by
  rw [rd_of] at *
  have := byte_nat b
  exact ⟨by unfold rdn; (repeat' split) <;> omega, by rw [IntWalk.wrap64_in _ (by omega)]; unfold rdc; (repeat' split) <;> omega⟩
theorem rd3 {b : UInt8} (h1 : wrap64 (b.toNat : Int) < 240) (h : 224 ≤ wrap64 (b.toNat : Int)) : (3 : Int) = (rdn b.toNat : Nat) ∧ wrap64 (b.toNat : Int) - 224 = rdc b.toNat := by
  rw [rd_of] at *
  exact ⟨by unfold rdn; (repeat' split) <;> omega, by unfold rdc; (repeat' split) <;> omega⟩
theorem rd2 {b : UInt8} (h1 : wrap64 (b.toNat : Int) < 224) (h : 192 ≤ wrap64 (b.toNat : Int)) : (2 : Int) = (rdn b.toNat : Nat) ∧ wrap64 (b.toNat : Int) - 192 = rdc b.toNat := by
  rw [rd_of] at *
  exact ⟨by unfold rdn; (repeat' split) <;> omega, by unfold rdc; (repeat' split) <;> omega⟩
theorem rd0 {b : UInt8} (h1 : wrap64 (b.toNat : Int) < 192) (h : 128 ≤ wrap64 (b.toNat : Int)) : rdn b.toNat = 0 := by
  rw [rd_of] at *
  unfold rdn; (repeat' split) <;> omega
theorem rd1 {b : UInt8} (h1 : wrap64 (b.toNat : Int) < 128) : (1 : Int) = (rdn b.toNat : Nat) ∧ wrap64 (b.toNat : Int) = rdc b.toNat := by
  rw [rd_of] at *
  exact ⟨by unfold rdn; (repeat' split) <;> omega, by unfold rdc; (repeat' split) <;> omega⟩
set_option maxHeartbeats 400000 in
set_option maxRecDepth 100000 in
theorem rfirst_loop (s : ByteArray) (h : 0 < s.size) (hn : rdn (s[0]'h).toNat ≠ 0) (hl : rdn (s[0]'h).toNat ≤ s.size) (v : Int × Nat) (hv : finR s.data.toList (rdn (s[0]'h).toNat) (tl ((s.data.toList.take (rdn (s[0]'h).toNat)).drop 1) (rdc (s[0]'h).toNat)) = v) (w : World) :
    Calls Tryz.prog 92 #[.string s] w fun e w' => e = .returned (.tuple #[.int .i64 v.1, .int .i64 (v.2 : Nat)]) ∧ Below w.heap.size w w' := by
  have HR := Lib.hid hv
  clear hv
  have hemp := isEmpty_no h
  have HN := Lib.hid hn
  have HL := Lib.hid hl
  clear hn hl
  go_enter Tryz.func92, Tryz.ntmps92
  go_wp2
  go_quiet (fail)
  go_upto_block 0 with fail
  go_cut [4, 5] (fun n c wx => n = .int .i64 (rdn (s[0]'h).toNat : Nat) ∧ c = .int .i64 (rdc (s[0]'h).toNat) ∧ wx = w.drewN nq)
  case first =>
    go_wp2_with fail
    · go_meet; obtain ⟨e1, e2⟩ := rd4 (by assumption); exact ⟨int_eq e1, int_eq e2, rfl⟩
    · go_meet; obtain ⟨e1, e2⟩ := rd3 (by assumption) (by assumption); exact ⟨int_eq e1, int_eq e2, rfl⟩
    · go_meet; obtain ⟨e1, e2⟩ := rd2 (by assumption) (by assumption); exact ⟨int_eq e1, int_eq e2, rfl⟩
    · exact absurd (rd0 (by assumption) (by assumption)) HN.out
    · go_meet; obtain ⟨e1, e2⟩ := rd1 (by assumption); exact ⟨int_eq e1, int_eq e2, rfl⟩
  case rest =>
    obtain ⟨rfl, rfl, rfl⟩ := hcut
    have hc := rdc_bd (s[0]'h).toNat (byte_bd _).1 (byte_bd _).2
    have hn4 := rdn_le (s[0]'h).toNat
    generalize rdn (s[0]'h).toNat = n at *
    generalize rdc (s[0]'h).toNat = c0 at *
    obtain ⟨hc1, hc2⟩ := hc
    have hn1 : 1 ≤ n := by have := HN.out; omega
    have hl := HL.out
    clear HN HL
    generalize hT : tl ((s.data.toList.take n).drop 1) c0 = T at HR
    have HT1 : Hid (tl ((s.data.toList.take n).drop 1) c0 = T) := Lib.hid hT
    clear hT
    go_wp2
    go_loop [5, 6] (fun c i => ∃ (k : Nat) (x : Int), c = .int .i64 x ∧ i = .int .i64 k ∧ 1 ≤ k ∧ k ≤ n ∧ 0 ≤ x ∧ x < 33554432 ∧ Bnd k x ∧ Hid (tl ((s.data.toList.take n).drop k) x = T)) (fun _ i => n - (intOf i).toNat)
    case atStart => exact ⟨1, c0, rfl, rfl, by omega, by omega, by omega, by omega, ⟨by omega, by omega, by omega⟩, HT1⟩
    case round =>
      obtain ⟨k, x, rfl, rfl, hk1, hk2, hx1, hx2, hbn, HT⟩ := hrel
      by_cases hlt : k < n
      · have hks : k < s.size := by omega
        go_wp2
        · go_ret2
          exact ⟨ret_fin (by rw [← HR.out]; exact rtl_no hlt hks HT (by assumption)), below_drewN (Below.refl _ _) _⟩
        · go_round
          case rel =>
            have e2 := rtl_yes hlt hks HT (by assumption)
            have hbl := bnd_lt hbn hk1 (by omega)
            have hy := byte_bd (s[k]'hks)
            exact ⟨k + 1, x * 64 + ((s[k]'hks).toNat : Int) % 64, rfl, by go_num, by omega, by omega, by omega, by omega, bnd_step hbn hk1 (by omega), Lib.hid e2⟩
          case measure => simp [intOf]; omega
      · obtain rfl : k = n := by omega
        obtain rfl := tl_end HT
        clear HT HT1
        have hq : Below w.heap.size w (w.drewN nq) := below_drewN (Below.refl _ _) _
        generalize w.drewN nq = wq at *
        go_upto_region 20 with fail
        go_cut [62] (fun t wx => t = .bool (!(vldB x && decide (encP x = s.data.toList.take k))) ∧ Below w.heap.size w wx)
        case first =>
          cases hv : vldB x with
          | false =>
            have HV : Hid (vldB x = false) := Lib.hid hv
            clear hv
            go_quiet ((go_at_call 93; exact Calls.quiet_of_same ((rvalid_any _ _).mono fun e w' hh => ⟨by rw [hh.1, HV.out], hh.2.symm⟩)))
            go_wp2_with fail
            go_meet
            exact ⟨by rw [HV.out]; rfl, below_drewN hq _⟩
          | true =>
            have HV : Hid (vldB x = true) := Lib.hid hv
            have HO : Hid (∀ w, Calls Tryz.prog 94 #[.int .i64 x] w fun e w' => e = .returned (.string ⟨(encP x).toArray⟩) ∧ Below w.heap.size w w') := Lib.hid (one_any x ((vldB_iff x).1 hv).1 ((vldB_iff x).1 hv).2.1)
            clear hv
            go_region_with (first | (go_at_call 93; refine (rvalid_any _ _).mono ?_; rintro e w' ⟨rfl, rfl⟩; rw [HV.out]) | (go_at_call 94; refine (HO.out _).mono ?_; rintro e w1 ⟨rfl, hb1⟩))
            go_wp2_with fail
            go_meet
            exact ⟨by rw [HV.out, Bool.true_and, str_eq], hq.drew.trans (hb1.mono hq.size)⟩
        case rest =>
          obtain ⟨rfl, hbx⟩ := hcut
          have HF : Hid (v = if (vldB x && decide (encP x = s.data.toList.take k)) = true then (x, k) else (-1, 0)) := Lib.hid (by rw [← HR.out]; simp only [finR, Bool.and_eq_true, decide_eq_true_eq])
          generalize (vldB x && decide (encP x = s.data.toList.take k)) = q at *
          cases q with
          | true =>
            go_wp2
            go_ret2
            exact ⟨ret_fin (by rw [HF.out]; simp), hbx⟩
          | false =>
            go_wp2
            go_ret2
            exact ⟨ret_fin (by rw [HF.out]; simp), hbx⟩
set_option maxHeartbeats 400000 in
set_option maxRecDepth 100000 in
theorem rfirst_no (s : ByteArray) (h : 0 < s.size) (g : rdn (s[0]'h).toNat = 0 ∨ s.size < rdn (s[0]'h).toNat) (w : World) :
    Calls Tryz.prog 92 #[.string s] w fun e w' => e = .returned (.tuple #[.int .i64 (-1), .int .i64 0]) ∧ Below w.heap.size w w' := by
  have hemp := isEmpty_no h
  have HG := Lib.hid g
  clear g
  go_enter Tryz.func92, Tryz.ntmps92
  go_wp2
  go_quiet (fail)
  go_upto_block 0 with fail
  go_cut [4, 5] (fun n c wx => n = .int .i64 (rdn (s[0]'h).toNat : Nat) ∧ rdn (s[0]'h).toNat ≠ 0 ∧ c = .int .i64 (rdc (s[0]'h).toNat) ∧ wx = w.drewN nq)
  case first =>
    go_wp2_with fail
    · go_meet; obtain ⟨e1, e2⟩ := rd4 (by assumption); exact ⟨int_eq e1, (by omega), int_eq e2, rfl⟩
    · go_meet; obtain ⟨e1, e2⟩ := rd3 (by assumption) (by assumption); exact ⟨int_eq e1, (by omega), int_eq e2, rfl⟩
    · go_meet; obtain ⟨e1, e2⟩ := rd2 (by assumption) (by assumption); exact ⟨int_eq e1, (by omega), int_eq e2, rfl⟩
    · go_ret2
      exact ⟨rfl, below_drewN (Below.refl _ _) _⟩
    · go_meet; obtain ⟨e1, e2⟩ := rd1 (by assumption); exact ⟨int_eq e1, (by omega), int_eq e2, rfl⟩
  case rest =>
    obtain ⟨rfl, hn0, rfl, rfl⟩ := hcut
    generalize rdn (s[0]'h).toNat = n at *
    generalize rdc (s[0]'h).toNat = c0 at *
    have hl : s.size < n := by have := HG.out; omega
    have hd : decide (s.size < n) = true := by simp; omega
    clear HG
    go_wp2
    go_ret2
    exact ⟨rfl, below_drewN (Below.refl _ _) _⟩
theorem rfirst_any (s : ByteArray) (hs : s.size ≤ maxLen) (w : World) :
    Calls Tryz.prog 92 #[.string s] w fun e w' => e = .returned (.tuple #[.int .i64 (firstP s.data.toList).1, .int .i64 ((firstP s.data.toList).2 : Nat)]) ∧ Below w.heap.size w w' := by
  rw [← first_eq]
  by_cases h : 0 < s.size
  · rw [firstR_cons s h]
    by_cases g : rdn (s[0]'h).toNat = 0 ∨ s.size < rdn (s[0]'h).toNat
    · rw [if_pos g]; exact rfirst_no s h g w
    · rw [if_neg g]; exact rfirst_loop s h (fun e => g (Or.inl e)) (Nat.le_of_not_lt fun e => g (Or.inr e)) _ rfl w
  · rw [toList_nil h]; exact rfirst_nil s h hs w
end Go.Proofs.YtjhkfjbgdaomeaaGreatDoor
/- The walks of utf.Read and of the reference's Read: both answer what one plain function gives. -/
namespace Go.Proofs.YtjhkfjbgdaomeaaGreatDoor
set_option linter.unusedVariables false
open Go.RowKit

theorem firstP_le (l : List UInt8) : (firstP l).2 ≤ l.length := by
  cases l with
  | nil => exact Nat.le_refl _
  | cons b r =>
    unfold firstP
    simp only
    by_cases g : ldn b.toNat = 0 ∨ r.length + 1 < ldn b.toNat
    · rw [if_pos g]; exact Nat.zero_le _
    · rw [if_neg g]
      cases tl (r.take (ldn b.toNat - 1)) (ldc b.toNat) with
      | none => exact Nat.zero_le _
      | some c =>
        simp only
        split
        · simp only [List.length_cons]; omega
        · exact Nat.zero_le _
def readF : Nat → List UInt8 → Option (List Int)
  | 0, _ => some []
  | f + 1, l => if l.length = 0 then some [] else if (firstP l).2 = 0 then none else (readF f (l.drop (firstP l).2)).map ((firstP l).1 :: ·)
theorem readF_more (f : Nat) : ∀ (g : Nat) (l : List UInt8), l.length ≤ f → f ≤ g → readF g l = readF f l := by
  induction f with
  | zero =>
    intro g l h _
    have : l.length = 0 := by omega
    cases g with
    | zero => rfl
    | succ g => unfold readF; rw [if_pos this]
  | succ f ih =>
    intro g l h hg
    obtain ⟨g, rfl⟩ : ∃ k, g = k + 1 := ⟨g - 1, by omega⟩
    unfold readF
    by_cases h0 : l.length = 0
    · rw [if_pos h0, if_pos h0]
    · rw [if_neg h0, if_neg h0]
      by_cases h1 : (firstP l).2 = 0
      · rw [if_pos h1, if_pos h1]
      · rw [if_neg h1, if_neg h1, ih g (l.drop (firstP l).2) (by rw [List.length_drop]; omega) (by omega)]
/-- All characters of some bytes, or none. -/
def readP (l : List UInt8) : Option (List Int) := readF l.length l
theorem readP_nil : readP [] = some [] := rfl
theorem readP_step {l : List UInt8} (h : 0 < l.length) : readP l = if (firstP l).2 = 0 then none else (readP (l.drop (firstP l).2)).map ((firstP l).1 :: ·) := by
  obtain ⟨f, hf⟩ : ∃ k, l.length = k + 1 := ⟨l.length - 1, by omega⟩
  unfold readP
  rw [hf]
  rw [readF, if_neg (by omega)]
  by_cases h1 : (firstP l).2 = 0
  · rw [if_pos h1, if_pos h1]
  · rw [if_neg h1, if_neg h1, readF_more (l.drop (firstP l).2).length f _ (Nat.le_refl _) (by rw [List.length_drop]; omega)]

def ReadRes (w : World) (r : Option (List Int)) (e : Ending) (w' : World) : Prop :=
  Below w.heap.size w w' ∧ match r with
  | none => e = .returned (.tuple #[.slice none 0 0, .bool false])
  | some xs => ∃ v, e = .returned (.tuple #[v, .bool true]) ∧ OwnV 3 w.heap.size w' v (xs.map (Value.int .i64))

theorem strLen {s : ByteArray} {n : Nat} (h : n ≤ s.size) : (s.extract n s.size).size = s.size - n := by rw [ByteArray.size_extract]; omega
theorem rest_data (s : ByteArray) (n : Nat) : (s.extract n s.size).data.toList = s.data.toList.drop n := by
  rw [Lib.extract_data, List.take_of_length_le]; rw [List.length_drop, size_toList]; omega

/-- What a round of either loop does. -/
theorem read_none {r : Option (List Int)} {t : ByteArray} {xs : List Int} (ht : 0 < t.size) (H : Hid (r = (readP t.data.toList).map (xs ++ ·))) (h : (firstP t.data.toList).2 = 0) : r = none := by
  rw [H.out, readP_step (by rw [size_toList]; exact ht), if_pos h]; rfl
theorem read_more {r : Option (List Int)} {t : ByteArray} {xs : List Int} (ht : 0 < t.size) (H : Hid (r = (readP t.data.toList).map (xs ++ ·))) (h : (firstP t.data.toList).2 ≠ 0) :
    Hid (r = (readP (t.extract (firstP t.data.toList).2 t.size).data.toList).map ((xs ++ [(firstP t.data.toList).1]) ++ ·)) := by
  refine Lib.hid ?_
  rw [H.out, readP_step (by rw [size_toList]; exact ht), if_neg h, rest_data, Option.map_map]
  congr 1; funext l; simp
theorem read_end {r : Option (List Int)} {t : ByteArray} {xs : List Int} (ht : ¬ 0 < t.size) (H : Hid (r = (readP t.data.toList).map (xs ++ ·))) : r = some xs := by
  rw [H.out, toList_nil ht]; simp [readP_nil]
theorem map_snoc (xs : List Int) (c : Int) : (xs ++ [c]).map (Value.int .i64) = xs.map (Value.int .i64) ++ [.int .i64 c] := by simp

set_option maxHeartbeats 1000000 in
set_option maxRecDepth 100000 in
theorem read_any (s : ByteArray) (hs : s.size ≤ 1000000) (w : World) :
    Calls Tryz.prog 123 #[.string s] w (ReadRes w (readP s.data.toList)) := by
  obtain ⟨r, hr⟩ : ∃ r, readP s.data.toList = r := ⟨_, rfl⟩
  have HR : Hid (r = (readP s.data.toList).map ([] ++ ·)) := Lib.hid (by rw [hr]; simp)
  rw [hr]
  clear hr
  go_enter Tryz.func123, Tryz.ntmps123
  go_wp2
  go_loopw [0, 4] (fun st l wr => ∃ (t : ByteArray) (xs : List Int), st = .string t ∧ OwnV 3 w.heap.size wr l (xs.map (Value.int .i64)) ∧ Below w.heap.size w wr ∧ xs.length + t.size ≤ 1000000 ∧ Hid (r = (readP t.data.toList).map (xs ++ ·)))
    (fun st _ _ => match st with | .string t => t.size | _ => 0)
  case atStart => exact ⟨s, [], rfl, OwnV.nil _ _ _, Below.refl _ _, by simp; omega, HR⟩
  case round =>
    obtain ⟨t, xs, rfl, hown, hbel, hlen, HRt⟩ := hrel
    have hwr := hbel.size
    have hwr0 := Below.refl wr.heap.size wr
    by_cases ht : 0 < t.size
    · have htd : decide (0 < (t.size : Int)) = true := by simp; omega
      have HC : Hid (∀ w', Calls Tryz.prog 134 #[.string t] w' fun e w'' => e = .returned (.tuple #[.int .i64 (firstP t.data.toList).1, .int .i64 ((firstP t.data.toList).2 : Nat)]) ∧ w' = w'') := Lib.hid fun w' => first_any t (by unfold maxLen; omega) w'
      have hle := firstP_le t.data.toList
      rw [size_toList] at hle
      by_cases hn : (firstP t.data.toList).2 = 0
      · obtain rfl := read_none ht HRt hn
        have HC2 : Hid (∀ w', Calls Tryz.prog 134 #[.string t] w' fun e w'' => e = .returned (.tuple #[.int .i64 (firstP t.data.toList).1, .int .i64 0]) ∧ w' = w'') := Lib.hid fun w' => by have := HC.out w'; rw [hn] at this; exact this
        generalize (firstP t.data.toList).1 = c at HC2
        clear HC HRt hle hn
        go_wp2_with (go_at_call 134; refine (HC2.out _).mono ?_; rintro e w' ⟨rfl, rfl⟩)
        go_ret2
        exact ⟨hbel, rfl⟩
      · have HRn := read_more ht HRt hn
        generalize (firstP t.data.toList).1 = c at *
        generalize (firstP t.data.toList).2 = n at *
        have hn0 : ((n : Int) == 0) = false := by simp; omega
        have hn1 : 1 ≤ n := Nat.pos_of_ne_zero hn
        clear HRt hn
        go_upto_region 6 with (go_at_call 134; refine (HC.out _).mono ?_; rintro e w' ⟨rfl, rfl⟩)
        go_wp2_with (at_builtin; refine wp_app elem_int _ _ (by rfl) (by rfl) (by rfl) hown [_] 1 rfl (by rfl) ?c1 ?c2 ?c3 ?c4 (by decide) ?_)
        case c1 => simp [Value.oneCell']
        case c2 => simp; omega
        case c3 => simp [maxLen]; omega
        case c4 => exact hwr
        intro v' w2 hown2 hbel2 hnn
        go_wp2
        go_roundw
        case rel => exact ⟨t.extract n t.size, xs ++ [c], rfl, by rw [map_snoc]; exact hown2, hbel.trans hbel2, by rw [List.length_append, strLen hle]; simp; omega, HRn⟩
        case measure => simp only [strLen hle]; omega
    · have htd : decide (0 < (t.size : Int)) = false := by rw [decide_eq_false_iff_not]; omega
      obtain rfl := read_end ht HRt
      clear HRt
      go_wp2
      go_ret2
      exact ⟨hbel, _, rfl, hown⟩
set_option maxHeartbeats 1000000 in
set_option maxRecDepth 100000 in
theorem rread_any (s : ByteArray) (hs : s.size ≤ 1000000) (w : World) :
    Calls Tryz.prog 73 #[.string s] w (ReadRes w (readP s.data.toList)) := by
  obtain ⟨r, hr⟩ : ∃ r, readP s.data.toList = r := ⟨_, rfl⟩
  have HR : Hid (r = (readP s.data.toList).map ([] ++ ·)) := Lib.hid (by rw [hr]; simp)
  rw [hr]
  clear hr
  go_enter Tryz.func73, Tryz.ntmps73
  go_wp2
  go_loopw [0, 4] (fun st l wr => ∃ (t : ByteArray) (xs : List Int), st = .string t ∧ OwnV 3 w.heap.size wr l (xs.map (Value.int .i64)) ∧ Below w.heap.size w wr ∧ xs.length + t.size ≤ 1000000 ∧ Hid (r = (readP t.data.toList).map (xs ++ ·)))
    (fun st _ _ => match st with | .string t => t.size | _ => 0)
  case atStart => exact ⟨s, [], rfl, OwnV.nil _ _ _, Below.refl _ _, by simp; omega, HR⟩
  case round =>
    obtain ⟨t, xs, rfl, hown, hbel, hlen, HRt⟩ := hrel
    have hwr := hbel.size
    have hwr0 := Below.refl wr.heap.size wr
    by_cases ht : 0 < t.size
    · have htd := isEmpty_no ht
      have HC : Hid (∀ w', Calls Tryz.prog 92 #[.string t] w' fun e w'' => e = .returned (.tuple #[.int .i64 (firstP t.data.toList).1, .int .i64 ((firstP t.data.toList).2 : Nat)]) ∧ Below w'.heap.size w' w'') := Lib.hid fun w' => rfirst_any t (by unfold maxLen; omega) w'
      have hle := firstP_le t.data.toList
      rw [size_toList] at hle
      by_cases hn : (firstP t.data.toList).2 = 0
      · obtain rfl := read_none ht HRt hn
        have HC2 : Hid (∀ w', Calls Tryz.prog 92 #[.string t] w' fun e w'' => e = .returned (.tuple #[.int .i64 (firstP t.data.toList).1, .int .i64 0]) ∧ Below w'.heap.size w' w'') := Lib.hid fun w' => by have := HC.out w'; rw [hn] at this; exact this
        generalize (firstP t.data.toList).1 = c at HC2
        clear HC HRt hle hn
        go_wp2_with (go_at_call 92; refine (HC2.out _).mono ?_; rintro e w1 ⟨rfl, hb1⟩)
        go_ret2
        exact ⟨hbel.trans (hb1.mono hwr), rfl⟩
      · have HRn := read_more ht HRt hn
        generalize (firstP t.data.toList).1 = c at *
        generalize (firstP t.data.toList).2 = n at *
        have hn0 : ((n : Int) == 0) = false := by simp; omega
        have hn1 : 1 ≤ n := Nat.pos_of_ne_zero hn
        clear HRt hn
        go_upto_region 6 with (go_at_call 92; refine (HC.out _).mono ?_; rintro e w1 ⟨rfl, hb1⟩)
        go_wp2_with (at_builtin; refine wp_app elem_int _ _ (by rfl) (by rfl) (by rfl) (hown.below hb1) [_] 1 rfl (by rfl) ?c1 ?c2 ?c3 ?c4 (by decide) ?_)
        case c1 => simp [Value.oneCell']
        case c2 => simp; omega
        case c3 => simp [maxLen]; omega
        case c4 => exact Nat.le_trans hwr hb1.size
        intro v' w2 hown2 hbel2 hnn
        go_wp2
        go_roundw
        case rel => exact ⟨t.extract n t.size, xs ++ [c], rfl, by rw [map_snoc]; exact hown2, (hbel.trans (hb1.mono hwr)).trans hbel2, by rw [List.length_append, strLen hle]; simp; omega, HRn⟩
        case measure => simp only [strLen hle]; omega
    · have htd := isEmpty_yes ht
      obtain rfl := read_end ht HRt
      clear HRt
      go_wp2
      go_ret2
      exact ⟨hbel, _, rfl, hown⟩
end Go.Proofs.YtjhkfjbgdaomeaaGreatDoor
/- The walks of utf.tail, utf.appendChar, utf.Write and of the reference's Write. -/
namespace Go.Proofs.YtjhkfjbgdaomeaaGreatDoor
set_option linter.unusedVariables false
open Go.RowKit
set_option maxHeartbeats 400000 in
theorem tail0 (c : Int) (h0 : 0 ≤ c) (h1 : c ≤ 1114111) (w : World) :
    Calls Tryz.prog 144 #[.int .i64 c, .int .i64 0] w fun e w' => e = .returned (.int .u8 (128 + c % 64)) ∧ w = w' := by
  go_enter Tryz.func144, Tryz.ntmps144
  go_wp2
  go_ret
  exact ⟨rfl, rfl⟩
set_option maxHeartbeats 400000 in
theorem tail1 (c : Int) (h0 : 0 ≤ c) (h1 : c ≤ 1114111) (w : World) :
    Calls Tryz.prog 144 #[.int .i64 c, .int .i64 1] w fun e w' => e = .returned (.int .u8 (128 + c / 64 % 64)) ∧ w = w' := by
  go_enter Tryz.func144, Tryz.ntmps144
  go_wp2
  go_ret
  exact ⟨rfl, rfl⟩
set_option maxHeartbeats 400000 in
theorem tail2 (c : Int) (h0 : 0 ≤ c) (h1 : c ≤ 1114111) (w : World) :
    Calls Tryz.prog 144 #[.int .i64 c, .int .i64 2] w fun e w' => e = .returned (.int .u8 (128 + c / 4096 % 64)) ∧ w = w' := by
  go_enter Tryz.func144, Tryz.ntmps144
  go_wp2
  go_ret
  exact ⟨rfl, rfl⟩

theorem enc1 (c : Int) (h0 : 0 ≤ c) (h : c < 128) : (encP c).map bv = [.int .u8 c] := by
  unfold encP; simp only [if_pos h, List.map_cons, List.map_nil]; rw [bv_of c h0 (by omega)]
theorem enc2 (c : Int) (h1 : 128 ≤ c) (h : c < 2048) : (encP c).map bv = [.int .u8 (192 + c / 64), .int .u8 (128 + c % 64)] := by
  unfold encP; simp only [if_neg (show ¬ c < 128 by omega), if_pos h, List.map_cons, List.map_nil]; rw [bv_of _ (by omega) (by omega), bv_of _ (by omega) (by omega)]
theorem enc3 (c : Int) (h1 : 2048 ≤ c) (h : c < 65536) : (encP c).map bv = [.int .u8 (224 + c / 4096), .int .u8 (128 + c / 64 % 64), .int .u8 (128 + c % 64)] := by
  unfold encP; simp only [if_neg (show ¬ c < 128 by omega), if_neg (show ¬ c < 2048 by omega), if_pos h, List.map_cons, List.map_nil]; rw [bv_of _ (by omega) (by omega), bv_of _ (by omega) (by omega), bv_of _ (by omega) (by omega)]
theorem enc4 (c : Int) (h1 : 65536 ≤ c) (h : c ≤ 1114111) : (encP c).map bv = [.int .u8 (240 + c / 262144), .int .u8 (128 + c / 4096 % 64), .int .u8 (128 + c / 64 % 64), .int .u8 (128 + c % 64)] := by
  unfold encP; simp only [if_neg (show ¬ c < 128 by omega), if_neg (show ¬ c < 2048 by omega), if_neg (show ¬ c < 65536 by omega), List.map_cons, List.map_nil]; rw [bv_of _ (by omega) (by omega), bv_of _ (by omega) (by omega), bv_of _ (by omega) (by omega), bv_of _ (by omega) (by omega)]

def AppRes (B : Nat) (w : World) (bs : List UInt8) (e : Ending) (w' : World) : Prop := ∃ v', e = .returned v' ∧ OwnV 5 B w' v' (bs.map bv) ∧ Below B w w'

set_option maxHeartbeats 400000 in
set_option maxRecDepth 100000 in
theorem appendChar_any (c : Int) (h0 : 0 ≤ c) (h1 : c ≤ 1114111) (v : Value) (bs : List UInt8) (hl : bs.length ≤ 1000000) (B : Nat) (w : World) (hB : B ≤ w.heap.size) (hown : OwnV 5 B w v (bs.map bv)) :
    Calls Tryz.prog 136 #[v, .int .i64 c] w (AppRes B w (bs ++ encP c)) := by
  have HT0 : Hid (∀ w, Calls Tryz.prog 144 #[.int .i64 c, .int .i64 0] w fun e w' => e = .returned (.int .u8 (128 + c % 64)) ∧ w = w') := Lib.hid (tail0 c h0 h1)
  have HT1 : Hid (∀ w, Calls Tryz.prog 144 #[.int .i64 c, .int .i64 1] w fun e w' => e = .returned (.int .u8 (128 + c / 64 % 64)) ∧ w = w') := Lib.hid (tail1 c h0 h1)
  have HT2 : Hid (∀ w, Calls Tryz.prog 144 #[.int .i64 c, .int .i64 2] w fun e w' => e = .returned (.int .u8 (128 + c / 4096 % 64)) ∧ w = w') := Lib.hid (tail2 c h0 h1)
  have hlen : (bs.map bv).length = bs.length := List.length_map _
  by_cases k1 : c < 128
  · have HZ : Hid (∀ w, Calls Tryz.prog 143 #[.int .i64 c] w fun e w' => e = .returned (.int .i64 1) ∧ w = w') := Lib.hid fun w => by have := size_any c w; unfold szI at this; rw [if_pos k1] at this; exact this
    have HE := Lib.hid (enc1 c h0 k1)
    go_enter Tryz.func136, Tryz.ntmps136
    go_wp2_with (first | (go_at_call 143; refine (HZ.out _).mono ?_; rintro e w' ⟨rfl, rfl⟩) | (at_builtin; refine wp_app elem_u8 _ _ (by rfl) (by rfl) (by rfl) hown [_] 1 rfl (by rfl) ?c1 ?c2 ?c3 hB (by decide) ?_))
    case c1 => exact one_cells .u8 [_]
    case c2 => simp; omega
    case c3 => simp [maxLen]; omega
    intro v' w2 hown2 hbel2 hnn
    go_wp2
    go_ret
    exact ⟨_, rfl, by rw [List.map_append, HE.out]; exact hown2, hbel2⟩
  · by_cases k2 : c < 2048
    · have HZ : Hid (∀ w, Calls Tryz.prog 143 #[.int .i64 c] w fun e w' => e = .returned (.int .i64 2) ∧ w = w') := Lib.hid fun w => by have := size_any c w; unfold szI at this; rw [if_neg k1, if_pos k2] at this; exact this
      have HE := Lib.hid (enc2 c (by omega) k2)
      go_enter Tryz.func136, Tryz.ntmps136
      go_wp2_with (first | (go_at_call 143; refine (HZ.out _).mono ?_; rintro e w' ⟨rfl, rfl⟩) | (go_at_call 144; (with_reducible refine (HT0.out _).mono ?_); rintro e w' ⟨rfl, rfl⟩) | (at_builtin; refine wp_app elem_u8 _ _ (by rfl) (by rfl) (by rfl) hown [_, _] 2 rfl (by rfl) ?c1 ?c2 ?c3 hB (by decide) ?_))
      case c1 => exact one_cells .u8 [_, _]
      case c2 => simp; omega
      case c3 => simp [maxLen]; omega
      intro v' w2 hown2 hbel2 hnn
      go_wp2
      go_ret
      exact ⟨_, rfl, by rw [List.map_append, HE.out]; exact hown2, hbel2⟩
    · by_cases k3 : c < 65536
      · have HZ : Hid (∀ w, Calls Tryz.prog 143 #[.int .i64 c] w fun e w' => e = .returned (.int .i64 3) ∧ w = w') := Lib.hid fun w => by have := size_any c w; unfold szI at this; rw [if_neg k1, if_neg k2, if_pos k3] at this; exact this
        have HE := Lib.hid (enc3 c (by omega) k3)
        go_enter Tryz.func136, Tryz.ntmps136
        go_wp2_with (first | (go_at_call 143; refine (HZ.out _).mono ?_; rintro e w' ⟨rfl, rfl⟩) | (go_at_call 144; (with_reducible refine (HT0.out _).mono ?_); rintro e w' ⟨rfl, rfl⟩) | (go_at_call 144; (with_reducible refine (HT1.out _).mono ?_); rintro e w' ⟨rfl, rfl⟩) | (at_builtin; refine wp_app elem_u8 _ _ (by rfl) (by rfl) (by rfl) hown [_, _, _] 3 rfl (by rfl) ?c1 ?c2 ?c3 hB (by decide) ?_))
        case c1 => exact one_cells .u8 [_, _, _]
        case c2 => simp; omega
        case c3 => simp [maxLen]; omega
        intro v' w2 hown2 hbel2 hnn
        go_wp2
        go_ret
        exact ⟨_, rfl, by rw [List.map_append, HE.out]; exact hown2, hbel2⟩
      · have HZ : Hid (∀ w, Calls Tryz.prog 143 #[.int .i64 c] w fun e w' => e = .returned (.int .i64 4) ∧ w = w') := Lib.hid fun w => by have := size_any c w; unfold szI at this; rw [if_neg k1, if_neg k2, if_neg k3] at this; exact this
        have HE := Lib.hid (enc4 c (by omega) h1)
        go_enter Tryz.func136, Tryz.ntmps136
        go_wp2_with (first | (go_at_call 143; refine (HZ.out _).mono ?_; rintro e w' ⟨rfl, rfl⟩) | (go_at_call 144; (with_reducible refine (HT0.out _).mono ?_); rintro e w' ⟨rfl, rfl⟩) | (go_at_call 144; (with_reducible refine (HT1.out _).mono ?_); rintro e w' ⟨rfl, rfl⟩) | (go_at_call 144; (with_reducible refine (HT2.out _).mono ?_); rintro e w' ⟨rfl, rfl⟩) | (at_builtin; refine wp_app elem_u8 _ _ (by rfl) (by rfl) (by rfl) hown [_, _, _, _] 4 rfl (by rfl) ?c1 ?c2 ?c3 hB (by decide) ?_))
        case c1 => exact one_cells .u8 [_, _, _, _]
        case c2 => simp; omega
        case c3 => simp [maxLen]; omega
        intro v' w2 hown2 hbel2 hnn
        go_wp2
        go_ret
        exact ⟨_, rfl, by rw [List.map_append, HE.out]; exact hown2, hbel2⟩
end Go.Proofs.YtjhkfjbgdaomeaaGreatDoor
/- The walks of utf.Write and of the reference's Write: both answer what one plain function gives. -/
namespace Go.Proofs.YtjhkfjbgdaomeaaGreatDoor
set_option linter.unusedVariables false
open Go.RowKit

def writeP : List Int → Option (List UInt8)
  | [] => some []
  | c :: r => if vldB c = true then (writeP r).map (encP c ++ ·) else none
def WriteRes (w : World) (r : Option (List UInt8)) (e : Ending) (w' : World) : Prop :=
  Below w.heap.size w w' ∧ match r with
  | none => e = .returned (.tuple #[.string ⟨#[]⟩, .bool false])
  | some bs => e = .returned (.tuple #[.string ⟨bs.toArray⟩, .bool true])
theorem write_none {r : Option (List UInt8)} {xs : List Int} {k : Nat} {bs : List UInt8} (hk : k < xs.length) (H : Hid (r = (writeP (xs.drop k)).map (bs ++ ·))) (h : vldB (xs.getD k 0) = false) : r = none := by
  rw [H.out, List.drop_eq_getElem_cons hk]
  rw [List.getD_eq_getElem?_getD, List.getElem?_eq_getElem hk] at h
  unfold writeP; rw [if_neg (by simp at h; simp [h])]; rfl
theorem write_more {r : Option (List UInt8)} {xs : List Int} {k : Nat} {bs : List UInt8} (hk : k < xs.length) (H : Hid (r = (writeP (xs.drop k)).map (bs ++ ·))) (h : vldB (xs.getD k 0) = true) :
    Hid (r = (writeP (xs.drop (k + 1))).map ((bs ++ encP (xs.getD k 0)) ++ ·)) := by
  refine Lib.hid ?_
  rw [H.out, List.drop_eq_getElem_cons hk]
  rw [List.getD_eq_getElem?_getD, List.getElem?_eq_getElem hk] at h ⊢
  simp only [Option.getD_some] at h ⊢
  rw [writeP, if_pos h, Option.map_map]
  congr 1; funext l; simp
theorem write_end {r : Option (List UInt8)} {xs : List Int} {bs : List UInt8} (H : Hid (r = (writeP (xs.drop xs.length)).map (bs ++ ·))) : r = some bs := by
  rw [H.out, List.drop_length]; simp [writeP]
theorem enc_le (c : Int) : (encP c).length ≤ 4 := by rw [encP_length]; unfold szI; (repeat' split) <;> omega

/-- 'string(b)' of a slice of bytes of the call's own. -/
theorem conv_own {B : Nat} {w : World} {v : Value} {bs : List UInt8} (h : OwnV 5 B w v (bs.map bv)) : (convert 38 9 v).run Tryz.prog w = .ok (.string ⟨bs.toArray⟩) w := by
  rcases h.rd with ⟨a, cap, rfl, e⟩ | ⟨b, off, cap, rfl, h2, h3, h4, h5, h6⟩
  · have e2 : bs = [] := by simpa using e
    subst e2
    rcases h.nilOr with ⟨e1, -⟩ | ⟨g, cap', e1, -⟩
    · rw [e1]; exact run_convert_bytes_nil w 38 5 Tryz.underlying38 Tryz.underlying5 0 0 9 Tryz.underlying9
    · rw [e1]
      exact run_convert_bytes_arg w 38 5 Tryz.underlying38 Tryz.underlying5 g 0 0 cap' [] rfl (fun i hi => by omega) 9 Tryz.underlying9
  · rw [List.length_map] at h2 h3 h6 ⊢
    rw [← strOf_bytes]
    refine run_convert_bytes_arg w 38 5 Tryz.underlying38 Tryz.underlying5 b off bs.length cap _ (List.length_map _) (fun i hi => ?_) 9 Tryz.underlying9
    rw [h6 i hi]
    simp [List.getD_eq_getElem?_getD, List.getElem?_eq_getElem hi, bv]

set_option maxHeartbeats 1000000 in
set_option maxRecDepth 100000 in
theorem write_any (v : Value) (xs : List Int) (hx : xs.length ≤ 100000) (w : World) (hv : RdI w v xs) :
    Calls Tryz.prog 124 #[v] w (WriteRes w (writeP xs)) := by
  obtain ⟨r, hr⟩ : ∃ r, writeP xs = r := ⟨_, rfl⟩
  rcases hv.cases with ⟨a, cap, rfl, rfl⟩ | ⟨b, off, cap, rfl, hpos, hcap, hmax, hb, hcell⟩
  · rw [show writeP [] = some [] from rfl]
    have hcv := conv_own (bs := []) (show OwnV 5 0 w (.slice none 0 0) (([] : List UInt8).map bv) from OwnV.nil 5 0 w)
    go_enter Tryz.func124, Tryz.ntmps124
    go_wp2
    refine wp_loop_rounds 1 ?_
    rw [rounds_succ]
    go_wp2
    go_ret2
    exact ⟨Below.refl _ _, rfl⟩
  · have HR : Hid (r = (writeP (xs.drop 0)).map ([] ++ ·)) := Lib.hid (by rw [List.drop_zero, hr]; simp)
    rw [hr]
    clear hr
    have HC : Hid (∀ i, i < xs.length → w.cell? ⟨b, off + i, none⟩ = some (.int .i64 (xs.getD i 0))) := Lib.hid hcell
    clear hcell hmax
    go_enter Tryz.func124, Tryz.ntmps124
    go_wp2
    go_loopw [4, 9] (fun l i wr => ∃ (k : Nat) (bs : List UInt8), i = .int .i64 k ∧ k ≤ xs.length ∧ OwnV 5 w.heap.size wr l (bs.map bv) ∧ Below w.heap.size w wr ∧ bs.length ≤ 4 * k ∧ Hid (r = (writeP (xs.drop k)).map (bs ++ ·)))
      (fun _ i _ => xs.length - (intOf i).toNat)
    case atStart => exact ⟨0, [], rfl, Nat.zero_le _, OwnV.nil _ _ _, Below.refl _ _, Nat.zero_le _, HR⟩
    case round =>
      obtain ⟨k, bs, rfl, hk, hown, hbel, hlen, HRt⟩ := hrel
      have hwr := hbel.size
      by_cases hlt : k < xs.length
      · have hc : wr.cell? ⟨b, off + k, none⟩ = some (.int .i64 (xs.getD k 0)) := by rw [hbel.cell hb]; exact HC.out k hlt
        cases hvl : vldB (xs.getD k 0) with
        | false =>
          obtain rfl := write_none hlt HRt hvl
          have HV := Lib.hid hvl
          clear HRt hvl
          generalize xs.getD k 0 = c at *
          go_wp2_with (go_at_call 135; refine (valid_any _ _).mono ?_; rintro e w' ⟨rfl, rfl⟩; rw [HV.out])
          go_ret2
          exact ⟨hbel, rfl⟩
        | true =>
          have HRn := write_more hlt HRt hvl
          have HV := Lib.hid hvl
          have hv3 := (vldB_iff _).1 hvl
          clear HRt hvl
          generalize xs.getD k 0 = c at *
          have HA : Hid (∀ w', w' = wr → Calls Tryz.prog 136 #[u4, .int .i64 c] w' (AppRes w.heap.size w' (bs ++ encP c))) := Lib.hid fun w' e => by subst e; exact appendChar_any c hv3.1 hv3.2.1 _ bs (by omega) _ _ hwr hown
          have he4 := enc_le c
          go_wp2_with (first | (go_at_call 135; refine (valid_any _ _).mono ?_; rintro e w' ⟨rfl, rfl⟩; rw [HV.out]) | (go_at_call 136; refine (HA.out _ rfl).mono ?_; rintro e w1 ⟨v1, rfl, hown1, hb1⟩))
          go_roundw
          case rel => exact ⟨k + 1, bs ++ encP c, by go_num, hlt, hown1, hbel.trans hb1, by rw [List.length_append]; omega, HRn⟩
          case measure => simp [intOf]; omega
      · obtain rfl : k = xs.length := by omega
        obtain rfl := write_end HRt
        have hcv := conv_own hown
        clear HRt
        go_wp2
        go_ret2
        exact ⟨hbel, rfl⟩
end Go.Proofs.YtjhkfjbgdaomeaaGreatDoor
/- The walk of the reference's Write; of the laws' Ints and Cut. -/
namespace Go.Proofs.YtjhkfjbgdaomeaaGreatDoor
set_option linter.unusedVariables false
open Go.RowKit

theorem str_app (a b : List UInt8) : (⟨a.toArray⟩ : ByteArray) ++ ⟨b.toArray⟩ = ⟨(a ++ b).toArray⟩ := by
  apply ByteArray.ext; simp
theorem valid_enc (c : Int) (h : vldB c = true) (w : World) : Calls Tryz.prog 94 #[.int .i64 c] w fun e w' => e = .returned (.string ⟨(encP c).toArray⟩) ∧ Below w.heap.size w w' :=
  one_any c ((vldB_iff _).1 h).1 ((vldB_iff _).1 h).2.1 w
set_option maxHeartbeats 1000000 in
set_option maxRecDepth 100000 in
theorem rwrite_any (v : Value) (xs : List Int) (hx : xs.length ≤ 100000) (w : World) (hv : RdI w v xs) :
    Calls Tryz.prog 74 #[v] w (WriteRes w (writeP xs)) := by
  obtain ⟨r, hr⟩ : ∃ r, writeP xs = r := ⟨_, rfl⟩
  rcases hv.cases with ⟨a, cap, rfl, rfl⟩ | ⟨b, off, cap, rfl, hpos, hcap, hmax, hb, hcell⟩
  · rw [show writeP [] = some [] from rfl]
    go_enter Tryz.func74, Tryz.ntmps74
    go_wp2
    refine wp_loop_rounds 1 ?_
    rw [rounds_succ]
    go_wp2
    go_ret2
    exact ⟨Below.refl _ _, rfl⟩
  · have HR : Hid (r = (writeP (xs.drop 0)).map ([] ++ ·)) := Lib.hid (by rw [List.drop_zero, hr]; simp)
    rw [hr]
    clear hr
    have HC : Hid (∀ i, i < xs.length → w.cell? ⟨b, off + i, none⟩ = some (.int .i64 (xs.getD i 0))) := Lib.hid hcell
    clear hcell hmax
    go_enter Tryz.func74, Tryz.ntmps74
    go_wp2
    go_loopw [4, 5] (fun l i wr => ∃ (k : Nat) (bs : List UInt8), i = .int .i64 k ∧ k ≤ xs.length ∧ l = .string ⟨bs.toArray⟩ ∧ Below w.heap.size w wr ∧ bs.length ≤ 4 * k ∧ Hid (r = (writeP (xs.drop k)).map (bs ++ ·)))
      (fun _ i _ => xs.length - (intOf i).toNat)
    case atStart => exact ⟨0, [], rfl, Nat.zero_le _, rfl, Below.refl _ _, Nat.zero_le _, HR⟩
    case round =>
      obtain ⟨k, bs, rfl, hk, rfl, hbel, hlen, HRt⟩ := hrel
      have hwr := hbel.size
      by_cases hlt : k < xs.length
      · have hc : wr.cell? ⟨b, off + k, none⟩ = some (.int .i64 (xs.getD k 0)) := by rw [hbel.cell hb]; exact HC.out k hlt
        cases hvl : vldB (xs.getD k 0) with
        | false =>
          obtain rfl := write_none hlt HRt hvl
          have HV := Lib.hid hvl
          clear HRt hvl
          generalize xs.getD k 0 = c at *
          go_wp2_with (go_at_call 93; refine (rvalid_any _ _).mono ?_; rintro e w' ⟨rfl, rfl⟩; rw [HV.out])
          go_ret2
          exact ⟨hbel, rfl⟩
        | true =>
          have HRn := write_more hlt HRt hvl
          have HV := Lib.hid hvl
          clear HRt hvl
          generalize xs.getD k 0 = c at *
          have he4 := enc_le c
          have HO : Hid (∀ w, Calls Tryz.prog 94 #[.int .i64 c] w fun e w' => e = .returned (.string ⟨(encP c).toArray⟩) ∧ Below w.heap.size w w') := Lib.hid (valid_enc c HV.out)
          go_wp2_with (first | (go_at_call 93; refine (rvalid_any _ _).mono ?_; rintro e w' ⟨rfl, rfl⟩; rw [HV.out]) | (go_at_call 94; refine (HO.out _).mono ?_; rintro e w1 ⟨rfl, hb1⟩))
          go_roundw
          case rel =>
            exact ⟨k + 1, bs ++ encP c, by go_num, hlt, by rw [str_app], hbel.trans (hb1.mono hwr), by rw [List.length_append]; omega, HRn⟩
          case measure => simp [intOf]; omega
      · obtain rfl : k = xs.length := by omega
        obtain rfl := write_end HRt
        clear HRt
        go_wp2
        go_ret2
        exact ⟨hbel, rfl⟩
end Go.Proofs.YtjhkfjbgdaomeaaGreatDoor
/- Plain mathematics of strict UTF-8: what was written is read again; what is cut short or too long is none. -/
namespace Go.Proofs.YtjhkfjbgdaomeaaGreatDoor
set_option linter.unusedVariables false

theorem ofNat_nat (n : Nat) (h : n < 256) : (UInt8.ofNat n).toNat = n := byte_of n h
theorem B_nat (n : Int) (h0 : 0 ≤ n) (h1 : n < 256) : ((UInt8.ofNat n.toNat).toNat : Int) = n := by rw [byte_of _ (by omega)]; omega
theorem B_div (n : Int) (h0 : 128 ≤ n) (h1 : n < 192) : (UInt8.ofNat n.toNat).toNat / 64 = 2 := by rw [byte_of _ (by omega)]; omega

/-- the first character, of bytes that are given one by one -/
theorem first1 (b : UInt8) (r : List UInt8) (h : b.toNat < 128) : firstP (b :: r) = ((b.toNat : Int), 1) := by
  have e1 : ldn b.toNat = 1 := by unfold ldn; rw [if_pos (by omega)]
  have e2 : ldc b.toNat = b.toNat := by unfold ldc; rw [if_pos (by omega)]
  unfold firstP
  simp only [e1, e2]
  rw [if_neg (by omega)]
  simp only [Nat.sub_self, List.take_zero, tl]
  rw [if_pos]
  rw [vldB_iff]
  refine ⟨by omega, ?_⟩
  unfold szI; rw [if_pos (by omega)]
theorem firstN (n : Nat) (b : UInt8) (r : List UInt8) (c : Int) (hn : ldn b.toNat = n) (hc : tl (r.take (n - 1)) (ldc b.toNat) = some c) (hl : n ≤ r.length + 1) (h0 : n ≠ 0) :
    firstP (b :: r) = if vldB c = true ∧ szI c = n then (c, n) else (-1, 0) := by
  unfold firstP
  simp only [hn]
  rw [if_neg (by omega), hc]
theorem tl_cons (b : UInt8) (r : List UInt8) (c : Int) (h : b.toNat / 64 = 2) : tl (b :: r) c = tl r (c * 64 + (b.toNat : Int) % 64) := by
  rw [tl, if_pos h]

theorem first_two (n m c : Int) (r : List UInt8) (h1 : 192 ≤ n) (h2 : n < 224) (h3 : 128 ≤ m) (h4 : m < 192) (hc : (n - 192) * 64 + (m - 128) = c) :
    firstP (UInt8.ofNat n.toNat :: UInt8.ofNat m.toNat :: r) = if vldB c = true ∧ szI c = 2 then (c, 2) else (-1, 0) := by
  refine firstN 2 _ _ c ?_ ?_ (by simp) (by decide)
  · rw [B_nat n (by omega) (by omega)]; unfold ldn; rw [if_neg (by omega), if_neg (by omega), if_pos (by omega)]
  · rw [B_nat n (by omega) (by omega)]
    have : ldc n = n - 192 := by unfold ldc; rw [if_neg (by omega), if_neg (by omega), if_pos (by omega)]
    rw [this, show (2 : Nat) - 1 = 0 + 1 from rfl, List.take_succ_cons, List.take_zero, tl_cons _ _ _ (B_div m h3 h4), B_nat m (by omega) (by omega), tl]
    congr 1; omega
theorem first_three (n m k c : Int) (r : List UInt8) (h1 : 224 ≤ n) (h2 : n < 240) (h3 : 128 ≤ m) (h4 : m < 192) (h5 : 128 ≤ k) (h6 : k < 192) (hc : ((n - 224) * 64 + (m - 128)) * 64 + (k - 128) = c) :
    firstP (UInt8.ofNat n.toNat :: UInt8.ofNat m.toNat :: UInt8.ofNat k.toNat :: r) = if vldB c = true ∧ szI c = 3 then (c, 3) else (-1, 0) := by
  refine firstN 3 _ _ c ?_ ?_ (by simp) (by decide)
  · rw [B_nat n (by omega) (by omega)]; unfold ldn; rw [if_neg (by omega), if_neg (by omega), if_neg (by omega), if_pos (by omega)]
  · rw [B_nat n (by omega) (by omega)]
    have : ldc n = n - 224 := by unfold ldc; rw [if_neg (by omega), if_neg (by omega), if_neg (by omega), if_pos (by omega)]
    rw [this, show (3 : Nat) - 1 = 1 + 1 from rfl, List.take_succ_cons, show (1 : Nat) = 0 + 1 from rfl, List.take_succ_cons, List.take_zero, tl_cons _ _ _ (B_div m h3 h4), B_nat m (by omega) (by omega), tl_cons _ _ _ (B_div k h5 h6), B_nat k (by omega) (by omega), tl]
    congr 1; omega
theorem first_four (n m k j c : Int) (r : List UInt8) (h1 : 240 ≤ n) (h2 : n < 248) (h3 : 128 ≤ m) (h4 : m < 192) (h5 : 128 ≤ k) (h6 : k < 192) (h7 : 128 ≤ j) (h8 : j < 192) (hc : (((n - 240) * 64 + (m - 128)) * 64 + (k - 128)) * 64 + (j - 128) = c) :
    firstP (UInt8.ofNat n.toNat :: UInt8.ofNat m.toNat :: UInt8.ofNat k.toNat :: UInt8.ofNat j.toNat :: r) = if vldB c = true ∧ szI c = 4 then (c, 4) else (-1, 0) := by
  refine firstN 4 _ _ c ?_ ?_ (by simp) (by decide)
  · rw [B_nat n (by omega) (by omega)]; unfold ldn; rw [if_neg (by omega), if_neg (by omega), if_neg (by omega), if_neg (by omega), if_pos (by omega)]
  · rw [B_nat n (by omega) (by omega)]
    have : ldc n = n - 240 := by unfold ldc; rw [if_neg (by omega), if_neg (by omega), if_neg (by omega), if_neg (by omega), if_pos (by omega)]
    rw [this, show (4 : Nat) - 1 = 2 + 1 from rfl, List.take_succ_cons, show (2 : Nat) = 1 + 1 from rfl, List.take_succ_cons, show (1 : Nat) = 0 + 1 from rfl, List.take_succ_cons, List.take_zero, tl_cons _ _ _ (B_div m h3 h4), B_nat m (by omega) (by omega), tl_cons _ _ _ (B_div k h5 h6), B_nat k (by omega) (by omega), tl_cons _ _ _ (B_div j h7 h8), B_nat j (by omega) (by omega), tl]
    congr 1; omega

theorem first_enc (c : Int) (hv : vldB c = true) (r : List UInt8) : firstP (encP c ++ r) = (c, szI c) := by
  have h := (vldB_iff c).1 hv
  by_cases k1 : c < 128
  · have e : szI c = 1 := by unfold szI; rw [if_pos k1]
    unfold encP; rw [if_pos k1]
    show firstP (UInt8.ofNat c.toNat :: r) = _
    rw [first1 _ _ (by rw [byte_of _ (by omega)]; omega), B_nat c (by omega) (by omega), e]
  · by_cases k2 : c < 2048
    · have e : szI c = 2 := by unfold szI; rw [if_neg k1, if_pos k2]
      unfold encP; rw [if_neg k1, if_pos k2]
      show firstP (UInt8.ofNat (192 + c / 64).toNat :: UInt8.ofNat (128 + c % 64).toNat :: r) = _
      rw [first_two _ _ c r (by omega) (by omega) (by omega) (by omega) (by omega), if_pos ⟨hv, e⟩, e]
    · by_cases k3 : c < 65536
      · have e : szI c = 3 := by unfold szI; rw [if_neg k1, if_neg k2, if_pos k3]
        unfold encP; rw [if_neg k1, if_neg k2, if_pos k3]
        show firstP (UInt8.ofNat (224 + c / 4096).toNat :: UInt8.ofNat (128 + c / 64 % 64).toNat :: UInt8.ofNat (128 + c % 64).toNat :: r) = _
        rw [first_three _ _ _ c r (by omega) (by omega) (by omega) (by omega) (by omega) (by omega) (by omega), if_pos ⟨hv, e⟩, e]
      · have e : szI c = 4 := by unfold szI; rw [if_neg k1, if_neg k2, if_neg k3]
        unfold encP; rw [if_neg k1, if_neg k2, if_neg k3]
        show firstP (UInt8.ofNat (240 + c / 262144).toNat :: UInt8.ofNat (128 + c / 4096 % 64).toNat :: UInt8.ofNat (128 + c / 64 % 64).toNat :: UInt8.ofNat (128 + c % 64).toNat :: r) = _
        rw [first_four _ _ _ _ c r (by omega) (by omega) (by omega) (by omega) (by omega) (by omega) (by omega) (by omega) (by omega), if_pos ⟨hv, e⟩, e]
theorem szI_pos (c : Int) : 1 ≤ szI c := by unfold szI; (repeat' split) <;> omega
theorem read_enc (c : Int) (hv : vldB c = true) (r : List UInt8) : readP (encP c ++ r) = (readP r).map (c :: ·) := by
  have hl := encP_length c
  have hp := szI_pos c
  rw [readP_step (by rw [List.length_append]; omega), first_enc c hv r]
  simp only
  rw [if_neg (by omega), ← hl, List.drop_left]
/-- What was written is read again, whatever stands behind it. -/
theorem read_write (xs : List Int) : ∀ (bs r : List UInt8), writeP xs = some bs → readP (bs ++ r) = (readP r).map (xs ++ ·) := by
  induction xs with
  | nil => intro bs r h; simp [writeP] at h; subst h; simp
  | cons c xs ih =>
    intro bs r h
    unfold writeP at h
    split at h
    · obtain ⟨ys, hy, rfl⟩ := Option.map_eq_some_iff.1 h
      rw [List.append_assoc, read_enc c ‹_›, ih ys r hy, Option.map_map]
      congr 1
    · cases h
theorem read_write' (xs : List Int) (bs : List UInt8) (h : writeP xs = some bs) : readP bs = some xs := by
  have := read_write xs bs [] h
  rw [List.append_nil, readP_nil] at this
  simpa using this
/-- What is read was written. -/
theorem first_inv (l : List UInt8) (h : (firstP l).2 ≠ 0) : vldB (firstP l).1 = true ∧ encP (firstP l).1 = l.take (firstP l).2 := by
  rw [← first_eq] at h ⊢
  cases l with
  | nil => exact absurd rfl h
  | cons b r =>
    unfold firstR at h ⊢
    simp only at h ⊢
    split at h
    · exact absurd rfl h
    · rw [if_neg ‹_›]
      cases ht : tl (r.take (rdn b.toNat - 1)) (rdc b.toNat) with
      | none => rw [ht] at h; exact absurd rfl h
      | some c =>
        rw [ht] at h
        simp only at h ⊢
        split at h
        · rename_i hh; simp only [if_pos hh]; exact ⟨hh.1, hh.2⟩
        · exact absurd rfl h
theorem readF_inv (f : Nat) : ∀ (l : List UInt8) (xs : List Int), l.length ≤ f → readF f l = some xs → writeP xs = some l := by
  induction f with
  | zero =>
    intro l xs hl h
    have : l = [] := List.eq_nil_of_length_eq_zero (by omega)
    subst this
    simp [readF] at h; subst h; rfl
  | succ f ih =>
    intro l xs hl h
    unfold readF at h
    split at h
    · rename_i h0
      have : l = [] := List.eq_nil_of_length_eq_zero h0
      subst this; simp at h; subst h; rfl
    · split at h
      · cases h
      · rename_i h0 h1
        obtain ⟨ys, hy, rfl⟩ := Option.map_eq_some_iff.1 h
        obtain ⟨hv, he⟩ := first_inv l h1
        have := ih _ ys (by rw [List.length_drop]; omega) hy
        unfold writeP
        rw [if_pos hv, this, he]
        simp
theorem write_read (l : List UInt8) (xs : List Int) (h : readP l = some xs) : writeP xs = some l := readF_inv _ l xs (Nat.le_refl _) h
theorem read_app (l r : List UInt8) (xs : List Int) (h : readP l = some xs) : readP (l ++ r) = (readP r).map (xs ++ ·) := read_write xs l r (write_read l xs h)

theorem ldn_enc (c : Int) (hv : vldB c = true) : ∃ b r, encP c = b :: r ∧ ldn b.toNat = szI c := by
  have h := (vldB_iff c).1 hv
  by_cases k1 : c < 128
  · refine ⟨UInt8.ofNat c.toNat, [], by unfold encP; rw [if_pos k1], ?_⟩
    rw [B_nat c (by omega) (by omega)]; unfold ldn szI; rw [if_pos k1, if_pos k1]
  · by_cases k2 : c < 2048
    · refine ⟨UInt8.ofNat (192 + c / 64).toNat, _, by unfold encP; rw [if_neg k1, if_pos k2], ?_⟩
      rw [B_nat _ (by omega) (by omega)]; unfold ldn szI; rw [if_neg (by omega), if_neg (by omega), if_pos (by omega), if_neg k1, if_pos k2]
    · by_cases k3 : c < 65536
      · refine ⟨UInt8.ofNat (224 + c / 4096).toNat, _, by unfold encP; rw [if_neg k1, if_neg k2, if_pos k3], ?_⟩
        rw [B_nat _ (by omega) (by omega)]; unfold ldn szI; rw [if_neg (by omega), if_neg (by omega), if_neg (by omega), if_pos (by omega), if_neg k1, if_neg k2, if_pos k3]
      · refine ⟨UInt8.ofNat (240 + c / 262144).toNat, _, by unfold encP; rw [if_neg k1, if_neg k2, if_neg k3], ?_⟩
        rw [B_nat _ (by omega) (by omega)]; unfold ldn szI; rw [if_neg (by omega), if_neg (by omega), if_neg (by omega), if_neg (by omega), if_pos (by omega), if_neg k1, if_neg k2, if_neg k3]
/-- A character that is cut short is none. -/
theorem read_cut (c : Int) (hv : vldB c = true) (k : Nat) (h0 : 0 < k) (h1 : k < (encP c).length) : readP ((encP c).take k) = none := by
  obtain ⟨b, r, e, hn⟩ := ldn_enc c hv
  rw [encP_length] at h1
  rw [e]
  obtain ⟨k, rfl⟩ : ∃ j, k = j + 1 := ⟨k - 1, by omega⟩
  rw [List.take_succ_cons, readP_step (by simp)]
  have : firstP (b :: r.take k) = (-1, 0) := by
    unfold firstP
    simp only
    rw [if_pos (Or.inr (by rw [hn, List.length_take]; omega))]
  rw [this]; rfl
theorem read_bad (l r : List UInt8) (hl : 0 < l.length) (h : (firstP l).2 = 0) (b : UInt8) (hb : b.toNat < 128) : readP (b :: l) = none := by
  rw [readP_step (by simp), first1 b l hb]
  simp only
  rw [if_neg (by decide)]
  show (readP l).map _ = none
  rw [readP_step hl, if_pos h]; rfl
end Go.Proofs.YtjhkfjbgdaomeaaGreatDoor
