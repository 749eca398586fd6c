/- Plain mathematics of records in blocks (sm: the four bytes of a sum): what is laid is read again; what is cut anywhere is cut off. -/
import Derived.Test.YtmmkgopnccfiiaaGreatDoorMBase
import Derived.Test.YtmmkgopnccfiiaaGreatDoorMNum
import Derived.Test.YtmmkgopnccfiiaaGreatDoorMCrc
import Derived.RegionTactic
import Derived.Deep.QuietTactic
import Derived.BigQuiet
import Derived.Deep.DeepCutAuto
import Derived.Deep.CutBlock
import Derived.Deep.LoopGhost
namespace Go.Proofs.YtmmkgopnccfiiaaGreatDoor
set_option linter.unusedVariables false
/-- zeros at a block's end, where no head goes -/
def padN (a : Nat) : Nat := if 256 - a % 256 < 7 then 256 - a % 256 else 0
/-- how many bytes go behind a head that is laid from a on -/
def roomN (a : Nat) : Nat := 256 - (a + padN a) % 256 - 7
theorem pad_room (a : Nat) : 7 ≤ 256 - (a + padN a) % 256 ∧ roomN a ≤ 249 ∧ padN a ≤ 6 := by
  unfold roomN padN
  split <;> omega
def hdB (k : Nat) (b : List UInt8) : List UInt8 := [UInt8.ofNat (b.length % 256), UInt8.ofNat (b.length / 256), UInt8.ofNat k]
def pieceB (sm : List UInt8 → List UInt8) (k : Nat) (b : List UInt8) : List UInt8 := sm (hdB k b ++ b) ++ (hdB k b ++ b)
def kindB (first last : Bool) : Nat := if first && last then 1 else if first then 2 else if last then 4 else 3
def layF (sm : List UInt8 → List UInt8) : Nat → Nat → Bool → List UInt8 → List UInt8
  | 0, _, _, _ => []
  | f + 1, a, first, b =>
    List.replicate (padN a) 0 ++ (pieceB sm (kindB first (decide (b.length ≤ roomN a))) (b.take (roomN a)) ++
      if b.length ≤ roomN a then [] else layF sm f (a + padN a + 7 + roomN a) false (b.drop (roomN a)))
/-- A record laid behind a bytes. -/
def layB (sm : List UInt8 → List UInt8) (a : Nat) (b : List UInt8) : List UInt8 := layF sm (2 * b.length + 2) a true b
/-- What the piece at place a tells, r being the log from there on. -/
def pieceS (sm : List UInt8 → List UInt8) (a : Nat) (r : List UInt8) : Option (Nat × List UInt8) :=
  if 256 - a % 256 < 7 ∨ r.length < 7 then none else
  if 256 - a % 256 - 7 < (r.getD 4 0).toNat + 256 * (r.getD 5 0).toNat ∨ r.length < 7 + ((r.getD 4 0).toNat + 256 * (r.getD 5 0).toNat) ∨ (r.getD 6 0).toNat < 1 ∨ 4 < (r.getD 6 0).toNat then none else
  if r.take 4 = sm ((r.drop 4).take (3 + ((r.getD 4 0).toNat + 256 * (r.getD 5 0).toNat))) then some ((r.getD 6 0).toNat, (r.drop 7).take ((r.getD 4 0).toNat + 256 * (r.getD 5 0).toNat)) else none
/-- The pieces behind a first one. -/
def restS (sm : List UInt8 → List UInt8) : Nat → Nat → List UInt8 → List UInt8 → Option (List UInt8 × Nat)
  | 0, _, _, _ => none
  | f + 1, a, r, acc => match pieceS sm (a + padN a) (r.drop (padN a)) with
    | none => none
    | some (k, b) => if k = 3 then restS sm f (a + padN a + 7 + b.length) (r.drop (padN a + 7 + b.length)) (acc ++ b) else if k = 4 then some (acc ++ b, a + padN a + 7 + b.length) else none
/-- The record behind a bytes, and where it ends. -/
def recordS (sm : List UInt8 → List UInt8) (f a : Nat) (r : List UInt8) : Option (List UInt8 × Nat) :=
  match pieceS sm (a + padN a) (r.drop (padN a)) with
  | none => none
  | some (k, b) => if k = 1 then some (b, a + padN a + 7 + b.length) else if k = 2 then restS sm f (a + padN a + 7 + b.length) (r.drop (padN a + 7 + b.length)) b else none
/-- Is what stands behind a bytes cut off? -/
def tornS (sm : List UInt8 → List UInt8) : Nat → Bool → Nat → List UInt8 → Bool
  | 0, _, _, _ => false
  | f + 1, first, a, r =>
    if (r.drop (padN a)).length < 7 then true else
    if 256 - (a + padN a) % 256 - 7 < ((r.drop (padN a)).getD 4 0).toNat + 256 * ((r.drop (padN a)).getD 5 0).toNat then false else
    if (r.drop (padN a)).length < 7 + (((r.drop (padN a)).getD 4 0).toNat + 256 * ((r.drop (padN a)).getD 5 0).toNat) then true else
    match pieceS sm (a + padN a) (r.drop (padN a)) with
    | none => false
    | some (k, b) => if k = (if first then 2 else 3) then tornS sm f false (a + padN a + 7 + b.length) (r.drop (padN a + 7 + b.length)) else false
def readS (sm : List UInt8 → List UInt8) : Nat → Nat → List UInt8 → List (List UInt8) × Nat × Bool
  | 0, a, r => ([], a, false)
  | f + 1, a, r => match recordS sm (r.length + 1) a r with
    | none => ([], a, tornS sm (r.length + 1) true a r)
    | some (b, e) => (b :: (readS sm f e (r.drop (e - a))).1, (readS sm f e (r.drop (e - a))).2)
section
theorem four_of {l : List UInt8} (h : l.length = 4) : ∃ x0 x1 x2 x3, l = [x0, x1, x2, x3] := by
  match l, h with
  | [x0, x1, x2, x3], _ => exact ⟨x0, x1, x2, x3, rfl⟩
theorem kind_bd (first last : Bool) : 1 ≤ kindB first last ∧ kindB first last ≤ 4 := by
  cases first <;> cases last <;> decide
theorem rcPiece_len {sm : List UInt8 → List UInt8} (hs : ∀ l, (sm l).length = 4) (k : Nat) (b : List UInt8) : (pieceB sm k b).length = 7 + b.length := by
  unfold pieceB hdB
  simp [hs]; omega
/-- a piece, written out -/
theorem piece_cons {sm : List UInt8 → List UInt8} (hs : ∀ l, (sm l).length = 4) (k : Nat) (b : List UInt8) : ∃ x0 x1 x2 x3, sm (hdB k b ++ b) = [x0, x1, x2, x3] ∧
    pieceB sm k b = x0 :: x1 :: x2 :: x3 :: UInt8.ofNat (b.length % 256) :: UInt8.ofNat (b.length / 256) :: UInt8.ofNat k :: b := by
  obtain ⟨x0, x1, x2, x3, h⟩ := four_of (hs (hdB k b ++ b))
  exact ⟨x0, x1, x2, x3, h, by unfold pieceB; rw [h]; rfl⟩
theorem num_two {n : Nat} (h : n ≤ 249) : (UInt8.ofNat (n % 256)).toNat + 256 * (UInt8.ofNat (n / 256)).toNat = n := by
  rw [byte_of _ (by omega), byte_of _ (by omega)]; omega
theorem pieceS_whole {sm : List UInt8 → List UInt8} (hs : ∀ l, (sm l).length = 4) {a k : Nat} {b : List UInt8} (ha : 7 ≤ 256 - a % 256) (hb : b.length ≤ 256 - a % 256 - 7) (hk : 1 ≤ k ∧ k ≤ 4) (R : List UInt8) : pieceS sm a (pieceB sm k b ++ R) = some (k, b) := by
  obtain ⟨x0, x1, x2, x3, h1, h2⟩ := piece_cons hs k b
  have hn := num_two (n := b.length) (by omega)
  have hkk : (UInt8.ofNat k).toNat = k := byte_of _ (by omega)
  rw [h2]
  unfold pieceS
  simp only [List.cons_append, List.getD_cons_succ, List.getD_cons_zero, List.length_cons, List.length_append, hn, hkk]
  rw [if_neg (by omega), if_neg (by omega), if_pos]
  · rw [List.drop_succ_cons, List.drop_succ_cons, List.drop_succ_cons, List.drop_succ_cons, List.drop_succ_cons, List.drop_succ_cons, List.drop_succ_cons, List.drop_zero, List.take_left' rfl]
  · have e2 : List.take (3 + b.length) (UInt8.ofNat (b.length % 256) :: UInt8.ofNat (b.length / 256) :: UInt8.ofNat k :: (b ++ R)) = UInt8.ofNat (b.length % 256) :: UInt8.ofNat (b.length / 256) :: UInt8.ofNat k :: b := by
      rw [show 3 + b.length = b.length + 1 + 1 + 1 by omega, List.take_succ_cons, List.take_succ_cons, List.take_succ_cons, List.take_left' rfl]
    rw [List.drop_succ_cons, List.drop_succ_cons, List.drop_succ_cons, List.drop_succ_cons, List.drop_zero, e2]
    exact h1.symm
/-- A piece that is cut is none; and it looks cut off. -/
theorem pieceS_cut {sm : List UInt8 → List UInt8} (hs : ∀ l, (sm l).length = 4) {a k : Nat} {b : List UInt8} (hb : b.length ≤ 249) {c : Nat} (hc : c < 7 + b.length) : pieceS sm a ((pieceB sm k b).take c) = none ∧
    (((pieceB sm k b).take c).length < 7 ∨ (((pieceB sm k b).take c).getD 4 0).toNat + 256 * (((pieceB sm k b).take c).getD 5 0).toNat = b.length ∧ ((pieceB sm k b).take c).length < 7 + b.length) := by
  have hl := rcPiece_len hs k b
  have hlc : ((pieceB sm k b).take c).length = c := by rw [List.length_take, hl]; omega
  rcases Nat.lt_or_ge c 7 with h7 | h7
  · refine ⟨?_, .inl (by omega)⟩
    unfold pieceS
    rw [if_pos (.inr (by omega))]
  · obtain ⟨d, rfl⟩ : ∃ d, c = d + 7 := ⟨c - 7, by omega⟩
    obtain ⟨x0, x1, x2, x3, h1, h2⟩ := piece_cons hs k b
    have hn := num_two (n := b.length) hb
    have e : (pieceB sm k b).take (d + 7) = x0 :: x1 :: x2 :: x3 :: UInt8.ofNat (b.length % 256) :: UInt8.ofNat (b.length / 256) :: UInt8.ofNat k :: b.take d := by rw [h2]; rfl
    have hnn : (((pieceB sm k b).take (d + 7)).getD 4 0).toNat + 256 * (((pieceB sm k b).take (d + 7)).getD 5 0).toNat = b.length := by
      rw [e]; simp only [List.getD_cons_succ, List.getD_cons_zero]; exact hn
    refine ⟨?_, .inr ⟨hnn, by omega⟩⟩
    unfold pieceS
    rw [hnn]
    split
    · rfl
    · rw [if_pos (.inr (.inl (by omega)))]
theorem drop_pad (n : Nat) (l : List UInt8) : (List.replicate n (0 : UInt8) ++ l).drop n = l := List.drop_left' (by simp)
/-- How many pieces there may be. -/
def needF (a : Nat) (b : List UInt8) : Nat := 2 * b.length + (if roomN a = 0 then 1 else 0) + 1
theorem need_next {a : Nat} {b : List UInt8} (h : ¬ b.length ≤ roomN a) : needF (a + padN a + 7 + roomN a) (b.drop (roomN a)) < needF a b := by
  unfold needF
  rw [List.length_drop]
  by_cases h0 : roomN a = 0
  · have h1 := pad_room a
    have h2 : ¬ roomN (a + padN a + 7 + roomN a) = 0 := by
      have e : (a + padN a) % 256 = 249 := by unfold roomN at h0; omega
      rw [h0]
      generalize a + padN a = s at *
      have e2 : padN (s + 7 + 0) = 0 := by unfold padN; rw [if_neg (by omega)]
      unfold roomN
      rw [e2]; omega
    rw [if_neg h2, if_pos h0]; omega
  · rw [if_neg h0]
    split <;> omega
theorem lay_step (sm : List UInt8 → List UInt8) (f a : Nat) (first : Bool) (b : List UInt8) : layF sm (f + 1) a first b = List.replicate (padN a) 0 ++ (pieceB sm (kindB first (decide (b.length ≤ roomN a))) (b.take (roomN a)) ++
      if b.length ≤ roomN a then [] else layF sm f (a + padN a + 7 + roomN a) false (b.drop (roomN a))) := rfl
theorem lay_last {sm : List UInt8 → List UInt8} {f a : Nat} {first : Bool} {b : List UInt8} (h : b.length ≤ roomN a) : layF sm (f + 1) a first b = List.replicate (padN a) 0 ++ pieceB sm (kindB first true) b := by
  rw [lay_step, decide_eq_true h, if_pos h, List.append_nil, List.take_of_length_le h]
theorem lay_more {sm : List UInt8 → List UInt8} {f a : Nat} {first : Bool} {b : List UInt8} (h : ¬ b.length ≤ roomN a) : layF sm (f + 1) a first b = List.replicate (padN a) 0 ++ (pieceB sm (kindB first false) (b.take (roomN a)) ++ layF sm f (a + padN a + 7 + roomN a) false (b.drop (roomN a))) := by
  rw [lay_step, decide_eq_false h, if_neg h]
theorem take_room {a : Nat} {b : List UInt8} (h : ¬ b.length ≤ roomN a) : (b.take (roomN a)).length = roomN a := by rw [List.length_take]; omega
/-- what is behind a whole piece -/
theorem drop_piece {sm : List UInt8 → List UInt8} (hs : ∀ l, (sm l).length = 4) (p k : Nat) (b X : List UInt8) : (List.replicate p (0 : UInt8) ++ (pieceB sm k b ++ X)).drop (p + 7 + b.length) = X := by
  rw [show p + 7 + b.length = p + (7 + b.length) by omega, ← List.drop_drop, drop_pad]
  exact List.drop_left' (rcPiece_len hs k b)
theorem rest_whole {sm : List UInt8 → List UInt8} (hs : ∀ l, (sm l).length = 4) : ∀ (f a : Nat) (b acc R : List UInt8) (g : Nat), needF a b ≤ f → (layF sm f a false b).length < g → restS sm g a (layF sm f a false b ++ R) acc = some (acc ++ b, a + (layF sm f a false b).length)
  | 0, a, b, acc, R, g, h, _ => by unfold needF at h; omega
  | f + 1, a, b, acc, R, 0, _, h => by omega
  | f + 1, a, b, acc, R, g + 1, h, hg => by
    obtain ⟨r1, r2, r3⟩ := pad_room a
    by_cases hl : b.length ≤ roomN a
    · rw [lay_last hl] at hg ⊢
      rw [List.append_assoc]
      unfold restS
      rw [drop_pad, pieceS_whole hs r1 hl (kind_bd _ _)]
      have e : kindB false true = 4 := rfl
      simp only [e]
      rw [if_neg (by decide), if_pos trivial]
      simp only [Option.some.injEq, Prod.mk.injEq, true_and, List.length_append, List.length_replicate, rcPiece_len hs]
      omega
    · have ht := take_room hl
      rw [lay_more hl] at hg ⊢
      simp only [List.length_append, List.length_replicate, rcPiece_len hs, ht] at hg
      rw [List.append_assoc, List.append_assoc]
      unfold restS
      rw [drop_pad, pieceS_whole hs r1 (by rw [ht]; exact Nat.le_refl _) (kind_bd _ _)]
      have e : kindB false false = 3 := rfl
      simp only [e, if_true]
      rw [drop_piece hs, ht, rest_whole hs f _ _ _ _ g (by have := need_next hl; omega) (by omega), List.append_assoc, List.take_append_drop]
      simp only [Option.some.injEq, Prod.mk.injEq, true_and, List.length_append, List.length_replicate, rcPiece_len hs, ht]
      omega
theorem need_first (a : Nat) (b : List UInt8) : needF a b ≤ 2 * b.length + 2 := by unfold needF; split <;> omega
theorem record_whole {sm : List UInt8 → List UInt8} (hs : ∀ l, (sm l).length = 4) (a : Nat) (b R : List UInt8) (g : Nat) (hg : (layB sm a b).length < g) : recordS sm g a (layB sm a b ++ R) = some (b, a + (layB sm a b).length) := by
  obtain ⟨r1, r2, r3⟩ := pad_room a
  have hn := need_first a b
  unfold layB at hg ⊢
  by_cases hl : b.length ≤ roomN a
  · rw [lay_last hl, List.append_assoc]
    unfold recordS
    rw [drop_pad, pieceS_whole hs r1 hl (kind_bd _ _)]
    have e : kindB true true = 1 := rfl
    simp only [e, if_true, Option.some.injEq, Prod.mk.injEq, true_and, List.length_append, List.length_replicate, rcPiece_len hs]
    omega
  · have ht := take_room hl
    rw [lay_more hl] at hg ⊢
    simp only [List.length_append, List.length_replicate, rcPiece_len hs, ht] at hg
    rw [List.append_assoc, List.append_assoc]
    unfold recordS
    rw [drop_pad, pieceS_whole hs r1 (by rw [ht]; exact Nat.le_refl _) (kind_bd _ _)]
    have e : kindB true false = 2 := rfl
    simp only [e]
    rw [if_neg (by decide), if_pos trivial, drop_piece hs, ht, rest_whole hs _ _ _ _ _ g (by have := need_next hl; omega) (by omega), List.take_append_drop]
    simp only [Option.some.injEq, Prod.mk.injEq, true_and, List.length_append, List.length_replicate, rcPiece_len hs, ht]
    omega
/-- a cut within the first piece -/
theorem cut_in {sm : List UInt8 → List UInt8} (hs : ∀ l, (sm l).length = 4) (p k c : Nat) (b X : List UInt8) (h : c < p + 7 + b.length) : ((List.replicate p (0 : UInt8) ++ (pieceB sm k b ++ X)).take c).drop p = (pieceB sm k b).take (c - p) := by
  rw [List.drop_take, drop_pad, List.take_append_of_le_length (by rw [rcPiece_len hs]; omega)]
/-- a cut behind it -/
theorem cut_out {sm : List UInt8 → List UInt8} (hs : ∀ l, (sm l).length = 4) (p k c : Nat) (b X : List UInt8) (h : p + 7 + b.length ≤ c) : (List.replicate p (0 : UInt8) ++ (pieceB sm k b ++ X)).take c = List.replicate p 0 ++ (pieceB sm k b ++ X.take (c - (p + 7 + b.length))) := by
  rw [List.take_append, List.take_append, List.length_replicate, rcPiece_len hs, List.take_of_length_le (by rw [List.length_replicate]; omega), List.take_of_length_le (by rw [rcPiece_len hs]; omega)]
  congr 3; omega
theorem rest_cut {sm : List UInt8 → List UInt8} (hs : ∀ l, (sm l).length = 4) : ∀ (f a : Nat) (b acc : List UInt8) (c g : Nat), needF a b ≤ f → c < (layF sm f a false b).length → restS sm g a ((layF sm f a false b).take c) acc = none
  | 0, a, b, acc, c, g, h, _ => by unfold needF at h; omega
  | f + 1, a, b, acc, c, 0, _, _ => rfl
  | f + 1, a, b, acc, c, g + 1, h, hc => by
    obtain ⟨r1, r2, r3⟩ := pad_room a
    by_cases hl : b.length ≤ roomN a
    · rw [lay_last hl] at hc ⊢
      simp only [List.length_append, List.length_replicate, rcPiece_len hs] at hc
      have e := cut_in hs (padN a) (kindB false true) c b [] (by omega)
      rw [List.append_nil] at e
      unfold restS
      rw [e, (pieceS_cut hs (by omega) (by omega)).1]
    · have ht := take_room hl
      rw [lay_more hl] at hc ⊢
      simp only [List.length_append, List.length_replicate, rcPiece_len hs, ht] at hc
      rcases Nat.lt_or_ge c (padN a + 7 + (b.take (roomN a)).length) with h1 | h1
      · unfold restS
        rw [cut_in hs _ _ _ _ _ h1, (pieceS_cut hs (by omega) (by omega)).1]
      · rw [cut_out hs _ _ _ _ _ h1]
        unfold restS
        rw [drop_pad, pieceS_whole hs r1 (by rw [ht]; exact Nat.le_refl _) (kind_bd _ _)]
        have e : kindB false false = 3 := rfl
        simp only [e, if_true]
        rw [drop_piece hs, ht]
        exact rest_cut hs f _ _ _ _ g (by have := need_next hl; omega) (by omega)
theorem record_cut {sm : List UInt8 → List UInt8} (hs : ∀ l, (sm l).length = 4) (a : Nat) (b : List UInt8) (c g : Nat) (hc : c < (layB sm a b).length) : recordS sm g a ((layB sm a b).take c) = none := by
  obtain ⟨r1, r2, r3⟩ := pad_room a
  have hn := need_first a b
  unfold layB at hc ⊢
  by_cases hl : b.length ≤ roomN a
  · rw [lay_last hl] at hc ⊢
    simp only [List.length_append, List.length_replicate, rcPiece_len hs] at hc
    have e := cut_in hs (padN a) (kindB true true) c b [] (by omega)
    rw [List.append_nil] at e
    unfold recordS
    rw [e, (pieceS_cut hs (by omega) (by omega)).1]
  · have ht := take_room hl
    rw [lay_more hl] at hc ⊢
    simp only [List.length_append, List.length_replicate, rcPiece_len hs, ht] at hc
    rcases Nat.lt_or_ge c (padN a + 7 + (b.take (roomN a)).length) with h1 | h1
    · unfold recordS
      rw [cut_in hs _ _ _ _ _ h1, (pieceS_cut hs (by omega) (by omega)).1]
    · rw [cut_out hs _ _ _ _ _ h1]
      unfold recordS
      rw [drop_pad, pieceS_whole hs r1 (by rw [ht]; exact Nat.le_refl _) (kind_bd _ _)]
      have e : kindB true false = 2 := rfl
      simp only [e]
      rw [if_neg (by decide), if_pos trivial, drop_piece hs, ht]
      exact rest_cut hs _ _ _ _ _ g (by have := need_next hl; omega) (by omega)
theorem num_piece {sm : List UInt8 → List UInt8} (hs : ∀ l, (sm l).length = 4) (k : Nat) {b : List UInt8} (hb : b.length ≤ 249) (X : List UInt8) : ((pieceB sm k b ++ X).getD 4 0).toNat + 256 * ((pieceB sm k b ++ X).getD 5 0).toNat = b.length := by
  obtain ⟨x0, x1, x2, x3, -, h2⟩ := piece_cons hs k b
  rw [h2]
  simp only [List.cons_append, List.getD_cons_succ, List.getD_cons_zero]
  exact num_two hb
/-- within a piece that is cut it is cut off -/
theorem torn_in {sm : List UInt8 → List UInt8} (hs : ∀ l, (sm l).length = 4) {a k c g : Nat} {first : Bool} {b r : List UInt8} (hb : b.length ≤ roomN a) (hc : c < 7 + b.length) (hr : r.drop (padN a) = (pieceB sm k b).take c) : tornS sm (g + 1) first a r = true := by
  obtain ⟨r1, r2, r3⟩ := pad_room a
  unfold tornS
  rw [hr]
  by_cases h7 : ((pieceB sm k b).take c).length < 7
  · rw [if_pos h7]
  · rw [if_neg h7]
    rcases (pieceS_cut hs (a := a) (k := k) (by omega) hc).2 with h | ⟨h1, h2⟩
    · exact absurd h h7
    · rw [h1, if_neg (by unfold roomN at hb; omega), if_pos h2]
theorem torn_cut {sm : List UInt8 → List UInt8} (hs : ∀ l, (sm l).length = 4) : ∀ (f a : Nat) (first : Bool) (b : List UInt8) (c g : Nat), needF a b ≤ f → c < (layF sm f a first b).length → c < g → tornS sm g first a ((layF sm f a first b).take c) = true
  | 0, a, first, b, c, g, h, _, _ => by unfold needF at h; omega
  | f + 1, a, first, b, c, 0, _, _, hg => by omega
  | f + 1, a, first, b, c, g + 1, h, hc, hg => by
    obtain ⟨r1, r2, r3⟩ := pad_room a
    by_cases hl : b.length ≤ roomN a
    · rw [lay_last hl] at hc ⊢
      simp only [List.length_append, List.length_replicate, rcPiece_len hs] at hc
      have e := cut_in hs (padN a) (kindB first true) c b [] (by omega)
      rw [List.append_nil] at e
      exact torn_in hs hl (by omega) e
    · have ht := take_room hl
      rw [lay_more hl] at hc ⊢
      simp only [List.length_append, List.length_replicate, rcPiece_len hs, ht] at hc
      rcases Nat.lt_or_ge c (padN a + 7 + (b.take (roomN a)).length) with h1 | h1
      · exact torn_in hs (by rw [ht]; exact Nat.le_refl _) (by omega) (cut_in hs _ _ _ _ _ h1)
      · rw [cut_out hs _ _ _ _ _ h1]
        unfold tornS
        rw [drop_pad, num_piece hs _ (by rw [ht]; exact r2), pieceS_whole hs r1 (by rw [ht]; exact Nat.le_refl _) (kind_bd _ _)]
        rw [if_neg (by rw [List.length_append, rcPiece_len hs]; omega), if_neg (by rw [ht]; unfold roomN; omega), if_neg (by rw [List.length_append, rcPiece_len hs]; omega)]
        have e : kindB first false = if first = true then 2 else 3 := by cases first <;> rfl
        simp only [e, if_true]
        rw [drop_piece hs, ht]
        exact torn_cut hs f _ false _ _ g (by have := need_next hl; omega) (by omega) (by omega)
/-- Records laid one behind the other, from a on. -/
def layAll (sm : List UInt8 → List UInt8) : Nat → List (List UInt8) → List UInt8
  | _, [] => []
  | a, b :: r => layB sm a b ++ layAll sm (a + (layB sm a b).length) r
/-- How many of them are whole within c bytes. -/
def fitK (sm : List UInt8 → List UInt8) : Nat → List (List UInt8) → Nat → Nat
  | _, [], _ => 0
  | a, b :: r, c => if (layB sm a b).length ≤ c then fitK sm (a + (layB sm a b).length) r (c - (layB sm a b).length) + 1 else 0
theorem record_none {sm : List UInt8 → List UInt8} (g a : Nat) : recordS sm g a [] = none := by
  unfold recordS
  rw [List.drop_nil]
  unfold pieceS
  rw [if_pos (.inr (by decide))]
theorem torn_none {sm : List UInt8 → List UInt8} (g a : Nat) : tornS sm (g + 1) true a [] = true := by
  unfold tornS
  rw [List.drop_nil, if_pos (by decide)]
/-- A log that is cut anywhere: the records that are whole are told, and it is cut off. -/
theorem rcRead_cut {sm : List UInt8 → List UInt8} (hs : ∀ l, (sm l).length = 4) : ∀ (rs : List (List UInt8)) (a c g : Nat), c ≤ (layAll sm a rs).length → rs.length < g →
    readS sm g a ((layAll sm a rs).take c) = (rs.take (fitK sm a rs c), a + (layAll sm a (rs.take (fitK sm a rs c))).length, true)
  | [], a, c, 0, _, h => by simp at h
  | [], a, c, g + 1, hc, _ => by
    have h0 : (layAll sm a []).take c = [] := by simp [layAll]
    rw [h0]
    unfold readS
    rw [record_none, torn_none]
    rfl
  | b :: rs, a, c, 0, _, h => by simp at h
  | b :: rs, a, c, g + 1, hc, hg => by
    by_cases hf : (layB sm a b).length ≤ c
    · have e : (layAll sm a (b :: rs)).take c = layB sm a b ++ (layAll sm (a + (layB sm a b).length) rs).take (c - (layB sm a b).length) := by
        rw [layAll, List.take_append, List.take_of_length_le hf]
      have hk : fitK sm a (b :: rs) c = fitK sm (a + (layB sm a b).length) rs (c - (layB sm a b).length) + 1 := by rw [fitK, if_pos hf]
      rw [e, hk]
      unfold readS
      rw [record_whole hs a b _ _ (by rw [List.length_append]; omega)]
      simp only
      rw [show a + (layB sm a b).length - a = (layB sm a b).length by omega, List.drop_left' rfl, rcRead_cut hs rs _ _ g (by rw [layAll, List.length_append] at hc; omega) (by simpa using hg)]
      rw [List.take_succ_cons, layAll, List.length_append, Nat.add_assoc]
    · have e : (layAll sm a (b :: rs)).take c = (layB sm a b).take c := by
        rw [layAll, List.take_append_of_le_length (by omega)]
      have hk : fitK sm a (b :: rs) c = 0 := by rw [fitK, if_neg hf]
      have hl : ((layB sm a b).take c).length = c := by rw [List.length_take]; omega
      rw [e, hk]
      unfold readS
      rw [record_cut hs a b c _ (by omega), hl]
      have ht : tornS sm (c + 1) true a ((layB sm a b).take c) = true := by
        unfold layB at hf ⊢
        exact torn_cut hs _ a true b c (c + 1) (need_first a b) (by omega) (by omega)
      rw [ht]
      rfl
theorem fitK_all {sm : List UInt8 → List UInt8} : ∀ (rs : List (List UInt8)) (a : Nat), fitK sm a rs (layAll sm a rs).length = rs.length
  | [], _ => rfl
  | b :: rs, a => by
    rw [layAll, fitK, List.length_append, if_pos (by omega), Nat.add_sub_cancel_left, fitK_all rs]; rfl
theorem fitK_le {sm : List UInt8 → List UInt8} : ∀ (rs : List (List UInt8)) (a c : Nat), fitK sm a rs c ≤ rs.length
  | [], _, _ => Nat.le_refl _
  | b :: rs, a, c => by
    rw [fitK]
    split
    · have := fitK_le rs (a + (layB sm a b).length) (c - (layB sm a b).length) (sm := sm)
      simp; omega
    · simp
end
end Go.Proofs.YtmmkgopnccfiiaaGreatDoor
/- Plain mathematics of records in blocks, as the program reads them: piece by piece, with what is begun; it tells what the record-wise reading tells. And a log's bytes hang on the place within its block alone. -/
namespace Go.Proofs.YtmmkgopnccfiiaaGreatDoor
set_option linter.unusedVariables false
/-- how many bytes the head at the front of r names -/
def szS (r : List UInt8) : Nat := (r.getD 4 0).toNat + 256 * (r.getD 5 0).toNat
/-- does the log end within the piece at place a, or ahead of it? -/
def rcCutS (a : Nat) (r : List UInt8) : Bool := decide (r.length < 7) || (decide (r.length < 7 + szS r) && decide (7 + szS r ≤ 256 - a % 256))
def beginsK (k : Nat) : Bool := k == 1 || k == 2
def endsK (k : Nat) : Bool := k == 1 || k == 4
/-- The reading: place, what is behind it, is a record begun, its bytes, the end of the last one. -/
def runC (sm : List UInt8 → List UInt8) : Nat → Nat → List UInt8 → Bool → List UInt8 → Nat → List (List UInt8) × Nat × Bool
  | 0, _, _, _, _, e => ([], e, false)
  | f + 1, a, r, bg, acc, e => match pieceS sm (a + padN a) (r.drop (padN a)) with
    | none => ([], e, rcCutS (a + padN a) (r.drop (padN a)))
    | some (k, b) => if beginsK k = bg then ([], e, false) else
      if endsK k then ((acc ++ b) :: (runC sm f (a + padN a + 7 + b.length) (r.drop (padN a + 7 + b.length)) false [] (a + padN a + 7 + b.length)).1,
        (runC sm f (a + padN a + 7 + b.length) (r.drop (padN a + 7 + b.length)) false [] (a + padN a + 7 + b.length)).2)
      else runC sm f (a + padN a + 7 + b.length) (r.drop (padN a + 7 + b.length)) true (acc ++ b) e
/-- What a piece tells of its place. -/
theorem pieceS_some {sm : List UInt8 → List UInt8} {a : Nat} {r : List UInt8} {k : Nat} {b : List UInt8} (h : pieceS sm a r = some (k, b)) :
    7 + b.length ≤ r.length ∧ 7 + b.length ≤ 256 - a % 256 ∧ b.length = szS r ∧ 1 ≤ k ∧ k ≤ 4 ∧ k = (r.getD 6 0).toNat ∧ b = (r.drop 7).take b.length := by
  unfold pieceS at h
  split at h
  · cases h
  · rename_i h1
    split at h
    · cases h
    · rename_i h2
      split at h
      · rename_i h3
        injection h with h
        injection h with h4 h5
        have hl : b.length = szS r := by
          rw [← h5, List.length_take, List.length_drop]
          unfold szS
          omega
        subst h4
        refine ⟨?_, ?_, hl, ?_, ?_, rfl, ?_⟩
        · rw [hl]; unfold szS; omega
        · rw [hl]; unfold szS; omega
        · omega
        · omega
        · rw [hl]; exact h5.symm
      · cases h
theorem torn_none_piece {sm : List UInt8 → List UInt8} {f a : Nat} {first : Bool} {r : List UInt8} (h : pieceS sm (a + padN a) (r.drop (padN a)) = none) : tornS sm (f + 1) first a r = rcCutS (a + padN a) (r.drop (padN a)) := by
  have hp := (pad_room a).1
  unfold tornS
  rw [h]
  generalize r.drop (padN a) = r' at *
  generalize a + padN a = a' at *
  unfold rcCutS szS
  by_cases h1 : r'.length < 7
  · rw [if_pos h1, decide_eq_true h1, Bool.true_or]
  · rw [if_neg h1, decide_eq_false h1, Bool.false_or]
    by_cases h2 : 256 - a' % 256 - 7 < (r'.getD 4 0).toNat + 256 * (r'.getD 5 0).toNat
    · rw [if_pos h2, decide_eq_false (p := 7 + ((r'.getD 4 0).toNat + 256 * (r'.getD 5 0).toNat) ≤ 256 - a' % 256) (by omega), Bool.and_false]
    · rw [if_neg h2, decide_eq_true (p := 7 + ((r'.getD 4 0).toNat + 256 * (r'.getD 5 0).toNat) ≤ 256 - a' % 256) (by omega), Bool.and_true]
      by_cases h3 : r'.length < 7 + ((r'.getD 4 0).toNat + 256 * (r'.getD 5 0).toNat)
      · rw [if_pos h3, decide_eq_true h3]
      · rw [if_neg h3, decide_eq_false h3]
theorem torn_some_piece {sm : List UInt8 → List UInt8} {f a : Nat} {first : Bool} {r : List UInt8} {k : Nat} {b : List UInt8} (h : pieceS sm (a + padN a) (r.drop (padN a)) = some (k, b)) :
    tornS sm (f + 1) first a r = if k = (if first then 2 else 3) then tornS sm f false (a + padN a + 7 + b.length) (r.drop (padN a + 7 + b.length)) else false := by
  obtain ⟨h1, h2, h3, -⟩ := pieceS_some h
  rw [h3] at h1 h2
  unfold szS at h1 h2
  rw [tornS, h, if_neg (by omega), if_neg (by omega), if_neg (by omega)]
theorem run_none {sm : List UInt8 → List UInt8} {f a : Nat} {r : List UInt8} (bg : Bool) (acc : List UInt8) (e : Nat) (h : pieceS sm (a + padN a) (r.drop (padN a)) = none) : runC sm (f + 1) a r bg acc e = ([], e, rcCutS (a + padN a) (r.drop (padN a))) := by
  rw [runC, h]
theorem run_bad {sm : List UInt8 → List UInt8} {f a : Nat} {r : List UInt8} {bg : Bool} (acc : List UInt8) (e : Nat) {k : Nat} {b : List UInt8} (h : pieceS sm (a + padN a) (r.drop (padN a)) = some (k, b)) (hb : beginsK k = bg) : runC sm (f + 1) a r bg acc e = ([], e, false) := by
  rw [runC, h]; exact if_pos hb
theorem run_end {sm : List UInt8 → List UInt8} {f a : Nat} {r : List UInt8} {bg : Bool} (acc : List UInt8) (e : Nat) {k : Nat} {b : List UInt8} (h : pieceS sm (a + padN a) (r.drop (padN a)) = some (k, b)) (hb : beginsK k = !bg) (he : endsK k = true) :
    runC sm (f + 1) a r bg acc e = ((acc ++ b) :: (runC sm f (a + padN a + 7 + b.length) (r.drop (padN a + 7 + b.length)) false [] (a + padN a + 7 + b.length)).1,
        (runC sm f (a + padN a + 7 + b.length) (r.drop (padN a + 7 + b.length)) false [] (a + padN a + 7 + b.length)).2) := by
  rw [runC, h]
  have hn : ¬ beginsK k = bg := by rw [hb]; cases bg <;> decide
  simp only [if_neg hn, he, if_true]
theorem run_on {sm : List UInt8 → List UInt8} {f a : Nat} {r : List UInt8} {bg : Bool} (acc : List UInt8) (e : Nat) {k : Nat} {b : List UInt8} (h : pieceS sm (a + padN a) (r.drop (padN a)) = some (k, b)) (hb : beginsK k = !bg) (he : endsK k = false) :
    runC sm (f + 1) a r bg acc e = runC sm f (a + padN a + 7 + b.length) (r.drop (padN a + 7 + b.length)) true (acc ++ b) e := by
  rw [runC, h]
  have hn : ¬ beginsK k = bg := by rw [hb]; cases bg <;> decide
  simp only [if_neg hn, he, Bool.false_eq_true, if_false]
/-- Enough rounds are enough. -/
theorem torn_fuel {sm : List UInt8 → List UInt8} : ∀ (f g a : Nat) (first : Bool) (r : List UInt8), r.length < f → r.length < g → tornS sm f first a r = tornS sm g first a r
  | 0, _, _, _, _, h, _ => by omega
  | _ + 1, 0, _, _, _, _, h => by omega
  | f + 1, g + 1, a, first, r, hf, hg => by
    cases h : pieceS sm (a + padN a) (r.drop (padN a)) with
    | none => rw [torn_none_piece h, torn_none_piece h]
    | some kb =>
      obtain ⟨k, b⟩ := kb
      have hl := (pieceS_some h).1
      rw [List.length_drop] at hl
      rw [torn_some_piece h, torn_some_piece h, torn_fuel f g _ false _ (by rw [List.length_drop]; omega) (by rw [List.length_drop]; omega)]
/-- Where a record ends, and that it has some bytes. -/
theorem rest_some {sm : List UInt8 → List UInt8} : ∀ (f a : Nat) (r acc b : List UInt8) (e : Nat), restS sm f a r acc = some (b, e) → a + 7 ≤ e ∧ e ≤ a + r.length
  | 0, _, _, _, _, _, h => by cases h
  | f + 1, a, r, acc, b, e, h => by
    unfold restS at h
    cases hp : pieceS sm (a + padN a) (r.drop (padN a)) with
    | none => rw [hp] at h; cases h
    | some kb =>
      obtain ⟨k, c⟩ := kb
      have hl := (pieceS_some hp).1
      rw [List.length_drop] at hl
      rw [hp] at h
      simp only at h
      split at h
      · have := rest_some f _ _ _ _ _ h
        rw [List.length_drop] at this
        omega
      · split at h
        · injection h with h; injection h with h1 h2; omega
        · cases h
/-- The two readings agree. -/
theorem run_read {sm : List UInt8 → List UInt8} : ∀ (f : Nat), (∀ (g a : Nat) (r : List UInt8), r.length < f → r.length < g → runC sm f a r false [] a = readS sm g a r) ∧
    (∀ (g h a : Nat) (r acc : List UInt8) (e : Nat), r.length < f → r.length < g → r.length < h → runC sm f a r true acc e = match restS sm h a r acc with
      | none => ([], e, tornS sm h false a r)
      | some (b, e2) => (b :: (readS sm g e2 (r.drop (e2 - a))).1, (readS sm g e2 (r.drop (e2 - a))).2))
  | 0 => ⟨fun _ _ _ h _ => by omega, fun _ _ _ _ _ _ h _ => by omega⟩
  | f + 1 => by
    obtain ⟨ih1, ih2⟩ := run_read (sm := sm) f
    refine ⟨fun g a r hf hg => ?_, fun g h a r acc e hf hg hh => ?_⟩
    · obtain ⟨g, rfl⟩ : ∃ g', g = g' + 1 := ⟨g - 1, by omega⟩
      unfold readS recordS
      cases hp : pieceS sm (a + padN a) (r.drop (padN a)) with
      | none => rw [run_none _ _ _ hp]; simp only; rw [torn_none_piece hp]
      | some kb =>
        obtain ⟨k, b⟩ := kb
        obtain ⟨hl, -, -, k1, k4, -⟩ := pieceS_some hp
        rw [List.length_drop] at hl
        have hd : (r.drop (padN a + 7 + b.length)).length = r.length - (padN a + 7 + b.length) := List.length_drop
        have hk : k = 1 ∨ k = 2 ∨ k = 3 ∨ k = 4 := by omega
        rcases hk with rfl | rfl | rfl | rfl
        · rw [run_end [] a hp rfl rfl, ih1 g _ _ (by omega) (by omega)]
          simp only [if_true, List.nil_append]
          rw [show a + padN a + 7 + b.length - a = padN a + 7 + b.length by omega]
        · rw [run_on [] a hp rfl rfl, ih2 g (r.length + 1) _ _ _ _ (by omega) (by omega) (by omega)]
          simp only [List.nil_append, show ¬ (2 : Nat) = 1 by decide, if_false, if_true]
          cases hr : restS sm (r.length + 1) (a + padN a + 7 + b.length) (r.drop (padN a + 7 + b.length)) b with
          | none =>
            simp only
            rw [torn_some_piece hp, if_pos rfl, if_pos rfl, torn_fuel (r.length + 1) r.length _ _ _ (by omega) (by omega)]
          | some be =>
            obtain ⟨b2, e2⟩ := be
            have he := rest_some _ _ _ _ _ _ hr
            simp only
            rw [List.drop_drop, show padN a + 7 + b.length + (e2 - (a + padN a + 7 + b.length)) = e2 - a by omega]
        · rw [run_bad (bg := false) [] a hp rfl]
          simp only [show ¬ (3 : Nat) = 1 by decide, show ¬ (3 : Nat) = 2 by decide, if_false]
          rw [torn_some_piece hp, if_neg (by decide)]
        · rw [run_bad (bg := false) [] a hp rfl]
          simp only [show ¬ (4 : Nat) = 1 by decide, show ¬ (4 : Nat) = 2 by decide, if_false]
          rw [torn_some_piece hp, if_neg (by decide)]
    · obtain ⟨h, rfl⟩ : ∃ h', h = h' + 1 := ⟨h - 1, by omega⟩
      rw [restS]
      cases hp : pieceS sm (a + padN a) (r.drop (padN a)) with
      | none => rw [run_none _ _ _ hp]; simp only; rw [torn_none_piece hp]
      | some kb =>
        obtain ⟨k, b⟩ := kb
        obtain ⟨hl, -, -, k1, k4, -⟩ := pieceS_some hp
        rw [List.length_drop] at hl
        have hd : (r.drop (padN a + 7 + b.length)).length = r.length - (padN a + 7 + b.length) := List.length_drop
        have hk : k = 1 ∨ k = 2 ∨ k = 3 ∨ k = 4 := by omega
        rcases hk with rfl | rfl | rfl | rfl
        · rw [run_bad (bg := true) acc e hp rfl]
          simp only [show ¬ (1 : Nat) = 3 by decide, show ¬ (1 : Nat) = 4 by decide, if_false]
          rw [torn_some_piece hp, if_neg (by decide)]
        · rw [run_bad (bg := true) acc e hp rfl]
          simp only [show ¬ (2 : Nat) = 3 by decide, show ¬ (2 : Nat) = 4 by decide, if_false]
          rw [torn_some_piece hp, if_neg (by decide)]
        · rw [run_on acc e hp rfl rfl, ih2 g h _ _ _ _ (by omega) (by omega) (by omega)]
          simp only [if_true]
          cases hr : restS sm h (a + padN a + 7 + b.length) (r.drop (padN a + 7 + b.length)) (acc ++ b) with
          | none =>
            simp only
            rw [torn_some_piece hp, if_pos (by decide)]
          | some be =>
            obtain ⟨b2, e2⟩ := be
            have he := rest_some _ _ _ _ _ _ hr
            simp only
            rw [List.drop_drop, show padN a + 7 + b.length + (e2 - (a + padN a + 7 + b.length)) = e2 - a by omega]
        · rw [run_end acc e hp rfl rfl, ih1 g _ _ (by omega) (by omega)]
          simp only [show ¬ (4 : Nat) = 3 by decide, if_true, if_false]
          rw [show a + padN a + 7 + b.length - a = padN a + 7 + b.length by omega]
/-- A log is read so. -/
def readC (sm : List UInt8 → List UInt8) (log : List UInt8) : List (List UInt8) × Nat × Bool := runC sm (log.length + 1) 0 log false [] 0
theorem readC_is {sm : List UInt8 → List UInt8} (log : List UInt8) : readC sm log = readS sm (log.length + 1) 0 log := (run_read _).1 _ _ _ (by omega) (by omega)
/-- Enough rounds are enough, in a log that is cut. -/
theorem readS_fuel {sm : List UInt8 → List UInt8} : ∀ (f g a : Nat) (r : List UInt8), r.length < f → r.length < g → readS sm f a r = readS sm g a r := fun f g a r hf hg => by
  rw [← (run_read (r.length + 1)).1 f a r (by omega) hf, (run_read (r.length + 1)).1 g a r (by omega) hg]
/-- What is read of a log of laid records that is cut at c. -/
theorem readC_cut {sm : List UInt8 → List UInt8} (hs : ∀ l, (sm l).length = 4) (rs : List (List UInt8)) (c : Nat) (hc : c ≤ (layAll sm 0 rs).length) :
    readC sm ((layAll sm 0 rs).take c) = (rs.take (fitK sm 0 rs c), (layAll sm 0 (rs.take (fitK sm 0 rs c))).length, true) := by
  rw [readC_is, readS_fuel _ (((layAll sm 0 rs).take c).length + rs.length + 1) _ _ (by omega) (by omega)]
  have := rcRead_cut hs rs 0 c (((layAll sm 0 rs).take c).length + rs.length + 1) hc (by omega)
  rwa [Nat.zero_add] at this
theorem readC_all {sm : List UInt8 → List UInt8} (hs : ∀ l, (sm l).length = 4) (rs : List (List UInt8)) : readC sm (layAll sm 0 rs) = (rs, (layAll sm 0 rs).length, true) := by
  have := readC_cut hs rs (layAll sm 0 rs).length (Nat.le_refl _)
  rwa [fitK_all, List.take_length, List.take_length] at this
/-- Only the place within the block counts. -/
theorem pad_mod (a : Nat) : padN (a % 256) = padN a := by unfold padN; rw [Nat.mod_mod]
theorem room_mod (a : Nat) : roomN (a % 256) = roomN a := by
  unfold roomN
  rw [pad_mod]
  omega
theorem layF_mod (sm : List UInt8 → List UInt8) : ∀ (f a a' : Nat) (first : Bool) (b : List UInt8), a % 256 = a' % 256 → layF sm f a first b = layF sm f a' first b
  | 0, _, _, _, _, _ => rfl
  | f + 1, a, a', first, b, h => by
    have hp : padN a = padN a' := by rw [← pad_mod a, h, pad_mod]
    have hr : roomN a = roomN a' := by rw [← room_mod a, h, room_mod]
    rw [lay_step, lay_step, hp, hr, layF_mod sm f (a + padN a' + 7 + roomN a') (a' + padN a' + 7 + roomN a') false _ (by omega)]
theorem layB_mod (sm : List UInt8 → List UInt8) (a : Nat) (b : List UInt8) : layB sm (a % 256) b = layB sm a b := layF_mod sm _ _ _ _ _ (Nat.mod_mod _ _)
/-- A record that goes whole into the block. -/
theorem layB_whole (sm : List UInt8 → List UInt8) (a : Nat) (b : List UInt8) (h : b.length ≤ roomN a) : layB sm a b = List.replicate (padN a) 0 ++ pieceB sm 1 b := lay_last h
/-- Pieces that begin at a block's beginning: middle ones, then the last one. -/
def midB (sm : List UInt8 → List UInt8) : Nat → List UInt8 → List UInt8
  | 0, _ => []
  | f + 1, b => if b.length ≤ 249 then pieceB sm 4 b else pieceB sm 3 (b.take 249) ++ midB sm f (b.drop 249)
theorem mid_lay (sm : List UInt8 → List UInt8) : ∀ (f a : Nat) (b : List UInt8), a % 256 = 0 → layF sm f a false b = midB sm f b
  | 0, _, _, _ => rfl
  | f + 1, a, b, h => by
    have hp : padN a = 0 := by unfold padN; rw [if_neg (by omega)]
    have hr : roomN a = 249 := by unfold roomN; rw [hp]; omega
    unfold midB
    by_cases hl : b.length ≤ 249
    · rw [lay_last (by omega), hp, if_pos hl]; rfl
    · rw [lay_more (by omega), hp, hr, if_neg hl, mid_lay sm f _ _ (by omega)]; rfl
theorem mid_fuel (sm : List UInt8 → List UInt8) : ∀ (f g : Nat) (b : List UInt8), b.length < f → b.length < g → midB sm f b = midB sm g b
  | 0, _, _, h, _ => by omega
  | _ + 1, 0, _, _, h => by omega
  | f + 1, g + 1, b, hf, hg => by
    unfold midB
    split
    · rfl
    · rw [mid_fuel sm f g _ (by rw [List.length_drop]; omega) (by rw [List.length_drop]; omega)]
def midsB (sm : List UInt8 → List UInt8) (b : List UInt8) : List UInt8 := midB sm (b.length + 1) b
theorem mids_last (sm : List UInt8 → List UInt8) (b : List UInt8) (h : b.length ≤ 249) : midsB sm b = pieceB sm 4 b := by unfold midsB midB; rw [if_pos h]
theorem mids_more (sm : List UInt8 → List UInt8) (b : List UInt8) (h : ¬ b.length ≤ 249) : midsB sm b = pieceB sm 3 (b.take 249) ++ midsB sm (b.drop 249) := by
  unfold midsB
  rw [midB, if_neg h, mid_fuel sm b.length ((b.drop 249).length + 1) _ (by rw [List.length_drop]; omega) (by omega)]
/-- A record that goes on into further blocks. -/
theorem layB_more (sm : List UInt8 → List UInt8) (a : Nat) (b : List UInt8) (h : ¬ b.length ≤ roomN a) : layB sm a b = List.replicate (padN a) 0 ++ (pieceB sm 2 (b.take (roomN a)) ++ midsB sm (b.drop (roomN a))) := by
  have h1 := pad_room a
  unfold layB
  rw [show 2 * b.length + 2 = (2 * b.length + 1) + 1 by omega, lay_more h, mid_lay sm _ _ _ (by unfold roomN; omega)]
  unfold midsB
  rw [mid_fuel sm (2 * b.length + 1) ((b.drop (roomN a)).length + 1) _ (by rw [List.length_drop]; omega) (by omega)]
  rfl
/-- Records laid one behind the other, one more. -/
theorem layAll_snoc (sm : List UInt8 → List UInt8) : ∀ (rs : List (List UInt8)) (a : Nat) (b : List UInt8), layAll sm a (rs ++ [b]) = layAll sm a rs ++ layB sm (a + (layAll sm a rs).length) b
  | [], a, b => by simp [layAll]
  | c :: rs, a, b => by
    rw [List.cons_append, layAll, layAll, layAll_snoc sm rs, List.length_append, List.append_assoc, Nat.add_assoc]
/-- How many are whole: those whose bytes go within the cut. -/
theorem fitK_spec {sm : List UInt8 → List UInt8} : ∀ (rs : List (List UInt8)) (a c j : Nat), j ≤ rs.length → ((layAll sm a (rs.take j)).length ≤ c ↔ j ≤ fitK sm a rs c)
  | [], a, c, j, h => by
    obtain rfl : j = 0 := by simpa using h
    simp [layAll]
  | b :: rs, a, c, 0, h => by simp [layAll]
  | b :: rs, a, c, j + 1, h => by
    rw [List.take_succ_cons, layAll, List.length_append, fitK]
    by_cases hb : (layB sm a b).length ≤ c
    · rw [if_pos hb]
      have := fitK_spec rs (a + (layB sm a b).length) (c - (layB sm a b).length) j (by simpa using h) (sm := sm)
      omega
    · rw [if_neg hb]; omega
end Go.Proofs.YtmmkgopnccfiiaaGreatDoor
/- reclog's small functions: where the next piece begins, a head's numbers, within the block, cut off. -/
namespace Go.Proofs.YtmmkgopnccfiiaaGreatDoor
set_option linter.unusedVariables false
open Go.RowKit
/-- A sum's four bytes. -/
def smN (l : List UInt8) : List UInt8 := fixN 4 (moreN 0 l)
theorem smN_len (l : List UInt8) : (smN l).length = 4 := fixN_len _ _
theorem fix_unf : ∀ (k : Nat) (l : List UInt8), l.length = k → fixN k (unfN l) = l
  | 0, l, h => by rw [List.eq_nil_of_length_eq_zero h]; rfl
  | k + 1, [], h => by simp at h
  | k + 1, b :: l, h => by
    have hb : b.toNat < 256 := b.toNat_lt
    have e1 : (b.toNat + 256 * unfN l) % 256 = b.toNat := by omega
    have e2 : (b.toNat + 256 * unfN l) / 256 = unfN l := by omega
    rw [unfN, fixN, e1, e2, fix_unf k l (by simpa using h)]
    simp
/-- The sum that a head holds is that of what follows it. -/
theorem sum_is {r l : List UInt8} (h : 4 ≤ r.length) : (unfK 4 r = moreN 0 l) ↔ r.take 4 = smN l := by
  have hl : (r.take 4).length = 4 := by rw [List.length_take]; omega
  unfold unfK smN
  rw [if_pos h]
  refine ⟨fun e => ?_, fun e => ?_⟩
  · rw [← e, fix_unf 4 _ hl]
  · rw [e, unf_fix 4 _ (Nat.lt_of_lt_of_le (moreN_lt (by decide) l) (by decide))]
set_option maxHeartbeats 400000 in
theorem next_any (a : Nat) (ha : a ≤ 10000000000000) (w : World) : Calls Tryz.prog 87 #[.int .i64 (a : Int)] w fun e w' => e = .returned (.int .i64 ((a + padN a : Nat) : Int)) ∧ w = w' := by
  unfold padN
  by_cases h : 256 - a % 256 < 7
  · rw [if_pos h]
    have hz : (256 : Int) - (a : Int) % 256 < 7 := by omega
    go_enter Tryz.func87, Tryz.ntmps87
    go_wp2
    go_ret
    refine ⟨?_, rfl⟩
    have e : (a : Int) + (256 - (a : Int) % 256) = ((a + (256 - a % 256) : Nat) : Int) := by omega
    rw [← e]; rfl
  · rw [if_neg h]
    have hz : ¬ (256 : Int) - (a : Int) % 256 < 7 := by omega
    go_enter Tryz.func87, Tryz.ntmps87
    go_wp2
    go_ret
    exact ⟨rfl, rfl⟩
set_option maxHeartbeats 400000 in
theorem head_any (s : Option Addr) (len cap a : Nat) (ha : a ≤ 10000000000000) (hl : len ≤ 1000000000000) (w : World) : Calls Tryz.prog 135 #[.slice s len cap, .int .i64 (a : Int)] w fun e w' => e = .returned (.bool (decide (7 ≤ len - a))) ∧ w = w' := by
  have hz : decide (7 ≤ len - a) = decide ((7 : Int) ≤ (len : Int) - (a : Int)) := by
    by_cases h : 7 ≤ len - a
    · rw [decide_eq_true h, decide_eq_true (by omega)]
    · rw [decide_eq_false h, decide_eq_false (by omega)]
  rw [hz]
  go_enter Tryz.func135, Tryz.ntmps135
  go_wp2
  go_ret
  exact ⟨rfl, rfl⟩
set_option maxHeartbeats 400000 in
theorem block_any (a b : Nat) (ha : a ≤ 10000000000000) (hb : b ≤ 20000000000000) (w : World) : Calls Tryz.prog 137 #[.int .i64 (a : Int), .int .i64 (b : Int)] w fun e w' => e = .returned (.bool (decide (b ≤ a - a % 256 + 256))) ∧ w = w' := by
  have hz : decide (b ≤ a - a % 256 + 256) = decide ((b : Int) ≤ (a : Int) - (a : Int) % 256 + 256) := by
    by_cases h : b ≤ a - a % 256 + 256
    · rw [decide_eq_true h, decide_eq_true (by omega)]
    · rw [decide_eq_false h, decide_eq_false (by omega)]
  rw [hz]
  go_enter Tryz.func137, Tryz.ntmps137
  go_wp2
  go_ret
  exact ⟨rfl, rfl⟩
set_option maxHeartbeats 1000000 in
theorem ending_any (s : Option Addr) (len cap a : Nat) (log : List UInt8) (hl : log.length ≤ 1000000000000) (ha : a + 7 ≤ log.length) (w : World) (h : RdB w (.slice s len cap) log) :
    Calls Tryz.prog 136 #[.slice s len cap, .int .i64 (a : Int)] w fun e w' => e = .returned (.int .i64 ((a + 7 + szS (log.drop a) : Nat) : Int)) ∧ DrN w w' := by
  obtain ⟨x, hx⟩ : ∃ x, log[a + 4]? = some x := ⟨_, List.getElem?_eq_getElem (by omega)⟩
  obtain ⟨y, hy⟩ : ∃ y, log[a + 5]? = some y := ⟨_, List.getElem?_eq_getElem (by omega)⟩
  have hs : szS (log.drop a) = x.toNat + 256 * y.toNat := by
    unfold szS
    rw [List.getD_eq_getElem?_getD, List.getD_eq_getElem?_getD, List.getElem?_drop, List.getElem?_drop, hx, hy]; rfl
  obtain ⟨b, off, rfl, hb, c1⟩ := h.at (a + 4) x hx
  obtain ⟨b', off', e, -, c2⟩ := h.at (a + 5) y hy
  simp only [Option.some.injEq, Addr.mk.injEq, and_true] at e
  obtain ⟨rfl, rfl⟩ := e
  obtain ⟨_, _, _, e, hlen, hc⟩ := h.form
  simp only [Value.slice.injEq] at e
  obtain ⟨-, rfl, rfl⟩ := e
  obtain ⟨hc1, hc2⟩ := hc (by omega)
  unfold maxLen at hc2
  have hxb : x.toNat < 256 := x.toNat_lt
  have hyb : y.toNat < 256 := y.toNat_lt
  rw [hs]
  generalize x.toNat = m at *
  generalize y.toNat = n at *
  have ha2 : a ≤ 1000000000000 := by omega
  have hl2 : len ≤ 1000000000000 := by omega
  have hz1 : (a : Int) + 4 < (len : Int) := by omega
  have hz2 : (a : Int) + 5 < (len : Int) := by omega
  have t4 : ((a : Int) + 4).toNat = a + 4 := by omega
  have t5 : ((a : Int) + 5).toNat = a + 5 := by omega
  have z4 : (0 : Int) ≤ (a : Int) + 4 := by omega
  have z5 : (0 : Int) ≤ (a : Int) + 5 := by omega
  clear hx hy hs h hc hlen hl ha
  go_enter Tryz.func136, Tryz.ntmps136
  have f7 : IntKind.i64.wrap ((a : Int) + 7) = (a : Int) + 7 := IntWalk.i64_in _ (by omega)
  have f4 : IntKind.i64.wrap ((a : Int) + 4) = (a : Int) + 4 := IntWalk.i64_in _ (by omega)
  have f5 : IntKind.i64.wrap ((a : Int) + 5) = (a : Int) + 5 := IntWalk.i64_in _ (by omega)
  have f8 : IntKind.i64.wrap (m : Int) = (m : Int) := IntWalk.i64_in _ (by omega)
  have f9 : IntKind.i64.wrap (n : Int) = (n : Int) := IntWalk.i64_in _ (by omega)
  have f10 : IntKind.i64.wrap ((a : Int) + 7 + (m : Int)) = (a : Int) + 7 + (m : Int) := IntWalk.i64_in _ (by omega)
  have f11 : IntKind.i64.wrap ((n : Int) * 256) = (n : Int) * 256 := IntWalk.i64_in _ (by omega)
  have f12 : IntKind.i64.wrap ((a : Int) + 7 + (m : Int) + (n : Int) * 256) = (a : Int) + 7 + (m : Int) + (n : Int) * 256 := IntWalk.i64_in _ (by omega)
  go_wp2_with fail
  go_quiet (fail)
  go_wp2
  go_ret
  refine ⟨?_, _, rfl⟩
  have e : (a : Int) + 7 + (m : Int) + (n : Int) * 256 = ((a + 7 + (m + 256 * n) : Nat) : Int) := by omega
  rw [← e]; rfl
end Go.Proofs.YtmmkgopnccfiiaaGreatDoor
/- reclog.lay: a piece at the end of the log. -/
namespace Go.Proofs.YtmmkgopnccfiiaaGreatDoor
set_option linter.unusedVariables false
open Go.RowKit
theorem hd_row (b : List UInt8) (n k : Nat) (hn : b.length = n) (h : n ≤ 249) (hk : k ≤ 4) : ((hdB k b).map bv).toArray = #[.int .u8 (n : Int), .int .u8 ((n : Int) / 256), .int .u8 (k : Int)] := by
  subst hn
  unfold hdB
  simp only [List.map_cons, List.map_nil, bv]
  rw [byte_of _ (by omega), byte_of _ (by omega), byte_of _ (by omega), Nat.mod_eq_of_lt (by omega)]
  rfl
set_option maxHeartbeats 1000000 in
set_option maxRecDepth 100000 in
theorem lay_any (w0 w : World) (hw0 : Below w0.heap.size w0 w) (ht : TabAt w0) (k : Nat) (hk : k ≤ 4) (b : List UInt8) (hb : b.length ≤ 249) (ab : Option Addr) (nb cb : Nat) (hrd : RdB w0 (.slice ab nb cb) b)
    (l : List UInt8) (hl : l.length ≤ 100000000000000) (vl : Value) (hown : OwnB w0.heap.size w vl l) :
    Calls Tryz.prog 88 #[vl, .int .u8 (k : Int), .slice ab nb cb] w fun e w' => ∃ v, e = .returned v ∧ OwnB w0.heap.size w' v (l ++ pieceB smN k b) ∧ Below w0.heap.size w w' := by
  have hnb : nb = b.length := by have := (rdV_len hrd).1; rwa [List.length_map] at this
  have HR : Hid (RdB w0 (.slice ab nb cb) b) := Lib.hid hrd
  have hrow := hd_row b nb k hnb.symm (by omega) hk
  have hn : nb ≤ 249 := by omega
  have HLIT : Hid (OwnB w0.heap.size (w.alloc (.cells #[.int .u8 (nb : Int), .int .u8 ((nb : Int) / 256), .int .u8 (k : Int)] 5)) (.slice (some ⟨w.heap.size, 0, none⟩) 3 3) (hdB k b)) := Lib.hid (OwnB.lit w (hdB k b) _ 3 w0.heap.size rfl (by decide) hrow hw0.size)
  have HB : Hid (Below w.heap.size w (w.alloc (.cells #[.int .u8 (nb : Int), .int .u8 ((nb : Int) / 256), .int .u8 (k : Int)] 5))) := Lib.hid ((Below.refl _ w).alloc (Nat.le_refl _) _)
  obtain ⟨H, hH⟩ : ∃ H, hdB k b = H := ⟨_, rfl⟩
  have HP : Hid (pieceB smN k b = fixN 4 (moreN 0 (H ++ b)) ++ (H ++ b)) := Lib.hid (by rw [← hH]; rfl)
  have hHl : H.length = 3 := by rw [← hH]; rfl
  rw [hH] at HLIT
  clear hrow hH hnb hrd
  go_enter Tryz.func88, Tryz.ntmps88
  go_upto_region 2 with fail
  generalize w.alloc (.cells #[.int .u8 (nb : Int), .int .u8 ((nb : Int) / 256), .int .u8 (k : Int)] 5) = w2 at HLIT HB ⊢
  have HB2 : Hid (Below w0.heap.size w w2) := Lib.hid (HB.out.mono hw0.size)
  have HB0 : Hid (Below w0.heap.size w0 w2) := Lib.hid (hw0.trans HB2.out)
  have HS := Lib.hid (sum_any _ _ w2 (ht.below HB0.out) HLIT.out.rd)
  have HM : Hid (Calls Tryz.prog 123 #[.int .u32 (moreN 0 H : Int), .slice ab nb cb] w2 (U32Res (moreN 0 (H ++ b)) w2)) := Lib.hid (by
    have := more_any (moreN 0 H) (moreN_lt (by decide) H) _ b w2 (ht.below HB0.out) (HR.out.below HB0.out)
    rwa [moreN_app] at this)
  have HF := Lib.hid (put32_any (moreN 0 (H ++ b)) (moreN_lt (by decide) _))
  generalize moreN 0 (H ++ b) = r at *
  generalize moreN 0 H = s at *
  have HLI := HLIT.out
  have HLT : Hid (∀ g, vl.ownBlock = some g → g < w.heap.size) := Lib.hid fun g hg => (hown.where g hg).2
  have HO := Lib.hid (hown.below HB.out)
  obtain ⟨F, hF⟩ : ∃ F, fixN 4 r = F := ⟨_, rfl⟩
  have hFl : F.length = 4 := by rw [← hF]; exact fixN_len _ _
  rw [hF] at HF HP
  clear HB hF hown
  go_wp2_with fail
  refine HS.out.mono ?_
  rintro e w' ⟨rfl, rfl⟩
  go_wp2_with fail
  refine HM.out.mono ?_
  rintro e w' ⟨rfl, rfl⟩
  go_wp2_with fail
  refine (HF.out _).mono ?_
  rintro e w3 ⟨v3, rfl, o3, b3⟩
  clear HS HM HF
  have HB3 := Lib.hid (HB2.out.trans (b3.mono HB0.out.size))
  have hs3 := (hw0.trans HB3.out).size
  have o4 := HO.out.below b3
  have HLI3 := HLI.below b3
  clear HO HLI HLIT HB2 HB0
  go_wp2_with (at_builtin; refine wp_appGB _ _ (by rfl) (by rfl) (by rfl) o4 (by rfl) o3.rd ?c1 hs3 ?_)
  case c1 => omega
  intro v5 w5 o5 b5 g5 l5
  have HB5 := Lib.hid (HB3.out.trans b5)
  have hs5 := (hw0.trans HB5.out).size
  have hl5 : (l ++ F).length ≤ 100000000000004 := by rw [List.length_append]; omega
  have HLI5 : OwnB w0.heap.size w5 (.slice (some ⟨w.heap.size, 0, none⟩) 3 3) H := HLI3.kept g5 fun g hg e => by
    obtain rfl : w.heap.size = g := Option.some.inj hg
    exact Nat.lt_irrefl _ (HLT.out _ e)
  clear o3 o4 b3 HB3 g5 l5 b5 HLI3 HLT
  go_wp2_with (at_builtin; refine wp_appSB _ _ (by rfl) (by rfl) (by rfl) o5 (by rfl) HLI5.rd ?c2 hs5 ?_)
  case c2 => omega
  intro v6 w6 o6 b6
  have HB6 := Lib.hid (HB5.out.trans b6)
  have hs6 := (hw0.trans HB6.out).size
  have hl6 : (l ++ F ++ H).length ≤ 100000000000007 := by rw [List.length_append]; omega
  have HR6 := HR.out.below (hw0.trans HB6.out)
  clear o5 HLI5 b6 HB5
  go_wp2_with (at_builtin; refine wp_appSB _ _ (by rfl) (by rfl) (by rfl) o6 (by rfl) HR6 ?c3 hs6 ?_)
  case c3 => simp only [List.length_append] at *; omega
  intro v7 w7 o7 b7
  have HB7 := Lib.hid (HB6.out.trans b7)
  clear o6 b7 HB6 HR6
  go_wp2_with fail
  go_ret
  refine ⟨v7, rfl, ?_, HB7.out⟩
  rw [HP.out]
  simpa only [List.append_assoc] using o7
end Go.Proofs.YtmmkgopnccfiiaaGreatDoor
/- reclog.Append: the bytes that come behind a log, so that a record is laid. -/
namespace Go.Proofs.YtmmkgopnccfiiaaGreatDoor
set_option linter.unusedVariables false
open Go.RowKit
set_option maxHeartbeats 4000000 in
set_option maxRecDepth 100000 in
theorem rcAppend_any (a : Nat) (ha : a ≤ 9223372036854775807) (vb : Value) (b : List UInt8) (hb : b.length ≤ 1000000000000) (w : World) (ht : TabAt w) (hrd : RdB w vb b) :
    Calls Tryz.prog 52 #[.int .i64 (a : Int), vb] w (MkB (layB smN a b) w) := by
  rw [← layB_mod]
  obtain ⟨p, hp⟩ : ∃ p, a % 256 = p := ⟨_, rfl⟩
  have hpi : (a : Int) % 256 = (p : Int) := by omega
  have hmx : max (a : Int) 0 = (a : Int) := by omega
  have hp2 : p ≤ 255 := by omega
  have HN : Hid (∀ w, Calls Tryz.prog 87 #[.int .i64 (p : Int)] w fun e w' => e = .returned (.int .i64 ((p + padN p : Nat) : Int)) ∧ w = w') := Lib.hid (next_any p (by omega))
  obtain ⟨q, hq⟩ : ∃ q, padN p = q := ⟨_, rfl⟩
  obtain ⟨s, hs⟩ : ∃ s, p + q = s := ⟨_, rfl⟩
  obtain ⟨R, hR⟩ : ∃ R, roomN p = R := ⟨_, rfl⟩
  obtain ⟨r1, r2, r3⟩ := pad_room p
  have hRe : 256 - s % 256 - 7 = R := by rw [← hR, ← hs, ← hq]; rfl
  rw [hq, hs] at HN r1
  rw [hR] at r2
  rw [hq] at r3
  have e1 : (256 : Int) - (s : Int) % 256 - 7 = (R : Int) := by omega
  have e2 : (s : Int) - (p : Int) = (q : Int) := by omega
  have hs2 : s ≤ 300 := by omega
  have hmk := mkB_run q (by omega)
  have HQ := Lib.hid (mkB_own w q (by omega))
  have HB : Hid (Below w.heap.size w (w.alloc (.cells (madeCells #[.int .u8 0] q) 5))) := Lib.hid ((Below.refl _ w).alloc (Nat.le_refl _) _)
  rw [hp]
  obtain ⟨ab, nb, cb, rfl, hnb, hcb⟩ := hrd.form
  have HR : Hid (RdB w (.slice ab nb cb) b) := Lib.hid hrd
  have hnb2 : nb ≤ 1000000000000 := by omega
  have hcb0 := hcb
  clear hrd hRe hcb
  clear hp
  have hql : (List.replicate q (0 : UInt8)).length ≤ 6 := by rw [List.length_replicate]; exact r3
  obtain ⟨Q, hQ⟩ : ∃ Q, List.replicate q (0 : UInt8) = Q := ⟨_, rfl⟩
  rw [hQ] at HQ hql
  by_cases hle : b.length ≤ R
  · have hz : (nb : Int) ≤ (R : Int) := by omega
    have HP : Hid (layB smN p b = Q ++ pieceB smN 1 b) := Lib.hid (by rw [layB_whole smN p b (by rw [hR]; exact hle), hq, hQ])
    have hb2 : b.length ≤ 249 := by omega
    clear hq hs hR hnb hQ hle
    go_enter Tryz.func52, Tryz.ntmps52
    go_wp2_with fail
    refine (HN.out _).mono ?_
    rintro e w' ⟨rfl, rfl⟩
    go_upto_region 5 with fail
    clear hmk
    generalize w.alloc (.cells (madeCells #[.int .u8 0] q) 5) = w2 at HQ HB ⊢
    have HL := Lib.hid (lay_any w w2 HB.out ht 1 (by omega) b hb2 ab nb cb HR.out Q (by omega) _ HQ.out)
    go_wp2_with fail
    refine HL.out.mono ?_
    rintro e w3 ⟨v3, rfl, o3, b3⟩
    go_wp2
    go_ret
    exact ⟨v3, rfl, by rw [HP.out]; exact o3, HB.out.trans b3⟩
  · have hz : ¬ (nb : Int) ≤ (R : Int) := by omega
    have HP : Hid (layB smN p b = Q ++ (pieceB smN 2 (b.take R) ++ midsB smN (b.drop R))) := Lib.hid (by rw [layB_more smN p b (by rw [hR]; exact hle), hq, hQ, hR])
    have hT : (b.take R).length ≤ 249 := by rw [List.length_take]; omega
    have hRn : R ≤ nb := by omega
    have HTK : Hid (RdB w (.slice ab R cb) (b.take R)) := Lib.hid (HR.out.take R hRn)
    have HDR : Hid (RdB w (.slice (if cb = R then ab else ab.map (·.add R)) (nb - R) (cb - R)) (b.drop R)) := Lib.hid (HR.out.drop R hRn)
    have hcb : nb ≤ cb := (hcb0 (by omega)).1
    have hsl := fun W => sl_hB W ab nb cb R (by omega)
    have hsl2 := fun W => sl_lB W ab nb cb R hRn hcb
    obtain ⟨ad, had⟩ : ∃ ad, (if cb = R then ab else ab.map (·.add R)) = ad := ⟨_, rfl⟩
    simp only [had] at HDR hsl2
    have hpl : (Q ++ pieceB smN 2 (b.take R)).length ≤ 262 := by rw [List.length_append, rcPiece_len smN_len]; omega
    have hdl : (b.drop R).length = nb - R := by rw [List.length_drop]; omega
    obtain ⟨n1, hn1⟩ : ∃ n1, nb - R = n1 := ⟨_, rfl⟩
    obtain ⟨c1, hc1⟩ : ∃ c1, cb - R = c1 := ⟨_, rfl⟩
    rw [hn1, hc1] at HDR
    simp only [hn1, hc1] at hsl2
    rw [hn1] at hdl
    have hn1b : n1 ≤ 1000000000000 := by omega
    generalize b.drop R = D at *
    generalize b.take R = T at *
    obtain ⟨X, hX⟩ : ∃ X, layB smN p b = X := ⟨_, rfl⟩
    rw [hX] at HP ⊢
    clear hX hq hs hR hnb hQ hle HR had hn1 hc1 hcb0
    go_enter Tryz.func52, Tryz.ntmps52
    go_wp2_with fail
    refine (HN.out _).mono ?_
    rintro e w' ⟨rfl, rfl⟩
    go_upto_region 5 with fail
    clear hmk
    generalize w.alloc (.cells (madeCells #[.int .u8 0] q) 5) = w2 at HQ HB ⊢
    have HL := Lib.hid (lay_any w w2 HB.out ht 2 (by omega) T hT ab R cb HTK.out Q (by omega) _ HQ.out)
    go_wp2_with fail
    refine HL.out.mono ?_
    rintro e w3 ⟨v3, rfl, o3, b3⟩
    have HB3 := Lib.hid (HB.out.trans b3)
    have HO3 := Lib.hid o3
    clear HL HB HQ b3 o3 hsl
    go_wp2_with fail
    generalize pieceB smN 2 T = P2 at *
    clear HTK HN hsl2
    go_loopg [7, 1] n1 (fun kk v bb wr => ∃ (L E : List UInt8) (ae : Option Addr) (ne ce : Nat), bb = .slice ae ne ce ∧ ne ≤ kk ∧ E.length = ne ∧ Hid (RdB w (.slice ae ne ce) E) ∧ Hid (OwnB w.heap.size wr v L) ∧ Hid (Below w.heap.size w wr) ∧ L.length + 8 * ne ≤ 8000000000262 ∧ Hid (X = L ++ midsB smN E))
    case atStart => exact ⟨Q ++ P2, D, ad, n1, c1, rfl, Nat.le_refl _, hdl, HDR, HO3, HB3, by omega, Lib.hid (by rw [HP.out, List.append_assoc])⟩
    case round =>
      clear HP HDR HO3 HB3 hpl hdl
      obtain ⟨L, E, ae, ne, ce, rfl, hkk, hEl, HRE, HOL, HBL, hLl, HX⟩ := hrel
      have hw := HBL.out.size
      by_cases hlt : 249 < ne
      · have hz1 : (249 : Int) < (ne : Int) := by omega
        have hce : ne ≤ ce := by
          obtain ⟨_, _, _, e, -, hc⟩ := HRE.out.form
          simp only [Value.slice.injEq] at e
          obtain ⟨-, rfl, rfl⟩ := e
          exact (hc (by omega)).1
        have hTl : (E.take 249).length ≤ 249 := by rw [List.length_take]; omega
        have hT2 : (E.take 249).length = 249 := by rw [List.length_take]; omega
        have HTK : Hid (RdB w (.slice ae 249 ce) (E.take 249)) := Lib.hid (HRE.out.take 249 (by omega))
        obtain ⟨⟨ge, oe, rfl⟩, -⟩ := (rdV_len HRE.out).2 (by omega)
        have HDR : Hid (RdB w (.slice (some ⟨ge, oe + 249, none⟩) (ne - 249) (ce - 249)) (E.drop 249)) := Lib.hid (by
          have := HRE.out.drop 249 (by omega)
          rw [if_neg (by omega)] at this
          simpa only [Option.map_some, add_at] using this)
        have hdl : (E.drop 249).length = ne - 249 := by rw [List.length_drop]; omega
        have HXN : Hid (X = L ++ (pieceB smN 3 (E.take 249) ++ midsB smN (E.drop 249))) := Lib.hid (by rw [HX.out, mids_more smN E (by omega)])
        have hPl := rcPiece_len smN_len 3 (E.take 249)
        rw [hT2] at hPl
        have HLL : Hid ((L ++ pieceB smN 3 (E.take 249)).length + 8 * (ne - 249) ≤ 8000000000262) := Lib.hid (by rw [List.length_append, hPl]; omega)
        have HKK : Hid (ne - 249 < gk) := Lib.hid (by omega)
        generalize E.take 249 = T2 at *
        generalize E.drop 249 = D2 at *
        have HL := Lib.hid (lay_any w wr HBL.out ht 3 (by omega) T2 hTl (some ⟨ge, oe, none⟩) 249 ce HTK.out L (by omega) _ HOL.out)
        clear HTK HX HRE HOL hEl hPl hT2
        go_wp2_with fail
        refine HL.out.mono ?_
        rintro e w3 ⟨v3, rfl, o3, b3⟩
        have HB3 := Lib.hid (HBL.out.trans b3)
        have HO3 := Lib.hid o3
        clear HL o3 b3 HBL
        go_wp2_with fail
        go_roundg (ne - 249)
        case measure => have := HKK.out; omega
        case rel => exact ⟨_, D2, _, ne - 249, ce - 249, rfl, Nat.le_refl _, hdl, HDR, HO3, HB3, HLL.out, Lib.hid (by rw [HXN.out, List.append_assoc])⟩
      · have hz1 : ¬ (249 : Int) < (ne : Int) := by omega
        have HXN : Hid (X = L ++ pieceB smN 4 E) := Lib.hid (by rw [HX.out, mids_last smN E (by omega)])
        have HL := Lib.hid (lay_any w wr HBL.out ht 4 (by omega) E (by omega) ae ne ce HRE.out L (by omega) _ HOL.out)
        clear HX HRE HOL hEl
        go_wp2_with fail
        refine HL.out.mono ?_
        rintro e w3 ⟨v3, rfl, o3, b3⟩
        go_wp2
        go_ret
        exact ⟨v3, rfl, by rw [HXN.out]; exact o3, HBL.out.trans b3⟩
end Go.Proofs.YtmmkgopnccfiiaaGreatDoor
/- reclog: what a piece's kind says, whether a log is cut off, which piece stands at a place. -/
namespace Go.Proofs.YtmmkgopnccfiiaaGreatDoor
set_option linter.unusedVariables false
open Go.RowKit
def piV (k : Nat) (v : Value) (e : Nat) : Value := .agg #[.int .u8 (k : Int), v, .int .i64 (e : Int)]
set_option maxHeartbeats 1000000 in
theorem rcBegins_any (k : Nat) (v : Value) (e : Nat) (w : World) : Calls Tryz.prog 106 #[piV k v e] w fun x w' => x = .returned (.bool (beginsK k)) ∧ Below w.heap.size w w' := by
  have HP : Hid (Row3 (w.alloc (.cells #[.int .u8 (k : Int), v, .int .i64 (e : Int)] 144)) w.heap.size (.int .u8 (k : Int)) v (.int .i64 (e : Int)) ∧ Below w.heap.size w (w.alloc (.cells #[.int .u8 (k : Int), v, .int .i64 (e : Int)] 144))) :=
    Lib.hid ⟨Row3.new .., (Below.refl _ w).alloc (Nat.le_refl _) _⟩
  unfold piV
  obtain ⟨r, hr⟩ : ∃ r, beginsK k = r := ⟨_, rfl⟩
  have hrr : r = (k == 1 || k == 2) := hr.symm
  rw [hr]
  clear hr
  by_cases h1 : k = 1
  · have hz : ((k : Int) == 1) = true := by rw [beq_iff_eq]; omega
    obtain rfl : r = true := by rw [hrr, h1]; rfl
    clear h1 hrr
    go_enter Tryz.func106, Tryz.ntmps106
    go_upto_region 1 with fail
    generalize w.alloc (.cells #[.int .u8 (k : Int), v, .int .i64 (e : Int)] 144) = w1 at HP ⊢
    obtain ⟨⟨⟨c0, c1, c2⟩, -, hs⟩, HB⟩ := HP.out
    clear HP
    go_wp2
    go_ret
    exact ⟨rfl, HB⟩
  · have hz : ((k : Int) == 1) = false := by rw [beq_eq_false_iff_ne]; omega
    have hz2 : ((k : Int) == 2) = r := by
      rw [hrr, (by rw [beq_eq_false_iff_ne]; exact h1 : (k == 1) = false), Bool.false_or]
      by_cases h2 : k = 2
      · rw [h2]; rfl
      · rw [(by rw [beq_eq_false_iff_ne]; exact h2 : (k == 2) = false), beq_eq_false_iff_ne]; omega
    clear h1 hrr
    go_enter Tryz.func106, Tryz.ntmps106
    go_upto_region 1 with fail
    generalize w.alloc (.cells #[.int .u8 (k : Int), v, .int .i64 (e : Int)] 144) = w1 at HP ⊢
    obtain ⟨⟨⟨c0, c1, c2⟩, -, hs⟩, HB⟩ := HP.out
    clear HP
    go_wp2
    go_ret
    exact ⟨rfl, HB⟩
set_option maxHeartbeats 1000000 in
theorem ends_any (k : Nat) (v : Value) (e : Nat) (w : World) : Calls Tryz.prog 107 #[piV k v e] w fun x w' => x = .returned (.bool (endsK k)) ∧ Below w.heap.size w w' := by
  have HP : Hid (Row3 (w.alloc (.cells #[.int .u8 (k : Int), v, .int .i64 (e : Int)] 144)) w.heap.size (.int .u8 (k : Int)) v (.int .i64 (e : Int)) ∧ Below w.heap.size w (w.alloc (.cells #[.int .u8 (k : Int), v, .int .i64 (e : Int)] 144))) :=
    Lib.hid ⟨Row3.new .., (Below.refl _ w).alloc (Nat.le_refl _) _⟩
  unfold piV
  obtain ⟨r, hr⟩ : ∃ r, endsK k = r := ⟨_, rfl⟩
  have hrr : r = (k == 1 || k == 4) := hr.symm
  rw [hr]
  clear hr
  by_cases h1 : k = 1
  · have hz : ((k : Int) == 1) = true := by rw [beq_iff_eq]; omega
    obtain rfl : r = true := by rw [hrr, h1]; rfl
    clear h1 hrr
    go_enter Tryz.func107, Tryz.ntmps107
    go_upto_region 1 with fail
    generalize w.alloc (.cells #[.int .u8 (k : Int), v, .int .i64 (e : Int)] 144) = w1 at HP ⊢
    obtain ⟨⟨⟨c0, c1, c2⟩, -, hs⟩, HB⟩ := HP.out
    clear HP
    go_wp2
    go_ret
    exact ⟨rfl, HB⟩
  · have hz : ((k : Int) == 1) = false := by rw [beq_eq_false_iff_ne]; omega
    have hz2 : ((k : Int) == 4) = r := by
      rw [hrr, (by rw [beq_eq_false_iff_ne]; exact h1 : (k == 1) = false), Bool.false_or]
      by_cases h2 : k = 4
      · rw [h2]; rfl
      · rw [(by rw [beq_eq_false_iff_ne]; exact h2 : (k == 4) = false), beq_eq_false_iff_ne]; omega
    clear h1 hrr
    go_enter Tryz.func107, Tryz.ntmps107
    go_upto_region 1 with fail
    generalize w.alloc (.cells #[.int .u8 (k : Int), v, .int .i64 (e : Int)] 144) = w1 at HP ⊢
    obtain ⟨⟨⟨c0, c1, c2⟩, -, hs⟩, HB⟩ := HP.out
    clear HP
    go_wp2
    go_ret
    exact ⟨rfl, HB⟩
set_option maxHeartbeats 1000000 in
set_option maxRecDepth 100000 in
theorem iscut_any (s : Option Addr) (len cap a : Nat) (log : List UInt8) (hl : log.length ≤ 1000000000000) (ha : a ≤ 1000000000010) (w : World) (h : RdB w (.slice s len cap) log) :
    Calls Tryz.prog 105 #[.slice s len cap, .int .i64 (a : Int)] w fun e w' => e = .returned (.bool (rcCutS a (log.drop a))) ∧ Below w.heap.size w w' := by
  have hlen : len = log.length := by have := (rdV_len h).1; rwa [List.length_map] at this
  have HH := Lib.hid (head_any s len cap a (by omega) (by omega))
  have hdl : (log.drop a).length = len - a := by rw [List.length_drop, hlen]
  by_cases h7 : 7 ≤ len - a
  · have HE := Lib.hid (ending_any s len cap a log hl (by omega) w h)
    have hsz : szS (log.drop a) ≤ 65535 := by
      unfold szS
      have h1 := ((log.drop a).getD 4 0).toNat_lt
      have h2 := ((log.drop a).getD 5 0).toNat_lt
      omega
    have hres : rcCutS a (log.drop a) = (decide (len < a + 7 + szS (log.drop a)) && decide (a + 7 + szS (log.drop a) ≤ a - a % 256 + 256)) := by
      unfold rcCutS
      rw [hdl, decide_eq_false (p := len - a < 7) (by omega), Bool.false_or]
      congr 1
      · rw [decide_eq_decide]; omega
      · rw [decide_eq_decide]; omega
    rw [hres]
    generalize szS (log.drop a) = z at *
    have HK := Lib.hid (block_any a (a + 7 + z) (by omega) (by omega))
    rw [decide_eq_true h7] at HH
    obtain ⟨m, hm⟩ : ∃ m, a + 7 + z = m := ⟨_, rfl⟩
    rw [hm] at HE HK ⊢
    clear hres hdl h7
    by_cases hlt : len < m
    · have hz : (len : Int) < (m : Int) := by omega
      have hm2 : m ≤ 9000000000000 := by omega
      rw [decide_eq_true hlt, Bool.true_and]
      generalize decide (m ≤ a - a % 256 + 256) = q at *
      clear hlt hm hlen
      go_enter Tryz.func105, Tryz.ntmps105
      go_wp2_with fail
      refine (HH.out _).mono ?_
      rintro e w' ⟨rfl, rfl⟩
      go_wp2_with fail
      refine HE.out.mono ?_
      rintro e w1 ⟨rfl, D⟩
      go_wp2_with fail
      refine (HK.out _).mono ?_
      rintro e w' ⟨rfl, rfl⟩
      go_wp2
      go_ret
      exact ⟨rfl, D.below _⟩
    · have hz : ¬ (len : Int) < (m : Int) := by omega
      rw [decide_eq_false hlt, Bool.false_and]
      have hm2 : m ≤ 9000000000000 := by omega
      clear hlt hm hlen
      go_enter Tryz.func105, Tryz.ntmps105
      go_wp2_with fail
      refine (HH.out _).mono ?_
      rintro e w' ⟨rfl, rfl⟩
      go_wp2_with fail
      refine HE.out.mono ?_
      rintro e w1 ⟨rfl, D⟩
      go_wp2
      go_ret
      exact ⟨rfl, D.below _⟩
  · have hres : rcCutS a (log.drop a) = true := by
      unfold rcCutS
      rw [hdl, decide_eq_true (p := len - a < 7) (by omega), Bool.true_or]
    rw [hres]
    rw [decide_eq_false h7] at HH
    clear hres hdl h7 hlen
    go_enter Tryz.func105, Tryz.ntmps105
    go_wp2_with fail
    refine (HH.out _).mono ?_
    rintro e w' ⟨rfl, rfl⟩
    go_wp2
    go_ret
    exact ⟨rfl, Below.refl _ _⟩
end Go.Proofs.YtmmkgopnccfiiaaGreatDoor
/- reclog.find: the piece that stands at a place. -/
namespace Go.Proofs.YtmmkgopnccfiiaaGreatDoor
set_option linter.unusedVariables false
open Go.RowKit
/-- what find tells: no piece; a piece with its bytes -/
def FindRes (o : Option (Nat × List UInt8)) (a : Nat) (w : World) (e : Ending) (w' : World) : Prop :=
  Below w.heap.size w w' ∧ match o with
  | none => e = .returned (.tuple #[piV 0 (.slice none 0 0) 0, .bool false])
  | some (k, b) => ∃ ad n c, e = .returned (.tuple #[piV k (.slice ad n c) (a + 7 + b.length), .bool true]) ∧ RdB w (.slice ad n c) b
set_option maxHeartbeats 4000000 in
set_option maxRecDepth 100000 in
theorem rcFind_any (s : Option Addr) (len cap a : Nat) (log : List UInt8) (hl : log.length ≤ 1000000000000) (ha : a ≤ 1000000000010) (w : World) (ht : TabAt w) (h : RdB w (.slice s len cap) log) :
    Calls Tryz.prog 104 #[.slice s len cap, .int .i64 (a : Int)] w (FindRes (pieceS smN a (log.drop a)) a w) := by
  have hlen : len = log.length := by have := (rdV_len h).1; rwa [List.length_map] at this
  have HH := Lib.hid (head_any s len cap a (by omega) (by omega))
  have hdl : (log.drop a).length = len - a := by rw [List.length_drop, hlen]
  have HN : Hid (Row3 (w.alloc (.cells #[.int .u8 0, .slice none 0 0, .int .i64 0] 144)) w.heap.size (.int .u8 0) (.slice none 0 0) (.int .i64 0) ∧ Below w.heap.size w (w.alloc (.cells #[.int .u8 0, .slice none 0 0, .int .i64 0] 144))) :=
    Lib.hid ⟨Row3.new .., (Below.refl _ w).alloc (Nat.le_refl _) _⟩
  by_cases h7 : 7 ≤ len - a
  · have hsz : szS (log.drop a) ≤ 65535 := by
      unfold szS
      have h1 := ((log.drop a).getD 4 0).toNat_lt
      have h2 := ((log.drop a).getD 5 0).toNat_lt
      omega
    obtain ⟨x, hx⟩ : ∃ x, log[a + 6]? = some x := ⟨_, List.getElem?_eq_getElem (by omega)⟩
    have hkx : (log.drop a).getD 6 0 = x := by rw [List.getD_eq_getElem?_getD, List.getElem?_drop, hx]; rfl
    have HE : Hid (∀ W, RdB W (.slice s len cap) log → Calls Tryz.prog 136 #[.slice s len cap, .int .i64 (a : Int)] W fun e w' => e = .returned (.int .i64 ((a + 7 + szS (log.drop a) : Nat) : Int)) ∧ DrN W w') :=
      Lib.hid fun W hW => ending_any s len cap a log hl (by omega) W hW
    have hps : pieceS smN a (log.drop a) = if ¬ a + 7 + szS (log.drop a) ≤ a - a % 256 + 256 ∨ len < a + 7 + szS (log.drop a) ∨ x.toNat < 1 ∨ 4 < x.toNat then none else
        if (log.drop a).take 4 = smN ((log.drop (a + 4)).take (3 + szS (log.drop a))) then some (x.toNat, (log.drop (a + 7)).take (szS (log.drop a))) else none := by
      unfold pieceS
      rw [hdl, hkx, List.drop_drop, List.drop_drop]
      unfold szS
      by_cases hc : 256 - a % 256 < 7
      · rw [if_pos (.inl hc), if_pos (.inl (by omega))]
      · rw [if_neg (by omega)]
        congr 1
        rw [eq_iff_iff]
        omega
    obtain ⟨O, hO⟩ : ∃ O, pieceS smN a (log.drop a) = O := ⟨_, rfl⟩
    rw [hO] at hps ⊢
    rw [decide_eq_true h7] at HH
    have hxb : x.toNat < 256 := x.toNat_lt
    obtain ⟨z, hz⟩ : ∃ z, szS (log.drop a) = z := ⟨_, rfl⟩
    rw [hz] at HE hsz hps
    obtain ⟨m, hm⟩ : ∃ m, a + 7 + z = m := ⟨_, rfl⟩
    have HK := Lib.hid (block_any a m (by omega) (by omega))
    rw [hm] at HE hps
    have HO := Lib.hid hps
    have hm2 : m ≤ 9000000000000 := by omega
    have HRD : Hid (RdB w (.slice s len cap) log) := Lib.hid h
    have HT := Lib.hid ht
    have HX := Lib.hid hx
    have HDL := Lib.hid hdl
    have HHL := Lib.hid (show len = log.length ∧ len ≤ 1000000000000 ∧ 7 ≤ len - a ∧ a + 7 + z = m from ⟨hlen, by omega, h7, hm⟩)
    have hl2 : len ≤ 1000000000000 := by omega
    clear hO hps hkx hdl hz h ht hx hlen h7 hm hl
    by_cases hlt : len < m
    · have hz : (len : Int) < (m : Int) := by omega
      obtain rfl : O = none := by rw [HO.out, if_pos (.inr (.inl hlt))]
      clear HO
      clear hlt
      go_enter Tryz.func104, Tryz.ntmps104
      go_upto_region 1 with fail
      generalize w.alloc (.cells #[.int .u8 0, .slice none 0 0, .int .i64 0] 144) = w1 at HN ⊢
      go_wp2_with fail
      refine (HH.out _).mono ?_
      rintro e w' ⟨rfl, rfl⟩
      go_wp2_with fail
      refine (HE.out _ (HRD.out.below HN.out.2)).mono ?_
      rintro e w2 ⟨rfl, D⟩
      have HN2 : Hid (Row3 w2 w.heap.size (.int .u8 0) (.slice none 0 0) (.int .i64 0) ∧ Below w.heap.size w w2) := Lib.hid ⟨HN.out.1.below (D.below (w.heap.size + 1)) (by omega), HN.out.2.trans (D.below _)⟩
      obtain ⟨⟨⟨c0, c1, c2⟩, ⟨f0, f1, f2⟩, hs⟩, HB⟩ := HN2.out
      clear HN D HN2
      go_wp2
      refine bodyPost_ret (v := .tuple #[piV 0 (.slice none 0 0) 0, .bool false]) (by simp [results, Tryz.results104, go_sem, piV, c0, c1, c2]) rfl ⟨?_, rfl⟩
      iterate 3 refine Below.setCell ?_ (by simp) _
      exact HB
    have hz : ¬ (len : Int) < (m : Int) := by omega
    by_cases hblk : m ≤ a - a % 256 + 256
    · rw [decide_eq_true hblk] at HK
      obtain ⟨⟨b, off, rfl⟩, -⟩ := (rdV_len HRD.out).2 (by have := HHL.out; omega)
      have hcap : len ≤ cap ∧ cap ≤ 9223372036854775807 := by
        obtain ⟨_, _, _, e, -, hc⟩ := HRD.out.form
        simp only [Value.slice.injEq] at e
        obtain ⟨-, rfl, rfl⟩ := e
        have := hc (by have := HHL.out; omega)
        unfold maxLen at this; omega
      obtain ⟨hcap, hcap2⟩ := hcap
      have hml : m ≤ len := by omega
      have ham : a + 7 ≤ m := by have := HHL.out; omega
      have f6 : IntKind.i64.wrap ((a : Int) + 6) = (a : Int) + 6 := IntWalk.i64_in _ (by omega)
      have f7 : IntKind.i64.wrap ((a : Int) + 7) = (a : Int) + 7 := IntWalk.i64_in _ (by omega)
      have f4 : IntKind.i64.wrap ((a : Int) + 4) = (a : Int) + 4 := IntWalk.i64_in _ (by omega)
      have t6 : ((a : Int) + 6).toNat = a + 6 := by omega
      have z6 : (0 : Int) ≤ (a : Int) + 6 := by omega
      have z66 : (a : Int) + 6 < (len : Int) := by omega
      have hsl1 : ∀ W, (Instr.sliceAt 51 (.slice (some ⟨b, off, none⟩) len cap) (some (.int .i64 ((a : Int) + 7))) (some (.int .i64 (m : Int))) none).run Tryz.prog W = .ok (.slice (if cap = a + 7 then some ⟨b, off, none⟩ else (some (⟨b, off, none⟩ : Addr)).map (·.add (a + 7))) (m - (a + 7)) (cap - (a + 7))) W :=
        fun W => sl_lhB W _ len cap (a + 7) m ham (by omega)
      obtain ⟨ad, had⟩ : ∃ ad, (if cap = a + 7 then some ⟨b, off, none⟩ else (some (⟨b, off, none⟩ : Addr)).map (·.add (a + 7))) = ad := ⟨_, rfl⟩
      rw [had] at hsl1
      have HAD := Lib.hid had
      obtain ⟨n1, hn1⟩ : ∃ n1, m - (a + 7) = n1 := ⟨_, rfl⟩
      obtain ⟨c1, hc1⟩ : ∃ c1, cap - (a + 7) = c1 := ⟨_, rfl⟩
      simp only [hn1, hc1] at hsl1
      have HNC := Lib.hid (And.intro hn1 hc1)
      clear had hn1 hc1
      go_enter Tryz.func104, Tryz.ntmps104
      go_upto_region 1 with fail
      generalize w.alloc (.cells #[.int .u8 0, .slice none 0 0, .int .i64 0] 144) = w1 at HN ⊢
      go_wp2_with fail
      refine (HH.out _).mono ?_
      rintro e w' ⟨rfl, rfl⟩
      go_wp2_with fail
      refine (HE.out _ (HRD.out.below HN.out.2)).mono ?_
      rintro e w2 ⟨rfl, D⟩
      have HN2 : Hid (Row3 w2 w.heap.size (.int .u8 0) (.slice none 0 0) (.int .i64 0) ∧ Below w.heap.size w w2) := Lib.hid ⟨HN.out.1.below (D.below (w.heap.size + 1)) (by omega), HN.out.2.trans (D.below _)⟩
      have hcell : w2.cell? ⟨b, off + (a + 6), none⟩ = some (.int .u8 (x.toNat : Int)) ∧ b < w2.heap.size := by
        obtain ⟨b', off', e, hb, hc⟩ := (HRD.out.below HN2.out.2).at (a + 6) x HX.out
        simp only [Option.some.injEq, Addr.mk.injEq, and_true] at e
        obtain ⟨rfl, rfl⟩ := e
        exact ⟨hc, hb⟩
      obtain ⟨hcell, hb2⟩ := hcell
      have hs2 := HN2.out.1.2.2
      clear HN D
      go_wp2_with fail
      refine (HK.out _).mono ?_
      rintro e w' ⟨rfl, rfl⟩
      clear HH HE HK
      generalize x.toNat = k at *
      go_wp2_with fail
      go_region
      obtain ⟨w3, hw3⟩ : ∃ w3, (w2.alloc (.cells #[.int .u8 (k : Int), .slice ad n1 c1, .int .i64 (m : Int)] 144)).drew = w3 := ⟨_, rfl⟩
      have HB3 : Hid (Row3 w3 w2.heap.size (.int .u8 (k : Int)) (.slice ad n1 c1) (.int .i64 (m : Int)) ∧ Below w2.heap.size w2 w3) := Lib.hid (by
        rw [← hw3]; exact ⟨(Row3.new ..).drew, (((Below.refl _ w2).alloc (Nat.le_refl _) _)).trans (DrN.below ⟨1, rfl⟩ _)⟩)
      rw [hw3]
      clear hw3
      have HB4 : Hid (Row3 w3 w.heap.size (.int .u8 0) (.slice none 0 0) (.int .i64 0) ∧ Below w.heap.size w w3) := Lib.hid ⟨HN2.out.1.below HB3.out.2 hs2, HN2.out.2.trans (HB3.out.2.mono HN2.out.2.size)⟩
      obtain ⟨⟨⟨d0, d1, d2⟩, -, hs3⟩, -⟩ := id HB3.out
      have HP3a := Lib.hid HB3.out.1
      generalize w2.heap.size = g at *
      clear HB3 hcell HN2 hb2
      have finN : ∀ (W : World), DrN w3 W → Row3 W w.heap.size (.int .u8 0) (.slice none 0 0) (.int .i64 0) ∧ Below w.heap.size w W := fun W D => ⟨HB4.out.1.below (D.below (w.heap.size + 1)) (by omega), HB4.out.2.trans (D.below _)⟩
      have HFN := Lib.hid finN
      clear finN
      by_cases hk1 : k < 1
      · have hkz : decide ((k : Int) < 1) = true := decide_eq_true (by omega)
        have hkz' : (k : Int) < 1 := by omega
        obtain rfl : O = none := by rw [HO.out, if_pos (.inr (.inr (.inl hk1)))]
        clear HO hk1
        go_wp2_with fail
        go_quiet (fail)
        obtain ⟨⟨⟨x0, x1, x2⟩, ⟨y0, y1, y2⟩, hs4⟩, HB⟩ := HFN.out (w3.drewN nq) ⟨nq, rfl⟩
        clear HB4 HFN
        generalize w3.drewN nq = w4 at *
        go_wp2
        refine bodyPost_ret (v := .tuple #[piV 0 (.slice none 0 0) 0, .bool false]) (by simp [results, Tryz.results104, go_sem, piV, x0, x1, x2]) rfl ⟨?_, rfl⟩
        iterate 3 refine Below.setCell ?_ (by simp) _
        exact HB
      have hkz : decide ((k : Int) < 1) = false := decide_eq_false (by omega)
      have hkz' : ¬ (k : Int) < 1 := by omega
      by_cases hk4 : 4 < k
      · have hkq : decide ((4 : Int) < (k : Int)) = true := decide_eq_true (by omega)
        have hkq' : (4 : Int) < (k : Int) := by omega
        obtain rfl : O = none := by rw [HO.out, if_pos (.inr (.inr (.inr hk4)))]
        clear HO hk1 hk4
        go_wp2_with fail
        go_quiet (fail)
        obtain ⟨⟨⟨x0, x1, x2⟩, ⟨y0, y1, y2⟩, hs4⟩, HB⟩ := HFN.out (w3.drewN nq) ⟨nq, rfl⟩
        clear HB4 HFN
        generalize w3.drewN nq = w4 at *
        go_wp2
        refine bodyPost_ret (v := .tuple #[piV 0 (.slice none 0 0) 0, .bool false]) (by simp [results, Tryz.results104, go_sem, piV, x0, x1, x2]) rfl ⟨?_, rfl⟩
        iterate 3 refine Below.setCell ?_ (by simp) _
        exact HB
      have hkq : decide ((4 : Int) < (k : Int)) = false := decide_eq_false (by omega)
      have hkq' : ¬ (4 : Int) < (k : Int) := by omega
      have hO := HO.out
      rw [if_neg (by omega)] at hO
      have HO2 := Lib.hid hO
      have hr3 : ∀ n, RdB (w3.drewN n) (.slice (some ⟨b, off, none⟩) len cap) log := fun n => HRD.out.below (HB4.out.2.trans (DrN.below ⟨n, rfl⟩ _))
      have hsl2 : ∀ W, (Instr.sliceAt 51 (.slice (some ⟨b, off, none⟩) len cap) (some (.int .i64 (a : Int))) none none).run Tryz.prog W = .ok (.slice (some ⟨b, off + a, none⟩) (len - a) (cap - a)) W := fun W => by
        have := sl_lB W (some ⟨b, off, none⟩) len cap a (by omega) hcap
        rwa [if_neg (by omega), Option.map_some, add_at] at this
      have hsl3 : ∀ W, (Instr.sliceAt 51 (.slice (some ⟨b, off, none⟩) len cap) (some (.int .i64 ((a : Int) + 4))) (some (.int .i64 (m : Int))) none).run Tryz.prog W = .ok (.slice (some ⟨b, off + (a + 4), none⟩) (m - (a + 4)) (cap - (a + 4))) W := fun W => by
        have := sl_lhB W (some ⟨b, off, none⟩) len cap (a + 4) m (by omega) (by omega)
        rwa [if_neg (by omega), Option.map_some, add_at] at this
      have hmz := HHL.out.2.2.2
      have HG : Hid (∀ n, Calls Tryz.prog 138 #[.slice (some ⟨b, off + a, none⟩) (len - a) (cap - a)] (w3.drewN n) fun e w' => e = .returned (.int .u32 (unfK 4 (log.drop a) : Int)) ∧ w' = w3.drewN n) := Lib.hid fun n => by
        have := (hr3 n).drop a (by omega)
        rw [if_neg (by omega), Option.map_some, add_at] at this
        exact (get32_any _ _ _ this).mono fun e w' hh => ⟨hh.1, hh.2.symm⟩
      have HS : Hid (∀ n, Calls Tryz.prog 92 #[.slice (some ⟨b, off + (a + 4), none⟩) (m - (a + 4)) (cap - (a + 4))] (w3.drewN n) fun e w' => e = .returned (.int .u32 (moreN 0 ((log.drop (a + 4)).take (3 + z)) : Int)) ∧ w' = w3.drewN n) := Lib.hid fun n => by
        have := (hr3 n).mid (a + 4) m (by omega) (by omega)
        rw [if_neg (by omega), Option.map_some, add_at, List.drop_take, show m - (a + 4) = 3 + z by omega] at this
        rw [show m - (a + 4) = 3 + z by omega]
        exact (sum_any _ _ _ (HT.out.below (HB4.out.2.trans (DrN.below ⟨n, rfl⟩ _))) this).mono fun e w' hh => ⟨hh.1, hh.2.symm⟩
      have HSI : Hid ((unfK 4 (log.drop a) = moreN 0 ((log.drop (a + 4)).take (3 + z))) ↔ (log.drop a).take 4 = smN ((log.drop (a + 4)).take (3 + z))) := Lib.hid (sum_is (by rw [HDL.out]; omega))
      clear hO HO hr3 hmz
      generalize moreN 0 ((log.drop (a + 4)).take (3 + z)) = S1 at *
      generalize unfK 4 (log.drop a) = G1 at *
      generalize smN ((log.drop (a + 4)).take (3 + z)) = S2 at *
      by_cases hGS : G1 = S1
      · have hne : ((G1 : Int) != (S1 : Int)) = false := by rw [hGS, bne_self_eq_false]
        have hBl : ((log.drop (a + 7)).take z).length = z := by
          rw [List.length_take, List.length_drop]
          have := HHL.out
          omega
        obtain rfl : O = some (k, (log.drop (a + 7)).take z) := by rw [HO2.out, if_pos (HSI.out.1 hGS)]
        have HRM : Hid (RdB w (.slice ad n1 c1) ((log.drop (a + 7)).take z)) := Lib.hid (by
          have := HRD.out.mid (a + 7) m ham hml
          rwa [HAD.out, HNC.out.1, HNC.out.2, List.drop_take, show m - (a + 7) = z by have := HHL.out; omega] at this)
        have HE2 : Hid (a + 7 + ((log.drop (a + 7)).take z).length = m) := Lib.hid (by rw [hBl]; exact HHL.out.2.2.2)
        generalize (log.drop (a + 7)).take z = Bs at *
        have HP3 : Hid (∀ n, Row3 (w3.drewN n) g (.int .u8 (k : Int)) (.slice ad n1 c1) (.int .i64 (m : Int)) ∧ w.heap.size < g) := Lib.hid fun n => ⟨HP3a.out.below (DrN.below ⟨n, rfl⟩ (g + 1)) (by omega), hs2⟩
        clear HO2 HSI hk1 hk4 hBl HRD HAD HNC HP3a
        go_wp2_with fail
        go_quiet ((first | (go_at_call 138; exact Calls.quiet_of_same (HG.out _)) | (go_at_call 92; exact Calls.quiet_of_same (HS.out _))))
        obtain ⟨⟨⟨x0, x1, x2⟩, ⟨y0, y1, y2⟩, hs4⟩, HB⟩ := HFN.out (w3.drewN nq) ⟨nq, rfl⟩
        obtain ⟨⟨⟨p0, p1, p2⟩, -, hs5⟩, hs6⟩ := HP3.out nq
        clear HB4 HFN HP3
        generalize w3.drewN nq = w4 at *
        go_wp2
        refine bodyPost_ret (v := .tuple #[piV k (.slice ad n1 c1) m, .bool true]) (by simp [results, Tryz.results104, go_sem, piV, x0, x1, x2]) rfl ⟨?_, ad, n1, c1, by rw [HE2.out], HRM.out⟩
        iterate 3 refine Below.setCell ?_ (by simp) _
        exact HB
      · have hne : ((G1 : Int) != (S1 : Int)) = true := by rw [bne_iff_ne]; omega
        obtain rfl : O = none := by rw [HO2.out, if_neg (fun h => hGS (HSI.out.2 h))]
        clear HO2 HSI hGS hk1 hk4
        go_wp2_with fail
        go_quiet ((first | (go_at_call 138; exact Calls.quiet_of_same (HG.out _)) | (go_at_call 92; exact Calls.quiet_of_same (HS.out _))))
        obtain ⟨⟨⟨x0, x1, x2⟩, ⟨y0, y1, y2⟩, hs4⟩, HB⟩ := HFN.out (w3.drewN nq) ⟨nq, rfl⟩
        clear HB4 HFN
        generalize w3.drewN nq = w4 at *
        go_wp2
        refine bodyPost_ret (v := .tuple #[piV 0 (.slice none 0 0) 0, .bool false]) (by simp [results, Tryz.results104, go_sem, piV, x0, x1, x2]) rfl ⟨?_, rfl⟩
        iterate 3 refine Below.setCell ?_ (by simp) _
        exact HB
    · obtain rfl : O = none := by rw [HO.out, if_pos (.inl hblk)]
      clear HO
      rw [decide_eq_false hblk] at HK
      clear hlt hblk
      go_enter Tryz.func104, Tryz.ntmps104
      go_upto_region 1 with fail
      generalize w.alloc (.cells #[.int .u8 0, .slice none 0 0, .int .i64 0] 144) = w1 at HN ⊢
      go_wp2_with fail
      refine (HH.out _).mono ?_
      rintro e w' ⟨rfl, rfl⟩
      go_wp2_with fail
      refine (HE.out _ (HRD.out.below HN.out.2)).mono ?_
      rintro e w2 ⟨rfl, D⟩
      have HN2 : Hid (Row3 w2 w.heap.size (.int .u8 0) (.slice none 0 0) (.int .i64 0) ∧ Below w.heap.size w w2) := Lib.hid ⟨HN.out.1.below (D.below (w.heap.size + 1)) (by omega), HN.out.2.trans (D.below _)⟩
      obtain ⟨⟨⟨c0, c1, c2⟩, ⟨f0, f1, f2⟩, hs⟩, HB⟩ := HN2.out
      clear HN D HN2
      go_wp2_with fail
      refine (HK.out _).mono ?_
      rintro e w' ⟨rfl, rfl⟩
      go_wp2
      refine bodyPost_ret (v := .tuple #[piV 0 (.slice none 0 0) 0, .bool false]) (by simp [results, Tryz.results104, go_sem, piV, c0, c1, c2]) rfl ⟨?_, rfl⟩
      iterate 3 refine Below.setCell ?_ (by simp) _
      exact HB
  · have hres : pieceS smN a (log.drop a) = none := by
      unfold pieceS
      rw [if_pos (.inr (by omega))]
    rw [hres]
    rw [decide_eq_false h7] at HH
    clear hres hdl h7 hlen
    go_enter Tryz.func104, Tryz.ntmps104
    go_upto_region 1 with fail
    generalize w.alloc (.cells #[.int .u8 0, .slice none 0 0, .int .i64 0] 144) = w1 at HN ⊢
    obtain ⟨⟨⟨c0, c1, c2⟩, ⟨f0, f1, f2⟩, hs⟩, HB⟩ := HN.out
    clear HN
    go_wp2_with fail
    refine (HH.out _).mono ?_
    rintro e w' ⟨rfl, rfl⟩
    go_wp2
    refine bodyPost_ret (v := .tuple #[piV 0 (.slice none 0 0) 0, .bool false]) (by simp [results, Tryz.results104, go_sem, piV, c0, c1, c2]) rfl ⟨?_, rfl⟩
    iterate 3 refine Below.setCell ?_ (by simp) _
    exact HB
end Go.Proofs.YtmmkgopnccfiiaaGreatDoor
/- Rows of rows of bytes that are the call's own, each apart. -/
namespace Go.Proofs.YtmmkgopnccfiiaaGreatDoor
set_option linter.unusedVariables false
open Go.RowKit
/-- v is a row of the call's own (blocks from B on) that holds these, each a slice of the call's own. -/
def RecsAt (B : Nat) (w : World) (v : Value) (bss : List (List UInt8)) : Prop :=
  ∃ vs : List Value, OwnV 51 B w v vs ∧ vs.length = bss.length ∧ ∀ (i : Nat) (u : Value) (bs : List UInt8), vs[i]? = some u → bss[i]? = some bs → OwnB B w u bs
theorem RecsAt.nil (B : Nat) (w : World) : RecsAt B w (.slice none 0 0) [] := ⟨[], OwnV.nil _ _ _, rfl, fun i u bs h => by simp at h⟩
theorem RecsAt.below {B : Nat} {w w' : World} {v : Value} {bss : List (List UInt8)} (h : RecsAt B w v bss) (hb : Below w.heap.size w w') : RecsAt B w' v bss := by
  obtain ⟨vs, h1, h2, h3⟩ := h
  exact ⟨vs, h1.below hb, h2, fun i u bs hu hb' => (h3 i u bs hu hb').below hb⟩
theorem RecsAt.base {B B' : Nat} {w : World} {v : Value} {bss : List (List UInt8)} (h : RecsAt B w v bss) (hB : B' ≤ B) : RecsAt B' w v bss := by
  obtain ⟨vs, h1, h2, h3⟩ := h
  exact ⟨vs, h1.base hB, h2, fun i u bs hu hb' => (h3 i u bs hu hb').base hB⟩
theorem RecsAt.form {B : Nat} {w : World} {v : Value} {bss : List (List UInt8)} (h : RecsAt B w v bss) : ∃ a cap, v = .slice a bss.length cap ∧ bss.length ≤ cap ∧ cap ≤ maxLen := by
  obtain ⟨vs, h1, h2, -⟩ := h
  rcases h1.nilOr with ⟨rfl, e⟩ | ⟨g, cap, rfl, -, -, hc, hm⟩
  · subst e
    exact ⟨none, 0, by rw [← h2]; rfl, by rw [← h2]; exact Nat.le_refl _, by unfold maxLen; omega⟩
  · exact ⟨_, cap, by rw [← h2], by omega, hm⟩
/-- The cell of one of them, and what it holds. -/
theorem RecsAt.at {B : Nat} {w : World} {a : Option Addr} {n cap : Nat} {bss : List (List UInt8)} (h : RecsAt B w (.slice a n cap) bss) (i : Nat) (bs : List UInt8) (hi : bss[i]? = some bs) :
    ∃ g u, a = some ⟨g, 0, none⟩ ∧ g < w.heap.size ∧ w.cell? ⟨g, 0 + i, none⟩ = some u ∧ OwnB B w u bs := by
  obtain ⟨vs, h1, h2, h3⟩ := h
  have hlt : i < vs.length := by rw [h2]; exact (List.getElem?_eq_some_iff.1 hi).1
  have hu : vs[i]? = some vs[i] := List.getElem?_eq_getElem hlt
  obtain ⟨g, off, rfl, hg, hc⟩ := rdV_cells h1.rd (by omega)
  rcases h1.nilOr with ⟨e, -⟩ | ⟨g', cap', e, -⟩
  · cases e
  · simp only [Value.slice.injEq, Option.some.injEq, Addr.mk.injEq, and_true] at e
    obtain ⟨⟨rfl, rfl⟩, -⟩ := e
    refine ⟨g, vs[i], rfl, hg, ?_, h3 i _ _ hu hi⟩
    rw [hc i hlt, List.getD_eq_getElem?_getD, hu]; rfl
/-- A row of slices is no row of bytes. -/
theorem own_apart {B B' : Nat} {w : World} {v u : Value} {vs : List Value} {bs : List UInt8} (h : OwnV 51 B w v vs) (h' : OwnB B' w u bs) : ∀ g, u.ownBlock = some g → v.ownBlock ≠ some g := by
  intro g hg hv
  rcases h.2 with ⟨rfl, -⟩ | ⟨g1, c1, cur1, rfl, -, k1, -⟩
  · cases hv
  · rcases h'.2 with ⟨rfl, -⟩ | ⟨g2, c2, cur2, rfl, -, k2, -⟩
    · cases hg
    · obtain rfl : g1 = g := Option.some.inj hv
      obtain rfl : g2 = g1 := Option.some.inj hg
      rw [k1] at k2
      simp only [Option.some.injEq, Obj.cells.injEq] at k2
      exact absurd k2.2.1 (by decide)
theorem elemK_bs : ElemK Tryz.prog 114 51 1 24 (.slice none 0 0) := ⟨Tryz.underlying114, by kernel_rfl, rfl, by decide⟩
/-- 'append(l, b)', b in a row that was just laid. -/
theorem run_appR {ty : Nat} {B : Nat} {w : World} {v u : Value} {bss : List (List UInt8)} {bs : List UInt8} (h : RecsAt B w v bss) (hu : OwnB B w u bs) (hlen : bss.length ≤ 1000000000000) (hB : B ≤ w.heap.size) :
    ∃ v' w', (Builtin.append_ #[114, 114] ty #[v, .slice (some ⟨w.heap.size, 0, none⟩) 1 1]).run Tryz.prog (w.alloc (.cells #[u] 51)) = .ok v' w' ∧ RecsAt B w' v' (bss ++ [bs]) ∧ Below B w w' ∧ (∀ B' y l, OwnB B' w y l → OwnB B' w' y l) := by
  obtain ⟨vs, h1, h2, h3⟩ := h
  have hal : Below w.heap.size w (w.alloc (.cells #[u] 51)) := (Below.refl _ w).alloc (Nat.le_refl _) _
  have hown : (w.alloc (.cells #[u] 51)).ownsRow 0 51 1 v vs.length vs := (h1.below hal).base (Nat.zero_le _)
  have hone : u.oneCell' = true := by
    obtain ⟨a, len, cap, rfl, -⟩ := hu.form; rfl
  have hcell : ∀ j x, [u][j]? = some x → (w.alloc (.cells #[u] 51)).cell? ((⟨w.heap.size, 0, none⟩ : Addr).add j) = some x := fun j x hj => by
    rw [add_at, Nat.zero_add]
    unfold World.cell?
    rw [heap_alloc_new]
    simpa using hj
  obtain ⟨v', w', g0, g1, g2, g3⟩ := run_appG (ty := ty) elemK_bs hown ⟨w.heap.size, 0, none⟩ 1 1 [u] rfl hcell (by simpa using hone) (by unfold maxLen; omega) (by omega)
  have hwh : ∀ g, v.ownBlock = some g → B ≤ g ∧ g < w.heap.size := fun g hg => h1.where g hg
  have hkeep : ∀ B' y l, OwnB B' w y l → OwnB B' w' y l := fun B' y l hy => (hy.below hal).kept g2 (own_apart h1 hy)
  refine ⟨v', w', g0, ⟨vs ++ [u], ?_, by simp [h2], ?_⟩, ?_, hkeep⟩
  · have g1' : OwnV 51 0 w' v' (vs ++ [u]) := by unfold OwnV; rw [List.length_append]; exact g1
    refine g1'.rebase fun g hg => ?_
    rcases g3 g hg with h5 | h5
    · exact (hwh g h5).1
    · have := hal.size; omega
  · intro i x y hx hy
    rcases Nat.lt_or_ge i vs.length with hi | hi
    · rw [List.getElem?_append_left hi] at hx
      rw [List.getElem?_append_left (by omega)] at hy
      exact hkeep _ _ _ (h3 i x y hx hy)
    · rw [List.getElem?_append_right hi] at hx
      rw [List.getElem?_append_right (by omega), ← h2] at hy
      obtain ⟨h0, e⟩ := List.getElem?_eq_some_iff.1 hx
      have h0' : i - vs.length = 0 := by simpa using h0
      rw [h0'] at hx hy
      simp at hx hy
      subst hx hy
      exact hkeep _ _ _ hu
  · exact (hal.mono hB).grown g2 (by rw [World.size_alloc]; omega) fun k hk => (hwh k hk).1
theorem wp_appR {ops : Array Oper} {rest : List Oper} {o : Oper} {a : Act} {w : World} {Q : Exit → Act → World → Prop} (s x : Operand) (ho : o.op = .call { callee := .builtin .append, args := #[s, x], argTypes := #[114, 114] }) (hw : Region.wanted o (yielded ops a.tmps) = true)
    {B : Nat} {v u : Value} {bss : List (List UInt8)} {bs : List UInt8} (hs : a.eval s = v) (h : RecsAt B w v bss) (hu : OwnB B w u bs) (H : Nat) (hx : a.eval x = .slice (some ⟨H, 0, none⟩) 1 1) (hH : w.heap.size = H) (hlen : bss.length ≤ 1000000000000) (hB : B ≤ w.heap.size)
    (hk : ∀ v' w', RecsAt B w' v' (bss ++ [bs]) → Below B w w' → (∀ B' y l, OwnB B' w y l → OwnB B' w' y l) → wpList Tryz.prog ops Q rest (a.put o.dst v') w') : wpList Tryz.prog ops Q (o :: rest) a (w.alloc (.cells #[u] 51)) := by
  refine wpList_step fun K hK => ?_
  rw [if_pos hw]
  subst hH
  obtain ⟨v', w', hr, h2, h3, h4⟩ := run_appR (ty := o.type) h hu hlen hB
  unfold Oper.wp execOp
  simp only [ho, resolve, invoke, builtin, Sem.run_bind, Sem.run_pure, Result.andThen_ok, List.map_toArray, List.map_cons, List.map_nil, hs, hx, hr]
  exact hK _ _ (hk v' w' h2 h3 h4)
end Go.Proofs.YtmmkgopnccfiiaaGreatDoor
/- reclog.Read: the records that a log begins with. -/
namespace Go.Proofs.YtmmkgopnccfiiaaGreatDoor
set_option linter.unusedVariables false
open Go.RowKit
/-- what Read tells -/
def RcRes (T : List (List UInt8) × Nat × Bool) (w : World) (e : Ending) (w' : World) : Prop :=
  ∃ v, e = .returned (.tuple #[v, .int .i64 (T.2.1 : Int), .bool T.2.2]) ∧ RecsAt w.heap.size w' v T.1 ∧ Below w.heap.size w w'
/-- how it stands ahead of a round -/
def RdSt (w : World) (log : List UInt8) (T : List (List UInt8) × Nat × Bool) (f : Nat) (vr vc : Value) (a e : Nat) (bg : Bool) (wr : World) : Prop :=
  ∃ (bss : List (List UInt8)) (acc : List UInt8) (w0 : World), RecsAt w.heap.size w0 vr bss ∧ Below w.heap.size w w0 ∧ OwnB w0.heap.size wr vc acc ∧ Below w0.heap.size w0 wr ∧
    log.length - a < f ∧ a ≤ log.length ∧ e ≤ a ∧ acc.length ≤ a ∧ bss.length ≤ a ∧
    T = (bss ++ (runC smN f a (log.drop a) bg acc e).1, (runC smN f a (log.drop a) bg acc e).2)
set_option maxHeartbeats 8000000 in
set_option maxRecDepth 100000 in
theorem rcRead_any (s : Option Addr) (len cap : Nat) (log : List UInt8) (hl : log.length ≤ 1000000000000) (w : World) (ht : TabAt w) (h : RdB w (.slice s len cap) log) :
    Calls Tryz.prog 72 #[.slice s len cap] w (RcRes (readC smN log) w) := by
  have HT := Lib.hid ht
  have HR := Lib.hid h
  have HL := Lib.hid hl
  obtain ⟨T, hT⟩ : ∃ T, readC smN log = T := ⟨_, rfl⟩
  have HS0 : Hid (RdSt w log T (log.length + 1) (.slice none 0 0) (.slice none 0 0) 0 0 false w) := Lib.hid
    ⟨[], [], w, RecsAt.nil _ _, Below.refl _ _, OwnB.nil _ _, Below.refl _ _, by omega, Nat.zero_le _, Nat.le_refl _, Nat.le_refl _, Nat.le_refl _, by rw [← hT]; rfl⟩
  rw [hT]
  clear hT ht h hl
  go_enter Tryz.func72, Tryz.ntmps72
  go_wp2_with fail
  go_loopg [5, 6, 7, 8, 9] (log.length + 1) (fun kk vr vc va ve vb wr => ∃ (a e f : Nat) (bg : Bool), va = .int .i64 (a : Int) ∧ ve = .int .i64 (e : Int) ∧ vb = .bool bg ∧ f ≤ kk ∧ a ≤ 1000000000000 ∧ Hid (RdSt w log T f vr vc a e bg wr))
  case atStart => exact ⟨0, 0, log.length + 1, false, rfl, rfl, rfl, Nat.le_refl _, by omega, HS0⟩
  case round =>
    clear HS0
    obtain ⟨a, e, f, bg, rfl, rfl, rfl, hf, ha, HS⟩ := hrel
    obtain ⟨bss, acc, w0, hrec, hb0, hown, hbw, hfa, hal, hea, hca, hbs, hTT⟩ := id HS.out
    have hBW : Below w.heap.size w wr := hb0.trans (hbw.mono hb0.size)
    obtain ⟨f, rfl⟩ : ∃ f', f = f' + 1 := ⟨f - 1, by omega⟩
    have hp6 := (pad_room a).2.2
    have HNX := Lib.hid (next_any a (by omega))
    have HF := Lib.hid (rcFind_any s len cap (a + padN a) log HL.out (by omega) wr (HT.out.below hBW) (HR.out.below hBW))
    have HC : Hid (∀ W, Below w.heap.size w W → Calls Tryz.prog 105 #[.slice s len cap, .int .i64 ((a + padN a : Nat) : Int)] W fun e w' => e = .returned (.bool (rcCutS (a + padN a) (log.drop (a + padN a)))) ∧ Below W.heap.size W w') :=
      Lib.hid fun W hW => iscut_any s len cap (a + padN a) log HL.out (by omega) W (HR.out.below hW)
    have HD : Hid ((log.drop a).drop (padN a) = log.drop (a + padN a)) := Lib.hid List.drop_drop
    obtain ⟨O, hO⟩ : ∃ O, pieceS smN (a + padN a) (log.drop (a + padN a)) = O := ⟨_, rfl⟩
    rw [hO] at HF
    have HO := Lib.hid hO
    have HTT := Lib.hid hTT
    have HB := Lib.hid hBW
    have HQ : Hid (RecsAt w.heap.size w0 (u5 : Value) bss ∧ Below w.heap.size w w0 ∧ OwnB w0.heap.size wr u6 acc ∧ Below w0.heap.size w0 wr) := Lib.hid ⟨hrec, hb0, hown, hbw⟩
    clear hO hTT hBW hrec hb0 hown hbw HS
    obtain ⟨a2, ha2⟩ : ∃ a2, a + padN a = a2 := ⟨_, rfl⟩
    have HA2 := Lib.hid ha2
    have hb2 : a2 ≤ 1000000000006 := by omega
    rw [ha2] at HNX HF HC HD HO
    clear ha2 hp6
    cases O with
    | none =>
      have HX : Hid (T = (bss, e, rcCutS a2 (log.drop a2))) := Lib.hid (by
        have hp : pieceS smN (a + padN a) ((log.drop a).drop (padN a)) = none := by rw [HD.out, HA2.out]; exact HO.out
        rw [HTT.out, run_none _ _ _ hp, HD.out, HA2.out, List.append_nil])
      generalize rcCutS a2 (log.drop a2) = q at *
      obtain rfl := HX.out
      clear HTT HX HO HD HA2 hal hea hca hbs hfa hf
      go_wp2_with fail
      refine (HNX.out _).mono ?_
      rintro e w' ⟨rfl, rfl⟩
      go_wp2_with fail
      refine HF.out.mono ?_
      rintro e w2 ⟨hb2', rfl⟩
      unfold piV
      go_upto_region 7 with fail
      have HB3 : Hid (Below wr.heap.size wr (w2.alloc (.cells #[.int .u8 0, .slice none 0 0, .int .i64 0] 144))) := Lib.hid (hb2'.trans ((Below.refl _ w2).alloc hb2'.size _))
      generalize w2.alloc (.cells #[.int .u8 0, .slice none 0 0, .int .i64 0] 144) = w3 at HB3 ⊢
      have HB4 := Lib.hid (HB.out.trans (HB3.out.mono HB.out.size))
      have HC3 := Lib.hid (HC.out w3 HB4.out)
      clear HC HF hb2'
      go_wp2_with fail
      refine HC3.out.mono ?_
      rintro e' w4 ⟨rfl, b4⟩
      go_wp2
      refine bodyPost_ret (v := .tuple #[u5, .int .i64 (e : Int), .bool q]) (by simp [results, Tryz.results72, go_sem]) rfl ⟨u5, rfl, ?_, HB4.out.trans (b4.mono HB4.out.size)⟩
      obtain ⟨q1, q2, q3, q4⟩ := HQ.out
      have h3 := q4.trans (HB3.out.mono q4.size)
      exact q1.below (h3.trans (b4.mono h3.size))
    | some kb =>
      obtain ⟨k, b⟩ := kb
      have hps := pieceS_some HO.out
      obtain ⟨hl1, hl2, -, k1, k4, -⟩ := hps
      rw [List.length_drop] at hl1
      have hp : pieceS smN (a + padN a) ((log.drop a).drop (padN a)) = some (k, b) := by rw [HD.out, HA2.out]; exact HO.out
      have HP := Lib.hid hp
      have hb249 : b.length ≤ 249 := by omega
      obtain ⟨m, hm⟩ : ∃ m, a2 + 7 + b.length = m := ⟨_, rfl⟩
      have hml : m ≤ log.length := by omega
      have HBG : Hid (∀ v e W, Calls Tryz.prog 106 #[piV k v e] W fun x w' => x = .returned (.bool (beginsK k)) ∧ Below W.heap.size W w') := Lib.hid (rcBegins_any k)
      have HEN : Hid (∀ v e W, Calls Tryz.prog 107 #[piV k v e] W fun x w' => x = .returned (.bool (endsK k)) ∧ Below W.heap.size W w') := Lib.hid (ends_any k)
      by_cases hbg : beginsK k = bg
      · have HX : Hid (T = (bss, e, false)) := Lib.hid (by rw [HTT.out, run_bad _ _ hp hbg, List.append_nil])
        obtain rfl := HX.out
        rw [hbg] at HBG
        have hbq : (bg == bg) = true := beq_self_eq_true bg
        clear HTT HX HO HD HA2 hal hea hca hbs hfa hf hp HP hl1 hl2 hbg HC HEN hml
        unfold piV at HBG
        go_wp2_with fail
        refine (HNX.out _).mono ?_
        rintro e w' ⟨rfl, rfl⟩
        go_wp2_with fail
        refine HF.out.mono ?_
        rintro e w2 ⟨hb2', ad, n, c, rfl, hr2⟩
        rw [hm]
        unfold piV
        go_upto_region 6 with fail
        have HB3 : Hid (Below wr.heap.size wr (w2.alloc (.cells #[.int .u8 (k : Int), .slice ad n c, .int .i64 (m : Int)] 144)) ∧ Row3 (w2.alloc (.cells #[.int .u8 (k : Int), .slice ad n c, .int .i64 (m : Int)] 144)) w2.heap.size (.int .u8 (k : Int)) (.slice ad n c) (.int .i64 (m : Int))) := Lib.hid ⟨hb2'.trans ((Below.refl _ w2).alloc hb2'.size _), Row3.new ..⟩
        generalize w2.alloc (.cells #[.int .u8 (k : Int), .slice ad n c, .int .i64 (m : Int)] 144) = w3 at HB3 ⊢
        obtain ⟨⟨d0, d1, d2⟩, -, hs3⟩ := HB3.out.2
        have HB4 := Lib.hid (HB.out.trans (HB3.out.1.mono HB.out.size))
        clear HF hb2' hr2 hm
        generalize w2.heap.size = g at *
        go_wp2_with fail
        refine (HBG.out _ _ _).mono ?_
        rintro e' w4 ⟨rfl, b4⟩
        go_wp2
        refine bodyPost_ret (v := .tuple #[u5, .int .i64 (e : Int), .bool false]) (by simp [results, Tryz.results72, go_sem]) rfl ⟨u5, rfl, ?_, HB4.out.trans (b4.mono HB4.out.size)⟩
        obtain ⟨q1, q2, q3, q4⟩ := HQ.out
        have h3 := q4.trans (HB3.out.1.mono q4.size)
        exact q1.below (h3.trans (b4.mono h3.size))
      · have hbn : beginsK k = !bg := by cases hq : beginsK k <;> cases bg <;> simp_all
        have hbq : (beginsK k == bg) = false := by rw [beq_eq_false_iff_ne]; exact hbg
        generalize beginsK k = bk at HBG hbq
        have hacc : acc.length ≤ 1000000000000 := by omega
        have hbs2 : bss.length ≤ 1000000000000 := by omega
        obtain ⟨ek, hek⟩ : ∃ ek, endsK k = ek := ⟨_, rfl⟩
        rw [hek] at HEN
        have HSZ := Lib.hid (And.intro hm (And.intro hml (And.intro hfa (And.intro hca (And.intro hbs hf)))))
        have HEK := Lib.hid hek
        have HBN := Lib.hid hbn
        have HEA := Lib.hid hea
        clear hp hl1 hl2 hbg hbn HC hml hek hm hfa hca hbs hf hal hea
        unfold piV at HBG HEN
        go_wp2_with fail
        refine (HNX.out _).mono ?_
        rintro e' w' ⟨rfl, rfl⟩
        go_wp2_with fail
        refine HF.out.mono ?_
        rintro e' w2 ⟨hb2', ad, n, c, rfl, hr2⟩
        rw [HSZ.out.1]
        unfold piV
        go_upto_region 6 with fail
        have HB3 : Hid (Below wr.heap.size wr (w2.alloc (.cells #[.int .u8 (k : Int), .slice ad n c, .int .i64 (m : Int)] 144)) ∧ Row3 (w2.alloc (.cells #[.int .u8 (k : Int), .slice ad n c, .int .i64 (m : Int)] 144)) w2.heap.size (.int .u8 (k : Int)) (.slice ad n c) (.int .i64 (m : Int))) := Lib.hid ⟨hb2'.trans ((Below.refl _ w2).alloc hb2'.size _), Row3.new ..⟩
        generalize w2.alloc (.cells #[.int .u8 (k : Int), .slice ad n c, .int .i64 (m : Int)] 144) = w3 at HB3 ⊢
        have hgl := hb2'.size
        generalize w2.heap.size = g at *
        obtain ⟨⟨d0, d1, d2⟩, -, hs3⟩ := HB3.out.2
        have HR2 := Lib.hid hr2
        clear HF hb2' hr2
        go_wp2_with fail
        refine (HBG.out _ _ _).mono ?_
        rintro e' w4 ⟨rfl, b4⟩
        obtain ⟨q1, q2, q3, q4⟩ := id HQ.out
        have B4 : Below wr.heap.size wr w4 := HB3.out.1.trans (b4.mono HB3.out.1.size)
        have HR4 := Lib.hid (HB3.out.2.below b4 hs3)
        have HRd4 := Lib.hid (HR2.out.below B4)
        have o4 := q3.below B4
        have hlt4 : ∀ x, u6.ownBlock = some x → x < g := fun x hx => Nat.lt_of_lt_of_le (q3.where x hx).2 hgl
        have hs4 : w0.heap.size ≤ w4.heap.size := Nat.le_trans q4.size B4.size
        have HLT := Lib.hid hlt4
        have HB4 := Lib.hid B4
        clear q1 q2 q3 q4 B4 HR2 b4 hlt4 HBG HNX d0 d1 d2 hs3
        obtain ⟨⟨d0, d1, d2⟩, -, hs3⟩ := id HR4.out
        go_wp2_with (at_builtin; refine wp_appGB _ _ (by rfl) (by rfl) (by rfl) o4 (by rfl) HRd4.out ?c1 hs4 ?_)
        case c1 => omega
        intro v5 w5 o5 b5 g5 l5
        have HR5 : Hid (Row3 w5 g (.int .u8 (k : Int)) (.slice ad n c) (.int .i64 (m : Int))) := Lib.hid (HR4.out.kept g5 fun h => by have := HLT.out g h.symm; omega)
        clear d0 d1 d2 hs3 HR4 HRd4 HLT l5 g5 o4
        obtain ⟨⟨d0, d1, d2⟩, -, hs3⟩ := id HR5.out
        have HO5 := Lib.hid (And.intro o5 b5)
        clear o5 b5
        go_wp2_with fail
        have HB5 := Lib.hid (Below.refl w5.heap.size w5)
        clear d0 d1 d2 hs3
        refine wp_region_held_drew (S := Below w5.heap.size w5) (by kernel_rfl) (Below.refl _ _).drew (fun hHeld => ?_)
        have hs5 : g < w5.drew.heap.size := HR5.out.2.2
        replace HR5 : Hid (Row3 w5.drew g (.int .u8 (k : Int)) (.slice ad n c) (.int .i64 (m : Int))) := Lib.hid HR5.out.drew
        replace HB5 : Hid (Below w5.heap.size w5 w5.drew) := Lib.hid hHeld
        generalize w5.drew = wd at hHeld HR5 HB5 hs5 ⊢
        refine wpAnyH_shift hHeld ?_
        clear hHeld
        refine takeYes (i := 0) (k := 37) (v := .pointer (some ⟨g, 2, none⟩)) rfl (by kernel_rfl) (by kernel_rfl) (by kernel_rfl) (by kernel_rfl) (fun _ _ _ h => h) (by kernel_rfl) ?_ (Below.refl _ _) ?_
        · intro W hSw; first | (go_simp; done) | go_simp
        try simp only [Act.put, List.setIfInBounds_toArray, List.set_cons_zero, List.set_cons_succ]
        refine takeYes (i := 1) (k := 38) (v := .int .i64 (m : Int)) rfl (by kernel_rfl) (by kernel_rfl) (by kernel_rfl) (by kernel_rfl) (fun _ _ _ h => h) (by kernel_rfl) ?_ (Below.refl _ _) ?_
        · intro W hSw; obtain ⟨⟨z0, z1, z2⟩, -, hsz⟩ := HR5.out.below hSw hs5; first | (go_simp; done) | go_simp
        try simp only [Act.put, List.setIfInBounds_toArray, List.set_cons_zero, List.set_cons_succ]
        refine takeYes (i := 2) (k := 39) (v := .agg #[.int .u8 (k : Int), .slice ad n c, .int .i64 (m : Int)]) rfl (by kernel_rfl) (by kernel_rfl) (by kernel_rfl) (by kernel_rfl) (fun _ _ _ h => h) (by kernel_rfl) ?_ (Below.refl _ _) ?_
        · intro W hSw; obtain ⟨⟨z0, z1, z2⟩, -, hsz⟩ := HR5.out.below hSw hs5; first | (go_simp; done) | go_simp
        try simp only [Act.put, List.setIfInBounds_toArray, List.set_cons_zero, List.set_cons_succ]
        refine wpAnyH_ready (rs := [3]) (by kernel_rfl) (by simp) (AllReadyH.cons rfl (fun K hK => ?_) AllReadyH.nil)
        go_simp
        refine (HEN.out _ _ _).mono ?_
        rintro e' wd2 ⟨rfl, hbx⟩
        refine hK.out _ _ hbx (fun _ => wpAnyH_shift hbx ?_)
        clear hK K
        replace HB5 := Lib.hid (HB5.out.trans (hbx.mono HB5.out.size))
        clear hbx HR5 hs5
        try simp only [Act.put, List.setIfInBounds_toArray, List.set_cons_zero, List.set_cons_succ]
        refine takeYes (i := 4) (k := 41) (v := .bool (!ek)) rfl (by kernel_rfl) (by kernel_rfl) (by kernel_rfl) (by kernel_rfl) (fun _ _ _ h => h) (by kernel_rfl) ?_ (Below.refl _ _) ?_
        · intro W hSw; first | (go_simp; done) | go_simp
        try simp only [Act.put, List.setIfInBounds_toArray, List.set_cons_zero, List.set_cons_succ]
        refine takeYes (i := 5) (k := 7) (v := .int .i64 (m : Int)) rfl (by kernel_rfl) (by kernel_rfl) (by kernel_rfl) (by kernel_rfl) (fun _ _ _ h => h) (by kernel_rfl) ?_ (Below.refl _ _) ?_
        · intro W hSw; first | (go_simp; done) | go_simp
        try simp only [Act.put, List.setIfInBounds_toArray, List.set_cons_zero, List.set_cons_succ]
        refine takeYes (i := 6) (k := 9) (v := .bool (!ek)) rfl (by kernel_rfl) (by kernel_rfl) (by kernel_rfl) (by kernel_rfl) (fun _ _ _ h => h) (by kernel_rfl) ?_ (Below.refl _ _) ?_
        · intro W hSw; first | (go_simp; done) | go_simp
        try simp only [Act.put, List.setIfInBounds_toArray, List.set_cons_zero, List.set_cons_succ]
        refine wpAnyH_done (by kernel_rfl) ?_ _
        have hm1 : a + padN a + 7 + b.length = m := by rw [HA2.out]; exact HSZ.out.1
        have hdr : (log.drop a).drop (padN a + 7 + b.length) = log.drop m := by rw [List.drop_drop, ← hm1]; congr 1; omega
        obtain ⟨hx1, hml, hfa, hca, hbs, hf⟩ := HSZ.out
        have ham : a + 7 + b.length ≤ m := by have := HA2.out; omega
        obtain ⟨q1, q2, q3, q4⟩ := HQ.out
        obtain ⟨o5, b5⟩ := HO5.out
        have B5 : Below w0.heap.size w0 w5 := (q4.trans (HB4.out.mono q4.size)).trans b5
        have B6 : Below w0.heap.size w0 wd2 := B5.trans (HB5.out.mono B5.size)
        have o6 := o5.below HB5.out
        have r6 := q1.below B6
        have BW6 : Below w.heap.size w wd2 := q2.trans (B6.mono q2.size)
        have hwsz := BW6.size
        have hgk : gk - 1 < gk := by omega
        cases ek with
        | false =>
          have hst : RdSt w log T f u5 v5 m e true wd2 := by
            refine ⟨bss, acc ++ b, w0, q1, q2, o6, B6, by omega, hml, by have := HEA.out; omega, by rw [List.length_append]; omega, by omega, ?_⟩
            have := run_on (f := f) acc e HP.out HBN.out HEK.out
            rw [hm1, hdr] at this
            rw [HTT.out, this]
          have HST := Lib.hid hst
          have HGK := Lib.hid (show f ≤ gk - 1 ∧ m ≤ 1000000000000 from ⟨by omega, by have := HL.out; omega⟩)
          clear hst q1 q2 q3 q4 o5 b5 B5 B6 o6 r6 BW6 HO5 HB5 HB4 HB3 HTT HQ hm1 hdr hx1 hml hfa hca hbs hf ham HP HBN HEK HSZ HO HD HA2 HEN
          go_wp2_with fail
          go_roundg (gk - 1)
          case measure => exact hgk
          case rel => exact ⟨m, e, f, true, rfl, rfl, rfl, HGK.out.1, HGK.out.2, HST⟩
        | true =>
          obtain ⟨av, lv, cv, rfl, -⟩ := o6.form
          have HR6 := Lib.hid r6
          have HO6 := Lib.hid (o6.base q2.size)
          have HT6 : Hid (T = (bss ++ [acc ++ b] ++ (runC smN f m (log.drop m) false [] m).1, (runC smN f m (log.drop m) false [] m).2)) := Lib.hid (by
            have := run_end (f := f) acc e HP.out HBN.out HEK.out
            rw [hm1, hdr] at this
            rw [HTT.out, this, List.append_assoc, List.singleton_append])
          have HW6 := Lib.hid BW6
          have HGK := Lib.hid (show f ≤ gk - 1 ∧ m ≤ 1000000000000 ∧ log.length - m < f ∧ m ≤ log.length ∧ (bss ++ [acc ++ b]).length ≤ m from ⟨by omega, by have := HL.out; omega, by omega, hml, by rw [List.length_append, List.length_singleton]; omega⟩)
          generalize acc ++ b = ab at *
          clear q1 q2 q3 q4 o5 b5 B5 B6 o6 r6 BW6 HO5 HB5 HB4 HB3 HTT HQ hm1 hdr hx1 hml hfa hca hbs hf ham HP HBN HEK HSZ HO HD HA2 HEN
          go_wp2_with (at_builtin; refine wp_appR _ _ (by rfl) (by rfl) (by rfl) HR6.out HO6.out _ (by rfl) (by rfl) ?c1 hwsz ?_)
          case c1 => exact hbs2
          intro v7 w7 r7 b7 hkp
          clear hkp
          have HST : Hid (RdSt w log T f v7 (.slice none 0 0) m m false w7) := Lib.hid ⟨bss ++ [ab], [], w7, r7, HW6.out.trans b7, OwnB.nil _ _, Below.refl _ _, HGK.out.2.2.1, HGK.out.2.2.2.1, Nat.le_refl _, Nat.zero_le _, HGK.out.2.2.2.2, HT6.out⟩
          clear r7 b7 HT6 HR6 HO6 HW6
          go_wp2_with fail
          go_roundg (gk - 1)
          case measure => exact hgk
          case rel => exact ⟨m, m, f, false, rfl, rfl, rfl, HGK.out.1, HGK.out.2.1, HST⟩
end Go.Proofs.YtmmkgopnccfiiaaGreatDoor
