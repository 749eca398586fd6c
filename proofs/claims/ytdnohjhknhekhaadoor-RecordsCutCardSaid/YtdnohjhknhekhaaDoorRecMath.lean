/- Plain mathematics of records in blocks (sm: the four bytes of a sum): what is laid is read again; what is cut anywhere is cut off. -/
import Derived.Test.YtdnohjhknhekhaaDoorBits
namespace Go.Proofs.YtdnohjhknhekhaaDoor
set_option linter.unusedVariables false
/-- zeros at a block's end, where no head goes -/
def padN (a : Nat) : Nat := if 256 - a % 256 < 7 then 256 - a % 256 else 0
/-- how many bytes go behind a head that is laid from a on -/
def roomN (a : Nat) : Nat := 256 - (a + padN a) % 256 - 7
theorem pad_room (a : Nat) : 7 ≤ 256 - (a + padN a) % 256 ∧ roomN a ≤ 249 ∧ padN a ≤ 6 := by
  unfold roomN padN
  split <;> omega
theorem pad_start (a : Nat) : padN (a + padN a) = 0 := by
  unfold padN
  repeat' split
  all_goals omega
def hdB (k : Nat) (b : List UInt8) : List UInt8 := [UInt8.ofNat (b.length % 256), UInt8.ofNat (b.length / 256), UInt8.ofNat k]
def pieceB (sm : List UInt8 → List UInt8) (k : Nat) (b : List UInt8) : List UInt8 := sm (hdB k b ++ b) ++ (hdB k b ++ b)
def kindB (first last : Bool) : Nat := if first && last then 1 else if first then 2 else if last then 4 else 3
def layF (sm : List UInt8 → List UInt8) : Nat → Nat → Bool → List UInt8 → List UInt8
  | 0, _, _, _ => []
  | f + 1, a, first, b =>
    List.replicate (padN a) 0 ++ (pieceB sm (kindB first (decide (b.length ≤ roomN a))) (b.take (roomN a)) ++
      if b.length ≤ roomN a then [] else layF sm f (a + padN a + 7 + roomN a) false (b.drop (roomN a)))
/-- A record laid behind a bytes. -/
def layB (sm : List UInt8 → List UInt8) (a : Nat) (b : List UInt8) : List UInt8 := layF sm (2 * b.length + 2) a true b
/-- What the piece at place a tells, r being the log from there on. -/
def pieceS (sm : List UInt8 → List UInt8) (a : Nat) (r : List UInt8) : Option (Nat × List UInt8) :=
  if 256 - a % 256 < 7 ∨ r.length < 7 then none else
  if 256 - a % 256 - 7 < (r.getD 4 0).toNat + 256 * (r.getD 5 0).toNat ∨ r.length < 7 + ((r.getD 4 0).toNat + 256 * (r.getD 5 0).toNat) ∨ (r.getD 6 0).toNat < 1 ∨ 4 < (r.getD 6 0).toNat then none else
  if r.take 4 = sm ((r.drop 4).take (3 + ((r.getD 4 0).toNat + 256 * (r.getD 5 0).toNat))) then some ((r.getD 6 0).toNat, (r.drop 7).take ((r.getD 4 0).toNat + 256 * (r.getD 5 0).toNat)) else none
/-- The pieces behind a first one. -/
def restS (sm : List UInt8 → List UInt8) : Nat → Nat → List UInt8 → List UInt8 → Option (List UInt8 × Nat)
  | 0, _, _, _ => none
  | f + 1, a, r, acc => match pieceS sm (a + padN a) (r.drop (padN a)) with
    | none => none
    | some (k, b) => if k = 3 then restS sm f (a + padN a + 7 + b.length) (r.drop (padN a + 7 + b.length)) (acc ++ b) else if k = 4 then some (acc ++ b, a + padN a + 7 + b.length) else none
/-- The record behind a bytes, and where it ends. -/
def recordS (sm : List UInt8 → List UInt8) (f a : Nat) (r : List UInt8) : Option (List UInt8 × Nat) :=
  match pieceS sm (a + padN a) (r.drop (padN a)) with
  | none => none
  | some (k, b) => if k = 1 then some (b, a + padN a + 7 + b.length) else if k = 2 then restS sm f (a + padN a + 7 + b.length) (r.drop (padN a + 7 + b.length)) b else none
/-- Is what stands behind a bytes cut off? -/
def tornS (sm : List UInt8 → List UInt8) : Nat → Bool → Nat → List UInt8 → Bool
  | 0, _, _, _ => false
  | f + 1, first, a, r =>
    if (r.drop (padN a)).length < 7 then true else
    if 256 - (a + padN a) % 256 - 7 < ((r.drop (padN a)).getD 4 0).toNat + 256 * ((r.drop (padN a)).getD 5 0).toNat then false else
    if (r.drop (padN a)).length < 7 + (((r.drop (padN a)).getD 4 0).toNat + 256 * ((r.drop (padN a)).getD 5 0).toNat) then true else
    match pieceS sm (a + padN a) (r.drop (padN a)) with
    | none => false
    | some (k, b) => if k = (if first then 2 else 3) then tornS sm f false (a + padN a + 7 + b.length) (r.drop (padN a + 7 + b.length)) else false
def readS (sm : List UInt8 → List UInt8) : Nat → Nat → List UInt8 → List (List UInt8) × Nat × Bool
  | 0, a, r => ([], a, false)
  | f + 1, a, r => match recordS sm (r.length + 1) a r with
    | none => ([], a, tornS sm (r.length + 1) true a r)
    | some (b, e) => (b :: (readS sm f e (r.drop (e - a))).1, (readS sm f e (r.drop (e - a))).2)
section
theorem four_of {l : List UInt8} (h : l.length = 4) : ∃ x0 x1 x2 x3, l = [x0, x1, x2, x3] := by
  match l, h with
  | [x0, x1, x2, x3], _ => exact ⟨x0, x1, x2, x3, rfl⟩
theorem kind_bd (first last : Bool) : 1 ≤ kindB first last ∧ kindB first last ≤ 4 := by
  cases first <;> cases last <;> decide
theorem piece_len {sm : List UInt8 → List UInt8} (hs : ∀ l, (sm l).length = 4) (k : Nat) (b : List UInt8) : (pieceB sm k b).length = 7 + b.length := by
  unfold pieceB hdB
  simp [hs]; omega
/-- a piece, written out -/
theorem piece_cons {sm : List UInt8 → List UInt8} (hs : ∀ l, (sm l).length = 4) (k : Nat) (b : List UInt8) : ∃ x0 x1 x2 x3, sm (hdB k b ++ b) = [x0, x1, x2, x3] ∧
    pieceB sm k b = x0 :: x1 :: x2 :: x3 :: UInt8.ofNat (b.length % 256) :: UInt8.ofNat (b.length / 256) :: UInt8.ofNat k :: b := by
  obtain ⟨x0, x1, x2, x3, h⟩ := four_of (hs (hdB k b ++ b))
  exact ⟨x0, x1, x2, x3, h, by unfold pieceB; rw [h]; rfl⟩
theorem num_two {n : Nat} (h : n ≤ 249) : (UInt8.ofNat (n % 256)).toNat + 256 * (UInt8.ofNat (n / 256)).toNat = n := by
  rw [byte_of _ (by omega), byte_of _ (by omega)]; omega
theorem pieceS_whole {sm : List UInt8 → List UInt8} (hs : ∀ l, (sm l).length = 4) {a k : Nat} {b : List UInt8} (ha : 7 ≤ 256 - a % 256) (hb : b.length ≤ 256 - a % 256 - 7) (hk : 1 ≤ k ∧ k ≤ 4) (R : List UInt8) : pieceS sm a (pieceB sm k b ++ R) = some (k, b) := by
  obtain ⟨x0, x1, x2, x3, h1, h2⟩ := piece_cons hs k b
  have hn := num_two (n := b.length) (by omega)
  have hkk : (UInt8.ofNat k).toNat = k := byte_of _ (by omega)
  rw [h2]
  unfold pieceS
  simp only [List.cons_append, List.getD_cons_succ, List.getD_cons_zero, List.length_cons, List.length_append, hn, hkk]
  rw [if_neg (by omega), if_neg (by omega), if_pos]
  · rw [List.drop_succ_cons, List.drop_succ_cons, List.drop_succ_cons, List.drop_succ_cons, List.drop_succ_cons, List.drop_succ_cons, List.drop_succ_cons, List.drop_zero, List.take_left' rfl]
  · have e2 : List.take (3 + b.length) (UInt8.ofNat (b.length % 256) :: UInt8.ofNat (b.length / 256) :: UInt8.ofNat k :: (b ++ R)) = UInt8.ofNat (b.length % 256) :: UInt8.ofNat (b.length / 256) :: UInt8.ofNat k :: b := by
      rw [show 3 + b.length = b.length + 1 + 1 + 1 by omega, List.take_succ_cons, List.take_succ_cons, List.take_succ_cons, List.take_left' rfl]
    rw [List.drop_succ_cons, List.drop_succ_cons, List.drop_succ_cons, List.drop_succ_cons, List.drop_zero, e2]
    exact h1.symm
/-- A piece that is cut is none; and it looks cut off. -/
theorem pieceS_cut {sm : List UInt8 → List UInt8} (hs : ∀ l, (sm l).length = 4) {a k : Nat} {b : List UInt8} (hb : b.length ≤ 249) {c : Nat} (hc : c < 7 + b.length) : pieceS sm a ((pieceB sm k b).take c) = none ∧
    (((pieceB sm k b).take c).length < 7 ∨ (((pieceB sm k b).take c).getD 4 0).toNat + 256 * (((pieceB sm k b).take c).getD 5 0).toNat = b.length ∧ ((pieceB sm k b).take c).length < 7 + b.length) := by
  have hl := piece_len hs k b
  have hlc : ((pieceB sm k b).take c).length = c := by rw [List.length_take, hl]; omega
  rcases Nat.lt_or_ge c 7 with h7 | h7
  · refine ⟨?_, .inl (by omega)⟩
    unfold pieceS
    rw [if_pos (.inr (by omega))]
  · obtain ⟨d, rfl⟩ : ∃ d, c = d + 7 := ⟨c - 7, by omega⟩
    obtain ⟨x0, x1, x2, x3, h1, h2⟩ := piece_cons hs k b
    have hn := num_two (n := b.length) hb
    have e : (pieceB sm k b).take (d + 7) = x0 :: x1 :: x2 :: x3 :: UInt8.ofNat (b.length % 256) :: UInt8.ofNat (b.length / 256) :: UInt8.ofNat k :: b.take d := by rw [h2]; rfl
    have hnn : (((pieceB sm k b).take (d + 7)).getD 4 0).toNat + 256 * (((pieceB sm k b).take (d + 7)).getD 5 0).toNat = b.length := by
      rw [e]; simp only [List.getD_cons_succ, List.getD_cons_zero]; exact hn
    refine ⟨?_, .inr ⟨hnn, by omega⟩⟩
    unfold pieceS
    rw [hnn]
    split
    · rfl
    · rw [if_pos (.inr (.inl (by omega)))]
theorem drop_pad (n : Nat) (l : List UInt8) : (List.replicate n (0 : UInt8) ++ l).drop n = l := List.drop_left' (by simp)
/-- How many pieces there may be. -/
def needF (a : Nat) (b : List UInt8) : Nat := 2 * b.length + (if roomN a = 0 then 1 else 0) + 1
theorem need_next {a : Nat} {b : List UInt8} (h : ¬ b.length ≤ roomN a) : needF (a + padN a + 7 + roomN a) (b.drop (roomN a)) < needF a b := by
  unfold needF
  rw [List.length_drop]
  by_cases h0 : roomN a = 0
  · have h1 := pad_room a
    have h2 : ¬ roomN (a + padN a + 7 + roomN a) = 0 := by
      have e : (a + padN a) % 256 = 249 := by unfold roomN at h0; omega
      rw [h0]
      generalize a + padN a = s at *
      have e2 : padN (s + 7 + 0) = 0 := by unfold padN; rw [if_neg (by omega)]
      unfold roomN
      rw [e2]; omega
    rw [if_neg h2, if_pos h0]; omega
  · rw [if_neg h0]
    split <;> omega
theorem lay_step (sm : List UInt8 → List UInt8) (f a : Nat) (first : Bool) (b : List UInt8) : layF sm (f + 1) a first b = List.replicate (padN a) 0 ++ (pieceB sm (kindB first (decide (b.length ≤ roomN a))) (b.take (roomN a)) ++
      if b.length ≤ roomN a then [] else layF sm f (a + padN a + 7 + roomN a) false (b.drop (roomN a))) := rfl
theorem lay_last {sm : List UInt8 → List UInt8} {f a : Nat} {first : Bool} {b : List UInt8} (h : b.length ≤ roomN a) : layF sm (f + 1) a first b = List.replicate (padN a) 0 ++ pieceB sm (kindB first true) b := by
  rw [lay_step, decide_eq_true h, if_pos h, List.append_nil, List.take_of_length_le h]
theorem lay_more {sm : List UInt8 → List UInt8} {f a : Nat} {first : Bool} {b : List UInt8} (h : ¬ b.length ≤ roomN a) : layF sm (f + 1) a first b = List.replicate (padN a) 0 ++ (pieceB sm (kindB first false) (b.take (roomN a)) ++ layF sm f (a + padN a + 7 + roomN a) false (b.drop (roomN a))) := by
  rw [lay_step, decide_eq_false h, if_neg h]
theorem take_room {a : Nat} {b : List UInt8} (h : ¬ b.length ≤ roomN a) : (b.take (roomN a)).length = roomN a := by rw [List.length_take]; omega
/-- what is behind a whole piece -/
theorem drop_piece {sm : List UInt8 → List UInt8} (hs : ∀ l, (sm l).length = 4) (p k : Nat) (b X : List UInt8) : (List.replicate p (0 : UInt8) ++ (pieceB sm k b ++ X)).drop (p + 7 + b.length) = X := by
  rw [show p + 7 + b.length = p + (7 + b.length) by omega, ← List.drop_drop, drop_pad]
  exact List.drop_left' (piece_len hs k b)
theorem rest_whole {sm : List UInt8 → List UInt8} (hs : ∀ l, (sm l).length = 4) : ∀ (f a : Nat) (b acc R : List UInt8) (g : Nat), needF a b ≤ f → (layF sm f a false b).length < g → restS sm g a (layF sm f a false b ++ R) acc = some (acc ++ b, a + (layF sm f a false b).length)
  | 0, a, b, acc, R, g, h, _ => by unfold needF at h; omega
  | f + 1, a, b, acc, R, 0, _, h => by omega
  | f + 1, a, b, acc, R, g + 1, h, hg => by
    obtain ⟨r1, r2, r3⟩ := pad_room a
    by_cases hl : b.length ≤ roomN a
    · rw [lay_last hl] at hg ⊢
      rw [List.append_assoc]
      unfold restS
      rw [drop_pad, pieceS_whole hs r1 hl (kind_bd _ _)]
      have e : kindB false true = 4 := rfl
      simp only [e]
      rw [if_neg (by decide), if_pos trivial]
      simp only [Option.some.injEq, Prod.mk.injEq, true_and, List.length_append, List.length_replicate, piece_len hs]
      omega
    · have ht := take_room hl
      rw [lay_more hl] at hg ⊢
      simp only [List.length_append, List.length_replicate, piece_len hs, ht] at hg
      rw [List.append_assoc, List.append_assoc]
      unfold restS
      rw [drop_pad, pieceS_whole hs r1 (by rw [ht]; exact Nat.le_refl _) (kind_bd _ _)]
      have e : kindB false false = 3 := rfl
      simp only [e, if_true]
      rw [drop_piece hs, ht, rest_whole hs f _ _ _ _ g (by have := need_next hl; omega) (by omega), List.append_assoc, List.take_append_drop]
      simp only [Option.some.injEq, Prod.mk.injEq, true_and, List.length_append, List.length_replicate, piece_len hs, ht]
      omega
theorem need_first (a : Nat) (b : List UInt8) : needF a b ≤ 2 * b.length + 2 := by unfold needF; split <;> omega
theorem record_whole {sm : List UInt8 → List UInt8} (hs : ∀ l, (sm l).length = 4) (a : Nat) (b R : List UInt8) (g : Nat) (hg : (layB sm a b).length < g) : recordS sm g a (layB sm a b ++ R) = some (b, a + (layB sm a b).length) := by
  obtain ⟨r1, r2, r3⟩ := pad_room a
  have hn := need_first a b
  unfold layB at hg ⊢
  by_cases hl : b.length ≤ roomN a
  · rw [lay_last hl, List.append_assoc]
    unfold recordS
    rw [drop_pad, pieceS_whole hs r1 hl (kind_bd _ _)]
    have e : kindB true true = 1 := rfl
    simp only [e, if_true, Option.some.injEq, Prod.mk.injEq, true_and, List.length_append, List.length_replicate, piece_len hs]
    omega
  · have ht := take_room hl
    rw [lay_more hl] at hg ⊢
    simp only [List.length_append, List.length_replicate, piece_len hs, ht] at hg
    rw [List.append_assoc, List.append_assoc]
    unfold recordS
    rw [drop_pad, pieceS_whole hs r1 (by rw [ht]; exact Nat.le_refl _) (kind_bd _ _)]
    have e : kindB true false = 2 := rfl
    simp only [e]
    rw [if_neg (by decide), if_pos trivial, drop_piece hs, ht, rest_whole hs _ _ _ _ _ g (by have := need_next hl; omega) (by omega), List.take_append_drop]
    simp only [Option.some.injEq, Prod.mk.injEq, true_and, List.length_append, List.length_replicate, piece_len hs, ht]
    omega
/-- a cut within the first piece -/
theorem cut_in {sm : List UInt8 → List UInt8} (hs : ∀ l, (sm l).length = 4) (p k c : Nat) (b X : List UInt8) (h : c < p + 7 + b.length) : ((List.replicate p (0 : UInt8) ++ (pieceB sm k b ++ X)).take c).drop p = (pieceB sm k b).take (c - p) := by
  rw [List.drop_take, drop_pad, List.take_append_of_le_length (by rw [piece_len hs]; omega)]
/-- a cut behind it -/
theorem cut_out {sm : List UInt8 → List UInt8} (hs : ∀ l, (sm l).length = 4) (p k c : Nat) (b X : List UInt8) (h : p + 7 + b.length ≤ c) : (List.replicate p (0 : UInt8) ++ (pieceB sm k b ++ X)).take c = List.replicate p 0 ++ (pieceB sm k b ++ X.take (c - (p + 7 + b.length))) := by
  rw [List.take_append, List.take_append, List.length_replicate, piece_len hs, List.take_of_length_le (by rw [List.length_replicate]; omega), List.take_of_length_le (by rw [piece_len hs]; omega)]
  congr 3; omega
theorem rest_cut {sm : List UInt8 → List UInt8} (hs : ∀ l, (sm l).length = 4) : ∀ (f a : Nat) (b acc : List UInt8) (c g : Nat), needF a b ≤ f → c < (layF sm f a false b).length → restS sm g a ((layF sm f a false b).take c) acc = none
  | 0, a, b, acc, c, g, h, _ => by unfold needF at h; omega
  | f + 1, a, b, acc, c, 0, _, _ => rfl
  | f + 1, a, b, acc, c, g + 1, h, hc => by
    obtain ⟨r1, r2, r3⟩ := pad_room a
    by_cases hl : b.length ≤ roomN a
    · rw [lay_last hl] at hc ⊢
      simp only [List.length_append, List.length_replicate, piece_len hs] at hc
      have e := cut_in hs (padN a) (kindB false true) c b [] (by omega)
      rw [List.append_nil] at e
      unfold restS
      rw [e, (pieceS_cut hs (by omega) (by omega)).1]
    · have ht := take_room hl
      rw [lay_more hl] at hc ⊢
      simp only [List.length_append, List.length_replicate, piece_len hs, ht] at hc
      rcases Nat.lt_or_ge c (padN a + 7 + (b.take (roomN a)).length) with h1 | h1
      · unfold restS
        rw [cut_in hs _ _ _ _ _ h1, (pieceS_cut hs (by omega) (by omega)).1]
      · rw [cut_out hs _ _ _ _ _ h1]
        unfold restS
        rw [drop_pad, pieceS_whole hs r1 (by rw [ht]; exact Nat.le_refl _) (kind_bd _ _)]
        have e : kindB false false = 3 := rfl
        simp only [e, if_true]
        rw [drop_piece hs, ht]
        exact rest_cut hs f _ _ _ _ g (by have := need_next hl; omega) (by omega)
theorem record_cut {sm : List UInt8 → List UInt8} (hs : ∀ l, (sm l).length = 4) (a : Nat) (b : List UInt8) (c g : Nat) (hc : c < (layB sm a b).length) : recordS sm g a ((layB sm a b).take c) = none := by
  obtain ⟨r1, r2, r3⟩ := pad_room a
  have hn := need_first a b
  unfold layB at hc ⊢
  by_cases hl : b.length ≤ roomN a
  · rw [lay_last hl] at hc ⊢
    simp only [List.length_append, List.length_replicate, piece_len hs] at hc
    have e := cut_in hs (padN a) (kindB true true) c b [] (by omega)
    rw [List.append_nil] at e
    unfold recordS
    rw [e, (pieceS_cut hs (by omega) (by omega)).1]
  · have ht := take_room hl
    rw [lay_more hl] at hc ⊢
    simp only [List.length_append, List.length_replicate, piece_len hs, ht] at hc
    rcases Nat.lt_or_ge c (padN a + 7 + (b.take (roomN a)).length) with h1 | h1
    · unfold recordS
      rw [cut_in hs _ _ _ _ _ h1, (pieceS_cut hs (by omega) (by omega)).1]
    · rw [cut_out hs _ _ _ _ _ h1]
      unfold recordS
      rw [drop_pad, pieceS_whole hs r1 (by rw [ht]; exact Nat.le_refl _) (kind_bd _ _)]
      have e : kindB true false = 2 := rfl
      simp only [e]
      rw [if_neg (by decide), if_pos trivial, drop_piece hs, ht]
      exact rest_cut hs _ _ _ _ _ g (by have := need_next hl; omega) (by omega)
theorem num_piece {sm : List UInt8 → List UInt8} (hs : ∀ l, (sm l).length = 4) (k : Nat) {b : List UInt8} (hb : b.length ≤ 249) (X : List UInt8) : ((pieceB sm k b ++ X).getD 4 0).toNat + 256 * ((pieceB sm k b ++ X).getD 5 0).toNat = b.length := by
  obtain ⟨x0, x1, x2, x3, -, h2⟩ := piece_cons hs k b
  rw [h2]
  simp only [List.cons_append, List.getD_cons_succ, List.getD_cons_zero]
  exact num_two hb
/-- within a piece that is cut it is cut off -/
theorem torn_in {sm : List UInt8 → List UInt8} (hs : ∀ l, (sm l).length = 4) {a k c g : Nat} {first : Bool} {b r : List UInt8} (hb : b.length ≤ roomN a) (hc : c < 7 + b.length) (hr : r.drop (padN a) = (pieceB sm k b).take c) : tornS sm (g + 1) first a r = true := by
  obtain ⟨r1, r2, r3⟩ := pad_room a
  unfold tornS
  rw [hr]
  by_cases h7 : ((pieceB sm k b).take c).length < 7
  · rw [if_pos h7]
  · rw [if_neg h7]
    rcases (pieceS_cut hs (a := a) (k := k) (by omega) hc).2 with h | ⟨h1, h2⟩
    · exact absurd h h7
    · rw [h1, if_neg (by unfold roomN at hb; omega), if_pos h2]
theorem torn_cut {sm : List UInt8 → List UInt8} (hs : ∀ l, (sm l).length = 4) : ∀ (f a : Nat) (first : Bool) (b : List UInt8) (c g : Nat), needF a b ≤ f → c < (layF sm f a first b).length → c < g → tornS sm g first a ((layF sm f a first b).take c) = true
  | 0, a, first, b, c, g, h, _, _ => by unfold needF at h; omega
  | f + 1, a, first, b, c, 0, _, _, hg => by omega
  | f + 1, a, first, b, c, g + 1, h, hc, hg => by
    obtain ⟨r1, r2, r3⟩ := pad_room a
    by_cases hl : b.length ≤ roomN a
    · rw [lay_last hl] at hc ⊢
      simp only [List.length_append, List.length_replicate, piece_len hs] at hc
      have e := cut_in hs (padN a) (kindB first true) c b [] (by omega)
      rw [List.append_nil] at e
      exact torn_in hs hl (by omega) e
    · have ht := take_room hl
      rw [lay_more hl] at hc ⊢
      simp only [List.length_append, List.length_replicate, piece_len hs, ht] at hc
      rcases Nat.lt_or_ge c (padN a + 7 + (b.take (roomN a)).length) with h1 | h1
      · exact torn_in hs (by rw [ht]; exact Nat.le_refl _) (by omega) (cut_in hs _ _ _ _ _ h1)
      · rw [cut_out hs _ _ _ _ _ h1]
        unfold tornS
        rw [drop_pad, num_piece hs _ (by rw [ht]; exact r2), pieceS_whole hs r1 (by rw [ht]; exact Nat.le_refl _) (kind_bd _ _)]
        rw [if_neg (by rw [List.length_append, piece_len hs]; omega), if_neg (by rw [ht]; unfold roomN; omega), if_neg (by rw [List.length_append, piece_len hs]; omega)]
        have e : kindB first false = if first = true then 2 else 3 := by cases first <;> rfl
        simp only [e, if_true]
        rw [drop_piece hs, ht]
        exact torn_cut hs f _ false _ _ g (by have := need_next hl; omega) (by omega) (by omega)
/-- Records laid one behind the other, from a on. -/
def layAll (sm : List UInt8 → List UInt8) : Nat → List (List UInt8) → List UInt8
  | _, [] => []
  | a, b :: r => layB sm a b ++ layAll sm (a + (layB sm a b).length) r
/-- How many of them are whole within c bytes. -/
def fitK (sm : List UInt8 → List UInt8) : Nat → List (List UInt8) → Nat → Nat
  | _, [], _ => 0
  | a, b :: r, c => if (layB sm a b).length ≤ c then fitK sm (a + (layB sm a b).length) r (c - (layB sm a b).length) + 1 else 0
theorem lay_pos {sm : List UInt8 → List UInt8} (hs : ∀ l, (sm l).length = 4) (a : Nat) (b : List UInt8) : 7 ≤ (layB sm a b).length := by
  unfold layB
  rw [lay_step]
  simp only [List.length_append, piece_len hs]
  omega
theorem record_none {sm : List UInt8 → List UInt8} (g a : Nat) : recordS sm g a [] = none := by
  unfold recordS
  rw [List.drop_nil]
  unfold pieceS
  rw [if_pos (.inr (by decide))]
theorem torn_none {sm : List UInt8 → List UInt8} (g a : Nat) : tornS sm (g + 1) true a [] = true := by
  unfold tornS
  rw [List.drop_nil, if_pos (by decide)]
/-- A log that is cut anywhere: the records that are whole are told, and it is cut off. -/
theorem read_cut {sm : List UInt8 → List UInt8} (hs : ∀ l, (sm l).length = 4) : ∀ (rs : List (List UInt8)) (a c g : Nat), c ≤ (layAll sm a rs).length → rs.length < g →
    readS sm g a ((layAll sm a rs).take c) = (rs.take (fitK sm a rs c), a + (layAll sm a (rs.take (fitK sm a rs c))).length, true)
  | [], a, c, 0, _, h => by simp at h
  | [], a, c, g + 1, hc, _ => by
    have h0 : (layAll sm a []).take c = [] := by simp [layAll]
    rw [h0]
    unfold readS
    rw [record_none, torn_none]
    rfl
  | b :: rs, a, c, 0, _, h => by simp at h
  | b :: rs, a, c, g + 1, hc, hg => by
    by_cases hf : (layB sm a b).length ≤ c
    · have e : (layAll sm a (b :: rs)).take c = layB sm a b ++ (layAll sm (a + (layB sm a b).length) rs).take (c - (layB sm a b).length) := by
        rw [layAll, List.take_append, List.take_of_length_le hf]
      have hk : fitK sm a (b :: rs) c = fitK sm (a + (layB sm a b).length) rs (c - (layB sm a b).length) + 1 := by rw [fitK, if_pos hf]
      rw [e, hk]
      unfold readS
      rw [record_whole hs a b _ _ (by rw [List.length_append]; omega)]
      simp only
      rw [show a + (layB sm a b).length - a = (layB sm a b).length by omega, List.drop_left' rfl, read_cut hs rs _ _ g (by rw [layAll, List.length_append] at hc; omega) (by simpa using hg)]
      rw [List.take_succ_cons, layAll, List.length_append, Nat.add_assoc]
    · have e : (layAll sm a (b :: rs)).take c = (layB sm a b).take c := by
        rw [layAll, List.take_append_of_le_length (by omega)]
      have hk : fitK sm a (b :: rs) c = 0 := by rw [fitK, if_neg hf]
      have hl : ((layB sm a b).take c).length = c := by rw [List.length_take]; omega
      rw [e, hk]
      unfold readS
      rw [record_cut hs a b c _ (by omega), hl]
      have ht : tornS sm (c + 1) true a ((layB sm a b).take c) = true := by
        unfold layB at hf ⊢
        exact torn_cut hs _ a true b c (c + 1) (need_first a b) (by omega) (by omega)
      rw [ht]
      rfl
theorem fitK_all {sm : List UInt8 → List UInt8} : ∀ (rs : List (List UInt8)) (a : Nat), fitK sm a rs (layAll sm a rs).length = rs.length
  | [], _ => rfl
  | b :: rs, a => by
    rw [layAll, fitK, List.length_append, if_pos (by omega), Nat.add_sub_cancel_left, fitK_all rs]; rfl
theorem read_all {sm : List UInt8 → List UInt8} (hs : ∀ l, (sm l).length = 4) (rs : List (List UInt8)) (a g : Nat) (hg : rs.length < g) : readS sm g a (layAll sm a rs) = (rs, a + (layAll sm a rs).length, true) := by
  have := read_cut hs rs a (layAll sm a rs).length g (Nat.le_refl _) hg
  rwa [fitK_all, List.take_length, List.take_length] at this
theorem fitK_le {sm : List UInt8 → List UInt8} : ∀ (rs : List (List UInt8)) (a c : Nat), fitK sm a rs c ≤ rs.length
  | [], _, _ => Nat.le_refl _
  | b :: rs, a, c => by
    rw [fitK]
    split
    · have := fitK_le rs (a + (layB sm a b).length) (c - (layB sm a b).length) (sm := sm)
      simp; omega
    · simp
end
end Go.Proofs.YtdnohjhknhekhaaDoor
