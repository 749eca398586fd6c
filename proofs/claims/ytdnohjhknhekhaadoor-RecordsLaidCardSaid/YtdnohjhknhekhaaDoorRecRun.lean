/- Plain mathematics of records in blocks, as the program reads them: piece by piece, with what is begun; it tells what the record-wise reading tells. And a log's bytes hang on the place within its block alone. -/
import Derived.Test.YtdnohjhknhekhaaDoorRecMath
namespace Go.Proofs.YtdnohjhknhekhaaDoor
set_option linter.unusedVariables false
/-- how many bytes the head at the front of r names -/
def szS (r : List UInt8) : Nat := (r.getD 4 0).toNat + 256 * (r.getD 5 0).toNat
/-- does the log end within the piece at place a, or ahead of it? -/
def cutS (a : Nat) (r : List UInt8) : Bool := decide (r.length < 7) || (decide (r.length < 7 + szS r) && decide (7 + szS r ≤ 256 - a % 256))
def beginsK (k : Nat) : Bool := k == 1 || k == 2
def endsK (k : Nat) : Bool := k == 1 || k == 4
/-- The reading: place, what is behind it, is a record begun, its bytes, the end of the last one. -/
def runC (sm : List UInt8 → List UInt8) : Nat → Nat → List UInt8 → Bool → List UInt8 → Nat → List (List UInt8) × Nat × Bool
  | 0, _, _, _, _, e => ([], e, false)
  | f + 1, a, r, bg, acc, e => match pieceS sm (a + padN a) (r.drop (padN a)) with
    | none => ([], e, cutS (a + padN a) (r.drop (padN a)))
    | some (k, b) => if beginsK k = bg then ([], e, false) else
      if endsK k then ((acc ++ b) :: (runC sm f (a + padN a + 7 + b.length) (r.drop (padN a + 7 + b.length)) false [] (a + padN a + 7 + b.length)).1,
        (runC sm f (a + padN a + 7 + b.length) (r.drop (padN a + 7 + b.length)) false [] (a + padN a + 7 + b.length)).2)
      else runC sm f (a + padN a + 7 + b.length) (r.drop (padN a + 7 + b.length)) true (acc ++ b) e
/-- What a piece tells of its place. -/
theorem pieceS_some {sm : List UInt8 → List UInt8} {a : Nat} {r : List UInt8} {k : Nat} {b : List UInt8} (h : pieceS sm a r = some (k, b)) :
    7 + b.length ≤ r.length ∧ 7 + b.length ≤ 256 - a % 256 ∧ b.length = szS r ∧ 1 ≤ k ∧ k ≤ 4 ∧ k = (r.getD 6 0).toNat ∧ b = (r.drop 7).take b.length := by
  unfold pieceS at h
  split at h
  · cases h
  · rename_i h1
    split at h
    · cases h
    · rename_i h2
      split at h
      · rename_i h3
        injection h with h
        injection h with h4 h5
        have hl : b.length = szS r := by
          rw [← h5, List.length_take, List.length_drop]
          unfold szS
          omega
        subst h4
        refine ⟨?_, ?_, hl, ?_, ?_, rfl, ?_⟩
        · rw [hl]; unfold szS; omega
        · rw [hl]; unfold szS; omega
        · omega
        · omega
        · rw [hl]; exact h5.symm
      · cases h
theorem torn_none_piece {sm : List UInt8 → List UInt8} {f a : Nat} {first : Bool} {r : List UInt8} (h : pieceS sm (a + padN a) (r.drop (padN a)) = none) : tornS sm (f + 1) first a r = cutS (a + padN a) (r.drop (padN a)) := by
  have hp := (pad_room a).1
  unfold tornS
  rw [h]
  generalize r.drop (padN a) = r' at *
  generalize a + padN a = a' at *
  unfold cutS szS
  by_cases h1 : r'.length < 7
  · rw [if_pos h1, decide_eq_true h1, Bool.true_or]
  · rw [if_neg h1, decide_eq_false h1, Bool.false_or]
    by_cases h2 : 256 - a' % 256 - 7 < (r'.getD 4 0).toNat + 256 * (r'.getD 5 0).toNat
    · rw [if_pos h2, decide_eq_false (p := 7 + ((r'.getD 4 0).toNat + 256 * (r'.getD 5 0).toNat) ≤ 256 - a' % 256) (by omega), Bool.and_false]
    · rw [if_neg h2, decide_eq_true (p := 7 + ((r'.getD 4 0).toNat + 256 * (r'.getD 5 0).toNat) ≤ 256 - a' % 256) (by omega), Bool.and_true]
      by_cases h3 : r'.length < 7 + ((r'.getD 4 0).toNat + 256 * (r'.getD 5 0).toNat)
      · rw [if_pos h3, decide_eq_true h3]
      · rw [if_neg h3, decide_eq_false h3]
theorem torn_some_piece {sm : List UInt8 → List UInt8} {f a : Nat} {first : Bool} {r : List UInt8} {k : Nat} {b : List UInt8} (h : pieceS sm (a + padN a) (r.drop (padN a)) = some (k, b)) :
    tornS sm (f + 1) first a r = if k = (if first then 2 else 3) then tornS sm f false (a + padN a + 7 + b.length) (r.drop (padN a + 7 + b.length)) else false := by
  obtain ⟨h1, h2, h3, -⟩ := pieceS_some h
  rw [h3] at h1 h2
  unfold szS at h1 h2
  rw [tornS, h, if_neg (by omega), if_neg (by omega), if_neg (by omega)]
theorem run_none {sm : List UInt8 → List UInt8} {f a : Nat} {r : List UInt8} (bg : Bool) (acc : List UInt8) (e : Nat) (h : pieceS sm (a + padN a) (r.drop (padN a)) = none) : runC sm (f + 1) a r bg acc e = ([], e, cutS (a + padN a) (r.drop (padN a))) := by
  rw [runC, h]
theorem run_bad {sm : List UInt8 → List UInt8} {f a : Nat} {r : List UInt8} {bg : Bool} (acc : List UInt8) (e : Nat) {k : Nat} {b : List UInt8} (h : pieceS sm (a + padN a) (r.drop (padN a)) = some (k, b)) (hb : beginsK k = bg) : runC sm (f + 1) a r bg acc e = ([], e, false) := by
  rw [runC, h]; exact if_pos hb
theorem run_end {sm : List UInt8 → List UInt8} {f a : Nat} {r : List UInt8} {bg : Bool} (acc : List UInt8) (e : Nat) {k : Nat} {b : List UInt8} (h : pieceS sm (a + padN a) (r.drop (padN a)) = some (k, b)) (hb : beginsK k = !bg) (he : endsK k = true) :
    runC sm (f + 1) a r bg acc e = ((acc ++ b) :: (runC sm f (a + padN a + 7 + b.length) (r.drop (padN a + 7 + b.length)) false [] (a + padN a + 7 + b.length)).1,
        (runC sm f (a + padN a + 7 + b.length) (r.drop (padN a + 7 + b.length)) false [] (a + padN a + 7 + b.length)).2) := by
  rw [runC, h]
  have hn : ¬ beginsK k = bg := by rw [hb]; cases bg <;> decide
  simp only [if_neg hn, he, if_true]
theorem run_on {sm : List UInt8 → List UInt8} {f a : Nat} {r : List UInt8} {bg : Bool} (acc : List UInt8) (e : Nat) {k : Nat} {b : List UInt8} (h : pieceS sm (a + padN a) (r.drop (padN a)) = some (k, b)) (hb : beginsK k = !bg) (he : endsK k = false) :
    runC sm (f + 1) a r bg acc e = runC sm f (a + padN a + 7 + b.length) (r.drop (padN a + 7 + b.length)) true (acc ++ b) e := by
  rw [runC, h]
  have hn : ¬ beginsK k = bg := by rw [hb]; cases bg <;> decide
  simp only [if_neg hn, he, Bool.false_eq_true, if_false]
/-- Enough rounds are enough. -/
theorem torn_fuel {sm : List UInt8 → List UInt8} : ∀ (f g a : Nat) (first : Bool) (r : List UInt8), r.length < f → r.length < g → tornS sm f first a r = tornS sm g first a r
  | 0, _, _, _, _, h, _ => by omega
  | _ + 1, 0, _, _, _, _, h => by omega
  | f + 1, g + 1, a, first, r, hf, hg => by
    cases h : pieceS sm (a + padN a) (r.drop (padN a)) with
    | none => rw [torn_none_piece h, torn_none_piece h]
    | some kb =>
      obtain ⟨k, b⟩ := kb
      have hl := (pieceS_some h).1
      rw [List.length_drop] at hl
      rw [torn_some_piece h, torn_some_piece h, torn_fuel f g _ false _ (by rw [List.length_drop]; omega) (by rw [List.length_drop]; omega)]
theorem rest_fuel {sm : List UInt8 → List UInt8} : ∀ (f g a : Nat) (r acc : List UInt8), r.length < f → r.length < g → restS sm f a r acc = restS sm g a r acc
  | 0, _, _, _, _, h, _ => by omega
  | _ + 1, 0, _, _, _, _, h => by omega
  | f + 1, g + 1, a, r, acc, hf, hg => by
    unfold restS
    cases h : pieceS sm (a + padN a) (r.drop (padN a)) with
    | none => rfl
    | some kb =>
      obtain ⟨k, b⟩ := kb
      have hl := (pieceS_some h).1
      rw [List.length_drop] at hl
      simp only
      rw [rest_fuel f g _ _ _ (by rw [List.length_drop]; omega) (by rw [List.length_drop]; omega)]
/-- Where a record ends, and that it has some bytes. -/
theorem rest_some {sm : List UInt8 → List UInt8} : ∀ (f a : Nat) (r acc b : List UInt8) (e : Nat), restS sm f a r acc = some (b, e) → a + 7 ≤ e ∧ e ≤ a + r.length
  | 0, _, _, _, _, _, h => by cases h
  | f + 1, a, r, acc, b, e, h => by
    unfold restS at h
    cases hp : pieceS sm (a + padN a) (r.drop (padN a)) with
    | none => rw [hp] at h; cases h
    | some kb =>
      obtain ⟨k, c⟩ := kb
      have hl := (pieceS_some hp).1
      rw [List.length_drop] at hl
      rw [hp] at h
      simp only at h
      split at h
      · have := rest_some f _ _ _ _ _ h
        rw [List.length_drop] at this
        omega
      · split at h
        · injection h with h; injection h with h1 h2; omega
        · cases h
/-- The two readings agree. -/
theorem run_read {sm : List UInt8 → List UInt8} : ∀ (f : Nat), (∀ (g a : Nat) (r : List UInt8), r.length < f → r.length < g → runC sm f a r false [] a = readS sm g a r) ∧
    (∀ (g h a : Nat) (r acc : List UInt8) (e : Nat), r.length < f → r.length < g → r.length < h → runC sm f a r true acc e = match restS sm h a r acc with
      | none => ([], e, tornS sm h false a r)
      | some (b, e2) => (b :: (readS sm g e2 (r.drop (e2 - a))).1, (readS sm g e2 (r.drop (e2 - a))).2))
  | 0 => ⟨fun _ _ _ h _ => by omega, fun _ _ _ _ _ _ h _ => by omega⟩
  | f + 1 => by
    obtain ⟨ih1, ih2⟩ := run_read (sm := sm) f
    refine ⟨fun g a r hf hg => ?_, fun g h a r acc e hf hg hh => ?_⟩
    · obtain ⟨g, rfl⟩ : ∃ g', g = g' + 1 := ⟨g - 1, by omega⟩
      unfold readS recordS
      cases hp : pieceS sm (a + padN a) (r.drop (padN a)) with
      | none => rw [run_none _ _ _ hp]; simp only; rw [torn_none_piece hp]
      | some kb =>
        obtain ⟨k, b⟩ := kb
        obtain ⟨hl, -, -, k1, k4, -⟩ := pieceS_some hp
        rw [List.length_drop] at hl
        have hd : (r.drop (padN a + 7 + b.length)).length = r.length - (padN a + 7 + b.length) := List.length_drop
        have hk : k = 1 ∨ k = 2 ∨ k = 3 ∨ k = 4 := by omega
        rcases hk with rfl | rfl | rfl | rfl
        · rw [run_end [] a hp rfl rfl, ih1 g _ _ (by omega) (by omega)]
          simp only [if_true, List.nil_append]
          rw [show a + padN a + 7 + b.length - a = padN a + 7 + b.length by omega]
        · rw [run_on [] a hp rfl rfl, ih2 g (r.length + 1) _ _ _ _ (by omega) (by omega) (by omega)]
          simp only [List.nil_append, show ¬ (2 : Nat) = 1 by decide, if_false, if_true]
          cases hr : restS sm (r.length + 1) (a + padN a + 7 + b.length) (r.drop (padN a + 7 + b.length)) b with
          | none =>
            simp only
            rw [torn_some_piece hp, if_pos rfl, if_pos rfl, torn_fuel (r.length + 1) r.length _ _ _ (by omega) (by omega)]
          | some be =>
            obtain ⟨b2, e2⟩ := be
            have he := rest_some _ _ _ _ _ _ hr
            simp only
            rw [List.drop_drop, show padN a + 7 + b.length + (e2 - (a + padN a + 7 + b.length)) = e2 - a by omega]
        · rw [run_bad (bg := false) [] a hp rfl]
          simp only [show ¬ (3 : Nat) = 1 by decide, show ¬ (3 : Nat) = 2 by decide, if_false]
          rw [torn_some_piece hp, if_neg (by decide)]
        · rw [run_bad (bg := false) [] a hp rfl]
          simp only [show ¬ (4 : Nat) = 1 by decide, show ¬ (4 : Nat) = 2 by decide, if_false]
          rw [torn_some_piece hp, if_neg (by decide)]
    · obtain ⟨h, rfl⟩ : ∃ h', h = h' + 1 := ⟨h - 1, by omega⟩
      rw [restS]
      cases hp : pieceS sm (a + padN a) (r.drop (padN a)) with
      | none => rw [run_none _ _ _ hp]; simp only; rw [torn_none_piece hp]
      | some kb =>
        obtain ⟨k, b⟩ := kb
        obtain ⟨hl, -, -, k1, k4, -⟩ := pieceS_some hp
        rw [List.length_drop] at hl
        have hd : (r.drop (padN a + 7 + b.length)).length = r.length - (padN a + 7 + b.length) := List.length_drop
        have hk : k = 1 ∨ k = 2 ∨ k = 3 ∨ k = 4 := by omega
        rcases hk with rfl | rfl | rfl | rfl
        · rw [run_bad (bg := true) acc e hp rfl]
          simp only [show ¬ (1 : Nat) = 3 by decide, show ¬ (1 : Nat) = 4 by decide, if_false]
          rw [torn_some_piece hp, if_neg (by decide)]
        · rw [run_bad (bg := true) acc e hp rfl]
          simp only [show ¬ (2 : Nat) = 3 by decide, show ¬ (2 : Nat) = 4 by decide, if_false]
          rw [torn_some_piece hp, if_neg (by decide)]
        · rw [run_on acc e hp rfl rfl, ih2 g h _ _ _ _ (by omega) (by omega) (by omega)]
          simp only [if_true]
          cases hr : restS sm h (a + padN a + 7 + b.length) (r.drop (padN a + 7 + b.length)) (acc ++ b) with
          | none =>
            simp only
            rw [torn_some_piece hp, if_pos (by decide)]
          | some be =>
            obtain ⟨b2, e2⟩ := be
            have he := rest_some _ _ _ _ _ _ hr
            simp only
            rw [List.drop_drop, show padN a + 7 + b.length + (e2 - (a + padN a + 7 + b.length)) = e2 - a by omega]
        · rw [run_end acc e hp rfl rfl, ih1 g _ _ (by omega) (by omega)]
          simp only [show ¬ (4 : Nat) = 3 by decide, if_true, if_false]
          rw [show a + padN a + 7 + b.length - a = padN a + 7 + b.length by omega]
/-- A log is read so. -/
def readC (sm : List UInt8 → List UInt8) (log : List UInt8) : List (List UInt8) × Nat × Bool := runC sm (log.length + 1) 0 log false [] 0
theorem readC_is {sm : List UInt8 → List UInt8} (log : List UInt8) : readC sm log = readS sm (log.length + 1) 0 log := (run_read _).1 _ _ _ (by omega) (by omega)
theorem all_len {sm : List UInt8 → List UInt8} (hs : ∀ l, (sm l).length = 4) : ∀ (rs : List (List UInt8)) (a : Nat), 7 * rs.length ≤ (layAll sm a rs).length
  | [], _ => by simp
  | b :: rs, a => by
    have h1 := lay_pos hs a b
    have h2 := all_len hs rs (a + (layB sm a b).length)
    rw [layAll, List.length_append, List.length_cons]; omega
theorem fit_len {sm : List UInt8 → List UInt8} (hs : ∀ l, (sm l).length = 4) : ∀ (rs : List (List UInt8)) (a c : Nat), 7 * fitK sm a rs c ≤ c
  | [], _, _ => by simp [fitK]
  | b :: rs, a, c => by
    rw [fitK]
    split
    · have h1 := lay_pos hs a b
      have h2 := fit_len hs rs (a + (layB sm a b).length) (c - (layB sm a b).length)
      omega
    · omega
/-- Enough rounds are enough, in a log that is cut. -/
theorem readS_fuel {sm : List UInt8 → List UInt8} : ∀ (f g a : Nat) (r : List UInt8), r.length < f → r.length < g → readS sm f a r = readS sm g a r := fun f g a r hf hg => by
  rw [← (run_read (r.length + 1)).1 f a r (by omega) hf, (run_read (r.length + 1)).1 g a r (by omega) hg]
/-- What is read of a log of laid records that is cut at c. -/
theorem readC_cut {sm : List UInt8 → List UInt8} (hs : ∀ l, (sm l).length = 4) (rs : List (List UInt8)) (c : Nat) (hc : c ≤ (layAll sm 0 rs).length) :
    readC sm ((layAll sm 0 rs).take c) = (rs.take (fitK sm 0 rs c), (layAll sm 0 (rs.take (fitK sm 0 rs c))).length, true) := by
  rw [readC_is, readS_fuel _ (((layAll sm 0 rs).take c).length + rs.length + 1) _ _ (by omega) (by omega)]
  have := read_cut hs rs 0 c (((layAll sm 0 rs).take c).length + rs.length + 1) hc (by omega)
  rwa [Nat.zero_add] at this
theorem readC_all {sm : List UInt8 → List UInt8} (hs : ∀ l, (sm l).length = 4) (rs : List (List UInt8)) : readC sm (layAll sm 0 rs) = (rs, (layAll sm 0 rs).length, true) := by
  have := readC_cut hs rs (layAll sm 0 rs).length (Nat.le_refl _)
  rwa [fitK_all, List.take_length, List.take_length] at this
/-- Only the place within the block counts. -/
theorem pad_mod (a : Nat) : padN (a % 256) = padN a := by unfold padN; rw [Nat.mod_mod]
theorem room_mod (a : Nat) : roomN (a % 256) = roomN a := by
  unfold roomN
  rw [pad_mod]
  omega
theorem layF_mod (sm : List UInt8 → List UInt8) : ∀ (f a a' : Nat) (first : Bool) (b : List UInt8), a % 256 = a' % 256 → layF sm f a first b = layF sm f a' first b
  | 0, _, _, _, _, _ => rfl
  | f + 1, a, a', first, b, h => by
    have hp : padN a = padN a' := by rw [← pad_mod a, h, pad_mod]
    have hr : roomN a = roomN a' := by rw [← room_mod a, h, room_mod]
    rw [lay_step, lay_step, hp, hr, layF_mod sm f (a + padN a' + 7 + roomN a') (a' + padN a' + 7 + roomN a') false _ (by omega)]
theorem layB_mod (sm : List UInt8 → List UInt8) (a : Nat) (b : List UInt8) : layB sm (a % 256) b = layB sm a b := layF_mod sm _ _ _ _ _ (Nat.mod_mod _ _)
/-- A record that goes whole into the block. -/
theorem layB_whole (sm : List UInt8 → List UInt8) (a : Nat) (b : List UInt8) (h : b.length ≤ roomN a) : layB sm a b = List.replicate (padN a) 0 ++ pieceB sm 1 b := lay_last h
/-- Pieces that begin at a block's beginning: middle ones, then the last one. -/
def midB (sm : List UInt8 → List UInt8) : Nat → List UInt8 → List UInt8
  | 0, _ => []
  | f + 1, b => if b.length ≤ 249 then pieceB sm 4 b else pieceB sm 3 (b.take 249) ++ midB sm f (b.drop 249)
theorem mid_lay (sm : List UInt8 → List UInt8) : ∀ (f a : Nat) (b : List UInt8), a % 256 = 0 → layF sm f a false b = midB sm f b
  | 0, _, _, _ => rfl
  | f + 1, a, b, h => by
    have hp : padN a = 0 := by unfold padN; rw [if_neg (by omega)]
    have hr : roomN a = 249 := by unfold roomN; rw [hp]; omega
    unfold midB
    by_cases hl : b.length ≤ 249
    · rw [lay_last (by omega), hp, if_pos hl]; rfl
    · rw [lay_more (by omega), hp, hr, if_neg hl, mid_lay sm f _ _ (by omega)]; rfl
theorem mid_fuel (sm : List UInt8 → List UInt8) : ∀ (f g : Nat) (b : List UInt8), b.length < f → b.length < g → midB sm f b = midB sm g b
  | 0, _, _, h, _ => by omega
  | _ + 1, 0, _, _, h => by omega
  | f + 1, g + 1, b, hf, hg => by
    unfold midB
    split
    · rfl
    · rw [mid_fuel sm f g _ (by rw [List.length_drop]; omega) (by rw [List.length_drop]; omega)]
def midsB (sm : List UInt8 → List UInt8) (b : List UInt8) : List UInt8 := midB sm (b.length + 1) b
theorem mids_last (sm : List UInt8 → List UInt8) (b : List UInt8) (h : b.length ≤ 249) : midsB sm b = pieceB sm 4 b := by unfold midsB midB; rw [if_pos h]
theorem mids_more (sm : List UInt8 → List UInt8) (b : List UInt8) (h : ¬ b.length ≤ 249) : midsB sm b = pieceB sm 3 (b.take 249) ++ midsB sm (b.drop 249) := by
  unfold midsB
  rw [midB, if_neg h, mid_fuel sm b.length ((b.drop 249).length + 1) _ (by rw [List.length_drop]; omega) (by omega)]
theorem mids_len (sm : List UInt8 → List UInt8) (hs : ∀ l, (sm l).length = 4) : ∀ (n : Nat) (b : List UInt8), b.length ≤ n → (midsB sm b).length ≤ 8 * b.length + 7
  | n, b, h => by
    by_cases hl : b.length ≤ 249
    · rw [mids_last sm b hl, piece_len hs]; omega
    · match n with
      | 0 => omega
      | n + 1 =>
        have := mids_len sm hs n (b.drop 249) (by rw [List.length_drop]; omega)
        rw [List.length_drop] at this
        rw [mids_more sm b hl, List.length_append, piece_len hs, List.length_take]; omega
/-- A record that goes on into further blocks. -/
theorem layB_more (sm : List UInt8 → List UInt8) (a : Nat) (b : List UInt8) (h : ¬ b.length ≤ roomN a) : layB sm a b = List.replicate (padN a) 0 ++ (pieceB sm 2 (b.take (roomN a)) ++ midsB sm (b.drop (roomN a))) := by
  have h1 := pad_room a
  unfold layB
  rw [show 2 * b.length + 2 = (2 * b.length + 1) + 1 by omega, lay_more h, mid_lay sm _ _ _ (by unfold roomN; omega)]
  unfold midsB
  rw [mid_fuel sm (2 * b.length + 1) ((b.drop (roomN a)).length + 1) _ (by rw [List.length_drop]; omega) (by omega)]
  rfl
theorem layB_len (sm : List UInt8 → List UInt8) (hs : ∀ l, (sm l).length = 4) (a : Nat) (b : List UInt8) : (layB sm a b).length ≤ 8 * b.length + 20 := by
  have h1 := pad_room a
  by_cases h : b.length ≤ roomN a
  · rw [layB_whole sm a b h, List.length_append, List.length_replicate, piece_len hs]; omega
  · have h2 := mids_len sm hs _ (b.drop (roomN a)) (Nat.le_refl _)
    rw [List.length_drop] at h2
    rw [layB_more sm a b h, List.length_append, List.length_replicate, List.length_append, piece_len hs, List.length_take]; omega
/-- Records laid one behind the other, one more. -/
theorem layAll_snoc (sm : List UInt8 → List UInt8) : ∀ (rs : List (List UInt8)) (a : Nat) (b : List UInt8), layAll sm a (rs ++ [b]) = layAll sm a rs ++ layB sm (a + (layAll sm a rs).length) b
  | [], a, b => by simp [layAll]
  | c :: rs, a, b => by
    rw [List.cons_append, layAll, layAll, layAll_snoc sm rs, List.length_append, List.append_assoc, Nat.add_assoc]
end Go.Proofs.YtdnohjhknhekhaaDoor
