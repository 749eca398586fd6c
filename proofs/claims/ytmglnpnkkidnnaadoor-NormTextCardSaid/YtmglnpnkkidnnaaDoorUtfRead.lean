/- The walks of utf.Read and of the reference's Read: both answer what one plain function gives. -/
import Derived.Test.YtmglnpnkkidnnaaDoorUtfRFirst
import Derived.Test.YtmglnpnkkidnnaaDoorSlices
namespace Go.Proofs.YtmglnpnkkidnnaaDoor
set_option linter.unusedVariables false
open Go.RowKit

theorem firstP_le (l : List UInt8) : (firstP l).2 ≤ l.length := by
  cases l with
  | nil => exact Nat.le_refl _
  | cons b r =>
    unfold firstP
    simp only
    by_cases g : ldn b.toNat = 0 ∨ r.length + 1 < ldn b.toNat
    · rw [if_pos g]; exact Nat.zero_le _
    · rw [if_neg g]
      cases tl (r.take (ldn b.toNat - 1)) (ldc b.toNat) with
      | none => exact Nat.zero_le _
      | some c =>
        simp only
        split
        · simp only [List.length_cons]; omega
        · exact Nat.zero_le _
def readF : Nat → List UInt8 → Option (List Int)
  | 0, _ => some []
  | f + 1, l => if l.length = 0 then some [] else if (firstP l).2 = 0 then none else (readF f (l.drop (firstP l).2)).map ((firstP l).1 :: ·)
theorem readF_more (f : Nat) : ∀ (g : Nat) (l : List UInt8), l.length ≤ f → f ≤ g → readF g l = readF f l := by
  induction f with
  | zero =>
    intro g l h _
    have : l.length = 0 := by omega
    cases g with
    | zero => rfl
    | succ g => unfold readF; rw [if_pos this]
  | succ f ih =>
    intro g l h hg
    obtain ⟨g, rfl⟩ : ∃ k, g = k + 1 := ⟨g - 1, by omega⟩
    unfold readF
    by_cases h0 : l.length = 0
    · rw [if_pos h0, if_pos h0]
    · rw [if_neg h0, if_neg h0]
      by_cases h1 : (firstP l).2 = 0
      · rw [if_pos h1, if_pos h1]
      · rw [if_neg h1, if_neg h1, ih g (l.drop (firstP l).2) (by rw [List.length_drop]; omega) (by omega)]
/-- All characters of some bytes, or none. -/
def readP (l : List UInt8) : Option (List Int) := readF l.length l
theorem readP_nil : readP [] = some [] := rfl
theorem readP_step {l : List UInt8} (h : 0 < l.length) : readP l = if (firstP l).2 = 0 then none else (readP (l.drop (firstP l).2)).map ((firstP l).1 :: ·) := by
  obtain ⟨f, hf⟩ : ∃ k, l.length = k + 1 := ⟨l.length - 1, by omega⟩
  unfold readP
  rw [hf]
  rw [readF, if_neg (by omega)]
  by_cases h1 : (firstP l).2 = 0
  · rw [if_pos h1, if_pos h1]
  · rw [if_neg h1, if_neg h1, readF_more (l.drop (firstP l).2).length f _ (Nat.le_refl _) (by rw [List.length_drop]; omega)]

def ReadRes (w : World) (r : Option (List Int)) (e : Ending) (w' : World) : Prop :=
  Below w.heap.size w w' ∧ match r with
  | none => e = .returned (.tuple #[.slice none 0 0, .bool false])
  | some xs => ∃ v, e = .returned (.tuple #[v, .bool true]) ∧ OwnV 3 w.heap.size w' v (xs.map (Value.int .i64))

theorem strLen {s : ByteArray} {n : Nat} (h : n ≤ s.size) : (s.extract n s.size).size = s.size - n := by rw [ByteArray.size_extract]; omega
theorem rest_data (s : ByteArray) (n : Nat) : (s.extract n s.size).data.toList = s.data.toList.drop n := by
  rw [Lib.extract_data, List.take_of_length_le]; rw [List.length_drop, size_toList]; omega

/-- What a round of either loop does. -/
theorem read_none {r : Option (List Int)} {t : ByteArray} {xs : List Int} (ht : 0 < t.size) (H : Hid (r = (readP t.data.toList).map (xs ++ ·))) (h : (firstP t.data.toList).2 = 0) : r = none := by
  rw [H.out, readP_step (by rw [size_toList]; exact ht), if_pos h]; rfl
theorem read_more {r : Option (List Int)} {t : ByteArray} {xs : List Int} (ht : 0 < t.size) (H : Hid (r = (readP t.data.toList).map (xs ++ ·))) (h : (firstP t.data.toList).2 ≠ 0) :
    Hid (r = (readP (t.extract (firstP t.data.toList).2 t.size).data.toList).map ((xs ++ [(firstP t.data.toList).1]) ++ ·)) := by
  refine Lib.hid ?_
  rw [H.out, readP_step (by rw [size_toList]; exact ht), if_neg h, rest_data, Option.map_map]
  congr 1; funext l; simp
theorem read_end {r : Option (List Int)} {t : ByteArray} {xs : List Int} (ht : ¬ 0 < t.size) (H : Hid (r = (readP t.data.toList).map (xs ++ ·))) : r = some xs := by
  rw [H.out, toList_nil ht]; simp [readP_nil]
theorem map_snoc (xs : List Int) (c : Int) : (xs ++ [c]).map (Value.int .i64) = xs.map (Value.int .i64) ++ [.int .i64 c] := by simp

set_option maxHeartbeats 1000000 in
set_option maxRecDepth 100000 in
theorem read_any (s : ByteArray) (hs : s.size ≤ 1000000) (w : World) :
    Calls Tryd.prog 28 #[.string s] w (ReadRes w (readP s.data.toList)) := by
  obtain ⟨r, hr⟩ : ∃ r, readP s.data.toList = r := ⟨_, rfl⟩
  have HR : Hid (r = (readP s.data.toList).map ([] ++ ·)) := Lib.hid (by rw [hr]; simp)
  rw [hr]
  clear hr
  go_enter Tryd.func28, Tryd.ntmps28
  go_wp2
  go_loopw [0, 4] (fun st l wr => ∃ (t : ByteArray) (xs : List Int), st = .string t ∧ OwnV 3 w.heap.size wr l (xs.map (Value.int .i64)) ∧ Below w.heap.size w wr ∧ xs.length + t.size ≤ 1000000 ∧ Hid (r = (readP t.data.toList).map (xs ++ ·)))
    (fun st _ _ => match st with | .string t => t.size | _ => 0)
  case atStart => exact ⟨s, [], rfl, OwnV.nil _ _ _, Below.refl _ _, by simp; omega, HR⟩
  case round =>
    obtain ⟨t, xs, rfl, hown, hbel, hlen, HRt⟩ := hrel
    have hwr := hbel.size
    have hwr0 := Below.refl wr.heap.size wr
    by_cases ht : 0 < t.size
    · have htd : decide (0 < (t.size : Int)) = true := by simp; omega
      have HC : Hid (∀ w', Calls Tryd.prog 44 #[.string t] w' fun e w'' => e = .returned (.tuple #[.int .i64 (firstP t.data.toList).1, .int .i64 ((firstP t.data.toList).2 : Nat)]) ∧ w' = w'') := Lib.hid fun w' => first_any t (by unfold maxLen; omega) w'
      have hle := firstP_le t.data.toList
      rw [size_toList] at hle
      by_cases hn : (firstP t.data.toList).2 = 0
      · obtain rfl := read_none ht HRt hn
        have HC2 : Hid (∀ w', Calls Tryd.prog 44 #[.string t] w' fun e w'' => e = .returned (.tuple #[.int .i64 (firstP t.data.toList).1, .int .i64 0]) ∧ w' = w'') := Lib.hid fun w' => by have := HC.out w'; rw [hn] at this; exact this
        generalize (firstP t.data.toList).1 = c at HC2
        clear HC HRt hle hn
        go_wp2_with (go_at_call 44; refine (HC2.out _).mono ?_; rintro e w' ⟨rfl, rfl⟩)
        go_ret2
        exact ⟨hbel, rfl⟩
      · have HRn := read_more ht HRt hn
        generalize (firstP t.data.toList).1 = c at *
        generalize (firstP t.data.toList).2 = n at *
        have hn0 : ((n : Int) == 0) = false := by simp; omega
        have hn1 : 1 ≤ n := Nat.pos_of_ne_zero hn
        clear HRt hn
        go_upto_region 6 with (go_at_call 44; refine (HC.out _).mono ?_; rintro e w' ⟨rfl, rfl⟩)
        go_wp2_with (at_builtin; refine wp_app elem_int _ _ (by rfl) (by rfl) (by rfl) hown [_] 1 rfl (by rfl) ?c1 ?c2 ?c3 ?c4 (by decide) ?_)
        case c1 => simp [Value.oneCell']
        case c2 => simp; omega
        case c3 => simp [maxLen]; omega
        case c4 => exact hwr
        intro v' w2 hown2 hbel2 hnn
        go_wp2
        go_roundw
        case rel => exact ⟨t.extract n t.size, xs ++ [c], rfl, by rw [map_snoc]; exact hown2, hbel.trans hbel2, by rw [List.length_append, strLen hle]; simp; omega, HRn⟩
        case measure => simp only [strLen hle]; omega
    · have htd : decide (0 < (t.size : Int)) = false := by rw [decide_eq_false_iff_not]; omega
      obtain rfl := read_end ht HRt
      clear HRt
      go_wp2
      go_ret2
      exact ⟨hbel, _, rfl, hown⟩
set_option maxHeartbeats 1000000 in
set_option maxRecDepth 100000 in
theorem rread_any (s : ByteArray) (hs : s.size ≤ 1000000) (w : World) :
    Calls Tryd.prog 30 #[.string s] w (ReadRes w (readP s.data.toList)) := by
  obtain ⟨r, hr⟩ : ∃ r, readP s.data.toList = r := ⟨_, rfl⟩
  have HR : Hid (r = (readP s.data.toList).map ([] ++ ·)) := Lib.hid (by rw [hr]; simp)
  rw [hr]
  clear hr
  go_enter Tryd.func30, Tryd.ntmps30
  go_wp2
  go_loopw [0, 4] (fun st l wr => ∃ (t : ByteArray) (xs : List Int), st = .string t ∧ OwnV 3 w.heap.size wr l (xs.map (Value.int .i64)) ∧ Below w.heap.size w wr ∧ xs.length + t.size ≤ 1000000 ∧ Hid (r = (readP t.data.toList).map (xs ++ ·)))
    (fun st _ _ => match st with | .string t => t.size | _ => 0)
  case atStart => exact ⟨s, [], rfl, OwnV.nil _ _ _, Below.refl _ _, by simp; omega, HR⟩
  case round =>
    obtain ⟨t, xs, rfl, hown, hbel, hlen, HRt⟩ := hrel
    have hwr := hbel.size
    have hwr0 := Below.refl wr.heap.size wr
    by_cases ht : 0 < t.size
    · have htd := isEmpty_no ht
      have HC : Hid (∀ w', Calls Tryd.prog 47 #[.string t] w' fun e w'' => e = .returned (.tuple #[.int .i64 (firstP t.data.toList).1, .int .i64 ((firstP t.data.toList).2 : Nat)]) ∧ Below w'.heap.size w' w'') := Lib.hid fun w' => rfirst_any t (by unfold maxLen; omega) w'
      have hle := firstP_le t.data.toList
      rw [size_toList] at hle
      by_cases hn : (firstP t.data.toList).2 = 0
      · obtain rfl := read_none ht HRt hn
        have HC2 : Hid (∀ w', Calls Tryd.prog 47 #[.string t] w' fun e w'' => e = .returned (.tuple #[.int .i64 (firstP t.data.toList).1, .int .i64 0]) ∧ Below w'.heap.size w' w'') := Lib.hid fun w' => by have := HC.out w'; rw [hn] at this; exact this
        generalize (firstP t.data.toList).1 = c at HC2
        clear HC HRt hle hn
        go_wp2_with (go_at_call 47; refine (HC2.out _).mono ?_; rintro e w1 ⟨rfl, hb1⟩)
        go_ret2
        exact ⟨hbel.trans (hb1.mono hwr), rfl⟩
      · have HRn := read_more ht HRt hn
        generalize (firstP t.data.toList).1 = c at *
        generalize (firstP t.data.toList).2 = n at *
        have hn0 : ((n : Int) == 0) = false := by simp; omega
        have hn1 : 1 ≤ n := Nat.pos_of_ne_zero hn
        clear HRt hn
        go_upto_region 6 with (go_at_call 47; refine (HC.out _).mono ?_; rintro e w1 ⟨rfl, hb1⟩)
        go_wp2_with (at_builtin; refine wp_app elem_int _ _ (by rfl) (by rfl) (by rfl) (hown.below hb1) [_] 1 rfl (by rfl) ?c1 ?c2 ?c3 ?c4 (by decide) ?_)
        case c1 => simp [Value.oneCell']
        case c2 => simp; omega
        case c3 => simp [maxLen]; omega
        case c4 => exact Nat.le_trans hwr hb1.size
        intro v' w2 hown2 hbel2 hnn
        go_wp2
        go_roundw
        case rel => exact ⟨t.extract n t.size, xs ++ [c], rfl, by rw [map_snoc]; exact hown2, (hbel.trans (hb1.mono hwr)).trans hbel2, by rw [List.length_append, strLen hle]; simp; omega, HRn⟩
        case measure => simp only [strLen hle]; omega
    · have htd := isEmpty_yes ht
      obtain rfl := read_end ht HRt
      clear HRt
      go_wp2
      go_ret2
      exact ⟨hbel, _, rfl, hown⟩
end Go.Proofs.YtmglnpnkkidnnaaDoor
