/- The walks of isNumber, isNoTable, isNoFile. -/
import Derived.Test.YtpaoabdjbdlalaaEdtMath
import Derived.RegionTactic
import Derived.Deep.QuietTactic
import Derived.BigQuiet
namespace Go.Proofs.Ytpaoabdjbdlalaa
set_option linter.unusedVariables false
set_option maxRecDepth 100000
open Go.RowKit
theorem edIsnum_any (n : Int) (w : World) : Calls Try.prog 17 #[.int .i64 n] w fun e w' => e = .returned (.bool (decide (okEdN n))) ∧ w' = w := by
  obtain ⟨V, hV⟩ : ∃ V, decide (okEdN n) = V := ⟨_, rfl⟩
  rw [hV]
  by_cases h1 : 0 ≤ n
  · by_cases h2 : n ≤ 1125899906842624
    · obtain rfl : V = true := by rw [← hV]; exact decide_eq_true ⟨h1, h2⟩
      clear hV
      go_enter Try.func17, Try.ntmps17
      go_wp2
      go_ret
      exact ⟨rfl, rfl⟩
    · obtain rfl : V = false := by rw [← hV]; exact decide_eq_false (by unfold okEdN; omega)
      clear hV
      go_enter Try.func17, Try.ntmps17
      go_wp2
      go_ret
      exact ⟨rfl, rfl⟩
  · obtain rfl : V = false := by rw [← hV]; exact decide_eq_false (by unfold okEdN; omega)
    clear hV
    go_enter Try.func17, Try.ntmps17
    go_wp2
    go_ret
    exact ⟨rfl, rfl⟩
theorem edNotab_any (n : Int) (w : World) : Calls Try.prog 21 #[.int .i64 n] w fun e w' => e = .returned (.bool (decide (badTab n))) ∧ w' = w := by
  obtain ⟨V, hV⟩ : ∃ V, decide (badTab n) = V := ⟨_, rfl⟩
  rw [hV]
  by_cases h1 : n < 1
  · obtain rfl : V = true := by rw [← hV]; exact decide_eq_true (.inl h1)
    clear hV
    go_enter Try.func21, Try.ntmps21
    go_wp2
    go_ret
    exact ⟨rfl, rfl⟩
  · by_cases h2 : 1125899906842624 < n
    · obtain rfl : V = true := by rw [← hV]; exact decide_eq_true (.inr h2)
      clear hV
      go_enter Try.func21, Try.ntmps21
      go_wp2
      go_ret
      exact ⟨rfl, rfl⟩
    · obtain rfl : V = false := by rw [← hV]; exact decide_eq_false (by unfold badTab; omega)
      clear hV
      go_enter Try.func21, Try.ntmps21
      go_wp2
      go_ret
      exact ⟨rfl, rfl⟩
theorem bl_gtr (lo hi : ByteArray) : (!Op.bytesLess lo.toList hi.toList && !lo.toList == hi.toList) = decide (bl hi lo) := by
  rcases bl_tri lo hi with h | rfl | h
  · rw [bs_less _ _ h, decide_eq_false fun k => bl_irr _ (bl_trans h k)]; rfl
  · rw [bs_not _ _ (bl_irr _), bs_refl, decide_eq_false (bl_irr _)]; rfl
  · have hn : ¬ bl lo hi := fun k => bl_irr _ (bl_trans h k)
    have hne : lo ≠ hi := by rintro rfl; exact bl_irr _ h
    rw [bs_not _ _ hn, bs_ne hne, decide_eq_true h]; rfl
theorem badTb_bool {n l s : Int} {lo hi : ByteArray} (h : ¬ badTab n) :
    (decide (l < 0) || decide (5 ≤ l) || decide (s < 0) || decide (16777216 < s) || decide ((13000 : Int) < (lo.size : Int)) || decide ((13000 : Int) < (hi.size : Int)) || (!Op.bytesLess lo.toList hi.toList && !lo.toList == hi.toList)) = decide (badTb ⟨n, l, s, lo, hi⟩) := by
  have e1 : decide ((13000 : Int) < (lo.size : Int)) = decide (13000 < lo.size) := by rw [decide_eq_decide]; omega
  have e2 : decide ((13000 : Int) < (hi.size : Int)) = decide (13000 < hi.size) := by rw [decide_eq_decide]; omega
  rw [bl_gtr, e1, e2]
  unfold badTb
  simp [h, Bool.or_assoc]
set_option maxHeartbeats 4000000 in
theorem edNofil_raw (n l s : Int) (lo hi : ByteArray) (h1 : lo.size ≤ maxLen) (h2 : hi.size ≤ maxLen) (w : World) : Calls Try.prog 19 #[.agg #[.int .i64 n, .int .i64 l, .int .i64 s, .string lo, .string hi]] w fun e w' => e = .returned (.bool (decide (badTb ⟨n, l, s, lo, hi⟩))) ∧ Below w.heap.size w w' := by
  have HT : Hid (∀ w, Calls Try.prog 21 #[.int .i64 n] w fun e w' => e = .returned (.bool (decide (badTab n))) ∧ w' = w) := Lib.hid (edNotab_any n)
  unfold maxLen at h1 h2
  by_cases hb : badTab n
  · obtain ⟨V, hV⟩ : ∃ V, decide (badTb ⟨n, l, s, lo, hi⟩) = V := ⟨_, rfl⟩
    rw [hV]
    obtain rfl : V = true := by rw [← hV]; exact decide_eq_true (.inl hb)
    rw [decide_eq_true hb] at HT
    clear hV hb
    go_enter Try.func19, Try.ntmps19
    go_wp2_with fail
    refine (HT.out _).mono ?_
    rintro e w1 ⟨rfl, rfl⟩
    clear HT
    go_wp2_with fail
    go_ret
    exact ⟨rfl, (Below.refl _ _).alloc (Nat.le_refl _) _⟩
  · rw [decide_eq_false hb] at HT
    obtain ⟨V, hV⟩ : ∃ V, decide (badTb ⟨n, l, s, lo, hi⟩) = V := ⟨_, rfl⟩
    rw [hV]
    have HV := Lib.hid ((badTb_bool hb).trans hV)
    clear hV hb
    go_enter Try.func19, Try.ntmps19
    go_wp2_with fail
    refine (HT.out _).mono ?_
    rintro e w1 ⟨rfl, rfl⟩
    clear HT
    have HF : ∀ b : Bool, (decide (l < 0) || decide (5 ≤ l) || decide (s < 0) || decide (16777216 < s) || decide ((13000 : Int) < (lo.size : Int)) || decide ((13000 : Int) < (hi.size : Int)) || (!Op.bytesLess lo.toList hi.toList && !lo.toList == hi.toList)) = b → b = V := fun b hb => hb.symm.trans HV.out
    have HF2 := Lib.hid HF
    clear HF HV
    go_wp2
    all_goals
      go_ret
      refine ⟨?_, (Below.refl _ _).alloc (Nat.le_refl _) _⟩
      first
        | exact congrArg (fun b => Ending.returned (Value.bool b)) (HF2.out _ rfl)
        | exact congrArg (fun b => Ending.returned (Value.bool b)) (HF2.out true (by simp only [*, decide_true, Bool.or_true, Bool.true_or]))
theorem edNofil_any (f : Tbf) (hf : f.ok) (w : World) : Calls Try.prog 19 #[f.v] w fun e w' => e = .returned (.bool (decide (badTb f))) ∧ Below w.heap.size w w' := edNofil_raw f.num f.lvl f.siz f.lo f.hi hf.1 hf.2 w
end Go.Proofs.Ytpaoabdjbdlalaa
