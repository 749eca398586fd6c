/- The small steps of a version: the first of two numbers that is not 0, comparisons, what a table meets, how tables are ordered. -/
import Derived.Test.YtjloaamaelcmaaaVerMath
import Derived.Test.YtjloaamaelcmaaaMEdt
import Derived.Test.YtjloaamaelcmaaaMBase
namespace Go.Proofs.Ytjloaamaelcmaaa
set_option linter.unusedVariables false
set_option maxRecDepth 100000
open Go.RowKit
/-- Two numbers in a row of their own. -/
theorem two_at {w : World} {b : Nat} {u v : Value} {t : TypeId} (h : BlkAt w b #[u, v] t) : w.cell? ⟨b, 0, none⟩ = some u ∧ w.cell? ⟨b, 1, none⟩ = some v := ⟨h.at 0, h.at 1⟩
set_option maxHeartbeats 4000000 in
theorem vor64_any (b : Nat) (x y : Int) (w : World) (h : BlkAt w b #[.int .i64 x, .int .i64 y] 2) : Calls Try.prog 33 #[.slice (some ⟨b, 0, none⟩) 2 2] w fun e w' => e = .returned (.int .i64 (vOr x y)) ∧ w' = w := by
  obtain ⟨c0, c1⟩ := two_at h
  obtain ⟨V, hV⟩ : ∃ V, vOr x y = V := ⟨_, rfl⟩
  rw [hV]
  have HV := Lib.hid hV
  clear h hV
  by_cases hx : x = 0
  · subst hx
    obtain rfl : y = V := HV.out
    by_cases hy : y = 0
    · subst hy
      go_enter Try.func33, Try.ntmps33
      go_wp2
      refine wp_loop_rounds 3 ?_
      rw [rounds_succ]
      go_wp2
      rw [rounds_succ]
      go_wp2
      rw [rounds_succ]
      go_wp2
      go_ret
      exact ⟨rfl, rfl⟩
    · go_enter Try.func33, Try.ntmps33
      go_wp2
      refine wp_loop_rounds 2 ?_
      rw [rounds_succ]
      go_wp2
      rw [rounds_succ]
      go_wp2
      go_ret
      exact ⟨rfl, rfl⟩
  · obtain rfl : x = V := by rw [← HV.out]; exact (if_neg hx).symm
    go_enter Try.func33, Try.ntmps33
    go_wp2
    refine wp_loop_rounds 2 ?_
    rw [rounds_succ]
    go_wp2
    go_ret
    exact ⟨rfl, rfl⟩
set_option maxHeartbeats 4000000 in
theorem vorI_any (b : Nat) (x y : Int) (w : World) (h : BlkAt w b #[.int .i64 x, .int .i64 y] 3) : Calls Try.prog 59 #[.slice (some ⟨b, 0, none⟩) 2 2] w fun e w' => e = .returned (.int .i64 (vOr x y)) ∧ w' = w := by
  obtain ⟨c0, c1⟩ := two_at h
  obtain ⟨V, hV⟩ : ∃ V, vOr x y = V := ⟨_, rfl⟩
  rw [hV]
  have HV := Lib.hid hV
  clear h hV
  by_cases hx : x = 0
  · subst hx
    obtain rfl : y = V := HV.out
    by_cases hy : y = 0
    · subst hy
      go_enter Try.func59, Try.ntmps59
      go_wp2
      refine wp_loop_rounds 3 ?_
      rw [rounds_succ]
      go_wp2
      rw [rounds_succ]
      go_wp2
      rw [rounds_succ]
      go_wp2
      go_ret
      exact ⟨rfl, rfl⟩
    · go_enter Try.func59, Try.ntmps59
      go_wp2
      refine wp_loop_rounds 2 ?_
      rw [rounds_succ]
      go_wp2
      rw [rounds_succ]
      go_wp2
      go_ret
      exact ⟨rfl, rfl⟩
  · obtain rfl : x = V := by rw [← HV.out]; exact (if_neg hx).symm
    go_enter Try.func59, Try.ntmps59
    go_wp2
    refine wp_loop_rounds 2 ?_
    rw [rounds_succ]
    go_wp2
    go_ret
    exact ⟨rfl, rfl⟩
def cmpI (x y : Int) : Int := if x < y then -1 else if y < x then 1 else 0
theorem nan64_any (x : Int) (w : World) : Calls Try.prog 72 #[.int .i64 x] w fun e w' => e = .returned (.bool false) ∧ w' = w := by
  go_enter Try.func72, Try.ntmps72
  go_wp2
  go_ret
  exact ⟨rfl, rfl⟩
set_option maxHeartbeats 1000000 in
theorem cmp64_any (x y : Int) (w : World) : Calls Try.prog 58 #[.int .i64 x, .int .i64 y] w fun e w' => e = .returned (.int .i64 (cmpI x y)) ∧ w' = w := by
  have HN : Hid (∀ (x : Int) (w : World), Calls Try.prog 72 #[.int .i64 x] w fun e w' => e = .returned (.bool false) ∧ w' = w) := Lib.hid nan64_any
  obtain ⟨V, hV⟩ : ∃ V, cmpI x y = V := ⟨_, rfl⟩
  rw [hV]
  unfold cmpI at hV
  by_cases h1 : x < y
  · rw [if_pos h1] at hV
    subst hV
    go_enter Try.func58, Try.ntmps58
    go_wp2_with fail
    refine (HN.out _ _).mono ?_
    rintro e w' ⟨rfl, rfl⟩
    go_wp2_with fail
    refine (HN.out _ _).mono ?_
    rintro e w' ⟨rfl, rfl⟩
    go_wp2_with fail
    go_ret
    exact ⟨rfl, rfl⟩
  · rw [if_neg h1] at hV
    by_cases h2 : y < x
    · rw [if_pos h2] at hV
      subst hV
      go_enter Try.func58, Try.ntmps58
      go_wp2_with fail
      refine (HN.out _ _).mono ?_
      rintro e w' ⟨rfl, rfl⟩
      go_wp2_with fail
      refine (HN.out _ _).mono ?_
      rintro e w' ⟨rfl, rfl⟩
      go_wp2_with fail
      go_ret
      exact ⟨rfl, rfl⟩
    · rw [if_neg h2] at hV
      subst hV
      go_enter Try.func58, Try.ntmps58
      go_wp2_with fail
      refine (HN.out _ _).mono ?_
      rintro e w' ⟨rfl, rfl⟩
      go_wp2_with fail
      refine (HN.out _ _).mono ?_
      rintro e w' ⟨rfl, rfl⟩
      go_wp2_with fail
      go_ret
      exact ⟨rfl, rfl⟩
theorem nanI_any (x : Int) (w : World) : Calls Try.prog 73 #[.int .i64 x] w fun e w' => e = .returned (.bool false) ∧ w' = w := by
  go_enter Try.func73, Try.ntmps73
  go_wp2
  go_ret
  exact ⟨rfl, rfl⟩
set_option maxHeartbeats 1000000 in
theorem cmpInt_any (x y : Int) (w : World) : Calls Try.prog 60 #[.int .i64 x, .int .i64 y] w fun e w' => e = .returned (.int .i64 (cmpI x y)) ∧ w' = w := by
  have HN : Hid (∀ (x : Int) (w : World), Calls Try.prog 73 #[.int .i64 x] w fun e w' => e = .returned (.bool false) ∧ w' = w) := Lib.hid nanI_any
  obtain ⟨V, hV⟩ : ∃ V, cmpI x y = V := ⟨_, rfl⟩
  rw [hV]
  unfold cmpI at hV
  by_cases h1 : x < y
  · rw [if_pos h1] at hV
    subst hV
    go_enter Try.func60, Try.ntmps60
    go_wp2_with fail
    refine (HN.out _ _).mono ?_
    rintro e w' ⟨rfl, rfl⟩
    go_wp2_with fail
    refine (HN.out _ _).mono ?_
    rintro e w' ⟨rfl, rfl⟩
    go_wp2_with fail
    go_ret
    exact ⟨rfl, rfl⟩
  · rw [if_neg h1] at hV
    by_cases h2 : y < x
    · rw [if_pos h2] at hV
      subst hV
      go_enter Try.func60, Try.ntmps60
      go_wp2_with fail
      refine (HN.out _ _).mono ?_
      rintro e w' ⟨rfl, rfl⟩
      go_wp2_with fail
      refine (HN.out _ _).mono ?_
      rintro e w' ⟨rfl, rfl⟩
      go_wp2_with fail
      go_ret
      exact ⟨rfl, rfl⟩
    · rw [if_neg h2] at hV
      subst hV
      go_enter Try.func60, Try.ntmps60
      go_wp2_with fail
      refine (HN.out _ _).mono ?_
      rintro e w' ⟨rfl, rfl⟩
      go_wp2_with fail
      refine (HN.out _ _).mono ?_
      rintro e w' ⟨rfl, rfl⟩
      go_wp2_with fail
      go_ret
      exact ⟨rfl, rfl⟩
theorem le_tri (a b : ByteArray) : ∃ p q : Bool, Op.bytesLess a.toList b.toList = p ∧ (a.toList == b.toList) = q ∧ (p || q) = !decide (bl b a) := by
  refine ⟨_, _, rfl, rfl, ?_⟩
  rcases bl_tri a b with h | rfl | h
  · rw [bs_less _ _ h, decide_eq_false fun k => bl_irr _ (bl_trans h k)]; rfl
  · rw [bs_not _ _ (bl_irr _), bs_refl, decide_eq_false (bl_irr _)]; rfl
  · have hn : ¬ bl a b := fun k => bl_irr _ (bl_trans h k)
    have hne : a ≠ b := by rintro rfl; exact bl_irr _ h
    rw [bs_not _ _ hn, bs_ne hne, decide_eq_true h]; rfl
set_option maxHeartbeats 4000000 in
theorem meets_raw (n l s : Int) (lo hi a b : ByteArray) (w : World) : Calls Try.prog 26 #[.agg #[.int .i64 n, .int .i64 l, .int .i64 s, .string lo, .string hi], .string a, .string b] w fun e w' => e = .returned (.bool (vOverB a b ⟨n, l, s, lo, hi⟩)) ∧ ∃ os, w' = w.alloc os := by
  obtain ⟨V, hV⟩ : ∃ V, vOverB a b ⟨n, l, s, lo, hi⟩ = V := ⟨_, rfl⟩
  rw [hV]
  unfold vOverB at hV
  simp only at hV
  obtain ⟨p1, q1, l1, e1, h1⟩ := le_tri a b
  obtain ⟨p2, q2, l2, e2, h2⟩ := le_tri lo b
  obtain ⟨p3, q3, l3, e3, h3⟩ := le_tri a hi
  rw [← h1, ← h2, ← h3] at hV
  clear h1 h2 h3
  cases p1 <;> cases q1 <;> cases p2 <;> cases q2 <;> cases p3 <;> cases q3
  all_goals
    subst hV
    go_enter Try.func26, Try.ntmps26
    go_wp2
    go_ret
    exact ⟨rfl, _, rfl⟩
end Go.Proofs.Ytjloaamaelcmaaa
