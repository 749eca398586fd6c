/- The walks of ikey.Less, Eq, reaches and the reference's Less, Eq. -/
import Derived.Test.YtmndhmodcglkjaaStrCmp
import Derived.Test.YtmndhmodcglkjaaEntMath
namespace Go.Proofs.Ytmndhmodcglkjaa
set_option linter.unusedVariables false
open Go.RowKit
def ltB (a b : Ent) : Bool := decide (ltE a b)
theorem ltB_yes {a b : Ent} (h : ltE a b) : ltB a b = true := decide_eq_true h
theorem ltB_no {a b : Ent} (h : ¬ ltE a b) : ltB a b = false := decide_eq_false h
/-- alike in all five -/
def eqB (a b : Ent) : Bool := decide (a.norm = b.norm) && decide (a.seq = b.seq) && decide (a.kind = b.kind) && decide (a.spell = b.spell) && decide (a.val = b.val)
set_option maxHeartbeats 1000000 in
theorem icmp_any (x y W : Int) (hW : (if x < y then -1 else if y < x then 1 else (0 : Int)) = W) (w : World) :
    Calls Try.prog 50 #[.int .i64 x, .int .i64 y] w fun e w' => e = .returned (.int .i64 W) ∧ w = w' := by
  have hnan : ∀ z : Int, Calls Try.prog 52 #[.int .i64 z] w fun e w' => e = .returned (.bool false) ∧ w = w' := by
    intro z
    go_enter Try.func52, Try.ntmps52
    go_wp2
    go_ret
    exact ⟨rfl, rfl⟩
  have CALL := hnan
  clear hnan
  rcases Int.lt_trichotomy x y with h | h | h
  · have HW : Hid (-1 = W) := Lib.hid (by rw [← hW, if_pos h])
    clear hW
    go_enter Try.func50, Try.ntmps50
    go_wp2_with (go_at_call 52; refine (CALL _).mono ?_; rintro e w' ⟨rfl, rfl⟩)
    go_ret
    exact ⟨ret_int HW.out, rfl⟩
  · subst h
    have HW : Hid (0 = W) := Lib.hid (by rw [← hW, if_neg (Int.lt_irrefl _), if_neg (Int.lt_irrefl _)])
    clear hW
    go_enter Try.func50, Try.ntmps50
    go_wp2_with (go_at_call 52; refine (CALL _).mono ?_; rintro e w' ⟨rfl, rfl⟩)
    go_ret
    exact ⟨ret_int HW.out, rfl⟩
  · have HW : Hid (1 = W) := Lib.hid (by rw [← hW, if_neg (by omega), if_pos h])
    have h2 : ¬ x < y := by omega
    clear hW
    go_enter Try.func50, Try.ntmps50
    go_wp2_with (go_at_call 52; refine (CALL _).mono ?_; rintro e w' ⟨rfl, rfl⟩)
    go_ret
    exact ⟨ret_int HW.out, rfl⟩
theorem two_below (w : World) (A B : Obj) : Below w.heap.size w ((w.alloc A).alloc B) := ((Below.refl _ w).alloc (Nat.le_refl _) _).alloc (by simp) _
theorem lt_same (n : ByteArray) (aq ak : Int) (asp av : ByteArray) (bq bk : Int) (bsp bv : ByteArray) : ltE ⟨n, aq, ak, asp, av⟩ ⟨n, bq, bk, bsp, bv⟩ ↔ (bq < aq ∨ aq = bq ∧ bk < ak) := by
  unfold ltE
  constructor
  · intro h
    rcases h with h | ⟨-, h⟩
    · exact absurd h (bl_irr _)
    · exact h
  · exact fun h => .inr ⟨rfl, h⟩
theorem lt_not {an bn : ByteArray} (h : bl bn an) (aq ak : Int) (asp av : ByteArray) (bq bk : Int) (bsp bv : ByteArray) : ¬ ltE ⟨an, aq, ak, asp, av⟩ ⟨bn, bq, bk, bsp, bv⟩ := by
  intro k
  unfold ltE at k
  rcases k with k | ⟨k, -⟩
  · exact bl_irr _ (bl_trans h k)
  · simp only at k; rw [k] at h; exact bl_irr _ h
set_option maxHeartbeats 2000000 in
set_option maxRecDepth 100000 in
theorem less_raw (an : ByteArray) (aq ak : Int) (asp av bn : ByteArray) (bq bk : Int) (bsp bv : ByteArray) (v : Bool) (hv : ltB ⟨an, aq, ak, asp, av⟩ ⟨bn, bq, bk, bsp, bv⟩ = v) (w : World) :
    Calls Try.prog 48 #[.agg #[.string an, .int .i64 aq, .int .i64 ak, .string asp, .string av], .agg #[.string bn, .int .i64 bq, .int .i64 bk, .string bsp, .string bv]] w fun e w' => e = .returned (.bool v) ∧ Below w.heap.size w w' := by
  rcases bl_tri an bn with h | h | h
  · have HV : Hid (true = v) := Lib.hid (by rw [← hv, ltB_yes (.inl h)])
    have HC := Lib.hid (kcmp_lt an bn h)
    clear hv h
    go_enter Try.func48, Try.ntmps48
    go_wp2_with (go_at_call 49; refine (HC.out _).mono ?_; rintro e w' ⟨rfl, rfl⟩)
    go_ret
    exact ⟨ret_bool HV.out.symm, two_below w _ _⟩
  · subst h
    have hlt := lt_same an aq ak asp av bq bk bsp bv
    have HC := Lib.hid (kcmp_self an)
    rcases Int.lt_trichotomy aq bq with h1 | h1 | h1
    · have HV : Hid (false = v) := Lib.hid (by rw [← hv, ltB_no (by rw [hlt]; omega)])
      have HI := Lib.hid (icmp_any aq bq (-1) (by rw [if_pos h1]))
      clear hv hlt h1
      go_enter Try.func48, Try.ntmps48
      go_wp2_with (first | (go_at_call 49; refine (HC.out _).mono ?_; rintro e w' ⟨rfl, rfl⟩) | (go_at_call 50; refine (HI.out _).mono ?_; rintro e w' ⟨rfl, rfl⟩))
      go_ret
      exact ⟨ret_bool HV.out.symm, two_below w _ _⟩
    · subst h1
      have HI := Lib.hid (icmp_any aq aq 0 (by rw [if_neg (Int.lt_irrefl _), if_neg (Int.lt_irrefl _)]))
      by_cases h2 : bk < ak
      · have HV : Hid (true = v) := Lib.hid (by rw [← hv, ltB_yes (hlt.2 (.inr ⟨rfl, h2⟩))])
        have hd : decide (bk < ak) = true := decide_eq_true h2
        clear hv hlt h2
        go_enter Try.func48, Try.ntmps48
        go_wp2_with (first | (go_at_call 49; refine (HC.out _).mono ?_; rintro e w' ⟨rfl, rfl⟩) | (go_at_call 50; refine (HI.out _).mono ?_; rintro e w' ⟨rfl, rfl⟩))
        go_ret
        exact ⟨ret_bool HV.out.symm, two_below w _ _⟩
      · have HV : Hid (false = v) := Lib.hid (by rw [← hv, ltB_no (by rw [hlt]; omega)])
        have hd : decide (bk < ak) = false := decide_eq_false h2
        clear hv hlt h2
        go_enter Try.func48, Try.ntmps48
        go_wp2_with (first | (go_at_call 49; refine (HC.out _).mono ?_; rintro e w' ⟨rfl, rfl⟩) | (go_at_call 50; refine (HI.out _).mono ?_; rintro e w' ⟨rfl, rfl⟩))
        go_ret
        exact ⟨ret_bool HV.out.symm, two_below w _ _⟩
    · have HV : Hid (true = v) := Lib.hid (by rw [← hv, ltB_yes (hlt.2 (.inl h1))])
      have HI := Lib.hid (icmp_any aq bq 1 (by rw [if_neg (by omega), if_pos h1]))
      clear hv hlt h1
      go_enter Try.func48, Try.ntmps48
      go_wp2_with (first | (go_at_call 49; refine (HC.out _).mono ?_; rintro e w' ⟨rfl, rfl⟩) | (go_at_call 50; refine (HI.out _).mono ?_; rintro e w' ⟨rfl, rfl⟩))
      go_ret
      exact ⟨ret_bool HV.out.symm, two_below w _ _⟩
  · have HV : Hid (false = v) := Lib.hid (by rw [← hv, ltB_no (lt_not h _ _ _ _ _ _ _ _)])
    have HC := Lib.hid (kcmp_gt an bn h)
    clear hv h
    go_enter Try.func48, Try.ntmps48
    go_wp2_with (go_at_call 49; refine (HC.out _).mono ?_; rintro e w' ⟨rfl, rfl⟩)
    go_ret
    exact ⟨ret_bool HV.out.symm, two_below w _ _⟩
theorem less_any (a b : Ent) (w : World) :
    Calls Try.prog 48 #[a.v, b.v] w fun e w' => e = .returned (.bool (ltB a b)) ∧ Below w.heap.size w w' := less_raw _ _ _ _ _ _ _ _ _ _ _ rfl w
set_option maxHeartbeats 2000000 in
set_option maxRecDepth 100000 in
theorem rless_raw (an : ByteArray) (aq ak : Int) (asp av bn : ByteArray) (bq bk : Int) (bsp bv : ByteArray) (v : Bool) (hv : ltB ⟨an, aq, ak, asp, av⟩ ⟨bn, bq, bk, bsp, bv⟩ = v) (w : World) :
    Calls Try.prog 16 #[.agg #[.string an, .int .i64 aq, .int .i64 ak, .string asp, .string av], .agg #[.string bn, .int .i64 bq, .int .i64 bk, .string bsp, .string bv]] w fun e w' => e = .returned (.bool v) ∧ Below w.heap.size w w' := by
  rcases bl_tri an bn with h | h | h
  · have HV : Hid (true = v) := Lib.hid (by rw [← hv, ltB_yes (.inl h)])
    have e1 := bs_less an bn h
    have e2 : (an.toList == bn.toList) = false := by rw [bs_eq]; exact decide_eq_false fun k => bl_irr bn (by rw [k] at h; exact h)
    clear hv h
    go_enter Try.func16, Try.ntmps16
    go_wp2
    go_ret
    exact ⟨ret_bool HV.out.symm, two_below w _ _⟩
  · subst h
    have hlt := lt_same an aq ak asp av bq bk bsp bv
    have e2 : (an.toList == an.toList) = true := by simp
    rcases Int.lt_trichotomy aq bq with h1 | h1 | h1
    · have HV : Hid (false = v) := Lib.hid (by rw [← hv, ltB_no (by rw [hlt]; omega)])
      have e3 : (aq == bq) = false := by rw [beq_eq_false_iff_ne]; omega
      have e4 : decide (bq < aq) = false := decide_eq_false (by omega)
      clear hv hlt h1
      go_enter Try.func16, Try.ntmps16
      go_wp2
      go_ret
      exact ⟨ret_bool HV.out.symm, two_below w _ _⟩
    · subst h1
      by_cases h2 : bk < ak
      · have HV : Hid (true = v) := Lib.hid (by rw [← hv, ltB_yes (hlt.2 (.inr ⟨rfl, h2⟩))])
        have hd : decide (bk < ak) = true := decide_eq_true h2
        clear hv hlt h2
        go_enter Try.func16, Try.ntmps16
        go_wp2
        go_ret
        exact ⟨ret_bool HV.out.symm, two_below w _ _⟩
      · have HV : Hid (false = v) := Lib.hid (by rw [← hv, ltB_no (by rw [hlt]; omega)])
        have hd : decide (bk < ak) = false := decide_eq_false h2
        clear hv hlt h2
        go_enter Try.func16, Try.ntmps16
        go_wp2
        go_ret
        exact ⟨ret_bool HV.out.symm, two_below w _ _⟩
    · have HV : Hid (true = v) := Lib.hid (by rw [← hv, ltB_yes (hlt.2 (.inl h1))])
      have e3 : (aq == bq) = false := by rw [beq_eq_false_iff_ne]; omega
      have e4 : decide (bq < aq) = true := decide_eq_true h1
      clear hv hlt h1
      go_enter Try.func16, Try.ntmps16
      go_wp2
      go_ret
      exact ⟨ret_bool HV.out.symm, two_below w _ _⟩
  · have HV : Hid (false = v) := Lib.hid (by rw [← hv, ltB_no (lt_not h _ _ _ _ _ _ _ _)])
    have e1 := bs_not an bn fun k => bl_irr _ (bl_trans h k)
    have e2 : (an.toList == bn.toList) = false := by rw [bs_eq]; exact decide_eq_false fun k => bl_irr bn (by rw [k] at h; exact h)
    clear hv h
    go_enter Try.func16, Try.ntmps16
    go_wp2
    go_ret
    exact ⟨ret_bool HV.out.symm, two_below w _ _⟩
theorem rless_any (a b : Ent) (w : World) :
    Calls Try.prog 16 #[a.v, b.v] w fun e w' => e = .returned (.bool (ltB a b)) ∧ Below w.heap.size w w' := rless_raw _ _ _ _ _ _ _ _ _ _ _ rfl w
theorem eqB_lists (an : ByteArray) (aq ak : Int) (asp av bn : ByteArray) (bq bk : Int) (bsp bv : ByteArray) :
    eqB ⟨an, aq, ak, asp, av⟩ ⟨bn, bq, bk, bsp, bv⟩ = (decide (an.toList = bn.toList) && decide (aq = bq) && decide (ak = bk) && decide (asp.toList = bsp.toList) && decide (av.toList = bv.toList)) := by
  have h : ∀ a b : ByteArray, decide (a = b) = decide (a.toList = b.toList) := fun a b => by rw [← bs_eq, Bool.eq_iff_iff]; simp
  unfold eqB
  simp only [h]
set_option maxHeartbeats 4000000 in
set_option maxRecDepth 100000 in
theorem req_raw (an : ByteArray) (aq ak : Int) (asp av bn : ByteArray) (bq bk : Int) (bsp bv : ByteArray) (v : Bool) (hv : eqB ⟨an, aq, ak, asp, av⟩ ⟨bn, bq, bk, bsp, bv⟩ = v) (w : World) :
    Calls Try.prog 13 #[.agg #[.string an, .int .i64 aq, .int .i64 ak, .string asp, .string av], .agg #[.string bn, .int .i64 bq, .int .i64 bk, .string bsp, .string bv]] w fun e w' => e = .returned (.bool v) ∧ Below w.heap.size w w' := by
  have HV := Lib.hid hv
  clear hv
  go_enter Try.func13, Try.ntmps13
  go_wp2
  all_goals
    go_ret
    exact ⟨ret_bool (by rw [← HV.out, eqB_lists]; first | (simp [*]; done) | (simp [*]; rw [Bool.eq_iff_iff]; simp)), two_below w _ _⟩
theorem req_any (a b : Ent) (w : World) :
    Calls Try.prog 13 #[a.v, b.v] w fun e w' => e = .returned (.bool (eqB a b)) ∧ Below w.heap.size w w' := req_raw _ _ _ _ _ _ _ _ _ _ _ rfl w
/-- where the entries of norm n with a number not above q begin, or behind that -/
def reachB (e : Ent) (n : ByteArray) (q : Int) : Bool := decide (bl n e.norm ∨ e.norm = n ∧ e.seq ≤ q)
end Go.Proofs.Ytmndhmodcglkjaa
