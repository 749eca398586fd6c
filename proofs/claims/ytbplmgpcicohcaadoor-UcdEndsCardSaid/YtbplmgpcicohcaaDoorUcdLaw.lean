/- The walks of the laws of ucd. -/
import Derived.Test.YtbplmgpcicohcaaDoorUcdRef2
import Derived.Test.YtbplmgpcicohcaaDoorInts
namespace Go.Proofs.YtbplmgpcicohcaaDoor
set_option linter.unusedVariables false
open Go.RowKit

theorem below_drewN' {B : Nat} {a w : World} (h : Below B a w) (n : Nat) : Below B a (w.drewN n) := h.trans ((DrN.refl w).more n |>.below B)
theorem MapRes.cases {w w' : World} {l : List Int} {e : Ending} (h : MapRes l w e w') : ∃ v, e = .returned v ∧ RdI w' v l ∧ Below w.heap.size w w' := by
  obtain ⟨v, he, ho, -, hb⟩ := h
  exact ⟨v, he, ho.rd, hb⟩
theorem mapP_len (c : Int) : (mapP c).length ≤ 10 := by
  have := (mapFit c).2.2.1; unfold mapP; rw [List.length_map]; exact this
theorem c301 : classP 769 = 230 := by decide +kernel
theorem c61 : classP 97 = 0 := by decide +kernel
theorem c323 : classP 803 = 220 := by decide +kernel
theorem me9 : mapP 233 = [101, 769] := by decide +kernel
theorem me : mapP 101 = [] := by decide +kernel
theorem rd_two (w : World) (a b : Int) : RdI (w.alloc (.cells #[.int .i64 a, .int .i64 b] 3)) (.slice (some ⟨w.heap.size, 0, none⟩) 2 2) [a, b] :=
  .inr ⟨w.heap.size, 0, 2, rfl, by simp, Nat.le_refl _, by simp [maxLen], by simp, fun i hi => by
    have : i = 0 ∨ i = 1 := by simp at hi; omega
    rcases this with rfl | rfl
    · unfold World.cell?; rw [heap_alloc_new]; rfl
    · unfold World.cell?; rw [heap_alloc_new]; rfl⟩
set_option maxHeartbeats 4000000 in
set_option maxRecDepth 100000 in
theorem ubegun_any (w : World) (hE : ErrAt w) (hSp : SpAt w) :
    Calls Tryd.prog 6 #[] w fun e w' => e = .returned (.bool true) ∧ Below w.heap.size w w' := by
  have HC : Hid (∀ (c : Int), -9223372036854775808 ≤ c → c ≤ 9223372036854775807 → ∀ w, ErrAt w → Calls Tryd.prog 7 #[.int .i64 c] w (IntRes (classP c) w)) := Lib.hid fun c a b w h => class_any c a b w h
  have HM : Hid (∀ (c : Int), -9223372036854775808 ≤ c → c ≤ 9223372036854775807 → ∀ w, ErrAt w → SpAt w → Calls Tryd.prog 10 #[.int .i64 c] w (MapRes (mapP c) w)) := Lib.hid fun c a b w h g => map_any c a b w h g
  have hg := hSp.1
  go_enter Tryd.func6, Tryd.ntmps6
  go_wp2_with fail
  refine (HC.out _ (by omega) (by omega) _ hE).mono ?_
  rw [c301]
  rintro e w1 ⟨rfl, hb1⟩
  go_wp2_with fail
  refine (HC.out _ (by omega) (by omega) _ (hE.below hb1)).mono ?_
  rw [c61]
  rintro e w2 ⟨rfl, hb2⟩
  have hb2' := hb1.trans (hb2.mono hb1.size)
  go_wp2_with fail
  refine (HC.out _ (by omega) (by omega) _ (hE.below hb2')).mono ?_
  rw [c323]
  rintro e w3 ⟨rfl, hb3⟩
  have hb3' := hb2'.trans (hb3.mono hb2'.size)
  go_wp2_with fail
  refine (HM.out _ (by omega) (by omega) _ (hE.below hb3') (hSp.below hb3' hg)).mono ?_
  rw [me9]
  intro e w4 hm4
  obtain ⟨v4, rfl, hv4, hb4⟩ := hm4.cases
  have hb4' := hb3'.trans (hb4.mono hb3'.size)
  have hb5' : Below w.heap.size w (w4.alloc (.cells #[.int .i64 101, .int .i64 769] 3)) := hb4'.alloc hb4'.size _
  have HI : Hid (∀ W, W = w4.alloc (.cells #[.int .i64 101, .int .i64 769] 3) → Calls Tryd.prog 9 #[v4, .slice (some ⟨w4.heap.size, 0, none⟩) 2 2] W (IntsRes W true)) := Lib.hid fun W e => by
    subst e
    have := ints_any v4 (.slice (some ⟨w4.heap.size, 0, none⟩) 2 2) [101, 769] [101, 769] (by simp) (by simp) _ (RdV.below hv4 ((Below.refl _ _).alloc (Nat.le_refl _) _)) (rd_two w4 101 769)
    rwa [decide_eq_true rfl] at this
  clear hb1 hb2 hb3 hb4 hm4 hv4
  go_wp2_with fail
  refine (HI.out _ rfl).mono ?_
  rintro e w5 ⟨rfl, m, rfl⟩
  have hb6' := below_drewN' hb5' m
  go_wp2_with fail
  refine (HM.out _ (by omega) (by omega) _ (hE.below hb6') (hSp.below hb6' hg)).mono ?_
  rw [me]
  intro e w7 hm7
  obtain ⟨v7, rfl, hv7, hb7⟩ := hm7.cases
  obtain ⟨a7, cap7, rfl, -⟩ : ∃ a cap, v7 = .slice a 0 cap ∧ True := by
    rcases hv7.cases with ⟨a, cap, h, -⟩ | ⟨b, off, cap, -, h, -⟩
    · exact ⟨a, cap, h, trivial⟩
    · exact absurd h (by simp)
  have hb7' := hb6'.trans (hb7.mono hb6'.size)
  clear hm7 hv7 hb7 HI HM HC
  go_wp2
  go_ret
  exact ⟨rfl, hb7'⟩
theorem wf_bd {c : Int} (wf : (Lit.int .i64 c).wf = true) : -9223372036854775808 ≤ c ∧ c ≤ 9223372036854775807 := by
  simp [Lit.wf, IntKind.min, IntKind.max, IntKind.signed, IntKind.bits] at wf; omega
/-- one number's class and map, both ways. -/
theorem pair_ints {w1 w2 : World} {v u : Value} {l : List Int} (hl : l.length ≤ 10) (hv : RdI w1 v l) (hb : Below w1.heap.size w1 w2) (hu : RdI w2 u l) : ∀ W, W = w2 → Calls Tryd.prog 9 #[v, u] W (IntsRes W true) := fun W e => by
  subst e
  have := ints_any v u l l (by omega) (by omega) _ (RdV.below hv hb) hu
  rwa [decide_eq_true rfl] at this
set_option maxHeartbeats 4000000 in
set_option maxRecDepth 100000 in
theorem ucdAll_walk (w : World) (hE : ErrAt w) (hSp : SpAt w) (c : Int) (wf : (Lit.int .i64 c).wf = true) :
    Calls Tryd.prog 3 #[.int .i64 c] w fun e w' => e = .returned (.bool true) ∧ Below w.heap.size w w' := by
  obtain ⟨hc0, hc1⟩ : -9223372036854775808 ≤ c ∧ c ≤ 9223372036854775807 := wf_bd wf
  have HC := Lib.hid (fun w h => class_any c hc0 hc1 w h)
  have HCr := Lib.hid (rclass_any c hc0 hc1)
  have HM := Lib.hid (fun w h g => map_any c hc0 hc1 w h g)
  have HMr := Lib.hid (rmap_any c hc0 hc1)
  have hl := mapP_len c
  have hg := hSp.1
  generalize classP c = V at *
  generalize mapP c = L at *
  go_enter Tryd.func3, Tryd.ntmps3
  go_wp2_with fail
  refine (ubegun_any _ hE hSp).mono ?_
  rintro e w1 ⟨rfl, hb1⟩
  go_wp2_with fail
  refine (HC.out _ (hE.below hb1)).mono ?_
  rintro e w2 ⟨rfl, hb2⟩
  have hb2' := hb1.trans (hb2.mono hb1.size)
  go_wp2_with fail
  refine (HCr.out _).mono ?_
  rintro e w3 ⟨rfl, hb3⟩
  have hb3' := hb2'.trans (hb3.mono hb2'.size)
  go_wp2_with fail
  refine (HM.out _ (hE.below hb3') (hSp.below hb3' hg)).mono ?_
  intro e w4 hm4
  obtain ⟨v4, rfl, hv4, hb4⟩ := hm4.cases
  have hb4' := hb3'.trans (hb4.mono hb3'.size)
  clear hm4
  go_wp2_with fail
  refine (HMr.out _).mono ?_
  intro e w5 hm5
  obtain ⟨v5, rfl, hv5, hb5⟩ := hm5.cases
  have hb5' := hb4'.trans (hb5.mono hb4'.size)
  have HI := Lib.hid (pair_ints hl hv4 hb5 hv5)
  clear hm5 hv4 hv5 hb1 hb2 hb3 hb4 hb5
  go_wp2_with fail
  refine (HI.out _ rfl).mono ?_
  rintro e w6 ⟨rfl, m, rfl⟩
  have hb6' := below_drewN' hb5' m
  go_wp2
  go_ret
  exact ⟨rfl, hb6'⟩
set_option maxHeartbeats 8000000 in
set_option maxRecDepth 100000 in
theorem ucdBlock_walk (w : World) (hE : ErrAt w) (hSp : SpAt w) (c : Int) (wf : (Lit.int .i64 c).wf = true) :
    Calls Tryd.prog 5 #[.int .i64 c] w fun e w' => e = .returned (.bool true) ∧ Below w.heap.size w w' := by
  obtain ⟨hc0, hc1⟩ : -9223372036854775808 ≤ c ∧ c ≤ 9223372036854775807 := wf_bd wf
  have hg := hSp.1
  go_enter Tryd.func5, Tryd.ntmps5
  go_wp2_with fail
  refine (ubegun_any _ hE hSp).mono ?_
  rintro e w1 ⟨rfl, hb1⟩
  by_cases hin : 0 ≤ c ∧ c ≤ 1114111
  · obtain ⟨i0, i1⟩ := hin
    have d0 : decide (c < 0) = false := by simpa using i0
    have d1 : decide (1114111 < c) = false := by simpa using i1
    go_wp2
    go_loopw [4] (fun i wr => ∃ k : Nat, i = .int .i64 (c + k) ∧ k ≤ 32 ∧ Below w.heap.size w wr) (fun i _ => (c + 32 - intOf i).toNat)
    case atStart => exact ⟨0, by simp, by omega, hb1⟩
    case round =>
      obtain ⟨k, rfl, hk, hbel⟩ := hrel
      by_cases hk2 : k < 32
      · obtain ⟨x, hx⟩ : ∃ x : Int, x = c + k := ⟨_, rfl⟩
        rw [← hx]
        have hx0 : 0 ≤ x := by omega
        have hx1 : x < c + 32 := by omega
        have HX := Lib.hid hx
        clear hx
        have HC := Lib.hid (fun w h => class_any x (by omega) (by omega) w h)
        have HCr := Lib.hid (rclass_any x (by omega) (by omega))
        have HM := Lib.hid (fun w h g => map_any x (by omega) (by omega) w h g)
        have HMr := Lib.hid (rmap_any x (by omega) (by omega))
        have hl := mapP_len x
        generalize classP x = V at *
        generalize mapP x = L at *
        go_wp2_with fail
        refine (HC.out _ (hE.below hbel)).mono ?_
        rintro e w2 ⟨rfl, hb2⟩
        have hb2' := hbel.trans (hb2.mono hbel.size)
        go_wp2_with fail
        refine (HCr.out _).mono ?_
        rintro e w3 ⟨rfl, hb3⟩
        have hb3' := hb2'.trans (hb3.mono hb2'.size)
        go_wp2_with fail
        refine (HM.out _ (hE.below hb3') (hSp.below hb3' hg)).mono ?_
        intro e w4 hm4
        obtain ⟨v4, rfl, hv4, hb4⟩ := hm4.cases
        have hb4' := hb3'.trans (hb4.mono hb3'.size)
        clear hm4
        go_wp2_with fail
        refine (HMr.out _).mono ?_
        intro e w5 hm5
        obtain ⟨v5, rfl, hv5, hb5⟩ := hm5.cases
        have hb5' := hb4'.trans (hb5.mono hb4'.size)
        have HI := Lib.hid (pair_ints hl hv4 hb5 hv5)
        clear hm5 hv4 hv5 hb2 hb3 hb4 hb5 HC HCr HM HMr
        go_wp2_with fail
        refine (HI.out _ rfl).mono ?_
        rintro e w6 ⟨rfl, m, rfl⟩
        have hb6' := below_drewN' hb5' m
        go_wp2
        go_roundw
        case rel => exact ⟨k + 1, by rw [HX.out]; go_num, by omega, hb6'⟩
        case measure => simp [intOf]; omega
      · obtain rfl : k = 32 := by omega
        go_wp2
        go_ret
        exact ⟨rfl, hbel⟩
  · go_wp2
    all_goals first
      | (exfalso; omega)
      | (go_ret
         exact ⟨rfl, hb1⟩)
end Go.Proofs.YtbplmgpcicohcaaDoor
