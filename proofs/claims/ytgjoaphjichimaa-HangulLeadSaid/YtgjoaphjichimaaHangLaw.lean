/- The walks of the laws of hangul. -/
import Derived.Test.YtgjoaphjichimaaHang
import Derived.IntWalk
namespace Go.Proofs.Ytgjoaphjichimaa
set_option linter.unusedVariables false
open Go.RowKit
theorem below_drewN' {B : Nat} {a w : World} (h : Below B a w) (n : Nat) : Below B a (w.drewN n) := h.trans ((DrN.refl w).more n |>.below B)
theorem NewRes.cases {w w' : World} {l : List Int} {e : Ending} (h : NewRes l w e w') : ∃ v, e = .returned v ∧ RdI w' v l ∧ Below w.heap.size w w' := by
  obtain ⟨v, he, ho, -, hb⟩ := h
  exact ⟨v, he, ho.rd, hb⟩
theorem s1 : splitP 54620 = [4370, 4449, 4523] := by decide +kernel
theorem s2 : splitP 97 = [] := by decide +kernel
theorem j1 : joinP 4370 4449 4523 = 54620 := by decide +kernel
theorem j2 : joinP 97 4449 0 = -1 := by decide +kernel
set_option maxHeartbeats 1000000 in
set_option maxRecDepth 100000 in
theorem hbegun_any (w : World) :
    Calls Try.prog 5 #[] w fun e w' => e = .returned (.bool true) ∧ Below w.heap.size w w' := by
  go_enter Try.func5, Try.ntmps5
  go_wp2_with fail
  refine (split_any 54620 (by omega) (by omega) _).mono ?_
  rw [s1]
  intro e w1 h1
  obtain ⟨v1, rfl, hv1, hb1⟩ := h1.cases
  have HI : Hid (∀ W, W = w1.alloc (.cells #[.int .i64 4370, .int .i64 4449, .int .i64 4523] 3) → Calls Try.prog 8 #[v1, .slice (some ⟨w1.heap.size, 0, none⟩) 3 3] W (IntsRes W true)) := Lib.hid fun W e => by
    subst e
    have := ints_any v1 (.slice (some ⟨w1.heap.size, 0, none⟩) 3 3) [4370, 4449, 4523] [4370, 4449, 4523] (by simp) (by simp) _ (RdV.below hv1 ((Below.refl _ _).alloc (Nat.le_refl _) _)) (own_fresh (E := 3) w1 [_, _, _] 3 rfl (by decide) (by simp [maxLen])).rd
    rwa [decide_eq_true rfl] at this
  have hb1' : Below w.heap.size w (w1.alloc (.cells #[.int .i64 4370, .int .i64 4449, .int .i64 4523] 3)) := hb1.alloc hb1.size _
  clear h1 hv1 hb1
  go_wp2_with fail
  refine (HI.out _ rfl).mono ?_
  rintro e w2 ⟨rfl, m, rfl⟩
  have hb2 := below_drewN' hb1' m
  clear HI hb1'
  go_wp2_with fail
  refine (join_any _ _ _ _).mono ?_
  rw [j1]
  rintro e w3 ⟨rfl, rfl⟩
  go_wp2_with fail
  refine (split_any 97 (by omega) (by omega) _).mono ?_
  rw [s2]
  intro e w4 h4
  obtain ⟨v4, rfl, hv4, hb4⟩ := h4.cases
  obtain ⟨a4, cap4, rfl, -⟩ : ∃ a cap, v4 = .slice a 0 cap ∧ True := by
    rcases hv4.cases with ⟨a, cap, h, -⟩ | ⟨b, off, cap, -, h, -⟩
    · exact ⟨a, cap, h, trivial⟩
    · exact absurd h (by simp)
  have hb4' := hb2.trans (hb4.mono hb2.size)
  clear h4 hv4 hb4 hb2
  go_wp2_with fail
  refine (join_any _ _ _ _).mono ?_
  rw [j2]
  rintro e w5 ⟨rfl, rfl⟩
  go_wp2
  go_ret
  exact ⟨rfl, hb4'⟩
theorem wf_bd {c : Int} (wf : (Lit.int .i64 c).wf = true) : -9223372036854775808 ≤ c ∧ c ≤ 9223372036854775807 := by
  simp [Lit.wf, IntKind.min, IntKind.max, IntKind.signed, IntKind.bits] at wf; omega
theorem joinSplit (c : Int) : splitP c = [] ∨ (∃ a b, splitP c = [a, b] ∧ joinP a b 0 = c) ∨ ∃ a b d, splitP c = [a, b, d] ∧ joinP a b d = c := by
  by_cases h : 44032 ≤ c ∧ c ≤ 55203
  · by_cases h2 : (c - 44032) % 28 = 0
    · refine .inr (.inl ⟨_, _, splitP_two h h2, ?_⟩)
      rw [joinP_yes (by simp [joinOk]; omega)]
      simp [joinT]; omega
    · refine .inr (.inr ⟨_, _, _, splitP_three h h2, ?_⟩)
      rw [joinP_yes (by simp [joinOk]; omega)]
      unfold joinT
      rw [if_neg (by omega)]
      omega
  · exact .inl (splitP_no h)
theorem pair_ints {w1 w2 : World} {v u : Value} {l : List Int} (hl : l.length ≤ 10) (hv : RdI w1 v l) (hb : Below w1.heap.size w1 w2) (hu : RdI w2 u l) : ∀ W, W = w2 → Calls Try.prog 8 #[v, u] W (IntsRes W true) := fun W e => by
  subst e
  have := ints_any v u l l (by omega) (by omega) _ (RdV.below hv hb) hu
  rwa [decide_eq_true rfl] at this
set_option maxHeartbeats 4000000 in
set_option maxRecDepth 100000 in
theorem hangulSplit_walk (w : World) (c : Int) (wf : (Lit.int .i64 c).wf = true) :
    Calls Try.prog 3 #[.int .i64 c] w fun e w' => e = .returned (.bool true) ∧ Below w.heap.size w w' := by
  obtain ⟨hc0, hc1⟩ : -9223372036854775808 ≤ c ∧ c ≤ 9223372036854775807 := wf_bd wf
  have HC := Lib.hid (split_any c hc0 hc1)
  have HCr := Lib.hid (rsplit_any c hc0 hc1)
  have hJ := joinSplit c
  generalize splitP c = l at *
  have hl : l.length ≤ 10 := by rcases hJ with rfl | ⟨a, b, rfl, -⟩ | ⟨a, b, d, rfl, -⟩ <;> simp
  have HJ := Lib.hid hJ
  clear hJ
  go_enter Try.func3, Try.ntmps3
  go_wp2_with fail
  refine (hbegun_any _).mono ?_
  rintro e w1 ⟨rfl, hb1⟩
  go_wp2_with fail
  refine (HC.out _).mono ?_
  intro e w2 h2
  obtain ⟨v2, rfl, hv2, hb2⟩ := h2.cases
  have hb2' := hb1.trans (hb2.mono hb1.size)
  clear h2
  go_wp2_with fail
  refine (HCr.out _).mono ?_
  intro e w3 h3
  obtain ⟨v3, rfl, hv3, hb3⟩ := h3.cases
  have hb3' := hb2'.trans (hb3.mono hb2'.size)
  have HI := Lib.hid (pair_ints hl hv2 hb3 hv3)
  clear h3 hv2 hb1 hb2 hb3
  go_wp2_with fail
  refine (HI.out _ rfl).mono ?_
  rintro e w4 ⟨rfl, hm4⟩
  have hb6' : Below w.heap.size w w4 := hb3'.trans (DrN.below hm4 _)
  replace hv3 : RdI w4 v3 l := RdV.below hv3 (DrN.below hm4 _)
  clear HI HC HCr hm4 hb3' hb2'
  rcases HJ.out with rfl | ⟨a, b, rfl, HE⟩ | ⟨a, b, d, rfl, HE⟩
  · obtain ⟨a4, cap4, rfl, -⟩ : ∃ a cap, v3 = .slice a 0 cap ∧ True := by
      rcases hv3.cases with ⟨a, cap, h, -⟩ | ⟨b, off, cap, -, h, -⟩
      · exact ⟨a, cap, h, trivial⟩
      · exact absurd h (by simp)
    clear hv3 hl HJ
    go_wp2
    go_quiet (fail)
    go_wp2
    go_ret
    exact ⟨rfl, below_drewN' hb6' _⟩
  · obtain ⟨g, off, cap, rfl, hcap, hx0, hx1⟩ : ∃ g off cap, v3 = .slice (some ⟨g, off, none⟩) 2 cap ∧ 2 ≤ cap ∧ w4.cell? ⟨g, off, none⟩ = some (.int .i64 a) ∧ w4.cell? ⟨g, off + 1, none⟩ = some (.int .i64 b) := by
      rcases hv3.cases with ⟨_, _, -, h⟩ | ⟨g, off, cap, h, -, h2, -, -, h3⟩
      · cases h
      · exact ⟨g, off, cap, h, h2, h3 0 (by simp), h3 1 (by simp)⟩
    have HE' := Lib.hid HE
    clear hv3 hl HJ HE
    have hjj : Hid (∀ w, Calls Try.prog 9 #[.int .i64 a, .int .i64 b, .int .i64 0] w fun e w' => e = .returned (.int .i64 c) ∧ w = w') := Lib.hid fun w => by have := join_any a b 0 w; rwa [HE'.out] at this
    have hce : (c == c) = true := by simp
    go_wp2
    go_quiet ((go_at_call 9; exact Calls.quiet_of_same ((hjj.out _).mono fun e w' hh => ⟨hh.1, hh.2.symm⟩)))
    go_wp2
    go_ret
    exact ⟨rfl, below_drewN' hb6' _⟩
  · obtain ⟨g, off, cap, rfl, hcap, hx0, hx1, hx2⟩ : ∃ g off cap, v3 = .slice (some ⟨g, off, none⟩) 3 cap ∧ 3 ≤ cap ∧ w4.cell? ⟨g, off, none⟩ = some (.int .i64 a) ∧ w4.cell? ⟨g, off + 1, none⟩ = some (.int .i64 b) ∧ w4.cell? ⟨g, off + 2, none⟩ = some (.int .i64 d) := by
      rcases hv3.cases with ⟨_, _, -, h⟩ | ⟨g, off, cap, h, -, h2, -, -, h3⟩
      · cases h
      · exact ⟨g, off, cap, h, h2, h3 0 (by simp), h3 1 (by simp), h3 2 (by simp)⟩
    have HE' := Lib.hid HE
    clear hv3 hl HJ HE
    have hjj : Hid (∀ w, Calls Try.prog 9 #[.int .i64 a, .int .i64 b, .int .i64 d] w fun e w' => e = .returned (.int .i64 c) ∧ w = w') := Lib.hid fun w => by have := join_any a b d w; rwa [HE'.out] at this
    have hce : (c == c) = true := by simp
    go_wp2
    go_quiet ((go_at_call 9; exact Calls.quiet_of_same ((hjj.out _).mono fun e w' hh => ⟨hh.1, hh.2.symm⟩)))
    go_wp2
    go_ret
    exact ⟨rfl, below_drewN' hb6' _⟩
/-- what Split answers of the syllable (l, v, t). -/
theorem splitAt {l v t : Nat} (hl : l ≤ 18) (hv : v ≤ 20) (ht : t < 28) (c : Int) (hc : c = 44032 + ((l : Int) * 21 + v) * 28 + t) : splitP c = (if t = 0 then [4352 + (l : Int), 4449 + v] else [4352 + (l : Int), 4449 + v, 4519 + t]) ∧ joinP (4352 + (l : Int)) (4449 + v) (if t = 0 then 0 else 4519 + t) = c := by
  obtain ⟨d1, d2, d3⟩ := divs (n := c - 44032) (k := l) (j := v) (by omega) (by omega) (by omega) (by omega) (by omega)
  refine ⟨?_, ?_⟩
  · by_cases h : t = 0
    · rw [if_pos h, splitP_two (by omega) (by omega), d1, d2]
    · rw [if_neg h, splitP_three (by omega) (by omega), d1, d2, d3]
      congr 3; omega
  · rw [joinP_yes (by simp [joinOk]; by_cases h : t = 0 <;> simp [h] <;> omega)]
    by_cases h : t = 0
    · rw [if_pos h]; unfold joinT; rw [if_pos rfl]; omega
    · rw [if_neg h]; unfold joinT; rw [if_neg (by omega)]; omega
theorem s3 : splitP 44031 = [] := by decide +kernel
theorem s4 : splitP 55204 = [] := by decide +kernel
theorem NewRes.two {w w' : World} {a b : Int} {e : Ending} (h : NewRes [a, b] w e w') : ∃ g off cap, e = .returned (.slice (some ⟨g, off, none⟩) 2 cap) ∧ 2 ≤ cap ∧ w'.cell? ⟨g, off, none⟩ = some (.int .i64 a) ∧ w'.cell? ⟨g, off + 1, none⟩ = some (.int .i64 b) ∧ Below w.heap.size w w' := by
  obtain ⟨v, rfl, hv, hb⟩ := h.cases
  rcases hv.cases with ⟨_, _, -, h⟩ | ⟨g, off, cap, rfl, -, h2, -, -, h3⟩
  · cases h
  · exact ⟨g, off, cap, rfl, h2, h3 0 (by simp), h3 1 (by simp), hb⟩
theorem NewRes.three {w w' : World} {a b d : Int} {e : Ending} (h : NewRes [a, b, d] w e w') : ∃ g off cap, e = .returned (.slice (some ⟨g, off, none⟩) 3 cap) ∧ 3 ≤ cap ∧ w'.cell? ⟨g, off, none⟩ = some (.int .i64 a) ∧ w'.cell? ⟨g, off + 1, none⟩ = some (.int .i64 b) ∧ w'.cell? ⟨g, off + 2, none⟩ = some (.int .i64 d) ∧ Below w.heap.size w w' := by
  obtain ⟨v, rfl, hv, hb⟩ := h.cases
  rcases hv.cases with ⟨_, _, -, h⟩ | ⟨g, off, cap, rfl, -, h2, -, -, h3⟩
  · cases h
  · exact ⟨g, off, cap, rfl, h2, h3 0 (by simp), h3 1 (by simp), h3 2 (by simp), hb⟩
theorem NewRes.empty {w w' : World} {e : Ending} (h : NewRes [] w e w') : ∃ a cap, e = .returned (.slice a 0 cap) ∧ Below w.heap.size w w' := by
  obtain ⟨v, rfl, hv, hb⟩ := h.cases
  rcases hv.cases with ⟨a, cap, rfl, -⟩ | ⟨b, off, cap, -, h, -⟩
  · exact ⟨a, cap, rfl, hb⟩
  · exact absurd h (by simp)
set_option maxHeartbeats 4000000 in
set_option maxRecDepth 100000 in
theorem hangulLead_walk (w : World) (l : Int) (wf : (Lit.int .i64 l).wf = true) :
    Calls Try.prog 4 #[.int .i64 l] w fun e w' => e = .returned (.bool true) ∧ Below w.heap.size w w' := by
  obtain ⟨hc0, hc1⟩ : -9223372036854775808 ≤ l ∧ l ≤ 9223372036854775807 := wf_bd wf
  by_cases hin : 0 ≤ l ∧ l ≤ 18
  · obtain ⟨L, rfl⟩ := Int.eq_ofNat_of_zero_le hin.1
    have hL : L ≤ 18 := by omega
    clear hin hc0 hc1 wf
    go_enter Try.func4, Try.ntmps4
    go_wp2_with fail
    refine (hbegun_any _).mono ?_
    rintro e w1 ⟨rfl, hb1⟩
    go_wp2
    go_loopw [4] (fun i wr => ∃ k : Nat, i = .int .i64 k ∧ k ≤ 21 ∧ Below w.heap.size w wr) (fun i _ => 21 - (intOf i).toNat)
    case atStart => exact ⟨0, rfl, by omega, hb1⟩
    case round =>
      obtain ⟨v, rfl, hv, hbel⟩ := hrel
      by_cases hv2 : v < 21
      · have hvd : decide ((v : Int) < 21) = true := by simp; omega
        go_wp2
        go_loopw [5] (fun i wr => ∃ k : Nat, i = .int .i64 k ∧ k ≤ 28 ∧ Below w.heap.size w wr) (fun i _ => 28 - (intOf i).toNat)
        case atStart => exact ⟨0, rfl, by omega, hbel⟩
        case round =>
          obtain ⟨t, rfl, ht, hbel⟩ := hrel
          by_cases ht2 : t < 28
          · obtain ⟨c, hc⟩ : ∃ c : Int, c = 44032 + ((L : Int) * 21 + v) * 28 + t := ⟨_, rfl⟩
            obtain ⟨q1, q2⟩ := splitAt hL (show v ≤ 20 by omega) ht2 c hc
            have HC := Lib.hid (split_any c (by omega) (by omega))
            have HJ := Lib.hid (join_any (4352 + (L : Int)) (4449 + v) (if t = 0 then 0 else 4519 + t))
            rw [q2] at HJ
            rw [q1] at HC
            clear q1 q2
            by_cases ht0 : t = 0
            · rw [if_pos ht0] at HC HJ
              have HCE := Lib.hid hc
              have hz0 : ((t : Int) == 0) = true := by simp; omega
              have hz1 : decide (0 < (t : Int)) = false := by simp; omega
              have hz2 : decide (0 < t) = false := by simp; omega
              have hcc : (c != c) = false := by simp
              have hcb : 0 ≤ c ∧ c < 100000 := by omega
              obtain ⟨hcb1, hcb2⟩ := hcb
              clear hc ht0
              go_wp2_with fail
              rw [← HCE.out]
              refine (HC.out _).mono ?_
              intro e w3 h3
              obtain ⟨g, off, cap, rfl, hcap, hx0, hx1, hb3⟩ := h3.two
              have hb3' := hbel.trans (hb3.mono hbel.size)
              clear h3 hb3 HC
              go_wp2_with fail
              have f1 : IntKind.i64.wrap (4352 + (L : Int)) = 4352 + (L : Int) := IntWalk.i64_in _ (by omega)
              have f2 : IntKind.i64.wrap (4449 + (v : Int)) = 4449 + (v : Int) := IntWalk.i64_in _ (by omega)
              have f3 : IntKind.i64.wrap (4519 + (t : Int)) = 4519 + (t : Int) := IntWalk.i64_in _ (by omega)
              go_wp2_with fail
              refine wp_region_quiet_lit (by kernel_rfl) (by kernel_rfl) ?_
              simp only [List.append_eq, List.cons_append, List.nil_append]
              repeat (go_big_quiet_step ((go_at_call 9; exact Calls.quiet_of_same ((HJ.out _).mono fun e w' hh => ⟨hh.1, hh.2.symm⟩))))
              refine wpQuiet_nil ?_
              rintro _ ⟨nq, rfl⟩
              clear f1 f2 f3
              go_wp2
              go_roundw
              case rel => exact ⟨t + 1, by go_num, by omega, below_drewN' hb3' _⟩
              case measure => simp [intOf]; omega
            · rw [if_neg ht0] at HC HJ
              have HCE := Lib.hid hc
              have hz0 : ((t : Int) == 0) = false := by simp; omega
              have hz1 : decide (0 < (t : Int)) = true := by simp; omega
              have hz2 : decide (0 < t) = true := by simp; omega
              have hcc : (c != c) = false := by simp
              have hcb : 0 ≤ c ∧ c < 100000 := by omega
              obtain ⟨hcb1, hcb2⟩ := hcb
              clear hc ht0
              go_wp2_with fail
              rw [← HCE.out]
              refine (HC.out _).mono ?_
              intro e w3 h3
              obtain ⟨g, off, cap, rfl, hcap, hx0, hx1, hx2, hb3⟩ := h3.three
              have hb3' := hbel.trans (hb3.mono hbel.size)
              clear h3 hb3 HC
              go_wp2_with fail
              have f1 : IntKind.i64.wrap (4352 + (L : Int)) = 4352 + (L : Int) := IntWalk.i64_in _ (by omega)
              have f2 : IntKind.i64.wrap (4449 + (v : Int)) = 4449 + (v : Int) := IntWalk.i64_in _ (by omega)
              have f3 : IntKind.i64.wrap (4519 + (t : Int)) = 4519 + (t : Int) := IntWalk.i64_in _ (by omega)
              go_wp2_with fail
              refine wp_region_quiet_lit (by kernel_rfl) (by kernel_rfl) ?_
              simp only [List.append_eq, List.cons_append, List.nil_append]
              repeat (go_big_quiet_step ((go_at_call 9; exact Calls.quiet_of_same ((HJ.out _).mono fun e w' hh => ⟨hh.1, hh.2.symm⟩))))
              refine wpQuiet_nil ?_
              rintro _ ⟨nq, rfl⟩
              clear f1 f2 f3
              go_wp2
              go_roundw
              case rel => exact ⟨t + 1, by go_num, by omega, below_drewN' hb3' _⟩
              case measure => simp [intOf]; omega
          · obtain rfl : t = 28 := by omega
            go_wp2
            go_roundw
            case rel => exact ⟨v + 1, by go_num, by omega, hbel⟩
            case measure => simp [intOf]; omega
      · obtain rfl : v = 21 := by omega
        go_wp2
        go_ret
        exact ⟨rfl, hbel⟩
  · have HA := Lib.hid (split_any 44031 (by omega) (by omega))
    have HB := Lib.hid (split_any 55204 (by omega) (by omega))
    rw [s3] at HA
    rw [s4] at HB
    by_cases h0 : l < 0
    · clear hin
      go_enter Try.func4, Try.ntmps4
      go_wp2_with fail
      refine (hbegun_any _).mono ?_
      rintro e w1 ⟨rfl, hb1⟩
      go_wp2_with fail
      refine (HA.out _).mono ?_
      intro e w2 h2
      obtain ⟨a, cap, rfl, hb2⟩ := h2.empty
      have hb2' := hb1.trans (hb2.mono hb1.size)
      clear h2 hb1 hb2
      go_wp2_with fail
      refine (HB.out _).mono ?_
      intro e w3 h3
      obtain ⟨a3, cap3, rfl, hb3⟩ := h3.empty
      have hb3' := hb2'.trans (hb3.mono hb2'.size)
      clear h3 hb3 hb2' HA HB
      go_wp2
      go_ret
      exact ⟨rfl, hb3'⟩
    · have h1 : 18 < l := by omega
      clear hin
      go_enter Try.func4, Try.ntmps4
      go_wp2_with fail
      refine (hbegun_any _).mono ?_
      rintro e w1 ⟨rfl, hb1⟩
      go_wp2_with fail
      refine (HA.out _).mono ?_
      intro e w2 h2
      obtain ⟨a, cap, rfl, hb2⟩ := h2.empty
      have hb2' := hb1.trans (hb2.mono hb1.size)
      clear h2 hb1 hb2
      go_wp2_with fail
      refine (HB.out _).mono ?_
      intro e w3 h3
      obtain ⟨a3, cap3, rfl, hb3⟩ := h3.empty
      have hb3' := hb2'.trans (hb3.mono hb2'.size)
      clear h3 hb3 hb2' HA HB
      go_wp2
      go_ret
      exact ⟨rfl, hb3'⟩
end Go.Proofs.Ytgjoaphjichimaa
