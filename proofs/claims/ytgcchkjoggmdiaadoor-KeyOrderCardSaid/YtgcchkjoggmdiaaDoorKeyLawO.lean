/- The walk of the law KeyOrder. -/
import Derived.Test.YtgcchkjoggmdiaaDoorMKey
import Derived.Test.YtgcchkjoggmdiaaDoorNormLaw2
import Derived.Deep.DeepCutAuto
import Derived.Deep.CutBlock
namespace Go.Proofs.YtgcchkjoggmdiaaDoor
set_option linter.unusedVariables false
open Go.RowKit
open Go.Lib (compareBytes)
theorem kw_cases {w w' : World} {r : Option (List UInt8)} {e : Ending} (h : WriteRes w r e w') : e = .returned (.tuple #[.string ⟨(r.getD []).toArray⟩, .bool r.isSome]) ∧ Below w.heap.size w w' := by
  obtain ⟨hb, h⟩ := h
  cases r with
  | none => exact ⟨h, hb⟩
  | some xs => exact ⟨h, hb⟩
theorem kcmp_val (xs ys : List Int) (S T : List UInt8) (hx : writeP xs = some S) (hy : writeP ys = some T) (W : Int) (hW : cmpI xs ys = W) (w : World) :
    Calls Tryd.prog 9 #[.string ⟨S.toArray⟩, .string ⟨T.toArray⟩] w fun e w' => e = .returned (.int .i64 W) ∧ w = w' := by
  have := kcmp_any ⟨S.toArray⟩ ⟨T.toArray⟩ w
  rwa [show compareBytes (⟨S.toArray⟩ : ByteArray).data.toList (⟨T.toArray⟩ : ByteArray).data.toList = W from by rw [← hW]; exact cmp_write xs ys S T hx hy] at this
set_option maxHeartbeats 4000000 in
set_option maxRecDepth 100000 in
theorem keyOrder_walk (w : World) (hE : ErrAt w) (hSp : SpAt w) (a : Option Addr) (len cap : Nat) (zs : List Int) (hz : RdI w (.slice a len cap) zs) (_hw : ∀ n ∈ zs, (Lit.int .i64 n).wf = true)
    (a2 : Option Addr) (len2 cap2 : Nat) (zs2 : List Int) (hz2 : RdI w (.slice a2 len2 cap2) zs2) (_hw2 : ∀ n ∈ zs2, (Lit.int .i64 n).wf = true) :
    Calls Tryd.prog 3 #[.slice a len cap, .slice a2 len2 cap2] w fun e w' => e = .returned (.bool true) ∧ Below w.heap.size w w' := by
  have HB := Lib.hid (kbegun_any w hE hSp)
  have HZ := Lib.hid hz
  have HZ2 := Lib.hid hz2
  clear hE hSp hz hz2 _hw _hw2
  go_enter Tryd.func3, Tryd.ntmps3
  go_wp2_with fail
  refine HB.out.mono ?_
  rintro e w1 ⟨rfl, hb1⟩
  have HB1 := Lib.hid hb1
  have HX := Lib.hid (RdV.below HZ.out hb1)
  have HY := Lib.hid (RdV.below HZ2.out hb1)
  clear hb1 HB HZ HZ2
  go_upto_if 17 with fail
  go_cut [0] (fun l wx => ∃ xs a len cap, l = .slice a len cap ∧ Hid (RdI w1 l xs) ∧ xs.length ≤ 20 ∧ w1 = wx)
  case first =>
    obtain ⟨h1, h2⟩ := rdI_len HX.out
    by_cases h60 : 20 < len
    · obtain ⟨⟨b, off, rfl⟩, hc1⟩ := h2 (by omega)
      have HT : Hid (RdI w1 (.slice (some ⟨b, off, none⟩) 20 cap) (zs.take 20)) := Lib.hid (rdI_take HX.out 20 (by omega))
      have hc60 : (20 : Int) ≤ (cap : Int) := by omega
      clear h1 h2
      go_wp2_with fail
      go_meet
      exact ⟨zs.take 20, _, _, _, rfl, HT, by rw [List.length_take]; omega, rfl⟩
    · go_wp2_with fail
      go_meet
      exact ⟨zs, _, _, _, rfl, HX, by omega, rfl⟩
  case rest =>
  obtain ⟨xs, xa, xl, xc, rfl, HXS, hxl, rfl⟩ := hcut
  clear HX
  go_upto_if 22 with fail
  go_cut [1] (fun l wx => ∃ xs a len cap, l = .slice a len cap ∧ Hid (RdI w1 l xs) ∧ xs.length ≤ 20 ∧ w1 = wx)
  case first =>
    obtain ⟨h1, h2⟩ := rdI_len HY.out
    by_cases h60 : 20 < len2
    · obtain ⟨⟨b, off, rfl⟩, hc1⟩ := h2 (by omega)
      have HT : Hid (RdI w1 (.slice (some ⟨b, off, none⟩) 20 cap2) (zs2.take 20)) := Lib.hid (rdI_take HY.out 20 (by omega))
      have hc60 : (20 : Int) ≤ (cap2 : Int) := by omega
      clear h1 h2
      go_wp2_with fail
      go_meet
      exact ⟨zs2.take 20, _, _, _, rfl, HT, by rw [List.length_take]; omega, rfl⟩
    · go_wp2_with fail
      go_meet
      exact ⟨zs2, _, _, _, rfl, HY, by omega, rfl⟩
  case rest =>
  obtain ⟨ys, ya, yl, yc, rfl, HYS, hyl, rfl⟩ := hcut
  clear HY
  have HW1 := Lib.hid (rwrite_any _ xs (by omega) _ HXS.out)
  have HW2 : Hid (∀ w', Below w1.heap.size w1 w' → Calls Tryd.prog 8 #[.slice ya yl yc] w' (WriteRes w' (writeP ys))) := Lib.hid fun w' hb => rwrite_any _ ys (by omega) _ (RdV.below HYS.out hb)
  have HWX : Hid (∀ S T, writeP xs = some S → writeP ys = some T → ∀ W V, cmpI xs ys = W → V = -W → (∀ w, Calls Tryd.prog 9 #[.string ⟨S.toArray⟩, .string ⟨T.toArray⟩] w fun e w' => e = .returned (.int .i64 W) ∧ w = w') ∧
      ∀ w, Calls Tryd.prog 9 #[.string ⟨T.toArray⟩, .string ⟨S.toArray⟩] w fun e w' => e = .returned (.int .i64 V) ∧ w = w') :=
    Lib.hid fun S T hx hy W V hW hV => ⟨kcmp_val xs ys S T hx hy W hW, kcmp_val ys xs T S hy hx V (by rw [cmpI_anti xs ys, hW, hV])⟩
  obtain ⟨r, hr⟩ : ∃ r, writeP xs = r := ⟨_, rfl⟩
  obtain ⟨u, hu⟩ : ∃ u, writeP ys = u := ⟨_, rfl⟩
  rw [hr] at HW1 HWX
  rw [hu] at HW2 HWX
  clear hr hu
  go_wp2_with fail
  refine HW1.out.mono ?_
  intro e w2 hq
  obtain ⟨rfl, hb2⟩ := kw_cases hq
  have HB2 := Lib.hid (HB1.out.trans (hb2.mono HB1.out.size))
  have HW3 := Lib.hid (HW2.out _ hb2)
  have HX2 := Lib.hid (RdV.below HXS.out hb2)
  have HY2 := Lib.hid (RdV.below HYS.out hb2)
  clear hq hb2 HW1 HW2 HXS HYS HB1
  go_wp2_with fail
  refine HW3.out.mono ?_
  intro e w3 hq
  obtain ⟨rfl, hb3⟩ := kw_cases hq
  have HB3 := Lib.hid (HB2.out.trans (hb3.mono HB2.out.size))
  have HX3 : Hid (RdI w3 _ _) := Lib.hid (RdV.below HX2.out hb3)
  have HY3 : Hid (RdI w3 _ _) := Lib.hid (RdV.below HY2.out hb3)
  clear hq hb3 HW3 HX2 HY2 HB2
  cases r with
  | none =>
    go_wp2_with fail
    go_ret
    exact ⟨rfl, HB3.out⟩
  | some S =>
  cases u with
  | none =>
    go_wp2_with fail
    go_ret
    exact ⟨rfl, HB3.out⟩
  | some T =>
  have HWT : Hid (∀ W V, cmpI xs ys = W → V = -W → (∀ w, Calls Tryd.prog 9 #[.string ⟨S.toArray⟩, .string ⟨T.toArray⟩] w fun e w' => e = .returned (.int .i64 W) ∧ w = w') ∧
      ∀ w, Calls Tryd.prog 9 #[.string ⟨T.toArray⟩, .string ⟨S.toArray⟩] w fun e w' => e = .returned (.int .i64 V) ∧ w = w') := Lib.hid (HWX.out S T rfl rfl)
  clear HWX
  obtain ⟨hx1, hx2⟩ := rdI_len HX3.out
  obtain ⟨hy1, hy2⟩ := rdI_len HY3.out
  have HXL := Lib.hid hx1
  have HYL := Lib.hid hy1
  have hx20 : xl ≤ 20 := by omega
  have hy20 : yl ≤ 20 := by omega
  clear hx1 hx2 hy1 hy2 hxl hyl
  go_wp2_with fail
  go_loopw [10, 11] (fun v i wr => ∃ (k m : Nat) (W : Int), i = .int .i64 k ∧ v = .int .i64 W ∧ k ≤ xl ∧ k ≤ yl ∧ wr = w3.drewN m ∧ Hid (Wrel xs ys k W)) (fun _ i _ => xl - (intOf i).toNat)
  case atStart => exact ⟨0, 0, 0, rfl, rfl, Nat.zero_le _, Nat.zero_le _, rfl, Lib.hid (.inl ⟨rfl, Nat.zero_le _, Nat.zero_le _, rfl⟩)⟩
  case round =>
    obtain ⟨k, m, W, rfl, rfl, hk1, hk2, rfl, HR⟩ := hrel
    rcases HR.out with ⟨rfl, hx1, hy1, ht⟩ | ⟨rfl, hc⟩ | ⟨rfl, hc⟩
    · have HT := Lib.hid ht
      clear ht HR hx1 hy1
      by_cases h1 : k < xl
      · by_cases h2 : k < yl
        · obtain ⟨b, off, rfl, hc⟩ : ∃ b off, xa = some ⟨b, off, none⟩ ∧ w3.cell? ⟨b, off + k, none⟩ = some (.int .i64 (xs.getD k 0)) := by
            rcases HX3.out.cases with ⟨a, c, h1, h2⟩ | ⟨b', off', c, h1, h2, h3, h4, h5, h6⟩
            · simp only [Value.slice.injEq] at h1; omega
            · simp only [Value.slice.injEq] at h1
              exact ⟨b', off', h1.1, h6 k (by omega)⟩
          obtain ⟨b2, off2, rfl, hc2⟩ : ∃ b off, ya = some ⟨b, off, none⟩ ∧ w3.cell? ⟨b, off + k, none⟩ = some (.int .i64 (ys.getD k 0)) := by
            rcases HY3.out.cases with ⟨a, c, h1, h2⟩ | ⟨b', off', c, h1, h2, h3, h4, h5, h6⟩
            · simp only [Value.slice.injEq] at h1; omega
            · simp only [Value.slice.injEq] at h1
              exact ⟨b', off', h1.1, h6 k (by omega)⟩
          have hd1 : decide (k < xl) = true := decide_eq_true h1
          have hd2 : decide (k < yl) = true := decide_eq_true h2
          have h0k : (0 : Int) ≤ (k : Int) := by omega
          have hkx : (k : Int) < (xl : Int) := by omega
          have hky : (k : Int) < (yl : Int) := by omega
          have FL : Hid (xs.getD k 0 < ys.getD k 0 → Wrel xs ys (k + 1) (-1)) := Lib.hid fun h => .inr (.inl ⟨rfl, wrel_lt (by have := HXL.out; omega) (by have := HYL.out; omega) HT.out h⟩)
          have FG : Hid (ys.getD k 0 < xs.getD k 0 → Wrel xs ys (k + 1) 1) := Lib.hid fun h => .inr (.inr ⟨rfl, wrel_gt (by have := HXL.out; omega) (by have := HYL.out; omega) HT.out h⟩)
          have FE : Hid (xs.getD k 0 = ys.getD k 0 → Wrel xs ys (k + 1) 0) := Lib.hid fun h => .inl ⟨rfl, by have := HXL.out; omega, by have := HYL.out; omega, wrel_eq (by have := HXL.out; omega) (by have := HYL.out; omega) HT.out h⟩
          generalize xs.getD k 0 = x at *
          generalize ys.getD k 0 = y at *
          by_cases l1 : x < y
          · have q1 : decide (x < y) = true := decide_eq_true l1
            have q2 : decide (y < x) = false := decide_eq_false (by omega)
            have FF := Lib.hid (FL.out l1)
            clear FL FG FE
            go_wp2
            go_quiet (fail)
            go_wp2
            go_quiet (fail)
            go_wp2
            go_roundw
            case rel => exact ⟨k + 1, _, -1, by go_num, rfl, by omega, by omega, rfl, Lib.hid (FF.out)⟩
            case measure => simp [intOf]; omega
          · by_cases l2 : y < x
            · have q1 : decide (x < y) = false := decide_eq_false l1
              have q2 : decide (y < x) = true := decide_eq_true l2
              have FF := Lib.hid (FG.out l2)
              clear FL FG FE
              go_wp2
              go_quiet (fail)
              go_wp2
              go_quiet (fail)
              go_wp2
              go_roundw
              case rel => exact ⟨k + 1, _, 1, by go_num, rfl, by omega, by omega, rfl, Lib.hid (FF.out)⟩
              case measure => simp [intOf]; omega
            · have q1 : decide (x < y) = false := decide_eq_false l1
              have q2 : decide (y < x) = false := decide_eq_false l2
              have FF := Lib.hid (FE.out (by omega))
              clear FL FG FE
              go_wp2
              go_quiet (fail)
              go_wp2
              go_quiet (fail)
              go_wp2
              go_roundw
              case rel => exact ⟨k + 1, _, 0, by go_num, rfl, by omega, by omega, rfl, Lib.hid (FF.out)⟩
              case measure => simp [intOf]; omega
        · have hd1 : decide (k < xl) = true := decide_eq_true h1
          have hd2 : decide (k < yl) = false := decide_eq_false h2
          have hne : ((xl : Int) != (yl : Int)) = true := by rw [bne_iff_ne]; omega
          have hd3 : decide (xl < yl) = false := decide_eq_false (by omega)
          have HE := Lib.hid ((wrel_end (by have := HXL.out; omega) (by have := HYL.out; omega) HT.out (.inr (by have := HYL.out; omega))).2.2 (by have := HXL.out; have := HYL.out; omega))
          obtain ⟨c1, c2⟩ := HWT.out (1) (-1) HE.out (by decide)
          have C1 := Lib.hid c1
          have C2 := Lib.hid c2
          clear c1 c2 HWT
          go_wp2_with fail
          refine (C1.out _).mono ?_
          rintro e w' ⟨rfl, rfl⟩
          go_wp2_with fail
          refine (C2.out _).mono ?_
          rintro e w' ⟨rfl, rfl⟩
          go_wp2_with fail
          go_ret
          exact ⟨rfl, HB3.out.trans ⟨rfl, rfl, rfl, Nat.le_refl _, fun _ _ => rfl⟩⟩
      · have hd1 : decide (k < xl) = false := decide_eq_false h1
        have HE := Lib.hid (wrel_end (by have := HXL.out; omega) (by have := HYL.out; omega) HT.out (.inl (by have := HXL.out; omega)))
        by_cases h2 : xl = yl
        · have hne : ((xl : Int) != (yl : Int)) = false := by rw [bne_eq_false_iff_eq]; omega
          have HE1 := Lib.hid (HE.out.1 (by have := HXL.out; have := HYL.out; omega))
          clear HE h2
          obtain ⟨c1, c2⟩ := HWT.out (0) (0) HE1.out (by decide)
          have C1 := Lib.hid c1
          have C2 := Lib.hid c2
          clear c1 c2 HWT
          go_wp2_with fail
          refine (C1.out _).mono ?_
          rintro e w' ⟨rfl, rfl⟩
          go_wp2_with fail
          refine (C2.out _).mono ?_
          rintro e w' ⟨rfl, rfl⟩
          go_wp2_with fail
          go_ret
          exact ⟨rfl, HB3.out.trans ⟨rfl, rfl, rfl, Nat.le_refl _, fun _ _ => rfl⟩⟩
        · have hne : ((xl : Int) != (yl : Int)) = true := by rw [bne_iff_ne]; omega
          have hd3 : decide (xl < yl) = true := decide_eq_true (by omega)
          have HE1 := Lib.hid (HE.out.2.1 (by have := HXL.out; have := HYL.out; omega))
          clear HE h2
          obtain ⟨c1, c2⟩ := HWT.out (-1) (1) HE1.out (by decide)
          have C1 := Lib.hid c1
          have C2 := Lib.hid c2
          clear c1 c2 HWT
          go_wp2_with fail
          refine (C1.out _).mono ?_
          rintro e w' ⟨rfl, rfl⟩
          go_wp2_with fail
          refine (C2.out _).mono ?_
          rintro e w' ⟨rfl, rfl⟩
          go_wp2_with fail
          go_ret
          exact ⟨rfl, HB3.out.trans ⟨rfl, rfl, rfl, Nat.le_refl _, fun _ _ => rfl⟩⟩
    · have HC := Lib.hid hc
      clear hc HR
      by_cases h1 : k < xl
      · have hd1 : decide (k < xl) = true := decide_eq_true h1
        by_cases h2 : k < yl
        · have hd2 : decide (k < yl) = true := decide_eq_true h2
          obtain ⟨c1, c2⟩ := HWT.out (-1) (1) HC.out (by decide)
          have C1 := Lib.hid c1
          have C2 := Lib.hid c2
          clear c1 c2 HWT
          go_wp2_with fail
          refine (C1.out _).mono ?_
          rintro e w' ⟨rfl, rfl⟩
          go_wp2_with fail
          refine (C2.out _).mono ?_
          rintro e w' ⟨rfl, rfl⟩
          go_wp2_with fail
          go_ret
          exact ⟨rfl, HB3.out.trans ⟨rfl, rfl, rfl, Nat.le_refl _, fun _ _ => rfl⟩⟩
        · have hd2 : decide (k < yl) = false := decide_eq_false h2
          obtain ⟨c1, c2⟩ := HWT.out (-1) (1) HC.out (by decide)
          have C1 := Lib.hid c1
          have C2 := Lib.hid c2
          clear c1 c2 HWT
          go_wp2_with fail
          refine (C1.out _).mono ?_
          rintro e w' ⟨rfl, rfl⟩
          go_wp2_with fail
          refine (C2.out _).mono ?_
          rintro e w' ⟨rfl, rfl⟩
          go_wp2_with fail
          go_ret
          exact ⟨rfl, HB3.out.trans ⟨rfl, rfl, rfl, Nat.le_refl _, fun _ _ => rfl⟩⟩
      · have hd1 : decide (k < xl) = false := decide_eq_false h1
        obtain ⟨c1, c2⟩ := HWT.out (-1) (1) HC.out (by decide)
        have C1 := Lib.hid c1
        have C2 := Lib.hid c2
        clear c1 c2 HWT
        go_wp2_with fail
        refine (C1.out _).mono ?_
        rintro e w' ⟨rfl, rfl⟩
        go_wp2_with fail
        refine (C2.out _).mono ?_
        rintro e w' ⟨rfl, rfl⟩
        go_wp2_with fail
        go_ret
        exact ⟨rfl, HB3.out.trans ⟨rfl, rfl, rfl, Nat.le_refl _, fun _ _ => rfl⟩⟩
    · have HC := Lib.hid hc
      clear hc HR
      by_cases h1 : k < xl
      · have hd1 : decide (k < xl) = true := decide_eq_true h1
        by_cases h2 : k < yl
        · have hd2 : decide (k < yl) = true := decide_eq_true h2
          obtain ⟨c1, c2⟩ := HWT.out (1) (-1) HC.out (by decide)
          have C1 := Lib.hid c1
          have C2 := Lib.hid c2
          clear c1 c2 HWT
          go_wp2_with fail
          refine (C1.out _).mono ?_
          rintro e w' ⟨rfl, rfl⟩
          go_wp2_with fail
          refine (C2.out _).mono ?_
          rintro e w' ⟨rfl, rfl⟩
          go_wp2_with fail
          go_ret
          exact ⟨rfl, HB3.out.trans ⟨rfl, rfl, rfl, Nat.le_refl _, fun _ _ => rfl⟩⟩
        · have hd2 : decide (k < yl) = false := decide_eq_false h2
          obtain ⟨c1, c2⟩ := HWT.out (1) (-1) HC.out (by decide)
          have C1 := Lib.hid c1
          have C2 := Lib.hid c2
          clear c1 c2 HWT
          go_wp2_with fail
          refine (C1.out _).mono ?_
          rintro e w' ⟨rfl, rfl⟩
          go_wp2_with fail
          refine (C2.out _).mono ?_
          rintro e w' ⟨rfl, rfl⟩
          go_wp2_with fail
          go_ret
          exact ⟨rfl, HB3.out.trans ⟨rfl, rfl, rfl, Nat.le_refl _, fun _ _ => rfl⟩⟩
      · have hd1 : decide (k < xl) = false := decide_eq_false h1
        obtain ⟨c1, c2⟩ := HWT.out (1) (-1) HC.out (by decide)
        have C1 := Lib.hid c1
        have C2 := Lib.hid c2
        clear c1 c2 HWT
        go_wp2_with fail
        refine (C1.out _).mono ?_
        rintro e w' ⟨rfl, rfl⟩
        go_wp2_with fail
        refine (C2.out _).mono ?_
        rintro e w' ⟨rfl, rfl⟩
        go_wp2_with fail
        go_ret
        exact ⟨rfl, HB3.out.trans ⟨rfl, rfl, rfl, Nat.le_refl _, fun _ _ => rfl⟩⟩
end Go.Proofs.YtgcchkjoggmdiaaDoor
