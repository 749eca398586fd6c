/- The walk of the law WalNames. -/
import Derived.Test.YtjhkfjbgdaomeaaGreatDoorWalBeg
import Derived.Lib.SmallJoins
import Derived.Deep.LoopGhost
namespace Go.Proofs.YtjhkfjbgdaomeaaGreatDoor
set_option linter.unusedVariables false
open Go.RowKit Go.Maps
theorem logName_size (u : Nat) : (logName u).size = (Lib.decDigits u).length + 4 := by
  unfold logName
  rw [ByteArray.size_append]; rfl
theorem logName_list (u : Nat) : (logName u).data.toList = Lib.decDigits u ++ [46, 108, 111, 103] := by
  unfold logName
  rw [ByteArray.data_append]; simp [dotLog]
theorem logName_inj {u v : Nat} (h : logName u = logName v) : u = v := by
  have e : (logName u).data.toList = (logName v).data.toList := by rw [h]
  rw [logName_list, logName_list] at e
  exact dec_inj (List.append_inj_left' e rfl)
theorem pow_kept {W W' : World} (h : Lib.TabIs Tryz.prog W "internal/strconv.uint64pow10" .u64 Lib.pow10Tab) (hb : Below W.heap.size W W') : Lib.TabIs Tryz.prog W' "internal/strconv.uint64pow10" .u64 Lib.pow10Tab :=
  Go.Joins.var_stays (g := 1) (by kernel_rfl) h hb (Nat.le_refl _)
set_option maxHeartbeats 4000000 in
set_option maxRecDepth 100000 in
theorem walNames_walk (w : World) (hE : ErrAt w) (hSp : SpAt w) (hT : TabAt w) (hP : Lib.TabIs Tryz.prog w "internal/strconv.uint64pow10" .u64 Lib.pow10Tab) (a : Int) (wa : (Lit.int .i64 a).wf = true) (b : Int) (wb : (Lit.int .i64 b).wf = true) :
    Calls Tryz.prog 6 #[.int .i64 a, .int .i64 b] w fun e w' => e = .returned (.bool true) ∧ Below w.heap.size w w' := by
  have HBG := Lib.hid (wbegun_any w ⟨hE, hSp, hT⟩)
  have HP := Lib.hid hP
  clear hE hSp hT hP wa wb
  by_cases ha1 : a < 1
  · have d1 : decide (a < 1) = true := decide_eq_true ha1
    go_enter Tryz.func6, Tryz.ntmps6
    go_wp2_with fail
    refine HBG.out.mono ?_
    rintro e w1 ⟨rfl, b1⟩
    go_wp2_with fail
    go_ret
    exact ⟨rfl, b1⟩
  have d1 : decide (a < 1) = false := decide_eq_false ha1
  by_cases ha2 : 1125899906842624 < a
  · have d2 : decide (1125899906842624 < a) = true := decide_eq_true ha2
    go_enter Tryz.func6, Tryz.ntmps6
    go_wp2_with fail
    refine HBG.out.mono ?_
    rintro e w1 ⟨rfl, b1⟩
    go_wp2_with fail
    go_ret
    exact ⟨rfl, b1⟩
  have d2 : decide (1125899906842624 < a) = false := decide_eq_false ha2
  by_cases hb1 : b < 1
  · have d3 : decide (b < 1) = true := decide_eq_true hb1
    go_enter Tryz.func6, Tryz.ntmps6
    go_wp2_with fail
    refine HBG.out.mono ?_
    rintro e w1 ⟨rfl, b1⟩
    go_wp2_with fail
    go_ret
    exact ⟨rfl, b1⟩
  have d3 : decide (b < 1) = false := decide_eq_false hb1
  by_cases hb2 : 1125899906842624 < b
  · have d4 : decide (1125899906842624 < b) = true := decide_eq_true hb2
    go_enter Tryz.func6, Tryz.ntmps6
    go_wp2_with fail
    refine HBG.out.mono ?_
    rintro e w1 ⟨rfl, b1⟩
    go_wp2_with fail
    go_ret
    exact ⟨rfl, b1⟩
  have d4 : decide (1125899906842624 < b) = false := decide_eq_false hb2
  obtain ⟨u, rfl⟩ := Int.eq_ofNat_of_zero_le (show 0 ≤ a by omega)
  obtain ⟨v, rfl⟩ := Int.eq_ofNat_of_zero_le (show 0 ≤ b by omega)
  have hu : u ≤ 1125899906842624 := by omega
  have hv : v ≤ 1125899906842624 := by omega
  have HNA : Hid (∀ W, Below w.heap.size w W → Calls Tryz.prog 21 #[.int .i64 (u : Int)] W fun e w' => e = .returned (.string (logName u)) ∧ Below W.heap.size W w') := Lib.hid fun W hW => walname_any u (by omega) W (pow_kept HP.out hW)
  have HNB : Hid (∀ W, Below w.heap.size w W → Calls Tryz.prog 21 #[.int .i64 (v : Int)] W fun e w' => e = .returned (.string (logName v)) ∧ Below W.heap.size W w') := Lib.hid fun W hW => walname_any v (by omega) W (pow_kept HP.out hW)
  obtain ⟨X, hX⟩ : ∃ X, logName u = X := ⟨_, rfl⟩
  obtain ⟨Y, hY⟩ : ∃ Y, logName v = Y := ⟨_, rfl⟩
  rw [hX] at HNA
  rw [hY] at HNB
  obtain ⟨q1, q2, q3⟩ := dec_digits u
  obtain ⟨D, hD⟩ : ∃ D, Lib.decDigits u = D := ⟨_, rfl⟩
  obtain ⟨L, hL⟩ : ∃ L, D.length = L := ⟨_, rfl⟩
  have hXs : X.size = L + 4 := by rw [← hX, logName_size, hD, hL]
  have hXl : X.data.toList = D ++ [46, 108, 111, 103] := by rw [← hX, logName_list, hD]
  have hLs : L ≤ 20 := by
    rw [← hL, ← hD]
    exact Nat.le_trans (digits_few u 19 (by omega) (by omega)) (by omega)
  rw [hD] at q1 q2 q3
  have HD := Lib.hid (And.intro q1 (And.intro q2 (And.intro hXl hL)))
  have HEQ : Hid ((X.toList == Y.toList) = ((u : Int) == (v : Int))) := Lib.hid (by
    rw [bs_eq, ← hX, ← hY]
    by_cases h : u = v
    · subst h; simp
    · rw [decide_eq_false fun e => h (logName_inj e)]
      symm
      rw [beq_eq_false_iff_ne]; omega)
  have hL1 : 1 ≤ L := by omega
  clear q1 q2 q3 hX hY hD hXl hL HP ha1 ha2 hb1 hb2
  go_enter Tryz.func6, Tryz.ntmps6
  go_wp2_with fail
  refine HBG.out.mono ?_
  rintro e w1 ⟨rfl, b1⟩
  have HA1 := Lib.hid (HNA.out w1 b1)
  have HB1 := Lib.hid b1
  clear b1 HNA HBG
  go_wp2_with fail
  refine HA1.out.mono ?_
  rintro e w2 ⟨rfl, b2⟩
  have hb2 := HB1.out.trans (b2.mono HB1.out.size)
  have HA2 := Lib.hid (HNB.out w2 hb2)
  have HB2 := Lib.hid hb2
  clear b2 HB1 HNB hb2 HA1
  go_wp2_with fail
  refine HA2.out.mono ?_
  rintro e w3 ⟨rfl, b3⟩
  have HB3 := Lib.hid (HB2.out.trans (b3.mono HB2.out.size))
  clear b3 HB2 HA2
  go_wp2_with fail
  go_loopg [8, 9] L (fun kk vn vi wr => ∃ (i n : Nat), vn = .int .i64 (n : Int) ∧ vi = .int .i64 (i : Int) ∧ i ≤ L ∧ L - i ≤ kk ∧ n ≤ u ∧ Hid (n = decV (D.take i)) ∧ Hid (Below w.heap.size w wr))
  case atStart => exact ⟨0, 0, rfl, rfl, by omega, by omega, by omega, Lib.hid rfl, HB3⟩
  case round =>
    clear HB3
    obtain ⟨i, n, rfl, rfl, hi, hik, hn, HN, HB⟩ := hrel
    by_cases hlt : i < L
    · have hz1 : (i : Int) + 4 < (X.size : Int) := by omega
      obtain ⟨b, hb⟩ : ∃ b, D[i]? = some b := ⟨_, List.getElem?_eq_getElem (by have := HD.out.2.2.2; omega)⟩
      obtain ⟨q1, q2, q3, q4⟩ := HD.out
      obtain ⟨hb1, hb2⟩ := q2 b (List.mem_of_getElem? hb)
      have hN2 : n * 10 + (b.toNat - 48) = decV (D.take (i + 1)) := by rw [decV_next hb, ← HN.out]
      have hle : n * 10 + (b.toNat - 48) ≤ u := by rw [hN2, ← q1]; exact decV_take D (i + 1)
      have HN2 := Lib.hid hN2
      have HXI : Hid (∀ h : i < X.size, X[i] = b) := Lib.hid fun h => by
        have e : X.data.toList[i]? = some b := by rw [q3, List.getElem?_append_left (by omega), hb]
        obtain ⟨h', e'⟩ := List.getElem?_eq_some_iff.1 e
        rw [← e']; rfl
      clear q1 q2 q3 q4 hb hN2
      go_wp2_with fail
      go_roundg (L - (i + 1))
      case measure => omega
      case rel =>
        refine ⟨i + 1, n * 10 + (b.toNat - 48), ?_, by go_num, by omega, Nat.le_refl _, hle, HN2, HB⟩
        have e := HXI.out (by omega)
        rw [e]
        congr 1
        omega
    · have hz1 : ¬ (i : Int) + 4 < (X.size : Int) := by omega
      obtain rfl : i = L := by omega
      obtain ⟨q1, q2, q3, q4⟩ := HD.out
      obtain rfl : n = u := by rw [HN.out, ← q4, List.take_length, q1]
      have hext : (X.extract i (i + 4)).toList = [46, 108, 111, 103] := by
        rw [Lib.toList_data, ByteArray.data_extract, Array.toList_extract, q3]
        simp [List.extract, q4]
      clear q1 q2 q3 q4 HN HD
      go_wp2_with fail
      go_ret
      exact ⟨by rw [HEQ.out]; simp, HB.out⟩
end Go.Proofs.YtjhkfjbgdaomeaaGreatDoor
