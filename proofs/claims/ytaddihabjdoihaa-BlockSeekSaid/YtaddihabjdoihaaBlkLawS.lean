/- The laws BlockSeek, BlockShares. -/
import Derived.Test.YtaddihabjdoihaaBlkKeys
import Derived.Test.YtaddihabjdoihaaBlkBegun
import Derived.Deep.LoopGhost
namespace Go.Proofs.Ytaddihabjdoihaa
set_option linter.unusedVariables false
set_option maxRecDepth 100000
open Go.RowKit
set_option maxHeartbeats 8000000 in
theorem blockSeek_walk (w : World) (z : Int) (hz : (Lit.int .i64 z).wf = true) :
    Calls Try.prog 6 #[.int .i64 z] w fun e w' => e = .returned (.bool true) ∧ Below w.heap.size w w' := by
  have HBG := Lib.hid (bkBegun_any w)
  by_cases h0 : z < 0
  · have hd : decide (z < 0) = true := decide_eq_true h0
    go_enter Try.func6, Try.ntmps6
    go_wp2_with fail
    refine HBG.out.mono ?_
    rintro e w2 ⟨rfl, hb⟩
    go_wp2_with fail
    go_ret
    exact ⟨rfl, hb⟩
  by_cases h3 : 100 < z
  · have hd : decide (z < 0) = false := decide_eq_false h0
    have hd3 : decide (100 < z) = true := decide_eq_true h3
    go_enter Try.func6, Try.ntmps6
    go_wp2_with fail
    refine HBG.out.mono ?_
    rintro e w2 ⟨rfl, hb⟩
    go_wp2_with fail
    go_ret
    exact ⟨rfl, hb⟩
  obtain ⟨n, rfl⟩ : ∃ n : Nat, z = (n : Int) := ⟨z.toNat, by omega⟩
  have hn : n ≤ 100 := by omega
  have hd : decide ((n : Int) < 0) = false := decide_eq_false h0
  have hd3 : decide (100 < (n : Int)) = false := decide_eq_false h3
  go_enter Try.func6, Try.ntmps6
  go_wp2_with fail
  refine HBG.out.mono ?_
  rintro e w2 ⟨rfl, hb⟩
  have HB2 := Lib.hid hb
  have HNW := Lib.hid (bkNew_own hb)
  clear hb HBG hz h0 h3
  go_wp2_with fail
  refine HNW.out.mono ?_
  rintro e w3 ⟨rfl, o3, -⟩
  have HO3 : Hid (BdOwn w w3 w2.heap.size (rowsH [107, 101, 121] [118] 0)) := Lib.hid o3
  clear o3 HNW HB2 hd hd3
  generalize w2.heap.size = b at *
  have hnI : (n : Int) ≤ 100 := by omega
  go_wp2_with fail
  go_loopg [5] n (fun kk vi wr => ∃ i : Nat, vi = .int .i64 (i : Int) ∧ i ≤ n ∧ n - i ≤ kk ∧ Hid (BdOwn w wr b (rowsH [107, 101, 121] [118] i)))
  case atStart => exact ⟨0, rfl, by omega, by omega, HO3⟩
  case round =>
    clear HO3
    obtain ⟨i, rfl, hi, hik, HO⟩ := hrel
    by_cases h1 : i < n
    · have hi1 : (i : Int) < (n : Int) := by omega
      have hiI : (i : Int) < 100 := by omega
      have hi0 : (0 : Int) ≤ (i : Int) := by omega
      have hcv := conv_two wr i (by omega)
      have hal : Below wr.heap.size wr (wr.alloc (.cells #[.int .u8 (97 + (i : Int) / 26), .int .u8 (97 + (i : Int) % 26)] 5)) := (Below.refl _ _).alloc (Nat.le_refl _) _
      have HOA := Lib.hid (HO.out.below hal)
      have hks : (keyB i).size = 2 := rfl
      have hkl : (⟨#[107, 101, 121]⟩ ++ keyB i : ByteArray).data.toList = [107, 101, 121] ++ keyT i := by rw [ByteArray.data_append, Array.toList_append]; rfl
      have HADD := Lib.hid (add_own HOA.out (⟨#[107, 101, 121]⟩ ++ keyB i) ⟨#[118]⟩ (by
        have h1 := rowsH_bd [107, 101, 121] [118] i (by omega) (by decide) (by decide)
        have h2 : (⟨#[107, 101, 121]⟩ ++ keyB i : ByteArray).size = 5 := by rw [← size_toList, hkl]; rfl
        have h3 : (⟨#[118]⟩ : ByteArray).size = 1 := rfl
        omega))
      rw [hkl, decide_eq_true (rowsH_ok [107, 101, 121] [118] i (by omega)), show (⟨#[118]⟩ : ByteArray).data.toList = [118] from rfl, rowsH_add [107, 101, 121] [118] i (by omega)] at HADD
      clear hal hkl HO
      generalize keyB i = X at *
      go_wp2_with fail
      refine HADD.out.mono ?_
      rintro e w4 ⟨rfl, o4, -⟩
      have HO4 := Lib.hid o4
      clear o4 HADD HOA hcv
      go_wp2_with fail
      go_roundg (n - (i + 1))
      case measure => omega
      case rel => exact ⟨i + 1, by go_num, by omega, Nat.le_refl _, HO4⟩
    · obtain rfl : i = n := by omega
      have hi1 : ¬ (i : Int) < (i : Int) := by omega
      have HBY := Lib.hid (bytes_own HO.out (by have := rowsH_bd [107, 101, 121] [118] i (by omega) (by decide) (by decide); omega))
      have HBL : Hid ((blockB (rowsH [107, 101, 121] [118] i)).length ≤ 200000) := Lib.hid (rowsH_block [107, 101, 121] [118] i (by omega) (by decide) (by decide))
      have HRC : Hid (readCk (blockB (rowsH [107, 101, 121] [118] i)) = some (rowsH [107, 101, 121] [118] i)) := Lib.hid (readC_lay (rowsH_rise _ _ i (by omega)) (by have := HBL.out; omega))
      have HB := Lib.hid HO.out.1
      clear HO h1
      go_wp2_with fail
      refine HBY.out.mono ?_
      rintro e w5 ⟨v5, rfl, x5, b5⟩
      obtain ⟨a5, n5, c5, rfl, -⟩ := x5.form
      have HX5 := Lib.hid (x5.base HB.out.size)
      have HB5 := Lib.hid (HB.out.trans (b5.mono HB.out.size))
      clear x5 b5 HBY HB
      generalize blockB (rowsH [107, 101, 121] [118] i) = bs at *
      go_wp2_with fail
      go_loopg [7] (i + 1) (fun kk vj wr => ∃ j : Nat, vj = .int .i64 (j : Int) ∧ j ≤ i + 1 ∧ i + 1 - j ≤ kk ∧ Hid (OwnB w.heap.size wr (.slice a5 n5 c5) bs) ∧ Hid (Below w.heap.size w wr))
      case atStart => exact ⟨0, rfl, by omega, by omega, HX5, HB5⟩
      case round =>
        clear HX5 HB5
        obtain ⟨j, rfl, hj, hjk, HX, HB⟩ := hrel
        by_cases h2 : j < i + 1
        · have hj1 : ¬ (i : Int) < (j : Int) := by omega
          have hj2 : (j : Int) ≤ (i : Int) := by omega
          have hjI : (j : Int) ≤ 100 := by omega
          have hj0 : (0 : Int) ≤ (j : Int) := by omega
          have hcv := conv_two wr j (by omega)
          have hal : Below wr.heap.size wr (wr.alloc (.cells #[.int .u8 (97 + (j : Int) / 26), .int .u8 (97 + (j : Int) % 26)] 5)) := (Below.refl _ _).alloc (Nat.le_refl _) _
          have HX6 := Lib.hid (HX.out.below hal)
          have HB6 := Lib.hid (HB.out.trans (hal.mono HB.out.size))
          have hks : (keyB j).size = 2 := rfl
          have hkl : (⟨#[107, 101, 121]⟩ ++ keyB j : ByteArray).data.toList = [107, 101, 121] ++ keyT j := by rw [ByteArray.data_append, Array.toList_append]; rfl
          have hks5 : (⟨#[107, 101, 121]⟩ ++ keyB j : ByteArray).size = 5 := by rw [← size_toList, hkl]; rfl
          have hkl2 : ((⟨#[107, 101, 121]⟩ ++ keyB j) ++ ⟨#[120]⟩ : ByteArray).data.toList = [107, 101, 121] ++ (keyT j ++ [120]) := by rw [ByteArray.data_append, Array.toList_append, hkl, List.append_assoc]
          have HS1 := Lib.hid (seek_any (.slice a5 n5 c5) bs (by have := HBL.out; omega) (⟨#[107, 101, 121]⟩ ++ keyB j) (wr.alloc (.cells #[.int .u8 (97 + (j : Int) / 26), .int .u8 (97 + (j : Int) % 26)] 5)) HX6.out.rd)
          rw [HRC.out, hkl] at HS1
          unfold SeekRes at HS1
          simp only [Option.isSome_some, if_true] at HS1
          rw [rowsH_seek [107, 101, 121] [118] i j (by omega) (by omega)] at HS1
          have HS2 : Hid (∀ W : World, Below w.heap.size w W → RdB W (.slice a5 n5 c5) bs → Calls Try.prog 14 #[.slice a5 n5 c5, .string ((⟨#[107, 101, 121]⟩ ++ keyB j) ++ ⟨#[120]⟩)] W fun e w' => e = .returned (.tuple #[.int .i64 ((min (j + 1) i : Nat) : Int), .int .i64 0]) ∧ Below W.heap.size W w') := Lib.hid fun W hW hr => by
            have := seek_any (.slice a5 n5 c5) bs (by have := HBL.out; omega) ((⟨#[107, 101, 121]⟩ ++ keyB j) ++ ⟨#[120]⟩) W hr
            rw [HRC.out, hkl2] at this
            unfold SeekRes at this
            simp only [Option.isSome_some, if_true] at this
            rw [rowsH_seekx [107, 101, 121] [118] i j (by omega) (by omega)] at this
            exact this
          have HCV : Hid (∀ W : World, (convert 33 9 (.slice (some ⟨W.heap.size, 0, none⟩) 2 2)).run Try.prog (W.alloc (.cells #[.int .u8 (97 + (j : Int) / 26), .int .u8 (97 + (j : Int) % 26)] 5)) = .ok (.string (keyB j)) (W.alloc (.cells #[.int .u8 (97 + (j : Int) / 26), .int .u8 (97 + (j : Int) % 26)] 5))) := Lib.hid fun W => conv_two W j (by omega)
          obtain ⟨mm, hmm⟩ : ∃ m, min (j + 1) i = m := ⟨_, rfl⟩
          have hmi : min (j : Int) (i : Int) = (j : Int) := by omega
          have hmi2 : min ((j : Int) + 1) (i : Int) = (mm : Int) := by omega
          rw [hmm] at HS2
          clear hal hkl hkl2 hmm HX HB
          generalize keyB j = X at *
          go_wp2_with fail
          refine HS1.out.mono ?_
          rintro e w7 ⟨rfl, b7⟩
          have HX7 := Lib.hid (HX6.out.below b7)
          have HB7 := Lib.hid (HB6.out.trans (b7.mono HB6.out.size))
          clear b7 HS1 HX6 HB6 hcv
          have hcv := HCV.out w7
          have hal : Below w7.heap.size w7 (w7.alloc (.cells #[.int .u8 (97 + (j : Int) / 26), .int .u8 (97 + (j : Int) % 26)] 5)) := (Below.refl _ _).alloc (Nat.le_refl _) _
          have HX8 := Lib.hid (HX7.out.below hal)
          have HB8 := Lib.hid (HB7.out.trans (hal.mono HB7.out.size))
          clear hal HX7 HB7
          go_wp2_with fail
          refine (HS2.out _ HB8.out HX8.out.rd).mono ?_
          rintro e w9 ⟨rfl, b9⟩
          have HX9 := Lib.hid (HX8.out.below b9)
          have HB9 := Lib.hid (HB8.out.trans (b9.mono HB8.out.size))
          clear b9 HS2 HX8 HB8 hcv HCV
          go_wp2_with fail
          go_roundg (i + 1 - (j + 1))
          case measure => omega
          case rel => exact ⟨j + 1, by go_num, by omega, Nat.le_refl _, HX9, HB9⟩
        · have hj1 : (i : Int) < (j : Int) := by omega
          have HS0 := Lib.hid (seek_any (.slice a5 n5 c5) bs (by have := HBL.out; omega) ⟨#[]⟩ wr HX.out.rd)
          rw [HRC.out] at HS0
          unfold SeekRes at HS0
          simp only [Option.isSome_some, if_true] at HS0
          rw [show seekK (rowsH [107, 101, 121] [118] i) (⟨#[]⟩ : ByteArray).data.toList = 0 from seek_nil _] at HS0
          go_wp2_with fail
          refine HS0.out.mono ?_
          rintro e w7 ⟨rfl, b7⟩
          have HB7 := Lib.hid (HB.out.trans (b7.mono HB.out.size))
          clear b7 HS0
          go_wp2_with fail
          go_ret
          exact ⟨rfl, HB7.out⟩
end Go.Proofs.Ytaddihabjdoihaa
