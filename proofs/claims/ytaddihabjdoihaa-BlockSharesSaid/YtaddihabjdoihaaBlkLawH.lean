/- The law BlockShares. -/
import Derived.Test.YtaddihabjdoihaaBlkKeys
import Derived.Test.YtaddihabjdoihaaBlkBegun
import Derived.Test.YtaddihabjdoihaaByMake
import Derived.Deep.LoopGhost
namespace Go.Proofs.Ytaddihabjdoihaa
set_option linter.unusedVariables false
set_option maxRecDepth 100000
open Go.RowKit
/-- A text of n zeros. -/
def zB (n : Nat) : ByteArray := ⟨(List.replicate n (0 : UInt8)).toArray⟩
theorem zB_size (n : Nat) : (zB n).size = n := by show (List.replicate n (0 : UInt8)).toArray.size = n; simp
theorem zB_list (n : Nat) : (zB n).data.toList = List.replicate n 0 := rfl
theorem zB_conv (w : World) (K : Nat) (hK : K ≤ 1000000000000) :
    (convert 33 9 (.slice (some ⟨w.heap.size, 0, none⟩) K K)).run Try.prog (w.alloc (.cells (madeCells #[.int .u8 0] K) 5)) = .ok (.string (zB K)) (w.alloc (.cells (madeCells #[.int .u8 0] K) 5)) := (mkB_own w K hK).rd.text
theorem shares_bound {n K G : Nat} (hn : n ≤ 60) (hK : K ≤ 200) (hG : (n + 3) / 4 = G) : (blockB (rowsH (List.replicate K 0) [] n)).length ≤ G * (K + 4) + n * 10 + 4 := by
  have h := rowsH_small (List.replicate K 0) (by rw [List.length_replicate]; exact hK) n (by omega)
  have h2 := blockB_len (rowsH (List.replicate K 0) [] n)
  rw [List.length_replicate] at h
  rw [rowsH_len] at h2
  rw [hG] at h h2
  rw [Nat.mul_add]
  omega
set_option maxHeartbeats 8000000 in
theorem blockShares_walk (w : World) (z : Int) (hz : (Lit.int .i64 z).wf = true) (y : Int) (hy : (Lit.int .i64 y).wf = true) :
    Calls Try.prog 7 #[.int .i64 z, .int .i64 y] w fun e w' => e = .returned (.bool true) ∧ Below w.heap.size w w' := by
  have HBG := Lib.hid (bkBegun_any w)
  by_cases hq : z < 0 ∨ 60 < z ∨ y < 0 ∨ 200 < y
  · obtain ⟨q, hqq⟩ : ∃ q : Bool, q = true := ⟨true, rfl⟩
    by_cases h0 : z < 0
    · have hd : decide (z < 0) = true := decide_eq_true h0
      go_enter Try.func7, Try.ntmps7
      go_wp2_with fail
      refine HBG.out.mono ?_
      rintro e w2 ⟨rfl, hb⟩
      go_wp2_with fail
      go_ret
      exact ⟨rfl, hb⟩
    have hd0 : decide (z < 0) = false := decide_eq_false h0
    by_cases h1 : 60 < z
    · have hd : decide (60 < z) = true := decide_eq_true h1
      go_enter Try.func7, Try.ntmps7
      go_wp2_with fail
      refine HBG.out.mono ?_
      rintro e w2 ⟨rfl, hb⟩
      go_wp2_with fail
      go_ret
      exact ⟨rfl, hb⟩
    have hd1 : decide (60 < z) = false := decide_eq_false h1
    by_cases h2 : y < 0
    · have hd : decide (y < 0) = true := decide_eq_true h2
      go_enter Try.func7, Try.ntmps7
      go_wp2_with fail
      refine HBG.out.mono ?_
      rintro e w2 ⟨rfl, hb⟩
      go_wp2_with fail
      go_ret
      exact ⟨rfl, hb⟩
    have hd2 : decide (y < 0) = false := decide_eq_false h2
    have h3 : 200 < y := by omega
    have hd : decide (200 < y) = true := decide_eq_true h3
    go_enter Try.func7, Try.ntmps7
    go_wp2_with fail
    refine HBG.out.mono ?_
    rintro e w2 ⟨rfl, hb⟩
    go_wp2_with fail
    go_ret
    exact ⟨rfl, hb⟩
  obtain ⟨n, rfl⟩ : ∃ n : Nat, z = (n : Int) := ⟨z.toNat, by omega⟩
  obtain ⟨K, rfl⟩ : ∃ n : Nat, y = (n : Int) := ⟨y.toNat, by omega⟩
  have hn : n ≤ 60 := by omega
  have hK : K ≤ 200 := by omega
  have hd0 : decide ((n : Int) < 0) = false := decide_eq_false (by omega)
  have hd1 : decide (60 < (n : Int)) = false := decide_eq_false (by omega)
  have hd2 : decide ((K : Int) < 0) = false := decide_eq_false (by omega)
  have hd3 : decide (200 < (K : Int)) = false := decide_eq_false (by omega)
  have hmk := fun w => mkB_run K (by omega) w
  have HCZ := Lib.hid (fun w => zB_conv w K (by omega))
  obtain ⟨P, hP⟩ : ∃ P, zB K = P := ⟨_, rfl⟩
  obtain ⟨p, hp⟩ : ∃ p : List UInt8, List.replicate K 0 = p := ⟨_, rfl⟩
  have HPL : Hid (P.data.toList = p) := Lib.hid (by rw [← hP, ← hp]; rfl)
  have HPK : Hid (List.replicate K 0 = p) := Lib.hid hp
  have hPs : P.size = K := by rw [← hP]; exact zB_size K
  have hpl : p.length = K := by rw [← hp]; exact List.length_replicate
  have HPN := Lib.hid hpl
  rw [hP] at HCZ
  clear hP hp hpl
  go_enter Try.func7, Try.ntmps7
  go_wp2_with fail
  refine HBG.out.mono ?_
  rintro e w2 ⟨rfl, hb⟩
  have HB2 := Lib.hid hb
  have HNW := Lib.hid (bkNew_own hb)
  clear hb HBG hz hy hq
  go_wp2_with fail
  refine HNW.out.mono ?_
  rintro e w3 ⟨rfl, o3, -⟩
  have HO3 : Hid (BdOwn w w3 w2.heap.size (rowsH p [] 0)) := Lib.hid o3
  clear o3 HNW HB2 hd0 hd1 hd2 hd3
  generalize w2.heap.size = b at *
  have hcz := HCZ.out w3
  have hal : Below w3.heap.size w3 (w3.alloc (.cells (madeCells #[.int .u8 0] K) 5)) := (Below.refl _ _).alloc (Nat.le_refl _) _
  have HO4 := Lib.hid (HO3.out.below hal)
  clear hal HO3
  have hnI : (n : Int) ≤ 60 := by omega
  have hKI : (K : Int) ≤ 200 := by omega
  go_wp2_with fail
  clear hcz
  generalize w3.alloc (.cells (madeCells #[.int .u8 0] K) 5) = w4 at *
  clear hmk HCZ
  go_loopg [8] n (fun kk vi wr => ∃ i : Nat, vi = .int .i64 (i : Int) ∧ i ≤ n ∧ n - i ≤ kk ∧ Hid (BdOwn w wr b (rowsH p [] i)))
  case atStart => exact ⟨0, rfl, by omega, by omega, HO4⟩
  case round =>
    clear HO4
    obtain ⟨i, rfl, hi, hik, HO⟩ := hrel
    by_cases h1 : i < n
    · have hi1 : (i : Int) < (n : Int) := by omega
      have hiI : (i : Int) < 60 := by omega
      have hi0 : (0 : Int) ≤ (i : Int) := by omega
      have hcv := conv_two wr i (by omega)
      have hal : Below wr.heap.size wr (wr.alloc (.cells #[.int .u8 (97 + (i : Int) / 26), .int .u8 (97 + (i : Int) % 26)] 5)) := (Below.refl _ _).alloc (Nat.le_refl _) _
      have HOA := Lib.hid (HO.out.below hal)
      have hks : (keyB i).size = 2 := rfl
      have hcat : ¬ 9223372036854775807 < P.size + (keyB i).size := by rw [hPs]; rw [hks]; omega
      have hkl : (P ++ keyB i : ByteArray).data.toList = p ++ keyT i := by rw [ByteArray.data_append, Array.toList_append, HPL.out]; rfl
      have HADD := Lib.hid (add_own HOA.out (P ++ keyB i) ⟨#[]⟩ (by
        have h1 := rowsH_bd p [] i (by omega) (by rw [HPN.out]; omega) (by decide)
        have h2 : (P ++ keyB i : ByteArray).size = K + 2 := by rw [← size_toList, hkl, List.length_append, HPN.out]; rfl
        have h3 : (⟨#[]⟩ : ByteArray).size = 0 := rfl
        omega))
      rw [hkl, decide_eq_true (rowsH_ok p [] i (by omega)), show (⟨#[]⟩ : ByteArray).data.toList = [] from rfl, rowsH_add p [] i (by omega)] at HADD
      clear hal hkl HO
      generalize keyB i = X at *
      go_wp2_with fail
      refine HADD.out.mono ?_
      rintro e w5 ⟨rfl, o5, -⟩
      have HO5 := Lib.hid o5
      clear o5 HADD HOA hcv
      go_wp2_with fail
      go_roundg (n - (i + 1))
      case measure => omega
      case rel => exact ⟨i + 1, by go_num, by omega, Nat.le_refl _, HO5⟩
    · obtain rfl : i = n := by omega
      have hi1 : ¬ (i : Int) < (i : Int) := by omega
      have HSZ : Hid ((bodyB 0 [] (rowsH p [] i)).length ≤ 1000000000) := Lib.hid (by have := rowsH_bd p [] i (by omega) (by rw [HPN.out]; omega) (by decide); omega)
      have HBY := Lib.hid (bytes_own HO.out HSZ.out)
      have HBL : Hid ((blockB (rowsH p [] i)).length ≤ 200000) := Lib.hid (rowsH_block p [] i (by omega) (by rw [HPN.out]; omega) (by decide))
      have HRC : Hid (readCk (blockB (rowsH p [] i)) = some (rowsH p [] i)) := Lib.hid (readC_lay (rowsH_rise _ _ i (by omega)) (by have := HBL.out; omega))
      obtain ⟨G, hG⟩ : ∃ G, (i + 3) / 4 = G := ⟨_, rfl⟩
      obtain ⟨S, hS⟩ : ∃ S, (blockB (rowsH p [] i)).length = S := ⟨_, rfl⟩
      have hGi : ((i : Int) + 3) / 4 = (G : Int) := by omega
      have hG0 : G ≤ 15 := by omega
      have HSB : Hid (S ≤ G * (K + 4) + i * 10 + 4) := Lib.hid (by rw [← hS, ← HPK.out]; exact shares_bound hn hK hG)
      obtain ⟨T, hT⟩ : ∃ T, G * (K + 4) = T := ⟨_, rfl⟩
      have hTi : (G : Int) * ((K : Int) + 4) = (T : Int) := by rw [← hT]; simp
      have hTb : T ≤ 15 * 204 := by rw [← hT]; exact Nat.mul_le_mul hG0 (by omega)
      have hfin : (S : Int) ≤ (T : Int) + (i : Int) * 10 + 4 := by have := HSB.out; rw [hT] at this; omega
      have HSZ2 : Hid (∀ W, BdOwn w W b (rowsH p [] i) → Calls Try.prog 16 #[.pointer (some ⟨b, 0, none⟩)] W fun e w' => e = .returned (.int .i64 (S : Int)) ∧ DrN W w') := Lib.hid fun W h => by rw [← hS]; exact size_own h HSZ.out
      have HLN : Hid ((rowsH p [] i).length = i) := Lib.hid (rowsH_len _ _ _)
      clear h1 hG hS hT
      go_wp2_with fail
      refine HBY.out.mono ?_
      rintro e w5 ⟨v5, rfl, x5, b5⟩
      have HO5 := Lib.hid (HO.out.below b5)
      have HR := Lib.hid (bkRead_any v5 _ (by have := HBL.out; omega) w5 x5.rd)
      rw [HRC.out] at HR
      unfold BkReadRes at HR
      simp only [Option.isSome_some, Option.getD_some, if_true] at HR
      obtain ⟨a5, n5, c5, rfl, -⟩ := x5.form
      clear HBY x5 b5 HO
      go_wp2_with fail
      refine HR.out.mono ?_
      rintro e w6 ⟨v6, rfl, x6, b6⟩
      have HO6 := Lib.hid (HO5.out.below b6)
      obtain ⟨a6, c6, rfl, -⟩ := x6.kform
      rw [HLN.out]
      clear HR x6 b6 HO5
      go_wp2_with fail
      refine (HSZ2.out _ HO6.out).mono ?_
      rintro e w7 ⟨rfl, d7⟩
      have HB7 := Lib.hid (HO6.out.1.trans (d7.below _))
      clear d7
      go_wp2_with fail
      go_ret
      exact ⟨rfl, HB7.out⟩
end Go.Proofs.Ytaddihabjdoihaa
