/- The laws' begun: two rows. -/
import Derived.Test.YtaddihabjdoihaaBdOwn
import Derived.Test.YtaddihabjdoihaaShell
namespace Go.Proofs.Ytaddihabjdoihaa
set_option linter.unusedVariables false
set_option maxRecDepth 100000
open Go.RowKit
def bgA : Kv := ⟨[97, 98], [49]⟩
def bgB : Kv := ⟨[97, 99], [50]⟩
def bgC : Kv := ⟨[97, 98], [51]⟩
theorem bg_k1 : decide (addOk [] bgA.k) = true ∧ addK [] bgA = [bgA] ∧ (bodyB 0 [] []).length = 0 := ⟨by decide, rfl, rfl⟩
theorem bg_k2 : addOk [bgA] bgB.k := .inr (by show ([97, 98] : List UInt8) < [97, 99]; decide)
theorem bg_k3 : ¬ addOk [bgA, bgB] bgC.k := by
  rintro (h | h)
  · cases h
  · revert h
    show ¬ ([97, 99] : List UInt8) < [97, 98]
    decide
theorem bg_rise : RiseK [bgA, bgB] := rise_snoc (rs := [bgA]) (List.pairwise_singleton _ _) bg_k2
theorem bg_len : (blockB [bgA, bgB]).length = 19 := by decide +kernel
theorem bg_body : (bodyB 0 [] [bgA]).length ≤ 100 ∧ (bodyB 0 [] [bgA, bgB]).length ≤ 100 := by decide +kernel
theorem bg_read : readCk (blockB [bgA, bgB]) = some [bgA, bgB] := readC_lay bg_rise (by rw [bg_len]; decide)
theorem bg_seek : seekK [bgA, bgB] [97, 98, 99] = 1 := by decide +kernel
set_option maxHeartbeats 8000000 in
theorem bkBegun_any (w : World) : Calls Try.prog 8 #[] w fun e w' => e = .returned (.bool true) ∧ Below w.heap.size w w' := by
  have HN := Lib.hid (bkNew_own (w0 := w) (Below.refl _ w))
  go_enter Try.func8, Try.ntmps8
  go_wp2_with fail
  refine HN.out.mono ?_
  rintro e w1 ⟨rfl, o1, -⟩
  have HA1 := Lib.hid (add_own o1 ⟨#[97, 98]⟩ ⟨#[49]⟩ (by rw [bg_k1.2.2]; decide))
  rw [show decide (addOk [] (⟨#[97, 98]⟩ : ByteArray).data.toList) = true from bg_k1.1, show addK [] ⟨(⟨#[97, 98]⟩ : ByteArray).data.toList, (⟨#[49]⟩ : ByteArray).data.toList⟩ = [bgA] from bg_k1.2.1] at HA1
  clear HN o1
  generalize w.heap.size = b at *
  go_wp2_with fail
  refine HA1.out.mono ?_
  rintro e w2 ⟨rfl, o2, -⟩
  have HA2 := Lib.hid (add_own o2 ⟨#[97, 99]⟩ ⟨#[50]⟩ (by have := bg_body.1; have e1 : (⟨#[97, 99]⟩ : ByteArray).size = 2 := rfl; have e2 : (⟨#[50]⟩ : ByteArray).size = 1 := rfl; omega))
  rw [show decide (addOk [bgA] (⟨#[97, 99]⟩ : ByteArray).data.toList) = true from decide_eq_true bg_k2, show addK [bgA] ⟨(⟨#[97, 99]⟩ : ByteArray).data.toList, (⟨#[50]⟩ : ByteArray).data.toList⟩ = [bgA, bgB] from if_pos bg_k2] at HA2
  clear HA1 o2
  go_wp2_with fail
  refine HA2.out.mono ?_
  rintro e w3 ⟨rfl, o3, -⟩
  have HA3 := Lib.hid (add_own o3 ⟨#[97, 98]⟩ ⟨#[51]⟩ (by have := bg_body.2; have e1 : (⟨#[97, 98]⟩ : ByteArray).size = 2 := rfl; have e2 : (⟨#[51]⟩ : ByteArray).size = 1 := rfl; omega))
  rw [show decide (addOk [bgA, bgB] (⟨#[97, 98]⟩ : ByteArray).data.toList) = false from decide_eq_false bg_k3, show addK [bgA, bgB] ⟨(⟨#[97, 98]⟩ : ByteArray).data.toList, (⟨#[51]⟩ : ByteArray).data.toList⟩ = [bgA, bgB] from if_neg bg_k3] at HA3
  clear HA2 o3
  go_wp2_with fail
  refine HA3.out.mono ?_
  rintro e w4 ⟨rfl, o4, -⟩
  have HO4 := Lib.hid o4
  have hsz : (bodyB 0 [] [bgA, bgB]).length ≤ 1000000000 := by have := bg_body.2; omega
  have HSZ := Lib.hid hsz
  have HY := Lib.hid (bytes_own o4 hsz)
  clear HA3 o4 hsz
  go_wp2_with fail
  refine HY.out.mono ?_
  rintro e w5 ⟨v5, rfl, x5, b5⟩
  have HO5 := Lib.hid (HO4.out.below b5)
  have HR := Lib.hid (bkRead_any v5 _ (by rw [bg_len]; decide) w5 x5.rd)
  rw [bg_read] at HR
  unfold BkReadRes at HR
  simp only [Option.isSome_some, Option.getD_some, if_true] at HR
  obtain ⟨a5, n5, c5, rfl, -⟩ := x5.form
  clear HY x5 b5 HO4
  go_wp2_with fail
  refine HR.out.mono ?_
  rintro e w6 ⟨v6, rfl, x6, b6⟩
  have HO6 := Lib.hid (HO5.out.below b6)
  have HX6 := Lib.hid (x6.rd encKv_len)
  obtain ⟨a6, c6, rfl, -⟩ := x6.kform
  have HY := Lib.hid (bytes_own HO6.out HSZ.out)
  clear HR x6 b6 HO5
  rw [show ([bgA, bgB] : List Kv).length = 2 from rfl] at HX6 ⊢
  go_wp2_with fail
  refine HY.out.mono ?_
  rintro e w7 ⟨v7, rfl, x7, b7⟩
  have HO7 := Lib.hid (HO6.out.below b7)
  have HX7 := Lib.hid (HX6.out.below b7)
  have HS := Lib.hid (seek_any v7 _ (by rw [bg_len]; decide) ⟨#[97, 98, 99]⟩ w7 x7.rd)
  rw [bg_read] at HS
  unfold SeekRes at HS
  simp only [Option.isSome_some, if_true] at HS
  rw [show seekK [bgA, bgB] (⟨#[97, 98, 99]⟩ : ByteArray).data.toList = 1 from bg_seek] at HS
  obtain ⟨a7, n7, c7, rfl, -⟩ := x7.form
  clear HY x7 b7 HO6 HX6
  go_wp2_with fail
  refine HS.out.mono ?_
  rintro e w8 ⟨rfl, b8⟩
  have HO8 := Lib.hid (HO7.out.below b8)
  have HX8 := Lib.hid (HX7.out.below b8)
  have HZ := Lib.hid (size_own HO8.out HSZ.out)
  rw [bg_len] at HZ
  obtain ⟨b1, o1, rfl, hb1, d0, d1⟩ := HX8.out.at2 1 bgB rfl
  have hd0 : w8.cell? ⟨b1, o1 + 1 * 2, none⟩ = some (.string ⟨#[97, 99]⟩) := d0
  clear d0 d1 HS b8 HO7 HX7
  go_wp2_with fail
  refine HZ.out.mono ?_
  rintro e w9 ⟨rfl, d9⟩
  have hB := HO8.out.1.trans (d9.below _)
  go_wp2_with fail
  go_ret
  exact ⟨rfl, hB⟩
end Go.Proofs.Ytaddihabjdoihaa
