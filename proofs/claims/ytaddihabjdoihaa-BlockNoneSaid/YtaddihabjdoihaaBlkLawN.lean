/- The law BlockNone: no builder; no rows. -/
import Derived.Test.YtaddihabjdoihaaBlkBegun
namespace Go.Proofs.Ytaddihabjdoihaa
set_option linter.unusedVariables false
set_option maxRecDepth 100000
open Go.RowKit
theorem add_nil (k v : ByteArray) (w : World) : Calls Try.prog 11 #[.pointer none, .string k, .string v] w fun e w' => e = .returned (.bool false) ∧ DrN w w' := by
  go_enter Try.func11, Try.ntmps11
  go_wp2_with fail
  go_quiet (fail)
  generalize hw2 : w.drewN nq = w2
  have hd : DrN w w2 := ⟨nq, hw2.symm⟩
  go_wp2_with fail
  go_ret
  exact ⟨rfl, hd⟩
theorem bkRead_none : readCk (blockB []) = some [] := readC_lay List.Pairwise.nil (by decide)
theorem read_nil : readCk [] = none := rfl
set_option maxHeartbeats 4000000 in
theorem blockNone_walk (w : World) : Calls Try.prog 5 #[] w fun e w' => e = .returned (.bool true) ∧ Below w.heap.size w w' := by
  have HN := Lib.hid (bkNew_own (w0 := w) (Below.refl _ w))
  go_enter Try.func5, Try.ntmps5
  go_wp2_with fail
  refine HN.out.mono ?_
  rintro e w1 ⟨rfl, o1, -⟩
  have HB1 := Lib.hid o1.1
  have HY := Lib.hid (bytes_own o1 (by decide))
  clear HN o1
  go_wp2_with fail
  refine HY.out.mono ?_
  rintro e w2 ⟨v2, rfl, x2, b2⟩
  have HR := Lib.hid (bkRead_any v2 _ (by decide) w2 x2.rd)
  rw [bkRead_none] at HR
  unfold BkReadRes at HR
  simp only [Option.isSome_some, Option.getD_some, if_true] at HR
  obtain ⟨a2, n2, c2, rfl, -⟩ := x2.form
  have HB2 := Lib.hid (HB1.out.trans (b2.mono HB1.out.size))
  clear HY x2 b2 HB1
  go_wp2_with fail
  refine HR.out.mono ?_
  rintro e w3 ⟨v3, rfl, x3, b3⟩
  obtain ⟨a3, c3, rfl, -⟩ := x3.kform
  have HB3 := Lib.hid (HB2.out.trans (b3.mono HB2.out.size))
  have HS := Lib.hid (bkRead_any (.slice none 0 0) [] (by decide) w3 (RdB.nil _ _ _))
  rw [read_nil] at HS
  unfold BkReadRes at HS
  simp only [Option.isSome_none, Option.getD_none, Bool.false_eq_true, if_false] at HS
  clear HR x3 b3 HB2
  go_wp2_with fail
  refine HS.out.mono ?_
  rintro e w4 ⟨v4, rfl, x4, b4⟩
  obtain ⟨a4, c4, rfl, -⟩ := x4.kform
  have HB4 := Lib.hid (HB3.out.trans (b4.mono HB3.out.size))
  clear HS x4 b4 HB3
  go_wp2_with fail
  refine (bkBegun_any _).mono ?_
  rintro e w5 ⟨rfl, b5⟩
  have HB5 := Lib.hid (HB4.out.trans (b5.mono HB4.out.size))
  clear b5 HB4
  go_wp2_with fail
  refine (add_nil _ _ _).mono ?_
  rintro e w6 ⟨rfl, d6⟩
  have HB6 := Lib.hid (HB5.out.trans (d6.below _))
  clear d6 HB5
  go_wp2_with fail
  refine (size_nil _).mono ?_
  rintro e w7 ⟨rfl, rfl⟩
  go_wp2_with fail
  refine (bytes_nil _).mono ?_
  rintro e w8 ⟨rfl, rfl⟩
  go_wp2_with fail
  go_ret
  exact ⟨rfl, HB6.out⟩
end Go.Proofs.Ytaddihabjdoihaa
