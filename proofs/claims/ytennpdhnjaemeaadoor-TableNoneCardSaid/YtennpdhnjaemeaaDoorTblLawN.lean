/- The walk of the law TableNone. -/
import Derived.Test.YtennpdhnjaemeaaDoorTblNil
import Derived.Test.YtennpdhnjaemeaaDoorTblBeg
namespace Go.Proofs.YtennpdhnjaemeaaDoor
set_option linter.unusedVariables false
set_option maxRecDepth 100000
open Go.RowKit
set_option maxHeartbeats 8000000 in
theorem tableNone_walk (w : World) (ht : TabAt w) : Calls Tryd.prog 6 #[] w fun e w' => e = .returned (.bool true) ∧ Below w.heap.size w w' := by
  have HT := Lib.hid ht
  have HG := Lib.hid (tget_nil ⟨#[97]⟩ 1 w)
  have HA := Lib.hid tall_nil
  have HF := Lib.hid (tfrom_nil ⟨#[97]⟩)
  have HL := Lib.hid tlen_nil
  have HK := Lib.hid tblocks_nil
  clear ht
  go_enter Tryd.func6, Tryd.ntmps6
  go_wp2_with fail
  refine HG.out.mono ?_
  rintro e w1 ⟨rfl, b1⟩
  have HB1 := Lib.hid b1
  clear b1 HG
  go_upto_region 3 with fail
  have hb2 := HB1.out.alloc HB1.out.size (.cells #[.string ⟨#[]⟩, .int .i64 0, .int .i64 0, .string ⟨#[]⟩, .string ⟨#[]⟩] 39)
  obtain ⟨w2, hw2⟩ : ∃ x, w1.alloc (.cells #[.string ⟨#[]⟩, .int .i64 0, .int .i64 0, .string ⟨#[]⟩, .string ⟨#[]⟩] 39) = x := ⟨_, rfl⟩
  rw [hw2] at hb2 ⊢
  have HB2 := Lib.hid hb2
  clear hb2 hw2 HB1
  go_wp2_with fail
  refine (HA.out _).mono ?_
  rintro e w3 ⟨rfl, b3⟩
  have HB3 := Lib.hid (HB2.out.trans (b3.mono HB2.out.size))
  clear b3 HB2
  go_wp2_with fail
  refine (HF.out _).mono ?_
  rintro e w4 ⟨rfl, b4⟩
  have HB4 := Lib.hid (HB3.out.trans (b4.mono HB3.out.size))
  have HO := Lib.hid (open_no (.slice none 0 0) [] apart_nil w4 (HT.out.below HB4.out) (RdB.nil _ _ _))
  clear b4 HB3
  go_wp2_with fail
  refine HO.out.mono ?_
  rintro e w5 ⟨rfl, b5⟩
  have HB5 := Lib.hid (HB4.out.trans (b5.mono HB4.out.size))
  have HBG := Lib.hid (tbegun_any w5 (HT.out.below HB5.out))
  clear b5 HB4 HO
  go_wp2_with fail
  refine HBG.out.mono ?_
  rintro e w6 ⟨rfl, b6⟩
  have HB6 := Lib.hid (HB5.out.trans (b6.mono HB5.out.size))
  clear b6 HB5 HBG
  go_wp2_with fail
  refine (HL.out _).mono ?_
  rintro e w' ⟨rfl, rfl⟩
  go_wp2_with fail
  refine (HK.out _).mono ?_
  rintro e w' ⟨rfl, rfl⟩
  go_wp2_with fail
  go_ret
  exact ⟨rfl, HB6.out⟩
end Go.Proofs.YtennpdhnjaemeaaDoor
