/- The walks of table's Get, All, From on no table. -/
import Derived.Test.YtennpdhnjaemeaaDoorMTblD
namespace Go.Proofs.YtennpdhnjaemeaaDoor
set_option linter.unusedVariables false
set_option maxRecDepth 100000
open Go.RowKit
theorem tall_nil (w : World) : Calls Tryd.prog 16 #[.pointer none] w fun en w' => en = .returned (.tuple #[.slice none 0 0, .int .i64 11]) ∧ Below w.heap.size w w' := by
  have HO := Lib.hid (isopen_nil w)
  go_enter Tryd.func16, Tryd.ntmps16
  go_wp2_with fail
  refine HO.out.mono ?_
  rintro e w' ⟨rfl, rfl⟩
  go_wp2_with fail
  go_ret2
  exact ⟨rfl, Below.refl _ _⟩
theorem tfrom_nil (n : ByteArray) (w : World) : Calls Tryd.prog 22 #[.pointer none, .string n] w fun en w' => en = .returned (.tuple #[.slice none 0 0, .int .i64 11]) ∧ Below w.heap.size w w' := by
  have HO := Lib.hid isopen_nil
  have HB : Hid (Below w.heap.size w (w.alloc (.cells #[.string n] 9))) := Lib.hid ((Below.refl _ w).alloc (Nat.le_refl _) _)
  go_enter Tryd.func22, Tryd.ntmps22
  go_wp2_with fail
  refine (HO.out _).mono ?_
  rintro e w' ⟨rfl, rfl⟩
  go_wp2_with fail
  go_ret2
  exact ⟨rfl, HB.out⟩
set_option maxHeartbeats 2000000 in
theorem tget_nil (n : ByteArray) (q : Int) (w : World) : Calls Tryd.prog 23 #[.pointer none, .string n, .int .i64 q] w fun en w' => en = .returned (.tuple #[.agg #[.string ⟨#[]⟩, .int .i64 0, .int .i64 0, .string ⟨#[]⟩, .string ⟨#[]⟩], .bool false, .int .i64 11]) ∧ Below w.heap.size w w' := by
  have HO := Lib.hid isopen_nil
  go_enter Tryd.func23, Tryd.ntmps23
  go_upto_region 1 with fail
  have hbk : BlkAt (w.alloc (.cells #[.string ⟨#[]⟩, .int .i64 0, .int .i64 0, .string ⟨#[]⟩, .string ⟨#[]⟩] 39)) w.heap.size #[.string ⟨#[]⟩, .int .i64 0, .int .i64 0, .string ⟨#[]⟩, .string ⟨#[]⟩] 39 := BlkAt.new _ _ _
  have hb1 : Below w.heap.size w (w.alloc (.cells #[.string ⟨#[]⟩, .int .i64 0, .int .i64 0, .string ⟨#[]⟩, .string ⟨#[]⟩] 39)) := (Below.refl _ w).alloc (Nat.le_refl _) _
  obtain ⟨w1, hw1⟩ : ∃ x, w.alloc (.cells #[.string ⟨#[]⟩, .int .i64 0, .int .i64 0, .string ⟨#[]⟩, .string ⟨#[]⟩] 39) = x := ⟨_, rfl⟩
  rw [hw1] at hbk hb1 ⊢
  have HB1 := Lib.hid hb1
  obtain ⟨c0, c1, c2, c3, c4⟩ := blk5 hbk
  have f0 := BlkAt.free hbk 0
  have f1 := BlkAt.free hbk 1
  have f2 := BlkAt.free hbk 2
  have f3 := BlkAt.free hbk 3
  have f4 := BlkAt.free hbk 4
  have hbl := BlkAt.lt hbk
  clear hbk hb1 hw1
  go_wp2_with fail
  refine (HO.out _).mono ?_
  rintro e w' ⟨rfl, rfl⟩
  go_wp2_with fail
  refine bodyPost_ret (v := .tuple #[.agg #[.string ⟨#[]⟩, .int .i64 0, .int .i64 0, .string ⟨#[]⟩, .string ⟨#[]⟩], .bool false, .int .i64 11]) (by simp [results, Tryd.results23, go_sem, c0, c1, c2, c3, c4]) rfl ⟨rfl, ?_⟩
  iterate 5 refine Below.setCell ?_ (by simp) _
  exact HB1.out
end Go.Proofs.YtennpdhnjaemeaaDoor
