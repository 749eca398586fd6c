/- The walk of the law WalNone. -/
import Derived.Test.YtjhkfjbgdaomeaaGreatDoorWalBeg
namespace Go.Proofs.YtjhkfjbgdaomeaaGreatDoor
set_option linter.unusedVariables false
open Go.RowKit Go.Maps
theorem nilLog_app (s : Int) (v : Value) (w : World) : Calls Tryz.prog 12 #[.pointer none, .int .i64 s, v] w fun e w' => e = .returned (.int .i64 11) ∧ w' = w := by
  go_enter Tryz.func12, Tryz.ntmps12
  go_wp2
  go_ret
  exact ⟨rfl, rfl⟩
theorem nilLog_sync (w : World) : Calls Tryz.prog 15 #[.pointer none] w fun e w' => e = .returned (.int .i64 11) ∧ w' = w := by
  go_enter Tryz.func15, Tryz.ntmps15
  go_wp2
  go_ret
  exact ⟨rfl, rfl⟩
theorem nilLog_size (w : World) : Calls Tryz.prog 17 #[.pointer none] w fun e w' => e = .returned (.int .i64 0) ∧ w' = w := by
  go_enter Tryz.func17, Tryz.ntmps17
  go_wp2
  go_ret
  exact ⟨rfl, rfl⟩
set_option maxHeartbeats 4000000 in
set_option maxRecDepth 100000 in
theorem walNone_walk (w : World) (hE : ErrAt w) (hSp : SpAt w) (hT : TabAt w) : Calls Tryz.prog 4 #[] w fun e w' => e = .returned (.bool true) ∧ Below w.heap.size w w' := by
  have HG : Hid (∀ W, Below w.heap.size w W → GlobAt W) := Lib.hid fun W hW => GlobAt.below ⟨hE, hSp, hT⟩ hW
  have HNW : Hid (Calls Tryz.prog 8 #[.int .i64 100] w fun e w' => e = .returned (.pointer (some ⟨w.heap.size, 0, none⟩)) ∧ FsOwn w w' w.heap.size (fsNew 100)) := Lib.hid (new_own 100 w)
  clear hE hSp hT
  go_enter Tryz.func4, Tryz.ntmps4
  go_wp2_with fail
  refine HNW.out.mono ?_
  rintro e w1 ⟨rfl, hf⟩
  have HCR := Lib.hid (walRange_any 0 (by omega) w.heap.size w1)
  obtain ⟨ρ, g1, g2, g3⟩ := hf
  have HRP : Hid (Calls Tryz.prog 20 #[.pointer (some ⟨w.heap.size, 0, none⟩), .int .i64 9] w1 fun e w' => e = .returned (.tuple #[.slice none 0 0, .int .i64 0, .int .i64 3]) ∧ Below w1.heap.size w1 w') :=
    Lib.hid (replay_no w1 w.heap.size ρ (fsNew 100) g1 9 (logName 9) (walname_small 9 (by omega) w1) (by decide +kernel) [] 3 rfl (by decide))
  have HB1 := Lib.hid g2
  clear g1 g2 g3 HNW
  go_wp2_with fail
  refine HCR.out.mono ?_
  rintro e w' ⟨rfl, rfl⟩
  clear HCR
  go_wp2_with fail
  refine HRP.out.mono ?_
  rintro e w2 ⟨rfl, b2⟩
  have hb2 := HB1.out.trans (b2.mono HB1.out.size)
  have HBG := Lib.hid (wbegun_any w2 (HG.out _ hb2))
  have HB2 := Lib.hid hb2
  clear b2 hb2 HB1 HRP HG
  go_wp2_with fail
  refine HBG.out.mono ?_
  rintro e w3 ⟨rfl, b3⟩
  have HB3 := Lib.hid (HB2.out.trans (b3.mono HB2.out.size))
  clear b3 HB2 HBG
  go_wp2_with fail
  refine (nilLog_app _ _ _).mono ?_
  rintro e w4 ⟨rfl, rfl⟩
  go_wp2_with fail
  refine (nilLog_sync _).mono ?_
  rintro e w5 ⟨rfl, rfl⟩
  go_wp2_with fail
  refine (nilLog_size _).mono ?_
  rintro e w6 ⟨rfl, rfl⟩
  go_wp2_with fail
  go_ret
  exact ⟨rfl, HB3.out.alloc HB3.out.size _⟩
end Go.Proofs.YtjhkfjbgdaomeaaGreatDoor
