/- The law ManifestNone: no manifest; a CURRENT that names none. -/
import Derived.Test.YtcppaflnhlmcbaaGreatDoorManBgn
import Derived.Test.YtcppaflnhlmcbaaGreatDoorFsNam
import Derived.Test.YtcppaflnhlmcbaaGreatDoorMBase
namespace Go.Proofs.YtcppaflnhlmcbaaGreatDoor
set_option linter.unusedVariables false
open Go.RowKit Go.Maps
theorem mold_nil (w : World) : Calls Tryz.prog 25 #[.pointer none] w fun e w' => e = .returned (.slice none 0 0) ∧ Below w.heap.size w w' := by
  have HB := Lib.hid ((Below.refl w.heap.size w).alloc (Nat.le_refl _) (.cells #[.pointer none] 26))
  go_enter Tryz.func25, Tryz.ntmps25
  go_wp2_with fail
  go_ret
  exact ⟨rfl, HB.out⟩
def noB : List UInt8 := [110, 111, 116, 104, 105, 110, 103]
theorem no_ptr : noB ≠ ptrB smN 0 := fun h => by
  have := congrArg List.length h
  rw [ptrB_len smN_len] at this
  exact absurd this (by decide)
set_option maxHeartbeats 16000000 in
set_option maxRecDepth 100000 in
theorem manNone_walk (w : World) (hG : GlobM w) : Calls Tryz.prog 7 #[] w fun e w' => e = .returned (.bool true) ∧ Below w.heap.size w w' := by
  have HNEW : Hid (Calls Tryz.prog 9 #[.int .i64 1000] w fun e w' => ∃ b, e = .returned (.pointer (some ⟨b, 0, none⟩)) ∧ FsOwn w w' b (fsNew 1000)) := Lib.hid (by
    refine (new_own 1000 w).mono ?_
    rintro e w' ⟨rfl, h⟩
    exact ⟨_, rfl, h⟩)
  have HG := Lib.hid hG
  clear hG
  go_enter Tryz.func7, Tryz.ntmps7
  go_wp2_with fail
  refine HNEW.out.mono ?_
  rintro e w1 ⟨b, rfl, hf⟩
  have HC := Lib.hid (create_own hf ⟨#[67, 85, 82, 82, 69, 78, 84]⟩ (by decide) (Nat.zero_le _))
  rw [show (fsNew 1000).create ⟨#[67, 85, 82, 82, 69, 78, 84]⟩ = (0, namF curN [] 0 [] [mkF curN] 1000 (inc64 0)) from nam_new curN_ok 1000] at HC
  clear hf HNEW
  go_wp2_with fail
  refine HC.out.mono ?_
  rintro e w2 ⟨rfl, hf⟩
  have hcv := litW_run w2 noB #[.int .u8 110, .int .u8 111, .int .u8 116, .int .u8 104, .int .u8 105, .int .u8 110, .int .u8 103] 7 rfl
  have HAP := Lib.hid (append_own hf (litW_below w2 noB) ⟨#[67, 85, 82, 82, 69, 78, 84]⟩ (by decide) _ noB (litW_rd w2 noB 7 rfl (by unfold maxLen; omega)) (fun k hk => by
    simp only [Value.ownBlock, Option.some.injEq] at hk
    omega) (by decide))
  rw [show (namF curN [] 0 [] [mkF curN] 1000 (inc64 0)).append ⟨#[67, 85, 82, 82, 69, 78, 84]⟩ noB = (0, namF curN noB 0 [] [mkF curN] 1000 (inc64 (inc64 0))) from nam_append curN [] noB 0 [] [mkF curN] 1000 (inc64 0) (by decide)] at HAP
  clear hf HC
  go_wp2_with fail
  clear hcv
  refine HAP.out.mono ?_
  rintro e w3 ⟨rfl, hf⟩
  obtain ⟨ρ, g1, g2, g3⟩ := hf
  have hn := named_any w3 b ρ _ g1 noB (nam_read curN noB 0 [] [mkF curN] 1000 _) (HG.out.below g2).1 0 (by decide) (by decide)
  rw [if_neg no_ptr, if_neg no_ptr] at hn
  have HLD := Lib.hid (mload_no w3 b 8 (by decide) (Lib.hid hn))
  have HB3 := Lib.hid g2
  clear g1 g2 g3 hn HAP
  go_wp2_with fail
  refine HLD.out.mono ?_
  rintro e w4 ⟨rfl, hb⟩
  have HB4 := Lib.hid (HB3.out.trans (hb.mono HB3.out.size))
  have HBG := Lib.hid (mbegun_any w4 (HG.out.below HB4.out))
  clear hb HLD HB3
  go_wp2_with fail
  refine HBG.out.mono ?_
  rintro e w5 ⟨rfl, hb⟩
  have HB5 := Lib.hid (HB4.out.trans (hb.mono HB4.out.size))
  clear hb HBG HB4
  go_wp2_with fail
  refine (mcommit_nil _ _ _ _ _ _).mono ?_
  rintro e w6 ⟨rfl, hb⟩
  have HB6 := Lib.hid (HB5.out.trans (hb.mono HB5.out.size))
  clear hb HB5
  go_wp2_with fail
  refine (mrewrite_nil _).mono ?_
  rintro e w7 ⟨rfl, rfl⟩
  go_wp2_with fail
  refine (mver_nil _).mono ?_
  rintro e w8 ⟨rfl, rfl⟩
  go_wp2_with fail
  refine (msize_nil _).mono ?_
  rintro e w9 ⟨rfl, rfl⟩
  go_wp2_with fail
  refine (mold_nil _).mono ?_
  rintro e w10 ⟨rfl, hb⟩
  have HB7 := Lib.hid (HB6.out.trans (hb.mono HB6.out.size))
  clear hb HB6
  go_wp2_with fail
  go_ret
  exact ⟨rfl, HB7.out⟩
theorem manifestNone_walk (w : World) (hT : TabAt w) (hP : PowAt w) : Calls Tryz.prog 7 #[] w fun e w' => e = .returned (.bool true) ∧ Below w.heap.size w w' := manNone_walk w ⟨hT, hP⟩
end Go.Proofs.YtcppaflnhlmcbaaGreatDoor
