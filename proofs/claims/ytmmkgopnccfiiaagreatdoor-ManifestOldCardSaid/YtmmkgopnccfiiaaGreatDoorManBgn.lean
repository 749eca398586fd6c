/- What each law of manifests begins with: one edit, a crash, a manifest that is there, none. -/
import Derived.Test.YtmmkgopnccfiiaaGreatDoorMManC
import Derived.Test.YtmmkgopnccfiiaaGreatDoorVerBegun
import Derived.Test.YtmmkgopnccfiiaaGreatDoorMVerB
namespace Go.Proofs.YtmmkgopnccfiiaaGreatDoor
set_option linter.unusedVariables false
open Go.RowKit Go.Maps
def mT1 : Tbf := ⟨4, 0, 0, ⟨#[97]⟩, ⟨#[98]⟩⟩
def mE1 : Edt := ⟨5, 0, 0, [mT1], []⟩
def mV1 : Ver := ⟨[mT1], 5, 0, 0⟩
theorem mE1_is : applyV verC mE1 = some mV1 := by kernel_rfl
theorem mE1_short : mE1.short := ⟨by decide, by decide, fun f hf => by rw [List.mem_singleton.1 hf]; exact ⟨by decide, by decide⟩⟩
theorem mSame_one {V : Ver} (h : vSame mV1 V) : V = mV1 := by
  obtain ⟨fs, nx, lg, ls⟩ := V
  obtain ⟨h1, h2, h3, h4⟩ := h
  simp only [mV1] at h1 h2 h3 h4 ⊢
  rw [List.perm_singleton.1 h1.symm, ← h2, ← h3, ← h4]
theorem mLv1 : (mV1.fs.filter fun f => decide (f.lvl = 0)).length = 1 := by kernel_rfl
set_option maxHeartbeats 16000000 in
set_option maxRecDepth 100000 in
theorem mbegun_any (w : World) (hG : GlobM w) : Calls Tryz.prog 4 #[] w fun e w' => e = .returned (.bool true) ∧ Below w.heap.size w w' := by
  have HNEW : Hid (Calls Tryz.prog 5 #[.int .i64 1048576] w fun e w' => ∃ b, e = .returned (.pointer (some ⟨b, 0, none⟩)) ∧ FsOwn w w' b (fsNew 1048576)) := Lib.hid (by
    refine (new_own 1048576 w).mono ?_
    rintro e w' ⟨rfl, h⟩
    exact ⟨_, rfl, h⟩)
  have HN2 : Hid (∀ W, Calls Tryz.prog 5 #[.int .i64 100] W fun e w' => ∃ b, e = .returned (.pointer (some ⟨b, 0, none⟩)) ∧ FsOwn W w' b (fsNew 100)) := Lib.hid fun W => by
    refine (new_own 100 W).mono ?_
    rintro e w' ⟨rfl, h⟩
    exact ⟨_, rfl, h⟩
  have HG := Lib.hid hG
  clear hG
  go_enter Tryz.func4, Tryz.ntmps4
  go_wp2_with fail
  refine HNEW.out.mono ?_
  rintro e w1 ⟨b, rfl, hf⟩
  have HC := Lib.hid (mcreate_st HG.out hf)
  clear hf HNEW
  go_wp2_with fail
  refine HC.out.mono ?_
  rintro e w2 ⟨mb, F, S1, rfl, hm, hfl, -, -⟩
  have HM := Lib.hid hm
  have HFL := Lib.hid hfl
  clear hm hfl HC
  have hA : Below w2.heap.size w2 (w2.alloc (.cells #[.int .i64 4, .int .i64 0, .int .i64 0, .string ⟨#[97]⟩, .string ⟨#[98]⟩] 35)) := (Below.refl _ _).alloc (Nat.le_refl _) _
  have HCO := Lib.hid (mcommit_st HG.out (HM.out.below hA) (by omega) _ mE1 (edt_one w2 mT1 5) mE1_short)
  clear hA
  go_wp2_with fail
  refine HCO.out.mono ?_
  rintro e w3 (⟨h1, -⟩ | ⟨n, V', h1, hsm, F', S2, hst, hor⟩)
  · rw [mE1_is] at h1; cases h1
  rw [mE1_is] at h1
  obtain rfl := Option.some.inj h1
  obtain rfl := mSame_one hsm
  rcases hor with ⟨rfl, hm3, -, hf3⟩ | ⟨hne, -⟩
  rotate_left
  · exact absurd HFL.out hne
  have HM3 := Lib.hid hm3
  have HF3 := Lib.hid (hf3 HFL.out)
  have HCR := Lib.hid (mcrash_st hm3 0 (.slice none 0 0) [] (.inl ⟨_, _, rfl, rfl⟩) (by decide))
  clear h1 hsm hst hm3 hf3 HCO HM HFL
  go_wp2_with fail
  refine HCR.out.mono ?_
  rintro e w4 ⟨b4, rfl, hf4⟩
  have hb4 : Below w3.heap.size w3 w4 := hf4.blw
  have HM4 := Lib.hid (HM3.out.below hb4)
  have HLD := Lib.hid (mload_st (HG.out.below HM3.out.blw) hf4 (HM3.out.run.crash smN_len 0 []) rfl (by omega))
  clear hf4 HCR
  go_wp2_with fail
  refine HLD.out.mono ?_
  rintro e w5 ⟨mb5, F5, S5, V5, rfl, hsm, hm5, -, -⟩
  obtain rfl := mSame_one hsm
  have HM5 := Lib.hid hm5
  have HB45 : Hid (Below w3.heap.size w3 w5) := Lib.hid hm5.blw
  have HC2 := Lib.hid (mcreate_has (HM3.out.below hm5.blw))
  clear hsm hm5 HLD HM4 hb4
  go_wp2_with fail
  refine HC2.out.mono ?_
  rintro e w6 ⟨rfl, hb⟩
  have HM6 := Lib.hid (HM5.out.below hb)
  have HNN := Lib.hid (HN2.out w6)
  clear hb HC2 HM5 HN2
  go_wp2_with fail
  refine HNN.out.mono ?_
  rintro e w7 ⟨b7, rfl, hf7⟩
  have HM7 := Lib.hid (HM6.out.below hf7.blw)
  obtain ⟨ρ7, g1, g2, g3⟩ := hf7
  have HL7 := Lib.hid (mload_no w7 b7 3 (by decide) (Lib.hid (named_none w7 b7 ρ7 _ g1 3 [] (new_read _ _) (by decide))))
  clear g1 g2 g3 HNN HM6
  go_wp2_with fail
  refine HL7.out.mono ?_
  rintro e w8 ⟨rfl, hb⟩
  have HM8 := Lib.hid (HM7.out.below hb)
  obtain ⟨ρ8, -, hm8, -⟩ := HM8.out.ex
  have HVE := Lib.hid (mver_any hm8)
  clear hb HL7 HM7 hm8
  go_wp2_with fail
  refine HVE.out.mono ?_
  rintro e w9 ⟨rfl, hv, hb⟩
  have HM9 := Lib.hid (HM8.out.below hb)
  have HLV := Lib.hid (vlevel_raw hv 0)
  clear hb hv HVE HM8
  go_wp2_with fail
  refine HLV.out.mono ?_
  rintro e w10 ⟨u, rfl, ho, hb⟩
  obtain ⟨a, c, rfl⟩ := fil_form ho
  rw [mLv1]
  have HM10 := Lib.hid (HM9.out.below hb)
  clear ho hb HLV HM9
  go_wp2_with fail
  go_ret
  exact ⟨rfl, HM3.out.blw.trans (HM10.out.blw.mono HM3.out.blw.size)⟩
end Go.Proofs.YtmmkgopnccfiiaaGreatDoor
