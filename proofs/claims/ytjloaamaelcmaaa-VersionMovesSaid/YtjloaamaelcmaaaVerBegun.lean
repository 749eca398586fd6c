/- What each law of versions begins with: one table goes in, one that meets it is refused. -/
import Derived.Test.YtjloaamaelcmaaaVerApp
import Derived.Test.YtjloaamaelcmaaaVerThose
namespace Go.Proofs.Ytjloaamaelcmaaa
set_option linter.unusedVariables false
set_option maxRecDepth 100000
open Go.RowKit
def vT1 : Tbf := ⟨2, 1, 0, ⟨#[97]⟩, ⟨#[99]⟩⟩
def vT2 : Tbf := ⟨3, 1, 0, ⟨#[98]⟩, ⟨#[100]⟩⟩
def vE1 : Edt := ⟨3, 0, 0, [vT1], []⟩
def vE2 : Edt := ⟨4, 0, 0, [vT2], []⟩
def vV1 : Ver := ⟨[vT1], 3, 0, 0⟩
theorem vE1_is : applyV Ver.new vE1 = some vV1 := by kernel_rfl
theorem vE2_no : applyV vV1 vE2 = none := by kernel_rfl
theorem vE_ok (f : Tbf) (hf : f.ok) (n : Int) : (⟨n, 0, 0, [f], []⟩ : Edt).ok := ⟨fun g hg => by rw [List.mem_singleton.1 hg]; exact hf, by simp, by simp⟩
theorem vT1_ok : vT1.ok := by constructor <;> (unfold maxLen; decide)
theorem vT2_ok : vT2.ok := by constructor <;> (unfold maxLen; decide)
theorem vSame_one {V : Ver} (h : vSame vV1 V) : V = vV1 := by
  obtain ⟨fs, nx, lg, ls⟩ := V
  obtain ⟨h1, h2, h3, h4⟩ := h
  simp only [vV1] at h1 h2 h3 h4 ⊢
  rw [List.perm_singleton.1 h1.symm, ← h2, ← h3, ← h4]
/-- One table in a row that was just laid. -/
theorem tab_one (w : World) (f : Tbf) : RdK encTbf 5 (w.alloc (.cells (encTbf f).toArray 43)) (.slice (some ⟨w.heap.size, 0, none⟩) 1 1) [f] := (own_oneK (E := 43) encTbf_len w f).rd encTbf_len
theorem edt_one (w : World) (f : Tbf) (n : Int) : EdAt (w.alloc (.cells #[.int .i64 f.num, .int .i64 f.lvl, .int .i64 f.siz, .string f.lo, .string f.hi] 43)) (.agg #[.int .i64 n, .int .i64 0, .int .i64 0, .slice (some ⟨w.heap.size, 0, none⟩) 1 1, .slice none 0 0]) ⟨n, 0, 0, [f], []⟩ := ⟨_, _, rfl, tab_one w f, RdV.nil _ _ _⟩
theorem vLv1 : (vV1.fs.filter fun f => decide (f.lvl = 1)).length = 1 := by kernel_rfl
theorem vOv1 : (vV1.fs.filter fun f => decide (f.lvl = 1 ∧ vOverB ⟨#[99]⟩ ⟨#[122]⟩ f = true)).length = 1 := by kernel_rfl
theorem vOv2 : (vV1.fs.filter fun f => decide (f.lvl = 1 ∧ vOverB ⟨#[100]⟩ ⟨#[122]⟩ f = true)).length = 0 := by kernel_rfl
set_option maxHeartbeats 8000000 in
theorem vbegun_any (w : World) : Calls Try.prog 8 #[] w fun e w' => e = .returned (.bool true) ∧ Below w.heap.size w w' := by
  have HNEW := Lib.hid (vnew_any w)
  have HV0 := Lib.hid (vnew_at w w.heap.size)
  have HB0 := Lib.hid ((Below.refl w.heap.size w).alloc (Nat.le_refl _) (.cells #[.slice none 0 0, .int .i64 0, .int .i64 0, .int .i64 0] 58))
  go_enter Try.func8, Try.ntmps8
  go_wp2_with fail
  refine HNEW.out.mono ?_
  rintro e w2 ⟨rfl, hw2⟩
  rw [← hw2] at HV0 HB0
  clear HNEW hw2
  obtain ⟨b, hb⟩ : ∃ b, w.heap.size = b := ⟨_, rfl⟩
  have HBB := Lib.hid hb
  rw [hb] at HV0 ⊢
  clear hb
  have hA : Below w2.heap.size w2 (w2.alloc (.cells #[.int .i64 2, .int .i64 1, .int .i64 0, .string ⟨#[97]⟩, .string ⟨#[99]⟩] 43)) := (Below.refl _ _).alloc (Nat.le_refl _) _
  have HA1 := Lib.hid (vapply_any (HV0.out.below hA) (by have := HV0.out.lt; simp; omega) _ _ (edt_one w2 vT1 3) (vE_ok _ vT1_ok 3))
  have HB1 := Lib.hid (HB0.out.trans (hA.mono HB0.out.size))
  clear hA HB0 HV0
  go_wp2_with fail
  refine HA1.out.mono ?_
  rintro e w3 ⟨c1, V1, rfl, hv, hu, -, h2⟩
  obtain ⟨rfl, hs⟩ := h2 _ vE1_is
  obtain rfl := vSame_one hs
  have HB3 := Lib.hid (HB1.out.trans (UpdF.below hu HB1.out.size fun k hk e => by have := HBB.out; omega))
  have HV3 := Lib.hid hv
  clear HA1 HB1 hv hu h2 hs
  have hA : Below w3.heap.size w3 (w3.alloc (.cells #[.int .i64 3, .int .i64 1, .int .i64 0, .string ⟨#[98]⟩, .string ⟨#[100]⟩] 43)) := (Below.refl _ _).alloc (Nat.le_refl _) _
  have HA2 := Lib.hid (vapply_any (HV3.out.below hA) (by have := HV3.out.lt; simp; omega) _ _ (edt_one w3 vT2 4) (vE_ok _ vT2_ok 4))
  have HB4 := Lib.hid (HB3.out.trans (hA.mono HB3.out.size))
  clear hA HB3 HV3
  go_wp2_with fail
  refine HA2.out.mono ?_
  rintro e w5 ⟨c1, V1, rfl, hv, hu, h1, -⟩
  obtain ⟨rfl, rfl⟩ := h1 vE2_no
  have HB5 := Lib.hid (HB4.out.trans (UpdF.below hu HB4.out.size fun k hk e => by have := HBB.out; omega))
  have HV5 := Lib.hid hv
  clear HA2 HB4 hv hu h1
  have HL := Lib.hid (vlevel_raw HV5.out 1)
  go_wp2_with fail
  refine HL.out.mono ?_
  rintro e w6 ⟨u, rfl, ho, hb⟩
  obtain ⟨a, c, rfl⟩ := fil_form ho
  rw [vLv1]
  have HB6 := Lib.hid (HB5.out.trans (hb.mono HB5.out.size))
  have HV6 := Lib.hid (HV5.out.below hb)
  have HN : Hid (Calls Try.prog 19 #[.pointer (some ⟨b, 0, none⟩)] w6 fun e w' => e = .returned (.int .i64 3) ∧ Below w6.heap.size w6 w') := Lib.hid (vnext_any HV6.out)
  clear HL ho hb HB5 HV5
  go_wp2_with fail
  refine HN.out.mono ?_
  rintro e w7 ⟨rfl, hb⟩
  have HB7 := Lib.hid (HB6.out.trans (hb.mono HB6.out.size))
  have HV7 := Lib.hid (HV6.out.below hb)
  have HL := Lib.hid (vover_raw HV7.out 1 ⟨#[99]⟩ ⟨#[122]⟩)
  clear HN hb HB6 HV6
  go_wp2_with fail
  refine HL.out.mono ?_
  rintro e w8 ⟨u, rfl, ho, hb⟩
  obtain ⟨a, c, rfl⟩ := fil_form ho
  rw [vOv1]
  have HB8 := Lib.hid (HB7.out.trans (hb.mono HB7.out.size))
  have HV8 := Lib.hid (HV7.out.below hb)
  have HL2 := Lib.hid (vover_raw HV8.out 1 ⟨#[100]⟩ ⟨#[122]⟩)
  clear HL ho hb HB7 HV7
  go_wp2_with fail
  refine HL2.out.mono ?_
  rintro e w9 ⟨u, rfl, ho, hb⟩
  obtain ⟨a, c, rfl⟩ := fil_form ho
  rw [vOv2]
  have HB9 := Lib.hid (HB8.out.trans (hb.mono HB8.out.size))
  clear HL2 ho hb HB8 HV8
  go_wp2_with fail
  go_ret
  refine ⟨rfl, ?_⟩
  first | exact HB9.out | (have := HB9.out; rwa [HBB.out] at this)
end Go.Proofs.Ytjloaamaelcmaaa
