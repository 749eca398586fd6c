/- What each law of picks begins with: nothing to do; then four tables of level 0. -/
import Derived.Test.YtgdmmhdihgajkaaMPk
import Derived.Test.YtgdmmhdihgajkaaVerBegun
namespace Go.Proofs.Ytgdmmhdihgajkaa
set_option linter.unusedVariables false
set_option maxRecDepth 100000
open Go.RowKit
/-- A row of tables that was just laid. -/
theorem own_listT (w : World) (xs : List Tbf) (h : xs.length ≤ 1000000) : OwnK encTbf 5 49 w.heap.size (w.alloc (.cells (xs.flatMap encTbf).toArray 49)) (.slice (some ⟨w.heap.size, 0, none⟩) xs.length xs.length) xs := by
  refine ⟨flat_lenK encTbf_len _, .inr ⟨w.heap.size, xs.length, (xs.flatMap encTbf).toArray, rfl, Nat.le_refl _, heap_alloc_new .., Nat.le_refl _, by unfold maxLen; omega, ?_, ?_⟩⟩
  · rw [List.size_toArray, flat_lenK encTbf_len]
  · exact List.take_of_length_le (by rw [flat_lenK encTbf_len]; exact Nat.le_refl _)
def pB1 : List Tbf := [⟨1, 0, 0, ⟨#[97]⟩, ⟨#[98]⟩⟩, ⟨2, 0, 0, ⟨#[97]⟩, ⟨#[98]⟩⟩, ⟨3, 0, 0, ⟨#[97]⟩, ⟨#[98]⟩⟩, ⟨4, 0, 0, ⟨#[97]⟩, ⟨#[99]⟩⟩, ⟨5, 1, 7, ⟨#[99]⟩, ⟨#[100]⟩⟩]
def pBE : Edt := ⟨9, 0, 0, pB1, []⟩
def pBV : Ver := ⟨pB1, 9, 0, 0⟩
theorem pBE_is : applyV Ver.new pBE = some pBV := by kernel_rfl
theorem pBE_ok : pBE.ok := ⟨fun f hf => by
  have : f.lo.size ≤ 1 ∧ f.hi.size ≤ 1 := by
    simp only [pBE, pB1, List.mem_cons, List.not_mem_nil, or_false] at hf
    rcases hf with rfl | rfl | rfl | rfl | rfl <;> decide
  unfold Tbf.ok maxLen; omega, by simp [pBE, pB1], by simp [pBE]⟩
theorem pBV_job : jobN pBV.fs = ⟨0, levelV 0 pB1, [⟨5, 1, 7, ⟨#[99]⟩, ⟨#[100]⟩⟩], true⟩ ∧ (pickV pBV.fs).isSome = true ∧ (levelV 0 pB1).length = 4 ∧ sizV 1 pB1 = 7 := by
  refine ⟨?_, ?_, ?_, ?_⟩ <;> kernel_rfl
theorem pN_job : jobN Ver.new.fs = ⟨0, [], [], false⟩ ∧ (pickV Ver.new.fs).isSome = false := by
  constructor <;> kernel_rfl
theorem jobN_same {V W : Ver} (h : vSame V W) (g : GoodV V) : jobN V.fs = jobN W.fs ∧ (pickV V.fs).isSome = (pickV W.fs).isSome := by
  unfold jobN; rw [pick_same h g]; exact ⟨rfl, rfl⟩
theorem siz_same {V W : Ver} (h : vSame V W) (g : GoodV V) (n : Int) (hn : 0 ≤ n) : sizV n V.fs = sizV n W.fs := by
  unfold sizV; rw [levelV_same h g n hn]
set_option maxHeartbeats 8000000 in
theorem pbegun_any (w : World) : Calls Try.prog 5 #[] w fun e w' => e = .returned (.bool true) ∧ Below w.heap.size w w' := by
  have HNEW := Lib.hid (vnew_any w)
  have HV0 := Lib.hid (vnew_at w w.heap.size)
  have HB0 := Lib.hid ((Below.refl w.heap.size w).alloc (Nat.le_refl _) (.cells #[.slice none 0 0, .int .i64 0, .int .i64 0, .int .i64 0] 67))
  go_enter Try.func5, Try.ntmps5
  go_wp2_with fail
  refine HNEW.out.mono ?_
  rintro e w2 ⟨rfl, hw2⟩
  rw [← hw2] at HV0 HB0
  clear HNEW hw2
  obtain ⟨b, hb⟩ : ∃ b, w.heap.size = b := ⟨_, rfl⟩
  have HBB := Lib.hid hb
  rw [hb] at HV0 ⊢
  clear hb
  have HN1 := Lib.hid (pnext_any (vLvs HV0.out))
  unfold JobTo at HN1
  rw [pN_job.1, pN_job.2] at HN1
  go_wp2_with fail
  refine HN1.out.mono ?_
  rintro e w3 ⟨u1, u2, rfl, ho1, ho2, hb⟩
  obtain ⟨a1, c1, rfl⟩ := fil_form ho1
  obtain ⟨a2, c2, rfl⟩ := fil_form ho2
  have HB3 := Lib.hid (HB0.out.trans (hb.mono HB0.out.size))
  have HV3 := Lib.hid (HV0.out.below hb)
  clear ho1 ho2 hb HN1 HB0 HV0
  simp only [List.length_nil]
  obtain ⟨w4, hw4⟩ : ∃ x, w3.alloc (.cells #[.int .i64 0, .slice a1 0 c1, .slice a2 0 c2, .bool false] 32) = x := ⟨_, rfl⟩
  have hB4 : Below w3.heap.size w3 w4 := by rw [← hw4]; exact (Below.refl _ _).alloc (Nat.le_refl _) _
  have HB4 := Lib.hid (HB3.out.trans (hB4.mono HB3.out.size))
  have HV4 := Lib.hid (HV3.out.below hB4)
  clear hB4 HB3 HV3
  have hA : Below w4.heap.size w4 (w4.alloc (.cells (pB1.flatMap encTbf).toArray 49)) := (Below.refl _ _).alloc (Nat.le_refl _) _
  have HAP := Lib.hid (vapply_any (HV4.out.below hA) (by have := HV4.out.lt; simp; omega) (.agg #[.int .i64 9, .int .i64 0, .int .i64 0, .slice (some ⟨w4.heap.size, 0, none⟩) 5 5, .slice none 0 0]) pBE ⟨_, _, rfl, (own_listT w4 pB1 (by decide)).rd encTbf_len, RdV.nil _ _ _⟩ pBE_ok)
  have HB5 := Lib.hid (HB4.out.trans (hA.mono HB4.out.size))
  clear hA HB4 HV4
  rw [show (pB1.flatMap encTbf).toArray = #[.int .i64 1, .int .i64 0, .int .i64 0, .string ⟨#[97]⟩, .string ⟨#[98]⟩, .int .i64 2, .int .i64 0, .int .i64 0, .string ⟨#[97]⟩, .string ⟨#[98]⟩, .int .i64 3, .int .i64 0, .int .i64 0, .string ⟨#[97]⟩, .string ⟨#[98]⟩, .int .i64 4, .int .i64 0, .int .i64 0, .string ⟨#[97]⟩, .string ⟨#[99]⟩, .int .i64 5, .int .i64 1, .int .i64 7, .string ⟨#[99]⟩, .string ⟨#[100]⟩] from rfl] at HAP HB5
  have hS4 : w4.heap.size = w3.heap.size + 1 := by rw [← hw4]; simp
  rw [hS4] at HAP
  clear hS4
  subst hw4
  go_wp2_with fail
  refine HAP.out.mono ?_
  rintro e w6 ⟨c1, V1, rfl, hv, hu, -, h2⟩
  obtain ⟨rfl, hs⟩ := h2 _ pBE_is
  have HB6 := Lib.hid (HB5.out.trans (UpdF.below hu HB5.out.size fun k hk e => by have : k = b := e; have := HBB.out; omega))
  have HV6 := Lib.hid hv
  have g1 : GoodV pBV := (vSame.symm hs).good hv.good
  have HJ := Lib.hid (jobN_same hs g1)
  have HSZ := Lib.hid (siz_same hs g1 1 (by decide))
  clear HAP HB5 hv hu h2 hs g1
  generalize (w3.alloc _).alloc _ = w5 at *
  have HN1 := Lib.hid (pnext_any (vLvs HV6.out))
  unfold JobTo at HN1
  rw [← HJ.out.1, ← HJ.out.2, pBV_job.1, pBV_job.2.1] at HN1
  go_wp2_with fail
  refine HN1.out.mono ?_
  rintro e w7 ⟨u1, u2, rfl, ho1, ho2, hb⟩
  obtain ⟨a3, c3, rfl⟩ := fil_form ho1
  obtain ⟨a4, c4, rfl⟩ := fil_form ho2
  simp only [pBV_job.2.2.1, List.length_cons, List.length_nil, Nat.zero_add]
  have HB7 := Lib.hid (HB6.out.trans (hb.mono HB6.out.size))
  have HV7 := Lib.hid (HV6.out.below hb)
  clear ho1 ho2 hb HN1 HB6 HV6 HJ
  have hB8 : Below w7.heap.size w7 (w7.alloc (.cells #[.int .i64 0, .slice a3 4 c3, .slice a4 1 c4, .bool true] 32)) := (Below.refl _ _).alloc (Nat.le_refl _) _
  have HB8 := Lib.hid (HB7.out.trans (hB8.mono HB7.out.size))
  have HSZ8 := Lib.hid (psize_any (vLvs (HV7.out.below hB8)) 1 (by decide) _ (Below.refl _ _))
  unfold IntTo at HSZ8
  rw [← HSZ.out, show sizV 1 pBV.fs = 7 from pBV_job.2.2.2] at HSZ8
  obtain ⟨k0, k1, k2, k3⟩ := cell4_of (BlkAt.new w7 #[.int .i64 0, .slice a3 4 c3, .slice a4 1 c4, .bool true] 32)
  clear hB8 HB7 HV7 HSZ
  go_wp2_with fail
  refine HSZ8.out.mono ?_
  rintro e w9 ⟨rfl, hb⟩
  have HB9 := Lib.hid (HB8.out.trans (hb.mono HB8.out.size))
  clear hb HSZ8 HB8 k0 k1 k2 k3
  go_wp2_with fail
  go_ret
  refine ⟨rfl, ?_⟩
  first | exact HB9.out | (have := HB9.out; rwa [HBB.out] at this)
end Go.Proofs.Ytgdmmhdihgajkaa
