/- What each law of edits begins with. -/
import Derived.Test.YtpaoabdjbdlalaaEdtEnc
import Derived.Test.YtpaoabdjbdlalaaEdtDec
import Derived.Test.YtpaoabdjbdlalaaByLit
namespace Go.Proofs.Ytpaoabdjbdlalaa
set_option linter.unusedVariables false
set_option maxRecDepth 100000
open Go.RowKit
def edBg : Edt := ⟨5, 0, 0, [⟨3, 1, 0, ⟨#[97]⟩, ⟨#[98]⟩⟩], []⟩
theorem edBg_may : mayE edBg := by
  unfold edBg mayE
  refine ⟨⟨⟨by decide, by decide⟩, ⟨by decide, by decide⟩, ⟨by decide, by decide⟩⟩, ⟨by decide, by decide⟩, fun f hf => ?_, fun n hn => by cases hn⟩
  rw [List.mem_singleton.1 hf]
  unfold badTb badTab
  have h : ¬ bl ⟨#[98]⟩ ⟨#[97]⟩ := by unfold bl; decide
  simp only [not_or]
  exact ⟨⟨by decide, by decide⟩, by decide, by decide, by decide, by decide, by decide, by decide, h⟩
theorem edBg_ok : edBg.ok := ⟨fun f hf => by rw [List.mem_singleton.1 hf]; constructor <;> (unfold maxLen; decide), by decide, by decide⟩
theorem edJunk : decE [106, 117, 110, 107] = none := by
  unfold decE
  refine if_neg fun h => ?_
  have : (edAll [106, 117, 110, 107]).2 ≠ some [] := by decide +kernel
  exact this h.1
/-- One table in a row that was just laid. -/
theorem tbf_one (w : World) (f : Tbf) : RdK encTbf 5 (w.alloc (.cells (encTbf f).toArray 39)) (.slice (some ⟨w.heap.size, 0, none⟩) 1 1) [f] := (own_oneK (E := 39) encTbf_len w f).rd encTbf_len
set_option maxHeartbeats 8000000 in
theorem edBegun_any (w : World) : Calls Try.prog 6 #[] w fun e w' => e = .returned (.bool true) ∧ Below w.heap.size w w' := by
  have hb1 : Below w.heap.size w (w.alloc (.cells #[.int .i64 3, .int .i64 1, .int .i64 0, .string ⟨#[97]⟩, .string ⟨#[98]⟩] 39)) := (Below.refl _ w).alloc (Nat.le_refl _) _
  have hE : EdAt (w.alloc (.cells #[.int .i64 3, .int .i64 1, .int .i64 0, .string ⟨#[97]⟩, .string ⟨#[98]⟩] 39)) (.agg #[.int .i64 5, .int .i64 0, .int .i64 0, .slice (some ⟨w.heap.size, 0, none⟩) 1 1, .slice none 0 0]) edBg := ⟨_, _, rfl, tbf_one w ⟨3, 1, 0, ⟨#[97]⟩, ⟨#[98]⟩⟩, RdV.nil _ _ _⟩
  have HE := Lib.hid (edEncode_any _ _ edBg_ok _ hE)
  have HB1 := Lib.hid hb1
  have hc : chkE edBg = 0 := if_pos edBg_may
  unfold EncToE at HE
  rw [hc] at HE
  clear hE hb1 hc
  go_enter Try.func6, Try.ntmps6
  go_wp2_with fail
  refine HE.out.mono ?_
  rintro e w2 ⟨v2, rfl, ho, -, hb⟩
  have hr := (ho edBg_may).rd
  have HB2 := Lib.hid (HB1.out.trans (hb.mono HB1.out.size))
  have HD := Lib.hid (edDecode_any v2 _ w2 hr)
  clear ho hb hr HE HB1
  go_wp2_with fail
  refine HD.out.mono ?_
  rintro e w3 ⟨v3, c3, rfl, hd, hb⟩
  obtain ⟨rfl, va, vd, rfl, oa, od⟩ := hd.yes _ (decE_enc edBg_may)
  have HB3 := Lib.hid (HB2.out.trans (hb.mono HB2.out.size))
  obtain ⟨a3, k3, rfl⟩ := tbf_form oa
  obtain ⟨ad, nd, kd, rfl⟩ := od.slform
  have HO := Lib.hid (oa.rd encTbf_len)
  clear oa od hb HD HB2
  simp only [edBg] at HO ⊢
  have HX := Lib.hid (BlkAt.new w3 #[.int .i64 5, .int .i64 0, .int .i64 0, .slice a3 1 k3, .slice ad nd kd] 25)
  have HB4 := Lib.hid (HB3.out.alloc HB3.out.size (.cells #[.int .i64 5, .int .i64 0, .int .i64 0, .slice a3 1 k3, .slice ad nd kd] 25))
  have HO4 := Lib.hid (HO.out.below ((Below.refl _ w3).alloc (Nat.le_refl _) (.cells #[.int .i64 5, .int .i64 0, .int .i64 0, .slice a3 1 k3, .slice ad nd kd] 25)))
  obtain ⟨g, hg⟩ : ∃ g, w3.heap.size = g := ⟨_, rfl⟩
  obtain ⟨w4, hw4⟩ : ∃ x, w3.alloc (.cells #[.int .i64 5, .int .i64 0, .int .i64 0, .slice a3 1 k3, .slice ad nd kd] 25) = x := ⟨_, rfl⟩
  have hsz : w4.heap.size = g + 1 := by rw [← hw4, ← hg]; simp
  rw [hw4] at HX HB4 HO4
  rw [hg] at HX
  have hbj : Below w4.heap.size w4 (litW w4 [106, 117, 110, 107]) := litW_below _ _
  have hcv := litW_run w4 [106, 117, 110, 107] #[.int .u8 106, .int .u8 117, .int .u8 110, .int .u8 107] 4 rfl
  have HJ := Lib.hid (edDecode_any (.slice (some ⟨w4.heap.size, 0, none⟩) 4 4) [106, 117, 110, 107] _ (litW_rd w4 [106, 117, 110, 107] 4 rfl (by unfold maxLen; omega)))
  have HBJ := Lib.hid hbj
  rw [hsz] at HJ hcv
  generalize litW w4 [106, 117, 110, 107] = wj at *
  clear HO HB3 hbj
  go_wp2_with fail
  refine HJ.out.mono ?_
  rintro e w5 ⟨v5, c5, rfl, hd, hb⟩
  obtain ⟨rfl, rfl⟩ := hd.no edJunk
  have hb45 : Below w4.heap.size w4 w5 := HBJ.out.trans (hb.mono HBJ.out.size)
  have HX5 := Lib.hid (HX.out.below hb45)
  have HO5 := Lib.hid (HO4.out.below hb45)
  have HB5 := Lib.hid (HB4.out.trans (hb45.mono HB4.out.size))
  clear hb hb45 HX HO4 HB4 HJ HBJ hw4 hg hsz hcv
  unfold zeroEd
  have b6 : Below w5.heap.size w5 (w5.alloc (.cells #[.int .i64 0, .int .i64 0, .int .i64 0, .slice none 0 0, .slice none 0 0] 25)) := (Below.refl _ w5).alloc (Nat.le_refl _) _
  obtain ⟨d0, d1, d2, d3, d4, -, -, -, -, -⟩ := (HX5.out.below b6).cells5
  obtain ⟨b, off, rfl, hblt, e0, e1, e2, e3, e4⟩ := (HO5.out.below b6).atTbf 0 _ rfl
  simp only [Nat.zero_mul, Nat.add_zero] at e0 e1 e2 e3 e4
  have HB6 := Lib.hid (HB5.out.trans (b6.mono HB5.out.size))
  clear b6 HX5 HO5 HB5
  go_wp2_with fail
  go_ret
  exact ⟨rfl, HB6.out⟩
end Go.Proofs.Ytpaoabdjbdlalaa
