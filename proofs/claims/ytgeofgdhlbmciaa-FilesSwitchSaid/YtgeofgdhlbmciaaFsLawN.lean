/- The laws of files: their begun, and the law FilesNone. -/
import Derived.Test.YtgeofgdhlbmciaaFsOwn
namespace Go.Proofs.Ytgeofgdhlbmciaa
set_option linter.unusedVariables false
open Go.RowKit Go.Maps
set_option maxHeartbeats 4000000 in
set_option maxRecDepth 100000 in
theorem fbegun_any (w : World) : Calls Try.prog 10 #[] w fun e w' => e = .returned (.bool true) ∧ Below w.heap.size w w' := by
  have HN := Lib.hid (new_own 100 w)
  go_enter Try.func10, Try.ntmps10
  go_wp2_with fail
  refine HN.out.mono ?_
  rintro e w1 ⟨rfl, h1⟩
  obtain ⟨b, hb⟩ : ∃ b, w.heap.size = b := ⟨_, rfl⟩
  have h1' : FsOwn w w1 b ⟨[], [], [], [], 100, 0, none⟩ := by rw [← hb]; exact h1
  rw [hb]
  have H1 := Lib.hid h1'
  have HC := Lib.hid (create_own h1' nmA (by decide) (by simp))
  rw [one_create] at HC
  clear h1 h1' HN hb
  unfold nmA at HC
  go_wp2_with fail
  refine HC.out.mono ?_
  rintro e w2 ⟨rfl, h2⟩
  have H2 := Lib.hid h2
  clear HC h2 H1
  have hcv := litW_run w2 [120, 121, 122] #[.int .u8 120, .int .u8 121, .int .u8 122] 3 rfl
  have HA := Lib.hid (append_own H2.out (litW_below w2 [120, 121, 122]) nmA (by decide) _ [120, 121, 122] (litW_rd w2 [120, 121, 122] 3 rfl (by unfold maxLen; omega)) (fun k hk => by
    obtain rfl : w2.heap.size = k := Option.some.inj hk
    exact Nat.le_refl _) (by simp))
  rw [one_append _ _ _ _ _ _ _ (by simp)] at HA
  unfold nmA at HA
  go_wp2_with fail
  refine HA.out.mono ?_
  rintro e w3 ⟨rfl, h3⟩
  have H3 := Lib.hid h3
  clear HA h3 hcv H2
  simp only [List.nil_append] at H3
  go_wp2_with fail
  have HK := Lib.hid (crash_own H3.out ((Below.refl _ w3).alloc (Nat.le_refl _) (.cells #[.int .i64 2] 3)) 1 _ [2] (ints_one w3 2) (by simp) (by simp [oneF]))
  refine HK.out.mono ?_
  rintro e w4 ⟨b1, rfl, h4⟩
  have H4 := Lib.hid h4
  have H3b := Lib.hid (H3.out.below (((Below.refl _ w3).alloc (Nat.le_refl _) (.cells #[.int .i64 2] 3)).trans (h4.blw.mono (by simp))))
  clear HK h4 H3
  have HR := Lib.hid (read_own H4.out nmA (by decide) [120, 121] 0 (by rw [one_crash_all]; decide))
  unfold nmA at HR
  go_wp2_with fail
  refine HR.out.mono ?_
  rintro e w5 ⟨v5, rfl, o5, b5⟩
  have H5 := Lib.hid (H3b.out.below b5)
  have HO5 := Lib.hid o5
  obtain ⟨a5, l5, p5, rfl⟩ := row_form o5
  clear HR o5 b5 H3b H4
  go_wp2_with fail
  have HK := Lib.hid (crash_own H5.out (Below.refl _ w5) 0 (.slice none 0 0) [] (RdV.nil _ _ _) (by simp) (by simp [oneF]))
  refine HK.out.mono ?_
  rintro e w6 ⟨b2, rfl, h6⟩
  have H6 := Lib.hid h6
  have H5b := Lib.hid (H5.out.below h6.blw)
  have HO6 : Hid (RdB w6 (.slice a5 l5 p5) [120, 121]) := Lib.hid ((OwnB.rd HO5.out).below h6.blw)
  clear HK h6 H5 HO5
  have HR := Lib.hid (read_own H6.out nmA (by decide) [] 3 (one_crash_none _ _ _ _ _ _ _))
  unfold nmA at HR
  go_wp2_with fail
  refine HR.out.mono ?_
  rintro e w7 ⟨v7, rfl, o7, b7⟩
  have H7 := Lib.hid (H5b.out.below b7)
  have htx := (HO6.out.below b7).text
  obtain ⟨a7, l7, p7, rfl⟩ := row_form o7
  have HC := Lib.hid (calls_own H7.out)
  have HU := Lib.hid (used_own H7.out)
  rw [show (oneF [120, 121, 122] 0 [] [mkA] 100 (inc64 (inc64 0)) none).calls = 2 from (by rw [show (0 : Int) = ((0 : Nat) : Int) from rfl, inc64_nat 0 (by omega), inc64_nat 1 (by omega)]; rfl : inc64 (inc64 0) = 2)] at HC
  rw [one_used] at HU
  have hbe : ((⟨#[120, 121]⟩ : ByteArray).toList == (⟨#[120, 121]⟩ : ByteArray).toList) = true := by simp
  have HB7 := Lib.hid H7.out.blw
  clear HR o7 b7 H5b HO6 H6 H7
  go_wp2_with fail
  refine HC.out.mono ?_
  rintro e w8 ⟨rfl, rfl⟩
  go_wp2_with fail
  refine HU.out.mono ?_
  rintro e w8 ⟨rfl, b8⟩
  have HB8 := Lib.hid (HB7.out.trans (b8.mono HB7.out.size))
  clear HC HU b8 htx hbe HB7
  go_wp2_with fail
  go_ret
  exact ⟨rfl, HB8.out⟩
set_option maxHeartbeats 4000000 in
set_option maxRecDepth 100000 in
theorem filesNone_walk (w : World) : Calls Try.prog 3 #[] w fun e w' => e = .returned (.bool true) ∧ Below w.heap.size w w' := by
  have H1 := Lib.hid (fun w => nil_read w ⟨#[97]⟩)
  have H2 := Lib.hid (fun w => nil_fail w 1)
  have H3 := Lib.hid (fun w => nil_room w 1)
  have H4 := Lib.hid (fun w => nil_create w ⟨#[97]⟩)
  have H5 := Lib.hid (fun w => nil_append w ⟨#[97]⟩ (.slice none 0 0))
  have H6 := Lib.hid (fun w => nil_sync w ⟨#[97]⟩)
  have H7 := Lib.hid (fun w => nil_syncDir w)
  have H8 := Lib.hid (fun w => nil_rename w ⟨#[97]⟩ ⟨#[98]⟩)
  have H9 := Lib.hid (fun w => nil_remove w ⟨#[97]⟩)
  have H10 := Lib.hid (fun w => nil_names w)
  have H11 := Lib.hid (fun w => nil_used w)
  have H12 := Lib.hid (fun w => nil_calls w)
  have H13 := Lib.hid (fun w => nil_crash w 0 (.slice none 0 0))
  have H14 := Lib.hid (fun w => nil_spoil w ⟨#[97]⟩ 0 1)
  go_enter Try.func3, Try.ntmps3
  go_wp2_with fail
  refine (H1.out _).mono ?_
  rintro e w' ⟨rfl, rfl⟩
  go_wp2_with fail
  refine (H2.out _).mono ?_
  rintro e w' ⟨rfl, rfl⟩
  go_wp2_with fail
  refine (H3.out _).mono ?_
  rintro e w' ⟨rfl, rfl⟩
  go_wp2_with fail
  refine (fbegun_any _).mono ?_
  rintro e w1 ⟨rfl, hb⟩
  have HB := Lib.hid hb
  clear hb H1 H2 H3
  go_wp2_with fail
  refine (H4.out _).mono ?_
  rintro e w' ⟨rfl, rfl⟩
  clear H4
  go_wp2_with fail
  refine (H5.out _).mono ?_
  rintro e w' ⟨rfl, rfl⟩
  clear H5
  go_wp2_with fail
  refine (H6.out _).mono ?_
  rintro e w' ⟨rfl, rfl⟩
  clear H6
  go_wp2_with fail
  refine (H7.out _).mono ?_
  rintro e w' ⟨rfl, rfl⟩
  clear H7
  go_wp2_with fail
  refine (H8.out _).mono ?_
  rintro e w' ⟨rfl, rfl⟩
  clear H8
  go_wp2_with fail
  refine (H9.out _).mono ?_
  rintro e w' ⟨rfl, rfl⟩
  clear H9
  go_wp2_with fail
  refine (H10.out _).mono ?_
  rintro e w' ⟨rfl, rfl⟩
  clear H10
  go_wp2_with fail
  refine (H11.out _).mono ?_
  rintro e w' ⟨rfl, rfl⟩
  clear H11
  go_wp2_with fail
  refine (H12.out _).mono ?_
  rintro e w' ⟨rfl, rfl⟩
  clear H12
  go_wp2_with fail
  refine (H13.out _).mono ?_
  rintro e w' ⟨rfl, rfl⟩
  clear H13
  go_wp2_with fail
  refine (H14.out _).mono ?_
  rintro e w' ⟨rfl, rfl⟩
  clear H14
  go_wp2_with fail
  go_ret
  exact ⟨rfl, HB.out⟩
end Go.Proofs.Ytgeofgdhlbmciaa
