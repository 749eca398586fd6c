/- The walk of incipitlaw20.VersionAll. -/
import Derived.Test.YtjloaamaelcmaaaVerMade
import Derived.Test.YtjloaamaelcmaaaVerBegun
import Derived.Test.YtjloaamaelcmaaaVerLvl
import Derived.Test.YtjloaamaelcmaaaVerROv
import Derived.Test.YtjloaamaelcmaaaMEdtR
namespace Go.Proofs.Ytjloaamaelcmaaa
set_option linter.unusedVariables false
set_option maxRecDepth 100000
open Go.RowKit
theorem FilsTo.of_eq {w : World} {l m : List Tbf} {e : Ending} {w' : World} (h : FilsTo w l e w') (q : l = m) : FilsTo w m e w' := q ▸ h
set_option maxHeartbeats 8000000 in
theorem versionAll_walk (w : World) (a : Option Addr) (len cap : Nat) (xs : List Edt) (hx : EdtsAt w (.slice a len cap) xs) (hok : ∀ x ∈ xs, ∀ f ∈ x.adds, f.ok) (lv : Int) (hlv : (Lit.int .i64 lv).wf = true) (sa : ByteArray) (hsa : sa.size ≤ maxLen) (sb : ByteArray) (hsb : sb.size ≤ maxLen) :
    Calls Try.prog 3 #[.slice a len cap, .int .i64 lv, .string sa, .string sb] w fun e w' => e = .returned (.bool true) ∧ Below w.heap.size w w' := by
  have HBG := Lib.hid (vbegun_any w)
  have HMD : Hid (∀ W, Below w.heap.size w W → Calls Try.prog 9 #[.slice a len cap, .int .i64 15] W (MadeTo W)) := Lib.hid fun W hW => vmade_any _ xs hok 15 (by omega) W (hx.below hW)
  clear hx hok hlv hsa hsb
  go_enter Try.func3, Try.ntmps3
  go_wp2_with fail
  refine HBG.out.mono ?_
  rintro e w1 ⟨rfl, hb⟩
  have HB1 := Lib.hid hb
  clear hb HBG
  go_wp2_with fail
  refine (HMD.out _ HB1.out).mono ?_
  rintro e w2 ⟨b, c, V, W, rfl, hT, -, hb⟩
  have HB2 := Lib.hid (HB1.out.trans (hb.mono HB1.out.size))
  have HT2 := Lib.hid hT
  have HOK : Hid (∀ f ∈ (if 0 ≤ lv ∧ lv < 5 then overV lv sa sb W.fs else []), f.ok) := Lib.hid (by
    rw [← ver_over hT.v.good hT.v.srt hT.s lv sa sb]
    exact fun f hf => good_ok hT.v.good f (List.mem_filter.1 hf).1)
  have hlen : (if 0 ≤ lv ∧ lv < 5 then overV lv sa sb W.fs else []).length ≤ 200 := by
    rw [← ver_over hT.v.good hT.v.srt hT.s lv sa sb]
    exact Nat.le_trans (List.length_filter_le _ _) hT.v.good.few
  have HLEN := Lib.hid hlen
  have HO1 : Hid (Calls Try.prog 11 #[.pointer (some ⟨b, 0, none⟩), .int .i64 lv, .string sa, .string sb] w2 (FilsTo w2 (if 0 ≤ lv ∧ lv < 5 then overV lv sa sb W.fs else []))) := Lib.hid ((vover_raw hT.v lv sa sb).mono fun e w' h => h.of_eq (ver_over hT.v.good hT.v.srt hT.s lv sa sb))
  have HO2 : Hid (∀ W2, Below w2.heap.size w2 W2 → Calls Try.prog 12 #[.pointer (some ⟨c, 0, none⟩), .int .i64 lv, .string sa, .string sb] W2 (FilsTo W2 (if 0 ≤ lv ∧ lv < 5 then overV lv sa sb W.fs else []))) := Lib.hid fun W2 hW => by
    obtain ⟨fv, h1, h2⟩ := (hT.r.below hW).blk
    exact lover_any h1 (h2.rd encTbf_len) (by have := hT.r.good.few; omega) lv sa sb
  clear hT hb HMD HB1 hlen
  generalize (if 0 ≤ lv ∧ lv < 5 then overV lv sa sb W.fs else []) = ys at *
  go_wp2_with fail
  refine HO1.out.mono ?_
  rintro e w3 ⟨u, rfl, ho, hb⟩
  have HB3 := Lib.hid (HB2.out.trans (hb.mono HB2.out.size))
  have HT3 := Lib.hid (HT2.out.below hb)
  have HQ := Lib.hid (HO2.out w3 hb)
  obtain ⟨a3, c3, rfl⟩ := fil_form ho
  have HY := Lib.hid (ho.rd encTbf_len)
  clear ho hb HO1 HO2 HB2 HT2
  go_wp2_with fail
  refine HQ.out.mono ?_
  rintro e w4 ⟨u, rfl, ho, hb⟩
  have HB4 := Lib.hid (HB3.out.trans (hb.mono HB3.out.size))
  have HT4 := Lib.hid (HT3.out.below hb)
  have HE := Lib.hid (reqF_any _ _ _ _ HOK.out HOK.out (by have := HLEN.out; omega) (by have := HLEN.out; omega) w4 (HY.out.below hb) (ho.rd encTbf_len))
  obtain ⟨a4, c4, rfl⟩ := fil_form ho
  clear ho hb HQ HB3 HT3 HY HOK HLEN
  generalize ys.length = nY at *
  go_wp2_with fail
  refine HE.out.mono ?_
  rintro e w5 ⟨q, hq, rfl, hb⟩
  obtain rfl : q = true := by simpa using hq
  have HB5 := Lib.hid (HB4.out.trans (hb.mono HB4.out.size))
  have HT5 := Lib.hid (HT4.out.below hb)
  have HNEW := Lib.hid (vnew_any w5)
  have HV0 := Lib.hid (vnew_at w5 w5.heap.size)
  have hb0 := (Below.refl w5.heap.size w5).alloc (Nat.le_refl _) (.cells #[.slice none 0 0, .int .i64 0, .int .i64 0, .int .i64 0] 58)
  have HT6 := Lib.hid (HT5.out.below hb0)
  have HB6 := Lib.hid (HB5.out.trans (hb0.mono HB5.out.size))
  have hge : w.heap.size ≤ w5.heap.size := HB5.out.size
  clear hq hb HE HB4 HT4 hb0
  go_wp2_with fail
  refine HNEW.out.mono ?_
  rintro e w6 ⟨rfl, hw6⟩
  rw [← hw6] at HV0 HT6 HB6
  clear hw6 HNEW HT5 HB5
  obtain ⟨d, hd⟩ : ∃ d, w5.heap.size = d := ⟨_, rfl⟩
  rw [hd] at HV0 hge ⊢
  have HG := Lib.hid HT6.out.v.good
  have HED := Lib.hid (vedit_any HT6.out.v)
  clear hd
  go_wp2_with fail
  refine HED.out.mono ?_
  rintro e w7 ⟨u, rfl, ho, hb⟩
  have hfe : EdAt w7 (.agg #[.int .i64 V.nx, .int .i64 V.lg, .int .i64 V.ls, u, .slice none 0 0]) ⟨V.nx, V.lg, V.ls, V.fs, []⟩ := ⟨_, _, rfl, ho.rd encTbf_len, RdV.nil _ _ _⟩
  have hok : (⟨V.nx, V.lg, V.ls, V.fs, []⟩ : Edt).ok := ⟨good_ok HG.out, by have := HG.out.few; show V.fs.length ≤ _; omega, by simp⟩
  have HV7 := Lib.hid (HV0.out.below hb)
  have HAP := Lib.hid (vapply_any HV7.out (by have := HV7.out.lt; omega) _ _ hfe hok)
  have HB7 := Lib.hid (HB6.out.trans (hb.mono HB6.out.size))
  have HT7 := Lib.hid (HT6.out.below hb)
  obtain ⟨a7, c7, rfl⟩ := fil_form ho
  have HIS := Lib.hid (applyV_edit HG.out (List.Perm.refl V.fs))
  clear ho hb hfe hok HB6 HT6 HV0 HED
  go_wp2_with fail
  refine HAP.out.mono ?_
  rintro e w8 ⟨k, V2, rfl, hv, hu, -, h2⟩
  obtain ⟨rfl, hs⟩ := h2 _ HIS.out
  obtain ⟨tv, n0, hbv, -, -⟩ := HV7.out.blk
  have hr8 := HT7.out.r.aside hu hbv (by decide) (by decide)
  have hs8 : vSame V2 W := hs.symm.trans (vSame.trans ⟨List.Perm.refl _, rfl, rfl, rfl⟩ HT7.out.s)
  have HSM := Lib.hid (vsame_any hv hr8 hs8)
  have HB8 := Lib.hid (HB7.out.trans (UpdF.below hu HB7.out.size fun k hk e => by omega))
  clear hr8 hs8 hs hv hu h2 hbv HAP HV7 HT7 HB7 HIS HG
  go_wp2_with fail
  refine HSM.out.mono ?_
  rintro e w9 ⟨rfl, hb⟩
  have HB9 := Lib.hid (HB8.out.trans (hb.mono HB8.out.size))
  clear hb HSM HB8
  go_wp2_with fail
  go_ret
  exact ⟨rfl, HB9.out⟩
end Go.Proofs.Ytjloaamaelcmaaa
