/- The walk of the law TableAll. -/
import Derived.Test.YtennpdhnjaemeaaDoorTblFro
import Derived.Test.YtennpdhnjaemeaaDoorTblWeigh
import Derived.Test.YtennpdhnjaemeaaDoorMBase
import Derived.Deep.RegionHeld3
namespace Go.Proofs.YtennpdhnjaemeaaDoor
set_option linter.unusedVariables false
set_option maxRecDepth 100000
open Go.RowKit
set_option maxHeartbeats 16000000 in
theorem tableAll_walk (w : World) (ht : TabAt w) (a0 : Option Addr) (len0 cap0 : Nat) (xs : List Ent) (hrd : RdK encEnt 5 w (.slice a0 len0 cap0) xs) (hok : ∀ e ∈ xs, e.ok) (n : ByteArray) (hn : n.size ≤ maxLen) (q : Int) (hq : (Lit.int .i64 q).wf = true) :
    Calls Tryd.prog 3 #[.slice a0 len0 cap0, .string n, .int .i64 q] w fun e w' => e = .returned (.bool true) ∧ Below w.heap.size w w' := by
  have HT := Lib.hid ht
  have HBG := Lib.hid (tbegun_any w ht)
  have HSO : Hid (∀ W, Below w.heap.size w W → Calls Tryd.prog 10 #[.slice a0 len0 cap0, .int .i64 60] W (SortResN 60 W)) := Lib.hid (fun W hW => sortN_any 60 (by decide) _ xs hok W (hrd.below hW))
  have HNS : Hid (n.size ≤ maxLen) := Lib.hid hn
  clear ht hrd hok hn hq
  go_enter Tryd.func3, Tryd.ntmps3
  go_wp2_with fail
  refine HBG.out.mono ?_
  rintro e w1 ⟨rfl, b1⟩
  have HB1 := Lib.hid b1
  have HS1 := Lib.hid (HSO.out w1 b1)
  clear b1 HBG HSO
  go_wp2_with fail
  refine HS1.out.mono ?_
  rintro e w2 ⟨v, ys, rfl, hv, hyl, hgl, b2⟩
  obtain ⟨a, cap, rfl, hcy, -⟩ := hv.kform
  have HB2 := Lib.hid (HB1.out.trans (b2.mono HB1.out.size))
  have HV2 := Lib.hid (hv.rd encEnt_len)
  have HGL := Lib.hid hgl
  obtain ⟨len, hlen⟩ : ∃ x, ys.length = x := ⟨_, rfl⟩
  rw [hlen] at HV2 hyl hcy ⊢
  have HLN := Lib.hid hlen
  clear hv hgl hlen b2 HS1 HB1
  rcases Nat.eq_zero_or_pos len with h0 | h0
  · have hy : ys = [] := List.eq_nil_of_length_eq_zero (by rw [HLN.out]; exact h0)
    subst h0
    have HBD := Lib.hid (build_no (.slice a 0 cap) ys (by rw [hy]; decide) (by rw [hy]; exact areP_nil) w2 HV2.out)
    clear hy
    go_wp2_with fail
    refine HBD.out.mono ?_
    rintro e w3 ⟨rfl, b3⟩
    have HB3 := Lib.hid (HB2.out.trans (b3.mono HB2.out.size))
    clear b3 HBD HB2
    go_wp2_with fail
    go_ret
    exact ⟨rfl, HB3.out⟩
  have hne : ys ≠ [] := by rintro rfl; have := HLN.out; rw [List.length_nil] at this; omega
  have HBD := Lib.hid (build_good ys hne (by rw [HLN.out]; omega) (areP_of HGL.out hne) HGL.out.fit (.slice a len cap) w2 (HT.out.below HB2.out) HV2.out)
  have hz0 : ((len : Int) == 0) = false := by rw [beq_eq_false_iff_ne]; omega
  clear hne
  go_wp2_with fail
  refine HBD.out.mono ?_
  rintro e w3 ⟨v3, ps, ss, rfl, hmd, o3, b3⟩
  obtain ⟨a3, n3, c3, rfl, hn3, -⟩ := o3.form
  have HB3 := Lib.hid (HB2.out.trans (b3.mono HB2.out.size))
  have HV3 := Lib.hid (HV2.out.below b3)
  have HOP := Lib.hid (open_good hmd _ w3 (HT.out.below HB3.out) o3.rd)
  obtain ⟨WS, hWS⟩ : ∃ x, sumE 0 ys = x := ⟨_, rfl⟩
  have hsm : n3 ≤ 2 * WS + 60 * len + 100 := by rw [hn3, ← hWS, ← HLN.out]; exact made_sm hmd
  have hpn : 1 ≤ ps.length := List.length_pos_iff.2 hmd.psne
  have HWE := Lib.hid (fun W hW => weigh_any (.slice a len cap) ys (by rw [HLN.out]; omega) HGL.out.fit W hW)
  have hws : WS ≤ 180 * len := by
    rw [← hWS, ← HLN.out]
    have H : ∀ l : List Ent, (∀ e ∈ l, FitE 60 e) → sumE 0 l ≤ 180 * l.length := by
      intro l
      induction l with
      | nil => intro _; exact Nat.zero_le _
      | cons x r ih =>
        intro h
        have h1 := ih fun e he => h e (List.mem_cons_of_mem _ he)
        obtain ⟨f1, f2, f3⟩ := h x (by simp)
        rw [sumE, List.length_cons]
        unfold wE
        omega
    exact H ys HGL.out.fit
  rw [hWS] at HWE
  clear hmd o3 b3 hn3 hWS HBD HB2 HV2
  go_wp2_with fail
  refine HOP.out.mono ?_
  rintro e w4 ⟨g, rfl, htk, b4⟩
  have HTK4 := Lib.hid htk
  have HB4 := Lib.hid (HB3.out.trans (b4.mono HB3.out.size))
  have HV4 := Lib.hid (HV3.out.below b4)
  have HW4 := Lib.hid (HWE.out w4 HV4.out)
  have hcmp : ¬ 2 * (WS : Int) + 60 * (len : Int) + 100 < (n3 : Int) := by omega
  clear htk b4 HOP HB3 HV3 HWE
  go_wp2_with fail
  refine HW4.out.mono ?_
  rintro e w5 ⟨rfl, b5⟩
  have HB5 := Lib.hid (HB4.out.trans (b5.mono HB4.out.size))
  have htk5 := HTK4.out.below b5
  have HTK5 := Lib.hid htk5
  have HV5 := Lib.hid (HV4.out.below b5)
  have HLE := Lib.hid (tlen_any htk5.at')
  have HBL := Lib.hid (tblocks_any htk5.at')
  have hfl : (flatP ps).length = len := by rw [htk5.flat, HLN.out]
  rw [hfl] at HLE
  have hnl : ((len : Int) != (len : Int)) = false := by simp
  have hpn' : ¬ (ps.length : Int) < 1 := by omega
  generalize ps.length = np at *
  clear htk5 hfl b5 HB4 HV4 HTK4 HW4
  go_wp2_with fail
  refine HLE.out.mono ?_
  rintro e w' ⟨rfl, rfl⟩
  go_wp2_with fail
  refine HBL.out.mono ?_
  rintro e w' ⟨rfl, rfl⟩
  have HAL := Lib.hid (tall_any HTK5.out)
  clear HLE HBL
  go_wp2_with fail
  refine HAL.out.mono ?_
  rintro e w6 hr
  obtain ⟨av, hav, ho6, b6⟩ : ∃ v, e = .returned (.tuple #[v, .int .i64 0]) ∧ OwnK encEnt 5 39 w5.heap.size w6 v ys ∧ Below w5.heap.size w5 w6 := by
    rcases hr with hr | ⟨hr, -⟩
    · exact hr
    · exact absurd rfl hr
  subst hav
  obtain ⟨a6, c6, rfl, -⟩ := ho6.kform
  have HB6 := Lib.hid (HB5.out.trans (b6.mono HB5.out.size))
  have HTK6 := Lib.hid (HTK5.out.below b6)
  have HV6 := Lib.hid (HV5.out.below b6)
  have HEQ := Lib.hid (eqall_same _ _ ys (by rw [HLN.out]; omega) w6 (ho6.rd encEnt_len) HV6.out)
  rw [HLN.out] at HEQ ⊢
  clear hr ho6 b6 HAL HB5 HTK5 HV5 hcmp hsm hws
  go_wp2_with fail
  refine HEQ.out.mono ?_
  rintro e wx ⟨rfl, b7⟩
  have HBX := Lib.hid (HB6.out.trans (b7.mono HB6.out.size))
  have HTKX := Lib.hid (HTK6.out.below b7)
  have HVX := Lib.hid (HV6.out.below b7)
  have HGY := Lib.hid (fun W (hW : Below wx.heap.size wx W) n hn q => gets_yes (HTKX.out.below hW) (.slice a len cap) (HVX.out.below hW) n hn q)
  have HFY := Lib.hid (fun W (hW : Below wx.heap.size wx W) n => from_yes (HTKX.out.below hW) (.slice a len cap) (HVX.out.below hW) n)
  clear b7 HEQ HB6 HTK6 HV6 HTKX
  go_wp2_with fail
  go_loopg [14] len (fun kk vi wr => ∃ i : Nat, vi = .int .i64 (i : Int) ∧ i ≤ len ∧ len - i ≤ kk ∧ Hid (Below wx.heap.size wx wr))
  case atStart => exact ⟨0, rfl, by omega, by omega, Lib.hid (Below.refl _ _)⟩
  case round =>
    obtain ⟨i, rfl, hi, hik, HB⟩ := hrel
    by_cases h1 : i < len
    · have hi1 : (i : Int) < (len : Int) := by omega
      have hi0 : (0 : Int) ≤ (i : Int) := by omega
      obtain ⟨e, he⟩ : ∃ e, ys[i]? = some e := ⟨ys[i]'(by rw [HLN.out]; exact h1), List.getElem?_eq_getElem _⟩
      obtain ⟨bb, ox, rfl, hblt, hat⟩ := HVX.out.at5 HLN.out.symm i e he
      have hfe := HGL.out.fit e (List.mem_of_getElem? he)
      have hre := HGL.out.right e (List.mem_of_getElem? he)
      obtain ⟨xn, xq, xk, xs', xv⟩ := e
      have HAT := Lib.hid hat
      have hxs : xn.size ≤ maxLen := by have := hfe.norm; unfold maxLen; simp only at this; omega
      have hq1 : 1 ≤ xq := hre.seq1
      have hq2 : xq ≤ 1125899906842624 := hre.seq2
      have hqw : IntKind.i64.wrap (xq - 1) = xq - 1 := IntWalk.i64_in _ (by omega)
      have B := HB.out
      clear he hat hfe hre hq1 hq2 HB
      go_wp2_with fail
      refine wp_region_held_drew (S := Below wr.heap.size wr) (by kernel_rfl) (Below.refl _ _).drew (fun hHeld => ?_)
      generalize wr.drew = wd2 at hHeld ⊢
      refine wpAnyH_shift hHeld ?_
      replace B : Below wx.heap.size wx wd2 := B.trans (hHeld.mono B.size)
      clear hHeld
      refine takeYes (i := 0) (k := 90) (v := .pointer (some ⟨g, 0, none⟩)) rfl (by kernel_rfl) (by kernel_rfl) (by kernel_rfl) (by kernel_rfl) (fun _ _ _ h => h) (by kernel_rfl) ?_ (Below.refl _ _) ?_
      · intro W hSw; first | (go_simp; done) | go_simp
      try simp only [Act.put, List.setIfInBounds_toArray, List.set_cons_zero, List.set_cons_succ]
      refine takeYes (i := 1) (k := 91) (v := .slice (some ⟨bb, ox, none⟩) len cap) rfl (by kernel_rfl) (by kernel_rfl) (by kernel_rfl) (by kernel_rfl) (fun _ _ _ h => h) (by kernel_rfl) ?_ (Below.refl _ _) ?_
      · intro W hSw; first | (go_simp; done) | go_simp
      try simp only [Act.put, List.setIfInBounds_toArray, List.set_cons_zero, List.set_cons_succ]
      refine takeYes (i := 2) (k := 92) (v := .slice (some ⟨bb, ox, none⟩) len cap) rfl (by kernel_rfl) (by kernel_rfl) (by kernel_rfl) (by kernel_rfl) (fun _ _ _ h => h) (by kernel_rfl) ?_ (Below.refl _ _) ?_
      · intro W hSw; first | (go_simp; done) | go_simp
      try simp only [Act.put, List.setIfInBounds_toArray, List.set_cons_zero, List.set_cons_succ]
      refine takeYes (i := 3) (k := 93) (v := .int .i64 (i : Int)) rfl (by kernel_rfl) (by kernel_rfl) (by kernel_rfl) (by kernel_rfl) (fun _ _ _ h => h) (by kernel_rfl) ?_ (Below.refl _ _) ?_
      · intro W hSw; first | (go_simp; done) | go_simp
      try simp only [Act.put, List.setIfInBounds_toArray, List.set_cons_zero, List.set_cons_succ]
      refine takeYes (i := 4) (k := 94) (v := .pointer (some ⟨bb, ox + i * 5, none⟩)) rfl (by kernel_rfl) (by kernel_rfl) (by kernel_rfl) (by kernel_rfl) (fun _ _ _ h => h) (by kernel_rfl) ?_ (Below.refl _ _) ?_
      · intro W hSw; first | (go_simp; done) | go_simp
      try simp only [Act.put, List.setIfInBounds_toArray, List.set_cons_zero, List.set_cons_succ]
      refine takeYes (i := 5) (k := 95) (v := .pointer (some ⟨bb, ox + i * 5, none⟩)) rfl (by kernel_rfl) (by kernel_rfl) (by kernel_rfl) (by kernel_rfl) (fun _ _ _ h => h) (by kernel_rfl) ?_ (Below.refl _ _) ?_
      · intro W hSw; first | (go_simp; done) | go_simp
      try simp only [Act.put, List.setIfInBounds_toArray, List.set_cons_zero, List.set_cons_succ]
      refine takeYes (i := 6) (k := 96) (v := .string xn) rfl (by kernel_rfl) (by kernel_rfl) (by kernel_rfl) (by kernel_rfl) (fun _ _ _ h => h) (by kernel_rfl) ?_ (Below.refl _ _) ?_
      · intro W hSw; obtain ⟨d0, d1, -⟩ := HAT.out.under hblt (B.trans (hSw.mono B.size)); simp only at d0 d1; first | (go_simp; done) | go_simp
      try simp only [Act.put, List.setIfInBounds_toArray, List.set_cons_zero, List.set_cons_succ]
      refine takeYes (i := 7) (k := 97) (v := .slice (some ⟨bb, ox, none⟩) len cap) rfl (by kernel_rfl) (by kernel_rfl) (by kernel_rfl) (by kernel_rfl) (fun _ _ _ h => h) (by kernel_rfl) ?_ (Below.refl _ _) ?_
      · intro W hSw; first | (go_simp; done) | go_simp
      try simp only [Act.put, List.setIfInBounds_toArray, List.set_cons_zero, List.set_cons_succ]
      refine takeYes (i := 8) (k := 98) (v := .int .i64 (i : Int)) rfl (by kernel_rfl) (by kernel_rfl) (by kernel_rfl) (by kernel_rfl) (fun _ _ _ h => h) (by kernel_rfl) ?_ (Below.refl _ _) ?_
      · intro W hSw; first | (go_simp; done) | go_simp
      try simp only [Act.put, List.setIfInBounds_toArray, List.set_cons_zero, List.set_cons_succ]
      refine takeYes (i := 9) (k := 99) (v := .pointer (some ⟨bb, ox + i * 5, none⟩)) rfl (by kernel_rfl) (by kernel_rfl) (by kernel_rfl) (by kernel_rfl) (fun _ _ _ h => h) (by kernel_rfl) ?_ (Below.refl _ _) ?_
      · intro W hSw; first | (go_simp; done) | go_simp
      try simp only [Act.put, List.setIfInBounds_toArray, List.set_cons_zero, List.set_cons_succ]
      refine takeYes (i := 10) (k := 100) (v := .pointer (some ⟨bb, ox + i * 5 + 1, none⟩)) rfl (by kernel_rfl) (by kernel_rfl) (by kernel_rfl) (by kernel_rfl) (fun _ _ _ h => h) (by kernel_rfl) ?_ (Below.refl _ _) ?_
      · intro W hSw; first | (go_simp; done) | go_simp
      try simp only [Act.put, List.setIfInBounds_toArray, List.set_cons_zero, List.set_cons_succ]
      refine takeYes (i := 11) (k := 101) (v := .int .i64 xq) rfl (by kernel_rfl) (by kernel_rfl) (by kernel_rfl) (by kernel_rfl) (fun _ _ _ h => h) (by kernel_rfl) ?_ (Below.refl _ _) ?_
      · intro W hSw; obtain ⟨d0, d1, -⟩ := HAT.out.under hblt (B.trans (hSw.mono B.size)); simp only at d0 d1; first | (go_simp; done) | go_simp
      try simp only [Act.put, List.setIfInBounds_toArray, List.set_cons_zero, List.set_cons_succ]
      refine wpAnyH_ready (rs := [12]) (by kernel_rfl) (by simp) (AllReadyH.cons rfl (fun K hK => ?_) AllReadyH.nil)
      go_simp
      refine (HGY.out _ B xn hxs xq).mono ?_
      rintro e wd3 ⟨rfl, hb3⟩
      refine hK.out _ _ hb3 (fun _ => wpAnyH_shift hb3 ?_)
      clear hK K
      replace B : Below wx.heap.size wx wd3 := B.trans (hb3.mono B.size)
      clear hb3
      try simp only [Act.put, List.setIfInBounds_toArray, List.set_cons_zero, List.set_cons_succ]
      refine takeYes (i := 13) (k := 103) (v := .bool false) rfl (by kernel_rfl) (by kernel_rfl) (by kernel_rfl) (by kernel_rfl) (fun _ _ _ h => h) (by kernel_rfl) ?_ (Below.refl _ _) ?_
      · intro W hSw; first | (go_simp; done) | go_simp
      try simp only [Act.put, List.setIfInBounds_toArray, List.set_cons_zero, List.set_cons_succ]
      refine takeYes (i := 14) (k := 104) (v := .bool false) rfl (by kernel_rfl) (by kernel_rfl) (by kernel_rfl) (by kernel_rfl) (fun _ _ _ h => h) (by kernel_rfl) ?_ (Below.refl _ _) ?_
      · intro W hSw; first | (go_simp; done) | go_simp
      try simp only [Act.put, List.setIfInBounds_toArray, List.set_cons_zero, List.set_cons_succ]
      refine takeYes (i := 15) (k := 105) (v := .pointer (some ⟨g, 0, none⟩)) rfl (by kernel_rfl) (by kernel_rfl) (by kernel_rfl) (by kernel_rfl) (fun _ _ _ h => h) (by kernel_rfl) ?_ (Below.refl _ _) ?_
      · intro W hSw; first | (go_simp; done) | go_simp
      try simp only [Act.put, List.setIfInBounds_toArray, List.set_cons_zero, List.set_cons_succ]
      refine takeYes (i := 16) (k := 106) (v := .slice (some ⟨bb, ox, none⟩) len cap) rfl (by kernel_rfl) (by kernel_rfl) (by kernel_rfl) (by kernel_rfl) (fun _ _ _ h => h) (by kernel_rfl) ?_ (Below.refl _ _) ?_
      · intro W hSw; first | (go_simp; done) | go_simp
      try simp only [Act.put, List.setIfInBounds_toArray, List.set_cons_zero, List.set_cons_succ]
      refine takeYes (i := 17) (k := 107) (v := .slice (some ⟨bb, ox, none⟩) len cap) rfl (by kernel_rfl) (by kernel_rfl) (by kernel_rfl) (by kernel_rfl) (fun _ _ _ h => h) (by kernel_rfl) ?_ (Below.refl _ _) ?_
      · intro W hSw; first | (go_simp; done) | go_simp
      try simp only [Act.put, List.setIfInBounds_toArray, List.set_cons_zero, List.set_cons_succ]
      refine takeYes (i := 18) (k := 108) (v := .int .i64 (i : Int)) rfl (by kernel_rfl) (by kernel_rfl) (by kernel_rfl) (by kernel_rfl) (fun _ _ _ h => h) (by kernel_rfl) ?_ (Below.refl _ _) ?_
      · intro W hSw; first | (go_simp; done) | go_simp
      try simp only [Act.put, List.setIfInBounds_toArray, List.set_cons_zero, List.set_cons_succ]
      refine takeYes (i := 19) (k := 109) (v := .pointer (some ⟨bb, ox + i * 5, none⟩)) rfl (by kernel_rfl) (by kernel_rfl) (by kernel_rfl) (by kernel_rfl) (fun _ _ _ h => h) (by kernel_rfl) ?_ (Below.refl _ _) ?_
      · intro W hSw; first | (go_simp; done) | go_simp
      try simp only [Act.put, List.setIfInBounds_toArray, List.set_cons_zero, List.set_cons_succ]
      refine takeYes (i := 20) (k := 110) (v := .pointer (some ⟨bb, ox + i * 5, none⟩)) rfl (by kernel_rfl) (by kernel_rfl) (by kernel_rfl) (by kernel_rfl) (fun _ _ _ h => h) (by kernel_rfl) ?_ (Below.refl _ _) ?_
      · intro W hSw; first | (go_simp; done) | go_simp
      try simp only [Act.put, List.setIfInBounds_toArray, List.set_cons_zero, List.set_cons_succ]
      refine takeYes (i := 21) (k := 111) (v := .string xn) rfl (by kernel_rfl) (by kernel_rfl) (by kernel_rfl) (by kernel_rfl) (fun _ _ _ h => h) (by kernel_rfl) ?_ (Below.refl _ _) ?_
      · intro W hSw; obtain ⟨d0, d1, -⟩ := HAT.out.under hblt (B.trans (hSw.mono B.size)); simp only at d0 d1; first | (go_simp; done) | go_simp
      try simp only [Act.put, List.setIfInBounds_toArray, List.set_cons_zero, List.set_cons_succ]
      refine takeYes (i := 22) (k := 112) (v := .slice (some ⟨bb, ox, none⟩) len cap) rfl (by kernel_rfl) (by kernel_rfl) (by kernel_rfl) (by kernel_rfl) (fun _ _ _ h => h) (by kernel_rfl) ?_ (Below.refl _ _) ?_
      · intro W hSw; first | (go_simp; done) | go_simp
      try simp only [Act.put, List.setIfInBounds_toArray, List.set_cons_zero, List.set_cons_succ]
      refine takeYes (i := 23) (k := 113) (v := .int .i64 (i : Int)) rfl (by kernel_rfl) (by kernel_rfl) (by kernel_rfl) (by kernel_rfl) (fun _ _ _ h => h) (by kernel_rfl) ?_ (Below.refl _ _) ?_
      · intro W hSw; first | (go_simp; done) | go_simp
      try simp only [Act.put, List.setIfInBounds_toArray, List.set_cons_zero, List.set_cons_succ]
      refine takeYes (i := 24) (k := 114) (v := .pointer (some ⟨bb, ox + i * 5, none⟩)) rfl (by kernel_rfl) (by kernel_rfl) (by kernel_rfl) (by kernel_rfl) (fun _ _ _ h => h) (by kernel_rfl) ?_ (Below.refl _ _) ?_
      · intro W hSw; first | (go_simp; done) | go_simp
      try simp only [Act.put, List.setIfInBounds_toArray, List.set_cons_zero, List.set_cons_succ]
      refine takeYes (i := 25) (k := 115) (v := .pointer (some ⟨bb, ox + i * 5 + 1, none⟩)) rfl (by kernel_rfl) (by kernel_rfl) (by kernel_rfl) (by kernel_rfl) (fun _ _ _ h => h) (by kernel_rfl) ?_ (Below.refl _ _) ?_
      · intro W hSw; first | (go_simp; done) | go_simp
      try simp only [Act.put, List.setIfInBounds_toArray, List.set_cons_zero, List.set_cons_succ]
      refine takeYes (i := 26) (k := 116) (v := .int .i64 xq) rfl (by kernel_rfl) (by kernel_rfl) (by kernel_rfl) (by kernel_rfl) (fun _ _ _ h => h) (by kernel_rfl) ?_ (Below.refl _ _) ?_
      · intro W hSw; obtain ⟨d0, d1, -⟩ := HAT.out.under hblt (B.trans (hSw.mono B.size)); simp only at d0 d1; first | (go_simp; done) | go_simp
      try simp only [Act.put, List.setIfInBounds_toArray, List.set_cons_zero, List.set_cons_succ]
      refine takeYes (i := 27) (k := 117) (v := .int .i64 (xq - 1)) rfl (by kernel_rfl) (by kernel_rfl) (by kernel_rfl) (by kernel_rfl) (fun _ _ _ h => h) (by kernel_rfl) ?_ (Below.refl _ _) ?_
      · intro W hSw; first | (go_simp; done) | go_simp
      try simp only [Act.put, List.setIfInBounds_toArray, List.set_cons_zero, List.set_cons_succ]
      refine wpAnyH_ready (rs := [28]) (by kernel_rfl) (by simp) (AllReadyH.cons rfl (fun K hK => ?_) AllReadyH.nil)
      go_simp
      refine (HGY.out _ B xn hxs (xq - 1)).mono ?_
      rintro e wd4 ⟨rfl, hb4⟩
      refine hK.out _ _ hb4 (fun _ => wpAnyH_shift hb4 ?_)
      clear hK K
      replace B : Below wx.heap.size wx wd4 := B.trans (hb4.mono B.size)
      clear hb4
      try simp only [Act.put, List.setIfInBounds_toArray, List.set_cons_zero, List.set_cons_succ]
      refine takeYes (i := 29) (k := 119) (v := .bool false) rfl (by kernel_rfl) (by kernel_rfl) (by kernel_rfl) (by kernel_rfl) (fun _ _ _ h => h) (by kernel_rfl) ?_ (Below.refl _ _) ?_
      · intro W hSw; first | (go_simp; done) | go_simp
      try simp only [Act.put, List.setIfInBounds_toArray, List.set_cons_zero, List.set_cons_succ]
      refine takeYes (i := 30) (k := 120) (v := .bool false) rfl (by kernel_rfl) (by kernel_rfl) (by kernel_rfl) (by kernel_rfl) (fun _ _ _ h => h) (by kernel_rfl) ?_ (Below.refl _ _) ?_
      · intro W hSw; first | (go_simp; done) | go_simp
      try simp only [Act.put, List.setIfInBounds_toArray, List.set_cons_zero, List.set_cons_succ]
      refine takeYes (i := 31) (k := 121) (v := .bool false) rfl (by kernel_rfl) (by kernel_rfl) (by kernel_rfl) (by kernel_rfl) (fun _ _ _ h => h) (by kernel_rfl) ?_ (Below.refl _ _) ?_
      · intro W hSw; first | (go_simp; done) | go_simp
      try simp only [Act.put, List.setIfInBounds_toArray, List.set_cons_zero, List.set_cons_succ]
      refine takeYes (i := 32) (k := 122) (v := .pointer (some ⟨g, 0, none⟩)) rfl (by kernel_rfl) (by kernel_rfl) (by kernel_rfl) (by kernel_rfl) (fun _ _ _ h => h) (by kernel_rfl) ?_ (Below.refl _ _) ?_
      · intro W hSw; first | (go_simp; done) | go_simp
      try simp only [Act.put, List.setIfInBounds_toArray, List.set_cons_zero, List.set_cons_succ]
      refine takeYes (i := 33) (k := 123) (v := .slice (some ⟨bb, ox, none⟩) len cap) rfl (by kernel_rfl) (by kernel_rfl) (by kernel_rfl) (by kernel_rfl) (fun _ _ _ h => h) (by kernel_rfl) ?_ (Below.refl _ _) ?_
      · intro W hSw; first | (go_simp; done) | go_simp
      try simp only [Act.put, List.setIfInBounds_toArray, List.set_cons_zero, List.set_cons_succ]
      refine takeYes (i := 34) (k := 124) (v := .slice (some ⟨bb, ox, none⟩) len cap) rfl (by kernel_rfl) (by kernel_rfl) (by kernel_rfl) (by kernel_rfl) (fun _ _ _ h => h) (by kernel_rfl) ?_ (Below.refl _ _) ?_
      · intro W hSw; first | (go_simp; done) | go_simp
      try simp only [Act.put, List.setIfInBounds_toArray, List.set_cons_zero, List.set_cons_succ]
      refine takeYes (i := 35) (k := 125) (v := .int .i64 (i : Int)) rfl (by kernel_rfl) (by kernel_rfl) (by kernel_rfl) (by kernel_rfl) (fun _ _ _ h => h) (by kernel_rfl) ?_ (Below.refl _ _) ?_
      · intro W hSw; first | (go_simp; done) | go_simp
      try simp only [Act.put, List.setIfInBounds_toArray, List.set_cons_zero, List.set_cons_succ]
      refine takeYes (i := 36) (k := 126) (v := .pointer (some ⟨bb, ox + i * 5, none⟩)) rfl (by kernel_rfl) (by kernel_rfl) (by kernel_rfl) (by kernel_rfl) (fun _ _ _ h => h) (by kernel_rfl) ?_ (Below.refl _ _) ?_
      · intro W hSw; first | (go_simp; done) | go_simp
      try simp only [Act.put, List.setIfInBounds_toArray, List.set_cons_zero, List.set_cons_succ]
      refine takeYes (i := 37) (k := 127) (v := .pointer (some ⟨bb, ox + i * 5, none⟩)) rfl (by kernel_rfl) (by kernel_rfl) (by kernel_rfl) (by kernel_rfl) (fun _ _ _ h => h) (by kernel_rfl) ?_ (Below.refl _ _) ?_
      · intro W hSw; first | (go_simp; done) | go_simp
      try simp only [Act.put, List.setIfInBounds_toArray, List.set_cons_zero, List.set_cons_succ]
      refine takeYes (i := 38) (k := 128) (v := .string xn) rfl (by kernel_rfl) (by kernel_rfl) (by kernel_rfl) (by kernel_rfl) (fun _ _ _ h => h) (by kernel_rfl) ?_ (Below.refl _ _) ?_
      · intro W hSw; obtain ⟨d0, d1, -⟩ := HAT.out.under hblt (B.trans (hSw.mono B.size)); simp only at d0 d1; first | (go_simp; done) | go_simp
      try simp only [Act.put, List.setIfInBounds_toArray, List.set_cons_zero, List.set_cons_succ]
      refine wpAnyH_ready (rs := [39]) (by kernel_rfl) (by simp) (AllReadyH.cons rfl (fun K hK => ?_) AllReadyH.nil)
      go_simp
      refine (HFY.out _ B xn).mono ?_
      rintro e wd5 ⟨rfl, hb5⟩
      refine hK.out _ _ hb5 (fun _ => wpAnyH_shift hb5 ?_)
      clear hK K
      replace B : Below wx.heap.size wx wd5 := B.trans (hb5.mono B.size)
      clear hb5
      try simp only [Act.put, List.setIfInBounds_toArray, List.set_cons_zero, List.set_cons_succ]
      refine takeYes (i := 40) (k := 130) (v := .bool false) rfl (by kernel_rfl) (by kernel_rfl) (by kernel_rfl) (by kernel_rfl) (fun _ _ _ h => h) (by kernel_rfl) ?_ (Below.refl _ _) ?_
      · intro W hSw; first | (go_simp; done) | go_simp
      try simp only [Act.put, List.setIfInBounds_toArray, List.set_cons_zero, List.set_cons_succ]
      refine takeYes (i := 41) (k := 131) (v := .bool false) rfl (by kernel_rfl) (by kernel_rfl) (by kernel_rfl) (by kernel_rfl) (fun _ _ _ h => h) (by kernel_rfl) ?_ (Below.refl _ _) ?_
      · intro W hSw; first | (go_simp; done) | go_simp
      try simp only [Act.put, List.setIfInBounds_toArray, List.set_cons_zero, List.set_cons_succ]
      refine wpAnyH_done (by kernel_rfl) ?_ _
      have HB2 := Lib.hid B
      clear B hqw hblt
      go_wp2_with fail
      go_roundg (len - (i + 1))
      case measure => omega
      case rel => exact ⟨i + 1, by go_num, by omega, Nat.le_refl _, HB2⟩
    · obtain rfl : i = len := by omega
      have hi1 : ¬ (i : Int) < (i : Int) := by omega
      have HG1 := Lib.hid (HGY.out wr HB.out n HNS.out q)
      go_wp2_with fail
      refine HG1.out.mono ?_
      rintro e w7 ⟨rfl, b7⟩
      have HB7 := Lib.hid (HB.out.trans (b7.mono HB.out.size))
      have HF1 := Lib.hid (HFY.out w7 HB7.out n)
      clear b7 HG1 HB
      go_wp2_with fail
      refine HF1.out.mono ?_
      rintro e w8 ⟨rfl, b8⟩
      have HB8 := Lib.hid (HB7.out.trans (b8.mono HB7.out.size))
      clear b8 HF1 HB7
      go_wp2_with fail
      go_ret
      exact ⟨rfl, HBX.out.trans (HB8.out.mono HBX.out.size)⟩
end Go.Proofs.YtennpdhnjaemeaaDoor
