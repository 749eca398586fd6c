/- The law ManifestCrash: behind a failure of any call, and any crash, the last version or the one under way is loaded. -/
import Derived.Test.YtcppaflnhlmcbaaGreatDoorManRef
import Derived.Test.YtcppaflnhlmcbaaGreatDoorVerSamg
import Derived.Test.YtcppaflnhlmcbaaGreatDoorSlI
namespace Go.Proofs.YtcppaflnhlmcbaaGreatDoor
set_option linter.unusedVariables false
open Go.RowKit Go.Maps
theorem RefO.aside {F : Nat → Prop} {B : Nat} {w w' : World} {c d : Nat} {W : Ver} {vs : Array Value} {t : TypeId} (h : RefO F B w c W) (u : UpdF (fun k => k = d) w w') (hb : BlkAt w d vs t) (ht : t ≠ 54) (hne : c ≠ d) : RefO F B w' c W := by
  obtain ⟨⟨fv, h1, h2, h4⟩, h5, h3⟩ := h
  exact ⟨⟨fv, (u.block c h1.lt hne).trans h1, h2.asideT u hb ht, h4⟩, h5, h3⟩
/-- The call that is to fail is told. -/
theorem MSt.fail {F : Nat → Prop} {w0 w : World} {b mb : Nat} {S : Fs} {u : Nat} {V : Ver} {es : List Edt} {c r : Nat} (h : MSt F w0 w b mb S u V es c r) (n : Int) (hn : n < 1000) : Calls Tryz.prog 21 #[.pointer (some ⟨b, 0, none⟩), .int .i64 n] w fun e w' => e = .returned (.tuple #[]) ∧ MSt F w0 w' b mb (S.fail n) u V es c r ∧ Step F F w w' := by
  obtain ⟨ρ, rfl, h2, h3⟩ := h.ex
  refine (fail_any w b ρ S h2.fs n (by omega)).mono ?_
  rintro e w' ⟨rfl, g1, g2⟩
  have hrb : ρ b ≠ none := by obtain ⟨L, hL⟩ := h2.fs; rw [hL.role]; simp
  have g3 : UpdF (fun k => ρ k ≠ none) w w' := g2.mono fun k _ e => by have e' : k = b := e; rw [e']; exact hrb
  have hok := g1.ok
  refine ⟨rfl, ⟨⟨ρ, rfl, h2.fsAt g1 g3 fun k hk => .inl hk, h3⟩, h.blw.trans (g3.below h.blw.size fun k hk f => by have := h3 k (.inl f); omega), ?_⟩, g3.mono fun k _ f => .inl f, fun k hk => .inl hk⟩
  obtain ⟨r1, r2, r3, r4⟩ := h.run
  obtain ⟨i, j, hij, hn⟩ := r1.new
  exact ⟨{ r1 with disk := { r1.disk with ok := hok }, new := ⟨i, j, hij, hn⟩ }, r2, r3, r4⟩
set_option maxHeartbeats 64000000 in
set_option maxRecDepth 100000 in
theorem manCrash_walk (w : World) (hG : GlobM w) (oa : Option Addr) (on oc : Nat) (xs : List MOp) (hx : MOpsAt w (.slice oa on oc) xs) (hok : ∀ x ∈ xs, ∀ f ∈ x.e.adds, f.ok) (at_ : Int) (n : Int) (ta : Option Addr) (tn tc : Nat) (zs : List Int) (hz : RdV w (.slice ta tn tc) (zs.map (Value.int .i64))) :
    Calls Tryz.prog 4 #[.slice oa on oc, .int .i64 at_, .int .i64 n, .slice ta tn tc] w fun e w' => e = .returned (.bool true) ∧ Below w.heap.size w w' := by
  have HBG := Lib.hid (mbegun_any w hG)
  have HNEW : Hid (∀ W, Below w.heap.size w W → Calls Tryz.prog 9 #[.int .i64 1048576] W fun e w' => ∃ b, e = .returned (.pointer (some ⟨b, 0, none⟩)) ∧ FsOwn w w' b (fsNew 1048576)) := Lib.hid (fun W hW => by
    refine (new_own 1048576 W).mono ?_
    rintro e w' ⟨rfl, ρ, h1, h2, h3⟩
    exact ⟨_, rfl, ρ, h1, hW.trans (h2.mono hW.size), fun k hk => Nat.le_trans hW.size (h3 k hk)⟩)
  have HG := Lib.hid hG
  have HX := Lib.hid hx
  have HOK := Lib.hid hok
  have hon : on = xs.length := by obtain ⟨a', c', e, -⟩ := hx; obtain ⟨-, h2, -⟩ := Value.slice.inj e; exact h2
  have HL := Lib.hid hon.symm
  have hzl := (rdV_len hz).1
  rw [List.length_map] at hzl
  obtain ⟨tn', tz, htc, htn, htl, HTZ⟩ : ∃ (tn' : Nat) (tz : List Int), (tn' = if 10 < tn then 10 else tn) ∧ tn' = tz.length ∧ tn' ≤ 10 ∧ Hid (RdV w (.slice ta tn' tc) (tz.map (Value.int .i64))) := by
    by_cases h : 10 < tn
    · exact ⟨10, zs.take 10, (if_pos h).symm, by rw [List.length_take]; omega, by omega, Lib.hid (by rw [List.map_take]; exact rdV_cut hz 10 (by omega) (by omega))⟩
    · exact ⟨tn, zs, (if_neg h).symm, hzl, by omega, Lib.hid hz⟩
  have htcap : 10 < tn → 10 ≤ tc := fun h => by have := ((rdV_len hz).2 (by omega)).2; omega
  have HTN := Lib.hid htn
  clear hG hx hok hz hzl htn
  subst hon
  go_enter Tryz.func4, Tryz.ntmps4
  go_wp2_with fail
  refine HBG.out.mono ?_
  rintro e w1 ⟨rfl, hb⟩
  have HN1 := Lib.hid (HNEW.out w1 hb)
  clear hb HBG HNEW
  clear HL
  generalize hgl : xs.length = on at *
  have HL := Lib.hid hgl
  clear hgl
  go_upto_if 25 with fail
  go_cut [3] (fun v wx => v = .slice ta tn' tc ∧ w1 = wx)
  case first =>
    by_cases hl : 10 < tn
    · have hlz : (10 : Int) < (tn : Int) := by omega
      have hc := htcap hl
      have hsl := fun W => sl_hI W ta tn tc 10 (by omega)
      have hc5 : (10 : Int) ≤ (tc : Int) := by omega
      rw [if_pos hl] at htc
      subst htc
      clear htcap hc
      go_wp2_with fail
      go_meet
      exact ⟨rfl, rfl⟩
    · have hlz : ¬ (10 : Int) < (tn : Int) := by omega
      rw [if_neg hl] at htc
      subst htc
      clear htcap
      go_wp2_with fail
      go_meet
      exact ⟨rfl, rfl⟩
  case rest =>
  obtain ⟨rfl, rfl⟩ := hcut
  clear htc htcap
  go_wp2_with fail
  refine HN1.out.mono ?_
  rintro e w2 ⟨b, rfl, hf⟩
  have HC := Lib.hid (mcreate_st HG.out hf)
  clear hf HN1
  go_wp2_with fail
  refine HC.out.mono ?_
  rintro e w3 ⟨mb, F0, S0, rfl, hm, hfl, -, -⟩
  have HM3 := Lib.hid hm
  obtain ⟨ρ3, -, hm3, -⟩ := hm.ex
  have HVE := Lib.hid (mver_any hm3)
  clear hm hfl HC hm3 ρ3
  by_cases ha0 : at_ < 0
  · go_wp2_with fail
    go_ret
    exact ⟨rfl, HM3.out.blw⟩
  by_cases ha1 : 200 < at_
  · have ha2 : ¬ at_ < 0 := ha0
    go_wp2_with fail
    go_ret
    exact ⟨rfl, HM3.out.blw⟩
  have ha2 : ¬ at_ < 0 := ha0
  have ha3 : ¬ 200 < at_ := ha1
  have HAT : Hid (at_ < 1000) := Lib.hid (by omega)
  go_wp2_with fail
  refine HVE.out.mono ?_
  rintro e w4 ⟨rfl, hv, hb⟩
  have HM4 := Lib.hid (HM3.out.below hb)
  have HNX := Lib.hid (vnext_any hv)
  clear hb hv HVE HM3 ha0 ha1 ha2 ha3
  go_wp2_with fail
  refine HNX.out.mono ?_
  rintro e w5 ⟨rfl, hb⟩
  have HM5 := Lib.hid (HM4.out.below hb)
  clear hb HNX HM4
  have hal : Below w5.heap.size w5 (w5.alloc (.cells #[.slice none 0 0, .int .i64 verC.nx, .int .i64 0, .int .i64 0] 36)) := (Below.refl _ w5).alloc (Nat.le_refl _) _
  have HR6 : Hid (RefO F0 w.heap.size (w5.alloc (.cells #[.slice none 0 0, .int .i64 verC.nx, .int .i64 0, .int .i64 0] 36)) w5.heap.size verC) := Lib.hid ⟨⟨_, BlkAt.new _ _ _, OwnK.nil _ _ _ _ _, fun k hk => by simp [Value.ownBlock] at hk⟩, fun f => by have := (HM5.out.high _ f).2; omega, verC_good⟩
  have HM6 := Lib.hid (HM5.out.below hal)
  clear hal
  go_upto_region 11 with fail
  clear HM5
  generalize w5.alloc (.cells #[.slice none 0 0, .int .i64 verC.nx, .int .i64 0, .int .i64 0] 36) = w6 at *
  generalize w5.heap.size = rc at *
  have HFA := Lib.hid (HM6.out.fail at_ HAT.out)
  go_wp2_with fail
  refine HFA.out.mono ?_
  rintro e w7 ⟨rfl, hm7, hst⟩
  have HM7 := Lib.hid hm7
  have HR7 := Lib.hid (HR6.out.step hst)
  clear hm7 hst HFA HM6 HR6 HAT
  generalize S0.fail at_ = S1 at *
  go_wp2_with fail
  go_loopg [13, 14, 15] 20 (fun kk vn vx vi wr => ∃ (i cn cx : Nat) (F : Nat → Prop) (S : Fs) (u : Nat) (V W : Ver) (es : List Edt) (c r : Nat), vn = .pointer (some ⟨cn, 0, none⟩) ∧ vx = .pointer (some ⟨cx, 0, none⟩) ∧ vi = .int .i64 (i : Int) ∧ i ≤ 20 ∧ 20 - i ≤ kk ∧ c + r ≤ i ∧ Hid (MSt F w wr b mb S u V es c r) ∧ Hid (RefO F w.heap.size wr cn W) ∧ Hid (vSame V W))
  case atStart => exact ⟨0, rc, rc, F0, S1, 1, verC, verC, _, 0, 0, rfl, rfl, rfl, by omega, by omega, by omega, HM7, HR7, Lib.hid (vSame.refl _)⟩
  case round =>
    clear HM7 HR7
    obtain ⟨i, cn, cx0, F, S, u, V, W, es, c, r, rfl, rfl, rfl, hi, hik, hcr, HM, HR, HS⟩ := hrel
    have hi0 : (0 : Int) ≤ (i : Int) := by omega
    by_cases h1 : i < on
    rotate_left
    · have hd1 : ¬ (i : Int) < (on : Int) := by omega
      have HCR := Lib.hid (mcrash_st HM.out n (.slice ta tn' tc) tz (RdV.below HTZ.out HM.out.blw) (by have := HTN.out; omega))
      go_wp2_with fail
      refine HCR.out.mono ?_
      rintro e w8 ⟨b8, rfl, hf8⟩
      have HLD := Lib.hid (mload_bad (HG.out.below HM.out.blw) hf8 ((HM.out.run.crash smN_len n tz).std.loadP smN_len (P := fun X => vSame X V) (fun X h => h)))
      clear hf8 HCR
      go_wp2_with fail
      refine HLD.out.mono ?_
      rintro e w9 ⟨mb9, ρ9, S9, M9, V4, V5, rfl, hp, hsm, hma, hb9⟩
      have HR9 := Lib.hid (HR.out.below hb9)
      have HS9 : Hid (vSame V5 W) := Lib.hid (hsm.symm.trans (hp.trans HS.out))
      have HVE := Lib.hid (mver_any hma)
      have HB9 := Lib.hid (HM.out.blw.trans (hb9.mono HM.out.blw.size))
      clear hp hsm hma hb9 HLD
      go_wp2_with fail
      refine HVE.out.mono ?_
      rintro e w10 ⟨rfl, hv, hb⟩
      have HSA := Lib.hid (vsame_any hv (HR9.out.below hb).at HS9.out)
      have HB10 := Lib.hid (HB9.out.trans (hb.mono HB9.out.size))
      clear hv hb HVE HB9
      go_wp2_with fail
      refine HSA.out.mono ?_
      rintro e w11 ⟨rfl, hb⟩
      have HB11 := Lib.hid (HB10.out.trans (hb.mono HB10.out.size))
      clear hb HSA HB10
      go_wp2_with fail
      go_ret
      exact ⟨rfl, HB11.out⟩
    have hd1 : (i : Int) < (on : Int) := by omega
    by_cases h2 : i < 20
    rotate_left
    · have hd2 : ¬ (i : Int) < 20 := by omega
      have HCR := Lib.hid (mcrash_st HM.out n (.slice ta tn' tc) tz (RdV.below HTZ.out HM.out.blw) (by have := HTN.out; omega))
      go_wp2_with fail
      refine HCR.out.mono ?_
      rintro e w8 ⟨b8, rfl, hf8⟩
      have HLD := Lib.hid (mload_bad (HG.out.below HM.out.blw) hf8 ((HM.out.run.crash smN_len n tz).std.loadP smN_len (P := fun X => vSame X V) (fun X h => h)))
      clear hf8 HCR
      go_wp2_with fail
      refine HLD.out.mono ?_
      rintro e w9 ⟨mb9, ρ9, S9, M9, V4, V5, rfl, hp, hsm, hma, hb9⟩
      have HR9 := Lib.hid (HR.out.below hb9)
      have HS9 : Hid (vSame V5 W) := Lib.hid (hsm.symm.trans (hp.trans HS.out))
      have HVE := Lib.hid (mver_any hma)
      have HB9 := Lib.hid (HM.out.blw.trans (hb9.mono HM.out.blw.size))
      clear hp hsm hma hb9 HLD
      go_wp2_with fail
      refine HVE.out.mono ?_
      rintro e w10 ⟨rfl, hv, hb⟩
      have HSA := Lib.hid (vsame_any hv (HR9.out.below hb).at HS9.out)
      have HB10 := Lib.hid (HB9.out.trans (hb.mono HB9.out.size))
      clear hv hb HVE HB9
      go_wp2_with fail
      refine HSA.out.mono ?_
      rintro e w11 ⟨rfl, hb⟩
      have HB11 := Lib.hid (HB10.out.trans (hb.mono HB10.out.size))
      clear hb HSA HB10
      go_wp2_with fail
      go_ret
      exact ⟨rfl, HB11.out⟩
    have hd2 : (i : Int) < 20 := by omega
    obtain ⟨x, hx⟩ : ∃ x, xs[i]? = some x := ⟨xs[i]'(by have := HL.out; omega), List.getElem?_eq_getElem _⟩
    have HXO := Lib.hid (HOK.out x (List.mem_of_getElem? hx))
    obtain ⟨fv, hr1, hr2, hr3⟩ := HR.out.blk
    obtain ⟨aF, cF, rfl⟩ := fil_form hr2
    have hal0 : Below wr.heap.size wr (wr.alloc (.cells #[.slice aF W.fs.length cF, .int .i64 W.nx, .int .i64 W.lg, .int .i64 W.ls] 36)) := (Below.refl _ wr).alloc (Nat.le_refl _) _
    have hrx : RefO F w.heap.size (wr.alloc (.cells #[.slice aF W.fs.length cF, .int .i64 W.nx, .int .i64 W.lg, .int .i64 W.ls] 36)) wr.heap.size W := ⟨⟨_, BlkAt.new _ _ _, hr2.below hal0, hr3⟩, fun f => by have := (HM.out.high _ f).2; omega, HR.out.good⟩
    obtain ⟨wa, hwa⟩ : ∃ wa, wr.alloc (.cells #[.slice aF W.fs.length cF, .int .i64 W.nx, .int .i64 W.lg, .int .i64 W.ls] 36) = wa := ⟨_, rfl⟩
    rw [hwa] at hal0 hrx
    have hxb : BlkAt wa wr.heap.size #[.slice aF W.fs.length cF, .int .i64 W.nx, .int .i64 W.lg, .int .i64 W.ls] 36 := by rw [← hwa]; exact BlkAt.new _ _ _
    obtain ⟨cx, hcx⟩ : ∃ cx, wr.heap.size = cx := ⟨_, rfl⟩
    rw [hcx] at hrx hxb
    have HNE : Hid (cn ≠ cx) := Lib.hid fun e => by have := HR.out.lt; omega
    have HCX : Hid (w.heap.size ≤ cx ∧ cx < wa.heap.size) := Lib.hid ⟨by rw [← hcx]; exact HM.out.blw.size, hxb.lt⟩
    have HFW : Hid (∀ k, F k → k < wr.heap.size) := Lib.hid fun k f => (HM.out.high k f).2
    have HWA := Lib.hid hal0.size
    have HRx := Lib.hid hrx
    have HRn := Lib.hid (HR.out.below hal0)
    have HMa := Lib.hid (HM.out.below hal0)
    have HXB := Lib.hid hxb
    obtain ⟨r0, r1, r2, r3⟩ := cell4_of hr1
    have x1 : wa.cell? ⟨cx, 1, none⟩ = some (.int .i64 W.nx) := hxb.at 1
    have hx1f := hxb.free 1
    obtain ⟨bo, oo, va, vd, hoa, hoc, hoe⟩ := HX.out.get HMa.out.blw hx
    obtain rfl := hoa
    obtain ⟨z0, z1, z2, z3, z4, z5, z6⟩ := hoc
    have HED := Lib.hid hoe
    obtain ⟨va', vd', hag, hA, hD⟩ := hoe
    obtain ⟨aA, cA, rfl, -⟩ := edFl_len hA
    obtain ⟨aD, cD, rfl⟩ := edInts_len hD
    obtain ⟨rfl, rfl⟩ : va = _ ∧ vd = _ := by simpa using hag
    generalize x.e.adds.length = nA at *
    generalize x.e.dels.length = nD at *
    obtain ⟨Q, hQ⟩ : ∃ Q : Bool, decide (x.kind = 1 ∧ W.nx < 1125899906842624) = Q := ⟨_, rfl⟩
    have HQ := Lib.hid hQ
    have HMX := Lib.hid HR.out.good.nx1
    clear hx hag hA hD h1 hr1 hr2 hr3 hal0 hrx hxb HM HR hQ
    go_upto_region 19 with fail
    clear hwa hcx r0 r1 r2 r3
    go_cut [80] (fun v wx => v = .bool Q ∧ wa = wx)
    case first =>
      by_cases hk1 : x.kind = 1
      · by_cases hmx : W.nx < 1125899906842624
        · obtain rfl : Q = true := by rw [← HQ.out]; exact decide_eq_true ⟨hk1, hmx⟩
          rw [hk1] at z0
          go_wp2_with fail
          go_meet
          exact ⟨rfl, rfl⟩
        · obtain rfl : Q = false := by rw [← HQ.out]; exact decide_eq_false fun h => hmx h.2
          rw [hk1] at z0
          go_wp2_with fail
          go_meet
          exact ⟨rfl, rfl⟩
      · obtain rfl : Q = false := by rw [← HQ.out]; exact decide_eq_false fun h => hk1 h.1
        have hk1' : (x.kind == 1) = false := by rw [beq_eq_false_iff_ne]; exact hk1
        go_wp2_with fail
        go_meet
        exact ⟨rfl, rfl⟩
    case rest =>
    obtain ⟨rfl, rfl⟩ := hcut
    cases Q with
    | true =>
      have hmx : W.nx < 1125899906842624 := (of_decide_eq_true HQ.out).2
      have hn0 := HMX.out
      have hu1 : UpdF (fun k => k = cx) wa (wa.setCell ⟨cx, 1, none⟩ (.int .i64 (W.nx + 1))) := (UpdF.refl _ wa).set cx 1 _ rfl
      obtain ⟨fv, hr1, hr2, hr3⟩ := HRx.out.blk
      have HRx1 : Hid (RefO F w.heap.size (wa.setCell ⟨cx, 1, none⟩ (.int .i64 (W.nx + 1))) cx (bumpV W)) := Lib.hid ⟨⟨fv, hr1.set (o := 1) (.int .i64 (W.nx + 1)), hr2.asideT hu1 hr1 (by decide), hr3⟩, HRx.out.out, bumpV_good HRx.out.good hmx⟩
      have HRn1 := Lib.hid (HRn.out.aside hu1 hr1 (by decide) HNE.out)
      have HM1 : Hid (MSt F w (wa.setCell ⟨cx, 1, none⟩ (.int .i64 (W.nx + 1))) b mb S u V es c r) := Lib.hid (HMa.out.upd hu1 (fun k e => by subst e; exact HCX.out.1) (fun k e f => by subst e; exact HRx.out.out f) (k := cx) (fun j e => e) hr1 (by decide))
      have HRR := Lib.hid (mrewrite_st HG.out HM1.out (by omega) (by rw [HS.out.2.1]; exact hmx))
      have HBS := Lib.hid (bumpV_same HS.out)
      clear hr1 hr2 hr3 hu1 HMa HRx HRn HQ z0 z1 z2 z3 z4 z5 z6
      go_upto_region 21 with fail
      clear x1 hx1f
      generalize wa.setCell ⟨cx, 1, none⟩ (.int .i64 (W.nx + 1)) = w4 at *
      go_wp2_with fail
      refine HRR.out.mono ?_
      rintro e w7 ⟨V', F', S', v', hsm, hst, hv', (⟨rfl, hm, hf, -⟩ | ⟨hbad, rfl, hbd⟩)⟩
      · have HM9 := Lib.hid hm
        have HR9 := Lib.hid (HRx1.out.step hst)
        have HS9 := Lib.hid (hsm.symm.trans HBS.out)
        clear hsm hst hv' hm hf HRR HM1 HRx1 HRn1 HBS
        go_wp2_with fail
        go_roundg (20 - (i + 1))
        case measure => omega
        case rel => exact ⟨i + 1, cx, cx, F', S', v', V', bumpV W, [wholeE V'], c, r + 1, rfl, rfl, by go_num, by omega, Nat.le_refl _, by omega, HM9, HR9, HS9⟩
      · have HBD := Lib.hid hbd
        have HRn7 := Lib.hid (HRn1.out.step hst)
        have HRx7 := Lib.hid (HRx1.out.step hst)
        have HSX : Hid (vSame V' (bumpV W)) := Lib.hid (hsm.symm.trans HBS.out)
        clear hsm hst hv' hbad hbd HRR HM1 HRx1 HRn1 HBS
        have HCC : Hid (Calls Tryz.prog 14 #[.pointer (some ⟨mb, 0, none⟩), .agg #[.int .i64 0, .int .i64 0, .int .i64 0, .slice none 0 0, .slice none 0 0]] w7 fun e w' => e = .returned (.int .i64 5) ∧ Below w7.heap.size w7 w') := Lib.hid (by
          obtain ⟨ρq, Mq, Vq, -, k2, k3, -⟩ := HBD.out
          exact mcommit_closed k3 k2 _ _ _ _ _)
        go_wp2_with fail
        refine HCC.out.mono ?_
        rintro e wc ⟨rfl, hb⟩
        have HBW : Hid (Below w.heap.size w w7) := Lib.hid (by obtain ⟨ρq, Mq, Vq, -, -, -, -, k5, -⟩ := HBD.out; exact k5)
        have HBDc : Hid (BadSt F' w wc b mb S' (fun X => vSame X V ∨ vSame X V')) := Lib.hid (by obtain ⟨ρq, Mq, Vq, k1, k2, k3, k4, k5, k6, k7⟩ := HBD.out; exact ⟨ρq, Mq, Vq, k1, k2, k3.below hb, k4, k5.trans (hb.mono k5.size), k6, k7⟩)
        have HBC := Lib.hid (HBW.out.trans (hb.mono HBW.out.size))
        have HRnc := Lib.hid (HRn7.out.below hb)
        have HRxc := Lib.hid (HRx7.out.below hb)
        have HPL : Hid (∀ n ts, LoadP smN (S'.crash n ts) (fun X => vSame X V ∨ vSame X V')) := Lib.hid (by obtain ⟨ρq, Mq, Vq, -, -, -, -, -, -, k7⟩ := HBD.out; exact k7)
        have HCR := Lib.hid (mcrash_bad HBDc.out n (.slice ta tn' tc) tz (RdV.below HTZ.out HBC.out) (by have := HTN.out; omega))
        clear hb HCC HBD HBW HRn7 HRx7 HBDc
        go_wp2_with fail
        refine HCR.out.mono ?_
        rintro e w8 ⟨b8, rfl, hf8⟩
        have HLD := Lib.hid (mload_bad (HG.out.below HBC.out) hf8 (HPL.out n tz))
        clear hf8 HCR HPL
        go_wp2_with fail
        refine HLD.out.mono ?_
        rintro e w9 ⟨mb9, ρ9, S9, M9, V4, V5, rfl, hp, hsm, hma, hb9⟩
        have HRn9 := Lib.hid (HRnc.out.below hb9)
        have HRx9 := Lib.hid (HRxc.out.below hb9)
        have HVE := Lib.hid (mver_any hma)
        have HB9 := Lib.hid (HBC.out.trans (hb9.mono HBC.out.size))
        have HOR : Hid (vSame V5 W ∨ vSame V5 (bumpV W)) := Lib.hid (by
          rcases hp with h | h
          · exact .inl (hsm.symm.trans (h.trans HS.out))
          · exact .inr (hsm.symm.trans (h.trans HSX.out)))
        have HMA := Lib.hid hma
        clear hp hsm hma hb9 HLD HRnc HRxc HBC
        by_cases hw : vSame V5 W
        · have HS9 := Lib.hid hw
          clear hw HOR
          go_wp2_with fail
          refine HVE.out.mono ?_
          rintro e w10 ⟨rfl, hv, hb⟩
          have HSA := Lib.hid (vsame_any hv (HRn9.out.below hb).at HS9.out)
          have HB10 := Lib.hid (HB9.out.trans (hb.mono HB9.out.size))
          clear hv hb HVE HB9
          go_wp2_with fail
          refine HSA.out.mono ?_
          rintro e w11 ⟨rfl, hb⟩
          have HB11 := Lib.hid (HB10.out.trans (hb.mono HB10.out.size))
          clear hb HSA HB10
          go_wp2_with fail
          go_ret
          exact ⟨rfl, HB11.out⟩
        have HSN : Hid (vSame V5 (bumpV W)) := Lib.hid (HOR.out.resolve_left hw)
        clear hw HOR
        go_wp2_with fail
        refine HVE.out.mono ?_
        rintro e w10 ⟨rfl, hv, hb⟩
        have HSA := Lib.hid (vsame_gen hv (HRn9.out.below hb).at)
        have HB10 := Lib.hid (HB9.out.trans (hb.mono HB9.out.size))
        have HRx10 := Lib.hid (HRx9.out.below hb)
        have HM10 := Lib.hid (HMA.out.below hb)
        clear hv hb HVE HB9 HRn9 HRx9 HMA
        go_wp2_with fail
        refine HSA.out.mono ?_
        rintro e w11 ⟨q, rfl, hb⟩
        have HB11 := Lib.hid (HB10.out.trans (hb.mono HB10.out.size))
        have HRx11 := Lib.hid (HRx10.out.below hb)
        have HVE2 := Lib.hid (mver_any (HM10.out.below hb))
        clear hb HSA HB10 HRx10 HM10
        rcases q with _ | _
        rotate_left
        · go_wp2_with fail
          go_ret
          exact ⟨rfl, HB11.out⟩
        go_wp2_with fail
        refine HVE2.out.mono ?_
        rintro e w12 ⟨rfl, hv, hb⟩
        have HSA := Lib.hid (vsame_any hv (HRx11.out.below hb).at HSN.out)
        have HB12 := Lib.hid (HB11.out.trans (hb.mono HB11.out.size))
        clear hv hb HVE2 HB11 HRx11
        go_wp2_with fail
        refine HSA.out.mono ?_
        rintro e w13 ⟨rfl, hb⟩
        have HB13 := Lib.hid (HB12.out.trans (hb.mono HB12.out.size))
        clear hb HSA HB12
        go_wp2_with fail
        go_ret
        exact ⟨rfl, HB13.out⟩
    | false =>
      have HCT := Lib.hid (edCut_any _ x.e HXO.out w wa HED.out HMa.out.blw)
      clear HED HXO HQ x1 hx1f
      go_wp2_with fail
      refine HCT.out.mono ?_
      rintro e w4 ⟨ua, ud, y, rfl, hh, hsh, hb4⟩
      have HS4 := Lib.hid hb4.size
      have HM4 := Lib.hid (HMa.out.below hb4)
      have HRx4 := Lib.hid (HRx.out.below hb4)
      have HRn4 := Lib.hid (HRn.out.below hb4)
      have HX4 := Lib.hid (HXB.out.below hb4)
      have HH := Lib.hid hh
      have HSH := Lib.hid hsh
      clear hh hsh hb4 HCT z0 z1 z2 z3 z4 z5 z6
      obtain ⟨aA2, cA2, aD2, cD2, hfm⟩ := edt_forms (HH.out.at HM4.out.blw)
      simp only [Value.agg.injEq, Array.mk.injEq, List.cons.injEq, true_and, and_true] at hfm
      obtain ⟨rfl, rfl⟩ := hfm
      generalize y.adds.length = mA at *
      generalize y.dels.length = mD at *
      have HX5 := Lib.hid (BlkAt.new w4 #[.int .i64 y.nxt, .int .i64 y.lg, .int .i64 y.lst, .slice aA2 mA cA2, .slice aD2 mD cD2] 39)
      have hb45 : Below w4.heap.size w4 (w4.alloc (.cells #[.int .i64 y.nxt, .int .i64 y.lg, .int .i64 y.lst, .slice aA2 mA cA2, .slice aD2 mD cD2] 39)) := (Below.refl _ _).alloc (Nat.le_refl _) _
      have HM5 := Lib.hid (HM4.out.below hb45)
      have HRx5 := Lib.hid (HRx4.out.below hb45)
      have HRn5 := Lib.hid (HRn4.out.below hb45)
      have HH5 := Lib.hid (HH.out.below hb45)
      clear hb45 HM4 HRx4 HRn4 HH HMa HRx HRn HX4 HXB
      go_upto_region 23 with fail
      generalize w4.alloc (.cells #[.int .i64 y.nxt, .int .i64 y.lg, .int .i64 y.lst, .slice aA2 mA cA2, .slice aD2 mD cD2] 39) = w5 at *
      generalize w4.heap.size = p at *
      have HAP := Lib.hid (rapply_new HRx5.out.at HM5.out.blw.size (.agg #[.int .i64 y.nxt, .int .i64 y.lg, .int .i64 y.lst, .slice aA2 mA cA2, .slice aD2 mD cD2]) y (HH5.out.at HM5.out.blw) HSH.out.ok)
      obtain ⟨q0, q1, q2, q3, q4⟩ := cell5_of HX5.out
      go_wp2_with fail
      clear q0 q1 q2 q3 q4
      refine HAP.out.mono ?_
      rintro e w6 hra
      obtain ⟨ra1, ra2, ra3⟩ := HRx5.out.apply (fun k f => (HM5.out.high k f).2) HM5.out.blw.size hra
      obtain ⟨fx, hx5, -, -⟩ := HRx5.out.blk
      cases hap : applyV W y with
      | none =>
        obtain ⟨rfl, hr6, hb6⟩ := ra1 hap
        have HM9 := Lib.hid (HM5.out.below hb6)
        have HR9 := Lib.hid (HRn5.out.below hb6)
        clear ra1 ra2 ra3 hra hx5 hr6 hb6 hap HAP HM5 HRx5 HRn5 HH5 HX5
        go_wp2_with fail
        go_roundg (20 - (i + 1))
        case measure => omega
        case rel => exact ⟨i + 1, cn, cx, F, S, u, V, W, es, c, r, rfl, rfl, by go_num, by omega, Nat.le_refl _, by omega, HM9, HR9, HS⟩
      | some a2 =>
        obtain ⟨rfl, hr6⟩ := ra2 a2 hap
        have HAPW := Lib.hid hap
        have HRx6 := Lib.hid hr6
        have HRn6 := Lib.hid (HRn5.out.aside ra3 hx5 (by decide) HNE.out)
        have HM6 := Lib.hid (HM5.out.upd ra3 (fun k e => by subst e; exact HCX.out.1) (fun k e f => by subst e; exact HRx5.out.out f) (k := cx) (fun j e => e) hx5 (by decide))
        have HH6 : Hid (EdHalf w wa.heap.size w6 (.slice aA2 mA cA2) (.slice aD2 mD cD2) y) := Lib.hid ⟨HH5.out.adds.asideT ra3 hx5 (by decide), HH5.out.dels⟩
        have HX6 := Lib.hid (show BlkAt w6 p #[.int .i64 y.nxt, .int .i64 y.lg, .int .i64 y.lst, .slice aA2 mA cA2, .slice aD2 mD cD2] 39 from (ra3.block p HX5.out.lt fun e => by have e' : p = cx := e; have h3 := HCX.out.2; have h4 := HS4.out; omega).trans HX5.out)
        clear ra1 ra2 ra3 hra hx5 hr6 hap HAP HM5 HRx5 HRn5 HH5 HX5
        have HCO := Lib.hid (mcommit_st HG.out HM6.out (by omega) (.agg #[.int .i64 y.nxt, .int .i64 y.lg, .int .i64 y.lst, .slice aA2 mA cA2, .slice aD2 mD cD2]) y (HH6.out.at HM6.out.blw) HSH.out)
        have HVW := Lib.hid (applyV_same HS.out (by obtain ⟨ρ6, -, k1, -⟩ := HM6.out.ex; exact k1.good) y)
        obtain ⟨q0, q1, q2, q3, q4⟩ := cell5_of HX6.out
        go_wp2_with fail
        clear q0 q1 q2 q3 q4
        refine HCO.out.mono ?_
        rintro e w7 (⟨hno, -⟩ | ⟨n', V', hyes, hsm, F', S', hst, hor⟩)
        · exfalso
          rcases HVW.out with ⟨-, e2⟩ | ⟨a1, a3, e1, -, -⟩
          · rw [HAPW.out] at e2; cases e2
          · rw [hno] at e1; cases e1
        have hsx : vSame V' a2 := by
          rcases HVW.out with ⟨e1, -⟩ | ⟨a1, a3, e1, e2, e3⟩
          · rw [hyes] at e1; cases e1
          · rw [hyes] at e1
            rw [HAPW.out] at e2
            obtain rfl := Option.some.inj e1
            obtain rfl := Option.some.inj e2
            exact hsm.symm.trans e3
        have HSX := Lib.hid hsx
        rcases hor with ⟨rfl, hm, -, -⟩ | ⟨-, rfl, hbd⟩
        · have HM9 := Lib.hid hm
          have HR9 := Lib.hid (HRx6.out.step hst)
          clear hm hst hsm hyes hsx HCO HVW HM6 HRx6 HRn6 HH6 HX6
          go_wp2_with fail
          go_roundg (20 - (i + 1))
          case measure => omega
          case rel => exact ⟨i + 1, cx, cx, F', S', u, V', a2, es ++ [y], c + 1, r, rfl, rfl, by go_num, by omega, Nat.le_refl _, by omega, HM9, HR9, HSX⟩
        · have HBD := Lib.hid hbd
          have HRn7 := Lib.hid (HRn6.out.step hst)
          have HRx7 := Lib.hid (HRx6.out.step hst)
          clear hbd hst hsm hyes hsx HCO HVW HM6 HRx6 HRn6 HH6 HX6
          have HCC : Hid (Calls Tryz.prog 14 #[.pointer (some ⟨mb, 0, none⟩), .agg #[.int .i64 0, .int .i64 0, .int .i64 0, .slice none 0 0, .slice none 0 0]] w7 fun e w' => e = .returned (.int .i64 5) ∧ Below w7.heap.size w7 w') := Lib.hid (by
            obtain ⟨ρq, Mq, Vq, -, k2, k3, -⟩ := HBD.out
            exact mcommit_closed k3 k2 _ _ _ _ _)
          go_wp2_with fail
          refine HCC.out.mono ?_
          rintro e wc ⟨rfl, hb⟩
          have HBW : Hid (Below w.heap.size w w7) := Lib.hid (by obtain ⟨ρq, Mq, Vq, -, -, -, -, k5, -⟩ := HBD.out; exact k5)
          have HBDc : Hid (BadSt F' w wc b mb S' (fun X => vSame X V ∨ vSame X V')) := Lib.hid (by obtain ⟨ρq, Mq, Vq, k1, k2, k3, k4, k5, k6, k7⟩ := HBD.out; exact ⟨ρq, Mq, Vq, k1, k2, k3.below hb, k4, k5.trans (hb.mono k5.size), k6, k7⟩)
          have HBC := Lib.hid (HBW.out.trans (hb.mono HBW.out.size))
          have HRnc := Lib.hid (HRn7.out.below hb)
          have HRxc := Lib.hid (HRx7.out.below hb)
          have HPL : Hid (∀ n ts, LoadP smN (S'.crash n ts) (fun X => vSame X V ∨ vSame X V')) := Lib.hid (by obtain ⟨ρq, Mq, Vq, -, -, -, -, -, -, k7⟩ := HBD.out; exact k7)
          have HCR := Lib.hid (mcrash_bad HBDc.out n (.slice ta tn' tc) tz (RdV.below HTZ.out HBC.out) (by have := HTN.out; omega))
          clear hb HCC HBD HBW HRn7 HRx7 HBDc
          go_wp2_with fail
          refine HCR.out.mono ?_
          rintro e w8 ⟨b8, rfl, hf8⟩
          have HLD := Lib.hid (mload_bad (HG.out.below HBC.out) hf8 (HPL.out n tz))
          clear hf8 HCR HPL
          go_wp2_with fail
          refine HLD.out.mono ?_
          rintro e w9 ⟨mb9, ρ9, S9, M9, V4, V5, rfl, hp, hsm, hma, hb9⟩
          have HRn9 := Lib.hid (HRnc.out.below hb9)
          have HRx9 := Lib.hid (HRxc.out.below hb9)
          have HVE := Lib.hid (mver_any hma)
          have HB9 := Lib.hid (HBC.out.trans (hb9.mono HBC.out.size))
          have HOR : Hid (vSame V5 W ∨ vSame V5 (a2)) := Lib.hid (by
            rcases hp with h | h
            · exact .inl (hsm.symm.trans (h.trans HS.out))
            · exact .inr (hsm.symm.trans (h.trans HSX.out)))
          have HMA := Lib.hid hma
          clear hp hsm hma hb9 HLD HRnc HRxc HBC
          by_cases hw : vSame V5 W
          · have HS9 := Lib.hid hw
            clear hw HOR
            go_wp2_with fail
            refine HVE.out.mono ?_
            rintro e w10 ⟨rfl, hv, hb⟩
            have HSA := Lib.hid (vsame_any hv (HRn9.out.below hb).at HS9.out)
            have HB10 := Lib.hid (HB9.out.trans (hb.mono HB9.out.size))
            clear hv hb HVE HB9
            go_wp2_with fail
            refine HSA.out.mono ?_
            rintro e w11 ⟨rfl, hb⟩
            have HB11 := Lib.hid (HB10.out.trans (hb.mono HB10.out.size))
            clear hb HSA HB10
            go_wp2_with fail
            go_ret
            exact ⟨rfl, HB11.out⟩
          have HSN : Hid (vSame V5 (a2)) := Lib.hid (HOR.out.resolve_left hw)
          clear hw HOR
          go_wp2_with fail
          refine HVE.out.mono ?_
          rintro e w10 ⟨rfl, hv, hb⟩
          have HSA := Lib.hid (vsame_gen hv (HRn9.out.below hb).at)
          have HB10 := Lib.hid (HB9.out.trans (hb.mono HB9.out.size))
          have HRx10 := Lib.hid (HRx9.out.below hb)
          have HM10 := Lib.hid (HMA.out.below hb)
          clear hv hb HVE HB9 HRn9 HRx9 HMA
          go_wp2_with fail
          refine HSA.out.mono ?_
          rintro e w11 ⟨q, rfl, hb⟩
          have HB11 := Lib.hid (HB10.out.trans (hb.mono HB10.out.size))
          have HRx11 := Lib.hid (HRx10.out.below hb)
          have HVE2 := Lib.hid (mver_any (HM10.out.below hb))
          clear hb HSA HB10 HRx10 HM10
          rcases q with _ | _
          rotate_left
          · go_wp2_with fail
            go_ret
            exact ⟨rfl, HB11.out⟩
          go_wp2_with fail
          refine HVE2.out.mono ?_
          rintro e w12 ⟨rfl, hv, hb⟩
          have HSA := Lib.hid (vsame_any hv (HRx11.out.below hb).at HSN.out)
          have HB12 := Lib.hid (HB11.out.trans (hb.mono HB11.out.size))
          clear hv hb HVE2 HB11 HRx11
          go_wp2_with fail
          refine HSA.out.mono ?_
          rintro e w13 ⟨rfl, hb⟩
          have HB13 := Lib.hid (HB12.out.trans (hb.mono HB12.out.size))
          clear hb HSA HB12
          go_wp2_with fail
          go_ret
          exact ⟨rfl, HB13.out⟩
theorem manifestCrash_walk (w : World) (hT : TabAt w) (hP : PowAt w) (oa : Option Addr) (on oc : Nat) (xs : List MOp) (hx : MOpsAt w (.slice oa on oc) xs) (hok : ∀ x ∈ xs, ∀ f ∈ x.e.adds, f.ok) (at_ : Int) (w1 : (Lit.int .i64 at_).wf = true) (n : Int) (w2 : (Lit.int .i64 n).wf = true) (ta : Option Addr) (tn tc : Nat) (zs : List Int) (hz : RdV w (.slice ta tn tc) (zs.map (Value.int .i64))) (wz : ∀ n ∈ zs, (Lit.int .i64 n).wf = true) :
    Calls Tryz.prog 4 #[.slice oa on oc, .int .i64 at_, .int .i64 n, .slice ta tn tc] w fun e w' => e = .returned (.bool true) ∧ Below w.heap.size w w' := manCrash_walk w ⟨hT, hP⟩ oa on oc xs hx hok at_ n ta tn tc zs hz
end Go.Proofs.YtcppaflnhlmcbaaGreatDoor
