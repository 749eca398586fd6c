/- The law ManifestAll: versions are kept, whole edits alone, and loaded again. -/
import Derived.Test.YtcppaflnhlmcbaaGreatDoorManRef
namespace Go.Proofs.YtcppaflnhlmcbaaGreatDoor
set_option linter.unusedVariables false
open Go.RowKit Go.Maps
set_option maxHeartbeats 64000000 in
set_option maxRecDepth 100000 in
theorem manAll_walk (w : World) (hG : GlobM w) (oa : Option Addr) (on oc : Nat) (xs : List MOp) (hx : MOpsAt w (.slice oa on oc) xs) (hok : ∀ x ∈ xs, ∀ f ∈ x.e.adds, f.ok) :
    Calls Tryz.prog 3 #[.slice oa on oc] w fun e w' => e = .returned (.bool true) ∧ Below w.heap.size w w' := by
  have HBG := Lib.hid (mbegun_any w hG)
  have HNEW : Hid (∀ W, Below w.heap.size w W → Calls Tryz.prog 9 #[.int .i64 1048576] W fun e w' => ∃ b, e = .returned (.pointer (some ⟨b, 0, none⟩)) ∧ FsOwn w w' b (fsNew 1048576)) := Lib.hid (fun W hW => by
    refine (new_own 1048576 W).mono ?_
    rintro e w' ⟨rfl, ρ, h1, h2, h3⟩
    exact ⟨_, rfl, ρ, h1, hW.trans (h2.mono hW.size), fun k hk => Nat.le_trans hW.size (h3 k hk)⟩)
  have HG := Lib.hid hG
  have HX := Lib.hid hx
  have HOK := Lib.hid hok
  obtain ⟨L, hL⟩ : ∃ L, xs.length = L := ⟨_, rfl⟩
  have hon : on = L := by obtain ⟨a', c', e, -⟩ := hx; obtain ⟨-, h2, -⟩ := Value.slice.inj e; omega
  have HL := Lib.hid hL
  subst hon
  clear hG hx hok hL
  go_enter Tryz.func3, Tryz.ntmps3
  go_wp2_with fail
  refine HBG.out.mono ?_
  rintro e w1 ⟨rfl, hb⟩
  have HN1 := Lib.hid (HNEW.out w1 hb)
  clear hb HBG HNEW
  go_wp2_with fail
  refine HN1.out.mono ?_
  rintro e w2 ⟨b0, rfl, hf⟩
  have HC := Lib.hid (mcreate_st HG.out hf)
  clear hf HN1
  go_wp2_with fail
  refine HC.out.mono ?_
  rintro e w3 ⟨mb0, F0, S0, rfl, hm, hfl, -, -⟩
  have HM3 := Lib.hid hm
  have HFL0 := Lib.hid hfl
  obtain ⟨ρ3, -, hm3, -⟩ := hm.ex
  have HVE := Lib.hid (mver_any hm3)
  clear hm hfl HC hm3 ρ3
  go_wp2_with fail
  refine HVE.out.mono ?_
  rintro e w4 ⟨rfl, hv, hb⟩
  have HM4 := Lib.hid (HM3.out.below hb)
  have HNX := Lib.hid (vnext_any hv)
  clear hb hv HVE HM3
  go_wp2_with fail
  refine HNX.out.mono ?_
  rintro e w5 ⟨rfl, hb⟩
  have HM5 := Lib.hid (HM4.out.below hb)
  clear hb HNX HM4
  have hal : Below w5.heap.size w5 (w5.alloc (.cells #[.slice none 0 0, .int .i64 verC.nx, .int .i64 0, .int .i64 0] 36)) := (Below.refl _ w5).alloc (Nat.le_refl _) _
  have HR6 : Hid (RefO F0 w.heap.size (w5.alloc (.cells #[.slice none 0 0, .int .i64 verC.nx, .int .i64 0, .int .i64 0] 36)) w5.heap.size verC) := Lib.hid ⟨⟨_, BlkAt.new _ _ _, OwnK.nil _ _ _ _ _, fun k hk => by simp [Value.ownBlock] at hk⟩, fun f => by have := (HM5.out.high _ f).2; omega, verC_good⟩
  have HM6 := Lib.hid (HM5.out.below hal)
  have HB6 := Lib.hid (HM5.out.blw.trans (hal.mono HM5.out.blw.size))
  clear hal
  go_upto_region 9 with fail
  have HRW : Hid (w.heap.size ≤ w5.heap.size) := Lib.hid HM5.out.blw.size
  clear HM5
  generalize w5.alloc (.cells #[.slice none 0 0, .int .i64 verC.nx, .int .i64 0, .int .i64 0] 36) = w6 at *
  generalize w5.heap.size = rc at *
  go_wp2_with fail
  go_loopg [4, 5, 6, 8] 20 (fun kk vf vm ve vi wr => ∃ (i b mb : Nat) (F : Nat → Prop) (S : Fs) (u : Nat) (V W : Ver) (es : List Edt) (c r : Nat), vf = .pointer (some ⟨b, 0, none⟩) ∧ vm = .pointer (some ⟨mb, 0, none⟩) ∧ ve = .int .i64 0 ∧ vi = .int .i64 (i : Int) ∧ i ≤ 20 ∧ 20 - i ≤ kk ∧ c + r ≤ i ∧ Hid (MSt F w wr b mb S u V es c r) ∧ Hid (S.fails = none) ∧ Hid (RefO F w.heap.size wr rc W) ∧ Hid (vSame V W))
  case atStart => exact ⟨0, b0, mb0, F0, S0, 1, verC, verC, _, 0, 0, rfl, rfl, rfl, rfl, by omega, by omega, by omega, HM6, HFL0, HR6, Lib.hid (vSame.refl _)⟩
  case round =>
    clear HM6 HFL0 HR6
    obtain ⟨i, b, mb, F, S, u, V, W, es, c, r, rfl, rfl, rfl, rfl, hi, hik, hcr, HM, HFL, HR, HS⟩ := hrel
    have hi0 : (0 : Int) ≤ (i : Int) := by omega
    by_cases h1 : i < on
    rotate_left
    · have hd1 : ¬ (i : Int) < (on : Int) := by omega
      go_wp2_with fail
      go_ret
      exact ⟨rfl, HM.out.blw⟩
    have hd1 : (i : Int) < (on : Int) := by omega
    by_cases h2 : i < 20
    rotate_left
    · have hd2 : ¬ (i : Int) < 20 := by omega
      go_wp2_with fail
      go_ret
      exact ⟨rfl, HM.out.blw⟩
    have hd2 : (i : Int) < 20 := by omega
    obtain ⟨x, hx⟩ : ∃ x, xs[i]? = some x := ⟨xs[i]'(by have := HL.out; omega), List.getElem?_eq_getElem _⟩
    have HXO := Lib.hid (HOK.out x (List.mem_of_getElem? hx))
    obtain ⟨bo, oo, va, vd, hoa, hoc, hoe⟩ := HX.out.get HM.out.blw hx
    obtain rfl := hoa
    obtain ⟨z0, z1, z2, z3, z4, z5, z6⟩ := hoc
    have HED := Lib.hid hoe
    obtain ⟨va', vd', hag, hA, hD⟩ := hoe
    obtain ⟨aA, cA, rfl, -⟩ := edFl_len hA
    obtain ⟨aD, cD, rfl⟩ := edInts_len hD
    obtain ⟨rfl, rfl⟩ : va = _ ∧ vd = _ := by simpa using hag
    generalize x.e.adds.length = nA at *
    generalize x.e.dels.length = nD at *
    clear hx hag hA hD h1
    by_cases hk0 : x.kind = 0
    · rw [hk0] at z0
      have HCT := Lib.hid (edCut_any _ x.e HXO.out w wr HED.out HM.out.blw)
      clear HED HXO
      go_wp2_with fail
      refine HCT.out.mono ?_
      rintro e w4 ⟨ua, ud, y, rfl, hh, hsh, hb4⟩
      have HFW : Hid (∀ k, F k → k < wr.heap.size) := Lib.hid fun k f => (HM.out.high k f).2
      have HRC := Lib.hid HR.out.lt
      have HS4 := Lib.hid hb4.size
      have HM4 := Lib.hid (HM.out.below hb4)
      have HR4 := Lib.hid (HR.out.below hb4)
      have HH := Lib.hid hh
      have HSH := Lib.hid hsh
      clear hh hsh hb4 HCT z0 z1 z2 z3 z4 z5 z6
      obtain ⟨aA2, cA2, aD2, cD2, hfm⟩ := edt_forms (HH.out.at HM4.out.blw)
      simp only [Value.agg.injEq, Array.mk.injEq, List.cons.injEq, true_and, and_true] at hfm
      obtain ⟨rfl, rfl⟩ := hfm
      generalize y.adds.length = mA at *
      generalize y.dels.length = mD at *
      have HX5 := Lib.hid (BlkAt.new w4 #[.int .i64 y.nxt, .int .i64 y.lg, .int .i64 y.lst, .slice aA2 mA cA2, .slice aD2 mD cD2] 39)
      have hb45 : Below w4.heap.size w4 (w4.alloc (.cells #[.int .i64 y.nxt, .int .i64 y.lg, .int .i64 y.lst, .slice aA2 mA cA2, .slice aD2 mD cD2] 39)) := (Below.refl _ _).alloc (Nat.le_refl _) _
      have HM5 := Lib.hid (HM4.out.below hb45)
      have HR5 := Lib.hid (HR4.out.below hb45)
      have HH5 := Lib.hid (HH.out.below hb45)
      clear hb45 HM4 HR4 HH HM HR
      go_upto_region 19 with fail
      generalize w4.alloc (.cells #[.int .i64 y.nxt, .int .i64 y.lg, .int .i64 y.lst, .slice aA2 mA cA2, .slice aD2 mD cD2] 39) = w5 at *
      generalize w4.heap.size = p at *
      have HXU : Hid (∀ W, UpdF (fun k => k ≠ p) w5 W → BlkAt W p #[.int .i64 y.nxt, .int .i64 y.lg, .int .i64 y.lst, .slice aA2 mA cA2, .slice aD2 mD cD2] 39) := Lib.hid fun W hW => (hW.block p HX5.out.lt fun f => f rfl).trans HX5.out
      refine wp_region_held_drew (S := UpdF (fun k => k ≠ p) w5) (by kernel_rfl) (UpdF.refl _ w5).drew (fun hHeld => ?_)
      have HU := Lib.hid hHeld
      have HBw : Hid (Below w5.heap.size w5 w5.drew) := Lib.hid (Below.refl _ _).drew
      clear hHeld
      generalize w5.drew = wd at *
      refine takeYes (i := 0) (k := 59) (v := .pointer (some ⟨mb, 0, none⟩)) rfl (by kernel_rfl) (by kernel_rfl) (by kernel_rfl) (by kernel_rfl) (fun _ _ _ h => h) (by kernel_rfl) ?_ HU.out ?_
      · intro W hSw; first | (go_simp; done) | go_simp
      try simp only [Act.put, List.setIfInBounds_toArray, List.set_cons_zero, List.set_cons_succ]
      refine takeYes (i := 1) (k := 60) (v := .agg #[.int .i64 y.nxt, .int .i64 y.lg, .int .i64 y.lst, .slice aA2 mA cA2, .slice aD2 mD cD2]) rfl (by kernel_rfl) (by kernel_rfl) (by kernel_rfl) (by kernel_rfl) (fun _ _ _ h => h) (by kernel_rfl) ?_ HU.out ?_
      · intro W hSw; obtain ⟨q0, q1, q2, q3, q4⟩ := cell5_of (HXU.out W hSw); first | (go_simp; done) | go_simp
      try simp only [Act.put, List.setIfInBounds_toArray, List.set_cons_zero, List.set_cons_succ]
      refine takeYes (i := 3) (k := 62) (v := .pointer (some ⟨rc, 0, none⟩)) rfl (by kernel_rfl) (by kernel_rfl) (by kernel_rfl) (by kernel_rfl) (fun _ _ _ h => h) (by kernel_rfl) ?_ HU.out ?_
      · intro W hSw; first | (go_simp; done) | go_simp
      try simp only [Act.put, List.setIfInBounds_toArray, List.set_cons_zero, List.set_cons_succ]
      refine takeYes (i := 4) (k := 63) (v := .agg #[.int .i64 y.nxt, .int .i64 y.lg, .int .i64 y.lst, .slice aA2 mA cA2, .slice aD2 mD cD2]) rfl (by kernel_rfl) (by kernel_rfl) (by kernel_rfl) (by kernel_rfl) (fun _ _ _ h => h) (by kernel_rfl) ?_ HU.out ?_
      · intro W hSw; obtain ⟨q0, q1, q2, q3, q4⟩ := cell5_of (HXU.out W hSw); first | (go_simp; done) | go_simp
      try simp only [Act.put, List.setIfInBounds_toArray, List.set_cons_zero, List.set_cons_succ]
      refine wpAnyH_ready (rs := [2]) (by kernel_rfl) (by simp) (AllReadyH.cons rfl (fun K hK => ?_) AllReadyH.nil)
      go_simp
      have HMw := Lib.hid (HM5.out.below HBw.out)
      have HRw := Lib.hid (HR5.out.below HBw.out)
      have HHw := Lib.hid (HH5.out.below HBw.out)
      refine (mcommit_st HG.out HMw.out (by omega) (.agg #[.int .i64 y.nxt, .int .i64 y.lg, .int .i64 y.lst, .slice aA2 mA cA2, .slice aD2 mD cD2]) y (HHw.out.at HMw.out.blw) HSH.out).mono ?_
      rintro e w6 (⟨hno, rfl, F', hst, hm⟩ | ⟨n', V', hyes, hsm, F', S', hst, (⟨rfl, hm, -, hf⟩ | ⟨hbad, -⟩)⟩)
      · have HH6 : Hid (EdHalf w wr.heap.size w6 (.slice aA2 mA cA2) (.slice aD2 mD cD2) y) := Lib.hid ⟨row_same HHw.out.adds fun k hk => hst.1.block k (row_lt HHw.out.adds k hk) fun f => by
          have h3 := HFW.out k f
          rcases HHw.out.adds.blk with ⟨e, -⟩ | ⟨g', cap, cur, e, e2, -⟩
          · rw [e] at hk; simp [Value.ownBlock] at hk
          · rw [e] at hk; simp only [Value.ownBlock, Option.some.injEq] at hk; omega, HHw.out.dels⟩
        have HR6 := Lib.hid (HRw.out.step hst)
        have HM6 := Lib.hid hm
        have hU6 : UpdF (fun k => k ≠ p) w5 w6 := (UpdF.of HBw.out).trans (hst.1.mono fun k _ f => by have h3 := HFW.out k f; have h4 := HS4.out; omega)
        refine hK.out _ _ hU6 (fun _ => ?_)
        clear hK K HU
        have HU := Lib.hid hU6
        have HVW := Lib.hid (applyV_same HS.out (by obtain ⟨ρ6, -, k1, -⟩ := HMw.out.ex; exact k1.good) y)
        clear hst hm hU6 HMw HRw HHw HM5 HR5 HH5
        try simp only []
        refine wpAnyH_ready (rs := [5]) (by kernel_rfl) (by simp) (AllReadyH.cons rfl (fun K hK => ?_) AllReadyH.nil)
        go_simp
        refine (rapply_new HR6.out.at HM6.out.blw.size (.agg #[.int .i64 y.nxt, .int .i64 y.lg, .int .i64 y.lst, .slice aA2 mA cA2, .slice aD2 mD cD2]) y (HH6.out.at HM6.out.blw) HSH.out.ok).mono ?_
        rintro e w7 hra
        obtain ⟨ra1, ra2, ra3⟩ := HR6.out.apply (fun k f => (HM6.out.high k f).2) HM6.out.blw.size hra
        rcases HVW.out with ⟨-, hnw⟩ | ⟨a1, a2, e1, -, -⟩
        rotate_left
        · rw [hno] at e1; cases e1
        obtain ⟨rfl, hr7, hb7⟩ := ra1 hnw
        have HM9 := Lib.hid (HM6.out.below hb7)
        have HR9 := Lib.hid hr7
        have HF9 := HFL
        have HS9 := HS
        have hU7 : UpdF (fun k => k ≠ p) w5 w7 := HU.out.trans (ra3.mono fun k _ e => by have e' : k = rc := e; have h3 := HRC.out; have h4 := HS4.out; omega)
        refine hK.out _ _ hU7 (fun _ => ?_)
        clear hK K HU
        have HU := Lib.hid hU7
        clear hU7 ra1 ra2 ra3 hra HVW HM6 HR6 HH6 HXU HX5 HBw
        try simp only []
        refine takeYes (i := 6) (k := 65) (v := .bool false) rfl (by kernel_rfl) (by kernel_rfl) (by kernel_rfl) (by kernel_rfl) (fun _ _ _ h => h) (by kernel_rfl) ?_ HU.out ?_
        · intro W hSw; first | (go_simp; done) | go_simp
        try simp only [Act.put, List.setIfInBounds_toArray, List.set_cons_zero, List.set_cons_succ]
        refine wpAnyH_done (by kernel_rfl) ?_ _
        clear HU
        have HSZ9 := Lib.hid (run_pos HM9.out.run)
        obtain ⟨ρ9, -, hm9, -⟩ := HM9.out.ex
        have HVE := Lib.hid (mver_any hm9)
        clear hm9 ρ9
        go_wp2_with fail
        refine HVE.out.mono ?_
        rintro e wv ⟨rfl, hv, hb⟩
        have HMv := Lib.hid (HM9.out.below hb)
        have HRv := Lib.hid (HR9.out.below hb)
        have HSA := Lib.hid (vsame_any hv HRv.out.at HS9.out)
        clear hv hb HVE HM9 HR9
        go_wp2_with fail
        refine HSA.out.mono ?_
        rintro e ws ⟨rfl, hb⟩
        have HMs := Lib.hid (HMv.out.below hb)
        have HRs := Lib.hid (HRv.out.below hb)
        obtain ⟨ρs, -, hms, -⟩ := HMs.out.ex
        obtain ⟨sz, hsz⟩ : ∃ sz, (logB smN (es)).length = sz := ⟨_, rfl⟩
        have HSI : Hid (Calls Tryz.prog 20 #[.pointer (some ⟨mb, 0, none⟩)] ws fun e w' => e = .returned (.int .i64 (sz : Int)) ∧ w' = ws) := Lib.hid (by rw [← hsz]; exact msize_any hms)
        have hsp : ¬ (sz : Int) ≤ 0 := by have := HSZ9.out; omega
        clear hms hb hsz ρs HSA HMv HRv HSZ9
        go_wp2_with fail
        refine HSI.out.mono ?_
        rintro e wS ⟨rfl, rfl⟩
        clear HSI
        go_wp2_with fail
        go_roundg (20 - (i + 1))
        case measure => omega
        case rel => exact ⟨i + 1, b, mb, F', S, u, V, W, es, c, r, rfl, rfl, rfl, by go_num, by omega, Nat.le_refl _, by omega, HMs, HF9, HRs, HS9⟩
      · have HH6 : Hid (EdHalf w wr.heap.size w6 (.slice aA2 mA cA2) (.slice aD2 mD cD2) y) := Lib.hid ⟨row_same HHw.out.adds fun k hk => hst.1.block k (row_lt HHw.out.adds k hk) fun f => by
          have h3 := HFW.out k f
          rcases HHw.out.adds.blk with ⟨e, -⟩ | ⟨g', cap, cur, e, e2, -⟩
          · rw [e] at hk; simp [Value.ownBlock] at hk
          · rw [e] at hk; simp only [Value.ownBlock, Option.some.injEq] at hk; omega, HHw.out.dels⟩
        have HR6 := Lib.hid (HRw.out.step hst)
        have HM6 := Lib.hid hm
        have hU6 : UpdF (fun k => k ≠ p) w5 w6 := (UpdF.of HBw.out).trans (hst.1.mono fun k _ f => by have h3 := HFW.out k f; have h4 := HS4.out; omega)
        refine hK.out _ _ hU6 (fun _ => ?_)
        clear hK K HU
        have HU := Lib.hid hU6
        have HVW := Lib.hid (applyV_same HS.out (by obtain ⟨ρ6, -, k1, -⟩ := HMw.out.ex; exact k1.good) y)
        clear hst hm hU6 HMw HRw HHw HM5 HR5 HH5
        try simp only []
        refine wpAnyH_ready (rs := [5]) (by kernel_rfl) (by simp) (AllReadyH.cons rfl (fun K hK => ?_) AllReadyH.nil)
        go_simp
        refine (rapply_new HR6.out.at HM6.out.blw.size (.agg #[.int .i64 y.nxt, .int .i64 y.lg, .int .i64 y.lst, .slice aA2 mA cA2, .slice aD2 mD cD2]) y (HH6.out.at HM6.out.blw) HSH.out.ok).mono ?_
        rintro e w7 hra
        obtain ⟨ra1, ra2, ra3⟩ := HR6.out.apply (fun k f => (HM6.out.high k f).2) HM6.out.blw.size hra
        rcases HVW.out with ⟨e1, -⟩ | ⟨a1, a2, e1, e2, e3⟩
        · rw [hyes] at e1; cases e1
        rw [hyes] at e1
        obtain rfl := Option.some.inj e1
        obtain ⟨rfl, hr7⟩ := ra2 a2 e2
        have HM9 := Lib.hid (HM6.out.upd ra3 (fun k e => by subst e; have := HR6.out.lt; exact Nat.le_trans (Nat.le_refl _) HRW.out) (fun k e f => by subst e; exact HR6.out.out f) (k := rc) (fun j e => e) HR6.out.at.blk.choose_spec.1 (by decide))
        have HR9 := Lib.hid hr7
        have HF9 := Lib.hid (hf HFL.out)
        have HS9 := Lib.hid (hsm.symm.trans e3)
        have hU7 : UpdF (fun k => k ≠ p) w5 w7 := HU.out.trans (ra3.mono fun k _ e => by have e' : k = rc := e; have h3 := HRC.out; have h4 := HS4.out; omega)
        refine hK.out _ _ hU7 (fun _ => ?_)
        clear hK K HU
        have HU := Lib.hid hU7
        clear hU7 ra1 ra2 ra3 hra HVW HM6 HR6 HH6 HXU HX5 HBw
        try simp only []
        refine takeYes (i := 6) (k := 65) (v := .bool false) rfl (by kernel_rfl) (by kernel_rfl) (by kernel_rfl) (by kernel_rfl) (fun _ _ _ h => h) (by kernel_rfl) ?_ HU.out ?_
        · intro W hSw; first | (go_simp; done) | go_simp
        try simp only [Act.put, List.setIfInBounds_toArray, List.set_cons_zero, List.set_cons_succ]
        refine wpAnyH_done (by kernel_rfl) ?_ _
        clear HU
        have HSZ9 := Lib.hid (run_pos HM9.out.run)
        obtain ⟨ρ9, -, hm9, -⟩ := HM9.out.ex
        have HVE := Lib.hid (mver_any hm9)
        clear hm9 ρ9
        go_wp2_with fail
        refine HVE.out.mono ?_
        rintro e wv ⟨rfl, hv, hb⟩
        have HMv := Lib.hid (HM9.out.below hb)
        have HRv := Lib.hid (HR9.out.below hb)
        have HSA := Lib.hid (vsame_any hv HRv.out.at HS9.out)
        clear hv hb HVE HM9 HR9
        go_wp2_with fail
        refine HSA.out.mono ?_
        rintro e ws ⟨rfl, hb⟩
        have HMs := Lib.hid (HMv.out.below hb)
        have HRs := Lib.hid (HRv.out.below hb)
        obtain ⟨ρs, -, hms, -⟩ := HMs.out.ex
        obtain ⟨sz, hsz⟩ : ∃ sz, (logB smN (es ++ [y])).length = sz := ⟨_, rfl⟩
        have HSI : Hid (Calls Tryz.prog 20 #[.pointer (some ⟨mb, 0, none⟩)] ws fun e w' => e = .returned (.int .i64 (sz : Int)) ∧ w' = ws) := Lib.hid (by rw [← hsz]; exact msize_any hms)
        have hsp : ¬ (sz : Int) ≤ 0 := by have := HSZ9.out; omega
        clear hms hb hsz ρs HSA HMv HRv HSZ9
        go_wp2_with fail
        refine HSI.out.mono ?_
        rintro e wS ⟨rfl, rfl⟩
        clear HSI
        go_wp2_with fail
        go_roundg (20 - (i + 1))
        case measure => omega
        case rel => exact ⟨i + 1, b, mb, F', S', u, V', a2, es ++ [y], c + 1, r, rfl, rfl, rfl, by go_num, by omega, Nat.le_refl _, by omega, HMs, HF9, HRs, HS9⟩
      · exact absurd HFL.out hbad
    by_cases hk1 : x.kind = 1
    · rw [hk1] at z0
      by_cases hmx : 1125899906842624 ≤ W.nx
      · obtain ⟨fv, hr1, -, -⟩ := HR.out.blk
        have y1 := hr1.at 1
        have y1 : wr.cell? ⟨rc, 1, none⟩ = some (.int .i64 W.nx) := y1
        clear hr1
        go_wp2_with fail
        go_roundg (20 - (i + 1))
        case measure => omega
        case rel => exact ⟨i + 1, b, mb, F, S, u, V, W, es, c, r, rfl, rfl, rfl, by go_num, by omega, Nat.le_refl _, by omega, HM, HFL, HR, HS⟩
      have hmn : W.nx < 1125899906842624 := by omega
      have hmg : ¬ 1125899906842624 ≤ W.nx := hmx
      have hn0 : 1 ≤ W.nx := HR.out.good.nx1
      obtain ⟨fv, hr1, hr2, hr3⟩ := HR.out.blk
      have y1 : wr.cell? ⟨rc, 1, none⟩ = some (.int .i64 W.nx) := hr1.at 1
      have f1 := hr1.free 1
      have hu1 : UpdF (fun k => k = rc) wr (wr.setCell ⟨rc, 1, none⟩ (.int .i64 (W.nx + 1))) := (UpdF.refl _ wr).set rc 1 _ rfl
      have HR1 : Hid (RefO F w.heap.size (wr.setCell ⟨rc, 1, none⟩ (.int .i64 (W.nx + 1))) rc (bumpV W)) := Lib.hid ⟨⟨fv, hr1.set (o := 1) (.int .i64 (W.nx + 1)), hr2.asideT hu1 hr1 (by decide), hr3⟩, HR.out.out, bumpV_good HR.out.good hmn⟩
      have HM1 : Hid (MSt F w (wr.setCell ⟨rc, 1, none⟩ (.int .i64 (W.nx + 1))) b mb S u V es c r) := Lib.hid (HM.out.upd hu1 (fun k e => by subst e; exact HRW.out) (fun k e f => by subst e; exact HR.out.out f) (k := rc) (fun j e => e) hr1 (by decide))
      have HRR := Lib.hid (mrewrite_st HG.out HM1.out (by omega) (by rw [HS.out.2.1]; exact hmn))
      have HBS := Lib.hid (bumpV_same HS.out)
      clear hr1 hr2 hr3 hu1 HM HR hmx
      go_upto_region 24 with fail
      clear y1 f1 hmg
      generalize wr.setCell ⟨rc, 1, none⟩ (.int .i64 (W.nx + 1)) = w4 at *
      go_wp2_with fail
      refine HRR.out.mono ?_
      rintro e w7 ⟨V', F', S', v', hsm, hst, hv', (⟨rfl, hm, hf, -⟩ | ⟨hbad, -⟩)⟩
      rotate_left
      · exact absurd HFL.out hbad
      have HM9 := Lib.hid hm
      have HR9 := Lib.hid (HR1.out.step hst)
      have HF9 := Lib.hid (hf HFL.out)
      have HS9 := Lib.hid (hsm.symm.trans HBS.out)
      clear hsm hst hv' hm hf HRR HM1 HR1 HBS
      have HSZ9 := Lib.hid (run_pos HM9.out.run)
      obtain ⟨ρ9, -, hm9, -⟩ := HM9.out.ex
      have HVE := Lib.hid (mver_any hm9)
      clear hm9 ρ9
      go_wp2_with fail
      refine HVE.out.mono ?_
      rintro e wv ⟨rfl, hv, hb⟩
      have HMv := Lib.hid (HM9.out.below hb)
      have HRv := Lib.hid (HR9.out.below hb)
      have HSA := Lib.hid (vsame_any hv HRv.out.at HS9.out)
      clear hv hb HVE HM9 HR9
      go_wp2_with fail
      refine HSA.out.mono ?_
      rintro e ws ⟨rfl, hb⟩
      have HMs := Lib.hid (HMv.out.below hb)
      have HRs := Lib.hid (HRv.out.below hb)
      obtain ⟨ρs, -, hms, -⟩ := HMs.out.ex
      obtain ⟨sz, hsz⟩ : ∃ sz, (logB smN ([wholeE V'])).length = sz := ⟨_, rfl⟩
      have HSI : Hid (Calls Tryz.prog 20 #[.pointer (some ⟨mb, 0, none⟩)] ws fun e w' => e = .returned (.int .i64 (sz : Int)) ∧ w' = ws) := Lib.hid (by rw [← hsz]; exact msize_any hms)
      have hsp : ¬ (sz : Int) ≤ 0 := by have := HSZ9.out; omega
      clear hms hb hsz ρs HSA HMv HRv HSZ9
      go_wp2_with fail
      refine HSI.out.mono ?_
      rintro e wS ⟨rfl, rfl⟩
      clear HSI
      go_wp2_with fail
      go_roundg (20 - (i + 1))
      case measure => omega
      case rel => exact ⟨i + 1, b, mb, F', S', v', V', bumpV W, [wholeE V'], c, r + 1, rfl, rfl, rfl, by go_num, by omega, Nat.le_refl _, by omega, HMs, HF9, HRs, HS9⟩
    · skip
      have HCR := Lib.hid (mcrash_st HM.out 0 (.slice none 0 0) [] (.inl ⟨_, _, rfl, rfl⟩) (by decide))
      have hk0' : (x.kind == 0) = false := by rw [beq_eq_false_iff_ne]; exact hk0
      have hk1' : (x.kind == 1) = false := by rw [beq_eq_false_iff_ne]; exact hk1
      go_wp2_with fail
      refine HCR.out.mono ?_
      rintro e w4 ⟨b4, rfl, hf4⟩
      have HLD := Lib.hid (mload_st (HG.out.below HM.out.blw) hf4 (HM.out.run.crash smN_len 0 []) rfl (by omega))
      clear hf4 HCR
      go_wp2_with fail
      refine HLD.out.mono ?_
      rintro e w7 ⟨mb5, F', S5, V5, rfl, hsm, hm5, hf5, -⟩
      have HM9 := Lib.hid (hm5.down HM.out.blw)
      have HR9 := Lib.hid (HR.out.other hm5.blw fun k f => (hm5.high k f).1)
      have HF9 := Lib.hid hf5
      have HS9 := Lib.hid (hsm.symm.trans HS.out)
      clear hsm hm5 hf5 HLD HM HR
      have HSZ9 := Lib.hid (run_pos HM9.out.run)
      obtain ⟨ρ9, -, hm9, -⟩ := HM9.out.ex
      have HVE := Lib.hid (mver_any hm9)
      clear hm9 ρ9
      go_wp2_with fail
      refine HVE.out.mono ?_
      rintro e wv ⟨rfl, hv, hb⟩
      have HMv := Lib.hid (HM9.out.below hb)
      have HRv := Lib.hid (HR9.out.below hb)
      have HSA := Lib.hid (vsame_any hv HRv.out.at HS9.out)
      clear hv hb HVE HM9 HR9
      go_wp2_with fail
      refine HSA.out.mono ?_
      rintro e ws ⟨rfl, hb⟩
      have HMs := Lib.hid (HMv.out.below hb)
      have HRs := Lib.hid (HRv.out.below hb)
      obtain ⟨ρs, -, hms, -⟩ := HMs.out.ex
      obtain ⟨sz, hsz⟩ : ∃ sz, (logB smN (es)).length = sz := ⟨_, rfl⟩
      have HSI : Hid (Calls Tryz.prog 20 #[.pointer (some ⟨mb5, 0, none⟩)] ws fun e w' => e = .returned (.int .i64 (sz : Int)) ∧ w' = ws) := Lib.hid (by rw [← hsz]; exact msize_any hms)
      have hsp : ¬ (sz : Int) ≤ 0 := by have := HSZ9.out; omega
      clear hms hb hsz ρs HSA HMv HRv HSZ9
      go_wp2_with fail
      refine HSI.out.mono ?_
      rintro e wS ⟨rfl, rfl⟩
      clear HSI
      go_wp2_with fail
      go_roundg (20 - (i + 1))
      case measure => omega
      case rel => exact ⟨i + 1, b4, mb5, F', S5, u, V5, W, es, c, r, rfl, rfl, rfl, by go_num, by omega, Nat.le_refl _, by omega, HMs, HF9, HRs, HS9⟩
theorem manifestAll_walk (w : World) (hT : TabAt w) (hP : PowAt w) (oa : Option Addr) (on oc : Nat) (xs : List MOp) (hx : MOpsAt w (.slice oa on oc) xs) (hok : ∀ x ∈ xs, ∀ f ∈ x.e.adds, f.ok) :
    Calls Tryz.prog 3 #[.slice oa on oc] w fun e w' => e = .returned (.bool true) ∧ Below w.heap.size w w' := manAll_walk w ⟨hT, hP⟩ oa on oc xs hx hok
end Go.Proofs.YtcppaflnhlmcbaaGreatDoor
