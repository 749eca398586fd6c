/- The walk of the law WalReplay. -/
import Derived.Test.YtjhkfjbgdaomeaaGreatDoorWalSt
import Derived.Test.YtjhkfjbgdaomeaaGreatDoorOpCut
import Derived.Test.YtjhkfjbgdaomeaaGreatDoorOpRefE
import Derived.Deep.LoopGhost
namespace Go.Proofs.YtjhkfjbgdaomeaaGreatDoor
set_option linter.unusedVariables false
open Go.RowKit Go.Maps
theorem row_form_op {B : Nat} {w : World} {v : Value} {l : List Opn} (h : OwnK encOp 3 49 B w v l) : ∃ a n cap, v = .slice a n cap ∧ n = l.length := by
  obtain ⟨a, n, cap, e, h1, -⟩ := h.len3; exact ⟨a, n, cap, e, h1⟩
theorem grp_good {q : Nat} {l : List Opn} (hq : 1 ≤ q) (hq2 : q ≤ 1000000) (hl : l.length ≤ 6) (hs : ∀ o ∈ l, o.short) (hc : checkP l = 0) : GoodG (q, l) ∧ (grpB (q, l)).length ≤ 1584 := by
  obtain ⟨-, -, h3⟩ := checkP_ok hc
  have h4 := grp_short 200 (g := (q, l)) fun o ho => ⟨h3 o ho, (hs o ho).1, (hs o ho).2⟩
  refine ⟨⟨hc, ?_⟩, ?_⟩
  · unfold numOk; show 1 ≤ (q : Int) ∧ (q : Int) + (l.length : Nat) ≤ _; omega
  · have : (l.length * (61 + 200) : Nat) ≤ 6 * 261 := Nat.mul_le_mul hl (by omega)
    simp only at h4
    omega
theorem opn_ok {o : Opn} (h : o.short) : o.ok := by
  obtain ⟨h1, h2⟩ := h
  constructor
  · unfold maxLen; omega
  · unfold maxLen; omega
set_option maxHeartbeats 8000000 in
set_option maxRecDepth 100000 in
theorem walReplay_walk (w : World) (hE : ErrAt w) (hSp : SpAt w) (hT : TabAt w) (ga : Option Addr) (gl gc : Nat) (zs : List (List Opn)) (hz : RdLs encOp 3 w (.slice ga gl gc) zs) (hok : ∀ g ∈ zs, ∀ o ∈ g, o.ok) (sync : Int) (wsy : (Lit.int .i64 sync).wf = true) (dirs : Int) (wdi : (Lit.int .i64 dirs).wf = true) (tail : Int) (wta : (Lit.int .i64 tail).wf = true) :
    Calls Tryz.prog 3 #[.slice ga gl gc, .int .i64 sync, .int .i64 dirs, .int .i64 tail] w fun e w' => e = .returned (.bool true) ∧ Below w.heap.size w w' := by
  have HG : Hid (∀ W, Below w.heap.size w W → GlobAt W) := Lib.hid fun W hW => GlobAt.below ⟨hE, hSp, hT⟩ hW
  have HBG := Lib.hid (wbegun_any w ⟨hE, hSp, hT⟩)
  have HZ := Lib.hid hz
  have HOK := Lib.hid hok
  have hgl : gl = zs.length := by
    obtain ⟨a, c, e⟩ := hz.form
    simp only [Value.slice.injEq] at e
    exact e.2.1
  have HGLN := Lib.hid hgl
  clear hE hSp hT hz hok wsy wdi wta hgl
  go_enter Tryz.func3, Tryz.ntmps3
  go_wp2_with fail
  refine HBG.out.mono ?_
  rintro e w1 ⟨rfl, b1⟩
  have HW1 := Lib.hid b1
  have HNW : Hid (Calls Tryz.prog 8 #[.int .i64 1048576] w1 fun e w' => e = .returned (.pointer (some ⟨w1.heap.size, 0, none⟩)) ∧ FsOwn w1 w' w1.heap.size (fsNew 1048576)) := Lib.hid (new_own 1048576 w1)
  clear b1 HBG
  go_wp2_with fail
  refine HNW.out.mono ?_
  rintro e w2 ⟨rfl, hf⟩
  have HCR : Hid (Calls Tryz.prog 9 #[.pointer (some ⟨w1.heap.size, 0, none⟩), .int .i64 5] w2 fun e w' => ∃ lb, e = .returned (.tuple #[.pointer (some ⟨lb, 0, none⟩), .int .i64 0]) ∧ WalOwn w1 w' w1.heap.size lb (namF (logName 5) (walB smN []) 0 [] [mkF (logName 5)] 1048576 (inc64 0)) (logName 5) (walB smN []).length) := Lib.hid (walNew_any hf 5 (by omega) (by omega) name5_ok (by rw [name5]; decide))
  clear hf HNW
  go_wp2_with fail
  refine HCR.out.mono ?_
  rintro e w3 ⟨lb, rfl, ho⟩
  have HSD := Lib.hid (WSt.syncDir (WSt.start ho))
  clear ho HCR
  go_wp2_with fail
  refine HSD.out.mono ?_
  rintro e w4 ⟨rfl, h4⟩
  have HS0 : Hid (WSt w1 w4 w1.heap.size lb [(logName 5, 0)] [] [] (walB smN (([] : List Grp).take 0)).length (.slice none 0 0) (([] : List Grp).map grpE) (.slice none 0 0) []) := Lib.hid h4
  clear h4 HSD
  go_wp2_with fail
  go_loopg [13, 14, 15, 16] gl (fun kk vw vq vs vi wr => ∃ (i sn : Nat) (gs : List Grp) (q : Nat), vq = .int .i64 (q : Int) ∧ vs = .int .i64 (sn : Int) ∧ vi = .int .i64 (i : Int) ∧ i ≤ gl ∧ i ≤ 12 ∧ gl - i ≤ kk ∧ sn ≤ gs.length ∧ gs.length ≤ i ∧ 1 ≤ q ∧ q ≤ 1 + 6 * i ∧
    Hid (∀ g ∈ gs, GoodG g ∧ (grpB g).length ≤ 1584) ∧ Hid (WSt w1 wr w1.heap.size lb [(logName 5, 0)] [] gs (walB smN (gs.take sn)).length vw (gs.map grpE) (.slice none 0 0) []))
  case atStart => exact ⟨0, 0, [], 1, rfl, rfl, rfl, by omega, by omega, by omega, by simp, by simp, by omega, by omega, Lib.hid (by simp), HS0⟩
  case round =>
    clear HS0
    obtain ⟨i, sn, gs, q, rfl, rfl, rfl, hi, hi12, hik, hsn, hgi, hq1, hq2, HGS, HST⟩ := hrel
    by_cases h1 : i < gl
    · have hd1 : decide (i < gl) = true := decide_eq_true h1
      have hz1 : (i : Int) < (gl : Int) := by omega
      by_cases h2 : i < 12
      · have hd2 : decide (i < 12) = true := decide_eq_true h2
        have hz2 : (i : Int) < 12 := by omega
        obtain ⟨wxa, wxc, rfl⟩ := HST.out.form
        obtain ⟨nn, hnn⟩ : ∃ nn, gs.length = nn := ⟨_, rfl⟩
        have hml : (gs.map grpE).length = nn := by rw [List.length_map, hnn]
        rw [hml] at HST ⊢
        have HNN0 := Lib.hid hnn
        obtain ⟨l, hl⟩ : ∃ l, zs[i]? = some l := ⟨zs[i]'(by have := HGLN.out; omega), List.getElem?_eq_getElem _⟩
        have hwr : Below w.heap.size w wr := HW1.out.trans (HST.out.blw.mono HW1.out.size)
        obtain ⟨g, off, u, e1, hgb, hc, hu⟩ := (HZ.out.below hwr).at i l hl
        obtain rfl := e1
        have HCUT : Hid (Calls Tryz.prog 11 #[u, .int .i64 6] wr (SomeO 6 wr)) := Lib.hid (ocut_any 6 (by omega) u l (HOK.out l (List.mem_of_getElem? hl)) wr hu)
        obtain ⟨ua, uc, rfl, -⟩ := hu.len
        have HWR := Lib.hid hwr
        clear hl hu hwr hml hnn
        go_wp2_with fail
        refine HCUT.out.mono ?_
        rintro e w4 ⟨v4, ys, rfl, o4, hyl, hys, b4⟩
        obtain ⟨ya, yl, yc, rfl, hyn⟩ := row_form_op o4
        have hyl6 : yl ≤ 6 := by omega
        have hW4 := HWR.out.trans (b4.mono HWR.out.size)
        have hyok : ∀ o ∈ ys, o.ok := fun o ho => opn_ok (hys o ho)
        by_cases hck : checkP ys = 0
        · obtain ⟨gg, gb⟩ := grp_good hq1 (by omega) hyl hys hck
          have HGL : Hid ((gs ++ [(q, ys)]).length = nn + 1) := Lib.hid (by rw [List.length_append, HNN0.out]; rfl)
          have HGX : Hid (∀ g ∈ gs ++ [(q, ys)], GoodG g ∧ (grpB g).length ≤ 1584) := Lib.hid fun g hgm => by
            rcases List.mem_append.1 hgm with h | h
            · exact HGS.out g h
            · obtain rfl := List.mem_singleton.1 h; exact ⟨gg, gb⟩
          have hroom := wal_len (m := 1584) fun g hg => (HGX.out g hg).2
          rw [HGL.out] at hroom
          have HAP := Lib.hid (HST.out.append b4 gg o4 hyok (HG.out _ hW4) (by omega) (by
            have : (nn + 1) * (8 * 1584 + 20) ≤ 12 * (8 * 1584 + 20) := Nat.mul_le_mul (by have := HNN0.out; omega) (Nat.le_refl _)
            omega))
          have HSYE : Hid ((gs ++ [(q, ys)]).take sn = gs.take sn) := Lib.hid (List.take_append_of_le_length hsn)
          have HSNL : Hid (sn ≤ nn) := Lib.hid (by have := HNN0.out; omega)
          have HYL : Hid (ys.length ≤ 1000000) := Lib.hid (by omega)
          have HYOK := Lib.hid hyok
          have HCK := Lib.hid hck
          have hnn12 : nn ≤ i := by have := HNN0.out; omega
          clear hroom gg gb hck hyok hyl hys hyn o4 b4 HST HCUT HGS hsn hgi hc
          go_wp2_with fail
          refine HAP.out.mono ?_
          rintro e w5 ⟨rfl, h5, o5⟩
          have hb5 := HW1.out.trans (h5.blw.mono HW1.out.size)
          have HRC := Lib.hid (rcheck_any _ ys HYOK.out (by have := HYL.out; omega) w5 (o5.rd encOp_len))
          rw [HCK.out] at HRC
          have HO5 := Lib.hid o5
          have HS5 := Lib.hid h5
          have HW5 := Lib.hid hb5
          clear h5 o5 hb5 HAP
          go_wp2_with fail
          refine HRC.out.mono ?_
          rintro e w6 ⟨rfl, b6⟩
          have HS6 := Lib.hid (HS5.out.below b6)
          have HRE := Lib.hid (rentries_any (q : Int) _ ys HYOK.out (by have := HYL.out; omega) w6 ((HO5.out.below b6).rd encOp_len))
          unfold entsP at HRE
          rw [if_pos HCK.out] at HRE
          clear b6 HRC HO5 HS5 HW5
          go_wp2_with fail
          refine HRE.out.mono ?_
          rintro e w7 ⟨u7, rfl, o7, b7⟩
          obtain ⟨v8, w8, r8, s8, -⟩ := HS6.out.want b7 o7 (by rw [List.length_map]; have := HNN0.out; omega) (ty := 31)
          rw [show gs.map grpE ++ [entsF (q : Int) ys] = (gs ++ [(q, ys)]).map grpE by rw [List.map_append]; rfl, ← HSYE.out] at s8
          obtain ⟨wxa', wxc', rfl⟩ := s8.form
          obtain ⟨u7a, u7c, rfl⟩ := o7.form
          have hml : ((gs ++ [(q, ys)]).map grpE).length = nn + 1 := by rw [List.length_map, HGL.out]
          rw [hml] at s8 r8
          have HR8 := Lib.hid r8
          have HS8 := Lib.hid s8
          clear r8 s8 hml o7 b7 HRE HS6
          go_upto_region 20 with (at_builtin; refine wp_appRun _ _ (by rfl) (by rfl) (by rfl) (by rfl) HR8.out ?_)
          clear HR8
          obtain ⟨nn', hnn'⟩ : ∃ x, nn + 1 = x := ⟨_, rfl⟩
          rw [hnn'] at HS8 HGL ⊢
          have HSX := HS8
          have HNN := HGL
          have hnn13 : nn' ≤ i + 1 := by omega
          have HSN2 : Hid (sn ≤ nn') := Lib.hid (by have := HSNL.out; omega)
          clear HS8 HNN0 HSNL
          by_cases hsy : (i : Int) = sync
          · have d5 : ((i : Int) == sync) = true := by rw [beq_iff_eq]; exact hsy
            have HSY := Lib.hid HSX.out.sync
            clear HSX
            go_wp2_with fail
            refine HSY.out.mono ?_
            rintro e w9 ⟨rfl, h9⟩
            have HS9 : Hid (WSt w1 w9 w1.heap.size lb [(logName 5, 0)] [] (gs ++ [(q, ys)]) (walB smN ((gs ++ [(q, ys)]).take nn')).length (.slice wxa' nn' wxc') ((gs ++ [(q, ys)]).map grpE) (.slice none 0 0) []) := Lib.hid (by
              rw [List.take_of_length_le (by have := HNN.out; omega)]; exact h9)
            have HSL : Hid (nn' ≤ (gs ++ [(q, ys)]).length) := Lib.hid (by have := HNN.out; omega)
            clear h9 HSY
            go_wp2_with fail
            go_roundg (gl - (i + 1))
            case measure => omega
            case rel => exact ⟨i + 1, nn', gs ++ [(q, ys)], q + yl, by go_num, rfl, by go_num, by omega, by omega, Nat.le_refl _, HSL.out, by have := HGL.out; omega, by omega, by omega, HGX, HS9⟩
          · have d5 : ((i : Int) == sync) = false := by rw [beq_eq_false_iff_ne]; exact hsy
            have HSL : Hid (sn ≤ (gs ++ [(q, ys)]).length) := Lib.hid (by have := HSN2.out; have := HNN.out; omega)
            go_wp2_with fail
            go_roundg (gl - (i + 1))
            case measure => omega
            case rel => exact ⟨i + 1, sn, gs ++ [(q, ys)], q + yl, by go_num, rfl, by go_num, by omega, by omega, Nat.le_refl _, HSL.out, by have := HGL.out; omega, by omega, by omega, HGX, HSX⟩
        · obtain ⟨E, hEE⟩ : ∃ E, checkP ys = E := ⟨_, rfl⟩
          rw [hEE] at hck
          have HAP := Lib.hid (HST.out.appendNo b4 (s := q) (by omega) o4 hyok (by omega) (HG.out _ hW4) E hEE hck)
          have hE0 : (E == 0) = false := by rw [beq_eq_false_iff_ne]; exact hck
          have hEn : (E != E) = false := by simp
          have HS4 := Lib.hid (HST.out.below b4)
          have HRC0 : Hid (∀ W, Below w4.heap.size w4 W → Calls Tryz.prog 13 #[.slice ya yl yc] W fun e w' => e = .returned (.int .i64 E) ∧ Below W.heap.size W w') := Lib.hid fun W hW => by
            have := rcheck_any _ ys hyok (by omega) W ((o4.rd encOp_len).below hW)
            rwa [hEE] at this
          have HGX := HGS
          have HGL := HNN0
          have hnn12 : nn ≤ i := by have := HNN0.out; omega
          have HSN2 := Lib.hid hsn
          clear hEE hyok hyl hys hyn o4 b4 HST HCUT HGS hgi hc hck hsn
          go_wp2_with fail
          refine HAP.out.mono ?_
          rintro e w5 ⟨rfl, b5⟩
          have HS5 := Lib.hid (HS4.out.below b5)
          have HRC := Lib.hid (HRC0.out w5 b5)
          clear b5 HAP HRC0 HS4
          go_wp2_with fail
          refine HRC.out.mono ?_
          rintro e w6 ⟨rfl, b6⟩
          have HSX := Lib.hid (HS5.out.below b6)
          have HNN := HGL
          clear b6 HRC HS5
          by_cases hsy : (i : Int) = sync
          · have d5 : ((i : Int) == sync) = true := by rw [beq_iff_eq]; exact hsy
            have HSY := Lib.hid HSX.out.sync
            clear HSX
            go_wp2_with fail
            refine HSY.out.mono ?_
            rintro e w9 ⟨rfl, h9⟩
            have HS9 : Hid (WSt w1 w9 w1.heap.size lb [(logName 5, 0)] [] (gs) (walB smN ((gs).take nn)).length (.slice wxa nn wxc) ((gs).map grpE) (.slice none 0 0) []) := Lib.hid (by
              rw [List.take_of_length_le (by have := HNN.out; omega)]; exact h9)
            have HSL : Hid (nn ≤ (gs).length) := Lib.hid (by have := HNN.out; omega)
            clear h9 HSY
            go_wp2_with fail
            go_roundg (gl - (i + 1))
            case measure => omega
            case rel => exact ⟨i + 1, nn, gs, q, by go_num, rfl, by go_num, by omega, by omega, Nat.le_refl _, HSL.out, by have := HGL.out; omega, by omega, by omega, HGX, HS9⟩
          · have d5 : ((i : Int) == sync) = false := by rw [beq_eq_false_iff_ne]; exact hsy
            have HSL : Hid (sn ≤ (gs).length) := Lib.hid (by exact HSN2.out)
            go_wp2_with fail
            go_roundg (gl - (i + 1))
            case measure => omega
            case rel => exact ⟨i + 1, sn, gs, q, by go_num, rfl, by go_num, by omega, by omega, Nat.le_refl _, HSL.out, by have := HGL.out; omega, by omega, by omega, HGX, HSX⟩
      · have hd2 : decide (i < 12) = false := decide_eq_false h2
        have hz2 : ¬ (i : Int) < 12 := by omega
        obtain ⟨wxa, wxc, rfl⟩ := HST.out.form
        obtain ⟨nn, hnn⟩ : ∃ nn, gs.length = nn := ⟨_, rfl⟩
        have hml : (gs.map grpE).length = nn := by rw [List.length_map, hnn]
        rw [hml] at HST ⊢
        have HNN := Lib.hid hnn
        have hbl := wal_len (m := 1584) fun g hg => (HGS.out g hg).2
        have hG1 : ∀ g ∈ gs, GoodG g := fun g hg => (HGS.out g hg).1
        have hG2 : ∀ g ∈ gs, (grpB g).length ≤ 1000000 := fun g hg => by have := (HGS.out g hg).2; omega
        have HRD := Lib.hid HST.out.read
        obtain ⟨BL, hBL⟩ : ∃ BL, (walB smN gs).length = BL := ⟨_, rfl⟩
        have hBl : BL ≤ 1000000 := by rw [← hBL]; omega
        have HGG := Lib.hid (And.intro hG1 hG2)
        have HBL := Lib.hid hBL
        have hwr : Below w.heap.size w wr := HW1.out.trans (HST.out.blw.mono HW1.out.size)
        have HBW := Lib.hid hwr
        have hn12 : nn ≤ 12 := by omega
        clear hml hbl hG1 hG2 hnn hBL hwr
        go_wp2_with fail
        refine HRD.out.mono ?_
        rintro e w4 ⟨v4, rfl, o4, b4⟩
        obtain ⟨a4, l4, c4, rfl, hl4, -⟩ := o4.form
        obtain rfl : l4 = BL := by rw [hl4]; exact HBL.out
        have hS4 := HST.out.below b4
        have HB4 := Lib.hid (HBW.out.trans (b4.mono HBW.out.size))
        have HSZ := Lib.hid hS4.size
        rw [HBL.out] at HSZ
        have HTD := Lib.hid (hS4.told HGG.out.1 (by have := HNN.out; omega) HGG.out.2 (by have := HBL.out; omega) (HG.out _ HB4.out))
        rw [HNN.out] at HTD
        have HS4 := Lib.hid hS4
        have hne : ((l4 : Int) != (l4 : Int)) = false := by simp
        clear o4 b4 hl4 hS4 HRD HST HBW
        go_wp2_with fail
        refine HSZ.out.mono ?_
        rintro e w5 ⟨rfl, rfl⟩
        clear HSZ
        go_wp2_with fail
        refine HTD.out.mono ?_
        rintro e w5 ⟨rfl, b5⟩
        have hS5 := HS4.out.below b5
        have hb5 := HB4.out.trans (b5.mono HB4.out.size)
        have hal : Below w5.heap.size w5 (w5.alloc (.cells #[.int .i64 tail] 3)) := (Below.refl _ w5).alloc (Nat.le_refl _) _
        have HCR := Lib.hid (hS5.crash hal (by simp) dirs _ [tail] (ints_one w5 tail) (by simp))
        have HB5 := Lib.hid (hb5.alloc hb5.size (.cells #[.int .i64 tail] 3))
        have HWR := Lib.hid (hS5.want_rd.below hal)
        clear b5 hS5 hb5 hal HTD HS4 HB4
        go_wp2_with fail
        refine HCR.out.mono ?_
        rintro e w6 ⟨b', ρ', c', rfl, f6, b6⟩
        have HB6 := Lib.hid (HB5.out.trans (b6.mono HB5.out.size))
        have hsyl : (walB smN (gs.take sn)).length ≤ (walB smN gs).length := by
          have e1 := walB_fit smN gs (walB smN gs).length sn (by have := HNN.out; omega)
          have e2 : fitK smN 0 (gs.map grpB) (walB smN gs).length = gs.length := by unfold walB; rw [fitK_all, List.length_map]
          exact e1.2 (by rw [e2]; have := HNN.out; omega)
        have hcut : (walB smN (gs.take sn)).length + clampN tail ((walB smN gs).length - (walB smN (gs.take sn)).length) ≤ (walB smN gs).length := by
          have := clamp_le tail ((walB smN gs).length - (walB smN (gs.take sn)).length)
          omega
        have HT2 := Lib.hid (toldWal_any w6 b' ρ' _ f6 gs HGG.out.1 _ hcut (nam_crash0 ..) (by have := HBL.out; omega) (by have := HNN.out; omega) HGG.out.2 _ (HWR.out.below b6) (HG.out _ HB6.out) sn nn
          ((walB_fit smN gs _ sn (by have := HNN.out; omega)).1 (Nat.le_add_right _ _)) (by have := fitK_le (sm := smN) (gs.map grpB) 0 ((walB smN (gs.take sn)).length + clampN tail ((walB smN gs).length - (walB smN (gs.take sn)).length)); rw [List.length_map] at this; have := HNN.out; omega))
        clear f6 b6 hsyl hcut HCR HB5 HWR
        go_wp2_with fail
        refine HT2.out.mono ?_
        rintro e w7 ⟨rfl, b7⟩
        have HB7 := Lib.hid (HB6.out.trans (b7.mono HB6.out.size))
        clear b7 HT2
        go_wp2_with fail
        go_ret
        exact ⟨rfl, HB7.out⟩
    · have hd1 : decide (i < gl) = false := decide_eq_false h1
      have hz1 : ¬ (i : Int) < (gl : Int) := by omega
      obtain ⟨wxa, wxc, rfl⟩ := HST.out.form
      obtain ⟨nn, hnn⟩ : ∃ nn, gs.length = nn := ⟨_, rfl⟩
      have hml : (gs.map grpE).length = nn := by rw [List.length_map, hnn]
      rw [hml] at HST ⊢
      have HNN := Lib.hid hnn
      have hbl := wal_len (m := 1584) fun g hg => (HGS.out g hg).2
      have hG1 : ∀ g ∈ gs, GoodG g := fun g hg => (HGS.out g hg).1
      have hG2 : ∀ g ∈ gs, (grpB g).length ≤ 1000000 := fun g hg => by have := (HGS.out g hg).2; omega
      have HRD := Lib.hid HST.out.read
      obtain ⟨BL, hBL⟩ : ∃ BL, (walB smN gs).length = BL := ⟨_, rfl⟩
      have hBl : BL ≤ 1000000 := by rw [← hBL]; omega
      have HGG := Lib.hid (And.intro hG1 hG2)
      have HBL := Lib.hid hBL
      have hwr : Below w.heap.size w wr := HW1.out.trans (HST.out.blw.mono HW1.out.size)
      have HBW := Lib.hid hwr
      have hn12 : nn ≤ 12 := by omega
      clear hml hbl hG1 hG2 hnn hBL hwr
      go_wp2_with fail
      refine HRD.out.mono ?_
      rintro e w4 ⟨v4, rfl, o4, b4⟩
      obtain ⟨a4, l4, c4, rfl, hl4, -⟩ := o4.form
      obtain rfl : l4 = BL := by rw [hl4]; exact HBL.out
      have hS4 := HST.out.below b4
      have HB4 := Lib.hid (HBW.out.trans (b4.mono HBW.out.size))
      have HSZ := Lib.hid hS4.size
      rw [HBL.out] at HSZ
      have HTD := Lib.hid (hS4.told HGG.out.1 (by have := HNN.out; omega) HGG.out.2 (by have := HBL.out; omega) (HG.out _ HB4.out))
      rw [HNN.out] at HTD
      have HS4 := Lib.hid hS4
      have hne : ((l4 : Int) != (l4 : Int)) = false := by simp
      clear o4 b4 hl4 hS4 HRD HST HBW
      go_wp2_with fail
      refine HSZ.out.mono ?_
      rintro e w5 ⟨rfl, rfl⟩
      clear HSZ
      go_wp2_with fail
      refine HTD.out.mono ?_
      rintro e w5 ⟨rfl, b5⟩
      have hS5 := HS4.out.below b5
      have hb5 := HB4.out.trans (b5.mono HB4.out.size)
      have hal : Below w5.heap.size w5 (w5.alloc (.cells #[.int .i64 tail] 3)) := (Below.refl _ w5).alloc (Nat.le_refl _) _
      have HCR := Lib.hid (hS5.crash hal (by simp) dirs _ [tail] (ints_one w5 tail) (by simp))
      have HB5 := Lib.hid (hb5.alloc hb5.size (.cells #[.int .i64 tail] 3))
      have HWR := Lib.hid (hS5.want_rd.below hal)
      clear b5 hS5 hb5 hal HTD HS4 HB4
      go_wp2_with fail
      refine HCR.out.mono ?_
      rintro e w6 ⟨b', ρ', c', rfl, f6, b6⟩
      have HB6 := Lib.hid (HB5.out.trans (b6.mono HB5.out.size))
      have hsyl : (walB smN (gs.take sn)).length ≤ (walB smN gs).length := by
        have e1 := walB_fit smN gs (walB smN gs).length sn (by have := HNN.out; omega)
        have e2 : fitK smN 0 (gs.map grpB) (walB smN gs).length = gs.length := by unfold walB; rw [fitK_all, List.length_map]
        exact e1.2 (by rw [e2]; have := HNN.out; omega)
      have hcut : (walB smN (gs.take sn)).length + clampN tail ((walB smN gs).length - (walB smN (gs.take sn)).length) ≤ (walB smN gs).length := by
        have := clamp_le tail ((walB smN gs).length - (walB smN (gs.take sn)).length)
        omega
      have HT2 := Lib.hid (toldWal_any w6 b' ρ' _ f6 gs HGG.out.1 _ hcut (nam_crash0 ..) (by have := HBL.out; omega) (by have := HNN.out; omega) HGG.out.2 _ (HWR.out.below b6) (HG.out _ HB6.out) sn nn
        ((walB_fit smN gs _ sn (by have := HNN.out; omega)).1 (Nat.le_add_right _ _)) (by have := fitK_le (sm := smN) (gs.map grpB) 0 ((walB smN (gs.take sn)).length + clampN tail ((walB smN gs).length - (walB smN (gs.take sn)).length)); rw [List.length_map] at this; have := HNN.out; omega))
      clear f6 b6 hsyl hcut HCR HB5 HWR
      go_wp2_with fail
      refine HT2.out.mono ?_
      rintro e w7 ⟨rfl, b7⟩
      have HB7 := Lib.hid (HB6.out.trans (b7.mono HB6.out.size))
      clear b7 HT2
      go_wp2_with fail
      go_ret
      exact ⟨rfl, HB7.out⟩
end Go.Proofs.YtjhkfjbgdaomeaaGreatDoor
