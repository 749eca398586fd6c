/- The walk of the law WalMany. -/
import Derived.Test.YtjhkfjbgdaomeaaGreatDoorWalSt
import Derived.Test.YtjhkfjbgdaomeaaGreatDoorOpLawM
import Derived.Test.YtjhkfjbgdaomeaaGreatDoorOpRefE
import Derived.Deep.LoopGhost
import Derived.Deep.DeepCutAuto
namespace Go.Proofs.YtjhkfjbgdaomeaaGreatDoor
set_option linter.unusedVariables false
open Go.RowKit Go.Maps
/-- A change that puts n zeros. -/
def mO (n : Nat) : Opn := ⟨1, ⟨#[107]⟩, zrs n⟩
set_option maxRecDepth 100000 in
theorem mO_ok {n : Nat} (h : n ≤ 399) : opErr (mO n) = 0 := by
  obtain ⟨A, hA⟩ := opErr_key kO_ok
  have hA' : keyP (mO n).sp.data.toList = some A := hA
  unfold opErr
  rw [if_neg (by rintro ⟨h, -⟩; exact h rfl), hA', if_neg (by simp), if_neg (by show ¬ 1048576 < (zrs n).size; rw [zrs_size]; omega)]
set_option maxRecDepth 100000 in
theorem mO_good {q n : Nat} (hq : 1 ≤ q) (hq2 : q ≤ 1000000) (h : n ≤ 399) : GoodG (q, [mO n]) ∧ (grpB (q, [mO n])).length ≤ 478 := by
  have h4 := grp_short 399 (g := (q, [mO n])) fun o ho => by
    obtain rfl := List.mem_singleton.1 (show o ∈ [mO n] from ho)
    exact ⟨mO_ok h, by show (1 : Nat) ≤ 40; omega, by show (zrs n).size ≤ 399; rw [zrs_size]; exact h⟩
  refine ⟨⟨?_, ?_⟩, h4⟩
  · unfold checkP
    rw [if_neg (by simp), firstErr_of]
    intro o ho
    obtain rfl := List.mem_singleton.1 (show o ∈ [mO n] from ho)
    exact mO_ok h
  · unfold numOk; show 1 ≤ (q : Int) ∧ (q : Int) + ((1 : Nat) : Int) ≤ _; omega
/-- Where each group ends. -/
def endsOf (gs : List Grp) : List Int := (List.range gs.length).map fun j => ((walB smN (gs.take (j + 1))).length : Int)
theorem endsOf_len (gs : List Grp) : (endsOf gs).length = gs.length := by unfold endsOf; simp
theorem endsOf_snoc (gs : List Grp) (g : Grp) : endsOf (gs ++ [g]) = endsOf gs ++ [((walB smN (gs ++ [g])).length : Int)] := by
  unfold endsOf
  rw [List.length_append, List.length_singleton, List.range_succ, List.map_append, List.map_singleton]
  congr 1
  · apply List.map_congr_left
    intro j hj
    rw [List.mem_range] at hj
    rw [List.take_append_of_le_length (by omega)]
  · rw [List.take_of_length_le (by simp)]
theorem endsOf_at {gs : List Grp} {k : Nat} (h : k < gs.length) : (endsOf gs)[k]? = some ((walB smN (gs.take (k + 1))).length : Int) := by
  unfold endsOf
  rw [List.getElem?_map, List.getElem?_range h]; rfl
theorem rem_bd (z : Int) : -399 ≤ Int.tmod z 400 ∧ Int.tmod z 400 ≤ 399 := by
  rcases Int.le_total 0 z with h | h
  · rw [Int.tmod_eq_emod_of_nonneg h]; omega
  · obtain ⟨m, rfl⟩ : ∃ m, z = -m := ⟨-z, by omega⟩
    rw [Int.neg_tmod, Int.tmod_eq_emod_of_nonneg (by omega)]; omega
set_option maxHeartbeats 8000000 in
set_option maxRecDepth 100000 in
theorem walMany_walk (w : World) (hE : ErrAt w) (hSp : SpAt w) (hT : TabAt w) (za : Option Addr) (zl zc : Nat) (zs : List Int) (hz : RdV w (.slice za zl zc) (zs.map (Value.int .i64))) (hwf : ∀ n ∈ zs, (Lit.int .i64 n).wf = true) (cut : Int) (wcut : (Lit.int .i64 cut).wf = true) :
    Calls Tryz.prog 5 #[.slice za zl zc, .int .i64 cut] w fun e w' => e = .returned (.bool true) ∧ Below w.heap.size w w' := by
  have HG : Hid (∀ W, Below w.heap.size w W → GlobAt W) := Lib.hid fun W hW => GlobAt.below ⟨hE, hSp, hT⟩ hW
  have HBG := Lib.hid (wbegun_any w ⟨hE, hSp, hT⟩)
  have HZ := Lib.hid hz
  have hzl : zl = zs.length := by
    have := (rdV_len hz).1
    rwa [List.length_map] at this
  have HZL := Lib.hid hzl
  have HWF := Lib.hid hwf
  clear hE hSp hT hz hwf wcut hzl
  go_enter Tryz.func5, Tryz.ntmps5
  go_wp2_with fail
  refine HBG.out.mono ?_
  rintro e w1 ⟨rfl, b1⟩
  have HW1 := Lib.hid b1
  have HNW : Hid (Calls Tryz.prog 8 #[.int .i64 1048576] w1 fun e w' => e = .returned (.pointer (some ⟨w1.heap.size, 0, none⟩)) ∧ FsOwn w1 w' w1.heap.size (fsNew 1048576)) := Lib.hid (new_own 1048576 w1)
  clear b1 HBG
  go_wp2_with fail
  refine HNW.out.mono ?_
  rintro e w2 ⟨rfl, hf⟩
  have HCR : Hid (Calls Tryz.prog 9 #[.pointer (some ⟨w1.heap.size, 0, none⟩), .int .i64 5] w2 fun e w' => ∃ lb, e = .returned (.tuple #[.pointer (some ⟨lb, 0, none⟩), .int .i64 0]) ∧ WalOwn w1 w' w1.heap.size lb (namF (logName 5) (walB smN []) 0 [] [mkF (logName 5)] 1048576 (inc64 0)) (logName 5) (walB smN []).length) := Lib.hid (walNew_any hf 5 (by omega) (by omega) name5_ok (by rw [name5]; decide))
  clear hf HNW
  go_wp2_with fail
  refine HCR.out.mono ?_
  rintro e w3 ⟨lb, rfl, ho⟩
  have HS0 : Hid (WSt w1 w3 w1.heap.size lb [] [mkF (logName 5)] [] 0 (.slice none 0 0) (([] : List Grp).map grpE) (.slice none 0 0) (endsOf [])) := Lib.hid (WSt.start ho)
  clear ho HCR
  go_wp2_with fail
  go_loopg [9, 10, 11, 12] zl (fun kk vw ve vq vi wr => ∃ (i q : Nat) (gs : List Grp), vq = .int .i64 (q : Int) ∧ vi = .int .i64 (i : Int) ∧ i ≤ zl ∧ i ≤ 15 ∧ zl - i ≤ kk ∧ gs.length = i ∧ q = i + 1 ∧
    Hid (∀ g ∈ gs, GoodG g ∧ (grpB g).length ≤ 478) ∧ Hid (WSt w1 wr w1.heap.size lb [] [mkF (logName 5)] gs 0 vw (gs.map grpE) ve (endsOf gs)))
  case atStart => exact ⟨0, 1, [], rfl, rfl, by omega, by omega, by omega, rfl, rfl, Lib.hid (by simp), HS0⟩
  case round =>
    clear HS0
    obtain ⟨i, q, gs, rfl, rfl, hi, hi15, hik, hgi, hq, HGS, HST⟩ := hrel
    obtain ⟨wxa, wxc, rfl⟩ := HST.out.form
    have hml : (gs.map grpE).length = i := by rw [List.length_map, hgi]
    rw [hml] at HST ⊢
    have HGI := Lib.hid hgi
    have hq2 : q ≤ 16 := by omega
    have hq1 : 1 ≤ q := by omega
    have HQ := Lib.hid hq
    clear hml hgi hq
    by_cases h1 : i < zl
    · have hd1 : decide (i < zl) = true := decide_eq_true h1
      have hz1 : (i : Int) < (zl : Int) := by omega
      by_cases h2 : i < 15
      · have hd2 : decide (i < 15) = true := decide_eq_true h2
        have hz2 : (i : Int) < 15 := by omega
        have hwr : Below w.heap.size w wr := HW1.out.trans (HST.out.blw.mono HW1.out.size)
        obtain ⟨z, hzz⟩ : ∃ z, zs[i]? = some z := ⟨_, List.getElem?_eq_getElem (by have := HZL.out; omega)⟩
        obtain ⟨g, off, rfl, hgb, hcl⟩ := rdV_cells (HZ.out.below hwr) (by rw [List.length_map]; have := HZL.out; omega)
        have hc : wr.cell? ⟨g, off + i, none⟩ = some (.int .i64 z) := by
          rw [hcl i (by rw [List.length_map]; have := HZL.out; omega), List.getD_eq_getElem?_getD, List.getElem?_map, hzz]; rfl
        obtain ⟨r1, r2⟩ := rem_bd z
        have HWR := Lib.hid hwr
        clear hcl hwr hzz
        go_upto_if 43 with fail
        generalize z.tmod 400 = R at r1 r2 ⊢
        obtain ⟨N, hN⟩ : ∃ N, R.natAbs = N := ⟨_, rfl⟩
        have hN9 : N ≤ 399 := by omega
        go_cut [13] (fun v wx => v = .int .i64 (N : Int) ∧ wr = wx)
        case first =>
          by_cases hneg : R < 0
          · have e1 : decide (R < 0) = true := decide_eq_true hneg
            have e2 : -R = (N : Int) := by omega
            go_wp2_with fail
            go_meet
            exact ⟨by first | rw [e2] | (congr 1), rfl⟩
          · have e1 : decide (R < 0) = false := decide_eq_false hneg
            have e2 : R = (N : Int) := by omega
            go_wp2_with fail
            go_meet
            exact ⟨by first | rw [e2] | (congr 1), rfl⟩
        case rest =>
        obtain ⟨rfl, rfl⟩ := hcut
        clear r1 r2 hN
        have hmk := mkB_run N (by omega) wr
        obtain ⟨wA, hwA⟩ : ∃ x, wr.alloc (.cells (madeCells #[.int .u8 0] N) 5) = x := ⟨_, rfl⟩
        rw [hwA] at hmk
        have hA : Below wr.heap.size wr wA := by rw [← hwA]; exact (Below.refl _ _).alloc (Nat.le_refl _) _
        have hcv := zrs_at hwA wA (by omega) (Below.refl _ _)
        have hB : Below wr.heap.size wr (wA.alloc (.cells (encOp (mO N)).toArray 49)) := hA.alloc hA.size _
        have hO : OwnK encOp 3 49 wr.heap.size (wA.alloc (.cells (encOp (mO N)).toArray 49)) (.slice (some ⟨wA.heap.size, 0, none⟩) 1 1) [mO N] := (own_oneK (E := 49) encOp_len wA (mO N)).base hA.size
        obtain ⟨gg, gb⟩ := mO_good (n := N) hq1 (by omega) hN9
        have hok1 : ∀ o ∈ [mO N], o.ok := fun o ho => by
          obtain rfl := List.mem_singleton.1 ho
          exact ⟨by show (1 : Nat) ≤ maxLen; unfold maxLen; omega, by show (zrs N).size ≤ maxLen; rw [zrs_size]; unfold maxLen; omega⟩
        have HGL : Hid ((gs ++ [(q, [mO N])]).length = i + 1) := Lib.hid (by rw [List.length_append, HGI.out]; rfl)
        have HGX : Hid (∀ g ∈ gs ++ [(q, [mO N])], GoodG g ∧ (grpB g).length ≤ 478) := Lib.hid fun g hgm => by
          rcases List.mem_append.1 hgm with h | h
          · exact HGS.out g h
          · obtain rfl := List.mem_singleton.1 h; exact ⟨gg, gb⟩
        have hroom := wal_len (m := 478) fun g hg => (HGX.out g hg).2
        rw [HGL.out] at hroom
        have hr15 : (walB smN (gs ++ [(q, [mO N])])).length ≤ 1000000 := by
          have : (i + 1) * (8 * 478 + 20) ≤ 15 * (8 * 478 + 20) := Nat.mul_le_mul (by omega) (Nat.le_refl _)
          omega
        have HAP := Lib.hid (HST.out.append hB gg hO hok1 (HG.out _ (HWR.out.trans (hB.mono HWR.out.size))) (by omega) (by omega))
        have HOK1 := Lib.hid hok1
        have HCK : Hid (checkP [mO N] = 0) := Lib.hid gg.1
        have HR15 := Lib.hid hr15
        clear hroom gg gb hwA hA hB hO hok1 hr15 HST HGS hc
        go_wp2_with fail
        refine HAP.out.mono ?_
        rintro e w5 ⟨rfl, h5, o5⟩
        have HRE := Lib.hid (rentries_any (q : Int) _ [mO N] HOK1.out (by simp) w5 (o5.rd encOp_len))
        unfold entsP at HRE
        rw [if_pos HCK.out] at HRE
        have HS5 := Lib.hid h5
        clear h5 o5 HAP hmk hcv
        go_wp2_with fail
        refine HRE.out.mono ?_
        rintro e w7 ⟨u7, rfl, o7, b7⟩
        obtain ⟨v8, w8, r8, s8, -⟩ := HS5.out.want b7 o7 (by rw [List.length_map]; have := HGI.out; omega) (ty := 31)
        rw [show gs.map grpE ++ [entsF (q : Int) [mO N]] = (gs ++ [(q, [mO N])]).map grpE by rw [List.map_append]; rfl] at s8
        obtain ⟨wxa', wxc', rfl⟩ := s8.form
        obtain ⟨u7a, u7c, rfl⟩ := o7.form
        have hml : ((gs ++ [(q, [mO N])]).map grpE).length = i + 1 := by rw [List.length_map, HGL.out]
        rw [hml] at s8 r8
        obtain ⟨BL, hBL⟩ : ∃ BL, (walB smN (gs ++ [(q, [mO N])])).length = BL := ⟨_, rfl⟩
        have hsz := s8.size
        rw [hBL] at hsz
        obtain ⟨v9, w9, r9, s9⟩ := s8.ends (BL : Int) (by rw [endsOf_len]; have := HGI.out; omega) (ty := 44)
        rw [show endsOf gs ++ [(BL : Int)] = endsOf (gs ++ [(q, [mO N])]) by rw [endsOf_snoc, hBL]] at s9
        have HR8 := Lib.hid r8
        have HR9 := Lib.hid r9
        have HSZ := Lib.hid hsz
        have HS9 := Lib.hid s9
        clear r8 s8 hml o7 b7 HRE HS5 hsz r9 s9 hBL
        go_upto_region 21 with (at_builtin; refine wp_appRun _ _ (by rfl) (by rfl) (by rfl) (by rfl) HR8.out ?_)
        clear HR8
        go_wp2_with fail
        refine HSZ.out.mono ?_
        rintro e w10 ⟨rfl, rfl⟩
        clear HSZ
        go_wp2_with (at_builtin; refine wp_appRun _ _ (by rfl) (by rfl) (by rfl) (by rfl) HR9.out ?_)
        clear HR9
        go_wp2_with fail
        go_roundg (zl - (i + 1))
        case measure => omega
        case rel => exact ⟨i + 1, q + 1, gs ++ [(q, [mO N])], by go_num, by go_num, by omega, by omega, Nat.le_refl _, HGL.out, by have := HQ.out; omega, HGX, HS9⟩
      · have hd2 : decide (i < 15) = false := decide_eq_false h2
        have hz2 : ¬ (i : Int) < 15 := by omega
        have hbl := wal_len (m := 478) fun g hg => (HGS.out g hg).2
        have hG1 : ∀ g ∈ gs, GoodG g := fun g hg => (HGS.out g hg).1
        have hG2 : ∀ g ∈ gs, (grpB g).length ≤ 1000000 := fun g hg => by have := (HGS.out g hg).2; omega
        obtain ⟨BL, hBL⟩ : ∃ BL, (walB smN gs).length = BL := ⟨_, rfl⟩
        have hBl : BL ≤ 1000000 := by
          rw [← hBL]
          have := HGI.out
          have h2 : gs.length * (8 * 478 + 20) ≤ 15 * (8 * 478 + 20) := Nat.mul_le_mul (by omega) (Nat.le_refl _)
          omega
        have hwr : Below w.heap.size w wr := HW1.out.trans (HST.out.blw.mono HW1.out.size)
        have htd := HST.out.told hG1 (by have := HGI.out; omega) hG2 (by omega) (HG.out _ hwr)
        rw [HGI.out] at htd
        have HTD := Lib.hid htd
        have hsz := HST.out.size
        rw [hBL] at hsz
        have HSZ := Lib.hid hsz
        have HGG := Lib.hid (And.intro hG1 hG2)
        have HBL := Lib.hid hBL
        have HBW := Lib.hid hwr
        clear hbl hG1 hG2 hBL hwr htd hsz HGS
        by_cases hc0 : cut < 0
        · have e0 : decide (cut < 0) = true := decide_eq_true hc0

          go_wp2_with fail
          refine HTD.out.mono ?_
          rintro e w5 ⟨rfl, b5⟩
          have HB5 := Lib.hid (HBW.out.trans (b5.mono HBW.out.size))
          clear b5 HTD
          go_wp2_with fail
          go_ret
          exact ⟨rfl, HB5.out⟩
        have e0 : decide (cut < 0) = false := decide_eq_false hc0
        obtain ⟨C, rfl⟩ := Int.eq_ofNat_of_zero_le (show 0 ≤ cut by omega)
        by_cases hc1 : BL < C
        · have e1 : decide ((BL : Int) < (C : Int)) = true := decide_eq_true (by omega)
          have e2 : decide (BL < C) = true := decide_eq_true hc1

          go_wp2_with fail
          refine HSZ.out.mono ?_
          rintro e w' ⟨rfl, rfl⟩
          clear HSZ
          go_wp2_with fail
          refine HTD.out.mono ?_
          rintro e w5 ⟨rfl, b5⟩
          have HB5 := Lib.hid (HBW.out.trans (b5.mono HBW.out.size))
          clear b5 HTD
          go_wp2_with fail
          go_ret
          exact ⟨rfl, HB5.out⟩
        have e1 : decide ((BL : Int) < (C : Int)) = false := decide_eq_false (by omega)
        have e2 : decide (BL < C) = false := decide_eq_false hc1
        have hEO := HST.out.ends_own
        have hel := endsOf_len gs
        rw [HGI.out] at hel
        obtain ⟨ea, ec, rfl⟩ : ∃ a c, u10 = .slice a i c := by
          rcases hEO.nilOr with ⟨h1, h2⟩ | ⟨g, c, h1, -⟩
          · have := congrArg List.length h2
            rw [List.length_map, hel] at this
            exact ⟨none, 0, by rw [h1]; simp at this; rw [this]⟩
          · rw [List.length_map, hel] at h1
            exact ⟨_, c, h1⟩
        have HEC : Hid (∀ k, k < i → ∃ g, ea = some ⟨g, 0, none⟩ ∧ wr.cell? ⟨g, 0 + k, none⟩ = some (.int .i64 ((walB smN (gs.take (k + 1))).length : Int))) := Lib.hid fun k hk => by
          have hpos : 0 < ((endsOf gs).map (Value.int .i64)).length := by rw [List.length_map, hel]; omega
          obtain ⟨g, off, e3, -, hcl⟩ := rdV_cells hEO.rd hpos
          have e4 : off = 0 := by
            rcases hEO.nilOr with ⟨h1, -⟩ | ⟨g', c, h1, -⟩
            · rw [e3] at h1; cases h1
            · rw [e3] at h1
              simp only [Value.slice.injEq, Option.some.injEq, Addr.mk.injEq] at h1
              exact h1.1.2.1
          subst e4
          refine ⟨g, e3, ?_⟩
          rw [hcl k (by rw [List.length_map, hel]; exact hk), List.getD_eq_getElem?_getD, List.getElem?_map, endsOf_at (by have := HGI.out; omega)]; rfl
        clear hEO hel hc0 e0
        go_wp2_with fail
        refine HSZ.out.mono ?_
        rintro e w' ⟨rfl, rfl⟩
        clear HSZ
        go_wp2_with fail
        go_loopg [15] i (fun kk vk wq => ∃ k : Nat, vk = .int .i64 (k : Int) ∧ k ≤ i ∧ i - k ≤ kk ∧ wr = wq ∧ Hid (∀ j, j < k → (walB smN (gs.take (j + 1))).length ≤ C))
        case atStart => exact ⟨0, rfl, by omega, by omega, rfl, Lib.hid (fun j hj => by omega)⟩
        case round =>
          obtain ⟨k, rfl, hk, hkk, rfl, HKT⟩ := hrel
          by_cases hki : k < i
          · have f1 : decide (k < i) = true := decide_eq_true hki
            have f2 : (k : Int) < (i : Int) := by omega
            obtain ⟨ge, rfl, hce⟩ := HEC.out k hki
            rw [Nat.zero_add] at hce
            obtain ⟨E, hE⟩ : ∃ E, (walB smN (gs.take (k + 1))).length = E := ⟨_, rfl⟩
            rw [hE] at hce
            have HEV := Lib.hid hE
            clear hE
            by_cases hec : E ≤ C
            · have f3 : decide ((E : Int) ≤ (C : Int)) = true := decide_eq_true (by omega)
              have f4 : decide (E ≤ C) = true := decide_eq_true hec
              have HK2 : Hid (∀ j, j < k + 1 → (walB smN (gs.take (j + 1))).length ≤ C) := Lib.hid fun j hj => by
                rcases Nat.lt_or_ge j k with h | h
                · exact HKT.out j h
                · obtain rfl : j = k := by omega
                  rw [HEV.out]; exact hec
              clear HKT
              go_wp2_with fail
              go_roundg (i - (k + 1))
              case measure => omega
              case rel => exact ⟨k + 1, by go_num, by omega, Nat.le_refl _, rfl, HK2⟩
            · have f3 : decide ((E : Int) ≤ (C : Int)) = false := decide_eq_false (by omega)
              have f4 : decide (E ≤ C) = false := decide_eq_false hec
              have HNX : Hid (k + 1 ≤ i → ¬ (walB smN (gs.take (k + 1))).length ≤ C) := Lib.hid fun _ => by rw [HEV.out]; exact hec
              have hfit : fitK smN 0 (gs.map grpB) C = k := by
                have e1 := fitK_le (sm := smN) (gs.map grpB) 0 C
                rw [List.length_map] at e1
                have hgi := HGI.out
                refine Nat.le_antisymm (Nat.le_of_not_lt fun hlt => ?_) ?_
                · have e2 := (walB_fit smN gs C (k + 1) (by omega)).2 (by omega)
                  exact HNX.out (by omega) e2
                · rcases Nat.eq_zero_or_pos k with e | e
                  · omega
                  · have e2 := HKT.out (k - 1) (by omega)
                    rw [show k - 1 + 1 = k by omega] at e2
                    exact (walB_fit smN gs C k (by omega)).1 e2
              have hal : Below wr.heap.size wr (wr.alloc (.cells #[.int .i64 (C : Int)] 3)) := (Below.refl _ wr).alloc (Nat.le_refl _) _
              have HCR := Lib.hid (HST.out.crash hal (by simp) 1 _ [(C : Int)] (ints_one wr (C : Int)) (by simp))
              have HB5 := Lib.hid (HBW.out.alloc HBW.out.size (.cells #[.int .i64 (C : Int)] 3))
              have HWR := Lib.hid (HST.out.want_rd.below hal)
              have HFT := Lib.hid hfit
              clear hal hfit HST HBW HTD
              go_wp2_with fail
              refine HCR.out.mono ?_
              rintro e w6 ⟨b', ρ', c', rfl, f6, b6⟩
              have HB6 := Lib.hid (HB5.out.trans (b6.mono HB5.out.size))
              have HT2 := Lib.hid (toldWal_any w6 b' ρ' _ f6 gs HGG.out.1 C (by have := HBL.out; omega) (by
                  rw [nam_crash1]
                  congr 2
                  have := HBL.out
                  show 0 + clampN ((C : Nat) : Int) _ = C
                  unfold clampN
                  omega) (by have := HBL.out; omega) (by have := HGI.out; omega) HGG.out.2 _ (HWR.out.below b6) (HG.out _ HB6.out) k k (by rw [HFT.out]; exact Nat.le_refl _) (by rw [HFT.out]; exact Nat.le_refl _))
              clear f6 b6 HCR HB5 HWR
              go_wp2_with fail
              refine HT2.out.mono ?_
              rintro e w7 ⟨rfl, b7⟩
              have HB7 := Lib.hid (HB6.out.trans (b7.mono HB6.out.size))
              clear b7 HT2
              go_wp2_with fail
              go_ret
              exact ⟨rfl, HB7.out⟩
          · have f1 : decide (k < i) = false := decide_eq_false hki
            have f2 : ¬ (k : Int) < (i : Int) := by omega
            have HNX : Hid (k + 1 ≤ i → ¬ (walB smN (gs.take (k + 1))).length ≤ C) := Lib.hid fun h => by omega
            have hfit : fitK smN 0 (gs.map grpB) C = k := by
              have e1 := fitK_le (sm := smN) (gs.map grpB) 0 C
              rw [List.length_map] at e1
              have hgi := HGI.out
              refine Nat.le_antisymm (Nat.le_of_not_lt fun hlt => ?_) ?_
              · have e2 := (walB_fit smN gs C (k + 1) (by omega)).2 (by omega)
                exact HNX.out (by omega) e2
              · rcases Nat.eq_zero_or_pos k with e | e
                · omega
                · have e2 := HKT.out (k - 1) (by omega)
                  rw [show k - 1 + 1 = k by omega] at e2
                  exact (walB_fit smN gs C k (by omega)).1 e2
            have hal : Below wr.heap.size wr (wr.alloc (.cells #[.int .i64 (C : Int)] 3)) := (Below.refl _ wr).alloc (Nat.le_refl _) _
            have HCR := Lib.hid (HST.out.crash hal (by simp) 1 _ [(C : Int)] (ints_one wr (C : Int)) (by simp))
            have HB5 := Lib.hid (HBW.out.alloc HBW.out.size (.cells #[.int .i64 (C : Int)] 3))
            have HWR := Lib.hid (HST.out.want_rd.below hal)
            have HFT := Lib.hid hfit
            clear hal hfit HST HBW HTD
            go_wp2_with fail
            refine HCR.out.mono ?_
            rintro e w6 ⟨b', ρ', c', rfl, f6, b6⟩
            have HB6 := Lib.hid (HB5.out.trans (b6.mono HB5.out.size))
            have HT2 := Lib.hid (toldWal_any w6 b' ρ' _ f6 gs HGG.out.1 C (by have := HBL.out; omega) (by
                rw [nam_crash1]
                congr 2
                have := HBL.out
                show 0 + clampN ((C : Nat) : Int) _ = C
                unfold clampN
                omega) (by have := HBL.out; omega) (by have := HGI.out; omega) HGG.out.2 _ (HWR.out.below b6) (HG.out _ HB6.out) k k (by rw [HFT.out]; exact Nat.le_refl _) (by rw [HFT.out]; exact Nat.le_refl _))
            clear f6 b6 HCR HB5 HWR
            go_wp2_with fail
            refine HT2.out.mono ?_
            rintro e w7 ⟨rfl, b7⟩
            have HB7 := Lib.hid (HB6.out.trans (b7.mono HB6.out.size))
            clear b7 HT2
            go_wp2_with fail
            go_ret
            exact ⟨rfl, HB7.out⟩
    · have hd1 : decide (i < zl) = false := decide_eq_false h1
      have hz1 : ¬ (i : Int) < (zl : Int) := by omega
      have hbl := wal_len (m := 478) fun g hg => (HGS.out g hg).2
      have hG1 : ∀ g ∈ gs, GoodG g := fun g hg => (HGS.out g hg).1
      have hG2 : ∀ g ∈ gs, (grpB g).length ≤ 1000000 := fun g hg => by have := (HGS.out g hg).2; omega
      obtain ⟨BL, hBL⟩ : ∃ BL, (walB smN gs).length = BL := ⟨_, rfl⟩
      have hBl : BL ≤ 1000000 := by
        rw [← hBL]
        have := HGI.out
        have h2 : gs.length * (8 * 478 + 20) ≤ 15 * (8 * 478 + 20) := Nat.mul_le_mul (by omega) (Nat.le_refl _)
        omega
      have hwr : Below w.heap.size w wr := HW1.out.trans (HST.out.blw.mono HW1.out.size)
      have htd := HST.out.told hG1 (by have := HGI.out; omega) hG2 (by omega) (HG.out _ hwr)
      rw [HGI.out] at htd
      have HTD := Lib.hid htd
      have hsz := HST.out.size
      rw [hBL] at hsz
      have HSZ := Lib.hid hsz
      have HGG := Lib.hid (And.intro hG1 hG2)
      have HBL := Lib.hid hBL
      have HBW := Lib.hid hwr
      clear hbl hG1 hG2 hBL hwr htd hsz HGS
      by_cases hc0 : cut < 0
      · have e0 : decide (cut < 0) = true := decide_eq_true hc0

        go_wp2_with fail
        refine HTD.out.mono ?_
        rintro e w5 ⟨rfl, b5⟩
        have HB5 := Lib.hid (HBW.out.trans (b5.mono HBW.out.size))
        clear b5 HTD
        go_wp2_with fail
        go_ret
        exact ⟨rfl, HB5.out⟩
      have e0 : decide (cut < 0) = false := decide_eq_false hc0
      obtain ⟨C, rfl⟩ := Int.eq_ofNat_of_zero_le (show 0 ≤ cut by omega)
      by_cases hc1 : BL < C
      · have e1 : decide ((BL : Int) < (C : Int)) = true := decide_eq_true (by omega)
        have e2 : decide (BL < C) = true := decide_eq_true hc1

        go_wp2_with fail
        refine HSZ.out.mono ?_
        rintro e w' ⟨rfl, rfl⟩
        clear HSZ
        go_wp2_with fail
        refine HTD.out.mono ?_
        rintro e w5 ⟨rfl, b5⟩
        have HB5 := Lib.hid (HBW.out.trans (b5.mono HBW.out.size))
        clear b5 HTD
        go_wp2_with fail
        go_ret
        exact ⟨rfl, HB5.out⟩
      have e1 : decide ((BL : Int) < (C : Int)) = false := decide_eq_false (by omega)
      have e2 : decide (BL < C) = false := decide_eq_false hc1
      have hEO := HST.out.ends_own
      have hel := endsOf_len gs
      rw [HGI.out] at hel
      obtain ⟨ea, ec, rfl⟩ : ∃ a c, u10 = .slice a i c := by
        rcases hEO.nilOr with ⟨h1, h2⟩ | ⟨g, c, h1, -⟩
        · have := congrArg List.length h2
          rw [List.length_map, hel] at this
          exact ⟨none, 0, by rw [h1]; simp at this; rw [this]⟩
        · rw [List.length_map, hel] at h1
          exact ⟨_, c, h1⟩
      have HEC : Hid (∀ k, k < i → ∃ g, ea = some ⟨g, 0, none⟩ ∧ wr.cell? ⟨g, 0 + k, none⟩ = some (.int .i64 ((walB smN (gs.take (k + 1))).length : Int))) := Lib.hid fun k hk => by
        have hpos : 0 < ((endsOf gs).map (Value.int .i64)).length := by rw [List.length_map, hel]; omega
        obtain ⟨g, off, e3, -, hcl⟩ := rdV_cells hEO.rd hpos
        have e4 : off = 0 := by
          rcases hEO.nilOr with ⟨h1, -⟩ | ⟨g', c, h1, -⟩
          · rw [e3] at h1; cases h1
          · rw [e3] at h1
            simp only [Value.slice.injEq, Option.some.injEq, Addr.mk.injEq] at h1
            exact h1.1.2.1
        subst e4
        refine ⟨g, e3, ?_⟩
        rw [hcl k (by rw [List.length_map, hel]; exact hk), List.getD_eq_getElem?_getD, List.getElem?_map, endsOf_at (by have := HGI.out; omega)]; rfl
      clear hEO hel hc0 e0
      go_wp2_with fail
      refine HSZ.out.mono ?_
      rintro e w' ⟨rfl, rfl⟩
      clear HSZ
      go_wp2_with fail
      go_loopg [15] i (fun kk vk wq => ∃ k : Nat, vk = .int .i64 (k : Int) ∧ k ≤ i ∧ i - k ≤ kk ∧ wr = wq ∧ Hid (∀ j, j < k → (walB smN (gs.take (j + 1))).length ≤ C))
      case atStart => exact ⟨0, rfl, by omega, by omega, rfl, Lib.hid (fun j hj => by omega)⟩
      case round =>
        obtain ⟨k, rfl, hk, hkk, rfl, HKT⟩ := hrel
        by_cases hki : k < i
        · have f1 : decide (k < i) = true := decide_eq_true hki
          have f2 : (k : Int) < (i : Int) := by omega
          obtain ⟨ge, rfl, hce⟩ := HEC.out k hki
          rw [Nat.zero_add] at hce
          obtain ⟨E, hE⟩ : ∃ E, (walB smN (gs.take (k + 1))).length = E := ⟨_, rfl⟩
          rw [hE] at hce
          have HEV := Lib.hid hE
          clear hE
          by_cases hec : E ≤ C
          · have f3 : decide ((E : Int) ≤ (C : Int)) = true := decide_eq_true (by omega)
            have f4 : decide (E ≤ C) = true := decide_eq_true hec
            have HK2 : Hid (∀ j, j < k + 1 → (walB smN (gs.take (j + 1))).length ≤ C) := Lib.hid fun j hj => by
              rcases Nat.lt_or_ge j k with h | h
              · exact HKT.out j h
              · obtain rfl : j = k := by omega
                rw [HEV.out]; exact hec
            clear HKT
            go_wp2_with fail
            go_roundg (i - (k + 1))
            case measure => omega
            case rel => exact ⟨k + 1, by go_num, by omega, Nat.le_refl _, rfl, HK2⟩
          · have f3 : decide ((E : Int) ≤ (C : Int)) = false := decide_eq_false (by omega)
            have f4 : decide (E ≤ C) = false := decide_eq_false hec
            have HNX : Hid (k + 1 ≤ i → ¬ (walB smN (gs.take (k + 1))).length ≤ C) := Lib.hid fun _ => by rw [HEV.out]; exact hec
            have hfit : fitK smN 0 (gs.map grpB) C = k := by
              have e1 := fitK_le (sm := smN) (gs.map grpB) 0 C
              rw [List.length_map] at e1
              have hgi := HGI.out
              refine Nat.le_antisymm (Nat.le_of_not_lt fun hlt => ?_) ?_
              · have e2 := (walB_fit smN gs C (k + 1) (by omega)).2 (by omega)
                exact HNX.out (by omega) e2
              · rcases Nat.eq_zero_or_pos k with e | e
                · omega
                · have e2 := HKT.out (k - 1) (by omega)
                  rw [show k - 1 + 1 = k by omega] at e2
                  exact (walB_fit smN gs C k (by omega)).1 e2
            have hal : Below wr.heap.size wr (wr.alloc (.cells #[.int .i64 (C : Int)] 3)) := (Below.refl _ wr).alloc (Nat.le_refl _) _
            have HCR := Lib.hid (HST.out.crash hal (by simp) 1 _ [(C : Int)] (ints_one wr (C : Int)) (by simp))
            have HB5 := Lib.hid (HBW.out.alloc HBW.out.size (.cells #[.int .i64 (C : Int)] 3))
            have HWR := Lib.hid (HST.out.want_rd.below hal)
            have HFT := Lib.hid hfit
            clear hal hfit HST HBW HTD
            go_wp2_with fail
            refine HCR.out.mono ?_
            rintro e w6 ⟨b', ρ', c', rfl, f6, b6⟩
            have HB6 := Lib.hid (HB5.out.trans (b6.mono HB5.out.size))
            have HT2 := Lib.hid (toldWal_any w6 b' ρ' _ f6 gs HGG.out.1 C (by have := HBL.out; omega) (by
                rw [nam_crash1]
                congr 2
                have := HBL.out
                show 0 + clampN ((C : Nat) : Int) _ = C
                unfold clampN
                omega) (by have := HBL.out; omega) (by have := HGI.out; omega) HGG.out.2 _ (HWR.out.below b6) (HG.out _ HB6.out) k k (by rw [HFT.out]; exact Nat.le_refl _) (by rw [HFT.out]; exact Nat.le_refl _))
            clear f6 b6 HCR HB5 HWR
            go_wp2_with fail
            refine HT2.out.mono ?_
            rintro e w7 ⟨rfl, b7⟩
            have HB7 := Lib.hid (HB6.out.trans (b7.mono HB6.out.size))
            clear b7 HT2
            go_wp2_with fail
            go_ret
            exact ⟨rfl, HB7.out⟩
        · have f1 : decide (k < i) = false := decide_eq_false hki
          have f2 : ¬ (k : Int) < (i : Int) := by omega
          have HNX : Hid (k + 1 ≤ i → ¬ (walB smN (gs.take (k + 1))).length ≤ C) := Lib.hid fun h => by omega
          have hfit : fitK smN 0 (gs.map grpB) C = k := by
            have e1 := fitK_le (sm := smN) (gs.map grpB) 0 C
            rw [List.length_map] at e1
            have hgi := HGI.out
            refine Nat.le_antisymm (Nat.le_of_not_lt fun hlt => ?_) ?_
            · have e2 := (walB_fit smN gs C (k + 1) (by omega)).2 (by omega)
              exact HNX.out (by omega) e2
            · rcases Nat.eq_zero_or_pos k with e | e
              · omega
              · have e2 := HKT.out (k - 1) (by omega)
                rw [show k - 1 + 1 = k by omega] at e2
                exact (walB_fit smN gs C k (by omega)).1 e2
          have hal : Below wr.heap.size wr (wr.alloc (.cells #[.int .i64 (C : Int)] 3)) := (Below.refl _ wr).alloc (Nat.le_refl _) _
          have HCR := Lib.hid (HST.out.crash hal (by simp) 1 _ [(C : Int)] (ints_one wr (C : Int)) (by simp))
          have HB5 := Lib.hid (HBW.out.alloc HBW.out.size (.cells #[.int .i64 (C : Int)] 3))
          have HWR := Lib.hid (HST.out.want_rd.below hal)
          have HFT := Lib.hid hfit
          clear hal hfit HST HBW HTD
          go_wp2_with fail
          refine HCR.out.mono ?_
          rintro e w6 ⟨b', ρ', c', rfl, f6, b6⟩
          have HB6 := Lib.hid (HB5.out.trans (b6.mono HB5.out.size))
          have HT2 := Lib.hid (toldWal_any w6 b' ρ' _ f6 gs HGG.out.1 C (by have := HBL.out; omega) (by
              rw [nam_crash1]
              congr 2
              have := HBL.out
              show 0 + clampN ((C : Nat) : Int) _ = C
              unfold clampN
              omega) (by have := HBL.out; omega) (by have := HGI.out; omega) HGG.out.2 _ (HWR.out.below b6) (HG.out _ HB6.out) k k (by rw [HFT.out]; exact Nat.le_refl _) (by rw [HFT.out]; exact Nat.le_refl _))
          clear f6 b6 HCR HB5 HWR
          go_wp2_with fail
          refine HT2.out.mono ?_
          rintro e w7 ⟨rfl, b7⟩
          have HB7 := Lib.hid (HB6.out.trans (b7.mono HB6.out.size))
          clear b7 HT2
          go_wp2_with fail
          go_ret
          exact ⟨rfl, HB7.out⟩
end Go.Proofs.YtjhkfjbgdaomeaaGreatDoor
