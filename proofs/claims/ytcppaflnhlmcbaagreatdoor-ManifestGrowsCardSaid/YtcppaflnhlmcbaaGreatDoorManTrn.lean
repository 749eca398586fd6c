/- manifest.turn: over to a new manifest; the old one goes (of a manifest whose files are all synced). -/
import Derived.Test.YtcppaflnhlmcbaaGreatDoorManAdd
import Derived.Test.YtcppaflnhlmcbaaGreatDoorManVer
namespace Go.Proofs.YtcppaflnhlmcbaaGreatDoor
set_option linter.unusedVariables false
open Go.RowKit Go.Maps
/-- What turn answers. -/
def TurnTo (B : Nat) (w : World) (b mb : Nat) (ρ : Nat → Option Role) (M M' : Man) (V V' : Ver) (R : Int × Fs) (e : Ending) (w' : World) : Prop :=
  e = .returned (.int .i64 R.1) ∧ ((R.1 = 0 ∧ ManTo B w b mb ρ w' R.2 M' V') ∨ (R.1 ≠ 0 ∧ ManTo B w b mb ρ w' R.2 M V))
set_option maxHeartbeats 16000000 in
set_option maxRecDepth 100000 in
theorem mturn_any {B : Nat} {w0 : World} (hG0 : GlobM w0) {w : World} (h0 : Below w0.heap.size w0 w) {b mb : Nat} {ρ : Nat → Option Role} {S : Fs} {M : Man} {V V' : Ver} (h : ManAt B w b mb ρ S M V) (hu : M.num ≤ 1125899906842624) (hH : HighP w0 ρ mb) (hlo : M.loose = false) (hw : S.wait.length ≤ 100000)
    (v : Nat) (hv : (v : Int) = V.nx) (hne : M.num ≠ v) (tv : Value) (n0 : Int) (hV : VerP B w tv n0 V') (hto : ∀ k, tv.ownBlock = some k → ρ k = none) (log : List UInt8) (hl : log = layB smN 0 (edtB (wholeE V'))) :
    Calls Tryz.prog 38 #[.pointer (some ⟨mb, 0, none⟩), .agg #[tv, .int .i64 n0, .int .i64 V'.lg, .int .i64 V'.ls]] w (TurnTo B w b mb ρ M ⟨v, log.length, false, false, false⟩ V V' (turnF smN S M.num v log)) := by
  have hmn := (manN_len hu).2
  have hv2 : v ≤ 1125899906842624 := by have := h.good.nx2; omega
  obtain ⟨R1, h1⟩ : ∃ R, begF smN S v log = R := ⟨_, rfl⟩
  have hw1 : R1.2.wait.length ≤ 100004 := by have := begF_wait smN S v log; rw [h1] at this; omega
  obtain ⟨R2, h2⟩ : ∃ R, R1.2.remove (manN M.num) = R := ⟨_, rfl⟩
  have hL : turnF smN S M.num v log = if R1.1 = 0 then R2 else R1 := by
    unfold turnF thenF
    rw [h1]
    simp only [h2, if_neg (show ¬ v = M.num from fun e => hne e.symm)]
  rw [hL]
  clear hL
  obtain ⟨G, hG⟩ : ∃ G, (if R1.1 = 0 then R2 else R1) = G := ⟨_, rfl⟩
  rw [hG]
  have HST : Hid (∀ W, Below w.heap.size w W → Calls Tryz.prog 50 #[.pointer (some ⟨mb, 0, none⟩)] W fun e w' => e = .returned (.int .i64 0) ∧ w' = W) := Lib.hid fun W hW => settle_no (h.below hW) hlo
  have HNX : Hid (∀ W, Below w.heap.size w W → Calls Tryz.prog 12 #[.pointer (some ⟨mb, 3, none⟩)] W fun e w' => e = .returned (.int .i64 (v : Int)) ∧ Below W.heap.size W w') := Lib.hid fun W hW => by
    obtain ⟨tq, mq, hq, hp, -⟩ := h.blk
    have := vnext_off (man_cells (hq.below hW)).c4
    rwa [← hp.nx, ← hv] at this
  have HBE : Hid (∀ W, Below w.heap.size w W → Calls Tryz.prog 33 #[.pointer (some ⟨b, 0, none⟩), .int .i64 (v : Int), .agg #[tv, .int .i64 n0, .int .i64 V'.lg, .int .i64 V'.ls]] W (BegTo B W b ρ v log V' R1)) := Lib.hid fun W hW => by
    have := mbegin_any hG0 W (h0.trans (hW.mono h0.size)) b ρ S (h.fs.below hW) v hv2 tv n0 V' (hV.below hW) hto hw hH.ro log hl
    rwa [h1] at this
  have HNM : Hid (∀ W, Below w0.heap.size w0 W → Calls Tryz.prog 48 #[.int .i64 (M.num : Int)] W fun e w' => e = .returned (.string (manN M.num)) ∧ Below W.heap.size W w') := Lib.hid fun W hW => manName_any M.num (by omega) W (hG0.below hW).2
  have HRM : Hid (∀ ρ1 W, FsAt W b ρ1 R1.2 → Calls Tryz.prog 77 #[.pointer (some ⟨b, 0, none⟩), .string (manN M.num)] W (OpAt W b ρ1 R2)) := Lib.hid fun ρ1 W t1 => by
    have := remove_any W b ρ1 R1.2 t1 (manN M.num) (by unfold maxLen; omega) (by omega) (by omega)
    rwa [h2] at this
  have HG := Lib.hid hG.symm
  have HM := Lib.hid h
  have HV := Lib.hid hV
  have HTO := Lib.hid hto
  have HHI := Lib.hid hH
  have H0 := Lib.hid h0
  obtain ⟨c1, S1⟩ := R1
  obtain ⟨c2, S2⟩ := R2
  dsimp only at *
  unfold OpAt at HRM
  dsimp only at HRM
  unfold BegTo at HBE
  dsimp only at HBE
  obtain ⟨aT, cT, rfl⟩ := fil_form hV.row
  generalize V'.fs.length = nT at *
  obtain ⟨wa, hwa⟩ : ∃ wa, w.alloc (.cells #[.slice aT nT cT, .int .i64 n0, .int .i64 V'.lg, .int .i64 V'.ls] 73) = wa := ⟨_, rfl⟩
  have hba : Below w.heap.size w wa := by rw [← hwa]; exact (Below.refl _ w).alloc (Nat.le_refl _) _
  have hya : BlkAt wa w.heap.size #[.slice aT nT cT, .int .i64 n0, .int .i64 V'.lg, .int .i64 V'.ls] 73 := by rw [← hwa]; exact BlkAt.new _ _ _
  obtain ⟨g, hg⟩ : ∃ g, w.heap.size = g := ⟨_, rfl⟩
  have HGE := Lib.hid hg
  rw [hg] at hya
  have HB := Lib.hid hba
  have HY := Lib.hid hya
  obtain ⟨u, hue⟩ : ∃ u, M.num = u := ⟨_, rfl⟩
  rw [hue] at HNM HRM hne
  have HUE := Lib.hid hue
  generalize manN u = NM at *
  have d9 : ((v : Int) != (u : Int)) = true := by rw [bne_iff_ne]; omega
  have HS1 := Lib.hid (HST.out wa hba)
  clear h h1 h2 hG hV hto hH h0 hG0 hlo hw hv hv2 hw1 hne hl hmn hba hya hu hue HST
  go_enter Tryz.func38, Tryz.ntmps38
  go_wp2_with fail
  clear hwa hg
  refine HS1.out.mono ?_
  rintro e wS ⟨rfl, rfl⟩
  obtain ⟨tv0, m0, hcc⟩ := (HM.out.below HB.out).plU (W := w)
  have HC := Lib.hid hcc
  clear hcc HS1
  go_upto_region 4 with fail
  have HYU : Hid (∀ W, UpdF (fun k => ρ k ≠ none) wS W → BlkAt W g #[.slice aT nT cT, .int .i64 n0, .int .i64 V'.lg, .int .i64 V'.ls] 73) := Lib.hid fun W hW => (hW.block g HY.out.lt fun f => by
    have := HM.out.top g (.inl f); have := HGE.out; omega).trans HY.out
  refine wp_region_held_drew (S := UpdF (fun k => ρ k ≠ none) wS) (by kernel_rfl) (UpdF.refl _ wS).drew (fun hHeld => ?_)
  have HU := Lib.hid hHeld
  have HBw : Hid (Below wS.heap.size wS wS.drew) := Lib.hid (Below.refl _ _).drew
  clear hHeld
  generalize wS.drew = wd at *
  refine takeYes (i := 0) (k := 15) (v := .pointer (some ⟨mb, 0, none⟩)) rfl (by kernel_rfl) (by kernel_rfl) (by kernel_rfl) (by kernel_rfl) (fun _ _ _ h => h) (by kernel_rfl) ?_ HU.out ?_
  · intro W hSw; first | (go_simp; done) | go_simp
  try simp only [Act.put, List.setIfInBounds_toArray, List.set_cons_zero, List.set_cons_succ]
  refine takeYes (i := 1) (k := 16) (v := .pointer (some ⟨mb, 0, none⟩)) rfl (by kernel_rfl) (by kernel_rfl) (by kernel_rfl) (by kernel_rfl) (fun _ _ _ h => h) (by kernel_rfl) ?_ HU.out ?_
  · intro W hSw; first | (go_simp; done) | go_simp
  try simp only [Act.put, List.setIfInBounds_toArray, List.set_cons_zero, List.set_cons_succ]
  refine takeYes (i := 2) (k := 17) (v := .pointer (some ⟨mb, 0, none⟩)) rfl (by kernel_rfl) (by kernel_rfl) (by kernel_rfl) (by kernel_rfl) (fun _ _ _ h => h) (by kernel_rfl) ?_ HU.out ?_
  · intro W hSw; first | (go_simp; done) | go_simp
  try simp only [Act.put, List.setIfInBounds_toArray, List.set_cons_zero, List.set_cons_succ]
  refine takeYes (i := 3) (k := 18) (v := .pointer (some ⟨b, 0, none⟩)) rfl (by kernel_rfl) (by kernel_rfl) (by kernel_rfl) (by kernel_rfl) (fun _ _ _ h => h) (by kernel_rfl) ?_ HU.out ?_
  · intro W hSw; have cc := (HC.out W hSw).c0; first | (go_simp; done) | go_simp
  try simp only [Act.put, List.setIfInBounds_toArray, List.set_cons_zero, List.set_cons_succ]
  refine takeYes (i := 4) (k := 19) (v := .pointer (some ⟨mb, 0, none⟩)) rfl (by kernel_rfl) (by kernel_rfl) (by kernel_rfl) (by kernel_rfl) (fun _ _ _ h => h) (by kernel_rfl) ?_ HU.out ?_
  · intro W hSw; first | (go_simp; done) | go_simp
  try simp only [Act.put, List.setIfInBounds_toArray, List.set_cons_zero, List.set_cons_succ]
  refine takeYes (i := 5) (k := 20) (v := .pointer (some ⟨mb, 0, none⟩)) rfl (by kernel_rfl) (by kernel_rfl) (by kernel_rfl) (by kernel_rfl) (fun _ _ _ h => h) (by kernel_rfl) ?_ HU.out ?_
  · intro W hSw; first | (go_simp; done) | go_simp
  try simp only [Act.put, List.setIfInBounds_toArray, List.set_cons_zero, List.set_cons_succ]
  refine takeYes (i := 6) (k := 21) (v := .pointer (some ⟨mb, 3, none⟩)) rfl (by kernel_rfl) (by kernel_rfl) (by kernel_rfl) (by kernel_rfl) (fun _ _ _ h => h) (by kernel_rfl) ?_ HU.out ?_
  · intro W hSw; first | (go_simp; done) | go_simp
  try simp only [Act.put, List.setIfInBounds_toArray, List.set_cons_zero, List.set_cons_succ]
  refine takeYes (i := 8) (k := 23) (v := .agg #[.slice aT nT cT, .int .i64 n0, .int .i64 V'.lg, .int .i64 V'.ls]) rfl (by kernel_rfl) (by kernel_rfl) (by kernel_rfl) (by kernel_rfl) (fun _ _ _ h => h) (by kernel_rfl) ?_ HU.out ?_
  · intro W hSw; obtain ⟨z0, z1, z2, z3⟩ := cell4_of (HYU.out W hSw); first | (go_simp; done) | go_simp
  try simp only [Act.put, List.setIfInBounds_toArray, List.set_cons_zero, List.set_cons_succ]
  refine wpAnyH_ready (rs := [7]) (by kernel_rfl) (by simp) (AllReadyH.cons rfl (fun K hK => ?_) AllReadyH.nil)
  go_simp
  refine (HNX.out wd (HB.out.trans (HBw.out.mono HB.out.size))).mono ?_
  rintro e w2 ⟨rfl, hbn⟩
  have HBn : Hid (Below wS.heap.size wS w2) := Lib.hid (HBw.out.trans (hbn.mono HBw.out.size))
  refine hK.out _ _ (UpdF.of HBn.out) (fun _ => ?_)
  clear hK K hbn HBw HU
  have HU := Lib.hid (UpdF.of (F := fun k => ρ k ≠ none) HBn.out)
  try simp only []
  refine wpAnyH_ready (rs := [9]) (by kernel_rfl) (by simp) (AllReadyH.cons rfl (fun K hK => ?_) AllReadyH.nil)
  go_simp
  have HP2 := Lib.hid (HB.out.trans (HBn.out.mono HB.out.size))
  refine (HBE.out w2 HP2.out).mono ?_
  rintro e w3 (⟨hc1, mb2, ρ1, rfl, hmb2, hA, t2, t3⟩ | ⟨hc1, rfl, ρ1, t1, t2, t3⟩)
  rotate_left
  · have hU2 : UpdF (fun k => ρ k ≠ none) wS w3 := (UpdF.of HBn.out).trans t2
    refine hK.out _ _ hU2 (fun _ => ?_)
    clear hK K HU
    have HU := Lib.hid hU2
    clear hU2
    try simp only []
    refine takeYes (i := 10) (k := 14) (v := .tuple #[.pointer none, .int .i64 c1]) rfl (by kernel_rfl) (by kernel_rfl) (by kernel_rfl) (by kernel_rfl) (fun _ _ _ h => h) (by kernel_rfl) ?_ HU.out ?_
    · intro W hSw; first | (go_simp; done) | go_simp
    try simp only [Act.put, List.setIfInBounds_toArray, List.set_cons_zero, List.set_cons_succ]
    refine takeYes (i := 11) (k := 25) (v := .pointer none) rfl (by kernel_rfl) (by kernel_rfl) (by kernel_rfl) (by kernel_rfl) (fun _ _ _ h => h) (by kernel_rfl) ?_ HU.out ?_
    · intro W hSw; first | (go_simp; done) | go_simp
    try simp only [Act.put, List.setIfInBounds_toArray, List.set_cons_zero, List.set_cons_succ]
    refine takeYes (i := 12) (k := 26) (v := .int .i64 c1) rfl (by kernel_rfl) (by kernel_rfl) (by kernel_rfl) (by kernel_rfl) (fun _ _ _ h => h) (by kernel_rfl) ?_ HU.out ?_
    · intro W hSw; first | (go_simp; done) | go_simp
    try simp only [Act.put, List.setIfInBounds_toArray, List.set_cons_zero, List.set_cons_succ]
    refine takeYes (i := 13) (k := 6) (v := .pointer none) rfl (by kernel_rfl) (by kernel_rfl) (by kernel_rfl) (by kernel_rfl) (fun _ _ _ h => h) (by kernel_rfl) ?_ HU.out ?_
    · intro W hSw; first | (go_simp; done) | go_simp
    try simp only [Act.put, List.setIfInBounds_toArray, List.set_cons_zero, List.set_cons_succ]
    refine takeYes (i := 14) (k := 7) (v := .int .i64 c1) rfl (by kernel_rfl) (by kernel_rfl) (by kernel_rfl) (by kernel_rfl) (fun _ _ _ h => h) (by kernel_rfl) ?_ HU.out ?_
    · intro W hSw; first | (go_simp; done) | go_simp
    try simp only [Act.put, List.setIfInBounds_toArray, List.set_cons_zero, List.set_cons_succ]
    refine wpAnyH_done (by kernel_rfl) ?_ _
    have HNC := Lib.hid hc1
    have d1 : (c1 != 0) = true := by rw [bne_iff_ne]; exact hc1
    obtain rfl : G = (c1, S1) := by have := HG.out; simpa [hc1] using this
    have hA4 := Lib.hid ((HM.out.below HP2.out).fsTo ⟨ρ1, t1, t2, t3⟩)
    clear hc1 t1 t2 t3 HU HC
    go_wp2_with fail
    go_ret
    exact ⟨rfl, .inr ⟨HNC.out, ManTo.pre HP2.out hA4.out⟩⟩
  subst hc1
  have hU2 : UpdF (fun k => ρ k ≠ none) wS w3 := (UpdF.of HBn.out).trans t2
  refine hK.out _ _ hU2 (fun _ => ?_)
  clear hK K HU
  have HU := Lib.hid hU2
  clear hU2
  try simp only []
  refine takeYes (i := 10) (k := 14) (v := .tuple #[.pointer (some ⟨mb2, 0, none⟩), .int .i64 0]) rfl (by kernel_rfl) (by kernel_rfl) (by kernel_rfl) (by kernel_rfl) (fun _ _ _ h => h) (by kernel_rfl) ?_ HU.out ?_
  · intro W hSw; first | (go_simp; done) | go_simp
  try simp only [Act.put, List.setIfInBounds_toArray, List.set_cons_zero, List.set_cons_succ]
  refine takeYes (i := 11) (k := 25) (v := .pointer (some ⟨mb2, 0, none⟩)) rfl (by kernel_rfl) (by kernel_rfl) (by kernel_rfl) (by kernel_rfl) (fun _ _ _ h => h) (by kernel_rfl) ?_ HU.out ?_
  · intro W hSw; first | (go_simp; done) | go_simp
  try simp only [Act.put, List.setIfInBounds_toArray, List.set_cons_zero, List.set_cons_succ]
  refine takeYes (i := 12) (k := 26) (v := .int .i64 0) rfl (by kernel_rfl) (by kernel_rfl) (by kernel_rfl) (by kernel_rfl) (fun _ _ _ h => h) (by kernel_rfl) ?_ HU.out ?_
  · intro W hSw; first | (go_simp; done) | go_simp
  try simp only [Act.put, List.setIfInBounds_toArray, List.set_cons_zero, List.set_cons_succ]
  refine takeYes (i := 13) (k := 6) (v := .pointer (some ⟨mb2, 0, none⟩)) rfl (by kernel_rfl) (by kernel_rfl) (by kernel_rfl) (by kernel_rfl) (fun _ _ _ h => h) (by kernel_rfl) ?_ HU.out ?_
  · intro W hSw; first | (go_simp; done) | go_simp
  try simp only [Act.put, List.setIfInBounds_toArray, List.set_cons_zero, List.set_cons_succ]
  refine takeYes (i := 14) (k := 7) (v := .int .i64 0) rfl (by kernel_rfl) (by kernel_rfl) (by kernel_rfl) (by kernel_rfl) (fun _ _ _ h => h) (by kernel_rfl) ?_ HU.out ?_
  · intro W hSw; first | (go_simp; done) | go_simp
  try simp only [Act.put, List.setIfInBounds_toArray, List.set_cons_zero, List.set_cons_succ]
  refine wpAnyH_done (by kernel_rfl) ?_ _
  have HMM : Hid (mb ≠ mb2) := Lib.hid fun e => by have := HM.out.lt; have := HP2.out.size; omega
  have HK1 := Lib.hid ((HM.out.below HP2.out).fsAt hA.fs t2 t3)
  have HK2 := Lib.hid hA
  have HF1 : Hid (∀ k, ManP ρ1 mb k → ManP ρ mb k ∨ w2.heap.size ≤ k) := Lib.hid (manP_to t3)
  have HU1 : Hid (UpdF (ManP ρ mb) w2 w3) := Lib.hid (t2.mono fun k _ f => .inl f)
  have H3 : Hid (Below w0.heap.size w0 w3) := Lib.hid (HHI.out.blw (H0.out.trans (HP2.out.mono H0.out.size)) HU1.out)
  clear hA t2 t3 hmb2 HU HC HBn HY HYU HBE HNX HB
  obtain ⟨tv1, m1, hcc⟩ := HK1.out.plU (W := w)
  have HC := Lib.hid hcc
  obtain ⟨tv2, m2, hcc2⟩ := HK2.out.plU (W := w)
  have HC2 := Lib.hid hcc2
  clear hcc hcc2
  go_upto_region 7 with fail
  refine wp_region_held_drew (S := UpdF (fun k => ρ1 k ≠ none) w3) (by kernel_rfl) (UpdF.refl _ w3).drew (fun hHeld => ?_)
  have HU := Lib.hid hHeld
  have HBw : Hid (Below w3.heap.size w3 w3.drew) := Lib.hid (Below.refl _ _).drew
  clear hHeld
  generalize w3.drew = wq at *
  refine takeYes (i := 0) (k := 30) (v := .pointer (some ⟨mb2, 0, none⟩)) rfl (by kernel_rfl) (by kernel_rfl) (by kernel_rfl) (by kernel_rfl) (fun _ _ _ h => h) (by kernel_rfl) ?_ HU.out ?_
  · intro W hSw; first | (go_simp; done) | go_simp
  try simp only [Act.put, List.setIfInBounds_toArray, List.set_cons_zero, List.set_cons_succ]
  refine takeYes (i := 1) (k := 31) (v := .pointer (some ⟨mb2, 0, none⟩)) rfl (by kernel_rfl) (by kernel_rfl) (by kernel_rfl) (by kernel_rfl) (fun _ _ _ h => h) (by kernel_rfl) ?_ HU.out ?_
  · intro W hSw; first | (go_simp; done) | go_simp
  try simp only [Act.put, List.setIfInBounds_toArray, List.set_cons_zero, List.set_cons_succ]
  refine takeYes (i := 2) (k := 32) (v := .pointer (some ⟨mb2, 1, none⟩)) rfl (by kernel_rfl) (by kernel_rfl) (by kernel_rfl) (by kernel_rfl) (fun _ _ _ h => h) (by kernel_rfl) ?_ HU.out ?_
  · intro W hSw; first | (go_simp; done) | go_simp
  try simp only [Act.put, List.setIfInBounds_toArray, List.set_cons_zero, List.set_cons_succ]
  refine takeYes (i := 3) (k := 33) (v := .int .i64 (v : Int)) rfl (by kernel_rfl) (by kernel_rfl) (by kernel_rfl) (by kernel_rfl) (fun _ _ _ h => h) (by kernel_rfl) ?_ HU.out ?_
  · intro W hSw; have cc := (HC2.out W hSw).c1; dsimp only at cc; first | (go_simp; done) | go_simp
  try simp only [Act.put, List.setIfInBounds_toArray, List.set_cons_zero, List.set_cons_succ]
  refine takeYes (i := 4) (k := 34) (v := .pointer (some ⟨mb, 0, none⟩)) rfl (by kernel_rfl) (by kernel_rfl) (by kernel_rfl) (by kernel_rfl) (fun _ _ _ h => h) (by kernel_rfl) ?_ HU.out ?_
  · intro W hSw; first | (go_simp; done) | go_simp
  try simp only [Act.put, List.setIfInBounds_toArray, List.set_cons_zero, List.set_cons_succ]
  refine takeYes (i := 5) (k := 35) (v := .pointer (some ⟨mb, 0, none⟩)) rfl (by kernel_rfl) (by kernel_rfl) (by kernel_rfl) (by kernel_rfl) (fun _ _ _ h => h) (by kernel_rfl) ?_ HU.out ?_
  · intro W hSw; first | (go_simp; done) | go_simp
  try simp only [Act.put, List.setIfInBounds_toArray, List.set_cons_zero, List.set_cons_succ]
  refine takeYes (i := 6) (k := 36) (v := .pointer (some ⟨mb, 1, none⟩)) rfl (by kernel_rfl) (by kernel_rfl) (by kernel_rfl) (by kernel_rfl) (fun _ _ _ h => h) (by kernel_rfl) ?_ HU.out ?_
  · intro W hSw; first | (go_simp; done) | go_simp
  try simp only [Act.put, List.setIfInBounds_toArray, List.set_cons_zero, List.set_cons_succ]
  refine takeYes (i := 7) (k := 37) (v := .int .i64 (u : Int)) rfl (by kernel_rfl) (by kernel_rfl) (by kernel_rfl) (by kernel_rfl) (fun _ _ _ h => h) (by kernel_rfl) ?_ HU.out ?_
  · intro W hSw; have cc := (HC.out W hSw).c1; rw [HUE.out] at cc; first | (go_simp; done) | go_simp
  try simp only [Act.put, List.setIfInBounds_toArray, List.set_cons_zero, List.set_cons_succ]
  refine takeYes (i := 8) (k := 38) (v := .bool true) rfl (by kernel_rfl) (by kernel_rfl) (by kernel_rfl) (by kernel_rfl) (fun _ _ _ h => h) (by kernel_rfl) ?_ HU.out ?_
  · intro W hSw; first | (go_simp; done) | go_simp
  try simp only [Act.put, List.setIfInBounds_toArray, List.set_cons_zero, List.set_cons_succ]
  refine wpAnyH_done (by kernel_rfl) ?_ _
  have HBq := HBw
  have HL1 := Lib.hid (HK1.out.below HBq.out)
  have HL2 := Lib.hid (HK2.out.below HBq.out)
  have H3q : Hid (Below w0.heap.size w0 wq) := Lib.hid (H3.out.trans (HBq.out.mono H3.out.size))
  have HMN : Hid (∀ W, Below wq.heap.size wq W → Calls Tryz.prog 48 #[.int .i64 (u : Int)] W fun e w' => e = .returned (.string NM) ∧ Below W.heap.size W w') := Lib.hid fun W hW => HNM.out W (H3q.out.trans (hW.mono H3q.out.size))
  clear HBw HU HC HC2 HNM
  obtain ⟨tv1, m1, hcc⟩ := HL1.out.plU (W := w)
  have HC := Lib.hid hcc
  clear hcc
  go_upto_region 8 with fail
  refine wp_region_held_drew (S := UpdF (fun k => ρ1 k ≠ none) wq) (by kernel_rfl) (UpdF.refl _ wq).drew (fun hHeld => ?_)
  have HU := Lib.hid hHeld
  have HBw : Hid (Below wq.heap.size wq wq.drew) := Lib.hid (Below.refl _ _).drew
  clear hHeld
  generalize wq.drew = wd at *
  refine takeYes (i := 0) (k := 39) (v := .pointer (some ⟨mb, 0, none⟩)) rfl (by kernel_rfl) (by kernel_rfl) (by kernel_rfl) (by kernel_rfl) (fun _ _ _ h => h) (by kernel_rfl) ?_ HU.out ?_
  · intro W hSw; first | (go_simp; done) | go_simp
  try simp only [Act.put, List.setIfInBounds_toArray, List.set_cons_zero, List.set_cons_succ]
  refine takeYes (i := 1) (k := 40) (v := .pointer (some ⟨mb, 0, none⟩)) rfl (by kernel_rfl) (by kernel_rfl) (by kernel_rfl) (by kernel_rfl) (fun _ _ _ h => h) (by kernel_rfl) ?_ HU.out ?_
  · intro W hSw; first | (go_simp; done) | go_simp
  try simp only [Act.put, List.setIfInBounds_toArray, List.set_cons_zero, List.set_cons_succ]
  refine takeYes (i := 2) (k := 41) (v := .pointer (some ⟨mb, 0, none⟩)) rfl (by kernel_rfl) (by kernel_rfl) (by kernel_rfl) (by kernel_rfl) (fun _ _ _ h => h) (by kernel_rfl) ?_ HU.out ?_
  · intro W hSw; first | (go_simp; done) | go_simp
  try simp only [Act.put, List.setIfInBounds_toArray, List.set_cons_zero, List.set_cons_succ]
  refine takeYes (i := 3) (k := 42) (v := .pointer (some ⟨b, 0, none⟩)) rfl (by kernel_rfl) (by kernel_rfl) (by kernel_rfl) (by kernel_rfl) (fun _ _ _ h => h) (by kernel_rfl) ?_ HU.out ?_
  · intro W hSw; have cc := (HC.out W hSw).c0; first | (go_simp; done) | go_simp
  try simp only [Act.put, List.setIfInBounds_toArray, List.set_cons_zero, List.set_cons_succ]
  refine takeYes (i := 4) (k := 43) (v := .pointer (some ⟨mb, 0, none⟩)) rfl (by kernel_rfl) (by kernel_rfl) (by kernel_rfl) (by kernel_rfl) (fun _ _ _ h => h) (by kernel_rfl) ?_ HU.out ?_
  · intro W hSw; first | (go_simp; done) | go_simp
  try simp only [Act.put, List.setIfInBounds_toArray, List.set_cons_zero, List.set_cons_succ]
  refine takeYes (i := 5) (k := 44) (v := .pointer (some ⟨mb, 0, none⟩)) rfl (by kernel_rfl) (by kernel_rfl) (by kernel_rfl) (by kernel_rfl) (fun _ _ _ h => h) (by kernel_rfl) ?_ HU.out ?_
  · intro W hSw; first | (go_simp; done) | go_simp
  try simp only [Act.put, List.setIfInBounds_toArray, List.set_cons_zero, List.set_cons_succ]
  refine takeYes (i := 6) (k := 45) (v := .pointer (some ⟨mb, 1, none⟩)) rfl (by kernel_rfl) (by kernel_rfl) (by kernel_rfl) (by kernel_rfl) (fun _ _ _ h => h) (by kernel_rfl) ?_ HU.out ?_
  · intro W hSw; first | (go_simp; done) | go_simp
  try simp only [Act.put, List.setIfInBounds_toArray, List.set_cons_zero, List.set_cons_succ]
  refine takeYes (i := 7) (k := 46) (v := .int .i64 (u : Int)) rfl (by kernel_rfl) (by kernel_rfl) (by kernel_rfl) (by kernel_rfl) (fun _ _ _ h => h) (by kernel_rfl) ?_ HU.out ?_
  · intro W hSw; have cc := (HC.out W hSw).c1; rw [HUE.out] at cc; first | (go_simp; done) | go_simp
  try simp only [Act.put, List.setIfInBounds_toArray, List.set_cons_zero, List.set_cons_succ]
  refine wpAnyH_ready (rs := [8]) (by kernel_rfl) (by simp) (AllReadyH.cons rfl (fun K hK => ?_) AllReadyH.nil)
  go_simp
  refine (HMN.out wd HBw.out).mono ?_
  rintro e w5 ⟨rfl, hbn⟩
  have HBn : Hid (Below wq.heap.size wq w5) := Lib.hid (HBw.out.trans (hbn.mono HBw.out.size))
  refine hK.out _ _ (UpdF.of HBn.out) (fun _ => ?_)
  clear hK K hbn HBw HU
  have HU := Lib.hid (UpdF.of (F := fun k => ρ1 k ≠ none) HBn.out)
  try simp only []
  refine wpAnyH_ready (rs := [9]) (by kernel_rfl) (by simp) (AllReadyH.cons rfl (fun K hK => ?_) AllReadyH.nil)
  go_simp
  refine (HRM.out ρ1 w5 (HL1.out.fs.below HBn.out)).mono ?_
  rintro e w6 ⟨rfl, ht⟩
  have HT := Lib.hid ht
  have hU2 : UpdF (fun k => ρ1 k ≠ none) wq w6 := by obtain ⟨ρ2, t1, t2, t3⟩ := ht; exact (UpdF.of HBn.out).trans t2
  clear ht
  refine hK.out _ _ hU2 (fun _ => ?_)
  clear hK K HU
  have HU := Lib.hid hU2
  clear hU2
  try simp only []
  refine takeYes (i := 10) (k := 8) (v := .int .i64 c2) rfl (by kernel_rfl) (by kernel_rfl) (by kernel_rfl) (by kernel_rfl) (fun _ _ _ h => h) (by kernel_rfl) ?_ HU.out ?_
  · intro W hSw; first | (go_simp; done) | go_simp
  try simp only [Act.put, List.setIfInBounds_toArray, List.set_cons_zero, List.set_cons_succ]
  refine wpAnyH_done (by kernel_rfl) ?_ _
  obtain ⟨ρ2, t1, t2, t3⟩ := HT.out
  have HN1 := Lib.hid ((HL1.out.below HBn.out).fsAt t1 t2 t3)
  have HN2 := Lib.hid ((HL2.out.below HBn.out).fsAt t1 t2 t3)
  have HU2 : Hid (UpdF (ManP ρ mb) w2 w6) := Lib.hid (((HU1.out.trans (UpdF.of (HBq.out.trans (HBn.out.mono HBq.out.size)))).then (t2.mono (G := ManP ρ1 mb) fun k _ f => Or.inl f) HF1.out))
  have HF2 : Hid (∀ k, ManP ρ2 mb k → ManP ρ mb k ∨ w2.heap.size ≤ k) := Lib.hid fun k hk => by
    rcases manP_to t3 k hk with f | f
    · exact HF1.out k f
    · have h1 := HU1.out.size; have h2 := HBq.out.size; have h3 := HBn.out.size; exact .inr (by omega)
  clear t1 t2 t3 HT HU HC HMN HRM
  by_cases hc2 : c2 = 0
  rotate_left
  · have d1 : (c2 != 0) = true := by rw [bne_iff_ne]; exact hc2
    obtain rfl : G = (c2, S2) := by have := HG.out; simpa using this
    have HNC := Lib.hid hc2
    clear hc2
    go_wp2_with fail
    go_ret
    exact ⟨rfl, .inr ⟨HNC.out, ManTo.pre HP2.out ⟨ρ2, HN1.out, HU2.out, HF2.out⟩⟩⟩
  subst hc2
  obtain rfl : G = (0, S2) := by have := HG.out; simpa using this
  obtain ⟨tz, nz, hz1, hz2, hz3⟩ := HN2.out.blk
  have HFIN := Lib.hid (HN1.out.copy (M' := ⟨v, log.length, false, false, false⟩) hz2 hz3)
  obtain ⟨x0, x1, x2, x3, x4, x5, x6, x7, x8, x9, -⟩ := man_cells hz1
  obtain ⟨aZ, cZ, rfl⟩ := fil_form hz2.row
  obtain ⟨tq, mq, hq⟩ := HN1.out.pl
  obtain ⟨y0, y1, y2, y3, y4, y5, y6, y7, y8, y9, hfr⟩ := hq
  have f0 := hfr 0
  have f1 := hfr 1
  have f2 := hfr 2
  have f3 := hfr 3
  have f4 := hfr 4
  have f5 := hfr 5
  have f6 := hfr 6
  have f7 := hfr 7
  have f8 := hfr 8
  have f9 := hfr 9
  dsimp only at x1 x2 x7 x8 x9 HFIN
  generalize V'.fs.length = nZ at *
  clear hfr hz1 hz2 hz3
  go_wp2_with fail
  go_ret
  exact ⟨rfl, .inl ⟨rfl, ManTo.pre HP2.out (ManTo.then HU2.out HF2.out HFIN.out)⟩⟩
end Go.Proofs.YtcppaflnhlmcbaaGreatDoor
