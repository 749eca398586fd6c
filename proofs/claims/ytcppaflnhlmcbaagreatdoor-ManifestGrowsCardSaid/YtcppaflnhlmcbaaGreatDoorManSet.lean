/- manifest.settle: all that was loaded is made last. -/
import Derived.Test.YtcppaflnhlmcbaaGreatDoorManBeg
import Derived.Test.YtcppaflnhlmcbaaGreatDoorMBase
namespace Go.Proofs.YtcppaflnhlmcbaaGreatDoor
set_option linter.unusedVariables false
open Go.RowKit Go.Maps
/-- What settle makes of the files and of the manifest. -/
def setM (S : Fs) (M : Man) : Int × Fs × Man := if M.loose = true then ((setF S M.num).1, (setF S M.num).2, { M with loose := decide ((setF S M.num).1 ≠ 0) }) else (0, S, M)
theorem setM_no {S : Fs} {M : Man} (h : M.loose = false) : setM S M = (0, S, M) := by
  unfold setM
  rw [h]; rfl
theorem ManAt.pl {B : Nat} {w : World} {b mb : Nat} {ρ : Nat → Option Role} {S : Fs} {M : Man} {V : Ver} (h : ManAt B w b mb ρ S M V) : ∃ tv n0, ManCells w mb b M tv n0 V.lg V.ls := by
  obtain ⟨tv, n0, h1, -⟩ := h.blk
  exact ⟨tv, n0, man_cells h1⟩
theorem ManAt.plU {B : Nat} {w W : World} {b mb : Nat} {ρ : Nat → Option Role} {S : Fs} {M : Man} {V : Ver} (h : ManAt B w b mb ρ S M V) : ∃ tv n0, ∀ W, UpdF (fun k => ρ k ≠ none) w W → ManCells W mb b M tv n0 V.lg V.ls := by
  obtain ⟨tv, n0, h1, -⟩ := h.blk
  exact ⟨tv, n0, fun W u => man_cells ((u.block mb h.lt fun f => f h.out).trans h1)⟩
/-- What a call on a manifest answers, what is behind it. -/
def MRes (B : Nat) (w : World) (b mb : Nat) (ρ : Nat → Option Role) (R : Int × Fs × Man) (V : Ver) (e : Ending) (w' : World) : Prop := e = .returned (.int .i64 R.1) ∧ ManTo B w b mb ρ w' R.2.1 R.2.2 V
/-- No blocks of a manifest lie below a world's own. -/
def HighP (w0 : World) (ρ : Nat → Option Role) (mb : Nat) : Prop := ∀ k, ManP ρ mb k → w0.heap.size ≤ k
theorem HighP.ro {w0 : World} {ρ : Nat → Option Role} {mb : Nat} (h : HighP w0 ρ mb) : ∀ k, ρ k ≠ none → w0.heap.size ≤ k := fun k hk => h k (.inl hk)
theorem HighP.blw {w0 w w' : World} {ρ : Nat → Option Role} {mb : Nat} (h : HighP w0 ρ mb) (h0 : Below w0.heap.size w0 w) (u : UpdF (ManP ρ mb) w w') : Below w0.heap.size w0 w' := h0.trans (u.below h0.size fun k hk f => by have := h k f; omega)
theorem HighP.to {w0 w : World} {ρ ρ' : Nat → Option Role} {mb : Nat} (h : HighP w0 ρ mb) (h0 : Below w0.heap.size w0 w) (t : ∀ k, ManP ρ' mb k → ManP ρ mb k ∨ w.heap.size ≤ k) : HighP w0 ρ' mb := fun k hk => by
  rcases t k hk with f | f
  · exact h k f
  · exact Nat.le_trans h0.size f
set_option maxHeartbeats 4000000 in
set_option maxRecDepth 100000 in
theorem settle_no {B : Nat} {w : World} {b mb : Nat} {ρ : Nat → Option Role} {S : Fs} {M : Man} {V : Ver} (h : ManAt B w b mb ρ S M V) (hl : M.loose = false) : Calls Tryz.prog 50 #[.pointer (some ⟨mb, 0, none⟩)] w fun e w' => e = .returned (.int .i64 0) ∧ w' = w := by
  obtain ⟨tv, n0, hc⟩ := h.pl
  have c8 := hc.c8
  rw [hl] at c8
  clear h hc hl
  go_enter Tryz.func50, Tryz.ntmps50
  go_wp2_with fail
  go_ret
  exact ⟨rfl, rfl⟩
set_option maxHeartbeats 8000000 in
set_option maxRecDepth 100000 in
theorem settle_any {B : Nat} {w0 : World} (hG0 : GlobM w0) {w : World} (h0 : Below w0.heap.size w0 w) {b mb : Nat} {ρ : Nat → Option Role} {S : Fs} {M : Man} {V : Ver} (h : ManAt B w b mb ρ S M V) (hu : M.num ≤ 1125899906842624) :
    Calls Tryz.prog 50 #[.pointer (some ⟨mb, 0, none⟩)] w (MRes B w b mb ρ (setM S M) V) := by
  cases hl : M.loose with
  | false =>
    rw [setM_no hl]
    refine (settle_no h hl).mono ?_
    rintro e w' ⟨rfl, rfl⟩
    exact ⟨rfl, h.to (Below.refl _ _)⟩
  | true =>
  have hmn := (manN_len hu).2
  obtain ⟨R1, h1⟩ : ∃ R, S.sync (manN M.num) = R := ⟨_, rfl⟩
  obtain ⟨R2, h2⟩ : ∃ R, R1.2.syncDir = R := ⟨_, rfl⟩
  have hL : setF S M.num = if R1.1 = 0 then R2 else R1 := by
    unfold setF thenF
    rw [h1]
    simp only [h2]
  have hSM : setM S M = ((setF S M.num).1, (setF S M.num).2, { M with loose := decide ((setF S M.num).1 ≠ 0) }) := by unfold setM; rw [if_pos hl]
  rw [hSM, hL]
  clear hL hSM
  obtain ⟨G, hG⟩ : ∃ G, (if R1.1 = 0 then R2 else R1) = G := ⟨_, rfl⟩
  rw [hG]
  obtain ⟨MM, hMM⟩ : ∃ MM : Man, { M with loose := decide (G.1 ≠ 0) } = MM := ⟨_, rfl⟩
  rw [hMM]
  have HMM := Lib.hid hMM.symm
  clear hMM
  have HMN : Hid (∀ W, Below w.heap.size w W → Calls Tryz.prog 48 #[.int .i64 (M.num : Int)] W fun e w' => e = .returned (.string (manN M.num)) ∧ Below W.heap.size W w') := Lib.hid fun W hW => manName_any M.num (by omega) W ((hG0.below h0).2.below hW)
  have HSY : Hid (∀ W, Below w.heap.size w W → Calls Tryz.prog 78 #[.pointer (some ⟨b, 0, none⟩), .string (manN M.num)] W (OpAt W b ρ R1)) := Lib.hid fun W hW => by
    have := sync_any W b ρ S (h.fs.below hW) (manN M.num) (by unfold maxLen; omega)
    rwa [h1] at this
  have HSD : Hid (∀ ρ1 W, FsAt W b ρ1 R1.2 → Calls Tryz.prog 76 #[.pointer (some ⟨b, 0, none⟩)] W (OpAt W b ρ1 R2)) := Lib.hid fun ρ1 W t1 => by
    have := syncDir_any W b ρ1 R1.2 t1
    rwa [h2] at this
  have HG := Lib.hid hG.symm
  have HM := Lib.hid h
  obtain ⟨tv, n0, hcc⟩ := h.plU (W := w)
  have HC := Lib.hid hcc
  have c8 := (hcc w (UpdF.refl _ _)).c8
  rw [hl] at c8
  have HLO := Lib.hid hl
  obtain ⟨c1, S1⟩ := R1
  obtain ⟨c2, S2⟩ := R2
  dsimp only at *
  obtain ⟨u, hue⟩ : ∃ u, M.num = u := ⟨_, rfl⟩
  rw [hue] at HMN HSY hmn
  have HUE := Lib.hid hue
  generalize manN u = NM at *
  unfold OpAt at HSY HSD
  clear h h1 h2 hG hcc hl hu hG0 h0 hue
  go_enter Tryz.func50, Tryz.ntmps50
  go_upto_region 3 with fail
  refine wp_region_held_drew (S := UpdF (fun k => ρ k ≠ none) w) (by kernel_rfl) (UpdF.refl _ w).drew (fun hHeld => ?_)
  have HU := Lib.hid hHeld
  have HBw : Hid (Below w.heap.size w w.drew) := Lib.hid (Below.refl _ _).drew
  clear hHeld
  generalize w.drew = wd at *
  refine takeYes (i := 0) (k := 10) (v := .pointer (some ⟨mb, 0, none⟩)) rfl (by kernel_rfl) (by kernel_rfl) (by kernel_rfl) (by kernel_rfl) (fun _ _ _ h => h) (by kernel_rfl) ?_ HU.out ?_
  · intro W hSw; first | (go_simp; done) | go_simp
  try simp only [Act.put, List.setIfInBounds_toArray, List.set_cons_zero, List.set_cons_succ]
  refine takeYes (i := 1) (k := 11) (v := .pointer (some ⟨mb, 0, none⟩)) rfl (by kernel_rfl) (by kernel_rfl) (by kernel_rfl) (by kernel_rfl) (fun _ _ _ h => h) (by kernel_rfl) ?_ HU.out ?_
  · intro W hSw; first | (go_simp; done) | go_simp
  try simp only [Act.put, List.setIfInBounds_toArray, List.set_cons_zero, List.set_cons_succ]
  refine takeYes (i := 2) (k := 12) (v := .pointer (some ⟨mb, 0, none⟩)) rfl (by kernel_rfl) (by kernel_rfl) (by kernel_rfl) (by kernel_rfl) (fun _ _ _ h => h) (by kernel_rfl) ?_ HU.out ?_
  · intro W hSw; first | (go_simp; done) | go_simp
  try simp only [Act.put, List.setIfInBounds_toArray, List.set_cons_zero, List.set_cons_succ]
  refine takeYes (i := 3) (k := 13) (v := .pointer (some ⟨b, 0, none⟩)) rfl (by kernel_rfl) (by kernel_rfl) (by kernel_rfl) (by kernel_rfl) (fun _ _ _ h => h) (by kernel_rfl) ?_ HU.out ?_
  · intro W hSw; have cc := (HC.out W hSw).c0; first | (go_simp; done) | go_simp
  try simp only [Act.put, List.setIfInBounds_toArray, List.set_cons_zero, List.set_cons_succ]
  refine takeYes (i := 4) (k := 14) (v := .pointer (some ⟨mb, 0, none⟩)) rfl (by kernel_rfl) (by kernel_rfl) (by kernel_rfl) (by kernel_rfl) (fun _ _ _ h => h) (by kernel_rfl) ?_ HU.out ?_
  · intro W hSw; first | (go_simp; done) | go_simp
  try simp only [Act.put, List.setIfInBounds_toArray, List.set_cons_zero, List.set_cons_succ]
  refine takeYes (i := 5) (k := 15) (v := .pointer (some ⟨mb, 0, none⟩)) rfl (by kernel_rfl) (by kernel_rfl) (by kernel_rfl) (by kernel_rfl) (fun _ _ _ h => h) (by kernel_rfl) ?_ HU.out ?_
  · intro W hSw; first | (go_simp; done) | go_simp
  try simp only [Act.put, List.setIfInBounds_toArray, List.set_cons_zero, List.set_cons_succ]
  refine takeYes (i := 6) (k := 16) (v := .pointer (some ⟨mb, 1, none⟩)) rfl (by kernel_rfl) (by kernel_rfl) (by kernel_rfl) (by kernel_rfl) (fun _ _ _ h => h) (by kernel_rfl) ?_ HU.out ?_
  · intro W hSw; first | (go_simp; done) | go_simp
  try simp only [Act.put, List.setIfInBounds_toArray, List.set_cons_zero, List.set_cons_succ]
  refine takeYes (i := 7) (k := 17) (v := .int .i64 (u : Int)) rfl (by kernel_rfl) (by kernel_rfl) (by kernel_rfl) (by kernel_rfl) (fun _ _ _ h => h) (by kernel_rfl) ?_ HU.out ?_
  · intro W hSw; have cc := (HC.out W hSw).c1; rw [HUE.out] at cc; first | (go_simp; done) | go_simp
  try simp only [Act.put, List.setIfInBounds_toArray, List.set_cons_zero, List.set_cons_succ]
  refine wpAnyH_ready (rs := [8]) (by kernel_rfl) (by simp) (AllReadyH.cons rfl (fun K hK => ?_) AllReadyH.nil)
  go_simp
  refine (HMN.out wd HBw.out).mono ?_
  rintro e w2 ⟨rfl, hbn⟩
  have HBn : Hid (Below w.heap.size w w2) := Lib.hid (HBw.out.trans (hbn.mono HBw.out.size))
  refine hK.out _ _ (UpdF.of HBn.out) (fun _ => ?_)
  clear hK K hbn HBw HU
  have HU := Lib.hid (UpdF.of (F := fun k => ρ k ≠ none) HBn.out)
  try simp only []
  refine wpAnyH_ready (rs := [9]) (by kernel_rfl) (by simp) (AllReadyH.cons rfl (fun K hK => ?_) AllReadyH.nil)
  go_simp
  refine (HSY.out w2 HBn.out).mono ?_
  rintro e w3 ⟨rfl, ht⟩
  have HT := Lib.hid ht
  have hU2 : UpdF (fun k => ρ k ≠ none) w w3 := by obtain ⟨ρ2, t1, t2, t3⟩ := ht; exact (UpdF.of HBn.out).trans t2
  clear ht
  refine hK.out _ _ hU2 (fun _ => ?_)
  clear hK K HU
  have HU := Lib.hid hU2
  clear hU2
  try simp only []
  refine takeYes (i := 10) (k := 3) (v := .int .i64 c1) rfl (by kernel_rfl) (by kernel_rfl) (by kernel_rfl) (by kernel_rfl) (fun _ _ _ h => h) (by kernel_rfl) ?_ HU.out ?_
  · intro W hSw; first | (go_simp; done) | go_simp
  try simp only [Act.put, List.setIfInBounds_toArray, List.set_cons_zero, List.set_cons_succ]
  refine wpAnyH_done (by kernel_rfl) ?_ _
  have HT1 := Lib.hid ((HM.out.below HBn.out).fsTo HT.out)
  have HBN := HBn
  clear HT HU HC HBn HMN HSY c8 hmn
  by_cases hc1 : c1 = 0
  rotate_left
  · have d1 : (c1 != 0) = true := by rw [bne_iff_ne]; exact hc1
    obtain rfl : G = (c1, S1) := by have := HG.out; simpa [hc1] using this
    obtain rfl : MM = M := by
      rw [HMM.out]
      have := HLO.out
      cases M; simp_all
    clear hc1
    go_wp2_with fail
    go_ret
    exact ⟨rfl, ManTo.pre HBN.out HT1.out⟩
  subst hc1
  have HA1 := HT1.out
  obtain ⟨ρ1, k1, k2, k3⟩ := HA1
  have HK1 := Lib.hid k1
  have HK2 := Lib.hid (And.intro k2 k3)
  obtain ⟨tv1, n1, hc⟩ := k1.pl
  have c0 := hc.c0
  have HD := Lib.hid (HSD.out ρ1 w3 k1.fs)
  clear hc k1 k2 k3 HT1 HSD
  go_wp2_with fail
  refine HD.out.mono ?_
  rintro e w4 ⟨rfl, ht⟩
  have HT2 := Lib.hid (HK1.out.fsTo ht)
  clear ht HD c0 HK1
  by_cases hc2 : c2 = 0
  rotate_left
  · have d1 : (c2 != 0) = true := by rw [bne_iff_ne]; exact hc2
    obtain rfl : G = (c2, S2) := by have := HG.out; simpa using this
    obtain rfl : MM = M := by
      rw [HMM.out]
      have := HLO.out
      cases M; simp_all
    clear hc2
    go_wp2_with fail
    go_ret
    exact ⟨rfl, ManTo.pre HBN.out (ManTo.then HK2.out.1 HK2.out.2 HT2.out)⟩
  subst hc2
  obtain rfl : G = (0, S2) := by have := HG.out; simpa using this
  obtain rfl : MM = { M with loose := false } := HMM.out
  obtain ⟨ρ2, k1, k2, k3⟩ := HT2.out
  have HS := Lib.hid (k1.setM (M' := { M with loose := false }) 8 (.bool false) fun tv n0 => rfl)
  have HK3 := Lib.hid (And.intro k2 k3)
  obtain ⟨tv2, n2, hc⟩ := k1.pl
  have c8 := hc.c8
  have f8 := hc.free 8
  rw [HLO.out] at c8
  clear hc k1 k2 k3 HT2
  go_wp2_with fail
  go_ret
  exact ⟨rfl, ManTo.pre HBN.out (ManTo.then HK2.out.1 HK2.out.2 (ManTo.then HK3.out.1 HK3.out.2 HS.out))⟩
end Go.Proofs.YtcppaflnhlmcbaaGreatDoor
