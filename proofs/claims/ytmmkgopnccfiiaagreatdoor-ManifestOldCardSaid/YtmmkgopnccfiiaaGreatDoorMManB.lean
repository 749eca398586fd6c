/- manifest.settle: all that was loaded is made last. -/
import Derived.Test.YtmmkgopnccfiiaaGreatDoorManBeg
import Derived.Test.YtmmkgopnccfiiaaGreatDoorMBase
import Derived.Test.YtmmkgopnccfiiaaGreatDoorManVer
import Derived.Test.YtmmkgopnccfiiaaGreatDoorManSmall
import Derived.Test.YtmmkgopnccfiiaaGreatDoorMEdt
import Derived.Test.YtmmkgopnccfiiaaGreatDoorMRec
namespace Go.Proofs.YtmmkgopnccfiiaaGreatDoor
set_option linter.unusedVariables false
open Go.RowKit Go.Maps
/-- What settle makes of the files and of the manifest. -/
def setM (S : Fs) (M : Man) : Int × Fs × Man := if M.loose = true then ((setF S M.num).1, (setF S M.num).2, { M with loose := decide ((setF S M.num).1 ≠ 0) }) else (0, S, M)
theorem setM_no {S : Fs} {M : Man} (h : M.loose = false) : setM S M = (0, S, M) := by
  unfold setM
  rw [h]; rfl
theorem ManAt.pl {B : Nat} {w : World} {b mb : Nat} {ρ : Nat → Option Role} {S : Fs} {M : Man} {V : Ver} (h : ManAt B w b mb ρ S M V) : ∃ tv n0, ManCells w mb b M tv n0 V.lg V.ls := by
  obtain ⟨tv, n0, h1, -⟩ := h.blk
  exact ⟨tv, n0, man_cells h1⟩
theorem ManAt.plU {B : Nat} {w W : World} {b mb : Nat} {ρ : Nat → Option Role} {S : Fs} {M : Man} {V : Ver} (h : ManAt B w b mb ρ S M V) : ∃ tv n0, ∀ W, UpdF (fun k => ρ k ≠ none) w W → ManCells W mb b M tv n0 V.lg V.ls := by
  obtain ⟨tv, n0, h1, -⟩ := h.blk
  exact ⟨tv, n0, fun W u => man_cells ((u.block mb h.lt fun f => f h.out).trans h1)⟩
/-- What a call on a manifest answers, what is behind it. -/
def MRes (B : Nat) (w : World) (b mb : Nat) (ρ : Nat → Option Role) (R : Int × Fs × Man) (V : Ver) (e : Ending) (w' : World) : Prop := e = .returned (.int .i64 R.1) ∧ ManTo B w b mb ρ w' R.2.1 R.2.2 V
/-- No blocks of a manifest lie below a world's own. -/
def HighP (w0 : World) (ρ : Nat → Option Role) (mb : Nat) : Prop := ∀ k, ManP ρ mb k → w0.heap.size ≤ k
theorem HighP.blw {w0 w w' : World} {ρ : Nat → Option Role} {mb : Nat} (h : HighP w0 ρ mb) (h0 : Below w0.heap.size w0 w) (u : UpdF (ManP ρ mb) w w') : Below w0.heap.size w0 w' := h0.trans (u.below h0.size fun k hk f => by have := h k f; omega)
theorem HighP.to {w0 w : World} {ρ ρ' : Nat → Option Role} {mb : Nat} (h : HighP w0 ρ mb) (h0 : Below w0.heap.size w0 w) (t : ∀ k, ManP ρ' mb k → ManP ρ mb k ∨ w.heap.size ≤ k) : HighP w0 ρ' mb := fun k hk => by
  rcases t k hk with f | f
  · exact h k f
  · exact Nat.le_trans h0.size f
set_option maxHeartbeats 4000000 in
set_option maxRecDepth 100000 in
theorem settle_no {B : Nat} {w : World} {b mb : Nat} {ρ : Nat → Option Role} {S : Fs} {M : Man} {V : Ver} (h : ManAt B w b mb ρ S M V) (hl : M.loose = false) : Calls Tryz.prog 40 #[.pointer (some ⟨mb, 0, none⟩)] w fun e w' => e = .returned (.int .i64 0) ∧ w' = w := by
  obtain ⟨tv, n0, hc⟩ := h.pl
  have c8 := hc.c8
  rw [hl] at c8
  clear h hc hl
  go_enter Tryz.func40, Tryz.ntmps40
  go_wp2_with fail
  go_ret
  exact ⟨rfl, rfl⟩
set_option maxHeartbeats 8000000 in
set_option maxRecDepth 100000 in
theorem settle_any {B : Nat} {w0 : World} (hG0 : GlobM w0) {w : World} (h0 : Below w0.heap.size w0 w) {b mb : Nat} {ρ : Nat → Option Role} {S : Fs} {M : Man} {V : Ver} (h : ManAt B w b mb ρ S M V) (hu : M.num ≤ 1125899906842624) :
    Calls Tryz.prog 40 #[.pointer (some ⟨mb, 0, none⟩)] w (MRes B w b mb ρ (setM S M) V) := by
  cases hl : M.loose with
  | false =>
    rw [setM_no hl]
    refine (settle_no h hl).mono ?_
    rintro e w' ⟨rfl, rfl⟩
    exact ⟨rfl, h.to (Below.refl _ _)⟩
  | true =>
  have hmn := (manN_len hu).2
  obtain ⟨R1, h1⟩ : ∃ R, S.sync (manN M.num) = R := ⟨_, rfl⟩
  obtain ⟨R2, h2⟩ : ∃ R, R1.2.syncDir = R := ⟨_, rfl⟩
  have hL : setF S M.num = if R1.1 = 0 then R2 else R1 := by
    unfold setF thenF
    rw [h1]
    simp only [h2]
  have hSM : setM S M = ((setF S M.num).1, (setF S M.num).2, { M with loose := decide ((setF S M.num).1 ≠ 0) }) := by unfold setM; rw [if_pos hl]
  rw [hSM, hL]
  clear hL hSM
  obtain ⟨G, hG⟩ : ∃ G, (if R1.1 = 0 then R2 else R1) = G := ⟨_, rfl⟩
  rw [hG]
  obtain ⟨MM, hMM⟩ : ∃ MM : Man, { M with loose := decide (G.1 ≠ 0) } = MM := ⟨_, rfl⟩
  rw [hMM]
  have HMM := Lib.hid hMM.symm
  clear hMM
  have HMN : Hid (∀ W, Below w.heap.size w W → Calls Tryz.prog 38 #[.int .i64 (M.num : Int)] W fun e w' => e = .returned (.string (manN M.num)) ∧ Below W.heap.size W w') := Lib.hid fun W hW => manName_any M.num (by omega) W ((hG0.below h0).2.below hW)
  have HSY : Hid (∀ W, Below w.heap.size w W → Calls Tryz.prog 61 #[.pointer (some ⟨b, 0, none⟩), .string (manN M.num)] W (OpAt W b ρ R1)) := Lib.hid fun W hW => by
    have := sync_any W b ρ S (h.fs.below hW) (manN M.num) (by unfold maxLen; omega)
    rwa [h1] at this
  have HSD : Hid (∀ ρ1 W, FsAt W b ρ1 R1.2 → Calls Tryz.prog 55 #[.pointer (some ⟨b, 0, none⟩)] W (OpAt W b ρ1 R2)) := Lib.hid fun ρ1 W t1 => by
    have := syncDir_any W b ρ1 R1.2 t1
    rwa [h2] at this
  have HG := Lib.hid hG.symm
  have HM := Lib.hid h
  obtain ⟨tv, n0, hcc⟩ := h.plU (W := w)
  have HC := Lib.hid hcc
  have c8 := (hcc w (UpdF.refl _ _)).c8
  rw [hl] at c8
  have HLO := Lib.hid hl
  obtain ⟨c1, S1⟩ := R1
  obtain ⟨c2, S2⟩ := R2
  dsimp only at *
  obtain ⟨u, hue⟩ : ∃ u, M.num = u := ⟨_, rfl⟩
  rw [hue] at HMN HSY hmn
  have HUE := Lib.hid hue
  generalize manN u = NM at *
  unfold OpAt at HSY HSD
  clear h h1 h2 hG hcc hl hu hG0 h0 hue
  go_enter Tryz.func40, Tryz.ntmps40
  go_upto_region 3 with fail
  refine wp_region_held_drew (S := UpdF (fun k => ρ k ≠ none) w) (by kernel_rfl) (UpdF.refl _ w).drew (fun hHeld => ?_)
  have HU := Lib.hid hHeld
  have HBw : Hid (Below w.heap.size w w.drew) := Lib.hid (Below.refl _ _).drew
  clear hHeld
  generalize w.drew = wd at *
  refine takeYes (i := 0) (k := 10) (v := .pointer (some ⟨mb, 0, none⟩)) rfl (by kernel_rfl) (by kernel_rfl) (by kernel_rfl) (by kernel_rfl) (fun _ _ _ h => h) (by kernel_rfl) ?_ HU.out ?_
  · intro W hSw; first | (go_simp; done) | go_simp
  try simp only [Act.put, List.setIfInBounds_toArray, List.set_cons_zero, List.set_cons_succ]
  refine takeYes (i := 1) (k := 11) (v := .pointer (some ⟨mb, 0, none⟩)) rfl (by kernel_rfl) (by kernel_rfl) (by kernel_rfl) (by kernel_rfl) (fun _ _ _ h => h) (by kernel_rfl) ?_ HU.out ?_
  · intro W hSw; first | (go_simp; done) | go_simp
  try simp only [Act.put, List.setIfInBounds_toArray, List.set_cons_zero, List.set_cons_succ]
  refine takeYes (i := 2) (k := 12) (v := .pointer (some ⟨mb, 0, none⟩)) rfl (by kernel_rfl) (by kernel_rfl) (by kernel_rfl) (by kernel_rfl) (fun _ _ _ h => h) (by kernel_rfl) ?_ HU.out ?_
  · intro W hSw; first | (go_simp; done) | go_simp
  try simp only [Act.put, List.setIfInBounds_toArray, List.set_cons_zero, List.set_cons_succ]
  refine takeYes (i := 3) (k := 13) (v := .pointer (some ⟨b, 0, none⟩)) rfl (by kernel_rfl) (by kernel_rfl) (by kernel_rfl) (by kernel_rfl) (fun _ _ _ h => h) (by kernel_rfl) ?_ HU.out ?_
  · intro W hSw; have cc := (HC.out W hSw).c0; first | (go_simp; done) | go_simp
  try simp only [Act.put, List.setIfInBounds_toArray, List.set_cons_zero, List.set_cons_succ]
  refine takeYes (i := 4) (k := 14) (v := .pointer (some ⟨mb, 0, none⟩)) rfl (by kernel_rfl) (by kernel_rfl) (by kernel_rfl) (by kernel_rfl) (fun _ _ _ h => h) (by kernel_rfl) ?_ HU.out ?_
  · intro W hSw; first | (go_simp; done) | go_simp
  try simp only [Act.put, List.setIfInBounds_toArray, List.set_cons_zero, List.set_cons_succ]
  refine takeYes (i := 5) (k := 15) (v := .pointer (some ⟨mb, 0, none⟩)) rfl (by kernel_rfl) (by kernel_rfl) (by kernel_rfl) (by kernel_rfl) (fun _ _ _ h => h) (by kernel_rfl) ?_ HU.out ?_
  · intro W hSw; first | (go_simp; done) | go_simp
  try simp only [Act.put, List.setIfInBounds_toArray, List.set_cons_zero, List.set_cons_succ]
  refine takeYes (i := 6) (k := 16) (v := .pointer (some ⟨mb, 1, none⟩)) rfl (by kernel_rfl) (by kernel_rfl) (by kernel_rfl) (by kernel_rfl) (fun _ _ _ h => h) (by kernel_rfl) ?_ HU.out ?_
  · intro W hSw; first | (go_simp; done) | go_simp
  try simp only [Act.put, List.setIfInBounds_toArray, List.set_cons_zero, List.set_cons_succ]
  refine takeYes (i := 7) (k := 17) (v := .int .i64 (u : Int)) rfl (by kernel_rfl) (by kernel_rfl) (by kernel_rfl) (by kernel_rfl) (fun _ _ _ h => h) (by kernel_rfl) ?_ HU.out ?_
  · intro W hSw; have cc := (HC.out W hSw).c1; rw [HUE.out] at cc; first | (go_simp; done) | go_simp
  try simp only [Act.put, List.setIfInBounds_toArray, List.set_cons_zero, List.set_cons_succ]
  refine wpAnyH_ready (rs := [8]) (by kernel_rfl) (by simp) (AllReadyH.cons rfl (fun K hK => ?_) AllReadyH.nil)
  go_simp
  refine (HMN.out wd HBw.out).mono ?_
  rintro e w2 ⟨rfl, hbn⟩
  have HBn : Hid (Below w.heap.size w w2) := Lib.hid (HBw.out.trans (hbn.mono HBw.out.size))
  refine hK.out _ _ (UpdF.of HBn.out) (fun _ => ?_)
  clear hK K hbn HBw HU
  have HU := Lib.hid (UpdF.of (F := fun k => ρ k ≠ none) HBn.out)
  try simp only []
  refine wpAnyH_ready (rs := [9]) (by kernel_rfl) (by simp) (AllReadyH.cons rfl (fun K hK => ?_) AllReadyH.nil)
  go_simp
  refine (HSY.out w2 HBn.out).mono ?_
  rintro e w3 ⟨rfl, ht⟩
  have HT := Lib.hid ht
  have hU2 : UpdF (fun k => ρ k ≠ none) w w3 := by obtain ⟨ρ2, t1, t2, t3⟩ := ht; exact (UpdF.of HBn.out).trans t2
  clear ht
  refine hK.out _ _ hU2 (fun _ => ?_)
  clear hK K HU
  have HU := Lib.hid hU2
  clear hU2
  try simp only []
  refine takeYes (i := 10) (k := 3) (v := .int .i64 c1) rfl (by kernel_rfl) (by kernel_rfl) (by kernel_rfl) (by kernel_rfl) (fun _ _ _ h => h) (by kernel_rfl) ?_ HU.out ?_
  · intro W hSw; first | (go_simp; done) | go_simp
  try simp only [Act.put, List.setIfInBounds_toArray, List.set_cons_zero, List.set_cons_succ]
  refine wpAnyH_done (by kernel_rfl) ?_ _
  have HT1 := Lib.hid ((HM.out.below HBn.out).fsTo HT.out)
  have HBN := HBn
  clear HT HU HC HBn HMN HSY c8 hmn
  by_cases hc1 : c1 = 0
  rotate_left
  · have d1 : (c1 != 0) = true := by rw [bne_iff_ne]; exact hc1
    obtain rfl : G = (c1, S1) := by have := HG.out; simpa [hc1] using this
    obtain rfl : MM = M := by
      rw [HMM.out]
      have := HLO.out
      cases M; simp_all
    clear hc1
    go_wp2_with fail
    go_ret
    exact ⟨rfl, ManTo.pre HBN.out HT1.out⟩
  subst hc1
  have HA1 := HT1.out
  obtain ⟨ρ1, k1, k2, k3⟩ := HA1
  have HK1 := Lib.hid k1
  have HK2 := Lib.hid (And.intro k2 k3)
  obtain ⟨tv1, n1, hc⟩ := k1.pl
  have c0 := hc.c0
  have HD := Lib.hid (HSD.out ρ1 w3 k1.fs)
  clear hc k1 k2 k3 HT1 HSD
  go_wp2_with fail
  refine HD.out.mono ?_
  rintro e w4 ⟨rfl, ht⟩
  have HT2 := Lib.hid (HK1.out.fsTo ht)
  clear ht HD c0 HK1
  by_cases hc2 : c2 = 0
  rotate_left
  · have d1 : (c2 != 0) = true := by rw [bne_iff_ne]; exact hc2
    obtain rfl : G = (c2, S2) := by have := HG.out; simpa using this
    obtain rfl : MM = M := by
      rw [HMM.out]
      have := HLO.out
      cases M; simp_all
    clear hc2
    go_wp2_with fail
    go_ret
    exact ⟨rfl, ManTo.pre HBN.out (ManTo.then HK2.out.1 HK2.out.2 HT2.out)⟩
  subst hc2
  obtain rfl : G = (0, S2) := by have := HG.out; simpa using this
  obtain rfl : MM = { M with loose := false } := HMM.out
  obtain ⟨ρ2, k1, k2, k3⟩ := HT2.out
  have HS := Lib.hid (k1.setM (M' := { M with loose := false }) 8 (.bool false) fun tv n0 => rfl)
  have HK3 := Lib.hid (And.intro k2 k3)
  obtain ⟨tv2, n2, hc⟩ := k1.pl
  have c8 := hc.c8
  have f8 := hc.free 8
  rw [HLO.out] at c8
  clear hc k1 k2 k3 HT2
  go_wp2_with fail
  go_ret
  exact ⟨rfl, ManTo.pre HBN.out (ManTo.then HK2.out.1 HK2.out.2 (ManTo.then HK3.out.1 HK3.out.2 HS.out))⟩
end Go.Proofs.YtmmkgopnccfiiaaGreatDoor
/- manifest.add: an edit comes behind the others (of a manifest whose files are all synced). -/
namespace Go.Proofs.YtmmkgopnccfiiaaGreatDoor
set_option linter.unusedVariables false
open Go.RowKit Go.Maps
/-- Its version is written. -/
theorem ManAt.setV {B : Nat} {w : World} {b mb : Nat} {ρ : Nat → Option Role} {S : Fs} {M : Man} {V V' : Ver} (h : ManAt B w b mb ρ S M V) {tv : Value} {n0 : Int} (hV : VerP B w tv n0 V') (ho : ∀ k, tv.ownBlock = some k → ρ k = none) :
    ManTo B w b mb ρ ((((w.setCell ⟨mb, 3, none⟩ tv).setCell ⟨mb, 4, none⟩ (.int .i64 n0)).setCell ⟨mb, 5, none⟩ (.int .i64 V'.lg)).setCell ⟨mb, 6, none⟩ (.int .i64 V'.ls)) S M V' := by
  obtain ⟨tv0, m0, h1, -, -⟩ := h.blk
  have u : UpdF (fun k => k = mb) w ((((w.setCell ⟨mb, 3, none⟩ tv).setCell ⟨mb, 4, none⟩ (.int .i64 n0)).setCell ⟨mb, 5, none⟩ (.int .i64 V'.lg)).setCell ⟨mb, 6, none⟩ (.int .i64 V'.ls)) :=
    ((((UpdF.refl (fun k => k = mb) w).set mb 3 _ rfl).set mb 4 _ rfl).set mb 5 _ rfl).set mb 6 _ rfl
  exact ⟨ρ, ⟨h.fs.upd u fun k hk => by rw [hk]; exact h.out, h.out, tv, n0, (((h1.set (o := 3) tv).set (o := 4) (.int .i64 n0)).set (o := 5) (.int .i64 V'.lg)).set (o := 6) (.int .i64 V'.ls), hV.aside u h1 (by decide), ho⟩, u.mono fun k _ e => .inr e, fun k hk => .inl hk⟩
theorem out_to {w : World} {ρ ρ' : Nat → Option Role} {mb : Nat} {k : Nat} (h : ρ k = none) (hk : k < w.heap.size) (hm : k ≠ mb) (t : ∀ k, ManP ρ' mb k → ManP ρ mb k ∨ w.heap.size ≤ k) : ρ' k = none := by
  cases e : ρ' k with
  | none => rfl
  | some r =>
    rcases t k (.inl (by rw [e]; simp)) with (f | f) | f
    · exact absurd h f
    · exact absurd f hm
    · omega
/-- What add answers. -/
def AddTo (B : Nat) (w : World) (b mb : Nat) (ρ : Nat → Option Role) (M : Man) (n : Nat) (V V' : Ver) (R : Int × Fs) (e : Ending) (w' : World) : Prop :=
  e = .returned (.int .i64 R.1) ∧ ((R.1 = 0 ∧ ManTo B w b mb ρ w' R.2 { M with size := M.size + n } V') ∨ (R.1 ≠ 0 ∧ ∃ s, ManTo B w b mb ρ w' R.2 { M with size := s } V))
set_option maxHeartbeats 8000000 in
set_option maxRecDepth 100000 in
theorem madd_any {B : Nat} {w0 : World} (hG0 : GlobM w0) {w : World} (h0 : Below w0.heap.size w0 w) {b mb : Nat} {ρ : Nat → Option Role} {S : Fs} {M : Man} {V V' : Ver} (h : ManAt B w b mb ρ S M V) (hu : M.num ≤ 1125899906842624) (hH : HighP w0 ρ mb) (hlo : M.loose = false) (hsz : M.size ≤ 1000000000)
    (v : Value) (x : Edt) (hx : EdAt w v x) (hok : x.ok) (hm : mayE x) (tv : Value) (n0 : Int) (hV : VerP B w tv n0 V') (hto : ∀ k, tv.ownBlock = some k → ρ k = none) (bs : List UInt8) (hbs : bs = layB smN M.size (edtB x)) :
    Calls Tryz.prog 29 #[.pointer (some ⟨mb, 0, none⟩), v, .agg #[tv, .int .i64 n0, .int .i64 V'.lg, .int .i64 V'.ls]] w (AddTo B w b mb ρ M bs.length V V' (addF S M.num bs)) := by
  have hmn := (manN_len hu).2
  have hbl : bs.length ≤ 7000000 := by rw [hbs]; exact whole_any smN_len hm _
  have hel := edtB_any hm
  obtain ⟨R1, h1⟩ : ∃ R, S.append (manN M.num) bs = R := ⟨_, rfl⟩
  obtain ⟨R2, h2⟩ : ∃ R, R1.2.sync (manN M.num) = R := ⟨_, rfl⟩
  have hL : addF S M.num bs = if R1.1 = 0 then R2 else R1 := by
    unfold addF thenF
    rw [h1]
    simp only [h2]
  rw [hL]
  clear hL
  obtain ⟨G, hG⟩ : ∃ G, (if R1.1 = 0 then R2 else R1) = G := ⟨_, rfl⟩
  rw [hG]
  have HEN : Hid (∀ W, Below w.heap.size w W → Calls Tryz.prog 50 #[v] W fun e w' => ∃ y, e = .returned (.tuple #[y, .int .i64 0]) ∧ OwnB W.heap.size w' y (edtB x) ∧ Below W.heap.size W w') := Lib.hid fun W hW => by
    refine (edEncode_any v x hok W (hx.below hW)).mono ?_
    rintro e w' ⟨y, rfl, k1, -, k2⟩
    exact ⟨y, by rw [show chkE x = 0 from if_pos hm], k1 hm, k2⟩
  have HST : Hid (∀ W, Below w.heap.size w W → Calls Tryz.prog 40 #[.pointer (some ⟨mb, 0, none⟩)] W fun e w' => e = .returned (.int .i64 0) ∧ w' = W) := Lib.hid fun W hW => settle_no (h.below hW) hlo
  have HRA : Hid (∀ y W, Below w.heap.size w W → RdB W y (edtB x) → Calls Tryz.prog 52 #[.int .i64 (M.size : Int), y] W (MkB bs W)) := Lib.hid fun y W hW hv => by
    have := rcAppend_any M.size (by omega) y _ (by omega) W ((hG0.below h0).1.below hW) hv
    rwa [← hbs] at this
  have HNM : Hid (∀ W, Below w0.heap.size w0 W → Calls Tryz.prog 38 #[.int .i64 (M.num : Int)] W fun e w' => e = .returned (.string (manN M.num)) ∧ Below W.heap.size W w') := Lib.hid fun W hW => manName_any M.num (by omega) W (hG0.below hW).2
  have HAP : Hid (∀ y W, Below w.heap.size w W → RdB W y bs → (∀ k, y.ownBlock = some k → w.heap.size ≤ k) → Calls Tryz.prog 60 #[.pointer (some ⟨b, 0, none⟩), .string (manN M.num), y] W (OpAt W b ρ R1)) := Lib.hid fun y W hW hy hk => by
    have := append_any W b ρ S (h.fs.below hW) (manN M.num) (by unfold maxLen; omega) y bs hy (fun k e => by
      cases hr : ρ k with
      | none => rfl
      | some r => have := h.top k (.inl (by rw [hr]; simp)); have := hk k e; omega) (by omega)
    rwa [h1] at this
  have HSY : Hid (∀ ρ1 W, FsAt W b ρ1 R1.2 → Calls Tryz.prog 61 #[.pointer (some ⟨b, 0, none⟩), .string (manN M.num)] W (OpAt W b ρ1 R2)) := Lib.hid fun ρ1 W t1 => by
    have := sync_any W b ρ1 R1.2 t1 (manN M.num) (by unfold maxLen; omega)
    rwa [h2] at this
  have HG := Lib.hid hG.symm
  have HM := Lib.hid h
  have HV := Lib.hid hV
  have HTO := Lib.hid hto
  have HHI := Lib.hid hH
  have H0 := Lib.hid h0
  have hms : (M.size : Int) ≤ 1000000000 := by omega
  have hms0 : (0 : Int) ≤ (M.size : Int) := by omega
  obtain ⟨c1, S1⟩ := R1
  obtain ⟨c2, S2⟩ := R2
  dsimp only at *
  unfold OpAt at HAP HSY
  dsimp only at HAP HSY
  obtain ⟨va, vd, rfl, ha, hd⟩ := hx
  obtain ⟨aA, cA, rfl, -⟩ := edFl_len ha
  obtain ⟨aD, cD, rfl⟩ := edInts_len hd
  obtain ⟨aT, cT, rfl⟩ := fil_form hV.row
  generalize x.adds.length = nA at *
  generalize x.dels.length = nD at *
  generalize V'.fs.length = nT at *
  obtain ⟨wa, hwa⟩ : ∃ wa, w.alloc (.cells #[.int .i64 x.nxt, .int .i64 x.lg, .int .i64 x.lst, .slice aA nA cA, .slice aD nD cD] 32) = wa := ⟨_, rfl⟩
  have hba : Below w.heap.size w wa := by rw [← hwa]; exact (Below.refl _ w).alloc (Nat.le_refl _) _
  obtain ⟨wb, hwb⟩ : ∃ wb, wa.alloc (.cells #[.slice aT nT cT, .int .i64 n0, .int .i64 V'.lg, .int .i64 V'.ls] 56) = wb := ⟨_, rfl⟩
  have hbb : Below w.heap.size w wb := hba.trans ((by rw [← hwb]; exact (Below.refl _ wa).alloc (Nat.le_refl _) _ : Below wa.heap.size wa wb).mono hba.size)
  have hxa : BlkAt wa w.heap.size #[.int .i64 x.nxt, .int .i64 x.lg, .int .i64 x.lst, .slice aA nA cA, .slice aD nD cD] 32 := by rw [← hwa]; exact BlkAt.new _ _ _
  have hxb : BlkAt wb w.heap.size #[.int .i64 x.nxt, .int .i64 x.lg, .int .i64 x.lst, .slice aA nA cA, .slice aD nD cD] 32 := by rw [← hwb]; exact hxa.more _
  have hyb : BlkAt wb wa.heap.size #[.slice aT nT cT, .int .i64 n0, .int .i64 V'.lg, .int .i64 V'.ls] 56 := by rw [← hwb]; exact BlkAt.new _ _ _
  obtain ⟨g2, hg2⟩ : ∃ g2, wa.heap.size = g2 := ⟨_, rfl⟩
  have HG2 : Hid (w.heap.size ≤ g2) := Lib.hid (by rw [← hg2]; exact hba.size)
  rw [hg2] at hyb
  have HB := Lib.hid hbb
  have HY := Lib.hid hyb
  obtain ⟨x0, x1, x2, x3, x4⟩ := cell5_of hxb
  have hwd : ∀ o, w.alloc o = wa → True := fun _ _ => trivial
  clear h h1 h2 hG hV hto hH h0 hG0 hok ha hd hu hlo hsz hmn hba hbb hxa hxb hyb hbs hel hwd hm
  go_enter Tryz.func29, Tryz.ntmps29
  go_wp2_with fail
  clear hwa hwb hg2 x0 x1 x2 x3 x4
  refine (HEN.out wb HB.out).mono ?_
  rintro e w1 ⟨y, rfl, hy, hb⟩
  have HB1 := Lib.hid (HB.out.trans (hb.mono HB.out.size))
  have HY1 := Lib.hid (HY.out.below hb)
  have HR1 := Lib.hid hy.rd
  obtain ⟨ay, ny, cy, rfl, -⟩ := hy.form
  have HS1 := Lib.hid (HST.out w1 HB1.out)
  clear hy hb HB HY HEN HST
  go_wp2_with fail
  refine HS1.out.mono ?_
  rintro e wS ⟨rfl, rfl⟩
  obtain ⟨tv0, m0, hcc⟩ := (HM.out.below HB1.out).pl
  have c2 := hcc.c2
  have HA1 := Lib.hid (HRA.out _ wS HB1.out HR1.out)
  clear hcc HS1 HRA
  go_wp2_with fail
  refine HA1.out.mono ?_
  rintro e w2 ⟨z, rfl, hz, hb⟩
  have HB2 := Lib.hid (HB1.out.trans (hb.mono HB1.out.size))
  have HY2 := Lib.hid (HY1.out.below hb)
  obtain ⟨az, nz, cz, rfl, hnz, -⟩ := hz.form
  have HNZ := Lib.hid hnz
  have HZ2 := Lib.hid hz.rd
  have HZK : Hid (∀ k, (Value.slice az nz cz).ownBlock = some k → w.heap.size ≤ k) := Lib.hid fun k hk => Nat.le_trans HB1.out.size (hz.where k hk).1
  have hnb : nz ≤ 7000000 := by omega
  clear hz hb hnz HA1 HB1 HY1 HR1 c2 tv0 m0
  obtain ⟨u, hue⟩ : ∃ u, M.num = u := ⟨_, rfl⟩
  rw [hue] at HNM HAP HSY
  have HUE := Lib.hid hue
  generalize manN u = NM at *
  clear hue
  obtain ⟨tv1, m1, hcc⟩ := (HM.out.below HB2.out).plU (W := w)
  have HC := Lib.hid hcc
  have HMN : Hid (∀ W, Below w2.heap.size w2 W → Calls Tryz.prog 38 #[.int .i64 (u : Int)] W fun e w' => e = .returned (.string NM) ∧ Below W.heap.size W w') := Lib.hid fun W hW => HNM.out W (H0.out.trans ((HB2.out.trans (hW.mono HB2.out.size)).mono H0.out.size))
  clear hcc
  go_upto_region 8 with fail
  refine wp_region_held_drew (S := UpdF (fun k => ρ k ≠ none) w2) (by kernel_rfl) (UpdF.refl _ w2).drew (fun hHeld => ?_)
  have HU := Lib.hid hHeld
  have HBw : Hid (Below w2.heap.size w2 w2.drew) := Lib.hid (Below.refl _ _).drew
  clear hHeld
  generalize w2.drew = wd at *
  refine takeYes (i := 0) (k := 32) (v := .pointer (some ⟨mb, 0, none⟩)) rfl (by kernel_rfl) (by kernel_rfl) (by kernel_rfl) (by kernel_rfl) (fun _ _ _ h => h) (by kernel_rfl) ?_ HU.out ?_
  · intro W hSw; first | (go_simp; done) | go_simp
  try simp only [Act.put, List.setIfInBounds_toArray, List.set_cons_zero, List.set_cons_succ]
  refine takeYes (i := 1) (k := 33) (v := .pointer (some ⟨mb, 0, none⟩)) rfl (by kernel_rfl) (by kernel_rfl) (by kernel_rfl) (by kernel_rfl) (fun _ _ _ h => h) (by kernel_rfl) ?_ HU.out ?_
  · intro W hSw; first | (go_simp; done) | go_simp
  try simp only [Act.put, List.setIfInBounds_toArray, List.set_cons_zero, List.set_cons_succ]
  refine takeYes (i := 2) (k := 34) (v := .pointer (some ⟨mb, 0, none⟩)) rfl (by kernel_rfl) (by kernel_rfl) (by kernel_rfl) (by kernel_rfl) (fun _ _ _ h => h) (by kernel_rfl) ?_ HU.out ?_
  · intro W hSw; first | (go_simp; done) | go_simp
  try simp only [Act.put, List.setIfInBounds_toArray, List.set_cons_zero, List.set_cons_succ]
  refine takeYes (i := 3) (k := 35) (v := .pointer (some ⟨b, 0, none⟩)) rfl (by kernel_rfl) (by kernel_rfl) (by kernel_rfl) (by kernel_rfl) (fun _ _ _ h => h) (by kernel_rfl) ?_ HU.out ?_
  · intro W hSw; have cc := (HC.out W hSw).c0; first | (go_simp; done) | go_simp
  try simp only [Act.put, List.setIfInBounds_toArray, List.set_cons_zero, List.set_cons_succ]
  refine takeYes (i := 4) (k := 36) (v := .pointer (some ⟨mb, 0, none⟩)) rfl (by kernel_rfl) (by kernel_rfl) (by kernel_rfl) (by kernel_rfl) (fun _ _ _ h => h) (by kernel_rfl) ?_ HU.out ?_
  · intro W hSw; first | (go_simp; done) | go_simp
  try simp only [Act.put, List.setIfInBounds_toArray, List.set_cons_zero, List.set_cons_succ]
  refine takeYes (i := 5) (k := 37) (v := .pointer (some ⟨mb, 0, none⟩)) rfl (by kernel_rfl) (by kernel_rfl) (by kernel_rfl) (by kernel_rfl) (fun _ _ _ h => h) (by kernel_rfl) ?_ HU.out ?_
  · intro W hSw; first | (go_simp; done) | go_simp
  try simp only [Act.put, List.setIfInBounds_toArray, List.set_cons_zero, List.set_cons_succ]
  refine takeYes (i := 6) (k := 38) (v := .pointer (some ⟨mb, 1, none⟩)) rfl (by kernel_rfl) (by kernel_rfl) (by kernel_rfl) (by kernel_rfl) (fun _ _ _ h => h) (by kernel_rfl) ?_ HU.out ?_
  · intro W hSw; first | (go_simp; done) | go_simp
  try simp only [Act.put, List.setIfInBounds_toArray, List.set_cons_zero, List.set_cons_succ]
  refine takeYes (i := 7) (k := 39) (v := .int .i64 (u : Int)) rfl (by kernel_rfl) (by kernel_rfl) (by kernel_rfl) (by kernel_rfl) (fun _ _ _ h => h) (by kernel_rfl) ?_ HU.out ?_
  · intro W hSw; have cc := (HC.out W hSw).c1; rw [HUE.out] at cc; first | (go_simp; done) | go_simp
  try simp only [Act.put, List.setIfInBounds_toArray, List.set_cons_zero, List.set_cons_succ]
  refine takeYes (i := 9) (k := 41) (v := .slice az nz cz) rfl (by kernel_rfl) (by kernel_rfl) (by kernel_rfl) (by kernel_rfl) (fun _ _ _ h => h) (by kernel_rfl) ?_ HU.out ?_
  · intro W hSw; first | (go_simp; done) | go_simp
  try simp only [Act.put, List.setIfInBounds_toArray, List.set_cons_zero, List.set_cons_succ]
  refine wpAnyH_ready (rs := [8]) (by kernel_rfl) (by simp) (AllReadyH.cons rfl (fun K hK => ?_) AllReadyH.nil)
  go_simp
  refine (HMN.out wd HBw.out).mono ?_
  rintro e w3 ⟨rfl, hbn⟩
  have HBn : Hid (Below w2.heap.size w2 w3) := Lib.hid (HBw.out.trans (hbn.mono HBw.out.size))
  refine hK.out _ _ (UpdF.of HBn.out) (fun _ => ?_)
  clear hK K hbn HBw HU
  have HU := Lib.hid (UpdF.of (F := fun k => ρ k ≠ none) HBn.out)
  try simp only []
  refine wpAnyH_ready (rs := [10]) (by kernel_rfl) (by simp) (AllReadyH.cons rfl (fun K hK => ?_) AllReadyH.nil)
  go_simp
  refine (HAP.out _ w3 (HB2.out.trans (HBn.out.mono HB2.out.size)) (HZ2.out.below HBn.out) HZK.out).mono ?_
  rintro e w4 ⟨rfl, ht⟩
  have HT := Lib.hid ht
  have hU2 : UpdF (fun k => ρ k ≠ none) w2 w4 := by obtain ⟨ρ2, t1, t2, t3⟩ := ht; exact (UpdF.of HBn.out).trans t2
  clear ht
  refine hK.out _ _ hU2 (fun _ => ?_)
  clear hK K HU
  have HU := Lib.hid hU2
  clear hU2
  try simp only []
  refine takeYes (i := 11) (k := 11) (v := .int .i64 c1) rfl (by kernel_rfl) (by kernel_rfl) (by kernel_rfl) (by kernel_rfl) (fun _ _ _ h => h) (by kernel_rfl) ?_ HU.out ?_
  · intro W hSw; first | (go_simp; done) | go_simp
  try simp only [Act.put, List.setIfInBounds_toArray, List.set_cons_zero, List.set_cons_succ]
  refine wpAnyH_done (by kernel_rfl) ?_ _
  obtain ⟨ρ1, t1, t2, t3⟩ := HT.out
  have hA4 := (HM.out.below (HB2.out.trans (HBn.out.mono HB2.out.size))).fsTo ⟨ρ1, t1, t2, t3⟩
  have HY4 := Lib.hid (show BlkAt w4 g2 #[.slice aT nT cT, .int .i64 n0, .int .i64 V'.lg, .int .i64 V'.ls] 56 from (t2.block g2 (Nat.lt_of_lt_of_le HY2.out.lt HBn.out.size) fun f => f (by
    cases e : ρ g2 with
    | none => rfl
    | some r => have := HM.out.top g2 (.inl (by rw [e]; simp)); have := HG2.out; omega)).trans (HY2.out.below HBn.out))
  have HR1 := Lib.hid (roles_none (w := w3) (ρ' := ρ1) (k := g2) (by
    cases e : ρ g2 with
    | none => rfl
    | some r => have := HM.out.top g2 (.inl (by rw [e]; simp)); have := HG2.out; omega) (Nat.lt_of_lt_of_le HY2.out.lt HBn.out.size) t3)
  have HP3 := Lib.hid (HB2.out.trans (HBn.out.mono HB2.out.size))
  obtain ⟨ρ1', k1, k2, k3⟩ := hA4
  have HMB : Hid (∃ vs, BlkAt w mb vs 65) := Lib.hid (by obtain ⟨tq, mq, hq, -⟩ := HM.out.blk; exact ⟨_, hq⟩)
  have HNT1 : Hid (∀ k, (Value.slice aT nT cT).ownBlock = some k → k ≠ mb) := Lib.hid fun k hk e => by
    obtain ⟨vs, hvs⟩ := HMB.out
    obtain ⟨-, cur, h2⟩ := HV.out.row.typed hk
    subst e
    unfold BlkAt at hvs
    rw [h2] at hvs
    have := Option.some.inj hvs
    injection this with _ h3 _
    exact absurd h3 (by decide)
  have HV4 : Hid (VerP B w4 (.slice aT nT cT) n0 V') := Lib.hid ((HV.out.below HP3.out).upd t2 fun k hk f => f (HTO.out k hk))
  have HTO4 : Hid (∀ k, (Value.slice aT nT cT).ownBlock = some k → ρ1' k = none) := Lib.hid fun k hk => out_to (w := w3) (HTO.out k hk) (Nat.lt_of_lt_of_le (row_lt HV.out.row k hk) HP3.out.size) (HNT1.out k hk) k3
  have HK1 := Lib.hid k1
  have HK2 := Lib.hid (And.intro k2 k3)
  have HR1' : Hid (ρ1' g2 = none) := Lib.hid (out_to (w := w3) (by
    cases e : ρ g2 with
    | none => rfl
    | some r => have := HM.out.top g2 (.inl (by rw [e]; simp)); have := HG2.out; omega) (Nat.lt_of_lt_of_le HY2.out.lt HBn.out.size) (fun e => by have := HM.out.lt; have := HG2.out; omega) k3)
  have HG2M : Hid (g2 ≠ mb) := Lib.hid fun e => by have := HM.out.lt; have := HG2.out; omega
  have HH1 : Hid (HighP w0 ρ1' mb ∧ Below w0.heap.size w0 w4) := Lib.hid ⟨HHI.out.to (H0.out.trans (HP3.out.mono H0.out.size)) k3, HHI.out.blw (H0.out.trans (HP3.out.mono H0.out.size)) k2⟩
  obtain ⟨tq, mq, hq⟩ := k1.pl
  have c2 := hq.c2
  have f2 := hq.free 2
  clear hq tq mq k1 k2 k3 t1 t2 t3 HR1 HT HU HC HMN HAP HBn HB2 HY2 HZ2 HZK HMB hbl HTO HV ρ1 tv1 m1
  by_cases hc1 : c1 = 0
  rotate_left
  · have d1 : (c1 != 0) = true := by rw [bne_iff_ne]; exact hc1
    obtain rfl : G = (c1, S1) := by have := HG.out; simpa [hc1] using this
    have HNC := Lib.hid hc1
    clear hc1
    go_wp2_with fail
    go_ret
    exact ⟨rfl, .inr ⟨HNC.out, M.size, ManTo.pre HP3.out (ManTo.then HK2.out.1 HK2.out.2 (HK1.out.to (Below.refl _ _)))⟩⟩
  subst hc1
  have HW5 := Lib.hid (HK1.out.setAt (M' := { M with size := M.size + nz }) 2 (.int .i64 ((M.size : Int) + (nz : Int))) fun tv n0 => rfl)
  have HY5 := Lib.hid (show BlkAt (w4.setCell ⟨mb, 2, none⟩ (.int .i64 ((M.size : Int) + (nz : Int)))) g2 #[.slice aT nT cT, .int .i64 n0, .int .i64 V'.lg, .int .i64 V'.ls] 56 from HY4.out.other _ HG2M.out)
  go_upto_region 12 with fail
  clear c2 f2
  generalize w4.setCell ⟨mb, 2, none⟩ (.int .i64 ((M.size : Int) + (nz : Int))) = w5 at *
  obtain ⟨tv1, m1, hcc⟩ := HW5.out.1.plU (W := w5)
  have HC := Lib.hid hcc
  have HB5 : Hid (Below w0.heap.size w0 w5) := Lib.hid (HH1.out.2.trans (HW5.out.2.below HH1.out.2.size fun k hk e => by subst e; have := HHI.out _ (.inr rfl); omega))
  have HMN : Hid (∀ W, Below w5.heap.size w5 W → Calls Tryz.prog 38 #[.int .i64 (u : Int)] W fun e w' => e = .returned (.string NM) ∧ Below W.heap.size W w') := Lib.hid fun W hW => HNM.out W (HB5.out.trans (hW.mono HB5.out.size))
  clear hcc HNM
  refine wp_region_held_drew (S := UpdF (fun k => ρ1' k ≠ none) w5) (by kernel_rfl) (UpdF.refl _ w5).drew (fun hHeld => ?_)
  have HU := Lib.hid hHeld
  have HBw : Hid (Below w5.heap.size w5 w5.drew) := Lib.hid (Below.refl _ _).drew
  clear hHeld
  generalize w5.drew = wd at *
  refine takeYes (i := 0) (k := 55) (v := .pointer (some ⟨mb, 0, none⟩)) rfl (by kernel_rfl) (by kernel_rfl) (by kernel_rfl) (by kernel_rfl) (fun _ _ _ h => h) (by kernel_rfl) ?_ HU.out ?_
  · intro W hSw; first | (go_simp; done) | go_simp
  try simp only [Act.put, List.setIfInBounds_toArray, List.set_cons_zero, List.set_cons_succ]
  refine takeYes (i := 1) (k := 56) (v := .pointer (some ⟨mb, 0, none⟩)) rfl (by kernel_rfl) (by kernel_rfl) (by kernel_rfl) (by kernel_rfl) (fun _ _ _ h => h) (by kernel_rfl) ?_ HU.out ?_
  · intro W hSw; first | (go_simp; done) | go_simp
  try simp only [Act.put, List.setIfInBounds_toArray, List.set_cons_zero, List.set_cons_succ]
  refine takeYes (i := 2) (k := 57) (v := .pointer (some ⟨mb, 0, none⟩)) rfl (by kernel_rfl) (by kernel_rfl) (by kernel_rfl) (by kernel_rfl) (fun _ _ _ h => h) (by kernel_rfl) ?_ HU.out ?_
  · intro W hSw; first | (go_simp; done) | go_simp
  try simp only [Act.put, List.setIfInBounds_toArray, List.set_cons_zero, List.set_cons_succ]
  refine takeYes (i := 3) (k := 58) (v := .pointer (some ⟨b, 0, none⟩)) rfl (by kernel_rfl) (by kernel_rfl) (by kernel_rfl) (by kernel_rfl) (fun _ _ _ h => h) (by kernel_rfl) ?_ HU.out ?_
  · intro W hSw; have cc := (HC.out W hSw).c0; first | (go_simp; done) | go_simp
  try simp only [Act.put, List.setIfInBounds_toArray, List.set_cons_zero, List.set_cons_succ]
  refine takeYes (i := 4) (k := 59) (v := .pointer (some ⟨mb, 0, none⟩)) rfl (by kernel_rfl) (by kernel_rfl) (by kernel_rfl) (by kernel_rfl) (fun _ _ _ h => h) (by kernel_rfl) ?_ HU.out ?_
  · intro W hSw; first | (go_simp; done) | go_simp
  try simp only [Act.put, List.setIfInBounds_toArray, List.set_cons_zero, List.set_cons_succ]
  refine takeYes (i := 5) (k := 60) (v := .pointer (some ⟨mb, 0, none⟩)) rfl (by kernel_rfl) (by kernel_rfl) (by kernel_rfl) (by kernel_rfl) (fun _ _ _ h => h) (by kernel_rfl) ?_ HU.out ?_
  · intro W hSw; first | (go_simp; done) | go_simp
  try simp only [Act.put, List.setIfInBounds_toArray, List.set_cons_zero, List.set_cons_succ]
  refine takeYes (i := 6) (k := 61) (v := .pointer (some ⟨mb, 1, none⟩)) rfl (by kernel_rfl) (by kernel_rfl) (by kernel_rfl) (by kernel_rfl) (fun _ _ _ h => h) (by kernel_rfl) ?_ HU.out ?_
  · intro W hSw; first | (go_simp; done) | go_simp
  try simp only [Act.put, List.setIfInBounds_toArray, List.set_cons_zero, List.set_cons_succ]
  refine takeYes (i := 7) (k := 62) (v := .int .i64 (u : Int)) rfl (by kernel_rfl) (by kernel_rfl) (by kernel_rfl) (by kernel_rfl) (fun _ _ _ h => h) (by kernel_rfl) ?_ HU.out ?_
  · intro W hSw; have cc := (HC.out W hSw).c1; dsimp only at cc; rw [HUE.out] at cc; first | (go_simp; done) | go_simp
  try simp only [Act.put, List.setIfInBounds_toArray, List.set_cons_zero, List.set_cons_succ]
  refine wpAnyH_ready (rs := [8]) (by kernel_rfl) (by simp) (AllReadyH.cons rfl (fun K hK => ?_) AllReadyH.nil)
  go_simp
  refine (HMN.out wd HBw.out).mono ?_
  rintro e w6 ⟨rfl, hbn⟩
  have HBn : Hid (Below w5.heap.size w5 w6) := Lib.hid (HBw.out.trans (hbn.mono HBw.out.size))
  refine hK.out _ _ (UpdF.of HBn.out) (fun _ => ?_)
  clear hK K hbn HBw HU
  have HU := Lib.hid (UpdF.of (F := fun k => ρ1' k ≠ none) HBn.out)
  try simp only []
  refine wpAnyH_ready (rs := [9]) (by kernel_rfl) (by simp) (AllReadyH.cons rfl (fun K hK => ?_) AllReadyH.nil)
  go_simp
  refine (HSY.out ρ1' w6 (HW5.out.1.fs.below HBn.out)).mono ?_
  rintro e w7 ⟨rfl, ht⟩
  have HT := Lib.hid ht
  have hU2 : UpdF (fun k => ρ1' k ≠ none) w5 w7 := by obtain ⟨ρ2, t1, t2, t3⟩ := ht; exact (UpdF.of HBn.out).trans t2
  clear ht
  refine hK.out _ _ hU2 (fun _ => ?_)
  clear hK K HU
  have HU := Lib.hid hU2
  clear hU2
  try simp only []
  refine takeYes (i := 10) (k := 12) (v := .int .i64 c2) rfl (by kernel_rfl) (by kernel_rfl) (by kernel_rfl) (by kernel_rfl) (fun _ _ _ h => h) (by kernel_rfl) ?_ HU.out ?_
  · intro W hSw; first | (go_simp; done) | go_simp
  try simp only [Act.put, List.setIfInBounds_toArray, List.set_cons_zero, List.set_cons_succ]
  refine wpAnyH_done (by kernel_rfl) ?_ _
  have hA7 := (HW5.out.1.below HBn.out).fsTo HT.out
  obtain ⟨ρ2, k1, k2, k3⟩ := hA7
  have HF2 : Hid (∀ k, ManP ρ2 mb k → ManP ρ mb k ∨ w3.heap.size ≤ k) := Lib.hid fun k hk => by
    rcases k3 k hk with f | f
    · exact HK2.out.2 k f
    · have h1 := HK2.out.1.size; have h2 := HW5.out.2.size; have h3 := HBn.out.size; exact .inr (by omega)
  have HU2 : Hid (UpdF (ManP ρ mb) w3 w7) := Lib.hid (((HK2.out.1.then (HW5.out.2.mono fun k _ e => Or.inr e) HK2.out.2).trans (UpdF.of HBn.out)).then k2 HK2.out.2)
  have HK3 := Lib.hid k1
  by_cases hc2 : c2 = 0
  rotate_left
  · have d1 : (c2 != 0) = true := by rw [bne_iff_ne]; exact hc2
    obtain rfl : G = (c2, S2) := by have := HG.out; simpa using this
    have HNC := Lib.hid hc2
    clear hc2 k1 k2 k3 HT HU HC HMN
    go_wp2_with fail
    go_ret
    exact ⟨rfl, .inr ⟨HNC.out, M.size + nz, ManTo.pre HP3.out ⟨ρ2, HK3.out, HU2.out, HF2.out⟩⟩⟩
  subst hc2
  obtain rfl : G = (0, S2) := by have := HG.out; simpa using this
  have HY7 := (show BlkAt w7 g2 #[.slice aT nT cT, .int .i64 n0, .int .i64 V'.lg, .int .i64 V'.ls] 56 from (k2.block g2 (Nat.lt_of_lt_of_le HY5.out.lt HBn.out.size) fun f => by
    rcases f with f | f
    · exact f HR1'.out
    · exact HG2M.out f).trans (HY5.out.below HBn.out))
  have hV5 : VerP B w6 (.slice aT nT cT) n0 V' := ((HV4.out.upd HW5.out.2 fun k hk e => HNT1.out k hk e).below HBn.out)
  have hV7 : VerP B w7 (.slice aT nT cT) n0 V' := hV5.upd k2 fun k hk f => by
    rcases f with f | f
    · exact f (HTO4.out k hk)
    · exact HNT1.out k hk f
  have hTO7 : ∀ k, (Value.slice aT nT cT).ownBlock = some k → ρ2 k = none := fun k hk => out_to (HTO4.out k hk) (row_lt hV5.row k hk) (HNT1.out k hk) k3
  have HFIN := Lib.hid (k1.setV hV7 hTO7)
  obtain ⟨z0, z1, z2, z3⟩ := cell4_of HY7
  obtain ⟨tq, mq, hq⟩ := k1.pl
  have c3 := hq.c3
  have c4 := hq.c4
  have c5 := hq.c5
  have c6 := hq.c6
  have f3 := hq.free 3
  have f4 := hq.free 4
  have f5 := hq.free 5
  have f6 := hq.free 6
  have hnz := HNZ.out
  subst hnz
  clear hq k1 k2 k3 HT HU HC HMN HY7 hV5 hV7 hTO7
  go_wp2_with fail
  go_ret
  exact ⟨rfl, .inl ⟨rfl, ManTo.pre HP3.out (ManTo.then HU2.out HF2.out HFIN.out)⟩⟩
end Go.Proofs.YtmmkgopnccfiiaaGreatDoor
/- manifest.turn: over to a new manifest; the old one goes (of a manifest whose files are all synced). -/
namespace Go.Proofs.YtmmkgopnccfiiaaGreatDoor
set_option linter.unusedVariables false
open Go.RowKit Go.Maps
end Go.Proofs.YtmmkgopnccfiiaaGreatDoor
/- manifest: Commit and Rewrite (of a manifest whose end is whole and whose files are all synced). -/
namespace Go.Proofs.YtmmkgopnccfiiaaGreatDoor
set_option linter.unusedVariables false
open Go.RowKit Go.Maps
/-- What Commit answers. -/
def ComTo (B : Nat) (w : World) (b mb : Nat) (ρ : Nat → Option Role) (S : Fs) (M : Man) (V : Ver) (x : Edt) (bs : List UInt8) (e : Ending) (w' : World) : Prop :=
  (applyV V x = none ∧ e = .returned (.int .i64 12) ∧ ManTo B w b mb ρ w' S M V) ∨
  (∃ n V', applyV V x = some n ∧ vSame n V' ∧ e = .returned (.int .i64 (addF S M.num bs).1) ∧ (((addF S M.num bs).1 = 0 ∧ ManTo B w b mb ρ w' (addF S M.num bs).2 { M with size := M.size + bs.length } V') ∨ ((addF S M.num bs).1 ≠ 0 ∧ ∃ s, ManTo B w b mb ρ w' (addF S M.num bs).2 { M with size := s, closed := true } V)))
theorem ManAt.out_new {B : Nat} {w : World} {b mb : Nat} {ρ : Nat → Option Role} {S : Fs} {M : Man} {V : Ver} (h : ManAt B w b mb ρ S M V) {k : Nat} (hk : w.heap.size ≤ k) : ρ k = none := by
  cases e : ρ k with
  | none => rfl
  | some r => have := h.top k (.inl (by rw [e]; simp)); omega
set_option maxHeartbeats 8000000 in
set_option maxRecDepth 100000 in
theorem mcommit_any {B : Nat} {w0 : World} (hG0 : GlobM w0) {w : World} (h0 : Below w0.heap.size w0 w) {b mb : Nat} {ρ : Nat → Option Role} {S : Fs} {M : Man} {V : Ver} (h : ManAt B w b mb ρ S M V) (hB : B ≤ w.heap.size) (hu : M.num ≤ 1125899906842624) (hH : HighP w0 ρ mb) (hlo : M.loose = false) (hto : M.torn = false) (hcl : M.closed = false) (hsz : M.size ≤ 1000000000)
    (v : Value) (x : Edt) (hx : EdAt w v x) (hok : x.ok) (bs : List UInt8) (hbs : bs = layB smN M.size (edtB x)) :
    Calls Tryz.prog 9 #[.pointer (some ⟨mb, 0, none⟩), v] w (ComTo B w b mb ρ S M V x bs) := by
  have HX := Lib.hid hx
  have HM := Lib.hid h
  have HBB := Lib.hid hB
  have HOK := Lib.hid hok
  have HMC : Hid (∀ W, Below w.heap.size w W → Calls Tryz.prog 25 #[.pointer (some ⟨mb, 0, none⟩)] W fun e w' => e = .returned (.int .i64 0) ∧ w' = W) := Lib.hid fun W hW => by
    have := mayc_any (h.below hW)
    unfold mayM at this
    rwa [hcl, if_neg (by simp)] at this
  have HAD : Hid (mayE x → ∀ (W : World) (tv : Value) (n0 : Int) (V' : Ver), Below w.heap.size w W → VerP B W tv n0 V' → (∀ k, tv.ownBlock = some k → w.heap.size ≤ k) → Calls Tryz.prog 29 #[.pointer (some ⟨mb, 0, none⟩), v, .agg #[tv, .int .i64 n0, .int .i64 V'.lg, .int .i64 V'.ls]] W (AddTo B W b mb ρ M bs.length V V' (addF S M.num bs))) := Lib.hid fun hm W tv n0 V' hW hV hk =>
    madd_any hG0 (h0.trans (hW.mono h0.size)) (h.below hW) hu hH hlo hsz v x (hx.below hW) hok hm tv n0 hV (fun k e => h.out_new (hk k e)) bs hbs
  have HTC : Hid (M.torn = false ∧ M.closed = false) := Lib.hid ⟨hto, hcl⟩
  obtain ⟨va, vd, rfl, ha, hd⟩ := hx
  obtain ⟨aA, cA, rfl, -⟩ := edFl_len ha
  obtain ⟨aD, cD, rfl⟩ := edInts_len hd
  obtain ⟨tv, n0, hq1, hq2, -⟩ := h.blk
  obtain ⟨aT, cT, rfl⟩ := fil_form hq2.row
  have HQ := Lib.hid hq2
  generalize x.adds.length = nA at *
  generalize x.dels.length = nD at *
  obtain ⟨nT, hnT⟩ : ∃ nT, V.fs.length = nT := ⟨_, rfl⟩
  rw [hnT] at HQ hq1
  clear hnT
  obtain ⟨wa, hwa⟩ : ∃ wa, w.alloc (.cells #[.int .i64 x.nxt, .int .i64 x.lg, .int .i64 x.lst, .slice aA nA cA, .slice aD nD cD] 32) = wa := ⟨_, rfl⟩
  have hba : Below w.heap.size w wa := by rw [← hwa]; exact (Below.refl _ w).alloc (Nat.le_refl _) _
  obtain ⟨wb, hwb⟩ : ∃ wb, wa.alloc (.cells #[.slice aT nT cT, .int .i64 n0, .int .i64 V.lg, .int .i64 V.ls] 56) = wb := ⟨_, rfl⟩
  have hbab : Below wa.heap.size wa wb := by rw [← hwb]; exact (Below.refl _ wa).alloc (Nat.le_refl _) _
  have hbb : Below w.heap.size w wb := hba.trans (hbab.mono hba.size)
  have hxa : BlkAt wa w.heap.size #[.int .i64 x.nxt, .int .i64 x.lg, .int .i64 x.lst, .slice aA nA cA, .slice aD nD cD] 32 := by rw [← hwa]; exact BlkAt.new _ _ _
  have hxb := hxa.below hbab
  have hyb : BlkAt wb wa.heap.size #[.slice aT nT cT, .int .i64 n0, .int .i64 V.lg, .int .i64 V.ls] 56 := by rw [← hwb]; exact BlkAt.new _ _ _
  obtain ⟨g1, hg1⟩ : ∃ g1, w.heap.size = g1 := ⟨_, rfl⟩
  obtain ⟨g2, hg2⟩ : ∃ g2, wa.heap.size = g2 := ⟨_, rfl⟩
  rw [hg2] at hyb
  rw [hg1] at hxa hxb
  have HLT : Hid (w.heap.size = g1 ∧ g1 < g2 ∧ g2 < wb.heap.size) := Lib.hid ⟨hg1, by rw [← hg2]; exact hxa.lt, hyb.lt⟩
  have HB := Lib.hid hbb
  have HXB := Lib.hid hxb
  have HA := Lib.hid hba
  have HVA : Hid (VerAt B wb g2 V) := Lib.hid ((HQ.out.below hbb).at hyb)
  have HMA := Lib.hid (HMC.out wa hba)
  obtain ⟨x0, x1, x2, x3, x4⟩ := cell5_of hxb
  obtain ⟨-, -, -, c3, c4, c5, c6, -, -, -, -⟩ := man_cells (hq1.below hba)
  have HAP := Lib.hid (vapply_new HVA.out (Nat.le_trans HBB.out HB.out.size) _ x (HX.out.below HB.out) HOK.out)
  clear h hB hok hG0 h0 hu hH hlo hto hcl hsz hbs ha hd hq1 hq2 hba hbab hbb hxa hxb hyb HMC
  go_enter Tryz.func9, Tryz.ntmps9
  go_wp2_with fail
  clear hwa
  refine HMA.out.mono ?_
  rintro e wS ⟨rfl, rfl⟩
  clear HMA
  go_wp2_with fail
  clear hwb hg2 c3 c4 c5 c6 x0 x1 x2 x3 x4 hg1
  refine HAP.out.mono ?_
  rintro e w3 ⟨c, V', rfl, hv, hu3, hn, hs⟩
  have HB3 : Hid (Below w.heap.size w w3) := Lib.hid (HB.out.trans (hu3.below HB.out.size fun k hk e => by have := HLT.out; omega))
  cases hap : applyV V x with
  | none =>
    obtain ⟨rfl, rfl⟩ := hn hap
    have HNO := Lib.hid hap
    clear hn hs hap hv hu3 HAP HAD
    go_wp2_with fail
    go_ret
    exact .inl ⟨HNO.out, rfl, HM.out.to HB3.out⟩
  | some n =>
  obtain ⟨rfl, hsm, hvn⟩ := hs n hap
  have HSM := Lib.hid (And.intro hap hsm)
  have HX3 := Lib.hid (show BlkAt w3 g1 #[.int .i64 x.nxt, .int .i64 x.lg, .int .i64 x.lst, .slice aA nA cA, .slice aD nD cD] 32 from (hu3.block g1 HXB.out.lt fun e => by have := HLT.out; omega).trans HXB.out)
  obtain ⟨tv3, n3, hb3, hp3⟩ := hvn.p
  have HAD3 := Lib.hid (HAD.out (applyV_parts hap).1 w3 tv3 n3 V' HB3.out (hp3.base (Nat.le_trans HBB.out HB.out.size)) fun k hk => by
    rcases hp3.row.blk with ⟨e, -⟩ | ⟨g', cap, cur, e, e2, -⟩
    · rw [e] at hk; simp [Value.ownBlock] at hk
    · rw [e] at hk; simp only [Value.ownBlock, Option.some.injEq] at hk; have := HB.out.size; omega)
  obtain ⟨a3, c3, rfl⟩ := fil_form hp3.row
  obtain ⟨nV, hnV⟩ : ∃ nV, V'.fs.length = nV := ⟨_, rfl⟩
  rw [hnV] at hb3 HAD3
  obtain ⟨y0, y1, y2, y3⟩ := cell4_of hb3
  obtain ⟨x0, x1, x2, x3, x4⟩ := cell5_of HX3.out
  obtain ⟨tq, mq, hq⟩ := (HM.out.below HB3.out).pl
  have c7 := hq.c7
  rw [HTC.out.1] at c7
  clear hn hs hap hv hu3 hsm hvn hb3 hp3 hnV hq HAP HAD HX3 HXB HVA
  go_wp2_with fail
  refine HAD3.out.mono ?_
  rintro e w4 ⟨rfl, hor⟩
  clear x0 x1 x2 x3 x4 y0 y1 y2 y3 c7 HAD3
  rcases hor with ⟨hc, hm⟩ | ⟨hc, sz, hm⟩
  · rw [hc]
    obtain ⟨ρ', k1, k2, k3⟩ := hm
    have HD := Lib.hid (done_any k1 0)
    have HK := Lib.hid (And.intro k2 k3)
    have HC := Lib.hid hc
    clear hc k1 k2 k3
    go_wp2_with fail
    refine HD.out.mono ?_
    rintro e w5 ⟨rfl, hd⟩
    have hME : ({ { M with size := M.size + bs.length } with closed := decide ((0 : Int) ≠ 0) } : Man) = { M with size := M.size + bs.length } := by
      have := HTC.out.2
      cases M; simp_all
    rw [hME] at hd
    have HDD := Lib.hid hd
    clear hME hd HD
    go_wp2_with fail
    go_ret
    exact .inr ⟨n, V', HSM.out.1, HSM.out.2, by rw [HC.out]; rfl, .inl ⟨HC.out, ManTo.pre HB3.out (ManTo.then HK.out.1 HK.out.2 HDD.out)⟩⟩
  · obtain ⟨ρ', k1, k2, k3⟩ := hm
    obtain ⟨cc, hcc⟩ : ∃ cc, (addF S M.num bs).1 = cc := ⟨_, rfl⟩
    rw [hcc] at hc ⊢
    have HCE := Lib.hid hcc
    have HD := Lib.hid (done_any k1 cc)
    have HK := Lib.hid (And.intro k2 k3)
    have HC := Lib.hid hc
    clear hc k1 k2 k3 hcc
    go_wp2_with fail
    refine HD.out.mono ?_
    rintro e w5 ⟨rfl, hd⟩
    rw [decide_eq_true HC.out] at hd
    have HDD := Lib.hid hd
    clear hd HD
    go_wp2_with fail
    go_ret
    exact .inr ⟨n, V', HSM.out.1, HSM.out.2, by rw [HCE.out]; rfl, .inr ⟨by rw [HCE.out]; exact HC.out, sz, ManTo.pre HB3.out (ManTo.then HK.out.1 HK.out.2 HDD.out)⟩⟩
end Go.Proofs.YtmmkgopnccfiiaaGreatDoor
/- manifest.Create: the first manifest. -/
namespace Go.Proofs.YtmmkgopnccfiiaaGreatDoor
set_option linter.unusedVariables false
open Go.RowKit Go.Maps
/-- The version of a new manifest. -/
def verC : Ver := ⟨[], 2, 0, 0⟩
def logC : List UInt8 := layB smN 0 (edtB (wholeE verC))
theorem verC_is : applyV Ver.new ⟨2, 0, 0, [], []⟩ = some verC := applyV_bump new_good (by decide)
theorem verC_good : GoodV verC := bumpV_good new_good (by decide)
theorem same_none {V n : Ver} (h : vSame n V) (hn : n.fs = []) : V = n := by
  obtain ⟨h1, h2, h3, h4⟩ := h
  obtain ⟨fs, nx, lg, ls⟩ := V
  obtain ⟨gs, mx, mg, ms⟩ := n
  dsimp only at *
  subst hn h2 h3 h4
  rw [List.nil_perm.1 h1]
theorem BegTo.pre {B : Nat} {w w1 w' : World} {b : Nat} {ρ : Nat → Option Role} {u : Nat} {log : List UInt8} {V : Ver} {R : Int × Fs} {e : Ending} (hb : Below w.heap.size w w1) (h : BegTo B w1 b ρ u log V R e w') : BegTo B w b ρ u log V R e w' := by
  rcases h with ⟨h1, mb, ρ', h2, h3, h4, h5, h6⟩ | ⟨h1, h2, ρ', t1, t2, t3⟩
  · exact .inl ⟨h1, mb, ρ', h2, Nat.le_trans hb.size h3, h4, (UpdF.of hb).trans h5, fun k hk => by
      rcases h6 k hk with f | f
      · exact .inl f
      · have := hb.size; exact .inr (by omega)⟩
  · exact .inr ⟨h1, h2, ρ', t1, (UpdF.of hb).trans t2, fun k hk => by
      rcases t3 k hk with f | f
      · exact .inl f
      · have := hb.size; exact .inr (by omega)⟩
set_option maxHeartbeats 2000000 in
theorem mcreate_there (w : World) (b : Nat) (ρ : Nat → Option Role) (S : Fs) (h : FsAt w b ρ S) (bs : List UInt8) (hr : S.read curN = (bs, 0)) : Calls Tryz.prog 6 #[.pointer (some ⟨b, 0, none⟩)] w fun e w' => e = .returned (.tuple #[.pointer none, .int .i64 10]) ∧ Below w.heap.size w w' := by
  have HR : Hid (Calls Tryz.prog 17 #[.pointer (some ⟨b, 0, none⟩), .string ⟨#[67, 85, 82, 82, 69, 78, 84]⟩] w (ReadAt w bs 0)) := Lib.hid (by
    have := fsRead_any w b ρ S h curN (by decide)
    rwa [hr] at this)
  clear h hr
  go_enter Tryz.func6, Tryz.ntmps6
  go_wp2_with fail
  refine HR.out.mono ?_
  rintro e w1 ⟨v, rfl, ho, hb⟩
  go_wp2_with fail
  go_ret2
  exact ⟨rfl, hb⟩
set_option maxHeartbeats 8000000 in
set_option maxRecDepth 100000 in
theorem mcreate_any {B : Nat} {w0 : World} (hG0 : GlobM w0) {w : World} (h0 : Below w0.heap.size w0 w) (hB : B ≤ w.heap.size) (b : Nat) (ρ : Nat → Option Role) (S : Fs) (h : FsAt w b ρ S) (hρ : ∀ k, ρ k ≠ none → w0.heap.size ≤ k) (bs : List UInt8) (c : Int) (hr : S.read curN = (bs, c)) (hc : c ≠ 0) (hw : S.wait.length ≤ 100000) :
    Calls Tryz.prog 6 #[.pointer (some ⟨b, 0, none⟩)] w (BegTo B w b ρ 1 logC verC (begF smN S 1 logC)) := by
  have HR : Hid (Calls Tryz.prog 17 #[.pointer (some ⟨b, 0, none⟩), .string ⟨#[67, 85, 82, 82, 69, 78, 84]⟩] w (ReadAt w bs c)) := Lib.hid (by
    have := fsRead_any w b ρ S h curN (by decide)
    rwa [hr] at this)
  have hd : (c == 0) = false := by rw [beq_eq_false_iff_ne]; exact hc
  have HBE : Hid (∀ W tv n0, Below w.heap.size w W → VerP B W tv n0 verC → (∀ k, tv.ownBlock = some k → w.heap.size ≤ k) → Calls Tryz.prog 20 #[.pointer (some ⟨b, 0, none⟩), .int .i64 1, .agg #[tv, .int .i64 n0, .int .i64 0, .int .i64 0]] W (BegTo B W b ρ 1 logC verC (begF smN S 1 logC))) := Lib.hid fun W tv n0 hW hV hk =>
    mbegin_any hG0 W (h0.trans (hW.mono h0.size)) b ρ S (h.below hW) 1 (by decide) tv n0 verC hV (fun k e => by
      cases hq : ρ k with
      | none => rfl
      | some r => obtain ⟨L, hL⟩ := h; have := hL.top k (by rw [hq]; simp); have := hk k e; omega) hw hρ logC rfl
  have HNW := Lib.hid vnew_any
  have HBB := Lib.hid hB
  clear h hr hc hG0 h0 hρ hw hB
  go_enter Tryz.func6, Tryz.ntmps6
  go_wp2_with fail
  refine HR.out.mono ?_
  rintro e w1 ⟨v, rfl, ho, hb⟩
  have HB := Lib.hid hb
  obtain ⟨av, nv, cv, rfl, -⟩ := ho.form
  clear ho hb HR
  go_wp2_with fail
  refine (HNW.out w1).mono ?_
  rintro e w2 ⟨rfl, hw2⟩
  have hb2 : Below w1.heap.size w1 w2 := by rw [hw2]; exact (Below.refl _ w1).alloc (Nat.le_refl _) _
  have HV2 : Hid (VerAt B w2 w1.heap.size Ver.new) := Lib.hid (by rw [hw2]; exact vnew_at w1 B)
  have HB2 := Lib.hid (HB.out.trans (hb2.mono HB.out.size))
  obtain ⟨g, hg⟩ : ∃ g, w1.heap.size = g := ⟨_, rfl⟩
  rw [hg] at HV2
  have HGE : Hid (w.heap.size ≤ g) := Lib.hid (by rw [← hg]; exact HB.out.size)
  have HAP := Lib.hid (vapply_new HV2.out (Nat.le_trans HBB.out HB2.out.size) (.agg #[.int .i64 2, .int .i64 0, .int .i64 0, .slice none 0 0, .slice none 0 0]) ⟨2, 0, 0, [], []⟩ ⟨_, _, rfl, .inl ⟨_, _, rfl, rfl⟩, RdV.nil _ _ _⟩ ⟨fun f hf => (by cases hf), Nat.zero_le _, Nat.zero_le _⟩)
  clear hw2 hb2 HNW HB
  go_wp2_with fail
  refine HAP.out.mono ?_
  rintro e w3 ⟨c3, V', rfl, hv, hu3, hn, hs⟩
  obtain ⟨rfl, hsm, hvn⟩ := hs _ verC_is
  obtain rfl := same_none hsm rfl
  have HB3 : Hid (Below w.heap.size w w3) := Lib.hid (HB2.out.trans (hu3.below HB2.out.size fun k hk e => by have := HGE.out; omega))
  obtain ⟨tv3, n3, hb3, hp3⟩ := hvn.p
  have HB4 := Lib.hid (HBE.out w3 tv3 n3 HB3.out (hp3.base (Nat.le_trans HBB.out HB2.out.size)) fun k hk => by
    rcases hp3.row.blk with ⟨e, -⟩ | ⟨g', cap, cur, e, e2, -⟩
    · rw [e] at hk; simp [Value.ownBlock] at hk
    · rw [e] at hk; simp only [Value.ownBlock, Option.some.injEq] at hk; have := HB2.out.size; omega)
  obtain ⟨a3, c3, rfl⟩ := fil_form hp3.row
  have hb3 : BlkAt w3 g #[.slice a3 0 c3, .int .i64 n3, .int .i64 0, .int .i64 0] 56 := hb3
  have HB4 : Hid (Calls Tryz.prog 20 #[.pointer (some ⟨b, 0, none⟩), .int .i64 1, .agg #[.slice a3 0 c3, .int .i64 n3, .int .i64 0, .int .i64 0]] w3 (BegTo B w3 b ρ 1 logC verC (begF smN S 1 logC))) := HB4
  obtain ⟨y0, y1, y2, y3⟩ := cell4_of hb3
  clear hn hs hv hu3 hsm hvn hb3 hp3 HAP HBE HV2
  generalize begF smN S 1 logC = R at *
  go_wp2_with fail
  refine HB4.out.mono ?_
  rintro e w4 hbt
  rcases hbt with ⟨h1, mb, ρ', rfl, h3⟩ | ⟨h1, rfl, h3⟩
  · have HH := Lib.hid h3
    have H1 := Lib.hid h1
    clear h3 h1 HB4
    go_wp2_with fail
    go_ret2
    exact BegTo.pre HB3.out (.inl ⟨H1.out, mb, ρ', rfl, HH.out⟩)
  · have HH := Lib.hid h3
    have H1 := Lib.hid h1
    clear h3 h1 HB4
    go_wp2_with fail
    go_ret2
    exact BegTo.pre HB3.out (.inr ⟨H1.out, rfl, HH.out⟩)
end Go.Proofs.YtmmkgopnccfiiaaGreatDoor
/- manifest.replay: the version behind all whole edits of a log. -/
namespace Go.Proofs.YtmmkgopnccfiiaaGreatDoor
set_option linter.unusedVariables false
open Go.RowKit Go.Maps
/-- What replay tells of a log that is right. -/
def RplTo (B : Nat) (w : World) (V : Ver) (N : Nat) (e : Ending) (w' : World) : Prop := ∃ a n c n0 V', e = .returned (.tuple #[.agg #[.slice a n c, .int .i64 n0, .int .i64 V'.lg, .int .i64 V'.ls], .int .i64 (N : Int), .int .i64 0]) ∧ VerP w.heap.size w' (.slice a n c) n0 V' ∧ vSame V V' ∧ Below w.heap.size w w'
theorem runV_take {V W : Ver} {es : List Edt} (h : runV V es = some W) : ∀ i, i ≤ es.length → ∃ X, runV V (es.take i) = some X ∧ ∀ x, es[i]? = some x → ∃ Y, applyV X x = some Y ∧ runV V (es.take (i + 1)) = some Y := by
  intro i hi
  have h1 := runV_app V (es.take i) (es.drop i)
  rw [List.take_append_drop, h] at h1
  cases hx : runV V (es.take i) with
  | none => rw [hx] at h1; cases h1
  | some X =>
    refine ⟨X, rfl, fun x hxe => ?_⟩
    rw [hx] at h1
    have h2 : runV X (es.drop i) = some W := h1.symm
    obtain ⟨hil, rfl⟩ := List.getElem?_eq_some_iff.1 hxe
    rw [List.drop_eq_getElem_cons hil, runV] at h2
    cases ha : applyV X es[i] with
    | none => rw [ha] at h2; cases h2
    | some Y =>
      refine ⟨Y, rfl, ?_⟩
      rw [List.take_add_one, List.getElem?_eq_getElem hil, Option.toList_some, runV_snoc hx]
      exact ha
set_option maxHeartbeats 16000000 in
set_option maxRecDepth 100000 in
theorem mreplay_any {w0 : World} (hG0 : GlobM w0) {w : World} (h0 : Below w0.heap.size w0 w) (s : Option Addr) (len cap : Nat) (log : List UInt8) (hl : RdB w (.slice s len cap) log) (hll : log.length ≤ 1000000000) (es : List Edt) (N : Nat) (hrd : readC smN log = (es.map edtB, N, true)) (hm : ∀ e ∈ es, mayE e) (V : Ver) (hV : manV es = some V) :
    Calls Tryz.prog 39 #[.slice s len cap] w (RplTo 0 w V N) := by
  have hne : es ≠ [] := fun e => by rw [e] at hV; cases hV
  have hrun : runV Ver.new es = some V := by
    unfold manV at hV
    rwa [if_neg hne] at hV
  have HRC : Hid (∀ W, Below w.heap.size w W → Calls Tryz.prog 72 #[.slice s len cap] W (RcRes (es.map edtB, N, true) W)) := Lib.hid fun W hW => by
    have := rcRead_any s len cap log (by omega) W ((hG0.below h0).1.below hW) (hl.below hW)
    rwa [hrd] at this
  have HNW := Lib.hid vnew_any
  have HRUN := Lib.hid (runV_take hrun)
  have HRV := Lib.hid hrun
  have HM := Lib.hid hm
  have hn0 : 0 < es.length := List.length_pos_iff.2 hne
  clear hl hll hrd hG0 h0 hm hV hne hrun
  obtain ⟨wa, hwa⟩ : ∃ wa, w.alloc (.cells #[.slice none 0 0, .int .i64 0, .int .i64 0, .int .i64 0] 56) = wa := ⟨_, rfl⟩
  have hba : Below w.heap.size w wa := by rw [← hwa]; exact (Below.refl _ w).alloc (Nat.le_refl _) _
  have hza : BlkAt wa w.heap.size #[.slice none 0 0, .int .i64 0, .int .i64 0, .int .i64 0] 56 := by rw [← hwa]; exact BlkAt.new _ _ _
  obtain ⟨r, hr⟩ : ∃ r, w.heap.size = r := ⟨_, rfl⟩
  have HRE := Lib.hid hr
  rw [hr] at hza
  have HA := Lib.hid hba
  have HZ := Lib.hid hza
  clear hba hza
  unfold RplTo
  go_enter Tryz.func39, Tryz.ntmps39
  go_wp2_with fail
  clear hwa
  refine (HRC.out wa (by have := HA.out; exact this)).mono ?_
  rintro e w2 ⟨v2, rfl, o2, b2⟩
  have HB2 := Lib.hid (HA.out.trans (b2.mono HA.out.size))
  have HZ2 := Lib.hid (HZ.out.below b2)
  obtain ⟨a2, c2, rfl, hl2, hm2⟩ := o2.form
  have HO2 := Lib.hid o2
  unfold maxLen at hm2
  rw [List.length_map] at hl2 HO2 ⊢
  obtain ⟨n, hn⟩ : ∃ n, es.length = n := ⟨_, rfl⟩
  have HNL := Lib.hid hn
  rw [hn] at hl2 hn0 HO2 ⊢
  have hn0' : ((n : Int) == 0) = false := by rw [beq_eq_false_iff_ne]; omega
  clear o2 b2 HRC HA HZ hn hr
  go_wp2_with fail
  refine (HNW.out w2).mono ?_
  rintro e w3 ⟨rfl, hw3⟩
  have hb3 : Below w2.heap.size w2 w3 := by rw [hw3]; exact (Below.refl _ w2).alloc (Nat.le_refl _) _
  have HV3 : Hid (VerAt r w3 w2.heap.size Ver.new) := Lib.hid (by rw [hw3]; exact vnew_at w2 r)
  obtain ⟨g, hg⟩ : ∃ g, w2.heap.size = g := ⟨_, rfl⟩
  have HGE := Lib.hid hg
  rw [hg] at HV3
  have HB3 := Lib.hid hb3
  clear hw3 hb3 HNW hn0 hn0'
  go_wp2_with fail
  clear hg
  go_loopg [30] n (fun kk vi wr => ∃ (i : Nat) (X Y : Ver), vi = .int .i64 i ∧ i ≤ n ∧ n - i ≤ kk ∧ Hid (runV Ver.new (es.take i) = some X) ∧ Hid (vSame X Y) ∧ Hid (VerAt r wr g Y) ∧ Hid (Below w2.heap.size w2 wr))
  case atStart => exact ⟨0, Ver.new, Ver.new, by go_num, by omega, by omega, Lib.hid rfl, Lib.hid (vSame.refl _), HV3, HB3⟩
  case round =>
    obtain ⟨q, X, Y, rfl, hq, hkk, HRX, HXY, HVY, HBW⟩ := hrel
    by_cases h1 : q < n
    · have hd1 : decide (q < n) = true := decide_eq_true h1
      have hz1 : (q : Int) < (n : Int) := by omega
      obtain ⟨x, hx⟩ : ∃ x, es[q]? = some x := ⟨es[q]'(by have := HNL.out; omega), List.getElem?_eq_getElem _⟩
      have hxm : mayE x := HM.out x (List.mem_of_getElem? hx)
      obtain ⟨g', u, e1, hg', hc, hu⟩ := (HO2.out.below HBW.out).at q (edtB x) (by rw [List.getElem?_map, hx]; rfl)
      obtain rfl := e1
      rw [Nat.zero_add] at hc
      have HDE := Lib.hid (edDecode_any u (edtB x) wr hu.rd)
      obtain ⟨ua, ul, uc, rfl, -⟩ := hu.form
      obtain ⟨X', hX', hXn⟩ := HRUN.out q (by have := HNL.out; omega)
      obtain rfl : X = X' := by have := HRX.out; rw [hX'] at this; exact (Option.some.inj this).symm
      obtain ⟨Z, hZ1, hZ2⟩ := hXn x hx
      have HZX := Lib.hid (And.intro hZ1 hZ2)
      have HXM := Lib.hid hxm
      clear hx hxm hu hX' hXn hZ1 hZ2 hg'
      go_wp2_with fail
      refine HDE.out.mono ?_
      rintro e w4 ⟨v4, c4, rfl, h4, b4⟩
      rw [decE_enc HXM.out] at h4
      obtain ⟨rfl, ho4⟩ := h4.yes x rfl
      have hea := ho4.at
      obtain ⟨aA, cA, aD, cD, rfl⟩ := edt_forms hea
      have HV4 := Lib.hid (HVY.out.below b4)
      have HB4 := Lib.hid (HBW.out.trans (b4.mono HBW.out.size))
      have HE4 := Lib.hid hea
      generalize hnA : x.adds.length = nA at *
      generalize hnD : x.dels.length = nD at *
      obtain ⟨w5, hw5⟩ : ∃ w5, w4.alloc (.cells #[.int .i64 x.nxt, .int .i64 x.lg, .int .i64 x.lst, .slice aA nA cA, .slice aD nD cD] 32) = w5 := ⟨_, rfl⟩
      have hb5 : Below w4.heap.size w4 w5 := by rw [← hw5]; exact (Below.refl _ w4).alloc (Nat.le_refl _) _
      have hx5 : BlkAt w5 w4.heap.size #[.int .i64 x.nxt, .int .i64 x.lg, .int .i64 x.lst, .slice aA nA cA, .slice aD nD cD] 32 := by rw [← hw5]; exact BlkAt.new _ _ _
      obtain ⟨x0, x1, x2, x3, x4⟩ := cell5_of hx5
      have HV5 := Lib.hid (HV4.out.below hb5)
      have HB5 := Lib.hid (HB4.out.trans (hb5.mono HB4.out.size))
      have hok : x.ok := by
        obtain ⟨-, ⟨k1, k2⟩, k3, -⟩ := HXM.out
        refine ⟨fun f hf => ?_, Nat.le_trans k1 (by decide), Nat.le_trans k2 (by decide)⟩
        obtain ⟨-, -, -, q1, q2, -⟩ := notBadTb (k3 f hf)
        constructor <;> (unfold maxLen; omega)
      have HAP := Lib.hid (vapply_new HV5.out (by have h1 := HB2.out.size; have h2 := HB5.out.size; have h3 := HRE.out; omega) _ x (HE4.out.below hb5) hok)
      clear hea ho4 b4 hb5 hx5 hok HDE hc HVY HBW
      go_wp2_with fail
      clear hw5
      refine HAP.out.mono ?_
      rintro e w6 ⟨c6, V', rfl, hv, hu6, hn, hs⟩
      rcases applyV_same HXY.out (runV_good new_good HRX.out) x with ⟨e1, -⟩ | ⟨m1, m2, e1, e2, e3⟩
      · rw [HZX.out.1] at e1; cases e1
      rw [HZX.out.1] at e1
      obtain rfl := Option.some.inj e1
      obtain ⟨rfl, hsm, -⟩ := hs _ e2
      have HV6 := Lib.hid hv
      have HS6 := Lib.hid (e3.trans hsm)
      have HB6 : Hid (Below w2.heap.size w2 w6) := Lib.hid (HB5.out.trans (hu6.below HB5.out.size fun k hk e => by have := HGE.out; omega))
      clear x0 x1 x2 x3 x4 hv hu6 hn hs e1 e2 e3 hsm HAP HV5 HB5 HV4 HB4 HE4
      go_wp2_with fail
      go_roundg (n - (q + 1))
      case measure => omega
      case rel => exact ⟨q + 1, Z, V', by go_num, by omega, Nat.le_refl _, Lib.hid HZX.out.2, HS6, HV6, HB6⟩
    · have hd1 : decide (q < n) = false := decide_eq_false h1
      have hz1 : ¬ (q : Int) < (n : Int) := by omega
      obtain rfl : q = n := by omega
      obtain rfl : X = V := by
        have h2 := HRX.out
        rw [← HNL.out, List.take_length, HRV.out] at h2
        exact (Option.some.inj h2).symm
      have HZW := Lib.hid (HZ2.out.below HBW.out)
      obtain ⟨tv, n0, hb, hp⟩ := HVY.out.p
      obtain ⟨aT, cT, rfl⟩ := fil_form hp.row
      have HP := Lib.hid hp
      obtain ⟨nT, hnT⟩ : ∃ nT, Y.fs.length = nT := ⟨_, rfl⟩
      rw [hnT] at hb HP
      obtain ⟨y0, y1, y2, y3⟩ := cell4_of hb
      obtain ⟨z0, z1, z2, z3⟩ := cell4_of HZW.out
      obtain ⟨f0, f1, f2, f3⟩ := free4_of HZW.out
      have hf := fill4 HZW.out (.slice aT nT cT) (.int .i64 n0) (.int .i64 Y.lg) (.int .i64 Y.ls)
      have HPF := Lib.hid (HP.out.aside hf.2 HZW.out (by decide))
      obtain ⟨r0, r1, r2, r3⟩ := cell4_of hf.1
      have HBF : Hid (Below w.heap.size w ((((wr.setCell ⟨r, 0, none⟩ (.slice aT nT cT)).setCell ⟨r, 1, none⟩ (.int .i64 n0)).setCell ⟨r, 2, none⟩ (.int .i64 Y.lg)).setCell ⟨r, 3, none⟩ (.int .i64 Y.ls))) := Lib.hid ((HB2.out.trans (HBW.out.mono HB2.out.size)).trans (hf.2.below (Nat.le_trans HB2.out.size HBW.out.size) fun k hk e => by have := HRE.out; omega))
      clear hb hp hnT hf
      go_wp2_with fail
      refine bodyPost_ret (v := .tuple #[.agg #[.slice aT nT cT, .int .i64 n0, .int .i64 Y.lg, .int .i64 Y.ls], .int .i64 (N : Int), .int .i64 0]) (by simp [results, Tryz.results39, go_sem, r0, r1, r2, r3]) rfl ⟨aT, nT, cT, n0, Y, rfl, ?_, HXY.out, HBF.out⟩
      rw [HRE.out]; exact HPF.out
end Go.Proofs.YtmmkgopnccfiiaaGreatDoor
/- manifest.Load: the manifest that CURRENT names. -/
namespace Go.Proofs.YtmmkgopnccfiiaaGreatDoor
set_option linter.unusedVariables false
open Go.RowKit Go.Maps
theorem ptr_num {sm : List UInt8 → List UInt8} (u : Nat) (hu : u ≤ 1125899906842624) : unfK 8 (ptrB sm u) = u := by
  unfold unfK ptrB
  rw [if_pos (by rw [List.length_append, fixN_len]; omega), List.take_left' (fixN_len _ _)]
  exact unf_fix 8 u (by omega)
set_option maxHeartbeats 2000000 in
/-- CURRENT is not there, or names none. -/
theorem mload_no (w : World) (b : Nat) (c : Int) (hc : c ≠ 0) (HN : Hid (Calls Tryz.prog 37 #[.pointer (some ⟨b, 0, none⟩)] w (NamRes w 0 c))) : Calls Tryz.prog 12 #[.pointer (some ⟨b, 0, none⟩)] w fun e w' => e = .returned (.tuple #[.pointer none, .int .i64 c]) ∧ Below w.heap.size w w' := by
  have hd : (c != 0) = true := by rw [bne_iff_ne]; exact hc
  clear hc
  go_enter Tryz.func12, Tryz.ntmps12
  go_wp2_with fail
  refine HN.out.mono ?_
  rintro e w1 ⟨rfl, hb⟩
  go_wp2_with fail
  go_ret2
  exact ⟨rfl, hb⟩
/-- What Load answers where all is right. -/
def LoadTo (B : Nat) (w : World) (b : Nat) (ρ : Nat → Option Role) (S : Fs) (M : Man) (V : Ver) (e : Ending) (w' : World) : Prop :=
  ∃ mb V' ρ', e = .returned (.tuple #[.pointer (some ⟨mb, 0, none⟩), .int .i64 0]) ∧ w.heap.size ≤ mb ∧ vSame V V' ∧ ManAt B w' b mb ρ' (setM S M).2.1 (setM S M).2.2 V' ∧ UpdF (fun k => ρ k ≠ none) w w' ∧ ∀ k, ρ' k ≠ none → ρ k ≠ none ∨ w.heap.size ≤ k
set_option maxHeartbeats 16000000 in
set_option maxRecDepth 100000 in
theorem mload_any {w0 : World} (hG0 : GlobM w0) {w : World} (h0 : Below w0.heap.size w0 w) (b : Nat) (ρ : Nat → Option Role) (S : Fs) (h : FsAt w b ρ S) (hρ : ∀ k, ρ k ≠ none → w0.heap.size ≤ k) (u : Nat) (hu : u ≤ 1125899906842624) (hcur : S.read curN = (ptrB smN u, 0)) (log : List UInt8) (hlog : S.read (manN u) = (log, 0))
    (es : List Edt) (N : Nat) (hrd : readC smN log = (es.map edtB, N, true)) (hm : ∀ e ∈ es, mayE e) (V : Ver) (hV : manV es = some V) (hll : log.length ≤ 16777216) (hNl : N ≤ log.length) :
    Calls Tryz.prog 12 #[.pointer (some ⟨b, 0, none⟩)] w (LoadTo w0.heap.size w b ρ S ⟨u, log.length, decide (N < log.length), true, false⟩ V) := by
  have hmn := (manN_len hu).2
  have HN : Hid (Calls Tryz.prog 37 #[.pointer (some ⟨b, 0, none⟩)] w (NamRes w u 0)) := Lib.hid (by
    have := named_any w b ρ S h _ hcur (hG0.below h0).1 u (ptr_num u hu) (by omega)
    rwa [if_pos rfl, if_pos rfl] at this)
  have HMN : Hid (∀ W, Below w.heap.size w W → Calls Tryz.prog 38 #[.int .i64 (u : Int)] W fun e w' => e = .returned (.string (manN u)) ∧ Below W.heap.size W w') := Lib.hid fun W hW => manName_any u (by omega) W ((hG0.below h0).2.below hW)
  have HRE : Hid (∀ W, Below w.heap.size w W → Calls Tryz.prog 17 #[.pointer (some ⟨b, 0, none⟩), .string (manN u)] W (ReadAt W log 0)) := Lib.hid fun W hW => by
    have := fsRead_any W b ρ S (h.below hW) (manN u) (by unfold maxLen; omega)
    rwa [hlog] at this
  have HRP : Hid (∀ (s : Option Addr) (len cap : Nat) (W : World), Below w.heap.size w W → RdB W (.slice s len cap) log → Calls Tryz.prog 39 #[.slice s len cap] W (RplTo 0 W V N)) := Lib.hid fun s len cap W hW hr =>
    mreplay_any hG0 (h0.trans (hW.mono h0.size)) s len cap log hr (by omega) es N hrd hm V hV
  have HSE : Hid (∀ mb V' W, Below w.heap.size w W → ManAt w0.heap.size W b mb ρ S ⟨u, log.length, decide (N < log.length), true, false⟩ V' → Calls Tryz.prog 40 #[.pointer (some ⟨mb, 0, none⟩)] W (MRes w0.heap.size W b mb ρ (setM S ⟨u, log.length, decide (N < log.length), true, false⟩) V')) := Lib.hid fun mb V' W hW hM =>
    settle_any hG0 (h0.trans (hW.mono h0.size)) hM hu
  have HF := Lib.hid h
  have HTOP : Hid (∀ k, ρ k ≠ none → k < w.heap.size) := Lib.hid (by obtain ⟨L, hL⟩ := h; exact hL.top)
  have HB0 := Lib.hid h0.size
  have hNi : (N : Int) ≤ 16777216 := by omega
  unfold LoadTo
  generalize setM S ⟨u, log.length, decide (N < log.length), true, false⟩ = R at *
  obtain ⟨rc, rS, rM⟩ := R
  obtain ⟨L, hL⟩ : ∃ L, log.length = L := ⟨_, rfl⟩
  rw [hL] at HSE hll
  have HLL := Lib.hid hL
  generalize manN u = NM at *
  clear h hcur hlog hrd hm hV hG0 h0 hρ hmn hu hL hNl
  go_enter Tryz.func12, Tryz.ntmps12
  go_wp2_with fail
  refine HN.out.mono ?_
  rintro e w1 ⟨rfl, hb⟩
  have HB1 := Lib.hid hb
  have HM1 := Lib.hid (HMN.out w1 hb)
  clear hb HN HMN
  go_wp2_with fail
  refine HM1.out.mono ?_
  rintro e w2 ⟨rfl, hb⟩
  have HB2 := Lib.hid (HB1.out.trans (hb.mono HB1.out.size))
  have HR2 := Lib.hid (HRE.out w2 HB2.out)
  clear hb HM1 HRE HB1
  go_wp2_with fail
  refine HR2.out.mono ?_
  rintro e w3 ⟨v3, rfl, o3, hb⟩
  have HB3 := Lib.hid (HB2.out.trans (hb.mono HB2.out.size))
  obtain ⟨a3, n3, c3, rfl, hn3, -⟩ := o3.form
  have HP3 := Lib.hid (HRP.out a3 n3 c3 w3 HB3.out o3.rd)
  rw [HLL.out] at hn3
  subst hn3
  clear hb HR2 HRP HB2 o3
  go_wp2_with fail
  refine HP3.out.mono ?_
  rintro e w4 ⟨aT, nT, cT, n0, V', rfl, hp, hsm, hb⟩
  have HB4 := Lib.hid (HB3.out.trans (hb.mono HB3.out.size))
  have HSM := Lib.hid hsm
  have HV4 := Lib.hid hp
  obtain ⟨w5, hw5⟩ : ∃ w5, w4.alloc (.cells #[.slice aT nT cT, .int .i64 n0, .int .i64 V'.lg, .int .i64 V'.ls] 56) = w5 := ⟨_, rfl⟩
  have hb5 : Below w4.heap.size w4 w5 := by rw [← hw5]; exact (Below.refl _ w4).alloc (Nat.le_refl _) _
  have hx5 : BlkAt w5 w4.heap.size #[.slice aT nT cT, .int .i64 n0, .int .i64 V'.lg, .int .i64 V'.ls] 56 := by rw [← hw5]; exact BlkAt.new _ _ _
  obtain ⟨y0, y1, y2, y3⟩ := cell4_of hx5
  have HB5 := Lib.hid (HB4.out.trans (hb5.mono HB4.out.size))
  have HV5 := Lib.hid (HV4.out.below hb5)
  have HB35 := Lib.hid HB3.out.size
  clear hb hsm hp hb5 hx5 HP3 HB4 HV4 HB3
  go_upto_region 11 with fail
  have hM6 : ManAt w0.heap.size (w5.alloc (.cells (manC b ⟨u, n3, decide (N < n3), true, false⟩ (.slice aT nT cT) n0 V'.lg V'.ls) 65)) b w5.heap.size ρ S ⟨u, n3, decide (N < n3), true, false⟩ V' := by
    have hal := (Below.refl w5.heap.size w5).alloc (Nat.le_refl _) (.cells (manC b ⟨u, n3, decide (N < n3), true, false⟩ (.slice aT nT cT) n0 V'.lg V'.ls) 65)
    refine ⟨(HF.out.below HB5.out).below hal, ?_, _, n0, BlkAt.new _ _ _, (HV5.out.below hal).base (Nat.le_trans HB0.out HB35.out), fun k hk => ?_⟩
    · cases e : ρ w5.heap.size with
      | none => rfl
      | some r => have := HTOP.out _ (show ρ w5.heap.size ≠ none by rw [e]; simp); have := HB5.out.size; omega
    · cases e : ρ k with
      | none => rfl
      | some r =>
        have h1 := HTOP.out k (by rw [e]; simp)
        have h2 : w3.heap.size ≤ k := by
          rcases HV5.out.row.blk with ⟨e, -⟩ | ⟨g', cap, cur, e, e2, -⟩
          · rw [e] at hk; simp [Value.ownBlock] at hk
          · rw [e] at hk; simp only [Value.ownBlock, Option.some.injEq] at hk; omega
        have := HB35.out
        omega
  have HM6 := Lib.hid hM6
  have HB6 := Lib.hid (HB5.out.alloc HB5.out.size (.cells (manC b ⟨u, n3, decide (N < n3), true, false⟩ (.slice aT nT cT) n0 V'.lg V'.ls) 65))
  have HMB := Lib.hid HB5.out.size
  have HS6 := Lib.hid (HSE.out _ V' _ HB6.out hM6)
  clear hM6 hw5 y0 y1 y2 y3 HB5 HV5 HSE
  generalize w5.heap.size = mb at *
  unfold manC at HM6 HB6 HS6
  dsimp only at HM6 HB6 HS6
  generalize w5.alloc _ = w6 at *
  unfold MRes at HS6
  dsimp only at HS6
  go_wp2_with fail
  refine HS6.out.mono ?_
  rintro e w7 ⟨rfl, hmt⟩
  have HMT := Lib.hid hmt
  clear hmt HS6
  go_wp2_with fail
  go_ret2
  obtain ⟨ρ', k1, k2, k3⟩ := HMT.out
  have hmr : ∀ k, k < w.heap.size → k ≠ mb := fun k hk e => by have := HMB.out; omega
  refine ⟨mb, V', ρ', rfl, HMB.out, HSM.out, k1, ?_, fun k hk => ?_⟩
  · have h1 : UpdF (ManP ρ mb) w w7 := (UpdF.of HB6.out).trans k2
    exact h1.mono fun k hk f => by
      rcases f with f | f
      · exact f
      · exact absurd f (hmr k hk)
  · rcases k3 k (.inl hk) with (f | f) | f
    · exact .inl f
    · have := HMB.out; exact .inr (by omega)
    · have := HB6.out.size; exact .inr (by omega)
end Go.Proofs.YtmmkgopnccfiiaaGreatDoor
