/- manifest.add: an edit comes behind the others (of a manifest whose files are all synced). -/
import Derived.Test.YtcppaflnhlmcbaaGreatDoorManSet
namespace Go.Proofs.YtcppaflnhlmcbaaGreatDoor
set_option linter.unusedVariables false
open Go.RowKit Go.Maps
/-- Its version is written. -/
theorem ManAt.setV {B : Nat} {w : World} {b mb : Nat} {ρ : Nat → Option Role} {S : Fs} {M : Man} {V V' : Ver} (h : ManAt B w b mb ρ S M V) {tv : Value} {n0 : Int} (hV : VerP B w tv n0 V') (ho : ∀ k, tv.ownBlock = some k → ρ k = none) :
    ManTo B w b mb ρ ((((w.setCell ⟨mb, 3, none⟩ tv).setCell ⟨mb, 4, none⟩ (.int .i64 n0)).setCell ⟨mb, 5, none⟩ (.int .i64 V'.lg)).setCell ⟨mb, 6, none⟩ (.int .i64 V'.ls)) S M V' := by
  obtain ⟨tv0, m0, h1, -, -⟩ := h.blk
  have u : UpdF (fun k => k = mb) w ((((w.setCell ⟨mb, 3, none⟩ tv).setCell ⟨mb, 4, none⟩ (.int .i64 n0)).setCell ⟨mb, 5, none⟩ (.int .i64 V'.lg)).setCell ⟨mb, 6, none⟩ (.int .i64 V'.ls)) :=
    ((((UpdF.refl (fun k => k = mb) w).set mb 3 _ rfl).set mb 4 _ rfl).set mb 5 _ rfl).set mb 6 _ rfl
  exact ⟨ρ, ⟨h.fs.upd u fun k hk => by rw [hk]; exact h.out, h.out, tv, n0, (((h1.set (o := 3) tv).set (o := 4) (.int .i64 n0)).set (o := 5) (.int .i64 V'.lg)).set (o := 6) (.int .i64 V'.ls), hV.aside u h1 (by decide), ho⟩, u.mono fun k _ e => .inr e, fun k hk => .inl hk⟩
theorem out_to {w : World} {ρ ρ' : Nat → Option Role} {mb : Nat} {k : Nat} (h : ρ k = none) (hk : k < w.heap.size) (hm : k ≠ mb) (t : ∀ k, ManP ρ' mb k → ManP ρ mb k ∨ w.heap.size ≤ k) : ρ' k = none := by
  cases e : ρ' k with
  | none => rfl
  | some r =>
    rcases t k (.inl (by rw [e]; simp)) with (f | f) | f
    · exact absurd h f
    · exact absurd f hm
    · omega
/-- What add answers. -/
def AddTo (B : Nat) (w : World) (b mb : Nat) (ρ : Nat → Option Role) (M : Man) (n : Nat) (V V' : Ver) (R : Int × Fs) (e : Ending) (w' : World) : Prop :=
  e = .returned (.int .i64 R.1) ∧ ((R.1 = 0 ∧ ManTo B w b mb ρ w' R.2 { M with size := M.size + n } V') ∨ (R.1 ≠ 0 ∧ ∃ s, ManTo B w b mb ρ w' R.2 { M with size := s } V))
set_option maxHeartbeats 8000000 in
set_option maxRecDepth 100000 in
theorem madd_any {B : Nat} {w0 : World} (hG0 : GlobM w0) {w : World} (h0 : Below w0.heap.size w0 w) {b mb : Nat} {ρ : Nat → Option Role} {S : Fs} {M : Man} {V V' : Ver} (h : ManAt B w b mb ρ S M V) (hu : M.num ≤ 1125899906842624) (hH : HighP w0 ρ mb) (hlo : M.loose = false) (hsz : M.size ≤ 1000000000)
    (v : Value) (x : Edt) (hx : EdAt w v x) (hok : x.ok) (hm : mayE x) (tv : Value) (n0 : Int) (hV : VerP B w tv n0 V') (hto : ∀ k, tv.ownBlock = some k → ρ k = none) (bs : List UInt8) (hbs : bs = layB smN M.size (edtB x)) :
    Calls Tryz.prog 39 #[.pointer (some ⟨mb, 0, none⟩), v, .agg #[tv, .int .i64 n0, .int .i64 V'.lg, .int .i64 V'.ls]] w (AddTo B w b mb ρ M bs.length V V' (addF S M.num bs)) := by
  have hmn := (manN_len hu).2
  have hbl : bs.length ≤ 7000000 := by rw [hbs]; exact whole_any smN_len hm _
  have hel := edtB_any hm
  obtain ⟨R1, h1⟩ : ∃ R, S.append (manN M.num) bs = R := ⟨_, rfl⟩
  obtain ⟨R2, h2⟩ : ∃ R, R1.2.sync (manN M.num) = R := ⟨_, rfl⟩
  have hL : addF S M.num bs = if R1.1 = 0 then R2 else R1 := by
    unfold addF thenF
    rw [h1]
    simp only [h2]
  rw [hL]
  clear hL
  obtain ⟨G, hG⟩ : ∃ G, (if R1.1 = 0 then R2 else R1) = G := ⟨_, rfl⟩
  rw [hG]
  have HEN : Hid (∀ W, Below w.heap.size w W → Calls Tryz.prog 71 #[v] W fun e w' => ∃ y, e = .returned (.tuple #[y, .int .i64 0]) ∧ OwnB W.heap.size w' y (edtB x) ∧ Below W.heap.size W w') := Lib.hid fun W hW => by
    refine (edEncode_any v x hok W (hx.below hW)).mono ?_
    rintro e w' ⟨y, rfl, k1, -, k2⟩
    exact ⟨y, by rw [show chkE x = 0 from if_pos hm], k1 hm, k2⟩
  have HST : Hid (∀ W, Below w.heap.size w W → Calls Tryz.prog 50 #[.pointer (some ⟨mb, 0, none⟩)] W fun e w' => e = .returned (.int .i64 0) ∧ w' = W) := Lib.hid fun W hW => settle_no (h.below hW) hlo
  have HRA : Hid (∀ y W, Below w.heap.size w W → RdB W y (edtB x) → Calls Tryz.prog 73 #[.int .i64 (M.size : Int), y] W (MkB bs W)) := Lib.hid fun y W hW hv => by
    have := rcAppend_any M.size (by omega) y _ (by omega) W ((hG0.below h0).1.below hW) hv
    rwa [← hbs] at this
  have HNM : Hid (∀ W, Below w0.heap.size w0 W → Calls Tryz.prog 48 #[.int .i64 (M.num : Int)] W fun e w' => e = .returned (.string (manN M.num)) ∧ Below W.heap.size W w') := Lib.hid fun W hW => manName_any M.num (by omega) W (hG0.below hW).2
  have HAP : Hid (∀ y W, Below w.heap.size w W → RdB W y bs → (∀ k, y.ownBlock = some k → w.heap.size ≤ k) → Calls Tryz.prog 27 #[.pointer (some ⟨b, 0, none⟩), .string (manN M.num), y] W (OpAt W b ρ R1)) := Lib.hid fun y W hW hy hk => by
    have := append_any W b ρ S (h.fs.below hW) (manN M.num) (by unfold maxLen; omega) y bs hy (fun k e => by
      cases hr : ρ k with
      | none => rfl
      | some r => have := h.top k (.inl (by rw [hr]; simp)); have := hk k e; omega) (by omega)
    rwa [h1] at this
  have HSY : Hid (∀ ρ1 W, FsAt W b ρ1 R1.2 → Calls Tryz.prog 78 #[.pointer (some ⟨b, 0, none⟩), .string (manN M.num)] W (OpAt W b ρ1 R2)) := Lib.hid fun ρ1 W t1 => by
    have := sync_any W b ρ1 R1.2 t1 (manN M.num) (by unfold maxLen; omega)
    rwa [h2] at this
  have HG := Lib.hid hG.symm
  have HM := Lib.hid h
  have HV := Lib.hid hV
  have HTO := Lib.hid hto
  have HHI := Lib.hid hH
  have H0 := Lib.hid h0
  have hms : (M.size : Int) ≤ 1000000000 := by omega
  have hms0 : (0 : Int) ≤ (M.size : Int) := by omega
  obtain ⟨c1, S1⟩ := R1
  obtain ⟨c2, S2⟩ := R2
  dsimp only at *
  unfold OpAt at HAP HSY
  dsimp only at HAP HSY
  obtain ⟨va, vd, rfl, ha, hd⟩ := hx
  obtain ⟨aA, cA, rfl, -⟩ := edFl_len ha
  obtain ⟨aD, cD, rfl⟩ := edInts_len hd
  obtain ⟨aT, cT, rfl⟩ := fil_form hV.row
  generalize x.adds.length = nA at *
  generalize x.dels.length = nD at *
  generalize V'.fs.length = nT at *
  obtain ⟨wa, hwa⟩ : ∃ wa, w.alloc (.cells #[.int .i64 x.nxt, .int .i64 x.lg, .int .i64 x.lst, .slice aA nA cA, .slice aD nD cD] 39) = wa := ⟨_, rfl⟩
  have hba : Below w.heap.size w wa := by rw [← hwa]; exact (Below.refl _ w).alloc (Nat.le_refl _) _
  obtain ⟨wb, hwb⟩ : ∃ wb, wa.alloc (.cells #[.slice aT nT cT, .int .i64 n0, .int .i64 V'.lg, .int .i64 V'.ls] 73) = wb := ⟨_, rfl⟩
  have hbb : Below w.heap.size w wb := hba.trans ((by rw [← hwb]; exact (Below.refl _ wa).alloc (Nat.le_refl _) _ : Below wa.heap.size wa wb).mono hba.size)
  have hxa : BlkAt wa w.heap.size #[.int .i64 x.nxt, .int .i64 x.lg, .int .i64 x.lst, .slice aA nA cA, .slice aD nD cD] 39 := by rw [← hwa]; exact BlkAt.new _ _ _
  have hxb : BlkAt wb w.heap.size #[.int .i64 x.nxt, .int .i64 x.lg, .int .i64 x.lst, .slice aA nA cA, .slice aD nD cD] 39 := by rw [← hwb]; exact hxa.more _
  have hyb : BlkAt wb wa.heap.size #[.slice aT nT cT, .int .i64 n0, .int .i64 V'.lg, .int .i64 V'.ls] 73 := by rw [← hwb]; exact BlkAt.new _ _ _
  obtain ⟨g2, hg2⟩ : ∃ g2, wa.heap.size = g2 := ⟨_, rfl⟩
  have HG2 : Hid (w.heap.size ≤ g2) := Lib.hid (by rw [← hg2]; exact hba.size)
  rw [hg2] at hyb
  have HB := Lib.hid hbb
  have HY := Lib.hid hyb
  obtain ⟨x0, x1, x2, x3, x4⟩ := cell5_of hxb
  have hwd : ∀ o, w.alloc o = wa → True := fun _ _ => trivial
  clear h h1 h2 hG hV hto hH h0 hG0 hok ha hd hu hlo hsz hmn hba hbb hxa hxb hyb hbs hel hwd hm
  go_enter Tryz.func39, Tryz.ntmps39
  go_wp2_with fail
  clear hwa hwb hg2 x0 x1 x2 x3 x4
  refine (HEN.out wb HB.out).mono ?_
  rintro e w1 ⟨y, rfl, hy, hb⟩
  have HB1 := Lib.hid (HB.out.trans (hb.mono HB.out.size))
  have HY1 := Lib.hid (HY.out.below hb)
  have HR1 := Lib.hid hy.rd
  obtain ⟨ay, ny, cy, rfl, -⟩ := hy.form
  have HS1 := Lib.hid (HST.out w1 HB1.out)
  clear hy hb HB HY HEN HST
  go_wp2_with fail
  refine HS1.out.mono ?_
  rintro e wS ⟨rfl, rfl⟩
  obtain ⟨tv0, m0, hcc⟩ := (HM.out.below HB1.out).pl
  have c2 := hcc.c2
  have HA1 := Lib.hid (HRA.out _ wS HB1.out HR1.out)
  clear hcc HS1 HRA
  go_wp2_with fail
  refine HA1.out.mono ?_
  rintro e w2 ⟨z, rfl, hz, hb⟩
  have HB2 := Lib.hid (HB1.out.trans (hb.mono HB1.out.size))
  have HY2 := Lib.hid (HY1.out.below hb)
  obtain ⟨az, nz, cz, rfl, hnz, -⟩ := hz.form
  have HNZ := Lib.hid hnz
  have HZ2 := Lib.hid hz.rd
  have HZK : Hid (∀ k, (Value.slice az nz cz).ownBlock = some k → w.heap.size ≤ k) := Lib.hid fun k hk => Nat.le_trans HB1.out.size (hz.where k hk).1
  have hnb : nz ≤ 7000000 := by omega
  clear hz hb hnz HA1 HB1 HY1 HR1 c2 tv0 m0
  obtain ⟨u, hue⟩ : ∃ u, M.num = u := ⟨_, rfl⟩
  rw [hue] at HNM HAP HSY
  have HUE := Lib.hid hue
  generalize manN u = NM at *
  clear hue
  obtain ⟨tv1, m1, hcc⟩ := (HM.out.below HB2.out).plU (W := w)
  have HC := Lib.hid hcc
  have HMN : Hid (∀ W, Below w2.heap.size w2 W → Calls Tryz.prog 48 #[.int .i64 (u : Int)] W fun e w' => e = .returned (.string NM) ∧ Below W.heap.size W w') := Lib.hid fun W hW => HNM.out W (H0.out.trans ((HB2.out.trans (hW.mono HB2.out.size)).mono H0.out.size))
  clear hcc
  go_upto_region 8 with fail
  refine wp_region_held_drew (S := UpdF (fun k => ρ k ≠ none) w2) (by kernel_rfl) (UpdF.refl _ w2).drew (fun hHeld => ?_)
  have HU := Lib.hid hHeld
  have HBw : Hid (Below w2.heap.size w2 w2.drew) := Lib.hid (Below.refl _ _).drew
  clear hHeld
  generalize w2.drew = wd at *
  refine takeYes (i := 0) (k := 32) (v := .pointer (some ⟨mb, 0, none⟩)) rfl (by kernel_rfl) (by kernel_rfl) (by kernel_rfl) (by kernel_rfl) (fun _ _ _ h => h) (by kernel_rfl) ?_ HU.out ?_
  · intro W hSw; first | (go_simp; done) | go_simp
  try simp only [Act.put, List.setIfInBounds_toArray, List.set_cons_zero, List.set_cons_succ]
  refine takeYes (i := 1) (k := 33) (v := .pointer (some ⟨mb, 0, none⟩)) rfl (by kernel_rfl) (by kernel_rfl) (by kernel_rfl) (by kernel_rfl) (fun _ _ _ h => h) (by kernel_rfl) ?_ HU.out ?_
  · intro W hSw; first | (go_simp; done) | go_simp
  try simp only [Act.put, List.setIfInBounds_toArray, List.set_cons_zero, List.set_cons_succ]
  refine takeYes (i := 2) (k := 34) (v := .pointer (some ⟨mb, 0, none⟩)) rfl (by kernel_rfl) (by kernel_rfl) (by kernel_rfl) (by kernel_rfl) (fun _ _ _ h => h) (by kernel_rfl) ?_ HU.out ?_
  · intro W hSw; first | (go_simp; done) | go_simp
  try simp only [Act.put, List.setIfInBounds_toArray, List.set_cons_zero, List.set_cons_succ]
  refine takeYes (i := 3) (k := 35) (v := .pointer (some ⟨b, 0, none⟩)) rfl (by kernel_rfl) (by kernel_rfl) (by kernel_rfl) (by kernel_rfl) (fun _ _ _ h => h) (by kernel_rfl) ?_ HU.out ?_
  · intro W hSw; have cc := (HC.out W hSw).c0; first | (go_simp; done) | go_simp
  try simp only [Act.put, List.setIfInBounds_toArray, List.set_cons_zero, List.set_cons_succ]
  refine takeYes (i := 4) (k := 36) (v := .pointer (some ⟨mb, 0, none⟩)) rfl (by kernel_rfl) (by kernel_rfl) (by kernel_rfl) (by kernel_rfl) (fun _ _ _ h => h) (by kernel_rfl) ?_ HU.out ?_
  · intro W hSw; first | (go_simp; done) | go_simp
  try simp only [Act.put, List.setIfInBounds_toArray, List.set_cons_zero, List.set_cons_succ]
  refine takeYes (i := 5) (k := 37) (v := .pointer (some ⟨mb, 0, none⟩)) rfl (by kernel_rfl) (by kernel_rfl) (by kernel_rfl) (by kernel_rfl) (fun _ _ _ h => h) (by kernel_rfl) ?_ HU.out ?_
  · intro W hSw; first | (go_simp; done) | go_simp
  try simp only [Act.put, List.setIfInBounds_toArray, List.set_cons_zero, List.set_cons_succ]
  refine takeYes (i := 6) (k := 38) (v := .pointer (some ⟨mb, 1, none⟩)) rfl (by kernel_rfl) (by kernel_rfl) (by kernel_rfl) (by kernel_rfl) (fun _ _ _ h => h) (by kernel_rfl) ?_ HU.out ?_
  · intro W hSw; first | (go_simp; done) | go_simp
  try simp only [Act.put, List.setIfInBounds_toArray, List.set_cons_zero, List.set_cons_succ]
  refine takeYes (i := 7) (k := 39) (v := .int .i64 (u : Int)) rfl (by kernel_rfl) (by kernel_rfl) (by kernel_rfl) (by kernel_rfl) (fun _ _ _ h => h) (by kernel_rfl) ?_ HU.out ?_
  · intro W hSw; have cc := (HC.out W hSw).c1; rw [HUE.out] at cc; first | (go_simp; done) | go_simp
  try simp only [Act.put, List.setIfInBounds_toArray, List.set_cons_zero, List.set_cons_succ]
  refine takeYes (i := 9) (k := 41) (v := .slice az nz cz) rfl (by kernel_rfl) (by kernel_rfl) (by kernel_rfl) (by kernel_rfl) (fun _ _ _ h => h) (by kernel_rfl) ?_ HU.out ?_
  · intro W hSw; first | (go_simp; done) | go_simp
  try simp only [Act.put, List.setIfInBounds_toArray, List.set_cons_zero, List.set_cons_succ]
  refine wpAnyH_ready (rs := [8]) (by kernel_rfl) (by simp) (AllReadyH.cons rfl (fun K hK => ?_) AllReadyH.nil)
  go_simp
  refine (HMN.out wd HBw.out).mono ?_
  rintro e w3 ⟨rfl, hbn⟩
  have HBn : Hid (Below w2.heap.size w2 w3) := Lib.hid (HBw.out.trans (hbn.mono HBw.out.size))
  refine hK.out _ _ (UpdF.of HBn.out) (fun _ => ?_)
  clear hK K hbn HBw HU
  have HU := Lib.hid (UpdF.of (F := fun k => ρ k ≠ none) HBn.out)
  try simp only []
  refine wpAnyH_ready (rs := [10]) (by kernel_rfl) (by simp) (AllReadyH.cons rfl (fun K hK => ?_) AllReadyH.nil)
  go_simp
  refine (HAP.out _ w3 (HB2.out.trans (HBn.out.mono HB2.out.size)) (HZ2.out.below HBn.out) HZK.out).mono ?_
  rintro e w4 ⟨rfl, ht⟩
  have HT := Lib.hid ht
  have hU2 : UpdF (fun k => ρ k ≠ none) w2 w4 := by obtain ⟨ρ2, t1, t2, t3⟩ := ht; exact (UpdF.of HBn.out).trans t2
  clear ht
  refine hK.out _ _ hU2 (fun _ => ?_)
  clear hK K HU
  have HU := Lib.hid hU2
  clear hU2
  try simp only []
  refine takeYes (i := 11) (k := 11) (v := .int .i64 c1) rfl (by kernel_rfl) (by kernel_rfl) (by kernel_rfl) (by kernel_rfl) (fun _ _ _ h => h) (by kernel_rfl) ?_ HU.out ?_
  · intro W hSw; first | (go_simp; done) | go_simp
  try simp only [Act.put, List.setIfInBounds_toArray, List.set_cons_zero, List.set_cons_succ]
  refine wpAnyH_done (by kernel_rfl) ?_ _
  obtain ⟨ρ1, t1, t2, t3⟩ := HT.out
  have hA4 := (HM.out.below (HB2.out.trans (HBn.out.mono HB2.out.size))).fsTo ⟨ρ1, t1, t2, t3⟩
  have HY4 := Lib.hid (show BlkAt w4 g2 #[.slice aT nT cT, .int .i64 n0, .int .i64 V'.lg, .int .i64 V'.ls] 73 from (t2.block g2 (Nat.lt_of_lt_of_le HY2.out.lt HBn.out.size) fun f => f (by
    cases e : ρ g2 with
    | none => rfl
    | some r => have := HM.out.top g2 (.inl (by rw [e]; simp)); have := HG2.out; omega)).trans (HY2.out.below HBn.out))
  have HR1 := Lib.hid (roles_none (w := w3) (ρ' := ρ1) (k := g2) (by
    cases e : ρ g2 with
    | none => rfl
    | some r => have := HM.out.top g2 (.inl (by rw [e]; simp)); have := HG2.out; omega) (Nat.lt_of_lt_of_le HY2.out.lt HBn.out.size) t3)
  have HP3 := Lib.hid (HB2.out.trans (HBn.out.mono HB2.out.size))
  obtain ⟨ρ1', k1, k2, k3⟩ := hA4
  have HMB : Hid (∃ vs, BlkAt w mb vs 75) := Lib.hid (by obtain ⟨tq, mq, hq, -⟩ := HM.out.blk; exact ⟨_, hq⟩)
  have HNT1 : Hid (∀ k, (Value.slice aT nT cT).ownBlock = some k → k ≠ mb) := Lib.hid fun k hk e => by
    obtain ⟨vs, hvs⟩ := HMB.out
    obtain ⟨-, cur, h2⟩ := HV.out.row.typed hk
    subst e
    unfold BlkAt at hvs
    rw [h2] at hvs
    have := Option.some.inj hvs
    injection this with _ h3 _
    exact absurd h3 (by decide)
  have HV4 : Hid (VerP B w4 (.slice aT nT cT) n0 V') := Lib.hid ((HV.out.below HP3.out).upd t2 fun k hk f => f (HTO.out k hk))
  have HTO4 : Hid (∀ k, (Value.slice aT nT cT).ownBlock = some k → ρ1' k = none) := Lib.hid fun k hk => out_to (w := w3) (HTO.out k hk) (Nat.lt_of_lt_of_le (row_lt HV.out.row k hk) HP3.out.size) (HNT1.out k hk) k3
  have HK1 := Lib.hid k1
  have HK2 := Lib.hid (And.intro k2 k3)
  have HR1' : Hid (ρ1' g2 = none) := Lib.hid (out_to (w := w3) (by
    cases e : ρ g2 with
    | none => rfl
    | some r => have := HM.out.top g2 (.inl (by rw [e]; simp)); have := HG2.out; omega) (Nat.lt_of_lt_of_le HY2.out.lt HBn.out.size) (fun e => by have := HM.out.lt; have := HG2.out; omega) k3)
  have HG2M : Hid (g2 ≠ mb) := Lib.hid fun e => by have := HM.out.lt; have := HG2.out; omega
  have HH1 : Hid (HighP w0 ρ1' mb ∧ Below w0.heap.size w0 w4) := Lib.hid ⟨HHI.out.to (H0.out.trans (HP3.out.mono H0.out.size)) k3, HHI.out.blw (H0.out.trans (HP3.out.mono H0.out.size)) k2⟩
  obtain ⟨tq, mq, hq⟩ := k1.pl
  have c2 := hq.c2
  have f2 := hq.free 2
  clear hq tq mq k1 k2 k3 t1 t2 t3 HR1 HT HU HC HMN HAP HBn HB2 HY2 HZ2 HZK HMB hbl HTO HV ρ1 tv1 m1
  by_cases hc1 : c1 = 0
  rotate_left
  · have d1 : (c1 != 0) = true := by rw [bne_iff_ne]; exact hc1
    obtain rfl : G = (c1, S1) := by have := HG.out; simpa [hc1] using this
    have HNC := Lib.hid hc1
    clear hc1
    go_wp2_with fail
    go_ret
    exact ⟨rfl, .inr ⟨HNC.out, M.size, ManTo.pre HP3.out (ManTo.then HK2.out.1 HK2.out.2 (HK1.out.to (Below.refl _ _)))⟩⟩
  subst hc1
  have HW5 := Lib.hid (HK1.out.setAt (M' := { M with size := M.size + nz }) 2 (.int .i64 ((M.size : Int) + (nz : Int))) fun tv n0 => rfl)
  have HY5 := Lib.hid (show BlkAt (w4.setCell ⟨mb, 2, none⟩ (.int .i64 ((M.size : Int) + (nz : Int)))) g2 #[.slice aT nT cT, .int .i64 n0, .int .i64 V'.lg, .int .i64 V'.ls] 73 from HY4.out.other _ HG2M.out)
  go_upto_region 12 with fail
  clear c2 f2
  generalize w4.setCell ⟨mb, 2, none⟩ (.int .i64 ((M.size : Int) + (nz : Int))) = w5 at *
  obtain ⟨tv1, m1, hcc⟩ := HW5.out.1.plU (W := w5)
  have HC := Lib.hid hcc
  have HB5 : Hid (Below w0.heap.size w0 w5) := Lib.hid (HH1.out.2.trans (HW5.out.2.below HH1.out.2.size fun k hk e => by subst e; have := HHI.out _ (.inr rfl); omega))
  have HMN : Hid (∀ W, Below w5.heap.size w5 W → Calls Tryz.prog 48 #[.int .i64 (u : Int)] W fun e w' => e = .returned (.string NM) ∧ Below W.heap.size W w') := Lib.hid fun W hW => HNM.out W (HB5.out.trans (hW.mono HB5.out.size))
  clear hcc HNM
  refine wp_region_held_drew (S := UpdF (fun k => ρ1' k ≠ none) w5) (by kernel_rfl) (UpdF.refl _ w5).drew (fun hHeld => ?_)
  have HU := Lib.hid hHeld
  have HBw : Hid (Below w5.heap.size w5 w5.drew) := Lib.hid (Below.refl _ _).drew
  clear hHeld
  generalize w5.drew = wd at *
  refine takeYes (i := 0) (k := 55) (v := .pointer (some ⟨mb, 0, none⟩)) rfl (by kernel_rfl) (by kernel_rfl) (by kernel_rfl) (by kernel_rfl) (fun _ _ _ h => h) (by kernel_rfl) ?_ HU.out ?_
  · intro W hSw; first | (go_simp; done) | go_simp
  try simp only [Act.put, List.setIfInBounds_toArray, List.set_cons_zero, List.set_cons_succ]
  refine takeYes (i := 1) (k := 56) (v := .pointer (some ⟨mb, 0, none⟩)) rfl (by kernel_rfl) (by kernel_rfl) (by kernel_rfl) (by kernel_rfl) (fun _ _ _ h => h) (by kernel_rfl) ?_ HU.out ?_
  · intro W hSw; first | (go_simp; done) | go_simp
  try simp only [Act.put, List.setIfInBounds_toArray, List.set_cons_zero, List.set_cons_succ]
  refine takeYes (i := 2) (k := 57) (v := .pointer (some ⟨mb, 0, none⟩)) rfl (by kernel_rfl) (by kernel_rfl) (by kernel_rfl) (by kernel_rfl) (fun _ _ _ h => h) (by kernel_rfl) ?_ HU.out ?_
  · intro W hSw; first | (go_simp; done) | go_simp
  try simp only [Act.put, List.setIfInBounds_toArray, List.set_cons_zero, List.set_cons_succ]
  refine takeYes (i := 3) (k := 58) (v := .pointer (some ⟨b, 0, none⟩)) rfl (by kernel_rfl) (by kernel_rfl) (by kernel_rfl) (by kernel_rfl) (fun _ _ _ h => h) (by kernel_rfl) ?_ HU.out ?_
  · intro W hSw; have cc := (HC.out W hSw).c0; first | (go_simp; done) | go_simp
  try simp only [Act.put, List.setIfInBounds_toArray, List.set_cons_zero, List.set_cons_succ]
  refine takeYes (i := 4) (k := 59) (v := .pointer (some ⟨mb, 0, none⟩)) rfl (by kernel_rfl) (by kernel_rfl) (by kernel_rfl) (by kernel_rfl) (fun _ _ _ h => h) (by kernel_rfl) ?_ HU.out ?_
  · intro W hSw; first | (go_simp; done) | go_simp
  try simp only [Act.put, List.setIfInBounds_toArray, List.set_cons_zero, List.set_cons_succ]
  refine takeYes (i := 5) (k := 60) (v := .pointer (some ⟨mb, 0, none⟩)) rfl (by kernel_rfl) (by kernel_rfl) (by kernel_rfl) (by kernel_rfl) (fun _ _ _ h => h) (by kernel_rfl) ?_ HU.out ?_
  · intro W hSw; first | (go_simp; done) | go_simp
  try simp only [Act.put, List.setIfInBounds_toArray, List.set_cons_zero, List.set_cons_succ]
  refine takeYes (i := 6) (k := 61) (v := .pointer (some ⟨mb, 1, none⟩)) rfl (by kernel_rfl) (by kernel_rfl) (by kernel_rfl) (by kernel_rfl) (fun _ _ _ h => h) (by kernel_rfl) ?_ HU.out ?_
  · intro W hSw; first | (go_simp; done) | go_simp
  try simp only [Act.put, List.setIfInBounds_toArray, List.set_cons_zero, List.set_cons_succ]
  refine takeYes (i := 7) (k := 62) (v := .int .i64 (u : Int)) rfl (by kernel_rfl) (by kernel_rfl) (by kernel_rfl) (by kernel_rfl) (fun _ _ _ h => h) (by kernel_rfl) ?_ HU.out ?_
  · intro W hSw; have cc := (HC.out W hSw).c1; dsimp only at cc; rw [HUE.out] at cc; first | (go_simp; done) | go_simp
  try simp only [Act.put, List.setIfInBounds_toArray, List.set_cons_zero, List.set_cons_succ]
  refine wpAnyH_ready (rs := [8]) (by kernel_rfl) (by simp) (AllReadyH.cons rfl (fun K hK => ?_) AllReadyH.nil)
  go_simp
  refine (HMN.out wd HBw.out).mono ?_
  rintro e w6 ⟨rfl, hbn⟩
  have HBn : Hid (Below w5.heap.size w5 w6) := Lib.hid (HBw.out.trans (hbn.mono HBw.out.size))
  refine hK.out _ _ (UpdF.of HBn.out) (fun _ => ?_)
  clear hK K hbn HBw HU
  have HU := Lib.hid (UpdF.of (F := fun k => ρ1' k ≠ none) HBn.out)
  try simp only []
  refine wpAnyH_ready (rs := [9]) (by kernel_rfl) (by simp) (AllReadyH.cons rfl (fun K hK => ?_) AllReadyH.nil)
  go_simp
  refine (HSY.out ρ1' w6 (HW5.out.1.fs.below HBn.out)).mono ?_
  rintro e w7 ⟨rfl, ht⟩
  have HT := Lib.hid ht
  have hU2 : UpdF (fun k => ρ1' k ≠ none) w5 w7 := by obtain ⟨ρ2, t1, t2, t3⟩ := ht; exact (UpdF.of HBn.out).trans t2
  clear ht
  refine hK.out _ _ hU2 (fun _ => ?_)
  clear hK K HU
  have HU := Lib.hid hU2
  clear hU2
  try simp only []
  refine takeYes (i := 10) (k := 12) (v := .int .i64 c2) rfl (by kernel_rfl) (by kernel_rfl) (by kernel_rfl) (by kernel_rfl) (fun _ _ _ h => h) (by kernel_rfl) ?_ HU.out ?_
  · intro W hSw; first | (go_simp; done) | go_simp
  try simp only [Act.put, List.setIfInBounds_toArray, List.set_cons_zero, List.set_cons_succ]
  refine wpAnyH_done (by kernel_rfl) ?_ _
  have hA7 := (HW5.out.1.below HBn.out).fsTo HT.out
  obtain ⟨ρ2, k1, k2, k3⟩ := hA7
  have HF2 : Hid (∀ k, ManP ρ2 mb k → ManP ρ mb k ∨ w3.heap.size ≤ k) := Lib.hid fun k hk => by
    rcases k3 k hk with f | f
    · exact HK2.out.2 k f
    · have h1 := HK2.out.1.size; have h2 := HW5.out.2.size; have h3 := HBn.out.size; exact .inr (by omega)
  have HU2 : Hid (UpdF (ManP ρ mb) w3 w7) := Lib.hid (((HK2.out.1.then (HW5.out.2.mono fun k _ e => Or.inr e) HK2.out.2).trans (UpdF.of HBn.out)).then k2 HK2.out.2)
  have HK3 := Lib.hid k1
  by_cases hc2 : c2 = 0
  rotate_left
  · have d1 : (c2 != 0) = true := by rw [bne_iff_ne]; exact hc2
    obtain rfl : G = (c2, S2) := by have := HG.out; simpa using this
    have HNC := Lib.hid hc2
    clear hc2 k1 k2 k3 HT HU HC HMN
    go_wp2_with fail
    go_ret
    exact ⟨rfl, .inr ⟨HNC.out, M.size + nz, ManTo.pre HP3.out ⟨ρ2, HK3.out, HU2.out, HF2.out⟩⟩⟩
  subst hc2
  obtain rfl : G = (0, S2) := by have := HG.out; simpa using this
  have HY7 := (show BlkAt w7 g2 #[.slice aT nT cT, .int .i64 n0, .int .i64 V'.lg, .int .i64 V'.ls] 73 from (k2.block g2 (Nat.lt_of_lt_of_le HY5.out.lt HBn.out.size) fun f => by
    rcases f with f | f
    · exact f HR1'.out
    · exact HG2M.out f).trans (HY5.out.below HBn.out))
  have hV5 : VerP B w6 (.slice aT nT cT) n0 V' := ((HV4.out.upd HW5.out.2 fun k hk e => HNT1.out k hk e).below HBn.out)
  have hV7 : VerP B w7 (.slice aT nT cT) n0 V' := hV5.upd k2 fun k hk f => by
    rcases f with f | f
    · exact f (HTO4.out k hk)
    · exact HNT1.out k hk f
  have hTO7 : ∀ k, (Value.slice aT nT cT).ownBlock = some k → ρ2 k = none := fun k hk => out_to (HTO4.out k hk) (row_lt hV5.row k hk) (HNT1.out k hk) k3
  have HFIN := Lib.hid (k1.setV hV7 hTO7)
  obtain ⟨z0, z1, z2, z3⟩ := cell4_of HY7
  obtain ⟨tq, mq, hq⟩ := k1.pl
  have c3 := hq.c3
  have c4 := hq.c4
  have c5 := hq.c5
  have c6 := hq.c6
  have f3 := hq.free 3
  have f4 := hq.free 4
  have f5 := hq.free 5
  have f6 := hq.free 6
  have hnz := HNZ.out
  subst hnz
  clear hq k1 k2 k3 HT HU HC HMN HY7 hV5 hV7 hTO7
  go_wp2_with fail
  go_ret
  exact ⟨rfl, .inl ⟨rfl, ManTo.pre HP3.out (ManTo.then HU2.out HF2.out HFIN.out)⟩⟩
end Go.Proofs.YtcppaflnhlmcbaaGreatDoor
