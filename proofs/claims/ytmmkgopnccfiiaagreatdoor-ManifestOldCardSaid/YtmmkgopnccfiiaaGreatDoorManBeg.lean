/- manifest.begin: a new manifest of a whole version. -/
import Derived.Test.YtmmkgopnccfiiaaGreatDoorManPut
import Derived.Test.YtmmkgopnccfiiaaGreatDoorManName
import Derived.Test.YtmmkgopnccfiiaaGreatDoorMManA
import Derived.Test.YtmmkgopnccfiiaaGreatDoorMEdt
import Derived.Test.YtmmkgopnccfiiaaGreatDoorMRec
import Derived.Test.YtmmkgopnccfiiaaGreatDoorMVerR
namespace Go.Proofs.YtmmkgopnccfiiaaGreatDoor
set_option linter.unusedVariables false
open Go.RowKit Go.Maps
def wholeE (V : Ver) : Edt := ⟨V.nx, V.lg, V.ls, V.fs, []⟩
/-- What begin answers: a manifest, or what failed. -/
def BegTo (B : Nat) (w : World) (b : Nat) (ρ : Nat → Option Role) (u : Nat) (log : List UInt8) (V : Ver) (R : Int × Fs) (e : Ending) (w' : World) : Prop :=
  (R.1 = 0 ∧ ∃ mb ρ', e = .returned (.tuple #[.pointer (some ⟨mb, 0, none⟩), .int .i64 0]) ∧ w.heap.size ≤ mb ∧ ManAt B w' b mb ρ' R.2 ⟨u, log.length, false, false, false⟩ V ∧ UpdF (fun k => ρ k ≠ none) w w' ∧ ∀ k, ρ' k ≠ none → ρ k ≠ none ∨ w.heap.size ≤ k) ∨
  (R.1 ≠ 0 ∧ e = .returned (.tuple #[.pointer none, .int .i64 R.1]) ∧ FsTo w b ρ w' R.2)
set_option maxHeartbeats 8000000 in
set_option maxRecDepth 100000 in
theorem mbegin_any {B : Nat} {w0 : World} (hG0 : GlobM w0) (w : World) (h0 : Below w0.heap.size w0 w) (b : Nat) (ρ : Nat → Option Role) (S : Fs) (h : FsAt w b ρ S) (u : Nat) (hu : u ≤ 1125899906842624) (tv : Value) (n0 : Int) (V : Ver) (hV : VerP B w tv n0 V) (hto : ∀ k, tv.ownBlock = some k → ρ k = none) (hw : S.wait.length ≤ 100000) (hρ : ∀ k, ρ k ≠ none → w0.heap.size ≤ k)
    (log : List UInt8) (hl : log = layB smN 0 (edtB (wholeE V))) :
    Calls Tryz.prog 20 #[.pointer (some ⟨b, 0, none⟩), .int .i64 (u : Int), .agg #[tv, .int .i64 n0, .int .i64 V.lg, .int .i64 V.ls]] w (BegTo B w b ρ u log V (begF smN S u log)) := by
  have hmn := (manN_len hu).2
  have hme : mayE (wholeE V) := mayE_whole hV.good
  have hll : log.length ≤ 7000000 := by rw [hl]; exact whole_any smN_len hme 0
  obtain ⟨R1, h1⟩ : ∃ R, layNew S (manN u) log = R := ⟨_, rfl⟩
  have hw1 : R1.2.wait.length ≤ 100002 := by have := layNew_wait S (manN u) log; rw [h1] at this; omega
  obtain ⟨R2, h2⟩ : ∃ R, layNew R1.2 curN (ptrB smN u) = R := ⟨_, rfl⟩
  obtain ⟨R3, h3⟩ : ∃ R, R2.2.syncDir = R := ⟨_, rfl⟩
  have hL : begF smN S u log = if R1.1 = 0 then (if R2.1 = 0 then R3 else R2) else R1 := by
    unfold begF thenF
    rw [h1]
    simp only [h2, h3]
  rw [hL]
  clear hL
  obtain ⟨G, hG⟩ : ∃ G, (if R1.1 = 0 then (if R2.1 = 0 then R3 else R2) else R1) = G := ⟨_, rfl⟩
  rw [hG]
  have HE : Hid (∀ W, Below w.heap.size w W → BlkAt W w.heap.size #[tv, .int .i64 n0, .int .i64 V.lg, .int .i64 V.ls] 56 → Calls Tryz.prog 51 #[.pointer (some ⟨w.heap.size, 0, none⟩)] W (EditTo W V)) := Lib.hid fun W hW hb => vedit_any ((hV.below hW).at hb)
  have HN : Hid (∀ v W, EdAt W v (wholeE V) → Calls Tryz.prog 50 #[v] W fun e w' => ∃ y, e = .returned (.tuple #[y, .int .i64 0]) ∧ OwnB W.heap.size w' y (edtB (wholeE V)) ∧ Below W.heap.size W w') := Lib.hid fun v W hv => by
    have h9 := edEncode_any v _ ⟨good_ok hV.good, Nat.le_trans hV.good.few (by decide), Nat.zero_le _⟩ W hv
    refine h9.mono ?_
    rintro e w' ⟨y, rfl, k1, -, k2⟩
    exact ⟨y, by rw [show chkE (wholeE V) = 0 from if_pos hme], k1 hme, k2⟩
  have HRA : Hid (∀ v W, Below w.heap.size w W → RdB W v (edtB (wholeE V)) → Calls Tryz.prog 52 #[.int .i64 0, v] W (MkB log W)) := Lib.hid fun v W hW hv => by
    have := rcAppend_any 0 (by omega) v _ (by have := edtB_any hme; omega) W ((hG0.below h0).1.below hW) hv
    rwa [← hl] at this
  have HMN : Hid (∀ W, Below w.heap.size w W → Calls Tryz.prog 38 #[.int .i64 (u : Int)] W fun e w' => e = .returned (.string (manN u)) ∧ Below W.heap.size W w') := Lib.hid fun W hW => manName_any u (by omega) W ((hG0.below h0).2.below hW)
  have HP1 : Hid (∀ v W, Below w.heap.size w W → RdB W v log → (∀ k, v.ownBlock = some k → w.heap.size ≤ k ∧ k < W.heap.size) → Calls Tryz.prog 53 #[.pointer (some ⟨b, 0, none⟩), .string (manN u), v] W (OpAt W b ρ R1)) := Lib.hid fun v W hW hv hk => by
    have := mput_any W b ρ S (h.below hW) (manN u) (by omega) v log hv (fun k e => by
      cases hr : ρ k with
      | none => rfl
      | some r => obtain ⟨L, hL⟩ := h; have := hL.top k (by rw [hr]; simp); have := hk k e; omega) (fun k e => (hk k e).2) (by omega) (by omega)
    rwa [h1] at this
  have HPT : Hid (∀ ρ1 W, FsAt W b ρ1 R1.2 → UpdF (fun k => ρ k ≠ none) w W → (∀ k, ρ1 k ≠ none → ρ k ≠ none ∨ w.heap.size ≤ k) → Calls Tryz.prog 54 #[.int .i64 (u : Int)] W (MkB (ptrB smN u) W)) := Lib.hid fun ρ1 W t1 t2 t3 => pointer_any u (by omega) W (hG0.below (h0.trans (t2.below h0.size fun k hk f => by have := hρ k f; omega))).1
  have HP2 : Hid (∀ ρ1 v W, FsAt W b ρ1 R1.2 → RdB W v (ptrB smN u) → OutF ρ1 v → (∀ k, v.ownBlock = some k → k < W.heap.size) → Calls Tryz.prog 53 #[.pointer (some ⟨b, 0, none⟩), .string ⟨#[67, 85, 82, 82, 69, 78, 84]⟩, v] W (OpAt W b ρ1 R2)) := Lib.hid fun ρ1 v W t1 hv ho hk => by
    have := mput_any W b ρ1 R1.2 t1 curN (by decide) v _ hv ho hk (by rw [ptrB_len smN_len]; omega) (by omega)
    rwa [h2] at this
  have HSD : Hid (∀ ρ1 W, FsAt W b ρ1 R2.2 → Calls Tryz.prog 55 #[.pointer (some ⟨b, 0, none⟩)] W (OpAt W b ρ1 R3)) := Lib.hid fun ρ1 W t1 => by
    have := syncDir_any W b ρ1 R2.2 t1
    rwa [h3] at this
  have HG := Lib.hid hG.symm
  have HV := Lib.hid hV
  have HTO := Lib.hid hto
  have HF := Lib.hid h
  have HTOP : Hid (∀ k, ρ k ≠ none → k < w.heap.size) := Lib.hid (by obtain ⟨L, hL⟩ := h; exact hL.top)
  obtain ⟨c1, S1⟩ := R1
  obtain ⟨c2, S2⟩ := R2
  obtain ⟨c3, S3⟩ := R3
  dsimp only at *
  unfold OpAt at HP1 HP2 HSD
  have HBX : Hid (∃ g, w.heap.size = g) := Lib.hid ⟨_, rfl⟩
  obtain ⟨g, hg⟩ := HBX.out
  have HX := Lib.hid (BlkAt.new w #[tv, .int .i64 n0, .int .i64 V.lg, .int .i64 V.ls] 56)
  have HB1 := Lib.hid ((Below.refl w.heap.size w).alloc (Nat.le_refl _) (.cells #[tv, .int .i64 n0, .int .i64 V.lg, .int .i64 V.ls] 56))
  have HGE := Lib.hid hg
  rw [hg] at HX HE
  clear h hV hto hG0 h0 hρ hu hw hl hmn hme hll h1 h2 h3 hw1 hG HBX
  go_enter Tryz.func20, Tryz.ntmps20
  go_wp2_with fail
  clear hg
  generalize w.alloc (.cells #[tv, .int .i64 n0, .int .i64 V.lg, .int .i64 V.ls] 56) = w1 at *
  refine (HE.out w1 (by have := HB1.out; rwa [HGE.out] at this) HX.out).mono ?_
  rintro e w2 ⟨x, rfl, ho, hb⟩
  have HB2 := Lib.hid (HB1.out.trans (hb.mono HB1.out.size))
  have HX2 := Lib.hid (HX.out.below hb)
  have HED := Lib.hid (HN.out (.agg #[.int .i64 V.nx, .int .i64 V.lg, .int .i64 V.ls, x, .slice none 0 0]) w2 ⟨x, _, rfl, ho.rd encTbf_len, RdV.nil _ _ _⟩)
  obtain ⟨aU, cU, rfl⟩ := fil_form ho
  clear ho hb HE HB1 HX HN
  generalize V.fs.length = nU at *
  go_wp2_with fail
  refine HED.out.mono ?_
  rintro e w3 ⟨y, rfl, hy, hb⟩
  have HB3 := Lib.hid (HB2.out.trans (hb.mono HB2.out.size))
  have HX3 := Lib.hid (HX2.out.below hb)
  have HR3 := Lib.hid (HRA.out y w3 HB3.out hy.rd)
  obtain ⟨ay, ny, cy, rfl, -⟩ := hy.form
  clear hy hb HED HB2 HX2 HRA
  go_wp2_with fail
  refine HR3.out.mono ?_
  rintro e w4 ⟨z, rfl, hz, hb⟩
  have HB4 := Lib.hid (HB3.out.trans (hb.mono HB3.out.size))
  have HX4 := Lib.hid (HX3.out.below hb)
  obtain ⟨az, nz, cz, rfl, hnz, -⟩ := hz.form
  have HNZ := Lib.hid hnz
  have HZ4 := Lib.hid hz
  have HZK : Hid (∀ k, (Value.slice az nz cz).ownBlock = some k → w.heap.size ≤ k) := Lib.hid fun k hk => Nat.le_trans HB3.out.size (hz.where k hk).1
  have HM4 := Lib.hid (HMN.out w4 HB4.out)
  clear hz hb hnz HR3 HB3 HX3 HMN
  go_wp2_with fail
  refine HM4.out.mono ?_
  rintro e w5 ⟨rfl, hb⟩
  have HB5 := Lib.hid (HB4.out.trans (hb.mono HB4.out.size))
  have HX5 := Lib.hid (HX4.out.below hb)
  have HZ5 := Lib.hid (HZ4.out.below hb)
  have HPU := Lib.hid (HP1.out (.slice az nz cz) w5 HB5.out HZ5.out.rd fun k hk => ⟨HZK.out k hk, (HZ5.out.where k hk).2⟩)
  clear hb HB4 HX4 HZ4 HM4 HP1
  generalize manN u = NM at *
  go_wp2_with fail
  refine HPU.out.mono ?_
  rintro e w6 ⟨rfl, ρ1, t1, t2, t3⟩
  have HT1 := Lib.hid (And.intro t1 (fs_step (UpdF.of HB5.out) (fun k hk => Or.inl hk) t2 t3))
  have HX6 := Lib.hid (show BlkAt w6 g #[tv, .int .i64 n0, .int .i64 V.lg, .int .i64 V.ls] 56 from (t2.block g HX5.out.lt fun f => by have := HTOP.out g f; have := HGE.out; omega).trans HX5.out)
  have HG1 := Lib.hid (roles_none (by
    cases e : ρ g with
    | none => rfl
    | some r => have := HTOP.out g (by rw [e]; simp); have := HGE.out; omega) HX5.out.lt t3)
  have HPT6 := Lib.hid (HPT.out ρ1 w6 t1 HT1.out.2.1 HT1.out.2.2)
  clear t1 t2 t3 HPU HX5 HB5 HZ5 HPT
  by_cases hc1 : c1 = 0
  rotate_left
  · have d1 : (c1 != 0) = true := by rw [bne_iff_ne]; exact hc1
    obtain rfl : G = (c1, S1) := by have := HG.out; simpa [hc1] using this
    have HNC := Lib.hid hc1
    clear hc1
    go_wp2_with fail
    go_ret2
    exact .inr ⟨HNC.out, rfl, ρ1, HT1.out⟩
  subst hc1
  go_wp2_with fail
  refine HPT6.out.mono ?_
  rintro e w7 ⟨x7, rfl, o7, b7⟩
  have HX7 := Lib.hid (HX6.out.below b7)
  have HT7 : Hid (FsAt w7 b ρ1 S1 ∧ UpdF (fun k => ρ k ≠ none) w w7 ∧ ∀ k, ρ1 k ≠ none → ρ k ≠ none ∨ w.heap.size ≤ k) := Lib.hid ⟨HT1.out.1.below b7, HT1.out.2.1.trans (UpdF.of b7), HT1.out.2.2⟩
  have HP7 := Lib.hid (HP2.out ρ1 x7 w7 HT7.out.1 o7.rd (fun k hk => by
    cases hr : ρ1 k with
    | none => rfl
    | some r => obtain ⟨L, hL⟩ := HT1.out.1; have := hL.top k (by rw [hr]; simp); have := (o7.where k hk).1; omega) fun k hk => (o7.where k hk).2)
  obtain ⟨a7, n7, c7, rfl, -⟩ := o7.form
  clear o7 b7 HX6 HT1 HPT6 HP2
  go_wp2_with fail
  refine HP7.out.mono ?_
  rintro e w8 ⟨rfl, ρ2, t1, t2, t3⟩
  have HT2 := Lib.hid (And.intro t1 (fs_step HT7.out.2.1 HT7.out.2.2 t2 t3))
  have HX8 := Lib.hid (show BlkAt w8 g #[tv, .int .i64 n0, .int .i64 V.lg, .int .i64 V.ls] 56 from (t2.block g HX7.out.lt fun f => f HG1.out).trans HX7.out)
  have HG2 := Lib.hid (roles_none HG1.out HX7.out.lt t3)
  have HS8 := Lib.hid (HSD.out ρ2 w8 t1)
  clear t1 t2 t3 HP7 HX7 HT7 HSD
  by_cases hc2 : c2 = 0
  rotate_left
  · have d1 : (c2 != 0) = true := by rw [bne_iff_ne]; exact hc2
    obtain rfl : G = (c2, S2) := by have := HG.out; simpa [hc2] using this
    have HNC := Lib.hid hc2
    clear hc2
    go_wp2_with fail
    go_ret2
    exact .inr ⟨HNC.out, rfl, ρ2, HT2.out⟩
  subst hc2
  go_wp2_with fail
  refine HS8.out.mono ?_
  rintro e w9 ⟨rfl, ρ3, t1, t2, t3⟩
  have HT3 := Lib.hid (And.intro t1 (fs_step HT2.out.2.1 HT2.out.2.2 t2 t3))
  have HX9 := Lib.hid (show BlkAt w9 g #[tv, .int .i64 n0, .int .i64 V.lg, .int .i64 V.ls] 56 from (t2.block g HX8.out.lt fun f => f HG2.out).trans HX8.out)
  clear t1 t2 t3 HS8 HT2 HX8
  by_cases hc3 : c3 = 0
  rotate_left
  · have d1 : (c3 != 0) = true := by rw [bne_iff_ne]; exact hc3
    obtain rfl : G = (c3, S3) := by have := HG.out; simpa [hc3] using this
    have HNC := Lib.hid hc3
    clear hc3
    go_wp2_with fail
    go_ret2
    exact .inr ⟨HNC.out, rfl, ρ3, HT3.out⟩
  subst hc3
  obtain ⟨y0, y1, y2, y3⟩ := cell4_of HX9.out
  go_wp2_with fail
  obtain rfl : G = (0, S3) := by have := HG.out; simpa using this
  have hal := (Below.refl w9.heap.size w9).alloc (Nat.le_refl _) (.cells (manC b ⟨u, nz, false, false, false⟩ tv n0 V.lg V.ls) 65)
  have hr : ∀ k, tv.ownBlock = some k → k < w.heap.size := row_lt HV.out.row
  have hman : ManAt B (w9.alloc (.cells (manC b ⟨u, nz, false, false, false⟩ tv n0 V.lg V.ls) 65)) b w9.heap.size ρ3 S3 ⟨u, nz, false, false, false⟩ V := by
    refine ⟨HT3.out.1.below hal, ?_, tv, n0, BlkAt.new _ _ _, (HV.out.upd HT3.out.2.1 fun k hk f => f (HTO.out k hk)).below hal, fun k hk => roles_none (HTO.out k hk) (hr k hk) HT3.out.2.2⟩
    cases e : ρ3 w9.heap.size with
    | none => rfl
    | some r => obtain ⟨L, hL⟩ := HT3.out.1; have := hL.top w9.heap.size (by rw [e]; simp); omega
  have hnz := HNZ.out
  subst hnz
  go_ret2
  exact .inl ⟨rfl, w9.heap.size, ρ3, rfl, HT3.out.2.1.size, hman, HT3.out.2.1.trans (UpdF.of hal), HT3.out.2.2⟩
end Go.Proofs.YtmmkgopnccfiiaaGreatDoor
