/- The walks of edit's putNumber and putFile. -/
import Derived.Test.YtpaoabdjbdlalaaEdtFile
import Derived.Test.YtpaoabdjbdlalaaRowRecs
import Derived.Test.YtpaoabdjbdlalaaCatB
import Derived.Test.YtpaoabdjbdlalaaNumPut
import Derived.Test.YtpaoabdjbdlalaaTake
import Derived.Deep.RegionHeld3
namespace Go.Proofs.Ytpaoabdjbdlalaa
set_option linter.unusedVariables false
set_option maxRecDepth 100000
open Go.RowKit
set_option maxHeartbeats 400000 in
theorem edPutN_any (n : Int) (h0 : 0 ≤ n) (h1 : n ≤ 1125899906842624) (w : World) : Calls Try.prog 15 #[.int .i64 n] w (MkB (edNumB n) w) := by
  obtain ⟨m, rfl⟩ := Int.eq_ofNat_of_zero_le h0
  have HP : Hid (∀ w, Calls Try.prog 28 #[.int .u64 (m : Int)] w (MkB (edNumB (m : Int)) w)) := Lib.hid fun w => put_any m (by omega) w
  have hwk : IntKind.u64.wrap (m : Int) = (m : Int) := wrap_u64 m (by omega)
  generalize edNumB (m : Int) = P at *
  go_enter Try.func15, Try.ntmps15
  go_wp2_with fail
  refine (HP.out _).mono ?_
  rintro e w' ⟨v, rfl, h1, h2⟩
  go_wp2
  go_ret
  exact ⟨_, rfl, h1, h2⟩
set_option maxHeartbeats 8000000 in
theorem edPutF_any (f : Tbf) (hf : ¬ badTb f) (w : World) : Calls Try.prog 16 #[f.v] w (MkB (tbfB f) w) := by
  obtain ⟨⟨a1, a2⟩, ⟨a3, a4⟩, ⟨a5, a6⟩, a7, a8, -⟩ := notBadTb hf
  have HPN := Lib.hid (fun W => edPutN_any f.num (by omega) a2 W)
  have HPL := Lib.hid (fun W => edPutN_any f.lvl a3 (by omega) W)
  have HPS := Lib.hid (fun W => edPutN_any f.siz a5 (by omega) W)
  have HTL := Lib.hid (fun W => text_putL f.lo (by omega) W)
  have HTH := Lib.hid (fun W => text_putL f.hi (by omega) W)
  have HE : Hid ([edNumB f.num, edNumB f.lvl, edNumB f.siz, textE f.lo.data.toList, textE f.hi.data.toList].flatMap id = tbfB f) := Lib.hid (by simp [tbfB])
  have HEL : Hid (([edNumB f.num, edNumB f.lvl, edNumB f.siz, textE f.lo.data.toList, textE f.hi.data.toList].flatMap id).length ≤ 1000000000000) := Lib.hid (by
    rw [HE.out]; have := tbfB_len hf; omega)
  generalize tbfB f = R at *
  obtain ⟨x1, x2, x3, x4, x5⟩ := f
  unfold Tbf.v
  simp only at HPN HPL HPS HTL HTH HE HEL ⊢
  generalize edNumB x1 = PN at *
  generalize edNumB x2 = PL at *
  generalize edNumB x3 = PS at *
  generalize textE x4.data.toList = TL at *
  generalize textE x5.data.toList = TH at *
  clear a1 a2 a3 a4 a5 a6 a7 a8 hf
  go_enter Try.func16, Try.ntmps16
  go_wp2_with fail
  have HX := BlkAt.new w #[.int .i64 x1, .int .i64 x2, .int .i64 x3, .string x4, .string x5] 39
  have B : Below w.heap.size w (w.alloc (.cells #[.int .i64 x1, .int .i64 x2, .int .i64 x3, .string x4, .string x5] 39)) := (Below.refl _ w).alloc (Nat.le_refl _) _
  obtain ⟨b, hbq⟩ : ∃ b, w.heap.size = b := ⟨_, rfl⟩
  rw [hbq] at HX B ⊢
  generalize w.alloc (.cells #[.int .i64 x1, .int .i64 x2, .int .i64 x3, .string x4, .string x5] 39) = w1 at *
  rw [← hbq] at B

  refine wp_region_held_drew (S := Below w1.heap.size w1) (by kernel_rfl) (Below.refl _ _).drew (fun hHeld => ?_)
  generalize w1.drew = wd2 at hHeld ⊢
  refine wpAnyH_shift hHeld ?_
  replace B : Below w.heap.size w wd2 := B.trans (hHeld.mono B.size)
  replace HX := HX.below hHeld
  clear hHeld
  refine takeYes (i := 0) (k := 3) (v := .pointer (some ⟨b, 0, none⟩)) rfl (by kernel_rfl) (by kernel_rfl) (by kernel_rfl) (by kernel_rfl) (fun _ _ _ h => h) (by kernel_rfl) ?_ (Below.refl _ _) ?_
  · intro W hSw; first | (go_simp; done) | go_simp
  try simp only [Act.put, List.setIfInBounds_toArray, List.set_cons_zero, List.set_cons_succ]
  refine takeYes (i := 1) (k := 4) (v := .int .i64 x1) rfl (by kernel_rfl) (by kernel_rfl) (by kernel_rfl) (by kernel_rfl) (fun _ _ _ h => h) (by kernel_rfl) ?_ (Below.refl _ _) ?_
  · intro W hSw; have d0 : W.cell? ⟨b, 0, none⟩ = some (.int .i64 x1) := (HX.below hSw).at 0; first | (go_simp; done) | go_simp
  try simp only [Act.put, List.setIfInBounds_toArray, List.set_cons_zero, List.set_cons_succ]
  refine takeYes (i := 3) (k := 6) (v := .pointer (some ⟨b, 1, none⟩)) rfl (by kernel_rfl) (by kernel_rfl) (by kernel_rfl) (by kernel_rfl) (fun _ _ _ h => h) (by kernel_rfl) ?_ (Below.refl _ _) ?_
  · intro W hSw; first | (go_simp; done) | go_simp
  try simp only [Act.put, List.setIfInBounds_toArray, List.set_cons_zero, List.set_cons_succ]
  refine takeYes (i := 4) (k := 7) (v := .int .i64 x2) rfl (by kernel_rfl) (by kernel_rfl) (by kernel_rfl) (by kernel_rfl) (fun _ _ _ h => h) (by kernel_rfl) ?_ (Below.refl _ _) ?_
  · intro W hSw; have d1 : W.cell? ⟨b, 1, none⟩ = some (.int .i64 x2) := (HX.below hSw).at 1; first | (go_simp; done) | go_simp
  try simp only [Act.put, List.setIfInBounds_toArray, List.set_cons_zero, List.set_cons_succ]
  refine takeYes (i := 6) (k := 9) (v := .pointer (some ⟨b, 2, none⟩)) rfl (by kernel_rfl) (by kernel_rfl) (by kernel_rfl) (by kernel_rfl) (fun _ _ _ h => h) (by kernel_rfl) ?_ (Below.refl _ _) ?_
  · intro W hSw; first | (go_simp; done) | go_simp
  try simp only [Act.put, List.setIfInBounds_toArray, List.set_cons_zero, List.set_cons_succ]
  refine takeYes (i := 7) (k := 10) (v := .int .i64 x3) rfl (by kernel_rfl) (by kernel_rfl) (by kernel_rfl) (by kernel_rfl) (fun _ _ _ h => h) (by kernel_rfl) ?_ (Below.refl _ _) ?_
  · intro W hSw; have d2 : W.cell? ⟨b, 2, none⟩ = some (.int .i64 x3) := (HX.below hSw).at 2; first | (go_simp; done) | go_simp
  try simp only [Act.put, List.setIfInBounds_toArray, List.set_cons_zero, List.set_cons_succ]
  refine takeYes (i := 9) (k := 12) (v := .pointer (some ⟨b, 3, none⟩)) rfl (by kernel_rfl) (by kernel_rfl) (by kernel_rfl) (by kernel_rfl) (fun _ _ _ h => h) (by kernel_rfl) ?_ (Below.refl _ _) ?_
  · intro W hSw; first | (go_simp; done) | go_simp
  try simp only [Act.put, List.setIfInBounds_toArray, List.set_cons_zero, List.set_cons_succ]
  refine takeYes (i := 10) (k := 13) (v := .string x4) rfl (by kernel_rfl) (by kernel_rfl) (by kernel_rfl) (by kernel_rfl) (fun _ _ _ h => h) (by kernel_rfl) ?_ (Below.refl _ _) ?_
  · intro W hSw; have d3 : W.cell? ⟨b, 3, none⟩ = some (.string x4) := (HX.below hSw).at 3; first | (go_simp; done) | go_simp
  try simp only [Act.put, List.setIfInBounds_toArray, List.set_cons_zero, List.set_cons_succ]
  refine takeYes (i := 12) (k := 15) (v := .pointer (some ⟨b, 4, none⟩)) rfl (by kernel_rfl) (by kernel_rfl) (by kernel_rfl) (by kernel_rfl) (fun _ _ _ h => h) (by kernel_rfl) ?_ (Below.refl _ _) ?_
  · intro W hSw; first | (go_simp; done) | go_simp
  try simp only [Act.put, List.setIfInBounds_toArray, List.set_cons_zero, List.set_cons_succ]
  refine takeYes (i := 13) (k := 16) (v := .string x5) rfl (by kernel_rfl) (by kernel_rfl) (by kernel_rfl) (by kernel_rfl) (fun _ _ _ h => h) (by kernel_rfl) ?_ (Below.refl _ _) ?_
  · intro W hSw; have d4 : W.cell? ⟨b, 4, none⟩ = some (.string x5) := (HX.below hSw).at 4; first | (go_simp; done) | go_simp
  try simp only [Act.put, List.setIfInBounds_toArray, List.set_cons_zero, List.set_cons_succ]
  refine wpAnyH_ready (rs := [2]) (by kernel_rfl) (by simp) (AllReadyH.cons rfl (fun K hK => ?_) AllReadyH.nil)
  go_simp
  refine (HPN.out _).mono ?_
  rintro e wd3 ⟨v5, rfl, o5, hb3⟩
  obtain ⟨a5, n5, c5, rfl, -⟩ := id o5.form
  have R5 := OwnB.rd o5
  clear o5
  refine hK.out _ _ hb3 (fun _ => wpAnyH_shift hb3 ?_)
  clear hK K
  replace B : Below w.heap.size w wd3 := B.trans (hb3.mono B.size)
  replace HX := HX.below hb3
  clear hb3
  try simp only [Act.put, List.setIfInBounds_toArray, List.set_cons_zero, List.set_cons_succ]
  refine wpAnyH_ready (rs := [5]) (by kernel_rfl) (by simp) (AllReadyH.cons rfl (fun K hK => ?_) AllReadyH.nil)
  go_simp
  refine (HPL.out _).mono ?_
  rintro e wd4 ⟨v8, rfl, o8, hb4⟩
  obtain ⟨a8, n8, c8, rfl, -⟩ := id o8.form
  have R8 := OwnB.rd o8
  clear o8
  refine hK.out _ _ hb4 (fun _ => wpAnyH_shift hb4 ?_)
  clear hK K
  replace B : Below w.heap.size w wd4 := B.trans (hb4.mono B.size)
  replace HX := HX.below hb4
  replace R5 := R5.below hb4
  clear hb4
  try simp only [Act.put, List.setIfInBounds_toArray, List.set_cons_zero, List.set_cons_succ]
  refine wpAnyH_ready (rs := [8]) (by kernel_rfl) (by simp) (AllReadyH.cons rfl (fun K hK => ?_) AllReadyH.nil)
  go_simp
  refine (HPS.out _).mono ?_
  rintro e wd5 ⟨v11, rfl, o11, hb5⟩
  obtain ⟨a11, n11, c11, rfl, -⟩ := id o11.form
  have R11 := OwnB.rd o11
  clear o11
  refine hK.out _ _ hb5 (fun _ => wpAnyH_shift hb5 ?_)
  clear hK K
  replace B : Below w.heap.size w wd5 := B.trans (hb5.mono B.size)
  replace HX := HX.below hb5
  replace R5 := R5.below hb5
  replace R8 := R8.below hb5
  clear hb5
  try simp only [Act.put, List.setIfInBounds_toArray, List.set_cons_zero, List.set_cons_succ]
  refine wpAnyH_ready (rs := [11]) (by kernel_rfl) (by simp) (AllReadyH.cons rfl (fun K hK => ?_) AllReadyH.nil)
  go_simp
  refine (HTL.out _).mono ?_
  rintro e wd6 ⟨v14, rfl, o14, hb6⟩
  obtain ⟨a14, n14, c14, rfl, -⟩ := id o14.form
  have R14 := OwnB.rd o14
  clear o14
  refine hK.out _ _ hb6 (fun _ => wpAnyH_shift hb6 ?_)
  clear hK K
  replace B : Below w.heap.size w wd6 := B.trans (hb6.mono B.size)
  replace HX := HX.below hb6
  replace R5 := R5.below hb6
  replace R8 := R8.below hb6
  replace R11 := R11.below hb6
  clear hb6
  try simp only [Act.put, List.setIfInBounds_toArray, List.set_cons_zero, List.set_cons_succ]
  refine wpAnyH_ready (rs := [14]) (by kernel_rfl) (by simp) (AllReadyH.cons rfl (fun K hK => ?_) AllReadyH.nil)
  go_simp
  refine (HTH.out _).mono ?_
  rintro e wd7 ⟨v17, rfl, o17, hb7⟩
  obtain ⟨a17, n17, c17, rfl, -⟩ := id o17.form
  have R17 := OwnB.rd o17
  clear o17
  refine hK.out _ _ hb7 (fun _ => wpAnyH_shift hb7 ?_)
  clear hK K
  replace B : Below w.heap.size w wd7 := B.trans (hb7.mono B.size)
  replace HX := HX.below hb7
  replace R5 := R5.below hb7
  replace R8 := R8.below hb7
  replace R11 := R11.below hb7
  replace R14 := R14.below hb7
  clear hb7
  try simp only [Act.put, List.setIfInBounds_toArray, List.set_cons_zero, List.set_cons_succ]
  refine wpAnyH_ready (rs := [15]) (by kernel_rfl) (by simp) (AllReadyH.cons rfl (fun K hK => ?_) AllReadyH.nil)
  go_simp
  have HC := Lib.hid (concat_any _ [PN, PL, PS, TL, TH] ⟨HEL.out, by simp⟩ _ (rdRecs_row wd7 [.slice a5 n5 c5, .slice a8 n8 c8, .slice a11 n11 c11, .slice a14 n14 c14, .slice a17 n17 c17] _ (.cons R5 (.cons R8 (.cons R11 (.cons R14 (.cons R17 .nil))))) _ rfl 5 rfl (by decide) (by unfold maxLen; decide)))
  rw [HE.out] at HC
  obtain ⟨hh17, hh17q⟩ : ∃ x, wd7.heap.size = x := ⟨_, rfl⟩
  obtain ⟨wd8, hwx⟩ : ∃ x, wd7.alloc (.cells #[.slice a5 n5 c5, .slice a8 n8 c8, .slice a11 n11 c11, .slice a14 n14 c14, .slice a17 n17 c17] 28) = x := ⟨_, rfl⟩
  rw [hwx] at HC ⊢
  rw [hh17q] at HC ⊢
  have hb8 : Below wd7.heap.size wd7 wd8 := by rw [← hwx]; exact (Below.refl _ _).alloc (Nat.le_refl _) _
  clear hwx hh17q
  refine hK.out _ _ hb8 (fun _ => wpAnyH_shift hb8 ?_)
  clear hK K
  replace B : Below w.heap.size w wd8 := B.trans (hb8.mono B.size)
  replace HX := HX.below hb8
  replace R5 := R5.below hb8
  replace R8 := R8.below hb8
  replace R11 := R11.below hb8
  replace R14 := R14.below hb8
  replace R17 := R17.below hb8
  clear hb8
  try simp only [Act.put, List.setIfInBounds_toArray, List.set_cons_zero, List.set_cons_succ]
  refine wpAnyH_ready (rs := [16]) (by kernel_rfl) (by simp) (AllReadyH.cons rfl (fun K hK => ?_) AllReadyH.nil)
  go_simp
  refine (HC.out).mono ?_
  rintro e wd9 ⟨v19, rfl, o19, hb9⟩
  obtain ⟨a19, n19, c19, rfl, -⟩ := id o19.form
  have OO := OwnB.base (B' := w.heap.size) o19 B.size
  clear HC
  refine hK.out _ _ hb9 (fun _ => wpAnyH_shift hb9 ?_)
  clear hK K
  replace B : Below w.heap.size w wd9 := B.trans (hb9.mono B.size)
  replace HX := HX.below hb9
  replace R5 := R5.below hb9
  replace R8 := R8.below hb9
  replace R11 := R11.below hb9
  replace R14 := R14.below hb9
  replace R17 := R17.below hb9
  clear hb9
  try simp only [Act.put, List.setIfInBounds_toArray, List.set_cons_zero, List.set_cons_succ]
  refine takeYes (i := 17) (k := 2) (v := .slice a19 n19 c19) rfl (by kernel_rfl) (by kernel_rfl) (by kernel_rfl) (by kernel_rfl) (fun _ _ _ h => h) (by kernel_rfl) ?_ (Below.refl _ _) ?_
  · intro W hSw; first | (go_simp; done) | go_simp
  try simp only [Act.put, List.setIfInBounds_toArray, List.set_cons_zero, List.set_cons_succ]
  refine wpAnyH_done (by kernel_rfl) ?_ _
  go_wp2_with fail
  go_ret
  exact ⟨_, rfl, OO, B⟩
end Go.Proofs.Ytpaoabdjbdlalaa
