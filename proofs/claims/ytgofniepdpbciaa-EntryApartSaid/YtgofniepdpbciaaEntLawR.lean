/- The walk of the law EntryOrder. -/
import Derived.Test.YtgofniepdpbciaaEntLawO
import Derived.Test.YtgofniepdpbciaaTake
namespace Go.Proofs.Ytgofniepdpbciaa
set_option linter.unusedVariables false
open Go.RowKit
theorem Row5.other {w : World} {b c o : Nat} {v0 v1 v2 v3 v4 : Value} (h : Row5 w b v0 v1 v2 v3 v4) (hne : b ≠ c) (u : Value) : Row5 (w.setCell ⟨c, o, none⟩ u) b v0 v1 v2 v3 v4 := by
  obtain ⟨⟨c0, c1, c2, c3, c4⟩, ⟨f0, f1, f2, f3, f4⟩, h5⟩ := h
  refine ⟨⟨?_, ?_, ?_, ?_, ?_⟩, ⟨?_, ?_, ?_, ?_, ?_⟩, by simpa using h5⟩ <;> simp [go_sem, c0, c1, c2, c3, c4, f0, f1, f2, f3, f4]
theorem Row5.put {w : World} {b : Nat} {v0 v1 v2 v3 v4 : Value} (h : Row5 w b v0 v1 v2 v3 v4) (u0 u1 u2 u3 u4 : Value) :
    Row5 (((((w.setCell ⟨b, 0, none⟩ u0).setCell ⟨b, 1, none⟩ u1).setCell ⟨b, 2, none⟩ u2).setCell ⟨b, 3, none⟩ u3).setCell ⟨b, 4, none⟩ u4) b u0 u1 u2 u3 u4 := by
  obtain ⟨⟨c0, c1, c2, c3, c4⟩, ⟨f0, f1, f2, f3, f4⟩, h5⟩ := h
  refine ⟨⟨?_, ?_, ?_, ?_, ?_⟩, ⟨?_, ?_, ?_, ?_, ?_⟩, by simpa using h5⟩ <;> simp [go_sem, c0, c1, c2, c3, c4, f0, f1, f2, f3, f4]
set_option maxHeartbeats 8000000 in
set_option maxRecDepth 100000 in
theorem eorder_raw (an : ByteArray) (aq ak : Int) (asp av bn : ByteArray) (bq bk : Int) (bsp bv : ByteArray) (ha : (⟨an, aq, ak, asp, av⟩ : Ent).ok) (hb : (⟨bn, bq, bk, bsp, bv⟩ : Ent).ok) (w : World) :
    Calls Try.prog 3 #[.agg #[.string an, .int .i64 aq, .int .i64 ak, .string asp, .string av], .agg #[.string bn, .int .i64 bq, .int .i64 bk, .string bsp, .string bv]] w fun e w' => e = .returned (.bool true) ∧ Below w.heap.size w w' := by
  have HCA := Lib.hid (ecut_any ⟨an, aq, ak, asp, av⟩ ha)
  have HCB := Lib.hid (ecut_any ⟨bn, bq, bk, bsp, bv⟩ hb)
  clear ha hb
  go_enter Try.func3, Try.ntmps3
  go_wp2_with fail
  obtain ⟨w1, hw1⟩ : ∃ w1, (w.alloc (.cells #[.string an, .int .i64 aq, .int .i64 ak, .string asp, .string av] 23)).alloc (.cells #[.string bn, .int .i64 bq, .int .i64 bk, .string bsp, .string bv] 23) = w1 := ⟨_, rfl⟩
  have H1 : Hid (Below w.heap.size w w1 ∧ Row5 w1 w.heap.size (.string an) (.int .i64 aq) (.int .i64 ak) (.string asp) (.string av) ∧ Row5 w1 (w.heap.size + 1) (.string bn) (.int .i64 bq) (.int .i64 bk) (.string bsp) (.string bv)) := Lib.hid (by
    rw [← hw1]
    have a2 := Row5.new (w.alloc (.cells #[.string an, .int .i64 aq, .int .i64 ak, .string asp, .string av] 23)) (.string bn) (.int .i64 bq) (.int .i64 bk) (.string bsp) (.string bv) 23
    have b2 := (Below.refl _ (w.alloc (.cells #[.string an, .int .i64 aq, .int .i64 ak, .string asp, .string av] 23))).alloc (Nat.le_refl _) (.cells #[.string bn, .int .i64 bq, .int .i64 bk, .string bsp, .string bv] 23)
    exact ⟨((Below.refl _ w).alloc (Nat.le_refl _) _).alloc (by simp) _, (Row5.new w (.string an) (.int .i64 aq) (.int .i64 ak) (.string asp) (.string av) 23).below b2 (by simp), by simpa using a2⟩)
  rw [hw1]
  clear hw1
  refine (ebegun_any _).mono ?_
  rintro e w2 ⟨rfl, hb'⟩
  have H2 : Hid (Below w.heap.size w w2 ∧ Row5 w2 w.heap.size (.string an) (.int .i64 aq) (.int .i64 ak) (.string asp) (.string av) ∧ Row5 w2 (w.heap.size + 1) (.string bn) (.int .i64 bq) (.int .i64 bk) (.string bsp) (.string bv)) := Lib.hid ⟨H1.out.1.trans (hb'.mono H1.out.1.size), H1.out.2.1.below hb' H1.out.2.1.2.2, H1.out.2.2.below hb' H1.out.2.2.2.2⟩
  clear hb' H1
  go_wp2_with fail
  refine beginK (Below w2.heap.size w2) 4 (by kernel_rfl) (Below.refl _ _).drew (fun hHeld => ?_)
  refine takeK (i := 0) (k := 9) (v := .agg #[.string an, .int .i64 aq, .int .i64 ak, .string asp, .string av]) rfl rfl (by kernel_rfl) (by kernel_rfl) (by kernel_rfl) [0] rfl (by decide) (by kernel_rfl) (fun _ _ _ h => h) (by kernel_rfl) ?_ (by assumption) ?_
  · intro W hSw; obtain ⟨⟨d0, d1, d2, d3, d4⟩, -, -⟩ := H2.out.2.1.below hSw H2.out.2.1.2.2; first | (go_simp; done) | go_simp
  try simp only [Act.put, List.setIfInBounds_toArray, List.set_cons_zero, List.set_cons_succ]
  refine takeK (i := 2) (k := 11) (v := .agg #[.string bn, .int .i64 bq, .int .i64 bk, .string bsp, .string bv]) rfl rfl (by kernel_rfl) (by kernel_rfl) (by kernel_rfl) [3, 2] rfl (by decide) (by kernel_rfl) (fun _ _ _ h => h) (by kernel_rfl) ?_ (by assumption) ?_
  · intro W hSw; obtain ⟨⟨d0, d1, d2, d3, d4⟩, -, -⟩ := H2.out.2.2.below hSw H2.out.2.2.2.2; first | (go_simp; done) | go_simp
  try simp only [Act.put, List.setIfInBounds_toArray, List.set_cons_zero, List.set_cons_succ]
  refine oneK (i := 1) (by kernel_rfl) rfl (fun K hK => ?_)
  go_simp
  refine (HCA.out _).mono ?_
  rintro e w3 ⟨⟨cn, cq, ck, csp, cv⟩, rfl, -, -, -, -, -, hb3⟩
  have hHeld3 : Below w2.heap.size w2 w3 := hHeld.trans (hb3.mono (by simp))
  refine hK.out _ _ (fun _ => hHeld3) (fun _ => ?_)
  clear hK K hb3
  try simp only [Act.put, List.setIfInBounds_toArray, List.set_cons_zero, List.set_cons_succ]
  refine oneK (i := 3) (by kernel_rfl) rfl (fun K hK => ?_)
  go_simp
  refine (HCB.out _).mono ?_
  rintro e w4 ⟨⟨dn, dq, dk, dsp, dv⟩, rfl, -, -, -, -, -, hb4⟩
  have hHeld4 : Below w2.heap.size w2 w4 := hHeld3.trans (hb4.mono hHeld3.size)
  refine hK.out _ _ (fun _ => hHeld4) (fun _ => ?_)
  clear hK K hb4
  try simp only [Act.put, List.setIfInBounds_toArray, List.set_cons_zero, List.set_cons_succ]
  have H4 : Hid (Below w.heap.size w w4 ∧ Row5 w4 w.heap.size (.string an) (.int .i64 aq) (.int .i64 ak) (.string asp) (.string av) ∧ Row5 w4 (w.heap.size + 1) (.string bn) (.int .i64 bq) (.int .i64 bk) (.string bsp) (.string bv)) := Lib.hid ⟨H2.out.1.trans (hHeld4.mono H2.out.1.size), H2.out.2.1.below hHeld4 H2.out.2.1.2.2, H2.out.2.2.below hHeld4 H2.out.2.2.2.2⟩
  clear H2 hHeld hHeld3 hHeld4 HCA HCB
  obtain ⟨-, ⟨⟨a0, a1, a2, a3, a4⟩, ⟨f0, f1, f2, f3, f4⟩, hga⟩, ⟨⟨b0, b1, b2, b3, b4⟩, ⟨g0, g1, g2, g3, g4⟩, hgb⟩⟩ := id H4.out
  unfold Ent.v
  refine oneK (i := 4) (by kernel_rfl) rfl (fun K hK => ?_)
  go_simp
  refine hK.out _ _ (fun h => by have h' : true = false := h; cases h') (fun _ => ?_)
  clear hK K
  try simp only [Act.put, List.setIfInBounds_toArray, List.set_cons_zero, List.set_cons_succ]
  refine oneK (i := 5) (by kernel_rfl) rfl (fun K hK => ?_)
  go_simp
  refine hK.out _ _ (fun h => by have h' : true = false := h; cases h') (fun _ => ?_)
  clear hK K
  try simp only [Act.put, List.setIfInBounds_toArray, List.set_cons_zero, List.set_cons_succ]
  refine doneK (by kernel_rfl) ?_ _
  obtain ⟨w5, hw5⟩ : ∃ w5, ((((((((((w4.setCell ⟨w.heap.size, 0, none⟩ (.string cn)).setCell ⟨w.heap.size, 1, none⟩ (.int .i64 cq)).setCell ⟨w.heap.size, 2, none⟩ (.int .i64 ck)).setCell ⟨w.heap.size, 3, none⟩ (.string csp)).setCell ⟨w.heap.size, 4, none⟩ (.string cv)).setCell ⟨w.heap.size + 1, 0, none⟩ (.string dn)).setCell ⟨w.heap.size + 1, 1, none⟩ (.int .i64 dq)).setCell ⟨w.heap.size + 1, 2, none⟩ (.int .i64 dk)).setCell ⟨w.heap.size + 1, 3, none⟩ (.string dsp)).setCell ⟨w.heap.size + 1, 4, none⟩ (.string dv)) = w5 := ⟨_, rfl⟩
  have H5 : Hid (Below w.heap.size w w5 ∧ Row5 w5 w.heap.size (.string cn) (.int .i64 cq) (.int .i64 ck) (.string csp) (.string cv) ∧ Row5 w5 (w.heap.size + 1) (.string dn) (.int .i64 dq) (.int .i64 dk) (.string dsp) (.string dv)) := Lib.hid (by
    rw [← hw5]
    obtain ⟨h1, h2, h3⟩ := H4.out
    refine ⟨?_, ?_, ?_⟩
    · iterate 10 refine Below.setCell ?_ (by simp) _
      exact h1
    · iterate 5 refine Row5.other ?_ (by omega) _
      exact h2.put _ _ _ _ _
    · refine Row5.put (v0 := .string bn) (v1 := .int .i64 bq) (v2 := .int .i64 bk) (v3 := .string bsp) (v4 := .string bv) ?_ _ _ _ _ _
      iterate 5 refine Row5.other ?_ (by omega) _
      exact h3)
  rw [hw5]
  clear hw5 H4 a0 a1 a2 a3 a4 f0 f1 f2 f3 f4 hga b0 b1 b2 b3 b4 g0 g1 g2 g3 g4 hgb
  obtain ⟨r, hr⟩ : ∃ r, ltB (⟨cn, cq, ck, csp, cv⟩ : Ent) (⟨dn, dq, dk, dsp, dv⟩ : Ent) = r := ⟨_, rfl⟩
  obtain ⟨q, hq⟩ : ∃ q, ltB (⟨dn, dq, dk, dsp, dv⟩ : Ent) (⟨cn, cq, ck, csp, cv⟩ : Ent) = q := ⟨_, rfl⟩
  obtain ⟨z, hz⟩ : ∃ z, eqB (⟨cn, cq, ck, csp, cv⟩ : Ent) (⟨dn, dq, dk, dsp, dv⟩ : Ent) = z := ⟨_, rfl⟩
  have L1 : Hid (∀ w, Calls Try.prog 9 #[(⟨cn, cq, ck, csp, cv⟩ : Ent).v, (⟨dn, dq, dk, dsp, dv⟩ : Ent).v] w fun e w' => e = .returned (.bool r) ∧ Below w.heap.size w w') := Lib.hid fun w => by rw [← hr]; exact less_any _ _ w
  have L2 : Hid (∀ w, Calls Try.prog 10 #[(⟨cn, cq, ck, csp, cv⟩ : Ent).v, (⟨dn, dq, dk, dsp, dv⟩ : Ent).v] w fun e w' => e = .returned (.bool r) ∧ Below w.heap.size w w') := Lib.hid fun w => by rw [← hr]; exact rless_any _ _ w
  have L3 : Hid (∀ w, Calls Try.prog 11 #[(⟨cn, cq, ck, csp, cv⟩ : Ent).v, (⟨dn, dq, dk, dsp, dv⟩ : Ent).v] w fun e w' => e = .returned (.bool z) ∧ Below w.heap.size w w') := Lib.hid fun w => by rw [← hz]; exact eq_any _ _ w
  have L4 : Hid (∀ w, Calls Try.prog 12 #[(⟨cn, cq, ck, csp, cv⟩ : Ent).v, (⟨dn, dq, dk, dsp, dv⟩ : Ent).v] w fun e w' => e = .returned (.bool z) ∧ Below w.heap.size w w') := Lib.hid fun w => by rw [← hz]; exact req_any _ _ w
  have L5 : Hid (∀ w, Calls Try.prog 9 #[(⟨dn, dq, dk, dsp, dv⟩ : Ent).v, (⟨cn, cq, ck, csp, cv⟩ : Ent).v] w fun e w' => e = .returned (.bool q) ∧ Below w.heap.size w w') := Lib.hid fun w => by rw [← hq]; exact less_any _ _ w
  have L6 : Hid (∀ w, Calls Try.prog 10 #[(⟨dn, dq, dk, dsp, dv⟩ : Ent).v, (⟨cn, cq, ck, csp, cv⟩ : Ent).v] w fun e w' => e = .returned (.bool q) ∧ Below w.heap.size w w') := Lib.hid fun w => by rw [← hq]; exact rless_any _ _ w
  clear hr hq hz
  go_wp2_with fail
  refine wp_region_held_drew (S := Below w5.heap.size w5) (by kernel_rfl) (Below.refl _ _).drew (fun hHeld => ?_)
  refine takeYes (i := 0) (k := 13) (v := .agg #[.string cn, .int .i64 cq, .int .i64 ck, .string csp, .string cv]) rfl (by kernel_rfl) (by kernel_rfl) (by kernel_rfl) (by kernel_rfl) (fun _ _ _ h => h) (by kernel_rfl) ?_ (by assumption) ?_
  · intro W hSw; obtain ⟨⟨d0, d1, d2, d3, d4⟩, -, -⟩ := H5.out.2.1.below hSw H5.out.2.1.2.2; first | (go_simp; done) | go_simp
  try simp only [Act.put, List.setIfInBounds_toArray, List.set_cons_zero, List.set_cons_succ]
  refine takeYes (i := 1) (k := 14) (v := .agg #[.string dn, .int .i64 dq, .int .i64 dk, .string dsp, .string dv]) rfl (by kernel_rfl) (by kernel_rfl) (by kernel_rfl) (by kernel_rfl) (fun _ _ _ h => h) (by kernel_rfl) ?_ (by assumption) ?_
  · intro W hSw; obtain ⟨⟨d0, d1, d2, d3, d4⟩, -, -⟩ := H5.out.2.2.below hSw H5.out.2.2.2.2; first | (go_simp; done) | go_simp
  try simp only [Act.put, List.setIfInBounds_toArray, List.set_cons_zero, List.set_cons_succ]
  refine takeYes (i := 3) (k := 16) (v := .agg #[.string cn, .int .i64 cq, .int .i64 ck, .string csp, .string cv]) rfl (by kernel_rfl) (by kernel_rfl) (by kernel_rfl) (by kernel_rfl) (fun _ _ _ h => h) (by kernel_rfl) ?_ (by assumption) ?_
  · intro W hSw; obtain ⟨⟨d0, d1, d2, d3, d4⟩, -, -⟩ := H5.out.2.1.below hSw H5.out.2.1.2.2; first | (go_simp; done) | go_simp
  try simp only [Act.put, List.setIfInBounds_toArray, List.set_cons_zero, List.set_cons_succ]
  refine takeYes (i := 4) (k := 17) (v := .agg #[.string dn, .int .i64 dq, .int .i64 dk, .string dsp, .string dv]) rfl (by kernel_rfl) (by kernel_rfl) (by kernel_rfl) (by kernel_rfl) (fun _ _ _ h => h) (by kernel_rfl) ?_ (by assumption) ?_
  · intro W hSw; obtain ⟨⟨d0, d1, d2, d3, d4⟩, -, -⟩ := H5.out.2.2.below hSw H5.out.2.2.2.2; first | (go_simp; done) | go_simp
  try simp only [Act.put, List.setIfInBounds_toArray, List.set_cons_zero, List.set_cons_succ]
  refine wpAnyH_ready (rs := [2]) (by kernel_rfl) (by simp) (AllReadyH.cons rfl (fun K hK => ?_) AllReadyH.nil)
  go_simp
  refine (L1.out _).mono ?_
  rintro e w6 ⟨rfl, hb'⟩
  have hHeld6 : Below w5.heap.size w5 w6 := hHeld.trans (hb'.mono (by simp))
  refine hK.out _ _ hHeld6 (fun hHeldx => ?_)
  clear hK K hb' hHeldx
  try simp only [Act.put, List.setIfInBounds_toArray, List.set_cons_zero, List.set_cons_succ]
  refine wpAnyH_ready (rs := [5]) (by kernel_rfl) (by simp) (AllReadyH.cons rfl (fun K hK => ?_) AllReadyH.nil)
  go_simp
  refine (L2.out _).mono ?_
  rintro e w7 ⟨rfl, hb'⟩
  have hHeld7 : Below w5.heap.size w5 w7 := hHeld6.trans (hb'.mono hHeld6.size)
  refine hK.out _ _ hHeld7 (fun hHeldx => ?_)
  clear hK K hb' hHeldx
  try simp only [Act.put, List.setIfInBounds_toArray, List.set_cons_zero, List.set_cons_succ]
  refine takeYes (i := 6) (k := 19) (v := .bool true) rfl (by kernel_rfl) (by kernel_rfl) (by kernel_rfl) (by kernel_rfl) (fun _ _ _ h => h) (by kernel_rfl) ?_ (by assumption) ?_
  · intro W hSw; first | (go_simp; done) | go_simp
  try simp only [Act.put, List.setIfInBounds_toArray, List.set_cons_zero, List.set_cons_succ]
  refine takeYes (i := 7) (k := 20) (v := .bool true) rfl (by kernel_rfl) (by kernel_rfl) (by kernel_rfl) (by kernel_rfl) (fun _ _ _ h => h) (by kernel_rfl) ?_ (by assumption) ?_
  · intro W hSw; first | (go_simp; done) | go_simp
  try simp only [Act.put, List.setIfInBounds_toArray, List.set_cons_zero, List.set_cons_succ]
  refine takeYes (i := 8) (k := 21) (v := .agg #[.string cn, .int .i64 cq, .int .i64 ck, .string csp, .string cv]) rfl (by kernel_rfl) (by kernel_rfl) (by kernel_rfl) (by kernel_rfl) (fun _ _ _ h => h) (by kernel_rfl) ?_ (by assumption) ?_
  · intro W hSw; obtain ⟨⟨d0, d1, d2, d3, d4⟩, -, -⟩ := H5.out.2.1.below hSw H5.out.2.1.2.2; first | (go_simp; done) | go_simp
  try simp only [Act.put, List.setIfInBounds_toArray, List.set_cons_zero, List.set_cons_succ]
  refine takeYes (i := 9) (k := 22) (v := .agg #[.string dn, .int .i64 dq, .int .i64 dk, .string dsp, .string dv]) rfl (by kernel_rfl) (by kernel_rfl) (by kernel_rfl) (by kernel_rfl) (fun _ _ _ h => h) (by kernel_rfl) ?_ (by assumption) ?_
  · intro W hSw; obtain ⟨⟨d0, d1, d2, d3, d4⟩, -, -⟩ := H5.out.2.2.below hSw H5.out.2.2.2.2; first | (go_simp; done) | go_simp
  try simp only [Act.put, List.setIfInBounds_toArray, List.set_cons_zero, List.set_cons_succ]
  refine takeYes (i := 11) (k := 24) (v := .agg #[.string cn, .int .i64 cq, .int .i64 ck, .string csp, .string cv]) rfl (by kernel_rfl) (by kernel_rfl) (by kernel_rfl) (by kernel_rfl) (fun _ _ _ h => h) (by kernel_rfl) ?_ (by assumption) ?_
  · intro W hSw; obtain ⟨⟨d0, d1, d2, d3, d4⟩, -, -⟩ := H5.out.2.1.below hSw H5.out.2.1.2.2; first | (go_simp; done) | go_simp
  try simp only [Act.put, List.setIfInBounds_toArray, List.set_cons_zero, List.set_cons_succ]
  refine takeYes (i := 12) (k := 25) (v := .agg #[.string dn, .int .i64 dq, .int .i64 dk, .string dsp, .string dv]) rfl (by kernel_rfl) (by kernel_rfl) (by kernel_rfl) (by kernel_rfl) (fun _ _ _ h => h) (by kernel_rfl) ?_ (by assumption) ?_
  · intro W hSw; obtain ⟨⟨d0, d1, d2, d3, d4⟩, -, -⟩ := H5.out.2.2.below hSw H5.out.2.2.2.2; first | (go_simp; done) | go_simp
  try simp only [Act.put, List.setIfInBounds_toArray, List.set_cons_zero, List.set_cons_succ]
  refine wpAnyH_ready (rs := [10]) (by kernel_rfl) (by simp) (AllReadyH.cons rfl (fun K hK => ?_) AllReadyH.nil)
  go_simp
  refine (L3.out _).mono ?_
  rintro e w8 ⟨rfl, hb'⟩
  have hHeld8 : Below w5.heap.size w5 w8 := hHeld7.trans (hb'.mono hHeld7.size)
  refine hK.out _ _ hHeld8 (fun hHeldx => ?_)
  clear hK K hb' hHeldx
  try simp only [Act.put, List.setIfInBounds_toArray, List.set_cons_zero, List.set_cons_succ]
  refine wpAnyH_ready (rs := [13]) (by kernel_rfl) (by simp) (AllReadyH.cons rfl (fun K hK => ?_) AllReadyH.nil)
  go_simp
  refine (L4.out _).mono ?_
  rintro e w9 ⟨rfl, hb'⟩
  have hHeld9 : Below w5.heap.size w5 w9 := hHeld8.trans (hb'.mono hHeld8.size)
  refine hK.out _ _ hHeld9 (fun hHeldx => ?_)
  clear hK K hb' hHeldx
  try simp only [Act.put, List.setIfInBounds_toArray, List.set_cons_zero, List.set_cons_succ]
  refine takeYes (i := 14) (k := 27) (v := .bool true) rfl (by kernel_rfl) (by kernel_rfl) (by kernel_rfl) (by kernel_rfl) (fun _ _ _ h => h) (by kernel_rfl) ?_ (by assumption) ?_
  · intro W hSw; first | (go_simp; done) | go_simp
  try simp only [Act.put, List.setIfInBounds_toArray, List.set_cons_zero, List.set_cons_succ]
  refine takeYes (i := 15) (k := 28) (v := .bool true) rfl (by kernel_rfl) (by kernel_rfl) (by kernel_rfl) (by kernel_rfl) (fun _ _ _ h => h) (by kernel_rfl) ?_ (by assumption) ?_
  · intro W hSw; first | (go_simp; done) | go_simp
  try simp only [Act.put, List.setIfInBounds_toArray, List.set_cons_zero, List.set_cons_succ]
  refine takeYes (i := 16) (k := 29) (v := .bool true) rfl (by kernel_rfl) (by kernel_rfl) (by kernel_rfl) (by kernel_rfl) (fun _ _ _ h => h) (by kernel_rfl) ?_ (by assumption) ?_
  · intro W hSw; first | (go_simp; done) | go_simp
  try simp only [Act.put, List.setIfInBounds_toArray, List.set_cons_zero, List.set_cons_succ]
  refine takeYes (i := 17) (k := 30) (v := .agg #[.string dn, .int .i64 dq, .int .i64 dk, .string dsp, .string dv]) rfl (by kernel_rfl) (by kernel_rfl) (by kernel_rfl) (by kernel_rfl) (fun _ _ _ h => h) (by kernel_rfl) ?_ (by assumption) ?_
  · intro W hSw; obtain ⟨⟨d0, d1, d2, d3, d4⟩, -, -⟩ := H5.out.2.2.below hSw H5.out.2.2.2.2; first | (go_simp; done) | go_simp
  try simp only [Act.put, List.setIfInBounds_toArray, List.set_cons_zero, List.set_cons_succ]
  refine takeYes (i := 18) (k := 31) (v := .agg #[.string cn, .int .i64 cq, .int .i64 ck, .string csp, .string cv]) rfl (by kernel_rfl) (by kernel_rfl) (by kernel_rfl) (by kernel_rfl) (fun _ _ _ h => h) (by kernel_rfl) ?_ (by assumption) ?_
  · intro W hSw; obtain ⟨⟨d0, d1, d2, d3, d4⟩, -, -⟩ := H5.out.2.1.below hSw H5.out.2.1.2.2; first | (go_simp; done) | go_simp
  try simp only [Act.put, List.setIfInBounds_toArray, List.set_cons_zero, List.set_cons_succ]
  refine takeYes (i := 20) (k := 33) (v := .agg #[.string dn, .int .i64 dq, .int .i64 dk, .string dsp, .string dv]) rfl (by kernel_rfl) (by kernel_rfl) (by kernel_rfl) (by kernel_rfl) (fun _ _ _ h => h) (by kernel_rfl) ?_ (by assumption) ?_
  · intro W hSw; obtain ⟨⟨d0, d1, d2, d3, d4⟩, -, -⟩ := H5.out.2.2.below hSw H5.out.2.2.2.2; first | (go_simp; done) | go_simp
  try simp only [Act.put, List.setIfInBounds_toArray, List.set_cons_zero, List.set_cons_succ]
  refine takeYes (i := 21) (k := 34) (v := .agg #[.string cn, .int .i64 cq, .int .i64 ck, .string csp, .string cv]) rfl (by kernel_rfl) (by kernel_rfl) (by kernel_rfl) (by kernel_rfl) (fun _ _ _ h => h) (by kernel_rfl) ?_ (by assumption) ?_
  · intro W hSw; obtain ⟨⟨d0, d1, d2, d3, d4⟩, -, -⟩ := H5.out.2.1.below hSw H5.out.2.1.2.2; first | (go_simp; done) | go_simp
  try simp only [Act.put, List.setIfInBounds_toArray, List.set_cons_zero, List.set_cons_succ]
  refine wpAnyH_ready (rs := [19]) (by kernel_rfl) (by simp) (AllReadyH.cons rfl (fun K hK => ?_) AllReadyH.nil)
  go_simp
  refine (L5.out _).mono ?_
  rintro e w10 ⟨rfl, hb'⟩
  have hHeld10 : Below w5.heap.size w5 w10 := hHeld9.trans (hb'.mono hHeld9.size)
  refine hK.out _ _ hHeld10 (fun hHeldx => ?_)
  clear hK K hb' hHeldx
  try simp only [Act.put, List.setIfInBounds_toArray, List.set_cons_zero, List.set_cons_succ]
  refine wpAnyH_ready (rs := [22]) (by kernel_rfl) (by simp) (AllReadyH.cons rfl (fun K hK => ?_) AllReadyH.nil)
  go_simp
  refine (L6.out _).mono ?_
  rintro e w11 ⟨rfl, hb'⟩
  have hHeld11 : Below w5.heap.size w5 w11 := hHeld10.trans (hb'.mono hHeld10.size)
  refine hK.out _ _ hHeld11 (fun hHeldx => ?_)
  clear hK K hb' hHeldx
  try simp only [Act.put, List.setIfInBounds_toArray, List.set_cons_zero, List.set_cons_succ]
  refine takeYes (i := 23) (k := 36) (v := .bool true) rfl (by kernel_rfl) (by kernel_rfl) (by kernel_rfl) (by kernel_rfl) (fun _ _ _ h => h) (by kernel_rfl) ?_ (by assumption) ?_
  · intro W hSw; first | (go_simp; done) | go_simp
  try simp only [Act.put, List.setIfInBounds_toArray, List.set_cons_zero, List.set_cons_succ]
  refine takeYes (i := 24) (k := 37) (v := .bool true) rfl (by kernel_rfl) (by kernel_rfl) (by kernel_rfl) (by kernel_rfl) (fun _ _ _ h => h) (by kernel_rfl) ?_ (by assumption) ?_
  · intro W hSw; first | (go_simp; done) | go_simp
  try simp only [Act.put, List.setIfInBounds_toArray, List.set_cons_zero, List.set_cons_succ]
  refine takeYes (i := 25) (k := 4) (v := .bool true) rfl (by kernel_rfl) (by kernel_rfl) (by kernel_rfl) (by kernel_rfl) (fun _ _ _ h => h) (by kernel_rfl) ?_ (by assumption) ?_
  · intro W hSw; first | (go_simp; done) | go_simp
  try simp only [Act.put, List.setIfInBounds_toArray, List.set_cons_zero, List.set_cons_succ]
  refine wpAnyH_done (by kernel_rfl) ?_ _
  go_wp2_with fail
  go_ret
  exact ⟨rfl, H5.out.1.trans (hHeld11.mono H5.out.1.size)⟩
theorem entryOrder_walk (w : World) (a : Ent) (ha : a.ok) (b : Ent) (hb : b.ok) : Calls Try.prog 3 #[a.v, b.v] w fun e w' => e = .returned (.bool true) ∧ Below w.heap.size w w' := eorder_raw _ _ _ _ _ _ _ _ _ _ ha hb w
end Go.Proofs.Ytgofniepdpbciaa
