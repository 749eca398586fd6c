/- The walk of the law EntryApart. -/
import Derived.Test.YtgofniepdpbciaaEntLawR
namespace Go.Proofs.Ytgofniepdpbciaa
set_option linter.unusedVariables false
open Go.RowKit
def sameB (a b : Ent) : Bool := decide (a.norm = b.norm) && decide (a.seq = b.seq) && decide (a.kind = b.kind)
theorem apart_facts (a b c : Ent) : (ltB a b = true → ltB b c = true → ltB a c = true) ∧ ((ltB a b = true ∧ ltB b a = false ∧ sameB a b = false) ∨ (ltB a b = false ∧ ltB b a = true ∧ sameB a b = false) ∨ (ltB a b = false ∧ ltB b a = false ∧ sameB a b = true)) := by
  refine ⟨fun h k => ltB_yes (ltE_trans (of_decide_eq_true h) (of_decide_eq_true k)), ?_⟩
  have hs : ∀ a b : Ent, ltE a b → sameB a b = false := by
    intro a b h
    unfold sameB
    rw [Bool.eq_false_iff]
    simp only [ne_eq, Bool.and_eq_true, decide_eq_true_eq]
    rintro ⟨⟨e1, e2⟩, e3⟩
    unfold ltE at h
    rcases h with h | ⟨-, h | ⟨-, h⟩⟩
    · rw [e1] at h; exact bl_irr _ h
    · omega
    · omega
  rcases ltE_tri a b with h | ⟨e1, e2, e3⟩ | h
  · exact .inl ⟨ltB_yes h, ltB_no (ltE_asym h), hs a b h⟩
  · refine .inr (.inr ⟨ltB_no fun h => ?_, ltB_no fun h => ?_, by simp [sameB, e1, e2, e3]⟩)
    · unfold ltE at h
      rcases h with h | ⟨-, h | ⟨-, h⟩⟩
      · rw [e1] at h; exact bl_irr _ h
      · omega
      · omega
    · unfold ltE at h
      rcases h with h | ⟨-, h | ⟨-, h⟩⟩
      · rw [e1] at h; exact bl_irr _ h
      · omega
      · omega
  · have := hs b a h
    refine .inr (.inl ⟨ltB_no (ltE_asym h), ltB_yes h, ?_⟩)
    unfold sameB at this ⊢
    rw [← this]
    simp only [eq_comm]
set_option maxHeartbeats 8000000 in
set_option maxRecDepth 100000 in
theorem eapart_raw (xn : ByteArray) (xq xk : Int) (xsp xv : ByteArray) (yn : ByteArray) (yq yk : Int) (ysp yv : ByteArray) (zn : ByteArray) (zq zk : Int) (zsp zv : ByteArray) (hx : (⟨xn, xq, xk, xsp, xv⟩ : Ent).ok) (hy : (⟨yn, yq, yk, ysp, yv⟩ : Ent).ok) (hz : (⟨zn, zq, zk, zsp, zv⟩ : Ent).ok) (w : World) :
    Calls Try.prog 5 #[.agg #[.string xn, .int .i64 xq, .int .i64 xk, .string xsp, .string xv], .agg #[.string yn, .int .i64 yq, .int .i64 yk, .string ysp, .string yv], .agg #[.string zn, .int .i64 zq, .int .i64 zk, .string zsp, .string zv]] w fun e w' => e = .returned (.bool true) ∧ Below w.heap.size w w' := by
  have HCx := Lib.hid (ecut_any (⟨xn, xq, xk, xsp, xv⟩ : Ent) hx)
  have HCy := Lib.hid (ecut_any (⟨yn, yq, yk, ysp, yv⟩ : Ent) hy)
  have HCz := Lib.hid (ecut_any (⟨zn, zq, zk, zsp, zv⟩ : Ent) hz)
  clear hx hy hz
  go_enter Try.func5, Try.ntmps5
  go_wp2_with fail
  obtain ⟨w1, hw1⟩ : ∃ w1, ((w.alloc (.cells #[.string xn, .int .i64 xq, .int .i64 xk, .string xsp, .string xv] 23)).alloc (.cells #[.string yn, .int .i64 yq, .int .i64 yk, .string ysp, .string yv] 23)).alloc (.cells #[.string zn, .int .i64 zq, .int .i64 zk, .string zsp, .string zv] 23) = w1 := ⟨_, rfl⟩
  have H1 : Hid (Below w.heap.size w w1 ∧ Row5 w1 (w.heap.size) (.string xn) (.int .i64 xq) (.int .i64 xk) (.string xsp) (.string xv) ∧ Row5 w1 (w.heap.size + 1) (.string yn) (.int .i64 yq) (.int .i64 yk) (.string ysp) (.string yv) ∧ Row5 w1 (w.heap.size + 1 + 1) (.string zn) (.int .i64 zq) (.int .i64 zk) (.string zsp) (.string zv)) := Lib.hid (by
    rw [← hw1]
    have a2 := Row5.new (w.alloc (.cells #[.string xn, .int .i64 xq, .int .i64 xk, .string xsp, .string xv] 23)) (.string yn) (.int .i64 yq) (.int .i64 yk) (.string ysp) (.string yv) 23
    have a3 := Row5.new ((w.alloc (.cells #[.string xn, .int .i64 xq, .int .i64 xk, .string xsp, .string xv] 23)).alloc (.cells #[.string yn, .int .i64 yq, .int .i64 yk, .string ysp, .string yv] 23)) (.string zn) (.int .i64 zq) (.int .i64 zk) (.string zsp) (.string zv) 23
    have b2 := (Below.refl _ (w.alloc (.cells #[.string xn, .int .i64 xq, .int .i64 xk, .string xsp, .string xv] 23))).alloc (Nat.le_refl _) (.cells #[.string yn, .int .i64 yq, .int .i64 yk, .string ysp, .string yv] 23)
    have b3 := (Below.refl _ ((w.alloc (.cells #[.string xn, .int .i64 xq, .int .i64 xk, .string xsp, .string xv] 23)).alloc (.cells #[.string yn, .int .i64 yq, .int .i64 yk, .string ysp, .string yv] 23))).alloc (Nat.le_refl _) (.cells #[.string zn, .int .i64 zq, .int .i64 zk, .string zsp, .string zv] 23)
    refine ⟨(((Below.refl _ w).alloc (Nat.le_refl _) _).alloc (by simp) _).alloc (by simp; omega) _, ((Row5.new w (.string xn) (.int .i64 xq) (.int .i64 xk) (.string xsp) (.string xv) 23).below b2 (by simp)).below b3 (by simp; omega), ?_, ?_⟩
    · have := a2.below b3 (by simp)
      simpa using this
    · simpa using a3)
  rw [hw1]
  clear hw1
  refine (ebegun_any _).mono ?_
  rintro e w2 ⟨rfl, hb'⟩
  have H2 : Hid (Below w.heap.size w w2 ∧ Row5 w2 (w.heap.size) (.string xn) (.int .i64 xq) (.int .i64 xk) (.string xsp) (.string xv) ∧ Row5 w2 (w.heap.size + 1) (.string yn) (.int .i64 yq) (.int .i64 yk) (.string ysp) (.string yv) ∧ Row5 w2 (w.heap.size + 1 + 1) (.string zn) (.int .i64 zq) (.int .i64 zk) (.string zsp) (.string zv)) := Lib.hid ⟨H1.out.1.trans (hb'.mono H1.out.1.size), H1.out.2.1.below hb' H1.out.2.1.2.2, H1.out.2.2.1.below hb' H1.out.2.2.1.2.2, H1.out.2.2.2.below hb' H1.out.2.2.2.2.2⟩
  clear hb' H1
  go_wp2_with fail
  refine beginK (Below w2.heap.size w2) 6 (by kernel_rfl) (Below.refl _ _).drew (fun hHeld => ?_)
  refine takeK (i := 0) (k := 12) (v := .agg #[.string xn, .int .i64 xq, .int .i64 xk, .string xsp, .string xv]) rfl rfl (by kernel_rfl) (by kernel_rfl) (by kernel_rfl) [0] rfl (by decide) (by kernel_rfl) (fun _ _ _ h => h) (by kernel_rfl) ?_ (by assumption) ?_
  · intro W hSw; obtain ⟨⟨d0, d1, d2, d3, d4⟩, -, -⟩ := H2.out.2.1.below hSw H2.out.2.1.2.2; first | (go_simp; done) | go_simp
  try simp only [Act.put, List.setIfInBounds_toArray, List.set_cons_zero, List.set_cons_succ]
  refine takeK (i := 2) (k := 14) (v := .agg #[.string yn, .int .i64 yq, .int .i64 yk, .string ysp, .string yv]) rfl rfl (by kernel_rfl) (by kernel_rfl) (by kernel_rfl) [5, 3, 2] rfl (by decide) (by kernel_rfl) (fun _ _ _ h => h) (by kernel_rfl) ?_ (by assumption) ?_
  · intro W hSw; obtain ⟨⟨d0, d1, d2, d3, d4⟩, -, -⟩ := H2.out.2.2.1.below hSw H2.out.2.2.1.2.2; first | (go_simp; done) | go_simp
  try simp only [Act.put, List.setIfInBounds_toArray, List.set_cons_zero, List.set_cons_succ]
  refine takeK (i := 4) (k := 16) (v := .agg #[.string zn, .int .i64 zq, .int .i64 zk, .string zsp, .string zv]) rfl rfl (by kernel_rfl) (by kernel_rfl) (by kernel_rfl) [5, 4] rfl (by decide) (by kernel_rfl) (fun _ _ _ h => h) (by kernel_rfl) ?_ (by assumption) ?_
  · intro W hSw; obtain ⟨⟨d0, d1, d2, d3, d4⟩, -, -⟩ := H2.out.2.2.2.below hSw H2.out.2.2.2.2.2; first | (go_simp; done) | go_simp
  try simp only [Act.put, List.setIfInBounds_toArray, List.set_cons_zero, List.set_cons_succ]
  refine oneK (i := 1) (by kernel_rfl) rfl (fun K hK => ?_)
  go_simp
  refine (HCx.out _).mono ?_
  rintro e w3 ⟨⟨an, aq, ak, asp, av⟩, rfl, -, -, -, -, -, hb3⟩
  have hHeld3 : Below w2.heap.size w2 w3 := hHeld.trans (hb3.mono (by simp))
  refine hK.out _ _ (fun _ => hHeld3) (fun hHx => ?_)
  clear hK K hHx hb3
  try simp only [Act.put, List.setIfInBounds_toArray, List.set_cons_zero, List.set_cons_succ]
  refine oneK (i := 3) (by kernel_rfl) rfl (fun K hK => ?_)
  go_simp
  refine (HCy.out _).mono ?_
  rintro e w4 ⟨⟨bn, bq, bk, bsp, bv⟩, rfl, -, -, -, -, -, hb3⟩
  have hHeld4 : Below w2.heap.size w2 w4 := hHeld3.trans (hb3.mono hHeld3.size)
  refine hK.out _ _ (fun _ => hHeld4) (fun hHx => ?_)
  clear hK K hHx hb3
  try simp only [Act.put, List.setIfInBounds_toArray, List.set_cons_zero, List.set_cons_succ]
  refine oneK (i := 5) (by kernel_rfl) rfl (fun K hK => ?_)
  go_simp
  refine (HCz.out _).mono ?_
  rintro e w5 ⟨⟨cn, cq, ck, csp, cv⟩, rfl, -, -, -, -, -, hb3⟩
  have hHeld5 : Below w2.heap.size w2 w5 := hHeld4.trans (hb3.mono hHeld4.size)
  refine hK.out _ _ (fun _ => hHeld5) (fun hHx => ?_)
  clear hK K hHx hb3
  try simp only [Act.put, List.setIfInBounds_toArray, List.set_cons_zero, List.set_cons_succ]
  have H5 : Hid (Below w.heap.size w w5 ∧ Row5 w5 (w.heap.size) (.string xn) (.int .i64 xq) (.int .i64 xk) (.string xsp) (.string xv) ∧ Row5 w5 (w.heap.size + 1) (.string yn) (.int .i64 yq) (.int .i64 yk) (.string ysp) (.string yv) ∧ Row5 w5 (w.heap.size + 1 + 1) (.string zn) (.int .i64 zq) (.int .i64 zk) (.string zsp) (.string zv)) := Lib.hid ⟨H2.out.1.trans (hHeld5.mono H2.out.1.size), H2.out.2.1.below hHeld5 H2.out.2.1.2.2, H2.out.2.2.1.below hHeld5 H2.out.2.2.1.2.2, H2.out.2.2.2.below hHeld5 H2.out.2.2.2.2.2⟩
  clear H2 hHeld hHeld3 hHeld4 hHeld5 HCx HCy HCz
  obtain ⟨-, ⟨⟨a0, a1, a2, a3, a4⟩, ⟨f0, f1, f2, f3, f4⟩, hga⟩, ⟨⟨b0, b1, b2, b3, b4⟩, ⟨g0, g1, g2, g3, g4⟩, hgb⟩, ⟨⟨e0, e1, e2, e3, e4⟩, ⟨h0, h1, h2, h3, h4⟩, hgc⟩⟩ := id H5.out
  unfold Ent.v
  refine oneK (i := 6) (by kernel_rfl) rfl (fun K hK => ?_)
  go_simp
  refine hK.out _ _ (fun h => by have h' : true = false := h; cases h') (fun hHx => ?_)
  clear hK K hHx
  try simp only [Act.put, List.setIfInBounds_toArray, List.set_cons_zero, List.set_cons_succ]
  refine oneK (i := 7) (by kernel_rfl) rfl (fun K hK => ?_)
  go_simp
  refine hK.out _ _ (fun h => by have h' : true = false := h; cases h') (fun hHx => ?_)
  clear hK K hHx
  try simp only [Act.put, List.setIfInBounds_toArray, List.set_cons_zero, List.set_cons_succ]
  refine oneK (i := 8) (by kernel_rfl) rfl (fun K hK => ?_)
  go_simp
  refine hK.out _ _ (fun h => by have h' : true = false := h; cases h') (fun hHx => ?_)
  clear hK K hHx
  try simp only [Act.put, List.setIfInBounds_toArray, List.set_cons_zero, List.set_cons_succ]
  refine doneK (by kernel_rfl) ?_ _
  obtain ⟨w6, hw6⟩ : ∃ w6, (((((((((((((((w5.setCell ⟨w.heap.size, 0, none⟩ (.string an)).setCell ⟨w.heap.size, 1, none⟩ (.int .i64 aq)).setCell ⟨w.heap.size, 2, none⟩ (.int .i64 ak)).setCell ⟨w.heap.size, 3, none⟩ (.string asp)).setCell ⟨w.heap.size, 4, none⟩ (.string av)).setCell ⟨w.heap.size + 1, 0, none⟩ (.string bn)).setCell ⟨w.heap.size + 1, 1, none⟩ (.int .i64 bq)).setCell ⟨w.heap.size + 1, 2, none⟩ (.int .i64 bk)).setCell ⟨w.heap.size + 1, 3, none⟩ (.string bsp)).setCell ⟨w.heap.size + 1, 4, none⟩ (.string bv)).setCell ⟨w.heap.size + 1 + 1, 0, none⟩ (.string cn)).setCell ⟨w.heap.size + 1 + 1, 1, none⟩ (.int .i64 cq)).setCell ⟨w.heap.size + 1 + 1, 2, none⟩ (.int .i64 ck)).setCell ⟨w.heap.size + 1 + 1, 3, none⟩ (.string csp)).setCell ⟨w.heap.size + 1 + 1, 4, none⟩ (.string cv)) = w6 := ⟨_, rfl⟩
  have H6 : Hid (Below w.heap.size w w6 ∧ Row5 w6 (w.heap.size) (.string an) (.int .i64 aq) (.int .i64 ak) (.string asp) (.string av) ∧ Row5 w6 (w.heap.size + 1) (.string bn) (.int .i64 bq) (.int .i64 bk) (.string bsp) (.string bv) ∧ Row5 w6 (w.heap.size + 1 + 1) (.string cn) (.int .i64 cq) (.int .i64 ck) (.string csp) (.string cv)) := Lib.hid (by
    rw [← hw6]
    obtain ⟨h1, h2, h3, h4⟩ := H5.out
    refine ⟨?_, ?_, ?_, ?_⟩
    · iterate 15 refine Below.setCell ?_ (by simp; try omega) _
      exact h1
    · iterate 10 refine Row5.other ?_ (by omega) _
      exact h2.put _ _ _ _ _
    · iterate 5 refine Row5.other ?_ (by omega) _
      refine Row5.put (v0 := .string yn) (v1 := .int .i64 yq) (v2 := .int .i64 yk) (v3 := .string ysp) (v4 := .string yv) ?_ _ _ _ _ _
      iterate 5 refine Row5.other ?_ (by omega) _
      exact h3
    · refine Row5.put (v0 := .string zn) (v1 := .int .i64 zq) (v2 := .int .i64 zk) (v3 := .string zsp) (v4 := .string zv) ?_ _ _ _ _ _
      iterate 10 refine Row5.other ?_ (by omega) _
      exact h4)
  rw [hw6]
  clear hw6 H5 a0 a1 a2 a3 a4 f0 f1 f2 f3 f4 hga b0 b1 b2 b3 b4 g0 g1 g2 g3 g4 hgb e0 e1 e2 e3 e4 h0 h1 h2 h3 h4 hgc
  have HF := Lib.hid (apart_facts (⟨an, aq, ak, asp, av⟩ : Ent) (⟨bn, bq, bk, bsp, bv⟩ : Ent) (⟨cn, cq, ck, csp, cv⟩ : Ent))
  have HSM : Hid (sameB (⟨an, aq, ak, asp, av⟩ : Ent) (⟨bn, bq, bk, bsp, bv⟩ : Ent) = (decide (an = bn) && decide (aq = bq) && decide (ak = bk))) := Lib.hid rfl
  have L1 := Lib.hid (less_any (⟨an, aq, ak, asp, av⟩ : Ent) (⟨bn, bq, bk, bsp, bv⟩ : Ent))
  have L2 := Lib.hid (less_any (⟨bn, bq, bk, bsp, bv⟩ : Ent) (⟨cn, cq, ck, csp, cv⟩ : Ent))
  have L3 := Lib.hid (less_any (⟨an, aq, ak, asp, av⟩ : Ent) (⟨cn, cq, ck, csp, cv⟩ : Ent))
  have L4 := Lib.hid (less_any (⟨bn, bq, bk, bsp, bv⟩ : Ent) (⟨an, aq, ak, asp, av⟩ : Ent))
  generalize ltB (⟨an, aq, ak, asp, av⟩ : Ent) (⟨bn, bq, bk, bsp, bv⟩ : Ent) = r1 at *
  generalize ltB (⟨bn, bq, bk, bsp, bv⟩ : Ent) (⟨cn, cq, ck, csp, cv⟩ : Ent) = r2 at *
  generalize ltB (⟨an, aq, ak, asp, av⟩ : Ent) (⟨cn, cq, ck, csp, cv⟩ : Ent) = r3 at *
  generalize ltB (⟨bn, bq, bk, bsp, bv⟩ : Ent) (⟨an, aq, ak, asp, av⟩ : Ent) = q1 at *
  generalize sameB (⟨an, aq, ak, asp, av⟩ : Ent) (⟨bn, bq, bk, bsp, bv⟩ : Ent) = sm at *
  unfold Ent.v at L1 L2 L3 L4
  obtain ⟨-, ⟨⟨a0, a1, a2, a3, a4⟩, -, hga⟩, ⟨⟨b0, b1, b2, b3, b4⟩, -, hgb⟩, ⟨⟨e0, e1, e2, e3, e4⟩, -, hgc⟩⟩ := id H6.out
  go_upto_region 5 with fail
  go_cut [31] (fun c wx => c = .bool false ∧ Hid (Below w.heap.size w wx ∧ Row5 wx (w.heap.size) (.string an) (.int .i64 aq) (.int .i64 ak) (.string asp) (.string av) ∧ Row5 wx (w.heap.size + 1) (.string bn) (.int .i64 bq) (.int .i64 bk) (.string bsp) (.string bv) ∧ Row5 wx (w.heap.size + 1 + 1) (.string cn) (.int .i64 cq) (.int .i64 ck) (.string csp) (.string cv)))
  case first =>
    go_wp2_with fail
    refine (L1.out _).mono ?_
    rintro e w7 ⟨rfl, hb'⟩
    have H7 : Hid (Below w.heap.size w w7 ∧ Row5 w7 (w.heap.size) (.string an) (.int .i64 aq) (.int .i64 ak) (.string asp) (.string av) ∧ Row5 w7 (w.heap.size + 1) (.string bn) (.int .i64 bq) (.int .i64 bk) (.string bsp) (.string bv) ∧ Row5 w7 (w.heap.size + 1 + 1) (.string cn) (.int .i64 cq) (.int .i64 ck) (.string csp) (.string cv)) := Lib.hid ⟨H6.out.1.trans (hb'.mono H6.out.1.size), H6.out.2.1.below hb' H6.out.2.1.2.2, H6.out.2.2.1.below hb' H6.out.2.2.1.2.2, H6.out.2.2.2.below hb' H6.out.2.2.2.2.2⟩
    clear hb' H6
    clear a0 a1 a2 a3 a4 hga b0 b1 b2 b3 b4 hgb e0 e1 e2 e3 e4 hgc
    obtain ⟨-, ⟨⟨a0, a1, a2, a3, a4⟩, -, hga⟩, ⟨⟨b0, b1, b2, b3, b4⟩, -, hgb⟩, ⟨⟨e0, e1, e2, e3, e4⟩, -, hgc⟩⟩ := id H7.out
    cases r1 with
    | false =>
      go_wp2_with fail
      go_meet
      exact ⟨rfl, H7⟩
    | true =>
      go_wp2_with fail
      refine (L2.out _).mono ?_
      rintro e w8 ⟨rfl, hb'⟩
      have H8 : Hid (Below w.heap.size w w8 ∧ Row5 w8 (w.heap.size) (.string an) (.int .i64 aq) (.int .i64 ak) (.string asp) (.string av) ∧ Row5 w8 (w.heap.size + 1) (.string bn) (.int .i64 bq) (.int .i64 bk) (.string bsp) (.string bv) ∧ Row5 w8 (w.heap.size + 1 + 1) (.string cn) (.int .i64 cq) (.int .i64 ck) (.string csp) (.string cv)) := Lib.hid ⟨H7.out.1.trans (hb'.mono H7.out.1.size), H7.out.2.1.below hb' H7.out.2.1.2.2, H7.out.2.2.1.below hb' H7.out.2.2.1.2.2, H7.out.2.2.2.below hb' H7.out.2.2.2.2.2⟩
      clear hb' H7
      clear a0 a1 a2 a3 a4 hga b0 b1 b2 b3 b4 hgb e0 e1 e2 e3 e4 hgc
      obtain ⟨-, ⟨⟨a0, a1, a2, a3, a4⟩, -, hga⟩, ⟨⟨b0, b1, b2, b3, b4⟩, -, hgb⟩, ⟨⟨e0, e1, e2, e3, e4⟩, -, hgc⟩⟩ := id H8.out
      cases r2 with
      | false =>
        go_wp2_with fail
        go_meet
        exact ⟨rfl, H8⟩
      | true =>
        have h3 : r3 = true := by simpa using HF.out.1
        subst h3
        go_wp2_with fail
        refine (L3.out _).mono ?_
        rintro e w9 ⟨rfl, hb'⟩
        have H9 : Hid (Below w.heap.size w w9 ∧ Row5 w9 (w.heap.size) (.string an) (.int .i64 aq) (.int .i64 ak) (.string asp) (.string av) ∧ Row5 w9 (w.heap.size + 1) (.string bn) (.int .i64 bq) (.int .i64 bk) (.string bsp) (.string bv) ∧ Row5 w9 (w.heap.size + 1 + 1) (.string cn) (.int .i64 cq) (.int .i64 ck) (.string csp) (.string cv)) := Lib.hid ⟨H8.out.1.trans (hb'.mono H8.out.1.size), H8.out.2.1.below hb' H8.out.2.1.2.2, H8.out.2.2.1.below hb' H8.out.2.2.1.2.2, H8.out.2.2.2.below hb' H8.out.2.2.2.2.2⟩
        clear hb' H8
        clear a0 a1 a2 a3 a4 hga b0 b1 b2 b3 b4 hgb e0 e1 e2 e3 e4 hgc
        obtain ⟨-, ⟨⟨a0, a1, a2, a3, a4⟩, -, hga⟩, ⟨⟨b0, b1, b2, b3, b4⟩, -, hgb⟩, ⟨⟨e0, e1, e2, e3, e4⟩, -, hgc⟩⟩ := id H9.out
        go_wp2_with fail
        go_meet
        exact ⟨rfl, H9⟩
  case rest =>
  obtain ⟨rfl, H7⟩ := hcut
  clear L2 L3 H6
  clear a0 a1 a2 a3 a4 hga b0 b1 b2 b3 b4 hgb e0 e1 e2 e3 e4 hgc
  obtain ⟨-, ⟨⟨a0, a1, a2, a3, a4⟩, -, hga⟩, ⟨⟨b0, b1, b2, b3, b4⟩, -, hgb⟩, ⟨⟨e0, e1, e2, e3, e4⟩, -, hgc⟩⟩ := id H7.out
  go_upto_region 7 with fail
  go_cut [8] (fun c wx => c = .bool sm ∧ Hid (Below w.heap.size w wx ∧ Row5 wx (w.heap.size) (.string an) (.int .i64 aq) (.int .i64 ak) (.string asp) (.string av) ∧ Row5 wx (w.heap.size + 1) (.string bn) (.int .i64 bq) (.int .i64 bk) (.string bsp) (.string bv) ∧ Row5 wx (w.heap.size + 1 + 1) (.string cn) (.int .i64 cq) (.int .i64 ck) (.string csp) (.string cv)))
  case first =>
    by_cases s1 : an = bn
    · subst s1
      have hnn := bs_refl an
      by_cases s2 : aq = bq
      · subst s2
        by_cases s3 : ak = bk
        · subst s3
          have hsm : Hid (sm = true) := Lib.hid (by rw [HSM.out]; simp)
          clear HSM HF
          go_wp2_with fail
          go_meet
          exact ⟨by rw [hsm.out], H7⟩
        · have hkk : (ak == bk) = false := by rw [beq_eq_false_iff_ne]; exact s3
          have hsm : Hid (sm = false) := Lib.hid (by rw [HSM.out]; simp [s3])
          clear HSM HF
          go_wp2_with fail
          go_meet
          exact ⟨by rw [hsm.out], H7⟩
      · have hqq : (aq == bq) = false := by rw [beq_eq_false_iff_ne]; exact s2
        have hsm : Hid (sm = false) := Lib.hid (by rw [HSM.out]; simp [s2])
        clear HSM HF
        go_wp2_with fail
        go_meet
        exact ⟨by rw [hsm.out], H7⟩
    · have hnn := bs_ne s1
      have hsm : Hid (sm = false) := Lib.hid (by rw [HSM.out]; simp [s1])
      clear HSM HF
      go_wp2_with fail
      go_meet
      exact ⟨by rw [hsm.out], H7⟩
  case rest =>
  obtain ⟨rfl, H8⟩ := hcut
  clear H7 HSM
  clear a0 a1 a2 a3 a4 hga b0 b1 b2 b3 b4 hgb e0 e1 e2 e3 e4 hgc
  obtain ⟨-, ⟨⟨a0, a1, a2, a3, a4⟩, -, hga⟩, ⟨⟨b0, b1, b2, b3, b4⟩, -, hgb⟩, ⟨⟨e0, e1, e2, e3, e4⟩, -, hgc⟩⟩ := id H8.out
  go_upto_region 8 with fail
  go_cut [58] (fun c wx => c = .bool false ∧ Hid (Below w.heap.size w wx ∧ Row5 wx (w.heap.size) (.string an) (.int .i64 aq) (.int .i64 ak) (.string asp) (.string av) ∧ Row5 wx (w.heap.size + 1) (.string bn) (.int .i64 bq) (.int .i64 bk) (.string bsp) (.string bv) ∧ Row5 wx (w.heap.size + 1 + 1) (.string cn) (.int .i64 cq) (.int .i64 ck) (.string csp) (.string cv)))
  case first =>
    go_wp2_with fail
    refine (L1.out _).mono ?_
    rintro e w9 ⟨rfl, hb'⟩
    have H9 : Hid (Below w.heap.size w w9 ∧ Row5 w9 (w.heap.size) (.string an) (.int .i64 aq) (.int .i64 ak) (.string asp) (.string av) ∧ Row5 w9 (w.heap.size + 1) (.string bn) (.int .i64 bq) (.int .i64 bk) (.string bsp) (.string bv) ∧ Row5 w9 (w.heap.size + 1 + 1) (.string cn) (.int .i64 cq) (.int .i64 ck) (.string csp) (.string cv)) := Lib.hid ⟨H8.out.1.trans (hb'.mono H8.out.1.size), H8.out.2.1.below hb' H8.out.2.1.2.2, H8.out.2.2.1.below hb' H8.out.2.2.1.2.2, H8.out.2.2.2.below hb' H8.out.2.2.2.2.2⟩
    clear hb' H8
    clear a0 a1 a2 a3 a4 hga b0 b1 b2 b3 b4 hgb e0 e1 e2 e3 e4 hgc
    obtain ⟨-, ⟨⟨a0, a1, a2, a3, a4⟩, -, hga⟩, ⟨⟨b0, b1, b2, b3, b4⟩, -, hgb⟩, ⟨⟨e0, e1, e2, e3, e4⟩, -, hgc⟩⟩ := id H9.out
    cases r1 with
    | false =>
      go_wp2_with fail
      go_meet
      exact ⟨rfl, H9⟩
    | true =>
      have h3 : q1 = false := by rcases HF.out.2 with h | h | h <;> simp_all
      subst h3
      go_wp2_with fail
      refine (L4.out _).mono ?_
      rintro e w10 ⟨rfl, hb'⟩
      have H10 : Hid (Below w.heap.size w w10 ∧ Row5 w10 (w.heap.size) (.string an) (.int .i64 aq) (.int .i64 ak) (.string asp) (.string av) ∧ Row5 w10 (w.heap.size + 1) (.string bn) (.int .i64 bq) (.int .i64 bk) (.string bsp) (.string bv) ∧ Row5 w10 (w.heap.size + 1 + 1) (.string cn) (.int .i64 cq) (.int .i64 ck) (.string csp) (.string cv)) := Lib.hid ⟨H9.out.1.trans (hb'.mono H9.out.1.size), H9.out.2.1.below hb' H9.out.2.1.2.2, H9.out.2.2.1.below hb' H9.out.2.2.1.2.2, H9.out.2.2.2.below hb' H9.out.2.2.2.2.2⟩
      clear hb' H9
      clear a0 a1 a2 a3 a4 hga b0 b1 b2 b3 b4 hgb e0 e1 e2 e3 e4 hgc
      obtain ⟨-, ⟨⟨a0, a1, a2, a3, a4⟩, -, hga⟩, ⟨⟨b0, b1, b2, b3, b4⟩, -, hgb⟩, ⟨⟨e0, e1, e2, e3, e4⟩, -, hgc⟩⟩ := id H10.out
      go_wp2_with fail
      go_meet
      exact ⟨rfl, H10⟩
  case rest =>
  obtain ⟨rfl, H11⟩ := hcut
  clear H8
  clear a0 a1 a2 a3 a4 hga b0 b1 b2 b3 b4 hgb e0 e1 e2 e3 e4 hgc
  obtain ⟨-, ⟨⟨a0, a1, a2, a3, a4⟩, -, hga⟩, ⟨⟨b0, b1, b2, b3, b4⟩, -, hgb⟩, ⟨⟨e0, e1, e2, e3, e4⟩, -, hgc⟩⟩ := id H11.out
  rcases id HF.out.2 with ⟨rfl, rfl, rfl⟩ | ⟨rfl, rfl, rfl⟩ | ⟨rfl, rfl, rfl⟩
  · clear HF
    go_wp2_with fail
    refine (L1.out _).mono ?_
    rintro e w12 ⟨rfl, hb'⟩
    have H12 : Hid (Below w.heap.size w w12 ∧ Row5 w12 (w.heap.size) (.string an) (.int .i64 aq) (.int .i64 ak) (.string asp) (.string av) ∧ Row5 w12 (w.heap.size + 1) (.string bn) (.int .i64 bq) (.int .i64 bk) (.string bsp) (.string bv) ∧ Row5 w12 (w.heap.size + 1 + 1) (.string cn) (.int .i64 cq) (.int .i64 ck) (.string csp) (.string cv)) := Lib.hid ⟨H11.out.1.trans (hb'.mono H11.out.1.size), H11.out.2.1.below hb' H11.out.2.1.2.2, H11.out.2.2.1.below hb' H11.out.2.2.1.2.2, H11.out.2.2.2.below hb' H11.out.2.2.2.2.2⟩
    clear hb' H11
    clear a0 a1 a2 a3 a4 hga b0 b1 b2 b3 b4 hgb e0 e1 e2 e3 e4 hgc
    obtain ⟨-, ⟨⟨a0, a1, a2, a3, a4⟩, -, hga⟩, ⟨⟨b0, b1, b2, b3, b4⟩, -, hgb⟩, ⟨⟨e0, e1, e2, e3, e4⟩, -, hgc⟩⟩ := id H12.out
    go_wp2_with fail
    go_ret
    exact ⟨rfl, H12.out.1⟩
  · clear HF
    go_wp2_with fail
    refine (L1.out _).mono ?_
    rintro e w12 ⟨rfl, hb'⟩
    have H12 : Hid (Below w.heap.size w w12 ∧ Row5 w12 (w.heap.size) (.string an) (.int .i64 aq) (.int .i64 ak) (.string asp) (.string av) ∧ Row5 w12 (w.heap.size + 1) (.string bn) (.int .i64 bq) (.int .i64 bk) (.string bsp) (.string bv) ∧ Row5 w12 (w.heap.size + 1 + 1) (.string cn) (.int .i64 cq) (.int .i64 ck) (.string csp) (.string cv)) := Lib.hid ⟨H11.out.1.trans (hb'.mono H11.out.1.size), H11.out.2.1.below hb' H11.out.2.1.2.2, H11.out.2.2.1.below hb' H11.out.2.2.1.2.2, H11.out.2.2.2.below hb' H11.out.2.2.2.2.2⟩
    clear hb' H11
    clear a0 a1 a2 a3 a4 hga b0 b1 b2 b3 b4 hgb e0 e1 e2 e3 e4 hgc
    obtain ⟨-, ⟨⟨a0, a1, a2, a3, a4⟩, -, hga⟩, ⟨⟨b0, b1, b2, b3, b4⟩, -, hgb⟩, ⟨⟨e0, e1, e2, e3, e4⟩, -, hgc⟩⟩ := id H12.out
    go_wp2_with fail
    refine (L4.out _).mono ?_
    rintro e w13 ⟨rfl, hb'⟩
    have H13 : Hid (Below w.heap.size w w13 ∧ Row5 w13 (w.heap.size) (.string an) (.int .i64 aq) (.int .i64 ak) (.string asp) (.string av) ∧ Row5 w13 (w.heap.size + 1) (.string bn) (.int .i64 bq) (.int .i64 bk) (.string bsp) (.string bv) ∧ Row5 w13 (w.heap.size + 1 + 1) (.string cn) (.int .i64 cq) (.int .i64 ck) (.string csp) (.string cv)) := Lib.hid ⟨H12.out.1.trans (hb'.mono H12.out.1.size), H12.out.2.1.below hb' H12.out.2.1.2.2, H12.out.2.2.1.below hb' H12.out.2.2.1.2.2, H12.out.2.2.2.below hb' H12.out.2.2.2.2.2⟩
    clear hb' H12
    clear a0 a1 a2 a3 a4 hga b0 b1 b2 b3 b4 hgb e0 e1 e2 e3 e4 hgc
    obtain ⟨-, ⟨⟨a0, a1, a2, a3, a4⟩, -, hga⟩, ⟨⟨b0, b1, b2, b3, b4⟩, -, hgb⟩, ⟨⟨e0, e1, e2, e3, e4⟩, -, hgc⟩⟩ := id H13.out
    go_wp2_with fail
    go_ret
    exact ⟨rfl, H13.out.1⟩
  · clear HF
    go_wp2_with fail
    refine (L1.out _).mono ?_
    rintro e w12 ⟨rfl, hb'⟩
    have H12 : Hid (Below w.heap.size w w12 ∧ Row5 w12 (w.heap.size) (.string an) (.int .i64 aq) (.int .i64 ak) (.string asp) (.string av) ∧ Row5 w12 (w.heap.size + 1) (.string bn) (.int .i64 bq) (.int .i64 bk) (.string bsp) (.string bv) ∧ Row5 w12 (w.heap.size + 1 + 1) (.string cn) (.int .i64 cq) (.int .i64 ck) (.string csp) (.string cv)) := Lib.hid ⟨H11.out.1.trans (hb'.mono H11.out.1.size), H11.out.2.1.below hb' H11.out.2.1.2.2, H11.out.2.2.1.below hb' H11.out.2.2.1.2.2, H11.out.2.2.2.below hb' H11.out.2.2.2.2.2⟩
    clear hb' H11
    clear a0 a1 a2 a3 a4 hga b0 b1 b2 b3 b4 hgb e0 e1 e2 e3 e4 hgc
    obtain ⟨-, ⟨⟨a0, a1, a2, a3, a4⟩, -, hga⟩, ⟨⟨b0, b1, b2, b3, b4⟩, -, hgb⟩, ⟨⟨e0, e1, e2, e3, e4⟩, -, hgc⟩⟩ := id H12.out
    go_wp2_with fail
    refine (L4.out _).mono ?_
    rintro e w13 ⟨rfl, hb'⟩
    have H13 : Hid (Below w.heap.size w w13 ∧ Row5 w13 (w.heap.size) (.string an) (.int .i64 aq) (.int .i64 ak) (.string asp) (.string av) ∧ Row5 w13 (w.heap.size + 1) (.string bn) (.int .i64 bq) (.int .i64 bk) (.string bsp) (.string bv) ∧ Row5 w13 (w.heap.size + 1 + 1) (.string cn) (.int .i64 cq) (.int .i64 ck) (.string csp) (.string cv)) := Lib.hid ⟨H12.out.1.trans (hb'.mono H12.out.1.size), H12.out.2.1.below hb' H12.out.2.1.2.2, H12.out.2.2.1.below hb' H12.out.2.2.1.2.2, H12.out.2.2.2.below hb' H12.out.2.2.2.2.2⟩
    clear hb' H12
    clear a0 a1 a2 a3 a4 hga b0 b1 b2 b3 b4 hgb e0 e1 e2 e3 e4 hgc
    obtain ⟨-, ⟨⟨a0, a1, a2, a3, a4⟩, -, hga⟩, ⟨⟨b0, b1, b2, b3, b4⟩, -, hgb⟩, ⟨⟨e0, e1, e2, e3, e4⟩, -, hgc⟩⟩ := id H13.out
    go_wp2_with fail
    go_ret
    exact ⟨rfl, H13.out.1⟩
theorem entryApart_walk (w : World) (a : Ent) (ha : a.ok) (b : Ent) (hb : b.ok) (c : Ent) (hc : c.ok) : Calls Try.prog 5 #[a.v, b.v, c.v] w fun e w' => e = .returned (.bool true) ∧ Below w.heap.size w w' := eapart_raw _ _ _ _ _ _ _ _ _ _ _ _ _ _ _ ha hb hc w
end Go.Proofs.Ytgofniepdpbciaa
