/- The walk of the law NormOrder. -/
import Derived.Test.YtmglnpnkkidnnaaDoorNormLaw2
namespace Go.Proofs.YtmglnpnkkidnnaaDoor
set_option linter.unusedVariables false
open Go.RowKit
theorem class_nn (c : Int) : 0 ≤ classP c := by unfold classP; exact Int.natCast_nonneg _
/-- Two marks behind whatever: what the order tells. -/
theorem order_law (f a b : Int) (ha : apartP a = [a]) (hb : apartP b = [b]) (hn : a ≠ b) :
    decide (charsP [f, a, b] = charsP [f, b, a]) = !(classP a == 0 || classP b == 0 || classP a == classP b) := by
  have e1 : charsP [f, a, b] = orderP classP (apartP f ++ [a, b]) := by unfold charsP; simp [ha, hb]
  have e2 : charsP [f, b, a] = orderP classP (apartP f ++ [b, a]) := by unfold charsP; simp [ha, hb]
  have na := class_nn a
  have nb := class_nn b
  by_cases h : classP a ≤ 0 ∨ classP b ≤ 0 ∨ classP a = classP b
  · rw [e1, e2, decide_eq_false (order_seen (apartP f) a b hn h)]
    symm
    simp only [Bool.not_eq_false', Bool.or_eq_true, beq_iff_eq]
    omega
  · have two : ∀ (u v : Int), apartP f ++ [u, v] = (apartP f ++ [u]) ++ [v] := fun u v => by simp
    rw [e1, e2, two a b, two b a, orderP_snoc, orderP_snoc, orderP_snoc, orderP_snoc, ins_comm _ a b (by omega) (by omega) (by omega), decide_eq_true rfl]
    symm
    simp only [Bool.not_eq_true', Bool.or_eq_false_iff, beq_eq_false_iff_ne]
    omega
theorem rd_three (w : World) (a b c : Int) : RdI (w.alloc (.cells #[.int .i64 a, .int .i64 b, .int .i64 c] 3)) (.slice (some ⟨w.heap.size, 0, none⟩) 3 3) [a, b, c] :=
  (own_fresh (E := 3) w [.int .i64 a, .int .i64 b, .int .i64 c] 3 rfl (by omega) (by unfold maxLen; omega)).rd
set_option maxHeartbeats 4000000 in
set_option maxRecDepth 100000 in
theorem normOrder_walk (w : World) (hE : ErrAt w) (hSp : SpAt w) (f : Int) (wf : (Lit.int .i64 f).wf = true) (a : Int) (wa : (Lit.int .i64 a).wf = true) (b : Int) (wb : (Lit.int .i64 b).wf = true) :
    Calls Tryd.prog 5 #[.int .i64 f, .int .i64 a, .int .i64 b] w fun e w' => e = .returned (.bool true) ∧ Below w.heap.size w w' := by
  have HES : Hid (∀ w', Below w.heap.size w w' → ErrAt w' ∧ SpAt w') := Lib.hid fun w' hb => ⟨hE.below hb, hSp.below hb hSp.1⟩
  have HB := Lib.hid (nbegun_any w hE hSp)
  have bf := nwf_bd wf
  have ba := nwf_bd wa
  have bb := nwf_bd wb
  have HVf : Hid (∀ w, Calls Tryd.prog 20 #[.int .i64 f] w fun e w' => e = .returned (.bool (vldB f)) ∧ w = w') := Lib.hid (rvalid_any f)
  have HVa : Hid (∀ w, Calls Tryd.prog 20 #[.int .i64 a] w fun e w' => e = .returned (.bool (vldB a)) ∧ w = w') := Lib.hid (rvalid_any a)
  have HVb : Hid (∀ w, Calls Tryd.prog 20 #[.int .i64 b] w fun e w' => e = .returned (.bool (vldB b)) ∧ w = w') := Lib.hid (rvalid_any b)
  have HAa : Hid (∀ w, Calls Tryd.prog 21 #[.int .i64 a] w (NewRes (apartP a) w)) := Lib.hid (rapart_any a ba.1 ba.2)
  have HAb : Hid (∀ w, Calls Tryd.prog 21 #[.int .i64 b] w (NewRes (apartP b) w)) := Lib.hid (rapart_any b bb.1 bb.2)
  have HCa : Hid (∀ w, Calls Tryd.prog 22 #[.int .i64 a] w (IntRes (classP a) w)) := Lib.hid (rclass_any a ba.1 ba.2)
  have HCb : Hid (∀ w, Calls Tryd.prog 22 #[.int .i64 b] w (IntRes (classP b) w)) := Lib.hid (rclass_any b bb.1 bb.2)
  have ok3 : ∀ x y, (x = a ∨ x = b) → (y = a ∨ y = b) → IntOk [f, x, y] := fun x y hx hy c hc => by
    rcases List.mem_cons.1 hc with rfl | hc
    · exact bf
    · rcases List.mem_cons.1 hc with rfl | hc
      · rcases hx with rfl | rfl <;> assumption
      · rw [List.mem_singleton.1 hc]; rcases hy with rfl | rfl <;> assumption
  have HX : Hid (∀ x y w', (x = a ∨ x = b) → (y = a ∨ y = b) → Below w.heap.size w w' → Calls Tryd.prog 13 #[.slice (some ⟨w'.heap.size, 0, none⟩) 3 3] (w'.alloc (.cells #[.int .i64 f, .int .i64 x, .int .i64 y] 3)) (NewRes (charsP [f, x, y]) (w'.alloc (.cells #[.int .i64 f, .int .i64 x, .int .i64 y] 3)))) := Lib.hid fun x y w' hx hy hb => by
    have hb2 : Below w.heap.size w (w'.alloc (.cells #[.int .i64 f, .int .i64 x, .int .i64 y] 3)) := hb.alloc hb.size _
    have := flat_len [f, x, y]
    exact chars_any _ _ _ (rd_three w' f x y) (ok3 x y hx hy) (HES.out _ hb2).1 (HES.out _ hb2).2 (by simp at this ⊢; omega) (by simp)
  have HLEN : Hid (∀ x y, (charsP [f, x, y]).length ≤ 1000000) := Lib.hid fun x y => by rw [chars_len]; have := flat_len [f, x, y]; simp at this ⊢; omega
  have HNE : Hid (∀ c, apartP c ≠ [] ∧ (apartP c).length ≤ 10) := Lib.hid fun c => ⟨(apart_len c).2, (apart_len c).1⟩
  clear bf ba bb wf wa wb hE hSp HES ok3
  go_enter Tryd.func5, Tryd.ntmps5
  go_wp2_with fail
  refine HB.out.mono ?_
  rintro e w1 ⟨rfl, hb1⟩
  clear HB
  go_wp2_with fail
  refine (HVf.out _).mono ?_
  rintro e w' ⟨rfl, rfl⟩
  clear HVf
  cases vldB f with
  | false => go_wp2_with fail; go_ret; exact ⟨rfl, hb1⟩
  | true =>
  go_wp2_with fail
  refine (HVa.out _).mono ?_
  rintro e w' ⟨rfl, rfl⟩
  clear HVa
  cases vldB a with
  | false => go_wp2_with fail; go_ret; exact ⟨rfl, hb1⟩
  | true =>
  go_wp2_with fail
  refine (HVb.out _).mono ?_
  rintro e w' ⟨rfl, rfl⟩
  clear HVb
  cases vldB b with
  | false => go_wp2_with fail; go_ret; exact ⟨rfl, hb1⟩
  | true =>
  by_cases hab : a = b
  · subst hab
    go_wp2_with fail; go_ret; exact ⟨rfl, hb1⟩
  have hab2 : (a == b) = false := by simpa using hab
  go_wp2_with fail
  refine (HAa.out _).mono ?_
  rintro e w2 ⟨v8, rfl, ho8, _, hb2⟩
  have B2 : Below w.heap.size w w2 := hb1.trans (hb2.mono hb1.size)
  obtain ⟨g1, cap1, rfl, -, hc1⟩ := own_some ho8 (HNE.out a).1
  clear HAa hb1 hb2
  go_wp2_with fail
  refine (HAb.out _).mono ?_
  rintro e w3 ⟨v9, rfl, ho9, _, hb3⟩
  have B3 : Below w.heap.size w w3 := B2.trans (hb3.mono B2.size)
  obtain ⟨g2, cap2, rfl, -, hc2⟩ := own_some ho9 (HNE.out b).1
  have HO8 := Lib.hid (ho8.below hb3)
  have HO9 := Lib.hid ho9
  clear HAb hb3 B2 ho8 ho9
  by_cases hm1 : (apartP a).length = 1
  case neg =>
    obtain ⟨m1, e1⟩ : ∃ m, (apartP a).length = m := ⟨_, rfl⟩
    rw [e1] at hm1 ⊢
    have z1 : ¬ (m1 : Int) = 1 := by omega
    have z2 : ((m1 : Int) != 1) = true := by simpa using z1
    clear HO8 HO9 HNE HLEN HX HCa HCb e1
    go_wp2_with fail; go_ret; exact ⟨rfl, B3⟩
  by_cases hm2 : (apartP b).length = 1
  case neg =>
    obtain ⟨m2, e2⟩ : ∃ m, (apartP b).length = m := ⟨_, rfl⟩
    rw [e2] at hm2 ⊢
    rw [hm1]
    have z1 : ¬ (m2 : Int) = 1 := by omega
    have z2 : ((m2 : Int) != 1) = true := by simpa using z1
    clear HO8 HO9 HNE HLEN HX HCa HCb e2 hm1
    go_wp2_with fail; go_ret; exact ⟨rfl, B3⟩
  obtain ⟨x0, hx0⟩ := List.length_eq_one_iff.1 hm1
  obtain ⟨y0, hy0⟩ := List.length_eq_one_iff.1 hm2
  have c1 : w3.cell? ⟨g1, 0, none⟩ = some (.int .i64 x0) := by have := HO8.out.cellI 0 (by omega); rw [hx0] at this; exact this
  have c2 : w3.cell? ⟨g2, 0, none⟩ = some (.int .i64 y0) := by have := HO9.out.cellI 0 (by omega); rw [hy0] at this; exact this
  rw [hm1, hm2]
  have HXY : Hid (apartP a = [x0] ∧ apartP b = [y0]) := ⟨hx0, hy0⟩
  clear hm1 hm2 hx0 hy0 HO8 HO9 hc1 hc2
  by_cases hxa : x0 = a
  case neg =>
    have z2 : (x0 != a) = true := by simpa using hxa
    clear HNE HLEN HX HCa HCb HXY
    go_wp2_with fail; go_ret; exact ⟨rfl, B3⟩
  by_cases hyb : y0 = b
  case neg =>
    subst hxa
    have z2 : (y0 != b) = true := by simpa using hyb
    have z3 : (x0 != x0) = false := by simp
    clear HNE HLEN HX HCa HCb HXY
    go_wp2_with fail; go_ret; exact ⟨rfl, B3⟩
  subst hxa hyb
  have z3 : (x0 != x0) = false := by simp
  have z4 : (y0 != y0) = false := by simp
  have HOL := Lib.hid (order_law f x0 y0 HXY.out.1 HXY.out.2 hab)
  obtain ⟨p, hp⟩ : ∃ p, classP x0 = p := ⟨_, rfl⟩
  obtain ⟨q, hq⟩ : ∃ p, classP y0 = p := ⟨_, rfl⟩
  rw [hp] at HCa HOL
  rw [hq] at HCb HOL
  clear HXY HNE hp hq
  go_wp2_with fail
  refine (HCa.out _).mono ?_
  rintro e w4 ⟨rfl, hb4⟩
  have B4 : Below w.heap.size w w4 := B3.trans (hb4.mono B3.size)
  clear HCa B3 hb4 c1 c2
  go_wp2_with fail
  refine (HCb.out _).mono ?_
  rintro e w5 ⟨rfl, hb5⟩
  have B5 : Below w.heap.size w w5 := B4.trans (hb5.mono B4.size)
  have HX5 := Lib.hid (HX.out x0 y0 w5 (.inl rfl) (.inr rfl) B5)
  clear HCb B4 hb5
  go_wp2_with fail
  refine HX5.out.mono ?_
  intro e w6 hr
  obtain ⟨v1, rfl, hv1, hb6⟩ := hr.rd
  have B6 : Below w.heap.size w w6 := (B5.alloc B5.size _).trans (hb6.mono (by simp; have := B5.size; omega))
  have HX6 := Lib.hid (HX.out y0 x0 w6 (.inr rfl) (.inl rfl) B6)
  clear HX5 HX hb6 hr B5
  go_wp2_with fail
  refine HX6.out.mono ?_
  intro e w7 hr
  obtain ⟨v2, rfl, hv2, hb7⟩ := hr.rd
  have B7 : Below w.heap.size w w7 := (B6.alloc B6.size _).trans (hb7.mono (by simp; have := B6.size; omega))
  have hb67 : Below w6.heap.size w6 w7 := ((Below.refl w6.heap.size w6).alloc (Nat.le_refl _) _).trans (hb7.mono (by simp))
  obtain ⟨sm, hsm⟩ : ∃ q, decide (charsP [f, x0, y0] = charsP [f, y0, x0]) = q := ⟨_, rfl⟩
  have HI : Hid (Calls Tryd.prog 12 #[v1, v2] w7 (IntsRes w7 sm)) := Lib.hid (by
    have := ints_any v1 v2 _ _ (HLEN.out x0 y0) (HLEN.out y0 x0) w7 (hv1.below hb67) hv2
    rwa [hsm] at this)
  have HSM : Hid (sm = !(p == 0 || q == 0 || p == q)) := Lib.hid (by rw [← hsm]; exact HOL.out)
  clear HX6 hr hv1 hv2 hb7 B6 hb67 hsm HOL HLEN
  by_cases h1 : p = 0
  · have hs : sm = false := by rw [HSM.out]; simp [h1]
    subst h1 hs
    clear HSM
    go_wp2_with fail
    refine HI.out.mono ?_
    rintro e w8 ⟨rfl, k, rfl⟩
    go_wp2_with fail
    go_ret
    exact ⟨rfl, B7.trans ((DrN.refl w7).more k |>.below _)⟩
  · have h1b : (p == 0) = false := by simpa using h1
    by_cases h2 : q = 0
    · have hs : sm = false := by rw [HSM.out]; simp [h2]
      subst h2 hs
      clear HSM
      go_wp2_with fail
      refine HI.out.mono ?_
      rintro e w8 ⟨rfl, k, rfl⟩
      go_wp2_with fail
      go_ret
      exact ⟨rfl, B7.trans ((DrN.refl w7).more k |>.below _)⟩
    · have h2b : (q == 0) = false := by simpa using h2
      by_cases h3 : p = q
      · have hs : sm = false := by rw [HSM.out]; simp [h3]
        subst hs
        subst h3
        have h3b : (p == p) = true := by simp
        clear HSM
        go_wp2_with fail
        refine HI.out.mono ?_
        rintro e w8 ⟨rfl, k, rfl⟩
        go_wp2_with fail
        go_ret
        exact ⟨rfl, B7.trans ((DrN.refl w7).more k |>.below _)⟩
      · have hs : sm = true := by rw [HSM.out]; simp [h1, h2, h3]
        have h3b : (p == q) = false := by simpa using h3
        subst hs
        clear HSM
        go_wp2_with fail
        refine HI.out.mono ?_
        rintro e w8 ⟨rfl, k, rfl⟩
        go_wp2_with fail
        go_ret
        exact ⟨rfl, B7.trans ((DrN.refl w7).more k |>.below _)⟩
end Go.Proofs.YtmglnpnkkidnnaaDoor
