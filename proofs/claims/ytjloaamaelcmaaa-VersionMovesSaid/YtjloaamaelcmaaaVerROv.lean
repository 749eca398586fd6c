/- The reference's Over, and the law's over. -/
import Derived.Test.YtjloaamaelcmaaaVerRLv
namespace Go.Proofs.Ytjloaamaelcmaaa
set_option linter.unusedVariables false
set_option maxRecDepth 100000
open Go.RowKit
theorem le_three (a b : ByteArray) : (Op.bytesLess a.toList b.toList = true ∧ decide (bl b a) = false) ∨ (Op.bytesLess a.toList b.toList = false ∧ (a.toList == b.toList) = true ∧ decide (bl b a) = false) ∨ (Op.bytesLess a.toList b.toList = false ∧ (a.toList == b.toList) = false ∧ decide (bl b a) = true) := by
  rcases bl_tri a b with h | rfl | h
  · exact .inl ⟨bs_less _ _ h, decide_eq_false fun k => bl_irr _ (bl_trans h k)⟩
  · exact .inr (.inl ⟨bs_not _ _ (bl_irr _), bs_refl _, decide_eq_false (bl_irr _)⟩)
  · have hn : ¬ bl a b := fun k => bl_irr _ (bl_trans h k)
    have hne : a ≠ b := by rintro rfl; exact bl_irr _ h
    exact .inr (.inr ⟨bs_not _ _ hn, bs_ne hne, decide_eq_true h⟩)
set_option maxHeartbeats 8000000 in
theorem rover_any {w : World} {c : Nat} {fv : Value} {nx lg ls : Int} {F : List Tbf} (hc : BlkAt w c #[fv, .int .i64 nx, .int .i64 lg, .int .i64 ls] 52) (hr : RdK encTbf 5 w fv F) (hl : F.length ≤ 1000) (n : Int) (hn : 0 ≤ n) (x y : ByteArray) :
    Calls Try.prog 27 #[.pointer (some ⟨c, 0, none⟩), .int .i64 n, .string x, .string y] w (FilsTo w (overV n x y F)) := by
  have HLV := Lib.hid (rlevel_any hc hr hl n hn)
  have hll : (levelV n F).length ≤ 1000 := by
    have := lvUp_len n F F.length
    rw [lvUp_all (Nat.le_refl _)] at this
    omega
  unfold overV
  generalize levelV n F = xs at *
  obtain ⟨R, hR⟩ : ∃ R, xs.filter (vOverB x y) = R := ⟨_, rfl⟩
  rw [hR]
  have HR := Lib.hid hR
  obtain ⟨N, hN⟩ : ∃ N, xs.length = N := ⟨_, rfl⟩
  have HN := Lib.hid hN
  rw [hN] at hll
  clear hc hr hl hn hR
  unfold FilsTo
  go_enter Try.func27, Try.ntmps27
  go_wp2_with fail
  refine HLV.out.mono ?_
  rintro e w1 ⟨u, rfl, ho, hb⟩
  obtain ⟨aL, cL, rfl⟩ := fil_form ho
  have HRD := Lib.hid (ho.rd encTbf_len)
  have HB1 := Lib.hid hb
  rw [hN]
  rw [hN] at HRD
  clear ho hb HLV hN
  go_wp2_with fail
  go_loopg [9, 11] N (fun kk vl vi wr => ∃ (i : Nat) (ys : List Tbf) (al : Option Addr) (nl cl : Nat), vi = .int .i64 (i : Int) ∧ vl = .slice al nl cl ∧ i ≤ N ∧ N - i ≤ kk ∧ nl ≤ i ∧ Hid (ys.length = nl ∧ ys = (xs.take i).filter (vOverB x y)) ∧ Hid (OwnK encTbf 5 43 w1.heap.size wr (.slice al nl cl) ys) ∧ Hid (Below w1.heap.size w1 wr))
  case atStart => exact ⟨0, [], none, 0, 0, rfl, rfl, by omega, by omega, by omega, Lib.hid ⟨rfl, by simp⟩, Lib.hid (OwnK.nil _ _ _ _ _), Lib.hid (Below.refl _ _)⟩
  case round =>
    obtain ⟨q, ys, al, nl, cl, rfl, rfl, hq, hqk, hnl, HL, HY, HB⟩ := hrel
    have hd0 : (0 : Int) ≤ (q : Int) := by omega
    by_cases hqN : q < N
    · have hd1 : (q : Int) < (N : Int) := by omega
      obtain ⟨f, hf⟩ : ∃ f, xs[q]? = some f := ⟨xs[q]'(by have := HN.out; omega), List.getElem?_eq_getElem _⟩
      have HFK : Hid (((xs.take (q + 1)).filter (vOverB x y)) = ys ++ if vOverB x y f = true then [f] else []) := Lib.hid (by
        rw [List.take_add_one, hf, HL.out.2, List.filter_append]
        simp only [Option.toList_some, List.filter_cons, List.filter_nil])
      obtain ⟨bb, off, rfl, hblt, d0, d1, d2, d3, d4⟩ := (HRD.out.below HB.out).atTbf q f hf
      clear hf
      obtain ⟨Q, hQ⟩ : ∃ Q, vOverB x y f = Q := ⟨_, rfl⟩
      rw [hQ] at HFK
      have HQ := Lib.hid hQ
      clear hQ
      go_upto_region 6 with fail
      go_cut [41] (fun v wx => v = .bool Q ∧ wr = wx)
      case first =>
        as_aux_lemma =>
        have hq0 := HQ.out
        unfold vOverB at hq0
        clear HFK HL HY HB HR HRD HN HB1 HQ
        rcases le_three x y with ⟨u1, e1⟩ | ⟨u1, v1, e1⟩ | ⟨u1, v1, e1⟩
        · rcases le_three f.lo y with ⟨u2, e2⟩ | ⟨u2, v2, e2⟩ | ⟨u2, v2, e2⟩
          · rcases le_three x f.hi with ⟨u3, e3⟩ | ⟨u3, v3, e3⟩ | ⟨u3, v3, e3⟩
            · have hv : Q = true := by rw [← hq0, e1, e2, e3]; rfl
              subst hv
              clear hq0
              go_wp2_with fail
              go_meet
              exact ⟨rfl, rfl⟩
            · have hv : Q = true := by rw [← hq0, e1, e2, e3]; rfl
              subst hv
              clear hq0
              go_wp2_with fail
              go_meet
              exact ⟨rfl, rfl⟩
            · have hv : Q = false := by rw [← hq0, e1, e2, e3]; simp
              subst hv
              clear hq0
              go_wp2_with fail
              go_meet
              exact ⟨rfl, rfl⟩
          · rcases le_three x f.hi with ⟨u3, e3⟩ | ⟨u3, v3, e3⟩ | ⟨u3, v3, e3⟩
            · have hv : Q = true := by rw [← hq0, e1, e2, e3]; rfl
              subst hv
              clear hq0
              go_wp2_with fail
              go_meet
              exact ⟨rfl, rfl⟩
            · have hv : Q = true := by rw [← hq0, e1, e2, e3]; rfl
              subst hv
              clear hq0
              go_wp2_with fail
              go_meet
              exact ⟨rfl, rfl⟩
            · have hv : Q = false := by rw [← hq0, e1, e2, e3]; simp
              subst hv
              clear hq0
              go_wp2_with fail
              go_meet
              exact ⟨rfl, rfl⟩
          · have hv : Q = false := by rw [← hq0, e1, e2]; simp
            subst hv
            clear hq0
            go_wp2_with fail
            go_meet
            exact ⟨rfl, rfl⟩
        · rcases le_three f.lo y with ⟨u2, e2⟩ | ⟨u2, v2, e2⟩ | ⟨u2, v2, e2⟩
          · rcases le_three x f.hi with ⟨u3, e3⟩ | ⟨u3, v3, e3⟩ | ⟨u3, v3, e3⟩
            · have hv : Q = true := by rw [← hq0, e1, e2, e3]; rfl
              subst hv
              clear hq0
              go_wp2_with fail
              go_meet
              exact ⟨rfl, rfl⟩
            · have hv : Q = true := by rw [← hq0, e1, e2, e3]; rfl
              subst hv
              clear hq0
              go_wp2_with fail
              go_meet
              exact ⟨rfl, rfl⟩
            · have hv : Q = false := by rw [← hq0, e1, e2, e3]; simp
              subst hv
              clear hq0
              go_wp2_with fail
              go_meet
              exact ⟨rfl, rfl⟩
          · rcases le_three x f.hi with ⟨u3, e3⟩ | ⟨u3, v3, e3⟩ | ⟨u3, v3, e3⟩
            · have hv : Q = true := by rw [← hq0, e1, e2, e3]; rfl
              subst hv
              clear hq0
              go_wp2_with fail
              go_meet
              exact ⟨rfl, rfl⟩
            · have hv : Q = true := by rw [← hq0, e1, e2, e3]; rfl
              subst hv
              clear hq0
              go_wp2_with fail
              go_meet
              exact ⟨rfl, rfl⟩
            · have hv : Q = false := by rw [← hq0, e1, e2, e3]; simp
              subst hv
              clear hq0
              go_wp2_with fail
              go_meet
              exact ⟨rfl, rfl⟩
          · have hv : Q = false := by rw [← hq0, e1, e2]; simp
            subst hv
            clear hq0
            go_wp2_with fail
            go_meet
            exact ⟨rfl, rfl⟩
        · have hv : Q = false := by rw [← hq0, e1]; simp
          subst hv
          clear hq0
          go_wp2_with fail
          go_meet
          exact ⟨rfl, rfl⟩
      case rest =>
        obtain ⟨rfl, rfl⟩ := hcut
        cases Q with
        | true =>
          have HE : Hid (((xs.take (q + 1)).filter (vOverB x y)) = ys ++ [f]) := Lib.hid (by rw [HFK.out]; rfl)
          have hBs : w1.heap.size ≤ wr.heap.size := HB.out.size
          go_wp2_with (at_builtin; refine wp_appHK elem_tbf encTbf_len _ _ (by rfl) (by rfl) (by rfl) HY.out f _ (by rfl) (by rfl) ?c1 ?c2 ?c3 hBs ?_)
          case c1 => exact tbf_cells _
          case c2 => have := HL.out.1; omega
          case c3 => have := HL.out.1; unfold maxLen; omega
          intro v6 w6 o6 b6
          obtain ⟨a6, k6, rfl⟩ := fil_form o6
          have e6 : (ys ++ [f]).length = nl + 1 := by rw [List.length_append]; have := HL.out.1; simp; omega
          rw [e6] at o6 ⊢
          have HL6 : Hid ((ys ++ [f]).length = nl + 1 ∧ ys ++ [f] = (xs.take (q + 1)).filter (vOverB x y)) := Lib.hid ⟨e6, HE.out.symm⟩
          have HO6 := Lib.hid o6
          have HB6 := Lib.hid (HB.out.trans b6)
          clear o6 b6 e6 HY HB HL HE HFK HQ d0 d1 d2 d3 d4 hBs
          go_wp2_with fail
          go_roundg (N - (q + 1))
          case measure => omega
          case rel => exact ⟨q + 1, _, a6, nl + 1, k6, by go_num, rfl, by omega, Nat.le_refl _, by omega, HL6, HO6, HB6⟩
        | false =>
          have HL6 : Hid (ys.length = nl ∧ ys = (xs.take (q + 1)).filter (vOverB x y)) := Lib.hid ⟨HL.out.1, by rw [HFK.out]; simp⟩
          clear HL HFK HQ
          go_wp2_with fail
          go_roundg (N - (q + 1))
          case measure => omega
          case rel => exact ⟨q + 1, ys, al, nl, cl, by go_num, rfl, by omega, Nat.le_refl _, by omega, HL6, HY, HB⟩
    · have hd1 : ¬ (q : Int) < (N : Int) := by omega
      have HE : Hid (ys = R) := Lib.hid (by
        rw [HL.out.2, List.take_of_length_le (by have := HN.out; omega)]; exact HR.out)
      clear HL
      go_wp2_with fail
      go_ret
      rw [← HE.out]
      exact ⟨_, rfl, HY.out.base HB1.out.size, HB1.out.trans (HB.out.mono HB1.out.size)⟩
set_option maxHeartbeats 1000000 in
theorem lover_any {w : World} {c : Nat} {fv : Value} {nx lg ls : Int} {F : List Tbf} (hc : BlkAt w c #[fv, .int .i64 nx, .int .i64 lg, .int .i64 ls] 52) (hr : RdK encTbf 5 w fv F) (hl : F.length ≤ 1000) (n : Int) (x y : ByteArray) :
    Calls Try.prog 12 #[.pointer (some ⟨c, 0, none⟩), .int .i64 n, .string x, .string y] w (FilsTo w (if 0 ≤ n ∧ n < 5 then overV n x y F else [])) := by
  by_cases h1 : n < 0
  · rw [if_neg (by omega)]
    unfold FilsTo
    clear hc hr
    go_enter Try.func12, Try.ntmps12
    go_wp2_with fail
    go_ret
    exact ⟨_, rfl, OwnK.nil _ _ _ _ _, Below.refl _ _⟩
  · by_cases h2 : 5 ≤ n
    · rw [if_neg (by omega)]
      unfold FilsTo
      clear hc hr
      go_enter Try.func12, Try.ntmps12
      go_wp2_with fail
      go_ret
      exact ⟨_, rfl, OwnK.nil _ _ _ _ _, Below.refl _ _⟩
    · rw [if_pos (by omega)]
      have HO := Lib.hid (rover_any hc hr hl n (by omega) x y)
      clear hc hr
      generalize overV n x y F = R at *
      unfold FilsTo
      go_enter Try.func12, Try.ntmps12
      go_wp2_with fail
      refine HO.out.mono ?_
      rintro e w1 ⟨u, rfl, ho, hb⟩
      have HH := Lib.hid (And.intro ho hb)
      clear ho hb HO
      go_wp2_with fail
      go_ret
      exact ⟨_, rfl, HH.out.1, HH.out.2⟩
end Go.Proofs.Ytjloaamaelcmaaa
