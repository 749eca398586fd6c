/- The walks of those, Level, Over and Edit: which tables are told. -/
import Derived.Test.YtjloaamaelcmaaaVerAt
import Derived.Test.YtjloaamaelcmaaaVerFnd
import Derived.Deep.LoopGhost
import Derived.Deep.DeepCutAuto
namespace Go.Proofs.Ytjloaamaelcmaaa
set_option linter.unusedVariables false
set_option maxRecDepth 100000
open Go.RowKit
theorem lvlF_any (bx : Nat) (k : Int) (f : Tbf) (w : World) (h : w.cell? ⟨bx, 0, none⟩ = some (.int .i64 k)) (hb : bx < w.heap.size) :
    Calls Try.prog 31 #[f.v, .pointer (some ⟨bx, 0, none⟩)] w fun e w' => e = .returned (.bool (decide (f.lvl = k))) ∧ Below w.heap.size w w' := by
  obtain ⟨x0, x1, x2, x3, x4⟩ := f
  unfold Tbf.v
  obtain ⟨V, hV⟩ : ∃ V, decide (x1 = k) = V := ⟨_, rfl⟩
  have h' : (w.alloc (.cells #[.int .i64 x0, .int .i64 x1, .int .i64 x2, .string x3, .string x4] 43)).cell? ⟨bx, 0, none⟩ = some (.int .i64 k) := (((Below.refl _ w).alloc (Nat.le_refl _) _).cell hb).trans h
  clear h
  simp only
  have e : ((x1 : Int) == k) = V := by rw [← hV]; rfl
  rw [hV]
  clear hV
  go_enter Try.func31, Try.ntmps31
  go_wp2_with fail
  go_ret
  exact ⟨rfl, (Below.refl _ w).alloc (Nat.le_refl _) _⟩
/-- Three boxes. -/
structure Box3 (w : World) (b0 b1 b2 : Nat) (k : Int) (a c : ByteArray) : Prop where
  x0 : BlkAt w b0 #[.int .i64 k] 3
  x1 : BlkAt w b1 #[.string a] 9
  x2 : BlkAt w b2 #[.string c] 9
theorem Box3.below {w w' : World} {b0 b1 b2 : Nat} {k : Int} {a c : ByteArray} (h : Box3 w b0 b1 b2 k a c) (u : Below w.heap.size w w') : Box3 w' b0 b1 b2 k a c := ⟨h.x0.below u, h.x1.below u, h.x2.below u⟩
set_option maxHeartbeats 2000000 in
theorem overF_any (b0 b1 b2 : Nat) (k : Int) (a c : ByteArray) (f : Tbf) (w : World) (h : Box3 w b0 b1 b2 k a c) :
    Calls Try.prog 25 #[f.v, .pointer (some ⟨b0, 0, none⟩), .pointer (some ⟨b1, 0, none⟩), .pointer (some ⟨b2, 0, none⟩)] w fun e w' => e = .returned (.bool (decide (f.lvl = k ∧ vOverB a c f = true))) ∧ Below w.heap.size w w' := by
  have h2 := h.below ((Below.refl w.heap.size w).alloc (Nat.le_refl _) (.cells #[.int .i64 f.num, .int .i64 f.lvl, .int .i64 f.siz, .string f.lo, .string f.hi] 43))
  have HB := Lib.hid ((Below.refl w.heap.size w).alloc (Nat.le_refl _) (.cells #[.int .i64 f.num, .int .i64 f.lvl, .int .i64 f.siz, .string f.lo, .string f.hi] 43))
  have c0 := h2.x0.at 0
  have c1 := h2.x1.at 0
  have c2 := h2.x2.at 0
  simp only [List.getElem?_toArray, List.getElem?_cons_zero] at c0 c1 c2
  clear h h2
  obtain ⟨x0, x1, x2, x3, x4⟩ := f
  unfold Tbf.v
  simp only at c0 c1 c2 HB ⊢
  by_cases hl : x1 = k
  · subst hl
    obtain ⟨V, hV⟩ : ∃ V, vOverB a c ⟨x0, x1, x2, x3, x4⟩ = V := ⟨_, rfl⟩
    have HM : Hid (∀ w, Calls Try.prog 26 #[.agg #[.int .i64 x0, .int .i64 x1, .int .i64 x2, .string x3, .string x4], .string a, .string c] w fun e w' => e = .returned (.bool V) ∧ ∃ os, w' = w.alloc os) := Lib.hid fun w => by rw [← hV]; exact meets_raw x0 x1 x2 x3 x4 a c w
    have e : decide (x1 = x1 ∧ vOverB a c ⟨x0, x1, x2, x3, x4⟩ = true) = V := by rw [hV]; cases V <;> simp
    rw [e]
    clear e hV
    go_enter Try.func25, Try.ntmps25
    go_wp2_with fail
    refine (HM.out _).mono ?_
    rintro e w' ⟨rfl, os, hw⟩
    have HB2 : Hid (Below w.heap.size w w') := Lib.hid (by rw [hw]; exact HB.out.alloc HB.out.size _)
    clear hw HM
    go_wp2_with fail
    go_ret
    exact ⟨rfl, HB2.out⟩
  · have e : decide (x1 = k ∧ vOverB a c ⟨x0, x1, x2, x3, x4⟩ = true) = false := decide_eq_false fun h => hl h.1
    rw [e]
    clear e
    go_enter Try.func25, Try.ntmps25
    go_wp2_with fail
    go_ret
    exact ⟨rfl, HB.out⟩
set_option maxHeartbeats 4000000 in
theorem those_lvl (p : Tbf → Prop) [DecidablePred p] (b0 : Nat) {B : Nat} {w : World} {b : Nat} {V : Ver} (h : VerAt B w b V)
    (hP : ∀ (f : Tbf) (W : World), Below w.heap.size w W → Calls Try.prog 31 #[f.v, .pointer (some ⟨b0, 0, none⟩)] W fun e w' => e = .returned (.bool (decide (p f))) ∧ Below W.heap.size W w') :
    Calls Try.prog 24 #[.pointer (some ⟨b, 0, none⟩), .func (.func 31) #[] #[.pointer (some ⟨b0, 0, none⟩)]] w (FilsTo w (V.fs.filter fun f => decide (p f))) := by
  obtain ⟨tv, n0, h1, h2, h3⟩ := h.blk
  obtain ⟨c0, c1, c2, c3⟩ := cell4_of h1
  have hl : V.fs.length ≤ 1000000 := by have := h.good.few; omega
  obtain ⟨a, cap, rfl⟩ := fil_form h2
  have HRD := Lib.hid (h2.rd encTbf_len)
  have HP := Lib.hid hP
  clear h h1 h2 h3 hP
  generalize V.fs = xs at *
  obtain ⟨R, hR⟩ : ∃ R, (xs.filter fun f => decide (p f)) = R := ⟨_, rfl⟩
  rw [hR]
  have HR := Lib.hid hR
  obtain ⟨N, hN⟩ : ∃ N, xs.length = N := ⟨_, rfl⟩
  have HN := Lib.hid hN
  rw [hN] at HRD hl c0
  clear hN hR
  unfold FilsTo
  go_enter Try.func24, Try.ntmps24
  go_wp2_with fail
  go_loopg [5, 7, 15] N (fun kk vl _ vi wr => ∃ (i : Nat) (ys : List Tbf) (al : Option Addr) (nl cl : Nat), vi = .int .i64 (i : Int) ∧ vl = .slice al nl cl ∧ i ≤ N ∧ N - i ≤ kk ∧ nl ≤ i ∧ Hid (ys.length = nl ∧ ys = (xs.take i).filter fun f => decide (p f)) ∧ Hid (OwnK encTbf 5 43 w.heap.size wr (.slice al nl cl) ys) ∧ Hid (Below w.heap.size w wr))
  case atStart => exact ⟨0, [], none, 0, 0, rfl, rfl, by omega, by omega, by omega, Lib.hid ⟨rfl, by simp⟩, Lib.hid (OwnK.nil _ _ _ _ _), Lib.hid (Below.refl _ _)⟩
  case round =>
    obtain ⟨q, ys, al, nl, cl, rfl, rfl, hq, hqk, hnl, HL, HY, HB⟩ := hrel
    have hd0 : (0 : Int) ≤ (q : Int) := by omega
    by_cases hqN : q < N
    · have hd1 : (q : Int) < (N : Int) := by omega
      obtain ⟨f, hf⟩ : ∃ f, xs[q]? = some f := ⟨xs[q]'(by have := HN.out; omega), List.getElem?_eq_getElem _⟩
      have HFK : Hid (((xs.take (q + 1)).filter fun f => decide (p f)) = ys ++ if p f then [f] else []) := Lib.hid (by
        rw [List.take_add_one, hf, HL.out.2, List.filter_append]
        simp only [Option.toList_some, List.filter_cons, List.filter_nil, decide_eq_true_eq])
      obtain ⟨bb, off, rfl, hblt, d0, d1, d2, d3, d4⟩ := (HRD.out.below HB.out).atTbf q f hf
      obtain ⟨wa, hwa⟩ : ∃ x, wr.alloc (.cells #[.int .i64 f.num, .int .i64 f.lvl, .int .i64 f.siz, .string f.lo, .string f.hi] 43) = x := ⟨_, rfl⟩
      have HBX : Hid (BlkAt wa wr.heap.size #[.int .i64 f.num, .int .i64 f.lvl, .int .i64 f.siz, .string f.lo, .string f.hi] 43) := Lib.hid (by rw [← hwa]; exact BlkAt.new _ _ _)
      have HBA : Hid (Below wr.heap.size wr wa) := Lib.hid (by rw [← hwa]; exact (Below.refl _ _).alloc (Nat.le_refl _) _)
      have HBB := Lib.hid (HB.out.trans (HBA.out.mono HB.out.size))
      have HY1 := Lib.hid (HY.out.below HBA.out)
      have HC := Lib.hid (HP.out f wa HBB.out)
      obtain ⟨pp, hpp⟩ : ∃ x, wr.heap.size = x := ⟨_, rfl⟩
      rw [hpp] at HBX
      clear hf HY HB HBA
      obtain ⟨K, hK⟩ : ∃ K, decide (p f) = K := ⟨_, rfl⟩
      rw [hK] at HC
      have HK := Lib.hid hK
      clear hK
      obtain ⟨x0, x1, x2, x3, x4⟩ := f
      unfold Tbf.v at HC
      simp only at d0 d1 d2 d3 d4 HC HBX hwa
      obtain ⟨e0, e1, e2, e3, e4⟩ := cell5_of HBX.out
      go_wp2_with fail
      refine HC.out.mono ?_
      rintro e w2 ⟨rfl, hb⟩
      have HB2 := Lib.hid (HBB.out.trans (hb.mono HBB.out.size))
      have HY2 := Lib.hid (HY1.out.below hb)
      have HX2 := Lib.hid (HBX.out.below hb)
      clear hb HC HBB HY1 HBX d0 d1 d2 d3 d4 e0 e1 e2 e3 e4 hwa hpp
      cases K with
      | true =>
        have HE : Hid (((xs.take (q + 1)).filter fun f => decide (p f)) = ys ++ [⟨x0, x1, x2, x3, x4⟩]) := Lib.hid (by rw [HFK.out, if_pos (of_decide_eq_true HK.out)])
        obtain ⟨e0, e1, e2, e3, e4⟩ := cell5_of HX2.out
        have hBs := HB2.out.size
        go_wp2_with (at_builtin; refine wp_appHK elem_tbf encTbf_len _ _ (by rfl) (by rfl) (by rfl) HY2.out ⟨x0, x1, x2, x3, x4⟩ _ (by rfl) (by rfl) ?c1 ?c2 ?c3 hBs ?_)
        case c1 => exact tbf_cells _
        case c2 => have := HL.out.1; omega
        case c3 => have := HL.out.1; unfold maxLen; omega
        intro v6 w6 o6 b6
        obtain ⟨a6, k6, rfl⟩ := fil_form o6
        have e6 : (ys ++ [(⟨x0, x1, x2, x3, x4⟩ : Tbf)]).length = nl + 1 := by rw [List.length_append]; have := HL.out.1; simp; omega
        rw [e6] at o6 ⊢
        have HL6 : Hid ((ys ++ [(⟨x0, x1, x2, x3, x4⟩ : Tbf)]).length = nl + 1 ∧ ys ++ [(⟨x0, x1, x2, x3, x4⟩ : Tbf)] = (xs.take (q + 1)).filter fun f => decide (p f)) := Lib.hid ⟨e6, HE.out.symm⟩
        have HO6 := Lib.hid o6
        have HB6 := Lib.hid (HB2.out.trans b6)
        clear o6 b6 e6 HY2 HB2 HX2 HL HE HFK HK e0 e1 e2 e3 e4 hBs
        go_wp2_with fail
        go_roundg (N - (q + 1))
        case measure => omega
        case rel => exact ⟨q + 1, _, a6, nl + 1, k6, by go_num, rfl, by omega, Nat.le_refl _, by omega, HL6, HO6, HB6⟩
      | false =>
        have HL6 : Hid (ys.length = nl ∧ ys = (xs.take (q + 1)).filter fun f => decide (p f)) := Lib.hid ⟨HL.out.1, by rw [HFK.out, if_neg (of_decide_eq_false HK.out), List.append_nil]⟩
        clear HL HFK HK HX2
        go_wp2_with fail
        go_roundg (N - (q + 1))
        case measure => omega
        case rel => exact ⟨q + 1, ys, al, nl, cl, by go_num, rfl, by omega, Nat.le_refl _, by omega, HL6, HY2, HB2⟩
    · have hd1 : ¬ (q : Int) < (N : Int) := by omega
      have HE : Hid (ys = R) := Lib.hid (by
        rw [HL.out.2, List.take_of_length_le (by have := HN.out; omega)]; exact HR.out)
      clear HL
      go_wp2_with fail
      go_ret
      rw [← HE.out]
      exact ⟨_, rfl, HY.out, HB.out⟩
set_option maxHeartbeats 4000000 in
theorem those_over (p : Tbf → Prop) [DecidablePred p] (b0 b1 b2 : Nat) {B : Nat} {w : World} {b : Nat} {V : Ver} (h : VerAt B w b V)
    (hP : ∀ (f : Tbf) (W : World), Below w.heap.size w W → Calls Try.prog 25 #[f.v, .pointer (some ⟨b0, 0, none⟩), .pointer (some ⟨b1, 0, none⟩), .pointer (some ⟨b2, 0, none⟩)] W fun e w' => e = .returned (.bool (decide (p f))) ∧ Below W.heap.size W w') :
    Calls Try.prog 24 #[.pointer (some ⟨b, 0, none⟩), .func (.func 25) #[] #[.pointer (some ⟨b0, 0, none⟩), .pointer (some ⟨b1, 0, none⟩), .pointer (some ⟨b2, 0, none⟩)]] w (FilsTo w (V.fs.filter fun f => decide (p f))) := by
  obtain ⟨tv, n0, h1, h2, h3⟩ := h.blk
  obtain ⟨c0, c1, c2, c3⟩ := cell4_of h1
  have hl : V.fs.length ≤ 1000000 := by have := h.good.few; omega
  obtain ⟨a, cap, rfl⟩ := fil_form h2
  have HRD := Lib.hid (h2.rd encTbf_len)
  have HP := Lib.hid hP
  clear h h1 h2 h3 hP
  generalize V.fs = xs at *
  obtain ⟨R, hR⟩ : ∃ R, (xs.filter fun f => decide (p f)) = R := ⟨_, rfl⟩
  rw [hR]
  have HR := Lib.hid hR
  obtain ⟨N, hN⟩ : ∃ N, xs.length = N := ⟨_, rfl⟩
  have HN := Lib.hid hN
  rw [hN] at HRD hl c0
  clear hN hR
  unfold FilsTo
  go_enter Try.func24, Try.ntmps24
  go_wp2_with fail
  go_loopg [5, 7, 15] N (fun kk vl _ vi wr => ∃ (i : Nat) (ys : List Tbf) (al : Option Addr) (nl cl : Nat), vi = .int .i64 (i : Int) ∧ vl = .slice al nl cl ∧ i ≤ N ∧ N - i ≤ kk ∧ nl ≤ i ∧ Hid (ys.length = nl ∧ ys = (xs.take i).filter fun f => decide (p f)) ∧ Hid (OwnK encTbf 5 43 w.heap.size wr (.slice al nl cl) ys) ∧ Hid (Below w.heap.size w wr))
  case atStart => exact ⟨0, [], none, 0, 0, rfl, rfl, by omega, by omega, by omega, Lib.hid ⟨rfl, by simp⟩, Lib.hid (OwnK.nil _ _ _ _ _), Lib.hid (Below.refl _ _)⟩
  case round =>
    obtain ⟨q, ys, al, nl, cl, rfl, rfl, hq, hqk, hnl, HL, HY, HB⟩ := hrel
    have hd0 : (0 : Int) ≤ (q : Int) := by omega
    by_cases hqN : q < N
    · have hd1 : (q : Int) < (N : Int) := by omega
      obtain ⟨f, hf⟩ : ∃ f, xs[q]? = some f := ⟨xs[q]'(by have := HN.out; omega), List.getElem?_eq_getElem _⟩
      have HFK : Hid (((xs.take (q + 1)).filter fun f => decide (p f)) = ys ++ if p f then [f] else []) := Lib.hid (by
        rw [List.take_add_one, hf, HL.out.2, List.filter_append]
        simp only [Option.toList_some, List.filter_cons, List.filter_nil, decide_eq_true_eq])
      obtain ⟨bb, off, rfl, hblt, d0, d1, d2, d3, d4⟩ := (HRD.out.below HB.out).atTbf q f hf
      obtain ⟨wa, hwa⟩ : ∃ x, wr.alloc (.cells #[.int .i64 f.num, .int .i64 f.lvl, .int .i64 f.siz, .string f.lo, .string f.hi] 43) = x := ⟨_, rfl⟩
      have HBX : Hid (BlkAt wa wr.heap.size #[.int .i64 f.num, .int .i64 f.lvl, .int .i64 f.siz, .string f.lo, .string f.hi] 43) := Lib.hid (by rw [← hwa]; exact BlkAt.new _ _ _)
      have HBA : Hid (Below wr.heap.size wr wa) := Lib.hid (by rw [← hwa]; exact (Below.refl _ _).alloc (Nat.le_refl _) _)
      have HBB := Lib.hid (HB.out.trans (HBA.out.mono HB.out.size))
      have HY1 := Lib.hid (HY.out.below HBA.out)
      have HC := Lib.hid (HP.out f wa HBB.out)
      obtain ⟨pp, hpp⟩ : ∃ x, wr.heap.size = x := ⟨_, rfl⟩
      rw [hpp] at HBX
      clear hf HY HB HBA
      obtain ⟨K, hK⟩ : ∃ K, decide (p f) = K := ⟨_, rfl⟩
      rw [hK] at HC
      have HK := Lib.hid hK
      clear hK
      obtain ⟨x0, x1, x2, x3, x4⟩ := f
      unfold Tbf.v at HC
      simp only at d0 d1 d2 d3 d4 HC HBX hwa
      obtain ⟨e0, e1, e2, e3, e4⟩ := cell5_of HBX.out
      go_wp2_with fail
      refine HC.out.mono ?_
      rintro e w2 ⟨rfl, hb⟩
      have HB2 := Lib.hid (HBB.out.trans (hb.mono HBB.out.size))
      have HY2 := Lib.hid (HY1.out.below hb)
      have HX2 := Lib.hid (HBX.out.below hb)
      clear hb HC HBB HY1 HBX d0 d1 d2 d3 d4 e0 e1 e2 e3 e4 hwa hpp
      cases K with
      | true =>
        have HE : Hid (((xs.take (q + 1)).filter fun f => decide (p f)) = ys ++ [⟨x0, x1, x2, x3, x4⟩]) := Lib.hid (by rw [HFK.out, if_pos (of_decide_eq_true HK.out)])
        obtain ⟨e0, e1, e2, e3, e4⟩ := cell5_of HX2.out
        have hBs := HB2.out.size
        go_wp2_with (at_builtin; refine wp_appHK elem_tbf encTbf_len _ _ (by rfl) (by rfl) (by rfl) HY2.out ⟨x0, x1, x2, x3, x4⟩ _ (by rfl) (by rfl) ?c1 ?c2 ?c3 hBs ?_)
        case c1 => exact tbf_cells _
        case c2 => have := HL.out.1; omega
        case c3 => have := HL.out.1; unfold maxLen; omega
        intro v6 w6 o6 b6
        obtain ⟨a6, k6, rfl⟩ := fil_form o6
        have e6 : (ys ++ [(⟨x0, x1, x2, x3, x4⟩ : Tbf)]).length = nl + 1 := by rw [List.length_append]; have := HL.out.1; simp; omega
        rw [e6] at o6 ⊢
        have HL6 : Hid ((ys ++ [(⟨x0, x1, x2, x3, x4⟩ : Tbf)]).length = nl + 1 ∧ ys ++ [(⟨x0, x1, x2, x3, x4⟩ : Tbf)] = (xs.take (q + 1)).filter fun f => decide (p f)) := Lib.hid ⟨e6, HE.out.symm⟩
        have HO6 := Lib.hid o6
        have HB6 := Lib.hid (HB2.out.trans b6)
        clear o6 b6 e6 HY2 HB2 HX2 HL HE HFK HK e0 e1 e2 e3 e4 hBs
        go_wp2_with fail
        go_roundg (N - (q + 1))
        case measure => omega
        case rel => exact ⟨q + 1, _, a6, nl + 1, k6, by go_num, rfl, by omega, Nat.le_refl _, by omega, HL6, HO6, HB6⟩
      | false =>
        have HL6 : Hid (ys.length = nl ∧ ys = (xs.take (q + 1)).filter fun f => decide (p f)) := Lib.hid ⟨HL.out.1, by rw [HFK.out, if_neg (of_decide_eq_false HK.out), List.append_nil]⟩
        clear HL HFK HK HX2
        go_wp2_with fail
        go_roundg (N - (q + 1))
        case measure => omega
        case rel => exact ⟨q + 1, ys, al, nl, cl, by go_num, rfl, by omega, Nat.le_refl _, by omega, HL6, HY2, HB2⟩
    · have hd1 : ¬ (q : Int) < (N : Int) := by omega
      have HE : Hid (ys = R) := Lib.hid (by
        rw [HL.out.2, List.take_of_length_le (by have := HN.out; omega)]; exact HR.out)
      clear HL
      go_wp2_with fail
      go_ret
      rw [← HE.out]
      exact ⟨_, rfl, HY.out, HB.out⟩
/-- A row of more tables than some, from another world on. -/
theorem FilsTo.from {w0 w : World} {l : List Tbf} {e : Ending} {w' : World} (h : FilsTo w l e w') (b : Below w0.heap.size w0 w) : FilsTo w0 l e w' := by
  obtain ⟨u, rfl, ho, hb⟩ := h
  exact ⟨u, rfl, ho.base b.size, b.trans (hb.mono b.size)⟩
set_option maxHeartbeats 1000000 in
theorem vlevel_raw {B : Nat} {w : World} {b : Nat} {V : Ver} (h : VerAt B w b V) (n : Int) : Calls Try.prog 17 #[.pointer (some ⟨b, 0, none⟩), .int .i64 n] w (FilsTo w (V.fs.filter fun f => decide (f.lvl = n))) := by
  have b1 : Below w.heap.size w (w.alloc (.cells #[.int .i64 n] 3)) := (Below.refl _ w).alloc (Nat.le_refl _) _
  have hx := BlkAt.new w #[.int .i64 n] 3
  have HI := Lib.hid (those_lvl (fun f => f.lvl = n) w.heap.size (h.below b1) (fun f W hW => lvlF_any _ n f W ((hx.below hW).at 0) (hx.below hW).lt))
  have HB := Lib.hid b1
  clear h b1 hx
  go_enter Try.func17, Try.ntmps17
  go_wp2_with fail
  refine HI.out.mono ?_
  rintro e w2 hF
  have hF2 := hF.from HB.out
  obtain ⟨u, rfl, ho, hb⟩ := hF2
  have HO := Lib.hid (And.intro ho hb)
  clear hF ho hb HI HB
  go_wp2_with fail
  go_ret
  exact ⟨_, rfl, HO.out.1, HO.out.2⟩
set_option maxHeartbeats 1000000 in
theorem vover_raw {B : Nat} {w : World} {b : Nat} {V : Ver} (h : VerAt B w b V) (n : Int) (x y : ByteArray) : Calls Try.prog 11 #[.pointer (some ⟨b, 0, none⟩), .int .i64 n, .string x, .string y] w (FilsTo w (V.fs.filter fun f => decide (f.lvl = n ∧ vOverB x y f = true))) := by
  have b1 : Below w.heap.size w (((w.alloc (.cells #[.int .i64 n] 3)).alloc (.cells #[.string x] 9)).alloc (.cells #[.string y] 9)) := (((Below.refl _ w).alloc (Nat.le_refl _) _).alloc (by simp) _).alloc (by simp; omega) _
  have hx : Box3 (((w.alloc (.cells #[.int .i64 n] 3)).alloc (.cells #[.string x] 9)).alloc (.cells #[.string y] 9)) w.heap.size (w.heap.size + 1) (w.heap.size + 1 + 1) n x y := by
    have e1 : (w.alloc (.cells #[.int .i64 n] 3)).heap.size = w.heap.size + 1 := by simp
    have e2 : ((w.alloc (.cells #[.int .i64 n] 3)).alloc (.cells #[.string x] 9)).heap.size = w.heap.size + 1 + 1 := by simp
    refine ⟨((BlkAt.new w _ _).more _).more _, ?_, ?_⟩
    · have := (BlkAt.new (w.alloc (.cells #[.int .i64 n] 3)) #[.string x] 9).more (.cells #[.string y] 9)
      rwa [e1] at this
    · have := BlkAt.new ((w.alloc (.cells #[.int .i64 n] 3)).alloc (.cells #[.string x] 9)) #[.string y] 9
      rwa [e2] at this
  have HI := Lib.hid (those_over (fun f => f.lvl = n ∧ vOverB x y f = true) w.heap.size (w.heap.size + 1) (w.heap.size + 1 + 1) (h.below b1) (fun f W hW => overF_any _ _ _ n x y f W (hx.below hW)))
  have HB := Lib.hid b1
  clear h b1 hx
  go_enter Try.func11, Try.ntmps11
  go_wp2_with fail
  refine HI.out.mono ?_
  rintro e w2 hF
  have hF2 := hF.from HB.out
  obtain ⟨u, rfl, ho, hb⟩ := hF2
  have HO := Lib.hid (And.intro ho hb)
  clear hF ho hb HI HB
  go_wp2_with fail
  go_ret
  exact ⟨_, rfl, HO.out.1, HO.out.2⟩
end Go.Proofs.Ytjloaamaelcmaaa
