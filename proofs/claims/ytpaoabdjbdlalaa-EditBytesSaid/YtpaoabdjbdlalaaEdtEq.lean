/- The walks of the reference's EqFiles and EqEdit. -/
import Derived.Test.YtpaoabdjbdlalaaEdtChk
import Derived.Test.YtpaoabdjbdlalaaEdtFile
import Derived.Deep.LoopGhost
import Derived.Deep.CutBlock
import Derived.Deep.DeepCutAuto
import Derived.Deep.QuietTactic
import Derived.BigQuiet
namespace Go.Proofs.Ytpaoabdjbdlalaa
set_option linter.unusedVariables false
set_option maxRecDepth 100000
open Go.RowKit
def EqRes (p : Prop) (w : World) (e : Ending) (w' : World) : Prop := ∃ q : Bool, (q = true ↔ p) ∧ e = .returned (.bool q) ∧ Below w.heap.size w w'
/-- Two tables are the same, or in one of their five places they are not, and ahead of it they are. -/
theorem tbf_cmp (x y : Tbf) : x = y ∨ x.num ≠ y.num ∨ (x.num = y.num ∧ x.lvl ≠ y.lvl) ∨ (x.num = y.num ∧ x.lvl = y.lvl ∧ x.siz ≠ y.siz) ∨ (x.num = y.num ∧ x.lvl = y.lvl ∧ x.siz = y.siz ∧ x.lo ≠ y.lo) ∨ (x.num = y.num ∧ x.lvl = y.lvl ∧ x.siz = y.siz ∧ x.lo = y.lo ∧ x.hi ≠ y.hi) := by
  by_cases h1 : x.num = y.num
  · by_cases h2 : x.lvl = y.lvl
    · by_cases h3 : x.siz = y.siz
      · by_cases h4 : x.lo = y.lo
        · by_cases h5 : x.hi = y.hi
          · obtain ⟨a, b, c, d, e⟩ := x
            obtain ⟨a', b', c', d', e'⟩ := y
            simp only at h1 h2 h3 h4 h5
            subst h1 h2 h3 h4 h5
            exact .inl rfl
          · exact .inr (.inr (.inr (.inr (.inr ⟨h1, h2, h3, h4, h5⟩))))
        · exact .inr (.inr (.inr (.inr (.inl ⟨h1, h2, h3, h4⟩))))
      · exact .inr (.inr (.inr (.inl ⟨h1, h2, h3⟩)))
    · exact .inr (.inr (.inl ⟨h1, h2⟩))
  · exact .inr (.inl h1)
/-- Lists of one length are the same where each of their places is. -/
theorem list_upto {α : Type} {xs ys : List α} (hl : xs.length = ys.length) (h : ∀ j, j < xs.length → xs[j]? = ys[j]?) : xs = ys := by
  apply List.ext_getElem?
  intro j
  rcases Nat.lt_or_ge j xs.length with h1 | h1
  · exact h j h1
  · rw [List.getElem?_eq_none h1, List.getElem?_eq_none (by omega)]
set_option maxHeartbeats 16000000 in
theorem reqF_any (v u : Value) (xs ys : List Tbf) (hx : ∀ f ∈ xs, f.ok) (hy : ∀ f ∈ ys, f.ok) (hl : xs.length ≤ 1000000000000) (hl2 : ys.length ≤ 1000000000000) (w : World) (h1 : RdK encTbf 5 w v xs) (h2 : RdK encTbf 5 w u ys) :
    Calls Try.prog 26 #[v, u] w (EqRes (xs = ys) w) := by
  obtain ⟨a, cap, rfl, -⟩ := edFl_len h1
  obtain ⟨a2, cap2, rfl, -⟩ := edFl_len h2
  obtain ⟨Q, hQ⟩ : ∃ Q : Bool, (Q = true ↔ xs = ys) := by
    by_cases h : xs = ys
    · exact ⟨true, by simp [h]⟩
    · exact ⟨false, by simp [h]⟩
  have HQ := Lib.hid hQ
  have fin : ∀ (e : Ending) w', (e = .returned (.bool Q) ∧ Below w.heap.size w w') → EqRes (xs = ys) w e w' := fun e w' h => ⟨Q, hQ, h.1, h.2⟩
  refine Calls.mono ?_ fin
  clear fin hQ
  have HRX := Lib.hid h1
  have HRY := Lib.hid h2
  obtain ⟨N, hN⟩ : ∃ N, xs.length = N := ⟨_, rfl⟩
  obtain ⟨M, hM⟩ : ∃ M, ys.length = M := ⟨_, rfl⟩
  have HN := Lib.hid hN
  have HM := Lib.hid hM
  rw [hN] at HRX hl ⊢
  rw [hM] at HRY hl2 ⊢
  clear h1 h2 hN hM hx hy
  by_cases hNM : N = M
  · subst hNM
    have hne : ((N : Int) != (N : Int)) = false := by simp
    go_enter Try.func26, Try.ntmps26
    go_wp2_with fail
    go_loopg [5] N (fun kk vi wr => ∃ i : Nat, vi = .int .i64 (i : Int) ∧ i ≤ N ∧ N - i ≤ kk ∧ Hid (∀ j, j < i → xs[j]? = ys[j]?) ∧ Hid (Below w.heap.size w wr))
    case atStart => exact ⟨0, rfl, by omega, by omega, Lib.hid (fun j hj => by omega), Lib.hid (Below.refl _ _)⟩
    case round =>
      obtain ⟨q, rfl, hq, hqk, HG, HB⟩ := hrel
      by_cases hj : q < N
      · obtain ⟨x, hx⟩ : ∃ x, xs[q]? = some x := ⟨xs[q]'(by have := HN.out; omega), List.getElem?_eq_getElem _⟩
        obtain ⟨y, hy⟩ : ∃ y, ys[q]? = some y := ⟨ys[q]'(by have := HM.out; omega), List.getElem?_eq_getElem _⟩
        obtain ⟨b, off, rfl, hblt, d0, d1, d2, d3, d4⟩ := (HRX.out.below HB.out).atTbf q x hx
        obtain ⟨b2, off2, rfl, hblt2, e0, e1, e2, e3, e4⟩ := (HRY.out.below HB.out).atTbf q y hy
        have hq0 : (0 : Int) ≤ (q : Int) := by omega
        have hq1 : (q : Int) < (N : Int) := by omega
        have HXY := Lib.hid (And.intro hx hy)
        obtain ⟨P, hP⟩ : ∃ P : Bool, (P = true ↔ ¬ x = y) := by
          by_cases h : x = y
          · exact ⟨false, by simp [h]⟩
          · exact ⟨true, by simp [h]⟩
        have HP := Lib.hid hP
        clear hx hy hP
        go_upto_region 6 with fail
        go_cut [79] (fun c wx => c = .bool P ∧ Hid (Below wr.heap.size wr wx))
        case first =>
          as_aux_lemma =>
          rcases tbf_cmp x y with h | h | h | h | h | h
          · obtain rfl : P = false := by rw [← Bool.not_eq_true, HP.out]; exact fun hn => hn h
            obtain ⟨x1, x2, x3, x4, x5⟩ := x
            obtain ⟨y1, y2, y3, y4, y5⟩ := y
            obtain ⟨rfl, rfl, rfl, rfl, rfl⟩ := Tbf.mk.inj h
            have p1 : (x1 != x1) = false := by simp
            have p2 : (x2 != x2) = false := by simp
            have p3 : (x3 != x3) = false := by simp
            have p4 := bs_refl x4
            have p5 := bs_refl x5
            simp only at d0 d1 d2 d3 d4 e0 e1 e2 e3 e4
            clear HP HXY HG HB HRX HRY HQ HN HM
            go_quiet (fail)
            go_wp2_with fail
            go_meet
            exact ⟨rfl, Lib.hid (DrN.below ⟨nq, rfl⟩ _)⟩
          · obtain rfl : P = true := HP.out.2 fun hh => h (by rw [hh])
            obtain ⟨x1, x2, x3, x4, x5⟩ := x
            obtain ⟨y1, y2, y3, y4, y5⟩ := y
            have hne2 := h
            simp only at hne2
            clear h
            have p1 : (x1 != y1) = true := by rw [bne_iff_ne]; exact hne2
            simp only at d0 d1 d2 d3 d4 e0 e1 e2 e3 e4
            clear HP HXY HG HB HRX HRY HQ HN HM
            go_quiet (fail)
            go_wp2_with fail
            go_meet
            exact ⟨rfl, Lib.hid (DrN.below ⟨nq, rfl⟩ _)⟩
          · obtain rfl : P = true := HP.out.2 fun hh => h.2 (by rw [hh])
            obtain ⟨x1, x2, x3, x4, x5⟩ := x
            obtain ⟨y1, y2, y3, y4, y5⟩ := y
            obtain ⟨h0, hne2⟩ := h
            simp only at h0 hne2
            subst h0
            have p1 : (x1 != x1) = false := by simp
            have p2 : (x2 != y2) = true := by rw [bne_iff_ne]; exact hne2
            simp only at d0 d1 d2 d3 d4 e0 e1 e2 e3 e4
            clear HP HXY HG HB HRX HRY HQ HN HM
            go_quiet (fail)
            go_wp2_with fail
            go_meet
            exact ⟨rfl, Lib.hid (DrN.below ⟨nq, rfl⟩ _)⟩
          · obtain rfl : P = true := HP.out.2 fun hh => h.2.2 (by rw [hh])
            obtain ⟨x1, x2, x3, x4, x5⟩ := x
            obtain ⟨y1, y2, y3, y4, y5⟩ := y
            obtain ⟨h0, h1, hne2⟩ := h
            simp only at h0 h1 hne2
            subst h0 h1
            have p1 : (x1 != x1) = false := by simp
            have p2 : (x2 != x2) = false := by simp
            have p3 : (x3 != y3) = true := by rw [bne_iff_ne]; exact hne2
            simp only at d0 d1 d2 d3 d4 e0 e1 e2 e3 e4
            clear HP HXY HG HB HRX HRY HQ HN HM
            go_quiet (fail)
            go_wp2_with fail
            go_meet
            exact ⟨rfl, Lib.hid (DrN.below ⟨nq, rfl⟩ _)⟩
          · obtain rfl : P = true := HP.out.2 fun hh => h.2.2.2 (by rw [hh])
            obtain ⟨x1, x2, x3, x4, x5⟩ := x
            obtain ⟨y1, y2, y3, y4, y5⟩ := y
            obtain ⟨h0, h1, h2, hne2⟩ := h
            simp only at h0 h1 h2 hne2
            subst h0 h1 h2
            have p1 : (x1 != x1) = false := by simp
            have p2 : (x2 != x2) = false := by simp
            have p3 : (x3 != x3) = false := by simp
            have p4 := bs_ne hne2
            simp only at d0 d1 d2 d3 d4 e0 e1 e2 e3 e4
            clear HP HXY HG HB HRX HRY HQ HN HM
            go_quiet (fail)
            go_wp2_with fail
            go_meet
            exact ⟨rfl, Lib.hid (DrN.below ⟨nq, rfl⟩ _)⟩
          · obtain rfl : P = true := HP.out.2 fun hh => h.2.2.2.2 (by rw [hh])
            obtain ⟨x1, x2, x3, x4, x5⟩ := x
            obtain ⟨y1, y2, y3, y4, y5⟩ := y
            obtain ⟨h0, h1, h2, h3, hne2⟩ := h
            simp only at h0 h1 h2 h3 hne2
            subst h0 h1 h2 h3
            have p1 : (x1 != x1) = false := by simp
            have p2 : (x2 != x2) = false := by simp
            have p3 : (x3 != x3) = false := by simp
            have p4 := bs_refl x4
            have p5 := bs_ne hne2
            simp only at d0 d1 d2 d3 d4 e0 e1 e2 e3 e4
            clear HP HXY HG HB HRX HRY HQ HN HM
            go_quiet (fail)
            go_wp2_with fail
            go_meet
            exact ⟨rfl, Lib.hid (DrN.below ⟨nq, rfl⟩ _)⟩
        case rest =>
        obtain ⟨rfl, HD⟩ := hcut
        have HB2 := Lib.hid (HB.out.trans (HD.out.mono HB.out.size))
        clear HD HB d0 d1 d2 d3 d4 e0 e1 e2 e3 e4
        cases P with
        | true =>
          obtain rfl : Q = false := by
            rw [← Bool.not_eq_true, HQ.out]
            rintro rfl
            exact HP.out.1 rfl (Option.some.inj (HXY.out.1.symm.trans HXY.out.2))
          go_wp2_with fail
          go_ret
          exact ⟨rfl, HB2.out⟩
        | false =>
          have HG2 : Hid (∀ j, j < q + 1 → xs[j]? = ys[j]?) := Lib.hid fun j hj => by
            rcases Nat.lt_or_ge j q with h | h
            · exact HG.out j h
            · obtain rfl : j = q := by omega
              have hxy : x = y := Classical.byContradiction fun h => by cases HP.out.2 h
              rw [HXY.out.1, HXY.out.2, hxy]
          clear HG HXY HP
          go_wp2_with fail
          go_roundg (N - (q + 1))
          case measure => omega
          case rel => exact ⟨q + 1, by go_num, by omega, Nat.le_refl _, HG2, HB2⟩
      · have hq1 : ¬ (q : Int) < (N : Int) := by omega
        obtain rfl : Q = true := HQ.out.2 (list_upto (HN.out.trans HM.out.symm) fun j hjl => HG.out j (by have := HN.out; omega))
        go_wp2_with fail
        go_ret
        exact ⟨rfl, HB.out⟩
  · have hne : ((N : Int) != (M : Int)) = true := by rw [bne_iff_ne]; omega
    obtain rfl : Q = false := by
      rw [← Bool.not_eq_true, HQ.out]
      rintro rfl
      exact hNM (HN.out.symm.trans HM.out)
    clear HQ HRX HRY HN HM
    go_enter Try.func26, Try.ntmps26
    go_wp2_with fail
    go_ret
    exact ⟨rfl, Below.refl _ _⟩
end Go.Proofs.Ytpaoabdjbdlalaa
