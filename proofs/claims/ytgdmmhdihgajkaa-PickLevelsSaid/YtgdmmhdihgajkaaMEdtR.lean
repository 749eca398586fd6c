/- The walks of the reference's EqFiles and EqEdit. -/
import Derived.Test.YtgdmmhdihgajkaaMEdt
import Derived.Test.YtgdmmhdihgajkaaMBase
import Derived.Deep.LoopGhost
import Derived.Deep.CutBlock
import Derived.Deep.DeepCutAuto
import Derived.Deep.QuietTactic
import Derived.BigQuiet
import Derived.StillTailTactics
namespace Go.Proofs.Ytgdmmhdihgajkaa
set_option linter.unusedVariables false
set_option maxRecDepth 100000
open Go.RowKit
def EqRes (p : Prop) (w : World) (e : Ending) (w' : World) : Prop := ∃ q : Bool, (q = true ↔ p) ∧ e = .returned (.bool q) ∧ Below w.heap.size w w'
/-- Two tables are the same, or in one of their five places they are not, and ahead of it they are. -/
theorem tbf_cmp (x y : Tbf) : x = y ∨ x.num ≠ y.num ∨ (x.num = y.num ∧ x.lvl ≠ y.lvl) ∨ (x.num = y.num ∧ x.lvl = y.lvl ∧ x.siz ≠ y.siz) ∨ (x.num = y.num ∧ x.lvl = y.lvl ∧ x.siz = y.siz ∧ x.lo ≠ y.lo) ∨ (x.num = y.num ∧ x.lvl = y.lvl ∧ x.siz = y.siz ∧ x.lo = y.lo ∧ x.hi ≠ y.hi) := by
  by_cases h1 : x.num = y.num
  · by_cases h2 : x.lvl = y.lvl
    · by_cases h3 : x.siz = y.siz
      · by_cases h4 : x.lo = y.lo
        · by_cases h5 : x.hi = y.hi
          · obtain ⟨a, b, c, d, e⟩ := x
            obtain ⟨a', b', c', d', e'⟩ := y
            simp only at h1 h2 h3 h4 h5
            subst h1 h2 h3 h4 h5
            exact .inl rfl
          · exact .inr (.inr (.inr (.inr (.inr ⟨h1, h2, h3, h4, h5⟩))))
        · exact .inr (.inr (.inr (.inr (.inl ⟨h1, h2, h3, h4⟩))))
      · exact .inr (.inr (.inr (.inl ⟨h1, h2, h3⟩)))
    · exact .inr (.inr (.inl ⟨h1, h2⟩))
  · exact .inr (.inl h1)
/-- Lists of one length are the same where each of their places is. -/
theorem list_upto {α : Type} {xs ys : List α} (hl : xs.length = ys.length) (h : ∀ j, j < xs.length → xs[j]? = ys[j]?) : xs = ys := by
  apply List.ext_getElem?
  intro j
  rcases Nat.lt_or_ge j xs.length with h1 | h1
  · exact h j h1
  · rw [List.getElem?_eq_none h1, List.getElem?_eq_none (by omega)]
set_option maxHeartbeats 16000000 in
theorem reqF_any (v u : Value) (xs ys : List Tbf) (hx : ∀ f ∈ xs, f.ok) (hy : ∀ f ∈ ys, f.ok) (hl : xs.length ≤ 1000000000000) (hl2 : ys.length ≤ 1000000000000) (w : World) (h1 : RdK encTbf 5 w v xs) (h2 : RdK encTbf 5 w u ys) :
    Calls Try.prog 11 #[v, u] w (EqRes (xs = ys) w) := by
  obtain ⟨a, cap, rfl, -⟩ := edFl_len h1
  obtain ⟨a2, cap2, rfl, -⟩ := edFl_len h2
  obtain ⟨Q, hQ⟩ : ∃ Q : Bool, (Q = true ↔ xs = ys) := by
    by_cases h : xs = ys
    · exact ⟨true, by simp [h]⟩
    · exact ⟨false, by simp [h]⟩
  have HQ := Lib.hid hQ
  have fin : ∀ (e : Ending) w', (e = .returned (.bool Q) ∧ Below w.heap.size w w') → EqRes (xs = ys) w e w' := fun e w' h => ⟨Q, hQ, h.1, h.2⟩
  refine Calls.mono ?_ fin
  clear fin hQ
  have HRX := Lib.hid h1
  have HRY := Lib.hid h2
  obtain ⟨N, hN⟩ : ∃ N, xs.length = N := ⟨_, rfl⟩
  obtain ⟨M, hM⟩ : ∃ M, ys.length = M := ⟨_, rfl⟩
  have HN := Lib.hid hN
  have HM := Lib.hid hM
  rw [hN] at HRX hl ⊢
  rw [hM] at HRY hl2 ⊢
  clear h1 h2 hN hM hx hy
  by_cases hNM : N = M
  · subst hNM
    have hne : ((N : Int) != (N : Int)) = false := by simp
    go_enter Try.func11, Try.ntmps11
    go_wp2_with fail
    go_loopg [5] N (fun kk vi wr => ∃ i : Nat, vi = .int .i64 (i : Int) ∧ i ≤ N ∧ N - i ≤ kk ∧ Hid (∀ j, j < i → xs[j]? = ys[j]?) ∧ Hid (Below w.heap.size w wr))
    case atStart => exact ⟨0, rfl, by omega, by omega, Lib.hid (fun j hj => by omega), Lib.hid (Below.refl _ _)⟩
    case round =>
      obtain ⟨q, rfl, hq, hqk, HG, HB⟩ := hrel
      by_cases hj : q < N
      · obtain ⟨x, hx⟩ : ∃ x, xs[q]? = some x := ⟨xs[q]'(by have := HN.out; omega), List.getElem?_eq_getElem _⟩
        obtain ⟨y, hy⟩ : ∃ y, ys[q]? = some y := ⟨ys[q]'(by have := HM.out; omega), List.getElem?_eq_getElem _⟩
        obtain ⟨b, off, rfl, hblt, d0, d1, d2, d3, d4⟩ := (HRX.out.below HB.out).atTbf q x hx
        obtain ⟨b2, off2, rfl, hblt2, e0, e1, e2, e3, e4⟩ := (HRY.out.below HB.out).atTbf q y hy
        have hq0 : (0 : Int) ≤ (q : Int) := by omega
        have hq1 : (q : Int) < (N : Int) := by omega
        have HXY := Lib.hid (And.intro hx hy)
        obtain ⟨P, hP⟩ : ∃ P : Bool, (P = true ↔ ¬ x = y) := by
          by_cases h : x = y
          · exact ⟨false, by simp [h]⟩
          · exact ⟨true, by simp [h]⟩
        have HP := Lib.hid hP
        clear hx hy hP
        go_upto_region 6 with fail
        go_cut [79] (fun c wx => c = .bool P ∧ Hid (Below wr.heap.size wr wx))
        case first =>
          as_aux_lemma =>
          rcases tbf_cmp x y with h | h | h | h | h | h
          · obtain rfl : P = false := by rw [← Bool.not_eq_true, HP.out]; exact fun hn => hn h
            obtain ⟨x1, x2, x3, x4, x5⟩ := x
            obtain ⟨y1, y2, y3, y4, y5⟩ := y
            obtain ⟨rfl, rfl, rfl, rfl, rfl⟩ := Tbf.mk.inj h
            have p1 : (x1 != x1) = false := by simp
            have p2 : (x2 != x2) = false := by simp
            have p3 : (x3 != x3) = false := by simp
            have p4 := bs_refl x4
            have p5 := bs_refl x5
            simp only at d0 d1 d2 d3 d4 e0 e1 e2 e3 e4
            clear HP HXY HG HB HRX HRY HQ HN HM
            go_quiet (fail)
            go_wp2_with fail
            go_meet
            exact ⟨rfl, Lib.hid (DrN.below ⟨nq, rfl⟩ _)⟩
          · obtain rfl : P = true := HP.out.2 fun hh => h (by rw [hh])
            obtain ⟨x1, x2, x3, x4, x5⟩ := x
            obtain ⟨y1, y2, y3, y4, y5⟩ := y
            have hne2 := h
            simp only at hne2
            clear h
            have p1 : (x1 != y1) = true := by rw [bne_iff_ne]; exact hne2
            simp only at d0 d1 d2 d3 d4 e0 e1 e2 e3 e4
            clear HP HXY HG HB HRX HRY HQ HN HM
            go_quiet (fail)
            go_wp2_with fail
            go_meet
            exact ⟨rfl, Lib.hid (DrN.below ⟨nq, rfl⟩ _)⟩
          · obtain rfl : P = true := HP.out.2 fun hh => h.2 (by rw [hh])
            obtain ⟨x1, x2, x3, x4, x5⟩ := x
            obtain ⟨y1, y2, y3, y4, y5⟩ := y
            obtain ⟨h0, hne2⟩ := h
            simp only at h0 hne2
            subst h0
            have p1 : (x1 != x1) = false := by simp
            have p2 : (x2 != y2) = true := by rw [bne_iff_ne]; exact hne2
            simp only at d0 d1 d2 d3 d4 e0 e1 e2 e3 e4
            clear HP HXY HG HB HRX HRY HQ HN HM
            go_quiet (fail)
            go_wp2_with fail
            go_meet
            exact ⟨rfl, Lib.hid (DrN.below ⟨nq, rfl⟩ _)⟩
          · obtain rfl : P = true := HP.out.2 fun hh => h.2.2 (by rw [hh])
            obtain ⟨x1, x2, x3, x4, x5⟩ := x
            obtain ⟨y1, y2, y3, y4, y5⟩ := y
            obtain ⟨h0, h1, hne2⟩ := h
            simp only at h0 h1 hne2
            subst h0 h1
            have p1 : (x1 != x1) = false := by simp
            have p2 : (x2 != x2) = false := by simp
            have p3 : (x3 != y3) = true := by rw [bne_iff_ne]; exact hne2
            simp only at d0 d1 d2 d3 d4 e0 e1 e2 e3 e4
            clear HP HXY HG HB HRX HRY HQ HN HM
            go_quiet (fail)
            go_wp2_with fail
            go_meet
            exact ⟨rfl, Lib.hid (DrN.below ⟨nq, rfl⟩ _)⟩
          · obtain rfl : P = true := HP.out.2 fun hh => h.2.2.2 (by rw [hh])
            obtain ⟨x1, x2, x3, x4, x5⟩ := x
            obtain ⟨y1, y2, y3, y4, y5⟩ := y
            obtain ⟨h0, h1, h2, hne2⟩ := h
            simp only at h0 h1 h2 hne2
            subst h0 h1 h2
            have p1 : (x1 != x1) = false := by simp
            have p2 : (x2 != x2) = false := by simp
            have p3 : (x3 != x3) = false := by simp
            have p4 := bs_ne hne2
            simp only at d0 d1 d2 d3 d4 e0 e1 e2 e3 e4
            clear HP HXY HG HB HRX HRY HQ HN HM
            go_quiet (fail)
            go_wp2_with fail
            go_meet
            exact ⟨rfl, Lib.hid (DrN.below ⟨nq, rfl⟩ _)⟩
          · obtain rfl : P = true := HP.out.2 fun hh => h.2.2.2.2 (by rw [hh])
            obtain ⟨x1, x2, x3, x4, x5⟩ := x
            obtain ⟨y1, y2, y3, y4, y5⟩ := y
            obtain ⟨h0, h1, h2, h3, hne2⟩ := h
            simp only at h0 h1 h2 h3 hne2
            subst h0 h1 h2 h3
            have p1 : (x1 != x1) = false := by simp
            have p2 : (x2 != x2) = false := by simp
            have p3 : (x3 != x3) = false := by simp
            have p4 := bs_refl x4
            have p5 := bs_ne hne2
            simp only at d0 d1 d2 d3 d4 e0 e1 e2 e3 e4
            clear HP HXY HG HB HRX HRY HQ HN HM
            go_quiet (fail)
            go_wp2_with fail
            go_meet
            exact ⟨rfl, Lib.hid (DrN.below ⟨nq, rfl⟩ _)⟩
        case rest =>
        obtain ⟨rfl, HD⟩ := hcut
        have HB2 := Lib.hid (HB.out.trans (HD.out.mono HB.out.size))
        clear HD HB d0 d1 d2 d3 d4 e0 e1 e2 e3 e4
        cases P with
        | true =>
          obtain rfl : Q = false := by
            rw [← Bool.not_eq_true, HQ.out]
            rintro rfl
            exact HP.out.1 rfl (Option.some.inj (HXY.out.1.symm.trans HXY.out.2))
          go_wp2_with fail
          go_ret
          exact ⟨rfl, HB2.out⟩
        | false =>
          have HG2 : Hid (∀ j, j < q + 1 → xs[j]? = ys[j]?) := Lib.hid fun j hj => by
            rcases Nat.lt_or_ge j q with h | h
            · exact HG.out j h
            · obtain rfl : j = q := by omega
              have hxy : x = y := Classical.byContradiction fun h => by cases HP.out.2 h
              rw [HXY.out.1, HXY.out.2, hxy]
          clear HG HXY HP
          go_wp2_with fail
          go_roundg (N - (q + 1))
          case measure => omega
          case rel => exact ⟨q + 1, by go_num, by omega, Nat.le_refl _, HG2, HB2⟩
      · have hq1 : ¬ (q : Int) < (N : Int) := by omega
        obtain rfl : Q = true := HQ.out.2 (list_upto (HN.out.trans HM.out.symm) fun j hjl => HG.out j (by have := HN.out; omega))
        go_wp2_with fail
        go_ret
        exact ⟨rfl, HB.out⟩
  · have hne : ((N : Int) != (M : Int)) = true := by rw [bne_iff_ne]; omega
    obtain rfl : Q = false := by
      rw [← Bool.not_eq_true, HQ.out]
      rintro rfl
      exact hNM (HN.out.symm.trans HM.out)
    clear HQ HRX HRY HN HM
    go_enter Try.func11, Try.ntmps11
    go_wp2_with fail
    go_ret
    exact ⟨rfl, Below.refl _ _⟩
end Go.Proofs.Ytgdmmhdihgajkaa
/- The walk of the reference's EqEdit. -/
namespace Go.Proofs.Ytgdmmhdihgajkaa
set_option linter.unusedVariables false
set_option maxRecDepth 100000
open Go.RowKit
/-- Two edits are the same, or differ in one of their places, and ahead of it they do not. -/
theorem edt_cmp (x y : Edt) : (x.nxt = y.nxt ∧ x.lg = y.lg ∧ x.lst = y.lst ∧ x.adds = y.adds ∧ x.dels.length = y.dels.length) ∨ x.nxt ≠ y.nxt ∨ (x.nxt = y.nxt ∧ x.lg ≠ y.lg) ∨ (x.nxt = y.nxt ∧ x.lg = y.lg ∧ x.lst ≠ y.lst) ∨ (x.nxt = y.nxt ∧ x.lg = y.lg ∧ x.lst = y.lst ∧ x.adds ≠ y.adds) ∨ (x.nxt = y.nxt ∧ x.lg = y.lg ∧ x.lst = y.lst ∧ x.adds = y.adds ∧ x.dels.length ≠ y.dels.length) := by
  by_cases h1 : x.nxt = y.nxt
  · by_cases h2 : x.lg = y.lg
    · by_cases h3 : x.lst = y.lst
      · by_cases h4 : x.adds = y.adds
        · by_cases h5 : x.dels.length = y.dels.length
          · exact .inl ⟨h1, h2, h3, h4, h5⟩
          · exact .inr (.inr (.inr (.inr (.inr ⟨h1, h2, h3, h4, h5⟩))))
        · exact .inr (.inr (.inr (.inr (.inl ⟨h1, h2, h3, h4⟩))))
      · exact .inr (.inr (.inr (.inl ⟨h1, h2, h3⟩)))
    · exact .inr (.inr (.inl ⟨h1, h2⟩))
  · exact .inr (.inl h1)
/-- Two boxes with edits. -/
def Two5 (w0 w : World) (g : Nat) (u v : Array Value) (t : TypeId) : Prop := Below w0.heap.size w0 w ∧ BlkAt w g u t ∧ BlkAt w (g + 1) v t
theorem Two5.below {w0 w w' : World} {g : Nat} {u v : Array Value} {t : TypeId} (h : Two5 w0 w g u v t) (b : Below w.heap.size w w') : Two5 w0 w' g u v t :=
  ⟨h.1.trans (b.mono h.1.size), h.2.1.below b, h.2.2.below b⟩
theorem Two5.new (w : World) (u v : Array Value) (t : TypeId) : Two5 w ((w.alloc (.cells u t)).alloc (.cells v t)) w.heap.size u v t := by
  have n1 := BlkAt.new w u t
  have n2 := BlkAt.new (w.alloc (.cells u t)) v t
  have e : (w.alloc (.cells u t)).heap.size = w.heap.size + 1 := by simp
  rw [e] at n2
  exact ⟨((Below.refl _ w).alloc (Nat.le_refl _) _).alloc (by omega) _, n1.more _, n2⟩
end Go.Proofs.Ytgdmmhdihgajkaa
/- The walk of the reference's MayEdit. -/
namespace Go.Proofs.Ytgdmmhdihgajkaa
set_option linter.unusedVariables false
set_option maxRecDepth 100000
open Go.RowKit
def mayHead (x1 x2 x3 : Int) (a d : Nat) : Prop := (okEdN x1 ∧ okEdN x2 ∧ okEdN x3) ∧ (a ≤ 200 ∧ d ≤ 200)
instance (x1 x2 x3 : Int) (a d : Nat) : Decidable (mayHead x1 x2 x3 a d) := inferInstanceAs (Decidable (_ ∧ _))
theorem mayHead_bool (x1 x2 x3 : Int) (a d : Nat) :
    (decide (x1 < 0) || decide (1125899906842624 < x1) || decide (x2 < 0) || decide (1125899906842624 < x2) || decide (x3 < 0) || decide (1125899906842624 < x3) || decide ((200 : Int) < (a : Int)) || decide ((200 : Int) < (d : Int))) = decide (¬ mayHead x1 x2 x3 a d) := by
  rw [Bool.eq_iff_iff, decide_eq_true_iff]
  unfold mayHead okEdN
  simp only [Bool.or_eq_true, decide_eq_true_eq]
  omega
theorem badTb_bool2 (n l s : Int) (lo hi : ByteArray) :
    (decide (n < 1) || decide (1125899906842624 < n) || decide (l < 0) || decide (5 ≤ l) || decide (s < 0) || decide (16777216 < s) || (!Op.bytesLess lo.toList hi.toList && !lo.toList == hi.toList) || decide ((13000 : Int) < (lo.size : Int)) || decide ((13000 : Int) < (hi.size : Int))) = decide (badTb ⟨n, l, s, lo, hi⟩) := by
  have e1 : decide ((13000 : Int) < (lo.size : Int)) = decide (13000 < lo.size) := by rw [decide_eq_decide]; omega
  have e2 : decide ((13000 : Int) < (hi.size : Int)) = decide (13000 < hi.size) := by rw [decide_eq_decide]; omega
  rw [bl_gtr, e1, e2, Bool.eq_iff_iff, decide_eq_true_iff]
  unfold badTb badTab
  simp only [Bool.or_eq_true, decide_eq_true_eq]
  constructor
  · rintro ((((((((h | h) | h) | h) | h) | h) | h) | h) | h) <;> simp [h]
  · rintro ((h | h) | h | h | h | h | h | h | h) <;> simp [h]
theorem badTab_bool (n : Int) : (decide (n < 1) || decide (1125899906842624 < n)) = decide (badTab n) := by
  rw [Bool.eq_iff_iff, decide_eq_true_iff]
  unfold badTab
  simp only [Bool.or_eq_true, decide_eq_true_eq]
theorem gtr_tri (lo hi : ByteArray) : (Op.bytesLess lo.toList hi.toList = true ∧ True) ∨ (Op.bytesLess lo.toList hi.toList = false ∧ (lo.toList == hi.toList) = true) ∨ (Op.bytesLess lo.toList hi.toList = false ∧ (lo.toList == hi.toList) = false) := by
  cases Op.bytesLess lo.toList hi.toList <;> cases lo.toList == hi.toList <;> simp
set_option maxHeartbeats 8000000 in
theorem rmayEd_any (v : Value) (x : Edt) (hok : x.ok) (w : World) (h : EdAt w v x) : Calls Try.prog 30 #[v] w fun e w' => e = .returned (.bool (decide (mayE x))) ∧ Below w.heap.size w w' := by
  obtain ⟨va, vd, rfl, ha, hd⟩ := h
  obtain ⟨C, hC⟩ : ∃ C, decide (mayE x) = C := ⟨_, rfl⟩
  rw [hC]
  obtain ⟨hof, hl1, hl2⟩ := hok
  obtain ⟨aA, cA, rfl, -⟩ := edFl_len ha
  obtain ⟨aD, cD, rfl⟩ := edInts_len hd
  obtain ⟨x1, x2, x3, A, D⟩ := x
  simp only at ha hd hof hl1 hl2
  have HYN := Lib.hid (And.intro (fun h => by rw [← hC]; exact decide_eq_false h : ¬ mayE ⟨x1, x2, x3, A, D⟩ → C = false) (fun h => by rw [← hC]; exact decide_eq_true h : mayE ⟨x1, x2, x3, A, D⟩ → C = true))
  obtain ⟨LA, hLA⟩ : ∃ L, A.length = L := ⟨_, rfl⟩
  obtain ⟨LD, hLD⟩ : ∃ L, D.length = L := ⟨_, rfl⟩
  rw [hLA] at ha hl1 ⊢
  rw [hLD] at hd hl2 ⊢
  have HLA := Lib.hid hLA
  have HLD := Lib.hid hLD
  have HOF := Lib.hid hof
  have HB := Lib.hid ((Below.refl w.heap.size w).alloc (Nat.le_refl _) (.cells #[.int .i64 x1, .int .i64 x2, .int .i64 x3, .slice aA LA cA, .slice aD LD cD] 44))
  have HX := Lib.hid (BlkAt.new w #[.int .i64 x1, .int .i64 x2, .int .i64 x3, .slice aA LA cA, .slice aD LD cD] 44)
  have HRA := Lib.hid (ha.below HB.out)
  have HRD := Lib.hid (RdV.below hd HB.out)
  clear hC ha hd hof hLA hLD
  generalize hQ : decide (¬ mayHead x1 x2 x3 LA LD) = Q
  have HQ := Lib.hid ((mayHead_bool x1 x2 x3 LA LD).trans hQ)
  have HQ2 := Lib.hid hQ
  clear hQ
  go_enter Try.func30, Try.ntmps30
  go_upto_region 1 with fail
  generalize w.alloc (.cells #[.int .i64 x1, .int .i64 x2, .int .i64 x3, .slice aA LA cA, .slice aD LD cD] 44) = w1 at *
  go_cut [45] (fun c wx => c = .bool Q ∧ w1 = wx)
  case first =>
    as_aux_lemma =>
    obtain ⟨d0, d1, d2, d3, d4, -, -, -, -, -⟩ := HX.out.cells5
    clear HYN HX HRA HRD HB HQ2 HOF HLA HLD
    go_wp2
    all_goals
      go_meet
      refine ⟨?_, rfl⟩
      first
        | exact congrArg Value.bool HQ.out
        | exact congrArg Value.bool (Eq.trans (by simp only [*, decide_true, Bool.or_true, Bool.true_or]) HQ.out)
  case rest =>
  obtain ⟨rfl, rfl⟩ := hcut
  clear HQ
  cases Q with
  | true =>
    obtain rfl : C = false := HYN.out.1 fun h => of_decide_eq_true HQ2.out ⟨h.1, by have := h.2.1; simp only at this; rw [HLA.out, HLD.out] at this; exact this⟩
    clear HYN HQ2 HRA HRD HX HOF
    go_wp2_with fail
    go_ret
    exact ⟨rfl, HB.out⟩
  | false =>
    have hh : mayHead x1 x2 x3 LA LD := Decidable.not_not.1 (of_decide_eq_false HQ2.out)
    have HH := Lib.hid hh
    have hla := hh.2.1
    have hld := hh.2.2
    clear hh HQ2
    go_wp2_with fail
    go_loopg [3] LA (fun kk vi wr => ∃ i : Nat, vi = .int .i64 (i : Int) ∧ i ≤ LA ∧ LA - i ≤ kk ∧ Hid (∀ j f, j < i → A[j]? = some f → ¬ badTb f) ∧ Hid (Below w1.heap.size w1 wr))
    case atStart => exact ⟨0, rfl, by omega, by omega, Lib.hid (fun j y hj => by omega), Lib.hid (Below.refl _ _)⟩
    case round =>
      obtain ⟨q, rfl, hq, hkk, HG, HBR⟩ := hrel
      obtain ⟨d0, d1, d2, d3, d4, -, -, -, -, -⟩ := (HX.out.below HBR.out).cells5
      by_cases h1 : q < LA
      · have hd1 : (q : Int) < (LA : Int) := by omega
        have hd0 : (0 : Int) ≤ (q : Int) := by omega
        obtain ⟨f, hf⟩ : ∃ f, A[q]? = some f := ⟨A[q]'(by have := HLA.out; omega), List.getElem?_eq_getElem _⟩
        have hfo := HOF.out f (List.mem_of_getElem? hf)
        obtain ⟨bA, off, rfl, hblt, e0, e1, e2, e3, e4⟩ := (HRA.out.below HBR.out).atTbf q f hf
        have HFA := Lib.hid hf
        obtain ⟨y1, y2, y3, y4, y5⟩ := f
        simp only at e0 e1 e2 e3 e4
        obtain ⟨h4, h5⟩ := hfo
        simp only at h4 h5
        unfold maxLen at h4 h5
        generalize hP : decide (badTb ⟨y1, y2, y3, y4, y5⟩) = P
        have HP := Lib.hid ((badTb_bool2 y1 y2 y3 y4 y5).trans hP)
        have HP2 := Lib.hid hP
        clear hf hP
        have HB2 := Lib.hid (HBR.out.trans ((Below.refl wr.heap.size wr).alloc (Nat.le_refl _) (.cells #[.int .i64 y1, .int .i64 y2, .int .i64 y3, .string y4, .string y5] 49) |>.mono HBR.out.size))
        have HN := Lib.hid (BlkAt.new wr #[.int .i64 y1, .int .i64 y2, .int .i64 y3, .string y4, .string y5] 49)
        go_upto_region 7 with fail
        clear e0 e1 e2 e3 e4 d0 d1 d2 d3 d4
        generalize wr.heap.size = gf at *
        generalize wr.alloc (.cells #[.int .i64 y1, .int .i64 y2, .int .i64 y3, .string y4, .string y5] 49) = w2 at *
        go_cut [104] (fun c wx => c = .bool P ∧ w2 = wx)
        case first =>
          as_aux_lemma =>
          obtain ⟨d0, d1, d2, d3, d4, -, -, -, -, -⟩ := HN.out.cells5
          clear HYN HX HRA HRD HB HP2 HOF HLA HLD HN HB2 HG HBR HH HFA
          obtain ⟨G, hG⟩ : ∃ G, (!Op.bytesLess y4.toList y5.toList && !y4.toList == y5.toList) = G := ⟨_, rfl⟩
          have hp := HP.out
          rw [hG] at hp
          have HP3 := Lib.hid hp
          clear hp HP
          by_cases k0 : y1 < 1
          · obtain rfl : P = true := by rw [← HP3.out, decide_eq_true k0]; simp only [Bool.true_or]
            clear HP3
            go_wp2_with fail
            go_meet
            exact ⟨rfl, rfl⟩
          by_cases k1 : 1125899906842624 < y1
          · obtain rfl : P = true := by rw [← HP3.out, decide_eq_true k1]; simp only [Bool.or_true, Bool.true_or]
            clear HP3
            go_wp2_with fail
            go_meet
            exact ⟨rfl, rfl⟩
          by_cases k2 : y2 < 0
          · obtain rfl : P = true := by rw [← HP3.out, decide_eq_true k2]; simp only [Bool.or_true, Bool.true_or]
            clear HP3
            go_wp2_with fail
            go_meet
            exact ⟨rfl, rfl⟩
          by_cases k3 : 5 ≤ y2
          · obtain rfl : P = true := by rw [← HP3.out, decide_eq_true k3]; simp only [Bool.or_true, Bool.true_or]
            clear HP3
            go_wp2_with fail
            go_meet
            exact ⟨rfl, rfl⟩
          by_cases k4 : y3 < 0
          · obtain rfl : P = true := by rw [← HP3.out, decide_eq_true k4]; simp only [Bool.or_true, Bool.true_or]
            clear HP3
            go_wp2_with fail
            go_meet
            exact ⟨rfl, rfl⟩
          by_cases k5 : 16777216 < y3
          · obtain rfl : P = true := by rw [← HP3.out, decide_eq_true k5]; simp only [Bool.or_true, Bool.true_or]
            clear HP3
            go_wp2_with fail
            go_meet
            exact ⟨rfl, rfl⟩
          cases G with
          | true =>
            obtain rfl : P = true := by rw [← HP3.out]; simp
            clear HP3
            go_wp2_with fail
            go_meet
            exact ⟨rfl, rfl⟩
          | false =>
            by_cases k7 : (13000 : Int) < (y4.size : Int)
            · obtain rfl : P = true := by rw [← HP3.out, decide_eq_true k7]; simp only [Bool.or_true, Bool.true_or]
              clear HP3
              go_wp2_with fail
              go_meet
              exact ⟨rfl, rfl⟩
            by_cases k8 : (13000 : Int) < (y5.size : Int)
            · obtain rfl : P = true := by rw [← HP3.out, decide_eq_true k8]; simp only [Bool.or_true]
              clear HP3
              go_wp2_with fail
              go_meet
              exact ⟨rfl, rfl⟩
            obtain rfl : P = false := by rw [← HP3.out]; simp only [k0, k1, k2, k3, k4, k5, k7, k8, decide_false, Bool.or_false]
            clear HP3
            go_wp2_with fail
            go_meet
            exact ⟨rfl, rfl⟩
        case rest =>
        obtain ⟨rfl, rfl⟩ := hcut
        clear HP h4 h5
        cases P with
        | true =>
          obtain rfl : C = false := HYN.out.1 fun h => h.2.2.1 _ (List.mem_of_getElem? HFA.out) (of_decide_eq_true HP2.out)
          clear HYN HP2 HRD HX HOF HG
          go_wp2_with fail
          go_ret
          exact ⟨rfl, HB.out.trans (HB2.out.mono HB.out.size)⟩
        | false =>
          have HG2 : Hid (∀ j f, j < q + 1 → A[j]? = some f → ¬ badTb f) := Lib.hid fun j y hj hy => by
            rcases Nat.lt_or_ge j q with h | h
            · exact HG.out j y h hy
            · obtain rfl : j = q := by omega
              rw [HFA.out] at hy
              obtain rfl := Option.some.inj hy
              exact of_decide_eq_false HP2.out
          clear HP2 HG HFA
          go_wp2_with fail
          go_roundg (LA - (q + 1))
          case measure => omega
          case rel => exact ⟨q + 1, by go_num, by omega, Nat.le_refl _, HG2, HB2⟩
      · have hd1 : ¬ (q : Int) < (LA : Int) := by omega
        have HGA : Hid (∀ f ∈ A, ¬ badTb f) := Lib.hid fun f hf => by
          obtain ⟨j, hj, rfl⟩ := List.getElem_of_mem hf
          exact HG.out j _ (by have := HLA.out; omega) (List.getElem?_eq_getElem hj)
        clear HG HRA HOF
        go_wp2_with fail
        go_loopg [5] LD (fun kk vi wx => wr = wx ∧ ∃ i : Nat, vi = .int .i64 (i : Int) ∧ i ≤ LD ∧ LD - i ≤ kk ∧ Hid (∀ j n, j < i → D[j]? = some n → ¬ badTab n))
        case atStart => exact ⟨rfl, 0, rfl, by omega, by omega, Lib.hid (fun j y hj => by omega)⟩
        case round =>
          obtain ⟨rfl, p, rfl, hp, hkp, HG⟩ := hrel
          by_cases h2 : p < LD
          · have hp1 : (p : Int) < (LD : Int) := by omega
            have hp0 : (0 : Int) ≤ (p : Int) := by omega
            obtain ⟨n, hn⟩ : ∃ n, D[p]? = some n := ⟨D[p]'(by have := HLD.out; omega), List.getElem?_eq_getElem _⟩
            obtain ⟨bD, off, rfl, hblt, e0⟩ := edInts_at (RdV.below HRD.out HBR.out) p n hn
            have HFA := Lib.hid hn
            generalize hP : decide (badTab n) = P
            have HP := Lib.hid ((badTab_bool n).trans hP)
            have HP2 := Lib.hid hP
            clear hn hP
            go_upto_region 12 with fail
            go_cut [125] (fun c wx => c = .bool P ∧ wr = wx)
            case first =>
              as_aux_lemma =>
              clear HYN HX HRD HB HP2 HLA HLD HG HBR HH HFA HGA
              go_wp2
              all_goals
                go_meet
                refine ⟨?_, rfl⟩
                first
                  | exact congrArg Value.bool HP.out
                  | exact congrArg Value.bool (Eq.trans (by simp only [*, decide_true, Bool.true_or]) HP.out)
            case rest =>
            obtain ⟨rfl, rfl⟩ := hcut
            clear HP
            cases P with
            | true =>
              obtain rfl : C = false := HYN.out.1 fun h => h.2.2.2 _ (List.mem_of_getElem? HFA.out) (of_decide_eq_true HP2.out)
              clear HYN HP2 HG
              go_wp2_with fail
              go_ret
              exact ⟨rfl, HB.out.trans (HBR.out.mono HB.out.size)⟩
            | false =>
              have HG2 : Hid (∀ j n, j < p + 1 → D[j]? = some n → ¬ badTab n) := Lib.hid fun j y hj hy => by
                rcases Nat.lt_or_ge j p with h | h
                · exact HG.out j y h hy
                · obtain rfl : j = p := by omega
                  rw [HFA.out] at hy
                  obtain rfl := Option.some.inj hy
                  exact of_decide_eq_false HP2.out
              clear HP2 HG HFA
              go_wp2_with fail
              go_roundg (LD - (p + 1))
              case measure => omega
              case rel => exact ⟨rfl, p + 1, by go_num, by omega, Nat.le_refl _, HG2⟩
          · have hp1 : ¬ (p : Int) < (LD : Int) := by omega
            obtain rfl : C = true := HYN.out.2 ⟨HH.out.1, by simp only; rw [HLA.out, HLD.out]; exact HH.out.2, HGA.out, fun n hn => by
              obtain ⟨j, hj, rfl⟩ := List.getElem_of_mem hn
              exact HG.out j _ (by have := HLD.out; have hj' : j < D.length := hj; omega) (List.getElem?_eq_getElem hj)⟩
            clear HYN HG
            go_wp2_with fail
            go_ret
            exact ⟨rfl, HB.out.trans (HBR.out.mono HB.out.size)⟩
end Go.Proofs.Ytgdmmhdihgajkaa
/- The laws' Cut of an edit: some tables and numbers, each text short. -/
namespace Go.Proofs.Ytgdmmhdihgajkaa
set_option linter.unusedVariables false
set_option maxRecDepth 100000
open Go.RowKit
theorem Two5.set0 {w0 w : World} {g : Nat} {u v : Array Value} {t : TypeId} (h : Two5 w0 w g u v t) (hg : w0.heap.size ≤ g) (o : Nat) (x : Value) : Two5 w0 (w.setCell ⟨g, o, none⟩ x) g (u.setIfInBounds o x) v t :=
  ⟨h.1.setCell hg x, h.2.1.set x, h.2.2.other x (by omega)⟩
theorem sl_hF (W : World) (a : Option Addr) (n cap k : Nat) (hc : k ≤ cap) :
    (Instr.sliceAt 30 (.slice a n cap) none (some (.int .i64 (k : Int))) none).run Try.prog W = .ok (.slice a k cap) W := by
  have hT : Try.prog.underlying 30 = some (.slice (Try.prog.elem 30)) := by kernel_rfl
  have hS : (sizeOf (Try.prog.elem 30)).run Try.prog W = .ok 5 W := by kernel_rfl
  rw [run_sliceAt_slice (h := hT), run_slice_h (w := W) (t := 30) (a := a) (len := n) (cap := cap) (ht := hT) (kh := .i64) (h := k) (h0 := by omega) (h2 := by omega), hS]
  have e : a.map (·.add 0) = a := map_add0 a
  simp [Result.andThen, sliced, e]
theorem sl_h64 (W : World) (a : Option Addr) (n cap k : Nat) (hc : k ≤ cap) :
    (Instr.sliceAt 42 (.slice a n cap) none (some (.int .i64 (k : Int))) none).run Try.prog W = .ok (.slice a k cap) W := by
  have hT : Try.prog.underlying 42 = some (.slice (Try.prog.elem 42)) := by kernel_rfl
  have hS : (sizeOf (Try.prog.elem 42)).run Try.prog W = .ok 1 W := by kernel_rfl
  rw [run_sliceAt_slice (h := hT), run_slice_h (w := W) (t := 42) (a := a) (len := n) (cap := cap) (ht := hT) (kh := .i64) (h := k) (h0 := by omega) (h2 := by omega), hS]
  have e : a.map (·.add 0) = a := map_add0 a
  simp [Result.andThen, sliced, e]
theorem edInts_take {w : World} {a : Option Addr} {n cap : Nat} {xs : List Int} (h : RdV w (.slice a n cap) (xs.map encI64)) (j : Nat) (hj : j ≤ n) : RdV w (.slice a j cap) ((xs.take j).map encI64) := by
  rw [List.map_take]
  rcases Nat.eq_zero_or_pos j with h0 | h0
  · subst h0; exact .inl ⟨a, cap, rfl, by simp⟩
  · rcases id h with ⟨_, _, e, e2⟩ | ⟨b, off, c, e, _⟩
    · simp only [Value.slice.injEq] at e; omega
    · simp only [Value.slice.injEq] at e
      obtain ⟨rfl, -, rfl⟩ := e
      exact rdV_take h j hj
theorem own_from {α : Type} {enc : α → List Value} {k E B : Nat} {w : World} {v : Value} {xs : List α} (h : OwnK enc k E B w v xs) : ∀ g, v.ownBlock = some g → B ≤ g := by
  intro g hg
  rcases h.blk with ⟨rfl, -⟩ | ⟨g', cap, cur, rfl, h2, -⟩
  · cases hg
  · obtain rfl : g' = g := Option.some.inj hg
    exact h2
/-- A short table. -/
def Tbf.short (f : Tbf) : Prop := f.lo.size ≤ 20 ∧ f.hi.size ≤ 20
def Edt.short (x : Edt) : Prop := x.adds.length ≤ 12 ∧ x.dels.length ≤ 12 ∧ ∀ f ∈ x.adds, f.short
theorem Edt.short.ok {x : Edt} (h : x.short) : x.ok := ⟨fun f hf => by obtain ⟨h1, h2⟩ := h.2.2 f hf; constructor <;> (unfold maxLen; omega), by have := h.1; omega, by have := h.2.1; omega⟩
/-- An edit that reads as y: its tables in a row of the call's own (blocks from B on), its numbers as they came in (at w0). -/
structure EdHalf (w0 : World) (B : Nat) (w : World) (va vd : Value) (y : Edt) : Prop where
  adds : OwnK encTbf 5 49 B w va y.adds
  dels : RdV w0 vd (y.dels.map encI64)
theorem EdHalf.at {w0 w : World} {B : Nat} {va vd : Value} {y : Edt} (h : EdHalf w0 B w va vd y) (b : Below w0.heap.size w0 w) : EdAt w (.agg #[.int .i64 y.nxt, .int .i64 y.lg, .int .i64 y.lst, va, vd]) y := ⟨va, vd, rfl, h.adds.rd encTbf_len, RdV.below h.dels b⟩
theorem EdHalf.below {w0 w w' : World} {B : Nat} {va vd : Value} {y : Edt} (h : EdHalf w0 B w va vd y) (b : Below w.heap.size w w') : EdHalf w0 B w' va vd y := ⟨h.adds.below b, h.dels⟩
/-- What Cut answers: a short edit. -/
def CutTo (w0 w : World) (e : Ending) (w' : World) : Prop := ∃ va vd y, e = .returned (.agg #[.int .i64 y.nxt, .int .i64 y.lg, .int .i64 y.lst, va, vd]) ∧ EdHalf w0 w.heap.size w' va vd y ∧ y.short ∧ Below w.heap.size w w'
set_option maxHeartbeats 16000000 in
theorem edCut_any (v : Value) (x : Edt) (hof : ∀ f ∈ x.adds, f.ok) (w0 w : World) (h : EdAt w0 v x) (hw0 : Below w0.heap.size w0 w) : Calls Try.prog 14 #[v] w (CutTo w0 w) := by
  obtain ⟨va, vd, rfl, ha, hd⟩ := h
  obtain ⟨aA, cA, rfl, hcA⟩ := edFl_len ha
  obtain ⟨aD, cD, rfl, hcD⟩ := edInts_lenC hd
  obtain ⟨x1, x2, x3, A, D⟩ := x
  simp only at ha hd hof hcA hcD ⊢
  obtain ⟨LA, hLA⟩ : ∃ N, A.length = N := ⟨_, rfl⟩
  obtain ⟨LD, hLD⟩ : ∃ N, D.length = N := ⟨_, rfl⟩
  have HLA := Lib.hid hLA
  have HLD := Lib.hid hLD
  rw [hLA] at ha hcA ⊢
  rw [hLD] at hd hcD ⊢
  have HRA := Lib.hid (ha.below hw0)
  have HRD := Lib.hid hd
  have HOF := Lib.hid hof
  have HX := Lib.hid (Two5.new w #[.int .i64 x1, .int .i64 x2, .int .i64 x3, .slice aA LA cA, .slice aD LD cD] #[.int .i64 0, .int .i64 0, .int .i64 0, .slice none 0 0, .slice none 0 0] 44)
  have hslA : 12 < LA → ∀ W, (Instr.sliceAt 30 (.slice aA LA cA) none (some (.int .i64 12)) none).run Try.prog W = .ok (.slice aA 12 cA) W := fun h W => sl_hF W aA LA cA 12 (by have := hcA (by omega); omega)
  have hslD : 12 < LD → ∀ W, (Instr.sliceAt 42 (.slice aD LD cD) none (some (.int .i64 12)) none).run Try.prog W = .ok (.slice aD 12 cD) W := fun h W => sl_h64 W aD LD cD 12 (by have := hcD (by omega); omega)
  have HSD := Lib.hid hslD
  have HSA := Lib.hid hslA
  clear ha hd hof hLA hLD hslD hslA hcA hcD hw0
  go_enter Try.func14, Try.ntmps14
  go_upto_if 9 with fail
  generalize hw2 : (w.alloc (.cells #[.int .i64 x1, .int .i64 x2, .int .i64 x3, .slice aA LA cA, .slice aD LD cD] 44)).alloc (.cells #[.int .i64 0, .int .i64 0, .int .i64 0, .slice none 0 0, .slice none 0 0] 44) = w2 at *
  clear hw2
  go_cut [] (fun wx => ∃ n' : Nat, n' ≤ 12 ∧ n' ≤ LA ∧ Hid (Two5 w wx w.heap.size #[.int .i64 x1, .int .i64 x2, .int .i64 x3, .slice aA n' cA, .slice aD LD cD] #[.int .i64 0, .int .i64 0, .int .i64 0, .slice none 0 0, .slice none 0 0] 44))
  case first =>
    as_aux_lemma =>
    obtain ⟨d0, d1, d2, d3, d4, f0, f1, f2, f3, f4⟩ := HX.out.2.1.cells5
    by_cases h12 : 12 < LA
    · have hi : (12 : Int) < (LA : Int) := by omega
      have hsl := HSA.out h12
      go_wp2_with fail
      go_meet
      exact ⟨12, by omega, by omega, Lib.hid (HX.out.set0 (Nat.le_refl _) 3 (.slice aA 12 cA))⟩
    · have hi : ¬ (12 : Int) < (LA : Int) := by omega
      go_wp2_with fail
      go_meet
      exact ⟨LA, by omega, by omega, HX⟩
  case rest =>
  obtain ⟨n', hn12, hnA, HX2⟩ := hcut
  have HRA2 := Lib.hid ((HRA.out.takeC n' hnA).below HX2.out.1)
  have HB1 := Lib.hid HX2.out.1
  have HSZ : Hid (w.heap.size + 1 < wc.heap.size) := Lib.hid HX2.out.2.2.lt
  have HOF2 : Hid (∀ f ∈ A.take n', f.ok) := Lib.hid fun f hf => HOF.out f (List.mem_of_mem_take hf)
  have HNT : Hid ((A.take n').length = n') := Lib.hid (by rw [List.length_take, HLA.out]; omega)
  clear HX HRA HSA HOF HLA
  generalize A.take n' = A2 at *
  go_wp2_with fail
  go_loopg [3, 4] n' (fun kk vl vi wr => ∃ (i : Nat) (ys : List Tbf) (al : Option Addr) (kl : Nat), vi = .int .i64 (i : Int) ∧ vl = .slice al i kl ∧ i ≤ n' ∧ n' - i ≤ kk ∧ ys.length = i ∧ Hid (∀ f ∈ ys, f.short) ∧ Hid (OwnK encTbf 5 49 wc.heap.size wr (.slice al i kl) ys ∧ Below wc.heap.size wc wr))
  case atStart => exact ⟨0, [], none, 0, rfl, rfl, by omega, by omega, rfl, Lib.hid (by simp), Lib.hid ⟨OwnK.nil _ _ _ _ _, Below.refl _ _⟩⟩
  case round =>
    obtain ⟨q, ys, al, kl, rfl, rfl, hq, hqk, hyl, HSH, HO⟩ := hrel
    have hwr := HO.out.2.size
    have HXR := Lib.hid (HX2.out.below HO.out.2)
    obtain ⟨d0, d1, d2, d3, d4, f0, f1, f2, f3, f4⟩ := HXR.out.2.1.cells5
    by_cases h1 : q < n'
    · have hq1 : (q : Int) < (n' : Int) := by omega
      have hq0 : (0 : Int) ≤ (q : Int) := by omega
      obtain ⟨f, hf⟩ : ∃ f, A2[q]? = some f := ⟨A2[q]'(by have := HNT.out; omega), List.getElem?_eq_getElem _⟩
      obtain ⟨b, off, rfl, hblt, e0, e1, e2, e3, e4⟩ := (HRA2.out.below HO.out.2).atTbf q f hf
      obtain ⟨k1, k2⟩ := HOF2.out f (List.mem_of_getElem? hf)
      obtain ⟨t1, n1, c1⟩ := cut_fix f.lo 20 (by omega) k1
      obtain ⟨t2, n2, c2⟩ := cut_fix f.hi 20 (by omega) k2
      have C1 := Lib.hid c1
      have C2 := Lib.hid c2
      have HN12 : Hid (t1.size ≤ 20 ∧ t2.size ≤ 20) := Lib.hid ⟨n1, n2⟩
      obtain ⟨y1, y2, y3, y4, y5⟩ := f
      simp only at e0 e1 e2 e3 e4 C1 C2
      clear hf k1 k2 c1 c2 n1 n2
      go_upto_region 8 with fail
      have HR1 : Hid (BlkAt (wr.alloc (.cells #[.int .i64 y1, .int .i64 y2, .int .i64 y3, .string y4, .string y5] 49)).drew wr.heap.size #[.int .i64 y1, .int .i64 y2, .int .i64 y3, .string y4, .string y5] 49) := Lib.hid (BlkAt.new wr _ _)
      have hal : Below wr.heap.size wr (wr.alloc (.cells #[.int .i64 y1, .int .i64 y2, .int .i64 y3, .string y4, .string y5] 49)).drew := ((Below.refl _ wr).alloc (Nat.le_refl _) _).drew
      have HS : Hid (∀ (v1 v2 : Value), Below wr.heap.size wr (((wr.alloc (.cells #[.int .i64 y1, .int .i64 y2, .int .i64 y3, .string y4, .string y5] 49)).drew.setCell ⟨wr.heap.size, 3, none⟩ v1).setCell ⟨wr.heap.size, 4, none⟩ v2)) := Lib.hid fun v1 v2 => (hal.setCell (p := ⟨wr.heap.size, 3, none⟩) (Nat.le_refl _) v1).setCell (p := ⟨wr.heap.size, 4, none⟩) (Nat.le_refl _) v2
      clear hal d0 d1 d2 d3 d4 e0 e1 e2 e3 e4 f0 f1 f2 f3 f4
      refine wp_region_still_tail 7 (by kernel_rfl) (by kernel_rfl) ?_
      change wpStill _ _ (World.drew _) (fun a => wpList _ _ _ _ a (World.drew _)) _ _
      simp only [List.take_succ_cons, List.take_zero, List.drop_succ_cons, List.drop_zero]
      generalize hg : wr.heap.size = g at HR1 HS ⊢
      generalize World.drew (wr.alloc _) = w3 at HR1 HS ⊢
      obtain ⟨a0, a1, a2, a3, a4, f0, f1, f2, f3, f4⟩ := HR1.out.cells5
      still_step
      still_step
      still_call (C1.out _)
      still_step
      still_step
      still_call (C2.out _)
      still_step
      refine wpStill_nil ?_
      have hb := HS.out (.string t1) (.string t2)
      have HB2 : Hid (Below wc.heap.size wc ((w3.setCell ⟨g, 3, none⟩ (.string t1)).setCell ⟨g, 4, none⟩ (.string t2))) := Lib.hid (HO.out.2.trans (hb.mono (by rw [← hg]; exact HO.out.2.size)))
      have HO2 : Hid (OwnK encTbf 5 49 wc.heap.size ((w3.setCell ⟨g, 3, none⟩ (.string t1)).setCell ⟨g, 4, none⟩ (.string t2)) (.slice al q kl) ys) := Lib.hid (HO.out.1.below (by rw [hg]; exact hb))
      clear hb HS HO hg HXR
      go_wp2_with (at_builtin; refine wp_appHK elem_tbf encTbf_len _ _ (by rfl) (by rfl) (by rfl) HO2.out ⟨y1, y2, y3, t1, t2⟩ _ (by rfl) (by simp) ?c1 ?c2 ?c3 ?c4 ?_)
      case c1 => exact tbf_cells _
      case c2 => omega
      case c3 => unfold maxLen; omega
      case c4 => exact HB2.out.size
      intro v' w' o' b'
      obtain ⟨a', k', rfl⟩ := tbf_form o'
      have hyl2 : (ys ++ [(⟨y1, y2, y3, t1, t2⟩ : Tbf)]).length = q + 1 := by rw [List.length_append, hyl]; rfl
      rw [hyl2] at o'
      have HO' := Lib.hid (And.intro o' (HB2.out.trans b'))
      clear o' b' HO2 HB2
      rw [hyl2]
      go_wp2_with fail
      go_roundg (n' - (q + 1))
      case measure => omega
      case rel =>
        refine ⟨q + 1, _, a', k', by go_num, rfl, by omega, Nat.le_refl _, hyl2, Lib.hid (fun o ho => ?_), HO'⟩
        rcases List.mem_append.1 ho with h | h
        · exact HSH.out o h
        · obtain rfl := List.mem_singleton.1 h
          exact HN12.out
    · have hq1 : ¬ (q : Int) < (n' : Int) := by omega
      obtain rfl : q = n' := by omega
      have HRDW := Lib.hid ((HX2.out.1.trans (HO.out.2.mono HX2.out.1.size)))
      have HBA := Lib.hid (And.intro HO.out (And.intro HSH.out HSZ.out))
      have HXS := Lib.hid (HXR.out.set0 (Nat.le_refl _) 3 (.slice al q kl))
      obtain ⟨g0, g1, g2, g3, g4, i0, i1, i2, i3, i4⟩ := HXS.out.2.1.cells5
      obtain ⟨r0, r1, r2, r3, r4, z0, z1, z2, z3, z4⟩ := HXS.out.2.2.cells5
      clear HO HSH HX2 HXR HRA2 HOF2 HNT
      by_cases h12 : 12 < LD
      · have hi : (12 : Int) < (LD : Int) := by omega
        have hsl := HSD.out h12
        clear HSD
        go_wp2_with fail
        refine bodyPost_ret (v := .agg #[.int .i64 x1, .int .i64 x2, .int .i64 x3, .slice al q kl, .slice aD 12 cD]) (by simp [results, Try.results14, go_sem, r0, r1, r2, r3, r4]) rfl ⟨_, _, ⟨x1, x2, x3, ys, D.take 12⟩, rfl, ⟨?_, ?_⟩, ?_, ?_⟩
        · have hu := ((((((((UpdF.refl (fun k => k = w.heap.size ∨ k = w.heap.size + 1) wr).set w.heap.size 3 (.slice al q kl) (.inl rfl)).set w.heap.size 4 (.slice aD 12 cD) (.inl rfl)).set (w.heap.size + 1) 0 (.int .i64 x1) (.inr rfl)).set (w.heap.size + 1) 1 (.int .i64 x2) (.inr rfl)).set (w.heap.size + 1) 2 (.int .i64 x3) (.inr rfl)).set (w.heap.size + 1) 3 (.slice al q kl) (.inr rfl)).set (w.heap.size + 1) 4 (.slice aD 12 cD) (.inr rfl))
          have ho : OwnK encTbf 5 49 wc.heap.size _ (.slice al q kl) ys := row_same HBA.out.1.1 fun k hk => hu.block k (row_lt HBA.out.1.1 k hk) (by
            have := own_from HBA.out.1.1 k hk
            have := HBA.out.2.2
            omega)
          exact ho.base (by have := HBA.out.2.2; omega)
        · exact edInts_take HRD.out 12 (by omega)
        · exact ⟨by show ys.length ≤ 12; omega, by show (D.take 12).length ≤ 12; rw [List.length_take]; omega, HBA.out.2.1⟩
        · have hu := ((((((((UpdF.refl (fun k => k = w.heap.size ∨ k = w.heap.size + 1) wr).set w.heap.size 3 (.slice al q kl) (.inl rfl)).set w.heap.size 4 (.slice aD 12 cD) (.inl rfl)).set (w.heap.size + 1) 0 (.int .i64 x1) (.inr rfl)).set (w.heap.size + 1) 1 (.int .i64 x2) (.inr rfl)).set (w.heap.size + 1) 2 (.int .i64 x3) (.inr rfl)).set (w.heap.size + 1) 3 (.slice al q kl) (.inr rfl)).set (w.heap.size + 1) 4 (.slice aD 12 cD) (.inr rfl))
          exact HRDW.out.trans (UpdF.below hu HRDW.out.size fun k hk e => by omega)
      · have hi : ¬ (12 : Int) < (LD : Int) := by omega
        clear HSD
        go_wp2_with fail
        refine bodyPost_ret (v := .agg #[.int .i64 x1, .int .i64 x2, .int .i64 x3, .slice al q kl, .slice aD LD cD]) (by simp [results, Try.results14, go_sem, r0, r1, r2, r3, r4]) rfl ⟨_, _, ⟨x1, x2, x3, ys, D⟩, rfl, ⟨?_, ?_⟩, ?_, ?_⟩
        · have hu := (((((((UpdF.refl (fun k => k = w.heap.size ∨ k = w.heap.size + 1) wr).set w.heap.size 3 (.slice al q kl) (.inl rfl)).set (w.heap.size + 1) 0 (.int .i64 x1) (.inr rfl)).set (w.heap.size + 1) 1 (.int .i64 x2) (.inr rfl)).set (w.heap.size + 1) 2 (.int .i64 x3) (.inr rfl)).set (w.heap.size + 1) 3 (.slice al q kl) (.inr rfl)).set (w.heap.size + 1) 4 (.slice aD LD cD) (.inr rfl))
          have ho : OwnK encTbf 5 49 wc.heap.size _ (.slice al q kl) ys := row_same HBA.out.1.1 fun k hk => hu.block k (row_lt HBA.out.1.1 k hk) (by
            have := own_from HBA.out.1.1 k hk
            have := HBA.out.2.2
            omega)
          exact ho.base (by have := HBA.out.2.2; omega)
        · exact HRD.out
        · exact ⟨by show ys.length ≤ 12; omega, by show D.length ≤ 12; have := HLD.out; omega, HBA.out.2.1⟩
        · have hu := (((((((UpdF.refl (fun k => k = w.heap.size ∨ k = w.heap.size + 1) wr).set w.heap.size 3 (.slice al q kl) (.inl rfl)).set (w.heap.size + 1) 0 (.int .i64 x1) (.inr rfl)).set (w.heap.size + 1) 1 (.int .i64 x2) (.inr rfl)).set (w.heap.size + 1) 2 (.int .i64 x3) (.inr rfl)).set (w.heap.size + 1) 3 (.slice al q kl) (.inr rfl)).set (w.heap.size + 1) 4 (.slice aD LD cD) (.inr rfl))
          exact HRDW.out.trans (UpdF.below hu HRDW.out.size fun k hk e => by omega)
end Go.Proofs.Ytgdmmhdihgajkaa
