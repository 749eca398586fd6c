/- The walk of the reference's MayEdit. -/
import Derived.Test.YtpaoabdjbdlalaaEdtChk
import Derived.Test.YtpaoabdjbdlalaaEdtFile
import Derived.Deep.LoopGhost
import Derived.Deep.CutBlock
import Derived.Deep.DeepCutAuto
namespace Go.Proofs.Ytpaoabdjbdlalaa
set_option linter.unusedVariables false
set_option maxRecDepth 100000
open Go.RowKit
def mayHead (x1 x2 x3 : Int) (a d : Nat) : Prop := (okEdN x1 ∧ okEdN x2 ∧ okEdN x3) ∧ (a ≤ 200 ∧ d ≤ 200)
instance (x1 x2 x3 : Int) (a d : Nat) : Decidable (mayHead x1 x2 x3 a d) := inferInstanceAs (Decidable (_ ∧ _))
theorem mayHead_bool (x1 x2 x3 : Int) (a d : Nat) :
    (decide (x1 < 0) || decide (1125899906842624 < x1) || decide (x2 < 0) || decide (1125899906842624 < x2) || decide (x3 < 0) || decide (1125899906842624 < x3) || decide ((200 : Int) < (a : Int)) || decide ((200 : Int) < (d : Int))) = decide (¬ mayHead x1 x2 x3 a d) := by
  rw [Bool.eq_iff_iff, decide_eq_true_iff]
  unfold mayHead okEdN
  simp only [Bool.or_eq_true, decide_eq_true_eq]
  omega
theorem badTb_bool2 (n l s : Int) (lo hi : ByteArray) :
    (decide (n < 1) || decide (1125899906842624 < n) || decide (l < 0) || decide (5 ≤ l) || decide (s < 0) || decide (16777216 < s) || (!Op.bytesLess lo.toList hi.toList && !lo.toList == hi.toList) || decide ((13000 : Int) < (lo.size : Int)) || decide ((13000 : Int) < (hi.size : Int))) = decide (badTb ⟨n, l, s, lo, hi⟩) := by
  have e1 : decide ((13000 : Int) < (lo.size : Int)) = decide (13000 < lo.size) := by rw [decide_eq_decide]; omega
  have e2 : decide ((13000 : Int) < (hi.size : Int)) = decide (13000 < hi.size) := by rw [decide_eq_decide]; omega
  rw [bl_gtr, e1, e2, Bool.eq_iff_iff, decide_eq_true_iff]
  unfold badTb badTab
  simp only [Bool.or_eq_true, decide_eq_true_eq]
  constructor
  · rintro ((((((((h | h) | h) | h) | h) | h) | h) | h) | h) <;> simp [h]
  · rintro ((h | h) | h | h | h | h | h | h | h) <;> simp [h]
theorem badTab_bool (n : Int) : (decide (n < 1) || decide (1125899906842624 < n)) = decide (badTab n) := by
  rw [Bool.eq_iff_iff, decide_eq_true_iff]
  unfold badTab
  simp only [Bool.or_eq_true, decide_eq_true_eq]
theorem gtr_tri (lo hi : ByteArray) : (Op.bytesLess lo.toList hi.toList = true ∧ True) ∨ (Op.bytesLess lo.toList hi.toList = false ∧ (lo.toList == hi.toList) = true) ∨ (Op.bytesLess lo.toList hi.toList = false ∧ (lo.toList == hi.toList) = false) := by
  cases Op.bytesLess lo.toList hi.toList <;> cases lo.toList == hi.toList <;> simp
set_option maxHeartbeats 8000000 in
theorem rmayEd_any (v : Value) (x : Edt) (hok : x.ok) (w : World) (h : EdAt w v x) : Calls Try.prog 9 #[v] w fun e w' => e = .returned (.bool (decide (mayE x))) ∧ Below w.heap.size w w' := by
  obtain ⟨va, vd, rfl, ha, hd⟩ := h
  obtain ⟨C, hC⟩ : ∃ C, decide (mayE x) = C := ⟨_, rfl⟩
  rw [hC]
  obtain ⟨hof, hl1, hl2⟩ := hok
  obtain ⟨aA, cA, rfl, -⟩ := edFl_len ha
  obtain ⟨aD, cD, rfl⟩ := edInts_len hd
  obtain ⟨x1, x2, x3, A, D⟩ := x
  simp only at ha hd hof hl1 hl2
  have HYN := Lib.hid (And.intro (fun h => by rw [← hC]; exact decide_eq_false h : ¬ mayE ⟨x1, x2, x3, A, D⟩ → C = false) (fun h => by rw [← hC]; exact decide_eq_true h : mayE ⟨x1, x2, x3, A, D⟩ → C = true))
  obtain ⟨LA, hLA⟩ : ∃ L, A.length = L := ⟨_, rfl⟩
  obtain ⟨LD, hLD⟩ : ∃ L, D.length = L := ⟨_, rfl⟩
  rw [hLA] at ha hl1 ⊢
  rw [hLD] at hd hl2 ⊢
  have HLA := Lib.hid hLA
  have HLD := Lib.hid hLD
  have HOF := Lib.hid hof
  have HB := Lib.hid ((Below.refl w.heap.size w).alloc (Nat.le_refl _) (.cells #[.int .i64 x1, .int .i64 x2, .int .i64 x3, .slice aA LA cA, .slice aD LD cD] 25))
  have HX := Lib.hid (BlkAt.new w #[.int .i64 x1, .int .i64 x2, .int .i64 x3, .slice aA LA cA, .slice aD LD cD] 25)
  have HRA := Lib.hid (ha.below HB.out)
  have HRD := Lib.hid (RdV.below hd HB.out)
  clear hC ha hd hof hLA hLD
  generalize hQ : decide (¬ mayHead x1 x2 x3 LA LD) = Q
  have HQ := Lib.hid ((mayHead_bool x1 x2 x3 LA LD).trans hQ)
  have HQ2 := Lib.hid hQ
  clear hQ
  go_enter Try.func9, Try.ntmps9
  go_upto_region 1 with fail
  generalize w.alloc (.cells #[.int .i64 x1, .int .i64 x2, .int .i64 x3, .slice aA LA cA, .slice aD LD cD] 25) = w1 at *
  go_cut [45] (fun c wx => c = .bool Q ∧ w1 = wx)
  case first =>
    as_aux_lemma =>
    obtain ⟨d0, d1, d2, d3, d4, -, -, -, -, -⟩ := HX.out.cells5
    clear HYN HX HRA HRD HB HQ2 HOF HLA HLD
    go_wp2
    all_goals
      go_meet
      refine ⟨?_, rfl⟩
      first
        | exact congrArg Value.bool HQ.out
        | exact congrArg Value.bool (Eq.trans (by simp only [*, decide_true, Bool.or_true, Bool.true_or]) HQ.out)
  case rest =>
  obtain ⟨rfl, rfl⟩ := hcut
  clear HQ
  cases Q with
  | true =>
    obtain rfl : C = false := HYN.out.1 fun h => of_decide_eq_true HQ2.out ⟨h.1, by have := h.2.1; simp only at this; rw [HLA.out, HLD.out] at this; exact this⟩
    clear HYN HQ2 HRA HRD HX HOF
    go_wp2_with fail
    go_ret
    exact ⟨rfl, HB.out⟩
  | false =>
    have hh : mayHead x1 x2 x3 LA LD := Decidable.not_not.1 (of_decide_eq_false HQ2.out)
    have HH := Lib.hid hh
    have hla := hh.2.1
    have hld := hh.2.2
    clear hh HQ2
    go_wp2_with fail
    go_loopg [3] LA (fun kk vi wr => ∃ i : Nat, vi = .int .i64 (i : Int) ∧ i ≤ LA ∧ LA - i ≤ kk ∧ Hid (∀ j f, j < i → A[j]? = some f → ¬ badTb f) ∧ Hid (Below w1.heap.size w1 wr))
    case atStart => exact ⟨0, rfl, by omega, by omega, Lib.hid (fun j y hj => by omega), Lib.hid (Below.refl _ _)⟩
    case round =>
      obtain ⟨q, rfl, hq, hkk, HG, HBR⟩ := hrel
      obtain ⟨d0, d1, d2, d3, d4, -, -, -, -, -⟩ := (HX.out.below HBR.out).cells5
      by_cases h1 : q < LA
      · have hd1 : (q : Int) < (LA : Int) := by omega
        have hd0 : (0 : Int) ≤ (q : Int) := by omega
        obtain ⟨f, hf⟩ : ∃ f, A[q]? = some f := ⟨A[q]'(by have := HLA.out; omega), List.getElem?_eq_getElem _⟩
        have hfo := HOF.out f (List.mem_of_getElem? hf)
        obtain ⟨bA, off, rfl, hblt, e0, e1, e2, e3, e4⟩ := (HRA.out.below HBR.out).atTbf q f hf
        have HFA := Lib.hid hf
        obtain ⟨y1, y2, y3, y4, y5⟩ := f
        simp only at e0 e1 e2 e3 e4
        obtain ⟨h4, h5⟩ := hfo
        simp only at h4 h5
        unfold maxLen at h4 h5
        generalize hP : decide (badTb ⟨y1, y2, y3, y4, y5⟩) = P
        have HP := Lib.hid ((badTb_bool2 y1 y2 y3 y4 y5).trans hP)
        have HP2 := Lib.hid hP
        clear hf hP
        have HB2 := Lib.hid (HBR.out.trans ((Below.refl wr.heap.size wr).alloc (Nat.le_refl _) (.cells #[.int .i64 y1, .int .i64 y2, .int .i64 y3, .string y4, .string y5] 39) |>.mono HBR.out.size))
        have HN := Lib.hid (BlkAt.new wr #[.int .i64 y1, .int .i64 y2, .int .i64 y3, .string y4, .string y5] 39)
        go_upto_region 7 with fail
        clear e0 e1 e2 e3 e4 d0 d1 d2 d3 d4
        generalize wr.heap.size = gf at *
        generalize wr.alloc (.cells #[.int .i64 y1, .int .i64 y2, .int .i64 y3, .string y4, .string y5] 39) = w2 at *
        go_cut [104] (fun c wx => c = .bool P ∧ w2 = wx)
        case first =>
          as_aux_lemma =>
          obtain ⟨d0, d1, d2, d3, d4, -, -, -, -, -⟩ := HN.out.cells5
          clear HYN HX HRA HRD HB HP2 HOF HLA HLD HN HB2 HG HBR HH HFA
          rcases gtr_tri y4 y5 with ⟨hb1, hb2⟩ | ⟨hb1, hb2⟩ | ⟨hb1, hb2⟩
          · have hp := HP.out
            simp only [hb1, Bool.not_true, Bool.false_and, Bool.or_false] at hp
            have HP3 := Lib.hid hp
            clear hp HP
            go_wp2
            all_goals
              go_meet
              refine ⟨?_, rfl⟩
              first
                | exact congrArg Value.bool HP3.out
                | exact congrArg Value.bool (Eq.trans (by simp only [*, decide_true, Bool.or_true, Bool.true_or]) HP3.out)
          · have hp := HP.out
            simp only [hb1, hb2, Bool.not_true, Bool.not_false, Bool.true_and, Bool.or_false] at hp
            have HP3 := Lib.hid hp
            clear hp HP
            go_wp2
            all_goals
              go_meet
              refine ⟨?_, rfl⟩
              first
                | exact congrArg Value.bool HP3.out
                | exact congrArg Value.bool (Eq.trans (by simp only [*, decide_true, Bool.or_true, Bool.true_or]) HP3.out)
          · have hp := HP.out
            simp only [hb1, hb2, Bool.not_false, Bool.true_and, Bool.or_true, Bool.true_or] at hp
            have HP3 := Lib.hid hp
            clear hp HP
            go_wp2
            all_goals
              go_meet
              exact ⟨congrArg Value.bool HP3.out, rfl⟩
        case rest =>
        obtain ⟨rfl, rfl⟩ := hcut
        clear HP h4 h5
        cases P with
        | true =>
          obtain rfl : C = false := HYN.out.1 fun h => h.2.2.1 _ (List.mem_of_getElem? HFA.out) (of_decide_eq_true HP2.out)
          clear HYN HP2 HRD HX HOF HG
          go_wp2_with fail
          go_ret
          exact ⟨rfl, HB.out.trans (HB2.out.mono HB.out.size)⟩
        | false =>
          have HG2 : Hid (∀ j f, j < q + 1 → A[j]? = some f → ¬ badTb f) := Lib.hid fun j y hj hy => by
            rcases Nat.lt_or_ge j q with h | h
            · exact HG.out j y h hy
            · obtain rfl : j = q := by omega
              rw [HFA.out] at hy
              obtain rfl := Option.some.inj hy
              exact of_decide_eq_false HP2.out
          clear HP2 HG HFA
          go_wp2_with fail
          go_roundg (LA - (q + 1))
          case measure => omega
          case rel => exact ⟨q + 1, by go_num, by omega, Nat.le_refl _, HG2, HB2⟩
      · have hd1 : ¬ (q : Int) < (LA : Int) := by omega
        have HGA : Hid (∀ f ∈ A, ¬ badTb f) := Lib.hid fun f hf => by
          obtain ⟨j, hj, rfl⟩ := List.getElem_of_mem hf
          exact HG.out j _ (by have := HLA.out; omega) (List.getElem?_eq_getElem hj)
        clear HG HRA HOF
        go_wp2_with fail
        go_loopg [5] LD (fun kk vi wx => wr = wx ∧ ∃ i : Nat, vi = .int .i64 (i : Int) ∧ i ≤ LD ∧ LD - i ≤ kk ∧ Hid (∀ j n, j < i → D[j]? = some n → ¬ badTab n))
        case atStart => exact ⟨rfl, 0, rfl, by omega, by omega, Lib.hid (fun j y hj => by omega)⟩
        case round =>
          obtain ⟨rfl, p, rfl, hp, hkp, HG⟩ := hrel
          by_cases h2 : p < LD
          · have hp1 : (p : Int) < (LD : Int) := by omega
            have hp0 : (0 : Int) ≤ (p : Int) := by omega
            obtain ⟨n, hn⟩ : ∃ n, D[p]? = some n := ⟨D[p]'(by have := HLD.out; omega), List.getElem?_eq_getElem _⟩
            obtain ⟨bD, off, rfl, hblt, e0⟩ := edInts_at (RdV.below HRD.out HBR.out) p n hn
            have HFA := Lib.hid hn
            generalize hP : decide (badTab n) = P
            have HP := Lib.hid ((badTab_bool n).trans hP)
            have HP2 := Lib.hid hP
            clear hn hP
            go_upto_region 12 with fail
            go_cut [125] (fun c wx => c = .bool P ∧ wr = wx)
            case first =>
              as_aux_lemma =>
              clear HYN HX HRD HB HP2 HLA HLD HG HBR HH HFA HGA
              go_wp2
              all_goals
                go_meet
                refine ⟨?_, rfl⟩
                first
                  | exact congrArg Value.bool HP.out
                  | exact congrArg Value.bool (Eq.trans (by simp only [*, decide_true, Bool.true_or]) HP.out)
            case rest =>
            obtain ⟨rfl, rfl⟩ := hcut
            clear HP
            cases P with
            | true =>
              obtain rfl : C = false := HYN.out.1 fun h => h.2.2.2 _ (List.mem_of_getElem? HFA.out) (of_decide_eq_true HP2.out)
              clear HYN HP2 HG
              go_wp2_with fail
              go_ret
              exact ⟨rfl, HB.out.trans (HBR.out.mono HB.out.size)⟩
            | false =>
              have HG2 : Hid (∀ j n, j < p + 1 → D[j]? = some n → ¬ badTab n) := Lib.hid fun j y hj hy => by
                rcases Nat.lt_or_ge j p with h | h
                · exact HG.out j y h hy
                · obtain rfl : j = p := by omega
                  rw [HFA.out] at hy
                  obtain rfl := Option.some.inj hy
                  exact of_decide_eq_false HP2.out
              clear HP2 HG HFA
              go_wp2_with fail
              go_roundg (LD - (p + 1))
              case measure => omega
              case rel => exact ⟨rfl, p + 1, by go_num, by omega, Nat.le_refl _, HG2⟩
          · have hp1 : ¬ (p : Int) < (LD : Int) := by omega
            obtain rfl : C = true := HYN.out.2 ⟨HH.out.1, by simp only; rw [HLA.out, HLD.out]; exact HH.out.2, HGA.out, fun n hn => by
              obtain ⟨j, hj, rfl⟩ := List.getElem_of_mem hn
              exact HG.out j _ (by have := HLD.out; have hj' : j < D.length := hj; omega) (List.getElem?_eq_getElem hj)⟩
            clear HYN HG
            go_wp2_with fail
            go_ret
            exact ⟨rfl, HB.out.trans (HBR.out.mono HB.out.size)⟩
end Go.Proofs.Ytpaoabdjbdlalaa
