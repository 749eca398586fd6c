/- The walk of the reference's EqEdit. -/
import Derived.Test.YtpaoabdjbdlalaaEdtEq
namespace Go.Proofs.Ytpaoabdjbdlalaa
set_option linter.unusedVariables false
set_option maxRecDepth 100000
open Go.RowKit
/-- Two edits are the same, or differ in one of their places, and ahead of it they do not. -/
theorem edt_cmp (x y : Edt) : (x.nxt = y.nxt ∧ x.lg = y.lg ∧ x.lst = y.lst ∧ x.adds = y.adds ∧ x.dels.length = y.dels.length) ∨ x.nxt ≠ y.nxt ∨ (x.nxt = y.nxt ∧ x.lg ≠ y.lg) ∨ (x.nxt = y.nxt ∧ x.lg = y.lg ∧ x.lst ≠ y.lst) ∨ (x.nxt = y.nxt ∧ x.lg = y.lg ∧ x.lst = y.lst ∧ x.adds ≠ y.adds) ∨ (x.nxt = y.nxt ∧ x.lg = y.lg ∧ x.lst = y.lst ∧ x.adds = y.adds ∧ x.dels.length ≠ y.dels.length) := by
  by_cases h1 : x.nxt = y.nxt
  · by_cases h2 : x.lg = y.lg
    · by_cases h3 : x.lst = y.lst
      · by_cases h4 : x.adds = y.adds
        · by_cases h5 : x.dels.length = y.dels.length
          · exact .inl ⟨h1, h2, h3, h4, h5⟩
          · exact .inr (.inr (.inr (.inr (.inr ⟨h1, h2, h3, h4, h5⟩))))
        · exact .inr (.inr (.inr (.inr (.inl ⟨h1, h2, h3, h4⟩))))
      · exact .inr (.inr (.inr (.inl ⟨h1, h2, h3⟩)))
    · exact .inr (.inr (.inl ⟨h1, h2⟩))
  · exact .inr (.inl h1)
/-- Two boxes with edits. -/
def Two5 (w0 w : World) (g : Nat) (u v : Array Value) (t : TypeId) : Prop := Below w0.heap.size w0 w ∧ BlkAt w g u t ∧ BlkAt w (g + 1) v t
theorem Two5.below {w0 w w' : World} {g : Nat} {u v : Array Value} {t : TypeId} (h : Two5 w0 w g u v t) (b : Below w.heap.size w w') : Two5 w0 w' g u v t :=
  ⟨h.1.trans (b.mono h.1.size), h.2.1.below b, h.2.2.below b⟩
theorem Two5.new (w : World) (u v : Array Value) (t : TypeId) : Two5 w ((w.alloc (.cells u t)).alloc (.cells v t)) w.heap.size u v t := by
  have n1 := BlkAt.new w u t
  have n2 := BlkAt.new (w.alloc (.cells u t)) v t
  have e : (w.alloc (.cells u t)).heap.size = w.heap.size + 1 := by simp
  rw [e] at n2
  exact ⟨((Below.refl _ w).alloc (Nat.le_refl _) _).alloc (by omega) _, n1.more _, n2⟩
set_option maxHeartbeats 16000000 in
theorem reqEd_any (v u : Value) (x y : Edt) (hox : x.ok) (hoy : y.ok) (w : World) (h1 : EdAt w v x) (h2 : EdAt w u y) :
    Calls Try.prog 12 #[v, u] w (EqRes (x = y) w) := by
  obtain ⟨va, vd, rfl, ha, hd⟩ := h1
  obtain ⟨ua, ud, rfl, ga, gd⟩ := h2
  obtain ⟨Q, hQ⟩ : ∃ Q : Bool, (Q = true ↔ x = y) := by
    by_cases h : x = y
    · exact ⟨true, by simp [h]⟩
    · exact ⟨false, by simp [h]⟩
  have fin : ∀ (e : Ending) w', (e = .returned (.bool Q) ∧ Below w.heap.size w w') → EqRes (x = y) w e w' := fun e w' h => ⟨Q, hQ, h.1, h.2⟩
  refine Calls.mono ?_ fin
  clear fin
  have HQ := Lib.hid hQ
  clear hQ
  have HF : Hid (∀ W, Below w.heap.size w W → Calls Try.prog 26 #[va, ua] W (EqRes (x.adds = y.adds) W)) := Lib.hid fun W hW => reqF_any va ua x.adds y.adds hox.1 hoy.1 hox.2.1 hoy.2.1 W (ha.below hW) (ga.below hW)
  have hl1 := hox.2.2
  have hl2 := hoy.2.2
  obtain ⟨aA, cA, rfl, -⟩ := edFl_len ha
  obtain ⟨aD, cD, rfl⟩ := edInts_len hd
  obtain ⟨bA, kA, rfl, -⟩ := edFl_len ga
  obtain ⟨bD, kD, rfl⟩ := edInts_len gd
  have HRX := Lib.hid hd
  have HRY := Lib.hid gd
  obtain ⟨x1, x2, x3, A, D⟩ := x
  obtain ⟨y1, y2, y3, A', D'⟩ := y
  simp only at HF HRX HRY hl1 hl2 ⊢
  clear ha hd ga gd hox hoy
  obtain ⟨N, hN⟩ : ∃ N, D.length = N := ⟨_, rfl⟩
  obtain ⟨M, hM⟩ : ∃ M, D'.length = M := ⟨_, rfl⟩
  obtain ⟨LA, hLA⟩ : ∃ N, A.length = N := ⟨_, rfl⟩
  obtain ⟨LB, hLB⟩ : ∃ M, A'.length = M := ⟨_, rfl⟩
  have HN := Lib.hid (And.intro hN hM)
  rw [hN] at HRX hl1 ⊢
  rw [hM] at HRY hl2 ⊢
  rw [hLA] at HF ⊢
  rw [hLB] at HF ⊢
  have HX := Lib.hid (Two5.new w #[.int .i64 x1, .int .i64 x2, .int .i64 x3, .slice aA LA cA, .slice aD N cD] #[.int .i64 y1, .int .i64 y2, .int .i64 y3, .slice bA LB kA, .slice bD M kD] 25)
  obtain ⟨P, hP⟩ : ∃ P : Bool, (P = true ↔ ¬ (x1 = y1 ∧ x2 = y2 ∧ x3 = y3 ∧ A = A' ∧ N = M)) := by
    by_cases h : (x1 = y1 ∧ x2 = y2 ∧ x3 = y3 ∧ A = A' ∧ N = M)
    · exact ⟨false, by simp [h]⟩
    · exact ⟨true, by simp [h]⟩
  have HP := Lib.hid hP
  clear hN hM hP hLA hLB
  go_enter Try.func12, Try.ntmps12
  go_upto_region 1 with fail
  generalize hw2 : (w.alloc (.cells #[.int .i64 x1, .int .i64 x2, .int .i64 x3, .slice aA LA cA, .slice aD N cD] 25)).alloc (.cells #[.int .i64 y1, .int .i64 y2, .int .i64 y3, .slice bA LB kA, .slice bD M kD] 25) = w2 at *
  clear hw2
  go_cut [41] (fun c wx => c = .bool P ∧ Hid (Below w2.heap.size w2 wx))
  case first =>
    as_aux_lemma =>
    obtain ⟨d0, d1, d2, d3, d4, -, -, -, -, -⟩ := HX.out.2.1.cells5
    obtain ⟨e0, e1, e2, e3, e4, -, -, -, -, -⟩ := HX.out.2.2.cells5
    have HFC := Lib.hid (HF.out w2 HX.out.1)
    rcases edt_cmp ⟨x1, x2, x3, A, D⟩ ⟨y1, y2, y3, A', D'⟩ with h | h | h | h | h | h
    · obtain ⟨h0, h1, h2, h3, h4⟩ := h
      simp only at h0 h1 h2 h3 h4
      rw [HN.out.1, HN.out.2] at h4
      obtain rfl : P = false := by rw [← Bool.not_eq_true, HP.out]; exact fun hn => hn ⟨h0, h1, h2, h3, h4⟩
      have hF := h3
      clear h3
      subst h0 h1 h2 h4
      have p1 : (x1 != x1) = false := by simp
      have p2 : (x2 != x2) = false := by simp
      have p3 : (x3 != x3) = false := by simp
      have p5 : ((N : Int) != (N : Int)) = false := by simp
      clear HP HRX HRY HQ HF
      go_wp2_with fail
      refine HFC.out.mono ?_
      rintro e w3 ⟨qf, hq, rfl, hb⟩
      obtain rfl : qf = true := hq.2 hF
      obtain ⟨d0, d1, d2, d3, d4, -, -, -, -, -⟩ := (HX.out.2.1.below hb).cells5
      obtain ⟨e0, e1, e2, e3, e4, -, -, -, -, -⟩ := (HX.out.2.2.below hb).cells5
      have HB := Lib.hid hb
      clear hb hq HX HN HFC
      go_wp2_with fail
      go_meet
      exact ⟨rfl, HB⟩
    · have hne2 := h
      clear h
      simp only at  hne2
      obtain rfl : P = true := HP.out.2 fun hh => hne2 hh.1
      have p1 : (x1 != y1) = true := by rw [bne_iff_ne]; exact hne2
      clear HP HRX HRY HQ HF
      clear HFC HX HN
      go_wp2_with fail
      go_meet
      exact ⟨rfl, Lib.hid (Below.refl _ _)⟩
    · obtain ⟨h0, hne2⟩ := h
      simp only at h0 hne2
      obtain rfl : P = true := HP.out.2 fun hh => hne2 hh.2.1
      subst h0
      have p1 : (x1 != x1) = false := by simp
      have p2 : (x2 != y2) = true := by rw [bne_iff_ne]; exact hne2
      clear HP HRX HRY HQ HF
      clear HFC HX HN
      go_wp2_with fail
      go_meet
      exact ⟨rfl, Lib.hid (Below.refl _ _)⟩
    · obtain ⟨h0, h1, hne2⟩ := h
      simp only at h0 h1 hne2
      obtain rfl : P = true := HP.out.2 fun hh => hne2 hh.2.2.1
      subst h0 h1
      have p1 : (x1 != x1) = false := by simp
      have p2 : (x2 != x2) = false := by simp
      have p3 : (x3 != y3) = true := by rw [bne_iff_ne]; exact hne2
      clear HP HRX HRY HQ HF
      clear HFC HX HN
      go_wp2_with fail
      go_meet
      exact ⟨rfl, Lib.hid (Below.refl _ _)⟩
    · obtain ⟨h0, h1, h2, hne2⟩ := h
      simp only at h0 h1 h2 hne2
      obtain rfl : P = true := HP.out.2 fun hh => hne2 hh.2.2.2.1
      subst h0 h1 h2
      have p1 : (x1 != x1) = false := by simp
      have p2 : (x2 != x2) = false := by simp
      have p3 : (x3 != x3) = false := by simp
      have hF := hne2
      clear HP HRX HRY HQ HF
      go_wp2_with fail
      refine HFC.out.mono ?_
      rintro e w3 ⟨qf, hq, rfl, hb⟩
      obtain rfl : qf = false := by rw [← Bool.not_eq_true, hq]; exact hF
      obtain ⟨d0, d1, d2, d3, d4, -, -, -, -, -⟩ := (HX.out.2.1.below hb).cells5
      obtain ⟨e0, e1, e2, e3, e4, -, -, -, -, -⟩ := (HX.out.2.2.below hb).cells5
      have HB := Lib.hid hb
      clear hb hq HX HN HFC
      go_wp2_with fail
      go_meet
      exact ⟨rfl, HB⟩
    · obtain ⟨h0, h1, h2, h3, hne2⟩ := h
      simp only at h0 h1 h2 h3 hne2
      rw [HN.out.1, HN.out.2] at hne2
      obtain rfl : P = true := HP.out.2 fun hh => hne2 hh.2.2.2.2
      have hF := h3
      clear h3
      subst h0 h1 h2
      have p1 : (x1 != x1) = false := by simp
      have p2 : (x2 != x2) = false := by simp
      have p3 : (x3 != x3) = false := by simp
      have p5 : ((N : Int) != (M : Int)) = true := by rw [bne_iff_ne]; omega
      clear HP HRX HRY HQ HF
      go_wp2_with fail
      refine HFC.out.mono ?_
      rintro e w3 ⟨qf, hq, rfl, hb⟩
      obtain rfl : qf = true := hq.2 hF
      obtain ⟨d0, d1, d2, d3, d4, -, -, -, -, -⟩ := (HX.out.2.1.below hb).cells5
      obtain ⟨e0, e1, e2, e3, e4, -, -, -, -, -⟩ := (HX.out.2.2.below hb).cells5
      have HB := Lib.hid hb
      clear hb hq HX HN HFC
      go_wp2_with fail
      go_meet
      exact ⟨rfl, HB⟩
  case rest =>
  obtain ⟨rfl, HD⟩ := hcut
  rename_i wx
  have HX3 := Lib.hid (HX.out.below HD.out)
  clear HD HF HX
  cases P with
  | true =>
    obtain rfl : Q = false := by
      rw [← Bool.not_eq_true, HQ.out]
      intro h
      obtain ⟨h0, h1, h2, h3, h4⟩ := Edt.mk.inj h
      exact HP.out.1 rfl ⟨h0, h1, h2, h3, by rw [← HN.out.1, ← HN.out.2, h4]⟩
    clear HRX HRY HP HQ
    go_wp2_with fail
    go_ret
    exact ⟨rfl, HX3.out.1⟩
  | false =>
    have hsame : x1 = y1 ∧ x2 = y2 ∧ x3 = y3 ∧ A = A' ∧ N = M := Classical.byContradiction fun h => by cases HP.out.2 h
    have HS := Lib.hid hsame
    obtain rfl : N = M := hsame.2.2.2.2
    clear hsame HP
    go_wp2_with fail
    go_loopg [5] N (fun kk vi wr => ∃ i : Nat, vi = .int .i64 (i : Int) ∧ i ≤ N ∧ N - i ≤ kk ∧ Hid (∀ j, j < i → D[j]? = D'[j]?) ∧ Hid (Two5 w wr w.heap.size #[.int .i64 x1, .int .i64 x2, .int .i64 x3, .slice aA LA cA, .slice aD N cD] #[.int .i64 y1, .int .i64 y2, .int .i64 y3, .slice bA LB kA, .slice bD N kD] 25))
    case atStart => exact ⟨0, rfl, by omega, by omega, Lib.hid (fun j hj => by omega), HX3⟩
    case round =>
      clear HX3
      obtain ⟨q, rfl, hq, hqk, HG, HX⟩ := hrel
      obtain ⟨d0, d1, d2, d3, d4, -, -, -, -, -⟩ := HX.out.2.1.cells5
      obtain ⟨e0, e1, e2, e3, e4, -, -, -, -, -⟩ := HX.out.2.2.cells5
      by_cases hj : q < N
      · obtain ⟨n, hn⟩ : ∃ x, D[q]? = some x := ⟨D[q]'(by have := HN.out.1; omega), List.getElem?_eq_getElem _⟩
        obtain ⟨m, hm⟩ : ∃ x, D'[q]? = some x := ⟨D'[q]'(by have := HN.out.2; omega), List.getElem?_eq_getElem _⟩
        obtain ⟨b, off, rfl, hblt, c0⟩ := edInts_at (RdV.below HRX.out HX.out.1) q n hn
        obtain ⟨b2, off2, rfl, hblt2, c1⟩ := edInts_at (RdV.below HRY.out HX.out.1) q m hm
        have hq0 : (0 : Int) ≤ (q : Int) := by omega
        have hq1 : (q : Int) < (N : Int) := by omega
        have HXY := Lib.hid (And.intro hn hm)
        clear hn hm
        by_cases hnm : n = m
        · subst hnm
          have hne : (n != n) = false := by simp
          have HG2 : Hid (∀ j, j < q + 1 → D[j]? = D'[j]?) := Lib.hid fun j hj => by
            rcases Nat.lt_or_ge j q with h | h
            · exact HG.out j h
            · obtain rfl : j = q := by omega
              rw [HXY.out.1, HXY.out.2]
          clear HG HXY
          go_wp2_with fail
          go_quiet (fail)
          have HX2 := Lib.hid (HX.out.below (DrN.below ⟨nq, rfl⟩ _))
          generalize wr.drewN nq = wd at *
          clear HX d0 d1 d2 d3 d4 e0 e1 e2 e3 e4 c0 c1
          go_wp2_with fail
          go_roundg (N - (q + 1))
          case measure => omega
          case rel => exact ⟨q + 1, by go_num, by omega, Nat.le_refl _, HG2, HX2⟩
        · have hne : (n != m) = true := by rw [bne_iff_ne]; exact hnm
          obtain rfl : Q = false := by
            rw [← Bool.not_eq_true, HQ.out]
            intro h
            obtain ⟨h0, h1, h2, h3, h4⟩ := Edt.mk.inj h
            rw [h4] at HXY
            exact hnm (Option.some.inj (HXY.out.1.symm.trans HXY.out.2))
          clear HG HXY HQ hnm
          go_wp2_with fail
          go_quiet (fail)
          have HX2 := Lib.hid (HX.out.below (DrN.below ⟨nq, rfl⟩ _))
          generalize wr.drewN nq = wd at *
          clear HX d0 d1 d2 d3 d4 e0 e1 e2 e3 e4 c0 c1
          go_wp2_with fail
          go_ret
          exact ⟨rfl, HX2.out.1⟩
      · have hq1 : ¬ (q : Int) < (N : Int) := by omega
        obtain rfl : Q = true := HQ.out.2 (by
          obtain ⟨h0, h1, h2, h3, h4⟩ := HS.out
          rw [h0, h1, h2, h3, list_upto (HN.out.1.trans HN.out.2.symm) fun j hjl => HG.out j (by have := HN.out.1; omega)])
        go_wp2_with fail
        go_ret
        exact ⟨rfl, HX.out.1⟩
end Go.Proofs.Ytpaoabdjbdlalaa
