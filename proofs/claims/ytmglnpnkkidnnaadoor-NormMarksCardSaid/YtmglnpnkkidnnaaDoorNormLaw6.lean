/- The walk of the law NormMarks. -/
import Derived.Test.YtmglnpnkkidnnaaDoorNormLaw2
import Derived.Deep.DeepCutAuto
import Derived.Deep.CutBlock
namespace Go.Proofs.YtmglnpnkkidnnaaDoor
set_option linter.unusedVariables false
open Go.RowKit
/-- A world behind w in which all that lay in w lies as it did. -/
structure BelowBy (w : World) where
  v : World
  h : Below w.heap.size w v
instance (w : World) : Inhabited (BelowBy w) := ⟨⟨w, Below.refl _ _⟩⟩
/-- A region that draws and whose callees make memory: walked once. -/
theorem wp_region_below {P : Program} {id : Nat} {Q : Exit → Act → World → Prop} {a : Act} {w : World} {l : List Oper} (hm : P.follows .mixedOrders = true) (hB : Region.lexB .any l.toArray = true)
    (h : wpQuiet P l.toArray (fun w' => ∃ p : BelowBy w, w' = p.v) (fun a' => ∀ w', (∃ p : BelowBy w, w' = p.v) → Q .normal a' w') l a) : (Code.region id l.toArray true).wp P Q a w :=
  wp_region_quiet (C := fun w' => ∃ p : BelowBy w, w' = p.v) hm hB ⟨⟨w.drew, (DrN.refl w).more 1 |>.below _⟩, rfl⟩ (by simpa using h)
theorem class_below {w : World} (c : Int) (hc : -9223372036854775808 ≤ c ∧ c ≤ 9223372036854775807) (p : BelowBy w) : Calls Tryd.prog 22 #[.int .i64 c] p.v fun e w' => e = .returned (.int .i64 (classP c)) ∧ ∃ p' : BelowBy w, w' = p'.v :=
  (rclass_any c hc.1 hc.2 p.v).mono fun e w' ⟨h1, h2⟩ => ⟨h1, ⟨w', p.h.trans (h2.mono p.h.size)⟩, rfl⟩
theorem rdI_cells {w : World} {a : Option Addr} {n cap : Nat} {l : List Int} (h : RdI w (.slice a n cap) l) (h0 : 0 < l.length) : ∃ g off, a = some ⟨g, off, none⟩ ∧ g < w.heap.size ∧ ∀ i, i < l.length → w.cell? ⟨g, off + i, none⟩ = some (.int .i64 l[i]!) := by
  rcases h.cases with ⟨a, c, h1, h2⟩ | ⟨b', off', c, h1, h2, h3, h4, h5, h6⟩
  · subst h2; simp at h0
  · simp only [Value.slice.injEq] at h1
    exact ⟨b', off', h1.1, h5, fun i hi => by rw [h6 i hi, getD_bang l i hi]⟩
theorem chars_ok {L : List Int} (h : IntOk L) : IntOk (charsP L) := fun x hx => by
  obtain ⟨c, hc, hx⟩ := (chars_mem L x).1 hx
  exact apart_range (h c hc) x hx
set_option maxHeartbeats 4000000 in
set_option maxRecDepth 100000 in
theorem normMarks_walk (w : World) (hE : ErrAt w) (hSp : SpAt w) (f : Int) (wf : (Lit.int .i64 f).wf = true) (a : Option Addr) (len cap : Nat) (zs : List Int) (hz : RdI w (.slice a len cap) zs) (hw : ∀ n ∈ zs, (Lit.int .i64 n).wf = true) :
    Calls Tryd.prog 8 #[.int .i64 f, .slice a len cap] w fun e w' => e = .returned (.bool true) ∧ Below w.heap.size w w' := by
  have mixed : Tryd.prog.follows .mixedOrders = true := by kernel_rfl
  have HES : Hid (∀ w', Below w.heap.size w w' → ErrAt w' ∧ SpAt w') := Lib.hid fun w' hb => ⟨hE.below hb, hSp.below hb hSp.1⟩
  have HB := Lib.hid (nbegun_any w hE hSp)
  obtain ⟨aa, n, cap', e, hn, hc⟩ := hz.walk
  simp only [Value.slice.injEq] at e
  obtain ⟨rfl, rfl, rfl⟩ := e
  have HC := Lib.hid hc
  have HN : Hid (len = zs.length) := hn
  have HW : Hid (IntOk zs) := Lib.hid fun c hc => nwf_bd (hw c hc)
  have HF := Lib.hid (nwf_bd wf)
  clear hE hSp hz hw wf hc hn
  go_enter Tryd.func8, Tryd.ntmps8
  go_wp2_with fail
  refine HB.out.mono ?_
  rintro e w1 ⟨rfl, hb1⟩
  have HL1 : Hid (OwnI w.heap.size (w1.alloc (.cells #[.int .i64 f] 3)) (.slice (some ⟨w1.heap.size, 0, none⟩) 1 1) [f] ∧ Below w.heap.size w (w1.alloc (.cells #[.int .i64 f] 3))) :=
    ⟨(own_fresh (E := 3) w1 [.int .i64 f] 1 rfl (by omega) (by unfold maxLen; omega)).base hb1.size, hb1.alloc hb1.size _⟩
  clear HB hb1
  go_upto_block 0 with fail
  go_cut [6] (fun lv wx => Hid (∃ L : List Int, OwnI w.heap.size wx lv L ∧ Below w.heap.size w wx ∧ IntOk L ∧ L.length ≤ 31 ∧ L ≠ []))
  case first =>
    go_wp2_with fail
    go_loopg [6, 7] 30 (fun kk lv vi wr => ∃ (i : Nat), vi = .int .i64 i ∧ i ≤ 30 ∧ 30 - i ≤ kk ∧ Hid (∃ L : List Int, OwnI w.heap.size wr lv L ∧ Below w.heap.size w wr ∧ IntOk L ∧ L.length ≤ i + 1 ∧ L ≠ []))
    case atStart => exact ⟨0, rfl, by omega, by omega, Lib.hid ⟨[f], HL1.out.1, HL1.out.2, fun c hc => by rw [List.mem_singleton.1 hc]; exact HF.out, by simp, by simp⟩⟩
    case round =>
      clear HL1
      obtain ⟨i, rfl, hi, hkk, HS⟩ := hrel
      by_cases hlt : i < len ∧ i < 30
      · obtain ⟨hlt1, hlt2⟩ := hlt
        have hz1 : (i : Int) < (len : Int) := by omega
        have hz2 : (i : Int) < 30 := by omega
        obtain ⟨g, off, rfl, hg, c1⟩ := HC.out i (by have := HN.out; omega)
        have hok := HW.out zs[i]! (by rw [getElem!_pos zs i (by have := HN.out; omega)]; exact List.getElem_mem _)
        obtain ⟨x, hx⟩ : ∃ x, zs[i]! = x := ⟨_, rfl⟩
        rw [hx] at c1 hok
        have HOK := Lib.hid hok
        have HK : Hid (∀ w, Calls Tryd.prog 22 #[.int .i64 x] w (IntRes (classP x) w)) := Lib.hid fun w => rclass_any x hok.1 hok.2 w
        have d1 : wr.cell? ⟨g, off + i, none⟩ = some (.int .i64 x) := by obtain ⟨L, _, hb, _⟩ := HS.out; exact (hb.cell hg).trans c1
        clear hx hok
        obtain ⟨k, hk⟩ : ∃ k, classP x = k := ⟨_, rfl⟩
        rw [hk] at HK
        clear hk
        by_cases hpos : 0 < k
        · have hpd : decide (0 < k) = true := decide_eq_true hpos
          go_wp2_with fail
          refine (HK.out _).mono ?_
          rintro e w2 ⟨rfl, hb2⟩
          obtain ⟨L, s1, s2, s3, s4, s5⟩ := HS.out
          have d2 : w2.cell? ⟨g, off + i, none⟩ = some (.int .i64 x) := by rw [hb2.cell (Nat.lt_of_lt_of_le hg s2.size)]; exact d1
          have HO2 : Hid (OwnI w.heap.size w2 u6 L) := Lib.hid (s1.below hb2)
          have B2 : Below w.heap.size w w2 := s2.trans (hb2.mono s2.size)
          have HL : Hid (IntOk L ∧ L.length ≤ i + 1) := ⟨s3, s4⟩
          clear s1 s2 s3 s4 s5 HS HK d1 hb2 c1
          have hw2 := B2.size
          go_wp2_with (at_builtin; refine wp_appI _ _ (by rfl) (by rfl) (by rfl) HO2.out x (by rfl) (by have := HL.out.2; omega) hw2 ?_)
          intro v' w3 hown3 G3
          have HS3 : Hid (∃ L : List Int, OwnI w.heap.size w3 v' L ∧ Below w.heap.size w w3 ∧ IntOk L ∧ L.length ≤ i + 1 + 1 ∧ L ≠ []) := Lib.hid ⟨L ++ [x], hown3, B2.trans G3.below, fun c hc => by
            rcases List.mem_append.1 hc with h | h
            · exact HL.out.1 c h
            · rw [List.mem_singleton.1 h]; exact HOK.out, by rw [List.length_append]; have := HL.out.2; simp; omega, by simp⟩
          clear hown3 G3 HO2 B2 d2
          go_wp2
          go_roundg (30 - (i + 1))
          case measure => omega
          case rel => exact ⟨i + 1, by go_num, by omega, Nat.le_refl _, HS3⟩
        · have hpd : decide (0 < k) = false := decide_eq_false hpos
          go_wp2_with fail
          refine (HK.out _).mono ?_
          rintro e w2 ⟨rfl, hb2⟩
          have HS3 : Hid (∃ L : List Int, OwnI w.heap.size w2 u6 L ∧ Below w.heap.size w w2 ∧ IntOk L ∧ L.length ≤ i + 1 + 1 ∧ L ≠ []) := by
            obtain ⟨L, s1, s2, s3, s4, s5⟩ := HS.out
            exact Lib.hid ⟨L, s1.below hb2, s2.trans (hb2.mono s2.size), s3, by omega, s5⟩
          clear HS HK d1 hb2 c1
          go_wp2
          go_roundg (30 - (i + 1))
          case measure => omega
          case rel => exact ⟨i + 1, by go_num, by omega, Nat.le_refl _, HS3⟩
      · have HX : Hid (∃ L : List Int, OwnI w.heap.size wr u6 L ∧ Below w.heap.size w wr ∧ IntOk L ∧ L.length ≤ 31 ∧ L ≠ []) := by
          obtain ⟨L, s1, s2, s3, s4, s5⟩ := HS.out
          exact Lib.hid ⟨L, s1, s2, s3, by omega, s5⟩
        clear HS
        by_cases h1 : i < len
        · have z1 : (i : Int) < (len : Int) := by omega
          have z2 : ¬ (i : Int) < 30 := by omega
          go_wp2_with fail
          go_meet
          exact HX
        · have z1 : ¬ (i : Int) < (len : Int) := by omega
          go_wp2_with fail
          go_meet
          exact HX
  case rest =>
  clear HL1
  have HS := hcut
  obtain ⟨L, s1, s2, s3, s4, s5⟩ := HS.out
  obtain ⟨g, cap1, rfl, hg1, hc1⟩ := own_some s1 s5
  obtain ⟨ln, hln⟩ : ∃ l, L.length = l := ⟨_, rfl⟩
  rw [hln] at hc1 s4 ⊢
  rw [hln] at s1
  have hln31 : ln ≤ 31 := s4
  have hln1 : 1 ≤ ln := by rw [← hln]; exact List.length_pos_iff.2 s5
  have hfl := flat_len L
  obtain ⟨w2, hw2⟩ : ∃ W, wc = W := ⟨_, rfl⟩
  rw [hw2] at s1 s2 ⊢
  have H1 := Lib.hid (chars_any w2 (.slice (some ⟨g, 0, none⟩) ln cap1) L s1.rd s3 (HES.out _ s2).1 (HES.out _ s2).2 (by omega) (by omega))
  have HO := Lib.hid s1
  have HB2 := Lib.hid s2
  have HLK : Hid (IntOk L ∧ L.length = ln ∧ (L.flatMap apartP).length ≤ 10 * ln) := ⟨s3, hln, by omega⟩
  clear s1 s2 s3 s4 s5 HS hcut hln hfl hg1 HES hw2
  have HAf : Hid (∀ w, Calls Tryd.prog 21 #[.int .i64 f] w (NewRes (apartP f) w)) := Lib.hid (rapart_any f HF.out.1 HF.out.2)
  have HNf := Lib.hid (apart_len f)
  go_wp2_with fail
  refine H1.out.mono ?_
  intro e w3 hr
  obtain ⟨v8, rfl, hv8, hb3⟩ := hr.rd
  obtain ⟨ao, no, capo, rfl, hno, -⟩ := hv8.walk
  have HNO : Hid (no = (charsP L).length) := hno
  have hno1 : no ≤ 400 := by rw [hno, chars_len]; have := HLK.out.2.2; omega
  have HS3 : Hid (RdI w3 (.slice ao no capo) (charsP L) ∧ OwnI w.heap.size w3 (.slice (some ⟨g, 0, none⟩) ln cap1) L ∧ Below w.heap.size w w3) := ⟨hv8, HO.out.below hb3, HB2.out.trans (hb3.mono HB2.out.size)⟩
  clear hr H1 hv8 hno hb3 HO HB2
  go_wp2_with fail
  refine (HAf.out _).mono ?_
  rintro e w4 ⟨v46, rfl, ho, -, hb4⟩
  obtain ⟨p0, capp, rfl, -, hcp⟩ := own_some ho HNf.out.2
  obtain ⟨m0, hm0⟩ : ∃ m, (apartP f).length = m := ⟨_, rfl⟩
  rw [hm0] at hcp ⊢
  have HM0 : Hid ((apartP f).length = m0) := hm0
  have hm10 : m0 ≤ 10 := by rw [← hm0]; exact HNf.out.1
  have HS4 : Hid (RdI w4 (.slice ao no capo) (charsP L) ∧ OwnI w.heap.size w4 (.slice (some ⟨g, 0, none⟩) ln cap1) L ∧ Below w.heap.size w w4) := by
    obtain ⟨s1, s2, s3⟩ := HS3.out
    exact ⟨s1.below hb4, s2.below hb4, s3.trans (hb4.mono s3.size)⟩
  clear ho hm0 hb4 HS3 hcp
  go_wp2
  go_loopg [10, 11, 12] no (fun kk vi _ _ wr => ∃ (i : Nat), vi = .int .i64 i ∧ 1 ≤ i ∧ i ≤ 500 ∧ no - i ≤ kk ∧ Hid (RdI wr (.slice ao no capo) (charsP L) ∧ OwnI w.heap.size wr (.slice (some ⟨g, 0, none⟩) ln cap1) L ∧ Below w.heap.size w wr))
  case atStart => exact ⟨m0 + 1, by go_num, by omega, by omega, by omega, HS4⟩
  case round =>
    clear HS4
    obtain ⟨i, rfl, hi1, hi5, hkk, HS⟩ := hrel
    by_cases hlt : i < no
    · have hz : (i : Int) < (no : Int) := by omega
      obtain ⟨q, rfl⟩ : ∃ q, i = q + 1 := ⟨i - 1, by omega⟩
      obtain ⟨go, offo, rfl, hgo, hcell⟩ := rdI_cells HS.out.1 (by have := HNO.out; omega)
      have hil : q + 1 < (charsP L).length := by have := HNO.out; omega
      have okx := chars_ok HLK.out.1 (charsP L)[q]! (by rw [getElem!_pos _ q (by omega)]; exact List.getElem_mem _)
      have oky := chars_ok HLK.out.1 (charsP L)[q + 1]! (by rw [getElem!_pos _ (q + 1) hil]; exact List.getElem_mem _)
      have cx := hcell q (by omega)
      have cy := hcell (q + 1) hil
      obtain ⟨x, hx⟩ : ∃ x, (charsP L)[q]! = x := ⟨_, rfl⟩
      obtain ⟨y, hy⟩ : ∃ x, (charsP L)[q + 1]! = x := ⟨_, rfl⟩
      rw [hx] at cx okx
      rw [hy] at cy oky
      have dx : ∀ p : BelowBy wr, p.v.cell? ⟨go, offo + q, none⟩ = some (.int .i64 x) := fun p => (p.h.cell hgo).trans cx
      have dy : ∀ p : BelowBy wr, p.v.cell? ⟨go, offo + (q + 1), none⟩ = some (.int .i64 y) := fun p => (p.h.cell hgo).trans cy
      have dy2 : ∀ p : BelowBy wr, p.v.cell? ⟨go, offo + q + 1, none⟩ = some (.int .i64 y) := dy
      have hA : ∀ p : BelowBy wr, Calls Tryd.prog 22 #[.int .i64 x] p.v fun e w' => e = .returned (.int .i64 (classP x)) ∧ ∃ p' : BelowBy wr, w' = p'.v := class_below x okx
      have hB : ∀ p : BelowBy wr, Calls Tryd.prog 22 #[.int .i64 y] p.v fun e w' => e = .returned (.int .i64 (classP y)) ∧ ∃ p' : BelowBy wr, w' = p'.v := class_below y oky
      obtain ⟨kx, hkx⟩ : ∃ k, classP x = k := ⟨_, rfl⟩
      obtain ⟨ky, hky⟩ : ∃ k, classP y = k := ⟨_, rfl⟩
      rw [hkx] at hA
      rw [hky] at hB
      clear hx hy hil okx oky hcell hkx hky cx cy
      have eq1 : ((q + 1 : Nat) : Int) - 1 = (q : Int) := by omega
      have eq3 : (q : Int) + 1 - 1 = (q : Int) := by omega
      have wq : IntKind.i64.wrap (q : Int) = (q : Int) := by rw [IntKind.wrap_i64]; omega
      have bq1 : (q : Int) + 1 < (no : Int) := by omega
      have bq2 : (q : Int) < (no : Int) := by omega
      have tq : ((q : Int) + 1).toNat = q + 1 := by omega
      have pq : (0 : Int) ≤ (q : Int) + 1 := by omega
      go_wp2_with fail
      refine wp_region_below mixed (by kernel_rfl) ?_
      iterate 5 (quiet_step (fail))
      quiet_step (first | (go_at_call 22; exact hA _))
      iterate 4 (quiet_step (fail))
      quiet_step (first | (go_at_call 22; exact hB _))
      iterate 2 (quiet_step (fail))
      refine wpQuiet_nil ?_
      rintro _ ⟨p, rfl⟩
      obtain ⟨w5, hb5⟩ := p
      clear dx dy dy2 hA hB
      dsimp only
      have HS5 : Hid (RdI w5 (.slice (some ⟨go, offo, none⟩) no capo) (charsP L) ∧ OwnI w.heap.size w5 (.slice (some ⟨g, 0, none⟩) ln cap1) L ∧ Below w.heap.size w w5) := by
        obtain ⟨s1, s2, s3⟩ := HS.out
        exact ⟨s1.below hb5, s2.below hb5, s3.trans (hb5.mono s3.size)⟩
      clear HS hb5
      go_upto_region 16 with fail
      go_cut [77] (fun c wx => c = .bool (kx == 0 || ky == 0 || decide (ky < kx)) ∧ w5 = wx)
      case first =>
        by_cases h1 : kx = 0
        · subst h1
          go_wp2_with fail
          go_meet
          exact ⟨by simp, rfl⟩
        · have h1b : (kx == 0) = false := by simpa using h1
          by_cases h2 : ky = 0
          · subst h2
            go_wp2_with fail
            go_meet
            exact ⟨by simp, rfl⟩
          · have h2b : (ky == 0) = false := by simpa using h2
            by_cases h3 : ky < kx
            · have h3b : decide (ky < kx) = true := decide_eq_true h3
              go_wp2_with fail
              go_meet
              exact ⟨by simp [h1b, h2b, h3b], rfl⟩
            · have h3b : decide (ky < kx) = false := decide_eq_false h3
              go_wp2_with fail
              go_meet
              exact ⟨by simp [h1b, h2b, h3b], rfl⟩
      case rest =>
      obtain ⟨rfl, rfl⟩ := hcut
      generalize (kx == 0 || ky == 0 || decide (ky < kx)) = bb
      cases bb with
      | true =>
        obtain ⟨z, hz0⟩ : ∃ z, (apartP f)[0]! = z := ⟨_, rfl⟩
        have HZ : Hid ((apartP f)[0]! = z) := hz0
        have okz : -9223372036854775808 ≤ z ∧ z ≤ 9223372036854775807 := by
          have h0 : 0 < (apartP f).length := List.length_pos_iff.2 HNf.out.2
          have := apart_range HF.out z (by rw [← hz0, getElem!_pos _ 0 h0]; exact List.getElem_mem h0)
          exact this
        have HKz : Hid (∀ w, Calls Tryd.prog 22 #[.int .i64 z] w (IntRes (classP z) w)) := Lib.hid (rclass_any z okz.1 okz.2)
        clear hz0 okz
        obtain ⟨kz, hkz⟩ : ∃ k, classP z = k := ⟨_, rfl⟩
        rw [hkz] at HKz
        clear hkz
        go_wp2_with fail
        refine (HAf.out _).mono ?_
        rintro e w6 ⟨v, rfl, ho, -, hb6⟩
        obtain ⟨p1, cap9, rfl, -, hc9⟩ := own_some ho HNf.out.2
        have cz := OwnV.cellI ho 0 (List.length_pos_iff.2 HNf.out.2)
        rw [HZ.out] at cz
        rw [HM0.out] at hc9 ⊢
        have hm1 : 1 ≤ m0 := by rw [← HM0.out]; exact List.length_pos_iff.2 HNf.out.2
        have hm1z : (0 : Int) < (m0 : Int) := by omega
        have HS6 : Hid (RdI w6 (.slice (some ⟨go, offo, none⟩) no capo) (charsP L) ∧ OwnI w.heap.size w6 (.slice (some ⟨g, 0, none⟩) ln cap1) L ∧ Below w.heap.size w w6) := by
          obtain ⟨s1, s2, s3⟩ := HS5.out
          exact ⟨s1.below hb6, s2.below hb6, s3.trans (hb6.mono s3.size)⟩
        clear HS5 ho hb6 HAf
        go_wp2_with fail
        refine (HKz.out _).mono ?_
        rintro e w7 ⟨rfl, hb7⟩
        have HS7 : Hid (RdI w7 (.slice (some ⟨go, offo, none⟩) no capo) (charsP L) ∧ OwnI w.heap.size w7 (.slice (some ⟨g, 0, none⟩) ln cap1) L ∧ Below w.heap.size w w7) := by
          obtain ⟨s1, s2, s3⟩ := HS6.out
          exact ⟨s1.below hb7, s2.below hb7, s3.trans (hb7.mono s3.size)⟩
        clear HS6 hb7 HKz cz
        by_cases hpz : 0 < kz
        · have hpzd : decide (0 < kz) = true := decide_eq_true hpz
          go_wp2_with fail
          go_ret
          exact ⟨rfl, HS7.out.2.2⟩
        · have hpzd : decide (0 < kz) = false := decide_eq_false hpz
          have HR := Lib.hid (rchars_any w7 _ L HS7.out.2.1.rd HLK.out.1 (by have := HLK.out.2.2; omega) (by have := HLK.out.2.1; omega))
          go_wp2_with fail
          refine HR.out.mono ?_
          intro e w8 hr
          obtain ⟨v9, rfl, hv9, hb8⟩ := hr.rd
          have HI : Hid (Calls Tryd.prog 12 #[.slice (some ⟨go, offo, none⟩) no capo, v9] w8 (IntsRes w8 true)) := Lib.hid (by
            have hle : (charsP L).length ≤ 1000000 := by have := HNO.out; omega
            have := ints_any _ v9 (charsP L) (charsP L) hle hle w8 (HS7.out.1.below hb8) hv9
            rwa [decide_eq_true rfl] at this)
          have B8 : Below w.heap.size w w8 := HS7.out.2.2.trans (hb8.mono HS7.out.2.2.size)
          clear HS7 HR hr hv9 hb8
          go_wp2_with fail
          refine HI.out.mono ?_
          rintro e w10 ⟨rfl, k, rfl⟩
          go_wp2_with fail
          go_ret
          exact ⟨rfl, B8.trans ((DrN.refl w8).more k |>.below _)⟩
      | false =>
        go_wp2
        go_roundg (no - (q + 1 + 1))
        case measure => omega
        case rel => exact ⟨q + 1 + 1, by go_num, by omega, by omega, Nat.le_refl _, HS5⟩
    · have hz : ¬ (i : Int) < (no : Int) := by omega
      have hsz : no = (L.flatMap apartP).length := HNO.out.trans (chars_len L)
      have HSZ := Lib.hid hsz
      clear hsz
      go_wp2
      go_loopg [13, 14] ln (fun kk vs vi wr => ∃ (j sm : Nat), vi = .int .i64 j ∧ vs = .int .i64 sm ∧ j ≤ ln ∧ ln - j ≤ kk ∧ sm ≤ 10 * j ∧ Hid (sm = ((L.take j).flatMap apartP).length ∧ OwnI w.heap.size wr (.slice (some ⟨g, 0, none⟩) ln cap1) L ∧ Below w.heap.size w wr))
      case atStart => exact ⟨0, 0, rfl, rfl, by omega, by omega, by omega, Lib.hid ⟨rfl, HS.out.2.1, HS.out.2.2⟩⟩
      case round =>
        clear HS
        obtain ⟨j, sm, rfl, rfl, hj, hjk, hsm, HT⟩ := hrel
        by_cases hjl : j < ln
        · have hjz : (j : Int) < (ln : Int) := by omega
          have hjL : j < L.length := by have := HLK.out.2.1; omega
          have cj := OwnV.cellI HT.out.2.1 j hjL
          have okj := HLK.out.1 L[j]! (by rw [getElem!_pos L j hjL]; exact List.getElem_mem hjL)
          have HFT := Lib.hid (flat_take L j hjL)
          obtain ⟨c, hc⟩ : ∃ c, L[j]! = c := ⟨_, rfl⟩
          rw [hc] at cj okj HFT
          have HAc : Hid (∀ w, Calls Tryd.prog 21 #[.int .i64 c] w (NewRes (apartP c) w)) := Lib.hid (rapart_any c okj.1 okj.2)
          have HNc := Lib.hid (apart_len c)
          clear hc okj hjL
          go_wp2_with fail
          refine (HAc.out _).mono ?_
          rintro e w6 ⟨v, rfl, ho, -, hb6⟩
          obtain ⟨p1, cap9, rfl, -, hc9⟩ := own_some ho HNc.out.2
          obtain ⟨mc, hmc⟩ : ∃ m, (apartP c).length = m := ⟨_, rfl⟩
          rw [hmc] at hc9 ⊢
          have hmc10 : mc ≤ 10 := by rw [← hmc]; exact HNc.out.1
          have wsm : IntKind.i64.wrap ((sm : Int) + (mc : Int)) = (sm : Int) + (mc : Int) := by rw [IntKind.wrap_i64]; omega
          have HT6 : Hid (sm + mc = ((L.take (j + 1)).flatMap apartP).length ∧ OwnI w.heap.size w6 (.slice (some ⟨g, 0, none⟩) ln cap1) L ∧ Below w.heap.size w w6) := by
            obtain ⟨s1, s2, s3⟩ := HT.out
            exact ⟨by rw [HFT.out, List.length_append, ← s1, hmc], s2.below hb6, s3.trans (hb6.mono s3.size)⟩
          clear HT ho hb6 HAc hmc cj HFT
          go_wp2
          go_roundg (ln - (j + 1))
          case measure => omega
          case rel => exact ⟨j + 1, sm + mc, by go_num, by go_num, by omega, Nat.le_refl _, by omega, HT6⟩
        · have hjz : ¬ (j : Int) < (ln : Int) := by omega
          obtain rfl : j = ln := by omega
          have hes : no = sm := by
            have := HT.out.1
            rw [List.take_of_length_le (by rw [HLK.out.2.1]; exact Nat.le_refl _)] at this
            rw [HSZ.out, this]
          have HBf := Lib.hid HT.out.2.2
          subst hes
          have hee : ((no : Int) == (no : Int)) = true := by simp
          clear HT HSZ
          go_wp2
          go_ret
          exact ⟨rfl, HBf.out⟩
end Go.Proofs.YtmglnpnkkidnnaaDoor
