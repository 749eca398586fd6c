/- The walk of the reference's Chars. -/
import Derived.Test.YtmglnpnkkidnnaaDoorRefRow
import Derived.Deep.QuietTactic
import Derived.BigQuiet
namespace Go.Proofs.YtmglnpnkkidnnaaDoor
set_option linter.unusedVariables false
open Go.RowKit
/-- Where the reference stands: what it has put in order, with the classes. -/
def RSt (w0 wr : World) (o c : Value) (D : List Int) : Prop :=
  OwnI w0.heap.size wr o D ∧ OwnI w0.heap.size wr c (D.map classP) ∧ Dj o c ∧ (D = [] → o = .slice none 0 0) ∧ Below w0.heap.size w0 wr
theorem RSt.below {w0 wr w' : World} {o c : Value} {D : List Int} (h : RSt w0 wr o c D) (hb : Below wr.heap.size wr w') : RSt w0 w' o c D :=
  ⟨h.1.below hb, h.2.1.below hb, h.2.2.1, h.2.2.2.1, h.2.2.2.2.trans (hb.mono h.2.2.2.2.size)⟩
/-- Two slices of the call's own that are not empty, the third beside them. -/
def Two (B Bp : Nat) (w0 wr : World) (g1 n1 c1 g2 n2 c2 : Nat) (v6 : Value) (D parts : List Int) (x : Int) (j : Nat) : Prop :=
  OwnI B wr (.slice (some ⟨g1, 0, none⟩) n1 c1) (D.take j ++ x :: D.drop j) ∧ OwnI B wr (.slice (some ⟨g2, 0, none⟩) n2 c2) ((D.take j ++ x :: D.drop j).map classP) ∧ OwnI Bp wr v6 parts ∧ Below B w0 wr
theorem Two.drewN {B Bp : Nat} {w0 wr : World} {g1 n1 c1 g2 n2 c2 : Nat} {v6 : Value} {D parts : List Int} {x : Int} {j : Nat} (h : Two B Bp w0 wr g1 n1 c1 g2 n2 c2 v6 D parts x j) (q : Nat) : Two B Bp w0 (wr.drewN q) g1 n1 c1 g2 n2 c2 v6 D parts x j :=
  ⟨h.1, h.2.1, h.2.2.1, h.2.2.2.trans ((DrN.refl wr).more q |>.below B)⟩
theorem Two.swap {B Bp : Nat} {w0 wr : World} {g1 n1 c1 g2 n2 c2 : Nat} {v6 : Value} {D parts : List Int} {x : Int} {q : Nat} (h : Two B Bp w0 wr g1 n1 c1 g2 n2 c2 v6 D parts x (q + 1)) (hq : q < D.length) (hne : g1 ≠ g2) (hB1 : B ≤ g1) (hB2 : B ≤ g2) (hd1 : v6.ownBlock ≠ some g1) (hd2 : v6.ownBlock ≠ some g2) :
    Two B Bp w0 ((((wr.setCell ⟨g1, q, none⟩ (.int .i64 x)).setCell ⟨g2, q, none⟩ (.int .i64 (classP x))).setCell ⟨g1, q + 1, none⟩ (.int .i64 D[q]!)).setCell ⟨g2, q + 1, none⟩ (.int .i64 (classP D[q]!))) g1 n1 c1 g2 n2 c2 v6 D parts x q := by
  obtain ⟨h1, h2, h3, h4⟩ := h
  have e : D.take (q + 1) ++ x :: D.drop (q + 1) = D.take q ++ D[q]! :: x :: D.drop (q + 1) := by rw [take_at hq]; simp
  rw [e] at h1 h2
  rw [List.map_append, List.map_cons, List.map_cons] at h2
  have t1 : (D.take q).length = q := by rw [List.length_take]; omega
  have t2 : ((D.take q).map classP).length = q := by rw [List.length_map]; exact t1
  obtain ⟨kx, hkx⟩ : ∃ k, classP x = k := ⟨_, rfl⟩
  obtain ⟨ky, hky⟩ : ∃ k, classP D[q]! = k := ⟨_, rfl⟩
  rw [hkx, hky] at h2
  rw [hkx, hky]
  obtain ⟨k1, k2, k3, k4⟩ := two_swap (L := D.take q) (R := D.drop (q + 1)) (KL := (D.take q).map classP) (KR := (D.drop (q + 1)).map classP) (x := x) (y := D[q]!) (kx := kx) (ky := ky) t1 t2 hne hB1 hB2 h1 h2 h3 hd1 hd2 h4 _ rfl
  have e2 : D.take q ++ x :: D.drop q = D.take q ++ x :: D[q]! :: D.drop (q + 1) := by rw [drop_at hq]
  refine ⟨by rw [e2]; exact k1, ?_, k3, k4⟩
  rw [e2, List.map_append, List.map_cons, List.map_cons, hkx, hky]
  exact k2
theorem Two.cells {B Bp : Nat} {w0 wr : World} {g1 n1 c1 g2 n2 c2 : Nat} {v6 : Value} {D parts : List Int} {x : Int} {j : Nat} (h : Two B Bp w0 wr g1 n1 c1 g2 n2 c2 v6 D parts x j) (hj : j ≤ D.length) :
    wr.cell? ⟨g1, j, none⟩ = some (.int .i64 x) ∧ wr.cell? ⟨g2, j, none⟩ = some (.int .i64 (classP x)) ∧ ∀ q, j = q + 1 → wr.cell? ⟨g1, q, none⟩ = some (.int .i64 D[q]!) ∧ wr.cell? ⟨g2, q, none⟩ = some (.int .i64 (classP D[q]!)) := by
  obtain ⟨h1, h2, -, -⟩ := h
  have lt : (D.take j).length = j := by rw [List.length_take]; omega
  have gx : (D.take j ++ x :: D.drop j)[j]! = x := by
    rw [getElem!_pos _ j (by simp; omega), List.getElem_append_right (by omega)]; simp [lt]
  have gm : ∀ i, i < (D.take j ++ x :: D.drop j).length → ((D.take j ++ x :: D.drop j).map classP)[i]! = classP (D.take j ++ x :: D.drop j)[i]! := fun i hi => by
    rw [getElem!_pos _ i (by simpa using hi), getElem!_pos _ i hi, List.getElem_map]
  have hl : j < (D.take j ++ x :: D.drop j).length := by simp; omega
  refine ⟨by rw [h1.cellI j hl, gx], by rw [h2.cellI j (by simpa using hl), gm j hl, gx], fun q hq => ?_⟩
  subst hq
  have gq : (D.take (q + 1) ++ x :: D.drop (q + 1))[q]! = D[q]! := by
    rw [getElem!_pos _ q (by simp; omega), List.getElem_append_left (by omega), getElem!_pos D q (by omega)]; simp
  exact ⟨by rw [h1.cellI q (by omega), gq], by rw [h2.cellI q (by simp; omega), gm q (by omega), gq]⟩
theorem Two.frozen {B Bp : Nat} {w0 wr : World} {g1 n1 c1 g2 n2 c2 : Nat} {v6 : Value} {D parts : List Int} {x : Int} {j : Nat} (h : Two B Bp w0 wr g1 n1 c1 g2 n2 c2 v6 D parts x j) (i : Nat) : wr.frozen? ⟨g1, i, none⟩ = false ∧ wr.frozen? ⟨g2, i, none⟩ = false := by
  obtain ⟨h1, h2, -, -⟩ := h
  have fr : ∀ {g n c : Nat} {L : List Int}, OwnI B wr (.slice (some ⟨g, 0, none⟩) n c) L → wr.frozen? ⟨g, i, none⟩ = false := fun {g n c L} h => by
    have hn : n = (L.map (Value.int .i64)).length := by
      rcases h.2 with ⟨e, _⟩ | ⟨_, _, _, e, _⟩
      · simp at e
      · simp at e; simp [e.2.1]
    subst hn
    exact World.ownsRow.frozenAt h i
  exact ⟨fr h1, fr h2⟩
/-- x has come to its place. -/
theorem Two.done {B Bp : Nat} {w0 wr : World} {g1 n1 c1 g2 n2 c2 : Nat} {v6 : Value} {D parts : List Int} {x : Int} {j : Nat} (h : Two B Bp w0 wr g1 n1 c1 g2 n2 c2 v6 D parts x j) (hB : B = w0.heap.size) (hj : j ≤ D.length) (hne : g1 ≠ g2) (hi : ins classP D x = ins classP (D.take j) x ++ D.drop j)
    (hs : j = 0 ∨ ¬ (0 < classP x ∧ classP x < classP D[j - 1]!)) : RSt w0 wr (.slice (some ⟨g1, 0, none⟩) n1 c1) (.slice (some ⟨g2, 0, none⟩) n2 c2) (ins classP D x) ∧ OwnI Bp wr v6 parts := by
  obtain ⟨h1, h2, h3, h4⟩ := h
  have e : ins classP D x = D.take j ++ x :: D.drop j := by
    rw [hi]
    rcases hs with rfl | hs
    · simp [ins_nil]
    · rcases Nat.eq_zero_or_pos j with rfl | hp
      · simp [ins_nil]
      · obtain ⟨q, rfl⟩ : ∃ q, j = q + 1 := ⟨j - 1, by omega⟩
        rw [take_at (show q < D.length by omega), ins_stay (by simpa using hs)]; simp
  subst hB
  rw [e]
  exact ⟨⟨h1, h2, .inr (by simpa [Value.ownBlock] using hne), fun h => by simp at h, h4⟩, h3⟩
theorem own_some {B : Nat} {w : World} {v : Value} {L : List Int} (h : OwnI B w v L) (hL : L ≠ []) : ∃ g cap, v = .slice (some ⟨g, 0, none⟩) L.length cap ∧ B ≤ g ∧ L.length ≤ cap := by
  rcases h.nilOr with ⟨_, e⟩ | ⟨g, cap, e, h1, _, h2, _⟩
  · exact absurd (by simpa using e) hL
  · rw [List.length_map] at e h2; exact ⟨g, cap, e, h1, h2⟩
set_option maxHeartbeats 4000000 in
set_option maxRecDepth 200000 in
theorem rchars_any (w : World) (v : Value) (l : List Int) (hv : RdI w v l) (hr : IntOk l) (hl : (l.flatMap apartP).length ≤ 100000) (hl2 : l.length ≤ 100000) :
    Calls Tryd.prog 14 #[v] w (NewRes (charsP l) w) := by
  have mixed : Tryd.prog.follows .mixedOrders = true := by kernel_rfl
  obtain ⟨a, n, cap, rfl, hn, hc⟩ := hv.walk
  have HC := Lib.hid hc
  have HN : Hid (n = l.length) := hn
  have HR := Lib.hid hr
  have HL : Hid ((l.flatMap apartP).length ≤ 100000) := Lib.hid hl
  have hn1 : n ≤ 100000 := by omega
  clear hc hn hv hr hl hl2
  go_enter Tryd.func14, Tryd.ntmps14
  go_wp2
  go_loopg [3, 4, 5, 6, 7, 8, 9, 10] n (fun kk ov cv vi _ _ _ _ _ wr => ∃ (i : Nat), vi = .int .i64 i ∧ i ≤ n ∧ n - i ≤ kk ∧ Hid (RSt w wr ov cv (orderP classP ((l.take i).flatMap apartP))))
  case atStart => exact ⟨0, rfl, by omega, by omega, (show Hid _ from ⟨OwnV.nil _ _ _, OwnV.nil _ _ _, .inl rfl, fun _ => rfl, Below.refl _ _⟩)⟩
  case round =>
    obtain ⟨i, rfl, hi, hkk, HS⟩ := hrel
    by_cases hlt : i < n
    · have hz : (i : Int) < (n : Int) := by omega
      have hil : i < l.length := by have := HN.out; omega
      obtain ⟨g, off, rfl, hg, c1⟩ := HC.out i hil
      have d1 : wr.cell? ⟨g, off + i, none⟩ = some (.int .i64 l[i]!) := (HS.out.2.2.2.2.cell hg).trans c1
      clear c1
      have hrc := HR.out l[i]! (by rw [getElem!_pos l i hil]; exact List.getElem_mem hil)
      have hfl := Lib.hid (flat_le l i hil)
      have hft := Lib.hid (flat_take l i hil)
      have HIL := Lib.hid hil
      clear hil
      obtain ⟨c, hc⟩ : ∃ c, l[i]! = c := ⟨_, rfl⟩
      rw [hc] at d1 hrc hfl hft
      have HRP : Hid (IntOk (apartP c)) := Lib.hid (apart_range hrc)
      have HA : Hid (∀ w, Calls Tryd.prog 21 #[.int .i64 c] w (NewRes (apartP c) w)) := Lib.hid fun w => rapart_any c hrc.1 hrc.2 w
      have HNE := Lib.hid (apart_len c)
      clear hc hrc
      generalize apartP c = parts at *
      go_wp2_with fail
      refine (HA.out _).mono ?_
      rintro e w2 ⟨v6, rfl, ho, hnil, hb2⟩
      obtain ⟨p, cap2, rfl, hBp, -⟩ := own_some ho HNE.out.2
      obtain ⟨m, hm⟩ : ∃ m, parts.length = m := ⟨_, rfl⟩
      rw [hm]
      rw [hm] at ho
      have HM : Hid (parts.length = m) := hm
      have hm10 : m ≤ 10 := by have := HNE.out.1; omega
      obtain ⟨X, hX⟩ : ∃ X, (l.take i).flatMap apartP = X := ⟨_, rfl⟩
      rw [hX] at HS hfl hft
      have HDJ : Hid (u3.ownBlock ≠ some p ∧ u4.ownBlock ≠ some p) := by
        obtain ⟨s1, s2, _⟩ := HS.out
        exact ⟨fun e => by have := (s1.lt p e).2; omega, fun e => by have := (s2.lt p e).2; omega⟩
      obtain ⟨Bp, hBp'⟩ : ∃ b, wr.heap.size = b := ⟨_, rfl⟩
      rw [hBp'] at ho
      have HP2 : Hid (OwnI Bp w2 (.slice (some ⟨p, 0, none⟩) m cap2) parts ∧ RSt w w2 u3 u4 (orderP classP (X ++ parts.take 0)) ∧ u3.ownBlock ≠ some p ∧ u4.ownBlock ≠ some p) := ⟨ho, by rw [List.take_zero, List.append_nil]; exact HS.out.below hb2, HDJ.out⟩
      clear hX hm ho hnil hb2 HS HA d1 HDJ hBp hBp'
      go_wp2
      go_loopg [3, 4, 7, 8, 9, 10] m (fun kk ov cv vk _ _ _ wr2 => ∃ (k : Nat), vk = .int .i64 k ∧ k ≤ m ∧ m - k ≤ kk ∧ Hid (OwnI Bp wr2 (.slice (some ⟨p, 0, none⟩) m cap2) parts ∧ RSt w wr2 ov cv (orderP classP (X ++ parts.take k)) ∧ ov.ownBlock ≠ some p ∧ cv.ownBlock ≠ some p))
      case atStart => exact ⟨0, rfl, by omega, by omega, HP2⟩
      case round =>
        clear HP2
        obtain ⟨k, rfl, hk, hkk2, HP⟩ := hrel
        by_cases hkm : k < m
        · have hz2 : (k : Int) < (m : Int) := by omega
          have hkl : k < parts.length := by have := HM.out; omega
          have d2 := HP.out.1.cellI k hkl
          have hrc := HRP.out parts[k]! (by rw [getElem!_pos parts k hkl]; exact List.getElem_mem hkl)
          have HT := Lib.hid (take_at hkl)
          obtain ⟨x, hc'⟩ : ∃ c, parts[k]! = c := ⟨_, rfl⟩
          have HXK : Hid (parts[k]! = x ∧ k < parts.length) := ⟨hc', hkl⟩
          rw [hc'] at d2 hrc HT
          have HK : Hid (∀ w, Calls Tryd.prog 22 #[.int .i64 x] w (IntRes (classP x) w)) := Lib.hid fun w => rclass_any x hrc.1 hrc.2 w
          obtain ⟨D, hD⟩ : ∃ D, orderP classP (X ++ parts.take k) = D := ⟨_, rfl⟩
          have HDD : Hid (orderP classP (X ++ parts.take (k + 1)) = ins classP D x) := Lib.hid (by rw [HT.out, ← List.append_assoc, orderP_snoc, hD])
          have HDL : Hid (D.length ≤ 100000) := Lib.hid (by rw [← hD, orderP_len, List.length_append, List.length_take]; have := hfl.out; have := HL.out; have := HM.out; omega)
          rw [hD] at HP
          clear hc' hrc hkl hD HT
          have hBw : w.heap.size ≤ wr.heap.size := HP.out.2.1.2.2.2.2.size
          go_wp2_with (at_builtin; refine wp_appI _ _ (by rfl) (by rfl) (by rfl) HP.out.2.1.1 x (by rfl) (by have := HDL.out; omega) hBw ?_)
          intro o' w4 hown4 G1
          have HP4 : Hid (OwnI w.heap.size w4 o' (D ++ [x]) ∧ OwnI w.heap.size w4 u4 (D.map classP) ∧ OwnI Bp w4 (.slice (some ⟨p, 0, none⟩) m cap2) parts ∧ Dj o' u4 ∧ o'.ownBlock ≠ some p ∧ u4.ownBlock ≠ some p ∧ Below w.heap.size w w4) := by
            obtain ⟨p1, ⟨s1, s2, s3, s4, s5⟩, p2, p3⟩ := HP.out
            refine ⟨hown4, G1.kept _ _ _ s2 s3, G1.kept _ _ _ p1 (.inr (by simpa [Value.ownBlock] using p2)), G1.apart _ _ _ s2 s3, ?_, p3, s5.trans G1.below⟩
            rcases G1.apart _ _ _ p1 (.inr (by simpa [Value.ownBlock] using p2)) with h | h
            · rw [h]; simp
            · simpa [Value.ownBlock] using h
          have d4 := HP4.out.2.2.1.cellI k HXK.out.2
          rw [HXK.out.1] at d4
          clear hown4 G1 HP d2
          go_wp2_with fail
          refine (HK.out _).mono ?_
          rintro e w5 ⟨rfl, hb5⟩
          have HP5 : Hid (OwnI w.heap.size w5 o' (D ++ [x]) ∧ OwnI w.heap.size w5 u4 (D.map classP) ∧ OwnI Bp w5 (.slice (some ⟨p, 0, none⟩) m cap2) parts ∧ Dj o' u4 ∧ o'.ownBlock ≠ some p ∧ u4.ownBlock ≠ some p ∧ Below w.heap.size w w5) := by
            obtain ⟨p1, p2, p3, p4, p5, p6, p7⟩ := HP4.out
            exact ⟨p1.below hb5, p2.below hb5, p3.below hb5, p4, p5, p6, p7.trans (hb5.mono p7.size)⟩
          have hBw5 : w.heap.size ≤ w5.heap.size := HP5.out.2.2.2.2.2.2.size
          have HLK : Hid ((D.map classP).length ≤ 1000000) := Lib.hid (by rw [List.length_map]; have := HDL.out; omega)
          clear HP4 d4 hb5 HK
          go_wp2_with (at_builtin; refine wp_appI _ _ (by rfl) (by rfl) (by rfl) HP5.out.2.1 (classP x) (by rfl) HLK.out hBw5 ?_)
          intro c' w6 hown6 G2
          obtain ⟨p1, p2, p3, p4, p5, p6, p7⟩ := HP5.out
          have q1 := G2.kept _ _ _ p1 p4.symm
          have q3 := G2.kept _ _ _ p3 (.inr (by simpa [Value.ownBlock] using p6))
          have qd := G2.apart _ _ _ p1 p4.symm
          have qp : c'.ownBlock ≠ some p := by
            rcases G2.apart _ _ _ p3 (.inr (by simpa [Value.ownBlock] using p6)) with h | h
            · rw [h]; simp
            · simpa [Value.ownBlock] using h
          have qb := p7.trans G2.below
          obtain ⟨g1, cap1, rfl, hg1, hc1⟩ := own_some q1 (by simp)
          obtain ⟨g2, cap3, rfl, hg2, hc2⟩ := own_some hown6 (by simp)
          have hne : g1 ≠ g2 := by
            rcases qd with h | h
            · simp [Value.ownBlock] at h
            · intro e; subst e; simp [Value.ownBlock] at h
          have hp1 : (Value.slice (some ⟨p, 0, none⟩) m cap2).ownBlock ≠ some g1 := by
            intro e; simp [Value.ownBlock] at e; subst e; simp [Value.ownBlock] at p5
          have hp2 : (Value.slice (some ⟨p, 0, none⟩) m cap2).ownBlock ≠ some g2 := by
            intro e; simp [Value.ownBlock] at e; subst e; simp [Value.ownBlock] at qp
          have HG : Hid (g1 ≠ g2 ∧ w.heap.size ≤ g1 ∧ w.heap.size ≤ g2 ∧ (Value.slice (some ⟨p, 0, none⟩) m cap2).ownBlock ≠ some g1 ∧ (Value.slice (some ⟨p, 0, none⟩) m cap2).ownBlock ≠ some g2) := ⟨hne, hg1, hg2, hp1, hp2⟩
          have e1 : (D ++ [x]).length = D.length + 1 := by simp
          have e2 : (D.map classP ++ [classP x]).length = D.length + 1 := by simp
          rw [e1] at q1 hc1 ⊢
          rw [e2] at hown6 hc2 ⊢
          obtain ⟨dl, hdl⟩ : ∃ d, D.length = d := ⟨_, rfl⟩
          rw [hdl] at q1 hc1 hown6 hc2 ⊢
          have HDl : Hid (D.length = dl) := hdl
          have hdl1 : dl ≤ 100000 := by have := HDL.out; omega
          have HT6 : Hid (Two w.heap.size Bp w w6 g1 (dl + 1) cap1 g2 (dl + 1) cap3 (.slice (some ⟨p, 0, none⟩) m cap2) D parts x dl) := by
            refine ⟨?_, ?_, q3, qb⟩
            · rw [List.take_of_length_le (by omega), List.drop_of_length_le (by omega)]; exact q1
            · rw [List.take_of_length_le (by omega), List.drop_of_length_le (by omega), List.map_append]; exact hown6
          have HI6 : Hid (ins classP D x = ins classP (D.take dl) x ++ D.drop dl) := Lib.hid (by rw [List.take_of_length_le (by omega), List.drop_of_length_le (by omega)]; simp)
          obtain ⟨kx, hkx⟩ : ∃ k, classP x = k := ⟨_, rfl⟩
          have HKX : Hid (classP x = kx) := hkx
          rw [hkx]
          clear p1 p2 p3 p4 p5 p6 p7 q1 q3 qd qp qb hown6 G2 HP5 hne hp1 hp2 hg1 hg2 e1 e2 hdl hkx HLK
          go_wp2
          go_loopg [8, 9, 10] dl (fun kk vj _ _ wr => ∃ j : Nat, vj = .int .i64 j ∧ j ≤ dl ∧ j ≤ kk ∧ Hid (Two w.heap.size Bp w wr g1 (dl + 1) cap1 g2 (dl + 1) cap3 (.slice (some ⟨p, 0, none⟩) m cap2) D parts x j) ∧ Hid (ins classP D x = ins classP (D.take j) x ++ D.drop j))
          case atStart => exact ⟨dl, by go_num, Nat.le_refl _, Nat.le_refl _, HT6, HI6⟩
          case round =>
            clear HT6 HI6
            obtain ⟨j, rfl, hjd, hjk, HT, HI⟩ := hrel
            have fin : ∀ q, (j = 0 ∨ ¬ (0 < classP x ∧ classP x < classP D[j - 1]!)) → Hid (OwnI Bp (wr.drewN q) (.slice (some ⟨p, 0, none⟩) m cap2) parts ∧ RSt w (wr.drewN q) (.slice (some ⟨g1, 0, none⟩) (dl + 1) cap1) (.slice (some ⟨g2, 0, none⟩) (dl + 1) cap3) (orderP classP (X ++ parts.take (k + 1))) ∧ (Value.slice (some ⟨g1, 0, none⟩) (dl + 1) cap1).ownBlock ≠ some p ∧ (Value.slice (some ⟨g2, 0, none⟩) (dl + 1) cap3).ownBlock ≠ some p) := fun q hs => by
              obtain ⟨h1, h2⟩ := (HT.out.drewN q).done rfl (by have := HDl.out; omega) HG.out.1 HI.out hs
              refine ⟨h2, by rw [HDD.out]; exact h1, ?_, ?_⟩
              · have := HG.out.2.2.2.1; intro e; simp [Value.ownBlock] at e this; exact this e.symm
              · have := HG.out.2.2.2.2; intro e; simp [Value.ownBlock] at e this; exact this e.symm
            have FIN := Lib.hid fin
            clear fin
            obtain ⟨a1, a2, a3⟩ := HT.out.cells (by have := HDl.out; omega)
            rw [HKX.out] at a2
            by_cases hj0 : j = 0
            · subst hj0
              have hzj : ¬ (0 : Int) < ((0 : Nat) : Int) := by omega
              have F := FIN.out
              have FF := Lib.hid (fun q => (FIN.out q (.inl rfl)).out)
              clear FIN a3 F
              go_wp2_with fail
              go_quiet (fail)
              go_wp2
              go_roundg (m - (k + 1))
              case measure => omega
              case rel => exact ⟨k + 1, by go_num, by omega, Nat.le_refl _, Lib.hid (FF.out _)⟩
            · obtain ⟨q, rfl⟩ : ∃ q, j = q + 1 := ⟨j - 1, by omega⟩
              obtain ⟨b1, b2⟩ := a3 q rfl
              have hzj : (0 : Int) < ((q + 1 : Nat) : Int) := by omega
              have eq1 : ((q + 1 : Nat) : Int) - 1 = (q : Int) := by omega
              have eq2 : ((q + 1 : Nat) : Int) = (q : Int) + 1 := by omega
              have eq3 : (q : Int) + 1 - 1 = (q : Int) := by omega
              have wq : IntKind.i64.wrap (q : Int) = (q : Int) := by rw [IntKind.wrap_i64]; omega
              have bq1 : (q : Int) + 1 < (dl : Int) + 1 := by omega
              have bq2 : (q : Int) < (dl : Int) + 1 := by omega
              have tq : ((q : Int) + 1).toNat = q + 1 := by omega
              have HY : Hid (D[q + 1 - 1]! = D[q]!) := by show _ = _; rw [Nat.add_sub_cancel]
              obtain ⟨y, hy⟩ : ∃ y, D[q]! = y := ⟨_, rfl⟩
              obtain ⟨ky, hky⟩ : ∃ k, classP y = k := ⟨_, rfl⟩
              rw [hy] at b1 b2
              rw [hky] at b2
              have HYY : Hid (D[q]! = y ∧ classP y = ky) := ⟨hy, hky⟩
              clear hy hky a3
              by_cases hpx : 0 < kx
              · have hpd : decide (0 < kx) = true := decide_eq_true hpx
                by_cases hlt2 : kx < ky
                · have hld : decide (kx < ky) = true := decide_eq_true hlt2
                  clear FIN HY
                  go_wp2_with fail
                  go_quiet (fail)
                  have HT2 := Lib.hid (HT.out.drewN nq)
                  clear a1 a2 b1 b2 HT
                  generalize wr.drewN nq = w7 at HT2 ⊢
                  obtain ⟨a1, a2, a3⟩ := HT2.out.cells (by have := HDl.out; omega)
                  obtain ⟨b1, b2⟩ := a3 q rfl
                  rw [HKX.out] at a2
                  rw [HYY.out.1] at b1 b2
                  rw [HYY.out.2] at b2
                  clear a3 nq
                  go_wp2_with fail
                  go_quiet (fail)
                  have HT3 := Lib.hid (HT2.out.drewN nq)
                  clear a1 a2 b1 b2 HT2
                  generalize w7.drewN nq = w8 at HT3 ⊢
                  clear w7 nq
                  obtain ⟨a1, a2, a3⟩ := HT3.out.cells (by have := HDl.out; omega)
                  obtain ⟨b1, b2⟩ := a3 q rfl
                  rw [HKX.out] at a2
                  rw [HYY.out.1] at b1 b2
                  rw [HYY.out.2] at b2
                  obtain ⟨f1, f2⟩ := HT3.out.frozen q
                  obtain ⟨f3, f4⟩ := HT3.out.frozen (q + 1)
                  have n1 : ¬ g1 = g2 := HG.out.1
                  have n2 : ¬ g2 = g1 := fun h => HG.out.1 h.symm
                  have HT4 := Lib.hid (HT3.out.swap (by have := HDl.out; omega) HG.out.1 HG.out.2.1 HG.out.2.2.1 HG.out.2.2.2.1 HG.out.2.2.2.2)
                  rw [HYY.out.1, HYY.out.2, HKX.out] at HT4
                  have HI4 : Hid (ins classP D x = ins classP (D.take q) x ++ D.drop q) := Lib.hid (by
                    rw [HI.out, take_at (show q < D.length by have := HDl.out; omega), ins_pass (by rw [HKX.out]; exact hpx) (by rw [HYY.out.1, HYY.out.2, HKX.out]; exact hlt2), drop_at (A := D) (i := q) (by have := HDl.out; omega)]
                    simp)
                  clear HT3 HI a3
                  go_wp2
                  go_roundg q
                  case measure => omega
                  case rel => exact ⟨q, by go_num, by omega, Nat.le_refl _, HT4, HI4⟩
                · have hld : decide (kx < ky) = false := decide_eq_false hlt2
                  have FF := Lib.hid (fun q' => (FIN.out q' (.inr (by rw [HY.out, HYY.out.1, HYY.out.2, HKX.out]; omega))).out)
                  clear FIN
                  go_wp2_with fail
                  go_quiet (fail)
                  go_wp2
                  go_roundg (m - (k + 1))
                  case measure => omega
                  case rel => exact ⟨k + 1, by go_num, by omega, Nat.le_refl _, Lib.hid (FF.out _)⟩
              · have hpd : decide (0 < kx) = false := decide_eq_false hpx
                have FF := Lib.hid (fun q' => (FIN.out q' (.inr (by rw [HKX.out]; omega))).out)
                clear FIN
                go_wp2_with fail
                go_quiet (fail)
                go_wp2
                go_roundg (m - (k + 1))
                case measure => omega
                case rel => exact ⟨k + 1, by go_num, by omega, Nat.le_refl _, Lib.hid (FF.out _)⟩
        · have hz2 : ¬ (k : Int) < (m : Int) := by omega
          have HO5 : Hid (RSt w wr u3 u4 (orderP classP ((l.take (i + 1)).flatMap apartP))) := Lib.hid (by
            rw [hft.out]
            have := HP.out.2.1
            rwa [List.take_of_length_le (by have := HM.out; omega)] at this)
          clear HP
          go_wp2
          go_roundg (n - (i + 1))
          case measure => omega
          case rel => exact ⟨i + 1, by go_num, by omega, Nat.le_refl _, HO5⟩
    · have hz : ¬ (i : Int) < (n : Int) := by omega
      have HF : Hid (NewRes (charsP l) w (.returned u3) wr) := by
        obtain ⟨s1, s2, s3, s4, s5⟩ := HS.out
        rw [List.take_of_length_le (by have := HN.out; omega)] at s1 s4
        refine ⟨u3, rfl, s1, ⟨fun h => ?_, s4⟩, s5⟩
        rcases s1.nilOr with ⟨_, e⟩ | ⟨g, cap, e, _⟩
        · exact List.map_eq_nil_iff.1 e
        · rw [h] at e; simp at e
      clear HS
      go_wp2
      go_ret
      exact HF.out
end Go.Proofs.YtmglnpnkkidnnaaDoor
