/- The walks of block's getLengths and getRow. -/
import Derived.Test.YtaddihabjdoihaaBlkSmall
import Derived.Test.YtaddihabjdoihaaRow2
import Derived.Test.YtaddihabjdoihaaRow3
import Derived.BigQuiet
namespace Go.Proofs.Ytaddihabjdoihaa
set_option linter.unusedVariables false
set_option maxRecDepth 100000
open Go.RowKit
def gN (l : List UInt8) : Nat × Nat := (getN l).getD (0, 0)
theorem numRes_g (l : List UInt8) : numRes (getN l) = .tuple #[.int .u64 ((gN l).1 : Int), .int .i64 ((gN l).2 : Int)] := by
  unfold gN
  cases getN l with
  | none => rfl
  | some q => rfl
theorem gN_le (l : List UInt8) : (gN l).2 ≤ l.length ∧ (gN l).2 ≤ 10 ∧ (gN l).1 < 18446744073709551616 := by
  unfold gN
  cases h : getN l with
  | none => simp
  | some q =>
    have := getN_le (n := q.1) (k := q.2) h
    exact ⟨this.2.1, this.2.2.1, this.2.2.2⟩
theorem gN_zero (l : List UInt8) : (gN l).2 = 0 ↔ getN l = none := by
  unfold gN
  cases h : getN l with
  | none => simp
  | some q =>
    have := getN_le (n := q.1) (k := q.2) h
    simp only [Option.getD_some, reduceCtorEq, iff_false]; omega
theorem gN_some (l : List UInt8) (h : ¬ (gN l).2 = 0) : getN l = some (gN l) := by
  unfold gN at h ⊢
  cases hg : getN l with
  | none => rw [hg] at h; simp at h
  | some q => rfl
theorem lens_none {l : List UInt8} (h : (gN l).2 = 0 ∨ (gN (l.drop (gN l).2)).2 = 0 ∨ (gN (l.drop ((gN l).2 + (gN (l.drop (gN l).2)).2))).2 = 0) : lensP l = none := by
  unfold lensP
  by_cases h1 : (gN l).2 = 0
  · rw [(gN_zero l).1 h1]; rfl
  · rw [gN_some l h1, Option.bind_some]
    by_cases h2 : (gN (l.drop (gN l).2)).2 = 0
    · rw [(gN_zero _).1 h2]; rfl
    · rw [gN_some _ h2, Option.bind_some]
      have h3 := (h.resolve_left h1).resolve_left h2
      rw [(gN_zero _).1 h3]; rfl
theorem lens_some {l : List UInt8} (h1 : ¬ (gN l).2 = 0) (h2 : ¬ (gN (l.drop (gN l).2)).2 = 0) (h3 : ¬ (gN (l.drop ((gN l).2 + (gN (l.drop (gN l).2)).2))).2 = 0) :
    lensP l = some (((gN l).1, (gN (l.drop (gN l).2)).1, (gN (l.drop ((gN l).2 + (gN (l.drop (gN l).2)).2))).1), (gN l).2 + (gN (l.drop (gN l).2)).2 + (gN (l.drop ((gN l).2 + (gN (l.drop (gN l).2)).2))).2) := by
  unfold lensP
  rw [gN_some l h1, Option.bind_some, gN_some _ h2, Option.bind_some, gN_some _ h3]
  rfl
/-- What getLengths answers. -/
def lensV : Option ((Nat × Nat × Nat) × Nat) → Value
  | none => .tuple #[.agg #[.int .u64 0, .int .u64 0, .int .u64 0], .int .i64 0]
  | some ((s, o, v), k) => .tuple #[.agg #[.int .u64 (s : Int), .int .u64 (o : Int), .int .u64 (v : Int)], .int .i64 (k : Int)]
set_option maxHeartbeats 2000000 in
theorem getLens_any (v : Value) (l : List UInt8) (hl : l.length ≤ 1000000000000) (w : World) (h : RdB w v l) :
    Calls Try.prog 39 #[v] w fun e w' => e = .returned (lensV (lensP l)) ∧ Below w.heap.size w w' := by
  obtain ⟨a, len, cap, rfl, hlen, hcap⟩ := h.form
  obtain ⟨V, hV⟩ : ∃ V, lensP l = V := ⟨_, rfl⟩
  rw [hV]
  have HV := Lib.hid hV
  obtain ⟨n1, i, e1⟩ : ∃ n i, gN l = (n, i) := ⟨_, _, rfl⟩
  obtain ⟨n2, j, e2⟩ : ∃ n i', gN (l.drop i) = (n, i') := ⟨_, _, rfl⟩
  obtain ⟨n3, k, e3⟩ : ∃ n i', gN (l.drop (i + j)) = (n, i') := ⟨_, _, rfl⟩
  have b1 := gN_le l
  have b2 := gN_le (l.drop i)
  have b3 := gN_le (l.drop (i + j))
  rw [e1] at b1; rw [e2] at b2; rw [e3] at b3
  rw [List.length_drop] at b2 b3
  obtain ⟨b1, b1', b1''⟩ := b1
  obtain ⟨b2, b2', b2''⟩ := b2
  obtain ⟨b3, b3', b3''⟩ := b3
  simp only at b1 b1' b1'' b2 b2' b2'' b3 b3' b3''
  have HN : Hid (i = 0 ∨ j = 0 ∨ k = 0 → V = none) := Lib.hid fun h => by
    rw [← HV.out]; exact lens_none (by rw [e1]; simp only; rw [e2]; simp only; rw [e3]; exact h)
  have HS : Hid (¬ i = 0 → ¬ j = 0 → ¬ k = 0 → V = some ((n1, n2, n3), i + j + k)) := Lib.hid fun h1 h2 h3 => by
    rw [← HV.out]
    have := lens_some (l := l) (by rw [e1]; exact h1) (by rw [e1]; simp only; rw [e2]; exact h2) (by rw [e1]; simp only; rw [e2]; simp only; rw [e3]; exact h3)
    rw [this, e1]; simp only; rw [e2]; simp only; rw [e3]
  have hil : i ≤ len := by omega
  have hijl : i + j ≤ len := by omega
  have hcl : len ≤ cap := by
    rcases Nat.eq_zero_or_pos len with e | e
    · omega
    · exact (hcap e).1
  have hlb : len ≤ 1000000000000 := by omega
  have hsl1 := fun W => sl_lB W a len cap i hil hcl
  have hsl2 := fun W => sl_lB W a len cap (i + j) hijl hcl
  have R1 := h.drop i hil
  have R2 := h.drop (i + j) hijl
  generalize hT1 : (if cap = i then a else a.map (·.add i)) = T1 at hsl1 R1
  generalize hT2 : (if cap = i + j then a else a.map (·.add (i + j))) = T2 at hsl2 R2
  have G1 : Hid (∀ W, Below w.heap.size w W → Calls Try.prog 42 #[.slice a len cap] W fun e w' => e = .returned (.tuple #[.int .u64 (n1 : Int), .int .i64 (i : Int)]) ∧ w' = W) := Lib.hid fun W hW => by
    have := numRes_g l
    rw [e1] at this
    refine (get_any _ l W (h.below hW)).mono ?_
    rintro e w' ⟨rfl, rfl⟩
    exact ⟨by rw [this], rfl⟩
  have G2 : Hid (∀ W, Below w.heap.size w W → Calls Try.prog 42 #[.slice T1 (len - i) (cap - i)] W fun e w' => e = .returned (.tuple #[.int .u64 (n2 : Int), .int .i64 (j : Int)]) ∧ w' = W) := Lib.hid fun W hW => by
    have := numRes_g (l.drop i)
    rw [e2] at this
    refine (get_any _ (l.drop i) W (R1.below hW)).mono ?_
    rintro e w' ⟨rfl, rfl⟩
    exact ⟨by rw [this], rfl⟩
  have G3 : Hid (∀ W, Below w.heap.size w W → Calls Try.prog 42 #[.slice T2 (len - (i + j)) (cap - (i + j))] W fun e w' => e = .returned (.tuple #[.int .u64 (n3 : Int), .int .i64 (k : Int)]) ∧ w' = W) := Lib.hid fun W hW => by
    have := numRes_g (l.drop (i + j))
    rw [e3] at this
    refine (get_any _ (l.drop (i + j)) W (R2.below hW)).mono ?_
    rintro e w' ⟨rfl, rfl⟩
    exact ⟨by rw [this], rfl⟩
  obtain ⟨Q1, hQ1⟩ : ∃ Q, len - i = Q := ⟨_, rfl⟩
  obtain ⟨C1, hC1⟩ : ∃ Q, cap - i = Q := ⟨_, rfl⟩
  obtain ⟨Q2, hQ2⟩ : ∃ Q, len - (i + j) = Q := ⟨_, rfl⟩
  obtain ⟨C2, hC2⟩ : ∃ Q, cap - (i + j) = Q := ⟨_, rfl⟩
  rw [hQ1, hC1] at G2
  rw [hQ2, hC2] at G3
  simp only [hQ1, hC1] at hsl1
  simp only [hQ2, hC2] at hsl2
  obtain ⟨IJ, hIJ⟩ : ∃ Q, i + j = Q := ⟨_, rfl⟩
  have hIJ2 : (i : Int) + (j : Int) = (IJ : Int) := by omega
  rw [hIJ] at hsl2 hijl HS
  clear hV h R1 R2 hlen hcap hl b1 b2 b3 e1 e2 e3 hQ1 hC1 hQ2 hC2 hT1 hT2 hIJ
  go_enter Try.func39, Try.ntmps39
  go_wp2_with fail
  refine (G1.out _ ?_).mono ?_
  · exact (Below.refl _ _).alloc (Nat.le_refl _) _
  rintro e w' ⟨rfl, rfl⟩
  go_wp2_with fail
  refine (G2.out _ ?_).mono ?_
  · exact (Below.refl _ _).alloc (Nat.le_refl _) _
  rintro e w' ⟨rfl, rfl⟩
  go_wp2_with fail
  refine (G3.out _ ?_).mono ?_
  · exact (Below.refl _ _).alloc (Nat.le_refl _) _
  rintro e w' ⟨rfl, rfl⟩
  obtain ⟨w1, hw1⟩ : ∃ w1, w.alloc (.cells #[.int .u64 0, .int .u64 0, .int .u64 0] 76) = w1 := ⟨_, rfl⟩
  have HR3 : Hid (Row3 w1 w.heap.size (.int .u64 0) (.int .u64 0) (.int .u64 0)) := Lib.hid (by rw [← hw1]; exact Row3.new w _ _ _ _)
  have HB1 : Hid (Below w.heap.size w w1) := Lib.hid (by rw [← hw1]; exact (Below.refl _ w).alloc (Nat.le_refl _) _)
  rw [hw1]
  obtain ⟨⟨z0, z1, z2⟩, ⟨f0, f1, f2⟩, hz⟩ := id HR3.out
  clear hw1 G1 G2 G3
  by_cases hA0 : i = 0
  · have HE := Lib.hid (HN.out (.inl hA0))
    have hi : ((i : Int) == 0) = true := by rw [beq_iff_eq]; omega
    clear HN HS hA0
    go_wp2_with fail
    refine bodyPost_ret (v := lensV none) (by simp [results, Try.results39, go_sem, lensV, z0, z1, z2]) rfl ⟨by rw [HE.out], ?_⟩
    iterate 3 refine Below.setCell ?_ (by simp) _
    exact HB1.out
  by_cases hA1 : j = 0
  · have HE := Lib.hid (HN.out (.inr (.inl hA1)))
    have hi : ((i : Int) == 0) = false := by rw [beq_eq_false_iff_ne]; omega
    have hj : ((j : Int) == 0) = true := by rw [beq_iff_eq]; omega
    clear HN HS hA0 hA1
    go_wp2_with fail
    refine bodyPost_ret (v := lensV none) (by simp [results, Try.results39, go_sem, lensV, z0, z1, z2]) rfl ⟨by rw [HE.out], ?_⟩
    iterate 3 refine Below.setCell ?_ (by simp) _
    exact HB1.out
  by_cases hA2 : k = 0
  · have HE := Lib.hid (HN.out (.inr (.inr hA2)))
    have hi : ((i : Int) == 0) = false := by rw [beq_eq_false_iff_ne]; omega
    have hj : ((j : Int) == 0) = false := by rw [beq_eq_false_iff_ne]; omega
    have hk : ((k : Int) == 0) = true := by rw [beq_iff_eq]; omega
    clear HN HS hA0 hA1 hA2
    go_wp2_with fail
    refine bodyPost_ret (v := lensV none) (by simp [results, Try.results39, go_sem, lensV, z0, z1, z2]) rfl ⟨by rw [HE.out], ?_⟩
    iterate 3 refine Below.setCell ?_ (by simp) _
    exact HB1.out
  · have HE := Lib.hid (HS.out hA0 hA1 hA2)
    have hA3 : ((i : Int) == 0) = false := by rw [beq_eq_false_iff_ne]; omega
    have hA4 : ((j : Int) == 0) = false := by rw [beq_eq_false_iff_ne]; omega
    have hA5 : ((k : Int) == 0) = false := by rw [beq_eq_false_iff_ne]; omega
    have hIJb : (IJ : Int) ≤ 20 := by omega
    have hkb : (k : Int) ≤ 10 := by omega
    have hk0 : (0 : Int) ≤ (k : Int) := by omega
    have hIJ0 : (0 : Int) ≤ (IJ : Int) := by omega
    clear HN HS hA0 hA1 hA2
    go_wp2_with fail
    refine bodyPost_ret (v := lensV (some ((n1, n2, n3), IJ + k))) (by simp [results, Try.results39, go_sem, lensV, z0, z1, z2]) rfl ⟨by rw [HE.out], ?_⟩
    iterate 3 refine Below.setCell ?_ (by simp) _
    exact HB1.out
/-- What getRow answers. -/
def bkRowV : Option (Kv × Nat) → Value
  | none => .tuple #[.agg #[.string ⟨#[]⟩, .string ⟨#[]⟩], .int .i64 0]
  | some (r, k) => .tuple #[.agg #[.string ⟨r.k.toArray⟩, .string ⟨r.v.toArray⟩], .int .i64 (k : Int)]
/-- Behind getLengths: the row's two cells, the lengths' three. -/
theorem getRow_w2 {w w1 : World} (s o v : Nat) (h : Row2 w1 w.heap.size (.string ⟨#[]⟩) (.string ⟨#[]⟩)) (hb : Below w.heap.size w w1) :
    Row2 (w1.alloc (.cells #[.int .u64 (s : Int), .int .u64 (o : Int), .int .u64 (v : Int)] 76)) w.heap.size (.string ⟨#[]⟩) (.string ⟨#[]⟩) ∧
    Row3 (w1.alloc (.cells #[.int .u64 (s : Int), .int .u64 (o : Int), .int .u64 (v : Int)] 76)) w1.heap.size (.int .u64 (s : Int)) (.int .u64 (o : Int)) (.int .u64 (v : Int)) ∧
    Below w.heap.size w (w1.alloc (.cells #[.int .u64 (s : Int), .int .u64 (o : Int), .int .u64 (v : Int)] 76)) :=
  ⟨h.below ((Below.refl _ _).alloc (Nat.le_refl _) _) h.2.2, Row3.new w1 _ _ _ _, hb.alloc hb.size _⟩
set_option maxHeartbeats 4000000 in
theorem getRow_any (v : Value) (l : List UInt8) (hl : l.length ≤ 1000000000000) (n : Nat) (hn : n ≤ 1000000000000) (p : ByteArray) (hpl : p.size + l.length ≤ 1000000000000) (w : World) (h : RdB w v l) :
    Calls Try.prog 28 #[v, .int .i64 (n : Int), .string p] w fun e w' => e = .returned (bkRowV (rowCk n p.data.toList l)) ∧ Below w.heap.size w w' := by
  obtain ⟨a, len, cap, rfl, hlen, hcap⟩ := h.form
  obtain ⟨V, hV⟩ : ∃ V, rowCk n p.data.toList l = V := ⟨_, rfl⟩
  rw [hV]
  have HV := Lib.hid hV
  have HG : Hid (∀ W, Below w.heap.size w W → Calls Try.prog 39 #[.slice a len cap] W fun e w' => e = .returned (lensV (lensP l)) ∧ Below W.heap.size W w') := Lib.hid fun W hW => getLens_any _ l hl W (h.below hW)
  have hcl : len ≤ cap := by
    rcases Nat.eq_zero_or_pos len with e | e
    · omega
    · exact (hcap e).1
  have hlb : len ≤ 1000000000000 := by omega
  have hp : p.size ≤ 1000000000000 := by omega
  have HPL := Lib.hid hpl
  clear hpl
  have HRD := Lib.hid h
  have HLL := Lib.hid hlen
  clear hV h hcap
  obtain ⟨s, o, v, k, hq, HK0, HK1⟩ : ∃ s o v k : Nat, lensV (lensP l) = .tuple #[.agg #[.int .u64 (s : Int), .int .u64 (o : Int), .int .u64 (v : Int)], .int .i64 (k : Int)] ∧ Hid (k = 0 → lensP l = none) ∧ Hid (¬ k = 0 → lensP l = some ((s, o, v), k) ∧ k ≤ l.length ∧ s < 2 ^ 64 ∧ o < 2 ^ 64 ∧ v < 2 ^ 64) := by
    cases hq : lensP l with
    | none => exact ⟨0, 0, 0, 0, rfl, Lib.hid fun _ => rfl, Lib.hid fun h => absurd rfl h⟩
    | some q =>
      obtain ⟨⟨s, o, v⟩, k⟩ := q
      have := lens_is hq
      exact ⟨s, o, v, k, rfl, Lib.hid fun h => by omega, Lib.hid fun _ => ⟨rfl, this.2.1, this.2.2.1, this.2.2.2.1, this.2.2.2.2.1⟩⟩
  rw [hq] at HG
  clear hq hlen hl
  by_cases hk0 : k = 0
  · have HE : Hid (V = none) := Lib.hid (by rw [← HV.out]; unfold rowCk; rw [HK0.out hk0]; rfl)
    subst hk0
    clear HK0 HK1 HV
    go_enter Try.func28, Try.ntmps28
    go_wp2_with fail
    refine (HG.out _ ?_).mono ?_
    · exact (Below.refl _ _).alloc (Nat.le_refl _) _
    rintro e w1 ⟨rfl, b1⟩
    have HR2 : Hid (Row2 w1 w.heap.size (.string ⟨#[]⟩) (.string ⟨#[]⟩)) := Lib.hid ((Row2.new w _ _ _).below b1 (by simp))
    have HB1 : Hid (Below w.heap.size w w1) := Lib.hid (((Below.refl _ w).alloc (Nat.le_refl _) _).trans (b1.mono (by simp)))
    clear b1 HG
    obtain ⟨⟨⟨y0, y1⟩, ⟨g0, g1⟩, hy⟩, ⟨⟨z0, z1, z2⟩, ⟨f0, f1, f2⟩, hz⟩, HB2⟩ := id (getRow_w2 s o v HR2.out HB1.out)
    have HB2 := Lib.hid HB2
    go_wp2_with fail
    refine bodyPost_ret (v := bkRowV none) (by simp [results, Try.results28, go_sem, bkRowV, y0, y1]) rfl ⟨by rw [HE.out], ?_⟩
    iterate 2 refine Below.setCell ?_ (by simp) _
    exact HB2.out
  · obtain ⟨hq1, hkl, hsb, hob, hvb⟩ := HK1.out hk0
    have HQ := Lib.hid hq1
    have hlen := HLL.out
    obtain ⟨L, hL⟩ : ∃ L, l.length - k = L := ⟨_, rfl⟩
    have hLk : (len : Int) - (k : Int) = (L : Int) := by omega
    have hkb : (k : Int) ≤ (len : Int) := by omega
    have hk1 : ((k : Int) == 0) = false := by rw [beq_eq_false_iff_ne]; omega
    have hLb : (L : Int) ≤ 1000000000000 := by omega
    have hob2 : (o : Int) < 18446744073709551616 := by omega
    have hvb2 : (v : Int) < 18446744073709551616 := by omega
    have hsb2 : (s : Int) < 18446744073709551616 := by omega
    clear hq1 HK0 HK1
    by_cases c1 : p.size < s
    · have HE : Hid (V = none) := Lib.hid (by rw [← HV.out]; unfold rowCk; rw [HQ.out, Option.bind_some]; simp only; rw [if_pos (by rw [size_toList]; omega)])
      have hc1 : (p.size : Int) < (s : Int) := by omega
      clear hL hlen HV hk0
      go_enter Try.func28, Try.ntmps28
      go_wp2_with fail
      refine (HG.out _ ?_).mono ?_
      · exact (Below.refl _ _).alloc (Nat.le_refl _) _
      rintro e w1 ⟨rfl, b1⟩
      have HR2 : Hid (Row2 w1 w.heap.size (.string ⟨#[]⟩) (.string ⟨#[]⟩)) := Lib.hid ((Row2.new w _ _ _).below b1 (by simp))
      have HB1 : Hid (Below w.heap.size w w1) := Lib.hid (((Below.refl _ w).alloc (Nat.le_refl _) _).trans (b1.mono (by simp)))
      clear b1 HG
      obtain ⟨⟨⟨y0, y1⟩, ⟨g0, g1⟩, hy⟩, ⟨⟨z0, z1, z2⟩, ⟨f0, f1, f2⟩, hz⟩, HB2⟩ := id (getRow_w2 s o v HR2.out HB1.out)
      have HB2 := Lib.hid HB2
      go_wp2_with fail
      refine bodyPost_ret (v := bkRowV none) (by simp [results, Try.results28, go_sem, bkRowV, y0, y1]) rfl ⟨by rw [HE.out], ?_⟩
      iterate 2 refine Below.setCell ?_ (by simp) _
      exact HB2.out
    have hc1 : ¬ (p.size : Int) < (s : Int) := by omega
    by_cases c2 : L < o
    · have HE : Hid (V = none) := Lib.hid (by rw [← HV.out]; unfold rowCk; rw [HQ.out, Option.bind_some]; simp only; rw [if_pos (by rw [size_toList]; omega)])
      have hc2 : (L : Int) < (o : Int) := by omega
      clear hL hlen HV hk0
      go_enter Try.func28, Try.ntmps28
      go_wp2_with fail
      refine (HG.out _ ?_).mono ?_
      · exact (Below.refl _ _).alloc (Nat.le_refl _) _
      rintro e w1 ⟨rfl, b1⟩
      have HR2 : Hid (Row2 w1 w.heap.size (.string ⟨#[]⟩) (.string ⟨#[]⟩)) := Lib.hid ((Row2.new w _ _ _).below b1 (by simp))
      have HB1 : Hid (Below w.heap.size w w1) := Lib.hid (((Below.refl _ w).alloc (Nat.le_refl _) _).trans (b1.mono (by simp)))
      clear b1 HG
      obtain ⟨⟨⟨y0, y1⟩, ⟨g0, g1⟩, hy⟩, ⟨⟨z0, z1, z2⟩, ⟨f0, f1, f2⟩, hz⟩, HB2⟩ := id (getRow_w2 s o v HR2.out HB1.out)
      have HB2 := Lib.hid HB2
      go_wp2_with fail
      refine bodyPost_ret (v := bkRowV none) (by simp [results, Try.results28, go_sem, bkRowV, y0, y1]) rfl ⟨by rw [HE.out], ?_⟩
      iterate 2 refine Below.setCell ?_ (by simp) _
      exact HB2.out
    have hc2 : ¬ (L : Int) < (o : Int) := by omega
    obtain ⟨M, hM⟩ : ∃ M, L - o = M := ⟨_, rfl⟩
    have hMo : (L : Int) - (o : Int) = (M : Int) := by omega
    by_cases c3 : M < v
    · have HE : Hid (V = none) := Lib.hid (by rw [← HV.out]; unfold rowCk; rw [HQ.out, Option.bind_some]; simp only; rw [if_pos (by rw [size_toList]; omega)])
      have hc3 : (M : Int) < (v : Int) := by omega
      clear hL hlen HV hk0 hM
      go_enter Try.func28, Try.ntmps28
      go_wp2_with fail
      refine (HG.out _ ?_).mono ?_
      · exact (Below.refl _ _).alloc (Nat.le_refl _) _
      rintro e w1 ⟨rfl, b1⟩
      have HR2 : Hid (Row2 w1 w.heap.size (.string ⟨#[]⟩) (.string ⟨#[]⟩)) := Lib.hid ((Row2.new w _ _ _).below b1 (by simp))
      have HB1 : Hid (Below w.heap.size w w1) := Lib.hid (((Below.refl _ w).alloc (Nat.le_refl _) _).trans (b1.mono (by simp)))
      clear b1 HG
      obtain ⟨⟨⟨y0, y1⟩, ⟨g0, g1⟩, hy⟩, ⟨⟨z0, z1, z2⟩, ⟨f0, f1, f2⟩, hz⟩, HB2⟩ := id (getRow_w2 s o v HR2.out HB1.out)
      have HB2 := Lib.hid HB2
      go_wp2_with fail
      refine bodyPost_ret (v := bkRowV none) (by simp [results, Try.results28, go_sem, bkRowV, y0, y1]) rfl ⟨by rw [HE.out], ?_⟩
      iterate 2 refine Below.setCell ?_ (by simp) _
      exact HB2.out
    have hc3 : ¬ (M : Int) < (v : Int) := by omega
    have hoL : o ≤ 1000000000000 := by omega
    have hvL : v ≤ 1000000000000 := by omega
    have hsL : s ≤ 1000000000000 := by omega
    have hko : (k : Int) + (o : Int) = ((k + o : Nat) : Int) := by omega
    have hkov : (((k + o : Nat) : Int)) + (v : Int) = ((k + o + v : Nat) : Int) := by omega
    generalize hA : k + o = A at hko hkov
    generalize hE : A + v = E at hkov
    have hAl : A ≤ len := by omega
    have hEl : E ≤ len := by omega
    have hkA : k ≤ A := by omega
    have hAE : A ≤ E := by omega
    have hkl2 : k ≤ len := by omega
    clear hL hlen hk0 hM
    go_enter Try.func28, Try.ntmps28
    go_wp2_with fail
    refine (HG.out _ ?_).mono ?_
    · exact (Below.refl _ _).alloc (Nat.le_refl _) _
    rintro e w1 ⟨rfl, b1⟩
    have HR2 : Hid (Row2 w1 w.heap.size (.string ⟨#[]⟩) (.string ⟨#[]⟩)) := Lib.hid ((Row2.new w _ _ _).below b1 (by simp))
    have HB1 : Hid (Below w.heap.size w w1) := Lib.hid (((Below.refl _ w).alloc (Nat.le_refl _) _).trans (b1.mono (by simp)))
    clear b1 HG
    obtain ⟨⟨⟨y0, y1⟩, ⟨g0, g1⟩, hy⟩, ⟨⟨z0, z1, z2⟩, ⟨f0, f1, f2⟩, hz⟩, HB2⟩ := id (getRow_w2 s o v HR2.out HB1.out)
    have HB2 := Lib.hid HB2
    go_wp2_with fail
    have HR2b : Hid (Row2 (w1.alloc (.cells #[.int .u64 (s : Int), .int .u64 (o : Int), .int .u64 (v : Int)] 76)) w.heap.size (.string ⟨#[]⟩) (.string ⟨#[]⟩)) := Lib.hid (getRow_w2 s o v HR2.out HB1.out).1
    have HR3b : Hid (Row3 (w1.alloc (.cells #[.int .u64 (s : Int), .int .u64 (o : Int), .int .u64 (v : Int)] 76)) w1.heap.size (.int .u64 (s : Int)) (.int .u64 (o : Int)) (.int .u64 (v : Int))) := Lib.hid (getRow_w2 s o v HR2.out HB1.out).2.1
    clear y0 y1 hy g0 g1 z0 z1 z2 hz f0 f1 f2 HR2
    generalize w1.alloc (.cells #[.int .u64 (s : Int), .int .u64 (o : Int), .int .u64 (v : Int)] 76) = w2 at *
    obtain ⟨-, -, hy⟩ := id HR2b.out
    obtain ⟨⟨z0, z1, z2⟩, ⟨f0, f1, f2⟩, hz⟩ := id HR3b.out
    have hsl1 := fun W => sl_lhB W a len cap k A hkA (by omega)
    have HM1 := (HRD.out.below HB2.out).mid k A hkA hAl
    generalize hT1 : (if cap = k then a else a.map (·.add k)) = T1 at hsl1 HM1
    have x1 : ∀ j, (convert 33 9 (.slice T1 (A - k) (cap - k))).run Try.prog (w2.drewN j) = .ok (.string ⟨((l.take A).drop k).toArray⟩) (w2.drewN j) := fun j => (HM1.below (DrN.below ⟨j, rfl⟩ _)).text
    have hAk : A - k = o := by omega
    generalize hK1 : A - k = Q1 at hsl1 x1
    generalize hC1 : cap - k = C1 at hsl1 x1
    have hXs : ((⟨((l.take A).drop k).toArray⟩ : ByteArray)).size = o := by
      show ((l.take A).drop k).toArray.size = o
      have := HLL.out
      rw [List.size_toArray, List.length_drop, List.length_take]; omega
    have hXl : ((⟨((l.take A).drop k).toArray⟩ : ByteArray)).data.toList = (l.drop k).take o := by
      show ((l.take A).drop k).toArray.toList = _
      rw [List.drop_take, hAk]
    have hpe : (p.extract 0 s).data.toList = p.data.toList.take s := by simp
    generalize hX : (⟨((l.take A).drop k).toArray⟩ : ByteArray) = X at *
    have hcat : ¬ 9223372036854775807 < min s p.size + X.size := by omega
    have hKY : (p.extract 0 s ++ X).data.toList = p.data.toList.take s ++ (l.drop k).take o := by
      rw [ByteArray.data_append, Array.toList_append, hpe, hXl]
    have hKYs : (p.extract 0 s ++ X).size ≤ 1000000000000 := by
      have e := congrArg List.length hKY
      rw [size_toList, List.length_append, List.length_take, List.length_take, List.length_drop, size_toList] at e
      have := HPL.out
      have := HLL.out
      omega
    clear HM1 hpe hX hXl hXs
    go_quiet (fail)
    generalize p.extract 0 s ++ X = KY at *
    have HKY := Lib.hid hKY
    have HB3 := Lib.hid (HB2.out.trans ((DrN.below ⟨nq, rfl⟩ _ : Below w2.heap.size w2 (w2.drewN nq)).mono HB2.out.size))
    have HR2c : Hid (Row2 (w2.drewN nq) w.heap.size (.string ⟨#[]⟩) (.string ⟨#[]⟩)) := HR2b
    have HR3c : Hid (Row3 (w2.drewN nq) w1.heap.size (.int .u64 (s : Int)) (.int .u64 (o : Int)) (.int .u64 (v : Int))) := HR3b
    clear HR2b HR3b HB2 HB1 x1 hcat hKY hy z0 z1 z2 f0 f1 f2 hz hsl1 hT1
    generalize w2.drewN nq = w3 at *
    obtain ⟨⟨z0, z1, z2⟩, ⟨f0, f1, f2⟩, hz⟩ := id HR3c.out
    have HI : Hid (∀ w, Calls Try.prog 20 #[.int .i64 (n : Int), .string p, .string KY] w fun e w' => e = .returned (.bool (decide (n = 0 ∨ bl p KY))) ∧ w' = w) := Lib.hid (isNext_any n hn p KY)
    have HS : Hid (∀ w, Calls Try.prog 22 #[.int .i64 (n : Int), .string p, .string KY] w fun e w' => e = .returned (.int .i64 (shB n p.data.toList KY.data.toList : Nat)) ∧ DrN w w') := Lib.hid (shared_any n hn p KY hp hKYs)
    by_cases h1 : n = 0 ∨ bl p KY
    · rw [decide_eq_true h1] at HI
      by_cases h2 : s = shB n p.data.toList KY.data.toList
      · rw [← h2] at HS
        have HE : Hid (V = some (⟨KY.data.toList, (l.drop A).take v⟩, E)) := Lib.hid (by
          rw [← HV.out]; unfold rowCk
          rw [HQ.out, Option.bind_some]; simp only
          rw [if_neg (by rw [size_toList]; have := HLL.out; omega), ← HKY.out, if_pos ⟨h1, h2⟩, hA, hE])
        clear HV h1 h2 HQ
        go_wp2_with fail
        go_quiet ((first | (go_at_call 20; exact Calls.quiet_of_same (HI.out _)) | (go_at_call 22; exact Calls.quiet_of (HS.out _))))
        have HB4 := Lib.hid (HB3.out.trans ((DrN.below ⟨nq, rfl⟩ _ : Below w3.heap.size w3 (w3.drewN nq)).mono HB3.out.size))
        have HR2d : Hid (Row2 (w3.drewN nq) w.heap.size (.string ⟨#[]⟩) (.string ⟨#[]⟩)) := HR2c
        clear HR2c HR3c HB3 HI HS z0 z1 z2 f0 f1 f2 hz
        generalize w3.drewN nq = w4 at *
        have hsl2 := fun W => sl_lhB W a len cap A E hAE (by omega)
        have HM2 := (HRD.out.below HB4.out).mid A E hAE hEl
        generalize hT2 : (if cap = A then a else a.map (·.add A)) = T2 at hsl2 HM2
        have x2 := HM2.text
        have hY : (l.take E).drop A = (l.drop A).take v := by rw [List.drop_take]; congr 1; omega
        rw [hY] at x2
        generalize E - A = Q2 at *
        generalize cap - A = C2 at *
        obtain ⟨⟨y0, y1⟩, ⟨g0, g1⟩, hy⟩ := id HR2d.out
        clear HM2 hT2 hY HRD
        go_wp2_with fail
        refine bodyPost_ret (v := bkRowV (some (⟨KY.data.toList, (l.drop A).take v⟩, E))) (by simp [results, Try.results28, go_sem, bkRowV, y0, y1]) rfl ⟨by rw [HE.out], ?_⟩
        iterate 2 refine Below.setCell ?_ (by simp) _
        exact HB4.out
      · have h3 : ((s : Int) == (shB n p.data.toList KY.data.toList : Nat)) = false := by rw [beq_eq_false_iff_ne]; omega
        have h4 : ((s : Int) != (shB n p.data.toList KY.data.toList : Nat)) = true := by rw [bne, h3]; rfl
        have hsb := (shB_le n p.data.toList KY.data.toList).1
        rw [size_toList] at hsb
        have HE : Hid (V = none) := Lib.hid (by
          rw [← HV.out]; unfold rowCk
          rw [HQ.out, Option.bind_some]; simp only
          rw [if_neg (by rw [size_toList]; have := HLL.out; omega), ← HKY.out, if_neg (fun h => h2 h.2)])
        clear HV h1 h2 HQ HKY
        generalize shB n p.data.toList KY.data.toList = S at *
        go_wp2_with fail
        go_quiet ((first | (go_at_call 20; exact Calls.quiet_of_same (HI.out _)) | (go_at_call 22; exact Calls.quiet_of (HS.out _))))
        have HB4 := Lib.hid (HB3.out.trans ((DrN.below ⟨nq, rfl⟩ _ : Below w3.heap.size w3 (w3.drewN nq)).mono HB3.out.size))
        have HR2d : Hid (Row2 (w3.drewN nq) w.heap.size (.string ⟨#[]⟩) (.string ⟨#[]⟩)) := HR2c
        clear HR2c HR3c HB3 HI HS z0 z1 z2 f0 f1 f2 hz
        generalize w3.drewN nq = w4 at *
        obtain ⟨⟨y0, y1⟩, ⟨g0, g1⟩, hy⟩ := id HR2d.out
        go_wp2_with fail
        refine bodyPost_ret (v := bkRowV none) (by simp [results, Try.results28, go_sem, bkRowV, y0, y1]) rfl ⟨by rw [HE.out], ?_⟩
        iterate 2 refine Below.setCell ?_ (by simp) _
        exact HB4.out
    · rw [decide_eq_false h1] at HI
      have HE : Hid (V = none) := Lib.hid (by
        rw [← HV.out]; unfold rowCk
        rw [HQ.out, Option.bind_some]; simp only
        rw [if_neg (by rw [size_toList]; have := HLL.out; omega), ← HKY.out, if_neg (fun h => h1 h.1)])
      clear HV h1 HQ HKY
      go_wp2_with fail
      go_quiet ((first | (go_at_call 20; exact Calls.quiet_of_same (HI.out _)) | (go_at_call 22; exact Calls.quiet_of (HS.out _))))
      have HB4 := Lib.hid (HB3.out.trans ((DrN.below ⟨nq, rfl⟩ _ : Below w3.heap.size w3 (w3.drewN nq)).mono HB3.out.size))
      have HR2d : Hid (Row2 (w3.drewN nq) w.heap.size (.string ⟨#[]⟩) (.string ⟨#[]⟩)) := HR2c
      clear HR2c HR3c HB3 HI HS z0 z1 z2 f0 f1 f2 hz
      generalize w3.drewN nq = w4 at *
      obtain ⟨⟨y0, y1⟩, ⟨g0, g1⟩, hy⟩ := id HR2d.out
      go_wp2_with fail
      refine bodyPost_ret (v := bkRowV none) (by simp [results, Try.results28, go_sem, bkRowV, y0, y1]) rfl ⟨by rw [HE.out], ?_⟩
      iterate 2 refine Below.setCell ?_ (by simp) _
      exact HB4.out
end Go.Proofs.Ytaddihabjdoihaa
