/- The walk of table's isRight. -/
import Derived.Test.YtennpdhnjaemeaaDoorMEnt
import Derived.Test.YtennpdhnjaemeaaDoorMBase
import Derived.Test.YtennpdhnjaemeaaDoorMTblB
import Derived.Test.YtennpdhnjaemeaaDoorMBloom
import Derived.Deep.RegionHeld3
import Derived.Deep.CutBlock
import Derived.Deep.LoopGhost
namespace Go.Proofs.YtennpdhnjaemeaaDoor
set_option linter.unusedVariables false
set_option maxRecDepth 100000
open Go.RowKit
theorem empty_no {v : ByteArray} (h : v ≠ ⟨#[]⟩) : v.toList.isEmpty = false := by
  have h1 := bs_ne h
  rw [Bool.eq_false_iff]
  intro h2
  rw [List.isEmpty_iff.1 h2] at h1
  exact absurd h1 (by decide +kernel)
/-- A bool is told that says whether p. -/
def BoolRes (p : Prop) (w : World) (en : Ending) (w' : World) : Prop := ∃ q : Bool, en = .returned (.bool q) ∧ (q = true ↔ p) ∧ Below w.heap.size w w'
theorem isright_any (e : Ent) (w : World) : Calls Tryd.prog 49 #[.agg #[.string e.norm, .int .i64 e.seq, .int .i64 e.kind, .string e.spell, .string e.val]] w (BoolRes (RightE e) w) := by
  obtain ⟨n, sq, kd, sp, vl⟩ := e
  have HX := Lib.hid (BoxE.new w ⟨n, sq, kd, sp, vl⟩ 39)
  have HB : Hid (Below w.heap.size w (w.alloc (.cells #[.string n, .int .i64 sq, .int .i64 kd, .string sp, .string vl] 39))) := Lib.hid ((Below.refl _ w).alloc (Nat.le_refl _) _)
  have HNO : Hid (∀ q : Prop, (RightE ⟨n, sq, kd, sp, vl⟩ → False) → (false = true ↔ RightE ⟨n, sq, kd, sp, vl⟩)) := Lib.hid fun _ h => ⟨fun k => Bool.noConfusion k, fun k => (h k).elim⟩
  have HR : Hid (RightE ⟨n, sq, kd, sp, vl⟩ ↔ 1 ≤ sq ∧ sq ≤ 1125899906842624 ∧ (kd = 1 ∨ kd = 0 ∧ vl = ⟨#[]⟩)) := Lib.hid ⟨fun h => ⟨h.seq1, h.seq2, h.kind⟩, fun h => ⟨h.1, h.2.1, h.2.2⟩⟩
  simp only at HX
  obtain ⟨b, hb⟩ : ∃ b, w.heap.size = b := ⟨_, rfl⟩
  rw [hb] at HX
  go_enter Tryd.func49, Tryd.ntmps49
  go_upto_region 1 with fail
  generalize w.alloc (.cells #[.string n, .int .i64 sq, .int .i64 kd, .string sp, .string vl] 39) = w1 at *
  obtain ⟨d0, d1, d2, d3, d4⟩ := HX.out.cells
  simp only at d0 d1 d2 d3 d4
  clear hb d0 d3 HX
  by_cases q1 : sq < 1
  · clear d2 d4
    go_wp2_with fail
    go_ret
    exact ⟨false, rfl, HNO.out True fun h => by have := (HR.out.1 h).1; omega, HB.out⟩
  by_cases q2 : 1125899906842624 < sq
  · clear d2 d4
    go_wp2_with fail
    go_ret
    exact ⟨false, rfl, HNO.out True fun h => by have := (HR.out.1 h).2.1; omega, HB.out⟩
  by_cases q3 : kd = 1
  · subst q3
    clear d4
    go_wp2_with fail
    go_ret
    exact ⟨true, rfl, ⟨fun _ => HR.out.2 ⟨by omega, by omega, by simp⟩, fun _ => rfl⟩, HB.out⟩
  have k1 : (kd == 1) = false := by rw [beq_eq_false_iff_ne]; exact q3
  by_cases q4 : kd = 0
  · subst q4
    by_cases q5 : vl = ⟨#[]⟩
    · subst q5
      go_wp2_with fail
      go_ret
      exact ⟨true, rfl, ⟨fun _ => HR.out.2 ⟨by omega, by omega, by simp⟩, fun _ => rfl⟩, HB.out⟩
    · have hv := empty_no q5
      go_wp2_with fail
      go_ret
      exact ⟨false, rfl, HNO.out True fun h => by
        rcases (HR.out.1 h).2.2 with h | ⟨-, h⟩
        · cases h
        · exact q5 h, HB.out⟩
  have k2 : (kd == 0) = false := by rw [beq_eq_false_iff_ne]; exact q4
  clear d4
  go_wp2_with fail
  go_ret
  exact ⟨false, rfl, HNO.out True fun h => by
    rcases (HR.out.1 h).2.2 with h | ⟨h, -⟩
    · exact q3 h
    · exact q4 h, HB.out⟩
end Go.Proofs.YtennpdhnjaemeaaDoor
/- The walk of table's areRight. -/
namespace Go.Proofs.YtennpdhnjaemeaaDoor
set_option linter.unusedVariables false
set_option maxRecDepth 100000
open Go.RowKit
/-- Norm and number of an entry in a row. -/
def TwoAtE (w : World) (b o : Nat) (n : ByteArray) (q : Int) : Prop := (w.cell? ⟨b, o, none⟩ = some (.string n) ∧ w.cell? ⟨b, o + 1, none⟩ = some (.int .i64 q)) ∧ b < w.heap.size
theorem TwoAtE.below {w w' : World} {b o : Nat} {n : ByteArray} {q : Int} (h : TwoAtE w b o n q) (hb : Below w.heap.size w w') : TwoAtE w' b o n q := ⟨⟨(hb.cell h.2).trans h.1.1, (hb.cell h.2).trans h.1.2⟩, Nat.lt_of_lt_of_le h.2 hb.size⟩
theorem TwoAtE.two {w : World} {b o : Nat} {n : ByteArray} {q : Int} (h : TwoAtE w b o n q) : w.cell? ⟨b, o, none⟩ = some (.string n) ∧ w.cell? ⟨b, o + 1, none⟩ = some (.int .i64 q) := h.1
/-- What is asked of the i-th entry. -/
def StepOk (l : List Ent) (i : Nat) (e : Ent) : Prop := RightE e ∧ ∀ j d, i = j + 1 → l[j]? = some d → ¬ (e.norm = d.norm ∧ e.seq = d.seq)
/-- There is a table of l. -/
def AreP (l : List Ent) : Prop := l ≠ [] ∧ srtB l = true ∧ ∀ i e, l[i]? = some e → StepOk l i e
theorem isright_yes {e : Ent} (h : RightE e) (w : World) : Calls Tryd.prog 49 #[.agg #[.string e.norm, .int .i64 e.seq, .int .i64 e.kind, .string e.spell, .string e.val]] w fun en w' => en = .returned (.bool true) ∧ Below w.heap.size w w' := by
  refine (isright_any e w).mono ?_
  rintro en w' ⟨q, rfl, hq, hb⟩
  exact ⟨by rw [hq.2 h], hb⟩
theorem isright_no {e : Ent} (h : ¬ RightE e) (w : World) : Calls Tryd.prog 49 #[.agg #[.string e.norm, .int .i64 e.seq, .int .i64 e.kind, .string e.spell, .string e.val]] w fun en w' => en = .returned (.bool false) ∧ Below w.heap.size w w' := by
  refine (isright_any e w).mono ?_
  rintro en w' ⟨q, rfl, hq, hb⟩
  refine ⟨?_, hb⟩
  cases q with
  | false => rfl
  | true => exact absurd (hq.1 rfl) h
set_option maxHeartbeats 16000000 in
theorem areright_any (v : Value) (l : List Ent) (hl : l.length ≤ 1000000) (w : World) (hv : RdK encEnt 5 w v l) : Calls Tryd.prog 28 #[v] w (BoolRes (AreP l) w) := by
  obtain ⟨a, len, cap, rfl, hlen⟩ := rdK_len hv
  have HRD := Lib.hid hv
  have HLN := Lib.hid hlen
  have hlm : len ≤ 1000000 := by omega
  rcases Nat.eq_zero_or_pos len with h0 | h0
  · have HN : Hid (¬ AreP l) := Lib.hid fun h => h.1 (List.eq_nil_of_length_eq_zero (by omega))
    subst h0
    clear hv hlen hl HRD HLN hlm
    go_enter Tryd.func28, Tryd.ntmps28
    go_wp2_with fail
    go_ret
    exact ⟨false, rfl, ⟨fun k => Bool.noConfusion k, fun k => (HN.out k).elim⟩, Below.refl _ _⟩
  have hz : ((len : Int) == 0) = false := by rw [beq_eq_false_iff_ne]; omega
  have HS := Lib.hid (sorted_any _ l hl w hv)
  obtain ⟨qs, hqs⟩ : ∃ q, srtB l = q := ⟨_, rfl⟩
  rw [hqs] at HS
  have HQS := Lib.hid hqs
  have hl0 : l ≠ [] := by rintro rfl; rw [List.length_nil] at hlen; omega
  have HL0 : Hid (l ≠ []) := Lib.hid hl0
  clear hv hlen hl hqs hl0
  go_enter Tryd.func28, Tryd.ntmps28
  go_wp2_with fail
  refine HS.out.mono ?_
  rintro e w1 ⟨rfl, b1⟩
  have HB1 := Lib.hid b1
  clear b1 HS
  cases qs with
  | false =>
    go_wp2_with fail
    go_ret
    exact ⟨false, rfl, ⟨fun k => Bool.noConfusion k, fun k => by have := k.2.1; rw [HQS.out] at this; cases this⟩, HB1.out⟩
  | true =>
  go_wp2_with fail
  go_loopg [15] len (fun kk vi wr => ∃ i : Nat, vi = .int .i64 (i : Int) ∧ i ≤ len ∧ len - i ≤ kk ∧ Hid (∀ j e, j < i → l[j]? = some e → StepOk l j e) ∧ Hid (Below w.heap.size w wr))
  case atStart => exact ⟨0, rfl, by omega, by omega, Lib.hid (fun j e h => by omega), HB1⟩
  case round =>
    clear HB1
    obtain ⟨i, rfl, hi, hik, HST, HB⟩ := hrel
    by_cases h1 : i < len
    · have hi1 : (i : Int) < (len : Int) := by omega
      have hi0 : (0 : Int) ≤ (i : Int) := by omega
      obtain ⟨e, he⟩ : ∃ e, l[i]? = some e := ⟨l[i]'(by have := HLN.out; omega), List.getElem?_eq_getElem _⟩
      have HE := Lib.hid he
      obtain ⟨bb, ox, rfl, hblt, d0, d1, d2, d3, d4⟩ := (HRD.out.below HB.out).at5 HLN.out i e he
      have HIY := Lib.hid fun h : RightE e => isright_yes h
      have HIN := Lib.hid fun h : ¬ RightE e => isright_no h
      obtain ⟨en, hen⟩ : ∃ x, e.norm = x := ⟨_, rfl⟩
      obtain ⟨eq, heq⟩ : ∃ x, e.seq = x := ⟨_, rfl⟩
      obtain ⟨ek, hek⟩ : ∃ x, e.kind = x := ⟨_, rfl⟩
      obtain ⟨es, hes⟩ : ∃ x, e.spell = x := ⟨_, rfl⟩
      obtain ⟨ev, hev⟩ : ∃ x, e.val = x := ⟨_, rfl⟩
      rw [hen] at d0 HIY HIN
      rw [heq] at d1 HIY HIN
      rw [hek] at d2 HIY HIN
      rw [hes] at d3 HIY HIN
      rw [hev] at d4 HIY HIN
      have HEN := Lib.hid hen
      have HEQ := Lib.hid heq
      clear he hen heq hek hes hev
      go_upto_region 6 with fail
      have hbk : BlkAt (wr.alloc (.cells #[.string en, .int .i64 eq, .int .i64 ek, .string es, .string ev] 39)) wr.heap.size #[.string en, .int .i64 eq, .int .i64 ek, .string es, .string ev] 39 := BlkAt.new _ _ _
      have hb3 := HB.out.alloc HB.out.size (.cells #[.string en, .int .i64 eq, .int .i64 ek, .string es, .string ev] 39)
      obtain ⟨g3, hg3⟩ : ∃ g3, wr.heap.size = g3 := ⟨_, rfl⟩
      rw [hg3] at hbk ⊢
      obtain ⟨wc, hwc⟩ : ∃ wc, wr.alloc (.cells #[.string en, .int .i64 eq, .int .i64 ek, .string es, .string ev] 39) = wc := ⟨_, rfl⟩
      rw [hwc] at hbk hb3 ⊢
      have HXB0 := Lib.hid hbk
      have HB3 := Lib.hid hb3
      clear hbk hb3 hwc hg3 d0 d1 d2 d3 d4 HB hblt
      obtain ⟨q, hq⟩ : ∃ q : Bool, q = true ↔ ¬ StepOk l i e := ⟨@decide (¬ StepOk l i e) (Classical.propDecidable _), by simp⟩
      have HQ := Lib.hid hq
      clear hq
      go_cut [48] (fun c wx => c = .bool q ∧ Hid (Below w.heap.size w wx))
      case first =>
        as_aux_lemma =>
        have B := HB3.out
        have HXB := HXB0.out
        clear HB3 HXB0
        by_cases hR : RightE e
        · have HIR := Lib.hid (HIY.out hR)
          clear HIY HIN
          cases i with
          | zero =>
            obtain rfl : q = false := by
              cases q with
              | false => rfl
              | true => exact absurd ⟨hR, fun j d h => by omega⟩ (HQ.out.1 rfl)
            clear hR
            refine wp_region_held_drew (S := Below wc.heap.size wc) (by kernel_rfl) (Below.refl _ _).drew (fun hHeld => ?_)
            generalize wc.drew = wd2 at hHeld ⊢
            refine wpAnyH_shift hHeld ?_
            replace B : Below w.heap.size w wd2 := B.trans (hHeld.mono B.size)
            replace HXB := HXB.below hHeld
            clear hHeld
            refine takeYes (i := 0) (k := 20) (v := .agg #[.string en, .int .i64 eq, .int .i64 ek, .string es, .string ev]) rfl (by kernel_rfl) (by kernel_rfl) (by kernel_rfl) (by kernel_rfl) (fun _ _ _ h => h) (by kernel_rfl) ?_ (Below.refl _ _) ?_
            · intro W hSw; obtain ⟨x0, x1, x2, x3, x4⟩ := blk5 (HXB.below hSw); first | (go_simp; done) | go_simp
            try simp only [Act.put, List.setIfInBounds_toArray, List.set_cons_zero, List.set_cons_succ]
            refine wpAnyH_ready (rs := [1]) (by kernel_rfl) (by simp) (AllReadyH.cons rfl (fun K hK => ?_) AllReadyH.nil)
            go_simp
            refine (HIR.out _).mono ?_
            rintro e wd3 ⟨rfl, hb3⟩
            refine hK.out _ _ hb3 (fun _ => wpAnyH_shift hb3 ?_)
            clear hK K
            replace B : Below w.heap.size w wd3 := B.trans (hb3.mono B.size)
            replace HXB := HXB.below hb3
            clear hb3
            try simp only [Act.put, List.setIfInBounds_toArray, List.set_cons_zero, List.set_cons_succ]
            refine takeYes (i := 2) (k := 22) (v := .bool false) rfl (by kernel_rfl) (by kernel_rfl) (by kernel_rfl) (by kernel_rfl) (fun _ _ _ h => h) (by kernel_rfl) ?_ (Below.refl _ _) ?_
            · intro W hSw; first | (go_simp; done) | go_simp
            try simp only [Act.put, List.setIfInBounds_toArray, List.set_cons_zero, List.set_cons_succ]
            refine takeYes (i := 3) (k := 23) (v := .bool false) rfl (by kernel_rfl) (by kernel_rfl) (by kernel_rfl) (by kernel_rfl) (fun _ _ _ h => h) (by kernel_rfl) ?_ (Below.refl _ _) ?_
            · intro W hSw; first | (go_simp; done) | go_simp
            try simp only [Act.put, List.setIfInBounds_toArray, List.set_cons_zero, List.set_cons_succ]
            refine takeYes (i := 4) (k := 24) (v := .int .i64 0) rfl (by kernel_rfl) (by kernel_rfl) (by kernel_rfl) (by kernel_rfl) (fun _ _ _ h => h) (by kernel_rfl) ?_ (Below.refl _ _) ?_
            · intro W hSw; first | (go_simp; done) | go_simp
            try simp only [Act.put, List.setIfInBounds_toArray, List.set_cons_zero, List.set_cons_succ]
            refine takeYes (i := 5) (k := 25) (v := .bool false) rfl (by kernel_rfl) (by kernel_rfl) (by kernel_rfl) (by kernel_rfl) (fun _ _ _ h => h) (by kernel_rfl) ?_ (Below.refl _ _) ?_
            · intro W hSw; first | (go_simp; done) | go_simp
            try simp only [Act.put, List.setIfInBounds_toArray, List.set_cons_zero, List.set_cons_succ]
            refine takeYes (i := 6) (k := 26) (v := .bool false) rfl (by kernel_rfl) (by kernel_rfl) (by kernel_rfl) (by kernel_rfl) (fun _ _ _ h => h) (by kernel_rfl) ?_ (Below.refl _ _) ?_
            · intro W hSw; first | (go_simp; done) | go_simp
            try simp only [Act.put, List.setIfInBounds_toArray, List.set_cons_zero, List.set_cons_succ]
            refine takeNot (i := 7) (k := 27) (by kernel_rfl) (by kernel_rfl) (by kernel_rfl) (by kernel_rfl) (fun _ _ _ h => h) (by kernel_rfl) (Below.refl _ _) ?_
            try simp only [Act.put, List.setIfInBounds_toArray, List.set_cons_zero, List.set_cons_succ]
            refine takeNot (i := 8) (k := 28) (by kernel_rfl) (by kernel_rfl) (by kernel_rfl) (by kernel_rfl) (fun _ _ _ h => h) (by kernel_rfl) (Below.refl _ _) ?_
            try simp only [Act.put, List.setIfInBounds_toArray, List.set_cons_zero, List.set_cons_succ]
            refine takeNot (i := 9) (k := 29) (by kernel_rfl) (by kernel_rfl) (by kernel_rfl) (by kernel_rfl) (fun _ _ _ h => h) (by kernel_rfl) (Below.refl _ _) ?_
            try simp only [Act.put, List.setIfInBounds_toArray, List.set_cons_zero, List.set_cons_succ]
            refine takeNot (i := 10) (k := 30) (by kernel_rfl) (by kernel_rfl) (by kernel_rfl) (by kernel_rfl) (fun _ _ _ h => h) (by kernel_rfl) (Below.refl _ _) ?_
            try simp only [Act.put, List.setIfInBounds_toArray, List.set_cons_zero, List.set_cons_succ]
            refine takeNot (i := 11) (k := 31) (by kernel_rfl) (by kernel_rfl) (by kernel_rfl) (by kernel_rfl) (fun _ _ _ h => h) (by kernel_rfl) (Below.refl _ _) ?_
            try simp only [Act.put, List.setIfInBounds_toArray, List.set_cons_zero, List.set_cons_succ]
            refine takeNot (i := 12) (k := 32) (by kernel_rfl) (by kernel_rfl) (by kernel_rfl) (by kernel_rfl) (fun _ _ _ h => h) (by kernel_rfl) (Below.refl _ _) ?_
            try simp only [Act.put, List.setIfInBounds_toArray, List.set_cons_zero, List.set_cons_succ]
            refine takeNot (i := 13) (k := 33) (by kernel_rfl) (by kernel_rfl) (by kernel_rfl) (by kernel_rfl) (fun _ _ _ h => h) (by kernel_rfl) (Below.refl _ _) ?_
            try simp only [Act.put, List.setIfInBounds_toArray, List.set_cons_zero, List.set_cons_succ]
            refine takeNot (i := 14) (k := 34) (by kernel_rfl) (by kernel_rfl) (by kernel_rfl) (by kernel_rfl) (fun _ _ _ h => h) (by kernel_rfl) (Below.refl _ _) ?_
            try simp only [Act.put, List.setIfInBounds_toArray, List.set_cons_zero, List.set_cons_succ]
            refine takeNot (i := 15) (k := 35) (by kernel_rfl) (by kernel_rfl) (by kernel_rfl) (by kernel_rfl) (fun _ _ _ h => h) (by kernel_rfl) (Below.refl _ _) ?_
            try simp only [Act.put, List.setIfInBounds_toArray, List.set_cons_zero, List.set_cons_succ]
            refine takeYes (i := 16) (k := 36) (v := .bool false) rfl (by kernel_rfl) (by kernel_rfl) (by kernel_rfl) (by kernel_rfl) (fun _ _ _ h => h) (by kernel_rfl) ?_ (Below.refl _ _) ?_
            · intro W hSw; first | (go_simp; done) | go_simp
            try simp only [Act.put, List.setIfInBounds_toArray, List.set_cons_zero, List.set_cons_succ]
            refine takeYes (i := 17) (k := 37) (v := .bool false) rfl (by kernel_rfl) (by kernel_rfl) (by kernel_rfl) (by kernel_rfl) (fun _ _ _ h => h) (by kernel_rfl) ?_ (Below.refl _ _) ?_
            · intro W hSw; first | (go_simp; done) | go_simp
            try simp only [Act.put, List.setIfInBounds_toArray, List.set_cons_zero, List.set_cons_succ]
            refine takeNot (i := 18) (k := 38) (by kernel_rfl) (by kernel_rfl) (by kernel_rfl) (by kernel_rfl) (fun _ _ _ h => h) (by kernel_rfl) (Below.refl _ _) ?_
            try simp only [Act.put, List.setIfInBounds_toArray, List.set_cons_zero, List.set_cons_succ]
            refine takeNot (i := 19) (k := 39) (by kernel_rfl) (by kernel_rfl) (by kernel_rfl) (by kernel_rfl) (fun _ _ _ h => h) (by kernel_rfl) (Below.refl _ _) ?_
            try simp only [Act.put, List.setIfInBounds_toArray, List.set_cons_zero, List.set_cons_succ]
            refine takeNot (i := 20) (k := 40) (by kernel_rfl) (by kernel_rfl) (by kernel_rfl) (by kernel_rfl) (fun _ _ _ h => h) (by kernel_rfl) (Below.refl _ _) ?_
            try simp only [Act.put, List.setIfInBounds_toArray, List.set_cons_zero, List.set_cons_succ]
            refine takeNot (i := 21) (k := 41) (by kernel_rfl) (by kernel_rfl) (by kernel_rfl) (by kernel_rfl) (fun _ _ _ h => h) (by kernel_rfl) (Below.refl _ _) ?_
            try simp only [Act.put, List.setIfInBounds_toArray, List.set_cons_zero, List.set_cons_succ]
            refine takeNot (i := 22) (k := 42) (by kernel_rfl) (by kernel_rfl) (by kernel_rfl) (by kernel_rfl) (fun _ _ _ h => h) (by kernel_rfl) (Below.refl _ _) ?_
            try simp only [Act.put, List.setIfInBounds_toArray, List.set_cons_zero, List.set_cons_succ]
            refine takeNot (i := 23) (k := 43) (by kernel_rfl) (by kernel_rfl) (by kernel_rfl) (by kernel_rfl) (fun _ _ _ h => h) (by kernel_rfl) (Below.refl _ _) ?_
            try simp only [Act.put, List.setIfInBounds_toArray, List.set_cons_zero, List.set_cons_succ]
            refine takeNot (i := 24) (k := 44) (by kernel_rfl) (by kernel_rfl) (by kernel_rfl) (by kernel_rfl) (fun _ _ _ h => h) (by kernel_rfl) (Below.refl _ _) ?_
            try simp only [Act.put, List.setIfInBounds_toArray, List.set_cons_zero, List.set_cons_succ]
            refine takeNot (i := 25) (k := 45) (by kernel_rfl) (by kernel_rfl) (by kernel_rfl) (by kernel_rfl) (fun _ _ _ h => h) (by kernel_rfl) (Below.refl _ _) ?_
            try simp only [Act.put, List.setIfInBounds_toArray, List.set_cons_zero, List.set_cons_succ]
            refine takeNot (i := 26) (k := 46) (by kernel_rfl) (by kernel_rfl) (by kernel_rfl) (by kernel_rfl) (fun _ _ _ h => h) (by kernel_rfl) (Below.refl _ _) ?_
            try simp only [Act.put, List.setIfInBounds_toArray, List.set_cons_zero, List.set_cons_succ]
            refine takeYes (i := 27) (k := 47) (v := .bool false) rfl (by kernel_rfl) (by kernel_rfl) (by kernel_rfl) (by kernel_rfl) (fun _ _ _ h => h) (by kernel_rfl) ?_ (Below.refl _ _) ?_
            · intro W hSw; first | (go_simp; done) | go_simp
            try simp only [Act.put, List.setIfInBounds_toArray, List.set_cons_zero, List.set_cons_succ]
            refine takeYes (i := 28) (k := 48) (v := .bool false) rfl (by kernel_rfl) (by kernel_rfl) (by kernel_rfl) (by kernel_rfl) (fun _ _ _ h => h) (by kernel_rfl) ?_ (Below.refl _ _) ?_
            · intro W hSw; first | (go_simp; done) | go_simp
            try simp only [Act.put, List.setIfInBounds_toArray, List.set_cons_zero, List.set_cons_succ]
            refine wpAnyH_done (by kernel_rfl) ?_ _
            go_wp2_with fail
            go_meet
            exact ⟨rfl, Lib.hid B⟩
          | succ j =>
            obtain ⟨d, hd⟩ : ∃ d, l[j]? = some d := ⟨l[j]'(by have := HLN.out; omega), List.getElem?_eq_getElem _⟩
            obtain ⟨bx, oo, ebx, hblt2, p0, p1, p2, p3, p4⟩ := (HRD.out.below B).at5 HLN.out j d hd
            cases ebx
            have HPE : TwoAtE wc bb (ox + j * 5) d.norm d.seq := ⟨⟨p0, p1⟩, hblt2⟩
            obtain ⟨pn, hpn⟩ : ∃ x, d.norm = x := ⟨_, rfl⟩
            obtain ⟨pq, hpq⟩ : ∃ x, d.seq = x := ⟨_, rfl⟩
            have HD := Lib.hid hd
            have HDN := Lib.hid hpn
            have HDQ := Lib.hid hpq
            rw [hpn, hpq] at HPE
            have hj : ((j + 1 : Nat) : Int) - 1 = (j : Int) := by omega
            have hj0 : (0 : Int) ≤ (j : Int) := by omega
            have hjw : IntKind.i64.wrap (j : Int) = (j : Int) := IntWalk.i64_in _ (by omega)
            have hjl : (j : Int) < (len : Int) := by omega
            have hjp : (0 : Int) < ((j + 1 : Nat) : Int) := by omega
            clear hd p0 p1 p2 p3 p4 hpn hpq
            by_cases hN : en = pn
            · have hnn : (en.toList == pn.toList) = true := by rw [hN]; exact bs_refl pn
              by_cases hQ : eq = pq
              · have hqq : (eq == pq) = true := by rw [beq_iff_eq]; exact hQ
                obtain rfl : q = true := HQ.out.2 fun h => h.2 j d rfl HD.out ⟨by rw [HEN.out, HDN.out]; exact hN, by rw [HEQ.out, HDQ.out]; exact hQ⟩
                clear hN hQ hR
                refine wp_region_held_drew (S := Below wc.heap.size wc) (by kernel_rfl) (Below.refl _ _).drew (fun hHeld => ?_)
                generalize wc.drew = wd2 at hHeld ⊢
                refine wpAnyH_shift hHeld ?_
                replace B : Below w.heap.size w wd2 := B.trans (hHeld.mono B.size)
                replace HXB := HXB.below hHeld
                replace HPE := HPE.below hHeld
                clear hHeld
                refine takeYes (i := 0) (k := 20) (v := .agg #[.string en, .int .i64 eq, .int .i64 ek, .string es, .string ev]) rfl (by kernel_rfl) (by kernel_rfl) (by kernel_rfl) (by kernel_rfl) (fun _ _ _ h => h) (by kernel_rfl) ?_ (Below.refl _ _) ?_
                · intro W hSw; obtain ⟨x0, x1, x2, x3, x4⟩ := blk5 (HXB.below hSw); first | (go_simp; done) | go_simp
                try simp only [Act.put, List.setIfInBounds_toArray, List.set_cons_zero, List.set_cons_succ]
                refine wpAnyH_ready (rs := [1]) (by kernel_rfl) (by simp) (AllReadyH.cons rfl (fun K hK => ?_) AllReadyH.nil)
                go_simp
                refine (HIR.out _).mono ?_
                rintro e wd3 ⟨rfl, hb3⟩
                refine hK.out _ _ hb3 (fun _ => wpAnyH_shift hb3 ?_)
                clear hK K
                replace B : Below w.heap.size w wd3 := B.trans (hb3.mono B.size)
                replace HXB := HXB.below hb3
                replace HPE := HPE.below hb3
                clear hb3
                try simp only [Act.put, List.setIfInBounds_toArray, List.set_cons_zero, List.set_cons_succ]
                refine takeYes (i := 2) (k := 22) (v := .bool false) rfl (by kernel_rfl) (by kernel_rfl) (by kernel_rfl) (by kernel_rfl) (fun _ _ _ h => h) (by kernel_rfl) ?_ (Below.refl _ _) ?_
                · intro W hSw; first | (go_simp; done) | go_simp
                try simp only [Act.put, List.setIfInBounds_toArray, List.set_cons_zero, List.set_cons_succ]
                refine takeYes (i := 3) (k := 23) (v := .bool false) rfl (by kernel_rfl) (by kernel_rfl) (by kernel_rfl) (by kernel_rfl) (fun _ _ _ h => h) (by kernel_rfl) ?_ (Below.refl _ _) ?_
                · intro W hSw; first | (go_simp; done) | go_simp
                try simp only [Act.put, List.setIfInBounds_toArray, List.set_cons_zero, List.set_cons_succ]
                refine takeYes (i := 4) (k := 24) (v := .int .i64 ((j + 1 : Nat) : Int)) rfl (by kernel_rfl) (by kernel_rfl) (by kernel_rfl) (by kernel_rfl) (fun _ _ _ h => h) (by kernel_rfl) ?_ (Below.refl _ _) ?_
                · intro W hSw; first | (go_simp; done) | go_simp
                try simp only [Act.put, List.setIfInBounds_toArray, List.set_cons_zero, List.set_cons_succ]
                refine takeYes (i := 5) (k := 25) (v := .bool true) rfl (by kernel_rfl) (by kernel_rfl) (by kernel_rfl) (by kernel_rfl) (fun _ _ _ h => h) (by kernel_rfl) ?_ (Below.refl _ _) ?_
                · intro W hSw; first | (go_simp; done) | go_simp
                try simp only [Act.put, List.setIfInBounds_toArray, List.set_cons_zero, List.set_cons_succ]
                refine takeYes (i := 6) (k := 26) (v := .bool true) rfl (by kernel_rfl) (by kernel_rfl) (by kernel_rfl) (by kernel_rfl) (fun _ _ _ h => h) (by kernel_rfl) ?_ (Below.refl _ _) ?_
                · intro W hSw; first | (go_simp; done) | go_simp
                try simp only [Act.put, List.setIfInBounds_toArray, List.set_cons_zero, List.set_cons_succ]
                refine takeYes (i := 7) (k := 27) (v := .pointer (some ⟨g3, 0, none⟩)) rfl (by kernel_rfl) (by kernel_rfl) (by kernel_rfl) (by kernel_rfl) (fun _ _ _ h => h) (by kernel_rfl) ?_ (Below.refl _ _) ?_
                · intro W hSw; first | (go_simp; done) | go_simp
                try simp only [Act.put, List.setIfInBounds_toArray, List.set_cons_zero, List.set_cons_succ]
                refine takeYes (i := 8) (k := 28) (v := .string en) rfl (by kernel_rfl) (by kernel_rfl) (by kernel_rfl) (by kernel_rfl) (fun _ _ _ h => h) (by kernel_rfl) ?_ (Below.refl _ _) ?_
                · intro W hSw; obtain ⟨x0, x1, x2, x3, x4⟩ := blk5 (HXB.below hSw); first | (go_simp; done) | go_simp
                try simp only [Act.put, List.setIfInBounds_toArray, List.set_cons_zero, List.set_cons_succ]
                refine takeYes (i := 9) (k := 29) (v := .slice (some ⟨bb, ox, none⟩) len cap) rfl (by kernel_rfl) (by kernel_rfl) (by kernel_rfl) (by kernel_rfl) (fun _ _ _ h => h) (by kernel_rfl) ?_ (Below.refl _ _) ?_
                · intro W hSw; first | (go_simp; done) | go_simp
                try simp only [Act.put, List.setIfInBounds_toArray, List.set_cons_zero, List.set_cons_succ]
                refine takeYes (i := 10) (k := 30) (v := .int .i64 ((j + 1 : Nat) : Int)) rfl (by kernel_rfl) (by kernel_rfl) (by kernel_rfl) (by kernel_rfl) (fun _ _ _ h => h) (by kernel_rfl) ?_ (Below.refl _ _) ?_
                · intro W hSw; first | (go_simp; done) | go_simp
                try simp only [Act.put, List.setIfInBounds_toArray, List.set_cons_zero, List.set_cons_succ]
                refine takeYes (i := 11) (k := 31) (v := .int .i64 (j : Int)) rfl (by kernel_rfl) (by kernel_rfl) (by kernel_rfl) (by kernel_rfl) (fun _ _ _ h => h) (by kernel_rfl) ?_ (Below.refl _ _) ?_
                · intro W hSw; first | (go_simp; done) | go_simp
                try simp only [Act.put, List.setIfInBounds_toArray, List.set_cons_zero, List.set_cons_succ]
                refine takeYes (i := 12) (k := 32) (v := .pointer (some ⟨bb, ox + j * 5, none⟩)) rfl (by kernel_rfl) (by kernel_rfl) (by kernel_rfl) (by kernel_rfl) (fun _ _ _ h => h) (by kernel_rfl) ?_ (Below.refl _ _) ?_
                · intro W hSw; first | (go_simp; done) | go_simp
                try simp only [Act.put, List.setIfInBounds_toArray, List.set_cons_zero, List.set_cons_succ]
                refine takeYes (i := 13) (k := 33) (v := .pointer (some ⟨bb, ox + j * 5, none⟩)) rfl (by kernel_rfl) (by kernel_rfl) (by kernel_rfl) (by kernel_rfl) (fun _ _ _ h => h) (by kernel_rfl) ?_ (Below.refl _ _) ?_
                · intro W hSw; first | (go_simp; done) | go_simp
                try simp only [Act.put, List.setIfInBounds_toArray, List.set_cons_zero, List.set_cons_succ]
                refine takeYes (i := 14) (k := 34) (v := .string pn) rfl (by kernel_rfl) (by kernel_rfl) (by kernel_rfl) (by kernel_rfl) (fun _ _ _ h => h) (by kernel_rfl) ?_ (Below.refl _ _) ?_
                · intro W hSw; obtain ⟨y0, y1⟩ := (HPE.below hSw).two; first | (go_simp; done) | go_simp
                try simp only [Act.put, List.setIfInBounds_toArray, List.set_cons_zero, List.set_cons_succ]
                refine takeYes (i := 15) (k := 35) (v := .bool true) rfl (by kernel_rfl) (by kernel_rfl) (by kernel_rfl) (by kernel_rfl) (fun _ _ _ h => h) (by kernel_rfl) ?_ (Below.refl _ _) ?_
                · intro W hSw; first | (go_simp; done) | go_simp
                try simp only [Act.put, List.setIfInBounds_toArray, List.set_cons_zero, List.set_cons_succ]
                refine takeYes (i := 16) (k := 36) (v := .bool true) rfl (by kernel_rfl) (by kernel_rfl) (by kernel_rfl) (by kernel_rfl) (fun _ _ _ h => h) (by kernel_rfl) ?_ (Below.refl _ _) ?_
                · intro W hSw; first | (go_simp; done) | go_simp
                try simp only [Act.put, List.setIfInBounds_toArray, List.set_cons_zero, List.set_cons_succ]
                refine takeYes (i := 17) (k := 37) (v := .bool true) rfl (by kernel_rfl) (by kernel_rfl) (by kernel_rfl) (by kernel_rfl) (fun _ _ _ h => h) (by kernel_rfl) ?_ (Below.refl _ _) ?_
                · intro W hSw; first | (go_simp; done) | go_simp
                try simp only [Act.put, List.setIfInBounds_toArray, List.set_cons_zero, List.set_cons_succ]
                refine takeYes (i := 18) (k := 38) (v := .pointer (some ⟨g3, 1, none⟩)) rfl (by kernel_rfl) (by kernel_rfl) (by kernel_rfl) (by kernel_rfl) (fun _ _ _ h => h) (by kernel_rfl) ?_ (Below.refl _ _) ?_
                · intro W hSw; first | (go_simp; done) | go_simp
                try simp only [Act.put, List.setIfInBounds_toArray, List.set_cons_zero, List.set_cons_succ]
                refine takeYes (i := 19) (k := 39) (v := .int .i64 eq) rfl (by kernel_rfl) (by kernel_rfl) (by kernel_rfl) (by kernel_rfl) (fun _ _ _ h => h) (by kernel_rfl) ?_ (Below.refl _ _) ?_
                · intro W hSw; obtain ⟨x0, x1, x2, x3, x4⟩ := blk5 (HXB.below hSw); first | (go_simp; done) | go_simp
                try simp only [Act.put, List.setIfInBounds_toArray, List.set_cons_zero, List.set_cons_succ]
                refine takeYes (i := 20) (k := 40) (v := .slice (some ⟨bb, ox, none⟩) len cap) rfl (by kernel_rfl) (by kernel_rfl) (by kernel_rfl) (by kernel_rfl) (fun _ _ _ h => h) (by kernel_rfl) ?_ (Below.refl _ _) ?_
                · intro W hSw; first | (go_simp; done) | go_simp
                try simp only [Act.put, List.setIfInBounds_toArray, List.set_cons_zero, List.set_cons_succ]
                refine takeYes (i := 21) (k := 41) (v := .int .i64 ((j + 1 : Nat) : Int)) rfl (by kernel_rfl) (by kernel_rfl) (by kernel_rfl) (by kernel_rfl) (fun _ _ _ h => h) (by kernel_rfl) ?_ (Below.refl _ _) ?_
                · intro W hSw; first | (go_simp; done) | go_simp
                try simp only [Act.put, List.setIfInBounds_toArray, List.set_cons_zero, List.set_cons_succ]
                refine takeYes (i := 22) (k := 42) (v := .int .i64 (j : Int)) rfl (by kernel_rfl) (by kernel_rfl) (by kernel_rfl) (by kernel_rfl) (fun _ _ _ h => h) (by kernel_rfl) ?_ (Below.refl _ _) ?_
                · intro W hSw; first | (go_simp; done) | go_simp
                try simp only [Act.put, List.setIfInBounds_toArray, List.set_cons_zero, List.set_cons_succ]
                refine takeYes (i := 23) (k := 43) (v := .pointer (some ⟨bb, ox + j * 5, none⟩)) rfl (by kernel_rfl) (by kernel_rfl) (by kernel_rfl) (by kernel_rfl) (fun _ _ _ h => h) (by kernel_rfl) ?_ (Below.refl _ _) ?_
                · intro W hSw; first | (go_simp; done) | go_simp
                try simp only [Act.put, List.setIfInBounds_toArray, List.set_cons_zero, List.set_cons_succ]
                refine takeYes (i := 24) (k := 44) (v := .pointer (some ⟨bb, ox + j * 5 + 1, none⟩)) rfl (by kernel_rfl) (by kernel_rfl) (by kernel_rfl) (by kernel_rfl) (fun _ _ _ h => h) (by kernel_rfl) ?_ (Below.refl _ _) ?_
                · intro W hSw; first | (go_simp; done) | go_simp
                try simp only [Act.put, List.setIfInBounds_toArray, List.set_cons_zero, List.set_cons_succ]
                refine takeYes (i := 25) (k := 45) (v := .int .i64 pq) rfl (by kernel_rfl) (by kernel_rfl) (by kernel_rfl) (by kernel_rfl) (fun _ _ _ h => h) (by kernel_rfl) ?_ (Below.refl _ _) ?_
                · intro W hSw; obtain ⟨y0, y1⟩ := (HPE.below hSw).two; first | (go_simp; done) | go_simp
                try simp only [Act.put, List.setIfInBounds_toArray, List.set_cons_zero, List.set_cons_succ]
                refine takeYes (i := 26) (k := 46) (v := .bool true) rfl (by kernel_rfl) (by kernel_rfl) (by kernel_rfl) (by kernel_rfl) (fun _ _ _ h => h) (by kernel_rfl) ?_ (Below.refl _ _) ?_
                · intro W hSw; first | (go_simp; done) | go_simp
                try simp only [Act.put, List.setIfInBounds_toArray, List.set_cons_zero, List.set_cons_succ]
                refine takeYes (i := 27) (k := 47) (v := .bool true) rfl (by kernel_rfl) (by kernel_rfl) (by kernel_rfl) (by kernel_rfl) (fun _ _ _ h => h) (by kernel_rfl) ?_ (Below.refl _ _) ?_
                · intro W hSw; first | (go_simp; done) | go_simp
                try simp only [Act.put, List.setIfInBounds_toArray, List.set_cons_zero, List.set_cons_succ]
                refine takeYes (i := 28) (k := 48) (v := .bool true) rfl (by kernel_rfl) (by kernel_rfl) (by kernel_rfl) (by kernel_rfl) (fun _ _ _ h => h) (by kernel_rfl) ?_ (Below.refl _ _) ?_
                · intro W hSw; first | (go_simp; done) | go_simp
                try simp only [Act.put, List.setIfInBounds_toArray, List.set_cons_zero, List.set_cons_succ]
                refine wpAnyH_done (by kernel_rfl) ?_ _
                go_wp2_with fail
                go_meet
                exact ⟨rfl, Lib.hid B⟩
              · have hqq : (eq == pq) = false := by rw [beq_eq_false_iff_ne]; exact hQ
                obtain rfl : q = false := by
                  cases q with
                  | false => rfl
                  | true => exact absurd ⟨hR, fun k x h hx hh => hQ (by
                      obtain rfl : k = j := by omega
                      rw [HD.out] at hx
                      cases hx
                      rw [← HEQ.out, ← HDQ.out]; exact hh.2)⟩ (HQ.out.1 rfl)
                clear hN hQ hR
                refine wp_region_held_drew (S := Below wc.heap.size wc) (by kernel_rfl) (Below.refl _ _).drew (fun hHeld => ?_)
                generalize wc.drew = wd2 at hHeld ⊢
                refine wpAnyH_shift hHeld ?_
                replace B : Below w.heap.size w wd2 := B.trans (hHeld.mono B.size)
                replace HXB := HXB.below hHeld
                replace HPE := HPE.below hHeld
                clear hHeld
                refine takeYes (i := 0) (k := 20) (v := .agg #[.string en, .int .i64 eq, .int .i64 ek, .string es, .string ev]) rfl (by kernel_rfl) (by kernel_rfl) (by kernel_rfl) (by kernel_rfl) (fun _ _ _ h => h) (by kernel_rfl) ?_ (Below.refl _ _) ?_
                · intro W hSw; obtain ⟨x0, x1, x2, x3, x4⟩ := blk5 (HXB.below hSw); first | (go_simp; done) | go_simp
                try simp only [Act.put, List.setIfInBounds_toArray, List.set_cons_zero, List.set_cons_succ]
                refine wpAnyH_ready (rs := [1]) (by kernel_rfl) (by simp) (AllReadyH.cons rfl (fun K hK => ?_) AllReadyH.nil)
                go_simp
                refine (HIR.out _).mono ?_
                rintro e wd3 ⟨rfl, hb3⟩
                refine hK.out _ _ hb3 (fun _ => wpAnyH_shift hb3 ?_)
                clear hK K
                replace B : Below w.heap.size w wd3 := B.trans (hb3.mono B.size)
                replace HXB := HXB.below hb3
                replace HPE := HPE.below hb3
                clear hb3
                try simp only [Act.put, List.setIfInBounds_toArray, List.set_cons_zero, List.set_cons_succ]
                refine takeYes (i := 2) (k := 22) (v := .bool false) rfl (by kernel_rfl) (by kernel_rfl) (by kernel_rfl) (by kernel_rfl) (fun _ _ _ h => h) (by kernel_rfl) ?_ (Below.refl _ _) ?_
                · intro W hSw; first | (go_simp; done) | go_simp
                try simp only [Act.put, List.setIfInBounds_toArray, List.set_cons_zero, List.set_cons_succ]
                refine takeYes (i := 3) (k := 23) (v := .bool false) rfl (by kernel_rfl) (by kernel_rfl) (by kernel_rfl) (by kernel_rfl) (fun _ _ _ h => h) (by kernel_rfl) ?_ (Below.refl _ _) ?_
                · intro W hSw; first | (go_simp; done) | go_simp
                try simp only [Act.put, List.setIfInBounds_toArray, List.set_cons_zero, List.set_cons_succ]
                refine takeYes (i := 4) (k := 24) (v := .int .i64 ((j + 1 : Nat) : Int)) rfl (by kernel_rfl) (by kernel_rfl) (by kernel_rfl) (by kernel_rfl) (fun _ _ _ h => h) (by kernel_rfl) ?_ (Below.refl _ _) ?_
                · intro W hSw; first | (go_simp; done) | go_simp
                try simp only [Act.put, List.setIfInBounds_toArray, List.set_cons_zero, List.set_cons_succ]
                refine takeYes (i := 5) (k := 25) (v := .bool true) rfl (by kernel_rfl) (by kernel_rfl) (by kernel_rfl) (by kernel_rfl) (fun _ _ _ h => h) (by kernel_rfl) ?_ (Below.refl _ _) ?_
                · intro W hSw; first | (go_simp; done) | go_simp
                try simp only [Act.put, List.setIfInBounds_toArray, List.set_cons_zero, List.set_cons_succ]
                refine takeYes (i := 6) (k := 26) (v := .bool true) rfl (by kernel_rfl) (by kernel_rfl) (by kernel_rfl) (by kernel_rfl) (fun _ _ _ h => h) (by kernel_rfl) ?_ (Below.refl _ _) ?_
                · intro W hSw; first | (go_simp; done) | go_simp
                try simp only [Act.put, List.setIfInBounds_toArray, List.set_cons_zero, List.set_cons_succ]
                refine takeYes (i := 7) (k := 27) (v := .pointer (some ⟨g3, 0, none⟩)) rfl (by kernel_rfl) (by kernel_rfl) (by kernel_rfl) (by kernel_rfl) (fun _ _ _ h => h) (by kernel_rfl) ?_ (Below.refl _ _) ?_
                · intro W hSw; first | (go_simp; done) | go_simp
                try simp only [Act.put, List.setIfInBounds_toArray, List.set_cons_zero, List.set_cons_succ]
                refine takeYes (i := 8) (k := 28) (v := .string en) rfl (by kernel_rfl) (by kernel_rfl) (by kernel_rfl) (by kernel_rfl) (fun _ _ _ h => h) (by kernel_rfl) ?_ (Below.refl _ _) ?_
                · intro W hSw; obtain ⟨x0, x1, x2, x3, x4⟩ := blk5 (HXB.below hSw); first | (go_simp; done) | go_simp
                try simp only [Act.put, List.setIfInBounds_toArray, List.set_cons_zero, List.set_cons_succ]
                refine takeYes (i := 9) (k := 29) (v := .slice (some ⟨bb, ox, none⟩) len cap) rfl (by kernel_rfl) (by kernel_rfl) (by kernel_rfl) (by kernel_rfl) (fun _ _ _ h => h) (by kernel_rfl) ?_ (Below.refl _ _) ?_
                · intro W hSw; first | (go_simp; done) | go_simp
                try simp only [Act.put, List.setIfInBounds_toArray, List.set_cons_zero, List.set_cons_succ]
                refine takeYes (i := 10) (k := 30) (v := .int .i64 ((j + 1 : Nat) : Int)) rfl (by kernel_rfl) (by kernel_rfl) (by kernel_rfl) (by kernel_rfl) (fun _ _ _ h => h) (by kernel_rfl) ?_ (Below.refl _ _) ?_
                · intro W hSw; first | (go_simp; done) | go_simp
                try simp only [Act.put, List.setIfInBounds_toArray, List.set_cons_zero, List.set_cons_succ]
                refine takeYes (i := 11) (k := 31) (v := .int .i64 (j : Int)) rfl (by kernel_rfl) (by kernel_rfl) (by kernel_rfl) (by kernel_rfl) (fun _ _ _ h => h) (by kernel_rfl) ?_ (Below.refl _ _) ?_
                · intro W hSw; first | (go_simp; done) | go_simp
                try simp only [Act.put, List.setIfInBounds_toArray, List.set_cons_zero, List.set_cons_succ]
                refine takeYes (i := 12) (k := 32) (v := .pointer (some ⟨bb, ox + j * 5, none⟩)) rfl (by kernel_rfl) (by kernel_rfl) (by kernel_rfl) (by kernel_rfl) (fun _ _ _ h => h) (by kernel_rfl) ?_ (Below.refl _ _) ?_
                · intro W hSw; first | (go_simp; done) | go_simp
                try simp only [Act.put, List.setIfInBounds_toArray, List.set_cons_zero, List.set_cons_succ]
                refine takeYes (i := 13) (k := 33) (v := .pointer (some ⟨bb, ox + j * 5, none⟩)) rfl (by kernel_rfl) (by kernel_rfl) (by kernel_rfl) (by kernel_rfl) (fun _ _ _ h => h) (by kernel_rfl) ?_ (Below.refl _ _) ?_
                · intro W hSw; first | (go_simp; done) | go_simp
                try simp only [Act.put, List.setIfInBounds_toArray, List.set_cons_zero, List.set_cons_succ]
                refine takeYes (i := 14) (k := 34) (v := .string pn) rfl (by kernel_rfl) (by kernel_rfl) (by kernel_rfl) (by kernel_rfl) (fun _ _ _ h => h) (by kernel_rfl) ?_ (Below.refl _ _) ?_
                · intro W hSw; obtain ⟨y0, y1⟩ := (HPE.below hSw).two; first | (go_simp; done) | go_simp
                try simp only [Act.put, List.setIfInBounds_toArray, List.set_cons_zero, List.set_cons_succ]
                refine takeYes (i := 15) (k := 35) (v := .bool true) rfl (by kernel_rfl) (by kernel_rfl) (by kernel_rfl) (by kernel_rfl) (fun _ _ _ h => h) (by kernel_rfl) ?_ (Below.refl _ _) ?_
                · intro W hSw; first | (go_simp; done) | go_simp
                try simp only [Act.put, List.setIfInBounds_toArray, List.set_cons_zero, List.set_cons_succ]
                refine takeYes (i := 16) (k := 36) (v := .bool true) rfl (by kernel_rfl) (by kernel_rfl) (by kernel_rfl) (by kernel_rfl) (fun _ _ _ h => h) (by kernel_rfl) ?_ (Below.refl _ _) ?_
                · intro W hSw; first | (go_simp; done) | go_simp
                try simp only [Act.put, List.setIfInBounds_toArray, List.set_cons_zero, List.set_cons_succ]
                refine takeYes (i := 17) (k := 37) (v := .bool true) rfl (by kernel_rfl) (by kernel_rfl) (by kernel_rfl) (by kernel_rfl) (fun _ _ _ h => h) (by kernel_rfl) ?_ (Below.refl _ _) ?_
                · intro W hSw; first | (go_simp; done) | go_simp
                try simp only [Act.put, List.setIfInBounds_toArray, List.set_cons_zero, List.set_cons_succ]
                refine takeYes (i := 18) (k := 38) (v := .pointer (some ⟨g3, 1, none⟩)) rfl (by kernel_rfl) (by kernel_rfl) (by kernel_rfl) (by kernel_rfl) (fun _ _ _ h => h) (by kernel_rfl) ?_ (Below.refl _ _) ?_
                · intro W hSw; first | (go_simp; done) | go_simp
                try simp only [Act.put, List.setIfInBounds_toArray, List.set_cons_zero, List.set_cons_succ]
                refine takeYes (i := 19) (k := 39) (v := .int .i64 eq) rfl (by kernel_rfl) (by kernel_rfl) (by kernel_rfl) (by kernel_rfl) (fun _ _ _ h => h) (by kernel_rfl) ?_ (Below.refl _ _) ?_
                · intro W hSw; obtain ⟨x0, x1, x2, x3, x4⟩ := blk5 (HXB.below hSw); first | (go_simp; done) | go_simp
                try simp only [Act.put, List.setIfInBounds_toArray, List.set_cons_zero, List.set_cons_succ]
                refine takeYes (i := 20) (k := 40) (v := .slice (some ⟨bb, ox, none⟩) len cap) rfl (by kernel_rfl) (by kernel_rfl) (by kernel_rfl) (by kernel_rfl) (fun _ _ _ h => h) (by kernel_rfl) ?_ (Below.refl _ _) ?_
                · intro W hSw; first | (go_simp; done) | go_simp
                try simp only [Act.put, List.setIfInBounds_toArray, List.set_cons_zero, List.set_cons_succ]
                refine takeYes (i := 21) (k := 41) (v := .int .i64 ((j + 1 : Nat) : Int)) rfl (by kernel_rfl) (by kernel_rfl) (by kernel_rfl) (by kernel_rfl) (fun _ _ _ h => h) (by kernel_rfl) ?_ (Below.refl _ _) ?_
                · intro W hSw; first | (go_simp; done) | go_simp
                try simp only [Act.put, List.setIfInBounds_toArray, List.set_cons_zero, List.set_cons_succ]
                refine takeYes (i := 22) (k := 42) (v := .int .i64 (j : Int)) rfl (by kernel_rfl) (by kernel_rfl) (by kernel_rfl) (by kernel_rfl) (fun _ _ _ h => h) (by kernel_rfl) ?_ (Below.refl _ _) ?_
                · intro W hSw; first | (go_simp; done) | go_simp
                try simp only [Act.put, List.setIfInBounds_toArray, List.set_cons_zero, List.set_cons_succ]
                refine takeYes (i := 23) (k := 43) (v := .pointer (some ⟨bb, ox + j * 5, none⟩)) rfl (by kernel_rfl) (by kernel_rfl) (by kernel_rfl) (by kernel_rfl) (fun _ _ _ h => h) (by kernel_rfl) ?_ (Below.refl _ _) ?_
                · intro W hSw; first | (go_simp; done) | go_simp
                try simp only [Act.put, List.setIfInBounds_toArray, List.set_cons_zero, List.set_cons_succ]
                refine takeYes (i := 24) (k := 44) (v := .pointer (some ⟨bb, ox + j * 5 + 1, none⟩)) rfl (by kernel_rfl) (by kernel_rfl) (by kernel_rfl) (by kernel_rfl) (fun _ _ _ h => h) (by kernel_rfl) ?_ (Below.refl _ _) ?_
                · intro W hSw; first | (go_simp; done) | go_simp
                try simp only [Act.put, List.setIfInBounds_toArray, List.set_cons_zero, List.set_cons_succ]
                refine takeYes (i := 25) (k := 45) (v := .int .i64 pq) rfl (by kernel_rfl) (by kernel_rfl) (by kernel_rfl) (by kernel_rfl) (fun _ _ _ h => h) (by kernel_rfl) ?_ (Below.refl _ _) ?_
                · intro W hSw; obtain ⟨y0, y1⟩ := (HPE.below hSw).two; first | (go_simp; done) | go_simp
                try simp only [Act.put, List.setIfInBounds_toArray, List.set_cons_zero, List.set_cons_succ]
                refine takeYes (i := 26) (k := 46) (v := .bool false) rfl (by kernel_rfl) (by kernel_rfl) (by kernel_rfl) (by kernel_rfl) (fun _ _ _ h => h) (by kernel_rfl) ?_ (Below.refl _ _) ?_
                · intro W hSw; first | (go_simp; done) | go_simp
                try simp only [Act.put, List.setIfInBounds_toArray, List.set_cons_zero, List.set_cons_succ]
                refine takeYes (i := 27) (k := 47) (v := .bool false) rfl (by kernel_rfl) (by kernel_rfl) (by kernel_rfl) (by kernel_rfl) (fun _ _ _ h => h) (by kernel_rfl) ?_ (Below.refl _ _) ?_
                · intro W hSw; first | (go_simp; done) | go_simp
                try simp only [Act.put, List.setIfInBounds_toArray, List.set_cons_zero, List.set_cons_succ]
                refine takeYes (i := 28) (k := 48) (v := .bool false) rfl (by kernel_rfl) (by kernel_rfl) (by kernel_rfl) (by kernel_rfl) (fun _ _ _ h => h) (by kernel_rfl) ?_ (Below.refl _ _) ?_
                · intro W hSw; first | (go_simp; done) | go_simp
                try simp only [Act.put, List.setIfInBounds_toArray, List.set_cons_zero, List.set_cons_succ]
                refine wpAnyH_done (by kernel_rfl) ?_ _
                go_wp2_with fail
                go_meet
                exact ⟨rfl, Lib.hid B⟩
            · have hnn := bs_ne hN
              obtain rfl : q = false := by
                cases q with
                | false => rfl
                | true => exact absurd ⟨hR, fun k x h hx hh => hN (by
                    obtain rfl : k = j := by omega
                    rw [HD.out] at hx
                    cases hx
                    rw [← HEN.out, ← HDN.out]; exact hh.1)⟩ (HQ.out.1 rfl)
              clear hN hR
              refine wp_region_held_drew (S := Below wc.heap.size wc) (by kernel_rfl) (Below.refl _ _).drew (fun hHeld => ?_)
              generalize wc.drew = wd2 at hHeld ⊢
              refine wpAnyH_shift hHeld ?_
              replace B : Below w.heap.size w wd2 := B.trans (hHeld.mono B.size)
              replace HXB := HXB.below hHeld
              replace HPE := HPE.below hHeld
              clear hHeld
              refine takeYes (i := 0) (k := 20) (v := .agg #[.string en, .int .i64 eq, .int .i64 ek, .string es, .string ev]) rfl (by kernel_rfl) (by kernel_rfl) (by kernel_rfl) (by kernel_rfl) (fun _ _ _ h => h) (by kernel_rfl) ?_ (Below.refl _ _) ?_
              · intro W hSw; obtain ⟨x0, x1, x2, x3, x4⟩ := blk5 (HXB.below hSw); first | (go_simp; done) | go_simp
              try simp only [Act.put, List.setIfInBounds_toArray, List.set_cons_zero, List.set_cons_succ]
              refine wpAnyH_ready (rs := [1]) (by kernel_rfl) (by simp) (AllReadyH.cons rfl (fun K hK => ?_) AllReadyH.nil)
              go_simp
              refine (HIR.out _).mono ?_
              rintro e wd3 ⟨rfl, hb3⟩
              refine hK.out _ _ hb3 (fun _ => wpAnyH_shift hb3 ?_)
              clear hK K
              replace B : Below w.heap.size w wd3 := B.trans (hb3.mono B.size)
              replace HXB := HXB.below hb3
              replace HPE := HPE.below hb3
              clear hb3
              try simp only [Act.put, List.setIfInBounds_toArray, List.set_cons_zero, List.set_cons_succ]
              refine takeYes (i := 2) (k := 22) (v := .bool false) rfl (by kernel_rfl) (by kernel_rfl) (by kernel_rfl) (by kernel_rfl) (fun _ _ _ h => h) (by kernel_rfl) ?_ (Below.refl _ _) ?_
              · intro W hSw; first | (go_simp; done) | go_simp
              try simp only [Act.put, List.setIfInBounds_toArray, List.set_cons_zero, List.set_cons_succ]
              refine takeYes (i := 3) (k := 23) (v := .bool false) rfl (by kernel_rfl) (by kernel_rfl) (by kernel_rfl) (by kernel_rfl) (fun _ _ _ h => h) (by kernel_rfl) ?_ (Below.refl _ _) ?_
              · intro W hSw; first | (go_simp; done) | go_simp
              try simp only [Act.put, List.setIfInBounds_toArray, List.set_cons_zero, List.set_cons_succ]
              refine takeYes (i := 4) (k := 24) (v := .int .i64 ((j + 1 : Nat) : Int)) rfl (by kernel_rfl) (by kernel_rfl) (by kernel_rfl) (by kernel_rfl) (fun _ _ _ h => h) (by kernel_rfl) ?_ (Below.refl _ _) ?_
              · intro W hSw; first | (go_simp; done) | go_simp
              try simp only [Act.put, List.setIfInBounds_toArray, List.set_cons_zero, List.set_cons_succ]
              refine takeYes (i := 5) (k := 25) (v := .bool true) rfl (by kernel_rfl) (by kernel_rfl) (by kernel_rfl) (by kernel_rfl) (fun _ _ _ h => h) (by kernel_rfl) ?_ (Below.refl _ _) ?_
              · intro W hSw; first | (go_simp; done) | go_simp
              try simp only [Act.put, List.setIfInBounds_toArray, List.set_cons_zero, List.set_cons_succ]
              refine takeYes (i := 6) (k := 26) (v := .bool true) rfl (by kernel_rfl) (by kernel_rfl) (by kernel_rfl) (by kernel_rfl) (fun _ _ _ h => h) (by kernel_rfl) ?_ (Below.refl _ _) ?_
              · intro W hSw; first | (go_simp; done) | go_simp
              try simp only [Act.put, List.setIfInBounds_toArray, List.set_cons_zero, List.set_cons_succ]
              refine takeYes (i := 7) (k := 27) (v := .pointer (some ⟨g3, 0, none⟩)) rfl (by kernel_rfl) (by kernel_rfl) (by kernel_rfl) (by kernel_rfl) (fun _ _ _ h => h) (by kernel_rfl) ?_ (Below.refl _ _) ?_
              · intro W hSw; first | (go_simp; done) | go_simp
              try simp only [Act.put, List.setIfInBounds_toArray, List.set_cons_zero, List.set_cons_succ]
              refine takeYes (i := 8) (k := 28) (v := .string en) rfl (by kernel_rfl) (by kernel_rfl) (by kernel_rfl) (by kernel_rfl) (fun _ _ _ h => h) (by kernel_rfl) ?_ (Below.refl _ _) ?_
              · intro W hSw; obtain ⟨x0, x1, x2, x3, x4⟩ := blk5 (HXB.below hSw); first | (go_simp; done) | go_simp
              try simp only [Act.put, List.setIfInBounds_toArray, List.set_cons_zero, List.set_cons_succ]
              refine takeYes (i := 9) (k := 29) (v := .slice (some ⟨bb, ox, none⟩) len cap) rfl (by kernel_rfl) (by kernel_rfl) (by kernel_rfl) (by kernel_rfl) (fun _ _ _ h => h) (by kernel_rfl) ?_ (Below.refl _ _) ?_
              · intro W hSw; first | (go_simp; done) | go_simp
              try simp only [Act.put, List.setIfInBounds_toArray, List.set_cons_zero, List.set_cons_succ]
              refine takeYes (i := 10) (k := 30) (v := .int .i64 ((j + 1 : Nat) : Int)) rfl (by kernel_rfl) (by kernel_rfl) (by kernel_rfl) (by kernel_rfl) (fun _ _ _ h => h) (by kernel_rfl) ?_ (Below.refl _ _) ?_
              · intro W hSw; first | (go_simp; done) | go_simp
              try simp only [Act.put, List.setIfInBounds_toArray, List.set_cons_zero, List.set_cons_succ]
              refine takeYes (i := 11) (k := 31) (v := .int .i64 (j : Int)) rfl (by kernel_rfl) (by kernel_rfl) (by kernel_rfl) (by kernel_rfl) (fun _ _ _ h => h) (by kernel_rfl) ?_ (Below.refl _ _) ?_
              · intro W hSw; first | (go_simp; done) | go_simp
              try simp only [Act.put, List.setIfInBounds_toArray, List.set_cons_zero, List.set_cons_succ]
              refine takeYes (i := 12) (k := 32) (v := .pointer (some ⟨bb, ox + j * 5, none⟩)) rfl (by kernel_rfl) (by kernel_rfl) (by kernel_rfl) (by kernel_rfl) (fun _ _ _ h => h) (by kernel_rfl) ?_ (Below.refl _ _) ?_
              · intro W hSw; first | (go_simp; done) | go_simp
              try simp only [Act.put, List.setIfInBounds_toArray, List.set_cons_zero, List.set_cons_succ]
              refine takeYes (i := 13) (k := 33) (v := .pointer (some ⟨bb, ox + j * 5, none⟩)) rfl (by kernel_rfl) (by kernel_rfl) (by kernel_rfl) (by kernel_rfl) (fun _ _ _ h => h) (by kernel_rfl) ?_ (Below.refl _ _) ?_
              · intro W hSw; first | (go_simp; done) | go_simp
              try simp only [Act.put, List.setIfInBounds_toArray, List.set_cons_zero, List.set_cons_succ]
              refine takeYes (i := 14) (k := 34) (v := .string pn) rfl (by kernel_rfl) (by kernel_rfl) (by kernel_rfl) (by kernel_rfl) (fun _ _ _ h => h) (by kernel_rfl) ?_ (Below.refl _ _) ?_
              · intro W hSw; obtain ⟨y0, y1⟩ := (HPE.below hSw).two; first | (go_simp; done) | go_simp
              try simp only [Act.put, List.setIfInBounds_toArray, List.set_cons_zero, List.set_cons_succ]
              refine takeYes (i := 15) (k := 35) (v := .bool false) rfl (by kernel_rfl) (by kernel_rfl) (by kernel_rfl) (by kernel_rfl) (fun _ _ _ h => h) (by kernel_rfl) ?_ (Below.refl _ _) ?_
              · intro W hSw; first | (go_simp; done) | go_simp
              try simp only [Act.put, List.setIfInBounds_toArray, List.set_cons_zero, List.set_cons_succ]
              refine takeYes (i := 16) (k := 36) (v := .bool false) rfl (by kernel_rfl) (by kernel_rfl) (by kernel_rfl) (by kernel_rfl) (fun _ _ _ h => h) (by kernel_rfl) ?_ (Below.refl _ _) ?_
              · intro W hSw; first | (go_simp; done) | go_simp
              try simp only [Act.put, List.setIfInBounds_toArray, List.set_cons_zero, List.set_cons_succ]
              refine takeYes (i := 17) (k := 37) (v := .bool false) rfl (by kernel_rfl) (by kernel_rfl) (by kernel_rfl) (by kernel_rfl) (fun _ _ _ h => h) (by kernel_rfl) ?_ (Below.refl _ _) ?_
              · intro W hSw; first | (go_simp; done) | go_simp
              try simp only [Act.put, List.setIfInBounds_toArray, List.set_cons_zero, List.set_cons_succ]
              refine takeNot (i := 18) (k := 38) (by kernel_rfl) (by kernel_rfl) (by kernel_rfl) (by kernel_rfl) (fun _ _ _ h => h) (by kernel_rfl) (Below.refl _ _) ?_
              try simp only [Act.put, List.setIfInBounds_toArray, List.set_cons_zero, List.set_cons_succ]
              refine takeNot (i := 19) (k := 39) (by kernel_rfl) (by kernel_rfl) (by kernel_rfl) (by kernel_rfl) (fun _ _ _ h => h) (by kernel_rfl) (Below.refl _ _) ?_
              try simp only [Act.put, List.setIfInBounds_toArray, List.set_cons_zero, List.set_cons_succ]
              refine takeNot (i := 20) (k := 40) (by kernel_rfl) (by kernel_rfl) (by kernel_rfl) (by kernel_rfl) (fun _ _ _ h => h) (by kernel_rfl) (Below.refl _ _) ?_
              try simp only [Act.put, List.setIfInBounds_toArray, List.set_cons_zero, List.set_cons_succ]
              refine takeNot (i := 21) (k := 41) (by kernel_rfl) (by kernel_rfl) (by kernel_rfl) (by kernel_rfl) (fun _ _ _ h => h) (by kernel_rfl) (Below.refl _ _) ?_
              try simp only [Act.put, List.setIfInBounds_toArray, List.set_cons_zero, List.set_cons_succ]
              refine takeNot (i := 22) (k := 42) (by kernel_rfl) (by kernel_rfl) (by kernel_rfl) (by kernel_rfl) (fun _ _ _ h => h) (by kernel_rfl) (Below.refl _ _) ?_
              try simp only [Act.put, List.setIfInBounds_toArray, List.set_cons_zero, List.set_cons_succ]
              refine takeNot (i := 23) (k := 43) (by kernel_rfl) (by kernel_rfl) (by kernel_rfl) (by kernel_rfl) (fun _ _ _ h => h) (by kernel_rfl) (Below.refl _ _) ?_
              try simp only [Act.put, List.setIfInBounds_toArray, List.set_cons_zero, List.set_cons_succ]
              refine takeNot (i := 24) (k := 44) (by kernel_rfl) (by kernel_rfl) (by kernel_rfl) (by kernel_rfl) (fun _ _ _ h => h) (by kernel_rfl) (Below.refl _ _) ?_
              try simp only [Act.put, List.setIfInBounds_toArray, List.set_cons_zero, List.set_cons_succ]
              refine takeNot (i := 25) (k := 45) (by kernel_rfl) (by kernel_rfl) (by kernel_rfl) (by kernel_rfl) (fun _ _ _ h => h) (by kernel_rfl) (Below.refl _ _) ?_
              try simp only [Act.put, List.setIfInBounds_toArray, List.set_cons_zero, List.set_cons_succ]
              refine takeNot (i := 26) (k := 46) (by kernel_rfl) (by kernel_rfl) (by kernel_rfl) (by kernel_rfl) (fun _ _ _ h => h) (by kernel_rfl) (Below.refl _ _) ?_
              try simp only [Act.put, List.setIfInBounds_toArray, List.set_cons_zero, List.set_cons_succ]
              refine takeYes (i := 27) (k := 47) (v := .bool false) rfl (by kernel_rfl) (by kernel_rfl) (by kernel_rfl) (by kernel_rfl) (fun _ _ _ h => h) (by kernel_rfl) ?_ (Below.refl _ _) ?_
              · intro W hSw; first | (go_simp; done) | go_simp
              try simp only [Act.put, List.setIfInBounds_toArray, List.set_cons_zero, List.set_cons_succ]
              refine takeYes (i := 28) (k := 48) (v := .bool false) rfl (by kernel_rfl) (by kernel_rfl) (by kernel_rfl) (by kernel_rfl) (fun _ _ _ h => h) (by kernel_rfl) ?_ (Below.refl _ _) ?_
              · intro W hSw; first | (go_simp; done) | go_simp
              try simp only [Act.put, List.setIfInBounds_toArray, List.set_cons_zero, List.set_cons_succ]
              refine wpAnyH_done (by kernel_rfl) ?_ _
              go_wp2_with fail
              go_meet
              exact ⟨rfl, Lib.hid B⟩
        · have HIR := Lib.hid (HIN.out hR)
          obtain rfl : q = true := HQ.out.2 fun h => hR h.1
          clear HIY HIN hR
          refine wp_region_held_drew (S := Below wc.heap.size wc) (by kernel_rfl) (Below.refl _ _).drew (fun hHeld => ?_)
          generalize wc.drew = wd2 at hHeld ⊢
          refine wpAnyH_shift hHeld ?_
          replace B : Below w.heap.size w wd2 := B.trans (hHeld.mono B.size)
          replace HXB := HXB.below hHeld
          clear hHeld
          refine takeYes (i := 0) (k := 20) (v := .agg #[.string en, .int .i64 eq, .int .i64 ek, .string es, .string ev]) rfl (by kernel_rfl) (by kernel_rfl) (by kernel_rfl) (by kernel_rfl) (fun _ _ _ h => h) (by kernel_rfl) ?_ (Below.refl _ _) ?_
          · intro W hSw; obtain ⟨x0, x1, x2, x3, x4⟩ := blk5 (HXB.below hSw); first | (go_simp; done) | go_simp
          try simp only [Act.put, List.setIfInBounds_toArray, List.set_cons_zero, List.set_cons_succ]
          refine wpAnyH_ready (rs := [1]) (by kernel_rfl) (by simp) (AllReadyH.cons rfl (fun K hK => ?_) AllReadyH.nil)
          go_simp
          refine (HIR.out _).mono ?_
          rintro e wd3 ⟨rfl, hb3⟩
          refine hK.out _ _ hb3 (fun _ => wpAnyH_shift hb3 ?_)
          clear hK K
          replace B : Below w.heap.size w wd3 := B.trans (hb3.mono B.size)
          replace HXB := HXB.below hb3
          clear hb3
          try simp only [Act.put, List.setIfInBounds_toArray, List.set_cons_zero, List.set_cons_succ]
          refine takeYes (i := 2) (k := 22) (v := .bool true) rfl (by kernel_rfl) (by kernel_rfl) (by kernel_rfl) (by kernel_rfl) (fun _ _ _ h => h) (by kernel_rfl) ?_ (Below.refl _ _) ?_
          · intro W hSw; first | (go_simp; done) | go_simp
          try simp only [Act.put, List.setIfInBounds_toArray, List.set_cons_zero, List.set_cons_succ]
          refine takeYes (i := 3) (k := 23) (v := .bool true) rfl (by kernel_rfl) (by kernel_rfl) (by kernel_rfl) (by kernel_rfl) (fun _ _ _ h => h) (by kernel_rfl) ?_ (Below.refl _ _) ?_
          · intro W hSw; first | (go_simp; done) | go_simp
          try simp only [Act.put, List.setIfInBounds_toArray, List.set_cons_zero, List.set_cons_succ]
          refine takeNot (i := 4) (k := 24) (by kernel_rfl) (by kernel_rfl) (by kernel_rfl) (by kernel_rfl) (fun _ _ _ h => h) (by kernel_rfl) (Below.refl _ _) ?_
          try simp only [Act.put, List.setIfInBounds_toArray, List.set_cons_zero, List.set_cons_succ]
          refine takeNot (i := 5) (k := 25) (by kernel_rfl) (by kernel_rfl) (by kernel_rfl) (by kernel_rfl) (fun _ _ _ h => h) (by kernel_rfl) (Below.refl _ _) ?_
          try simp only [Act.put, List.setIfInBounds_toArray, List.set_cons_zero, List.set_cons_succ]
          refine takeNot (i := 6) (k := 26) (by kernel_rfl) (by kernel_rfl) (by kernel_rfl) (by kernel_rfl) (fun _ _ _ h => h) (by kernel_rfl) (Below.refl _ _) ?_
          try simp only [Act.put, List.setIfInBounds_toArray, List.set_cons_zero, List.set_cons_succ]
          refine takeNot (i := 7) (k := 27) (by kernel_rfl) (by kernel_rfl) (by kernel_rfl) (by kernel_rfl) (fun _ _ _ h => h) (by kernel_rfl) (Below.refl _ _) ?_
          try simp only [Act.put, List.setIfInBounds_toArray, List.set_cons_zero, List.set_cons_succ]
          refine takeNot (i := 8) (k := 28) (by kernel_rfl) (by kernel_rfl) (by kernel_rfl) (by kernel_rfl) (fun _ _ _ h => h) (by kernel_rfl) (Below.refl _ _) ?_
          try simp only [Act.put, List.setIfInBounds_toArray, List.set_cons_zero, List.set_cons_succ]
          refine takeNot (i := 9) (k := 29) (by kernel_rfl) (by kernel_rfl) (by kernel_rfl) (by kernel_rfl) (fun _ _ _ h => h) (by kernel_rfl) (Below.refl _ _) ?_
          try simp only [Act.put, List.setIfInBounds_toArray, List.set_cons_zero, List.set_cons_succ]
          refine takeNot (i := 10) (k := 30) (by kernel_rfl) (by kernel_rfl) (by kernel_rfl) (by kernel_rfl) (fun _ _ _ h => h) (by kernel_rfl) (Below.refl _ _) ?_
          try simp only [Act.put, List.setIfInBounds_toArray, List.set_cons_zero, List.set_cons_succ]
          refine takeNot (i := 11) (k := 31) (by kernel_rfl) (by kernel_rfl) (by kernel_rfl) (by kernel_rfl) (fun _ _ _ h => h) (by kernel_rfl) (Below.refl _ _) ?_
          try simp only [Act.put, List.setIfInBounds_toArray, List.set_cons_zero, List.set_cons_succ]
          refine takeNot (i := 12) (k := 32) (by kernel_rfl) (by kernel_rfl) (by kernel_rfl) (by kernel_rfl) (fun _ _ _ h => h) (by kernel_rfl) (Below.refl _ _) ?_
          try simp only [Act.put, List.setIfInBounds_toArray, List.set_cons_zero, List.set_cons_succ]
          refine takeNot (i := 13) (k := 33) (by kernel_rfl) (by kernel_rfl) (by kernel_rfl) (by kernel_rfl) (fun _ _ _ h => h) (by kernel_rfl) (Below.refl _ _) ?_
          try simp only [Act.put, List.setIfInBounds_toArray, List.set_cons_zero, List.set_cons_succ]
          refine takeNot (i := 14) (k := 34) (by kernel_rfl) (by kernel_rfl) (by kernel_rfl) (by kernel_rfl) (fun _ _ _ h => h) (by kernel_rfl) (Below.refl _ _) ?_
          try simp only [Act.put, List.setIfInBounds_toArray, List.set_cons_zero, List.set_cons_succ]
          refine takeNot (i := 15) (k := 35) (by kernel_rfl) (by kernel_rfl) (by kernel_rfl) (by kernel_rfl) (fun _ _ _ h => h) (by kernel_rfl) (Below.refl _ _) ?_
          try simp only [Act.put, List.setIfInBounds_toArray, List.set_cons_zero, List.set_cons_succ]
          refine takeNot (i := 16) (k := 36) (by kernel_rfl) (by kernel_rfl) (by kernel_rfl) (by kernel_rfl) (fun _ _ _ h => h) (by kernel_rfl) (Below.refl _ _) ?_
          try simp only [Act.put, List.setIfInBounds_toArray, List.set_cons_zero, List.set_cons_succ]
          refine takeNot (i := 17) (k := 37) (by kernel_rfl) (by kernel_rfl) (by kernel_rfl) (by kernel_rfl) (fun _ _ _ h => h) (by kernel_rfl) (Below.refl _ _) ?_
          try simp only [Act.put, List.setIfInBounds_toArray, List.set_cons_zero, List.set_cons_succ]
          refine takeNot (i := 18) (k := 38) (by kernel_rfl) (by kernel_rfl) (by kernel_rfl) (by kernel_rfl) (fun _ _ _ h => h) (by kernel_rfl) (Below.refl _ _) ?_
          try simp only [Act.put, List.setIfInBounds_toArray, List.set_cons_zero, List.set_cons_succ]
          refine takeNot (i := 19) (k := 39) (by kernel_rfl) (by kernel_rfl) (by kernel_rfl) (by kernel_rfl) (fun _ _ _ h => h) (by kernel_rfl) (Below.refl _ _) ?_
          try simp only [Act.put, List.setIfInBounds_toArray, List.set_cons_zero, List.set_cons_succ]
          refine takeNot (i := 20) (k := 40) (by kernel_rfl) (by kernel_rfl) (by kernel_rfl) (by kernel_rfl) (fun _ _ _ h => h) (by kernel_rfl) (Below.refl _ _) ?_
          try simp only [Act.put, List.setIfInBounds_toArray, List.set_cons_zero, List.set_cons_succ]
          refine takeNot (i := 21) (k := 41) (by kernel_rfl) (by kernel_rfl) (by kernel_rfl) (by kernel_rfl) (fun _ _ _ h => h) (by kernel_rfl) (Below.refl _ _) ?_
          try simp only [Act.put, List.setIfInBounds_toArray, List.set_cons_zero, List.set_cons_succ]
          refine takeNot (i := 22) (k := 42) (by kernel_rfl) (by kernel_rfl) (by kernel_rfl) (by kernel_rfl) (fun _ _ _ h => h) (by kernel_rfl) (Below.refl _ _) ?_
          try simp only [Act.put, List.setIfInBounds_toArray, List.set_cons_zero, List.set_cons_succ]
          refine takeNot (i := 23) (k := 43) (by kernel_rfl) (by kernel_rfl) (by kernel_rfl) (by kernel_rfl) (fun _ _ _ h => h) (by kernel_rfl) (Below.refl _ _) ?_
          try simp only [Act.put, List.setIfInBounds_toArray, List.set_cons_zero, List.set_cons_succ]
          refine takeNot (i := 24) (k := 44) (by kernel_rfl) (by kernel_rfl) (by kernel_rfl) (by kernel_rfl) (fun _ _ _ h => h) (by kernel_rfl) (Below.refl _ _) ?_
          try simp only [Act.put, List.setIfInBounds_toArray, List.set_cons_zero, List.set_cons_succ]
          refine takeNot (i := 25) (k := 45) (by kernel_rfl) (by kernel_rfl) (by kernel_rfl) (by kernel_rfl) (fun _ _ _ h => h) (by kernel_rfl) (Below.refl _ _) ?_
          try simp only [Act.put, List.setIfInBounds_toArray, List.set_cons_zero, List.set_cons_succ]
          refine takeNot (i := 26) (k := 46) (by kernel_rfl) (by kernel_rfl) (by kernel_rfl) (by kernel_rfl) (fun _ _ _ h => h) (by kernel_rfl) (Below.refl _ _) ?_
          try simp only [Act.put, List.setIfInBounds_toArray, List.set_cons_zero, List.set_cons_succ]
          refine takeNot (i := 27) (k := 47) (by kernel_rfl) (by kernel_rfl) (by kernel_rfl) (by kernel_rfl) (fun _ _ _ h => h) (by kernel_rfl) (Below.refl _ _) ?_
          try simp only [Act.put, List.setIfInBounds_toArray, List.set_cons_zero, List.set_cons_succ]
          refine takeYes (i := 28) (k := 48) (v := .bool true) rfl (by kernel_rfl) (by kernel_rfl) (by kernel_rfl) (by kernel_rfl) (fun _ _ _ h => h) (by kernel_rfl) ?_ (Below.refl _ _) ?_
          · intro W hSw; first | (go_simp; done) | go_simp
          try simp only [Act.put, List.setIfInBounds_toArray, List.set_cons_zero, List.set_cons_succ]
          refine wpAnyH_done (by kernel_rfl) ?_ _
          go_wp2_with fail
          go_meet
          exact ⟨rfl, Lib.hid B⟩
      case rest =>
      obtain ⟨rfl, HB4⟩ := hcut
      clear HXB0 HB3 HIY HIN
      cases q with
      | true =>
        have HQ1 := Lib.hid (HQ.out.1 rfl)
        clear HQ
        go_wp2_with fail
        go_ret
        exact ⟨false, rfl, ⟨fun k => Bool.noConfusion k, fun k => (HQ1.out (k.2.2 i e HE.out)).elim⟩, HB4.out⟩
      | false =>
        have HST2 : Hid (∀ j e, j < i + 1 → l[j]? = some e → StepOk l j e) := Lib.hid fun j x hj hx => by
          rcases Nat.lt_or_ge j i with h | h
          · exact HST.out j x h hx
          · obtain rfl : j = i := by omega
            rw [HE.out] at hx
            cases hx
            exact Classical.byContradiction fun h => Bool.noConfusion (HQ.out.2 h)
        go_wp2_with fail
        go_roundg (len - (i + 1))
        case measure => omega
        case rel => exact ⟨i + 1, by go_num, by omega, Nat.le_refl _, HST2, HB4⟩
    · obtain rfl : i = len := by omega
      have hi1 : ¬ (i : Int) < (i : Int) := by omega
      go_wp2_with fail
      go_ret
      exact ⟨true, rfl, ⟨fun _ => ⟨HL0.out, HQS.out, fun j e hj => HST.out j e (by rw [HLN.out]; exact (List.getElem?_eq_some_iff.1 hj).1) hj⟩, fun _ => rfl⟩, HB.out⟩
end Go.Proofs.YtennpdhnjaemeaaDoor
/- The walk of table's norms. -/
namespace Go.Proofs.YtennpdhnjaemeaaDoor
set_option linter.unusedVariables false
set_option maxRecDepth 100000
open Go.RowKit
/-- Each norm, as norms tells them. -/
structure NormsOf (l : List Ent) (ss : List ByteArray) : Prop where
  len : ss.length ≤ l.length
  from' : ∀ s ∈ ss, ∃ e ∈ l, e.norm = s
  all : ∀ e ∈ l, e.norm ∈ ss
def NormsRes (l : List Ent) (w : World) (en : Ending) (w' : World) : Prop := ∃ v ss, en = .returned v ∧ NormsOf l ss ∧ RdV w' v (ss.map Value.string) ∧ Below w.heap.size w w'
set_option maxHeartbeats 16000000 in
theorem norms_any (v : Value) (l : List Ent) (hl : l.length ≤ 1000000) (w : World) (hv : RdK encEnt 5 w v l) : Calls Tryd.prog 34 #[v] w (NormsRes l w) := by
  obtain ⟨a, len, cap, rfl, hlen⟩ := rdK_len hv
  have HRD := Lib.hid hv
  have HLN := Lib.hid hlen
  have hlm : len ≤ 1000000 := by omega
  clear hv hlen hl
  go_enter Tryd.func34, Tryd.ntmps34
  go_wp2_with fail
  go_loopg [3, 8] len (fun kk v3 vi wr => ∃ (i n3 c3 : Nat) (a3 : Option Addr) (ss : List ByteArray), vi = .int .i64 (i : Int) ∧ v3 = .slice a3 n3 c3 ∧ i ≤ len ∧ len - i ≤ kk ∧ n3 ≤ i ∧ Hid (n3 = ss.length) ∧ Hid (OwnV 9 w.heap.size wr (.slice a3 n3 c3) (ss.map Value.string)) ∧ Hid (∀ s ∈ ss, ∃ e ∈ l, e.norm = s) ∧ Hid (∀ j e, j < i → l[j]? = some e → e.norm ∈ ss) ∧ Hid (Below w.heap.size w wr))
  case atStart => exact ⟨0, 0, 0, none, [], rfl, rfl, by omega, by omega, by omega, Lib.hid rfl, Lib.hid (OwnV.nil _ _ _), Lib.hid (fun s h => (List.not_mem_nil h).elim), Lib.hid (fun j e h => by omega), Lib.hid (Below.refl _ _)⟩
  case round =>
    obtain ⟨i, n3, c3, a3, ss, rfl, rfl, hi, hik, hn3, HN3, HO, HFR, HAL, HB⟩ := hrel
    by_cases h1 : i < len
    · have hi1 : (i : Int) < (len : Int) := by omega
      have hi0 : (0 : Int) ≤ (i : Int) := by omega
      obtain ⟨e, he⟩ : ∃ e, l[i]? = some e := ⟨l[i]'(by have := HLN.out; omega), List.getElem?_eq_getElem _⟩
      have HE := Lib.hid he
      obtain ⟨bb, ox, rfl, hblt, d0, d1, d2, d3, d4⟩ := (HRD.out.below HB.out).at5 HLN.out i e he
      obtain ⟨en, hen⟩ : ∃ x, e.norm = x := ⟨_, rfl⟩
      obtain ⟨eq, heq⟩ : ∃ x, e.seq = x := ⟨_, rfl⟩
      obtain ⟨ek, hek⟩ : ∃ x, e.kind = x := ⟨_, rfl⟩
      obtain ⟨es, hes⟩ : ∃ x, e.spell = x := ⟨_, rfl⟩
      obtain ⟨ev, hev⟩ : ∃ x, e.val = x := ⟨_, rfl⟩
      rw [hen] at d0
      rw [heq] at d1
      rw [hek] at d2
      rw [hes] at d3
      rw [hev] at d4
      have HEN := Lib.hid hen
      clear he hen heq hek hes hev
      go_upto_region 5 with fail
      have hbk : BlkAt (wr.alloc (.cells #[.string en, .int .i64 eq, .int .i64 ek, .string es, .string ev] 39)) wr.heap.size #[.string en, .int .i64 eq, .int .i64 ek, .string es, .string ev] 39 := BlkAt.new _ _ _
      have hb3 := HB.out.alloc HB.out.size (.cells #[.string en, .int .i64 eq, .int .i64 ek, .string es, .string ev] 39)
      have ho3 := OwnV.below HO.out ((Below.refl _ wr).alloc (Nat.le_refl _) (.cells #[.string en, .int .i64 eq, .int .i64 ek, .string es, .string ev] 39))
      obtain ⟨g3, hg3⟩ : ∃ g3, wr.heap.size = g3 := ⟨_, rfl⟩
      rw [hg3] at hbk ⊢
      obtain ⟨wa, hwa⟩ : ∃ wa, wr.alloc (.cells #[.string en, .int .i64 eq, .int .i64 ek, .string es, .string ev] 39) = wa := ⟨_, rfl⟩
      rw [hwa] at hbk hb3 ho3 ⊢
      have HXB := Lib.hid hbk
      have HB3 := Lib.hid hb3
      have HO3 := Lib.hid ho3
      clear hbk hb3 ho3 hwa hg3 d0 d1 d2 d3 d4 HB HO hblt
      obtain ⟨q, hq⟩ : ∃ q : Bool, q = true ↔ ∀ j d, i = j + 1 → l[j]? = some d → d.norm ≠ e.norm := ⟨@decide (∀ j d, i = j + 1 → l[j]? = some d → d.norm ≠ e.norm) (Classical.propDecidable _), by simp⟩
      have HQ := Lib.hid hq
      clear hq
      go_cut [25] (fun c wx => c = .bool q ∧ Hid (Below wa.heap.size wa wx))
      case first =>
        as_aux_lemma =>
        obtain ⟨x0, x1, x2, x3, x4⟩ := blk5 HXB.out
        clear x1 x2 x3 x4
        rcases Nat.eq_zero_or_pos i with h0 | h0
        · subst h0
          obtain rfl : q = true := HQ.out.2 fun j d h => by omega
          clear HQ
          go_quiet (fail)
          go_wp2_with fail
          go_meet
          exact ⟨rfl, Lib.hid (DrN.below ⟨nq, rfl⟩ _)⟩
        · obtain ⟨j, hji⟩ : ∃ j, i = j + 1 := ⟨i - 1, by omega⟩
          obtain ⟨d, hd⟩ : ∃ d, l[j]? = some d := ⟨l[j]'(by have := HLN.out; omega), List.getElem?_eq_getElem _⟩
          obtain ⟨bx, oo, ebx, hblt2, p0, p1, p2, p3, p4⟩ := (HRD.out.below HB3.out).at5 HLN.out j d hd
          cases ebx
          obtain ⟨pn, hpn⟩ : ∃ x, d.norm = x := ⟨_, rfl⟩
          have HD := Lib.hid hd
          have HDN := Lib.hid hpn
          have HJI := Lib.hid hji
          rw [hpn] at p0
          have hj : (i : Int) - 1 = (j : Int) := by omega
          have hj0 : (0 : Int) ≤ (j : Int) := by omega
          have hjl : (j : Int) < (len : Int) := by omega
          have hjz : ((i : Int) == 0) = false := by rw [beq_eq_false_iff_ne]; omega
          clear hd p1 p2 p3 p4 hpn hji h0
          by_cases hN : en = pn
          · have hnn : (en.toList == pn.toList) = true := by rw [hN]; exact bs_refl pn
            obtain rfl : q = false := by
              cases q with
              | false => rfl
              | true => exact absurd (by rw [HDN.out, HEN.out]; exact hN.symm) (HQ.out.1 rfl j d HJI.out HD.out)
            clear hN HQ
            go_quiet (fail)
            go_wp2_with fail
            go_meet
            exact ⟨rfl, Lib.hid (DrN.below ⟨nq, rfl⟩ _)⟩
          · have hnn := bs_ne hN
            obtain rfl : q = true := HQ.out.2 fun k x h hx hh => by
              obtain rfl : k = j := by have := HJI.out; omega
              rw [HD.out] at hx
              cases hx
              exact hN (by rw [← HEN.out, ← HDN.out]; exact hh.symm)
            clear hN HQ
            go_quiet (fail)
            go_wp2_with fail
            go_meet
            exact ⟨rfl, Lib.hid (DrN.below ⟨nq, rfl⟩ _)⟩
      case rest =>
      obtain ⟨rfl, HU⟩ := hcut
      have HB4 := Lib.hid (HB3.out.trans (HU.out.mono HB3.out.size))
      have HO4 := Lib.hid (OwnV.below HO3.out HU.out)
      have hxb := HXB.out.below HU.out
      clear HB3 HO3 HU HXB
      cases q with
      | true =>
        have x0 : wc.cell? ⟨g3, 0, none⟩ = some (.string en) := hxb.at 0
        have hwz := HB4.out.size
        have HFR2 : Hid (∀ s ∈ ss ++ [en], ∃ e ∈ l, e.norm = s) := Lib.hid fun s hs => by
          rcases List.mem_append.1 hs with h | h
          · exact HFR.out s h
          · rw [List.mem_singleton.1 h]; exact ⟨e, List.mem_of_getElem? HE.out, HEN.out⟩
        have HAL2 : Hid (∀ j e, j < i + 1 → l[j]? = some e → e.norm ∈ ss ++ [en]) := Lib.hid fun j x hj hx => by
          rcases Nat.lt_or_ge j i with h | h
          · exact List.mem_append_left _ (HAL.out j x h hx)
          · obtain rfl : j = i := by omega
            rw [HE.out] at hx
            cases hx
            rw [HEN.out]; simp
        have hsl : ss.length = n3 := HN3.out.symm
        clear hxb HFR HAL
        go_wp2_with (at_builtin; refine wp_appH elem_text _ _ (by rfl) (by rfl) (by rfl) HO4.out [.string en] 1 _ rfl (by rfl) ?c1 (by decide) ?c2 ?c3 ?c4 ?c5 ?_)
        case c1 => rfl
        case c2 => first | exact one_text _ | rfl
        case c3 => first | (rw [List.length_map, hsl]; omega) | omega
        case c4 => first | (rw [List.length_map, hsl]; simp [maxLen]; omega) | (simp [maxLen]; omega)
        try case c5 => exact hwz
        intro v' w3 ho3 hb3
        have ho4 : OwnV 9 w.heap.size w3 v' ((ss ++ [en]).map Value.string) := by rw [List.map_append]; exact ho3
        obtain ⟨a4, c4, rfl⟩ : ∃ a4 c4, v' = .slice a4 (n3 + 1) c4 := by
          rcases OwnV.nilOr ho3 with ⟨-, e⟩ | ⟨g, c3, e, -⟩
          · simp at e
          · rw [List.length_append, List.length_map, hsl] at e
            exact ⟨_, _, e⟩
        have HO5 := Lib.hid ho4
        have HB5 := Lib.hid (HB4.out.trans hb3)
        have HN5 : Hid (n3 + 1 = (ss ++ [en]).length) := Lib.hid (by rw [List.length_append, List.length_singleton, hsl])
        clear ho3 ho4 hb3 HO4 HB4 x0 hwz hsl
        go_wp2_with fail
        go_roundg (len - (i + 1))
        case measure => omega
        case rel => exact ⟨i + 1, n3 + 1, c4, a4, ss ++ [en], by go_num, rfl, by omega, Nat.le_refl _, by omega, HN5, HO5, HFR2, HAL2, HB5⟩
      | false =>
        have HAL2 : Hid (∀ j e, j < i + 1 → l[j]? = some e → e.norm ∈ ss) := Lib.hid fun j x hj hx => by
          rcases Nat.lt_or_ge j i with h | h
          · exact HAL.out j x h hx
          · obtain rfl : j = i := by omega
            rw [HE.out] at hx
            cases hx
            have h1 : ¬ ∀ k d, j = k + 1 → l[k]? = some d → d.norm ≠ e.norm := fun h => Bool.noConfusion (HQ.out.2 h)
            rcases Nat.eq_zero_or_pos j with h0 | h0
            · exact absurd (fun k d h => by omega) h1
            · obtain ⟨k, rfl⟩ : ∃ k, j = k + 1 := ⟨j - 1, by omega⟩
              refine Classical.byContradiction fun h2 => h1 fun m d hm hd hh => h2 ?_
              obtain rfl : m = k := by omega
              rw [← hh]
              exact HAL.out m d (by omega) hd
        clear hxb HAL
        go_wp2_with fail
        go_roundg (len - (i + 1))
        case measure => omega
        case rel => exact ⟨i + 1, n3, c3, a3, ss, by go_num, rfl, by omega, Nat.le_refl _, by omega, HN3, HO4, HFR, HAL2, HB4⟩
    · obtain rfl : i = len := by omega
      have hi1 : ¬ (i : Int) < (i : Int) := by omega
      go_wp2_with fail
      go_ret
      refine ⟨_, ss, rfl, ⟨?_, HFR.out, fun e he => ?_⟩, OwnV.rd HO.out, HB.out⟩
      · rw [← HN3.out, ← HLN.out]; exact hn3
      · obtain ⟨j, hj⟩ := List.mem_iff_getElem?.1 he
        exact HAL.out j e (by rw [HLN.out]; exact (List.getElem?_eq_some_iff.1 hj).1) hj
end Go.Proofs.YtennpdhnjaemeaaDoor
/- The walk of table's putBlock: the first entries of a row, as a block. -/
namespace Go.Proofs.YtennpdhnjaemeaaDoor
set_option linter.unusedVariables false
set_option maxRecDepth 100000
open Go.RowKit
theorem putver_any (e : Ent) (h : RightE e) (hf : FitE 1000000 e) (w : World) : Calls Tryd.prog 52 #[.agg #[.string e.norm, .int .i64 e.seq, .int .i64 e.kind, .string e.spell, .string e.val]] w (MkB (verB e) w) := by
  have H := putver_raw e.norm e.seq.toNat e.kind.toNat e.spell e.val (by have := h.seq2; omega) (by rcases h.kind with k | ⟨k, -⟩ <;> rw [k] <;> decide) (by have := hf.spell; omega) (by have := hf.val; omega) w
  have h3 : (e.seq.toNat : Int) = e.seq := Int.toNat_of_nonneg (by have := h.seq1; omega)
  have h4 : (e.kind.toNat : Int) = e.kind := by rcases h.kind with k | ⟨k, -⟩ <;> rw [k] <;> rfl
  rwa [h3, h4] at H
/-- What putBlock tells. -/
def PutBRes (l : List Ent) (w : World) (e : Ending) (w' : World) : Prop := ∃ u gs, e = .returned (.tuple #[u, .int .i64 (gs.flatten.length : Int)]) ∧ OwnB w.heap.size w' u (blockB (gs.map rowE)) ∧ PcOk gs ∧ gs.flatten = l.take gs.flatten.length ∧ FewB gs.flatten ∧ Below w.heap.size w w'
set_option maxHeartbeats 16000000 in
theorem putblk_any (v : Value) (l : List Ent) (hs : srtB l = true) (hr : ∀ e ∈ l, RightE e ∧ FitE 1000000 e) (hne : l ≠ []) (hl : l.length ≤ 1000000) (w : World) (hv : RdK encEnt 5 w v l) :
    Calls Tryd.prog 29 #[v] w (PutBRes l w) := by
  obtain ⟨a, len, cap, rfl, hlen⟩ := rdK_len hv
  have HS : Hid (srtB l = true) := Lib.hid hs
  have HRI := Lib.hid hr
  have HRD := Lib.hid hv
  have HLN := Lib.hid hlen
  have hlm : len ≤ 1000000 := by omega
  have hl0 : 0 < len := by
    cases l with
    | nil => exact absurd rfl hne
    | cons x y => rw [hlen, List.length_cons]; omega
  have HNB := Lib.hid (bkNew_own (Below.refl w.heap.size w))
  clear hs hr hv hlen hl hne
  go_enter Tryd.func29, Tryd.ntmps29
  go_wp2_with fail
  refine HNB.out.mono ?_
  rintro e w1 ⟨rfl, o1, b1⟩
  have HO1 := Lib.hid o1
  clear o1 b1 HNB
  generalize w.heap.size = b at *
  have HW := Lib.hid HO1.out.1
  go_wp2_with fail
  go_loopg [5] len (fun kk vn wr => ∃ (n : Nat) (gs : List (List Ent)), vn = .int .i64 (n : Int) ∧ n ≤ len ∧ len - n ≤ kk ∧ Hid (n = gs.flatten.length) ∧ Hid (gs.flatten = l.take n) ∧ Hid (∀ g ∈ gs, OneN g) ∧ Hid (FewB gs.flatten) ∧ Hid (BdOwn w wr b (gs.map rowE)) ∧ Hid (∀ e, l[n]? = some e → (blockB (gs.map rowE)).length < 200 → addOk (gs.map rowE) e.norm.data.toList))
  case atStart => exact ⟨0, [], rfl, by omega, by omega, Lib.hid rfl, Lib.hid (by simp), Lib.hid (fun g hg => (List.not_mem_nil hg).elim), Lib.hid (by unfold FewB; decide), HO1, Lib.hid (fun e _ _ => .inl rfl)⟩
  case round =>
    clear HO1 HW
    obtain ⟨n, gs, rfl, hn, hnk, HNQ, HTK, HON, HFW, HO, HNX⟩ := hrel
    have HFI : Hid (∀ e ∈ gs.flatten, RightE e ∧ FitE 1000000 e) := Lib.hid fun e he => HRI.out e (List.mem_of_mem_take (by rw [← HTK.out]; exact he))
    have HBF : Hid ((bodyB 0 [] (gs.map rowE)).length ≤ 400000000) := Lib.hid (body_fit HON.out HFW.out fun e he => (HFI.out e he).2)
    have HSZ := Lib.hid (fun W (h : BdOwn w W b (gs.map rowE)) => size_own h (by have := HBF.out; omega))
    obtain ⟨S, hS⟩ : ∃ S, (blockB (gs.map rowE)).length = S := ⟨_, rfl⟩
    have HSQ := Lib.hid hS
    rw [hS] at HSZ
    clear hS
    by_cases hc : n < len ∧ S < 200
    · obtain ⟨h1, h2⟩ := hc
      have h1' : (n : Int) < (len : Int) := by omega
      have h2' : (S : Int) < 200 := by omega
      have hn0 : (0 : Int) ≤ (n : Int) := by omega
      obtain ⟨e0, he0⟩ : ∃ e, l[n]? = some e := ⟨l[n]'(by have := HLN.out; omega), List.getElem?_eq_getElem _⟩
      have HE0 := Lib.hid he0
      clear he0
      have HS0 := Lib.hid (HSZ.out _ HO.out)
      go_wp2_with fail
      refine HS0.out.mono ?_
      rintro e w2 ⟨rfl, d2⟩
      have HO2 := Lib.hid (HO.out.below (d2.below _))
      clear d2 HS0 HO
      obtain ⟨bb, oo, rfl, hblt, d0, d1, d2, d3, d4⟩ := (HRD.out.below HO2.out.1).at5 HLN.out n e0 HE0.out
      obtain ⟨nm, hnm⟩ : ∃ nm, e0.norm = nm := ⟨_, rfl⟩
      rw [hnm] at d0
      have HNM := Lib.hid hnm
      clear hnm d1 d2 d3 d4
      go_wp2_with fail
      clear d0
      go_loopg [5, 7] (len + 1) (fun kk vn vv wr => ∃ (m : Nat) (g : List Ent) (a7 : Option Addr) (n7 c7 : Nat), vn = .int .i64 (m : Int) ∧ vv = .slice a7 n7 c7 ∧ m ≤ len ∧ len + 1 - m ≤ kk ∧ n ≤ m ∧ Hid (m = gs.flatten.length + g.length) ∧ Hid (gs.flatten ++ g = l.take m) ∧ Hid (∀ x ∈ g, x.norm = nm) ∧ Hid (FewB (gs.flatten ++ g)) ∧ Hid (n7 = (verG g).length) ∧ Hid (OwnB w2.heap.size wr (.slice a7 n7 c7) (verG g)) ∧ Hid (Below w2.heap.size w2 wr))
      case atStart => exact ⟨n, [], none, 0, 0, rfl, rfl, by omega, by omega, Nat.le_refl _, Lib.hid (by rw [List.length_nil]; exact HNQ.out), Lib.hid (by rw [List.append_nil]; exact HTK.out), Lib.hid (fun x hx => (List.not_mem_nil hx).elim), Lib.hid (by rw [List.append_nil]; exact HFW.out), Lib.hid rfl, Lib.hid (OwnB.nil _ _), Lib.hid (Below.refl _ _)⟩
      case round =>
        obtain ⟨m, g, a7, n7, c7, rfl, rfl, hm, hmk, hnm, HMQ, HMT, HGN, HGF, HN7, HOV, HBV⟩ := hrel
        have hm0 : (0 : Int) ≤ (m : Int) := by omega
        have HGI : Hid (∀ e ∈ gs.flatten ++ g, RightE e ∧ FitE 1000000 e) := Lib.hid fun e he => HRI.out e (List.mem_of_mem_take (by rw [← HMT.out]; exact he))
        have HVB : Hid (n7 ≤ 2000240) := Lib.hid (by
          have h1 := verG_last (gs.flatten ++ g) fun e he => (HGI.out e he).2
          have h2 := HGF.out
          unfold FewB at h2
          rw [verG_app, List.length_append, ← HN7.out] at h1
          omega)
        have hn7 := HVB.out
        by_cases hd : ∃ e, l[m]? = some e ∧ e.norm = nm ∧ S + n7 < 200
        · obtain ⟨e, he, hen, hsv⟩ := hd
          have hml : m < len := by rw [HLN.out]; exact (List.getElem?_eq_some_iff.1 he).1
          have hml' : (m : Int) < (len : Int) := by omega
          have hsv' : (S : Int) + (n7 : Int) < 200 := by omega
          have HBW := Lib.hid (HO2.out.1.trans (HBV.out.mono HO2.out.1.size))
          obtain ⟨bx, ox, ebx, hblt2, d0, d1, d2, d3, d4⟩ := (HRD.out.below HBW.out).at5 HLN.out m e he
          cases ebx
          have hem := HRI.out e (List.mem_of_getElem? he)
          have HPV := Lib.hid (putver_any e hem.1 hem.2)
          have hvb := verB_bd hem.2
          have HMT2 : Hid (gs.flatten ++ (g ++ [e]) = l.take (m + 1)) := Lib.hid (by rw [← List.append_assoc]; exact take_snoc HMT.out he)
          have HMQ2 : Hid (m + 1 = gs.flatten.length + (g ++ [e]).length) := Lib.hid (by rw [List.length_append, List.length_singleton, HMQ.out]; omega)
          have HGN2 : Hid (∀ x ∈ g ++ [e], x.norm = nm) := Lib.hid fun x hx => by
            rcases List.mem_append.1 hx with hx | hx
            · exact HGN.out x hx
            · rw [List.mem_singleton.1 hx]; exact hen
          have HGF2 : Hid (FewB (gs.flatten ++ (g ++ [e]))) := Lib.hid (few_step (by rw [HSQ.out, ← HN7.out]; exact hsv) e)
          have HVS : Hid (verG (g ++ [e]) = verG g ++ verB e) := Lib.hid (by rw [verG_app]; unfold verG; simp)
          have HVL : Hid ((verG g).length + (verB e).length ≤ 10000000) := Lib.hid (by rw [← HN7.out]; omega)
          have HSM := Lib.hid (HSZ.out _ (HO2.out.below HBV.out))
          have hnn := bs_refl nm
          rw [hen] at d0
          obtain ⟨eq, heq⟩ : ∃ x, e.seq = x := ⟨_, rfl⟩
          obtain ⟨ek, hek⟩ : ∃ x, e.kind = x := ⟨_, rfl⟩
          obtain ⟨es, hes⟩ : ∃ x, e.spell = x := ⟨_, rfl⟩
          obtain ⟨ev, hev⟩ : ∃ x, e.val = x := ⟨_, rfl⟩
          rw [hen, heq, hek, hes, hev] at HPV
          rw [heq] at d1
          rw [hek] at d2
          rw [hes] at d3
          rw [hev] at d4
          clear he hen hsv heq hek hes hev hem hvb HMT HMQ HGN HGF hn7
          go_wp2_with fail
          refine HSM.out.mono ?_
          rintro en w3 ⟨rfl, u3⟩
          have hu3 : Below wr.heap.size wr w3 := u3.below _
          have HOV3 := Lib.hid (HOV.out.below hu3)
          have HBV3 := Lib.hid (HBV.out.trans (hu3.mono HBV.out.size))
          replace d0 := (u3.cell _).trans d0
          replace d1 := (u3.cell _).trans d1
          replace d2 := (u3.cell _).trans d2
          replace d3 := (u3.cell _).trans d3
          replace d4 := (u3.cell _).trans d4
          clear u3 hu3 HSM HOV HBV
          go_wp2_with fail
          refine (HPV.out _).mono ?_
          rintro en w4 ⟨v4, rfl, o4, b4⟩
          obtain ⟨a4, n4, c4, rfl, -⟩ := o4.form
          have HOV4 := Lib.hid (HOV3.out.below b4)
          have HBV4 := Lib.hid (HBV3.out.trans (b4.mono HBV3.out.size))
          have HR4 := Lib.hid o4.rd
          clear o4 b4 HPV HOV3 HBV3 d0 d1 d2 d3 d4
          go_wp2_with (at_builtin; refine wp_appSB _ _ (by rfl) (by rfl) (by rfl) HOV4.out (by rfl) HR4.out ?c1 HBV4.out.size ?_)
          case c1 => have := HVL.out; omega
          intro v5 w5 o5 b5
          rw [← HVS.out] at o5
          obtain ⟨a5, n5, c5, rfl, hn5, -⟩ := id o5.form
          have HN5 := Lib.hid hn5
          have HO5 := Lib.hid o5
          have HB5 := Lib.hid (HBV4.out.trans b5)
          clear o5 b5 hn5 HOV4 HBV4 HR4
          go_wp2_with fail
          go_roundg (len + 1 - (m + 1))
          case measure => omega
          case rel => exact ⟨m + 1, g ++ [e], a5, n5, c5, by go_num, rfl, by omega, Nat.le_refl _, by omega, HMQ2, HMT2, HGN2, HGF2, HN5, HO5, HB5⟩
        · have HEX : Hid (∀ e, l[m]? = some e → e.norm = nm → 200 ≤ S + n7) := Lib.hid fun e he hen => by
            rcases Nat.lt_or_ge (S + n7) 200 with h | h
            · exact absurd ⟨e, he, hen, h⟩ hd
            · exact h
          have HGE : Hid (g ≠ []) := Lib.hid (by
            rintro rfl
            have e1 := HMQ.out
            rw [List.length_nil, Nat.add_zero, ← HNQ.out] at e1
            subst e1
            have e2 := HEX.out e0 HE0.out HNM.out
            have e3 := HN7.out
            change n7 = 0 at e3
            omega)
          clear hd
          go_upto_region 6 with fail
          go_cut [43] (fun c wx => c = .bool false ∧ Hid (Below wr.heap.size wr wx))
          case first =>
            as_aux_lemma =>
            by_cases hml : m < len
            · have hml' : (m : Int) < (len : Int) := by omega
              have HBW := Lib.hid (HO2.out.1.trans (HBV.out.mono HO2.out.1.size))
              obtain ⟨e, he⟩ : ∃ e, l[m]? = some e := ⟨l[m]'(by have := HLN.out; omega), List.getElem?_eq_getElem _⟩
              obtain ⟨bx, ox, ebx, hblt2, d0, d1, d2, d3, d4⟩ := (HRD.out.below HBW.out).at5 HLN.out m e he
              cases ebx
              have HEE := Lib.hid (HEX.out e he)
              obtain ⟨ne, hne⟩ : ∃ x, e.norm = x := ⟨_, rfl⟩
              rw [hne] at d0 HEE
              clear d1 d2 d3 d4 he hne HEX
              by_cases hq : ne = nm
              · subst hq
                have hsv := HEE.out rfl
                have hsv' : ¬ (S : Int) + (n7 : Int) < 200 := by omega
                have hnn := bs_refl ne
                have HSM := Lib.hid (HSZ.out _ (HO2.out.below HBV.out))
                clear hsv
                go_wp2_with fail
                refine HSM.out.mono ?_
                rintro en w3 ⟨rfl, u3⟩
                have HU3 := Lib.hid (u3.below wr.heap.size)
                clear u3 HSM d0
                go_wp2_with fail
                go_meet
                exact ⟨by rw [decide_eq_false (by omega)], HU3⟩
              · have hnn := bs_ne hq
                go_wp2_with fail
                go_meet
                exact ⟨rfl, Lib.hid (Below.refl _ _)⟩
            · obtain rfl : m = len := by omega
              have hml' : ¬ (m : Int) < (m : Int) := by omega
              go_wp2_with fail
              go_meet
              exact ⟨rfl, Lib.hid (Below.refl _ _)⟩
          case rest =>
          obtain ⟨rfl, HUX⟩ := hcut
          generalize wc = w3 at *
          have HB3 := Lib.hid (HBV.out.trans (HUX.out.mono HBV.out.size))
          have hov := HOV.out.below HUX.out
          have htx := hov.rd.text
          obtain ⟨vs, hvs⟩ : ∃ vs : ByteArray, (⟨(verG g).toArray⟩ : ByteArray) = vs := ⟨_, rfl⟩
          have hvd : vs.data.toList = verG g := by rw [← hvs]
          rw [hvs] at htx
          have HAD := Lib.hid (add_own (HO2.out.below HB3.out) nm vs (by
            have h1 := HBF.out
            have h2 : vs.size = n7 := by rw [← size_toList, hvd, HN7.out]
            have h3 : nm.size ≤ 1000000 := by rw [← HNM.out]; exact (HRI.out e0 (List.mem_of_getElem? HE0.out)).2.norm
            omega))
          have hao : addOk (gs.map rowE) nm.data.toList := by
            have := HNX.out e0 HE0.out (by rw [HSQ.out]; exact h2)
            rwa [HNM.out] at this
          have hng : normG g = nm := by
            have h1 := HGE.out
            cases g with
            | nil => exact absurd rfl h1
            | cons x t => exact HGN.out x (by simp)
          have hadd : addK (gs.map rowE) ⟨nm.data.toList, vs.data.toList⟩ = (gs ++ [g]).map rowE := by
            unfold addK
            rw [if_pos hao, List.map_append, List.map_singleton, hvd]
            unfold rowE
            rw [hng]
          rw [hadd] at HAD
          have HON2 : Hid (∀ x ∈ gs ++ [g], OneN x) := Lib.hid fun x hx => by
            rcases List.mem_append.1 hx with hx | hx
            · exact HON.out x hx
            · rw [List.mem_singleton.1 hx]
              exact ⟨HGE.out, fun e he => by rw [hng]; exact HGN.out e he⟩
          have HFL : Hid ((gs ++ [g]).flatten = gs.flatten ++ g) := Lib.hid (by rw [List.flatten_append]; simp)
          have HNX2 := Lib.hid (put_step HS.out HMT.out HMQ.out (by rw [← HLN.out]; exact hm) HGN.out HGE.out HSQ.out.symm HN7.out HEX.out)
          have hgp : 0 < g.length := List.length_pos_iff.2 HGE.out
          have hmn : n < m := by have := HMQ.out; have := HNQ.out; omega
          have HF2 : Hid (FewB (gs ++ [g]).flatten) := Lib.hid (by rw [HFL.out]; exact HGF.out)
          have HM2 : Hid (m = (gs ++ [g]).flatten.length) := Lib.hid (by rw [HFL.out, List.length_append]; exact HMQ.out)
          have HT2 : Hid ((gs ++ [g]).flatten = l.take m) := Lib.hid (by rw [HFL.out]; exact HMT.out)
          clear hao hadd hng hov hvs hvd hgp HOV HBV HUX HGF HMQ HMT HEX
          go_wp2_with fail
          refine HAD.out.mono ?_
          rintro e w4 ⟨rfl, o4, -⟩
          have HO4 := Lib.hid o4
          clear o4 HAD htx
          go_wp2_with fail
          go_roundg (len - m)
          case measure => omega
          case rel => exact ⟨m, gs ++ [g], rfl, hm, Nat.le_refl _, HM2, HT2, HON2, HF2, HO4, HNX2⟩
    · go_upto_region 3 with fail
      go_cut [17] (fun c wx => c = .bool false ∧ Hid (Below wr.heap.size wr wx))
      case first =>
        as_aux_lemma =>
        by_cases h1 : n < len
        · have h1' : (n : Int) < (len : Int) := by omega
          have h2' : ¬ (S : Int) < 200 := by omega
          have HSM := Lib.hid (HSZ.out _ HO.out)
          go_wp2_with fail
          refine HSM.out.mono ?_
          rintro en w3 ⟨rfl, u3⟩
          have HU3 := Lib.hid (u3.below wr.heap.size)
          clear u3 HSM
          go_wp2_with fail
          go_meet
          exact ⟨by rw [decide_eq_false (by omega)], HU3⟩
        · have h1' : ¬ (n : Int) < (len : Int) := by omega
          go_wp2_with fail
          go_meet
          exact ⟨rfl, Lib.hid (Below.refl _ _)⟩
      case rest =>
      obtain ⟨rfl, HUX⟩ := hcut
      generalize wc = w3 at *
      have hor := HO.out.below HUX.out
      have HBY := Lib.hid (bytes_own hor (by have := HBF.out; omega))
      have HB3 := Lib.hid hor.1
      have hrise : RiseK (gs.map rowE) := by obtain ⟨-, F, h, -⟩ := hor; exact h.1
      have HPC : Hid (PcOk gs) := Lib.hid (pc_done HON.out hrise hl0 (by rw [HSQ.out, ← HNQ.out]; exact hc))
      clear hor hrise HUX HO hc
      go_wp2_with fail
      refine HBY.out.mono ?_
      rintro e w5 ⟨v5, rfl, o5, b5⟩
      obtain ⟨a5, n5, c5, rfl, -⟩ := o5.form
      have HO5 := Lib.hid (o5.base HB3.out.size)
      have HB5 := Lib.hid (HB3.out.trans (b5.mono HB3.out.size))
      clear o5 b5 HBY
      go_wp2_with fail
      go_ret2
      refine ⟨.slice a5 n5 c5, gs, ?_, HO5.out, HPC.out, by rw [← HNQ.out]; exact HTK.out, HFW.out, HB5.out⟩
      rw [← HNQ.out]; rfl
end Go.Proofs.YtennpdhnjaemeaaDoor
