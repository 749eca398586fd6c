/- The laws' same: rows of rows of bytes, compared. -/
import Derived.Test.YtdnohjhknhekhaaDoorRecs
import Derived.RegionTactic
import Derived.Deep.QuietTactic
import Derived.Deep.LoopGhost
import Derived.BigQuiet
namespace Go.Proofs.YtdnohjhknhekhaaDoor
set_option linter.unusedVariables false
open Go.RowKit
/-- v is a row of slices that read as these. -/
def RdRecs (w : World) (v : Value) (bss : List (List UInt8)) : Prop :=
  ∃ vs : List Value, RdV w v vs ∧ vs.length = bss.length ∧ ∀ (i : Nat) (u : Value) (bs : List UInt8), vs[i]? = some u → bss[i]? = some bs → RdB w u bs
theorem RecsAt.rd {B : Nat} {w : World} {v : Value} {bss : List (List UInt8)} (h : RecsAt B w v bss) : RdRecs w v bss := by
  obtain ⟨vs, h1, h2, h3⟩ := h
  exact ⟨vs, h1.rd, h2, fun i u bs hu hb => (h3 i u bs hu hb).rd⟩
theorem RdRecs.below {w w' : World} {v : Value} {bss : List (List UInt8)} (h : RdRecs w v bss) (hb : Below w.heap.size w w') : RdRecs w' v bss := by
  obtain ⟨vs, h1, h2, h3⟩ := h
  exact ⟨vs, h1.below hb, h2, fun i u bs hu hb' => (h3 i u bs hu hb').below hb⟩
theorem RdRecs.len {w : World} {a : Option Addr} {n cap : Nat} {bss : List (List UInt8)} (h : RdRecs w (.slice a n cap) bss) : n = bss.length := by
  obtain ⟨vs, h1, h2, -⟩ := h
  rw [← h2]; exact (rdV_len h1).1
theorem RdRecs.form {w : World} {v : Value} {bss : List (List UInt8)} (h : RdRecs w v bss) : ∃ a cap, v = .slice a bss.length cap := by
  obtain ⟨vs, h1, h2, -⟩ := h
  rcases h1 with ⟨a, cap, rfl, e⟩ | ⟨b, off, cap, rfl, -⟩
  · exact ⟨a, cap, by rw [← h2, e]; rfl⟩
  · exact ⟨_, cap, by rw [← h2]⟩
/-- the first j of them, as 's[:j]' tells them. -/
theorem RdRecs.take {w : World} {a : Option Addr} {n cap : Nat} {bss : List (List UInt8)} (h : RdRecs w (.slice a n cap) bss) (j : Nat) (hj : j ≤ n) : RdRecs w (.slice a j cap) (bss.take j) := by
  have hn := h.len
  obtain ⟨vs, h1, h2, h3⟩ := h
  refine ⟨vs.take j, ?_, by rw [List.length_take, List.length_take, h2], fun i u bs hu hb => ?_⟩
  · rcases Nat.eq_zero_or_pos j with h0 | h0
    · subst h0; exact .inl ⟨a, cap, rfl, by simp⟩
    · rcases id h1 with ⟨_, _, e, e2⟩ | ⟨b, off, c, e, _⟩
      · simp only [Value.slice.injEq] at e; omega
      · simp only [Value.slice.injEq] at e
        obtain ⟨rfl, -, rfl⟩ := e
        exact rdV_take h1 j hj
  · rw [List.getElem?_take] at hu hb
    split at hu
    · rename_i hij
      rw [if_pos hij] at hb
      exact h3 i u bs hu hb
    · cases hu
/-- One of them. -/
theorem RdRecs.at {w : World} {a : Option Addr} {n cap : Nat} {bss : List (List UInt8)} (h : RdRecs w (.slice a n cap) bss) (i : Nat) (bs : List UInt8) (hi : bss[i]? = some bs) :
    ∃ g off u, a = some ⟨g, off, none⟩ ∧ g < w.heap.size ∧ w.cell? ⟨g, off + i, none⟩ = some u ∧ RdB w u bs := by
  obtain ⟨vs, h1, h2, h3⟩ := h
  have hlt : i < vs.length := by rw [h2]; exact (List.getElem?_eq_some_iff.1 hi).1
  have hu : vs[i]? = some vs[i] := List.getElem?_eq_getElem hlt
  obtain ⟨g, off, rfl, hg, hc⟩ := rdV_cells h1 (by omega)
  refine ⟨g, off, vs[i], rfl, hg, ?_, h3 i _ _ hu hi⟩
  rw [hc i hlt, List.getD_eq_getElem?_getD, hu]; rfl
set_option maxHeartbeats 2000000 in
set_option maxRecDepth 100000 in
theorem same_any (va vb : Value) (A C : List (List UInt8)) (hl : A.length ≤ 1000000000000) (hm : C.length ≤ 1000000000000) (w : World) (hA : RdRecs w va A) (hC : RdRecs w vb C) :
    Calls Tryd.prog 12 #[va, vb] w fun e w' => e = .returned (.bool (decide (A = C))) ∧ DrN w w' := by
  obtain ⟨aa, ca, rfl⟩ := hA.form
  obtain ⟨ac, cc, rfl⟩ := hC.form
  have HA := Lib.hid hA
  have HC := Lib.hid hC
  clear hA hC
  obtain ⟨n, hn⟩ : ∃ n, A.length = n := ⟨_, rfl⟩
  obtain ⟨m, hm'⟩ : ∃ m, C.length = m := ⟨_, rfl⟩
  have HN := Lib.hid (And.intro hn hm')
  rw [hn] at HA hl ⊢
  rw [hm'] at HC hm ⊢
  clear hn hm'
  by_cases hnm : n = m
  · subst hnm
    have hz : ((n : Int) != (n : Int)) = false := by simp
    obtain ⟨r, hr⟩ : ∃ r, decide (A = C) = r := ⟨_, rfl⟩
    rw [hr]
    have HR := Lib.hid hr
    clear hr
    go_enter Tryd.func12, Tryd.ntmps12
    go_wp2
    go_loopw [5] (fun i wr => ∃ (k : Nat), i = .int .i64 k ∧ k ≤ n ∧ Hid (DrN w wr) ∧ Hid (A.take k = C.take k)) (fun i _ => n - (intOf i).toNat)
    case atStart => exact ⟨0, rfl, Nat.zero_le _, Lib.hid (DrN.refl _), Lib.hid (by simp)⟩
    case round =>
      obtain ⟨k, rfl, hk, HD, HT⟩ := hrel
      by_cases hlt : k < n
      · obtain ⟨x, hx⟩ : ∃ x, A[k]? = some x := ⟨_, List.getElem?_eq_getElem (by have := HN.out; omega)⟩
        obtain ⟨y, hy⟩ : ∃ y, C[k]? = some y := ⟨_, List.getElem?_eq_getElem (by have := HN.out; omega)⟩
        obtain ⟨g1, o1, u1, e1, -, c1, t1⟩ := (HA.out.below (HD.out.below _)).at k x hx
        obtain ⟨g2, o2, u2, e2, -, c2, t2⟩ := (HC.out.below (HD.out.below _)).at k y hy
        subst e1 e2
        have x1 : ∀ j, (convert 23 9 u1).run Tryd.prog (wr.drewN j) = .ok (.string ⟨x.toArray⟩) (wr.drewN j) := fun j => (t1.below (DrN.below ⟨j, rfl⟩ _)).text
        have x2 : ∀ j, (convert 23 9 u2).run Tryd.prog (wr.drewN j) = .ok (.string ⟨y.toArray⟩) (wr.drewN j) := fun j => (t2.below (DrN.below ⟨j, rfl⟩ _)).text
        have HXY := Lib.hid (And.intro hx hy)
        have h0k : (0 : Int) ≤ (k : Int) := by omega
        have hkn : (k : Int) < (n : Int) := by omega
        clear hx hy t1 t2
        by_cases hxy : x = y
        · have hq : (x == y) = true := beq_iff_eq.2 hxy
          have hq2 : (x != y) = false := by unfold bne; rw [hq]; rfl
          have HT2 : Hid (A.take (k + 1) = C.take (k + 1)) := Lib.hid (by rw [List.take_add_one, List.take_add_one, HT.out, HXY.out.1, HXY.out.2, hxy])
          clear hxy HT
          go_wp2
          go_quiet (fail)
          have HD2 : Hid (DrN w (wr.drewN nq)) := Lib.hid (HD.out.more nq)
          go_wp2
          go_roundw
          case rel => exact ⟨k + 1, by go_num, hlt, HD2, HT2⟩
          case measure => simp [intOf]; omega
        · have hq : (x == y) = false := beq_eq_false_iff_ne.2 hxy
          have hq2 : (x != y) = true := by unfold bne; rw [hq]; rfl
          obtain rfl : r = false := by
            rw [← HR.out]
            exact decide_eq_false fun e => hxy (by have h1 := HXY.out.1; rw [e, HXY.out.2] at h1; exact (Option.some.inj h1).symm)
          clear hxy HT
          go_wp2
          go_quiet (fail)
          have HD2 : Hid (DrN w (wr.drewN nq)) := Lib.hid (HD.out.more nq)
          go_wp2
          go_ret
          exact ⟨rfl, HD2.out⟩
      · obtain rfl : k = n := by omega
        obtain rfl : r = true := by
          rw [← HR.out]
          refine decide_eq_true ?_
          have := HT.out
          rwa [List.take_of_length_le (by have := HN.out; omega), List.take_of_length_le (by have := HN.out; omega)] at this
        go_wp2
        go_ret
        exact ⟨rfl, HD.out⟩
  · have hz : ((n : Int) != (m : Int)) = true := by rw [bne_iff_ne]; omega
    rw [decide_eq_false (p := A = C) (fun e => hnm (by rw [← HN.out.1, ← HN.out.2, e]))]
    clear HN
    go_enter Tryd.func12, Tryd.ntmps12
    go_wp2
    go_ret
    exact ⟨rfl, DrN.refl _⟩
end Go.Proofs.YtdnohjhknhekhaaDoor
