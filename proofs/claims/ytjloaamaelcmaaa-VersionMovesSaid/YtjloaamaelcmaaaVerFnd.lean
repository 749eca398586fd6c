/- Searches among tables with a function that holds a number: find, and the one that looks for a number too great. -/
import Derived.Test.YtjloaamaelcmaaaVerSmall
import Derived.Shelf.Abstract
namespace Go.Proofs.Ytjloaamaelcmaaa
set_option linter.unusedVariables false
set_option maxRecDepth 100000
open Go.RowKit
/-- The first place of which p holds, or -1. -/
def IdxAt (p : Tbf → Prop) (xs : List Tbf) (i : Int) : Prop :=
  (∃ (j : Nat) (x : Tbf), i = (j : Int) ∧ xs[j]? = some x ∧ p x ∧ ∀ (m : Nat) (y : Tbf), m < j → xs[m]? = some y → ¬ p y) ∨ i = -1 ∧ ∀ x ∈ xs, ¬ p x
theorem IdxAt.bd {p : Tbf → Prop} {xs : List Tbf} {i : Int} (h : IdxAt p xs i) : -1 ≤ i ∧ i < xs.length ∧ (0 ≤ i ↔ ∃ x ∈ xs, p x) := by
  rcases h with ⟨j, x, rfl, hx, hp, -⟩ | ⟨rfl, h⟩
  · have := (List.getElem?_eq_some_iff.1 hx).1
    exact ⟨by omega, by omega, fun _ => ⟨x, List.mem_of_getElem? hx, hp⟩, fun _ => by omega⟩
  · exact ⟨by omega, by omega, fun h0 => by omega, fun ⟨x, hx, hp⟩ => absurd hp (h x hx)⟩
set_option maxHeartbeats 4000000 in
theorem idxP_any (p : Tbf → Prop) [DecidablePred p] (G : Nat) (cb v : Value) (xs : List Tbf) (hl : xs.length ≤ 1000000000000) (w : World) (h : RdK encTbf 5 w v xs)
    (hen : ∀ args w, (callFunc G args).run Try.prog w = .ok (.enter G args) w)
    (hP : ∀ (f : Tbf) (W : World), Below w.heap.size w W → Calls Try.prog G #[f.v, cb] W fun e w' => e = .returned (.bool (decide (p f))) ∧ Below W.heap.size W w') :
    Calls Try.prog 45 #[v, .func (.func G) #[] #[cb]] w fun e w' => ∃ i : Int, e = .returned (.int .i64 i) ∧ IdxAt p xs i ∧ Below w.heap.size w w' := by
  obtain ⟨a, cap, rfl, -⟩ := edFl_len h
  have HRD := Lib.hid h
  obtain ⟨N, hN⟩ : ∃ N, xs.length = N := ⟨_, rfl⟩
  have HN := Lib.hid hN
  rw [hN] at HRD hl ⊢
  have HP := Lib.hid hP
  clear h hN hP
  go_enter Try.func45, Try.ntmps45
  go_wp2_with fail
  go_loopg [5, 8] N (fun kk _ vi wr => ∃ i : Nat, vi = .int .i64 (i : Int) ∧ i ≤ N ∧ N - i ≤ kk ∧ Hid (∀ j x, j < i → xs[j]? = some x → ¬ p x) ∧ Hid (Below w.heap.size w wr))
  case atStart => exact ⟨0, rfl, by omega, by omega, Lib.hid (fun j x hj => by omega), Lib.hid (Below.refl _ _)⟩
  case round =>
    obtain ⟨q, rfl, hq, hkk, HG, HB⟩ := hrel
    by_cases h1 : q < N
    · have hd1 : (q : Int) < (N : Int) := by omega
      have hd0 : (0 : Int) ≤ (q : Int) := by omega
      obtain ⟨x, hx⟩ : ∃ x, xs[q]? = some x := ⟨xs[q]'(by have := HN.out; omega), List.getElem?_eq_getElem _⟩
      obtain ⟨b, off, rfl, hblt, d0, d1, d2, d3, d4⟩ := (HRD.out.below HB.out).atTbf q x hx
      have HX := Lib.hid hx
      have HC := Lib.hid (HP.out x wr HB.out)
      clear hx
      obtain ⟨V, hV⟩ : ∃ V, decide (p x) = V := ⟨_, rfl⟩
      rw [hV] at HC
      have HV := Lib.hid hV
      clear hV
      obtain ⟨x0, x1, x2, x3, x4⟩ := x
      unfold Tbf.v at HC
      simp only at d0 d1 d2 d3 d4 HC
      go_wp2_with fail
      refine HC.out.mono ?_
      rintro e w2 ⟨rfl, hb⟩
      have HB2 := Lib.hid (HB.out.trans (hb.mono HB.out.size))
      clear hb HC HB d0 d1 d2 d3 d4
      cases V with
      | true =>
        have HF : Hid (IdxAt p xs (q : Int)) := Lib.hid (.inl ⟨q, _, rfl, HX.out, of_decide_eq_true HV.out, HG.out⟩)
        clear HV HX HG
        go_wp2_with fail
        go_ret
        exact ⟨_, rfl, HF.out, HB2.out⟩
      | false =>
        have HG2 : Hid (∀ j x, j < q + 1 → xs[j]? = some x → ¬ p x) := Lib.hid fun j y hj hy => by
          rcases Nat.lt_or_ge j q with h | h
          · exact HG.out j y h hy
          · obtain rfl : j = q := by omega
            rw [HX.out] at hy
            obtain rfl := Option.some.inj hy
            exact of_decide_eq_false HV.out
        clear HV HX HG
        go_wp2_with fail
        go_roundg (N - (q + 1))
        case measure => omega
        case rel => exact ⟨q + 1, by go_num, by omega, Nat.le_refl _, HG2, HB2⟩
    · have hd1 : ¬ (q : Int) < (N : Int) := by omega
      have HF : Hid (IdxAt p xs (-1)) := Lib.hid (.inr ⟨rfl, fun x hx hb => by
        obtain ⟨j, hj, rfl⟩ := List.getElem_of_mem hx
        exact absurd hb (HG.out j _ (by have := HN.out; omega) (List.getElem?_eq_getElem hj))⟩)
      clear HG
      go_wp2_with fail
      go_ret
      exact ⟨_, rfl, HF.out, HB.out⟩
set_option maxHeartbeats 4000000 in
theorem conP_any (p : Tbf → Prop) [DecidablePred p] (G : Nat) (cb v : Value) (xs : List Tbf) (hl : xs.length ≤ 1000000000000) (w : World) (h : RdK encTbf 5 w v xs)
    (hen : ∀ args w, (callFunc G args).run Try.prog w = .ok (.enter G args) w)
    (hP : ∀ (f : Tbf) (W : World), Below w.heap.size w W → Calls Try.prog G #[f.v, cb] W fun e w' => e = .returned (.bool (decide (p f))) ∧ Below W.heap.size W w') :
    Calls Try.prog 38 #[v, .func (.func G) #[] #[cb]] w fun e w' => e = .returned (.bool (decide (∃ f ∈ xs, p f))) ∧ Below w.heap.size w w' := by
  have HI := Lib.hid (idxP_any p G cb v xs hl w h hen hP)
  clear h hP hen
  go_enter Try.func38, Try.ntmps38
  go_wp2_with fail
  refine HI.out.mono ?_
  rintro e w2 ⟨i, rfl, hi, hb⟩
  have HF := Lib.hid (And.intro hi hb)
  clear hi hb HI
  go_wp2_with fail
  go_ret
  exact ⟨congrArg (fun b => Ending.returned (Value.bool b)) (by rw [decide_eq_decide]; exact HF.out.1.bd.2.2), HF.out.2⟩
/-- The function that find hands over: it holds a number in a box. -/
theorem findF_any (bx : Nat) (k : Int) (f : Tbf) (w : World) (h : w.cell? ⟨bx, 0, none⟩ = some (.int .i64 k)) (hb : bx < w.heap.size) :
    Calls Try.prog 54 #[f.v, .pointer (some ⟨bx, 0, none⟩)] w fun e w' => e = .returned (.bool (decide (f.num = k))) ∧ Below w.heap.size w w' := by
  obtain ⟨x0, x1, x2, x3, x4⟩ := f
  unfold Tbf.v
  obtain ⟨V, hV⟩ : ∃ V, decide (x0 = k) = V := ⟨_, rfl⟩
  have h' : (w.alloc (.cells #[.int .i64 x0, .int .i64 x1, .int .i64 x2, .string x3, .string x4] 43)).cell? ⟨bx, 0, none⟩ = some (.int .i64 k) := (((Below.refl _ w).alloc (Nat.le_refl _) _).cell hb).trans h
  clear h
  simp only
  have e : ((x0 : Int) == k) = V := by rw [← hV]; rfl
  rw [hV]
  clear hV
  go_enter Try.func54, Try.ntmps54
  go_wp2_with fail
  go_ret
  exact ⟨rfl, (Below.refl _ w).alloc (Nat.le_refl _) _⟩
theorem mayF_any (bx : Nat) (k : Int) (f : Tbf) (w : World) (h : w.cell? ⟨bx, 0, none⟩ = some (.int .i64 k)) (hb : bx < w.heap.size) :
    Calls Try.prog 53 #[f.v, .pointer (some ⟨bx, 0, none⟩)] w fun e w' => e = .returned (.bool (decide (k ≤ f.num))) ∧ Below w.heap.size w w' := by
  obtain ⟨x0, x1, x2, x3, x4⟩ := f
  unfold Tbf.v
  have h' : (w.alloc (.cells #[.int .i64 x0, .int .i64 x1, .int .i64 x2, .string x3, .string x4] 43)).cell? ⟨bx, 0, none⟩ = some (.int .i64 k) := (((Below.refl _ w).alloc (Nat.le_refl _) _).cell hb).trans h
  clear h
  simp only
  go_enter Try.func53, Try.ntmps53
  go_wp2_with fail
  go_ret
  exact ⟨rfl, (Below.refl _ w).alloc (Nat.le_refl _) _⟩
set_option maxHeartbeats 2000000 in
theorem vfind_any (v : Value) (k : Int) (xs : List Tbf) (hl : xs.length ≤ 1000000000000) (w : World) (h : RdK encTbf 5 w v xs) :
    Calls Try.prog 47 #[v, .int .i64 k] w fun e w' => ∃ i : Int, e = .returned (.int .i64 i) ∧ IdxAt (fun f => f.num = k) xs i ∧ Below w.heap.size w w' := by
  have b1 : Below w.heap.size w (w.alloc (.cells #[.int .i64 k] 2)) := (Below.refl _ w).alloc (Nat.le_refl _) _
  have hx := BlkAt.new w #[.int .i64 k] 2
  have HI := Lib.hid (idxP_any (fun f => f.num = k) 54 (.pointer (some ⟨w.heap.size, 0, none⟩)) v xs hl _ (h.below b1) (enters_of Try.func54 (by kernel_rfl) rfl)
    (fun f W hW => findF_any _ k f W ((hx.below hW).at 0) (hx.below hW).lt))
  have HB := Lib.hid b1
  obtain ⟨a, cap, rfl, -⟩ := edFl_len h
  clear h b1 hx
  go_enter Try.func47, Try.ntmps47
  go_wp2_with fail
  refine HI.out.mono ?_
  rintro e w2 ⟨i, rfl, hi, hb⟩
  have HF := Lib.hid (And.intro hi (HB.out.trans (hb.mono HB.out.size)))
  clear hi hb HI
  go_wp2_with fail
  go_ret
  exact ⟨_, rfl, HF.out.1, HF.out.2⟩
end Go.Proofs.Ytjloaamaelcmaaa
