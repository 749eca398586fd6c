/- The walks of the library's IndexFunc and ContainsFunc at tables and at numbers. -/
import Derived.Test.YtpaoabdjbdlalaaEdtNo
import Derived.Test.YtpaoabdjbdlalaaByt
import Derived.Test.YtpaoabdjbdlalaaTake
import Derived.Deep.LoopGhost
namespace Go.Proofs.Ytpaoabdjbdlalaa
set_option linter.unusedVariables false
set_option maxRecDepth 100000
open Go.RowKit
theorem elem_tbf : ElemK Try.prog 22 39 5 56 (.agg #[.int .i64 0, .int .i64 0, .int .i64 0, .string ⟨#[]⟩, .string ⟨#[]⟩]) := ⟨Try.underlying22, by kernel_rfl, rfl, by decide⟩
theorem elem_i64 : ElemOk Try.prog 23 2 8 (.int .i64 0) := ⟨Try.underlying23, by kernel_rfl, rfl⟩
/-- The five cells of a table. -/
structure AtTbf (w : World) (b o : Nat) (f : Tbf) : Prop where
  c0 : w.cell? ⟨b, o, none⟩ = some (.int .i64 f.num)
  c1 : w.cell? ⟨b, o + 1, none⟩ = some (.int .i64 f.lvl)
  c2 : w.cell? ⟨b, o + 2, none⟩ = some (.int .i64 f.siz)
  c3 : w.cell? ⟨b, o + 3, none⟩ = some (.string f.lo)
  c4 : w.cell? ⟨b, o + 4, none⟩ = some (.string f.hi)
theorem edFl_len {w : World} {v : Value} {xs : List Tbf} (h : RdK encTbf 5 w v xs) : ∃ a cap, v = .slice a xs.length cap ∧ (0 < xs.length → cap ≤ maxLen ∧ xs.length ≤ cap) := by
  rcases h with ⟨a, cap, h1, rfl⟩ | ⟨b, off, cap, h1, h2, h3, h4, -⟩
  · exact ⟨a, cap, h1, fun h => by simp at h⟩
  · exact ⟨_, cap, h1, fun _ => ⟨h4, h3⟩⟩
theorem RdK.atTbf {w : World} {a : Option Addr} {len cap : Nat} {xs : List Tbf} (h : RdK encTbf 5 w (.slice a len cap) xs) (q : Nat) (x : Tbf) (hx : xs[q]? = some x) :
    ∃ b off, a = some ⟨b, off, none⟩ ∧ b < w.heap.size ∧ AtTbf w b (off + q * 5) x := by
  rcases h with ⟨_, _, _, rfl⟩ | ⟨b, off, c, e, h1, h2, h3, h4, h5⟩
  · simp at hx
  · simp only [Value.slice.injEq] at e
    exact ⟨b, off, e.1, h4, h5 q 0 x hx (by decide), h5 q 1 x hx (by decide), h5 q 2 x hx (by decide), h5 q 3 x hx (by decide), h5 q 4 x hx (by decide)⟩
/-- What a search tells: a place, or -1. -/
def FoundAt (n : Nat) (some : Prop) (i : Int) : Prop := -1 ≤ i ∧ i < n ∧ (0 ≤ i ↔ some)
set_option maxHeartbeats 4000000 in
theorem idxF_any (v : Value) (xs : List Tbf) (hok : ∀ f ∈ xs, f.ok) (hl : xs.length ≤ 1000000000000) (w : World) (h : RdK encTbf 5 w v xs) :
    Calls Try.prog 30 #[v, .func (.func 19) #[] #[]] w fun e w' => ∃ i : Int, e = .returned (.int .i64 i) ∧ FoundAt xs.length (∃ f ∈ xs, badTb f) i ∧ Below w.heap.size w w' := by
  obtain ⟨a, cap, rfl, -⟩ := edFl_len h
  have HRD := Lib.hid h
  have HOK := Lib.hid hok
  obtain ⟨N, hN⟩ : ∃ N, xs.length = N := ⟨_, rfl⟩
  have HN := Lib.hid hN
  rw [hN] at HRD hl ⊢
  have HP : Hid (∀ (f : Tbf), f.ok → ∀ w, Calls Try.prog 19 #[f.v] w fun e w' => e = .returned (.bool (decide (badTb f))) ∧ Below w.heap.size w w') := Lib.hid edNofil_any
  clear h hok hN
  go_enter Try.func30, Try.ntmps30
  go_wp2_with fail
  go_loopg [5, 8] N (fun kk _ vi wr => ∃ i : Nat, vi = .int .i64 (i : Int) ∧ i ≤ N ∧ N - i ≤ kk ∧ Hid (∀ j x, j < i → xs[j]? = some x → ¬ badTb x) ∧ Hid (Below w.heap.size w wr))
  case atStart => exact ⟨0, rfl, by omega, by omega, Lib.hid (fun j x hj => by omega), Lib.hid (Below.refl _ _)⟩
  case round =>
    obtain ⟨q, rfl, hq, hkk, HG, HB⟩ := hrel
    by_cases h1 : q < N
    · have hd1 : (q : Int) < (N : Int) := by omega
      have hd0 : (0 : Int) ≤ (q : Int) := by omega
      obtain ⟨x, hx⟩ : ∃ x, xs[q]? = some x := ⟨xs[q]'(by have := HN.out; omega), List.getElem?_eq_getElem _⟩
      obtain ⟨b, off, rfl, hblt, d0, d1, d2, d3, d4⟩ := (HRD.out.below HB.out).atTbf q x hx
      have HX := Lib.hid hx
      have HC := Lib.hid (HP.out x (HOK.out x (List.mem_of_getElem? hx)) wr)
      clear hx
      obtain ⟨V, hV⟩ : ∃ V, decide (badTb x) = V := ⟨_, rfl⟩
      rw [hV] at HC
      have HV := Lib.hid hV
      clear hV
      obtain ⟨x0, x1, x2, x3, x4⟩ := x
      unfold Tbf.v at HC
      simp only at d0 d1 d2 d3 d4 HC
      go_wp2_with fail
      refine HC.out.mono ?_
      rintro e w2 ⟨rfl, hb⟩
      have HB2 := Lib.hid (HB.out.trans (hb.mono HB.out.size))
      clear hb HC HB d0 d1 d2 d3 d4
      cases V with
      | true =>
        have HF : Hid (FoundAt N (∃ f ∈ xs, badTb f) (q : Int)) := Lib.hid ⟨by omega, by omega, fun _ => ⟨_, List.mem_of_getElem? HX.out, of_decide_eq_true HV.out⟩, fun _ => by omega⟩
        clear HV HX HG
        go_wp2_with fail
        go_ret
        exact ⟨_, rfl, HF.out, HB2.out⟩
      | false =>
        have HG2 : Hid (∀ j x, j < q + 1 → xs[j]? = some x → ¬ badTb x) := Lib.hid fun j y hj hy => by
          rcases Nat.lt_or_ge j q with h | h
          · exact HG.out j y h hy
          · obtain rfl : j = q := by omega
            rw [HX.out] at hy
            obtain rfl := Option.some.inj hy
            exact of_decide_eq_false HV.out
        clear HV HX HG
        go_wp2_with fail
        go_roundg (N - (q + 1))
        case measure => omega
        case rel => exact ⟨q + 1, by go_num, by omega, Nat.le_refl _, HG2, HB2⟩
    · have hd1 : ¬ (q : Int) < (N : Int) := by omega
      have HF : Hid (FoundAt N (∃ f ∈ xs, badTb f) (-1)) := Lib.hid ⟨by omega, by omega, fun h => by omega, fun ⟨f, hf, hb⟩ => by
        obtain ⟨j, hj, rfl⟩ := List.getElem_of_mem hf
        exact absurd hb (HG.out j _ (by have := HN.out; omega) (List.getElem?_eq_getElem hj))⟩
      clear HG
      go_wp2_with fail
      go_ret
      exact ⟨_, rfl, HF.out, HB.out⟩
theorem foundAt_yes {n : Nat} {p : Prop} {i : Int} (h : FoundAt n p i) [Decidable p] : decide (0 ≤ i) = decide p := by
  rw [decide_eq_decide]; exact h.2.2
set_option maxHeartbeats 4000000 in
theorem conF_any (v : Value) (xs : List Tbf) (hok : ∀ f ∈ xs, f.ok) (hl : xs.length ≤ 1000000000000) (w : World) (h : RdK encTbf 5 w v xs) :
    Calls Try.prog 18 #[v, .func (.func 19) #[] #[]] w fun e w' => e = .returned (.bool (decide (∃ f ∈ xs, badTb f))) ∧ Below w.heap.size w w' := by
  have HI := Lib.hid (idxF_any v xs hok hl w h)
  clear h hok
  go_enter Try.func18, Try.ntmps18
  go_wp2_with fail
  refine HI.out.mono ?_
  rintro e w2 ⟨i, rfl, hi, hb⟩
  have HF := Lib.hid (And.intro hi hb)
  clear hi hb HI
  go_wp2_with fail
  go_ret
  exact ⟨congrArg (fun b => Ending.returned (Value.bool b)) (foundAt_yes HF.out.1), HF.out.2⟩
def encI64 (n : Int) : Value := .int .i64 n
theorem edInts_len {w : World} {v : Value} {xs : List Int} (h : RdV w v (xs.map encI64)) : ∃ a cap, v = .slice a xs.length cap := by
  rcases h with ⟨a, cap, h1, e⟩ | ⟨b, off, cap, h1, -⟩
  · have : xs = [] := by simpa using e
    subst this; exact ⟨a, cap, h1⟩
  · rw [List.length_map] at h1; exact ⟨_, cap, h1⟩
theorem edInts_lenC {w : World} {v : Value} {xs : List Int} (h : RdV w v (xs.map encI64)) : ∃ a cap, v = .slice a xs.length cap ∧ (0 < xs.length → cap ≤ maxLen ∧ xs.length ≤ cap) := by
  rcases h with ⟨a, cap, h1, e⟩ | ⟨b, off, cap, h1, h2, h3, h4, -⟩
  · have : xs = [] := by simpa using e
    subst this; exact ⟨a, cap, h1, fun h => by simp at h⟩
  · rw [List.length_map] at h1 h3; exact ⟨_, cap, h1, fun _ => ⟨h4, h3⟩⟩
theorem edInts_at {w : World} {a : Option Addr} {len cap : Nat} {xs : List Int} (h : RdV w (.slice a len cap) (xs.map encI64)) (q : Nat) (x : Int) (hx : xs[q]? = some x) :
    ∃ b off, a = some ⟨b, off, none⟩ ∧ b < w.heap.size ∧ w.cell? ⟨b, off + q, none⟩ = some (.int .i64 x) := by
  have hq := (List.getElem?_eq_some_iff.1 hx).1
  obtain ⟨b, off, rfl, h1, h2⟩ := rdV_cells h (by rw [List.length_map]; omega)
  refine ⟨b, off, rfl, h1, ?_⟩
  rw [h2 q (by rw [List.length_map]; exact hq), List.getD_eq_getElem?_getD, List.getElem?_map, hx]; rfl
set_option maxHeartbeats 4000000 in
theorem idxI_any (v : Value) (xs : List Int) (hl : xs.length ≤ 1000000000000) (w : World) (h : RdV w v (xs.map encI64)) :
    Calls Try.prog 31 #[v, .func (.func 21) #[] #[]] w fun e w' => ∃ i : Int, e = .returned (.int .i64 i) ∧ FoundAt xs.length (∃ f ∈ xs, badTab f) i ∧ Below w.heap.size w w' := by
  obtain ⟨a, cap, rfl⟩ := edInts_len h
  have HRD := Lib.hid h
  obtain ⟨N, hN⟩ : ∃ N, xs.length = N := ⟨_, rfl⟩
  have HN := Lib.hid hN
  rw [hN] at HRD hl ⊢
  have HP : Hid (∀ (n : Int) w, Calls Try.prog 21 #[.int .i64 n] w fun e w' => e = .returned (.bool (decide (badTab n))) ∧ w' = w) := Lib.hid edNotab_any
  clear h hN
  go_enter Try.func31, Try.ntmps31
  go_wp2_with fail
  go_loopg [5, 8] N (fun kk _ vi wr => ∃ i : Nat, vi = .int .i64 (i : Int) ∧ i ≤ N ∧ N - i ≤ kk ∧ Hid (∀ j x, j < i → xs[j]? = some x → ¬ badTab x) ∧ Hid (Below w.heap.size w wr))
  case atStart => exact ⟨0, rfl, by omega, by omega, Lib.hid (fun j x hj => by omega), Lib.hid (Below.refl _ _)⟩
  case round =>
    obtain ⟨q, rfl, hq, hkk, HG, HB⟩ := hrel
    by_cases h1 : q < N
    · have hd1 : (q : Int) < (N : Int) := by omega
      have hd0 : (0 : Int) ≤ (q : Int) := by omega
      obtain ⟨x, hx⟩ : ∃ x, xs[q]? = some x := ⟨xs[q]'(by have := HN.out; omega), List.getElem?_eq_getElem _⟩
      obtain ⟨b, off, rfl, hblt, d0⟩ := edInts_at (RdV.below HRD.out HB.out) q x hx
      have HX := Lib.hid hx
      have HC := Lib.hid (HP.out x)
      clear hx
      obtain ⟨V, hV⟩ : ∃ V, decide (badTab x) = V := ⟨_, rfl⟩
      rw [hV] at HC
      have HV := Lib.hid hV
      clear hV
      go_wp2_with fail
      refine (HC.out _).mono ?_
      rintro e w2 ⟨rfl, rfl⟩
      clear HC d0
      cases V with
      | true =>
        have HF : Hid (FoundAt N (∃ f ∈ xs, badTab f) (q : Int)) := Lib.hid ⟨by omega, by omega, fun _ => ⟨_, List.mem_of_getElem? HX.out, of_decide_eq_true HV.out⟩, fun _ => by omega⟩
        clear HV HX HG
        go_wp2_with fail
        go_ret
        exact ⟨_, rfl, HF.out, HB.out⟩
      | false =>
        have HG2 : Hid (∀ j x, j < q + 1 → xs[j]? = some x → ¬ badTab x) := Lib.hid fun j y hj hy => by
          rcases Nat.lt_or_ge j q with h | h
          · exact HG.out j y h hy
          · obtain rfl : j = q := by omega
            rw [HX.out] at hy
            obtain rfl := Option.some.inj hy
            exact of_decide_eq_false HV.out
        clear HV HX HG
        go_wp2_with fail
        go_roundg (N - (q + 1))
        case measure => omega
        case rel => exact ⟨q + 1, by go_num, by omega, Nat.le_refl _, HG2, HB⟩
    · have hd1 : ¬ (q : Int) < (N : Int) := by omega
      have HF : Hid (FoundAt N (∃ f ∈ xs, badTab f) (-1)) := Lib.hid ⟨by omega, by omega, fun h => by omega, fun ⟨f, hf, hb⟩ => by
        obtain ⟨j, hj, rfl⟩ := List.getElem_of_mem hf
        exact absurd hb (HG.out j _ (by have := HN.out; omega) (List.getElem?_eq_getElem hj))⟩
      clear HG
      go_wp2_with fail
      go_ret
      exact ⟨_, rfl, HF.out, HB.out⟩
set_option maxHeartbeats 4000000 in
theorem conI_any (v : Value) (xs : List Int) (hl : xs.length ≤ 1000000000000) (w : World) (h : RdV w v (xs.map encI64)) :
    Calls Try.prog 20 #[v, .func (.func 21) #[] #[]] w fun e w' => e = .returned (.bool (decide (∃ f ∈ xs, badTab f))) ∧ Below w.heap.size w w' := by
  have HI := Lib.hid (idxI_any v xs hl w h)
  clear h
  go_enter Try.func20, Try.ntmps20
  go_wp2_with fail
  refine HI.out.mono ?_
  rintro e w2 ⟨i, rfl, hi, hb⟩
  have HF := Lib.hid (And.intro hi hb)
  clear hi hb HI
  go_wp2_with fail
  go_ret
  exact ⟨congrArg (fun b => Ending.returned (Value.bool b)) (foundAt_yes HF.out.1), HF.out.2⟩
end Go.Proofs.Ytpaoabdjbdlalaa
