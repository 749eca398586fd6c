/- The walks of sort.Search over Find's test, of Find, the code's and the reference's. -/
import Derived.Test.YtacaofnonmgfoaaEntSort
import Derived.Test.YtacaofnonmgfoaaEntRow
import Derived.RegionTactic
import Derived.Deep.LoopGhost
import Derived.Deep.DeepCutAuto
namespace Go.Proofs.Ytacaofnonmgfoaa
set_option linter.unusedVariables false
open Go.RowKit
/-- where the search ends -/
def Cuts (p : Nat → Bool) (n k : Nat) : Prop := k ≤ n ∧ (∀ i, i < k → p i = false) ∧ ∀ i, k ≤ i → i < n → p i = true
def SearchRes (p : Nat → Bool) (n : Nat) (w : World) (e : Ending) (w' : World) : Prop := ∃ k : Nat, Cuts p n k ∧ e = .returned (.int .i64 k) ∧ Below w.heap.size w w'
/-- What Find's test stands on: the three boxes. -/
def Boxes (w : World) (b : Nat) (v : Value) (n : ByteArray) (q : Int) : Prop := w.cell? ⟨b, 0, none⟩ = some v ∧ w.cell? ⟨b + 1, 0, none⟩ = some (.string n) ∧ w.cell? ⟨b + 1 + 1, 0, none⟩ = some (.int .i64 q) ∧ b + 1 + 1 < w.heap.size
theorem Boxes.below {w w' : World} {B b : Nat} {v : Value} {n : ByteArray} {q : Int} (h : Boxes w b v n q) (hb : Below B w w') (hB : b + 1 + 1 < B) : Boxes w' b v n q := by
  obtain ⟨h0, h1, h2, h3⟩ := h
  exact ⟨(hb.cell (p := ⟨b, 0, none⟩) (by show b < B; omega)).trans h0, (hb.cell (p := ⟨b + 1, 0, none⟩) (by show b + 1 < B; omega)).trans h1, (hb.cell (p := ⟨b + 2, 0, none⟩) hB).trans h2, Nat.lt_of_lt_of_le h3 hb.size⟩
theorem boxes_new (w : World) (v : Value) (n : ByteArray) (q : Int) (T1 T2 T3 : TypeId) (o : Obj) : Boxes ((((w.alloc (.cells #[v] T1)).alloc (.cells #[.string n] T2)).alloc (.cells #[.int .i64 q] T3)).alloc o) w.heap.size v n q := by
  have e1 := heap_alloc_new w (.cells #[v] T1)
  have e2 := heap_alloc_new (w.alloc (.cells #[v] T1)) (.cells #[.string n] T2)
  have e3 := heap_alloc_new ((w.alloc (.cells #[v] T1)).alloc (.cells #[.string n] T2)) (.cells #[.int .i64 q] T3)
  have c0 : (w.alloc (.cells #[v] T1)).cell? ⟨w.heap.size, 0, none⟩ = some v := by unfold World.cell?; rw [e1]; rfl
  have c1 : ((w.alloc (.cells #[v] T1)).alloc (.cells #[.string n] T2)).cell? ⟨w.heap.size + 1, 0, none⟩ = some (.string n) := by unfold World.cell?; simp only [World.size_alloc] at e2; rw [e2]; rfl
  have c2 : (((w.alloc (.cells #[v] T1)).alloc (.cells #[.string n] T2)).alloc (.cells #[.int .i64 q] T3)).cell? ⟨w.heap.size + 1 + 1, 0, none⟩ = some (.int .i64 q) := by unfold World.cell?; simp only [World.size_alloc] at e3; rw [e3]; rfl
  have b1 := (Below.refl _ (w.alloc (.cells #[v] T1))).alloc (Nat.le_refl _) (.cells #[.string n] T2)
  have b2 := (Below.refl _ ((w.alloc (.cells #[v] T1)).alloc (.cells #[.string n] T2))).alloc (Nat.le_refl _) (.cells #[.int .i64 q] T3)
  have b3 := (Below.refl _ (((w.alloc (.cells #[v] T1)).alloc (.cells #[.string n] T2)).alloc (.cells #[.int .i64 q] T3))).alloc (Nat.le_refl _) o
  refine ⟨?_, ?_, ?_, by simp⟩
  · rw [b3.cell (p := ⟨w.heap.size, 0, none⟩) (by simp; omega), b2.cell (p := ⟨w.heap.size, 0, none⟩) (by simp; omega), b1.cell (p := ⟨w.heap.size, 0, none⟩) (by simp)]; exact c0
  · rw [b3.cell (p := ⟨w.heap.size + 1, 0, none⟩) (by simp), b2.cell (p := ⟨w.heap.size + 1, 0, none⟩) (by simp)]; exact c1
  · rw [b3.cell (p := ⟨w.heap.size + 1 + 1, 0, none⟩) (by simp)]; exact c2
def fp (xs : List Ent) (n : ByteArray) (q : Int) (i : Nat) : Bool := match xs[i]? with
  | some e => reachB e n q
  | none => true
theorem fp_mono {xs : List Ent} (hs : srtB xs = true) (n : ByteArray) (q : Int) : ∀ i j, i < j → fp xs n q i = true → fp xs n q j = true := by
  intro i j hij hi
  have hp := (srtB_pair xs).1 hs
  unfold fp at hi ⊢
  rcases Nat.lt_or_ge j xs.length with h | h
  · rw [List.getElem?_eq_getElem (by omega)] at hi
    rw [List.getElem?_eq_getElem h]
    simp only at hi ⊢
    have hl := List.pairwise_iff_getElem.1 hp i j (by omega) h hij
    have hi2 := of_decide_eq_true hi
    refine decide_eq_true ?_
    unfold ltE at hl
    rcases hi2 with h1 | ⟨h1, h2⟩
    · left
      rcases hl with hl | ⟨hl, -⟩
      · exact bl_trans h1 hl
      · rw [← hl]; exact h1
    · rcases hl with hl | ⟨hl, hl2⟩
      · left; rw [← h1]; exact hl
      · right; exact ⟨by rw [← hl]; exact h1, by omega⟩
  · rw [List.getElem?_eq_none h]
/-- What Find answers. -/
def findV (o : Option Ent) : Value := .tuple #[(o.getD Ent.none).v, .bool o.isSome]
theorem find_none {xs : List Ent} {n : ByteArray} {q : Int} (h : ∀ (i : Nat) (x : Ent), xs[i]? = some x → ¬ (x.norm = n ∧ x.seq ≤ q)) : findE xs n q = none := by
  unfold findE
  rw [List.find?_eq_none]
  intro x hx
  obtain ⟨i, hi, rfl⟩ := List.mem_iff_getElem.1 hx
  have := h i _ (List.getElem?_eq_getElem hi)
  simpa using this
theorem find_some {xs : List Ent} {n : ByteArray} {q : Int} {k : Nat} {x : Ent} (hx : xs[k]? = some x) (h1 : x.norm = n ∧ x.seq ≤ q) (h : ∀ (i : Nat) (y : Ent), i < k → xs[i]? = some y → ¬ (y.norm = n ∧ y.seq ≤ q)) : findE xs n q = some x := by
  obtain ⟨hk, rfl⟩ := List.getElem?_eq_some_iff.1 hx
  unfold findE
  rw [List.find?_eq_some_iff_getElem]
  refine ⟨by simp [h1], k, hk, rfl, fun j hj => ?_⟩
  have := h j _ hj (List.getElem?_eq_getElem (by omega))
  simp only [Bool.not_eq_true', Bool.and_eq_false_imp, decide_eq_true_eq, decide_eq_false_iff_not]
  exact fun e => fun f => this ⟨e, f⟩
theorem fp_no {xs : List Ent} {n : ByteArray} {q : Int} {i : Nat} {x : Ent} (hx : xs[i]? = some x) (h : fp xs n q i = false) : ¬ (x.norm = n ∧ x.seq ≤ q) := by
  unfold fp at h
  rw [hx] at h
  exact fun k => of_decide_eq_false h (.inr k)
/-- The three ends of the search. -/
theorem find_end {xs : List Ent} (hs : srtB xs = true) {n : ByteArray} {q : Int} {k : Nat} (hc : Cuts (fp xs n q) xs.length k) :
    (k = xs.length ∧ findE xs n q = none) ∨ ∃ x, xs[k]? = some x ∧ ((x.norm ≠ n ∧ findE xs n q = none) ∨ (x.norm = n ∧ findE xs n q = some x)) := by
  obtain ⟨h1, h2, h3⟩ := hc
  rcases Nat.lt_or_ge k xs.length with h | h
  · right
    obtain ⟨x, hx⟩ : ∃ x, xs[k]? = some x := ⟨xs[k], List.getElem?_eq_getElem h⟩
    refine ⟨x, hx, ?_⟩
    have hp := h3 k (Nat.le_refl _) h
    unfold fp at hp
    rw [hx] at hp
    have hp2 : bl n x.norm ∨ x.norm = n ∧ x.seq ≤ q := of_decide_eq_true hp
    by_cases e : x.norm = n
    · right
      refine ⟨e, find_some hx ⟨e, ?_⟩ fun i y hi hy => fp_no hy (h2 i hi)⟩
      rcases hp2 with g | g
      · rw [e] at g; exact absurd g (bl_irr _)
      · exact g.2
    · left
      refine ⟨e, find_none fun i y hy => ?_⟩
      have g : bl n x.norm := by
        rcases hp2 with g | g
        · exact g
        · exact absurd g.1 e
      rcases Nat.lt_or_ge i k with hi | hi
      · exact fp_no hy (h2 i hi)
      · rintro ⟨e2, -⟩
        rcases Nat.lt_or_ge k i with hki | hki
        · obtain ⟨hil, rfl⟩ := List.getElem?_eq_some_iff.1 hy
          obtain ⟨hkl, rfl⟩ := List.getElem?_eq_some_iff.1 hx
          have hl := List.pairwise_iff_getElem.1 ((srtB_pair xs).1 hs) k i hkl hil hki
          unfold ltE at hl
          rw [e2] at hl
          rcases hl with hl | ⟨hl, -⟩
          · exact bl_irr _ (bl_trans g hl)
          · exact e hl
        · obtain rfl : i = k := by omega
          rw [hx] at hy
          obtain rfl := Option.some.inj hy
          exact e e2
  · left
    exact ⟨by omega, find_none fun i y hy => fp_no hy (h2 i (by have := (List.getElem?_eq_some_iff.1 hy).1; omega))⟩
theorem findV_none : findV none = .tuple #[.agg #[.string ⟨#[]⟩, .int .i64 0, .int .i64 0, .string ⟨#[]⟩, .string ⟨#[]⟩], .bool false] := rfl
theorem findV_some (x : Ent) : findV (some x) = .tuple #[.agg #[.string x.norm, .int .i64 x.seq, .int .i64 x.kind, .string x.spell, .string x.val], .bool true] := rfl
end Go.Proofs.Ytacaofnonmgfoaa
