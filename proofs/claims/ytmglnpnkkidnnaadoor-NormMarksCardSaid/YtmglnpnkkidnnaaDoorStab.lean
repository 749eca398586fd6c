/- What a stable sort is, in lists: plain Lean. -/
import Derived.Sort.LotA
namespace Go.Proofs.YtmglnpnkkidnnaaDoor
set_option linter.unusedVariables false
open Go.Sort
variable (cl : Int → Int)

/-- Each class's elements in one order. -/
def FEq (L' L : List Int) : Prop := ∀ k : Int, L'.filter (fun x => cl x == k) = L.filter (fun x => cl x == k)
def Asc (L : List Int) : Prop := L.Pairwise fun x y => cl x ≤ cl y
def Stb (L' L : List Int) : Prop := Asc cl L' ∧ FEq cl L' L
variable {cl}
theorem FEq.refl (L : List Int) : FEq cl L L := fun _ => rfl
theorem FEq.trans {A B C : List Int} (h : FEq cl A B) (g : FEq cl B C) : FEq cl A C := fun k => (h k).trans (g k)
theorem FEq.symm {A B : List Int} (h : FEq cl A B) : FEq cl B A := fun k => (h k).symm
theorem FEq.app {A B A' B' : List Int} (h : FEq cl A' A) (g : FEq cl B' B) : FEq cl (A' ++ B') (A ++ B) := fun k => by
  rw [List.filter_append, List.filter_append, h k, g k]
theorem FEq.cancel {P A B S : List Int} (h : FEq cl (P ++ A ++ S) (P ++ B ++ S)) : FEq cl A B := fun k => by
  have := h k
  simp only [List.filter_append] at this
  exact List.append_cancel_left (List.append_cancel_right this)
theorem FEq.mem {A B : List Int} (h : FEq cl A B) {x : Int} (hx : x ∈ A) : x ∈ B := by
  have : x ∈ A.filter (fun y => cl y == cl x) := List.mem_filter.2 ⟨hx, by simp⟩
  rw [h (cl x)] at this
  exact (List.mem_filter.1 this).1
theorem filter_no {A : List Int} {k : Int} (h : ∀ x ∈ A, cl x ≠ k) : A.filter (fun x => cl x == k) = [] := by
  rw [List.filter_eq_nil_iff]; intro x hx; simpa using h x hx
/-- Two parts with no class in common change places. -/
theorem FEq.swap {A B : List Int} (h : ∀ x ∈ A, ∀ y ∈ B, cl x ≠ cl y) : FEq cl (A ++ B) (B ++ A) := fun k => by
  rw [List.filter_append, List.filter_append]
  by_cases hk : ∃ x ∈ A, cl x = k
  · obtain ⟨x, hx, rfl⟩ := hk
    rw [filter_no (A := B) (fun y hy e => h x hx y hy e.symm)]
    simp
  · rw [filter_no (A := A) (fun x hx e => hk ⟨x, hx, e⟩)]
    simp
theorem FEq.length {A : List Int} : ∀ {B : List Int}, FEq cl A B → A.length = B.length := by
  induction A with
  | nil =>
    intro B h
    cases B with
    | nil => rfl
    | cons y B => exact absurd (h.symm.mem (List.mem_cons_self)) (by simp)
  | cons x A ih =>
    intro B h
    obtain ⟨B1, B2, rfl⟩ := List.append_of_mem (h.mem List.mem_cons_self)
    -- take x out of both: its first occurrence within its class
    have hk := h (cl x)
    by_cases hB1 : ∀ y ∈ B1, cl y ≠ cl x
    · have : FEq cl A (B1 ++ B2) := by
        intro k
        have := h k
        rw [List.filter_append] at this ⊢
        by_cases e : cl x = k
        · subst e
          rw [filter_no hB1] at this ⊢
          simpa using this
        · simpa [e] using this
      have := ih this
      simp at this ⊢; omega
    · -- some y of x's class stands ahead of x: then it is x's equal by the filter
      have hne : B1.filter (fun y => cl y == cl x) ≠ [] := by
        intro e
        exact hB1 fun y hy e' => by
          have : y ∈ B1.filter (fun y => cl y == cl x) := List.mem_filter.2 ⟨hy, by simp [e']⟩
          rw [e] at this; cases this
      obtain ⟨y, C, hC⟩ := List.exists_cons_of_ne_nil hne
      rw [List.filter_append, hC] at hk
      simp at hk
      obtain ⟨hxy, hk⟩ := hk
      subst hxy
      -- the first of its class in B1
      have hmem : x ∈ B1 := (List.mem_filter.1 (hC ▸ List.mem_cons_self : x ∈ B1.filter (fun y => cl y == cl x))).1
      have : ∃ D E, B1 = D ++ x :: E ∧ ∀ y ∈ D, cl y ≠ cl x := by
        clear ih h hk hB1 hne hmem
        induction B1 with
        | nil => simp at hC
        | cons z B1 ih =>
          by_cases e : cl z = cl x
          · simp [e] at hC
            exact ⟨[], B1, by simp [hC.1], by simp⟩
          · simp [e] at hC
            obtain ⟨D, E, rfl, hD⟩ := ih hC
            exact ⟨z :: D, E, rfl, by simpa [e] using hD⟩
      obtain ⟨D, E, rfl, hD⟩ := this
      have : FEq cl A (D ++ (E ++ x :: B2)) := by
        intro k
        have := h k
        simp only [List.append_assoc, List.cons_append] at this
        rw [List.filter_append] at this ⊢
        by_cases e : cl x = k
        · subst e
          rw [filter_no hD] at this ⊢
          simpa using this
        · simpa [e] using this
      have := ih this
      simp at this ⊢; omega
/-- THERE IS ONE STABLE ORDER. -/
theorem Stb.unique {A : List Int} : ∀ {B : List Int}, Asc cl A → Asc cl B → FEq cl A B → A = B := by
  induction A with
  | nil =>
    intro B _ _ h
    have := h.length
    exact (List.eq_nil_of_length_eq_zero this.symm).symm
  | cons x A ih =>
    intro B hA hB h
    cases B with
    | nil => exact absurd h.length (by simp)
    | cons y B =>
      have hA' := List.pairwise_cons.1 hA
      have hB' := List.pairwise_cons.1 hB
      have e : cl x = cl y := by
        have h1 : cl y ≤ cl x := by
          rcases List.mem_cons.1 (h.mem List.mem_cons_self) with e | e
          · rw [e]; exact Int.le_refl _
          · exact hB'.1 x e
        have h2 : cl x ≤ cl y := by
          rcases List.mem_cons.1 (h.symm.mem List.mem_cons_self) with e | e
          · rw [e]; exact Int.le_refl _
          · exact hA'.1 y e
        omega
      have := h (cl x)
      simp [e] at this
      obtain ⟨rfl, _⟩ := this
      congr 1
      refine ih hA'.2 hB'.2 fun k => ?_
      have := h k
      by_cases ek : cl x = k
      · simpa [ek] using this
      · simpa [ek] using this
theorem Asc.app {A B : List Int} (hA : Asc cl A) (hB : Asc cl B) (h : ∀ x ∈ A, ∀ y ∈ B, cl x ≤ cl y) : Asc cl (A ++ B) := List.pairwise_append.2 ⟨hA, hB, h⟩
theorem Asc.split {A B : List Int} (h : Asc cl (A ++ B)) : Asc cl A ∧ Asc cl B ∧ ∀ x ∈ A, ∀ y ∈ B, cl x ≤ cl y := List.pairwise_append.1 h
/-- Two parts put in order, all of the first at most all of the second. -/
theorem Stb.app {A B A' B' : List Int} (hA : Stb cl A' A) (hB : Stb cl B' B) (h : ∀ x ∈ A, ∀ y ∈ B, cl x ≤ cl y) : Stb cl (A' ++ B') (A ++ B) :=
  ⟨hA.1.app hB.1 fun x hx y hy => h x (hA.2.mem hx) y (hB.2.mem hy), hA.2.app hB.2⟩
theorem Stb.self {A : List Int} (h : Asc cl A) : Stb cl A A := ⟨h, FEq.refl A⟩

/-! ### an exchange, in lists -/
theorem get_toList (d : Array Int) (L : List Int) (h : d.toList = L) (i : Nat) : d[i]! = L[i]! := by
  subst h; simp [Array.getElem!_eq_getD, Array.getD_eq_getD_getElem?]
theorem swp_list (d : Array Int) (P M S : List Int) (x y : Int) (i j : Nat) (h : d.toList = P ++ x :: (M ++ y :: S)) (hi : i = P.length) (hj : j = P.length + 1 + M.length) :
    (swp d i j).toList = P ++ y :: (M ++ x :: S) := by
  have hs : d.size = P.length + (M.length + 1 + S.length + 1) := by rw [← Array.length_toList, h]; simp; omega
  apply List.ext_getElem
  · simp [swp_size]; omega
  · intro t h1 h2
    have ht : t < d.size := by simpa [swp_size] using h1
    have g := swp_get d (show i < d.size by omega) (show j < d.size by omega) t
    have e1 : (swp d i j).toList[t] = (swp d i j)[t]! := by
      rw [getElem!_pos (swp d i j) t (by rw [swp_size]; exact ht)]; simp
    rw [e1, g]
    have ei : d[i]! = x := by rw [get_toList d _ h, hi]; simp
    have ej : d[j]! = y := by rw [get_toList d _ h, hj]; simp [Nat.add_assoc, Nat.add_comm 1]
    have et : d[t]! = (P ++ x :: (M ++ y :: S))[t]! := get_toList d _ h t
    rw [ei, ej, et]
    have hL : t < (P ++ y :: (M ++ x :: S)).length := h2
    have hL' : t < (P ++ x :: (M ++ y :: S)).length := by simp at hL ⊢; omega
    rw [getElem!_pos _ t hL']
    by_cases c1 : t < P.length
    · rw [if_neg (by omega), if_neg (by omega), List.getElem_append_left c1, List.getElem_append_left c1]
    · rw [List.getElem_append_right (by omega), List.getElem_append_right (by omega)]
      obtain ⟨u, rfl⟩ : ∃ u, t = P.length + u := ⟨t - P.length, by omega⟩
      simp only [Nat.add_sub_cancel_left]
      cases u with
      | zero => subst hi hj; simp; omega
      | succ u =>
        simp only [List.getElem_cons_succ]
        by_cases c2 : u < M.length
        · rw [if_neg (by omega), if_neg (by omega), List.getElem_append_left c2, List.getElem_append_left c2]
        · rw [List.getElem_append_right (by omega), List.getElem_append_right (by omega)]
          obtain ⟨v, rfl⟩ : ∃ v, u = M.length + v := ⟨u - M.length, by omega⟩
          simp only [Nat.add_sub_cancel_left]
          cases v with
          | zero => subst hi hj; simp; omega
          | succ v => simp only [List.getElem_cons_succ]; rw [if_neg (by omega), if_neg (by omega)]
theorem swp_comm (d : Array Int) (i j : Nat) (hi : i < d.size) (hj : j < d.size) : swp d i j = swp d j i := by
  refine Array.ext (by simp [swp_size]) fun t h1 h2 => ?_
  have g1 := swp_get d hi hj t
  have g2 := swp_get d hj hi t
  rw [getElem!_pos _ t h1] at g1
  rw [getElem!_pos _ t h2] at g2
  rw [g1, g2]
  split <;> split <;> simp_all
end Go.Proofs.YtmglnpnkkidnnaaDoor
