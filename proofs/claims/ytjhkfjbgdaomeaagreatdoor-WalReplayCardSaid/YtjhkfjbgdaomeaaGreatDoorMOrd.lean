/- What a stable sort is, in lists: plain Lean. -/
import Derived.Sort.LotA
namespace Go.Proofs.YtjhkfjbgdaomeaaGreatDoor
set_option linter.unusedVariables false
open Go.Sort
variable (cl : Int → Int)

/-- Each class's elements in one order. -/
def FEq (L' L : List Int) : Prop := ∀ k : Int, L'.filter (fun x => cl x == k) = L.filter (fun x => cl x == k)
def Asc (L : List Int) : Prop := L.Pairwise fun x y => cl x ≤ cl y
def Stb (L' L : List Int) : Prop := Asc cl L' ∧ FEq cl L' L
variable {cl}
theorem FEq.refl (L : List Int) : FEq cl L L := fun _ => rfl
theorem FEq.trans {A B C : List Int} (h : FEq cl A B) (g : FEq cl B C) : FEq cl A C := fun k => (h k).trans (g k)
theorem FEq.symm {A B : List Int} (h : FEq cl A B) : FEq cl B A := fun k => (h k).symm
theorem FEq.app {A B A' B' : List Int} (h : FEq cl A' A) (g : FEq cl B' B) : FEq cl (A' ++ B') (A ++ B) := fun k => by
  rw [List.filter_append, List.filter_append, h k, g k]
theorem FEq.cancel {P A B S : List Int} (h : FEq cl (P ++ A ++ S) (P ++ B ++ S)) : FEq cl A B := fun k => by
  have := h k
  simp only [List.filter_append] at this
  exact List.append_cancel_left (List.append_cancel_right this)
theorem FEq.mem {A B : List Int} (h : FEq cl A B) {x : Int} (hx : x ∈ A) : x ∈ B := by
  have : x ∈ A.filter (fun y => cl y == cl x) := List.mem_filter.2 ⟨hx, by simp⟩
  rw [h (cl x)] at this
  exact (List.mem_filter.1 this).1
theorem filter_no {A : List Int} {k : Int} (h : ∀ x ∈ A, cl x ≠ k) : A.filter (fun x => cl x == k) = [] := by
  rw [List.filter_eq_nil_iff]; intro x hx; simpa using h x hx
/-- Two parts with no class in common change places. -/
theorem FEq.swap {A B : List Int} (h : ∀ x ∈ A, ∀ y ∈ B, cl x ≠ cl y) : FEq cl (A ++ B) (B ++ A) := fun k => by
  rw [List.filter_append, List.filter_append]
  by_cases hk : ∃ x ∈ A, cl x = k
  · obtain ⟨x, hx, rfl⟩ := hk
    rw [filter_no (A := B) (fun y hy e => h x hx y hy e.symm)]
    simp
  · rw [filter_no (A := A) (fun x hx e => hk ⟨x, hx, e⟩)]
    simp
theorem FEq.length {A : List Int} : ∀ {B : List Int}, FEq cl A B → A.length = B.length := by
  induction A with
  | nil =>
    intro B h
    cases B with
    | nil => rfl
    | cons y B => exact absurd (h.symm.mem (List.mem_cons_self)) (by simp)
  | cons x A ih =>
    intro B h
    obtain ⟨B1, B2, rfl⟩ := List.append_of_mem (h.mem List.mem_cons_self)
    -- take x out of both: its first occurrence within its class
    have hk := h (cl x)
    by_cases hB1 : ∀ y ∈ B1, cl y ≠ cl x
    · have : FEq cl A (B1 ++ B2) := by
        intro k
        have := h k
        rw [List.filter_append] at this ⊢
        by_cases e : cl x = k
        · subst e
          rw [filter_no hB1] at this ⊢
          simpa using this
        · simpa [e] using this
      have := ih this
      simp at this ⊢; omega
    · -- some y of x's class stands ahead of x: then it is x's equal by the filter
      have hne : B1.filter (fun y => cl y == cl x) ≠ [] := by
        intro e
        exact hB1 fun y hy e' => by
          have : y ∈ B1.filter (fun y => cl y == cl x) := List.mem_filter.2 ⟨hy, by simp [e']⟩
          rw [e] at this; cases this
      obtain ⟨y, C, hC⟩ := List.exists_cons_of_ne_nil hne
      rw [List.filter_append, hC] at hk
      simp at hk
      obtain ⟨hxy, hk⟩ := hk
      subst hxy
      -- the first of its class in B1
      have hmem : x ∈ B1 := (List.mem_filter.1 (hC ▸ List.mem_cons_self : x ∈ B1.filter (fun y => cl y == cl x))).1
      have : ∃ D E, B1 = D ++ x :: E ∧ ∀ y ∈ D, cl y ≠ cl x := by
        clear ih h hk hB1 hne hmem
        induction B1 with
        | nil => simp at hC
        | cons z B1 ih =>
          by_cases e : cl z = cl x
          · simp [e] at hC
            exact ⟨[], B1, by simp [hC.1], by simp⟩
          · simp [e] at hC
            obtain ⟨D, E, rfl, hD⟩ := ih hC
            exact ⟨z :: D, E, rfl, by simpa [e] using hD⟩
      obtain ⟨D, E, rfl, hD⟩ := this
      have : FEq cl A (D ++ (E ++ x :: B2)) := by
        intro k
        have := h k
        simp only [List.append_assoc, List.cons_append] at this
        rw [List.filter_append] at this ⊢
        by_cases e : cl x = k
        · subst e
          rw [filter_no hD] at this ⊢
          simpa using this
        · simpa [e] using this
      have := ih this
      simp at this ⊢; omega
/-- THERE IS ONE STABLE ORDER. -/
theorem Stb.unique {A : List Int} : ∀ {B : List Int}, Asc cl A → Asc cl B → FEq cl A B → A = B := by
  induction A with
  | nil =>
    intro B _ _ h
    have := h.length
    exact (List.eq_nil_of_length_eq_zero this.symm).symm
  | cons x A ih =>
    intro B hA hB h
    cases B with
    | nil => exact absurd h.length (by simp)
    | cons y B =>
      have hA' := List.pairwise_cons.1 hA
      have hB' := List.pairwise_cons.1 hB
      have e : cl x = cl y := by
        have h1 : cl y ≤ cl x := by
          rcases List.mem_cons.1 (h.mem List.mem_cons_self) with e | e
          · rw [e]; exact Int.le_refl _
          · exact hB'.1 x e
        have h2 : cl x ≤ cl y := by
          rcases List.mem_cons.1 (h.symm.mem List.mem_cons_self) with e | e
          · rw [e]; exact Int.le_refl _
          · exact hA'.1 y e
        omega
      have := h (cl x)
      simp [e] at this
      obtain ⟨rfl, _⟩ := this
      congr 1
      refine ih hA'.2 hB'.2 fun k => ?_
      have := h k
      by_cases ek : cl x = k
      · simpa [ek] using this
      · simpa [ek] using this
theorem Asc.app {A B : List Int} (hA : Asc cl A) (hB : Asc cl B) (h : ∀ x ∈ A, ∀ y ∈ B, cl x ≤ cl y) : Asc cl (A ++ B) := List.pairwise_append.2 ⟨hA, hB, h⟩
theorem Asc.split {A B : List Int} (h : Asc cl (A ++ B)) : Asc cl A ∧ Asc cl B ∧ ∀ x ∈ A, ∀ y ∈ B, cl x ≤ cl y := List.pairwise_append.1 h
/-- Two parts put in order, all of the first at most all of the second. -/
theorem Stb.app {A B A' B' : List Int} (hA : Stb cl A' A) (hB : Stb cl B' B) (h : ∀ x ∈ A, ∀ y ∈ B, cl x ≤ cl y) : Stb cl (A' ++ B') (A ++ B) :=
  ⟨hA.1.app hB.1 fun x hx y hy => h x (hA.2.mem hx) y (hB.2.mem hy), hA.2.app hB.2⟩
theorem Stb.self {A : List Int} (h : Asc cl A) : Stb cl A A := ⟨h, FEq.refl A⟩

/-! ### an exchange, in lists -/
theorem get_toList (d : Array Int) (L : List Int) (h : d.toList = L) (i : Nat) : d[i]! = L[i]! := by
  subst h; simp [Array.getElem!_eq_getD, Array.getD_eq_getD_getElem?]
theorem swp_list (d : Array Int) (P M S : List Int) (x y : Int) (i j : Nat) (h : d.toList = P ++ x :: (M ++ y :: S)) (hi : i = P.length) (hj : j = P.length + 1 + M.length) :
    (swp d i j).toList = P ++ y :: (M ++ x :: S) := by
  have hs : d.size = P.length + (M.length + 1 + S.length + 1) := by rw [← Array.length_toList, h]; simp; omega
  apply List.ext_getElem
  · simp [swp_size]; omega
  · intro t h1 h2
    have ht : t < d.size := by simpa [swp_size] using h1
    have g := swp_get d (show i < d.size by omega) (show j < d.size by omega) t
    have e1 : (swp d i j).toList[t] = (swp d i j)[t]! := by
      rw [getElem!_pos (swp d i j) t (by rw [swp_size]; exact ht)]; simp
    rw [e1, g]
    have ei : d[i]! = x := by rw [get_toList d _ h, hi]; simp
    have ej : d[j]! = y := by rw [get_toList d _ h, hj]; simp [Nat.add_assoc, Nat.add_comm 1]
    have et : d[t]! = (P ++ x :: (M ++ y :: S))[t]! := get_toList d _ h t
    rw [ei, ej, et]
    have hL : t < (P ++ y :: (M ++ x :: S)).length := h2
    have hL' : t < (P ++ x :: (M ++ y :: S)).length := by simp at hL ⊢; omega
    rw [getElem!_pos _ t hL']
    by_cases c1 : t < P.length
    · rw [if_neg (by omega), if_neg (by omega), List.getElem_append_left c1, List.getElem_append_left c1]
    · rw [List.getElem_append_right (by omega), List.getElem_append_right (by omega)]
      obtain ⟨u, rfl⟩ : ∃ u, t = P.length + u := ⟨t - P.length, by omega⟩
      simp only [Nat.add_sub_cancel_left]
      cases u with
      | zero => subst hi hj; simp; omega
      | succ u =>
        simp only [List.getElem_cons_succ]
        by_cases c2 : u < M.length
        · rw [if_neg (by omega), if_neg (by omega), List.getElem_append_left c2, List.getElem_append_left c2]
        · rw [List.getElem_append_right (by omega), List.getElem_append_right (by omega)]
          obtain ⟨v, rfl⟩ : ∃ v, u = M.length + v := ⟨u - M.length, by omega⟩
          simp only [Nat.add_sub_cancel_left]
          cases v with
          | zero => subst hi hj; simp; omega
          | succ v => simp only [List.getElem_cons_succ]; rw [if_neg (by omega), if_neg (by omega)]
theorem swp_comm (d : Array Int) (i j : Nat) (hi : i < d.size) (hj : j < d.size) : swp d i j = swp d j i := by
  refine Array.ext (by simp [swp_size]) fun t h1 h2 => ?_
  have g1 := swp_get d hi hj t
  have g2 := swp_get d hj hi t
  rw [getElem!_pos _ t h1] at g1
  rw [getElem!_pos _ t h2] at g2
  rw [g1, g2]
  split <;> split <;> simp_all
end Go.Proofs.YtjhkfjbgdaomeaaGreatDoor
/- A stable sort in place, in lists: exchanges of blocks, merges: plain Lean. -/
namespace Go.Proofs.YtjhkfjbgdaomeaaGreatDoor
set_option linter.unusedVariables false
open Go.Sort
variable {cl : Int → Int}

theorem drop_at {A : List Int} {i : Nat} (h : i < A.length) : A.drop i = A[i]! :: A.drop (i + 1) := by
  rw [List.drop_eq_getElem_cons h, getElem!_pos A i h]
theorem take_at {A : List Int} {i : Nat} (h : i < A.length) : A.take (i + 1) = A.take i ++ [A[i]!] := by
  rw [List.take_succ_eq_append_getElem h, getElem!_pos A i h]
/-- One round of the exchange of two blocks. -/
theorem swapStep {P A M B S : List Int} {d : Array Int} {i a b n : Nat} (hA : A.length = n) (hB : B.length = n) (ha : a = P.length) (hb : b = P.length + n + M.length) (hi : i < n)
    (h : d.toList = P ++ (B.take i ++ (A.drop i ++ (M ++ (A.take i ++ (B.drop i ++ S)))))) :
    (swp d (a + i) (b + i)).toList = P ++ (B.take (i + 1) ++ (A.drop (i + 1) ++ (M ++ (A.take (i + 1) ++ (B.drop (i + 1) ++ S))))) := by
  have l1 : (B.take i).length = i := by simp; omega
  have l2 : (A.take i).length = i := by simp; omega
  have e : d.toList = (P ++ B.take i) ++ A[i]! :: ((A.drop (i + 1) ++ (M ++ A.take i)) ++ B[i]! :: (B.drop (i + 1) ++ S)) := by
    rw [h, drop_at (A := A) (by omega), drop_at (A := B) (by omega)]
    simp
  rw [swp_list d _ _ _ _ _ (a + i) (b + i) e (by simp; omega) (by simp; omega), take_at (A := A) (by omega), take_at (A := B) (by omega)]
  simp
/-- One step of x through Y, upwards. -/
theorem upStep {P Y S : List Int} {x : Int} {d : Array Int} {t a : Nat} (ha : a = P.length) (ht : t < Y.length) (h : d.toList = P ++ (Y.take t ++ (x :: (Y.drop t ++ S)))) :
    (swp d (a + t) (a + t + 1)).toList = P ++ (Y.take (t + 1) ++ (x :: (Y.drop (t + 1) ++ S))) := by
  have l1 : (Y.take t).length = t := by simp; omega
  have e : d.toList = (P ++ Y.take t) ++ x :: ([] ++ Y[t]! :: (Y.drop (t + 1) ++ S)) := by
    rw [h, drop_at (A := Y) (by omega)]; simp
  rw [swp_list d _ _ _ _ _ (a + t) (a + t + 1) e (by simp; omega) (by simp; omega), take_at (A := Y) (by omega)]
  simp
/-- .. downwards. -/
theorem downStep {P Y S : List Int} {x : Int} {d : Array Int} {t a : Nat} (ha : a = P.length) (ht : t < Y.length) (h : d.toList = P ++ (Y.take (t + 1) ++ (x :: (Y.drop (t + 1) ++ S)))) :
    (swp d (a + t + 1) (a + t)).toList = P ++ (Y.take t ++ (x :: (Y.drop t ++ S))) := by
  have l1 : (Y.take t).length = t := by simp; omega
  have e : d.toList = (P ++ Y.take t) ++ Y[t]! :: ([] ++ x :: (Y.drop (t + 1) ++ S)) := by
    rw [h, take_at (A := Y) (by omega)]; simp
  have hs : d.size = P.length + (t + 1 + (1 + (Y.length - (t + 1) + S.length))) := by rw [← Array.length_toList, h]; simp; omega
  rw [swp_comm d _ _ (by omega) (by omega), swp_list d _ _ _ _ _ (a + t) (a + t + 1) e (by simp; omega) (by simp; omega), drop_at (A := Y) (i := t) (by omega)]
  simp
theorem swp_adj {d : Array Int} {j : Nat} (hj : j + 1 < d.size) (h : cl d[j + 1]! ≠ cl d[j]!) : FEq cl (swp d (j + 1) j).toList d.toList := by
  have hl : d.toList.length = d.size := Array.length_toList
  have e : d.toList = d.toList.take j ++ d[j]! :: ([] ++ d[j + 1]! :: d.toList.drop (j + 2)) := by
    conv => lhs; rw [← List.take_append_drop j d.toList, drop_at (A := d.toList) (i := j) (by omega), drop_at (A := d.toList) (i := j + 1) (by omega)]
    rw [get_toList d _ rfl j, get_toList d _ rfl (j + 1)]; rfl
  rw [swp_comm d _ _ (by omega) (by omega), swp_list d _ _ _ _ _ j (j + 1) e (by simp; omega) (by simp; omega)]
  conv => rhs; rw [e]
  refine (FEq.refl _).app ?_
  have : FEq cl ([d[j + 1]!] ++ [d[j]!]) ([d[j]!] ++ [d[j + 1]!]) := FEq.swap (by simpa using h)
  exact this.app (FEq.refl (d.toList.drop (j + 2)))
theorem insInner_feq {lt : Int → Int → Bool} (hlt : ∀ x y, lt x y = decide (cl x < cl y)) (a : Nat) : ∀ (j : Nat) (d : Array Int), j < d.size → FEq cl (insInner lt a j d).toList d.toList ∧ (insInner lt a j d).size = d.size := by
  intro j
  induction j with
  | zero => intro d _; unfold insInner; exact ⟨FEq.refl _, rfl⟩
  | succ j ih =>
    intro d hj
    unfold insInner
    split
    · rename_i hc
      rw [Bool.and_eq_true, hlt, decide_eq_true_eq, decide_eq_true_eq] at hc
      have := ih (swp d (j + 1) j) (by rw [swp_size]; omega)
      exact ⟨this.1.trans (swp_adj hj (by omega)), by rw [this.2, swp_size]⟩
    · exact ⟨FEq.refl _, rfl⟩
theorem insOuter_feq {lt : Int → Int → Bool} (hlt : ∀ x y, lt x y = decide (cl x < cl y)) (a b : Nat) : ∀ (n i : Nat) (d : Array Int), b - i ≤ n → b ≤ d.size → FEq cl (insOuter lt a b i d).toList d.toList := by
  intro n
  induction n with
  | zero => intro i d hn hb; unfold insOuter; rw [if_neg (by omega)]; exact FEq.refl _
  | succ n ih =>
    intro i d hn hb
    unfold insOuter
    split
    · have h := insInner_feq hlt a i d (by omega)
      exact (ih (i + 1) _ (by omega) (by rw [h.2]; exact hb)).trans h.1
    · exact FEq.refl _
theorem swo_cl {lt : Int → Int → Bool} (hlt : ∀ x y, lt x y = decide (cl x < cl y)) : SWO lt := ⟨fun x => by rw [hlt]; simp, fun x y z h g => by rw [hlt, decide_eq_true_eq] at *; omega, fun x y z h g => by rw [hlt, decide_eq_false_iff_not] at *; omega⟩
/-- THE INSERTION SORT OF A PART IS STABLE. -/
theorem insertion_stb {lt : Int → Int → Bool} (hlt : ∀ x y, lt x y = decide (cl x < cl y)) (d : Array Int) (P A S : List Int) (a b : Nat) (h : d.toList = P ++ (A ++ S)) (ha : a = P.length) (hb : b = P.length + A.length) :
    ∃ A', (insertionSort lt d a b).toList = P ++ (A' ++ S) ∧ Stb cl A' A ∧ (insertionSort lt d a b).size = d.size := by
  have hs : d.size = P.length + (A.length + S.length) := by rw [← Array.length_toList, h]; simp
  obtain ⟨⟨p1, p2, _⟩, p3⟩ := insertionSort_holds (swo_cl hlt) d a b (by omega) (by omega)
  have pf : FEq cl (insertionSort lt d a b).toList d.toList := insOuter_feq hlt a b _ _ d (Nat.le_refl _) (by omega)
  generalize insertionSort lt d a b = d' at *
  have hl : d'.toList.length = d.size := by simp [p1]
  have e : d'.toList = P ++ (((d'.toList.drop a).take (b - a)) ++ S) := by
    apply List.ext_getElem
    · simp; omega
    · intro t h1 h2
      have g1 : d'.toList[t] = d'[t]! := by rw [getElem!_pos d' t (by simpa using h1)]; simp
      by_cases c1 : t < P.length
      · have := p2 t (.inl (by omega))
        rw [g1, this, List.getElem_append_left c1, get_toList d _ h, getElem!_pos _ t (by simp; omega), List.getElem_append_left c1]
      · rw [List.getElem_append_right (by omega)]
        by_cases c2 : t - P.length < b - a
        · rw [List.getElem_append_left (by simp; omega)]
          simp [ha, show P.length + (t - P.length) = t by omega]
        · rw [List.getElem_append_right (by simp; omega)]
          have := p2 t (.inr (by omega))
          have hLS : t - (P.length + A.length) < S.length := by rw [hl] at h1; omega
          rw [g1, this, get_toList d _ h, getElem!_pos _ t (by simp; rw [hl] at h1; omega), List.getElem_append_right (by omega), List.getElem_append_right (by omega)]
          congr 1
          simp; omega
  refine ⟨_, e, ⟨?_, ?_⟩, p1⟩
  · refine List.pairwise_iff_getElem.2 fun i j hi hj hij => ?_
    have hi' : a + i < d'.size := by simp at hi; omega
    have hj' : a + j < d'.size := by simp at hj; omega
    have := p3 (a + i) (a + j) (by omega) (by omega) (by simp at hj; omega)
    rw [hlt, decide_eq_false_iff_not] at this
    rw [getElem!_pos d' (a + i) hi', getElem!_pos d' (a + j) hj'] at this
    simp only [List.getElem_take, List.getElem_drop, Array.getElem_toList]
    omega
  · rw [e, h, ← List.append_assoc, ← List.append_assoc] at pf
    exact pf.cancel
/-! ### merges -/
theorem asc_get {A : List Int} (h : Asc cl A) {t u : Nat} (htu : t ≤ u) (hu : u < A.length) : cl A[t]! ≤ cl A[u]! := by
  rcases Nat.lt_or_ge t u with h' | h'
  · have := List.pairwise_iff_getElem.1 h t u (by omega) hu h'
    rwa [getElem!_pos A t (by omega), getElem!_pos A u hu]
  · obtain rfl : t = u := by omega
    exact Int.le_refl _
theorem mem_take {A : List Int} {r : Nat} {x : Int} (h : x ∈ A.take r) : ∃ t, t < r ∧ t < A.length ∧ x = A[t]! := by
  obtain ⟨t, ht, rfl⟩ := List.getElem_of_mem h
  have ht' : t < min r A.length := by simpa using ht
  exact ⟨t, by omega, by omega, by rw [getElem!_pos A t (by omega)]; simp⟩
theorem mem_drop {A : List Int} {r : Nat} {x : Int} (h : x ∈ A.drop r) : ∃ t, r ≤ t ∧ t < A.length ∧ x = A[t]! := by
  obtain ⟨t, ht, rfl⟩ := List.getElem_of_mem h
  simp at ht
  exact ⟨r + t, by omega, by omega, by rw [getElem!_pos A (r + t) (by omega)]; simp⟩
theorem asc_take {A : List Int} (h : Asc cl A) (r : Nat) : Asc cl (A.take r) ∧ Asc cl (A.drop r) ∧ ∀ x ∈ A.take r, ∀ y ∈ A.drop r, cl x ≤ cl y := by
  rw [← List.take_append_drop r A] at h
  exact h.split
/-- One element ahead of a part in order goes to its place. -/
theorem left_stb {B : List Int} {x : Int} {r : Nat} (hB : Asc cl B) (h1 : ∀ t, t < r → t < B.length → cl B[t]! < cl x) (h2 : ∀ t, r ≤ t → t < B.length → cl x ≤ cl B[t]!) : Stb cl (B.take r ++ x :: B.drop r) ([x] ++ B) := by
  have hs := asc_take hB r
  have m1 : ∀ z ∈ B.take r, cl z < cl x := fun z hz => by obtain ⟨t, h, h', rfl⟩ := mem_take hz; exact h1 t h h'
  have m2 : ∀ z ∈ B.drop r, cl x ≤ cl z := fun z hz => by obtain ⟨t, h, h', rfl⟩ := mem_drop hz; exact h2 t h h'
  refine ⟨hs.1.app (List.pairwise_cons.2 ⟨m2, hs.2.1⟩) fun z hz y hy => ?_, ?_⟩
  · rcases List.mem_cons.1 hy with rfl | hy
    · have := m1 z hz; omega
    · exact hs.2.2 z hz y hy
  · conv => rhs; rw [← List.take_append_drop r B]
    have : FEq cl (B.take r ++ [x]) ([x] ++ B.take r) := FEq.swap fun z hz y hy => by
      rw [List.mem_singleton.1 hy]; have := m1 z hz; omega
    have := this.app (FEq.refl (B.drop r))
    simpa using this
/-- One element behind a part in order goes to its place. -/
theorem right_stb {A : List Int} {y : Int} {r : Nat} (hA : Asc cl A) (h1 : ∀ t, t < r → t < A.length → cl A[t]! ≤ cl y) (h2 : ∀ t, r ≤ t → t < A.length → cl y < cl A[t]!) : Stb cl (A.take r ++ y :: A.drop r) (A ++ [y]) := by
  have hs := asc_take hA r
  have m1 : ∀ z ∈ A.take r, cl z ≤ cl y := fun z hz => by obtain ⟨t, h, h', rfl⟩ := mem_take hz; exact h1 t h h'
  have m2 : ∀ z ∈ A.drop r, cl y < cl z := fun z hz => by obtain ⟨t, h, h', rfl⟩ := mem_drop hz; exact h2 t h h'
  refine ⟨hs.1.app (List.pairwise_cons.2 ⟨fun z hz => by have := m2 z hz; omega, hs.2.1⟩) fun z hz w hw => ?_, ?_⟩
  · rcases List.mem_cons.1 hw with rfl | hw
    · exact m1 z hz
    · exact hs.2.2 z hz w hw
  · conv => rhs; rw [← List.take_append_drop r A]
    have : FEq cl ([y] ++ A.drop r) (A.drop r ++ [y]) := FEq.swap fun z hz w hw => by
      rw [List.mem_singleton.1 hz]; have := m2 w hw; omega
    have := (FEq.refl (A.take r)).app this
    rw [← List.append_assoc (A.take r) (A.drop r), List.take_append_drop] at this
    rw [List.take_append_drop]
    exact this
/-- THE MERGE BY HALVES: A = A1 ++ X, B = Y ++ B2: X and Y change places; each half is merged. -/
theorem half_stb {A1 X Y B2 R1 R2 : List Int} (hA : Asc cl (A1 ++ X)) (hB : Asc cl (Y ++ B2)) (hYX : ∀ y ∈ Y, ∀ x ∈ X, cl y < cl x) (hAB : ∀ x ∈ A1, ∀ y ∈ B2, cl x ≤ cl y)
    (h1 : Stb cl R1 (A1 ++ Y)) (h2 : Stb cl R2 (X ++ B2)) : Stb cl (R1 ++ R2) ((A1 ++ X) ++ (Y ++ B2)) := by
  have a := hA.split
  have b := hB.split
  have : Stb cl (R1 ++ R2) ((A1 ++ Y) ++ (X ++ B2)) := h1.app h2 fun x hx y hy => by
    rcases List.mem_append.1 hx with hx | hx <;> rcases List.mem_append.1 hy with hy | hy
    · exact a.2.2 x hx y hy
    · exact hAB x hx y hy
    · exact Int.le_of_lt (hYX x hx y hy)
    · exact b.2.2 x hx y hy
  refine ⟨this.1, this.2.trans ?_⟩
  have e : FEq cl (Y ++ X) (X ++ Y) := FEq.swap fun y hy x hx => by have := hYX y hy x hx; omega
  have := ((FEq.refl A1).app e).app (FEq.refl (cl := cl) B2)
  simpa using this
end Go.Proofs.YtjhkfjbgdaomeaaGreatDoor
/- The canonical order, in lists: plain Lean. -/
namespace Go.Proofs.YtjhkfjbgdaomeaaGreatDoor
set_option linter.unusedVariables false
open Go.Sort
variable (cl : Int → Int)

/-- x goes ahead, from the end (the list stands the wrong way round). -/
def insR (x : Int) : List Int → List Int
  | [] => [x]
  | y :: R => if 0 < cl x ∧ cl x < cl y then y :: insR x R else x :: y :: R
def ins (X : List Int) (x : Int) : List Int := (insR cl x X.reverse).reverse
def ordF (Z L : List Int) : List Int := L.foldl (ins cl) Z
def orderP (L : List Int) : List Int := ordF cl [] L
variable {cl}
theorem ins_nil (x : Int) : ins cl [] x = [x] := rfl
theorem ins_snoc (X : List Int) (y x : Int) : ins cl (X ++ [y]) x = if 0 < cl x ∧ cl x < cl y then ins cl X x ++ [y] else X ++ [y, x] := by
  unfold ins
  rw [List.reverse_append]
  show (insR cl x (y :: X.reverse)).reverse = _
  rw [insR]
  split <;> simp
theorem ins_pass {X : List Int} {y x : Int} (h : 0 < cl x) (h' : cl x < cl y) : ins cl (X ++ [y]) x = ins cl X x ++ [y] := by rw [ins_snoc, if_pos ⟨h, h'⟩]
theorem ins_stay {X : List Int} {y x : Int} (h : ¬ (0 < cl x ∧ cl x < cl y)) : ins cl (X ++ [y]) x = X ++ [y, x] := by rw [ins_snoc, if_neg h]
theorem snoc_ind {p : List Int → Prop} (h0 : p []) (h1 : ∀ X y, p X → p (X ++ [y])) (X : List Int) : p X := by
  rw [← List.reverse_reverse X]
  induction X.reverse with
  | nil => exact h0
  | cons y R ih => rw [List.reverse_cons]; exact h1 _ _ ih
theorem ins_starter {X : List Int} {x : Int} (h : cl x ≤ 0) : ins cl X x = X ++ [x] := by
  induction X using snoc_ind with
  | h0 => rfl
  | h1 X y ih => rw [ins_stay (by omega)]; simp
theorem ins_feq (X : List Int) (x : Int) : FEq cl (ins cl X x) (X ++ [x]) := by
  induction X using snoc_ind with
  | h0 => exact FEq.refl _
  | h1 X y ih =>
    by_cases h : 0 < cl x ∧ cl x < cl y
    · rw [ins_pass h.1 h.2]
      refine (ih.app (FEq.refl [y])).trans ?_
      rw [List.append_assoc, List.append_assoc]
      exact (FEq.refl X).app (FEq.swap (A := [x]) (B := [y]) (by intro a ha b hb; rw [List.mem_singleton.1 ha, List.mem_singleton.1 hb]; omega))
    · rw [ins_stay h]; simp only [List.append_assoc]; exact FEq.refl _
theorem ins_perm (X : List Int) (x : Int) : (ins cl X x).Perm (X ++ [x]) := by
  induction X using snoc_ind with
  | h0 => exact List.Perm.refl _
  | h1 X y ih =>
    rw [ins_snoc]
    split
    · refine (ih.append_right [y]).trans ?_
      rw [List.append_assoc, List.append_assoc]
      exact (List.Perm.swap y x []).append_left X
    · simp
theorem ordF_nil (Z : List Int) : ordF cl Z [] = Z := rfl
theorem ordF_cons (Z L : List Int) (x : Int) : ordF cl Z (x :: L) = ordF cl (ins cl Z x) L := rfl
theorem ordF_snoc (Z L : List Int) (x : Int) : ordF cl Z (L ++ [x]) = ins cl (ordF cl Z L) x := by simp [ordF]
theorem ordF_app (Z L M : List Int) : ordF cl Z (L ++ M) = ordF cl (ordF cl Z L) M := by simp [ordF]
theorem ordF_perm (Z L : List Int) : (ordF cl Z L).Perm (Z ++ L) := by
  induction L using snoc_ind with
  | h0 => simp [ordF]
  | h1 L x ih => rw [ordF_snoc, ← List.append_assoc]; exact (ins_perm _ x).trans (ih.append_right [x])
theorem ordF_feq (Z L : List Int) : FEq cl (ordF cl Z L) (Z ++ L) := by
  induction L using snoc_ind with
  | h0 => simpa [ordF] using FEq.refl Z
  | h1 L x ih => rw [ordF_snoc, ← List.append_assoc]; exact (ins_feq _ x).trans (ih.app (FEq.refl [x]))
theorem orderP_perm (L : List Int) : (orderP cl L).Perm L := ordF_perm (cl := cl) [] L
theorem orderP_feq (L : List Int) : FEq cl (orderP cl L) L := ordF_feq (cl := cl) [] L
theorem orderP_len (L : List Int) : (orderP cl L).length = L.length := (orderP_perm L).length_eq
theorem orderP_mem (L : List Int) (x : Int) : x ∈ orderP cl L ↔ x ∈ L := (orderP_perm L).mem_iff
theorem orderP_snoc (L : List Int) (x : Int) : orderP cl (L ++ [x]) = ins cl (orderP cl L) x := ordF_snoc [] L x
/-- Behind the last starter. -/
def EndsLow (cl : Int → Int) (Z : List Int) : Prop := ∀ Y y, Z = Y ++ [y] → cl y ≤ 0
theorem ins_run {Z X : List Int} {x : Int} (hZ : EndsLow cl Z) (hx : 0 < cl x) : ins cl (Z ++ X) x = Z ++ ins cl X x := by
  induction X using snoc_ind with
  | h0 =>
    rw [List.append_nil]
    rcases List.eq_nil_or_concat Z with rfl | ⟨Y, y, rfl⟩
    · rfl
    · rw [List.concat_eq_append] at *
      have := hZ Y y rfl
      rw [ins_stay (by omega), ins_nil]; simp
  | h1 X y ih =>
    rw [← List.append_assoc, ins_snoc, ins_snoc]
    split
    · rw [ih]; simp
    · simp
theorem ordF_run {Z : List Int} (hZ : EndsLow cl Z) (L : List Int) (hL : ∀ x ∈ L, 0 < cl x) : ordF cl Z L = Z ++ orderP cl L := by
  induction L using snoc_ind with
  | h0 => simp [ordF, orderP]
  | h1 L x ih =>
    rw [ordF_snoc, orderP_snoc, ih (fun y hy => hL y (by simp [hy])), ins_run hZ (hL x (by simp))]
theorem ins_asc {X : List Int} {x : Int} (hX : Asc cl X) (hx : 0 < cl x) : Asc cl (ins cl X x) := by
  induction X using snoc_ind with
  | h0 => exact List.pairwise_singleton _ _
  | h1 X y ih =>
    have s := hX.split
    rw [ins_snoc]
    split
    · rename_i h
      refine (ih s.1).app s.2.1 fun z hz w hw => ?_
      rw [List.mem_singleton.1 hw]
      rcases List.mem_append.1 ((ins_perm X x).mem_iff.1 hz) with hz | hz
      · exact s.2.2 z hz y (by simp)
      · rw [List.mem_singleton.1 hz]; omega
    · rename_i h
      have : X ++ [y, x] = (X ++ [y]) ++ [x] := by simp
      rw [this]
      refine hX.app (List.pairwise_singleton _ _) fun z hz w hw => ?_
      rw [List.mem_singleton.1 hw]
      rcases List.mem_append.1 hz with hz | hz
      · have := s.2.2 z hz y (by simp); omega
      · rw [List.mem_singleton.1 hz]; omega
theorem orderP_asc (L : List Int) (hL : ∀ x ∈ L, 0 < cl x) : Asc cl (orderP cl L) := by
  induction L using snoc_ind with
  | h0 => exact List.Pairwise.nil
  | h1 L x ih => rw [orderP_snoc]; exact ins_asc (ih fun y hy => hL y (by simp [hy])) (hL x (by simp))
/-- A RUN PUT IN ORDER BY WHATEVER STABLE SORT. -/
theorem orderP_stb {L R : List Int} (hL : ∀ x ∈ L, 0 < cl x) (h : Stb cl R L) : orderP cl L = R :=
  Stb.unique (orderP_asc L hL) h.1 ((orderP_feq L).trans h.2.symm)
/-- Unlike classes above 0 may stand in any order. -/
theorem ins_comm (X : List Int) (a b : Int) (ha : 0 < cl a) (hb : 0 < cl b) (h : cl a ≠ cl b) : ins cl (ins cl X a) b = ins cl (ins cl X b) a := by
  induction X using snoc_ind with
  | h0 =>
    have e1 : ins cl [a] b = if 0 < cl b ∧ cl b < cl a then [b, a] else [a, b] := by
      have := ins_snoc (cl := cl) [] a b; simpa [ins_nil] using this
    have e2 : ins cl [b] a = if 0 < cl a ∧ cl a < cl b then [a, b] else [b, a] := by
      have := ins_snoc (cl := cl) [] b a; simpa [ins_nil] using this
    rw [ins_nil, ins_nil, e1, e2]
    split <;> split <;> first | rfl | omega
  | h1 X y ih =>
    have two : ∀ (u v : Int), X ++ [u, v] = (X ++ [u]) ++ [v] := fun u v => by simp
    by_cases h1 : cl a < cl y <;> by_cases h2 : cl b < cl y
    · rw [ins_pass ha h1, ins_pass hb h2, ins_pass hb h2, ins_pass ha h1, ih]
    · rw [ins_pass ha h1, ins_stay (X := ins cl X a) (by omega), ins_stay (by omega), two y b, ins_pass ha (by omega), ins_pass ha h1]; simp
    · rw [ins_pass hb h2, ins_stay (X := X) (x := a) (by omega), two y a, ins_pass hb (by omega), ins_pass hb h2, ins_stay (by omega)]; simp
    · rw [ins_stay (x := a) (by omega), ins_stay (x := b) (by omega), two y a, two y b, ins_snoc (X ++ [y]) a b, ins_snoc (X ++ [y]) b a, ins_stay (X := X) (x := b) (by omega), ins_stay (X := X) (x := a) (by omega)]
      split <;> split <;> first | omega | simp
theorem ordF_ins (Z X : List Int) (x : Int) : ordF cl Z (ins cl X x) = ordF cl Z (X ++ [x]) := by
  induction X using snoc_ind with
  | h0 => rfl
  | h1 X y ih =>
    rw [ins_snoc]
    split
    · rename_i h
      rw [ordF_snoc, ih, ordF_snoc, ordF_snoc, ordF_snoc, ins_comm _ x y h.1 (by omega) (by omega)]
    · simp
theorem ordF_order (Z L : List Int) : ordF cl Z (orderP cl L) = ordF cl Z L := by
  induction L using snoc_ind with
  | h0 => rfl
  | h1 L x ih => rw [orderP_snoc, ordF_ins, ordF_snoc, ordF_snoc, ih]
theorem orderP_idem (L : List Int) : orderP cl (orderP cl L) = orderP cl L := ordF_order [] L
theorem orderP_app (A B : List Int) : orderP cl (orderP cl A ++ orderP cl B) = orderP cl (A ++ B) := by
  unfold orderP
  rw [ordF_app, ordF_app]
  show ordF cl (orderP cl (orderP cl A)) (orderP cl B) = _
  rw [orderP_idem, ordF_order]; rfl
/-- Equal ones, or one that is a starter: the order is seen. -/
theorem order_seen (X : List Int) (a b : Int) (hn : a ≠ b) (h : cl a ≤ 0 ∨ cl b ≤ 0 ∨ cl a = cl b) : orderP cl (X ++ [a, b]) ≠ orderP cl (X ++ [b, a]) := by
  have two : ∀ (u v : Int), X ++ [u, v] = (X ++ [u]) ++ [v] := fun u v => by simp
  by_cases e : cl a = cl b
  · intro h'
    have f1 := orderP_feq (cl := cl) (X ++ [a, b]) (cl a)
    have f2 := orderP_feq (cl := cl) (X ++ [b, a]) (cl a)
    rw [h', f2] at f1
    simp [e] at f1
    exact hn f1.1.symm
  · rw [two a b, two b a, orderP_snoc, orderP_snoc, orderP_snoc, orderP_snoc]
    intro h'
    -- the starter stays where it is, the other behind it or ahead of it
    by_cases ha : cl a ≤ 0
    · rw [ins_starter (x := a) ha, ins_stay (by omega), ins_starter (X := ins cl _ b) ha] at h'
      have := congrArg List.getLast? h'
      simp at this
      exact hn this.symm
    · by_cases hb : cl b ≤ 0
      · rw [ins_starter (x := b) hb, ins_starter (X := orderP cl X) hb, ins_stay (by omega)] at h'
        have := congrArg List.getLast? h'
        simp at this
        exact hn this.symm
      · omega
end Go.Proofs.YtjhkfjbgdaomeaaGreatDoor
