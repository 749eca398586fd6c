/- A stable sort in place, in lists: exchanges of blocks, merges: plain Lean. -/
import Derived.Test.YtmglnpnkkidnnaaDoorStab
namespace Go.Proofs.YtmglnpnkkidnnaaDoor
set_option linter.unusedVariables false
open Go.Sort
variable {cl : Int → Int}

theorem drop_at {A : List Int} {i : Nat} (h : i < A.length) : A.drop i = A[i]! :: A.drop (i + 1) := by
  rw [List.drop_eq_getElem_cons h, getElem!_pos A i h]
theorem take_at {A : List Int} {i : Nat} (h : i < A.length) : A.take (i + 1) = A.take i ++ [A[i]!] := by
  rw [List.take_succ_eq_append_getElem h, getElem!_pos A i h]
/-- One round of the exchange of two blocks. -/
theorem swapStep {P A M B S : List Int} {d : Array Int} {i a b n : Nat} (hA : A.length = n) (hB : B.length = n) (ha : a = P.length) (hb : b = P.length + n + M.length) (hi : i < n)
    (h : d.toList = P ++ (B.take i ++ (A.drop i ++ (M ++ (A.take i ++ (B.drop i ++ S)))))) :
    (swp d (a + i) (b + i)).toList = P ++ (B.take (i + 1) ++ (A.drop (i + 1) ++ (M ++ (A.take (i + 1) ++ (B.drop (i + 1) ++ S))))) := by
  have l1 : (B.take i).length = i := by simp; omega
  have l2 : (A.take i).length = i := by simp; omega
  have e : d.toList = (P ++ B.take i) ++ A[i]! :: ((A.drop (i + 1) ++ (M ++ A.take i)) ++ B[i]! :: (B.drop (i + 1) ++ S)) := by
    rw [h, drop_at (A := A) (by omega), drop_at (A := B) (by omega)]
    simp
  rw [swp_list d _ _ _ _ _ (a + i) (b + i) e (by simp; omega) (by simp; omega), take_at (A := A) (by omega), take_at (A := B) (by omega)]
  simp
/-- One step of x through Y, upwards. -/
theorem upStep {P Y S : List Int} {x : Int} {d : Array Int} {t a : Nat} (ha : a = P.length) (ht : t < Y.length) (h : d.toList = P ++ (Y.take t ++ (x :: (Y.drop t ++ S)))) :
    (swp d (a + t) (a + t + 1)).toList = P ++ (Y.take (t + 1) ++ (x :: (Y.drop (t + 1) ++ S))) := by
  have l1 : (Y.take t).length = t := by simp; omega
  have e : d.toList = (P ++ Y.take t) ++ x :: ([] ++ Y[t]! :: (Y.drop (t + 1) ++ S)) := by
    rw [h, drop_at (A := Y) (by omega)]; simp
  rw [swp_list d _ _ _ _ _ (a + t) (a + t + 1) e (by simp; omega) (by simp; omega), take_at (A := Y) (by omega)]
  simp
/-- .. downwards. -/
theorem downStep {P Y S : List Int} {x : Int} {d : Array Int} {t a : Nat} (ha : a = P.length) (ht : t < Y.length) (h : d.toList = P ++ (Y.take (t + 1) ++ (x :: (Y.drop (t + 1) ++ S)))) :
    (swp d (a + t + 1) (a + t)).toList = P ++ (Y.take t ++ (x :: (Y.drop t ++ S))) := by
  have l1 : (Y.take t).length = t := by simp; omega
  have e : d.toList = (P ++ Y.take t) ++ Y[t]! :: ([] ++ x :: (Y.drop (t + 1) ++ S)) := by
    rw [h, take_at (A := Y) (by omega)]; simp
  have hs : d.size = P.length + (t + 1 + (1 + (Y.length - (t + 1) + S.length))) := by rw [← Array.length_toList, h]; simp; omega
  rw [swp_comm d _ _ (by omega) (by omega), swp_list d _ _ _ _ _ (a + t) (a + t + 1) e (by simp; omega) (by simp; omega), drop_at (A := Y) (i := t) (by omega)]
  simp
theorem swp_adj {d : Array Int} {j : Nat} (hj : j + 1 < d.size) (h : cl d[j + 1]! ≠ cl d[j]!) : FEq cl (swp d (j + 1) j).toList d.toList := by
  have hl : d.toList.length = d.size := Array.length_toList
  have e : d.toList = d.toList.take j ++ d[j]! :: ([] ++ d[j + 1]! :: d.toList.drop (j + 2)) := by
    conv => lhs; rw [← List.take_append_drop j d.toList, drop_at (A := d.toList) (i := j) (by omega), drop_at (A := d.toList) (i := j + 1) (by omega)]
    rw [get_toList d _ rfl j, get_toList d _ rfl (j + 1)]; rfl
  rw [swp_comm d _ _ (by omega) (by omega), swp_list d _ _ _ _ _ j (j + 1) e (by simp; omega) (by simp; omega)]
  conv => rhs; rw [e]
  refine (FEq.refl _).app ?_
  have : FEq cl ([d[j + 1]!] ++ [d[j]!]) ([d[j]!] ++ [d[j + 1]!]) := FEq.swap (by simpa using h)
  exact this.app (FEq.refl (d.toList.drop (j + 2)))
theorem insInner_feq {lt : Int → Int → Bool} (hlt : ∀ x y, lt x y = decide (cl x < cl y)) (a : Nat) : ∀ (j : Nat) (d : Array Int), j < d.size → FEq cl (insInner lt a j d).toList d.toList ∧ (insInner lt a j d).size = d.size := by
  intro j
  induction j with
  | zero => intro d _; unfold insInner; exact ⟨FEq.refl _, rfl⟩
  | succ j ih =>
    intro d hj
    unfold insInner
    split
    · rename_i hc
      rw [Bool.and_eq_true, hlt, decide_eq_true_eq, decide_eq_true_eq] at hc
      have := ih (swp d (j + 1) j) (by rw [swp_size]; omega)
      exact ⟨this.1.trans (swp_adj hj (by omega)), by rw [this.2, swp_size]⟩
    · exact ⟨FEq.refl _, rfl⟩
theorem insOuter_feq {lt : Int → Int → Bool} (hlt : ∀ x y, lt x y = decide (cl x < cl y)) (a b : Nat) : ∀ (n i : Nat) (d : Array Int), b - i ≤ n → b ≤ d.size → FEq cl (insOuter lt a b i d).toList d.toList := by
  intro n
  induction n with
  | zero => intro i d hn hb; unfold insOuter; rw [if_neg (by omega)]; exact FEq.refl _
  | succ n ih =>
    intro i d hn hb
    unfold insOuter
    split
    · have h := insInner_feq hlt a i d (by omega)
      exact (ih (i + 1) _ (by omega) (by rw [h.2]; exact hb)).trans h.1
    · exact FEq.refl _
theorem swo_cl {lt : Int → Int → Bool} (hlt : ∀ x y, lt x y = decide (cl x < cl y)) : SWO lt := ⟨fun x => by rw [hlt]; simp, fun x y z h g => by rw [hlt, decide_eq_true_eq] at *; omega, fun x y z h g => by rw [hlt, decide_eq_false_iff_not] at *; omega⟩
/-- THE INSERTION SORT OF A PART IS STABLE. -/
theorem insertion_stb {lt : Int → Int → Bool} (hlt : ∀ x y, lt x y = decide (cl x < cl y)) (d : Array Int) (P A S : List Int) (a b : Nat) (h : d.toList = P ++ (A ++ S)) (ha : a = P.length) (hb : b = P.length + A.length) :
    ∃ A', (insertionSort lt d a b).toList = P ++ (A' ++ S) ∧ Stb cl A' A ∧ (insertionSort lt d a b).size = d.size := by
  have hs : d.size = P.length + (A.length + S.length) := by rw [← Array.length_toList, h]; simp
  obtain ⟨⟨p1, p2, _⟩, p3⟩ := insertionSort_holds (swo_cl hlt) d a b (by omega) (by omega)
  have pf : FEq cl (insertionSort lt d a b).toList d.toList := insOuter_feq hlt a b _ _ d (Nat.le_refl _) (by omega)
  generalize insertionSort lt d a b = d' at *
  have hl : d'.toList.length = d.size := by simp [p1]
  have e : d'.toList = P ++ (((d'.toList.drop a).take (b - a)) ++ S) := by
    apply List.ext_getElem
    · simp; omega
    · intro t h1 h2
      have g1 : d'.toList[t] = d'[t]! := by rw [getElem!_pos d' t (by simpa using h1)]; simp
      by_cases c1 : t < P.length
      · have := p2 t (.inl (by omega))
        rw [g1, this, List.getElem_append_left c1, get_toList d _ h, getElem!_pos _ t (by simp; omega), List.getElem_append_left c1]
      · rw [List.getElem_append_right (by omega)]
        by_cases c2 : t - P.length < b - a
        · rw [List.getElem_append_left (by simp; omega)]
          simp [ha, show P.length + (t - P.length) = t by omega]
        · rw [List.getElem_append_right (by simp; omega)]
          have := p2 t (.inr (by omega))
          have hLS : t - (P.length + A.length) < S.length := by rw [hl] at h1; omega
          rw [g1, this, get_toList d _ h, getElem!_pos _ t (by simp; rw [hl] at h1; omega), List.getElem_append_right (by omega), List.getElem_append_right (by omega)]
          congr 1
          simp; omega
  refine ⟨_, e, ⟨?_, ?_⟩, p1⟩
  · refine List.pairwise_iff_getElem.2 fun i j hi hj hij => ?_
    have hi' : a + i < d'.size := by simp at hi; omega
    have hj' : a + j < d'.size := by simp at hj; omega
    have := p3 (a + i) (a + j) (by omega) (by omega) (by simp at hj; omega)
    rw [hlt, decide_eq_false_iff_not] at this
    rw [getElem!_pos d' (a + i) hi', getElem!_pos d' (a + j) hj'] at this
    simp only [List.getElem_take, List.getElem_drop, Array.getElem_toList]
    omega
  · rw [e, h, ← List.append_assoc, ← List.append_assoc] at pf
    exact pf.cancel
/-! ### merges -/
theorem asc_get {A : List Int} (h : Asc cl A) {t u : Nat} (htu : t ≤ u) (hu : u < A.length) : cl A[t]! ≤ cl A[u]! := by
  rcases Nat.lt_or_ge t u with h' | h'
  · have := List.pairwise_iff_getElem.1 h t u (by omega) hu h'
    rwa [getElem!_pos A t (by omega), getElem!_pos A u hu]
  · obtain rfl : t = u := by omega
    exact Int.le_refl _
theorem mem_take {A : List Int} {r : Nat} {x : Int} (h : x ∈ A.take r) : ∃ t, t < r ∧ t < A.length ∧ x = A[t]! := by
  obtain ⟨t, ht, rfl⟩ := List.getElem_of_mem h
  have ht' : t < min r A.length := by simpa using ht
  exact ⟨t, by omega, by omega, by rw [getElem!_pos A t (by omega)]; simp⟩
theorem mem_drop {A : List Int} {r : Nat} {x : Int} (h : x ∈ A.drop r) : ∃ t, r ≤ t ∧ t < A.length ∧ x = A[t]! := by
  obtain ⟨t, ht, rfl⟩ := List.getElem_of_mem h
  simp at ht
  exact ⟨r + t, by omega, by omega, by rw [getElem!_pos A (r + t) (by omega)]; simp⟩
theorem asc_take {A : List Int} (h : Asc cl A) (r : Nat) : Asc cl (A.take r) ∧ Asc cl (A.drop r) ∧ ∀ x ∈ A.take r, ∀ y ∈ A.drop r, cl x ≤ cl y := by
  rw [← List.take_append_drop r A] at h
  exact h.split
/-- One element ahead of a part in order goes to its place. -/
theorem left_stb {B : List Int} {x : Int} {r : Nat} (hB : Asc cl B) (h1 : ∀ t, t < r → t < B.length → cl B[t]! < cl x) (h2 : ∀ t, r ≤ t → t < B.length → cl x ≤ cl B[t]!) : Stb cl (B.take r ++ x :: B.drop r) ([x] ++ B) := by
  have hs := asc_take hB r
  have m1 : ∀ z ∈ B.take r, cl z < cl x := fun z hz => by obtain ⟨t, h, h', rfl⟩ := mem_take hz; exact h1 t h h'
  have m2 : ∀ z ∈ B.drop r, cl x ≤ cl z := fun z hz => by obtain ⟨t, h, h', rfl⟩ := mem_drop hz; exact h2 t h h'
  refine ⟨hs.1.app (List.pairwise_cons.2 ⟨m2, hs.2.1⟩) fun z hz y hy => ?_, ?_⟩
  · rcases List.mem_cons.1 hy with rfl | hy
    · have := m1 z hz; omega
    · exact hs.2.2 z hz y hy
  · conv => rhs; rw [← List.take_append_drop r B]
    have : FEq cl (B.take r ++ [x]) ([x] ++ B.take r) := FEq.swap fun z hz y hy => by
      rw [List.mem_singleton.1 hy]; have := m1 z hz; omega
    have := this.app (FEq.refl (B.drop r))
    simpa using this
/-- One element behind a part in order goes to its place. -/
theorem right_stb {A : List Int} {y : Int} {r : Nat} (hA : Asc cl A) (h1 : ∀ t, t < r → t < A.length → cl A[t]! ≤ cl y) (h2 : ∀ t, r ≤ t → t < A.length → cl y < cl A[t]!) : Stb cl (A.take r ++ y :: A.drop r) (A ++ [y]) := by
  have hs := asc_take hA r
  have m1 : ∀ z ∈ A.take r, cl z ≤ cl y := fun z hz => by obtain ⟨t, h, h', rfl⟩ := mem_take hz; exact h1 t h h'
  have m2 : ∀ z ∈ A.drop r, cl y < cl z := fun z hz => by obtain ⟨t, h, h', rfl⟩ := mem_drop hz; exact h2 t h h'
  refine ⟨hs.1.app (List.pairwise_cons.2 ⟨fun z hz => by have := m2 z hz; omega, hs.2.1⟩) fun z hz w hw => ?_, ?_⟩
  · rcases List.mem_cons.1 hw with rfl | hw
    · exact m1 z hz
    · exact hs.2.2 z hz w hw
  · conv => rhs; rw [← List.take_append_drop r A]
    have : FEq cl ([y] ++ A.drop r) (A.drop r ++ [y]) := FEq.swap fun z hz w hw => by
      rw [List.mem_singleton.1 hz]; have := m2 w hw; omega
    have := (FEq.refl (A.take r)).app this
    rw [← List.append_assoc (A.take r) (A.drop r), List.take_append_drop] at this
    rw [List.take_append_drop]
    exact this
/-- THE MERGE BY HALVES: A = A1 ++ X, B = Y ++ B2: X and Y change places; each half is merged. -/
theorem half_stb {A1 X Y B2 R1 R2 : List Int} (hA : Asc cl (A1 ++ X)) (hB : Asc cl (Y ++ B2)) (hYX : ∀ y ∈ Y, ∀ x ∈ X, cl y < cl x) (hAB : ∀ x ∈ A1, ∀ y ∈ B2, cl x ≤ cl y)
    (h1 : Stb cl R1 (A1 ++ Y)) (h2 : Stb cl R2 (X ++ B2)) : Stb cl (R1 ++ R2) ((A1 ++ X) ++ (Y ++ B2)) := by
  have a := hA.split
  have b := hB.split
  have : Stb cl (R1 ++ R2) ((A1 ++ Y) ++ (X ++ B2)) := h1.app h2 fun x hx y hy => by
    rcases List.mem_append.1 hx with hx | hx <;> rcases List.mem_append.1 hy with hy | hy
    · exact a.2.2 x hx y hy
    · exact hAB x hx y hy
    · exact Int.le_of_lt (hYX x hx y hy)
    · exact b.2.2 x hx y hy
  refine ⟨this.1, this.2.trans ?_⟩
  have e : FEq cl (Y ++ X) (X ++ Y) := FEq.swap fun y hy x hx => by have := hYX y hy x hx; omega
  have := ((FEq.refl A1).app e).app (FEq.refl (cl := cl) B2)
  simpa using this
end Go.Proofs.YtmglnpnkkidnnaaDoor
