/- Heaps in a row, by parents and children: what a push, a pop and the ways up and down do. Plain mathematics. -/
import Derived.Test.YtmndhmodcglkjaaBits
namespace Go.Proofs.Ytmndhmodcglkjaa
set_option linter.unusedVariables false
/-- A weak order. -/
structure WkO (lt : Nat → Nat → Bool) : Prop where
  irr : ∀ a, lt a a = false
  tr : ∀ a b c, lt a b = true → lt b c = true → lt a c = true
  neg : ∀ a b c, lt a b = false → lt b c = false → lt a c = false
theorem WkO.asy {lt : Nat → Nat → Bool} (h : WkO lt) {a b : Nat} (k : lt a b = true) : lt b a = false := by
  cases e : lt b a with
  | false => rfl
  | true => have := h.tr a b a k e; rw [h.irr] at this; cases this
def par (i : Nat) : Nat := (i - 1) / 2
theorem par_lt {k : Nat} (h : 0 < k) : par k < k := by unfold par; omega
theorem par_is {k i : Nat} (h : 0 < k) : par k = i ↔ k = 2 * i + 1 ∨ k = 2 * i + 2 := by unfold par; omega
/-- Two change their places. -/
def swp (q : List Nat) (i j : Nat) : List Nat := (q.set i (q.getD j 0)).set j (q.getD i 0)
theorem swp_len (q : List Nat) (i j : Nat) : (swp q i j).length = q.length := by simp [swp]
theorem swp_at {q : List Nat} {i j : Nat} (hi : i < q.length) (hj : j < q.length) (k : Nat) : (swp q i j).getD k 0 = if k = j then q.getD i 0 else if k = i then q.getD j 0 else q.getD k 0 := by
  unfold swp
  simp only [List.getD_eq_getElem?_getD, List.getElem?_set, List.length_set]
  by_cases h1 : k = j
  · subst h1
    simp [hj]
  · rw [if_neg h1, if_neg (fun e => h1 e.symm)]
    by_cases h2 : k = i
    · subst h2
      simp [hi]
    · rw [if_neg h2, if_neg (fun e => h2 e.symm)]
theorem swp_perm {q : List Nat} {i j : Nat} (hi : i < q.length) (hj : j < q.length) : (swp q i j).Perm q := by
  have h := Array.swap_perm (xs := q.toArray) (i := i) (j := j) (by simpa using hi) (by simpa using hj)
  have e : (q.toArray.swap i j (by simpa using hi) (by simpa using hj)).toList = swp q i j := by
    simp [Array.swap, swp, List.getD_eq_getElem?_getD, hi, hj]
  have := h.toList
  rwa [e] at this
/-- Each is not ahead of its parent, as far as parents from lo on are asked, among the first n. -/
def HeapQ (lt : Nat → Nat → Bool) (q : List Nat) (n lo : Nat) : Prop := ∀ k, 0 < k → k < n → lo ≤ par k → lt (q.getD k 0) (q.getD (par k) 0) = false
/-- On the way down, at i. -/
structure DownI (lt : Nat → Nat → Bool) (q : List Nat) (n lo i : Nat) : Prop where
  a : ∀ k, 0 < k → k < n → lo ≤ par k → par k ≠ i → lt (q.getD k 0) (q.getD (par k) 0) = false
  b : ∀ k, 0 < k → k < n → par k = i → 0 < i → lo ≤ par i → lt (q.getD k 0) (q.getD (par i) 0) = false
/-- On the way up, at j. -/
structure UpI (lt : Nat → Nat → Bool) (q : List Nat) (n j : Nat) : Prop where
  a : ∀ k, 0 < k → k < n → k ≠ j → lt (q.getD k 0) (q.getD (par k) 0) = false
  b : ∀ k, 0 < k → k < n → par k = j → 0 < j → lt (q.getD k 0) (q.getD (par j) 0) = false
variable {lt : Nat → Nat → Bool} {q : List Nat} {n lo i j c : Nat}
theorem DownI.start (h : HeapQ lt q n (i + 1)) : DownI lt q n i i :=
  ⟨fun k h1 h2 h3 h4 => h k h1 h2 (by omega), fun k h1 h2 h3 h4 h5 => by have := par_lt h4; omega⟩
theorem HeapQ.none (h : n / 2 ≤ lo) : HeapQ lt q n lo := fun k h1 h2 h3 => by unfold par at h3; omega
theorem DownI.leaf (h : DownI lt q n lo i) (hn : n ≤ 2 * i + 1) : HeapQ lt q n lo := fun k h1 h2 h3 =>
  h.a k h1 h2 h3 fun e => by have := (par_is h1).1 e; omega
/-- The child c, not behind the other one, is not ahead of i. -/
theorem DownI.stop (o : WkO lt) (h : DownI lt q n lo i) (hc : ∀ k, k < n → k = 2 * i + 1 ∨ k = 2 * i + 2 → lt (q.getD k 0) (q.getD c 0) = false) (hi : lt (q.getD c 0) (q.getD i 0) = false) : HeapQ lt q n lo := fun k h1 h2 h3 => by
  by_cases e : par k = i
  · rw [e]; exact o.neg _ _ _ (hc k h2 ((par_is h1).1 e)) hi
  · exact h.a k h1 h2 h3 e
theorem DownI.step (o : WkO lt) (h : DownI lt q n lo i) (hn : n ≤ q.length) (hcn : c < n) (hcp : c = 2 * i + 1 ∨ c = 2 * i + 2) (hlo : lo ≤ i) (hc : ∀ k, k < n → k = 2 * i + 1 ∨ k = 2 * i + 2 → lt (q.getD k 0) (q.getD c 0) = false) (hi : lt (q.getD c 0) (q.getD i 0) = true) :
    DownI lt (swp q i c) n lo c := by
  have hA := swp_at (q := q) (i := i) (j := c) (by omega) (by omega)
  have hpc : par c = i := (par_is (by omega)).2 hcp
  have hne : i ≠ c := by omega
  refine ⟨fun k h1 h2 h3 h4 => ?_, fun k h1 h2 h3 h4 h5 => ?_⟩
  · rw [hA, hA, if_neg h4]
    have hpk := par_lt h1
    by_cases e : par k = i
    · rw [if_pos e]
      by_cases e2 : k = c
      · rw [if_pos e2]; exact o.asy hi
      · rw [if_neg e2, if_neg (by omega)]
        exact hc k h2 ((par_is h1).1 e)
    · rw [if_neg e]
      have e2 : k ≠ c := fun e2 => e (by rw [e2]; exact hpc)
      rw [if_neg e2]
      by_cases e3 : k = i
      · subst e3
        rw [if_pos rfl]
        exact h.b c (by omega) hcn hpc h1 h3
      · rw [if_neg e3]
        exact h.a k h1 h2 h3 e
  · have hpk := par_lt h1
    rw [hA, hA, if_neg (by omega), if_neg (by omega), hpc, if_neg hne, if_pos rfl]
    have := h.a k h1 h2 (by omega) (by omega)
    rwa [h3] at this
theorem UpI.stop (h : UpI lt q n j) (hj : j = 0 ∨ lt (q.getD j 0) (q.getD (par j) 0) = false) : HeapQ lt q n 0 := fun k h1 h2 h3 => by
  by_cases e : k = j
  · subst e
    rcases hj with hj | hj
    · omega
    · exact hj
  · exact h.a k h1 h2 e
theorem UpI.step (o : WkO lt) (h : UpI lt q n j) (hn : n ≤ q.length) (hjn : j < n) (hj : 0 < j) (hl : lt (q.getD j 0) (q.getD (par j) 0) = true) : UpI lt (swp q (par j) j) n (par j) := by
  have hp := par_lt hj
  have hA := swp_at (q := q) (i := par j) (j := j) (by omega) (by omega)
  refine ⟨fun k h1 h2 h3 => ?_, fun k h1 h2 h3 h4 => ?_⟩
  · have hpk := par_lt h1
    rw [hA, hA]
    by_cases e : k = j
    · subst e
      rw [if_pos rfl, if_neg (by omega), if_pos rfl]
      exact o.asy hl
    · rw [if_neg e, if_neg h3]
      by_cases e1 : par k = j
      · rw [if_pos e1]
        exact h.b k h1 h2 e1 hj
      · rw [if_neg e1]
        by_cases e2 : par k = par j
        · rw [if_pos e2]
          have h5 := h.a k h1 h2 e
          rw [e2] at h5
          cases e3 : lt (q.getD k 0) (q.getD j 0) with
          | false => rfl
          | true => have := o.tr _ _ _ e3 hl; rw [h5] at this; cases this
        · rw [if_neg e2]
          exact h.a k h1 h2 e
  · have hpk := par_lt h1
    have hpp := par_lt h4
    rw [hA, hA, if_neg (c := par (par j) = j) (by omega), if_neg (c := par (par j) = par j) (by omega)]
    have h5 := h.a (par j) h4 (by omega) (by omega)
    by_cases e : k = j
    · subst e
      rw [if_pos rfl]; exact h5
    · rw [if_neg e, if_neg (by omega)]
      have h6 := h.a k h1 h2 e
      rw [h3] at h6
      exact o.neg _ _ _ h6 h5
theorem UpI.push (h : HeapQ lt q q.length 0) (x : Nat) : UpI lt (q ++ [x]) (q.length + 1) q.length := by
  have hA : ∀ k, k < q.length → (q ++ [x]).getD k 0 = q.getD k 0 := fun k hk => by simp [List.getD_eq_getElem?_getD, List.getElem?_append_left hk]
  refine ⟨fun k h1 h2 h3 => ?_, fun k h1 h2 h3 h4 => ?_⟩
  · have hpk := par_lt h1
    rw [hA k (by omega), hA _ (by omega)]
    exact h k h1 (by omega) (by omega)
  · have hpk := par_lt h1; omega
theorem DownI.pop (h : HeapQ lt q q.length 0) (h0 : 0 < q.length) : DownI lt (swp q 0 (q.length - 1)) (q.length - 1) 0 0 := by
  have hA := swp_at (q := q) (i := 0) (j := q.length - 1) (by omega) (by omega)
  refine ⟨fun k h1 h2 h3 h4 => ?_, fun k h1 h2 h3 h4 h5 => by omega⟩
  have hpk := par_lt h1
  rw [hA, hA, if_neg (by omega), if_neg (by omega), if_neg (by omega), if_neg h4]
  exact h k h1 (by omega) (by omega)
/-- The first one is behind none. -/
theorem HeapQ.root (o : WkO lt) (h : HeapQ lt q n 0) : ∀ k, k < n → lt (q.getD k 0) (q.getD 0 0) = false := by
  intro k
  induction k using Nat.strongRecOn with
  | _ k ih =>
    intro hk
    rcases Nat.eq_zero_or_pos k with e | e
    · subst e; exact o.irr _
    · have hp := par_lt e
      exact o.neg _ _ _ (h k e hk (by omega)) (ih _ hp (by omega))
/-- A row is its front and its last one. -/
theorem last_is (h : 0 < q.length) : q = q.take (q.length - 1) ++ [q.getD (q.length - 1) 0] := by
  have h1 := (List.take_append_drop (q.length - 1) q).symm
  rw [List.drop_eq_getElem_cons (by omega : q.length - 1 < q.length), List.drop_of_length_le (by omega)] at h1
  rw [List.getD_eq_getElem?_getD, List.getElem?_eq_getElem (by omega)]
  exact h1
theorem HeapQ.front (h : HeapQ lt q (q.length - 1) 0) : HeapQ lt (q.take (q.length - 1)) (q.take (q.length - 1)).length 0 := by
  have hl : (q.take (q.length - 1)).length = q.length - 1 := by rw [List.length_take]; omega
  rw [hl]
  have hA : ∀ k, k < q.length - 1 → (q.take (q.length - 1)).getD k 0 = q.getD k 0 := fun k hk => by rw [List.getD_eq_getElem?_getD, List.getElem?_take, if_pos hk, List.getD_eq_getElem?_getD]
  intro k h1 h2 h3
  have hp := par_lt h1
  rw [hA k h2, hA _ (by omega)]
  exact h k h1 h2 h3
end Go.Proofs.Ytmndhmodcglkjaa
