/- What a row of edits makes, one behind the other: the version that a manifest holds; plain mathematics, made ahead for stage 21. -/
import Derived.Test.YtcppaflnhlmcbaaGreatDoorMVerA
namespace Go.Proofs.YtcppaflnhlmcbaaGreatDoor
set_option linter.unusedVariables false
/-- Edits applied one behind the other; none: one of them does not apply. -/
def runV : Ver → List Edt → Option Ver
  | V, [] => some V
  | V, x :: r => match applyV V x with
    | none => none
    | some W => runV W r
/-- The version of a manifest: of no edit there is none. -/
def manV (xs : List Edt) : Option Ver := if xs = [] then none else runV Ver.new xs
theorem runV_app : ∀ (V : Ver) (xs ys : List Edt), runV V (xs ++ ys) = (runV V xs).bind fun W => runV W ys
  | V, [], ys => rfl
  | V, x :: xs, ys => by
    rw [List.cons_append, runV, runV]
    cases applyV V x with
    | none => rfl
    | some W => exact runV_app W xs ys
theorem runV_one (V : Ver) (x : Edt) : runV V [x] = applyV V x := by
  rw [runV]
  cases applyV V x <;> rfl
theorem runV_snoc {V W : Ver} {xs : List Edt} (h : runV V xs = some W) (x : Edt) : runV V (xs ++ [x]) = applyV W x := by
  rw [runV_app, h]
  exact runV_one W x
theorem runV_good : ∀ {xs : List Edt} {V W : Ver}, GoodV V → runV V xs = some W → GoodV W
  | [], V, W, g, h => by obtain rfl := Option.some.inj h; exact g
  | x :: xs, V, W, g, h => by
    rw [runV] at h
    cases e : applyV V x with
    | none => rw [e] at h; cases h
    | some X => rw [e] at h; exact runV_good (applyV_good g e) h
theorem manV_good {xs : List Edt} {W : Ver} (h : manV xs = some W) : GoodV W := by
  unfold manV at h
  split at h
  · cases h
  · exact runV_good new_good h
theorem manV_snoc {xs : List Edt} {W : Ver} (h : manV xs = some W) (x : Edt) : manV (xs ++ [x]) = applyV W x := by
  unfold manV at h ⊢
  rw [if_neg (by simp)]
  split at h
  · cases h
  · exact runV_snoc h x
/-- A manifest made anew: one edit, the whole version's, its tables in any order. -/
theorem manV_whole {V : Ver} (g : GoodV V) {a : List Tbf} (ha : a.Perm V.fs) : manV [⟨V.nx, V.lg, V.ls, a, []⟩] = some ⟨a, V.nx, V.lg, V.ls⟩ := by
  unfold manV
  rw [if_neg (by simp), runV_one]
  exact applyV_edit g ha
theorem manV_whole_same {V : Ver} (g : GoodV V) {a : List Tbf} (ha : a.Perm V.fs) : ∃ W, manV [⟨V.nx, V.lg, V.ls, a, []⟩] = some W ∧ vSame V W := ⟨_, manV_whole g ha, ha.symm, rfl, rfl, rfl⟩
/-- A version whose Next is one more. -/
def bumpV (V : Ver) : Ver := ⟨V.fs, V.nx + 1, V.lg, V.ls⟩
theorem bumpV_good {V : Ver} (g : GoodV V) (h : V.nx < 1125899906842624) : GoodV (bumpV V) :=
  ⟨g.nums, g.apart, g.few, g.right, fun f hf => by have := g.below f hf; show f.num < V.nx + 1; omega, by have := g.nx1; show 1 ≤ V.nx + 1; omega, by show V.nx + 1 ≤ _; omega, g.lg0, by have := g.lg1; show V.lg < V.nx + 1; omega, g.ls0, g.ls2⟩
theorem bumpV_same {V W : Ver} (h : vSame V W) : vSame (bumpV V) (bumpV W) := ⟨h.1, by show V.nx + 1 = W.nx + 1; rw [h.2.1], h.2.2.1, h.2.2.2⟩
/-- An edit that tells a Next one more alone. -/
theorem applyV_bump {V : Ver} (g : GoodV V) (h : V.nx < 1125899906842624) : applyV V ⟨V.nx + 1, 0, 0, [], []⟩ = some (bumpV V) := by
  have n1 := g.nx1
  have o0 : okEdN 0 := ⟨by decide, by decide⟩
  have hm : mayE ⟨V.nx + 1, 0, 0, [], []⟩ := ⟨⟨⟨by show 0 ≤ V.nx + 1; omega, by show V.nx + 1 ≤ _; omega⟩, o0, o0⟩, ⟨Nat.zero_le _, Nat.zero_le _⟩, fun f hf => (by cases hf), fun n hn => (by cases hn)⟩
  have o1 : vOr (V.nx + 1) V.nx = V.nx + 1 := if_neg (by omega)
  unfold applyV
  rw [if_pos hm]
  show (if vMay V ⟨V.fs, vOr (V.nx + 1) V.nx, vOr 0 V.lg, vOr 0 V.ls⟩ then some _ else none) = _
  rw [o1]
  refine if_pos ⟨g.apart, g.few, by show V.nx ≤ V.nx + 1; omega, Int.le_refl _, Int.le_refl _, fun hh => ?_, fun f hf => ?_⟩
  · have := g.lg1
    have h1 : V.nx + 1 ≤ V.lg := hh.1
    omega
  · have := g.below f hf
    show f.num < V.nx + 1
    omega
/-- What an edit that applies makes. -/
theorem applyV_parts {V n : Ver} {e : Edt} (h : applyV V e = some n) : mayE e ∧ ∃ l, vDels V.fs e.dels = some l ∧ vAdds l e.adds = some n.fs ∧ vMay V n := by
  unfold applyV at h
  split at h
  · rename_i hm
    cases hd : vDels V.fs e.dels with
    | none => rw [hd] at h; cases h
    | some l =>
      rw [hd] at h
      simp only at h
      cases ha : vAdds l e.adds with
      | none => rw [ha] at h; cases h
      | some m =>
        rw [ha] at h
        simp only at h
        split at h
        · rename_i hv
          obtain rfl := Option.some.inj h
          exact ⟨hm, l, rfl, ha, hv⟩
        · cases h
  · cases h
theorem applyV_next {V n : Ver} {e : Edt} (h : applyV V e = some n) : V.nx ≤ n.nx := by
  obtain ⟨-, l, -, -, hv⟩ := applyV_parts h
  exact hv.2.2.1
/-- The tables of it: those that stood, and those that came. -/
theorem applyV_tabs {V n : Ver} {e : Edt} (h : applyV V e = some n) : n.fs.length ≤ V.fs.length + e.adds.length ∧ ∀ f ∈ n.fs, f ∈ V.fs ∨ f ∈ e.adds := by
  obtain ⟨-, l, hd, ha, -⟩ := applyV_parts h
  have h1 := vDels_sub hd
  obtain ⟨h2, -⟩ := vAdds_is ha
  rw [h2]
  refine ⟨by rw [List.length_append]; have := h1.length_le; omega, fun f hf => ?_⟩
  rcases List.mem_append.1 hf with hf | hf
  · exact .inl (h1.subset hf)
  · exact .inr hf
/-- The whole version's edit may be. -/
theorem mayE_whole {V : Ver} (g : GoodV V) : mayE ⟨V.nx, V.lg, V.ls, V.fs, []⟩ :=
  ⟨⟨⟨by have := g.nx1; show 0 ≤ V.nx; omega, g.nx2⟩, ⟨g.lg0, by have := g.lg1; have := g.nx2; show V.lg ≤ _; omega⟩, ⟨g.ls0, g.ls2⟩⟩, ⟨g.few, Nat.zero_le _⟩, g.right, fun n hn => by cases hn⟩
end Go.Proofs.YtcppaflnhlmcbaaGreatDoor
