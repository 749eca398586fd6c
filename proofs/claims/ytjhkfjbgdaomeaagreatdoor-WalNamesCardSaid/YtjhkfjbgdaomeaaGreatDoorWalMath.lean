/- A log of groups in plain words: the bytes of groups one behind the other, what is told again of them, and of a front of them. -/
import Derived.Test.YtjhkfjbgdaomeaaGreatDoorMRec
import Derived.Test.YtjhkfjbgdaomeaaGreatDoorMOp
namespace Go.Proofs.YtjhkfjbgdaomeaaGreatDoor
set_option linter.unusedVariables false
open Go.RowKit
/-- A group: the number of its first change, and its changes. -/
abbrev Grp := Nat × List Opn
def GoodG (g : Grp) : Prop := checkP g.2 = 0 ∧ numOk g.1 g.2.length
def grpB (g : Grp) : List UInt8 := encB g.1 g.2
def grpE (g : Grp) : List Ent := entsF g.1 g.2
/-- The entries of records that are groups all; none: one is no group. -/
def recsE : List (List UInt8) → Option (List Ent)
  | [] => some []
  | r :: rs => match decP r with
    | none => none
    | some (s, l) => (recsE rs).map (entsF s l ++ ·)
/-- What a log tells: its entries, and how many groups; none: it is spoilt. -/
def walP (sm : List UInt8 → List UInt8) (log : List UInt8) : Option (List Ent × Nat) :=
  if (readC sm log).2.2 = true then (recsE (readC sm log).1).map fun es => (es, (readC sm log).1.length) else none
/-- A log of groups. -/
def walB (sm : List UInt8 → List UInt8) (gs : List Grp) : List UInt8 := layAll sm 0 (gs.map grpB)
theorem recsE_groups : ∀ {gs : List Grp}, (∀ g ∈ gs, GoodG g) → recsE (gs.map grpB) = some (gs.flatMap grpE)
  | [], _ => rfl
  | g :: gs, h => by
    obtain ⟨h1, h2⟩ := h g (List.mem_cons_self ..)
    rw [List.map_cons, recsE, show grpB g = encB g.1 g.2 from rfl, dec_enc h1 h2]
    simp only
    rw [recsE_groups fun x hx => h x (List.mem_cons_of_mem _ hx), List.flatMap_cons]
    rfl
/-- A log that is cut anywhere tells the groups that are whole. -/
theorem walP_cut {sm : List UInt8 → List UInt8} (hs : ∀ l, (sm l).length = 4) {gs : List Grp} (hg : ∀ g ∈ gs, GoodG g) (c : Nat) (hc : c ≤ (walB sm gs).length) :
    walP sm ((walB sm gs).take c) = some ((gs.take (fitK sm 0 (gs.map grpB) c)).flatMap grpE, fitK sm 0 (gs.map grpB) c) := by
  have hk := fitK_le (sm := sm) (gs.map grpB) 0 c
  rw [List.length_map] at hk
  unfold walP walB
  rw [readC_cut hs (gs.map grpB) c hc]
  simp only [if_true]
  rw [← List.map_take, recsE_groups fun g h => hg g (List.mem_of_mem_take h)]
  simp only [Option.map_some, List.length_map, List.length_take, Nat.min_eq_left hk]
theorem walP_all {sm : List UInt8 → List UInt8} (hs : ∀ l, (sm l).length = 4) {gs : List Grp} (hg : ∀ g ∈ gs, GoodG g) : walP sm (walB sm gs) = some (gs.flatMap grpE, gs.length) := by
  have := walP_cut hs hg (walB sm gs).length (Nat.le_refl _)
  rw [List.take_length] at this
  rw [this]
  have e : fitK sm 0 (gs.map grpB) (walB sm gs).length = gs.length := by
    unfold walB
    rw [fitK_all, List.length_map]
  rw [e, List.take_length]
theorem walB_snoc (sm : List UInt8 → List UInt8) (gs : List Grp) (g : Grp) : walB sm (gs ++ [g]) = walB sm gs ++ layB sm (walB sm gs).length (grpB g) := by
  unfold walB
  rw [List.map_append, List.map_cons, List.map_nil, layAll_snoc, Nat.zero_add]
/-- Which groups go within a cut. -/
theorem walB_fit (sm : List UInt8 → List UInt8) (gs : List Grp) (c j : Nat) (hj : j ≤ gs.length) : (walB sm (gs.take j)).length ≤ c ↔ j ≤ fitK sm 0 (gs.map grpB) c := by
  unfold walB
  rw [List.map_take]
  exact fitK_spec (gs.map grpB) 0 c j (by rw [List.length_map]; exact hj)
end Go.Proofs.YtjhkfjbgdaomeaaGreatDoor
