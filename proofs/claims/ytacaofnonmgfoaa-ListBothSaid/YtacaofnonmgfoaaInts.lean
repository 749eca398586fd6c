/- What a slice of integers holds, and the walk of incipitlaw1.Ints: are two of them the same. -/
import Derived.Test.YtacaofnonmgfoaaSlices
import Derived.BigQuiet
import Derived.Deep.QuietTactic
import Derived.Deep.DeepCutAuto
namespace Go.Proofs.Ytacaofnonmgfoaa
set_option linter.unusedVariables false
open Go.RowKit
/-- what a slice of integers holds -/
def RdI (w : World) (v : Value) (xs : List Int) : Prop := RdV w v (xs.map (Value.int .i64))
theorem getD_map (xs : List Int) (k : Nat) (hk : k < xs.length) : (xs.map (Value.int .i64)).getD k undef = .int .i64 (xs.getD k 0) := by
  rw [List.getD_eq_getElem?_getD, List.getD_eq_getElem?_getD, List.getElem?_map, List.getElem?_eq_getElem hk]; rfl
theorem RdI.cases {w : World} {v : Value} {xs : List Int} (h : RdI w v xs) : (∃ a cap, v = .slice a 0 cap ∧ xs = []) ∨
    ∃ b off cap, v = .slice (some ⟨b, off, none⟩) xs.length cap ∧ 0 < xs.length ∧ xs.length ≤ cap ∧ cap ≤ maxLen ∧ b < w.heap.size ∧ ∀ i, i < xs.length → w.cell? ⟨b, off + i, none⟩ = some (.int .i64 (xs.getD i 0)) := by
  rcases h with ⟨a, cap, h1, h2⟩ | ⟨b, off, cap, h1, h2, h3, h4, h5, h6⟩
  · exact .inl ⟨a, cap, h1, by simpa using h2⟩
  · rw [List.length_map] at h1 h2 h3 h6
    exact .inr ⟨b, off, cap, h1, h2, h3, h4, h5, fun i hi => by rw [h6 i hi, getD_map xs i hi]⟩
theorem ne_of_at {xs ys : List Int} {k : Nat} (h1 : k < xs.length) (h2 : k < ys.length) (h : (xs.getD k 0 != ys.getD k 0) = true) : xs ≠ ys := by
  rintro rfl; simp at h
theorem take_more {xs ys : List Int} {k : Nat} (h1 : k < xs.length) (h2 : k < ys.length) (h : (xs.getD k 0 != ys.getD k 0) = false) (ht : xs.take k = ys.take k) : xs.take (k + 1) = ys.take (k + 1) := by
  rw [List.take_succ_eq_append_getElem h1, List.take_succ_eq_append_getElem h2, ht]
  rw [bne_eq_false_iff_eq, List.getD_eq_getElem?_getD, List.getD_eq_getElem?_getD, List.getElem?_eq_getElem h1, List.getElem?_eq_getElem h2] at h
  simp only [Option.getD_some] at h
  rw [h]
def IntsRes (w : World) (q : Bool) (e : Ending) (w' : World) : Prop := e = .returned (.bool q) ∧ ∃ m, w' = w.drewN m
end Go.Proofs.Ytacaofnonmgfoaa
