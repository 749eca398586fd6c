/- All but some blocks lies as it did; a block's cells by its whole. -/
import Derived.Test.YtpaoabdjbdlalaaByt
import Derived.Test.YtpaoabdjbdlalaaSlices
namespace Go.Proofs.Ytpaoabdjbdlalaa
set_option linter.unusedVariables false
open Go.RowKit
/-- A pointer to a block, or none. -/
def ptrO : Option Nat → Value
  | none => .pointer none
  | some k => .pointer (some ⟨k, 0, none⟩)
theorem ptrO_map (o : Option Nat) : ptrO o = .pointer (o.map fun k => ⟨k, 0, none⟩) := by cases o <;> rfl
/-- All but the blocks of F lies as it did; blocks may be new. -/
structure UpdF (F : Nat → Prop) (w w' : World) : Prop where
  os : w'.os = w.os
  tape : w'.tape = w.tape
  output : w'.output = w.output
  size : w.heap.size ≤ w'.heap.size
  block : ∀ k, k < w.heap.size → ¬ F k → w'.heap[k]? = w.heap[k]?
theorem UpdF.refl (F : Nat → Prop) (w : World) : UpdF F w w := ⟨rfl, rfl, rfl, Nat.le_refl _, fun _ _ _ => rfl⟩
theorem UpdF.trans {F : Nat → Prop} {x y z : World} (h : UpdF F x y) (k : UpdF F y z) : UpdF F x z :=
  ⟨k.os.trans h.os, k.tape.trans h.tape, k.output.trans h.output, Nat.le_trans h.size k.size, fun i hi hn => (k.block i (Nat.lt_of_lt_of_le hi h.size) hn).trans (h.block i hi hn)⟩
/-- What comes behind may write what is new, too. -/
theorem UpdF.then {F G : Nat → Prop} {x y z : World} (h : UpdF F x y) (k : UpdF G y z) (hG : ∀ i, G i → F i ∨ x.heap.size ≤ i) : UpdF F x z :=
  ⟨k.os.trans h.os, k.tape.trans h.tape, k.output.trans h.output, Nat.le_trans h.size k.size, fun i hi hn => (k.block i (Nat.lt_of_lt_of_le hi h.size) fun g => by
    rcases hG i g with g | g
    · exact hn g
    · omega).trans (h.block i hi hn)⟩
theorem UpdF.of {F : Nat → Prop} {w w' : World} (h : Below w.heap.size w w') : UpdF F w w' := ⟨h.os, h.tape, h.output, h.size, fun k hk _ => h.block k hk⟩
theorem UpdF.drew {F : Nat → Prop} {w w' : World} (h : UpdF F w w') : UpdF F w w'.drew := ⟨h.os, h.tape, h.output, h.size, h.block⟩
theorem UpdF.set {F : Nat → Prop} {w w' : World} (h : UpdF F w w') (b o : Nat) (v : Value) (hb : F b) : UpdF F w (w'.setCell ⟨b, o, none⟩ v) :=
  ⟨h.os, h.tape, h.output, by simpa [World.setCell] using h.size, fun k hk hn => (Below.heap_setCell _ _ _ _ (fun e => hn (by rw [show k = b from e]; exact hb))).trans (h.block k hk hn)⟩
theorem UpdF.grown {F : Nat → Prop} {w w' : World} {row : Option Nat} (h : w.grownBy w' row) (hF : ∀ k, row = some k → F k) : UpdF F w w' :=
  ⟨h.os, h.tape, h.output, h.size, fun k hk hn => h.block k hk (fun e => hn (hF k e.symm))⟩
theorem UpdF.below {F : Nat → Prop} {B : Nat} {w w' : World} (h : UpdF F w w') (hB : B ≤ w.heap.size) (hF : ∀ k, k < B → ¬ F k) : Below B w w' := ⟨h.os, h.tape, h.output, h.size, fun k hk => h.block k (by omega) (hF k hk)⟩
theorem UpdF.mono {F G : Nat → Prop} {w w' : World} (h : UpdF F w w') (hF : ∀ k, k < w.heap.size → F k → G k) : UpdF G w w' := ⟨h.os, h.tape, h.output, h.size, fun k hk hn => h.block k hk fun f => hn (hF k hk f)⟩
theorem row_same {w w' : World} {B E size : Nat} {v : Value} {n : Nat} {xs : List Value} (h : w.ownsRow B E size v n xs) (hk : ∀ k, v.ownBlock = some k → w'.heap[k]? = w.heap[k]?) : w'.ownsRow B E size v n xs := by
  obtain ⟨h1, h2⟩ := h
  refine ⟨h1, ?_⟩
  rcases h2 with h2 | ⟨g, cap, cur, e1, e2, e3, e4⟩
  · exact .inl h2
  · refine .inr ⟨g, cap, cur, e1, e2, ?_, e4⟩
    rw [hk g (by rw [e1]; rfl)]; exact e3
theorem row_lt {w : World} {B E size : Nat} {v : Value} {n : Nat} {xs : List Value} (h : w.ownsRow B E size v n xs) : ∀ k, v.ownBlock = some k → k < w.heap.size := by
  intro k hk
  rcases h.2 with ⟨e, _⟩ | ⟨g, cap, cur, e1, e2, e3, e4⟩
  · rw [e] at hk; cases hk
  · rw [e1] at hk
    obtain rfl : g = k := Option.some.inj hk
    exact (Array.getElem?_eq_some_iff.1 e3).1
theorem rdV_upd {F : Nat → Prop} {w w' : World} {v : Value} {vs : List Value} (h : RdV w v vs) (u : UpdF F w w') (hd : ∀ k, v.ownBlock = some k → ¬ F k) : RdV w' v vs := by
  rcases h with h | ⟨b, off, cap, h1, h2, h3, h4, h5, h6⟩
  · exact .inl h
  · refine .inr ⟨b, off, cap, h1, h2, h3, h4, Nat.lt_of_lt_of_le h5 u.size, fun i hi => ?_⟩
    rw [← h6 i hi]
    exact World.cell?_of_block (u.block b h5 (hd b (by rw [h1]; rfl)))
theorem cells_at {w : World} {b : Nat} {vs : Array Value} {t : TypeId} (h : w.heap[b]? = some (.cells vs t (0, 0))) (i : Nat) : w.cell? ⟨b, i, none⟩ = vs[i]? := by
  unfold World.cell?; rw [h]; simp
theorem cells_free {w : World} {b : Nat} {vs : Array Value} {t : TypeId} (h : w.heap[b]? = some (.cells vs t (0, 0))) (i : Nat) : w.frozen? ⟨b, i, none⟩ = false := by
  unfold World.frozen?; rw [h]; simp
theorem cells_set {w : World} {b o : Nat} {vs : Array Value} {t : TypeId} (h : w.heap[b]? = some (.cells vs t (0, 0))) (v : Value) : (w.setCell ⟨b, o, none⟩ v).heap[b]? = some (.cells (vs.setIfInBounds o v) t (0, 0)) := by
  unfold World.setCell
  simp only [Array.getElem?_modify, if_true, h, Option.map_some]
  simp
end Go.Proofs.Ytpaoabdjbdlalaa
