/- A whole block of memory, by its cells. -/
import Derived.Test.YtpaoabdjbdlalaaUpd
namespace Go.Proofs.Ytpaoabdjbdlalaa
set_option linter.unusedVariables false
open Go.RowKit
def BlkAt (w : World) (b : Nat) (vs : Array Value) (t : TypeId) : Prop := w.heap[b]? = some (.cells vs t (0, 0))
theorem BlkAt.lt {w : World} {b : Nat} {vs : Array Value} {t : TypeId} (h : BlkAt w b vs t) : b < w.heap.size := (Array.getElem?_eq_some_iff.1 h).1
theorem BlkAt.below {w w' : World} {b : Nat} {vs : Array Value} {t : TypeId} (h : BlkAt w b vs t) (u : Below w.heap.size w w') : BlkAt w' b vs t := (u.block b h.lt).trans h
theorem BlkAt.at {w : World} {b : Nat} {vs : Array Value} {t : TypeId} (h : BlkAt w b vs t) (i : Nat) : w.cell? ⟨b, i, none⟩ = vs[i]? := cells_at h i
theorem BlkAt.free {w : World} {b : Nat} {vs : Array Value} {t : TypeId} (h : BlkAt w b vs t) (i : Nat) : w.frozen? ⟨b, i, none⟩ = false := cells_free h i
theorem BlkAt.set {w : World} {b o : Nat} {vs : Array Value} {t : TypeId} (h : BlkAt w b vs t) (v : Value) : BlkAt (w.setCell ⟨b, o, none⟩ v) b (vs.setIfInBounds o v) t := cells_set h v
theorem BlkAt.other {w : World} {b c o : Nat} {vs : Array Value} {t : TypeId} (h : BlkAt w b vs t) (v : Value) (hn : b ≠ c) : BlkAt (w.setCell ⟨c, o, none⟩ v) b vs t := (Below.heap_setCell _ _ _ _ hn).trans h
theorem BlkAt.new (w : World) (vs : Array Value) (t : TypeId) : BlkAt (w.alloc (.cells vs t)) w.heap.size vs t := heap_alloc_new w (.cells vs t)
theorem BlkAt.more {w : World} {b : Nat} {vs : Array Value} {t : TypeId} (h : BlkAt w b vs t) (o : Obj) : BlkAt (w.alloc o) b vs t := h.below ((Below.refl _ w).alloc (Nat.le_refl _) o)
end Go.Proofs.Ytpaoabdjbdlalaa
