/- The reference's version in memory. -/
import Derived.Test.YtjloaamaelcmaaaVerAt
namespace Go.Proofs.Ytjloaamaelcmaaa
set_option linter.unusedVariables false
set_option maxRecDepth 100000
open Go.RowKit
/-- Block c holds the reference's version V. -/
structure RefAt (B : Nat) (w : World) (c : Nat) (V : Ver) : Prop where
  blk : ∃ fv : Value, BlkAt w c #[fv, .int .i64 V.nx, .int .i64 V.lg, .int .i64 V.ls] 52 ∧ OwnK encTbf 5 43 B w fv V.fs
  good : GoodV V
theorem RefAt.lt {B : Nat} {w : World} {c : Nat} {V : Ver} (h : RefAt B w c V) : c < w.heap.size := by obtain ⟨fv, h, -⟩ := h.blk; exact h.lt
theorem RefAt.below {B : Nat} {w w' : World} {c : Nat} {V : Ver} (h : RefAt B w c V) (u : Below w.heap.size w w') : RefAt B w' c V := by
  obtain ⟨⟨fv, h1, h2⟩, h3⟩ := h
  exact ⟨⟨fv, h1.below u, h2.below u⟩, h3⟩
theorem RefAt.aside {B : Nat} {w w' : World} {b c : Nat} {V : Ver} {vs : Array Value} {t : TypeId} (h : RefAt B w c V) (u : UpdF (fun j => j = b) w w') (hb : BlkAt w b vs t) (ht : t ≠ 43) (ht2 : t ≠ 52) : RefAt B w' c V := by
  obtain ⟨⟨fv, h1, h2⟩, h3⟩ := h
  refine ⟨⟨fv, (u.block c h1.lt fun e => ?_).trans h1, h2.asideT u hb ht⟩, h3⟩
  subst e
  unfold BlkAt at h1 hb
  rw [h1] at hb
  simp only [Option.some.injEq, Obj.cells.injEq] at hb
  exact ht2 hb.2.1.symm
end Go.Proofs.Ytjloaamaelcmaaa
