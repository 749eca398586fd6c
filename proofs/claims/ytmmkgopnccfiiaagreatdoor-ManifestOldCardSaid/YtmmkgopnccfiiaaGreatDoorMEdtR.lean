/- The walks of the reference's EqFiles and EqEdit. -/
import Derived.Test.YtmmkgopnccfiiaaGreatDoorMEdt
import Derived.Test.YtmmkgopnccfiiaaGreatDoorMBase
import Derived.Deep.LoopGhost
import Derived.Deep.CutBlock
import Derived.Deep.DeepCutAuto
import Derived.Deep.QuietTactic
import Derived.BigQuiet
import Derived.StillTailTactics
namespace Go.Proofs.YtmmkgopnccfiiaaGreatDoor
set_option linter.unusedVariables false
set_option maxRecDepth 100000
open Go.RowKit
end Go.Proofs.YtmmkgopnccfiiaaGreatDoor
/- The walk of the reference's EqEdit. -/
namespace Go.Proofs.YtmmkgopnccfiiaaGreatDoor
set_option linter.unusedVariables false
set_option maxRecDepth 100000
open Go.RowKit
/-- Two boxes with edits. -/
def Two5 (w0 w : World) (g : Nat) (u v : Array Value) (t : TypeId) : Prop := Below w0.heap.size w0 w ∧ BlkAt w g u t ∧ BlkAt w (g + 1) v t
theorem Two5.below {w0 w w' : World} {g : Nat} {u v : Array Value} {t : TypeId} (h : Two5 w0 w g u v t) (b : Below w.heap.size w w') : Two5 w0 w' g u v t :=
  ⟨h.1.trans (b.mono h.1.size), h.2.1.below b, h.2.2.below b⟩
theorem Two5.new (w : World) (u v : Array Value) (t : TypeId) : Two5 w ((w.alloc (.cells u t)).alloc (.cells v t)) w.heap.size u v t := by
  have n1 := BlkAt.new w u t
  have n2 := BlkAt.new (w.alloc (.cells u t)) v t
  have e : (w.alloc (.cells u t)).heap.size = w.heap.size + 1 := by simp
  rw [e] at n2
  exact ⟨((Below.refl _ w).alloc (Nat.le_refl _) _).alloc (by omega) _, n1.more _, n2⟩
end Go.Proofs.YtmmkgopnccfiiaaGreatDoor
/- The laws' Cut of an edit: some tables and numbers, each text short. -/
namespace Go.Proofs.YtmmkgopnccfiiaaGreatDoor
set_option linter.unusedVariables false
set_option maxRecDepth 100000
open Go.RowKit
/-- A short table. -/
def Tbf.short (f : Tbf) : Prop := f.lo.size ≤ 20 ∧ f.hi.size ≤ 20
def Edt.short (x : Edt) : Prop := x.adds.length ≤ 12 ∧ x.dels.length ≤ 12 ∧ ∀ f ∈ x.adds, f.short
theorem Edt.short.ok {x : Edt} (h : x.short) : x.ok := ⟨fun f hf => by obtain ⟨h1, h2⟩ := h.2.2 f hf; constructor <;> (unfold maxLen; omega), by have := h.1; omega, by have := h.2.1; omega⟩
/-- An edit that reads as y: its tables in a row of the call's own (blocks from B on), its numbers as they came in (at w0). -/
structure EdHalf (w0 : World) (B : Nat) (w : World) (va vd : Value) (y : Edt) : Prop where
  adds : OwnK encTbf 5 35 B w va y.adds
  dels : RdV w0 vd (y.dels.map encI64)
theorem EdHalf.at {w0 w : World} {B : Nat} {va vd : Value} {y : Edt} (h : EdHalf w0 B w va vd y) (b : Below w0.heap.size w0 w) : EdAt w (.agg #[.int .i64 y.nxt, .int .i64 y.lg, .int .i64 y.lst, va, vd]) y := ⟨va, vd, rfl, h.adds.rd encTbf_len, RdV.below h.dels b⟩
theorem EdHalf.below {w0 w w' : World} {B : Nat} {va vd : Value} {y : Edt} (h : EdHalf w0 B w va vd y) (b : Below w.heap.size w w') : EdHalf w0 B w' va vd y := ⟨h.adds.below b, h.dels⟩
end Go.Proofs.YtmmkgopnccfiiaaGreatDoor
