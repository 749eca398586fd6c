/- Slices of bytes in a row that was just laid. -/
import Derived.Test.YtpaoabdjbdlalaaRdRecs
import Derived.Test.YtpaoabdjbdlalaaBlk
namespace Go.Proofs.Ytpaoabdjbdlalaa
set_option linter.unusedVariables false
set_option maxRecDepth 100000
open Go.RowKit
theorem wrap_u64 (n : Nat) (h : n < 2 ^ 64) : IntKind.u64.wrap (n : Int) = (n : Int) := by
  show ((n : Int) % 18446744073709551616) = _
  omega
/-- These slices read as these bytes. -/
inductive SlsRd (w : World) : List Value → List (List UInt8) → Prop
  | nil : SlsRd w [] []
  | cons {u : Value} {x : List UInt8} {us : List Value} {xs : List (List UInt8)} : RdB w u x → SlsRd w us xs → SlsRd w (u :: us) (x :: xs)
theorem SlsRd.len {w : World} {us : List Value} {xs : List (List UInt8)} (h : SlsRd w us xs) : us.length = xs.length := by
  induction h with
  | nil => rfl
  | cons _ _ ih => simp [ih]
theorem SlsRd.at {w : World} {us : List Value} {xs : List (List UInt8)} (h : SlsRd w us xs) : ∀ (i : Nat) (u : Value) (x : List UInt8), us[i]? = some u → xs[i]? = some x → RdB w u x := by
  induction h with
  | nil => intro i u x h; simp at h
  | cons h1 _ ih =>
    intro i u x hu hx
    cases i with
    | zero => simp at hu hx; subst hu hx; exact h1
    | succ i => exact ih i u x (by simpa using hu) (by simpa using hx)
theorem SlsRd.under {w w' : World} {us : List Value} {xs : List (List UInt8)} (h : SlsRd w us xs) (hb : Below w.heap.size w w') : SlsRd w' us xs := by
  induction h with
  | nil => exact .nil
  | cons h1 _ ih => exact .cons (h1.below hb) ih
/-- Slices of bytes in a row that was just laid. -/
theorem rdRecs_row (w : World) (us : List Value) (xs : List (List UInt8)) (h : SlsRd w us xs) (cs : Array Value) (hc : us.toArray = cs) (n : Nat) (hn : us.length = n) (h0 : 0 < n) (hm : n ≤ maxLen) :
    RdRecs (w.alloc (.cells cs 28)) (.slice (some ⟨w.heap.size, 0, none⟩) n n) xs := by
  subst hc hn
  have hal : Below w.heap.size w (w.alloc (.cells us.toArray 28)) := (Below.refl _ w).alloc (Nat.le_refl _) _
  have hb := BlkAt.new w us.toArray 28
  refine ⟨us, .inr ⟨w.heap.size, 0, us.length, rfl, h0, Nat.le_refl _, hm, hb.lt, fun i hi => ?_⟩, h.len, fun i z bs hz hbs => (h.at i z bs hz hbs).below hal⟩
  rw [Nat.zero_add, hb.at i, List.getElem?_toArray, List.getElem?_eq_getElem hi, List.getD_eq_getElem?_getD, List.getElem?_eq_getElem hi, Option.getD_some]
end Go.Proofs.Ytpaoabdjbdlalaa
