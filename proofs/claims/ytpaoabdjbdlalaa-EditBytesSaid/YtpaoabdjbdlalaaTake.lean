/- Steps of a region that draws its order, taken one by one in the text's order. -/
import Derived.Deep.RegionHeld3
import Derived.Test.YtpaoabdjbdlalaaSlices
namespace Go.Proofs.Ytpaoabdjbdlalaa
set_option linter.unusedVariables false
open Go.RowKit
theorem takeYes {P : Program} {md : Region.Mode} {ops : Array Oper} {Q : Exit → Act → World → Prop} {S : World → Prop} {i k : Nat} {oi : Oper} {v : Value} {fuel : Nat} {listed : Array Bool} {a : Act} {w : World} (ho : ops[i]? = some oi) (hd : oi.dst = some k)
    (hs : Region.noSelect ops = true) (hf : Region.free md ops listed i = true) (hr : (Region.ready md ops listed).contains i = true) (hQ : ∀ c a w, Q (.panic c) (a.put (some k) v) w → Q (.panic c) a w)
    (hw : Region.wanted oi (yielded ops a.tmps) = true) (hy : ∀ w, S w → (execOp a.eval oi).run P w = .ok (.value v) w) (hS : S w)
    (h : wpAnyH P md ops Q S fuel (listed.setIfInBounds i true) (a.put (some k) v) w) : wpAnyH P md ops Q S (fuel + 1) listed a w :=
  wpAnyH_take ho hs hf hr (by rw [hd]; exact hQ) (Or.inl ⟨hw, hy⟩) hS (by rw [hd]; exact h)
/-- an operation whose guard is shut, taken first. -/
theorem takeNot {P : Program} {md : Region.Mode} {ops : Array Oper} {Q : Exit → Act → World → Prop} {S : World → Prop} {i k : Nat} {fuel : Nat} {listed : Array Bool} {a : Act} {w : World} (hd : (ops[i]?).map Oper.dst = some (some k))
    (hs : Region.noSelect ops = true) (hf : Region.free md ops listed i = true) (hr : (Region.ready md ops listed).contains i = true) (hQ : ∀ c a w, Q (.panic c) (a.put (some k) undef) w → Q (.panic c) a w)
    (hw : (ops[i]?).map (fun o => Region.wanted o (yielded ops a.tmps)) = some false) (hS : S w)
    (h : wpAnyH P md ops Q S fuel (listed.setIfInBounds i true) (a.put (some k) undef) w) : wpAnyH P md ops Q S (fuel + 1) listed a w := by
  obtain ⟨o, ho, hdo⟩ := Option.map_eq_some_iff.1 hd
  obtain ⟨o', ho', hwo⟩ := Option.map_eq_some_iff.1 hw
  obtain rfl : o = o' := Option.some.inj (ho.symm.trans ho')
  exact wpAnyH_take ho hs hf hr (by rw [hdo]; exact hQ) (Or.inr ⟨hwo, rfl⟩) hS (by rw [hdo]; exact h)
/-- what holds behind each operation may be more than is asked. -/
theorem wpAnyH_mono {P : Program} {md : Region.Mode} {ops : Array Oper} {Q : Exit → Act → World → Prop} {S S' : World → Prop} (h : ∀ w, S' w → S w) :
    ∀ (fuel : Nat) (listed : Array Bool) (a : Act) (w : World), wpAnyH P md ops Q S' fuel listed a w → wpAnyH P md ops Q S fuel listed a w
  | 0, _, _, _, hh => hh
  | fuel + 1, _, _, _, hh => ⟨hh.1, fun i hi => wpOp_mono (fun a' w' h' => ⟨h _ h'.1, wpAnyH_mono h fuel _ a' w' h'.2⟩) (hh.2 i hi)⟩
/-- from here on: all that lies below is as it is in w2. -/
theorem wpAnyH_shift {P : Program} {md : Region.Mode} {ops : Array Oper} {Q : Exit → Act → World → Prop} {w1 w2 : World} (h : Below w1.heap.size w1 w2) {fuel : Nat} {listed : Array Bool} {a : Act} {w : World}
    (hh : wpAnyH P md ops Q (Below w2.heap.size w2) fuel listed a w) : wpAnyH P md ops Q (Below w1.heap.size w1) fuel listed a w :=
  wpAnyH_mono (fun _ h' => h.trans (h'.mono h.size)) fuel listed a w hh
end Go.Proofs.Ytpaoabdjbdlalaa
