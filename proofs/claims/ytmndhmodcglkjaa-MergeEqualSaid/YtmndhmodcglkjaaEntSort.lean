/- The walks of Sorted, the code's and the reference's. -/
import Derived.Test.YtmndhmodcglkjaaEntLess
import Derived.Test.YtmndhmodcglkjaaTake
import Derived.RegionTactic
import Derived.Deep.LoopGhost
import Derived.Deep.DeepCutAuto
namespace Go.Proofs.Ytmndhmodcglkjaa
set_option linter.unusedVariables false
open Go.RowKit
/-- The five cells of an entry. -/
def AtE (w : World) (b o : Nat) (e : Ent) : Prop := w.cell? ⟨b, o, none⟩ = some (.string e.norm) ∧ w.cell? ⟨b, o + 1, none⟩ = some (.int .i64 e.seq) ∧ w.cell? ⟨b, o + 2, none⟩ = some (.int .i64 e.kind) ∧
  w.cell? ⟨b, o + 3, none⟩ = some (.string e.spell) ∧ w.cell? ⟨b, o + 4, none⟩ = some (.string e.val)
theorem AtE.under {w W : World} {b o : Nat} {e : Ent} (h : AtE w b o e) (hb : b < w.heap.size) (hW : Below w.heap.size w W) : AtE W b o e := by
  obtain ⟨h0, h1, h2, h3, h4⟩ := h
  exact ⟨(hW.cell (p := ⟨b, _, none⟩) hb).trans h0, (hW.cell (p := ⟨b, _, none⟩) hb).trans h1, (hW.cell (p := ⟨b, _, none⟩) hb).trans h2, (hW.cell (p := ⟨b, _, none⟩) hb).trans h3, (hW.cell (p := ⟨b, _, none⟩) hb).trans h4⟩
theorem rdK_len {w : World} {v : Value} {xs : List Ent} (h : RdK encEnt 5 w v xs) : ∃ a len cap, v = .slice a len cap ∧ len = xs.length := by
  rcases h with ⟨a, cap, h1, rfl⟩ | ⟨b, off, cap, h1, -⟩
  · exact ⟨a, 0, cap, h1, rfl⟩
  · exact ⟨_, _, cap, h1, rfl⟩
theorem RdK.at5 {w : World} {a : Option Addr} {len cap : Nat} {xs : List Ent} (h : RdK encEnt 5 w (.slice a len cap) xs) (hn : len = xs.length) (q : Nat) (x : Ent) (hx : xs[q]? = some x) :
    ∃ b off, a = some ⟨b, off, none⟩ ∧ b < w.heap.size ∧ AtE w b (off + q * 5) x := by
  rcases h with ⟨_, _, _, rfl⟩ | ⟨b, off, c, e, h1, h2, h3, h4, h5⟩
  · simp at hx
  · simp only [Value.slice.injEq] at e
    exact ⟨b, off, e.1, h4, h5 q 0 x hx (by decide), h5 q 1 x hx (by decide), h5 q 2 x hx (by decide), h5 q 3 x hx (by decide), h5 q 4 x hx (by decide)⟩
/-- All neighbours ahead of place i are in order. -/
def GoodTo (xs : List Ent) (i : Nat) : Prop := ∀ j (h : j + 1 < xs.length), j + 1 < i → ltE (xs[j]'(by omega)) xs[j + 1]
theorem goodTo_bad {xs : List Ent} {q : Nat} {x y : Ent} (hx : xs[q]? = some x) (hy : xs[q + 1]? = some y) (h : ltB x y = false) : srtB xs = false := by
  obtain ⟨h1, e1⟩ := List.getElem?_eq_some_iff.1 hx
  obtain ⟨h2, e2⟩ := List.getElem?_eq_some_iff.1 hy
  refine srtB_bad h2 ?_
  rw [e1, e2]
  exact of_decide_eq_false h
theorem goodTo_next {xs : List Ent} {q : Nat} {x y : Ent} (hg : GoodTo xs (q + 1)) (hx : xs[q]? = some x) (hy : xs[q + 1]? = some y) (h : ltB x y = true) : GoodTo xs (q + 1 + 1) := by
  intro j hj hlt
  obtain ⟨h1, e1⟩ := List.getElem?_eq_some_iff.1 hx
  obtain ⟨h2, e2⟩ := List.getElem?_eq_some_iff.1 hy
  rcases Nat.lt_or_ge j q with h3 | h3
  · exact hg j hj (by omega)
  · obtain rfl : j = q := by omega
    rw [e1, e2]
    exact of_decide_eq_true h
theorem goodTo_all {xs : List Ent} {i : Nat} (hg : GoodTo xs i) (hi : xs.length ≤ i) : srtB xs = true := srtB_good fun j hj => hg j hj (by omega)
end Go.Proofs.Ytmndhmodcglkjaa
