/- Arguments opened: an entry by value, a slice of entries that came in. -/
import Derived.Test.YtmndhmodcglkjaaShell
import Derived.Test.YtmndhmodcglkjaaEntCut
import Derived.Deep.Slices
import Derived.Deep.Fields
import Derived.ChangeSame
import Derived.Lib.SmallJoins
namespace Go.Proofs.Ytmndhmodcglkjaa
set_option linter.unusedVariables false
set_option maxRecDepth 100000
open Go.ChangeShapes Go.WideShapes Go.RowKit Go.Deep
/-- What an entry's cells may be. -/
theorem ent_cells {H : Type} {enc : TypeId × Value → H} {w : World} {base : Nat} {spare : Nat → Bool} {held : Bool} {fuel : Nat} {cs : List Value} {x : DataW H × List MemPlace} (h : DataW.trod enc Try.prog w base spare held fuel 28 cs = some x) :
    ∃ e : Ent, cs = encEnt e ∧ e.ok := by
  obtain ⟨ys, n, -, -, hlen, hyl, hf⟩ := DataW.trod_struct Try.underlying28 h
  rw [show Try.prog.cellsOf 28 = 5 by kernel_rfl] at hlen
  have hs : Try.prog.cellsOf 9 = 1 := by kernel_rfl
  have hi : Try.prog.cellsOf 2 = 1 := by kernel_rfl
  have hk : Try.prog.cellsOf 3 = 1 := by kernel_rfl
  match cs, hlen, ys, hyl with
  | [c0, c1, c2, c3, c4], _, [y0, y1, y2, y3, y4], _ =>
    have k0 : DataW.trod enc Try.prog w base spare held n 9 (List.take (Try.prog.cellsOf 9) (List.drop 0 [c0, c1, c2, c3, c4])) = some y0 := hf 0 _ rfl
    rw [hs] at k0
    have k1 : DataW.trod enc Try.prog w base spare held n 2 (List.take (Try.prog.cellsOf 2) (List.drop 1 [c0, c1, c2, c3, c4])) = some y1 := hf 1 _ rfl
    rw [hi] at k1
    have k2 : DataW.trod enc Try.prog w base spare held n 3 (List.take (Try.prog.cellsOf 3) (List.drop 2 [c0, c1, c2, c3, c4])) = some y2 := hf 2 _ rfl
    rw [hk] at k2
    have k3 : DataW.trod enc Try.prog w base spare held n 9 (List.take (Try.prog.cellsOf 9) (List.drop 3 [c0, c1, c2, c3, c4])) = some y3 := hf 3 _ rfl
    rw [hs] at k3
    have k4 : DataW.trod enc Try.prog w base spare held n 9 (List.take (Try.prog.cellsOf 9) (List.drop 4 [c0, c1, c2, c3, c4])) = some y4 := hf 4 _ rfl
    rw [hs] at k4
    obtain ⟨s0, e0, -, w0⟩ := DataW.trod_string Try.underlying9 (k0.trans rfl)
    obtain ⟨n1, e1, -, w1⟩ := DataW.trod_int Try.underlying2 (k1.trans rfl)
    obtain ⟨n2, e2, -, w2⟩ := DataW.trod_int Try.underlying3 (k2.trans rfl)
    obtain ⟨s3, e3, -, w3⟩ := DataW.trod_string Try.underlying9 (k3.trans rfl)
    obtain ⟨s4, e4, -, w4⟩ := DataW.trod_string Try.underlying9 (k4.trans rfl)
    simp at e0 e1 e2 e3 e4
    subst e0 e1 e2 e3 e4
    exact ⟨⟨s0, n1, n2, s3, s4⟩, rfl, w0, w3, w4, w1, w2⟩
theorem open_ent {H : Type} {enc : TypeId × Value → H} {w : World} {base : Nat} {spare : Nat → Bool} {held : Bool} {r : Reach} {b0 : Nat} {v : Value} {d : DataW H} {p : List MemPlace} (hv : Value.okWide Try.prog w r b0 28 v) (h : DataW.Trod enc Try.prog w base spare held 28 v d p) :
    ∃ e : Ent, v = e.v ∧ e.ok := by
  obtain ⟨⟨l⟩, rfl, hsz⟩ := okWide_struct Try.underlying28 hv
  obtain ⟨fuel, hf⟩ := h
  obtain ⟨e, he, hok⟩ := ent_cells hf
  simp only [Value.cells] at he
  exact ⟨e, by rw [show l = encEnt e from he]; rfl, hok⟩
theorem list_of {α : Type} {P : Nat → α → Prop} : ∀ (n : Nat), (∀ i, i < n → ∃ e, P i e) → ∃ l : List α, l.length = n ∧ ∀ i e, l[i]? = some e → P i e
  | 0, _ => ⟨[], rfl, fun i e h => by simp at h⟩
  | n + 1, h => by
    obtain ⟨l, hl, hp⟩ := list_of n fun i hi => h i (by omega)
    obtain ⟨e, he⟩ := h n (by omega)
    refine ⟨l ++ [e], by simp [hl], fun i x hx => ?_⟩
    rcases Nat.lt_or_ge i n with h1 | h1
    · rw [List.getElem?_append_left (by omega)] at hx
      exact hp i x hx
    · rw [List.getElem?_append_right (by omega)] at hx
      have h2 : i - l.length = 0 := by
        have := (List.getElem?_eq_some_iff.1 hx).1
        simp at this; omega
      rw [h2] at hx
      obtain rfl : e = x := by simpa using hx
      obtain rfl : i = n := by omega
      exact he
theorem open_ents {H : Type} {enc : TypeId × Value → H} {w : World} {base : Nat} {spare : Nat → Bool} {held : Bool} {a : Option Addr} {len cap : Nat} {d : DataW H} {p : List MemPlace} (h : DataW.Trod enc Try.prog w base spare held 24 (.slice a len cap) d p) :
    ∃ xs : List Ent, RdK encEnt 5 w (.slice a len cap) xs ∧ ∀ e ∈ xs, e.ok := by
  obtain ⟨fuel, hf⟩ := h
  rcases open_slice Try.underlying24 hf with ⟨hcs, -⟩ | ⟨x, l, c, m, n, D, Pl, hcs, -, hl, hm, hmm, -, hi⟩
  · simp [Value.cells] at hcs
    obtain ⟨rfl, rfl, rfl⟩ := hcs
    exact ⟨[], .inl ⟨_, _, rfl, rfl⟩, by simp⟩
  · simp [Value.cells] at hcs
    obtain ⟨rfl, rfl, rfl⟩ := hcs
    rw [show Try.prog.cellsOf 28 = 5 by kernel_rfl] at hi
    have hlm : len ≤ m := by rw [hmm]; split <;> omega
    obtain ⟨xs, hxl, hx⟩ := list_of (P := fun i (e : Ent) => (∀ j, j < 5 → w.cell? (x.add (i * 5 + j)) = some ((encEnt e).getD j undef)) ∧ e.ok) len fun i hil => by
      obtain ⟨cs', hc, ht⟩ := hi i (by omega)
      obtain ⟨e, rfl, hok⟩ := ent_cells ht
      obtain ⟨-, -, hat⟩ := World.cells?_some hc
      refine ⟨e, fun j hj => ?_, hok⟩
      rw [← add_add, hat j hj, List.getD_eq_getElem?_getD, List.getElem?_eq_getElem (by rw [encEnt_len]; exact hj)]; rfl
    refine ⟨xs, ?_, fun e he => by obtain ⟨i, hi, rfl⟩ := List.mem_iff_getElem.1 he; exact (hx i _ (List.getElem?_eq_getElem hi)).2⟩
    rcases Nat.eq_zero_or_pos len with h0 | h0
    · subst h0; exact .inl ⟨_, cap, rfl, List.eq_nil_of_length_eq_zero hxl⟩
    · obtain ⟨b, off, spot⟩ := x
      have h00 := (hx 0 xs[0] (List.getElem?_eq_getElem (by omega))).1 0 (by decide)
      have hspot : spot = none := by simpa [Addr.add] using World.cell?_spot h00
      subst hspot
      refine .inr ⟨b, off, cap, by rw [hxl], by omega, by omega, hm, ?_, fun i j e he hj => ?_⟩
      · rw [add_at] at h00
        exact World.block_lt_of_cell? w _ h00
      · have := (hx i e he).1 j hj
        rwa [add_at, ← Nat.add_assoc] at this
end Go.Proofs.Ytmndhmodcglkjaa
