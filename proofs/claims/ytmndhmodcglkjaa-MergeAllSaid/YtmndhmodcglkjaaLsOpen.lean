/- Arguments opened: lists of entries that came in. -/
import Derived.Test.YtmndhmodcglkjaaShell
import Derived.Test.YtmndhmodcglkjaaEntOpen
import Derived.Test.YtmndhmodcglkjaaRowsL
import Derived.Deep.Slices
import Derived.Deep.Fields
import Derived.ChangeSame
import Derived.Lib.SmallJoins
namespace Go.Proofs.Ytmndhmodcglkjaa
set_option linter.unusedVariables false
open Go.ChangeShapes Go.WideShapes Go.RowKit Go.Deep
theorem ents_open {H : Type} {enc : TypeId × Value → H} {w : World} {base : Nat} {spare : Nat → Bool} {held : Bool} {fuel : Nat} {cs : List Value} {x : DataW H × List MemPlace} (h : DataW.trod enc Try.prog w base spare held fuel 24 cs = some x) :
    ∃ v, cs = [v] ∧ ∃ xs : List Ent, RdK encEnt 5 w v xs ∧ (∀ o ∈ xs, o.ok) := by
  rcases open_slice Try.underlying24 h with ⟨hcs, -⟩ | ⟨x, len, cap, m, n, D, Pl, hcs, -, hl, hm, hmm, -, hi⟩
  · exact ⟨_, hcs, [], .inl ⟨_, _, rfl, rfl⟩, by simp⟩
  · rw [show Try.prog.cellsOf 28 = 5 by kernel_rfl] at hi
    have hlm : len ≤ m := by rw [hmm]; split <;> omega
    obtain ⟨xs, hxl, hx⟩ := list_of (P := fun i (e : Ent) => (∀ j, j < 5 → w.cell? (x.add (i * 5 + j)) = some ((encEnt e).getD j undef)) ∧ e.ok) len fun i hil => by
      obtain ⟨cs', hc, ht⟩ := hi i (by omega)
      obtain ⟨e, rfl, hok⟩ := ent_cells ht
      obtain ⟨-, -, hat⟩ := World.cells?_some hc
      refine ⟨e, fun j hj => ?_, hok⟩
      rw [← add_add, hat j hj, List.getD_eq_getElem?_getD, List.getElem?_eq_getElem (by rw [encEnt_len]; exact hj)]; rfl
    refine ⟨_, hcs, xs, ?_, fun e he => by obtain ⟨i, hi, rfl⟩ := List.mem_iff_getElem.1 he; exact (hx i _ (List.getElem?_eq_getElem hi)).2⟩
    rcases Nat.eq_zero_or_pos len with h0 | h0
    · subst h0; exact .inl ⟨_, cap, rfl, List.eq_nil_of_length_eq_zero hxl⟩
    · obtain ⟨b, off, spot⟩ := x
      have h00 := (hx 0 xs[0] (List.getElem?_eq_getElem (by omega))).1 0 (by decide)
      have hspot : spot = none := by simpa [Addr.add] using World.cell?_spot h00
      subst hspot
      refine .inr ⟨b, off, cap, by rw [hxl], by omega, by omega, hm, ?_, fun i j e he hj => ?_⟩
      · rw [add_at] at h00
        exact World.block_lt_of_cell? w _ h00
      · have := (hx i e he).1 j hj
        rwa [add_at, ← Nat.add_assoc] at this
/-- Lists of entries that came in. -/
theorem open_lsts {H : Type} {enc : TypeId × Value → H} {w : World} {base : Nat} {spare : Nat → Bool} {held : Bool} {a : Option Addr} {len cap : Nat} {d : DataW H} {p : List MemPlace} (h : DataW.Trod enc Try.prog w base spare held 22 (.slice a len cap) d p) :
    ∃ gs : List (List Ent), RdLs encEnt 5 w (.slice a len cap) gs ∧ (∀ g ∈ gs, ∀ o ∈ g, o.ok) := by
  obtain ⟨fuel, hf⟩ := h
  rcases open_slice Try.underlying22 hf with ⟨hcs, -⟩ | ⟨x, l, c, m, n, D, Pl, hcs, -, hl, hm, hmm, -, hi⟩
  · simp [Value.cells] at hcs
    obtain ⟨rfl, rfl, rfl⟩ := hcs
    exact ⟨[], ⟨[], .inl ⟨_, _, rfl, rfl⟩, rfl, fun i u l h => by simp at h⟩, by simp⟩
  · simp [Value.cells] at hcs
    obtain ⟨rfl, rfl, rfl⟩ := hcs
    rw [show Try.prog.cellsOf 24 = 1 by kernel_rfl] at hi
    have hlm : len ≤ m := by rw [hmm]; split <;> omega
    obtain ⟨xs, hxl, hx⟩ := list_of (P := fun i (e : Value × List Ent) => w.cell? (x.add i) = some e.1 ∧ RdK encEnt 5 w e.1 e.2 ∧ ∀ o ∈ e.2, o.ok) len fun i hil => by
      obtain ⟨cs', hc, ht⟩ := hi i (by omega)
      obtain ⟨v, rfl, ys, h1, h2⟩ := ents_open ht
      obtain ⟨-, -, hat⟩ := World.cells?_some hc
      refine ⟨(v, ys), ?_, h1, h2⟩
      have := hat 0 (by decide)
      rw [Nat.mul_one, add_add, Nat.add_zero] at this
      exact this
    refine ⟨xs.map Prod.snd, ⟨xs.map Prod.fst, ?_, by simp, fun i u l hu hl' => ?_⟩, fun g hg => ?_⟩
    · rcases Nat.eq_zero_or_pos len with h0 | h0
      · subst h0; exact .inl ⟨_, cap, rfl, by rw [List.eq_nil_of_length_eq_zero hxl]; rfl⟩
      · obtain ⟨b, off, spot⟩ := x
        have h00 := (hx 0 xs[0] (List.getElem?_eq_getElem (by omega))).1
        have hspot : spot = none := by simpa [Addr.add] using World.cell?_spot h00
        subst hspot
        refine .inr ⟨b, off, cap, by rw [List.length_map, hxl], by rw [List.length_map]; omega, by rw [List.length_map]; omega, hm, ?_, fun i hil => ?_⟩
        · rw [add_at] at h00
          exact World.block_lt_of_cell? w _ h00
        · rw [List.length_map] at hil
          have := (hx i xs[i] (List.getElem?_eq_getElem hil)).1
          rw [add_at] at this
          rw [this, List.getD_eq_getElem?_getD, List.getElem?_map, List.getElem?_eq_getElem hil]; rfl
    · rw [List.getElem?_map] at hu hl'
      cases e : xs[i]? with
      | none => rw [e] at hu; cases hu
      | some p =>
        rw [e] at hu hl'
        obtain rfl := Option.some.inj hu
        obtain rfl := Option.some.inj hl'
        exact (hx i p e).2.1
    · obtain ⟨p, hp, rfl⟩ := List.mem_map.1 hg
      obtain ⟨i, hi', rfl⟩ := List.mem_iff_getElem.1 hp
      exact (hx i _ (List.getElem?_eq_getElem hi')).2.2
end Go.Proofs.Ytmndhmodcglkjaa
