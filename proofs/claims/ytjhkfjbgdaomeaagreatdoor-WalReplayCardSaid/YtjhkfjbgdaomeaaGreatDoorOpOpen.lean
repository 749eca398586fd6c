/- Arguments opened: groups of changes that came in. -/
import Derived.Test.YtjhkfjbgdaomeaaGreatDoorMBase
import Derived.Test.YtjhkfjbgdaomeaaGreatDoorMOp
import Derived.Test.YtjhkfjbgdaomeaaGreatDoorRowsL
import Derived.Deep.Slices
import Derived.Deep.Fields
import Derived.ChangeSame
import Derived.Lib.SmallJoins
namespace Go.Proofs.YtjhkfjbgdaomeaaGreatDoor
set_option linter.unusedVariables false
open Go.ChangeShapes Go.WideShapes Go.RowKit Go.Deep
set_option maxRecDepth 100000 in
/-- What a change's cells may be. -/
theorem op_open {H : Type} {enc : TypeId × Value → H} {w : World} {base : Nat} {spare : Nat → Bool} {held : Bool} {fuel : Nat} {cs : List Value} {x : DataW H × List MemPlace} (h : DataW.trod enc Tryz.prog w base spare held fuel 49 cs = some x) :
    ∃ o : Opn, cs = encOp o ∧ o.ok := by
  obtain ⟨ys, n, -, -, hlen, hyl, hf⟩ := DataW.trod_struct Tryz.underlying49 h
  rw [show Tryz.prog.cellsOf 49 = 3 by kernel_rfl] at hlen
  have hs : Tryz.prog.cellsOf 9 = 1 := by kernel_rfl
  have hk : Tryz.prog.cellsOf 3 = 1 := by kernel_rfl
  match cs, hlen, ys, hyl with
  | [c0, c1, c2], _, [y0, y1, y2], _ =>
    have k0 : DataW.trod enc Tryz.prog w base spare held n 3 (List.take (Tryz.prog.cellsOf 3) (List.drop 0 [c0, c1, c2])) = some y0 := hf 0 _ rfl
    rw [hk] at k0
    have k1 : DataW.trod enc Tryz.prog w base spare held n 9 (List.take (Tryz.prog.cellsOf 9) (List.drop 1 [c0, c1, c2])) = some y1 := hf 1 _ rfl
    rw [hs] at k1
    have k2 : DataW.trod enc Tryz.prog w base spare held n 9 (List.take (Tryz.prog.cellsOf 9) (List.drop 2 [c0, c1, c2])) = some y2 := hf 2 _ rfl
    rw [hs] at k2
    obtain ⟨n0, e0, -, -⟩ := DataW.trod_int Tryz.underlying3 (k0.trans rfl)
    obtain ⟨s1, e1, -, w1⟩ := DataW.trod_string Tryz.underlying9 (k1.trans rfl)
    obtain ⟨s2, e2, -, w2⟩ := DataW.trod_string Tryz.underlying9 (k2.trans rfl)
    simp at e0 e1 e2
    subst e0 e1 e2
    exact ⟨⟨n0, s1, s2⟩, rfl, w1, w2⟩
theorem list_all {α : Type} {P : Nat → α → Prop} : ∀ (n : Nat), (∀ i, i < n → ∃ e, P i e) → ∃ l : List α, l.length = n ∧ ∀ i e, l[i]? = some e → P i e
  | 0, _ => ⟨[], rfl, fun i e h => by simp at h⟩
  | n + 1, h => by
    obtain ⟨l, hl, hp⟩ := list_all n fun i hi => h i (by omega)
    obtain ⟨e, he⟩ := h n (by omega)
    refine ⟨l ++ [e], by simp [hl], fun i x hx => ?_⟩
    rcases Nat.lt_or_ge i n with h1 | h1
    · rw [List.getElem?_append_left (by omega)] at hx
      exact hp i x hx
    · rw [List.getElem?_append_right (by omega)] at hx
      have h2 : i - l.length = 0 := by
        have := (List.getElem?_eq_some_iff.1 hx).1
        simp at this; omega
      rw [h2] at hx
      obtain rfl : e = x := by simpa using hx
      obtain rfl : i = n := by omega
      exact he
theorem ops_open {H : Type} {enc : TypeId × Value → H} {w : World} {base : Nat} {spare : Nat → Bool} {held : Bool} {fuel : Nat} {cs : List Value} {x : DataW H × List MemPlace} (h : DataW.trod enc Tryz.prog w base spare held fuel 32 cs = some x) :
    ∃ v, cs = [v] ∧ ∃ xs : List Opn, RdK encOp 3 w v xs ∧ (∀ o ∈ xs, o.ok) := by
  rcases open_slice Tryz.underlying32 h with ⟨hcs, -⟩ | ⟨x, len, cap, m, n, D, Pl, hcs, -, hl, hm, hmm, -, hi⟩
  · exact ⟨_, hcs, [], .inl ⟨_, _, rfl, rfl⟩, by simp⟩
  · rw [show Tryz.prog.cellsOf 49 = 3 by kernel_rfl] at hi
    have hlm : len ≤ m := by rw [hmm]; split <;> omega
    obtain ⟨xs, hxl, hx⟩ := list_all (P := fun i (e : Opn) => (∀ j, j < 3 → w.cell? (x.add (i * 3 + j)) = some ((encOp e).getD j undef)) ∧ e.ok) len fun i hil => by
      obtain ⟨cs', hc, ht⟩ := hi i (by omega)
      obtain ⟨e, rfl, hok⟩ := op_open ht
      obtain ⟨-, -, hat⟩ := World.cells?_some hc
      refine ⟨e, fun j hj => ?_, hok⟩
      rw [← add_add, hat j hj, List.getD_eq_getElem?_getD, List.getElem?_eq_getElem (by rw [encOp_len]; exact hj)]; rfl
    refine ⟨_, hcs, xs, ?_, fun e he => by obtain ⟨i, hi, rfl⟩ := List.mem_iff_getElem.1 he; exact (hx i _ (List.getElem?_eq_getElem hi)).2⟩
    rcases Nat.eq_zero_or_pos len with h0 | h0
    · subst h0; exact .inl ⟨_, cap, rfl, List.eq_nil_of_length_eq_zero hxl⟩
    · obtain ⟨b, off, spot⟩ := x
      have h00 := (hx 0 xs[0] (List.getElem?_eq_getElem (by omega))).1 0 (by decide)
      have hspot : spot = none := by simpa [Addr.add] using World.cell?_spot h00
      subst hspot
      refine .inr ⟨b, off, cap, by rw [hxl], by omega, by omega, hm, ?_, fun i j e he hj => ?_⟩
      · rw [add_at] at h00
        exact World.block_lt_of_cell? w _ h00
      · have := (hx i e he).1 j hj
        rwa [add_at, ← Nat.add_assoc] at this
/-- Groups that came in. -/
theorem open_grps {H : Type} {enc : TypeId × Value → H} {w : World} {base : Nat} {spare : Nat → Bool} {held : Bool} {a : Option Addr} {len cap : Nat} {d : DataW H} {p : List MemPlace} (h : DataW.Trod enc Tryz.prog w base spare held 22 (.slice a len cap) d p) :
    ∃ gs : List (List Opn), RdLs encOp 3 w (.slice a len cap) gs ∧ (∀ g ∈ gs, ∀ o ∈ g, o.ok) := by
  obtain ⟨fuel, hf⟩ := h
  rcases open_slice Tryz.underlying22 hf with ⟨hcs, -⟩ | ⟨x, l, c, m, n, D, Pl, hcs, -, hl, hm, hmm, -, hi⟩
  · simp [Value.cells] at hcs
    obtain ⟨rfl, rfl, rfl⟩ := hcs
    exact ⟨[], ⟨[], .inl ⟨_, _, rfl, rfl⟩, rfl, fun i u l h => by simp at h⟩, by simp⟩
  · simp [Value.cells] at hcs
    obtain ⟨rfl, rfl, rfl⟩ := hcs
    rw [show Tryz.prog.cellsOf 32 = 1 by kernel_rfl] at hi
    have hlm : len ≤ m := by rw [hmm]; split <;> omega
    obtain ⟨xs, hxl, hx⟩ := list_all (P := fun i (e : Value × List Opn) => w.cell? (x.add i) = some e.1 ∧ RdK encOp 3 w e.1 e.2 ∧ ∀ o ∈ e.2, o.ok) len fun i hil => by
      obtain ⟨cs', hc, ht⟩ := hi i (by omega)
      obtain ⟨v, rfl, ys, h1, h2⟩ := ops_open ht
      obtain ⟨-, -, hat⟩ := World.cells?_some hc
      refine ⟨(v, ys), ?_, h1, h2⟩
      have := hat 0 (by decide)
      rw [Nat.mul_one, add_add, Nat.add_zero] at this
      exact this
    refine ⟨xs.map Prod.snd, ⟨xs.map Prod.fst, ?_, by simp, fun i u l hu hl' => ?_⟩, fun g hg => ?_⟩
    · rcases Nat.eq_zero_or_pos len with h0 | h0
      · subst h0; exact .inl ⟨_, cap, rfl, by rw [List.eq_nil_of_length_eq_zero hxl]; rfl⟩
      · obtain ⟨b, off, spot⟩ := x
        have h00 := (hx 0 xs[0] (List.getElem?_eq_getElem (by omega))).1
        have hspot : spot = none := by simpa [Addr.add] using World.cell?_spot h00
        subst hspot
        refine .inr ⟨b, off, cap, by rw [List.length_map, hxl], by rw [List.length_map]; omega, by rw [List.length_map]; omega, hm, ?_, fun i hil => ?_⟩
        · rw [add_at] at h00
          exact World.block_lt_of_cell? w _ h00
        · rw [List.length_map] at hil
          have := (hx i xs[i] (List.getElem?_eq_getElem hil)).1
          rw [add_at] at this
          rw [this, List.getD_eq_getElem?_getD, List.getElem?_map, List.getElem?_eq_getElem hil]; rfl
    · rw [List.getElem?_map] at hu hl'
      cases e : xs[i]? with
      | none => rw [e] at hu; cases hu
      | some p =>
        rw [e] at hu hl'
        obtain rfl := Option.some.inj hu
        obtain rfl := Option.some.inj hl'
        exact (hx i p e).2.1
    · obtain ⟨p, hp, rfl⟩ := List.mem_map.1 hg
      obtain ⟨i, hi', rfl⟩ := List.mem_iff_getElem.1 hp
      exact (hx i _ (List.getElem?_eq_getElem hi')).2.2
end Go.Proofs.YtjhkfjbgdaomeaaGreatDoor
