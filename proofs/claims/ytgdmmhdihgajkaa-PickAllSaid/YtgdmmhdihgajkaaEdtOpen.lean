/- Arguments opened: an edit that came in. -/
import Derived.Test.YtgdmmhdihgajkaaMBase
import Derived.Test.YtgdmmhdihgajkaaMEdt
import Derived.Deep.Slices
import Derived.Deep.Fields
import Derived.ChangeSame
import Derived.Lib.SmallJoins
namespace Go.Proofs.Ytgdmmhdihgajkaa
set_option linter.unusedVariables false
set_option maxRecDepth 100000
open Go.ChangeShapes Go.WideShapes Go.RowKit Go.Deep
/-- What a table's cells may be. -/
theorem tbf_open {H : Type} {enc : TypeId × Value → H} {w : World} {base : Nat} {spare : Nat → Bool} {held : Bool} {fuel : Nat} {cs : List Value} {x : DataW H × List MemPlace} (h : DataW.trod enc Try.prog w base spare held fuel 49 cs = some x) :
    ∃ f : Tbf, cs = encTbf f ∧ f.ok := by
  obtain ⟨ys, n, -, -, hlen, hyl, hf⟩ := DataW.trod_struct Try.underlying49 h
  rw [show Try.prog.cellsOf 49 = 5 by kernel_rfl] at hlen
  have hs : Try.prog.cellsOf 9 = 1 := by kernel_rfl
  have hi : Try.prog.cellsOf 2 = 1 := by kernel_rfl
  have hk : Try.prog.cellsOf 3 = 1 := by kernel_rfl
  match cs, hlen, ys, hyl with
  | [c0, c1, c2, c3, c4], _, [y0, y1, y2, y3, y4], _ =>
    have k0 : DataW.trod enc Try.prog w base spare held n 2 (List.take (Try.prog.cellsOf 2) (List.drop 0 [c0, c1, c2, c3, c4])) = some y0 := hf 0 _ rfl
    rw [hi] at k0
    have k1 : DataW.trod enc Try.prog w base spare held n 3 (List.take (Try.prog.cellsOf 3) (List.drop 1 [c0, c1, c2, c3, c4])) = some y1 := hf 1 _ rfl
    rw [hk] at k1
    have k2 : DataW.trod enc Try.prog w base spare held n 3 (List.take (Try.prog.cellsOf 3) (List.drop 2 [c0, c1, c2, c3, c4])) = some y2 := hf 2 _ rfl
    rw [hk] at k2
    have k3 : DataW.trod enc Try.prog w base spare held n 9 (List.take (Try.prog.cellsOf 9) (List.drop 3 [c0, c1, c2, c3, c4])) = some y3 := hf 3 _ rfl
    rw [hs] at k3
    have k4 : DataW.trod enc Try.prog w base spare held n 9 (List.take (Try.prog.cellsOf 9) (List.drop 4 [c0, c1, c2, c3, c4])) = some y4 := hf 4 _ rfl
    rw [hs] at k4
    obtain ⟨n0, e0, -, w0⟩ := DataW.trod_int Try.underlying2 (k0.trans rfl)
    obtain ⟨n1, e1, -, w1⟩ := DataW.trod_int Try.underlying3 (k1.trans rfl)
    obtain ⟨n2, e2, -, w2⟩ := DataW.trod_int Try.underlying3 (k2.trans rfl)
    obtain ⟨s3, e3, -, w3⟩ := DataW.trod_string Try.underlying9 (k3.trans rfl)
    obtain ⟨s4, e4, -, w4⟩ := DataW.trod_string Try.underlying9 (k4.trans rfl)
    simp at e0 e1 e2 e3 e4
    subst e0 e1 e2 e3 e4
    exact ⟨⟨n0, n1, n2, s3, s4⟩, rfl, w3, w4⟩
theorem tbfs_open {H : Type} {enc : TypeId × Value → H} {w : World} {base : Nat} {spare : Nat → Bool} {held : Bool} {fuel : Nat} {cs : List Value} {x : DataW H × List MemPlace} (h : DataW.trod enc Try.prog w base spare held fuel 30 cs = some x) :
    ∃ v, cs = [v] ∧ ∃ xs : List Tbf, RdK encTbf 5 w v xs ∧ (∀ o ∈ xs, o.ok) := by
  rcases open_slice Try.underlying30 h with ⟨hcs, -⟩ | ⟨x, len, cap, m, n, D, Pl, hcs, -, hl, hm, hmm, -, hi⟩
  · exact ⟨_, hcs, [], .inl ⟨_, _, rfl, rfl⟩, by simp⟩
  · rw [show Try.prog.cellsOf 49 = 5 by kernel_rfl] at hi
    have hlm : len ≤ m := by rw [hmm]; split <;> omega
    obtain ⟨xs, hxl, hx⟩ := listOf_each (P := fun i (e : Tbf) => (∀ j, j < 5 → w.cell? (x.add (i * 5 + j)) = some ((encTbf e).getD j undef)) ∧ e.ok) len fun i hil => by
      obtain ⟨cs', hc, ht⟩ := hi i (by omega)
      obtain ⟨e, rfl, hok⟩ := tbf_open ht
      obtain ⟨-, -, hat⟩ := World.cells?_some hc
      refine ⟨e, fun j hj => ?_, hok⟩
      rw [← add_add, hat j hj, List.getD_eq_getElem?_getD, List.getElem?_eq_getElem (by rw [encTbf_len]; exact hj)]; rfl
    refine ⟨_, hcs, xs, ?_, fun e he => by obtain ⟨i, hi, rfl⟩ := List.mem_iff_getElem.1 he; exact (hx i _ (List.getElem?_eq_getElem hi)).2⟩
    rcases Nat.eq_zero_or_pos len with h0 | h0
    · subst h0; exact .inl ⟨_, cap, rfl, List.eq_nil_of_length_eq_zero hxl⟩
    · obtain ⟨b, off, spot⟩ := x
      have h00 := (hx 0 xs[0] (List.getElem?_eq_getElem (by omega))).1 0 (by decide)
      have hspot : spot = none := by simpa [Addr.add] using World.cell?_spot h00
      subst hspot
      refine .inr ⟨b, off, cap, by rw [hxl], by omega, by omega, hm, ?_, fun i j e he hj => ?_⟩
      · rw [add_at] at h00
        exact World.block_lt_of_cell? w _ h00
      · have := (hx i e he).1 j hj
        rwa [add_at, ← Nat.add_assoc] at this
theorem i64s_open {H : Type} {enc : TypeId × Value → H} {w : World} {base : Nat} {held : Bool} {fuel : Nat} {cs : List Value} {x : DataW H × List MemPlace} (h : DataW.trod enc Try.prog w base (fun _ => true) held fuel 42 cs = some x) :
    ∃ v, cs = [v] ∧ ∃ zs : List Int, RdV w v (zs.map encI64) := by
  rcases open_ints Try.underlying42 Try.underlying2 (by kernel_rfl) h with ⟨hcs, _⟩ | ⟨x, l, c, zs, hcs, _, hl, hm, hz, _, hcell, hwz⟩
  · exact ⟨_, hcs, [], .inl ⟨_, _, rfl, rfl⟩⟩
  · exact ⟨_, hcs, zs.take l, rd_open hl hm (by simpa using hz) hcell⟩
/-- An edit that came in. -/
theorem open_edt {H : Type} {enc : TypeId × Value → H} {w : World} {base : Nat} {held : Bool} {r : Reach} {b0 : Nat} {v : Value} {d : DataW H} {p : List MemPlace} (hv : Value.okWide Try.prog w r b0 44 v) (h : DataW.Trod enc Try.prog w base (fun _ => true) held 44 v d p) :
    ∃ e : Edt, EdAt w v e ∧ ∀ f ∈ e.adds, f.ok := by
  obtain ⟨⟨l⟩, rfl, hsz⟩ := okWide_struct Try.underlying44 hv
  obtain ⟨fuel, hf⟩ := h
  obtain ⟨ys, n, -, -, hlen, hyl, hf⟩ := DataW.trod_struct Try.underlying44 hf
  rw [show Try.prog.cellsOf 44 = 5 by kernel_rfl] at hlen
  have hi : Try.prog.cellsOf 2 = 1 := by kernel_rfl
  have hs : Try.prog.cellsOf 30 = 1 := by kernel_rfl
  have hk : Try.prog.cellsOf 42 = 1 := by kernel_rfl
  simp only [Value.cells] at hlen hf
  match l, hlen, ys, hyl with
  | [c0, c1, c2, c3, c4], _, [y0, y1, y2, y3, y4], _ =>
    have k0 : DataW.trod enc Try.prog w base (fun _ => true) held n 2 (List.take (Try.prog.cellsOf 2) (List.drop 0 [c0, c1, c2, c3, c4])) = some y0 := hf 0 _ rfl
    rw [hi] at k0
    have k1 : DataW.trod enc Try.prog w base (fun _ => true) held n 2 (List.take (Try.prog.cellsOf 2) (List.drop 1 [c0, c1, c2, c3, c4])) = some y1 := hf 1 _ rfl
    rw [hi] at k1
    have k2 : DataW.trod enc Try.prog w base (fun _ => true) held n 2 (List.take (Try.prog.cellsOf 2) (List.drop 2 [c0, c1, c2, c3, c4])) = some y2 := hf 2 _ rfl
    rw [hi] at k2
    have k3 : DataW.trod enc Try.prog w base (fun _ => true) held n 30 (List.take (Try.prog.cellsOf 30) (List.drop 3 [c0, c1, c2, c3, c4])) = some y3 := hf 3 _ rfl
    rw [hs] at k3
    have k4 : DataW.trod enc Try.prog w base (fun _ => true) held n 42 (List.take (Try.prog.cellsOf 42) (List.drop 4 [c0, c1, c2, c3, c4])) = some y4 := hf 4 _ rfl
    rw [hk] at k4
    obtain ⟨n0, e0, -, w0⟩ := DataW.trod_int Try.underlying2 (k0.trans rfl)
    obtain ⟨n1, e1, -, w1⟩ := DataW.trod_int Try.underlying2 (k1.trans rfl)
    obtain ⟨n2, e2, -, w2⟩ := DataW.trod_int Try.underlying2 (k2.trans rfl)
    obtain ⟨va, ea, xs, ha, hok⟩ := tbfs_open (k3.trans rfl)
    obtain ⟨vd, ed, zs, hd⟩ := i64s_open (k4.trans rfl)
    simp at e0 e1 e2 ea ed
    subst e0 e1 e2 ea ed
    exact ⟨⟨n0, n1, n2, xs, zs⟩, ⟨_, _, rfl, ha, hd⟩, hok⟩
end Go.Proofs.Ytgdmmhdihgajkaa
