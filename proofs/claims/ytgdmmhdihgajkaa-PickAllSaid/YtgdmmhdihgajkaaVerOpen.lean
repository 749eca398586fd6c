/- Arguments opened: edits that came in. -/
import Derived.Test.YtgdmmhdihgajkaaEdtOpen
import Derived.Test.YtgdmmhdihgajkaaVerMade
namespace Go.Proofs.Ytgdmmhdihgajkaa
set_option linter.unusedVariables false
set_option maxRecDepth 100000
open Go.ChangeShapes Go.WideShapes Go.RowKit Go.Deep
/-- What an edit's cells may be. -/
theorem edt_open {H : Type} {enc : TypeId × Value → H} {w : World} {base : Nat} {held : Bool} {fuel : Nat} {cs : List Value} {x : DataW H × List MemPlace} (h : DataW.trod enc Try.prog w base (fun _ => true) held fuel 44 cs = some x) :
    ∃ (e : Edt) (va vd : Value), cs = [.int .i64 e.nxt, .int .i64 e.lg, .int .i64 e.lst, va, vd] ∧ RdK encTbf 5 w va e.adds ∧ RdV w vd (e.dels.map encI64) ∧ ∀ f ∈ e.adds, f.ok := by
  obtain ⟨ys, n, -, -, hlen, hyl, hf⟩ := DataW.trod_struct Try.underlying44 h
  rw [show Try.prog.cellsOf 44 = 5 by kernel_rfl] at hlen
  have hi : Try.prog.cellsOf 2 = 1 := by kernel_rfl
  have hs : Try.prog.cellsOf 30 = 1 := by kernel_rfl
  have hk : Try.prog.cellsOf 42 = 1 := by kernel_rfl
  match cs, hlen, ys, hyl with
  | [c0, c1, c2, c3, c4], _, [y0, y1, y2, y3, y4], _ =>
    have k0 : DataW.trod enc Try.prog w base (fun _ => true) held n 2 (List.take (Try.prog.cellsOf 2) (List.drop 0 [c0, c1, c2, c3, c4])) = some y0 := hf 0 _ rfl
    rw [hi] at k0
    have k1 : DataW.trod enc Try.prog w base (fun _ => true) held n 2 (List.take (Try.prog.cellsOf 2) (List.drop 1 [c0, c1, c2, c3, c4])) = some y1 := hf 1 _ rfl
    rw [hi] at k1
    have k2 : DataW.trod enc Try.prog w base (fun _ => true) held n 2 (List.take (Try.prog.cellsOf 2) (List.drop 2 [c0, c1, c2, c3, c4])) = some y2 := hf 2 _ rfl
    rw [hi] at k2
    have k3 : DataW.trod enc Try.prog w base (fun _ => true) held n 30 (List.take (Try.prog.cellsOf 30) (List.drop 3 [c0, c1, c2, c3, c4])) = some y3 := hf 3 _ rfl
    rw [hs] at k3
    have k4 : DataW.trod enc Try.prog w base (fun _ => true) held n 42 (List.take (Try.prog.cellsOf 42) (List.drop 4 [c0, c1, c2, c3, c4])) = some y4 := hf 4 _ rfl
    rw [hk] at k4
    obtain ⟨n0, e0, -, w0⟩ := DataW.trod_int Try.underlying2 (k0.trans rfl)
    obtain ⟨n1, e1, -, w1⟩ := DataW.trod_int Try.underlying2 (k1.trans rfl)
    obtain ⟨n2, e2, -, w2⟩ := DataW.trod_int Try.underlying2 (k2.trans rfl)
    obtain ⟨va, ea, xs, ha, hok⟩ := tbfs_open (k3.trans rfl)
    obtain ⟨vd, ed, zs, hd⟩ := i64s_open (k4.trans rfl)
    simp at e0 e1 e2 ea ed
    subst e0 e1 e2 ea ed
    exact ⟨⟨n0, n1, n2, xs, zs⟩, _, _, rfl, ha, hd, hok⟩
theorem open_edts {H : Type} {enc : TypeId × Value → H} {w : World} {base : Nat} {held : Bool} {a : Option Addr} {len cap : Nat} {d : DataW H} {p : List MemPlace} (h : DataW.Trod enc Try.prog w base (fun _ => true) held 22 (.slice a len cap) d p) :
    ∃ xs : List Edt, EdtsAt w (.slice a len cap) xs ∧ ∀ x ∈ xs, ∀ f ∈ x.adds, f.ok := by
  obtain ⟨fuel, hf⟩ := h
  rcases open_slice Try.underlying22 hf with ⟨hcs, -⟩ | ⟨x, l, c, m, n, D, Pl, hcs, -, hl, hm, hmm, -, hi⟩
  · simp [Value.cells] at hcs
    obtain ⟨rfl, rfl, rfl⟩ := hcs
    exact ⟨[], ⟨_, _, rfl, fun i x h => by simp at h⟩, by simp⟩
  · simp [Value.cells] at hcs
    obtain ⟨rfl, rfl, rfl⟩ := hcs
    rw [show Try.prog.cellsOf 44 = 5 by kernel_rfl] at hi
    have hlm : len ≤ m := by rw [hmm]; split <;> omega
    obtain ⟨xs, hxl, hx⟩ := listOf_each (P := fun i (e : Edt) => (∃ va vd, (∀ j, j < 5 → w.cell? (x.add (i * 5 + j)) = some (([.int .i64 e.nxt, .int .i64 e.lg, .int .i64 e.lst, va, vd] : List Value).getD j undef)) ∧ RdK encTbf 5 w va e.adds ∧ RdV w vd (e.dels.map encI64)) ∧ ∀ f ∈ e.adds, f.ok) len fun i hil => by
      obtain ⟨cs', hc, ht⟩ := hi i (by omega)
      obtain ⟨e, va, vd, rfl, ha, hd, hok⟩ := edt_open ht
      obtain ⟨-, -, hat⟩ := World.cells?_some hc
      refine ⟨e, ⟨va, vd, fun j hj => ?_, ha, hd⟩, hok⟩
      rw [← add_add, hat j hj, List.getD_eq_getElem?_getD, List.getElem?_eq_getElem (by simpa using hj)]; rfl
    refine ⟨xs, ⟨some x, cap, by rw [hxl], fun i e he => ?_⟩, fun e he => by obtain ⟨i, hi, rfl⟩ := List.mem_iff_getElem.1 he; exact (hx i _ (List.getElem?_eq_getElem hi)).2⟩
    obtain ⟨⟨va, vd, hc, ha, hd⟩, -⟩ := hx i e he
    obtain ⟨b, off, spot⟩ := x
    have hlt : 0 < xs.length := Nat.lt_of_le_of_lt (Nat.zero_le i) (List.getElem?_eq_some_iff.1 he).1
    obtain ⟨⟨_, _, hz, -, -⟩, -⟩ := hx 0 xs[0] (List.getElem?_eq_getElem hlt)
    have hz0 := hz 0 (by decide)
    have hspot : spot = none := by simpa [Addr.add] using World.cell?_spot hz0
    subst hspot
    have h00 := hc 0 (by decide)
    rw [add_at] at h00
    refine ⟨b, off, va, vd, rfl, World.block_lt_of_cell? w _ h00, ⟨?_, ?_, ?_, ?_, ?_⟩, ha, hd⟩
    · exact h00
    · have := hc 1 (by decide); rwa [add_at, ← Nat.add_assoc] at this
    · have := hc 2 (by decide); rwa [add_at, ← Nat.add_assoc] at this
    · have := hc 3 (by decide); rwa [add_at, ← Nat.add_assoc] at this
    · have := hc 4 (by decide); rwa [add_at, ← Nat.add_assoc] at this
end Go.Proofs.Ytgdmmhdihgajkaa
