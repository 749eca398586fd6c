/- Arguments opened: a law's operations that came in. -/
import Derived.Test.YtcppaflnhlmcbaaGreatDoorVerOpen
namespace Go.Proofs.YtcppaflnhlmcbaaGreatDoor
set_option linter.unusedVariables false
set_option maxRecDepth 100000
open Go.ChangeShapes Go.WideShapes Go.RowKit Go.Deep
structure MOp where
  kind : Int
  n : Int
  e : Edt
/-- An operation's cells. -/
structure MOpC (w : World) (b o : Nat) (x : MOp) (va vd : Value) : Prop where
  c0 : w.cell? ⟨b, o, none⟩ = some (.int .i64 x.kind)
  c1 : w.cell? ⟨b, o + 1, none⟩ = some (.int .i64 x.n)
  c2 : w.cell? ⟨b, o + 2, none⟩ = some (.int .i64 x.e.nxt)
  c3 : w.cell? ⟨b, o + 3, none⟩ = some (.int .i64 x.e.lg)
  c4 : w.cell? ⟨b, o + 4, none⟩ = some (.int .i64 x.e.lst)
  c5 : w.cell? ⟨b, o + 5, none⟩ = some va
  c6 : w.cell? ⟨b, o + 6, none⟩ = some vd
/-- v is a slice that reads as these operations. -/
def MOpsAt (w : World) (v : Value) (xs : List MOp) : Prop := ∃ a cap, v = .slice a xs.length cap ∧ ∀ (i : Nat) (x : MOp), xs[i]? = some x → ∃ b o va vd, a = some ⟨b, o, none⟩ ∧ b < w.heap.size ∧ MOpC w b (o + i * 7) x va vd ∧ RdK encTbf 5 w va x.e.adds ∧ RdV w vd (x.e.dels.map encI64)
theorem mop_open {H : Type} {enc : TypeId × Value → H} {w : World} {base : Nat} {held : Bool} {fuel : Nat} {cs : List Value} {x : DataW H × List MemPlace} (h : DataW.trod enc Tryz.prog w base (fun _ => true) held fuel 41 cs = some x) :
    ∃ (o : MOp) (va vd : Value), cs = [.int .i64 o.kind, .int .i64 o.n, .int .i64 o.e.nxt, .int .i64 o.e.lg, .int .i64 o.e.lst, va, vd] ∧ RdK encTbf 5 w va o.e.adds ∧ RdV w vd (o.e.dels.map encI64) ∧ ∀ f ∈ o.e.adds, f.ok := by
  obtain ⟨ys, n, -, -, hlen, hyl, hf⟩ := DataW.trod_struct Tryz.underlying41 h
  rw [show Tryz.prog.cellsOf 41 = 7 by kernel_rfl] at hlen
  have hi : Tryz.prog.cellsOf 3 = 1 := by kernel_rfl
  have he : Tryz.prog.cellsOf 39 = 5 := by kernel_rfl
  match cs, hlen, ys, hyl with
  | [c0, c1, c2, c3, c4, c5, c6], _, [y0, y1, y2], _ =>
    have k0 : DataW.trod enc Tryz.prog w base (fun _ => true) held n 3 (List.take (Tryz.prog.cellsOf 3) (List.drop 0 [c0, c1, c2, c3, c4, c5, c6])) = some y0 := hf 0 _ rfl
    rw [hi] at k0
    have k1 : DataW.trod enc Tryz.prog w base (fun _ => true) held n 3 (List.take (Tryz.prog.cellsOf 3) (List.drop 1 [c0, c1, c2, c3, c4, c5, c6])) = some y1 := hf 1 _ rfl
    rw [hi] at k1
    have k2 : DataW.trod enc Tryz.prog w base (fun _ => true) held n 39 (List.take (Tryz.prog.cellsOf 39) (List.drop 2 [c0, c1, c2, c3, c4, c5, c6])) = some y2 := hf 2 _ rfl
    rw [he] at k2
    obtain ⟨n0, e0, -, w0⟩ := DataW.trod_int Tryz.underlying3 (k0.trans rfl)
    obtain ⟨n1, e1, -, w1⟩ := DataW.trod_int Tryz.underlying3 (k1.trans rfl)
    obtain ⟨e, va, vd, ee, ha, hd, hok⟩ := edt_open (k2.trans rfl)
    simp at e0 e1 ee
    obtain ⟨rfl, rfl, rfl, rfl, rfl⟩ := ee
    subst e0 e1
    exact ⟨⟨n0, n1, e⟩, _, _, rfl, ha, hd, hok⟩
theorem open_mops {H : Type} {enc : TypeId × Value → H} {w : World} {base : Nat} {held : Bool} {a : Option Addr} {len cap : Nat} {d : DataW H} {p : List MemPlace} (h : DataW.Trod enc Tryz.prog w base (fun _ => true) held 22 (.slice a len cap) d p) :
    ∃ xs : List MOp, MOpsAt w (.slice a len cap) xs ∧ ∀ x ∈ xs, ∀ f ∈ x.e.adds, f.ok := by
  obtain ⟨fuel, hf⟩ := h
  rcases open_slice Tryz.underlying22 hf with ⟨hcs, -⟩ | ⟨x, l, c, m, n, D, Pl, hcs, -, hl, hm, hmm, -, hi⟩
  · simp [Value.cells] at hcs
    obtain ⟨rfl, rfl, rfl⟩ := hcs
    exact ⟨[], ⟨_, _, rfl, fun i x h => by simp at h⟩, by simp⟩
  · simp [Value.cells] at hcs
    obtain ⟨rfl, rfl, rfl⟩ := hcs
    rw [show Tryz.prog.cellsOf 41 = 7 by kernel_rfl] at hi
    have hlm : len ≤ m := by rw [hmm]; split <;> omega
    obtain ⟨xs, hxl, hx⟩ := listOf_each (P := fun i (o : MOp) => (∃ va vd, (∀ j, j < 7 → w.cell? (x.add (i * 7 + j)) = some (([.int .i64 o.kind, .int .i64 o.n, .int .i64 o.e.nxt, .int .i64 o.e.lg, .int .i64 o.e.lst, va, vd] : List Value).getD j undef)) ∧ RdK encTbf 5 w va o.e.adds ∧ RdV w vd (o.e.dels.map encI64)) ∧ ∀ f ∈ o.e.adds, f.ok) len fun i hil => by
      obtain ⟨cs', hc, ht⟩ := hi i (by omega)
      obtain ⟨e, va, vd, rfl, ha, hd, hok⟩ := mop_open ht
      obtain ⟨-, -, hat⟩ := World.cells?_some hc
      refine ⟨e, ⟨va, vd, fun j hj => ?_, ha, hd⟩, hok⟩
      rw [← add_add, hat j hj, List.getD_eq_getElem?_getD, List.getElem?_eq_getElem (by simpa using hj)]; rfl
    refine ⟨xs, ⟨some x, cap, by rw [hxl], fun i e he => ?_⟩, fun e he => by obtain ⟨i, hi, rfl⟩ := List.mem_iff_getElem.1 he; exact (hx i _ (List.getElem?_eq_getElem hi)).2⟩
    obtain ⟨⟨va, vd, hc, ha, hd⟩, -⟩ := hx i e he
    obtain ⟨b, off, spot⟩ := x
    have hlt : 0 < xs.length := Nat.lt_of_le_of_lt (Nat.zero_le i) (List.getElem?_eq_some_iff.1 he).1
    obtain ⟨⟨_, _, hz, -, -⟩, -⟩ := hx 0 xs[0] (List.getElem?_eq_getElem hlt)
    have hz0 := hz 0 (by decide)
    have hspot : spot = none := by simpa [Addr.add] using World.cell?_spot hz0
    subst hspot
    have h00 := hc 0 (by decide)
    rw [add_at] at h00
    refine ⟨b, off, va, vd, rfl, World.block_lt_of_cell? w _ h00, ⟨?_, ?_, ?_, ?_, ?_, ?_, ?_⟩, ha, hd⟩
    · exact h00
    · have := hc 1 (by decide); rwa [add_at, ← Nat.add_assoc] at this
    · have := hc 2 (by decide); rwa [add_at, ← Nat.add_assoc] at this
    · have := hc 3 (by decide); rwa [add_at, ← Nat.add_assoc] at this
    · have := hc 4 (by decide); rwa [add_at, ← Nat.add_assoc] at this
    · have := hc 5 (by decide); rwa [add_at, ← Nat.add_assoc] at this
    · have := hc 6 (by decide); rwa [add_at, ← Nat.add_assoc] at this
/-- One of them, in a later world. -/
theorem MOpsAt.get {w W : World} {a : Option Addr} {len cap : Nat} {xs : List MOp} (h : MOpsAt w (.slice a len cap) xs) (hb : Below w.heap.size w W) {i : Nat} {x : MOp} (hx : xs[i]? = some x) : ∃ b o va vd, a = some ⟨b, o, none⟩ ∧ MOpC W b (o + i * 7) x va vd ∧ EdAt w (.agg #[.int .i64 x.e.nxt, .int .i64 x.e.lg, .int .i64 x.e.lst, va, vd]) x.e := by
  obtain ⟨a', cap', e, h⟩ := h
  obtain ⟨rfl, -, rfl⟩ := Value.slice.inj e
  obtain ⟨b, o, va, vd, rfl, hlt, hc, ha, hd⟩ := h i x hx
  exact ⟨b, o, va, vd, rfl, ⟨(hb.cell hlt).trans hc.c0, (hb.cell hlt).trans hc.c1, (hb.cell hlt).trans hc.c2, (hb.cell hlt).trans hc.c3, (hb.cell hlt).trans hc.c4, (hb.cell hlt).trans hc.c5, (hb.cell hlt).trans hc.c6⟩, va, vd, rfl, ha, hd⟩
end Go.Proofs.YtcppaflnhlmcbaaGreatDoor
