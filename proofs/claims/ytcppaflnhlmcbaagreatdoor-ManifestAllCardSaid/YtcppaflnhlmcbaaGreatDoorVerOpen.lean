/- Arguments opened: edits that came in. -/
import Derived.Test.YtcppaflnhlmcbaaGreatDoorEdtOpen
import Derived.Test.YtcppaflnhlmcbaaGreatDoorVerMade
namespace Go.Proofs.YtcppaflnhlmcbaaGreatDoor
set_option linter.unusedVariables false
set_option maxRecDepth 100000
open Go.ChangeShapes Go.WideShapes Go.RowKit Go.Deep
/-- What an edit's cells may be. -/
theorem edt_open {H : Type} {enc : TypeId × Value → H} {w : World} {base : Nat} {held : Bool} {fuel : Nat} {cs : List Value} {x : DataW H × List MemPlace} (h : DataW.trod enc Tryz.prog w base (fun _ => true) held fuel 39 cs = some x) :
    ∃ (e : Edt) (va vd : Value), cs = [.int .i64 e.nxt, .int .i64 e.lg, .int .i64 e.lst, va, vd] ∧ RdK encTbf 5 w va e.adds ∧ RdV w vd (e.dels.map encI64) ∧ ∀ f ∈ e.adds, f.ok := by
  obtain ⟨ys, n, -, -, hlen, hyl, hf⟩ := DataW.trod_struct Tryz.underlying39 h
  rw [show Tryz.prog.cellsOf 39 = 5 by kernel_rfl] at hlen
  have hi : Tryz.prog.cellsOf 2 = 1 := by kernel_rfl
  have hs : Tryz.prog.cellsOf 34 = 1 := by kernel_rfl
  have hk : Tryz.prog.cellsOf 37 = 1 := by kernel_rfl
  match cs, hlen, ys, hyl with
  | [c0, c1, c2, c3, c4], _, [y0, y1, y2, y3, y4], _ =>
    have k0 : DataW.trod enc Tryz.prog w base (fun _ => true) held n 2 (List.take (Tryz.prog.cellsOf 2) (List.drop 0 [c0, c1, c2, c3, c4])) = some y0 := hf 0 _ rfl
    rw [hi] at k0
    have k1 : DataW.trod enc Tryz.prog w base (fun _ => true) held n 2 (List.take (Tryz.prog.cellsOf 2) (List.drop 1 [c0, c1, c2, c3, c4])) = some y1 := hf 1 _ rfl
    rw [hi] at k1
    have k2 : DataW.trod enc Tryz.prog w base (fun _ => true) held n 2 (List.take (Tryz.prog.cellsOf 2) (List.drop 2 [c0, c1, c2, c3, c4])) = some y2 := hf 2 _ rfl
    rw [hi] at k2
    have k3 : DataW.trod enc Tryz.prog w base (fun _ => true) held n 34 (List.take (Tryz.prog.cellsOf 34) (List.drop 3 [c0, c1, c2, c3, c4])) = some y3 := hf 3 _ rfl
    rw [hs] at k3
    have k4 : DataW.trod enc Tryz.prog w base (fun _ => true) held n 37 (List.take (Tryz.prog.cellsOf 37) (List.drop 4 [c0, c1, c2, c3, c4])) = some y4 := hf 4 _ rfl
    rw [hk] at k4
    obtain ⟨n0, e0, -, w0⟩ := DataW.trod_int Tryz.underlying2 (k0.trans rfl)
    obtain ⟨n1, e1, -, w1⟩ := DataW.trod_int Tryz.underlying2 (k1.trans rfl)
    obtain ⟨n2, e2, -, w2⟩ := DataW.trod_int Tryz.underlying2 (k2.trans rfl)
    obtain ⟨va, ea, xs, ha, hok⟩ := tbfs_open (k3.trans rfl)
    obtain ⟨vd, ed, zs, hd⟩ := i64s_open (k4.trans rfl)
    simp at e0 e1 e2 ea ed
    subst e0 e1 e2 ea ed
    exact ⟨⟨n0, n1, n2, xs, zs⟩, _, _, rfl, ha, hd, hok⟩
end Go.Proofs.YtcppaflnhlmcbaaGreatDoor
