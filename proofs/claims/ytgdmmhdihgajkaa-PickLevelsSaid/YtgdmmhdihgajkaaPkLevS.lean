/- The law PickLevels' memory: a version, an edit that grows, two rows of five numbers. -/
import Derived.Test.YtgdmmhdihgajkaaPkLevM
import Derived.Test.YtgdmmhdihgajkaaMBase
namespace Go.Proofs.Ytgdmmhdihgajkaa
set_option linter.unusedVariables false
open Go.RowKit
def arr5 (f : Nat → Int) : Array Value := #[.int .i64 (f 0), .int .i64 (f 1), .int .i64 (f 2), .int .i64 (f 3), .int .i64 (f 4)]
theorem arr5_at (f : Nat → Int) {j : Nat} (hj : j ≤ 4) : (arr5 f)[j]? = some (.int .i64 (f j)) := by
  match j, hj with
  | 0, _ => rfl
  | 1, _ => rfl
  | 2, _ => rfl
  | 3, _ => rfl
  | 4, _ => rfl
  | j + 5, h => omega
theorem arr5_set (f : Nat → Int) {j : Nat} (hj : j ≤ 4) (v : Int) : (arr5 f).setIfInBounds j (.int .i64 v) = arr5 (fun n => if n = j then v else f n) := by
  match j, hj with
  | 0, _ => rfl
  | 1, _ => rfl
  | 2, _ => rfl
  | 3, _ => rfl
  | 4, _ => rfl
  | j + 5, h => omega
structure PlSt (w0 w : World) (B0 b g : Nat) (ev ov : Value) (xs : List Tbf) (fs fm : Nat → Int) : Prop where
  hb : w0.heap.size ≤ b
  hg : b < g
  hB : g + 2 < B0
  hw : B0 ≤ w.heap.size
  vb : BlkAt w b #[.slice none 0 0, .int .i64 0, .int .i64 0, .int .i64 0] 67
  eb : BlkAt w g #[.int .i64 0, .int .i64 0, .int .i64 0, ev, .slice none 0 0] 44
  sb : BlkAt w (g + 1) (arr5 fs) 45
  mb : BlkAt w (g + 1 + 1) (arr5 fm) 46
  o : OwnK encTbf 5 49 B0 w ov xs
  u : Below w0.heap.size w0 w
variable {w0 w : World} {B0 b g : Nat} {ev ov : Value} {xs : List Tbf} {fs fm : Nat → Int}
theorem PlSt.grow {w' : World} (h : PlSt w0 w B0 b g ev ov xs fs fm) (u : Below w.heap.size w w') : PlSt w0 w' B0 b g ev ov xs fs fm :=
  ⟨h.hb, h.hg, h.hB, Nat.le_trans h.hw u.size, h.vb.below u, h.eb.below u, h.sb.below u, h.mb.below u, h.o.below u, h.u.trans (u.mono h.u.size)⟩
theorem PlSt.over {w' : World} {ov' : Value} {xs' : List Tbf} (h : PlSt w0 w B0 b g ev ov xs fs fm) (u : Below B0 w w') (o : OwnK encTbf 5 49 B0 w' ov' xs') : PlSt w0 w' B0 b g ev ov' xs' fs fm := by
  have h1 := h.hb; have h2 := h.hg; have h3 := h.hB
  exact ⟨h1, h2, h3, Nat.le_trans h.hw u.size, (u.block b (by omega)).trans h.vb, (u.block g (by omega)).trans h.eb, (u.block (g + 1) (by omega)).trans h.sb, (u.block (g + 1 + 1) (by omega)).trans h.mb, o, h.u.trans (u.mono (by omega))⟩
theorem PlSt.side {c o : Nat} {v : Value} {w' : World} (h : PlSt w0 w B0 b g ev ov xs fs fm) (e : w.setCell ⟨c, o, none⟩ v = w') (hc : g ≤ c) {vs : Array Value} {t : TypeId} (hcb : BlkAt w c vs t) (ht : t ≠ 49) :
    UpdF (fun k => k = c) w w' ∧ B0 ≤ w'.heap.size ∧ BlkAt w' b #[.slice none 0 0, .int .i64 0, .int .i64 0, .int .i64 0] 67 ∧ OwnK encTbf 5 49 B0 w' ov xs ∧ Below w0.heap.size w0 w' := by
  subst e
  have h1 := h.hb; have h2 := h.hg
  have u : UpdF (fun k => k = c) w (w.setCell ⟨c, o, none⟩ v) := (UpdF.refl _ w).set c o _ rfl
  exact ⟨u, Nat.le_trans h.hw u.size, (u.block b h.vb.lt (fun q => by have : b = c := q; omega)).trans h.vb, h.o.asideT u hcb ht, h.u.trans (UpdF.below u h.u.size fun k hk q => by have : k = c := q; omega)⟩
theorem PlSt.setE (h : PlSt w0 w B0 b g ev ov xs fs fm) (v : Value) : PlSt w0 (w.setCell ⟨g, 3, none⟩ v) B0 b g v ov xs fs fm := by
  obtain ⟨u, h1, h2, h3, h4⟩ := h.side (o := 3) (v := v) rfl (Nat.le_refl _) h.eb (by decide)
  exact ⟨h.hb, h.hg, h.hB, h1, h2, h.eb.set (o := 3) v, (u.block (g + 1) h.sb.lt (fun q => by have : g + 1 = g := q; omega)).trans h.sb, (u.block (g + 1 + 1) h.mb.lt (fun q => by have : g + 1 + 1 = g := q; omega)).trans h.mb, h3, h4⟩
theorem PlSt.setS (h : PlSt w0 w B0 b g ev ov xs fs fm) {j : Nat} (hj : j ≤ 4) (v : Int) : PlSt w0 (w.setCell ⟨g + 1, j, none⟩ (.int .i64 v)) B0 b g ev ov xs (fun n => if n = j then v else fs n) fm := by
  obtain ⟨u, h1, h2, h3, h4⟩ := h.side (o := j) (v := .int .i64 v) rfl (Nat.le_succ _) h.sb (by decide)
  refine ⟨h.hb, h.hg, h.hB, h1, h2, (u.block g h.eb.lt (fun q => by have : g = g + 1 := q; omega)).trans h.eb, ?_, (u.block (g + 1 + 1) h.mb.lt (fun q => by have : g + 1 + 1 = g + 1 := q; omega)).trans h.mb, h3, h4⟩
  rw [← arr5_set fs hj v]
  exact h.sb.set (o := j) _
theorem PlSt.setM (h : PlSt w0 w B0 b g ev ov xs fs fm) {j : Nat} (hj : j ≤ 4) (v : Int) : PlSt w0 (w.setCell ⟨g + 1 + 1, j, none⟩ (.int .i64 v)) B0 b g ev ov xs fs (fun n => if n = j then v else fm n) := by
  obtain ⟨u, h1, h2, h3, h4⟩ := h.side (o := j) (v := .int .i64 v) rfl (by omega) h.mb (by decide)
  refine ⟨h.hb, h.hg, h.hB, h1, h2, (u.block g h.eb.lt (fun q => by have : g = g + 1 + 1 := q; omega)).trans h.eb, (u.block (g + 1) h.sb.lt (fun q => by have : g + 1 = g + 1 + 1 := q; omega)).trans h.sb, ?_, h3, h4⟩
  rw [← arr5_set fm hj v]
  exact h.mb.set (o := j) _
/-- A number, taken from 0 to 19999. -/
def nz (x : Int) : Int := if x.tmod 20000 < 0 then -(x.tmod 20000) else x.tmod 20000
theorem nz_bd (x : Int) : 0 ≤ nz x ∧ nz x < 20000 := by
  have h1 : x.tmod 20000 < 20000 := Int.tmod_lt_of_pos x (by decide)
  have h2 : -20000 < x.tmod 20000 := by have := Int.lt_tmod_of_pos x (show (0 : Int) < 20000 by decide); omega
  unfold nz
  split <;> omega
end Go.Proofs.Ytgdmmhdihgajkaa
