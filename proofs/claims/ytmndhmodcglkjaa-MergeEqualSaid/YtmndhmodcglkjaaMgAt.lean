/- What a merge writes, by the types of its blocks; a heap of fronts in memory. -/
import Derived.Test.YtmndhmodcglkjaaMgMath
import Derived.Test.YtmndhmodcglkjaaBlk
import Derived.Test.YtmndhmodcglkjaaGrow
import Derived.Test.YtmndhmodcglkjaaRowsL
namespace Go.Proofs.Ytmndhmodcglkjaa
set_option linter.unusedVariables false
open Go.RowKit
def TyIn (S : List TypeId) (w : World) (k : Nat) : Prop := ∃ cs t fz, w.heap[k]? = some (.cells cs t fz) ∧ t ∈ S
/-- Just blocks of these types, from B on, were written; blocks may be new. -/
def UpdT (S : List TypeId) (B : Nat) (w w' : World) : Prop := UpdF (fun k => B ≤ k ∧ TyIn S w k) w w'
theorem UpdT.refl (S : List TypeId) (B : Nat) (w : World) : UpdT S B w w := UpdF.refl _ _
theorem UpdT.of {S : List TypeId} {B : Nat} {w w' : World} (h : Below w.heap.size w w') : UpdT S B w w' := UpdF.of h
theorem UpdT.trans {S : List TypeId} {B : Nat} {x y z : World} (h : UpdT S B x y) (k : UpdT S B y z) : UpdT S B x z :=
  ⟨k.os.trans h.os, k.tape.trans h.tape, k.output.trans h.output, Nat.le_trans h.size k.size, fun i hi hn => by
    have e := h.block i hi hn
    refine (k.block i (Nat.lt_of_lt_of_le hi h.size) fun g => hn ?_).trans e
    obtain ⟨g1, cs, t, fz, g2, g3⟩ := g
    exact ⟨g1, cs, t, fz, by rw [← e]; exact g2, g3⟩⟩
theorem UpdT.mono {S S' : List TypeId} {B B' : Nat} {w w' : World} (h : UpdT S B w w') (hS : ∀ t, t ∈ S → t ∈ S') (hB : B' ≤ B) : UpdT S' B' w w' :=
  UpdF.mono h fun k _ hk => by
    obtain ⟨g1, cs, t, fz, g2, g3⟩ := hk
    exact ⟨Nat.le_trans hB g1, cs, t, fz, g2, hS t g3⟩
theorem UpdT.to {S : List TypeId} {B : Nat} {w w' w2 : World} (h : UpdT S B w w') (k : Below w'.heap.size w' w2) : UpdT S B w w2 := h.trans (.of k)
theorem UpdT.drew {S : List TypeId} {B : Nat} {w w' : World} (h : UpdT S B w w') : UpdT S B w w'.drew := UpdF.drew h
theorem UpdT.set {S : List TypeId} {B : Nat} {w w' : World} (h : UpdT S B w w') {b : Nat} {vs : Array Value} {t : TypeId} (hb : BlkAt w' b vs t) (ht : t ∈ S) (hB : B ≤ b) (o : Nat) (v : Value) : UpdT S B w (w'.setCell ⟨b, o, none⟩ v) :=
  h.trans ((UpdF.refl _ _).set b o v ⟨hB, vs, t, _, hb, ht⟩)
theorem UpdT.blk {S : List TypeId} {B b : Nat} {w w' : World} {vs : Array Value} {t : TypeId} (h : UpdT S B w w') (k : BlkAt w b vs t) (hn : b < B ∨ t ∉ S) : BlkAt w' b vs t := by
  refine (h.block b k.lt ?_).trans k
  rintro ⟨g1, cs, t', fz, g2, g3⟩
  rcases hn with hn | hn
  · omega
  · unfold BlkAt at k; rw [k] at g2; cases g2; exact hn g3
theorem UpdT.below {S : List TypeId} {B : Nat} {w w' : World} (h : UpdT S B w w') (hB : B ≤ w.heap.size) : Below B w w' := UpdF.below h hB fun k hk g => by omega
theorem UpdT.own {S : List TypeId} {B E B' k n : Nat} {w w' : World} {v : Value} {xs : List Value} (h : UpdT S B w w') (o : w.ownsRow B' E k v n xs) (hE : E ∉ S) : w'.ownsRow B' E k v n xs :=
  row_same o fun g hg => by
    refine h.block g (row_lt o g hg) ?_
    rintro ⟨g1, cs, t', fz, g2, g3⟩
    rcases o.2 with ⟨rfl, -⟩ | ⟨g', cap, cur, rfl, e2, e3, e4⟩
    · cases hg
    · obtain rfl : g' = g := Option.some.inj hg
      rw [e3] at g2; cases g2; exact hE g3
theorem UpdT.grown {S : List TypeId} {B B' E k n : Nat} {w w1 w' : World} {v : Value} {xs : List Value} (h : UpdT S B w w1) (o : w1.ownsRow B' E k v n xs) (hg : w1.grownBy w' v.ownBlock) (hE : E ∈ S) (hB : B ≤ B') : UpdT S B w w' :=
  h.trans (UpdF.grown hg fun g hgv => by
    rcases o.2 with ⟨rfl, -⟩ | ⟨g', cap, cur, rfl, e2, e3, e4⟩
    · cases hgv
    · obtain rfl : g' = g := Option.some.inj hgv
      exact ⟨by omega, _, _, _, e3, hE⟩)
/-- A front: its block, its entry, how its source is asked. -/
structure Fnt where
  b : Nat
  e : Ent
  nx : Value
def frC (f : Fnt) (p : Nat) : Array Value := #[.string f.e.norm, .int .i64 f.e.seq, .int .i64 f.e.kind, .string f.e.spell, .string f.e.val, f.nx, .int .i64 (p : Int)]
structure FrCells (w : World) (b : Nat) (n : ByteArray) (s k : Int) (sp vl : ByteArray) (nx : Value) (p : Nat) : Prop where
  c0 : w.cell? ⟨b, 0, none⟩ = some (.string n)
  c1 : w.cell? ⟨b, 1, none⟩ = some (.int .i64 s)
  c2 : w.cell? ⟨b, 2, none⟩ = some (.int .i64 k)
  c3 : w.cell? ⟨b, 3, none⟩ = some (.string sp)
  c4 : w.cell? ⟨b, 4, none⟩ = some (.string vl)
  c5 : w.cell? ⟨b, 5, none⟩ = some nx
  c6 : w.cell? ⟨b, 6, none⟩ = some (.int .i64 (p : Int))
theorem fr_cells {w : World} {f : Fnt} {p : Nat} {t : TypeId} (h : BlkAt w f.b (frC f p) t) : FrCells w f.b f.e.norm f.e.seq f.e.kind f.e.spell f.e.val f.nx p :=
  ⟨h.at 0, h.at 1, h.at 2, h.at 3, h.at 4, h.at 5, h.at 6⟩
/-- The queue in block qb holds v, the row of the fronts F of the places q. -/
structure HQ (F : Nat → Fnt) (w : World) (B qb : Nat) (v : Value) (q : List Nat) : Prop where
  var : BlkAt w qb #[v] 54
  row : OwnV 55 B w v (q.map fun p => ptrO (some (F p).b))
  qB : B ≤ qb
  frs : ∀ p, p ∈ q → BlkAt w (F p).b (frC (F p) p) 57
theorem HQ.form {F : Nat → Fnt} {w : World} {B qb : Nat} {v : Value} {q : List Nat} (h : HQ F w B qb v q) : (v = .slice none 0 0 ∧ q = []) ∨ ∃ g cap, v = .slice (some ⟨g, 0, none⟩) q.length cap ∧ B ≤ g ∧ g < w.heap.size ∧ q.length ≤ cap ∧ cap ≤ maxLen := by
  rcases h.row.nilOr with ⟨rfl, e⟩ | ⟨g, cap, rfl, h1, h2, h3, h4⟩
  · exact .inl ⟨rfl, List.map_eq_nil_iff.1 e⟩
  · rw [List.length_map] at h3 ⊢
    exact .inr ⟨g, cap, rfl, h1, h2, h3, h4⟩
theorem HQ.below {F : Nat → Fnt} {w w' : World} {B qb : Nat} {v : Value} {q : List Nat} (h : HQ F w B qb v q) (u : Below w.heap.size w w') : HQ F w' B qb v q :=
  ⟨h.var.below u, h.row.below u, h.qB, fun p hp => (h.frs p hp).below u⟩
theorem HQ.cellAt {F : Nat → Fnt} {w : World} {B qb g n cap : Nat} {q : List Nat} (h : HQ F w B qb (.slice (some ⟨g, 0, none⟩) n cap) q) {i : Nat} (hi : i < q.length) : w.cell? ⟨g, i, none⟩ = some (ptrO (some (F (q.getD i 0)).b)) ∧ w.frozen? ⟨g, i, none⟩ = false ∧ g < w.heap.size := by
  rcases h.row.2 with ⟨e, -⟩ | ⟨g', c', cur, e1, e2, e3, e4, e5, e6, e7⟩
  · cases e
  · obtain ⟨rfl⟩ : g = g' := by cases e1; rfl
    refine ⟨?_, ?_, (Array.getElem?_eq_some_iff.1 e3).1⟩
    · have hc : cur[i]? = (q.map fun p => ptrO (some (F p).b))[i]? := by
        rw [← e7, List.getElem?_take, List.length_map, if_pos (by omega), Array.getElem?_toList]
      unfold World.cell?
      simp only [e3, Option.isSome_none, Bool.false_eq_true, if_false]
      rw [hc, List.getElem?_map, List.getD_eq_getElem?_getD, List.getElem?_eq_getElem hi]; rfl
    · unfold World.frozen?; rw [e3]; simp
/-- What 'Less' reads. -/
structure LessRd (w : World) (g i j : Nat) (fi fj : Fnt) (pi pj : Nat) : Prop where
  ci : w.cell? ⟨g, i, none⟩ = some (.pointer (some ⟨fi.b, 0, none⟩))
  cj : w.cell? ⟨g, j, none⟩ = some (.pointer (some ⟨fj.b, 0, none⟩))
  gl : g < w.heap.size
  ri : BlkAt w fi.b (frC fi pi) 57
  rj : BlkAt w fj.b (frC fj pj) 57
theorem LessRd.below {w w' : World} {g i j : Nat} {fi fj : Fnt} {pi pj : Nat} (h : LessRd w g i j fi fj pi pj) (u : Below w.heap.size w w') : LessRd w' g i j fi fj pi pj :=
  ⟨(u.cell (p := ⟨g, i, none⟩) h.gl).trans h.ci, (u.cell (p := ⟨g, j, none⟩) h.gl).trans h.cj, Nat.lt_of_lt_of_le h.gl u.size, h.ri.below u, h.rj.below u⟩
theorem HQ.mem {q : List Nat} {i : Nat} (hi : i < q.length) : q.getD i 0 ∈ q := by
  rw [List.getD_eq_getElem?_getD, List.getElem?_eq_getElem hi]; exact List.getElem_mem hi
theorem HQ.less {F : Nat → Fnt} {w : World} {B qb g n cap : Nat} {q : List Nat} (h : HQ F w B qb (.slice (some ⟨g, 0, none⟩) n cap) q) {i j : Nat} (hi : i < q.length) (hj : j < q.length) : LessRd w g i j (F (q.getD i 0)) (F (q.getD j 0)) (q.getD i 0) (q.getD j 0) :=
  ⟨(h.cellAt hi).1, (h.cellAt hj).1, (h.cellAt hi).2.2, h.frs _ (HQ.mem hi), h.frs _ (HQ.mem hj)⟩
end Go.Proofs.Ytmndhmodcglkjaa
