/- A builder of a block in memory: its four cells, its rows' bytes, its places; what an append to either and a store do. -/
import Derived.Test.YtaddihabjdoihaaBlkSmall
import Derived.Test.YtaddihabjdoihaaBlk
namespace Go.Proofs.Ytaddihabjdoihaa
set_option linter.unusedVariables false
open Go.RowKit
/-- On the way: since w just what F names (or what is new) was written; the builder b holds these. -/
structure BdL (F : Nat → Prop) (w wk : World) (b : Nat) (vr vp : Value) (n : Nat) (l : ByteArray) (R : List UInt8) (P : List Nat) : Prop where
  blk : BlkAt wk b #[vr, vp, .int .i64 (n : Int), .string l] 52
  rows : OwnB 0 wk vr R
  places : OwnK encN 1 3 0 wk vp P
  rin : ∀ g, vr.ownBlock = some g → F g ∨ w.heap.size ≤ g
  pin : ∀ g, vp.ownBlock = some g → F g ∨ w.heap.size ≤ g
  bin : F b ∨ w.heap.size ≤ b
  upd : UpdF F w wk
/-- The builder b holds the rows rs; F names its blocks. -/
def BdAt (w : World) (b : Nat) (F : Nat → Prop) (rs : List Kv) : Prop :=
  RiseK rs ∧ ∃ vr vp, BdL F w w b vr vp rs.length ⟨(lastK [] rs).toArray⟩ (bodyB 0 [] rs) (bkEnds rs)
/-- A call: the builder holds rs behind it; its blocks are the old ones, or new. -/
def BdTo (w : World) (b : Nat) (F : Nat → Prop) (w' : World) (rs : List Kv) : Prop :=
  BdAt w' b (fun g => F g ∨ w.heap.size ≤ g ∧ g < w'.heap.size) rs ∧ UpdF F w w'
variable {F : Nat → Prop} {w wk wl : World} {b : Nat} {vr vp : Value} {n : Nat} {l : ByteArray} {R : List UInt8} {P : List Nat}
theorem BdL.lt (h : BdL F w wk b vr vp n l R P) : b < wk.heap.size := h.blk.lt
theorem BdL.below (h : BdL F w wk b vr vp n l R P) (u : Below wk.heap.size wk wl) : BdL F w wl b vr vp n l R P :=
  ⟨h.blk.below u, h.rows.below u, h.places.below u, h.rin, h.pin, h.bin, h.upd.trans (UpdF.of u)⟩
theorem BdL.drew (h : BdL F w wk b vr vp n l R P) : BdL F w wk.drew b vr vp n l R P := ⟨h.blk, h.rows, h.places, h.rin, h.pin, h.bin, h.upd.drew⟩
theorem own_ne_blk {E B k n' : Nat} {u : Value} {xs : List Value} {vs : Array Value} {t : TypeId} (h : BlkAt wk b vs t) (hr : wk.ownsRow B E k u n' xs) (hne : E ≠ t) : ∀ g, u.ownBlock = some g → g ≠ b := by
  rintro g hg rfl
  rcases hr.2 with ⟨rfl, -⟩ | ⟨g1, c1, cur1, rfl, -, k1, -⟩
  · cases hg
  · obtain rfl : g1 = g := Option.some.inj hg
    unfold BlkAt at h
    rw [h] at k1
    simp only [Option.some.injEq, Obj.cells.injEq] at k1
    exact hne k1.2.1.symm
theorem BdL.rne (h : BdL F w wk b vr vp n l R P) : ∀ g, vr.ownBlock = some g → g ≠ b := own_ne_blk h.blk h.rows (by decide)
theorem BdL.pne (h : BdL F w wk b vr vp n l R P) : ∀ g, vp.ownBlock = some g → g ≠ b := own_ne_blk h.blk h.places (by decide)
/-- Bytes were put behind the rows, and the slice is stored. -/
theorem BdL.putRows (h : BdL F w wk b vr vp n l R P) {v' : Value} {cs : List UInt8} (o : OwnB 0 wl v' (R ++ cs)) (g : wk.grownBy wl vr.ownBlock) (hn : ∀ g, v'.ownBlock = some g → vr.ownBlock = some g ∨ wk.heap.size ≤ g) :
    BdL F w (wl.setCell ⟨b, 0, none⟩ v') b v' vp n l (R ++ cs) P := by
  have hb := h.lt
  have hs := h.upd.size
  have eb : wl.heap[b]? = wk.heap[b]? := g.block b hb fun e => h.rne b e.symm rfl
  have hbl : BlkAt wl b #[vr, vp, .int .i64 (n : Int), .string l] 52 := eb.trans h.blk
  have hvn : ∀ x, v'.ownBlock = some x → x ≠ b := own_ne_blk hbl o (by decide)
  refine ⟨hbl.set v', ?_, ?_, fun x hx => ?_, h.pin, h.bin, ?_⟩
  · exact row_same o fun x hx => Below.heap_setCell _ _ _ _ (hvn x hx)
  · refine row_same h.places fun x hx => (Below.heap_setCell _ _ _ _ (h.pne x hx)).trans (g.block x (row_lt h.places x hx) fun e => ?_)
    exact type_apart h.rows h.places (by decide) x hx e.symm
  · rcases hn x hx with e | e
    · exact h.rin x e
    · exact .inr (by omega)
  · refine h.upd.then (G := fun x => vr.ownBlock = some x ∨ x = b) ((UpdF.grown g fun k hk => .inl hk).set b 0 v' (.inr rfl)) fun x hx => ?_
    rcases hx with e | rfl
    · exact h.rin x e
    · exact h.bin
/-- A place was put behind the places, and the slice is stored. -/
theorem BdL.putPlace (h : BdL F w wk b vr vp n l R P) {v' : Value} {o' : Nat} (o : OwnK encN 1 3 0 wl v' (P ++ [o'])) (g : UpdF (fun x => vp.ownBlock = some x) wk wl) (hn : ∀ g, v'.ownBlock = some g → vp.ownBlock = some g ∨ wk.heap.size ≤ g) :
    BdL F w (wl.setCell ⟨b, 1, none⟩ v') b vr v' n l R (P ++ [o']) := by
  have hb := h.lt
  have hs := h.upd.size
  have eb : wl.heap[b]? = wk.heap[b]? := g.block b hb fun e => h.pne b e rfl
  have hbl : BlkAt wl b #[vr, vp, .int .i64 (n : Int), .string l] 52 := eb.trans h.blk
  have hvn : ∀ x, v'.ownBlock = some x → x ≠ b := own_ne_blk hbl o (by decide)
  refine ⟨hbl.set v', ?_, ?_, h.rin, fun x hx => ?_, h.bin, ?_⟩
  · refine row_same h.rows fun x hx => (Below.heap_setCell _ _ _ _ (h.rne x hx)).trans (g.block x (row_lt h.rows x hx) fun e => ?_)
    exact type_apart h.places h.rows (by decide) x hx e
  · exact row_same o fun x hx => Below.heap_setCell _ _ _ _ (hvn x hx)
  · rcases hn x hx with e | e
    · exact h.pin x e
    · exact .inr (by omega)
  · refine h.upd.then (G := fun x => vp.ownBlock = some x ∨ x = b) ((g.mono fun k _ hk => .inl hk).set b 1 v' (.inr rfl)) fun x hx => ?_
    rcases hx with e | rfl
    · exact h.pin x e
    · exact h.bin
theorem BdL.setAt (h : BdL F w wk b vr vp n l R P) (o : Nat) (v : Value) (n' : Nat) (l' : ByteArray) (he : (#[vr, vp, .int .i64 (n : Int), .string l] : Array Value).setIfInBounds o v = #[vr, vp, .int .i64 (n' : Int), .string l']) : BdL F w (wk.setCell ⟨b, o, none⟩ v) b vr vp n' l' R P := by
  refine ⟨?_, row_same h.rows fun x hx => Below.heap_setCell _ _ _ _ (h.rne x hx), row_same h.places fun x hx => Below.heap_setCell _ _ _ _ (h.pne x hx), h.rin, h.pin, h.bin, ?_⟩
  · rw [← he]; exact h.blk.set v
  · exact h.upd.then (G := fun x => x = b) ((UpdF.refl _ _).set b o v rfl) fun x hx => by subst hx; exact h.bin
theorem BdL.to (h : BdL F w wk b vr vp n l R P) {rs : List Kv} (hr : RiseK rs) (h1 : n = rs.length) (h2 : l = ⟨(lastK [] rs).toArray⟩) (h3 : R = bodyB 0 [] rs) (h4 : P = bkEnds rs) : BdTo w b F wk rs := by
  subst h1 h2 h3 h4
  refine ⟨⟨hr, vr, vp, h.blk, h.rows, h.places, fun g hg => .inl ?_, fun g hg => .inl ?_, .inl ?_, UpdF.refl _ _⟩, h.upd⟩
  · have := row_lt h.rows g hg
    rcases h.rin g hg with e | e
    · exact .inl e
    · exact .inr ⟨e, this⟩
  · have := row_lt h.places g hg
    rcases h.pin g hg with e | e
    · exact .inl e
    · exact .inr ⟨e, this⟩
  · have := h.lt
    rcases h.bin with e | e
    · exact .inl e
    · exact .inr ⟨e, this⟩
theorem BdAt.below {rs : List Kv} {w' : World} (h : BdAt w b F rs) (u : Below w.heap.size w w') : BdAt w' b F rs := by
  obtain ⟨h0, vr, vp, h1, h2, h3, h4, h5, h6, h7⟩ := h
  have lift : ∀ g, g < w.heap.size → F g ∨ w.heap.size ≤ g → F g ∨ w'.heap.size ≤ g := fun g hg e => by
    rcases e with e | e
    · exact .inl e
    · omega
  exact ⟨h0, vr, vp, h1.below u, h2.below u, h3.below u, fun g hg => lift g (row_lt h2 g hg) (h4 g hg), fun g hg => lift g (row_lt h3 g hg) (h5 g hg), lift b h1.lt h6, UpdF.refl _ _⟩
/-- What writes none of its blocks leaves it. -/
theorem BdAt.upd {rs : List Kv} {w' : World} {G : Nat → Prop} (h : BdAt w b F rs) (u : UpdF G w w') (hd : ∀ g, F g → ¬ G g) : BdAt w' b F rs := by
  obtain ⟨h0, vr, vp, h1, h2, h3, h4, h5, h6, h7⟩ := h
  have inF : ∀ g, g < w.heap.size → F g ∨ w.heap.size ≤ g → F g := fun g hg e => by
    rcases e with e | e
    · exact e
    · omega
  have fr := fun g hg => inF g (row_lt h2 g hg) (h4 g hg)
  have fp := fun g hg => inF g (row_lt h3 g hg) (h5 g hg)
  have fb := inF b h1.lt h6
  exact ⟨h0, vr, vp, (u.block b h1.lt (hd b fb)).trans h1, row_same h2 fun g hg => u.block g (row_lt h2 g hg) (hd g (fr g hg)), row_same h3 fun g hg => u.block g (row_lt h3 g hg) (hd g (fp g hg)), fun g hg => .inl (fr g hg), fun g hg => .inl (fp g hg), .inl fb, UpdF.refl _ _⟩
theorem BdL.cells (h : BdL F w wk b vr vp n l R P) : (wk.cell? ⟨b, 0, none⟩ = some vr ∧ wk.cell? ⟨b, 1, none⟩ = some vp ∧ wk.cell? ⟨b, 2, none⟩ = some (.int .i64 (n : Int)) ∧ wk.cell? ⟨b, 3, none⟩ = some (.string l)) ∧ ∀ o, wk.frozen? ⟨b, o, none⟩ = false :=
  ⟨⟨h.blk.at 0, h.blk.at 1, h.blk.at 2, h.blk.at 3⟩, h.blk.free⟩
end Go.Proofs.Ytaddihabjdoihaa
