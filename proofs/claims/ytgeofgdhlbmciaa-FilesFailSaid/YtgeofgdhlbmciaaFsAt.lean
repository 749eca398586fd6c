/- A file system in memory: which block holds what, what is told of it, what stays when others are written. -/
import Derived.Test.YtgeofgdhlbmciaaFsMap
import Derived.Test.YtgeofgdhlbmciaaByt
import Derived.Test.YtgeofgdhlbmciaaRowsK
import Derived.Test.YtgeofgdhlbmciaaRowsK2
namespace Go.Proofs.Ytgeofgdhlbmciaa
set_option linter.unusedVariables false
open Go.RowKit Go.Maps
/-- What a block is for. -/
inductive Role where
  | fs | now | old | wait
  | file (i : Nat)
  | bytes (i : Nat)
/-- All but the blocks of F lies as it did; blocks may be new. -/
structure UpdF (F : Nat → Prop) (w w' : World) : Prop where
  os : w'.os = w.os
  tape : w'.tape = w.tape
  output : w'.output = w.output
  size : w.heap.size ≤ w'.heap.size
  block : ∀ k, k < w.heap.size → ¬ F k → w'.heap[k]? = w.heap[k]?
theorem UpdF.refl (F : Nat → Prop) (w : World) : UpdF F w w := ⟨rfl, rfl, rfl, Nat.le_refl _, fun _ _ _ => rfl⟩
theorem UpdF.trans {F : Nat → Prop} {x y z : World} (h : UpdF F x y) (k : UpdF F y z) : UpdF F x z :=
  ⟨k.os.trans h.os, k.tape.trans h.tape, k.output.trans h.output, Nat.le_trans h.size k.size, fun i hi hn => (k.block i (Nat.lt_of_lt_of_le hi h.size) hn).trans (h.block i hi hn)⟩
/-- What comes behind may write what is new, too. -/
theorem UpdF.then {F G : Nat → Prop} {x y z : World} (h : UpdF F x y) (k : UpdF G y z) (hG : ∀ i, G i → F i ∨ x.heap.size ≤ i) : UpdF F x z :=
  ⟨k.os.trans h.os, k.tape.trans h.tape, k.output.trans h.output, Nat.le_trans h.size k.size, fun i hi hn => (k.block i (Nat.lt_of_lt_of_le hi h.size) fun g => by
    rcases hG i g with g | g
    · exact hn g
    · omega).trans (h.block i hi hn)⟩
theorem UpdF.of {F : Nat → Prop} {w w' : World} (h : Below w.heap.size w w') : UpdF F w w' := ⟨h.os, h.tape, h.output, h.size, fun k hk _ => h.block k hk⟩
theorem UpdF.drew {F : Nat → Prop} {w w' : World} (h : UpdF F w w') : UpdF F w w'.drew := ⟨h.os, h.tape, h.output, h.size, h.block⟩
theorem UpdF.set {F : Nat → Prop} {w w' : World} (h : UpdF F w w') (b o : Nat) (v : Value) (hb : F b) : UpdF F w (w'.setCell ⟨b, o, none⟩ v) :=
  ⟨h.os, h.tape, h.output, by simpa [World.setCell] using h.size, fun k hk hn => (Below.heap_setCell _ _ _ _ (fun e => hn (by rw [show k = b from e]; exact hb))).trans (h.block k hk hn)⟩
theorem UpdF.grown {F : Nat → Prop} {w w' : World} {row : Option Nat} (h : w.grownBy w' row) (hF : ∀ k, row = some k → F k) : UpdF F w w' :=
  ⟨h.os, h.tape, h.output, h.size, fun k hk hn => h.block k hk (fun e => hn (hF k e.symm))⟩
theorem UpdF.below {F : Nat → Prop} {B : Nat} {w w' : World} (h : UpdF F w w') (hB : B ≤ w.heap.size) (hF : ∀ k, k < B → ¬ F k) : Below B w w' := ⟨h.os, h.tape, h.output, h.size, fun k hk => h.block k (by omega) (hF k hk)⟩
theorem UpdF.mono {F G : Nat → Prop} {w w' : World} (h : UpdF F w w') (hF : ∀ k, k < w.heap.size → F k → G k) : UpdF G w w' := ⟨h.os, h.tape, h.output, h.size, fun k hk hn => h.block k hk fun f => hn (hF k hk f)⟩
theorem row_same {w w' : World} {B E size : Nat} {v : Value} {n : Nat} {xs : List Value} (h : w.ownsRow B E size v n xs) (hk : ∀ k, v.ownBlock = some k → w'.heap[k]? = w.heap[k]?) : w'.ownsRow B E size v n xs := by
  obtain ⟨h1, h2⟩ := h
  refine ⟨h1, ?_⟩
  rcases h2 with h2 | ⟨g, cap, cur, e1, e2, e3, e4⟩
  · exact .inl h2
  · refine .inr ⟨g, cap, cur, e1, e2, ?_, e4⟩
    rw [hk g (by rw [e1]; rfl)]; exact e3
theorem row_lt {w : World} {B E size : Nat} {v : Value} {n : Nat} {xs : List Value} (h : w.ownsRow B E size v n xs) : ∀ k, v.ownBlock = some k → k < w.heap.size := by
  intro k hk
  rcases h.2 with ⟨e, _⟩ | ⟨g, cap, cur, e1, e2, e3, e4⟩
  · rw [e] at hk; cases hk
  · rw [e1] at hk
    obtain rfl : g = k := Option.some.inj hk
    exact (Array.getElem?_eq_some_iff.1 e3).1
def fsV (mn ml : Option Nat) (wv : Value) (room calls : Int) (fl : Bool) (ah : Int) : Array Value := #[.map mn, .map ml, wv, .int .i64 room, .int .i64 calls, .bool fl, .int .i64 ah]
def filV (v : Value) (n : Nat) : Array Value := #[v, .int .i64 (n : Int)]
def encChg (fb : Nat → Nat) (c : Chg) : List Value := [.string c.fr, .string c.to, ptrO (c.file.map fb)]
theorem encChg_k (fb : Nat → Nat) : EncK (encChg fb) 3 := fun _ => rfl
theorem elem_chg : ElemK Try.prog 50 58 3 40 (.agg #[.string ⟨#[]⟩, .string ⟨#[]⟩, .pointer none]) := ⟨Try.underlying50, by kernel_rfl, rfl, by decide⟩
structure Lay where
  mn : Option Nat
  ml : Option Nat
  wv : Value
  ah : Int
  fb : Nat → Nat
  fv : Nat → Value
structure FileAt (w : World) (ρ : Nat → Option Role) (i blk : Nat) (v : Value) (f : Fil) : Prop where
  cell : w.heap[blk]? = some (.cells (filV v f.synced) 47 (0, 0))
  role : ρ blk = some (.file i)
  own : OwnB 0 w v f.bytes
  brole : ∀ k, v.ownBlock = some k → ρ k = some (.bytes i)
structure FsLay (w : World) (b : Nat) (ρ : Nat → Option Role) (S : Fs) (L : Lay) : Prop where
  cell : w.heap[b]? = some (.cells (fsV L.mn L.ml L.wv S.room S.calls S.fails.isSome L.ah) 52 (0, 0))
  role : ρ b = some .fs
  ahead : ∀ n, S.fails = some n → L.ah = (n : Int)
  now : MB w L.mn (dmap L.fb S.now)
  nrole : ∀ k, L.mn = some k → ρ k = some .now
  old : MB w L.ml (dmap L.fb S.old)
  orole : ∀ k, L.ml = some k → ρ k = some .old
  wait : OwnK (encChg L.fb) 3 58 0 w L.wv S.wait
  wrole : ∀ k, L.wv.ownBlock = some k → ρ k = some .wait
  files : ∀ i f, S.files[i]? = some f → FileAt w ρ i (L.fb i) (L.fv i) f
  top : ∀ k, ρ k ≠ none → k < w.heap.size
  ok : FsOk S
/-- Block b is a file system S; ρ tells its blocks. -/
def FsAt (w : World) (b : Nat) (ρ : Nat → Option Role) (S : Fs) : Prop := ∃ L, FsLay w b ρ S L
theorem FileAt.same {w w' : World} {ρ : Nat → Option Role} {i blk : Nat} {v : Value} {f : Fil} (h : FileAt w ρ i blk v f) (hs : ∀ k, ρ k ≠ none → w'.heap[k]? = w.heap[k]?) : FileAt w' ρ i blk v f :=
  ⟨(hs blk (by rw [h.role]; simp)).trans h.cell, h.role, row_same h.own fun k hk => hs k (by rw [h.brole k hk]; simp), h.brole⟩
theorem FsLay.same {w w' : World} {b : Nat} {ρ : Nat → Option Role} {S : Fs} {L : Lay} (h : FsLay w b ρ S L) (hs : ∀ k, ρ k ≠ none → w'.heap[k]? = w.heap[k]?) (hz : w.heap.size ≤ w'.heap.size) : FsLay w' b ρ S L :=
  { cell := (hs b (by rw [h.role]; simp)).trans h.cell, role := h.role, ahead := h.ahead, now := h.now.same fun k hk => hs k (by rw [h.nrole k hk]; simp), nrole := h.nrole,
    old := h.old.same fun k hk => hs k (by rw [h.orole k hk]; simp), orole := h.orole, wait := row_same h.wait fun k hk => hs k (by rw [h.wrole k hk]; simp), wrole := h.wrole,
    files := fun i f hf => (h.files i f hf).same hs, top := fun k hk => Nat.lt_of_lt_of_le (h.top k hk) hz, ok := h.ok }
theorem FsAt.upd {F : Nat → Prop} {w w' : World} {b : Nat} {ρ : Nat → Option Role} {S : Fs} (h : FsAt w b ρ S) (u : UpdF F w w') (hd : ∀ k, F k → ρ k = none) : FsAt w' b ρ S := by
  obtain ⟨L, h⟩ := h
  exact ⟨L, h.same (fun k hk => u.block k (h.top k hk) fun f => hk (hd k f)) u.size⟩
theorem FsAt.below {w w' : World} {b : Nat} {ρ : Nat → Option Role} {S : Fs} (h : FsAt w b ρ S) (u : Below w.heap.size w w') : FsAt w' b ρ S := by
  obtain ⟨L, h⟩ := h
  exact ⟨L, h.same (fun k hk => u.block k (h.top k hk)) u.size⟩
/-- A call on a file system. -/
def FsTo (w : World) (b : Nat) (ρ : Nat → Option Role) (w' : World) (S' : Fs) : Prop := ∃ ρ', FsAt w' b ρ' S' ∧ UpdF (fun k => ρ k ≠ none) w w' ∧ (∀ k, ρ' k ≠ none → ρ k ≠ none ∨ w.heap.size ≤ k)
theorem FsAt.lt {w : World} {b : Nat} {ρ : Nat → Option Role} {S : Fs} (h : FsAt w b ρ S) : b < w.heap.size := by
  obtain ⟨L, h⟩ := h; exact h.top b (by rw [h.role]; simp)
theorem FsAt.ok {w : World} {b : Nat} {ρ : Nat → Option Role} {S : Fs} (h : FsAt w b ρ S) : FsOk S := by obtain ⟨L, h⟩ := h; exact h.ok
theorem FsAt.to {w : World} {b : Nat} {ρ : Nat → Option Role} {S : Fs} (h : FsAt w b ρ S) : FsTo w b ρ w S := ⟨ρ, h, UpdF.refl _ _, fun _ hk => .inl hk⟩
/-- Out of the file system's blocks. -/
def OutF (ρ : Nat → Option Role) (v : Value) : Prop := ∀ k, v.ownBlock = some k → ρ k = none
theorem rdV_upd {F : Nat → Prop} {w w' : World} {v : Value} {vs : List Value} (h : RdV w v vs) (u : UpdF F w w') (hd : ∀ k, v.ownBlock = some k → ¬ F k) : RdV w' v vs := by
  rcases h with h | ⟨b, off, cap, h1, h2, h3, h4, h5, h6⟩
  · exact .inl h
  · refine .inr ⟨b, off, cap, h1, h2, h3, h4, Nat.lt_of_lt_of_le h5 u.size, fun i hi => ?_⟩
    rw [← h6 i hi]
    exact World.cell?_of_block (u.block b h5 (hd b (by rw [h1]; rfl)))
theorem rdB_out {w w' : World} {ρ : Nat → Option Role} {v : Value} {bs : List UInt8} (h : RdB w v bs) (u : UpdF (fun k => ρ k ≠ none) w w') (ho : OutF ρ v) : RdB w' v bs := rdV_upd h u fun k hk f => f (ho k hk)
/-! ### cells -/
theorem cells_at {w : World} {b : Nat} {vs : Array Value} {t : TypeId} (h : w.heap[b]? = some (.cells vs t (0, 0))) (i : Nat) : w.cell? ⟨b, i, none⟩ = vs[i]? := by
  unfold World.cell?; rw [h]; simp
theorem cells_free {w : World} {b : Nat} {vs : Array Value} {t : TypeId} (h : w.heap[b]? = some (.cells vs t (0, 0))) (i : Nat) : w.frozen? ⟨b, i, none⟩ = false := by
  unfold World.frozen?; rw [h]; simp
theorem cells_set {w : World} {b o : Nat} {vs : Array Value} {t : TypeId} (h : w.heap[b]? = some (.cells vs t (0, 0))) (v : Value) : (w.setCell ⟨b, o, none⟩ v).heap[b]? = some (.cells (vs.setIfInBounds o v) t (0, 0)) := by
  unfold World.setCell
  simp only [Array.getElem?_modify, if_true, h, Option.map_some]
  simp
/-- What a file system's cells hold. -/
structure FsCells (w : World) (b : Nat) (mn ml : Option Nat) (wv : Value) (room calls : Int) (fl : Bool) (ah : Int) : Prop where
  c0 : w.cell? ⟨b, 0, none⟩ = some (.map mn)
  c1 : w.cell? ⟨b, 1, none⟩ = some (.map ml)
  c2 : w.cell? ⟨b, 2, none⟩ = some wv
  c3 : w.cell? ⟨b, 3, none⟩ = some (.int .i64 room)
  c4 : w.cell? ⟨b, 4, none⟩ = some (.int .i64 calls)
  c5 : w.cell? ⟨b, 5, none⟩ = some (.bool fl)
  c6 : w.cell? ⟨b, 6, none⟩ = some (.int .i64 ah)
  free : ∀ i, w.frozen? ⟨b, i, none⟩ = false
theorem fs_cells {w : World} {b : Nat} {mn ml : Option Nat} {wv : Value} {room calls : Int} {fl : Bool} {ah : Int} (h : w.heap[b]? = some (.cells (fsV mn ml wv room calls fl ah) 52 (0, 0))) : FsCells w b mn ml wv room calls fl ah :=
  ⟨cells_at h 0, cells_at h 1, cells_at h 2, cells_at h 3, cells_at h 4, cells_at h 5, cells_at h 6, cells_free h⟩
theorem FsLay.cells {w : World} {b : Nat} {ρ : Nat → Option Role} {S : Fs} {L : Lay} (h : FsLay w b ρ S L) : FsCells w b L.mn L.ml L.wv S.room S.calls S.fails.isSome L.ah := fs_cells h.cell
structure FilCells (w : World) (b : Nat) (v : Value) (n : Nat) : Prop where
  c0 : w.cell? ⟨b, 0, none⟩ = some v
  c1 : w.cell? ⟨b, 1, none⟩ = some (.int .i64 (n : Int))
  free : ∀ i, w.frozen? ⟨b, i, none⟩ = false
theorem fil_cells {w : World} {b n : Nat} {v : Value} (h : w.heap[b]? = some (.cells (filV v n) 47 (0, 0))) : FilCells w b v n := ⟨cells_at h 0, cells_at h 1, cells_free h⟩
/-- Only the cells of the file system itself were written. -/
theorem FsLay.setFs {w w' : World} {b : Nat} {ρ : Nat → Option Role} {S : Fs} {L : Lay} (h : FsLay w b ρ S L) (u : UpdF (fun k => k = b) w w') {S' : Fs} {ah : Int}
    (hc : w'.heap[b]? = some (.cells (fsV L.mn L.ml L.wv S'.room S'.calls S'.fails.isSome ah) 52 (0, 0))) (e1 : S'.files = S.files) (e2 : S'.now = S.now) (e3 : S'.old = S.old) (e4 : S'.wait = S.wait)
    (ha : ∀ n, S'.fails = some n → ah = (n : Int)) (ok : FsOk S') : FsLay w' b ρ S' { L with ah := ah } := by
  have hs : ∀ k, ρ k ≠ none → k ≠ b → w'.heap[k]? = w.heap[k]? := fun k hk hn => u.block k (h.top k hk) hn
  have hne : ∀ k r, ρ k = some r → r ≠ .fs → k ≠ b := fun k r hk hr e => hr (by rw [e, h.role] at hk; exact (Option.some.inj hk).symm)
  refine { cell := hc, role := h.role, ahead := ha, now := ?_, nrole := h.nrole, old := ?_, orole := h.orole, wait := ?_, wrole := h.wrole, files := ?_, top := fun k hk => Nat.lt_of_lt_of_le (h.top k hk) u.size, ok := ok }
  · rw [e2]; exact h.now.same fun k hk => hs k (by rw [h.nrole k hk]; simp) (hne k _ (h.nrole k hk) (by simp))
  · rw [e3]; exact h.old.same fun k hk => hs k (by rw [h.orole k hk]; simp) (hne k _ (h.orole k hk) (by simp))
  · rw [e4]; exact row_same h.wait fun k hk => hs k (by rw [h.wrole k hk]; simp) (hne k _ (h.wrole k hk) (by simp))
  · intro i f hf
    rw [e1] at hf
    have h1 := h.files i f hf
    exact ⟨(hs _ (by rw [h1.role]; simp) (hne _ _ h1.role (by simp))).trans h1.cell, h1.role, row_same h1.own fun k hk => hs k (by rw [h1.brole k hk]; simp) (hne k _ (h1.brole k hk) (by simp)), h1.brole⟩
end Go.Proofs.Ytgeofgdhlbmciaa
