/- A log of groups in memory: its own three cells beside its file system's blocks. -/
import Derived.Test.YtjhkfjbgdaomeaaGreatDoorMFsB
import Derived.Test.YtjhkfjbgdaomeaaGreatDoorRowsL
namespace Go.Proofs.YtjhkfjbgdaomeaaGreatDoor
set_option linter.unusedVariables false
open Go.RowKit Go.Maps
/-- What a log's cells hold. -/
def logV (b : Nat) (nm : ByteArray) (n : Nat) : Array Value := #[.pointer (some ⟨b, 0, none⟩), .string nm, .int .i64 (n : Int)]
/-- Block b is a file system S; block lb, none of its blocks, is a log of n bytes in the file nm. -/
structure LogAt (w : World) (b lb : Nat) (ρ : Nat → Option Role) (S : Fs) (nm : ByteArray) (n : Nat) : Prop where
  fs : FsAt w b ρ S
  cell : w.heap[lb]? = some (.cells (logV b nm n) 63 (0, 0))
  out : ρ lb = none
/-- The blocks that a log may write. -/
def LogP (ρ : Nat → Option Role) (lb : Nat) : Nat → Prop := fun k => ρ k ≠ none ∨ k = lb
theorem LogAt.lt {w : World} {b lb : Nat} {ρ : Nat → Option Role} {S : Fs} {nm : ByteArray} {n : Nat} (h : LogAt w b lb ρ S nm n) : lb < w.heap.size := (Array.getElem?_eq_some_iff.1 h.cell).1
theorem LogAt.top {w : World} {b lb : Nat} {ρ : Nat → Option Role} {S : Fs} {nm : ByteArray} {n : Nat} (h : LogAt w b lb ρ S nm n) : ∀ k, LogP ρ lb k → k < w.heap.size := by
  intro k hk
  rcases hk with hk | rfl
  · obtain ⟨L, hL⟩ := h.fs; exact hL.top k hk
  · exact h.lt
theorem LogAt.upd {F : Nat → Prop} {w w' : World} {b lb : Nat} {ρ : Nat → Option Role} {S : Fs} {nm : ByteArray} {n : Nat} (h : LogAt w b lb ρ S nm n) (u : UpdF F w w') (hd : ∀ k, F k → ¬ LogP ρ lb k) : LogAt w' b lb ρ S nm n :=
  ⟨h.fs.upd u fun k hk => Classical.byContradiction fun e => hd k hk (.inl e), (u.block lb h.lt fun f => hd lb f (.inr rfl)).trans h.cell, h.out⟩
theorem LogAt.below {w w' : World} {b lb : Nat} {ρ : Nat → Option Role} {S : Fs} {nm : ByteArray} {n : Nat} (h : LogAt w b lb ρ S nm n) (u : Below w.heap.size w w') : LogAt w' b lb ρ S nm n :=
  ⟨h.fs.below u, (u.block lb h.lt).trans h.cell, h.out⟩
/-- A call on the log: what is written, what the new blocks are. -/
def LogTo (w : World) (b lb : Nat) (ρ : Nat → Option Role) (w' : World) (S' : Fs) (nm : ByteArray) (n' : Nat) : Prop :=
  ∃ ρ', LogAt w' b lb ρ' S' nm n' ∧ UpdF (LogP ρ lb) w w' ∧ ∀ k, LogP ρ' lb k → LogP ρ lb k ∨ w.heap.size ≤ k
theorem LogAt.to {w w' : World} {b lb : Nat} {ρ : Nat → Option Role} {S : Fs} {nm : ByteArray} {n : Nat} (h : LogAt w b lb ρ S nm n) (u : Below w.heap.size w w') : LogTo w b lb ρ w' S nm n := ⟨ρ, h.below u, UpdF.of u, fun k hk => .inl hk⟩
/-- A call on its file system. -/
theorem LogAt.fsTo {w w' : World} {b lb : Nat} {ρ : Nat → Option Role} {S S' : Fs} {nm : ByteArray} {n : Nat} (h : LogAt w b lb ρ S nm n) (t : FsTo w b ρ w' S') : LogTo w b lb ρ w' S' nm n := by
  obtain ⟨ρ', t1, t2, t3⟩ := t
  refine ⟨ρ', ⟨t1, (t2.block lb h.lt fun f => f h.out).trans h.cell, ?_⟩, t2.mono fun k _ f => .inl f, fun k hk => ?_⟩
  · cases e : ρ' lb with
    | none => rfl
    | some r =>
      rcases t3 lb (by rw [e]; simp) with f | f
      · exact absurd h.out f
      · have := h.lt; omega
  · rcases hk with hk | hk
    · rcases t3 k hk with f | f
      · exact .inl (.inl f)
      · exact .inr f
    · exact .inl (.inr hk)
theorem LogTo.then {w w1 w2 : World} {b lb : Nat} {ρ ρ1 : Nat → Option Role} {S : Fs} {nm : ByteArray} {n : Nat} (u : UpdF (LogP ρ lb) w w1) (hP : ∀ k, LogP ρ1 lb k → LogP ρ lb k ∨ w.heap.size ≤ k) (h : LogTo w1 b lb ρ1 w2 S nm n) : LogTo w b lb ρ w2 S nm n := by
  obtain ⟨ρ', h1, h2, h3⟩ := h
  refine ⟨ρ', h1, u.then h2 hP, fun k hk => ?_⟩
  rcases h3 k hk with f | f
  · exact hP k f
  · have := u.size; exact .inr (by omega)
theorem LogTo.pre {w w1 w2 : World} {b lb : Nat} {ρ : Nat → Option Role} {S : Fs} {nm : ByteArray} {n : Nat} (u : Below w.heap.size w w1) (h : LogTo w1 b lb ρ w2 S nm n) : LogTo w b lb ρ w2 S nm n := LogTo.then (UpdF.of u) (fun _ f => .inl f) h
structure LogCells (w : World) (lb b : Nat) (nm : ByteArray) (n : Nat) : Prop where
  c0 : w.cell? ⟨lb, 0, none⟩ = some (.pointer (some ⟨b, 0, none⟩))
  c1 : w.cell? ⟨lb, 1, none⟩ = some (.string nm)
  c2 : w.cell? ⟨lb, 2, none⟩ = some (.int .i64 (n : Int))
  free : ∀ i, w.frozen? ⟨lb, i, none⟩ = false
theorem LogAt.cells {w : World} {b lb : Nat} {ρ : Nat → Option Role} {S : Fs} {nm : ByteArray} {n : Nat} (h : LogAt w b lb ρ S nm n) : LogCells w lb b nm n := ⟨cells_at h.cell 0, cells_at h.cell 1, cells_at h.cell 2, cells_free h.cell⟩
/-- Its length is written. -/
theorem LogAt.setLen {w : World} {b lb : Nat} {ρ : Nat → Option Role} {S : Fs} {nm : ByteArray} {n : Nat} (h : LogAt w b lb ρ S nm n) (m : Nat) : LogTo w b lb ρ (w.setCell ⟨lb, 2, none⟩ (.int .i64 (m : Int))) S nm m := by
  have u : UpdF (fun k => k = lb) w (w.setCell ⟨lb, 2, none⟩ (.int .i64 (m : Int))) := (UpdF.refl _ w).set lb 2 _ rfl
  refine ⟨ρ, ⟨h.fs.upd u fun k hk => by rw [hk]; exact h.out, cells_set h.cell _, h.out⟩, u.mono fun k _ e => .inr e, fun k hk => .inl hk⟩
/-- A new log beside a file system. -/
theorem LogAt.new {w : World} {b : Nat} {ρ : Nat → Option Role} {S : Fs} (h : FsAt w b ρ S) (nm : ByteArray) (n : Nat) : LogAt (w.alloc (.cells (logV b nm n) 63)) b w.heap.size ρ S nm n := by
  refine ⟨h.below ((Below.refl _ w).alloc (Nat.le_refl _) _), heap_alloc_new .., ?_⟩
  cases e : ρ w.heap.size with
  | none => rfl
  | some r =>
    obtain ⟨L, hL⟩ := h
    have := hL.top w.heap.size (by rw [e]; simp)
    omega
end Go.Proofs.YtjhkfjbgdaomeaaGreatDoor
