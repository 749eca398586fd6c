/- A manifest in memory: its own ten cells beside its files' blocks, its tables in a row of their own. -/
import Derived.Test.YtmmkgopnccfiiaaGreatDoorMFsB
import Derived.Test.YtmmkgopnccfiiaaGreatDoorMVerC
import Derived.Test.YtmmkgopnccfiiaaGreatDoorMManA
namespace Go.Proofs.YtmmkgopnccfiiaaGreatDoor
set_option linter.unusedVariables false
open Go.RowKit Go.Maps
/-- A version as a value: its tables in a row, the number that stands for Next. -/
structure VerP (B : Nat) (w : World) (tv : Value) (n0 : Int) (V : Ver) : Prop where
  row : OwnK encTbf 5 35 B w tv V.fs
  nx : V.nx = vOr n0 1
  srt : vSorted V.fs
  good : GoodV V
theorem VerP.below {B : Nat} {w w' : World} {tv : Value} {n0 : Int} {V : Ver} (h : VerP B w tv n0 V) (u : Below w.heap.size w w') : VerP B w' tv n0 V := { h with row := h.row.below u }
theorem VerP.base {B B' : Nat} {w : World} {tv : Value} {n0 : Int} {V : Ver} (h : VerP B w tv n0 V) (hB : B' ≤ B) : VerP B' w tv n0 V := { h with row := h.row.base hB }
theorem VerP.upd {F : Nat → Prop} {B : Nat} {w w' : World} {tv : Value} {n0 : Int} {V : Ver} (h : VerP B w tv n0 V) (u : UpdF F w w') (hF : ∀ k, tv.ownBlock = some k → ¬ F k) : VerP B w' tv n0 V :=
  { h with row := row_same h.row fun k hk => u.block k (row_lt h.row k hk) (hF k hk) }
theorem VerP.aside {B c : Nat} {w w' : World} {tv : Value} {n0 : Int} {V : Ver} {vs : Array Value} {t : TypeId} (h : VerP B w tv n0 V) (u : UpdF (fun j => j = c) w w') (hc : BlkAt w c vs t) (ht : t ≠ 35) : VerP B w' tv n0 V := { h with row := h.row.asideT u hc ht }
theorem VerP.at {B : Nat} {w : World} {tv : Value} {n0 : Int} {V : Ver} (h : VerP B w tv n0 V) {b : Nat} (hb : BlkAt w b #[tv, .int .i64 n0, .int .i64 V.lg, .int .i64 V.ls] 56) : VerAt B w b V := ⟨⟨tv, n0, hb, h.row, h.nx⟩, h.srt, h.good⟩
theorem VerAt.p {B : Nat} {w : World} {b : Nat} {V : Ver} (h : VerAt B w b V) : ∃ tv n0, BlkAt w b #[tv, .int .i64 n0, .int .i64 V.lg, .int .i64 V.ls] 56 ∧ VerP B w tv n0 V := by
  obtain ⟨⟨tv, n0, h1, h2, h3⟩, h4, h5⟩ := h
  exact ⟨tv, n0, h1, h2, h3, h4, h5⟩
/-- What a manifest tells beside its version. -/
structure Man where
  num : Nat
  size : Nat
  torn : Bool
  loose : Bool
  closed : Bool
def manC (b : Nat) (M : Man) (tv : Value) (n0 lg ls : Int) : Array Value := #[.pointer (some ⟨b, 0, none⟩), .int .i64 (M.num : Int), .int .i64 (M.size : Int), tv, .int .i64 n0, .int .i64 lg, .int .i64 ls, .bool M.torn, .bool M.loose, .bool M.closed]
/-- Block b is a file system S; block mb, none of its blocks, is a manifest of it, whose version is V. -/
structure ManAt (B : Nat) (w : World) (b mb : Nat) (ρ : Nat → Option Role) (S : Fs) (M : Man) (V : Ver) : Prop where
  fs : FsAt w b ρ S
  out : ρ mb = none
  blk : ∃ tv n0, BlkAt w mb (manC b M tv n0 V.lg V.ls) 65 ∧ VerP B w tv n0 V ∧ ∀ k, tv.ownBlock = some k → ρ k = none
/-- The blocks that a manifest may write. -/
def ManP (ρ : Nat → Option Role) (mb : Nat) : Nat → Prop := fun k => ρ k ≠ none ∨ k = mb
theorem ManAt.lt {B : Nat} {w : World} {b mb : Nat} {ρ : Nat → Option Role} {S : Fs} {M : Man} {V : Ver} (h : ManAt B w b mb ρ S M V) : mb < w.heap.size := by
  obtain ⟨tv, n0, h1, -⟩ := h.blk
  exact h1.lt
theorem ManAt.good {B : Nat} {w : World} {b mb : Nat} {ρ : Nat → Option Role} {S : Fs} {M : Man} {V : Ver} (h : ManAt B w b mb ρ S M V) : GoodV V := by
  obtain ⟨tv, n0, -, h1, -⟩ := h.blk
  exact h1.good
theorem ManAt.top {B : Nat} {w : World} {b mb : Nat} {ρ : Nat → Option Role} {S : Fs} {M : Man} {V : Ver} (h : ManAt B w b mb ρ S M V) : ∀ k, ManP ρ mb k → k < w.heap.size := by
  intro k hk
  rcases hk with hk | rfl
  · obtain ⟨L, hL⟩ := h.fs; exact hL.top k hk
  · exact h.lt
theorem ManAt.below {B : Nat} {w w' : World} {b mb : Nat} {ρ : Nat → Option Role} {S : Fs} {M : Man} {V : Ver} (h : ManAt B w b mb ρ S M V) (u : Below w.heap.size w w') : ManAt B w' b mb ρ S M V := by
  obtain ⟨tv, n0, h1, h2, h3⟩ := h.blk
  exact ⟨h.fs.below u, h.out, tv, n0, h1.below u, h2.below u, h3⟩
theorem ManAt.base {B B' : Nat} {w : World} {b mb : Nat} {ρ : Nat → Option Role} {S : Fs} {M : Man} {V : Ver} (h : ManAt B w b mb ρ S M V) (hB : B' ≤ B) : ManAt B' w b mb ρ S M V := by
  obtain ⟨tv, n0, h1, h2, h3⟩ := h.blk
  exact ⟨h.fs, h.out, tv, n0, h1, h2.base hB, h3⟩
/-- A call on the manifest: what is written, what the new blocks are. -/
def ManTo (B : Nat) (w : World) (b mb : Nat) (ρ : Nat → Option Role) (w' : World) (S' : Fs) (M' : Man) (V' : Ver) : Prop :=
  ∃ ρ', ManAt B w' b mb ρ' S' M' V' ∧ UpdF (ManP ρ mb) w w' ∧ ∀ k, ManP ρ' mb k → ManP ρ mb k ∨ w.heap.size ≤ k
theorem ManAt.to {B : Nat} {w w' : World} {b mb : Nat} {ρ : Nat → Option Role} {S : Fs} {M : Man} {V : Ver} (h : ManAt B w b mb ρ S M V) (u : Below w.heap.size w w') : ManTo B w b mb ρ w' S M V := ⟨ρ, h.below u, UpdF.of u, fun k hk => .inl hk⟩
theorem roles_none {w : World} {ρ ρ' : Nat → Option Role} {k : Nat} (h : ρ k = none) (hk : k < w.heap.size) (t : ∀ k, ρ' k ≠ none → ρ k ≠ none ∨ w.heap.size ≤ k) : ρ' k = none := by
  cases e : ρ' k with
  | none => rfl
  | some r =>
    rcases t k (by rw [e]; simp) with f | f
    · exact absurd h f
    · omega
theorem ManAt.fsAt {B : Nat} {w w' : World} {b mb : Nat} {ρ ρ' : Nat → Option Role} {S S' : Fs} {M : Man} {V : Ver} (h : ManAt B w b mb ρ S M V) (t1 : FsAt w' b ρ' S') (t2 : UpdF (fun k => ρ k ≠ none) w w') (t3 : ∀ k, ρ' k ≠ none → ρ k ≠ none ∨ w.heap.size ≤ k) : ManAt B w' b mb ρ' S' M V := by
  obtain ⟨tv, n0, h1, h2, h3⟩ := h.blk
  exact ⟨t1, roles_none h.out h.lt t3, tv, n0, (t2.block mb h.lt fun f => f h.out).trans h1, h2.upd t2 fun k hk f => f (h3 k hk), fun k hk => roles_none (h3 k hk) (row_lt h2.row k hk) t3⟩
theorem manP_to {w : World} {ρ ρ' : Nat → Option Role} {mb : Nat} (t3 : ∀ k, ρ' k ≠ none → ρ k ≠ none ∨ w.heap.size ≤ k) : ∀ k, ManP ρ' mb k → ManP ρ mb k ∨ w.heap.size ≤ k := fun k hk => by
  rcases hk with hk | hk
  · rcases t3 k hk with f | f
    · exact .inl (.inl f)
    · exact .inr f
  · exact .inl (.inr hk)
/-- A call on its file system. -/
theorem ManAt.fsTo {B : Nat} {w w' : World} {b mb : Nat} {ρ : Nat → Option Role} {S S' : Fs} {M : Man} {V : Ver} (h : ManAt B w b mb ρ S M V) (t : FsTo w b ρ w' S') : ManTo B w b mb ρ w' S' M V := by
  obtain ⟨ρ', t1, t2, t3⟩ := t
  exact ⟨ρ', h.fsAt t1 t2 t3, t2.mono fun k _ f => .inl f, manP_to t3⟩
theorem ManTo.then {B : Nat} {w w1 w2 : World} {b mb : Nat} {ρ ρ1 : Nat → Option Role} {S : Fs} {M : Man} {V : Ver} (u : UpdF (ManP ρ mb) w w1) (hP : ∀ k, ManP ρ1 mb k → ManP ρ mb k ∨ w.heap.size ≤ k) (h : ManTo B w1 b mb ρ1 w2 S M V) : ManTo B w b mb ρ w2 S M V := by
  obtain ⟨ρ', h1, h2, h3⟩ := h
  refine ⟨ρ', h1, u.then h2 hP, fun k hk => ?_⟩
  rcases h3 k hk with f | f
  · exact hP k f
  · have := u.size; exact .inr (by omega)
theorem ManTo.pre {B : Nat} {w w1 w2 : World} {b mb : Nat} {ρ : Nat → Option Role} {S : Fs} {M : Man} {V : Ver} (u : Below w.heap.size w w1) (h : ManTo B w1 b mb ρ w2 S M V) : ManTo B w b mb ρ w2 S M V := ManTo.then (UpdF.of u) (fun _ f => .inl f) h
structure ManCells (w : World) (mb b : Nat) (M : Man) (tv : Value) (n0 lg ls : Int) : Prop where
  c0 : w.cell? ⟨mb, 0, none⟩ = some (.pointer (some ⟨b, 0, none⟩))
  c1 : w.cell? ⟨mb, 1, none⟩ = some (.int .i64 (M.num : Int))
  c2 : w.cell? ⟨mb, 2, none⟩ = some (.int .i64 (M.size : Int))
  c3 : w.cell? ⟨mb, 3, none⟩ = some tv
  c4 : w.cell? ⟨mb, 4, none⟩ = some (.int .i64 n0)
  c5 : w.cell? ⟨mb, 5, none⟩ = some (.int .i64 lg)
  c6 : w.cell? ⟨mb, 6, none⟩ = some (.int .i64 ls)
  c7 : w.cell? ⟨mb, 7, none⟩ = some (.bool M.torn)
  c8 : w.cell? ⟨mb, 8, none⟩ = some (.bool M.loose)
  c9 : w.cell? ⟨mb, 9, none⟩ = some (.bool M.closed)
  free : ∀ i, w.frozen? ⟨mb, i, none⟩ = false
theorem man_cells {w : World} {mb b : Nat} {M : Man} {tv : Value} {n0 lg ls : Int} (h : BlkAt w mb (manC b M tv n0 lg ls) 65) : ManCells w mb b M tv n0 lg ls :=
  ⟨h.at 0, h.at 1, h.at 2, h.at 3, h.at 4, h.at 5, h.at 6, h.at 7, h.at 8, h.at 9, h.free⟩
/-- One of its plain cells is written. -/
theorem ManAt.setAt {B : Nat} {w : World} {b mb : Nat} {ρ : Nat → Option Role} {S : Fs} {M M' : Man} {V : Ver} (h : ManAt B w b mb ρ S M V) (o : Nat) (v : Value) (hm : ∀ tv n0, (manC b M tv n0 V.lg V.ls).setIfInBounds o v = manC b M' tv n0 V.lg V.ls) : ManAt B (w.setCell ⟨mb, o, none⟩ v) b mb ρ S M' V ∧ UpdF (fun k => k = mb) w (w.setCell ⟨mb, o, none⟩ v) := by
  obtain ⟨tv, n0, h1, h2, h3⟩ := h.blk
  have u : UpdF (fun k => k = mb) w (w.setCell ⟨mb, o, none⟩ v) := (UpdF.refl _ w).set mb o _ rfl
  refine ⟨⟨h.fs.upd u fun k hk => by rw [hk]; exact h.out, h.out, tv, n0, ?_, h2.aside u h1 (by decide), h3⟩, u⟩
  have := h1.set (o := o) v
  rwa [hm] at this
theorem ManAt.setM {B : Nat} {w : World} {b mb : Nat} {ρ : Nat → Option Role} {S : Fs} {M M' : Man} {V : Ver} (h : ManAt B w b mb ρ S M V) (o : Nat) (v : Value) (hm : ∀ tv n0, (manC b M tv n0 V.lg V.ls).setIfInBounds o v = manC b M' tv n0 V.lg V.ls) : ManTo B w b mb ρ (w.setCell ⟨mb, o, none⟩ v) S M' V :=
  ⟨ρ, (h.setAt o v hm).1, (h.setAt o v hm).2.mono fun k _ e => .inr e, fun k hk => .inl hk⟩
end Go.Proofs.YtmmkgopnccfiiaaGreatDoor
