/- Plain mathematics of a file system with one file. -/
import Derived.Test.YtgeofgdhlbmciaaFsCrash
import Derived.KernelRfl
namespace Go.Proofs.Ytgeofgdhlbmciaa
set_option linter.unusedVariables false
open Go.RowKit
theorem inc64_nat (n : Nat) (h : n < 1000000000000) : inc64 (n : Int) = ((n + 1 : Nat) : Int) := by unfold inc64 wrap64; omega
def nmA : ByteArray := ⟨#[97]⟩
def mkA : Chg := ⟨⟨#[]⟩, nmA, some 0⟩
/-- one file, named a -/
def oneF (bs : List UInt8) (sy : Nat) (old : Dir) (wait : List Chg) (r : Nat) (c : Int) (fl : Option Nat) : Fs := ⟨[⟨bs, sy⟩], [(nmA, 0)], old, wait, r, c, fl⟩
theorem one_create (r : Nat) (c : Int) : (⟨[], [], [], [], r, c, none⟩ : Fs).create nmA = (0, oneF [] 0 [] [mkA] r (inc64 c) none) := by
  unfold Fs.create
  have h1 : (Fs.dies ⟨[], [], [], [], r, c, none⟩) = false := rfl
  have h2 : nameOk nmA = true := by decide
  have h3 : ¬ (dget nmA (⟨[], [], [], [], r, c, none⟩ : Fs).now = none ∧ 200 ≤ (⟨[], [], [], [], r, c, none⟩ : Fs).now.length) := fun h => by have := h.2; simp at this
  rw [h1, if_neg (by simp), h2, if_neg (by simp), if_neg h3]
  rfl
theorem one_used (bs : List UInt8) (sy : Nat) (old : Dir) (wait : List Chg) (r : Nat) (c : Int) (fl : Option Nat) : (oneF bs sy old wait r c fl).used = bs.length := by simp [Fs.used, oneF, Fs.file]
theorem one_get (bs : List UInt8) (sy : Nat) (old : Dir) (wait : List Chg) (r : Nat) (c : Int) (fl : Option Nat) : dget nmA (oneF bs sy old wait r c fl).now = some 0 := by
  show (if nmA = nmA then some 0 else _) = _
  rw [if_pos rfl]
theorem one_append (bs b : List UInt8) (sy : Nat) (old : Dir) (wait : List Chg) (r : Nat) (c : Int) (h : bs.length + b.length ≤ r) : (oneF bs sy old wait r c none).append nmA b = (0, oneF (bs ++ b) sy old wait r (inc64 c) none) := by
  unfold Fs.append
  rw [show (oneF bs sy old wait r c none).dies = false from rfl, if_neg (by simp), one_get]
  simp only [one_used]
  rw [if_neg (by show ¬ r < _; omega)]
  rfl
theorem one_sync (bs : List UInt8) (sy : Nat) (old : Dir) (wait : List Chg) (r : Nat) (c : Int) : (oneF bs sy old wait r c none).sync nmA = (0, oneF bs bs.length old wait r (inc64 c) none) := by
  unfold Fs.sync
  rw [show (oneF bs sy old wait r c none).dies = false from rfl, if_neg (by simp), one_get]
  rfl
theorem one_syncDir (bs : List UInt8) (sy : Nat) (old : Dir) (wait : List Chg) (r : Nat) (c : Int) : (oneF bs sy old wait r c none).syncDir = (0, oneF bs sy [(nmA, 0)] [] r (inc64 c) none) := by
  unfold Fs.syncDir
  rw [show (oneF bs sy old wait r c none).dies = false from rfl, if_neg (by simp)]
  rfl
theorem one_fail (bs : List UInt8) (sy : Nat) (old : Dir) (wait : List Chg) (r : Nat) (c : Int) (fl : Option Nat) (n : Nat) : (oneF bs sy old wait r c fl).fail n = oneF bs sy old wait r c (some n) := by
  unfold Fs.fail
  rw [if_pos (by omega)]
  rfl
theorem one_append_die (bs b : List UInt8) (sy : Nat) (old : Dir) (wait : List Chg) (r : Nat) (c : Int) : (oneF bs sy old wait r c (some 0)).append nmA b = (7, oneF bs sy old wait r (inc64 c) none) := by
  unfold Fs.append
  rw [show (oneF bs sy old wait r c (some 0)).dies = true from rfl, if_pos rfl]
  rfl
theorem one_append_some (bs b : List UInt8) (sy : Nat) (old : Dir) (wait : List Chg) (r : Nat) (c : Int) (n : Nat) (h : bs.length + b.length ≤ r) : (oneF bs sy old wait r c (some (n + 1))).append nmA b = (0, oneF (bs ++ b) sy old wait r (inc64 c) (some n)) := by
  unfold Fs.append
  rw [show (oneF bs sy old wait r c (some (n + 1))).dies = false from rfl, if_neg (by simp), one_get]
  simp only [one_used]
  rw [if_neg (by show ¬ r < _; omega)]
  rfl
theorem one_read (bs : List UInt8) (sy : Nat) (old : Dir) (wait : List Chg) (r : Nat) (c : Int) (fl : Option Nat) : (oneF bs sy old wait r c fl).read nmA = (bs, 0) := by
  unfold Fs.read
  rw [one_get]; rfl
/-- behind a crash, the directory synced -/
theorem one_crash0 (bs : List UInt8) (sy : Nat) (wait : List Chg) (r : Nat) (c : Int) (fl : Option Nat) (ts : List Int) (n : Int) (hn : n ≤ 0) : ((oneF bs sy [(nmA, 0)] wait r c fl).crash n ts).read nmA = (bs.take (sy + clampN (ts.getD 0 0) (bs.length - sy)), 0) := by
  have hl : (oneF bs sy [(nmA, 0)] wait r c fl).left n = [(nmA, 0)] := by
    unfold Fs.left
    have : n.toNat = 0 := by omega
    rw [this]; rfl
  unfold Fs.read Fs.crash Fs.crashFiles
  simp only [hl]
  rfl
theorem one_crash_all (bs : List UInt8) (sy : Nat) (r : Nat) (c : Int) (fl : Option Nat) (ts : List Int) : ((oneF bs sy [] [mkA] r c fl).crash 1 ts).read nmA = (bs.take (sy + clampN (ts.getD 0 0) (bs.length - sy)), 0) := by
  have hl : (oneF bs sy [] [mkA] r c fl).left 1 = [(nmA, 0)] := rfl
  unfold Fs.read Fs.crash Fs.crashFiles
  simp only [hl]
  rfl
theorem one_crash_none (bs : List UInt8) (sy : Nat) (wait : List Chg) (r : Nat) (c : Int) (fl : Option Nat) (ts : List Int) : ((oneF bs sy [] wait r c fl).crash 0 ts).read nmA = ([], 3) := by
  unfold Fs.read Fs.crash
  have hl : (oneF bs sy [] wait r c fl).left 0 = [] := rfl
  simp only [hl]
  rfl
end Go.Proofs.Ytgeofgdhlbmciaa
