/- Plain mathematics of a file system with one file of any name. -/
import Derived.Test.YtcppaflnhlmcbaaGreatDoorMFsB
import Derived.KernelRfl
namespace Go.Proofs.YtcppaflnhlmcbaaGreatDoor
set_option linter.unusedVariables false
open Go.RowKit
def mkF (nm : ByteArray) : Chg := ⟨⟨#[]⟩, nm, some 0⟩
/-- one file, named nm -/
def namF (nm : ByteArray) (bs : List UInt8) (sy : Nat) (old : Dir) (wait : List Chg) (r : Nat) (c : Int) : Fs := ⟨[⟨bs, sy⟩], [(nm, 0)], old, wait, r, c, none⟩
theorem nam_create {nm : ByteArray} (hn : nameOk nm = true) (r : Nat) (c : Int) : (⟨[], [], [], [], r, c, none⟩ : Fs).create nm = (0, namF nm [] 0 [] [mkF nm] r (inc64 c)) := by
  unfold Fs.create
  have h1 : (Fs.dies ⟨[], [], [], [], r, c, none⟩) = false := rfl
  have h3 : ¬ (dget nm (⟨[], [], [], [], r, c, none⟩ : Fs).now = none ∧ 200 ≤ (⟨[], [], [], [], r, c, none⟩ : Fs).now.length) := fun h => by have := h.2; simp at this
  rw [h1, if_neg (by simp), hn, if_neg (by simp), if_neg h3]
  rfl
theorem nam_new {nm : ByteArray} (hn : nameOk nm = true) (r : Nat) : (fsNew r).create nm = (0, namF nm [] 0 [] [mkF nm] r (inc64 0)) := nam_create hn r 0
theorem nam_used (nm : ByteArray) (bs : List UInt8) (sy : Nat) (old : Dir) (wait : List Chg) (r : Nat) (c : Int) : (namF nm bs sy old wait r c).used = bs.length := by simp [Fs.used, namF, Fs.file]
theorem nam_get (nm : ByteArray) (bs : List UInt8) (sy : Nat) (old : Dir) (wait : List Chg) (r : Nat) (c : Int) : dget nm (namF nm bs sy old wait r c).now = some 0 := by
  show (if nm = nm then some 0 else _) = _
  rw [if_pos rfl]
theorem nam_append (nm : ByteArray) (bs b : List UInt8) (sy : Nat) (old : Dir) (wait : List Chg) (r : Nat) (c : Int) (h : bs.length + b.length ≤ r) : (namF nm bs sy old wait r c).append nm b = (0, namF nm (bs ++ b) sy old wait r (inc64 c)) := by
  unfold Fs.append
  rw [show (namF nm bs sy old wait r c).dies = false from rfl, if_neg (by simp), nam_get]
  simp only [nam_used]
  rw [if_neg (by show ¬ r < _; omega)]
  rfl
theorem nam_read (nm : ByteArray) (bs : List UInt8) (sy : Nat) (old : Dir) (wait : List Chg) (r : Nat) (c : Int) : (namF nm bs sy old wait r c).read nm = (bs, 0) := by
  unfold Fs.read
  rw [nam_get]; rfl
end Go.Proofs.YtcppaflnhlmcbaaGreatDoor
