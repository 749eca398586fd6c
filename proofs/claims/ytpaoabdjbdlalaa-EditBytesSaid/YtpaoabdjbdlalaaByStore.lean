/- A store into bytes of the call's own. -/
import Derived.Test.YtpaoabdjbdlalaaByt
namespace Go.Proofs.Ytpaoabdjbdlalaa
set_option linter.unusedVariables false
open Go.RowKit
theorem OwnB.set {B : Nat} {w : World} {g n cap : Nat} {bs : List UInt8} (h : OwnB B w (.slice (some ⟨g, 0, none⟩) n cap) bs) (j : Nat) (x : UInt8) : OwnB B (w.setCell ⟨g, j, none⟩ (bv x)) (.slice (some ⟨g, 0, none⟩) n cap) (bs.set j x) := by
  have hn : n = (bs.map bv).length := by
    rcases h.2 with ⟨e, _⟩ | ⟨_, _, _, e, _⟩
    · simp at e
    · simp at e; simp [e.2.1]
  subst hn
  have := (World.ownsRow.stored h j (bv x)).1
  show World.ownsRow _ _ _ _ _ _ _
  rw [List.map_set, List.length_set]
  exact this
/-- the byte at a place: its cell, which may be stored to. -/
theorem OwnB.place {B : Nat} {w : World} {v : Value} {l : List UInt8} (h : OwnB B w v l) (j : Nat) (hj : j < l.length) : ∃ g cap, v = .slice (some ⟨g, 0, none⟩) l.length cap ∧ B ≤ g ∧ g < w.heap.size ∧ l.length ≤ cap ∧ cap ≤ maxLen ∧
    w.cell? ⟨g, j, none⟩ = some (.int .u8 ((l.getD j 0).toNat : Int)) ∧ w.frozen? ⟨g, j, none⟩ = false := by
  rcases OwnV.nilOr h with ⟨rfl, e⟩ | ⟨g, cap, e, h2, h3, h4, h5⟩
  · have : l = [] := by simpa using e
    subst this; exact absurd hj (Nat.not_lt_zero _)
  · rw [List.length_map] at e h4
    subst e
    have hx : l[j]? = some (l.getD j 0) := by rw [List.getD_eq_getElem?_getD, List.getElem?_eq_getElem hj]; rfl
    obtain ⟨g', off, e, h6, h7⟩ := h.rd.at j _ hx
    simp only [Option.some.injEq, Addr.mk.injEq, and_true] at e
    obtain ⟨rfl, rfl⟩ := e
    rw [Nat.zero_add] at h7
    refine ⟨g, cap, rfl, h2, h3, h4, h5, h7, ?_⟩
    have ho : World.ownsRow w B 5 1 (.slice (some ⟨g, 0, none⟩) l.length cap) l.length (l.map bv) := by
      have := h
      unfold OwnB OwnV at this
      rwa [List.length_map] at this
    exact ho.frozenAt _
theorem bv_xor (x y : UInt8) : Value.int .u8 (bits .xor .u8 (x.toNat : Int) (y.toNat : Int)) = bv (x ^^^ y) := by
  unfold bv
  rw [u8_xor_nat x.toNat y.toNat x.toNat_lt y.toNat_lt, UInt8.toNat_xor]
end Go.Proofs.Ytpaoabdjbdlalaa
