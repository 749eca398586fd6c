/- Slices of slices of bytes that read as these. -/
import Derived.Test.YtpaoabdjbdlalaaGrow
namespace Go.Proofs.Ytpaoabdjbdlalaa
set_option linter.unusedVariables false
open Go.RowKit
/-- v is a row of slices that read as these. -/
def RdRecs (w : World) (v : Value) (bss : List (List UInt8)) : Prop :=
  ∃ vs : List Value, RdV w v vs ∧ vs.length = bss.length ∧ ∀ (i : Nat) (u : Value) (bs : List UInt8), vs[i]? = some u → bss[i]? = some bs → RdB w u bs
theorem RdRecs.below {w w' : World} {v : Value} {bss : List (List UInt8)} (h : RdRecs w v bss) (hb : Below w.heap.size w w') : RdRecs w' v bss := by
  obtain ⟨vs, h1, h2, h3⟩ := h
  exact ⟨vs, h1.below hb, h2, fun i u bs hu hb' => (h3 i u bs hu hb').below hb⟩
theorem RdRecs.len {w : World} {a : Option Addr} {n cap : Nat} {bss : List (List UInt8)} (h : RdRecs w (.slice a n cap) bss) : n = bss.length := by
  obtain ⟨vs, h1, h2, -⟩ := h
  rw [← h2]; exact (rdV_len h1).1
theorem RdRecs.form {w : World} {v : Value} {bss : List (List UInt8)} (h : RdRecs w v bss) : ∃ a cap, v = .slice a bss.length cap := by
  obtain ⟨vs, h1, h2, -⟩ := h
  rcases h1 with ⟨a, cap, rfl, e⟩ | ⟨b, off, cap, rfl, -⟩
  · exact ⟨a, cap, by rw [← h2, e]; rfl⟩
  · exact ⟨_, cap, by rw [← h2]⟩
/-- the first j of them, as 's[:j]' tells them. -/
theorem RdRecs.take {w : World} {a : Option Addr} {n cap : Nat} {bss : List (List UInt8)} (h : RdRecs w (.slice a n cap) bss) (j : Nat) (hj : j ≤ n) : RdRecs w (.slice a j cap) (bss.take j) := by
  have hn := h.len
  obtain ⟨vs, h1, h2, h3⟩ := h
  refine ⟨vs.take j, ?_, by rw [List.length_take, List.length_take, h2], fun i u bs hu hb => ?_⟩
  · rcases Nat.eq_zero_or_pos j with h0 | h0
    · subst h0; exact .inl ⟨a, cap, rfl, by simp⟩
    · rcases id h1 with ⟨_, _, e, e2⟩ | ⟨b, off, c, e, _⟩
      · simp only [Value.slice.injEq] at e; omega
      · simp only [Value.slice.injEq] at e
        obtain ⟨rfl, -, rfl⟩ := e
        exact rdV_take h1 j hj
  · rw [List.getElem?_take] at hu hb
    split at hu
    · rename_i hij
      rw [if_pos hij] at hb
      exact h3 i u bs hu hb
    · cases hu
/-- One of them. -/
theorem RdRecs.at {w : World} {a : Option Addr} {n cap : Nat} {bss : List (List UInt8)} (h : RdRecs w (.slice a n cap) bss) (i : Nat) (bs : List UInt8) (hi : bss[i]? = some bs) :
    ∃ g off u, a = some ⟨g, off, none⟩ ∧ g < w.heap.size ∧ w.cell? ⟨g, off + i, none⟩ = some u ∧ RdB w u bs := by
  obtain ⟨vs, h1, h2, h3⟩ := h
  have hlt : i < vs.length := by rw [h2]; exact (List.getElem?_eq_some_iff.1 hi).1
  have hu : vs[i]? = some vs[i] := List.getElem?_eq_getElem hlt
  obtain ⟨g, off, rfl, hg, hc⟩ := rdV_cells h1 (by omega)
  refine ⟨g, off, vs[i], rfl, hg, ?_, h3 i _ _ hu hi⟩
  rw [hc i hlt, List.getD_eq_getElem?_getD, hu]; rfl
end Go.Proofs.Ytpaoabdjbdlalaa
