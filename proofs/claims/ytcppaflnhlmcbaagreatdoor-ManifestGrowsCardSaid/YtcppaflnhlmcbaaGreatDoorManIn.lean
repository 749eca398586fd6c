/- A manifest of a law's own, whatever lies beside it: Commit. -/
import Derived.Test.YtcppaflnhlmcbaaGreatDoorManOwn
namespace Go.Proofs.YtcppaflnhlmcbaaGreatDoor
set_option linter.unusedVariables false
open Go.RowKit Go.Maps
/-- A manifest whose blocks are F; all that it tells lasts; the files are no more than N, no longer than L. -/
structure MG (F : Nat → Prop) (w0 w : World) (b mb : Nat) (S : Fs) (u : Nat) (V : Ver) (es : List Edt) (N L W : Nat) : Prop where
  ex : ∃ ρ, ManP ρ mb = F ∧ ManAt w0.heap.size w b mb ρ S (manM u es) V ∧ HighP w0 ρ mb
  blw : Below w0.heap.size w0 w
  std : Std smN S u V es N L W 1048576
  log : (logB smN es).length ≤ L
theorem MSt.g {F : Nat → Prop} {w0 w : World} {b mb : Nat} {S : Fs} {u : Nat} {V : Ver} {es : List Edt} {c r : Nat} (h : MSt F w0 w b mb S u V es c r) : MG F w0 w b mb S u V es (2 + 2 * r) (2420 * c + 100) 1 := ⟨h.ex, h.blw, h.run.std, h.run.log⟩
theorem MG.more {F : Nat → Prop} {w0 w : World} {b mb : Nat} {S : Fs} {u : Nat} {V : Ver} {es : List Edt} {N L W N' L' W' : Nat} (h : MG F w0 w b mb S u V es N L W) (hN : N ≤ N') (hL : L ≤ L') (hW : W ≤ W') : MG F w0 w b mb S u V es N' L' W' := ⟨h.ex, h.blw, h.std.more hN hL hW, Nat.le_trans h.log hL⟩
theorem MG.st {F : Nat → Prop} {w0 w : World} {b mb : Nat} {S : Fs} {u : Nat} {V : Ver} {es : List Edt} {c r : Nat} (h : MG F w0 w b mb S u V es (2 + 2 * r) (2420 * c + 100) 1) (ht : ∀ f ∈ V.fs, thinF 20 f) (hf : V.fs.length ≤ 12 * c) : MSt F w0 w b mb S u V es c r := ⟨h.ex, h.blw, ⟨h.std, h.log, ht, hf⟩⟩
theorem MG.below {F : Nat → Prop} {w0 w w' : World} {b mb : Nat} {S : Fs} {u : Nat} {V : Ver} {es : List Edt} {N L W : Nat} (h : MG F w0 w b mb S u V es N L W) (hb : Below w.heap.size w w') : MG F w0 w' b mb S u V es N L W := by
  obtain ⟨ρ, h1, h2, h3⟩ := h.ex
  exact ⟨⟨ρ, h1, h2.below hb, h3⟩, h.blw.trans (hb.mono h.blw.size), h.std, h.log⟩
theorem MG.high {F : Nat → Prop} {w0 w : World} {b mb : Nat} {S : Fs} {u : Nat} {V : Ver} {es : List Edt} {N L W : Nat} (h : MG F w0 w b mb S u V es N L W) : ∀ k, F k → w0.heap.size ≤ k ∧ k < w.heap.size := by
  obtain ⟨ρ, rfl, h2, h3⟩ := h.ex
  exact fun k hk => ⟨h3 k hk, h2.top k hk⟩
/-- What Commit leaves where the edit may be and nothing fails. -/
def ComIn (F : Nat → Prop) (w0 w : World) (b mb : Nat) (S : Fs) (u : Nat) (n : Ver) (es : List Edt) (N L W : Nat) (e : Ending) (w' : World) : Prop :=
  ∃ (V' : Ver) (F' : Nat → Prop) (S' : Fs), e = .returned (.int .i64 0) ∧ vSame n V' ∧ Step F F' w w' ∧ MG F' w0 w' b mb S' u V' es N L W ∧ S'.now = S.now ∧ S'.fails = none
theorem mcommit_g {F : Nat → Prop} {w0 w : World} (hG : GlobM w0) {b mb : Nat} {S : Fs} {u : Nat} {V n : Ver} {es : List Edt} {N L W : Nat} (h : MG F w0 w b mb S u V es N L W) (hf : S.fails = none) (v : Value) (x : Edt) (hx : EdAt w v x) (hok : x.ok) (ha : applyV V x = some n)
    (hN : N ≤ 199) (hL : (logB smN es).length + (layB smN (logB smN es).length (edtB x)).length ≤ L) (hL2 : L ≤ 16777216) (hr : N * L + (layB smN (logB smN es).length (edtB x)).length ≤ 1048576) :
    Calls Tryz.prog 14 #[.pointer (some ⟨mb, 0, none⟩), v] w (ComIn F w0 w b mb S u n (es ++ [x]) N L W) := by
  obtain ⟨ρ, rfl, h2, h3⟩ := h.ex
  have hu := h.std.u
  have hl := h.log
  have hsz : (logB smN es).length ≤ 1000000000 := by omega
  refine (mcommit_any hG h.blw h2 h.blw.size hu h3 rfl rfl rfl hsz v x hx hok (layB smN (logB smN es).length (edtB x)) rfl).mono ?_
  rintro e w' (⟨h5, -⟩ | ⟨n', V', h5, h6, rfl, hor⟩)
  · rw [ha] at h5; cases h5
  · rw [ha] at h5
    obtain rfl := Option.some.inj h5
    have hsn : (logB smN (es ++ [x])).length = (logB smN es).length + (layB smN (logB smN es).length (edtB x)).length := by rw [logB_snoc, List.length_append]
    rcases h.std.add smN_len (applyV_parts ha).1 ha h6 rfl hN hL hL2 hr with ⟨o1, ⟨o2, o2n⟩, o3⟩ | ⟨-, -, o3⟩
    · rcases hor with ⟨q1, ρ', k1, k2, k3⟩ | ⟨q1, -⟩
      · refine ⟨V', ManP ρ' mb, _, by show Ending.returned (Value.int .i64 (addF S u _).1) = _; rw [o1], h6, ⟨k2, k3⟩, ⟨⟨ρ', rfl, ?_, h3.to h.blw k3⟩, h3.blw h.blw k2, o2, by rw [hsn]; exact hL⟩, o2n, o3 hf⟩
        unfold manM
        rw [hsn]
        exact k1
      · exact absurd o1 q1
    · exact absurd hf o3
/-- Size is the log's length. -/
theorem msize_st {F : Nat → Prop} {w0 w : World} {b mb : Nat} {S : Fs} {u : Nat} {V : Ver} {es : List Edt} {N L W : Nat} (h : MG F w0 w b mb S u V es N L W) : Calls Tryz.prog 20 #[.pointer (some ⟨mb, 0, none⟩)] w fun e w' => e = .returned (.int .i64 ((logB smN es).length : Int)) ∧ w' = w := by
  obtain ⟨ρ, rfl, h2, h3⟩ := h.ex
  exact msize_any h2
/-- CURRENT names the manifest. -/
theorem std_read {S : Fs} {u : Nat} {V : Ver} {es : List Edt} {N L W r : Nat} (h : Std smN S u V es N L W r) : S.read curN = (ptrB smN u, 0) := by
  obtain ⟨i, j, X, k1, k2, -⟩ := h.load smN_len
  unfold Fs.read
  rw [k1]
  show ((S.file i).bytes, (0 : Int)) = _
  rw [k2]
end Go.Proofs.YtcppaflnhlmcbaaGreatDoor
