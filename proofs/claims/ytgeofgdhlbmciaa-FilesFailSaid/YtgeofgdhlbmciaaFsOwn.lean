/- A file system of the call's own, and its calls. -/
import Derived.Test.YtgeofgdhlbmciaaFsNil
import Derived.Test.YtgeofgdhlbmciaaFsOne
import Derived.Test.YtgeofgdhlbmciaaByLit
namespace Go.Proofs.Ytgeofgdhlbmciaa
set_option linter.unusedVariables false
open Go.RowKit Go.Maps
/-- Block b is a file system S that was made since w0; all that lay in w0 lies as it did. -/
def FsOwn (w0 w : World) (b : Nat) (S : Fs) : Prop := ∃ ρ, FsAt w b ρ S ∧ Below w0.heap.size w0 w ∧ ∀ k, ρ k ≠ none → w0.heap.size ≤ k
theorem FsOwn.blw {w0 w : World} {b : Nat} {S : Fs} (h : FsOwn w0 w b S) : Below w0.heap.size w0 w := by obtain ⟨ρ, _, h, _⟩ := h; exact h
theorem FsOwn.below {w0 w w' : World} {b : Nat} {S : Fs} (h : FsOwn w0 w b S) (hb : Below w.heap.size w w') : FsOwn w0 w' b S := by
  obtain ⟨ρ, h1, h2, h3⟩ := h
  exact ⟨ρ, h1.below hb, h2.trans (hb.mono h2.size), h3⟩
theorem FsOwn.to {w0 w w' : World} {b : Nat} {ρ : Nat → Option Role} {S' : Fs} (h2 : Below w0.heap.size w0 w) (h3 : ∀ k, ρ k ≠ none → w0.heap.size ≤ k) (h : FsTo w b ρ w' S') : FsOwn w0 w' b S' := by
  obtain ⟨ρ', g1, g2, g3⟩ := h
  refine ⟨ρ', g1, h2.trans (g2.below h2.size fun k hk f => ?_), fun k hk => ?_⟩
  · have := h3 k f; omega
  · rcases g3 k hk with g | g
    · exact h3 k g
    · exact Nat.le_trans h2.size g
theorem new_own (n : Int) (w : World) : Calls Try.prog 22 #[.int .i64 n] w fun e w' => e = .returned (.pointer (some ⟨w.heap.size, 0, none⟩)) ∧ FsOwn w w' w.heap.size (fsNew (clampN n 16777216)) := by
  refine (new_any n w).mono ?_
  rintro e w' ⟨rfl, ρ, h1, h2, h3⟩
  exact ⟨rfl, ρ, h1, h2, h3⟩
/-- What a call on it answers, what is behind it. -/
def OwnRes (w0 : World) (b : Nat) (r : Int × Fs) (e : Ending) (w' : World) : Prop := e = .returned (.int .i64 r.1) ∧ FsOwn w0 w' b r.2
theorem OpAt.own {w0 w w' : World} {b : Nat} {ρ : Nat → Option Role} {r : Int × Fs} {e : Ending} (h2 : Below w0.heap.size w0 w) (h3 : ∀ k, ρ k ≠ none → w0.heap.size ≤ k) (h : OpAt w b ρ r e w') : OwnRes w0 b r e w' := ⟨h.1, FsOwn.to h2 h3 h.2⟩
theorem create_own {w0 w : World} {b : Nat} {S : Fs} (h : FsOwn w0 w b S) (n : ByteArray) (hn : n.size ≤ 1000000) (hw : S.wait.length ≤ 1000000) : Calls Try.prog 11 #[.pointer (some ⟨b, 0, none⟩), .string n] w (OwnRes w0 b (S.create n)) := by
  obtain ⟨ρ, h1, h2, h3⟩ := h
  exact (create_any w b ρ S h1 n (by unfold maxLen; omega) (by omega)).mono fun e w' h => h.own h2 h3
theorem append_own {w0 w1 w : World} {b : Nat} {S : Fs} (h : FsOwn w0 w1 b S) (hb : Below w1.heap.size w1 w) (n : ByteArray) (hn : n.size ≤ 1000000) (v : Value) (bs : List UInt8) (hv : RdB w v bs) (ho : ∀ k, v.ownBlock = some k → w1.heap.size ≤ k) (hbl : bs.length ≤ 1000000) : Calls Try.prog 12 #[.pointer (some ⟨b, 0, none⟩), .string n, v] w (OwnRes w0 b (S.append n bs)) := by
  obtain ⟨ρ, h1, h2, h3⟩ := h
  have hout : OutF ρ v := fun k hk => by
    have h4 := ho k hk
    cases hr : ρ k with
    | none => rfl
    | some r =>
      obtain ⟨L, hL⟩ := h1
      have := hL.top k (by rw [hr]; simp)
      omega
  exact (append_any w b ρ S (h1.below hb) n (by unfold maxLen; omega) v bs hv hout (by omega)).mono fun e w' h => h.own (h2.trans (hb.mono h2.size)) h3
theorem sync_own {w0 w : World} {b : Nat} {S : Fs} (h : FsOwn w0 w b S) (n : ByteArray) (hn : n.size ≤ 1000000) : Calls Try.prog 13 #[.pointer (some ⟨b, 0, none⟩), .string n] w (OwnRes w0 b (S.sync n)) := by
  obtain ⟨ρ, h1, h2, h3⟩ := h
  exact (sync_any w b ρ S h1 n (by unfold maxLen; omega)).mono fun e w' h => h.own h2 h3
theorem syncDir_own {w0 w : World} {b : Nat} {S : Fs} (h : FsOwn w0 w b S) : Calls Try.prog 14 #[.pointer (some ⟨b, 0, none⟩)] w (OwnRes w0 b S.syncDir) := by
  obtain ⟨ρ, h1, h2, h3⟩ := h
  exact (syncDir_any w b ρ S h1).mono fun e w' h => h.own h2 h3
theorem rename_own {w0 w : World} {b : Nat} {S : Fs} (h : FsOwn w0 w b S) (n t : ByteArray) (hn : n.size ≤ 1000000) (ht : t.size ≤ 1000000) (hw : S.wait.length ≤ 1000000) : Calls Try.prog 15 #[.pointer (some ⟨b, 0, none⟩), .string n, .string t] w (OwnRes w0 b (S.rename n t)) := by
  obtain ⟨ρ, h1, h2, h3⟩ := h
  exact (rename_any w b ρ S h1 n t (by unfold maxLen; omega) (by unfold maxLen; omega) (by omega) (by omega)).mono fun e w' h => h.own h2 h3
theorem read_own {w0 w : World} {b : Nat} {S : Fs} (h : FsOwn w0 w b S) (n : ByteArray) (hn : n.size ≤ 1000000) (bs : List UInt8) (c : Int) (hr : S.read n = (bs, c)) : Calls Try.prog 7 #[.pointer (some ⟨b, 0, none⟩), .string n] w (ReadAt w bs c) := by
  obtain ⟨ρ, h1, h2, h3⟩ := h
  have := read_any w b ρ S h1 n (by unfold maxLen; omega)
  rwa [hr] at this
theorem calls_own {w0 w : World} {b : Nat} {S : Fs} (h : FsOwn w0 w b S) : Calls Try.prog 19 #[.pointer (some ⟨b, 0, none⟩)] w fun e w' => e = .returned (.int .i64 S.calls) ∧ w = w' := by
  obtain ⟨ρ, h1, h2, h3⟩ := h
  exact calls_any w b ρ S h1
theorem used_own {w0 w : World} {b : Nat} {S : Fs} (h : FsOwn w0 w b S) : Calls Try.prog 18 #[.pointer (some ⟨b, 0, none⟩)] w fun e w' => e = .returned (.int .i64 (S.used : Nat)) ∧ Below w.heap.size w w' := by
  obtain ⟨ρ, h1, h2, h3⟩ := h
  exact used_any w b ρ S h1
theorem fail_own {w0 w : World} {b : Nat} {S : Fs} (h : FsOwn w0 w b S) (n : Int) (hn : n ≤ 1000000) : Calls Try.prog 8 #[.pointer (some ⟨b, 0, none⟩), .int .i64 n] w fun e w' => e = .returned (.tuple #[]) ∧ FsOwn w0 w' b (S.fail n) := by
  obtain ⟨ρ, h1, h2, h3⟩ := h
  refine (fail_any w b ρ S h1 n (by omega)).mono ?_
  rintro e w' ⟨rfl, g1, g2⟩
  have hb : w0.heap.size ≤ b := h3 b (by rw [h1.role]; simp)
  exact ⟨rfl, ρ, g1, h2.trans (g2.below h2.size fun k hk e => by have e' : k = b := e; omega), h3⟩
/-- The one that a crash leaves; the old one stays. -/
def CrashOwn (w : World) (S : Fs) (e : Ending) (w' : World) : Prop := ∃ b', e = .returned (.pointer (some ⟨b', 0, none⟩)) ∧ FsOwn w w' b' S
theorem crash_own {w0 w1 w : World} {b : Nat} {S : Fs} (h : FsOwn w0 w1 b S) (hb : Below w1.heap.size w1 w) (n : Int) (tv : Value) (ts : List Int) (ht : RdV w tv (ts.map (Value.int .i64))) (htl : ts.length ≤ 1000000) (hwl : S.wait.length ≤ 1000000) :
    Calls Try.prog 20 #[.pointer (some ⟨b, 0, none⟩), .int .i64 n, tv] w (CrashOwn w (S.crash n ts)) := by
  obtain ⟨ρ, h1, h2, h3⟩ := h
  refine (crash_any w b ρ S (h1.below hb) n tv ts ht (by omega) (by omega)).mono ?_
  rintro e w' ⟨b', ρ', rfl, g1, g2, g3⟩
  exact ⟨b', rfl, ρ', g1, g2, g3⟩
/-- A text made of bytes, held against another one. -/
theorem own_text {w w' : World} {v : Value} {bs : List UInt8} (h : OwnB w.heap.size w' v bs) : (convert 23 9 v).run Try.prog w' = .ok (.string ⟨bs.toArray⟩) w' := RdB.text (OwnB.rd h)
theorem ints_one (w : World) (n : Int) : RdV (w.alloc (.cells #[.int .i64 n] 3)) (.slice (some ⟨w.heap.size, 0, none⟩) 1 1) ([n].map (Value.int .i64)) := by
  refine .inr ⟨w.heap.size, 0, 1, rfl, by simp, Nat.le_refl _, by unfold maxLen; omega, by simp, fun i hi => ?_⟩
  obtain rfl : i = 0 := by simpa using hi
  rw [cells_at (heap_alloc_new ..)]; rfl
end Go.Proofs.Ytgeofgdhlbmciaa
