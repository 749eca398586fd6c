/- A manifest of a law's own: its calls in plain words. -/
import Derived.Test.YtcppaflnhlmcbaaGreatDoorManLoad
import Derived.Test.YtcppaflnhlmcbaaGreatDoorMEdtR
namespace Go.Proofs.YtcppaflnhlmcbaaGreatDoor
set_option linter.unusedVariables false
open Go.RowKit Go.Maps
def manM (u : Nat) (es : List Edt) : Man := ⟨u, (logB smN es).length, false, false, false⟩
/-- A manifest whose blocks are F; all that it tells lasts. -/
structure MSt (F : Nat → Prop) (w0 w : World) (b mb : Nat) (S : Fs) (u : Nat) (V : Ver) (es : List Edt) (c r : Nat) : Prop where
  ex : ∃ ρ, ManP ρ mb = F ∧ ManAt w0.heap.size w b mb ρ S (manM u es) V ∧ HighP w0 ρ mb
  blw : Below w0.heap.size w0 w
  run : Run smN S u V es c r
/-- What a call writes, what the new blocks are. -/
def Step (F F' : Nat → Prop) (w w' : World) : Prop := UpdF F w w' ∧ ∀ k, F' k → F k ∨ w.heap.size ≤ k
theorem Step.refl {F : Nat → Prop} {w w' : World} (hb : Below w.heap.size w w') : Step F F w w' := ⟨UpdF.of hb, fun k hk => .inl hk⟩
theorem Step.then {F F' F'' : Nat → Prop} {w w' w'' : World} (h : Step F F' w w') (k : Step F' F'' w' w'') : Step F F'' w w'' :=
  ⟨h.1.then k.1 h.2, fun i hi => by
    rcases k.2 i hi with f | f
    · exact h.2 i f
    · have := h.1.size; exact .inr (by omega)⟩
theorem Step.pre {F F' : Nat → Prop} {w w1 w' : World} (hb : Below w.heap.size w w1) (h : Step F F' w1 w') : Step F F' w w' := (Step.refl hb).then h
/-- A block that is none of these stays so. -/
theorem Step.keep {F F' : Nat → Prop} {w w' : World} (h : Step F F' w w') {k : Nat} (hk : k < w.heap.size) (hn : ¬ F k) : ¬ F' k ∧ w'.heap[k]? = w.heap[k]? :=
  ⟨fun f => by
    rcases h.2 k f with f | f
    · exact hn f
    · omega, h.1.block k hk hn⟩
theorem MSt.below {F : Nat → Prop} {w0 w w' : World} {b mb : Nat} {S : Fs} {u : Nat} {V : Ver} {es : List Edt} {c r : Nat} (h : MSt F w0 w b mb S u V es c r) (hb : Below w.heap.size w w') : MSt F w0 w' b mb S u V es c r := by
  obtain ⟨ρ, h1, h2, h3⟩ := h.ex
  exact ⟨⟨ρ, h1, h2.below hb, h3⟩, h.blw.trans (hb.mono h.blw.size), h.run⟩
theorem MSt.same {F : Nat → Prop} {w0 w : World} {b mb : Nat} {S : Fs} {u : Nat} {V : Ver} {es : List Edt} {c r c' r' : Nat} (h : MSt F w0 w b mb S u V es c r) (hr : Run smN S u V es c' r') : MSt F w0 w b mb S u V es c' r' := ⟨h.ex, h.blw, hr⟩
theorem MSt.high {F : Nat → Prop} {w0 w : World} {b mb : Nat} {S : Fs} {u : Nat} {V : Ver} {es : List Edt} {c r : Nat} (h : MSt F w0 w b mb S u V es c r) : ∀ k, F k → w0.heap.size ≤ k ∧ k < w.heap.size := by
  obtain ⟨ρ, rfl, h2, h3⟩ := h.ex
  exact fun k hk => ⟨h3 k hk, h2.top k hk⟩
theorem run_u {sm : List UInt8 → List UInt8} {S : Fs} {u : Nat} {V : Ver} {es : List Edt} {c r : Nat} (h : Run sm S u V es c r) : u ≤ 1125899906842624 := h.std.u
/-- A manifest that a failure closed: whatever a crash keeps, a version with P is loaded. -/
def BadSt (F : Nat → Prop) (w0 w : World) (b mb : Nat) (S' : Fs) (P : Ver → Prop) : Prop := ∃ ρ M V, ManP ρ mb = F ∧ M.closed = true ∧ ManAt w0.heap.size w b mb ρ S' M V ∧ HighP w0 ρ mb ∧ Below w0.heap.size w0 w ∧ S'.wait.length ≤ 1000 ∧ ∀ n ts, LoadP smN (S'.crash n ts) P
/-- What Commit answers, and leaves. -/
def ComSt (F : Nat → Prop) (w0 w : World) (b mb : Nat) (S : Fs) (u : Nat) (V : Ver) (es : List Edt) (c r : Nat) (x : Edt) (e : Ending) (w' : World) : Prop :=
  (applyV V x = none ∧ e = .returned (.int .i64 12) ∧ ∃ F', Step F F' w w' ∧ MSt F' w0 w' b mb S u V es c r) ∨
  (∃ n V', applyV V x = some n ∧ vSame n V' ∧ ∃ F' S', Step F F' w w' ∧ ((e = .returned (.int .i64 0) ∧ MSt F' w0 w' b mb S' u V' (es ++ [x]) (c + 1) r ∧ S'.now = S.now ∧ (S.fails = none → S'.fails = none)) ∨ (S.fails ≠ none ∧ e = .returned (.int .i64 7) ∧ BadSt F' w0 w' b mb S' (fun X => vSame X V ∨ vSame X V'))))
theorem short_cut {x : Edt} (h : x.short) : cutE x := ⟨h.1, h.2.1, h.2.2⟩
theorem mcommit_st {F : Nat → Prop} {w0 w : World} (hG : GlobM w0) {b mb : Nat} {S : Fs} {u : Nat} {V : Ver} {es : List Edt} {c r : Nat} (h : MSt F w0 w b mb S u V es c r) (hcr : c + r < 20) (v : Value) (x : Edt) (hx : EdAt w v x) (hs : x.short) :
    Calls Tryz.prog 14 #[.pointer (some ⟨mb, 0, none⟩), v] w (ComSt F w0 w b mb S u V es c r x) := by
  obtain ⟨ρ, rfl, h2, h3⟩ := h.ex
  have hu := run_u h.run
  have hl := h.run.log
  have hsz : (logB smN es).length ≤ 1000000000 := by omega
  refine (mcommit_any hG h.blw h2 h.blw.size hu h3 rfl rfl rfl hsz v x hx hs.ok (layB smN (logB smN es).length (edtB x)) rfl).mono ?_
  rintro e w' (⟨h5, rfl, ρ', k1, k2, k3⟩ | ⟨n, V', h5, h6, rfl, hor⟩)
  · exact .inl ⟨h5, rfl, ManP ρ' mb, ⟨k2, k3⟩, ⟨ρ', rfl, k1, h3.to h.blw k3⟩, h3.blw h.blw k2, h.run⟩
  · refine .inr ⟨n, V', h5, h6, ?_⟩
    have ho := h.run.add smN_len hcr (short_cut hs) (applyV_parts h5).1 h5 h6
    have hsn : (logB smN (es ++ [x])).length = (logB smN es).length + (layB smN (logB smN es).length (edtB x)).length := by rw [logB_snoc, List.length_append]
    rcases ho with ⟨o1, ⟨o2, o2n⟩, o3⟩ | ⟨o1, o2, o3⟩
    · rcases hor with ⟨q1, ρ', k1, k2, k3⟩ | ⟨q1, -⟩
      · refine ⟨ManP ρ' mb, _, ⟨k2, k3⟩, .inl ⟨by show Ending.returned (Value.int .i64 (addF S u _).1) = _; rw [o1], ⟨⟨ρ', rfl, ?_, h3.to h.blw k3⟩, h3.blw h.blw k2, o2⟩, o2n, o3⟩⟩
        unfold manM
        rw [hsn]
        exact k1
      · exact absurd o1 q1
    · rcases hor with ⟨q1, -⟩ | ⟨q1, s, ρ', k1, k2, k3⟩
      · have q1' : (addF S u (layB smN (logB smN es).length (edtB x))).1 = 0 := q1
        rw [o1] at q1'; cases q1'
      · refine ⟨ManP ρ' mb, _, ⟨k2, k3⟩, .inr ⟨o3, by show Ending.returned (Value.int .i64 (addF S u _).1) = _; rw [o1], ρ', _, V, rfl, rfl, k1, h3.to h.blw k3, h3.blw h.blw k2, ?_, fun n ts => add_bad smN_len hu o2 n ts⟩⟩
        have := o2.disk.wait
        exact Nat.le_trans this (by omega)
/-- What Rewrite answers, and leaves. -/
def RewSt (F : Nat → Prop) (w0 w : World) (b mb : Nat) (S : Fs) (u : Nat) (V : Ver) (es : List Edt) (c r : Nat) (e : Ending) (w' : World) : Prop :=
  ∃ (V' : Ver) (F' : Nat → Prop) (S' : Fs) (v : Nat), vSame (bumpV V) V' ∧ Step F F' w w' ∧ (v : Int) = V.nx ∧ ((e = .returned (.int .i64 0) ∧ MSt F' w0 w' b mb S' v V' [wholeE V'] c (r + 1) ∧ (S.fails = none → S'.fails = none) ∧ ∀ n, n ≠ curN → n ≠ manN v → dget n S'.now = if n = manN u ∨ n = besN ∨ n = ⟨#[]⟩ then none else dget n S.now) ∨
    (S.fails ≠ none ∧ e = .returned (.int .i64 7) ∧ BadSt F' w0 w' b mb S' (fun X => vSame X V ∨ vSame X V')))
theorem mrewrite_st {F : Nat → Prop} {w0 w : World} (hG : GlobM w0) {b mb : Nat} {S : Fs} {u : Nat} {V : Ver} {es : List Edt} {c r : Nat} (h : MSt F w0 w b mb S u V es c r) (hcr : c + r < 20) (hlt : V.nx < 1125899906842624) :
    Calls Tryz.prog 16 #[.pointer (some ⟨mb, 0, none⟩)] w (RewSt F w0 w b mb S u V es c r) := by
  obtain ⟨ρ, rfl, h2, h3⟩ := h.ex
  have hu := run_u h.run
  have hn1 := h2.good.nx1
  have hbl := h.run.std.below
  obtain ⟨v, hv⟩ : ∃ v : Nat, (v : Int) = V.nx := ⟨V.nx.toNat, Int.toNat_of_nonneg (by omega)⟩
  have hw := h.run.std.disk.wait
  refine (mrewrite_any hG h.blw h2 h.blw.size hu h3 rfl rfl (by omega) v hv (by show u ≠ v; omega) hlt).mono ?_
  rintro e w' ⟨V', log, hsm, hg, hl, rfl, hor⟩
  have hl2 : log = logB smN [⟨V'.nx, V'.lg, V'.ls, V'.fs, []⟩] := by rw [logB_one]; exact hl
  have ho := h.run.turn smN_len hcr hv hsm hg hl2
  rcases ho with ⟨o1, ⟨o2, o2n⟩, o3⟩ | ⟨o1, o2, o3⟩
  · rcases hor with ⟨q1, ρ', k1, k2, k3⟩ | ⟨q1, -⟩
    · refine ⟨V', ManP ρ' mb, _, v, hsm, ⟨k2, k3⟩, hv, .inl ⟨by show Ending.returned (Value.int .i64 (turnF smN S u v log).1) = _; rw [o1], ⟨⟨ρ', rfl, ?_, h3.to h.blw k3⟩, h3.blw h.blw k2, o2⟩, o3, o2n⟩⟩
      unfold manM wholeE
      rw [← hl2]
      exact k1
    · exact absurd o1 q1
  · rcases hor with ⟨q1, -⟩ | ⟨q1, ρ', k1, k2, k3⟩
    · have q1' : (turnF smN S u v log).1 = 0 := q1
      rw [o1] at q1'; cases q1'
    · refine ⟨V', ManP ρ' mb, _, v, hsm, ⟨k2, k3⟩, hv, .inr ⟨o3, by show Ending.returned (Value.int .i64 (turnF smN S u v log).1) = _; rw [o1], ρ', _, V, rfl, rfl, k1, h3.to h.blw k3, h3.blw h.blw k2, ?_, fun n ts => turn_bad (S := S) smN_len hu (by have := h2.good.nx2; omega) hg hl2 o2 n ts⟩⟩
      have := o2.disk.wait
      exact Nat.le_trans this (by omega)
/-! ### the first manifest -/
theorem new_disk (L r : Nat) (hL : L ≤ 16777216) (hr : r ≤ 16777216) : Disk (fsNew r) 0 L 0 r := by
  have hd : ∀ k, dirAt (fsNew r) k = [] := fun k => by
    unfold dirAt fsNew
    rw [List.take_nil]; rfl
  refine ⟨⟨List.Pairwise.nil, List.Pairwise.nil, rfl, fun k => ?_, fun x hx => (by cases hx), fun x hx => (by cases hx), fun c hc => (by cases hc), fun c hc => (by cases hc), fun p hp => (by cases hp), hr, (show -9223372036854775808 ≤ (0 : Int) ∧ (0 : Int) < 9223372036854775808 by decide), fun n hn => (by cases hn)⟩, fun k => ?_, fun p hp => (by cases hp), Nat.le_refl _, rfl⟩
  · have := hd k; unfold dirAt at this; rw [this]; exact Nat.zero_le _
  · rw [hd]; exact Nat.le_refl _
theorem create_run : Out (fsNew 1048576) (begF smN (fsNew 1048576) 1 logC) (fun S' => Run smN S' 1 verC [wholeE verC] 0 0 ∧ S'.now.length ≤ 2 ∧ ∀ n, n ≠ curN → n ≠ manN 1 → dget n S'.now = none) (fun _ => True) := by
  have hth : ∀ f ∈ verC.fs, thinF 20 f := fun f hf => by cases hf
  have hll := wholeE_len smN_len (V := verC) (c := 0) hth (Nat.le_refl _)
  have hlc : logB smN [wholeE verC] = logC := logB_one _ _
  have hl : logC.length ≤ 100 := by rw [← hlc]; exact hll
  refine (begF_out smN_len (S := fsNew 1048576) (v := 1) (by decide) (log := logC) (N := 0) (L := 100) (W := 0) (r := 1048576) (X := fun _ _ => True) (new_disk 100 1048576 (by omega) (by omega)) (fun _ => trivial) ⟨fun _ _ _ _ => trivial, fun _ _ _ _ _ _ => trivial, fun _ _ _ _ _ _ _ => trivial⟩ (by omega) hl (by omega) (by omega) (by omega)).mono ?_ fun _ _ => trivial
  rintro S' ⟨d1, d2, d4⟩
  have hme : mayE (wholeE verC) := mayE_whole verC_good
  obtain ⟨Y, y1, y2⟩ := manV_whole_same verC_good (List.Perm.refl verC.fs)
  refine ⟨⟨⟨d1.more (by omega) (by omega) (by omega), ⟨(fsNew 1048576).files.length + 1, (fsNew 1048576).files.length, by omega, by rw [hlc]; exact d2⟩, fun e he => by rw [List.mem_singleton.1 he]; exact hme, ⟨Y, y1, y2.symm⟩, verC_good, by decide⟩, by rw [hlc]; omega, hth, Nat.le_refl _⟩, d1.now, fun n n1 n2 => ?_⟩
  rw [d4 n n1 n2]
  split <;> rfl
end Go.Proofs.YtcppaflnhlmcbaaGreatDoor
