/- A manifest of a law's own: its calls in plain words. -/
import Derived.Test.YtmmkgopnccfiiaaGreatDoorMManB
import Derived.Test.YtmmkgopnccfiiaaGreatDoorMEdtR
namespace Go.Proofs.YtmmkgopnccfiiaaGreatDoor
set_option linter.unusedVariables false
open Go.RowKit Go.Maps
def manM (u : Nat) (es : List Edt) : Man := ⟨u, (logB smN es).length, false, false, false⟩
/-- A manifest whose blocks are F; all that it tells lasts. -/
structure MSt (F : Nat → Prop) (w0 w : World) (b mb : Nat) (S : Fs) (u : Nat) (V : Ver) (es : List Edt) (c r : Nat) : Prop where
  ex : ∃ ρ, ManP ρ mb = F ∧ ManAt w0.heap.size w b mb ρ S (manM u es) V ∧ HighP w0 ρ mb
  blw : Below w0.heap.size w0 w
  run : Run smN S u V es c r
/-- What a call writes, what the new blocks are. -/
def Step (F F' : Nat → Prop) (w w' : World) : Prop := UpdF F w w' ∧ ∀ k, F' k → F k ∨ w.heap.size ≤ k
theorem Step.refl {F : Nat → Prop} {w w' : World} (hb : Below w.heap.size w w') : Step F F w w' := ⟨UpdF.of hb, fun k hk => .inl hk⟩
theorem Step.then {F F' F'' : Nat → Prop} {w w' w'' : World} (h : Step F F' w w') (k : Step F' F'' w' w'') : Step F F'' w w'' :=
  ⟨h.1.then k.1 h.2, fun i hi => by
    rcases k.2 i hi with f | f
    · exact h.2 i f
    · have := h.1.size; exact .inr (by omega)⟩
theorem Step.pre {F F' : Nat → Prop} {w w1 w' : World} (hb : Below w.heap.size w w1) (h : Step F F' w1 w') : Step F F' w w' := (Step.refl hb).then h
/-- A block that is none of these stays so. -/
theorem Step.keep {F F' : Nat → Prop} {w w' : World} (h : Step F F' w w') {k : Nat} (hk : k < w.heap.size) (hn : ¬ F k) : ¬ F' k ∧ w'.heap[k]? = w.heap[k]? :=
  ⟨fun f => by
    rcases h.2 k f with f | f
    · exact hn f
    · omega, h.1.block k hk hn⟩
theorem MSt.below {F : Nat → Prop} {w0 w w' : World} {b mb : Nat} {S : Fs} {u : Nat} {V : Ver} {es : List Edt} {c r : Nat} (h : MSt F w0 w b mb S u V es c r) (hb : Below w.heap.size w w') : MSt F w0 w' b mb S u V es c r := by
  obtain ⟨ρ, h1, h2, h3⟩ := h.ex
  exact ⟨⟨ρ, h1, h2.below hb, h3⟩, h.blw.trans (hb.mono h.blw.size), h.run⟩
theorem MSt.same {F : Nat → Prop} {w0 w : World} {b mb : Nat} {S : Fs} {u : Nat} {V : Ver} {es : List Edt} {c r c' r' : Nat} (h : MSt F w0 w b mb S u V es c r) (hr : Run smN S u V es c' r') : MSt F w0 w b mb S u V es c' r' := ⟨h.ex, h.blw, hr⟩
theorem MSt.high {F : Nat → Prop} {w0 w : World} {b mb : Nat} {S : Fs} {u : Nat} {V : Ver} {es : List Edt} {c r : Nat} (h : MSt F w0 w b mb S u V es c r) : ∀ k, F k → w0.heap.size ≤ k ∧ k < w.heap.size := by
  obtain ⟨ρ, rfl, h2, h3⟩ := h.ex
  exact fun k hk => ⟨h3 k hk, h2.top k hk⟩
theorem run_u {sm : List UInt8 → List UInt8} {S : Fs} {u : Nat} {V : Ver} {es : List Edt} {c r : Nat} (h : Run sm S u V es c r) : u ≤ 1125899906842624 := h.std.u
/-- A manifest that a failure closed: whatever a crash keeps, a version with P is loaded. -/
def BadSt (F : Nat → Prop) (w0 w : World) (b mb : Nat) (S' : Fs) (P : Ver → Prop) : Prop := ∃ ρ M V, ManP ρ mb = F ∧ M.closed = true ∧ ManAt w0.heap.size w b mb ρ S' M V ∧ HighP w0 ρ mb ∧ Below w0.heap.size w0 w ∧ S'.wait.length ≤ 1000 ∧ ∀ n ts, LoadP smN (S'.crash n ts) P
/-- What Commit answers, and leaves. -/
def ComSt (F : Nat → Prop) (w0 w : World) (b mb : Nat) (S : Fs) (u : Nat) (V : Ver) (es : List Edt) (c r : Nat) (x : Edt) (e : Ending) (w' : World) : Prop :=
  (applyV V x = none ∧ e = .returned (.int .i64 12) ∧ ∃ F', Step F F' w w' ∧ MSt F' w0 w' b mb S u V es c r) ∨
  (∃ n V', applyV V x = some n ∧ vSame n V' ∧ ∃ F' S', Step F F' w w' ∧ ((e = .returned (.int .i64 0) ∧ MSt F' w0 w' b mb S' u V' (es ++ [x]) (c + 1) r ∧ S'.now = S.now ∧ (S.fails = none → S'.fails = none)) ∨ (S.fails ≠ none ∧ e = .returned (.int .i64 7) ∧ BadSt F' w0 w' b mb S' (fun X => vSame X V ∨ vSame X V'))))
theorem short_cut {x : Edt} (h : x.short) : cutE x := ⟨h.1, h.2.1, h.2.2⟩
theorem mcommit_st {F : Nat → Prop} {w0 w : World} (hG : GlobM w0) {b mb : Nat} {S : Fs} {u : Nat} {V : Ver} {es : List Edt} {c r : Nat} (h : MSt F w0 w b mb S u V es c r) (hcr : c + r < 20) (v : Value) (x : Edt) (hx : EdAt w v x) (hs : x.short) :
    Calls Tryz.prog 9 #[.pointer (some ⟨mb, 0, none⟩), v] w (ComSt F w0 w b mb S u V es c r x) := by
  obtain ⟨ρ, rfl, h2, h3⟩ := h.ex
  have hu := run_u h.run
  have hl := h.run.log
  have hsz : (logB smN es).length ≤ 1000000000 := by omega
  refine (mcommit_any hG h.blw h2 h.blw.size hu h3 rfl rfl rfl hsz v x hx hs.ok (layB smN (logB smN es).length (edtB x)) rfl).mono ?_
  rintro e w' (⟨h5, rfl, ρ', k1, k2, k3⟩ | ⟨n, V', h5, h6, rfl, hor⟩)
  · exact .inl ⟨h5, rfl, ManP ρ' mb, ⟨k2, k3⟩, ⟨ρ', rfl, k1, h3.to h.blw k3⟩, h3.blw h.blw k2, h.run⟩
  · refine .inr ⟨n, V', h5, h6, ?_⟩
    have ho := h.run.add smN_len hcr (short_cut hs) (applyV_parts h5).1 h5 h6
    have hsn : (logB smN (es ++ [x])).length = (logB smN es).length + (layB smN (logB smN es).length (edtB x)).length := by rw [logB_snoc, List.length_append]
    rcases ho with ⟨o1, ⟨o2, o2n⟩, o3⟩ | ⟨o1, o2, o3⟩
    · rcases hor with ⟨q1, ρ', k1, k2, k3⟩ | ⟨q1, -⟩
      · refine ⟨ManP ρ' mb, _, ⟨k2, k3⟩, .inl ⟨by show Ending.returned (Value.int .i64 (addF S u _).1) = _; rw [o1], ⟨⟨ρ', rfl, ?_, h3.to h.blw k3⟩, h3.blw h.blw k2, o2⟩, o2n, o3⟩⟩
        unfold manM
        rw [hsn]
        exact k1
      · exact absurd o1 q1
    · rcases hor with ⟨q1, -⟩ | ⟨q1, s, ρ', k1, k2, k3⟩
      · have q1' : (addF S u (layB smN (logB smN es).length (edtB x))).1 = 0 := q1
        rw [o1] at q1'; cases q1'
      · refine ⟨ManP ρ' mb, _, ⟨k2, k3⟩, .inr ⟨o3, by show Ending.returned (Value.int .i64 (addF S u _).1) = _; rw [o1], ρ', _, V, rfl, rfl, k1, h3.to h.blw k3, h3.blw h.blw k2, ?_, fun n ts => add_bad smN_len hu o2 n ts⟩⟩
        have := o2.disk.wait
        exact Nat.le_trans this (by omega)
/-! ### the first manifest -/
theorem new_disk (L r : Nat) (hL : L ≤ 16777216) (hr : r ≤ 16777216) : Disk (fsNew r) 0 L 0 r := by
  have hd : ∀ k, dirAt (fsNew r) k = [] := fun k => by
    unfold dirAt fsNew
    rw [List.take_nil]; rfl
  refine ⟨⟨List.Pairwise.nil, List.Pairwise.nil, rfl, fun k => ?_, fun x hx => (by cases hx), fun x hx => (by cases hx), fun c hc => (by cases hc), fun c hc => (by cases hc), fun p hp => (by cases hp), hr, (show -9223372036854775808 ≤ (0 : Int) ∧ (0 : Int) < 9223372036854775808 by decide), fun n hn => (by cases hn)⟩, fun k => ?_, fun p hp => (by cases hp), Nat.le_refl _, rfl⟩
  · have := hd k; unfold dirAt at this; rw [this]; exact Nat.zero_le _
  · rw [hd]; exact Nat.le_refl _
theorem create_run : Out (fsNew 1048576) (begF smN (fsNew 1048576) 1 logC) (fun S' => Run smN S' 1 verC [wholeE verC] 0 0 ∧ S'.now.length ≤ 2 ∧ ∀ n, n ≠ curN → n ≠ manN 1 → dget n S'.now = none) (fun _ => True) := by
  have hth : ∀ f ∈ verC.fs, thinF 20 f := fun f hf => by cases hf
  have hll := wholeE_len smN_len (V := verC) (c := 0) hth (Nat.le_refl _)
  have hlc : logB smN [wholeE verC] = logC := logB_one _ _
  have hl : logC.length ≤ 100 := by rw [← hlc]; exact hll
  refine (begF_out smN_len (S := fsNew 1048576) (v := 1) (by decide) (log := logC) (N := 0) (L := 100) (W := 0) (r := 1048576) (X := fun _ _ => True) (new_disk 100 1048576 (by omega) (by omega)) (fun _ => trivial) ⟨fun _ _ _ _ => trivial, fun _ _ _ _ _ _ => trivial, fun _ _ _ _ _ _ _ => trivial⟩ (by omega) hl (by omega) (by omega) (by omega)).mono ?_ fun _ _ => trivial
  rintro S' ⟨d1, d2, d4⟩
  have hme : mayE (wholeE verC) := mayE_whole verC_good
  obtain ⟨Y, y1, y2⟩ := manV_whole_same verC_good (List.Perm.refl verC.fs)
  refine ⟨⟨⟨d1.more (by omega) (by omega) (by omega), ⟨(fsNew 1048576).files.length + 1, (fsNew 1048576).files.length, by omega, by rw [hlc]; exact d2⟩, fun e he => by rw [List.mem_singleton.1 he]; exact hme, ⟨Y, y1, y2.symm⟩, verC_good, by decide⟩, by rw [hlc]; omega, hth, Nat.le_refl _⟩, d1.now, fun n n1 n2 => ?_⟩
  rw [d4 n n1 n2]
  split <;> rfl
end Go.Proofs.YtmmkgopnccfiiaaGreatDoor
/- A manifest of a law's own: made, loaded. -/
namespace Go.Proofs.YtmmkgopnccfiiaaGreatDoor
set_option linter.unusedVariables false
open Go.RowKit Go.Maps
theorem new_read (n : ByteArray) (r : Nat) : (fsNew r).read n = ([], 3) := rfl
/-- The first manifest of new files. -/
theorem mcreate_st {w0 w : World} (hG : GlobM w0) {b : Nat} (h : FsOwn w0 w b (fsNew 1048576)) :
    Calls Tryz.prog 6 #[.pointer (some ⟨b, 0, none⟩)] w fun e w' => ∃ (mb : Nat) (F : Nat → Prop) (S' : Fs), e = .returned (.tuple #[.pointer (some ⟨mb, 0, none⟩), .int .i64 0]) ∧ MSt F w0 w' b mb S' 1 verC [wholeE verC] 0 0 ∧ S'.fails = none ∧ S'.now.length ≤ 2 ∧ ∀ n, n ≠ curN → n ≠ manN 1 → dget n S'.now = none := by
  obtain ⟨ρ, h1, h2, h3⟩ := h
  refine (mcreate_any (B := w0.heap.size) hG h2 h2.size b ρ _ h1 h3 [] 3 (new_read _ _) (by decide) (Nat.zero_le _)).mono ?_
  rintro e w' hb
  have hc : logB smN [wholeE verC] = logC := logB_one _ _
  rcases create_run with ⟨o1, ⟨o2, o3, o4⟩, o5⟩ | ⟨-, -, o3⟩
  · rcases hb with ⟨q1, mb, ρ', rfl, q2, q3, q4, q5⟩ | ⟨q1, -⟩
    · have hh : HighP w0 ρ' mb := fun k hk => by
        rcases hk with hk | rfl
        · rcases q5 k hk with f | f
          · exact h3 k f
          · exact Nat.le_trans h2.size f
        · exact Nat.le_trans h2.size q2
      refine ⟨mb, ManP ρ' mb, _, rfl, ⟨⟨ρ', rfl, ?_, hh⟩, h2.trans (q4.below h2.size fun k hk f => by have := h3 k f; omega), o2⟩, o5 rfl, o3, o4⟩
      unfold manM
      rw [hc]
      exact q3
    · exact absurd o1 q1
  · exact absurd rfl o3
/-- On files that have a CURRENT. -/
theorem mcreate_has {F : Nat → Prop} {w0 w : World} {b mb : Nat} {S : Fs} {u : Nat} {V : Ver} {es : List Edt} {c r : Nat} (h : MSt F w0 w b mb S u V es c r) : Calls Tryz.prog 6 #[.pointer (some ⟨b, 0, none⟩)] w fun e w' => e = .returned (.tuple #[.pointer none, .int .i64 10]) ∧ Below w.heap.size w w' := by
  obtain ⟨ρ, h1, h2, h3⟩ := h.ex
  obtain ⟨i, j, X, k1, k2, -⟩ := h.run.std.load smN_len
  refine mcreate_there w b ρ S h2.fs (ptrB smN u) ?_
  unfold Fs.read
  rw [k1]
  show ((S.file i).bytes, (0 : Int)) = _
  rw [k2]
/-- What a crash leaves. -/
theorem mcrash_st {F : Nat → Prop} {w0 w : World} {b mb : Nat} {S : Fs} {u : Nat} {V : Ver} {es : List Edt} {c r : Nat} (h : MSt F w0 w b mb S u V es c r) (n : Int) (tv : Value) (ts : List Int) (ht : RdV w tv (ts.map (Value.int .i64))) (htl : ts.length ≤ 1000000) : Calls Tryz.prog 13 #[.pointer (some ⟨b, 0, none⟩), .int .i64 n, tv] w (CrashOwn w (S.crash n ts)) := by
  obtain ⟨ρ, h1, h2, h3⟩ := h.ex
  have hw := h.run.std.disk.wait
  refine (crash_any w b ρ S h2.fs n tv ts ht (by omega) (by omega)).mono ?_
  rintro e w' ⟨b', ρ', rfl, g1, g2, g3⟩
  exact ⟨b', rfl, ρ', g1, g2, g3⟩
theorem set_self {fs : List Fil} {j : Nat} {p : Fil} (h : fs[j]? = some p) : fs.set j p = fs := by
  obtain ⟨hj, rfl⟩ := List.getElem?_eq_some_iff.1 h
  exact List.set_getElem_self hj
/-- All of what was loaded is made last. -/
theorem settle_run {S : Fs} {u : Nat} {V : Ver} {es : List Edt} {c r : Nat} (h : Run smN S u V es c r) (hcr : c ≤ 20 ∧ r ≤ 20) : Out S (setF S u) (fun S' => Run smN S' u V es c r ∧ S'.now = S.now) (fun _ => True) := by
  obtain ⟨i, j, hij, hn⟩ := h.std.new
  obtain ⟨h1, h2, h3, h4⟩ := hn.now h.std.disk.ok
  have hfj := file_of h4
  refine (setF_out h.std.disk hn h2 (by omega) (by omega) ?_).mono ?_ fun _ _ => trivial
  · rintro D hD
    rw [hfj]
    simp only
    rw [set_self h4]
    exact hD
  · rintro S' ⟨d1, d2, d3⟩
    exact ⟨⟨{ h.std with disk := d1, new := ⟨i, j, hij, d2⟩ }, h.log, h.thin, h.few⟩, d3⟩
/-- The manifest of files that are all well. -/
theorem mload_st {w0 w : World} (hG : GlobM w0) {b : Nat} {S : Fs} (h : FsOwn w0 w b S) {u : Nat} {V : Ver} {es : List Edt} {c r : Nat} (hr : Run smN S u V es c r) (hf : S.fails = none) (hcr : c ≤ 20 ∧ r ≤ 20) :
    Calls Tryz.prog 12 #[.pointer (some ⟨b, 0, none⟩)] w fun e w' => ∃ (mb : Nat) (F : Nat → Prop) (S' : Fs) (V' : Ver), e = .returned (.tuple #[.pointer (some ⟨mb, 0, none⟩), .int .i64 0]) ∧ vSame V V' ∧ MSt F w0 w' b mb S' u V' es c r ∧ S'.fails = none ∧ S'.now = S.now := by
  obtain ⟨ρ, h1, h2, h3⟩ := h
  obtain ⟨i, j, X, k1, k2, k3, k4, k5, k6, k7⟩ := hr.std.load smN_len
  have hu := run_u hr
  have hlog := hr.log
  refine (mload_any hG h2 b ρ S h1 h3 u hu (by unfold Fs.read; rw [k1]; show ((S.file i).bytes, (0 : Int)) = _; rw [k2]) (logB smN es) (by unfold Fs.read; rw [k3]; show ((S.file j).bytes, (0 : Int)) = _; rw [k4]) es _ k5 hr.std.may X k6 (by omega) (Nat.le_refl _)).mono ?_
  rintro e w' ⟨mb, V', ρ', rfl, q1, q2, q3, q4, q5⟩
  have hd : decide ((logB smN es).length < (logB smN es).length) = false := decide_eq_false (Nat.lt_irrefl _)
  rw [hd] at q3
  have hh : HighP w0 ρ' mb := fun k hk => by
    rcases hk with hk | rfl
    · rcases q5 k hk with f | f
      · exact h3 k f
      · exact Nat.le_trans h2.size f
    · exact Nat.le_trans h2.size q1
  have hsm : vSame V V' := k7.symm.trans q2
  rcases settle_run hr hcr with ⟨o1, ⟨o2, o4⟩, o3⟩ | ⟨-, -, o3⟩
  · have hsM : setM S ⟨u, (logB smN es).length, false, true, false⟩ = (0, (setF S u).2, manM u es) := by
      unfold setM
      rw [if_pos rfl]
      show ((setF S u).1, (setF S u).2, (⟨u, (logB smN es).length, false, decide ((setF S u).1 ≠ 0), false⟩ : Man)) = _
      rw [o1]; rfl
    rw [hsM] at q3
    exact ⟨mb, ManP ρ' mb, _, V', rfl, hsm, ⟨⟨ρ', rfl, q3, hh⟩, h2.trans (q4.below h2.size fun k hk f => by have := h3 k f; omega), o2.same hsm⟩, o3 hf, o4⟩
  · exact absurd hf o3
end Go.Proofs.YtmmkgopnccfiiaaGreatDoor
/- A manifest of a law's own, whatever lies beside it: Commit. -/
namespace Go.Proofs.YtmmkgopnccfiiaaGreatDoor
set_option linter.unusedVariables false
open Go.RowKit Go.Maps
/-- A manifest whose blocks are F; all that it tells lasts; the files are no more than N, no longer than L. -/
structure MG (F : Nat → Prop) (w0 w : World) (b mb : Nat) (S : Fs) (u : Nat) (V : Ver) (es : List Edt) (N L W : Nat) : Prop where
  ex : ∃ ρ, ManP ρ mb = F ∧ ManAt w0.heap.size w b mb ρ S (manM u es) V ∧ HighP w0 ρ mb
  blw : Below w0.heap.size w0 w
  std : Std smN S u V es N L W 1048576
  log : (logB smN es).length ≤ L
theorem MSt.g {F : Nat → Prop} {w0 w : World} {b mb : Nat} {S : Fs} {u : Nat} {V : Ver} {es : List Edt} {c r : Nat} (h : MSt F w0 w b mb S u V es c r) : MG F w0 w b mb S u V es (2 + 2 * r) (2420 * c + 100) 1 := ⟨h.ex, h.blw, h.run.std, h.run.log⟩
theorem MG.more {F : Nat → Prop} {w0 w : World} {b mb : Nat} {S : Fs} {u : Nat} {V : Ver} {es : List Edt} {N L W N' L' W' : Nat} (h : MG F w0 w b mb S u V es N L W) (hN : N ≤ N') (hL : L ≤ L') (hW : W ≤ W') : MG F w0 w b mb S u V es N' L' W' := ⟨h.ex, h.blw, h.std.more hN hL hW, Nat.le_trans h.log hL⟩
theorem MG.st {F : Nat → Prop} {w0 w : World} {b mb : Nat} {S : Fs} {u : Nat} {V : Ver} {es : List Edt} {c r : Nat} (h : MG F w0 w b mb S u V es (2 + 2 * r) (2420 * c + 100) 1) (ht : ∀ f ∈ V.fs, thinF 20 f) (hf : V.fs.length ≤ 12 * c) : MSt F w0 w b mb S u V es c r := ⟨h.ex, h.blw, ⟨h.std, h.log, ht, hf⟩⟩
theorem MG.below {F : Nat → Prop} {w0 w w' : World} {b mb : Nat} {S : Fs} {u : Nat} {V : Ver} {es : List Edt} {N L W : Nat} (h : MG F w0 w b mb S u V es N L W) (hb : Below w.heap.size w w') : MG F w0 w' b mb S u V es N L W := by
  obtain ⟨ρ, h1, h2, h3⟩ := h.ex
  exact ⟨⟨ρ, h1, h2.below hb, h3⟩, h.blw.trans (hb.mono h.blw.size), h.std, h.log⟩
theorem MG.high {F : Nat → Prop} {w0 w : World} {b mb : Nat} {S : Fs} {u : Nat} {V : Ver} {es : List Edt} {N L W : Nat} (h : MG F w0 w b mb S u V es N L W) : ∀ k, F k → w0.heap.size ≤ k ∧ k < w.heap.size := by
  obtain ⟨ρ, rfl, h2, h3⟩ := h.ex
  exact fun k hk => ⟨h3 k hk, h2.top k hk⟩
/-- What Commit leaves where the edit may be and nothing fails. -/
def ComIn (F : Nat → Prop) (w0 w : World) (b mb : Nat) (S : Fs) (u : Nat) (n : Ver) (es : List Edt) (N L W : Nat) (e : Ending) (w' : World) : Prop :=
  ∃ (V' : Ver) (F' : Nat → Prop) (S' : Fs), e = .returned (.int .i64 0) ∧ vSame n V' ∧ Step F F' w w' ∧ MG F' w0 w' b mb S' u V' es N L W ∧ S'.now = S.now ∧ S'.fails = none
theorem mcommit_g {F : Nat → Prop} {w0 w : World} (hG : GlobM w0) {b mb : Nat} {S : Fs} {u : Nat} {V n : Ver} {es : List Edt} {N L W : Nat} (h : MG F w0 w b mb S u V es N L W) (hf : S.fails = none) (v : Value) (x : Edt) (hx : EdAt w v x) (hok : x.ok) (ha : applyV V x = some n)
    (hN : N ≤ 199) (hL : (logB smN es).length + (layB smN (logB smN es).length (edtB x)).length ≤ L) (hL2 : L ≤ 16777216) (hr : N * L + (layB smN (logB smN es).length (edtB x)).length ≤ 1048576) :
    Calls Tryz.prog 9 #[.pointer (some ⟨mb, 0, none⟩), v] w (ComIn F w0 w b mb S u n (es ++ [x]) N L W) := by
  obtain ⟨ρ, rfl, h2, h3⟩ := h.ex
  have hu := h.std.u
  have hl := h.log
  have hsz : (logB smN es).length ≤ 1000000000 := by omega
  refine (mcommit_any hG h.blw h2 h.blw.size hu h3 rfl rfl rfl hsz v x hx hok (layB smN (logB smN es).length (edtB x)) rfl).mono ?_
  rintro e w' (⟨h5, -⟩ | ⟨n', V', h5, h6, rfl, hor⟩)
  · rw [ha] at h5; cases h5
  · rw [ha] at h5
    obtain rfl := Option.some.inj h5
    have hsn : (logB smN (es ++ [x])).length = (logB smN es).length + (layB smN (logB smN es).length (edtB x)).length := by rw [logB_snoc, List.length_append]
    rcases h.std.add smN_len (applyV_parts ha).1 ha h6 rfl hN hL hL2 hr with ⟨o1, ⟨o2, o2n⟩, o3⟩ | ⟨-, -, o3⟩
    · rcases hor with ⟨q1, ρ', k1, k2, k3⟩ | ⟨q1, -⟩
      · refine ⟨V', ManP ρ' mb, _, by show Ending.returned (Value.int .i64 (addF S u _).1) = _; rw [o1], h6, ⟨k2, k3⟩, ⟨⟨ρ', rfl, ?_, h3.to h.blw k3⟩, h3.blw h.blw k2, o2, by rw [hsn]; exact hL⟩, o2n, o3 hf⟩
        unfold manM
        rw [hsn]
        exact k1
      · exact absurd o1 q1
    · exact absurd hf o3
/-- CURRENT names the manifest. -/
theorem std_read {S : Fs} {u : Nat} {V : Ver} {es : List Edt} {N L W r : Nat} (h : Std smN S u V es N L W r) : S.read curN = (ptrB smN u, 0) := by
  obtain ⟨i, j, X, k1, k2, -⟩ := h.load smN_len
  unfold Fs.read
  rw [k1]
  show ((S.file i).bytes, (0 : Int)) = _
  rw [k2]
end Go.Proofs.YtmmkgopnccfiiaaGreatDoor
