/- A manifest of a law's own: made, loaded. -/
import Derived.Test.YtcppaflnhlmcbaaGreatDoorManSt
namespace Go.Proofs.YtcppaflnhlmcbaaGreatDoor
set_option linter.unusedVariables false
open Go.RowKit Go.Maps
theorem MSt.down {F : Nat → Prop} {w0 w1 w : World} {b mb : Nat} {S : Fs} {u : Nat} {V : Ver} {es : List Edt} {c r : Nat} (h : MSt F w1 w b mb S u V es c r) (h0 : Below w0.heap.size w0 w1) : MSt F w0 w b mb S u V es c r := by
  obtain ⟨ρ, h1, h2, h3⟩ := h.ex
  exact ⟨⟨ρ, h1, h2.base h0.size, fun k hk => Nat.le_trans h0.size (h3 k hk)⟩, h0.trans (h.blw.mono h0.size), h.run⟩
theorem new_read (n : ByteArray) (r : Nat) : (fsNew r).read n = ([], 3) := rfl
/-- The first manifest of new files. -/
theorem mcreate_st {w0 w : World} (hG : GlobM w0) {b : Nat} (h : FsOwn w0 w b (fsNew 1048576)) :
    Calls Tryz.prog 10 #[.pointer (some ⟨b, 0, none⟩)] w fun e w' => ∃ (mb : Nat) (F : Nat → Prop) (S' : Fs), e = .returned (.tuple #[.pointer (some ⟨mb, 0, none⟩), .int .i64 0]) ∧ MSt F w0 w' b mb S' 1 verC [wholeE verC] 0 0 ∧ S'.fails = none ∧ S'.now.length ≤ 2 ∧ ∀ n, n ≠ curN → n ≠ manN 1 → dget n S'.now = none := by
  obtain ⟨ρ, h1, h2, h3⟩ := h
  refine (mcreate_any (B := w0.heap.size) hG h2 h2.size b ρ _ h1 h3 [] 3 (new_read _ _) (by decide) (Nat.zero_le _)).mono ?_
  rintro e w' hb
  have hc : logB smN [wholeE verC] = logC := logB_one _ _
  rcases create_run with ⟨o1, ⟨o2, o3, o4⟩, o5⟩ | ⟨-, -, o3⟩
  · rcases hb with ⟨q1, mb, ρ', rfl, q2, q3, q4, q5⟩ | ⟨q1, -⟩
    · have hh : HighP w0 ρ' mb := fun k hk => by
        rcases hk with hk | rfl
        · rcases q5 k hk with f | f
          · exact h3 k f
          · exact Nat.le_trans h2.size f
        · exact Nat.le_trans h2.size q2
      refine ⟨mb, ManP ρ' mb, _, rfl, ⟨⟨ρ', rfl, ?_, hh⟩, h2.trans (q4.below h2.size fun k hk f => by have := h3 k f; omega), o2⟩, o5 rfl, o3, o4⟩
      unfold manM
      rw [hc]
      exact q3
    · exact absurd o1 q1
  · exact absurd rfl o3
/-- On files that have a CURRENT. -/
theorem mcreate_has {F : Nat → Prop} {w0 w : World} {b mb : Nat} {S : Fs} {u : Nat} {V : Ver} {es : List Edt} {c r : Nat} (h : MSt F w0 w b mb S u V es c r) : Calls Tryz.prog 10 #[.pointer (some ⟨b, 0, none⟩)] w fun e w' => e = .returned (.tuple #[.pointer none, .int .i64 10]) ∧ Below w.heap.size w w' := by
  obtain ⟨ρ, h1, h2, h3⟩ := h.ex
  obtain ⟨i, j, X, k1, k2, -⟩ := h.run.std.load smN_len
  refine mcreate_there w b ρ S h2.fs (ptrB smN u) ?_
  unfold Fs.read
  rw [k1]
  show ((S.file i).bytes, (0 : Int)) = _
  rw [k2]
/-- What a crash leaves. -/
theorem mcrash_st {F : Nat → Prop} {w0 w : World} {b mb : Nat} {S : Fs} {u : Nat} {V : Ver} {es : List Edt} {c r : Nat} (h : MSt F w0 w b mb S u V es c r) (n : Int) (tv : Value) (ts : List Int) (ht : RdV w tv (ts.map (Value.int .i64))) (htl : ts.length ≤ 1000000) : Calls Tryz.prog 17 #[.pointer (some ⟨b, 0, none⟩), .int .i64 n, tv] w (CrashOwn w (S.crash n ts)) := by
  obtain ⟨ρ, h1, h2, h3⟩ := h.ex
  have hw := h.run.std.disk.wait
  refine (crash_any w b ρ S h2.fs n tv ts ht (by omega) (by omega)).mono ?_
  rintro e w' ⟨b', ρ', rfl, g1, g2, g3⟩
  exact ⟨b', rfl, ρ', g1, g2, g3⟩
theorem mcrash_bad {F : Nat → Prop} {w0 w : World} {b mb : Nat} {S : Fs} {P : Ver → Prop} (h : BadSt F w0 w b mb S P) (n : Int) (tv : Value) (ts : List Int) (ht : RdV w tv (ts.map (Value.int .i64))) (htl : ts.length ≤ 1000000) : Calls Tryz.prog 17 #[.pointer (some ⟨b, 0, none⟩), .int .i64 n, tv] w (CrashOwn w (S.crash n ts)) := by
  obtain ⟨ρ, M, V, -, -, h2, -, -, hw, -⟩ := h
  refine (crash_any w b ρ S h2.fs n tv ts ht (by omega) (by omega)).mono ?_
  rintro e w' ⟨b', ρ', rfl, g1, g2, g3⟩
  exact ⟨b', rfl, ρ', g1, g2, g3⟩
theorem set_self {fs : List Fil} {j : Nat} {p : Fil} (h : fs[j]? = some p) : fs.set j p = fs := by
  obtain ⟨hj, rfl⟩ := List.getElem?_eq_some_iff.1 h
  exact List.set_getElem_self hj
/-- All of what was loaded is made last. -/
theorem settle_run {S : Fs} {u : Nat} {V : Ver} {es : List Edt} {c r : Nat} (h : Run smN S u V es c r) (hcr : c ≤ 20 ∧ r ≤ 20) : Out S (setF S u) (fun S' => Run smN S' u V es c r ∧ S'.now = S.now) (fun _ => True) := by
  obtain ⟨i, j, hij, hn⟩ := h.std.new
  obtain ⟨h1, h2, h3, h4⟩ := hn.now h.std.disk.ok
  have hfj := file_of h4
  refine (setF_out h.std.disk hn h2 (by omega) (by omega) ?_).mono ?_ fun _ _ => trivial
  · rintro D hD
    rw [hfj]
    simp only
    rw [set_self h4]
    exact hD
  · rintro S' ⟨d1, d2, d3⟩
    exact ⟨⟨{ h.std with disk := d1, new := ⟨i, j, hij, d2⟩ }, h.log, h.thin, h.few⟩, d3⟩
/-- The manifest of files that are all well. -/
theorem mload_st {w0 w : World} (hG : GlobM w0) {b : Nat} {S : Fs} (h : FsOwn w0 w b S) {u : Nat} {V : Ver} {es : List Edt} {c r : Nat} (hr : Run smN S u V es c r) (hf : S.fails = none) (hcr : c ≤ 20 ∧ r ≤ 20) :
    Calls Tryz.prog 18 #[.pointer (some ⟨b, 0, none⟩)] w fun e w' => ∃ (mb : Nat) (F : Nat → Prop) (S' : Fs) (V' : Ver), e = .returned (.tuple #[.pointer (some ⟨mb, 0, none⟩), .int .i64 0]) ∧ vSame V V' ∧ MSt F w0 w' b mb S' u V' es c r ∧ S'.fails = none ∧ S'.now = S.now := by
  obtain ⟨ρ, h1, h2, h3⟩ := h
  obtain ⟨i, j, X, k1, k2, k3, k4, k5, k6, k7⟩ := hr.std.load smN_len
  have hu := run_u hr
  have hlog := hr.log
  refine (mload_any hG h2 b ρ S h1 h3 u hu (by unfold Fs.read; rw [k1]; show ((S.file i).bytes, (0 : Int)) = _; rw [k2]) (logB smN es) (by unfold Fs.read; rw [k3]; show ((S.file j).bytes, (0 : Int)) = _; rw [k4]) es _ k5 hr.std.may X k6 (by omega) (Nat.le_refl _)).mono ?_
  rintro e w' ⟨mb, V', ρ', rfl, q1, q2, q3, q4, q5⟩
  have hd : decide ((logB smN es).length < (logB smN es).length) = false := decide_eq_false (Nat.lt_irrefl _)
  rw [hd] at q3
  have hh : HighP w0 ρ' mb := fun k hk => by
    rcases hk with hk | rfl
    · rcases q5 k hk with f | f
      · exact h3 k f
      · exact Nat.le_trans h2.size f
    · exact Nat.le_trans h2.size q1
  have hsm : vSame V V' := k7.symm.trans q2
  rcases settle_run hr hcr with ⟨o1, ⟨o2, o4⟩, o3⟩ | ⟨-, -, o3⟩
  · have hsM : setM S ⟨u, (logB smN es).length, false, true, false⟩ = (0, (setF S u).2, manM u es) := by
      unfold setM
      rw [if_pos rfl]
      show ((setF S u).1, (setF S u).2, (⟨u, (logB smN es).length, false, decide ((setF S u).1 ≠ 0), false⟩ : Man)) = _
      rw [o1]; rfl
    rw [hsM] at q3
    exact ⟨mb, ManP ρ' mb, _, V', rfl, hsm, ⟨⟨ρ', rfl, q3, hh⟩, h2.trans (q4.below h2.size fun k hk f => by have := h3 k f; omega), o2.same hsm⟩, o3 hf, o4⟩
  · exact absurd hf o3
/-- The manifest behind a failure. -/
theorem mload_bad {w0 w : World} (hG : GlobM w0) {b : Nat} {S : Fs} (h : FsOwn w0 w b S) {P : Ver → Prop} (hP : LoadP smN S P) :
    Calls Tryz.prog 18 #[.pointer (some ⟨b, 0, none⟩)] w fun e w' => ∃ (mb : Nat) (ρ' : Nat → Option Role) (S' : Fs) (M : Man) (V V' : Ver), e = .returned (.tuple #[.pointer (some ⟨mb, 0, none⟩), .int .i64 0]) ∧ P V ∧ vSame V V' ∧ ManAt w0.heap.size w' b mb ρ' S' M V' ∧ Below w0.heap.size w0 w' := by
  obtain ⟨ρ, h1, h2, h3⟩ := h
  obtain ⟨u, i, j, es, log, X, hu, k1, k2, k3, k4, k5, k6, k7, k8, k9⟩ := hP
  have hb := (h1.ok.file_bd j).2
  rw [k4] at hb
  refine (mload_any hG h2 b ρ S h1 h3 u hu (by unfold Fs.read; rw [k1]; show ((S.file i).bytes, (0 : Int)) = _; rw [k2]) log (by unfold Fs.read; rw [k3]; show ((S.file j).bytes, (0 : Int)) = _; rw [k4]) es _ k5 k7 X k8 hb k6).mono ?_
  rintro e w' ⟨mb, V', ρ', rfl, q1, q2, q3, q4, q5⟩
  exact ⟨mb, ρ', _, _, X, V', rfl, k9, q2, q3, h2.trans (q4.below h2.size fun k hk f => by have := h3 k f; omega)⟩
end Go.Proofs.YtcppaflnhlmcbaaGreatDoor
