/- For the law ManifestOld: what Old answers there, and what it says of each name. -/
import Derived.Test.YtmmkgopnccfiiaaGreatDoorManOldS
namespace Go.Proofs.YtmmkgopnccfiiaaGreatDoor
set_option linter.unusedVariables false
open Go.RowKit Go.Maps
/-- All names that the law can meet. -/
def namP (D : Dir) : Prop := ∀ y i, dget y D = some i → y = curN ∨ y = manN 1 ∨ (∃ m, 50 ≤ m ∧ m ≤ 91 ∧ y = tabD m) ∨ y = log7 ∨ y = stray
theorem namP.mem {D : Dir} (h : namP D) (ho : DirOk D) {x : ByteArray} (hx : x ∈ D.map (·.1)) : x = curN ∨ x = manN 1 ∨ (∃ m, 50 ≤ m ∧ m ≤ 91 ∧ x = tabD m) ∨ x = log7 ∨ x = stray := by
  obtain ⟨⟨n, i⟩, hm, rfl⟩ := List.mem_map.1 hx
  exact h n i ((dget_mem ho).2 hm)
/-- A version of the law's tables. -/
structure HasT (ds : List Nat) (lg : Int) (V : Ver) : Prop where
  nums : ∀ d ∈ ds, 50 ≤ d ∧ d ≤ 90
  tabs : ∀ f, f ∈ V.fs ↔ ∃ d ∈ ds, f = tF d
  log : V.lg = lg
theorem HasT.of {ds : List Nat} {lg : Int} {V : Ver} (hd : ∀ d ∈ ds, 50 ≤ d ∧ d ≤ 90) (h : vSame ⟨ds.map tF, 100, lg, 0⟩ V) : HasT ds lg V := by
  refine ⟨hd, fun f => ?_, h.2.2.1.symm⟩
  rw [← h.1.mem_iff]
  show f ∈ ds.map tF ↔ _
  rw [List.mem_map]
  exact ⟨fun ⟨d, h1, h2⟩ => ⟨d, h1, h2.symm⟩, fun ⟨d, h1, h2⟩ => ⟨d, h1, h2.symm⟩⟩
/-- Is a name old? -/
def oldB (V : Ver) (x : ByteArray) : Bool := !delP (needN 1 1 V.fs) V.lg x
theorem HasT.ten {ds : List Nat} {lg : Int} {V : Ver} (h : HasT ds lg V) : ∀ d ∈ ds, 10 ≤ d ∧ d < 100 := fun d hd => by
  have := h.nums d hd; omega
theorem HasT.need {ds : List Nat} {lg : Int} {V : Ver} (h : HasT ds lg V) {x : ByteArray} (hx : x = curN ∨ x = manN 1) : oldB V x = false := by
  unfold oldB; rw [del_need V.fs V.lg hx]; rfl
theorem HasT.tab {ds : List Nat} {lg : Int} {V : Ver} (h : HasT ds lg V) {m : Nat} (hm : m < 100) : oldB V (tabD m) = !decide (m ∈ ds) := by
  unfold oldB; rw [del_tab h.ten h.tabs hm]
theorem HasT.stray {ds : List Nat} {lg : Int} {V : Ver} (h : HasT ds lg V) : oldB V stray = true := by
  unfold oldB; rw [del_stray h.ten h.tabs]; rfl
theorem HasT.seven {ds : List Nat} {lg : Int} {V : Ver} (h : HasT ds lg V) : oldB V log7 = decide (7 < lg) := by
  unfold oldB; rw [del_seven h.ten h.tabs, h.log]
  by_cases k : lg ≤ 7
  · rw [decide_eq_true k, decide_eq_false (by omega)]; rfl
  · rw [decide_eq_false k, decide_eq_true (by omega)]; rfl
theorem now_pos {F : Nat → Prop} {w0 w : World} {b mb : Nat} {S : Fs} {V : Ver} {es : List Edt} {N L W : Nat} (h : MG F w0 w b mb S 1 V es N L W) : 0 < S.now.length := by
  obtain ⟨i, j, X, k1, -⟩ := h.std.load smN_len
  cases e : S.now with
  | nil => rw [e] at k1; cases k1
  | cons a l => simp
/-- What Old answers. -/
theorem mold_g {F : Nat → Prop} {w0 w : World} {b mb : Nat} {S : Fs} {V : Ver} {es : List Edt} {N L W : Nat} (hG : GlobM w0) (hE : ErrAt w0) (h : MG F w0 w b mb S 1 V es N L W) (hn : namP S.now) (hN : N ≤ 1000) :
    Calls Tryz.prog 11 #[.pointer (some ⟨mb, 0, none⟩)] w (OldTo w ((S.now.map (·.1)).filter (oldB V))) := by
  obtain ⟨ρ, rfl, h2, h3⟩ := h.ex
  have hr := std_read h.std
  have hnow := h.std.disk.now
  have hne := now_pos h
  refine old_any h2 ⟨hG.1.below h.blw, hG.2.below h.blw⟩ (hE.below h.blw) (by show (1 : Nat) ≤ _; omega) 1 (by omega) hr (ptr_num 1 (by omega)) (fun x hx hq => ?_) hne (by omega)
  rcases hn.mem h.std.disk.ok.now hx with rfl | rfl | ⟨m, m1, m2, rfl⟩ | rfl | rfl
  · exact absurd (List.mem_cons_self ..) hq
  · exact absurd (List.mem_cons_of_mem _ (List.mem_cons_self ..)) hq
  · refine ⟨by rw [tabD_size]; omega, fun e => ?_⟩
    have k := tabD_parse (show m < 100 by omega)
    rw [e] at k; cases k
  · refine ⟨by decide, fun e => ?_⟩
    rw [log7_parse] at e; cases e
  · refine ⟨by decide, fun e => ?_⟩
    have k := stray_parse
    rw [e] at k; cases k
/-- The tests of a name, as the law spells them. -/
theorem stray_l : stray.toList = [115, 116, 114, 97, 121] := by rw [Lib.toList_data]; rfl
theorem log7_l : log7.toList = [55, 46, 108, 111, 103] := by rw [Lib.toList_data]; rfl
theorem tabT_l : tabT.toList = [46, 116, 97, 98] := by rw [Lib.toList_data]; rfl
theorem list_ne {x y : ByteArray} (h : x ≠ y) : ¬ x.toList = y.toList := fun e => by
  have := bs_ne h
  rw [e, bs_refl] at this
  cases this
/-- A text is another one than that of the bytes l. -/
def NoL (x : ByteArray) (l : List UInt8) : Prop := (¬ x.toList = l) ∧ (x.toList == l) = false
theorem no_stray {x : ByteArray} (h : x ≠ stray) : NoL x [115, 116, 114, 97, 121] := by
  have h1 := list_ne h; rw [stray_l] at h1; exact ⟨h1, beq_eq_false_iff_ne.2 h1⟩
theorem no_log7 {x : ByteArray} (h : x ≠ log7) : NoL x [55, 46, 108, 111, 103] := by
  have h1 := list_ne h; rw [log7_l] at h1; exact ⟨h1, beq_eq_false_iff_ne.2 h1⟩
theorem nam_cur : NoL curN [115, 116, 114, 97, 121] ∧ NoL curN [55, 46, 108, 111, 103] ∧ curN.size = 7 := ⟨no_stray (by decide), no_log7 (by decide), rfl⟩
theorem nam_man : NoL (manN 1) [115, 116, 114, 97, 121] ∧ NoL (manN 1) [55, 46, 108, 111, 103] ∧ (manN 1).size = 5 := by
  rw [man1_is]; exact ⟨no_stray (by decide), no_log7 (by decide), rfl⟩
theorem tab_ne (m : Nat) {x : ByteArray} (hx : x.size = 5) : tabD m ≠ x := fun e => by
  have := congrArg ByteArray.size e
  rw [tabD_size, hx] at this
  exact absurd this (by decide)
theorem nam_tab (m : Nat) : NoL (tabD m) [115, 116, 114, 97, 121] ∧ NoL (tabD m) [55, 46, 108, 111, 103] ∧ (tabD m).size = 6 := ⟨no_stray (tab_ne m rfl), no_log7 (tab_ne m rfl), tabD_size m⟩
theorem nam_seven : NoL log7 [115, 116, 114, 97, 121] ∧ log7.toList = [55, 46, 108, 111, 103] ∧ log7.size = 5 := ⟨no_stray (by decide), log7_l, rfl⟩
theorem nam_stray : stray.toList = [115, 116, 114, 97, 121] ∧ stray.size = 5 := ⟨stray_l, rfl⟩
theorem tab_sl {x : ByteArray} {m : Nat} (h : x = tabD m) : (x.extract 2 6).toList = [46, 116, 97, 98] := by
  have e : x.extract 2 6 = tabT := by
    rw [h]; unfold tabD
    exact ByteArray.extract_append_eq_right rfl rfl
  rw [e, tabT_l]
/-- One name more. -/
theorem take_more {xs : List ByteArray} {p : Nat} {x : ByteArray} (hx : xs[p]? = some x) (B : ByteArray → Bool) {q : Bool} (hq : B x = q) : (xs.take (p + 1)).filter B = (xs.take p).filter B ++ (if q then [x] else []) := by
  rw [List.take_add_one, hx, Option.toList_some, List.filter_append]
  cases q <;> simp [hq]
theorem take_no {xs : List ByteArray} {p : Nat} {x : ByteArray} (hx : xs[p]? = some x) {B : ByteArray → Bool} (hq : B x = false) : (xs.take (p + 1)).filter B = (xs.take p).filter B := by
  rw [take_more hx B hq]; exact List.append_nil _
theorem take_yes {xs : List ByteArray} {p : Nat} {x : ByteArray} (hx : xs[p]? = some x) {B : ByteArray → Bool} (hq : B x = true) : (xs.take (p + 1)).filter B = (xs.take p).filter B ++ [x] := take_more hx B hq
theorem nam_len {B n : Nat} {w : World} {v : Value} {vs : List Value} (h : w.ownsRow B 9 1 v (n + 1) vs) : ∃ a cap, v = .slice a (n + 1) cap := by
  rcases h.2 with ⟨rfl, e⟩ | ⟨g, cap, cur, rfl, -⟩
  · omega
  · exact ⟨_, cap, rfl⟩
theorem str_len {w : World} {v : Value} {xs : List ByteArray} {n : Nat} (h : RdV w v (xs.map Value.string)) (hn : xs.length = n) : ∃ a cap, v = .slice a n cap := by
  rcases h with ⟨a, cap, h1, e⟩ | ⟨b, off, cap, h1, -⟩
  · have : xs = [] := by simpa using e
    subst this; exact ⟨a, cap, by rw [h1, ← hn]; rfl⟩
  · rw [List.length_map, hn] at h1; exact ⟨_, cap, h1⟩
theorem str_at {w : World} {a : Option Addr} {len cap : Nat} {xs : List ByteArray} (h : RdV w (.slice a len cap) (xs.map Value.string)) (q : Nat) (x : ByteArray) (hx : xs[q]? = some x) :
    ∃ b off, a = some ⟨b, off, none⟩ ∧ b < w.heap.size ∧ w.cell? ⟨b, off + q, none⟩ = some (.string x) := by
  have hq := (List.getElem?_eq_some_iff.1 hx).1
  rcases h with ⟨_, _, _, e⟩ | ⟨b, off, c, e, h1, h2, h3, h4, h5⟩
  · have : xs = [] := by simpa using e
    subst this; simp at hq
  · have ea := (Value.slice.inj e).1
    subst ea
    refine ⟨b, off, rfl, h4, ?_⟩
    rw [h5 q (by rw [List.length_map]; exact hq), List.getD_eq_getElem?_getD, List.getElem?_map, hx]; rfl
end Go.Proofs.YtmmkgopnccfiiaaGreatDoor
