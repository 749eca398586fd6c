/- The laws' begun; the walk of the law EntryOrder. -/
import Derived.Test.YtgofniepdpbciaaEntSrt
import Derived.Test.YtgofniepdpbciaaEntFind
import Derived.Test.YtgofniepdpbciaaRegTail
namespace Go.Proofs.Ytgofniepdpbciaa
set_option linter.unusedVariables false
open Go.RowKit
def entA : Ent := ⟨⟨#[107]⟩, 5, 1, ⟨#[]⟩, ⟨#[110, 101, 119]⟩⟩
def entB : Ent := ⟨⟨#[107]⟩, 3, 0, ⟨#[]⟩, ⟨#[]⟩⟩
/-- Two entries that were just laid as a row. -/
theorem rd_two (w : World) (x y : Ent) (T : TypeId) : RdK encEnt 5 (w.alloc (.cells (encEnt x ++ encEnt y).toArray T)) (.slice (some ⟨w.heap.size, 0, none⟩) 2 2) [x, y] := by
  refine .inr ⟨w.heap.size, 0, 2, rfl, by simp, Nat.le_refl _, by unfold maxLen; omega, by simp, fun i j u hu hj => ?_⟩
  unfold World.cell?
  rw [heap_alloc_new]
  obtain ⟨hi, rfl⟩ := List.getElem?_eq_some_iff.1 hu
  simp only [List.length_cons, List.length_nil] at hi
  match i, j, hi, hj with
  | 0, 0, _, _ | 0, 1, _, _ | 0, 2, _, _ | 0, 3, _, _ | 0, 4, _, _ | 1, 0, _, _ | 1, 1, _, _ | 1, 2, _, _ | 1, 3, _, _ | 1, 4, _, _ => rfl
  | 0, j + 5, _, h | 1, j + 5, _, h => omega
  | i + 2, _, h, _ => omega
theorem find_a : findE [entA, entB] ⟨#[107]⟩ 9 = some entA := by kernel_rfl
theorem find_b : findE [entA, entB] ⟨#[107]⟩ 2 = none := by kernel_rfl
theorem lt_ab : ltB entA entB = true := by decide +kernel
theorem lt_ba : ltB entB entA = false := by decide +kernel
theorem eq_ab : eqB entA entB = false := by decide +kernel
theorem srt_ab : srtB [entA, entB] = true := by decide +kernel
theorem below_via {a W b : World} (h : Below a.heap.size a W) (k : Below W.heap.size W b) : Below a.heap.size a b := h.trans (k.mono h.size)
set_option maxHeartbeats 8000000 in
set_option maxRecDepth 100000 in
theorem ebegun_any (w : World) : Calls Try.prog 7 #[] w fun e w' => e = .returned (.bool true) ∧ Below w.heap.size w w' := by
  have F1 : Hid (∀ (v : Value) (w : World), RdK encEnt 5 w v [entA, entB] → Calls Try.prog 15 #[v, .string ⟨#[107]⟩, .int .i64 9] w fun e w' => e = .returned (.tuple #[.agg #[.string ⟨#[107]⟩, .int .i64 5, .int .i64 1, .string ⟨#[]⟩, .string ⟨#[110, 101, 119]⟩], .bool true]) ∧ Below w.heap.size w w') := Lib.hid fun v w h => by
    have := find_any v [entA, entB] (by simp) srt_ab ⟨#[107]⟩ 9 w h
    rwa [find_a] at this
  have F2 : Hid (∀ (v : Value) (w : World), RdK encEnt 5 w v [entA, entB] → Calls Try.prog 15 #[v, .string ⟨#[107]⟩, .int .i64 2] w fun e w' => e = .returned (.tuple #[.agg #[.string ⟨#[]⟩, .int .i64 0, .int .i64 0, .string ⟨#[]⟩, .string ⟨#[]⟩], .bool false]) ∧ Below w.heap.size w w') := Lib.hid fun v w h => by
    have := find_any v [entA, entB] (by simp) srt_ab ⟨#[107]⟩ 2 w h
    rwa [find_b] at this
  have F3 : Hid (∀ w : World, Calls Try.prog 9 #[.agg #[.string ⟨#[107]⟩, .int .i64 5, .int .i64 1, .string ⟨#[]⟩, .string ⟨#[110, 101, 119]⟩], .agg #[.string ⟨#[107]⟩, .int .i64 3, .int .i64 0, .string ⟨#[]⟩, .string ⟨#[]⟩]] w fun e w' => e = .returned (.bool true) ∧ Below w.heap.size w w') := Lib.hid fun w => by have := less_any entA entB w; rwa [lt_ab] at this
  have F4 : Hid (∀ w : World, Calls Try.prog 9 #[.agg #[.string ⟨#[107]⟩, .int .i64 3, .int .i64 0, .string ⟨#[]⟩, .string ⟨#[]⟩], .agg #[.string ⟨#[107]⟩, .int .i64 5, .int .i64 1, .string ⟨#[]⟩, .string ⟨#[110, 101, 119]⟩]] w fun e w' => e = .returned (.bool false) ∧ Below w.heap.size w w') := Lib.hid fun w => by have := less_any entB entA w; rwa [lt_ba] at this
  have F5 : Hid (∀ w : World, Calls Try.prog 11 #[.agg #[.string ⟨#[107]⟩, .int .i64 5, .int .i64 1, .string ⟨#[]⟩, .string ⟨#[110, 101, 119]⟩], .agg #[.string ⟨#[107]⟩, .int .i64 3, .int .i64 0, .string ⟨#[]⟩, .string ⟨#[]⟩]] w fun e w' => e = .returned (.bool false) ∧ Below w.heap.size w w') := Lib.hid fun w => by have := eq_any entA entB w; rwa [eq_ab] at this
  have F6 : Hid (∀ (v : Value) (w : World), RdK encEnt 5 w v [entA, entB] → Calls Try.prog 17 #[v] w fun e w' => e = .returned (.bool true) ∧ Below w.heap.size w w') := Lib.hid fun v w h => by
    have := sorted_any v [entA, entB] (by simp) w h
    rwa [srt_ab] at this
  go_enter Try.func7, Try.ntmps7
  go_wp2_with fail
  obtain ⟨w1, hw1⟩ : ∃ w1, ((w.alloc (.cells #[.string ⟨#[107]⟩, .int .i64 5, .int .i64 1, .string ⟨#[]⟩, .string ⟨#[110, 101, 119]⟩] 23)).alloc (.cells #[.string ⟨#[107]⟩, .int .i64 3, .int .i64 0, .string ⟨#[]⟩, .string ⟨#[]⟩] 23)).alloc (.cells #[.string ⟨#[107]⟩, .int .i64 5, .int .i64 1, .string ⟨#[]⟩, .string ⟨#[110, 101, 119]⟩, .string ⟨#[107]⟩, .int .i64 3, .int .i64 0, .string ⟨#[]⟩, .string ⟨#[]⟩] 23) = w1 := ⟨_, rfl⟩
  have H1 : Hid (Below w.heap.size w w1 ∧ Row5 w1 w.heap.size (.string ⟨#[107]⟩) (.int .i64 5) (.int .i64 1) (.string ⟨#[]⟩) (.string ⟨#[110, 101, 119]⟩) ∧ Row5 w1 (w.heap.size + 1) (.string ⟨#[107]⟩) (.int .i64 3) (.int .i64 0) (.string ⟨#[]⟩) (.string ⟨#[]⟩) ∧ RdK encEnt 5 w1 (.slice (some ⟨w.heap.size + 1 + 1, 0, none⟩) 2 2) [entA, entB]) := Lib.hid (by
    rw [← hw1]
    have a1 := Row5.new w (.string ⟨#[107]⟩) (.int .i64 5) (.int .i64 1) (.string ⟨#[]⟩) (.string ⟨#[110, 101, 119]⟩) 23
    have a2 := Row5.new (w.alloc (.cells #[.string ⟨#[107]⟩, .int .i64 5, .int .i64 1, .string ⟨#[]⟩, .string ⟨#[110, 101, 119]⟩] 23)) (.string ⟨#[107]⟩) (.int .i64 3) (.int .i64 0) (.string ⟨#[]⟩) (.string ⟨#[]⟩) 23
    have b2 := (Below.refl _ (w.alloc (.cells #[.string ⟨#[107]⟩, .int .i64 5, .int .i64 1, .string ⟨#[]⟩, .string ⟨#[110, 101, 119]⟩] 23))).alloc (Nat.le_refl _) (.cells #[.string ⟨#[107]⟩, .int .i64 3, .int .i64 0, .string ⟨#[]⟩, .string ⟨#[]⟩] 23)
    have b3 := (Below.refl _ ((w.alloc (.cells #[.string ⟨#[107]⟩, .int .i64 5, .int .i64 1, .string ⟨#[]⟩, .string ⟨#[110, 101, 119]⟩] 23)).alloc (.cells #[.string ⟨#[107]⟩, .int .i64 3, .int .i64 0, .string ⟨#[]⟩, .string ⟨#[]⟩] 23))).alloc (Nat.le_refl _) (.cells #[.string ⟨#[107]⟩, .int .i64 5, .int .i64 1, .string ⟨#[]⟩, .string ⟨#[110, 101, 119]⟩, .string ⟨#[107]⟩, .int .i64 3, .int .i64 0, .string ⟨#[]⟩, .string ⟨#[]⟩] 23)
    refine ⟨(((Below.refl _ w).alloc (Nat.le_refl _) _).alloc (by simp) _).alloc (by simp; omega) _, (a1.below b2 (by simp)).below b3 (by simp; omega), ?_, ?_⟩
    · have := a2.below b3 (by simp)
      simpa using this
    · have := rd_two ((w.alloc (.cells #[.string ⟨#[107]⟩, .int .i64 5, .int .i64 1, .string ⟨#[]⟩, .string ⟨#[110, 101, 119]⟩] 23)).alloc (.cells #[.string ⟨#[107]⟩, .int .i64 3, .int .i64 0, .string ⟨#[]⟩, .string ⟨#[]⟩] 23)) entA entB 23
      simp only [World.size_alloc] at this
      exact this)
  rw [hw1]
  clear hw1
  refine (F1.out _ _ H1.out.2.2.2).mono ?_
  rintro e w2 ⟨rfl, hb⟩
  have H2 : Hid (Below w.heap.size w w2 ∧ Row5 w2 w.heap.size (.string ⟨#[107]⟩) (.int .i64 5) (.int .i64 1) (.string ⟨#[]⟩) (.string ⟨#[110, 101, 119]⟩) ∧ Row5 w2 (w.heap.size + 1) (.string ⟨#[107]⟩) (.int .i64 3) (.int .i64 0) (.string ⟨#[]⟩) (.string ⟨#[]⟩)) := Lib.hid ⟨H1.out.1.trans (hb.mono H1.out.1.size), H1.out.2.1.below hb H1.out.2.1.2.2, H1.out.2.2.1.below hb H1.out.2.2.1.2.2⟩
  clear hb H1
  obtain ⟨-, ⟨⟨a0, a1, a2, a3, a4⟩, -, ha⟩, ⟨⟨b0, b1, b2, b3, b4⟩, -, hb⟩⟩ := id H2.out
  go_wp2_with fail
  have hE2 := Row5.new w2 (.string ⟨#[107]⟩) (.int .i64 5) (.int .i64 1) (.string ⟨#[]⟩) (.string ⟨#[110, 101, 119]⟩) 23
  have rdE : RdK encEnt 5 ((w2.alloc (.cells #[.string ⟨#[107]⟩, .int .i64 5, .int .i64 1, .string ⟨#[]⟩, .string ⟨#[110, 101, 119]⟩] 23)).alloc (.cells #[.string ⟨#[107]⟩, .int .i64 5, .int .i64 1, .string ⟨#[]⟩, .string ⟨#[110, 101, 119]⟩, .string ⟨#[107]⟩, .int .i64 3, .int .i64 0, .string ⟨#[]⟩, .string ⟨#[]⟩] 23)) (.slice (some ⟨w2.heap.size + 1, 0, none⟩) 2 2) [entA, entB] := by
    have := rd_two (w2.alloc (.cells #[.string ⟨#[107]⟩, .int .i64 5, .int .i64 1, .string ⟨#[]⟩, .string ⟨#[110, 101, 119]⟩] 23)) entA entB 23
    simp only [World.size_alloc] at this
    exact this
  refine (F2.out _ _ rdE).mono ?_
  rintro e w3 ⟨rfl, hb'⟩
  have hW1 := (Below.refl _ w2).alloc (Nat.le_refl _) (.cells #[.string ⟨#[107]⟩, .int .i64 5, .int .i64 1, .string ⟨#[]⟩, .string ⟨#[110, 101, 119]⟩] 23)
  have hW2 := (Below.refl _ (w2.alloc (.cells #[.string ⟨#[107]⟩, .int .i64 5, .int .i64 1, .string ⟨#[]⟩, .string ⟨#[110, 101, 119]⟩] 23))).alloc (Nat.le_refl _) (.cells #[.string ⟨#[107]⟩, .int .i64 5, .int .i64 1, .string ⟨#[]⟩, .string ⟨#[110, 101, 119]⟩, .string ⟨#[107]⟩, .int .i64 3, .int .i64 0, .string ⟨#[]⟩, .string ⟨#[]⟩] 23)
  have hbe := below_via hW2 hb'
  have hbb := below_via hW1 hbe
  have H3 : Hid (Below w.heap.size w w3 ∧ Row5 w3 w.heap.size (.string ⟨#[107]⟩) (.int .i64 5) (.int .i64 1) (.string ⟨#[]⟩) (.string ⟨#[110, 101, 119]⟩) ∧ Row5 w3 (w.heap.size + 1) (.string ⟨#[107]⟩) (.int .i64 3) (.int .i64 0) (.string ⟨#[]⟩) (.string ⟨#[]⟩) ∧ Row5 w3 w2.heap.size (.string ⟨#[107]⟩) (.int .i64 5) (.int .i64 1) (.string ⟨#[]⟩) (.string ⟨#[110, 101, 119]⟩)) := Lib.hid ⟨H2.out.1.trans (hbb.mono H2.out.1.size), H2.out.2.1.below hbb H2.out.2.1.2.2, H2.out.2.2.below hbb H2.out.2.2.2.2, hE2.below hbe (by simp)⟩
  clear hb' hbb hbe hW1 hW2 hE2 rdE H2 a0 a1 a2 a3 a4 ha b0 b1 b2 b3 b4 hb
  obtain ⟨-, ⟨⟨a0, a1, a2, a3, a4⟩, -, ha⟩, ⟨⟨b0, b1, b2, b3, b4⟩, -, hb⟩, ⟨⟨e0, e1, e2, e3, e4⟩, -, he⟩⟩ := id H3.out
  go_wp2_with fail
  refine (F3.out _).mono ?_
  rintro e w4 ⟨rfl, hb'⟩
  have hbb := below_via ((Below.refl _ w3).alloc (Nat.le_refl _) _) hb'
  have H4 : Hid (Below w.heap.size w w4 ∧ Row5 w4 w.heap.size (.string ⟨#[107]⟩) (.int .i64 5) (.int .i64 1) (.string ⟨#[]⟩) (.string ⟨#[110, 101, 119]⟩) ∧ Row5 w4 (w.heap.size + 1) (.string ⟨#[107]⟩) (.int .i64 3) (.int .i64 0) (.string ⟨#[]⟩) (.string ⟨#[]⟩) ∧ Row5 w4 w2.heap.size (.string ⟨#[107]⟩) (.int .i64 5) (.int .i64 1) (.string ⟨#[]⟩) (.string ⟨#[110, 101, 119]⟩)) := Lib.hid ⟨H3.out.1.trans (hbb.mono H3.out.1.size), H3.out.2.1.below hbb H3.out.2.1.2.2, H3.out.2.2.1.below hbb H3.out.2.2.1.2.2, H3.out.2.2.2.below hbb H3.out.2.2.2.2.2⟩
  clear hb' hbb H3 a0 a1 a2 a3 a4 ha b0 b1 b2 b3 b4 hb e0 e1 e2 e3 e4 he
  obtain ⟨-, ⟨⟨a0, a1, a2, a3, a4⟩, -, ha⟩, ⟨⟨b0, b1, b2, b3, b4⟩, -, hb⟩, ⟨⟨e0, e1, e2, e3, e4⟩, -, he⟩⟩ := id H4.out
  go_wp2_with fail
  refine (F4.out _).mono ?_
  rintro e w5 ⟨rfl, hb'⟩
  have hbb := below_via (Below.refl _ w4) hb'
  have H5 : Hid (Below w.heap.size w w5 ∧ Row5 w5 w.heap.size (.string ⟨#[107]⟩) (.int .i64 5) (.int .i64 1) (.string ⟨#[]⟩) (.string ⟨#[110, 101, 119]⟩) ∧ Row5 w5 (w.heap.size + 1) (.string ⟨#[107]⟩) (.int .i64 3) (.int .i64 0) (.string ⟨#[]⟩) (.string ⟨#[]⟩) ∧ Row5 w5 w2.heap.size (.string ⟨#[107]⟩) (.int .i64 5) (.int .i64 1) (.string ⟨#[]⟩) (.string ⟨#[110, 101, 119]⟩)) := Lib.hid ⟨H4.out.1.trans (hbb.mono H4.out.1.size), H4.out.2.1.below hbb H4.out.2.1.2.2, H4.out.2.2.1.below hbb H4.out.2.2.1.2.2, H4.out.2.2.2.below hbb H4.out.2.2.2.2.2⟩
  clear hb' hbb H4 a0 a1 a2 a3 a4 ha b0 b1 b2 b3 b4 hb e0 e1 e2 e3 e4 he
  obtain ⟨-, ⟨⟨a0, a1, a2, a3, a4⟩, -, ha⟩, ⟨⟨b0, b1, b2, b3, b4⟩, -, hb⟩, ⟨⟨e0, e1, e2, e3, e4⟩, -, he⟩⟩ := id H5.out
  go_wp2_with fail
  refine (F5.out _).mono ?_
  rintro e w6 ⟨rfl, hb'⟩
  have hbb := below_via (Below.refl _ w5) hb'
  have H6 : Hid (Below w.heap.size w w6 ∧ Row5 w6 w.heap.size (.string ⟨#[107]⟩) (.int .i64 5) (.int .i64 1) (.string ⟨#[]⟩) (.string ⟨#[110, 101, 119]⟩) ∧ Row5 w6 (w.heap.size + 1) (.string ⟨#[107]⟩) (.int .i64 3) (.int .i64 0) (.string ⟨#[]⟩) (.string ⟨#[]⟩) ∧ Row5 w6 w2.heap.size (.string ⟨#[107]⟩) (.int .i64 5) (.int .i64 1) (.string ⟨#[]⟩) (.string ⟨#[110, 101, 119]⟩)) := Lib.hid ⟨H5.out.1.trans (hbb.mono H5.out.1.size), H5.out.2.1.below hbb H5.out.2.1.2.2, H5.out.2.2.1.below hbb H5.out.2.2.1.2.2, H5.out.2.2.2.below hbb H5.out.2.2.2.2.2⟩
  clear hb' hbb H5 a0 a1 a2 a3 a4 ha b0 b1 b2 b3 b4 hb e0 e1 e2 e3 e4 he
  obtain ⟨-, ⟨⟨a0, a1, a2, a3, a4⟩, -, ha⟩, ⟨⟨b0, b1, b2, b3, b4⟩, -, hb⟩, ⟨⟨e0, e1, e2, e3, e4⟩, -, he⟩⟩ := id H6.out
  go_wp2_with fail
  have rdE : RdK encEnt 5 (w6.alloc (.cells #[.string ⟨#[107]⟩, .int .i64 5, .int .i64 1, .string ⟨#[]⟩, .string ⟨#[110, 101, 119]⟩, .string ⟨#[107]⟩, .int .i64 3, .int .i64 0, .string ⟨#[]⟩, .string ⟨#[]⟩] 23)) (.slice (some ⟨w6.heap.size, 0, none⟩) 2 2) [entA, entB] := rd_two w6 entA entB 23
  refine (F6.out _ _ rdE).mono ?_
  rintro e w7 ⟨rfl, hb'⟩
  have hbb := below_via ((Below.refl _ w6).alloc (Nat.le_refl _) _) hb'
  have H7 : Hid (Below w.heap.size w w7 ∧ Row5 w7 w.heap.size (.string ⟨#[107]⟩) (.int .i64 5) (.int .i64 1) (.string ⟨#[]⟩) (.string ⟨#[110, 101, 119]⟩) ∧ Row5 w7 (w.heap.size + 1) (.string ⟨#[107]⟩) (.int .i64 3) (.int .i64 0) (.string ⟨#[]⟩) (.string ⟨#[]⟩) ∧ Row5 w7 w2.heap.size (.string ⟨#[107]⟩) (.int .i64 5) (.int .i64 1) (.string ⟨#[]⟩) (.string ⟨#[110, 101, 119]⟩)) := Lib.hid ⟨H6.out.1.trans (hbb.mono H6.out.1.size), H6.out.2.1.below hbb H6.out.2.1.2.2, H6.out.2.2.1.below hbb H6.out.2.2.1.2.2, H6.out.2.2.2.below hbb H6.out.2.2.2.2.2⟩
  clear hb' hbb H6 a0 a1 a2 a3 a4 ha b0 b1 b2 b3 b4 hb e0 e1 e2 e3 e4 he rdE
  obtain ⟨-, ⟨⟨a0, a1, a2, a3, a4⟩, -, ha⟩, ⟨⟨b0, b1, b2, b3, b4⟩, -, hb⟩, ⟨⟨e0, e1, e2, e3, e4⟩, -, he⟩⟩ := id H7.out
  go_wp2_with fail
  go_ret
  exact ⟨rfl, H7.out.1⟩
end Go.Proofs.Ytgofniepdpbciaa
