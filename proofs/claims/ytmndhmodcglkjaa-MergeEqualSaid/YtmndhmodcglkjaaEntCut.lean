/- The walk of the laws' Cut of an entry. -/
import Derived.Test.YtmndhmodcglkjaaEntLess
import Derived.Test.YtmndhmodcglkjaaCutLaw
import Derived.Test.YtmndhmodcglkjaaEntRow
import Derived.StillTailTactics
namespace Go.Proofs.Ytmndhmodcglkjaa
set_option linter.unusedVariables false
open Go.RowKit
/-- An entry as it may come in. -/
def Ent.ok (e : Ent) : Prop := e.norm.size ≤ maxLen ∧ e.spell.size ≤ maxLen ∧ e.val.size ≤ maxLen ∧ (Lit.int .i64 e.seq).wf = true ∧ (Lit.int .i64 e.kind).wf = true
/-- What Cut leaves of an entry. -/
def CutE (e : Ent) (w : World) (en : Ending) (w' : World) : Prop := ∃ c : Ent, en = .returned c.v ∧ c.seq = e.seq ∧ c.kind = e.kind ∧ c.norm.size ≤ 30 ∧ c.spell.size ≤ 30 ∧ c.val.size ≤ 60 ∧ Below w.heap.size w w'
set_option maxHeartbeats 4000000 in
set_option maxRecDepth 100000 in
theorem ecut_raw (an : ByteArray) (aq ak : Int) (asp av : ByteArray) (h1 : an.size ≤ maxLen) (h2 : asp.size ≤ maxLen) (h3 : av.size ≤ maxLen) (w : World) :
    Calls Try.prog 15 #[.agg #[.string an, .int .i64 aq, .int .i64 ak, .string asp, .string av]] w (CutE ⟨an, aq, ak, asp, av⟩ w) := by
  have H1 : Hid (∃ t : ByteArray, t.size ≤ 30 ∧ ∀ w, Calls Try.prog 23 #[.string an, .int .i64 30] w fun e w' => e = .returned (.string t) ∧ w' = w) := Lib.hid (cut_fix an 30 (by omega) h1)
  have H2 : Hid (∃ t : ByteArray, t.size ≤ 30 ∧ ∀ w, Calls Try.prog 23 #[.string asp, .int .i64 30] w fun e w' => e = .returned (.string t) ∧ w' = w) := Lib.hid (cut_fix asp 30 (by omega) h2)
  have H3 : Hid (∃ t : ByteArray, t.size ≤ 60 ∧ ∀ w, Calls Try.prog 23 #[.string av, .int .i64 60] w fun e w' => e = .returned (.string t) ∧ w' = w) := Lib.hid (cut_fix av 60 (by omega) h3)
  obtain ⟨tn, n1, c1⟩ := H1.out
  obtain ⟨ts, n2, c2⟩ := H2.out
  obtain ⟨tv, n3, c3⟩ := H3.out
  have C1 := Lib.hid c1
  have C2 := Lib.hid c2
  have C3 := Lib.hid c3
  clear H1 H2 H3 c1 c2 c3 h1 h2 h3
  go_enter Try.func15, Try.ntmps15
  go_wp2_with fail
  obtain ⟨w2, hw2⟩ : ∃ w2, (w.alloc (.cells #[.string an, .int .i64 aq, .int .i64 ak, .string asp, .string av] 28)).alloc (.cells #[.string ⟨#[]⟩, .int .i64 0, .int .i64 0, .string ⟨#[]⟩, .string ⟨#[]⟩] 28) = w2 := ⟨_, rfl⟩
  have HR1 : Hid (Row5 w2.drew w.heap.size (.string an) (.int .i64 aq) (.int .i64 ak) (.string asp) (.string av)) := Lib.hid (by
    rw [← hw2]; exact ((Row5.new w _ _ _ _ _ _).below ((Below.refl _ _).alloc (Nat.le_refl _) _) (by simp)).drew)
  have HR2 : Hid (Row5 w2.drew (w.heap.size + 1) (.string ⟨#[]⟩) (.int .i64 0) (.int .i64 0) (.string ⟨#[]⟩) (.string ⟨#[]⟩)) := Lib.hid (by
    rw [← hw2]; have := (Row5.new (w.alloc (.cells #[.string an, .int .i64 aq, .int .i64 ak, .string asp, .string av] 28)) (.string ⟨#[]⟩) (.int .i64 0) (.int .i64 0) (.string ⟨#[]⟩) (.string ⟨#[]⟩) 28).drew; simpa using this)
  have HB : Hid (Below w.heap.size w w2.drew) := Lib.hid (by rw [← hw2]; exact (((Below.refl _ w).alloc (Nat.le_refl _) _).alloc (by simp) _).drew)
  rw [hw2]
  clear hw2
  refine wp_region_still_tail 10 (by kernel_rfl) (by kernel_rfl) ?_
  change wpStill _ _ (World.drew w2) (fun a => wpList _ _ _ _ a (World.drew w2)) _ _
  simp only [List.take_succ_cons, List.take_zero, List.drop_succ_cons, List.drop_zero]
  generalize World.drew w2 = w3 at *
  obtain ⟨⟨a0, a1, a2, a3, a4⟩, ⟨f0, f1, f2, f3, f4⟩, hs⟩ := HR1.out
  still_step
  still_step
  still_call (C1.out _)
  still_step
  still_step
  still_call (C2.out _)
  still_step
  still_step
  still_call (C3.out _)
  still_step
  refine wpStill_nil ?_
  obtain ⟨⟨b0, b1, b2, b3, b4⟩, ⟨g0, g1, g2, g3, g4⟩, hs2⟩ := HR2.out
  go_wp2
  refine bodyPost_ret (v := .agg #[.string tn, .int .i64 aq, .int .i64 ak, .string ts, .string tv]) (by simp [results, Try.results15, go_sem, b0, b1, b2, b3, b4]) rfl ⟨⟨tn, aq, ak, ts, tv⟩, rfl, rfl, rfl, n1, n2, n3, ?_⟩
  iterate 8 refine Below.setCell ?_ (by simp) _
  exact HB.out
theorem ecut_any (e : Ent) (h : e.ok) (w : World) : Calls Try.prog 15 #[e.v] w (CutE e w) := ecut_raw _ _ _ _ _ h.1 h.2.1 h.2.2.1 w
end Go.Proofs.Ytmndhmodcglkjaa
