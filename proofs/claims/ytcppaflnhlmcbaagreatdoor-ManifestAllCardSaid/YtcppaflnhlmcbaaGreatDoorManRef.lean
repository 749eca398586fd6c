/- The document's version beside a manifest of the law's own. -/
import Derived.Test.YtcppaflnhlmcbaaGreatDoorManBgn
import Derived.Test.YtcppaflnhlmcbaaGreatDoorManOpen
import Derived.Test.YtcppaflnhlmcbaaGreatDoorMVerR
namespace Go.Proofs.YtcppaflnhlmcbaaGreatDoor
set_option linter.unusedVariables false
open Go.RowKit Go.Maps
/-- The document's version, beside the blocks F. -/
structure RefO (F : Nat → Prop) (B : Nat) (w : World) (c : Nat) (W : Ver) : Prop where
  blk : ∃ fv : Value, BlkAt w c #[fv, .int .i64 W.nx, .int .i64 W.lg, .int .i64 W.ls] 36 ∧ OwnK encTbf 5 54 B w fv W.fs ∧ ∀ k, fv.ownBlock = some k → ¬ F k
  out : ¬ F c
  good : GoodV W
theorem RefO.at {F : Nat → Prop} {B : Nat} {w : World} {c : Nat} {W : Ver} (h : RefO F B w c W) : RefAt B w c W := by
  obtain ⟨⟨fv, h1, h2, -⟩, -, h3⟩ := h
  exact ⟨⟨fv, h1, h2⟩, h3⟩
theorem RefO.lt {F : Nat → Prop} {B : Nat} {w : World} {c : Nat} {W : Ver} (h : RefO F B w c W) : c < w.heap.size := h.at.lt
theorem RefO.below {F : Nat → Prop} {B : Nat} {w w' : World} {c : Nat} {W : Ver} (h : RefO F B w c W) (hb : Below w.heap.size w w') : RefO F B w' c W := by
  obtain ⟨⟨fv, h1, h2, h4⟩, h5, h3⟩ := h
  exact ⟨⟨fv, h1.below hb, h2.below hb, h4⟩, h5, h3⟩
theorem RefO.step {F F' : Nat → Prop} {B : Nat} {w w' : World} {c : Nat} {W : Ver} (h : RefO F B w c W) (s : Step F F' w w') : RefO F' B w' c W := by
  obtain ⟨⟨fv, h1, h2, h4⟩, h5, h3⟩ := h
  refine ⟨⟨fv, (s.keep h1.lt h5).2.trans h1, row_same h2 fun k hk => (s.keep (row_lt h2 k hk) (h4 k hk)).2, fun k hk => (s.keep (row_lt h2 k hk) (h4 k hk)).1⟩, (s.keep h1.lt h5).1, h3⟩
/-- A manifest of other files: all lies beside it. -/
theorem RefO.other {F F' : Nat → Prop} {B : Nat} {w w' : World} {c : Nat} {W : Ver} (h : RefO F B w c W) (hb : Below w.heap.size w w') (hF : ∀ k, F' k → w.heap.size ≤ k) : RefO F' B w' c W := by
  obtain ⟨⟨fv, h1, h2, h4⟩, h5, h3⟩ := h
  exact ⟨⟨fv, h1.below hb, h2.below hb, fun k hk f => by have := row_lt h2 k hk; have := hF k f; omega⟩, fun f => by have := h1.lt; have := hF c f; omega, h3⟩
/-- What the reference's Apply leaves. -/
theorem RefO.apply {F : Nat → Prop} {B : Nat} {w w' : World} {c : Nat} {W : Ver} {x : Edt} {e : Ending} (h : RefO F B w c W) (hF : ∀ k, F k → k < w.heap.size) (hB : B ≤ w.heap.size) (hr : RApN B w c W x e w') : (applyV W x = none → e = .returned (.int .i64 12) ∧ RefO F B w' c W ∧ Below w.heap.size w w') ∧ (∀ n, applyV W x = some n → e = .returned (.int .i64 0) ∧ RefO F B w' c n) ∧ UpdF (fun k => k = c) w w' := by
  obtain ⟨cd, V', rfl, h1, h2, h3, h4⟩ := hr
  refine ⟨fun hn => ?_, fun n hn => ?_, h2⟩
  · obtain ⟨rfl, rfl, hb⟩ := h3 hn
    exact ⟨rfl, h.below hb, hb⟩
  · obtain ⟨rfl, rfl, hr⟩ := h4 n hn
    obtain ⟨⟨fv, q1, q2⟩, q3⟩ := hr
    refine ⟨rfl, ⟨⟨fv, q1, q2.base hB, fun k hk f => ?_⟩, h.out, q3⟩⟩
    have h5 := hF k f
    rcases q2.blk with ⟨e, -⟩ | ⟨g', cap, cur, e, e2, -⟩
    · rw [e] at hk; simp [Value.ownBlock] at hk
    · rw [e] at hk; simp only [Value.ownBlock, Option.some.injEq] at hk; omega
theorem run_pos {S : Fs} {u : Nat} {V : Ver} {es : List Edt} {c r : Nat} (h : Run smN S u V es c r) : 0 < (logB smN es).length := by
  obtain ⟨X, h1, -⟩ := h.std.man
  have hne : es ≠ [] := fun e => by rw [e] at h1; cases h1
  have h2 := all_len (sm := smN) smN_len (es.map edtB) 0
  rw [List.length_map] at h2
  have h3 := List.length_pos_iff.2 hne
  show 0 < (layAll smN 0 (es.map edtB)).length
  omega
/-- A manifest is not written where one block of the law's own is. -/
theorem MSt.upd {F G : Nat → Prop} {w0 w w' : World} {b mb : Nat} {S : Fs} {u : Nat} {V : Ver} {es : List Edt} {c r : Nat} (h : MSt F w0 w b mb S u V es c r) (hu : UpdF G w w') (hG : ∀ k, G k → w0.heap.size ≤ k) (hd : ∀ k, G k → ¬ F k) {k : Nat} {vs : Array Value} {t : TypeId} (hk : ∀ i, G i → i = k) (hb : BlkAt w k vs t) (ht : t ≠ 54) : MSt F w0 w' b mb S u V es c r := by
  obtain ⟨ρ, rfl, h2, h3⟩ := h.ex
  obtain ⟨tv, n0, q1, q2, q3⟩ := h2.blk
  have hu1 : UpdF (fun j => j = k) w w' := hu.mono fun i _ g => hk i g
  refine ⟨⟨ρ, rfl, ⟨h2.fs.upd hu fun i hi => ?_, h2.out, tv, n0, (hu.block mb h2.lt fun g => hd mb g (.inr rfl)).trans q1, q2.aside hu1 hb ht, q3⟩, h3⟩, h.blw.trans (hu.below h.blw.size fun i hi g => by have := hG i g; omega), h.run⟩
  cases e : ρ i with
  | none => rfl
  | some r => exact absurd (Or.inl (by rw [e]; simp)) (hd i hi)
end Go.Proofs.YtcppaflnhlmcbaaGreatDoor
