/- A copy of bytes: the library's Clone. -/
import Derived.Test.YtmmkgopnccfiiaaGreatDoorMBase
import Derived.RegionTactic
namespace Go.Proofs.YtmmkgopnccfiiaaGreatDoor
set_option linter.unusedVariables false
open Go.RowKit
def BytesAt (w : World) (bs : List UInt8) (e : Ending) (w' : World) : Prop := ∃ v, e = .returned v ∧ OwnB w.heap.size w' v bs ∧ Below w.heap.size w w'
set_option maxHeartbeats 1000000 in
theorem bclone_any (v : Value) (bs : List UInt8) (w : World) (h : RdB w v bs) (hl : bs.length ≤ 1000000000000) : Calls Tryz.prog 47 #[v] w (BytesAt w bs) := by
  have H := Lib.hid h
  obtain ⟨a, len, cap, rfl, hlen, hcap⟩ := h.form
  cases a with
  | none =>
    have hb0 : Hid (bs = []) := Lib.hid (by
      rcases h with ⟨_, _, _, e⟩ | ⟨_, _, _, e, _⟩
      · simpa using e
      · simp at e)
    clear h hlen hcap
    have hq1 : ∀ w, (binOp .eql 51 (.slice none len cap) (.slice none 0 0)).run Tryz.prog w = .ok (.bool true) w := fun w => Lib.run_eql_slice_nil w 51 5 none len cap 0 0 Tryz.underlying51
    go_enter Tryz.func47, Tryz.ntmps47
    go_wp2
    go_ret
    rw [hb0.out]
    exact ⟨_, rfl, OwnB.nil _ _, Below.refl _ _⟩
  | some ad =>
    clear h hlen hcap
    have hq1 : ∀ w, (binOp .eql 51 (.slice (some ad) len cap) (.slice none 0 0)).run Tryz.prog w = .ok (.bool false) w := fun w => Lib.run_eql_slice_nil w 51 5 (some ad) len cap 0 0 Tryz.underlying51
    go_enter Tryz.func47, Tryz.ntmps47
    have HZ : OwnB w.heap.size (w.alloc (.cells #[] 5)) (.slice (some ⟨w.heap.size, 0, none⟩) 0 0) [] := OwnB.lit w [] #[] 0 w.heap.size rfl (by unfold maxLen; omega) rfl (Nat.le_refl _)
    have HR1 := H.out.below ((Below.refl w.heap.size w).alloc (Nat.le_refl _) (.cells #[] 5))
    go_wp2_with (at_builtin; refine wp_appSB _ _ (by rfl) (by rfl) (by rfl) HZ (by rfl) HR1 ?c1 ?c2 ?_)
    case c1 => simp; omega
    case c2 => simp
    intro v' w' h1 h2
    go_wp2_with fail
    go_ret
    refine ⟨v', rfl, ?_, ((Below.refl _ _).alloc (Nat.le_refl _) _).trans h2⟩
    exact h1
end Go.Proofs.YtmmkgopnccfiiaaGreatDoor
