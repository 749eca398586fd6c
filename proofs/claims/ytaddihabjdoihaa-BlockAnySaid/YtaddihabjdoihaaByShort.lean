/- The walk of the laws' Short: bytes that are not too many. -/
import Derived.Test.YtaddihabjdoihaaByt
import Derived.RegionTactic
import Derived.Deep.QuietTactic
import Derived.BigQuiet
namespace Go.Proofs.Ytaddihabjdoihaa
set_option linter.unusedVariables false
open Go.RowKit
def ShortRes (n : Nat) (bs : List UInt8) (w : World) (e : Ending) (w' : World) : Prop := ∃ (a : Option Addr) (len cap : Nat), e = .returned (.slice a len cap) ∧ RdB w (.slice a len cap) (bs.take n) ∧ w = w'
set_option maxHeartbeats 1000000 in
theorem short_any (a : Option Addr) (len cap : Nat) (bs : List UInt8) (n : Nat) (hn : n ≤ 1000000) (w : World) (h : RdB w (.slice a len cap) bs) :
    Calls Try.prog 18 #[.slice a len cap, .int .i64 n] w (ShortRes n bs w) := by
  obtain ⟨hl, hc⟩ : len = bs.length ∧ (0 < len → len ≤ cap ∧ cap ≤ maxLen) := by
    obtain ⟨a', l', c', e, h2, h3⟩ := h.form
    simp only [Value.slice.injEq] at e
    obtain ⟨-, rfl, rfl⟩ := e
    exact ⟨h2, h3⟩
  by_cases h1 : n < len
  · have HT := Lib.hid (h.take n (by omega))
    have hz : (n : Int) < (len : Int) := by omega
    obtain ⟨hc1, hc2⟩ := hc (by omega)
    unfold maxLen at hc2
    have hz2 : (n : Int) ≤ (cap : Int) := by omega
    have hz0 : (0 : Int) ≤ (n : Int) := by omega
    clear h hl hc
    go_enter Try.func18, Try.ntmps18
    go_wp2
    go_ret
    exact ⟨_, _, _, rfl, HT.out, rfl⟩
  · have HT : Hid (RdB w (.slice a len cap) (bs.take n)) := Lib.hid (by rw [List.take_of_length_le (by omega)]; exact h)
    have hz : ¬ (n : Int) < (len : Int) := by omega
    clear h hl hc
    go_enter Try.func18, Try.ntmps18
    go_wp2
    go_ret
    exact ⟨_, _, _, rfl, HT.out, rfl⟩
end Go.Proofs.Ytaddihabjdoihaa
