/- The walks of varint.Put and of the reference's Put: the bytes of one plain function. -/
import Derived.Test.YtpaoabdjbdlalaaByt
import Derived.Test.YtpaoabdjbdlalaaNumMath
import Derived.RegionTactic
import Derived.Deep.QuietTactic
import Derived.Deep.LoopGhost
import Derived.BigQuiet
import Derived.Laws.Bits128
namespace Go.Proofs.Ytpaoabdjbdlalaa
set_option linter.unusedVariables false
open Go.RowKit
theorem and127 (k : Nat) (hk : k < 18446744073709551616) : bits .and .u64 (k : Int) 127 = ((k % 128 : Nat) : Int) := by
  rw [show (127 : Int) = ((127 : Nat) : Int) from rfl, u64_and_nat k 127 hk (by omega), nat_mask7]
theorem put_stop {f m : Nat} {r bs : List UInt8} (h : ¬ 128 ≤ m) (H : Hid (r = bs ++ putF f m)) : ∃ x : UInt8, Hid (x.toNat = m) ∧ r = bs ++ [x] := by
  refine ⟨UInt8.ofNat m, Lib.hid (byte_of _ (by omega)), ?_⟩
  rw [H.out]
  cases f with
  | zero => rfl
  | succ f => rw [putF, if_pos (by omega)]
theorem put_more {f m : Nat} {r bs : List UInt8} (h : 128 ≤ m) (hf : m < 128 ^ (f + 1)) (H : Hid (r = bs ++ putF f m)) :
    ∃ (g : Nat) (x : UInt8), f = g + 1 ∧ Hid (x.toNat = m % 128 + 128) ∧ Hid (m / 128 < 128 ^ (g + 1)) ∧ Hid (r = (bs ++ [x]) ++ putF g (m / 128)) := by
  cases f with
  | zero => simp at hf; omega
  | succ g =>
    refine ⟨g, UInt8.ofNat (m % 128 + 128), rfl, Lib.hid (byte_of _ (by omega)), Lib.hid ?_, Lib.hid ?_⟩
    · rw [Nat.pow_succ] at hf
      exact Nat.div_lt_of_lt_mul (by rw [Nat.mul_comm]; exact hf)
    · rw [H.out, putF, if_neg (by omega)]; simp
set_option maxHeartbeats 1000000 in
theorem put_any (n : Nat) (hn : n < 2 ^ 64) (w : World) : Calls Try.prog 28 #[.int .u64 (n : Int)] w (MkB (putN n) w) := by
  obtain ⟨r, hr⟩ : ∃ r, putN n = r := ⟨_, rfl⟩
  have HR : Hid (r = [] ++ putF 9 n) := Lib.hid (by rw [← hr]; rfl)
  have HF : Hid (n < 128 ^ (9 + 1)) := Lib.hid (Nat.lt_of_lt_of_le hn p70)
  have hn2 : n < 18446744073709551616 := by omega
  rw [hr]
  clear hr hn
  go_enter Try.func28, Try.ntmps28
  go_wp2
  go_loopw [3, 0] (fun b m wr => ∃ (f k : Nat) (bs : List UInt8), m = .int .u64 (k : Int) ∧ k < 18446744073709551616 ∧ Hid (k < 128 ^ (f + 1)) ∧ OwnB w.heap.size wr b bs ∧ Below w.heap.size w wr ∧ bs.length + f = 9 ∧ Hid (r = bs ++ putF f k))
    (fun _ m _ => (intOf m).toNat)
  case atStart => exact ⟨9, n, [], rfl, hn2, HF, OwnB.nil _ _, Below.refl _ _, rfl, HR⟩
  case round =>
    obtain ⟨f, k, bs, rfl, hk, HFk, hown, hbel, hlen, HRk⟩ := hrel
    have hwr := hbel.size
    by_cases hlt : 128 ≤ k
    · obtain ⟨g, x, rfl, HX, HG, HRn⟩ := put_more hlt HFk.out HRk
      clear HRk HFk
      have hz : (127 : Int) < (k : Int) := by omega
      have h127 := and127 k hk
      have HU : Hid (Value.int .u8 (bits .or .u8 ((k : Int) % 128) 128) = bv x) := Lib.hid (by
        rw [show ((k : Int) % 128) = ((k % 128 : Nat) : Int) from rfl, u8_or128_right _ (by omega) (by omega)]
        unfold bv; rw [HX.out]; rfl)
      have hbl : bs.length ≤ 9 := by omega
      go_wp2_with (at_builtin; refine wp_app1B _ _ (by rfl) (by rfl) (by rfl) hown x _ ?c1 _ (by rfl) (by rfl) ?c2 hwr ?_)
      case c1 => exact HU.out
      case c2 => omega
      intro v' w2 hown2 hb2
      go_wp2
      go_roundw
      case rel => exact ⟨g, k / 128, _, by go_num, by omega, HG, hown2, hbel.trans hb2, by rw [List.length_append, List.length_singleton]; omega, HRn⟩
      case measure => simp [intOf]; omega
    · obtain ⟨x, HX, rfl⟩ := put_stop hlt HRk
      clear HRk HFk HR
      have hz : ¬ (127 : Int) < (k : Int) := by omega
      have HU : Hid (Value.int .u8 (k : Int) = bv x) := Lib.hid (by
        unfold bv; rw [HX.out])
      have hbl : bs.length ≤ 9 := by omega
      go_wp2_with (at_builtin; refine wp_app1B _ _ (by rfl) (by rfl) (by rfl) hown x _ ?c1 _ (by rfl) (by rfl) ?c2 hwr ?_)
      case c1 => exact HU.out
      case c2 => omega
      intro v' w2 hown2 hb2
      go_wp2
      go_ret
      exact ⟨_, rfl, hown2, hbel.trans hb2⟩
theorem fix_more {K j m : Nat} {r bs : List UInt8} (h : j < K) (H : Hid (r = bs ++ fixN (K - j) m)) : ∃ x : UInt8, Hid (x.toNat = m % 256) ∧ Hid (r = (bs ++ [x]) ++ fixN (K - (j + 1)) (m / 256)) := by
  refine ⟨UInt8.ofNat (m % 256), Lib.hid (byte_of _ (by omega)), Lib.hid ?_⟩
  rw [H.out, show K - j = (K - (j + 1)) + 1 by omega, fixN]; simp
end Go.Proofs.Ytpaoabdjbdlalaa
