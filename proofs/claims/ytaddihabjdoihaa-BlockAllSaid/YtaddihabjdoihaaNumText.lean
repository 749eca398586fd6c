/- The walks of varint.Put32, Put64, Get32, Get64, Text, GetText and of the reference's Text8, GetText. -/
import Derived.Test.YtaddihabjdoihaaNumFix
import Derived.Test.YtaddihabjdoihaaNumRGet
namespace Go.Proofs.Ytaddihabjdoihaa
set_option linter.unusedVariables false
open Go.RowKit
set_option maxHeartbeats 400000 in
theorem put32_any (n : Nat) (hn : n < 2 ^ 32) (w : World) : Calls Try.prog 37 #[.int .u32 (n : Int)] w (MkB (fixN 4 n) w) := by
  have HF : Hid (∀ w, Calls Try.prog 40 #[.int .u64 (n : Int), .int .i64 4] w (MkB (fixN 4 n) w)) := Lib.hid (putFixed_any n (by omega) 4 (by omega))
  have hn2 : n < 4294967296 := by omega
  go_enter Try.func37, Try.ntmps37
  go_wp2_with fail
  refine (HF.out _).mono ?_
  rintro e w' ⟨v, rfl, h1, h2⟩
  go_wp2
  go_ret
  exact ⟨_, rfl, h1, h2⟩
theorem unfN_lt : ∀ l : List UInt8, unfN l < 256 ^ l.length
  | [] => by simp [unfN]
  | b :: r => by
    have h1 := unfN_lt r
    have h2 : b.toNat < 256 := b.toNat_lt
    rw [unfN, List.length_cons, Nat.pow_succ]
    omega
theorem unfK_lt4 (l : List UInt8) : unfK 4 l < 4294967296 := by
  unfold unfK
  split
  · have := unfN_lt (l.take 4)
    rw [List.length_take, Nat.min_eq_left (by assumption)] at this
    exact this
  · omega
set_option maxHeartbeats 400000 in
theorem get32_any (v : Value) (l : List UInt8) (w : World) (h : RdB w v l) :
    Calls Try.prog 38 #[v] w fun e w' => e = .returned (.int .u32 (unfK 4 l : Int)) ∧ w = w' := by
  have HF : Hid (Calls Try.prog 41 #[v, .int .i64 4] w fun e w' => e = .returned (.int .u64 (unfK 4 l : Int)) ∧ w = w') := Lib.hid (getFixed_any v l 4 (by omega) (by omega) w h)
  have hb := unfK_lt4 l
  clear h
  go_enter Try.func38, Try.ntmps38
  go_wp2_with fail
  refine HF.out.mono ?_
  rintro e w' ⟨rfl, rfl⟩
  go_wp2
  go_ret
  exact ⟨rfl, rfl⟩
def txtRes (r : Option (List UInt8 × Nat)) : Value := match r with
  | none => .tuple #[.string ⟨#[]⟩, .int .i64 0]
  | some (s, k) => .tuple #[.string ⟨s.toArray⟩, .int .i64 (k : Int)]
def TxtRes (r : Option (List UInt8 × Nat)) (w : World) (e : Ending) (w' : World) : Prop := e = .returned (txtRes r) ∧ w = w'
/-- 'string(b[k:k+n])' -/
theorem cut_conv {w : World} {b off cap : Nat} {l : List UInt8} (h : RdB w (.slice (some ⟨b, off, none⟩) l.length cap) l) (k n : Nat) (hk : k ≤ l.length) (hn : n ≤ l.length - k) :
    (convert 33 9 (.slice (if cap = k then some ⟨b, off, none⟩ else some ⟨b, off + k, none⟩) n (cap - k))).run Try.prog w = .ok (.string ⟨((l.drop k).take n).toArray⟩) w := by
  have H := (RdB.mid h k (k + n) (by omega) (by omega)).text
  rw [List.drop_take, Nat.add_sub_cancel_left] at H
  rw [show (if cap = k then some ⟨b, off, none⟩ else some ⟨b, off + k, none⟩ : Option Addr) = if cap = k then some ⟨b, off, none⟩ else (some (⟨b, off, none⟩ : Addr)).map (·.add k) by simp [add_at]]
  exact H
end Go.Proofs.Ytaddihabjdoihaa
