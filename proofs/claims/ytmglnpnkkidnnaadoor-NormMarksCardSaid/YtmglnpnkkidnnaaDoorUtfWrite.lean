/- The walks of utf.tail, utf.appendChar, utf.Write and of the reference's Write. -/
import Derived.Test.YtmglnpnkkidnnaaDoorUtfRead
namespace Go.Proofs.YtmglnpnkkidnnaaDoor
set_option linter.unusedVariables false
open Go.RowKit
set_option maxHeartbeats 400000 in
theorem tail0 (c : Int) (h0 : 0 ≤ c) (h1 : c ≤ 1114111) (w : World) :
    Calls Tryd.prog 59 #[.int .i64 c, .int .i64 0] w fun e w' => e = .returned (.int .u8 (128 + c % 64)) ∧ w = w' := by
  go_enter Tryd.func59, Tryd.ntmps59
  go_wp2
  go_ret
  exact ⟨rfl, rfl⟩
set_option maxHeartbeats 400000 in
theorem tail1 (c : Int) (h0 : 0 ≤ c) (h1 : c ≤ 1114111) (w : World) :
    Calls Tryd.prog 59 #[.int .i64 c, .int .i64 1] w fun e w' => e = .returned (.int .u8 (128 + c / 64 % 64)) ∧ w = w' := by
  go_enter Tryd.func59, Tryd.ntmps59
  go_wp2
  go_ret
  exact ⟨rfl, rfl⟩
set_option maxHeartbeats 400000 in
theorem tail2 (c : Int) (h0 : 0 ≤ c) (h1 : c ≤ 1114111) (w : World) :
    Calls Tryd.prog 59 #[.int .i64 c, .int .i64 2] w fun e w' => e = .returned (.int .u8 (128 + c / 4096 % 64)) ∧ w = w' := by
  go_enter Tryd.func59, Tryd.ntmps59
  go_wp2
  go_ret
  exact ⟨rfl, rfl⟩

def bv (b : UInt8) : Value := .int .u8 (b.toNat : Int)
theorem bv_of (n : Int) (h0 : 0 ≤ n) (h1 : n < 256) : bv (UInt8.ofNat n.toNat) = .int .u8 n := by
  unfold bv; rw [byte_of _ (by omega)]; congr 1; omega
theorem enc1 (c : Int) (h0 : 0 ≤ c) (h : c < 128) : (encP c).map bv = [.int .u8 c] := by
  unfold encP; simp only [if_pos h, List.map_cons, List.map_nil]; rw [bv_of c h0 (by omega)]
theorem enc2 (c : Int) (h1 : 128 ≤ c) (h : c < 2048) : (encP c).map bv = [.int .u8 (192 + c / 64), .int .u8 (128 + c % 64)] := by
  unfold encP; simp only [if_neg (show ¬ c < 128 by omega), if_pos h, List.map_cons, List.map_nil]; rw [bv_of _ (by omega) (by omega), bv_of _ (by omega) (by omega)]
theorem enc3 (c : Int) (h1 : 2048 ≤ c) (h : c < 65536) : (encP c).map bv = [.int .u8 (224 + c / 4096), .int .u8 (128 + c / 64 % 64), .int .u8 (128 + c % 64)] := by
  unfold encP; simp only [if_neg (show ¬ c < 128 by omega), if_neg (show ¬ c < 2048 by omega), if_pos h, List.map_cons, List.map_nil]; rw [bv_of _ (by omega) (by omega), bv_of _ (by omega) (by omega), bv_of _ (by omega) (by omega)]
theorem enc4 (c : Int) (h1 : 65536 ≤ c) (h : c ≤ 1114111) : (encP c).map bv = [.int .u8 (240 + c / 262144), .int .u8 (128 + c / 4096 % 64), .int .u8 (128 + c / 64 % 64), .int .u8 (128 + c % 64)] := by
  unfold encP; simp only [if_neg (show ¬ c < 128 by omega), if_neg (show ¬ c < 2048 by omega), if_neg (show ¬ c < 65536 by omega), List.map_cons, List.map_nil]; rw [bv_of _ (by omega) (by omega), bv_of _ (by omega) (by omega), bv_of _ (by omega) (by omega), bv_of _ (by omega) (by omega)]
theorem elem_u8 : ElemOk Tryd.prog 36 5 1 (.int .u8 0) := ⟨Tryd.underlying36, by kernel_rfl, rfl⟩
theorem one_cells (k : IntKind) (l : List Int) : ∀ u ∈ l.map (Value.int k), u.oneCell' = true := by
  intro u hu; obtain ⟨x, -, rfl⟩ := List.mem_map.1 hu; rfl

def AppRes (B : Nat) (w : World) (bs : List UInt8) (e : Ending) (w' : World) : Prop := ∃ v', e = .returned v' ∧ OwnV 5 B w' v' (bs.map bv) ∧ Below B w w'

set_option maxHeartbeats 400000 in
set_option maxRecDepth 100000 in
theorem appendChar_any (c : Int) (h0 : 0 ≤ c) (h1 : c ≤ 1114111) (v : Value) (bs : List UInt8) (hl : bs.length ≤ 1000000) (B : Nat) (w : World) (hB : B ≤ w.heap.size) (hown : OwnV 5 B w v (bs.map bv)) :
    Calls Tryd.prog 46 #[v, .int .i64 c] w (AppRes B w (bs ++ encP c)) := by
  have HT0 : Hid (∀ w, Calls Tryd.prog 59 #[.int .i64 c, .int .i64 0] w fun e w' => e = .returned (.int .u8 (128 + c % 64)) ∧ w = w') := Lib.hid (tail0 c h0 h1)
  have HT1 : Hid (∀ w, Calls Tryd.prog 59 #[.int .i64 c, .int .i64 1] w fun e w' => e = .returned (.int .u8 (128 + c / 64 % 64)) ∧ w = w') := Lib.hid (tail1 c h0 h1)
  have HT2 : Hid (∀ w, Calls Tryd.prog 59 #[.int .i64 c, .int .i64 2] w fun e w' => e = .returned (.int .u8 (128 + c / 4096 % 64)) ∧ w = w') := Lib.hid (tail2 c h0 h1)
  have hlen : (bs.map bv).length = bs.length := List.length_map _
  by_cases k1 : c < 128
  · have HZ : Hid (∀ w, Calls Tryd.prog 58 #[.int .i64 c] w fun e w' => e = .returned (.int .i64 1) ∧ w = w') := Lib.hid fun w => by have := size_any c w; unfold szI at this; rw [if_pos k1] at this; exact this
    have HE := Lib.hid (enc1 c h0 k1)
    go_enter Tryd.func46, Tryd.ntmps46
    go_wp2_with (first | (go_at_call 58; refine (HZ.out _).mono ?_; rintro e w' ⟨rfl, rfl⟩) | (at_builtin; refine wp_app elem_u8 _ _ (by rfl) (by rfl) (by rfl) hown [_] 1 rfl (by rfl) ?c1 ?c2 ?c3 hB (by decide) ?_))
    case c1 => exact one_cells .u8 [_]
    case c2 => simp; omega
    case c3 => simp [maxLen]; omega
    intro v' w2 hown2 hbel2 hnn
    go_wp2
    go_ret
    exact ⟨_, rfl, by rw [List.map_append, HE.out]; exact hown2, hbel2⟩
  · by_cases k2 : c < 2048
    · have HZ : Hid (∀ w, Calls Tryd.prog 58 #[.int .i64 c] w fun e w' => e = .returned (.int .i64 2) ∧ w = w') := Lib.hid fun w => by have := size_any c w; unfold szI at this; rw [if_neg k1, if_pos k2] at this; exact this
      have HE := Lib.hid (enc2 c (by omega) k2)
      go_enter Tryd.func46, Tryd.ntmps46
      go_wp2_with (first | (go_at_call 58; refine (HZ.out _).mono ?_; rintro e w' ⟨rfl, rfl⟩) | (go_at_call 59; (with_reducible refine (HT0.out _).mono ?_); rintro e w' ⟨rfl, rfl⟩) | (at_builtin; refine wp_app elem_u8 _ _ (by rfl) (by rfl) (by rfl) hown [_, _] 2 rfl (by rfl) ?c1 ?c2 ?c3 hB (by decide) ?_))
      case c1 => exact one_cells .u8 [_, _]
      case c2 => simp; omega
      case c3 => simp [maxLen]; omega
      intro v' w2 hown2 hbel2 hnn
      go_wp2
      go_ret
      exact ⟨_, rfl, by rw [List.map_append, HE.out]; exact hown2, hbel2⟩
    · by_cases k3 : c < 65536
      · have HZ : Hid (∀ w, Calls Tryd.prog 58 #[.int .i64 c] w fun e w' => e = .returned (.int .i64 3) ∧ w = w') := Lib.hid fun w => by have := size_any c w; unfold szI at this; rw [if_neg k1, if_neg k2, if_pos k3] at this; exact this
        have HE := Lib.hid (enc3 c (by omega) k3)
        go_enter Tryd.func46, Tryd.ntmps46
        go_wp2_with (first | (go_at_call 58; refine (HZ.out _).mono ?_; rintro e w' ⟨rfl, rfl⟩) | (go_at_call 59; (with_reducible refine (HT0.out _).mono ?_); rintro e w' ⟨rfl, rfl⟩) | (go_at_call 59; (with_reducible refine (HT1.out _).mono ?_); rintro e w' ⟨rfl, rfl⟩) | (at_builtin; refine wp_app elem_u8 _ _ (by rfl) (by rfl) (by rfl) hown [_, _, _] 3 rfl (by rfl) ?c1 ?c2 ?c3 hB (by decide) ?_))
        case c1 => exact one_cells .u8 [_, _, _]
        case c2 => simp; omega
        case c3 => simp [maxLen]; omega
        intro v' w2 hown2 hbel2 hnn
        go_wp2
        go_ret
        exact ⟨_, rfl, by rw [List.map_append, HE.out]; exact hown2, hbel2⟩
      · have HZ : Hid (∀ w, Calls Tryd.prog 58 #[.int .i64 c] w fun e w' => e = .returned (.int .i64 4) ∧ w = w') := Lib.hid fun w => by have := size_any c w; unfold szI at this; rw [if_neg k1, if_neg k2, if_neg k3] at this; exact this
        have HE := Lib.hid (enc4 c (by omega) h1)
        go_enter Tryd.func46, Tryd.ntmps46
        go_wp2_with (first | (go_at_call 58; refine (HZ.out _).mono ?_; rintro e w' ⟨rfl, rfl⟩) | (go_at_call 59; (with_reducible refine (HT0.out _).mono ?_); rintro e w' ⟨rfl, rfl⟩) | (go_at_call 59; (with_reducible refine (HT1.out _).mono ?_); rintro e w' ⟨rfl, rfl⟩) | (go_at_call 59; (with_reducible refine (HT2.out _).mono ?_); rintro e w' ⟨rfl, rfl⟩) | (at_builtin; refine wp_app elem_u8 _ _ (by rfl) (by rfl) (by rfl) hown [_, _, _, _] 4 rfl (by rfl) ?c1 ?c2 ?c3 hB (by decide) ?_))
        case c1 => exact one_cells .u8 [_, _, _, _]
        case c2 => simp; omega
        case c3 => simp [maxLen]; omega
        intro v' w2 hown2 hbel2 hnn
        go_wp2
        go_ret
        exact ⟨_, rfl, by rw [List.map_append, HE.out]; exact hown2, hbel2⟩
end Go.Proofs.YtmglnpnkkidnnaaDoor
