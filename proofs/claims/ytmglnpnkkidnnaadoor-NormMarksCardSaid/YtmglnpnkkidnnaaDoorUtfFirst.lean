/- The walks of utf.Valid, utf.size, utf.lead, utf.First: what each call answers. -/
import Derived.Test.YtmglnpnkkidnnaaDoorUtfMath
namespace Go.Proofs.YtmglnpnkkidnnaaDoor
set_option linter.unusedVariables false
open Go.RowKit

set_option maxHeartbeats 400000 in
theorem valid_any (c : Int) (w : World) :
    Calls Tryd.prog 45 #[.int .i64 c] w fun e w' => e = .returned (.bool (vldB c)) ∧ w = w' := by
  go_enter Tryd.func45, Tryd.ntmps45
  go_wp2
  all_goals (go_ret; first | exact ⟨rfl, rfl⟩ | exact ⟨ret_bool (by simp only [vldB]; rw [Bool.eq_iff_iff]; simp; omega), rfl⟩)
set_option maxHeartbeats 400000 in
theorem size_any (c : Int) (w : World) :
    Calls Tryd.prog 58 #[.int .i64 c] w fun e w' => e = .returned (.int .i64 (szI c : Nat)) ∧ w = w' := by
  go_enter Tryd.func58, Tryd.ntmps58
  go_wp2
  all_goals (go_ret; exact ⟨ret_int (by unfold szI; (repeat' split) <;> first | rfl | omega), rfl⟩)
set_option maxHeartbeats 400000 in
theorem lead_any (b : Int) (h0 : 0 ≤ b) (h1 : b < 256) (w : World) :
    Calls Tryd.prog 57 #[.int .u8 b] w fun e w' => e = .returned (.tuple #[.int .i64 (ldn b : Nat), .int .i64 (ldc b)]) ∧ w = w' := by
  go_enter Tryd.func57, Tryd.ntmps57
  go_wp2
  all_goals (go_ret2; exact ⟨ret2_int (by unfold ldn; (repeat' split) <;> omega) (by unfold ldc; (repeat' split) <;> omega), rfl⟩)

/-- what the check behind the bytes gives -/
def finP (n : Nat) : Option Int → Int × Nat
  | none => (-1, 0)
  | some c => if vldB c = true ∧ szI c = n then (c, n) else (-1, 0)
theorem firstP_cons (s : ByteArray) (h : 0 < s.size) : firstP s.data.toList =
    (if ldn (s[0]'h).toNat = 0 ∨ s.size < ldn (s[0]'h).toNat then (-1, 0) else
      finP (ldn (s[0]'h).toNat) (tl ((s.data.toList.take (ldn (s[0]'h).toNat)).drop 1) (ldc (s[0]'h).toNat))) := by
  have e := drop_cons s 0 h
  rw [List.drop_zero] at e
  have hl : (s.data.toList.drop (0 + 1)).length + 1 = s.size := by rw [List.length_drop, size_toList]; omega
  rw [e]
  unfold firstP
  simp only [hl]
  by_cases g : ldn (s[0]'h).toNat = 0 ∨ s.size < ldn (s[0]'h).toNat
  · rw [if_pos g, if_pos g]
  · rw [if_neg g, if_neg g]
    obtain ⟨m, hm⟩ : ∃ m, ldn (s[0]'h).toNat = m + 1 := ⟨ldn (s[0]'h).toNat - 1, by omega⟩
    rw [hm, List.take_succ_cons, List.drop_succ_cons, List.drop_zero, Nat.add_sub_cancel]
    cases tl ((s.data.toList.drop (0 + 1)).take m) (ldc (s[0]'h).toNat) <;> rfl

set_option maxHeartbeats 400000 in
theorem first_nil (s : ByteArray) (h : ¬ 0 < s.size) (hs : s.size ≤ maxLen) (w : World) :
    Calls Tryd.prog 44 #[.string s] w fun e w' => e = .returned (.tuple #[.int .i64 (-1), .int .i64 0]) ∧ w = w' := by
  have hemp := isEmpty_yes h
  go_enter Tryd.func44, Tryd.ntmps44
  go_wp2
  go_ret2
  exact ⟨rfl, rfl⟩
set_option maxHeartbeats 400000 in
theorem first_no (s : ByteArray) (h : 0 < s.size) (g : ldn (s[0]'h).toNat = 0 ∨ s.size < ldn (s[0]'h).toNat) (hs : s.size ≤ maxLen) (w : World) :
    Calls Tryd.prog 44 #[.string s] w fun e w' => e = .returned (.tuple #[.int .i64 (-1), .int .i64 0]) ∧ w = w' := by
  have HB : Hid (∀ (w : World), Calls Tryd.prog 57 #[.int .u8 (s[0]'h).toNat] w fun e w' => e = .returned (.tuple #[.int .i64 (ldn (s[0]'h).toNat : Nat), .int .i64 (ldc (s[0]'h).toNat)]) ∧ w = w') := Lib.hid fun w => lead_any _ (byte_bd _).1 (byte_bd _).2 w
  have hn4 := ldn_le (s[0]'h).toNat
  generalize ldn (s[0]'h).toNat = n at *
  generalize ldc (s[0]'h).toNat = c0 at *
  have hemp := isEmpty_no h
  by_cases g0 : n = 0
  · subst g0
    go_enter Tryd.func44, Tryd.ntmps44
    go_wp2_with (go_at_call 57; refine (HB.out _).mono ?_; rintro e w' ⟨rfl, rfl⟩)
    go_ret2
    exact ⟨rfl, rfl⟩
  · have hn0 : ((n : Int) == 0) = false := by simp; omega
    have hnl : decide (s.size < n) = true := by simp; omega
    clear g g0
    go_enter Tryd.func44, Tryd.ntmps44
    go_wp2_with (go_at_call 57; refine (HB.out _).mono ?_; rintro e w' ⟨rfl, rfl⟩)
    go_ret2
    exact ⟨rfl, rfl⟩

theorem ret_fin {v : Int × Nat} {a : Int} {b : Nat} (h : v = (a, b)) : Ending.returned (.tuple #[.int .i64 a, .int .i64 (b : Int)]) = .returned (.tuple #[.int .i64 v.1, .int .i64 (v.2 : Int)]) := by rw [h]
theorem tl_no {s : ByteArray} {n k : Nat} {x : Int} {T : Option Int} (hk : k < n) (hks : k < s.size) (HT : Hid (tl ((s.data.toList.take n).drop k) x = T))
    (hc : (bits BinOp.and IntKind.u8 ((s[k]'hks).toNat) 192 != 128) = true) : finP n T = (-1, 0) := by
  have h := HT.out
  rw [List.drop_take, drop_cons s k hks] at h
  obtain ⟨m, hm⟩ : ∃ m, n - k = m + 1 := ⟨n - k - 1, by omega⟩
  rw [hm, List.take_succ_cons] at h
  unfold tl at h
  rw [byte_and192, bne_iff_ne] at hc
  rw [if_neg (by omega)] at h
  rw [← h]; rfl
theorem tl_yes {s : ByteArray} {n k : Nat} {x : Int} {T : Option Int} (hk : k < n) (hks : k < s.size) (h0 : 0 ≤ x) (h1 : x < 33554432) (HT : Hid (tl ((s.data.toList.take n).drop k) x = T))
    (hc : (bits BinOp.and IntKind.u8 ((s[k]'hks).toNat) 192 != 128) = false) :
    bits BinOp.or IntKind.i64 (x * 64) (wrap64 (bits BinOp.and IntKind.u8 ((s[k]'hks).toNat) 63)) = x * 64 + ((s[k]'hks).toNat % 64 : Nat)
      ∧ tl ((s.data.toList.take n).drop (k + 1)) (x * 64 + ((s[k]'hks).toNat % 64 : Nat)) = T := by
  have h := HT.out
  refine ⟨?_, ?_⟩
  · rw [byte_and63, wrap64_nat _ (by omega), or6 _ _ h0 (by omega) (by omega) (by omega)]
  · rw [List.drop_take, drop_cons s k hks] at h
    obtain ⟨m, hm⟩ : ∃ m, n - k = m + 1 := ⟨n - k - 1, by omega⟩
    rw [hm, List.take_succ_cons] at h
    unfold tl at h
    rw [byte_and192, bne_eq_false_iff_eq] at hc
    rw [if_pos (by omega)] at h
    rw [← h, List.drop_take, show n - (k + 1) = m from by omega]
    congr 1
theorem tl_end {s : ByteArray} {n : Nat} {x : Int} {T : Option Int} (HT : Hid (tl ((s.data.toList.take n).drop n) x = T)) : T = some x := by
  have h := HT.out
  rw [List.drop_of_length_le (by rw [List.length_take]; omega)] at h
  rw [← h]; rfl

set_option maxHeartbeats 400000 in
theorem first_loop (s : ByteArray) (h : 0 < s.size) (hn : ldn (s[0]'h).toNat ≠ 0) (hl : ldn (s[0]'h).toNat ≤ s.size) (hs : s.size ≤ maxLen) (w : World) :
    Calls Tryd.prog 44 #[.string s] w fun e w' =>
      e = .returned (.tuple #[.int .i64 (finP (ldn (s[0]'h).toNat) (tl ((s.data.toList.take (ldn (s[0]'h).toNat)).drop 1) (ldc (s[0]'h).toNat))).1, .int .i64 ((finP (ldn (s[0]'h).toNat) (tl ((s.data.toList.take (ldn (s[0]'h).toNat)).drop 1) (ldc (s[0]'h).toNat))).2 : Nat)]) ∧ w = w' := by
  have HB : Hid (∀ (w : World), Calls Tryd.prog 57 #[.int .u8 (s[0]'h).toNat] w fun e w' => e = .returned (.tuple #[.int .i64 (ldn (s[0]'h).toNat : Nat), .int .i64 (ldc (s[0]'h).toNat)]) ∧ w = w') := Lib.hid fun w => lead_any _ (byte_bd _).1 (byte_bd _).2 w
  have hc := ldc_bd (s[0]'h).toNat (byte_bd _).1 (byte_bd _).2
  have hn4 := ldn_le (s[0]'h).toNat
  generalize ldn (s[0]'h).toNat = n at *
  generalize ldc (s[0]'h).toNat = c0 at *
  have HT0 : Hid (tl ((s.data.toList.take n).drop 1) c0 = tl ((s.data.toList.take n).drop 1) c0) := Lib.hid rfl
  generalize hT : tl ((s.data.toList.take n).drop 1) c0 = T at HT0 ⊢
  have HT1 : Hid (tl ((s.data.toList.take n).drop 1) c0 = T) := Lib.hid hT
  clear hT HT0
  obtain ⟨hc1, hc2⟩ := hc
  have hn0 : ((n : Int) == 0) = false := by simp; omega
  have hemp := isEmpty_no h
  have hn1 : 1 ≤ n := by omega
  clear hn
  go_enter Tryd.func44, Tryd.ntmps44
  go_wp2_with (go_at_call 57; refine (HB.out _).mono ?_; rintro e w' ⟨rfl, rfl⟩)
  go_loop [5, 6] (fun c i => ∃ (k : Nat) (x : Int), c = .int .i64 x ∧ i = .int .i64 k ∧ 1 ≤ k ∧ k ≤ n ∧ 0 ≤ x ∧ x < 33554432 ∧ Bnd k x ∧ Hid (tl ((s.data.toList.take n).drop k) x = T)) (fun _ i => n - (intOf i).toNat)
  case atStart => exact ⟨1, c0, rfl, rfl, by omega, by omega, by omega, by omega, ⟨by omega, by omega, by omega⟩, HT1⟩
  case round =>
    obtain ⟨k, x, rfl, rfl, hk1, hk2, hx1, hx2, hbn, HT⟩ := hrel
    by_cases hlt : k < n
    · have hks : k < s.size := by omega
      go_wp2
      · go_ret2
        exact ⟨ret_fin (tl_no hlt hks HT (by assumption)), rfl⟩
      · go_round
        case rel =>
          obtain ⟨e1, e2⟩ := tl_yes hlt hks hx1 hx2 HT (by assumption)
          have := bnd_lt hbn hk1 (by omega)
          exact ⟨k + 1, x * 64 + ((s[k]'hks).toNat % 64 : Nat), by rw [e1], by go_num, by omega, by omega, by omega, by omega, bnd_step hbn hk1 (by omega), Lib.hid e2⟩
        case measure => simp [intOf]; omega
    · obtain rfl : k = n := by omega
      obtain rfl := tl_end HT
      clear HT HT1
      cases hv : vldB x with
      | false =>
        have HV : Hid (vldB x = false) := Lib.hid hv
        clear hv
        go_wp2_with (go_at_call 45; refine (valid_any _ _).mono ?_; rintro e w' ⟨rfl, rfl⟩; rw [HV.out])
        go_ret2
        exact ⟨ret_fin (by simp [finP, HV.out]), rfl⟩
      | true =>
        have HV : Hid (vldB x = true) := Lib.hid hv
        clear hv
        have HS : Hid (∀ (w : World), Calls Tryd.prog 58 #[.int .i64 x] w fun e w' => e = .returned (.int .i64 (szI x : Nat)) ∧ w = w') := Lib.hid (size_any x)
        have HF : Hid (finP k (some x) = if szI x = k then (x, k) else (-1, 0)) := Lib.hid (by unfold finP; simp only [HV.out, true_and])
        generalize szI x = z at *
        by_cases hz : z = k
        · subst hz
          go_wp2_with (first | (go_at_call 45; refine (valid_any _ _).mono ?_; rintro e w' ⟨rfl, rfl⟩; rw [HV.out]) | (go_at_call 58; refine (HS.out _).mono ?_; rintro e w' ⟨rfl, rfl⟩))
          go_ret2
          exact ⟨ret_fin (by rw [HF.out]; simp), rfl⟩
        · have hz1 : ((z : Int) != (k : Int)) = true := by rw [bne_iff_ne]; omega
          go_wp2_with (first | (go_at_call 45; refine (valid_any _ _).mono ?_; rintro e w' ⟨rfl, rfl⟩; rw [HV.out]) | (go_at_call 58; refine (HS.out _).mono ?_; rintro e w' ⟨rfl, rfl⟩))
          go_ret2
          exact ⟨ret_fin (by rw [HF.out, if_neg hz]), rfl⟩

theorem first_any (s : ByteArray) (hs : s.size ≤ maxLen) (w : World) :
    Calls Tryd.prog 44 #[.string s] w fun e w' => e = .returned (.tuple #[.int .i64 (firstP s.data.toList).1, .int .i64 ((firstP s.data.toList).2 : Nat)]) ∧ w = w' := by
  by_cases h : 0 < s.size
  · rw [firstP_cons s h]
    by_cases g : ldn (s[0]'h).toNat = 0 ∨ s.size < ldn (s[0]'h).toNat
    · rw [if_pos g]; exact first_no s h g hs w
    · rw [if_neg g]; exact first_loop s h (fun e => g (Or.inl e)) (Nat.le_of_not_lt fun e => g (Or.inr e)) hs w
  · rw [toList_nil h]; exact first_nil s h hs w
end Go.Proofs.YtmglnpnkkidnnaaDoor
