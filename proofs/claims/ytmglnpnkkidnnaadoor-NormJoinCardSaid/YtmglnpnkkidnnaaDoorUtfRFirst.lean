/- The walk of the reference's First. -/
import Derived.Test.YtmglnpnkkidnnaaDoorUtfFirst
import Derived.Test.YtmglnpnkkidnnaaDoorUtfRef
import Derived.Deep.QuietTactic
import Derived.BigQuiet
import Derived.Deep.DeepCutAuto
import Derived.Deep.CutBlock
import Derived.Deep.RegionWith
namespace Go.Proofs.YtmglnpnkkidnnaaDoor
set_option linter.unusedVariables false
open Go.RowKit

set_option maxHeartbeats 400000 in
set_option maxRecDepth 100000 in
theorem rfirst_nil (s : ByteArray) (h : ¬ 0 < s.size) (hs : s.size ≤ maxLen) (w : World) :
    Calls Tryd.prog 47 #[.string s] w fun e w' => e = .returned (.tuple #[.int .i64 (-1), .int .i64 0]) ∧ Below w.heap.size w w' := by
  have hemp := isEmpty_yes h
  go_enter Tryd.func47, Tryd.ntmps47
  go_wp2
  go_ret2
  exact ⟨rfl, Below.refl _ _⟩
/-- what the reference's check behind the bytes gives -/
def finR (l : List UInt8) (n : Nat) : Option Int → Int × Nat
  | none => (-1, 0)
  | some c => if vldB c = true ∧ encP c = l.take n then (c, n) else (-1, 0)
theorem firstR_cons (s : ByteArray) (h : 0 < s.size) : firstR s.data.toList =
    (if rdn (s[0]'h).toNat = 0 ∨ s.size < rdn (s[0]'h).toNat then (-1, 0) else
      finR s.data.toList (rdn (s[0]'h).toNat) (tl ((s.data.toList.take (rdn (s[0]'h).toNat)).drop 1) (rdc (s[0]'h).toNat))) := by
  have e := drop_cons s 0 h
  rw [List.drop_zero] at e
  have hl : (s.data.toList.drop (0 + 1)).length + 1 = s.size := by rw [List.length_drop, size_toList]; omega
  rw [e]
  unfold firstR
  simp only [hl]
  by_cases g : rdn (s[0]'h).toNat = 0 ∨ s.size < rdn (s[0]'h).toNat
  · rw [if_pos g, if_pos g]
  · rw [if_neg g, if_neg g]
    obtain ⟨m, hm⟩ : ∃ m, rdn (s[0]'h).toNat = m + 1 := ⟨rdn (s[0]'h).toNat - 1, by omega⟩
    rw [hm, List.take_succ_cons, List.drop_succ_cons, List.drop_zero, Nat.add_sub_cancel]
    cases tl ((s.data.toList.drop (0 + 1)).take m) (rdc (s[0]'h).toNat) <;> rfl
theorem rtl_no {s : ByteArray} {l : List UInt8} {n k : Nat} {x : Int} {T : Option Int} (hk : k < n) (hks : k < s.size) (HT : Hid (tl ((s.data.toList.take n).drop k) x = T))
    (hc : (((s[k]'hks).toNat : Int) / 64 % 256 != 2) = true) : finR l n T = (-1, 0) := by
  have h := HT.out
  have hb := byte_nat (s[k]'hks)
  rw [List.drop_take, drop_cons s k hks] at h
  obtain ⟨m, hm⟩ : ∃ m, n - k = m + 1 := ⟨n - k - 1, by omega⟩
  rw [hm, List.take_succ_cons] at h
  unfold tl at h
  rw [bne_iff_ne] at hc
  rw [if_neg (by omega)] at h
  rw [← h]; rfl
theorem rtl_yes {s : ByteArray} {n k : Nat} {x : Int} {T : Option Int} (hk : k < n) (hks : k < s.size) (HT : Hid (tl ((s.data.toList.take n).drop k) x = T))
    (hc : (((s[k]'hks).toNat : Int) / 64 % 256 != 2) = false) :
    tl ((s.data.toList.take n).drop (k + 1)) (x * 64 + ((s[k]'hks).toNat : Int) % 64) = T := by
  have h := HT.out
  have hb := byte_nat (s[k]'hks)
  rw [List.drop_take, drop_cons s k hks] at h
  obtain ⟨m, hm⟩ : ∃ m, n - k = m + 1 := ⟨n - k - 1, by omega⟩
  rw [hm, List.take_succ_cons] at h
  unfold tl at h
  rw [bne_eq_false_iff_eq] at hc
  rw [if_pos (by omega)] at h
  rw [← h, List.drop_take, show n - (k + 1) = m from by omega]
theorem str_eq (l : List UInt8) (s : ByteArray) (k : Nat) : (l == (s.extract 0 k).toList) = decide (l = s.data.toList.take k) := by
  rw [Lib.toList_data, Lib.extract_data, List.drop_zero, Nat.sub_zero, Bool.eq_iff_iff, beq_iff_eq, decide_eq_true_eq]
theorem int_eq {a b : Int} (h : a = b) : Value.int .i64 a = .int .i64 b := by rw [h]
theorem rd_of (b : UInt8) : wrap64 (b.toNat : Int) = b.toNat := wrap64_nat _ (by have := byte_nat b; omega)
theorem rd4 {b : UInt8} (h : 240 ≤ wrap64 (b.toNat : Int)) : (4 : Int) = (rdn b.toNat : Nat) ∧ wrap64 (wrap64 (b.toNat : Int) - 240) = rdc b.toNat := by
  rw [rd_of] at *
  have := byte_nat b
  exact ⟨by unfold rdn; (repeat' split) <;> omega, by rw [IntWalk.wrap64_in _ (by omega)]; unfold rdc; (repeat' split) <;> omega⟩
theorem rd3 {b : UInt8} (h1 : wrap64 (b.toNat : Int) < 240) (h : 224 ≤ wrap64 (b.toNat : Int)) : (3 : Int) = (rdn b.toNat : Nat) ∧ wrap64 (b.toNat : Int) - 224 = rdc b.toNat := by
  rw [rd_of] at *
  exact ⟨by unfold rdn; (repeat' split) <;> omega, by unfold rdc; (repeat' split) <;> omega⟩
theorem rd2 {b : UInt8} (h1 : wrap64 (b.toNat : Int) < 224) (h : 192 ≤ wrap64 (b.toNat : Int)) : (2 : Int) = (rdn b.toNat : Nat) ∧ wrap64 (b.toNat : Int) - 192 = rdc b.toNat := by
  rw [rd_of] at *
  exact ⟨by unfold rdn; (repeat' split) <;> omega, by unfold rdc; (repeat' split) <;> omega⟩
theorem rd0 {b : UInt8} (h1 : wrap64 (b.toNat : Int) < 192) (h : 128 ≤ wrap64 (b.toNat : Int)) : rdn b.toNat = 0 := by
  rw [rd_of] at *
  unfold rdn; (repeat' split) <;> omega
theorem rd1 {b : UInt8} (h1 : wrap64 (b.toNat : Int) < 128) : (1 : Int) = (rdn b.toNat : Nat) ∧ wrap64 (b.toNat : Int) = rdc b.toNat := by
  rw [rd_of] at *
  exact ⟨by unfold rdn; (repeat' split) <;> omega, by unfold rdc; (repeat' split) <;> omega⟩
set_option maxHeartbeats 400000 in
set_option maxRecDepth 100000 in
theorem rfirst_loop (s : ByteArray) (h : 0 < s.size) (hn : rdn (s[0]'h).toNat ≠ 0) (hl : rdn (s[0]'h).toNat ≤ s.size) (v : Int × Nat) (hv : finR s.data.toList (rdn (s[0]'h).toNat) (tl ((s.data.toList.take (rdn (s[0]'h).toNat)).drop 1) (rdc (s[0]'h).toNat)) = v) (w : World) :
    Calls Tryd.prog 47 #[.string s] w fun e w' => e = .returned (.tuple #[.int .i64 v.1, .int .i64 (v.2 : Nat)]) ∧ Below w.heap.size w w' := by
  have HR := Lib.hid hv
  clear hv
  have hemp := isEmpty_no h
  have HN := Lib.hid hn
  have HL := Lib.hid hl
  clear hn hl
  go_enter Tryd.func47, Tryd.ntmps47
  go_wp2
  go_quiet (fail)
  go_upto_block 0 with fail
  go_cut [4, 5] (fun n c wx => n = .int .i64 (rdn (s[0]'h).toNat : Nat) ∧ c = .int .i64 (rdc (s[0]'h).toNat) ∧ wx = w.drewN nq)
  case first =>
    go_wp2_with fail
    · go_meet; obtain ⟨e1, e2⟩ := rd4 (by assumption); exact ⟨int_eq e1, int_eq e2, rfl⟩
    · go_meet; obtain ⟨e1, e2⟩ := rd3 (by assumption) (by assumption); exact ⟨int_eq e1, int_eq e2, rfl⟩
    · go_meet; obtain ⟨e1, e2⟩ := rd2 (by assumption) (by assumption); exact ⟨int_eq e1, int_eq e2, rfl⟩
    · exact absurd (rd0 (by assumption) (by assumption)) HN.out
    · go_meet; obtain ⟨e1, e2⟩ := rd1 (by assumption); exact ⟨int_eq e1, int_eq e2, rfl⟩
  case rest =>
    obtain ⟨rfl, rfl, rfl⟩ := hcut
    have hc := rdc_bd (s[0]'h).toNat (byte_bd _).1 (byte_bd _).2
    have hn4 := rdn_le (s[0]'h).toNat
    generalize rdn (s[0]'h).toNat = n at *
    generalize rdc (s[0]'h).toNat = c0 at *
    obtain ⟨hc1, hc2⟩ := hc
    have hn1 : 1 ≤ n := by have := HN.out; omega
    have hl := HL.out
    clear HN HL
    generalize hT : tl ((s.data.toList.take n).drop 1) c0 = T at HR
    have HT1 : Hid (tl ((s.data.toList.take n).drop 1) c0 = T) := Lib.hid hT
    clear hT
    go_wp2
    go_loop [5, 6] (fun c i => ∃ (k : Nat) (x : Int), c = .int .i64 x ∧ i = .int .i64 k ∧ 1 ≤ k ∧ k ≤ n ∧ 0 ≤ x ∧ x < 33554432 ∧ Bnd k x ∧ Hid (tl ((s.data.toList.take n).drop k) x = T)) (fun _ i => n - (intOf i).toNat)
    case atStart => exact ⟨1, c0, rfl, rfl, by omega, by omega, by omega, by omega, ⟨by omega, by omega, by omega⟩, HT1⟩
    case round =>
      obtain ⟨k, x, rfl, rfl, hk1, hk2, hx1, hx2, hbn, HT⟩ := hrel
      by_cases hlt : k < n
      · have hks : k < s.size := by omega
        go_wp2
        · go_ret2
          exact ⟨ret_fin (by rw [← HR.out]; exact rtl_no hlt hks HT (by assumption)), below_drewN (Below.refl _ _) _⟩
        · go_round
          case rel =>
            have e2 := rtl_yes hlt hks HT (by assumption)
            have hbl := bnd_lt hbn hk1 (by omega)
            have hy := byte_bd (s[k]'hks)
            exact ⟨k + 1, x * 64 + ((s[k]'hks).toNat : Int) % 64, rfl, by go_num, by omega, by omega, by omega, by omega, bnd_step hbn hk1 (by omega), Lib.hid e2⟩
          case measure => simp [intOf]; omega
      · obtain rfl : k = n := by omega
        obtain rfl := tl_end HT
        clear HT HT1
        have hq : Below w.heap.size w (w.drewN nq) := below_drewN (Below.refl _ _) _
        generalize w.drewN nq = wq at *
        go_upto_region 20 with fail
        go_cut [62] (fun t wx => t = .bool (!(vldB x && decide (encP x = s.data.toList.take k))) ∧ Below w.heap.size w wx)
        case first =>
          cases hv : vldB x with
          | false =>
            have HV : Hid (vldB x = false) := Lib.hid hv
            clear hv
            go_quiet ((go_at_call 20; exact Calls.quiet_of_same ((rvalid_any _ _).mono fun e w' hh => ⟨by rw [hh.1, HV.out], hh.2.symm⟩)))
            go_wp2_with fail
            go_meet
            exact ⟨by rw [HV.out]; rfl, below_drewN hq _⟩
          | true =>
            have HV : Hid (vldB x = true) := Lib.hid hv
            have HO : Hid (∀ w, Calls Tryd.prog 48 #[.int .i64 x] w fun e w' => e = .returned (.string ⟨(encP x).toArray⟩) ∧ Below w.heap.size w w') := Lib.hid (one_any x ((vldB_iff x).1 hv).1 ((vldB_iff x).1 hv).2.1)
            clear hv
            go_region_with (first | (go_at_call 20; refine (rvalid_any _ _).mono ?_; rintro e w' ⟨rfl, rfl⟩; rw [HV.out]) | (go_at_call 48; refine (HO.out _).mono ?_; rintro e w1 ⟨rfl, hb1⟩))
            go_wp2_with fail
            go_meet
            exact ⟨by rw [HV.out, Bool.true_and, str_eq], hq.drew.trans (hb1.mono hq.size)⟩
        case rest =>
          obtain ⟨rfl, hbx⟩ := hcut
          have HF : Hid (v = if (vldB x && decide (encP x = s.data.toList.take k)) = true then (x, k) else (-1, 0)) := Lib.hid (by rw [← HR.out]; simp only [finR, Bool.and_eq_true, decide_eq_true_eq])
          generalize (vldB x && decide (encP x = s.data.toList.take k)) = q at *
          cases q with
          | true =>
            go_wp2
            go_ret2
            exact ⟨ret_fin (by rw [HF.out]; simp), hbx⟩
          | false =>
            go_wp2
            go_ret2
            exact ⟨ret_fin (by rw [HF.out]; simp), hbx⟩
set_option maxHeartbeats 400000 in
set_option maxRecDepth 100000 in
theorem rfirst_no (s : ByteArray) (h : 0 < s.size) (g : rdn (s[0]'h).toNat = 0 ∨ s.size < rdn (s[0]'h).toNat) (w : World) :
    Calls Tryd.prog 47 #[.string s] w fun e w' => e = .returned (.tuple #[.int .i64 (-1), .int .i64 0]) ∧ Below w.heap.size w w' := by
  have hemp := isEmpty_no h
  have HG := Lib.hid g
  clear g
  go_enter Tryd.func47, Tryd.ntmps47
  go_wp2
  go_quiet (fail)
  go_upto_block 0 with fail
  go_cut [4, 5] (fun n c wx => n = .int .i64 (rdn (s[0]'h).toNat : Nat) ∧ rdn (s[0]'h).toNat ≠ 0 ∧ c = .int .i64 (rdc (s[0]'h).toNat) ∧ wx = w.drewN nq)
  case first =>
    go_wp2_with fail
    · go_meet; obtain ⟨e1, e2⟩ := rd4 (by assumption); exact ⟨int_eq e1, (by omega), int_eq e2, rfl⟩
    · go_meet; obtain ⟨e1, e2⟩ := rd3 (by assumption) (by assumption); exact ⟨int_eq e1, (by omega), int_eq e2, rfl⟩
    · go_meet; obtain ⟨e1, e2⟩ := rd2 (by assumption) (by assumption); exact ⟨int_eq e1, (by omega), int_eq e2, rfl⟩
    · go_ret2
      exact ⟨rfl, below_drewN (Below.refl _ _) _⟩
    · go_meet; obtain ⟨e1, e2⟩ := rd1 (by assumption); exact ⟨int_eq e1, (by omega), int_eq e2, rfl⟩
  case rest =>
    obtain ⟨rfl, hn0, rfl, rfl⟩ := hcut
    generalize rdn (s[0]'h).toNat = n at *
    generalize rdc (s[0]'h).toNat = c0 at *
    have hl : s.size < n := by have := HG.out; omega
    have hd : decide (s.size < n) = true := by simp; omega
    clear HG
    go_wp2
    go_ret2
    exact ⟨rfl, below_drewN (Below.refl _ _) _⟩
theorem rfirst_any (s : ByteArray) (hs : s.size ≤ maxLen) (w : World) :
    Calls Tryd.prog 47 #[.string s] w fun e w' => e = .returned (.tuple #[.int .i64 (firstP s.data.toList).1, .int .i64 ((firstP s.data.toList).2 : Nat)]) ∧ Below w.heap.size w w' := by
  rw [← first_eq]
  by_cases h : 0 < s.size
  · rw [firstR_cons s h]
    by_cases g : rdn (s[0]'h).toNat = 0 ∨ s.size < rdn (s[0]'h).toNat
    · rw [if_pos g]; exact rfirst_no s h g w
    · rw [if_neg g]; exact rfirst_loop s h (fun e => g (Or.inl e)) (Nat.le_of_not_lt fun e => g (Or.inr e)) _ rfl w
  · rw [toList_nil h]; exact rfirst_nil s h hs w
end Go.Proofs.YtmglnpnkkidnnaaDoor
