/- The walks of strconv's number readers at digits of api's own, and at no digits, and of ucd.number. -/
import Derived.Test.YtmglnpnkkidnnaaDoorUcdMath
import Derived.Test.YtmglnpnkkidnnaaDoorSlices
import Derived.Lib.ConvBytes
import Derived.Lib.AtoiAllMem
import Derived.Laws.Strings3
import Derived.Laws.Closers25
import Derived.Laws.Closers25b
import Derived.BigCall
import Derived.BigGuard
namespace Go.Proofs.YtmglnpnkkidnnaaDoor
set_option linter.unusedVariables false
open Go.RowKit

theorem or32 : ∀ n : Fin 6, bits .or .u8 ((n.val : Int) + 65) 32 = (n.val : Int) + 97 := by decide +kernel
theorem lower_up (c : Int) (h0 : 65 ≤ c) (h1 : c ≤ 70) (w : World) :
    Calls Tryd.prog 81 #[.int .u8 c] w fun e w' => e = .returned (.int .u8 (c + 32)) ∧ w = w' := by
  obtain ⟨n, rfl⟩ : ∃ n : Fin 6, c = (n.val : Int) + 65 := ⟨⟨(c - 65).toNat, by omega⟩, by simp; omega⟩
  have h := or32 n
  have hn := n.isLt
  go_enter Tryd.func81, Tryd.ntmps81
  go_wp2
  go_ret
  exact ⟨ret_int (by omega), rfl⟩
theorem below_bytes (w : World) (e : TypeId) (s : ByteArray) : Below w.heap.size w (Lib.bytesWorld w e s) :=
  ⟨rfl, rfl, rfl, by rw [Lib.bytesWorld_size]; omega, fun b hb => Lib.bytesWorld_at_old w e s b hb⟩
theorem isEmpty_ne {t : ByteArray} (h : 0 < t.size) : t.toList.isEmpty = false := isEmpty_no h

set_option maxHeartbeats 32000000 in
set_option maxRecDepth 100000 in
theorem parseUint10_any (t : ByteArray) (h0 : 0 < t.size) (hd : DigsOk 10 t.data.toList) (w : World) :
    Calls Tryd.prog 72 #[.string t, .int .i64 10, .int .i64 64] w fun e w' => e = .returned (.tuple #[.int .u64 (numB 10 t.data.toList : Nat), .nilIface]) ∧ Below w.heap.size w w' := by
  have hemp := isEmpty_ne h0
  have hsz : t.size ≤ 10 := by have := hd.2; rw [size_toList] at this; exact this
  have hbd := numB_bd (b := 10) (by decide) hd
  have hcv := Lib.run_convert_string_bytes (P := Tryd.prog) w 9 36 5 t (u := .string) Tryd.underlying9 Tryd.underlying36 Tryd.underlying5
  have hB : ∀ j, j < t.size → (Lib.bytesWorld w 5 t).cell? ⟨w.heap.size, j, none⟩ = some (.int .u8 (t.data.toList.getD j 0).toNat) := fun j hj => Lib.bytesWorld_cell w 5 t j hj
  have hbel : Below w.heap.size w (Lib.bytesWorld w 5 t) := below_bytes w _ t
  obtain ⟨W1, hW1⟩ : ∃ W1, W1 = Lib.bytesWorld w 5 t := ⟨_, rfl⟩
  rw [← hW1] at hcv hB hbel
  clear hW1
  obtain ⟨bs, hL⟩ : ∃ bs, bs = t.data.toList := ⟨_, rfl⟩
  have hLn : bs.length = t.size := by rw [hL, size_toList]
  rw [← hL] at hB hd hbd ⊢
  clear hL
  have hmv : IntKind.u64.wrap (IntKind.u64.wrap 18446744073709551616 - 1) = 18446744073709551615 := by
    rw [IntKind.wrap_u64, IntKind.wrap_u64]
    decide
  have HD := Lib.hid hd
  have HBL := Lib.hid hbel
  clear hd hbd hbel
  go_enter Tryd.func72, Tryd.ntmps72
  go_wp2
  go_loop [12, 13, 101] (fun vu vn vi => ∃ (k : Nat) (a : Int), vu = .bool false ∧ vn = .int .u64 a ∧ vi = .int .i64 k ∧ k ≤ t.size ∧ Hid (a = (numB 10 (bs.take k) : Nat)))
    (fun _ _ vi => t.size - (intOf vi).toNat)
  case atStart => exact ⟨0, 0, rfl, rfl, rfl, by omega, Lib.hid rfl⟩
  case round =>
    obtain ⟨k, a, rfl, rfl, rfl, hk, hh⟩ := hrel
    have ha := hh.out
    have hbd := numB_bd (b := 10) (by decide) (digsOk_take HD.out k)
    have a0 : 0 ≤ a := by omega
    have a1 : a < 1099511627776 := by omega
    clear hh hbd
    by_cases hkn : k < t.size
    · have hc := hB k hkn
      have htk : bs.take (k + 1) = bs.take k ++ [bs[k]'(by omega)] := by rw [List.take_succ_eq_append_getElem (by omega)]
      have hget : bs.getD k 0 = bs[k]'(by omega) := by simp [List.getD, List.getElem?_eq_getElem (show k < bs.length by omega)]
      have hok : digOk 10 (bs[k]'(by omega)) = true := List.all_eq_true.1 HD.out.1 _ (List.getElem_mem _)
      rw [hget] at hc
      have hsn : numB 10 (bs.take (k + 1)) = numB 10 (bs.take k) * 10 + dig (bs[k]'(by omega)) := by rw [htk, numB_snoc]
      generalize bs[k]'(by omega) = c at hc hok hsn
      have hc256 : c.toNat < 256 := c.toNat_lt
      clear hB htk hget
      have hcase : 48 ≤ c.toNat ∧ c.toNat ≤ 57 ∨ 10 = 16 ∧ 65 ≤ c.toNat ∧ c.toNat ≤ 70 := of_decide_eq_true hok
      clear hok
      by_cases hdig : c.toNat ≤ 57
      · have hd0 : 48 ≤ c.toNat := by omega
        have HN : Hid (a * 10 + ((c.toNat : Int) - 48) = (numB 10 (bs.take (k + 1)) : Nat)) := Lib.hid (by rw [hsn]; unfold dig; rw [if_pos (by omega)]; omega)
        clear hsn ha hcase
        go_wp2
        refine ⟨⟨k + 1, a * 10 + ((c.toNat : Int) - 48), rfl, (by first | rfl | (congr 1; omega)), (by first | rfl | (congr 1; omega)), by omega, HN⟩, by simp [intOf]; omega⟩
      · exact absurd hcase (by omega)
    · have hkk : k = t.size := by omega
      subst hkk
      have e : bs.take t.size = bs := List.take_of_length_le (by omega)
      rw [e] at ha
      subst ha
      clear a0 a1
      go_wp2
      go_ret2
      exact ⟨rfl, HBL.out⟩

set_option maxHeartbeats 32000000 in
set_option maxRecDepth 100000 in
theorem parseUint16_any (t : ByteArray) (h0 : 0 < t.size) (hd : DigsOk 16 t.data.toList) (w : World) :
    Calls Tryd.prog 72 #[.string t, .int .i64 16, .int .i64 64] w fun e w' => e = .returned (.tuple #[.int .u64 (numB 16 t.data.toList : Nat), .nilIface]) ∧ Below w.heap.size w w' := by
  have hemp := isEmpty_ne h0
  have hsz : t.size ≤ 10 := by have := hd.2; rw [size_toList] at this; exact this
  have hbd := numB_bd (b := 16) (by decide) hd
  have hcv := Lib.run_convert_string_bytes (P := Tryd.prog) w 9 36 5 t (u := .string) Tryd.underlying9 Tryd.underlying36 Tryd.underlying5
  have hB : ∀ j, j < t.size → (Lib.bytesWorld w 5 t).cell? ⟨w.heap.size, j, none⟩ = some (.int .u8 (t.data.toList.getD j 0).toNat) := fun j hj => Lib.bytesWorld_cell w 5 t j hj
  have hbel : Below w.heap.size w (Lib.bytesWorld w 5 t) := below_bytes w _ t
  obtain ⟨W1, hW1⟩ : ∃ W1, W1 = Lib.bytesWorld w 5 t := ⟨_, rfl⟩
  rw [← hW1] at hcv hB hbel
  clear hW1
  obtain ⟨bs, hL⟩ : ∃ bs, bs = t.data.toList := ⟨_, rfl⟩
  have hLn : bs.length = t.size := by rw [hL, size_toList]
  rw [← hL] at hB hd hbd ⊢
  clear hL
  have hmv : IntKind.u64.wrap (IntKind.u64.wrap 18446744073709551616 - 1) = 18446744073709551615 := by
    rw [IntKind.wrap_u64, IntKind.wrap_u64]
    decide
  have HD := Lib.hid hd
  have HBL := Lib.hid hbel
  clear hd hbd hbel
  go_enter Tryd.func72, Tryd.ntmps72
  go_wp2
  go_loop [12, 13, 101] (fun vu vn vi => ∃ (k : Nat) (a : Int), vu = .bool false ∧ vn = .int .u64 a ∧ vi = .int .i64 k ∧ k ≤ t.size ∧ Hid (a = (numB 16 (bs.take k) : Nat)))
    (fun _ _ vi => t.size - (intOf vi).toNat)
  case atStart => exact ⟨0, 0, rfl, rfl, rfl, by omega, Lib.hid rfl⟩
  case round =>
    obtain ⟨k, a, rfl, rfl, rfl, hk, hh⟩ := hrel
    have ha := hh.out
    have hbd := numB_bd (b := 16) (by decide) (digsOk_take HD.out k)
    have a0 : 0 ≤ a := by omega
    have a1 : a < 1099511627776 := by omega
    clear hh hbd
    by_cases hkn : k < t.size
    · have hc := hB k hkn
      have htk : bs.take (k + 1) = bs.take k ++ [bs[k]'(by omega)] := by rw [List.take_succ_eq_append_getElem (by omega)]
      have hget : bs.getD k 0 = bs[k]'(by omega) := by simp [List.getD, List.getElem?_eq_getElem (show k < bs.length by omega)]
      have hok : digOk 16 (bs[k]'(by omega)) = true := List.all_eq_true.1 HD.out.1 _ (List.getElem_mem _)
      rw [hget] at hc
      have hsn : numB 16 (bs.take (k + 1)) = numB 16 (bs.take k) * 16 + dig (bs[k]'(by omega)) := by rw [htk, numB_snoc]
      generalize bs[k]'(by omega) = c at hc hok hsn
      have hc256 : c.toNat < 256 := c.toNat_lt
      clear hB htk hget
      have hcase : 48 ≤ c.toNat ∧ c.toNat ≤ 57 ∨ 16 = 16 ∧ 65 ≤ c.toNat ∧ c.toNat ≤ 70 := of_decide_eq_true hok
      clear hok
      by_cases hdig : c.toNat ≤ 57
      · have hd0 : 48 ≤ c.toNat := by omega
        have HN : Hid (a * 16 + ((c.toNat : Int) - 48) = (numB 16 (bs.take (k + 1)) : Nat)) := Lib.hid (by rw [hsn]; unfold dig; rw [if_pos (by omega)]; omega)
        clear hsn ha hcase
        go_wp2
        refine ⟨⟨k + 1, a * 16 + ((c.toNat : Int) - 48), rfl, (by first | rfl | (congr 1; omega)), (by first | rfl | (congr 1; omega)), by omega, HN⟩, by simp [intOf]; omega⟩
      · have hd0 : 65 ≤ c.toNat := by omega
        have hd1 : c.toNat ≤ 70 := by omega
        have hd2 : 57 < c.toNat := by omega
        have HN : Hid (a * 16 + ((c.toNat : Int) + 32 - 97 + 10) = (numB 16 (bs.take (k + 1)) : Nat)) := Lib.hid (by rw [hsn]; unfold dig; rw [if_neg (by omega)]; omega)
        clear hsn ha hcase hdig
        go_wp2_with (go_at_call 81; refine (lower_up _ (by omega) (by omega) _).mono ?_; rintro e w' ⟨rfl, rfl⟩)
        refine ⟨⟨k + 1, a * 16 + ((c.toNat : Int) + 32 - 97 + 10), rfl, (by first | rfl | (congr 1; omega)), (by first | rfl | (congr 1; omega)), by omega, HN⟩, by simp [intOf]; omega⟩
    · have hkk : k = t.size := by omega
      subst hkk
      have e : bs.take t.size = bs := List.take_of_length_le (by omega)
      rw [e] at ha
      subst ha
      clear a0 a1
      go_wp2
      go_ret2
      exact ⟨rfl, HBL.out⟩
end Go.Proofs.YtmglnpnkkidnnaaDoor
