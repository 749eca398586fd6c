/- Plain facts on the two tables as lines of bytes: digits, words, fields, the line of a character. No program is named here. -/
import Derived.Test.YtjhkfjbgdaomeaaGreatDoorMBase
import Derived.Test.YtjhkfjbgdaomeaaGreatDoorRows
import Derived.Lib.ConvBytes
import Derived.Lib.AtoiAllMem
import Derived.Laws.Strings3
import Derived.Laws.Closers25
import Derived.Laws.Closers25b
import Derived.BigCall
import Derived.BigGuard
import Derived.Outline
import Derived.Lib.IfaceEq
import Derived.Deep.RegionWith
import Derived.BigRegion
import Derived.Deep.DeepCutAuto
import Derived.Lib.IndexLaws
import Derived.Shelf.Strings.Search1
import Derived.Shelf.Strings.Search2
import Derived.BigQuiet
import Derived.RangeFuncNested
import Derived.RangeFuncBound
import Derived.RangeFuncCalls
import Derived.RangeFuncBox
import Derived.RangeFuncLeaves
import Derived.Shelf.Abstract
import Derived.Shelf.RegionOpen
import Derived.OwnWalkIn
import Derived.TacticsInMore
import Derived.LoopNIn
import Derived.LoopIn
import Derived.Maps.AppendAt
import Derived.RegionIn
namespace Go.Proofs.YtjhkfjbgdaomeaaGreatDoor
set_option linter.unusedVariables false
open Go.RowKit

/-- a text of bytes. -/
def bs (l : List UInt8) : ByteArray := ⟨l.toArray⟩
theorem bs_data (l : List UInt8) : (bs l).data.toList = l := by simp [bs]
theorem bs_size (l : List UInt8) : (bs l).size = l.length := by rw [← size_toList, bs_data]
theorem bs_of (s : ByteArray) : bs s.data.toList = s := by cases s; simp [bs]
theorem bs_ext {s : ByteArray} {l : List UInt8} (h : s.data.toList = l) : s = bs l := by rw [← h, bs_of]

def dig (c : UInt8) : Nat := if c.toNat < 58 then c.toNat - 48 else c.toNat - 55
def digOk (b : Nat) (c : UInt8) : Bool := decide (48 ≤ c.toNat ∧ c.toNat ≤ 57 ∨ b = 16 ∧ 65 ≤ c.toNat ∧ c.toNat ≤ 70)
def numB (b : Nat) (l : List UInt8) : Nat := l.foldl (fun n c => n * b + dig c) 0
theorem numB_snoc (b : Nat) (l : List UInt8) (c : UInt8) : numB b (l ++ [c]) = numB b l * b + dig c := by simp [numB]
theorem dig_lt {b : Nat} {c : UInt8} (hb : b = 10 ∨ b = 16) (h : digOk b c = true) : dig c < b := by
  unfold digOk at h; have := of_decide_eq_true h; unfold dig; split <;> omega
theorem numB_lt {b : Nat} (hb : b = 10 ∨ b = 16) (l : List UInt8) (h : l.all (digOk b) = true) (n : Nat) (hl : l.length ≤ n) : numB b l < 16 ^ n := by
  induction n generalizing l with
  | zero => have : l = [] := List.eq_nil_of_length_eq_zero (by omega)
            subst this; show 0 < 16 ^ 0; decide
  | succ n ih =>
    rcases List.eq_nil_or_concat l with rfl | ⟨l', c, rfl⟩
    · simp [numB]; exact Nat.pow_pos (by decide)
    · rw [List.concat_eq_append, numB_snoc]
      simp only [List.concat_eq_append, List.all_append, List.all_cons, List.all_nil, Bool.and_true, Bool.and_eq_true] at h
      have h1 := ih l' h.1 (by simp at hl; omega)
      have h2 := dig_lt hb h.2
      have h3 : numB b l' * b ≤ numB b l' * 16 := Nat.mul_le_mul (Nat.le_refl _) (by omega)
      rw [Nat.pow_succ]; omega
/-- digits of a base, at most ten of them: what both number functions are handed. -/
def DigsOk (b : Nat) (l : List UInt8) : Prop := l.all (digOk b) = true ∧ l.length ≤ 10
theorem numB_bd {b : Nat} (hb : b = 10 ∨ b = 16) {l : List UInt8} (h : DigsOk b l) : numB b l < 1099511627776 := numB_lt hb l h.1 10 h.2
theorem digsOk_take {b : Nat} {l : List UInt8} (h : DigsOk b l) (k : Nat) : DigsOk b (l.take k) :=
  ⟨List.all_eq_true.2 fun x hx => List.all_eq_true.1 h.1 x (List.mem_of_mem_take hx), by rw [List.length_take]; have := h.2; omega⟩

end Go.Proofs.YtjhkfjbgdaomeaaGreatDoor
/- The walks of strconv's number readers at digits of api's own, and at no digits, and of ucd.number. -/
namespace Go.Proofs.YtjhkfjbgdaomeaaGreatDoor
set_option linter.unusedVariables false
open Go.RowKit

theorem or32 : ∀ n : Fin 6, bits .or .u8 ((n.val : Int) + 65) 32 = (n.val : Int) + 97 := by decide +kernel
theorem lower_up (c : Int) (h0 : 65 ≤ c) (h1 : c ≤ 70) (w : World) :
    Calls Tryz.prog 181 #[.int .u8 c] w fun e w' => e = .returned (.int .u8 (c + 32)) ∧ w = w' := by
  obtain ⟨n, rfl⟩ : ∃ n : Fin 6, c = (n.val : Int) + 65 := ⟨⟨(c - 65).toNat, by omega⟩, by simp; omega⟩
  have h := or32 n
  have hn := n.isLt
  go_enter Tryz.func181, Tryz.ntmps181
  go_wp2
  go_ret
  exact ⟨ret_int (by omega), rfl⟩
theorem below_bytes (w : World) (e : TypeId) (s : ByteArray) : Below w.heap.size w (Lib.bytesWorld w e s) :=
  ⟨rfl, rfl, rfl, by rw [Lib.bytesWorld_size]; omega, fun b hb => Lib.bytesWorld_at_old w e s b hb⟩
theorem isEmpty_ne {t : ByteArray} (h : 0 < t.size) : t.toList.isEmpty = false := isEmpty_no h

set_option maxHeartbeats 32000000 in
set_option maxRecDepth 100000 in
theorem parseUint10_any (t : ByteArray) (h0 : 0 < t.size) (hd : DigsOk 10 t.data.toList) (w : World) :
    Calls Tryz.prog 172 #[.string t, .int .i64 10, .int .i64 64] w fun e w' => e = .returned (.tuple #[.int .u64 (numB 10 t.data.toList : Nat), .nilIface]) ∧ Below w.heap.size w w' := by
  have hemp := isEmpty_ne h0
  have hsz : t.size ≤ 10 := by have := hd.2; rw [size_toList] at this; exact this
  have hbd := numB_bd (b := 10) (by decide) hd
  have hcv := Lib.run_convert_string_bytes (P := Tryz.prog) w 9 38 5 t (u := .string) Tryz.underlying9 Tryz.underlying38 Tryz.underlying5
  have hB : ∀ j, j < t.size → (Lib.bytesWorld w 5 t).cell? ⟨w.heap.size, j, none⟩ = some (.int .u8 (t.data.toList.getD j 0).toNat) := fun j hj => Lib.bytesWorld_cell w 5 t j hj
  have hbel : Below w.heap.size w (Lib.bytesWorld w 5 t) := below_bytes w _ t
  obtain ⟨W1, hW1⟩ : ∃ W1, W1 = Lib.bytesWorld w 5 t := ⟨_, rfl⟩
  rw [← hW1] at hcv hB hbel
  clear hW1
  obtain ⟨bs, hL⟩ : ∃ bs, bs = t.data.toList := ⟨_, rfl⟩
  have hLn : bs.length = t.size := by rw [hL, size_toList]
  rw [← hL] at hB hd hbd ⊢
  clear hL
  have hmv : IntKind.u64.wrap (IntKind.u64.wrap 18446744073709551616 - 1) = 18446744073709551615 := by
    rw [IntKind.wrap_u64, IntKind.wrap_u64]
    decide
  have HD := Lib.hid hd
  have HBL := Lib.hid hbel
  clear hd hbd hbel
  go_enter Tryz.func172, Tryz.ntmps172
  go_wp2
  go_loop [12, 13, 101] (fun vu vn vi => ∃ (k : Nat) (a : Int), vu = .bool false ∧ vn = .int .u64 a ∧ vi = .int .i64 k ∧ k ≤ t.size ∧ Hid (a = (numB 10 (bs.take k) : Nat)))
    (fun _ _ vi => t.size - (intOf vi).toNat)
  case atStart => exact ⟨0, 0, rfl, rfl, rfl, by omega, Lib.hid rfl⟩
  case round =>
    obtain ⟨k, a, rfl, rfl, rfl, hk, hh⟩ := hrel
    have ha := hh.out
    have hbd := numB_bd (b := 10) (by decide) (digsOk_take HD.out k)
    have a0 : 0 ≤ a := by omega
    have a1 : a < 1099511627776 := by omega
    clear hh hbd
    by_cases hkn : k < t.size
    · have hc := hB k hkn
      have htk : bs.take (k + 1) = bs.take k ++ [bs[k]'(by omega)] := by rw [List.take_succ_eq_append_getElem (by omega)]
      have hget : bs.getD k 0 = bs[k]'(by omega) := by simp [List.getD, List.getElem?_eq_getElem (show k < bs.length by omega)]
      have hok : digOk 10 (bs[k]'(by omega)) = true := List.all_eq_true.1 HD.out.1 _ (List.getElem_mem _)
      rw [hget] at hc
      have hsn : numB 10 (bs.take (k + 1)) = numB 10 (bs.take k) * 10 + dig (bs[k]'(by omega)) := by rw [htk, numB_snoc]
      generalize bs[k]'(by omega) = c at hc hok hsn
      have hc256 : c.toNat < 256 := c.toNat_lt
      clear hB htk hget
      have hcase : 48 ≤ c.toNat ∧ c.toNat ≤ 57 ∨ 10 = 16 ∧ 65 ≤ c.toNat ∧ c.toNat ≤ 70 := of_decide_eq_true hok
      clear hok
      by_cases hdig : c.toNat ≤ 57
      · have hd0 : 48 ≤ c.toNat := by omega
        have HN : Hid (a * 10 + ((c.toNat : Int) - 48) = (numB 10 (bs.take (k + 1)) : Nat)) := Lib.hid (by rw [hsn]; unfold dig; rw [if_pos (by omega)]; omega)
        clear hsn ha hcase
        go_wp2
        refine ⟨⟨k + 1, a * 10 + ((c.toNat : Int) - 48), rfl, (by first | rfl | (congr 1; omega)), (by first | rfl | (congr 1; omega)), by omega, HN⟩, by simp [intOf]; omega⟩
      · exact absurd hcase (by omega)
    · have hkk : k = t.size := by omega
      subst hkk
      have e : bs.take t.size = bs := List.take_of_length_le (by omega)
      rw [e] at ha
      subst ha
      clear a0 a1
      go_wp2
      go_ret2
      exact ⟨rfl, HBL.out⟩

set_option maxHeartbeats 32000000 in
set_option maxRecDepth 100000 in
theorem parseUint16_any (t : ByteArray) (h0 : 0 < t.size) (hd : DigsOk 16 t.data.toList) (w : World) :
    Calls Tryz.prog 172 #[.string t, .int .i64 16, .int .i64 64] w fun e w' => e = .returned (.tuple #[.int .u64 (numB 16 t.data.toList : Nat), .nilIface]) ∧ Below w.heap.size w w' := by
  have hemp := isEmpty_ne h0
  have hsz : t.size ≤ 10 := by have := hd.2; rw [size_toList] at this; exact this
  have hbd := numB_bd (b := 16) (by decide) hd
  have hcv := Lib.run_convert_string_bytes (P := Tryz.prog) w 9 38 5 t (u := .string) Tryz.underlying9 Tryz.underlying38 Tryz.underlying5
  have hB : ∀ j, j < t.size → (Lib.bytesWorld w 5 t).cell? ⟨w.heap.size, j, none⟩ = some (.int .u8 (t.data.toList.getD j 0).toNat) := fun j hj => Lib.bytesWorld_cell w 5 t j hj
  have hbel : Below w.heap.size w (Lib.bytesWorld w 5 t) := below_bytes w _ t
  obtain ⟨W1, hW1⟩ : ∃ W1, W1 = Lib.bytesWorld w 5 t := ⟨_, rfl⟩
  rw [← hW1] at hcv hB hbel
  clear hW1
  obtain ⟨bs, hL⟩ : ∃ bs, bs = t.data.toList := ⟨_, rfl⟩
  have hLn : bs.length = t.size := by rw [hL, size_toList]
  rw [← hL] at hB hd hbd ⊢
  clear hL
  have hmv : IntKind.u64.wrap (IntKind.u64.wrap 18446744073709551616 - 1) = 18446744073709551615 := by
    rw [IntKind.wrap_u64, IntKind.wrap_u64]
    decide
  have HD := Lib.hid hd
  have HBL := Lib.hid hbel
  clear hd hbd hbel
  go_enter Tryz.func172, Tryz.ntmps172
  go_wp2
  go_loop [12, 13, 101] (fun vu vn vi => ∃ (k : Nat) (a : Int), vu = .bool false ∧ vn = .int .u64 a ∧ vi = .int .i64 k ∧ k ≤ t.size ∧ Hid (a = (numB 16 (bs.take k) : Nat)))
    (fun _ _ vi => t.size - (intOf vi).toNat)
  case atStart => exact ⟨0, 0, rfl, rfl, rfl, by omega, Lib.hid rfl⟩
  case round =>
    obtain ⟨k, a, rfl, rfl, rfl, hk, hh⟩ := hrel
    have ha := hh.out
    have hbd := numB_bd (b := 16) (by decide) (digsOk_take HD.out k)
    have a0 : 0 ≤ a := by omega
    have a1 : a < 1099511627776 := by omega
    clear hh hbd
    by_cases hkn : k < t.size
    · have hc := hB k hkn
      have htk : bs.take (k + 1) = bs.take k ++ [bs[k]'(by omega)] := by rw [List.take_succ_eq_append_getElem (by omega)]
      have hget : bs.getD k 0 = bs[k]'(by omega) := by simp [List.getD, List.getElem?_eq_getElem (show k < bs.length by omega)]
      have hok : digOk 16 (bs[k]'(by omega)) = true := List.all_eq_true.1 HD.out.1 _ (List.getElem_mem _)
      rw [hget] at hc
      have hsn : numB 16 (bs.take (k + 1)) = numB 16 (bs.take k) * 16 + dig (bs[k]'(by omega)) := by rw [htk, numB_snoc]
      generalize bs[k]'(by omega) = c at hc hok hsn
      have hc256 : c.toNat < 256 := c.toNat_lt
      clear hB htk hget
      have hcase : 48 ≤ c.toNat ∧ c.toNat ≤ 57 ∨ 16 = 16 ∧ 65 ≤ c.toNat ∧ c.toNat ≤ 70 := of_decide_eq_true hok
      clear hok
      by_cases hdig : c.toNat ≤ 57
      · have hd0 : 48 ≤ c.toNat := by omega
        have HN : Hid (a * 16 + ((c.toNat : Int) - 48) = (numB 16 (bs.take (k + 1)) : Nat)) := Lib.hid (by rw [hsn]; unfold dig; rw [if_pos (by omega)]; omega)
        clear hsn ha hcase
        go_wp2
        refine ⟨⟨k + 1, a * 16 + ((c.toNat : Int) - 48), rfl, (by first | rfl | (congr 1; omega)), (by first | rfl | (congr 1; omega)), by omega, HN⟩, by simp [intOf]; omega⟩
      · have hd0 : 65 ≤ c.toNat := by omega
        have hd1 : c.toNat ≤ 70 := by omega
        have hd2 : 57 < c.toNat := by omega
        have HN : Hid (a * 16 + ((c.toNat : Int) + 32 - 97 + 10) = (numB 16 (bs.take (k + 1)) : Nat)) := Lib.hid (by rw [hsn]; unfold dig; rw [if_neg (by omega)]; omega)
        clear hsn ha hcase hdig
        go_wp2_with (go_at_call 181; refine (lower_up _ (by omega) (by omega) _).mono ?_; rintro e w' ⟨rfl, rfl⟩)
        refine ⟨⟨k + 1, a * 16 + ((c.toNat : Int) + 32 - 97 + 10), rfl, (by first | rfl | (congr 1; omega)), (by first | rfl | (congr 1; omega)), by omega, HN⟩, by simp [intOf]; omega⟩
    · have hkk : k = t.size := by omega
      subst hkk
      have e : bs.take t.size = bs := List.take_of_length_le (by omega)
      rw [e] at ha
      subst ha
      clear a0 a1
      go_wp2
      go_ret2
      exact ⟨rfl, HBL.out⟩
end Go.Proofs.YtjhkfjbgdaomeaaGreatDoor
/- strconv.ParseInt and ucd.number: digits give their number, no digits give 0. -/
namespace Go.Proofs.YtjhkfjbgdaomeaaGreatDoor
set_option linter.unusedVariables false
open Go.RowKit

set_option maxHeartbeats 4000000 in
set_option maxRecDepth 100000 in
theorem parseInt10_in (t : ByteArray) (h0 : 0 < t.size) (hd : DigsOk 10 t.data.toList) (w : World) :
    Calls Tryz.prog 163 #[.string t, .int .i64 10, .int .i64 64] w fun e w' => e = .returned (.tuple #[.int .i64 (numB 10 t.data.toList : Nat), .nilIface]) ∧ Below w.heap.size w w' := by
  have hemp := isEmpty_ne h0
  have hsz : t.size ≤ 10 := by have := hd.2; rw [size_toList] at this; exact this
  have hbd := numB_bd (b := 10) (by decide) hd
  have hok : digOk 10 (t[0]'h0) = true := List.all_eq_true.1 hd.1 _ (List.getElem_mem (l := t.data.toList) (n := 0) (by rw [size_toList]; exact h0))
  have hcase : 48 ≤ (t[0]'h0).toNat ∧ (t[0]'h0).toNat ≤ 57 ∨ 10 = 16 ∧ 65 ≤ (t[0]'h0).toNat ∧ (t[0]'h0).toNat ≤ 70 := of_decide_eq_true hok
  have h48 : 48 ≤ (t[0]'h0).toNat := by omega
  clear hok hcase
  have HC : Hid (∀ w, Calls Tryz.prog 172 #[.string t, .int .i64 10, .int .i64 64] w fun e w' => e = .returned (.tuple #[.int .u64 (numB 10 t.data.toList : Nat), .nilIface]) ∧ Below w.heap.size w w') := Lib.hid (parseUint10_any t h0 hd)
  clear hd
  obtain ⟨N, hN⟩ : ∃ N : Int, N = (numB 10 t.data.toList : Nat) := ⟨_, rfl⟩
  rw [← hN] at HC ⊢
  have n0 : 0 ≤ N := by omega
  have n1 : N < 1099511627776 := by omega
  clear hN hbd
  go_enter Tryz.func163, Tryz.ntmps163
  go_wp2_with (go_at_call 172; refine (HC.out _).mono ?_; rintro e w1 ⟨rfl, hb1⟩)
  go_ret2
  exact ⟨rfl, hb1⟩
set_option maxHeartbeats 4000000 in
set_option maxRecDepth 100000 in
theorem parseInt10_any (t : ByteArray) (h0 : 0 < t.size) (hd : DigsOk 10 t.data.toList) (w : World) :
    Calls Tryz.prog 155 #[.string t, .int .i64 10, .int .i64 64] w fun e w' => e = .returned (.tuple #[.int .i64 (numB 10 t.data.toList : Nat), .nilIface]) ∧ Below w.heap.size w w' := by
  have HC : Hid (∀ w, Calls Tryz.prog 163 #[.string t, .int .i64 10, .int .i64 64] w fun e w' => e = .returned (.tuple #[.int .i64 (numB 10 t.data.toList : Nat), .nilIface]) ∧ Below w.heap.size w w') := Lib.hid (parseInt10_in t h0 hd)
  generalize (numB 10 t.data.toList : Int) = N at *
  clear hd h0
  go_enter Tryz.func155, Tryz.ntmps155
  go_wp2_with (go_at_call 163; refine (HC.out _).mono ?_; rintro e w1 ⟨rfl, hb1⟩)
  go_ret2
  exact ⟨rfl, hb1⟩

set_option maxHeartbeats 4000000 in
set_option maxRecDepth 100000 in
theorem parseInt16_in (t : ByteArray) (h0 : 0 < t.size) (hd : DigsOk 16 t.data.toList) (w : World) :
    Calls Tryz.prog 163 #[.string t, .int .i64 16, .int .i64 64] w fun e w' => e = .returned (.tuple #[.int .i64 (numB 16 t.data.toList : Nat), .nilIface]) ∧ Below w.heap.size w w' := by
  have hemp := isEmpty_ne h0
  have hsz : t.size ≤ 10 := by have := hd.2; rw [size_toList] at this; exact this
  have hbd := numB_bd (b := 16) (by decide) hd
  have hok : digOk 16 (t[0]'h0) = true := List.all_eq_true.1 hd.1 _ (List.getElem_mem (l := t.data.toList) (n := 0) (by rw [size_toList]; exact h0))
  have hcase : 48 ≤ (t[0]'h0).toNat ∧ (t[0]'h0).toNat ≤ 57 ∨ 16 = 16 ∧ 65 ≤ (t[0]'h0).toNat ∧ (t[0]'h0).toNat ≤ 70 := of_decide_eq_true hok
  have h48 : 48 ≤ (t[0]'h0).toNat := by omega
  clear hok hcase
  have HC : Hid (∀ w, Calls Tryz.prog 172 #[.string t, .int .i64 16, .int .i64 64] w fun e w' => e = .returned (.tuple #[.int .u64 (numB 16 t.data.toList : Nat), .nilIface]) ∧ Below w.heap.size w w') := Lib.hid (parseUint16_any t h0 hd)
  clear hd
  obtain ⟨N, hN⟩ : ∃ N : Int, N = (numB 16 t.data.toList : Nat) := ⟨_, rfl⟩
  rw [← hN] at HC ⊢
  have n0 : 0 ≤ N := by omega
  have n1 : N < 1099511627776 := by omega
  clear hN hbd
  go_enter Tryz.func163, Tryz.ntmps163
  go_wp2_with (go_at_call 172; refine (HC.out _).mono ?_; rintro e w1 ⟨rfl, hb1⟩)
  go_ret2
  exact ⟨rfl, hb1⟩
set_option maxHeartbeats 4000000 in
set_option maxRecDepth 100000 in
theorem parseInt16_any (t : ByteArray) (h0 : 0 < t.size) (hd : DigsOk 16 t.data.toList) (w : World) :
    Calls Tryz.prog 155 #[.string t, .int .i64 16, .int .i64 64] w fun e w' => e = .returned (.tuple #[.int .i64 (numB 16 t.data.toList : Nat), .nilIface]) ∧ Below w.heap.size w w' := by
  have HC : Hid (∀ w, Calls Tryz.prog 163 #[.string t, .int .i64 16, .int .i64 64] w fun e w' => e = .returned (.tuple #[.int .i64 (numB 16 t.data.toList : Nat), .nilIface]) ∧ Below w.heap.size w w') := Lib.hid (parseInt16_in t h0 hd)
  generalize (numB 16 t.data.toList : Int) = N at *
  clear hd h0
  go_enter Tryz.func155, Tryz.ntmps155
  go_wp2_with (go_at_call 163; refine (HC.out _).mono ?_; rintro e w1 ⟨rfl, hb1⟩)
  go_ret2
  exact ⟨rfl, hb1⟩

/-- what is read of strconv.ErrSyntax is some interface value. -/
def ErrAt (w : World) : Prop := ∃ t p, w.cell? ⟨9, 0, none⟩ = some (.iface t p) ∧ 9 < w.heap.size
theorem ErrAt.below {w w' : World} (h : ErrAt w) (hb : Below w.heap.size w w') : ErrAt w' := by
  obtain ⟨t, p, h1, h2⟩ := h
  exact ⟨t, p, by rw [hb.cell (p := ⟨_, 0, none⟩) h2]; exact h1, Nat.lt_of_lt_of_le h2 hb.size⟩
set_option maxHeartbeats 4000000 in
set_option maxRecDepth 100000 in
theorem parseIntE_in (b : Int) (w : World) :
    Calls Tryz.prog 163 #[.string ByteArray.empty, .int .i64 b, .int .i64 64] w fun e w' => e = .returned (.tuple #[.int .i64 0, .iface 214 (.int .i64 2)]) ∧ w = w' := by
  go_enter Tryz.func163, Tryz.ntmps163
  go_wp2
  go_ret2
  exact ⟨rfl, rfl⟩
set_option maxHeartbeats 4000000 in
set_option maxRecDepth 100000 in
theorem cloneE (w : World) :
    Calls Tryz.prog 91 #[.string ByteArray.empty] w fun e w' => e = .returned (.string ByteArray.empty) ∧ w = w' := by
  go_enter Tryz.func91, Tryz.ntmps91
  go_wp2
  go_ret
  exact ⟨rfl, rfl⟩
def SynRes (w : World) (e : Ending) (w' : World) : Prop := ∃ a, e = .returned (.pointer (some a)) ∧ Below w.heap.size w w'
set_option maxHeartbeats 4000000 in
set_option maxRecDepth 100000 in
theorem syntaxErrorE (fn : ByteArray) (w : World) (hE : ErrAt w) :
    Calls Tryz.prog 173 #[.string fn, .string ByteArray.empty] w (SynRes w) := by
  obtain ⟨et, ep, hv, hlt⟩ := hE
  go_enter Tryz.func173, Tryz.ntmps173
  go_wp2_with fail
  go_region_with (go_at_call 91; refine (cloneE _).mono ?_; rintro e w' ⟨rfl, rfl⟩)
  all_goals go_wp2
  all_goals go_ret
  all_goals exact ⟨_, rfl, ((Below.refl _ _).alloc (Nat.le_refl _) _).drew⟩
def IfRes (w : World) (e : Ending) (w' : World) : Prop := ∃ t v, e = .returned (.iface t v) ∧ Below w.heap.size w w'
set_option maxHeartbeats 4000000 in
set_option maxRecDepth 100000 in
theorem toErrorE (fn : ByteArray) (b : Int) (w : World) (hE : ErrAt w) :
    Calls Tryz.prog 164 #[.string fn, .string ByteArray.empty, .int .i64 b, .int .i64 64, .iface 214 (.int .i64 2)] w (IfRes w) := by
  have heq : ∀ W, (binOp .eql 196 (.iface 214 (.int .i64 2)) (.iface 214 (.int .i64 2))).run Tryz.prog W = .ok (.bool true) W := fun W => Lib.run_eql_iface_int W 2 2 Tryz.underlying196 (by kernel_rfl) Tryz.underlying214
  go_enter Tryz.func164, Tryz.ntmps164
  go_wp2_with (go_at_call 173; refine (syntaxErrorE _ _ hE).mono ?_; rintro e w1 ⟨a, rfl, hb⟩)
  go_ret
  exact ⟨_, _, rfl, hb⟩
def NumRes (w : World) (e : Ending) (w' : World) : Prop := ∃ t v, e = .returned (.tuple #[.int .i64 0, .iface t v]) ∧ Below w.heap.size w w'
set_option maxHeartbeats 4000000 in
set_option maxRecDepth 100000 in
theorem parseIntE (b : Int) (w : World) (hE : ErrAt w) :
    Calls Tryz.prog 155 #[.string ByteArray.empty, .int .i64 b, .int .i64 64] w (NumRes w) := by
  go_enter Tryz.func155, Tryz.ntmps155
  go_wp2_with fail
  refine (parseIntE_in _ _).mono ?_
  rintro e w' ⟨rfl, rfl⟩
  go_wp2_with (go_at_call 164; refine (toErrorE _ _ _ hE).mono ?_; rintro e w1 ⟨t, v, rfl, hb⟩)
  go_ret2
  exact ⟨_, _, rfl, hb⟩
/-- ucd.number at digits, or at none. -/
theorem numB_nil (b : Nat) : numB b [] = 0 := rfl
def IntRes (n : Int) (w : World) (e : Ending) (w' : World) : Prop := e = .returned (.int .i64 n) ∧ Below w.heap.size w w'
set_option maxHeartbeats 4000000 in
set_option maxRecDepth 100000 in
theorem numberE (b : Int) (w : World) (hE : ErrAt w) : Calls Tryz.prog 147 #[.string ByteArray.empty, .int .i64 b] w (IntRes 0 w) := by
  go_enter Tryz.func147, Tryz.ntmps147
  go_wp2_with (go_at_call 155; refine (parseIntE _ _ hE).mono ?_; rintro e w1 ⟨t, v, rfl, hb⟩)
  go_ret
  exact ⟨rfl, hb⟩
set_option maxHeartbeats 4000000 in
set_option maxRecDepth 100000 in
theorem number10_some (t : ByteArray) (h0 : 0 < t.size) (hd : DigsOk 10 t.data.toList) (w : World) :
    Calls Tryz.prog 147 #[.string t, .int .i64 10] w (IntRes (numB 10 t.data.toList : Nat) w) := by
  have HC : Hid (∀ w, Calls Tryz.prog 155 #[.string t, .int .i64 10, .int .i64 64] w fun e w' => e = .returned (.tuple #[.int .i64 (numB 10 t.data.toList : Nat), .nilIface]) ∧ Below w.heap.size w w') := Lib.hid (parseInt10_any t h0 hd)
  generalize (numB 10 t.data.toList : Int) = N at *
  clear hd h0
  go_enter Tryz.func147, Tryz.ntmps147
  go_wp2_with (go_at_call 155; refine (HC.out _).mono ?_; rintro e w1 ⟨rfl, hb1⟩)
  go_ret
  exact ⟨rfl, hb1⟩
set_option maxHeartbeats 4000000 in
set_option maxRecDepth 100000 in
theorem number16_some (t : ByteArray) (h0 : 0 < t.size) (hd : DigsOk 16 t.data.toList) (w : World) :
    Calls Tryz.prog 147 #[.string t, .int .i64 16] w (IntRes (numB 16 t.data.toList : Nat) w) := by
  have HC : Hid (∀ w, Calls Tryz.prog 155 #[.string t, .int .i64 16, .int .i64 64] w fun e w' => e = .returned (.tuple #[.int .i64 (numB 16 t.data.toList : Nat), .nilIface]) ∧ Below w.heap.size w w') := Lib.hid (parseInt16_any t h0 hd)
  generalize (numB 16 t.data.toList : Int) = N at *
  clear hd h0
  go_enter Tryz.func147, Tryz.ntmps147
  go_wp2_with (go_at_call 155; refine (HC.out _).mono ?_; rintro e w1 ⟨rfl, hb1⟩)
  go_ret
  exact ⟨rfl, hb1⟩
theorem number_any (b : Nat) (hb : b = 10 ∨ b = 16) (t : ByteArray) (hd : DigsOk b t.data.toList) (w : World) (hE : ErrAt w) :
    Calls Tryz.prog 147 #[.string t, .int .i64 b] w (IntRes (numB b t.data.toList : Nat) w) := by
  by_cases h0 : 0 < t.size
  · rcases hb with rfl | rfl
    · exact number10_some t h0 hd w
    · exact number16_some t h0 hd w
  · have e : t = ByteArray.empty := by rw [← bs_of t, toList_nil h0]; rfl
    subst e
    exact numberE _ w hE
end Go.Proofs.YtjhkfjbgdaomeaaGreatDoor
/- Plain facts on a text of lines and on its lines' words: where the middle line begins, which line is of a character. No program is named here. -/
namespace Go.Proofs.YtjhkfjbgdaomeaaGreatDoor
set_option linter.unusedVariables false
open Go.RowKit

/-- lines, each with a line's end. -/
def textL : List (List UInt8) → List UInt8
  | [] => []
  | l :: r => l ++ 10 :: textL r
theorem textL_append (a b : List (List UInt8)) : textL (a ++ b) = textL a ++ textL b := by
  induction a with
  | nil => rfl
  | cons l r ih => simp [textL, ih]
/-- no line holds a line's end. -/
def Lined (ls : List (List UInt8)) : Prop := ∀ l ∈ ls, (10 : UInt8) ∉ l
theorem middle (ls : List (List UInt8)) : ∀ (n k : Nat), Lined ls → n < (textL ls).length → k ≤ n → (10 : UInt8) ∉ ((textL ls).take n).drop k → (k = 0 ∨ ((textL ls).take n)[k - 1]? = some 10) →
    ∃ A l B, ls = A ++ l :: B ∧ k = (textL A).length := by
  induction ls with
  | nil => intro n k _ hn; simp [textL] at hn
  | cons l r ih =>
    intro n k hL hn hk h1 h2
    have hl : (10 : UInt8) ∉ l := hL l (List.mem_cons_self ..)
    by_cases hle : n ≤ l.length
    · have e : (textL (l :: r)).take n = l.take n := by simp [textL, List.take_append_of_le_length hle]
      rw [e] at h1 h2
      rcases h2 with rfl | h2
      · exact ⟨[], l, r, rfl, rfl⟩
      · exact absurd (List.mem_of_mem_take (List.mem_of_getElem? h2)) hl
    · obtain ⟨n', rfl⟩ : ∃ n', n = l.length + 1 + n' := ⟨n - l.length - 1, by omega⟩
      have e : (textL (l :: r)).take (l.length + 1 + n') = l ++ 10 :: (textL r).take n' := by
        show (l ++ 10 :: textL r).take _ = _
        rw [Nat.add_assoc, List.take_length_add_append, Nat.add_comm 1 n', List.take_succ_cons]
      rw [e] at h1 h2
      have hk1 : l.length + 1 ≤ k := by
        rcases Nat.lt_or_ge l.length k with h | h
        · exact h
        · exact absurd (by rw [List.drop_append_of_le_length h]; simp) h1
      obtain ⟨k', rfl⟩ : ∃ k', k = l.length + 1 + k' := ⟨k - l.length - 1, by omega⟩
      have e1 : (l ++ 10 :: (textL r).take n').drop (l.length + 1 + k') = ((textL r).take n').drop k' := by
        rw [Nat.add_assoc, List.drop_length_add_append, Nat.add_comm 1 k', List.drop_succ_cons]
      rw [e1] at h1
      have h2' : k' = 0 ∨ ((textL r).take n')[k' - 1]? = some 10 := by
        rcases Nat.eq_zero_or_pos k' with h | h
        · exact .inl h
        · refine .inr ?_
          rcases h2 with h2 | h2
          · omega
          · rw [List.getElem?_append_right (by omega)] at h2
            have : l.length + 1 + k' - 1 - l.length = (k' - 1) + 1 := by omega
            rw [this, List.getElem?_cons_succ] at h2
            exact h2
      have hn' : n' < (textL r).length := by simp [textL] at hn; omega
      obtain ⟨A, m, B, rfl, rfl⟩ := ih n' k' (fun x hx => hL x (List.mem_cons_of_mem _ hx)) hn' (by omega) h1 h2'
      exact ⟨l :: A, m, B, rfl, by simp [textL]; omega⟩

theorem span_at {c : UInt8} {l : List UInt8} (h : c ∈ l) : l = l.takeWhile (· != c) ++ c :: (l.dropWhile (· != c)).drop 1 ∧ c ∉ l.takeWhile (· != c) := by
  induction l with
  | nil => simp at h
  | cons b r ih =>
    by_cases e : b = c
    · subst e; simp
    · have hr : c ∈ r := by rcases List.mem_cons.1 h with h | h
                            · exact absurd h.symm e
                            · exact h
      obtain ⟨h1, h2⟩ := ih hr
      have e' : (b != c) = true := by simpa using e
      rw [List.takeWhile_cons, if_pos e', List.dropWhile_cons, if_pos e']
      refine ⟨by rw [List.cons_append, ← h1], ?_⟩
      simp only [List.mem_cons, not_or]
      exact ⟨fun x => e x.symm, h2⟩
theorem indexByte_at {c : UInt8} : ∀ {A B : List UInt8}, c ∉ A → Lib.indexByte (A ++ c :: B) c = A.length := by
  intro A
  induction A with
  | nil => intro B _; simp [Lib.indexByte]
  | cons a A ih =>
    intro B h
    simp only [List.mem_cons, not_or] at h
    have h1 : (a == c) = false := by simpa using fun x => h.1 x.symm
    rw [List.cons_append, Lib.indexByte, h1, ih h.2]
    simp only [Bool.false_eq_true, if_false, List.length_cons]
    rw [if_neg (by simp)]
    omega

abbrev Row := Nat × Nat × List UInt8
def cutA (l : List UInt8) : List UInt8 := l.takeWhile (· != 32)
def cutB (l : List UInt8) : List UInt8 := (l.dropWhile (· != 32)).drop 1
/-- a line of api's classes, read. -/
def rdC (l : List UInt8) : Row := (numB 16 (cutA l), numB 16 (cutA (cutB l)), cutB (cutB l))
/-- a line of api's maps, read. -/
def rdM (l : List UInt8) : Row := (numB 16 (cutA l), numB 16 (cutA l), cutB l)
def digsB (b : Nat) (l : List UInt8) : Bool := l.all (digOk b) && decide (l.length ≤ 10)
theorem digsB_ok {b : Nat} {l : List UInt8} (h : digsB b l = true) : DigsOk b l := by
  unfold digsB at h; rw [Bool.and_eq_true] at h; exact ⟨h.1, of_decide_eq_true h.2⟩
def okC (l : List UInt8) : Bool := l.contains 32 && (cutB l).contains 32 && digsB 16 (cutA l) && digsB 16 (cutA (cutB l)) && digsB 10 (cutB (cutB l)) && !l.contains 10 && decide (l.length ≤ 100)
def okM (l : List UInt8) : Bool := l.contains 32 && digsB 16 (cutA l) && !l.contains 10 && decide (l.length ≤ 100)
/-- the rest of the line of lines that is of c, or nothing. -/
def findP (rd : List UInt8 → Row) (c : Int) (ls : List (List UInt8)) : List UInt8 :=
  match ls.find? (fun l => decide (((rd l).1 : Int) ≤ c ∧ c ≤ ((rd l).2.1 : Int))) with
  | some l => (rd l).2.2
  | none => []
/-- the lines rise. -/
def Rise (rd : List UInt8 → Row) (ls : List (List UInt8)) : Prop := ls.Pairwise (fun l m => (rd l).2.1 < (rd m).1) ∧ ∀ l ∈ ls, (rd l).1 ≤ (rd l).2.1
theorem Rise.left {rd : List UInt8 → Row} {A B : List (List UInt8)} (h : Rise rd (A ++ B)) : Rise rd A := ⟨(List.pairwise_append.1 h.1).1, fun l hl => h.2 l (List.mem_append_left _ hl)⟩
theorem Rise.right {rd : List UInt8 → Row} {A B : List (List UInt8)} (h : Rise rd (A ++ B)) : Rise rd B := ⟨(List.pairwise_append.1 h.1).2.1, fun l hl => h.2 l (List.mem_append_right _ hl)⟩
theorem find_lower {rd : List UInt8 → Row} {c : Int} {A B : List (List UInt8)} {l : List UInt8} (h : Rise rd (A ++ l :: B)) (hc : c < ((rd l).1 : Int)) : findP rd c (A ++ l :: B) = findP rd c A := by
  unfold findP
  rw [List.find?_append]
  have e : (l :: B).find? (fun l => decide (((rd l).1 : Int) ≤ c ∧ c ≤ ((rd l).2.1 : Int))) = none := by
    rw [List.find?_eq_none]
    intro m hm
    have h1 := h.right
    have : (rd l).1 ≤ (rd m).1 := by
      rcases List.mem_cons.1 hm with rfl | hm
      · exact Nat.le_refl _
      · have := List.rel_of_pairwise_cons h1.1 hm
        have := h1.2 l (List.mem_cons_self ..)
        omega
    simp; omega
  rw [e]
  cases A.find? _ <;> rfl
theorem find_upper {rd : List UInt8 → Row} {c : Int} {A B : List (List UInt8)} {l : List UInt8} (h : Rise rd (A ++ l :: B)) (hc : ((rd l).2.1 : Int) < c) : findP rd c (A ++ l :: B) = findP rd c B := by
  unfold findP
  rw [List.find?_append]
  have h0 := h.2 l (List.mem_append_right _ (List.mem_cons_self ..))
  have e : A.find? (fun l => decide (((rd l).1 : Int) ≤ c ∧ c ≤ ((rd l).2.1 : Int))) = none := by
    rw [List.find?_eq_none]
    intro m hm
    have := (List.pairwise_append.1 h.1).2.2 m hm l (List.mem_cons_self ..)
    simp; omega
  rw [e, List.find?_cons_of_neg (by simp; omega)]
  rfl
theorem find_here {rd : List UInt8 → Row} {c : Int} {A B : List (List UInt8)} {l : List UInt8} (h : Rise rd (A ++ l :: B)) (hc : ((rd l).1 : Int) ≤ c) (hc2 : c ≤ ((rd l).2.1 : Int)) : findP rd c (A ++ l :: B) = (rd l).2.2 := by
  unfold findP
  rw [List.find?_append]
  have e : A.find? (fun l => decide (((rd l).1 : Int) ≤ c ∧ c ≤ ((rd l).2.1 : Int))) = none := by
    rw [List.find?_eq_none]
    intro m hm
    have := (List.pairwise_append.1 h.1).2.2 m hm l (List.mem_cons_self ..)
    simp; omega
  rw [e, List.find?_cons_of_pos (by simp; omega)]
  rfl
end Go.Proofs.YtjhkfjbgdaomeaaGreatDoor
/- The library contracts that the walks of ucd take: an index of one byte in a text, laid at this program in plain words by the shelf tool. -/
namespace Go.Proofs
open Go.Shelf
def Tryz.lays217_ren : Go.Shelf.Ren := ⟨fun | 217 => 185 | 266 => 191 | n => n, fun | 9 => 9 | 5 => 5 | 3 => 3 | n => n, fun | n => n⟩
theorem Tryz.lays217 : Go.Proofs.Lays.n217 Tryz.prog Tryz.lays217_ren := {
  mixed := by kernel_rfl
  f217 := Tryz.func185.trans (congrArg some (by kernel_rfl))
  f266 := Tryz.func191.trans (congrArg some (by kernel_rfl))
  t3 := Tryz.underlying3
  a3 := Tryz.isAgg3
  z3 := Tryz.sizeOf3
  v3 := Tryz.zeroValue3
  t5 := Tryz.underlying5
  a5 := Tryz.isAgg5
  z5 := Tryz.sizeOf5
  v5 := Tryz.zeroValue5
  t9 := Tryz.underlying9
  a9 := Tryz.isAgg9
  z9 := Tryz.sizeOf9
  v9 := Tryz.zeroValue9 }
open Go.RowKit Go.Lib in
/-- internal/stringslite.IndexByte (what strings.IndexByte calls): IT RETURNS 'Lib.indexByte s c'; the world is as it was. (LAID: no walk: one application.) -/
theorem Tryz.stringslite_IndexByte (s : ByteArray) (c : Int) (w : World) :
    Calls Tryz.prog 185 #[.string s, .int .u8 c] w fun e w' => e = .returned (.int .i64 (Lib.indexByte s.data.toList c.toNat.toUInt8)) ∧ w' = w := Any.stringslite_IndexByte Tryz.lays217 s c w
def Tryz.lays224_ren : Go.Shelf.Ren := ⟨fun | 224 => 187 | n => n, fun | 3 => 3 | n => n, fun | n => n⟩
theorem Tryz.lays224 : Go.Proofs.Lays.n224 Tryz.prog Tryz.lays224_ren := {
  mixed := by kernel_rfl
  f224 := Tryz.func187.trans (congrArg some (by kernel_rfl))
  t3 := Tryz.underlying3
  a3 := Tryz.isAgg3
  z3 := Tryz.sizeOf3
  v3 := Tryz.zeroValue3 }
open Go.RowKit Go.Lib in
/-- internal/bytealg.Cutover: "Cutover reports the number of failures of IndexByte we should tolerate before switching over to Index. n is the number of bytes processed so far.": on amd64: (n + 16) / 8. (LAID: no walk: one application.) -/
theorem Tryz.bytealg_Cutover (n : Int) (h0 : 0 ≤ n) (h1 : n < 4611686018427387904) (w : World) :
    Calls Tryz.prog 187 #[.int .i64 n] w fun e w' => e = .returned (.int .i64 ((n + 16) / 8)) ∧ w' = w := Any.bytealg_Cutover Tryz.lays224 n h0 h1 w
def Tryz.lays314_ren : Go.Shelf.Ren := ⟨fun | 314 => 192 | n => n, fun | 9 => 9 | 51 => 123 | 3 => 3 | 4 => 4 | 5 => 5 | 46 => 121 | n => n, fun | n => n⟩
theorem Tryz.lays314 : Go.Proofs.Lays.n314 Tryz.prog Tryz.lays314_ren := {
  mixed := by kernel_rfl
  f314 := Tryz.func192.trans (congrArg some (by kernel_rfl))
  t3 := Tryz.underlying3
  a3 := Tryz.isAgg3
  z3 := Tryz.sizeOf3
  v3 := Tryz.zeroValue3
  t4 := Tryz.underlying4
  a4 := Tryz.isAgg4
  z4 := Tryz.sizeOf4
  v4 := Tryz.zeroValue4
  t5 := Tryz.underlying5
  a5 := Tryz.isAgg5
  z5 := Tryz.sizeOf5
  v5 := Tryz.zeroValue5
  t9 := Tryz.underlying9
  a9 := Tryz.isAgg9
  z9 := Tryz.sizeOf9
  v9 := Tryz.zeroValue9
  t46 := Tryz.underlying121
  a46 := Tryz.isAgg121
  z46 := Tryz.sizeOf121
  v46 := Tryz.zeroValue121
  t51 := Tryz.underlying123
  a51 := Tryz.isAgg123
  z51 := Tryz.sizeOf123
  v51 := Tryz.zeroValue123 }
open Go.RowKit Go.Lib in
/-- hashStr: "returns the hash and the appropriate multiplicative factor for use in Rabin-Karp algorithm": THE HASH OF ALL OF sep, AND 16777619 ^ len(sep), both in uint32. (LAID: no walk: one application.) -/
theorem Tryz.bytealg_hashStr (sep : ByteArray) (hs : sep.size < 4294967281) (w : World) :
    Calls Tryz.prog 192 #[.string sep] w fun e w' => e = .returned (.tuple #[.int .u32 (RK.H sep.data.toList % 4294967296), .int .u32 (16777619 ^ sep.size % 4294967296)]) ∧ w' = w := Any.bytealg_hashStr Tryz.lays314 sep hs w
def Tryz.lays267_ren : Go.Shelf.Ren := ⟨fun | 267 => 188 | 314 => 192 | n => n, fun | 9 => 9 | 3 => 3 | 146 => 244 | 51 => 123 | 4 => 4 | 5 => 5 | 46 => 121 | n => n, fun | n => n⟩
theorem Tryz.lays267 : Go.Proofs.Lays.n267 Tryz.prog Tryz.lays267_ren := {
  mixed := by kernel_rfl
  f267 := Tryz.func188.trans (congrArg some (by kernel_rfl))
  f314 := Tryz.func192.trans (congrArg some (by kernel_rfl))
  t3 := Tryz.underlying3
  a3 := Tryz.isAgg3
  z3 := Tryz.sizeOf3
  v3 := Tryz.zeroValue3
  t4 := Tryz.underlying4
  a4 := Tryz.isAgg4
  z4 := Tryz.sizeOf4
  v4 := Tryz.zeroValue4
  t5 := Tryz.underlying5
  a5 := Tryz.isAgg5
  z5 := Tryz.sizeOf5
  v5 := Tryz.zeroValue5
  t9 := Tryz.underlying9
  a9 := Tryz.isAgg9
  z9 := Tryz.sizeOf9
  v9 := Tryz.zeroValue9
  t46 := Tryz.underlying121
  a46 := Tryz.isAgg121
  z46 := Tryz.sizeOf121
  v46 := Tryz.zeroValue121
  t51 := Tryz.underlying123
  a51 := Tryz.isAgg123
  z51 := Tryz.sizeOf123
  v51 := Tryz.zeroValue123
  t146 := Tryz.underlying244
  a146 := Tryz.isAgg244
  z146 := Tryz.sizeOf244
  v146 := Tryz.zeroValue244 }
open Go.RowKit Go.Lib in
theorem Tryz.bytealg_IndexRabinKarp (s sep : ByteArray) (h1 : 1 ≤ sep.size) (h2 : sep.size ≤ s.size) (hs : s.size < 4294967281) (w : World) :
    Calls Tryz.prog 188 #[.string s, .string sep] w fun e w' => e = .returned (.int .i64 (Lib.index s.data.toList sep.data.toList)) ∧ w' = w := Any.bytealg_IndexRabinKarp Tryz.lays267 s sep h1 h2 hs w
def Tryz.lays219_ren : Go.Shelf.Ren := ⟨fun | 219 => 177 | 217 => 185 | 225 => 186 | 224 => 187 | 267 => 188 | 266 => 191 | 314 => 192 | n => n, fun | 9 => 9 | 3 => 3 | 4 => 4 | 5 => 5 | 46 => 121 | 146 => 244 | 51 => 123 | n => n, fun | 1 => 6 | n => n⟩
theorem Tryz.lays219 : Go.Proofs.Lays.n219 Tryz.prog Tryz.lays219_ren := {
  mixed := by kernel_rfl
  f217 := Tryz.func185.trans (congrArg some (by kernel_rfl))
  f219 := Tryz.func177.trans (congrArg some (by kernel_rfl))
  f224 := Tryz.func187.trans (congrArg some (by kernel_rfl))
  f225 := Tryz.func186.trans (congrArg some (by kernel_rfl))
  f266 := Tryz.func191.trans (congrArg some (by kernel_rfl))
  f267 := Tryz.func188.trans (congrArg some (by kernel_rfl))
  f314 := Tryz.func192.trans (congrArg some (by kernel_rfl))
  t3 := Tryz.underlying3
  a3 := Tryz.isAgg3
  z3 := Tryz.sizeOf3
  v3 := Tryz.zeroValue3
  t4 := Tryz.underlying4
  a4 := Tryz.isAgg4
  z4 := Tryz.sizeOf4
  v4 := Tryz.zeroValue4
  t5 := Tryz.underlying5
  a5 := Tryz.isAgg5
  z5 := Tryz.sizeOf5
  v5 := Tryz.zeroValue5
  t9 := Tryz.underlying9
  a9 := Tryz.isAgg9
  z9 := Tryz.sizeOf9
  v9 := Tryz.zeroValue9
  t46 := Tryz.underlying121
  a46 := Tryz.isAgg121
  z46 := Tryz.sizeOf121
  v46 := Tryz.zeroValue121
  t51 := Tryz.underlying123
  a51 := Tryz.isAgg123
  z51 := Tryz.sizeOf123
  v51 := Tryz.zeroValue123
  t146 := Tryz.underlying244
  a146 := Tryz.isAgg244
  z146 := Tryz.sizeOf244
  v146 := Tryz.zeroValue244
  g1 := by kernel_rfl }
open Go.RowKit Go.Lib in
/-- internal/stringslite.Index (what strings.Index calls) AT A substr OF ONE BYTE c: IT RETURNS 'Lib.indexByte s c'; the world is as it was. (LAID: no walk: one application.) -/
theorem Tryz.stringslite_Index_one (s : ByteArray) (c : UInt8) (w : World) :
    Calls Tryz.prog 177 #[.string s, .string ⟨#[c]⟩] w fun e w' => e = .returned (.int .i64 (Lib.indexByte s.data.toList c)) ∧ w' = w := Any.stringslite_Index_one Tryz.lays219 s c w
end Go.Proofs
/- The walks of strings.LastIndexByte and of strings.Cut at a text of one byte. -/
namespace Go.Proofs.YtjhkfjbgdaomeaaGreatDoor
set_option linter.unusedVariables false
open Go.RowKit

theorem ownsBelow {E B : Nat} {w w' : World} {v : Value} {k : Nat} {vs : List Value} (h : w.ownsRow B E 1 v k vs) (hb : Below w.heap.size w w') : w'.ownsRow B E 1 v k vs := by
  obtain ⟨h1, h2⟩ := h
  refine ⟨h1, ?_⟩
  rcases h2 with h2 | ⟨g, cap, cur, e1, e2, e3, e4⟩
  · exact .inl h2
  · exact .inr ⟨g, cap, cur, e1, e2, (hb.block g (Array.getElem?_eq_some_iff.1 e3).1).trans e3, e4⟩
theorem at_list (s : ByteArray) (k : Nat) (h : k < s.size) : s.data.toList[k]? = some s[k] := by
  rw [List.getElem?_eq_getElem (by rw [size_toList]; exact h), at_toList s k h]
def LastRes (l : List UInt8) (c : UInt8) (w : World) (e : Ending) (w' : World) : Prop :=
  w = w' ∧ ∃ k : Nat, k ≤ l.length ∧ e = .returned (.int .i64 ((k : Int) - 1)) ∧ c ∉ l.drop k ∧ (k = 0 ∨ l[k - 1]? = some c)
theorem drop_less {l : List UInt8} {c : UInt8} {k : Nat} (hk : k < l.length) (h : c ∉ l.drop (k + 1)) (hc : l[k] ≠ c) : c ∉ l.drop k := by
  rw [List.drop_eq_getElem_cons hk]
  simp only [List.mem_cons, not_or]
  exact ⟨fun e => hc e.symm, h⟩
set_option maxHeartbeats 4000000 in
set_option maxRecDepth 100000 in
theorem lastIxIn (s : ByteArray) (c : UInt8) (hs : s.size ≤ 1000000) (w : World) :
    Calls Tryz.prog 165 #[.string s, .int .u8 c.toNat] w (LastRes s.data.toList c w) := by
  go_enter Tryz.func165, Tryz.ntmps165
  go_wp2
  go_loop [5] (fun i => ∃ k : Nat, k ≤ s.size ∧ i = .int .i64 ((k : Int) - 1) ∧ Hid (c ∉ s.data.toList.drop k)) (fun i => (intOf i + 1).toNat)
  case atStart => exact ⟨s.size, Nat.le_refl _, rfl, Lib.hid (by rw [List.drop_of_length_le (by rw [size_toList]; exact Nat.le_refl _)]; simp)⟩
  case round =>
    obtain ⟨k, hk, rfl, hh⟩ := hrel
    by_cases h0 : 0 < k
    · obtain ⟨k, rfl⟩ : ∃ j, k = j + 1 := ⟨k - 1, by omega⟩
      have e1 : ((k + 1 : Nat) : Int) - 1 = (k : Int) := by omega
      rw [e1]
      have hlt : k < s.size := by omega
      clear e1
      by_cases hc : s[k] = c
      · have hcd : ((s[k].toNat : Int) == (c.toNat : Int)) = true := by rw [hc]; simp
        have HP : Hid (k + 1 ≤ s.data.toList.length ∧ c ∉ s.data.toList.drop (k + 1) ∧ s.data.toList[k + 1 - 1]? = some c) := Lib.hid ⟨by rw [size_toList]; omega, hh.out, by rw [Nat.add_sub_cancel, at_list s k hlt, hc]⟩
        clear hh hc
        go_wp2
        go_ret
        exact ⟨rfl, k + 1, HP.out.1, ret_int (by omega), HP.out.2.1, .inr HP.out.2.2⟩
      · have hcd : ((s[k].toNat : Int) == (c.toNat : Int)) = false := by
          rw [beq_eq_false_iff_ne]; exact fun e => hc (UInt8.toNat_inj.1 (by omega))
        have HP : Hid (c ∉ s.data.toList.drop k) := Lib.hid (drop_less (by rw [size_toList]; exact hlt) hh.out (by rw [at_toList s k hlt]; exact hc))
        clear hh hc
        go_wp2
        go_round
        case rel => exact ⟨k, by omega, rfl, HP⟩
        case measure => simp [intOf]
    · obtain rfl : k = 0 := by omega
      go_wp2
      go_ret
      exact ⟨rfl, 0, Nat.zero_le _, rfl, hh.out, .inl rfl⟩
set_option maxHeartbeats 1000000 in
theorem lastIx_any (s : ByteArray) (c : UInt8) (hs : s.size ≤ 1000000) (w : World) :
    Calls Tryz.prog 156 #[.string s, .int .u8 c.toNat] w (LastRes s.data.toList c w) := by
  go_enter Tryz.func156, Tryz.ntmps156
  go_wp2_with (go_at_call 165; refine (lastIxIn s c hs _).mono ?_; rintro e w' ⟨rfl, k, h1, rfl, h2⟩)
  go_ret
  exact ⟨rfl, k, h1, rfl, h2⟩

theorem rest_data' (s : ByteArray) (n : Nat) : (s.extract n s.size).data.toList = s.data.toList.drop n := by
  rw [Lib.extract_data, List.take_of_length_le]; rw [List.length_drop, size_toList]; omega
def CutRes (a b : ByteArray) (w : World) (e : Ending) (w' : World) : Prop := DrN w w' ∧ e = .returned (.tuple #[.string a, .string b, .bool true])
set_option maxHeartbeats 1000000 in
theorem cutIn (s : ByteArray) (c : UInt8) (A B : List UInt8) (hs : s.data.toList = A ++ c :: B) (hc : c ∉ A) (hm : s.size ≤ 1000000) (w : World) :
    Calls Tryz.prog 166 #[.string s, .string ⟨#[c]⟩] w (CutRes (bs A) (bs B) w) := by
  have HI : Hid (∀ w, Calls Tryz.prog 177 #[.string s, .string ⟨#[c]⟩] w fun e w' => e = .returned (.int .i64 (A.length : Nat)) ∧ w = w') := Lib.hid fun w => (Tryz.stringslite_Index_one s c w).mono fun e w' ⟨h1, h2⟩ => by
    rw [hs, indexByte_at hc] at h1; exact ⟨h1, h2.symm⟩
  have hl : A.length + 1 + B.length = s.size := by have := size_toList s; rw [hs] at this; simp at this; omega
  have HA : Hid (s.extract 0 A.length = bs A) := Lib.hid (bs_ext (by rw [Lib.extract_data, hs]; simp))
  have HB : Hid (s.extract (A.length + 1) s.size = bs B) := Lib.hid (bs_ext (by rw [rest_data', hs]; simp))
  have hone : (⟨#[c]⟩ : ByteArray).size = 1 := rfl
  clear hs hc
  go_enter Tryz.func166, Tryz.ntmps166
  go_wp2_with (go_at_call 177; refine (HI.out _).mono ?_; rintro e w' ⟨rfl, rfl⟩)
  go_quiet (fail)
  go_wp2
  go_ret3
  exact ⟨⟨_, rfl⟩, by rw [HA.out, HB.out]; rfl⟩
set_option maxHeartbeats 1000000 in
theorem scut_any (s : ByteArray) (c : UInt8) (A B : List UInt8) (hs : s.data.toList = A ++ c :: B) (hc : c ∉ A) (hm : s.size ≤ 1000000) (w : World) :
    Calls Tryz.prog 157 #[.string s, .string ⟨#[c]⟩] w (CutRes (bs A) (bs B) w) := by
  have HI := Lib.hid (cutIn s c A B hs hc hm)
  clear hs hc
  go_enter Tryz.func157, Tryz.ntmps157
  go_wp2_with (go_at_call 166; refine (HI.out _).mono ?_; rintro e w' ⟨hw, rfl⟩)
  go_ret3
  exact ⟨hw, rfl⟩
end Go.Proofs.YtjhkfjbgdaomeaaGreatDoor
/- The walks of ucd.classRow and ucd.mapRow: a line, read. -/
namespace Go.Proofs.YtjhkfjbgdaomeaaGreatDoor
set_option linter.unusedVariables false
open Go.RowKit

def rowV (r : Row) : Value := .agg #[.int .i64 (r.1 : Nat), .int .i64 (r.2.1 : Nat), .string (bs r.2.2)]
def URowRes (r : Row) (w : World) (e : Ending) (w' : World) : Prop := e = .returned (rowV r) ∧ Below w.heap.size w w'
theorem blk3 {w w4 : World} {T : TypeId} {a b c : Value} (h : Below (w.heap.size + 1) (w.alloc (.cells #[a, b, c] T)) w4) :
    (w4.cell? ⟨w.heap.size, 0, none⟩ = some a ∧ w4.cell? ⟨w.heap.size, 1, none⟩ = some b ∧ w4.cell? ⟨w.heap.size, 2, none⟩ = some c) ∧
    (w4.frozen? ⟨w.heap.size, 0, none⟩ = false ∧ w4.frozen? ⟨w.heap.size, 1, none⟩ = false ∧ w4.frozen? ⟨w.heap.size, 2, none⟩ = false) ∧ w.heap.size < w4.heap.size := by
  have hb := h.block w.heap.size (by omega)
  have hs := h.size
  rw [World.size_alloc] at hs
  rw [heap_alloc_new] at hb
  refine ⟨⟨?_, ?_, ?_⟩, ⟨?_, ?_, ?_⟩, by omega⟩
  all_goals first | (unfold World.cell?; rw [hb]; rfl) | (unfold World.frozen?; rw [hb]; rfl)
theorem cut32 (l : List UInt8) (h : l.contains 32 = true) (hl : l.length ≤ 1000000) (w : World) :
    Calls Tryz.prog 157 #[.string (bs l), .string ⟨#[32]⟩] w (CutRes (bs (cutA l)) (bs (cutB l)) w) := by
  have hm : (32 : UInt8) ∈ l := by simpa using h
  obtain ⟨h1, h2⟩ := span_at hm
  exact scut_any (bs l) 32 (cutA l) (cutB l) (by rw [bs_data]; exact h1) h2 (by rw [bs_size]; exact hl) w
theorem cutA_le (l : List UInt8) : (cutA l).length ≤ l.length := (List.takeWhile_sublist _).length_le
theorem cutB_le (l : List UInt8) : (cutB l).length ≤ l.length := by
  unfold cutB; rw [List.length_drop]; have := (List.dropWhile_sublist (fun x : UInt8 => x != 32) (l := l)).length_le; omega
theorem num_row (b : Nat) (hb : b = 10 ∨ b = 16) (l : List UInt8) (h : digsB b l = true) (w : World) (hE : ErrAt w) :
    Calls Tryz.prog 147 #[.string (bs l), .int .i64 b] w (IntRes (numB b l : Nat) w) := by
  have := number_any b hb (bs l) (by rw [bs_data]; exact digsB_ok h) w hE
  rwa [bs_data] at this
set_option maxHeartbeats 2000000 in
set_option maxRecDepth 100000 in
theorem classRow_any (l : List UInt8) (h : okC l = true) (w : World) (hE : ErrAt w) :
    Calls Tryz.prog 149 #[.string (bs l)] w (URowRes (rdC l) w) := by
  unfold okC at h
  simp only [Bool.and_eq_true, decide_eq_true_eq] at h
  obtain ⟨⟨⟨⟨⟨⟨h1, h2⟩, h3⟩, h4⟩, h5⟩, h6⟩, h7⟩ := h
  have l2 := cutB_le l
  have l3 := cutA_le (cutB l)
  have HC1 := Lib.hid (cut32 l h1 (by omega))
  have HC2 := Lib.hid (cut32 (cutB l) h2 (by omega))
  have HN1 := Lib.hid (num_row 16 (by decide) (cutA l) h3)
  have HN2 := Lib.hid (num_row 16 (by decide) (cutA (cutB l)) h4)
  have HP : Hid (rowV (rdC l) = .agg #[.int .i64 (numB 16 (cutA l) : Nat), .int .i64 (numB 16 (cutA (cutB l)) : Nat), .string (bs (cutB (cutB l)))]) := Lib.hid rfl
  unfold URowRes
  generalize rowV (rdC l) = R at *
  generalize cutB (cutB l) = r2 at *
  generalize (numB 16 (cutA l)) = n1 at *
  generalize (numB 16 (cutA (cutB l))) = n2 at *
  generalize cutA (cutB l) = a2 at *
  generalize cutB l = r1 at *
  generalize cutA l = a1 at *
  generalize bs l = L at *
  clear h1 h2 h3 h4 h5 h6 h7 l2 l3
  go_enter Tryz.func149, Tryz.ntmps149
  go_wp2_with fail
  refine (HC1.out _).mono ?_
  rintro e w1 ⟨hw1, rfl⟩
  go_wp2_with fail
  refine (HC2.out _).mono ?_
  rintro e w2 ⟨hw2, rfl⟩
  have b2 : Below (w.heap.size + 1) (w.alloc (.cells #[.int .i64 0, .int .i64 0, .string { data := #[] }] 203)) w2 := (hw1.trans hw2).below _
  have b0 : Below w.heap.size w (w.alloc (.cells #[.int .i64 0, .int .i64 0, .string { data := #[] }] 203)) := (Below.refl _ _).alloc (Nat.le_refl _) _
  have hE2 : ErrAt w2 := (hE.below b0).below ((hw1.trans hw2).below _)
  have z2 : w.heap.size + 1 ≤ w2.heap.size := by have := b2.size; rwa [World.size_alloc] at this
  go_wp2_with fail
  refine (HN1.out _ hE2).mono ?_
  rintro e w3 ⟨rfl, hb3⟩
  go_wp2_with fail
  refine (HN2.out _ (hE2.below hb3)).mono ?_
  rintro e w4 ⟨rfl, hb4⟩
  have b4 := (b2.trans (hb3.mono z2)).trans (hb4.mono (Nat.le_trans z2 hb3.size))
  obtain ⟨⟨c0, c1, c2⟩, ⟨f0, f1, f2⟩, hz⟩ := blk3 b4
  have bb := b0.trans (b4.mono (Nat.le_succ _))
  clear hw1 hw2 b2 b0 hb3 hb4 z2
  go_wp2
  refine bodyPost_ret (v := .agg #[.int .i64 n1, .int .i64 n2, .string (bs r2)]) (by simp [results, Tryz.results149, go_sem, c0, c1, c2]) rfl ⟨by rw [HP.out], ?_⟩
  exact ((bb.setCell (p := ⟨w.heap.size, 0, none⟩) (Nat.le_refl _) _).setCell (p := ⟨w.heap.size, 1, none⟩) (Nat.le_refl _) _).setCell (p := ⟨w.heap.size, 2, none⟩) (Nat.le_refl _) _
set_option maxHeartbeats 2000000 in
set_option maxRecDepth 100000 in
theorem mapRow_any (l : List UInt8) (h : okM l = true) (w : World) (hE : ErrAt w) :
    Calls Tryz.prog 154 #[.string (bs l)] w (URowRes (rdM l) w) := by
  unfold okM at h
  simp only [Bool.and_eq_true, decide_eq_true_eq] at h
  obtain ⟨⟨⟨h1, h3⟩, h6⟩, h7⟩ := h
  have HC1 := Lib.hid (cut32 l h1 (by omega))
  have HN1 := Lib.hid (num_row 16 (by decide) (cutA l) h3)
  have HP : Hid (rowV (rdM l) = .agg #[.int .i64 (numB 16 (cutA l) : Nat), .int .i64 (numB 16 (cutA l) : Nat), .string (bs (cutB l))]) := Lib.hid rfl
  unfold URowRes
  generalize rowV (rdM l) = R at *
  generalize (numB 16 (cutA l)) = n1 at *
  generalize cutB l = r2 at *
  generalize cutA l = a1 at *
  generalize bs l = L at *
  clear h1 h3 h6 h7
  go_enter Tryz.func154, Tryz.ntmps154
  go_wp2_with fail
  refine (HC1.out _).mono ?_
  rintro e w2 ⟨hw2, rfl⟩
  have b2 : Below (w.heap.size + 1) (w.alloc (.cells #[.int .i64 0, .int .i64 0, .string { data := #[] }] 203)) w2 := hw2.below _
  have b0 : Below w.heap.size w (w.alloc (.cells #[.int .i64 0, .int .i64 0, .string { data := #[] }] 203)) := (Below.refl _ _).alloc (Nat.le_refl _) _
  have hE2 : ErrAt w2 := (hE.below b0).below (hw2.below _)
  have z2 : w.heap.size + 1 ≤ w2.heap.size := by have := b2.size; rwa [World.size_alloc] at this
  go_wp2_with fail
  refine (HN1.out _ hE2).mono ?_
  rintro e w4 ⟨rfl, hb4⟩
  have b4 := b2.trans (hb4.mono z2)
  obtain ⟨⟨c0, c1, c2⟩, ⟨f0, f1, f2⟩, hz⟩ := blk3 b4
  have bb := b0.trans (b4.mono (Nat.le_succ _))
  clear hw2 b2 b0 hb4 z2
  go_wp2
  refine bodyPost_ret (v := .agg #[.int .i64 n1, .int .i64 n1, .string (bs r2)]) (by simp [results, Tryz.results154, go_sem, c0, c1, c2]) rfl ⟨by rw [HP.out], ?_⟩
  exact ((bb.setCell (p := ⟨w.heap.size, 0, none⟩) (Nat.le_refl _) _).setCell (p := ⟨w.heap.size, 1, none⟩) (Nat.le_refl _) _).setCell (p := ⟨w.heap.size, 2, none⟩) (Nat.le_refl _) _
end Go.Proofs.YtjhkfjbgdaomeaaGreatDoor
/- The walk of ucd.find, at each of its two readers of lines. -/
namespace Go.Proofs.YtjhkfjbgdaomeaaGreatDoor
set_option linter.unusedVariables false
open Go.RowKit

def StrRes (l : List UInt8) (w : World) (e : Ending) (w' : World) : Prop := e = .returned (.string (bs l)) ∧ Below w.heap.size w w'
/-- lines that the search may be handed: whole, rising, readable. -/
def TabOk (rd : List UInt8 → Row) (ok : List UInt8 → Bool) (ls : List (List UInt8)) : Prop := Lined ls ∧ Rise rd ls ∧ (∀ l ∈ ls, ok l = true) ∧ (textL ls).length ≤ 1000000
theorem TabOk.left {rd : List UInt8 → Row} {ok : List UInt8 → Bool} {A B : List (List UInt8)} (h : TabOk rd ok (A ++ B)) : TabOk rd ok A :=
  ⟨fun l hl => h.1 l (List.mem_append_left _ hl), h.2.1.left, fun l hl => h.2.2.1 l (List.mem_append_left _ hl), by have := h.2.2.2; rw [textL_append, List.length_append] at this; omega⟩
theorem TabOk.right {rd : List UInt8 → Row} {ok : List UInt8 → Bool} {A B : List (List UInt8)} (h : TabOk rd ok (A ++ B)) : TabOk rd ok B :=
  ⟨fun l hl => h.1 l (List.mem_append_right _ hl), h.2.1.right, fun l hl => h.2.2.1 l (List.mem_append_right _ hl), by have := h.2.2.2; rw [textL_append, List.length_append] at this; omega⟩
theorem TabOk.next {rd : List UInt8 → Row} {ok : List UInt8 → Bool} {l : List UInt8} {B : List (List UInt8)} (h : TabOk rd ok (l :: B)) : TabOk rd ok B := TabOk.right (A := [l]) h
theorem textL_pos {ls : List (List UInt8)} (h : ls ≠ []) : 0 < (textL ls).length := by
  cases ls with
  | nil => exact absurd rfl h
  | cons l r => simp only [textL, List.length_append, List.length_cons]; omega
/-- what one round of the search learns. -/
theorem round_cut {rd : List UInt8 → Row} {ok : List UInt8 → Bool} {ls : List (List UInt8)} (h : TabOk rd ok ls) {T : ByteArray} (hT : T.data.toList = textL ls) {n k : Nat} (hn : n < T.size) (hk : k ≤ n) (h1 : (10 : UInt8) ∉ ((T.extract 0 n).data.toList).drop k)
    (h2 : k = 0 ∨ ((T.extract 0 n).data.toList)[k - 1]? = some 10) : ∃ A l B, ls = A ++ l :: B ∧ T.extract 0 k = bs (textL A) ∧ (T.extract k T.size).data.toList = l ++ 10 :: textL B ∧ (10 : UInt8) ∉ l ∧ ok l = true := by
  have e : (T.extract 0 n).data.toList = (textL ls).take n := by rw [Lib.extract_data, hT]; simp
  rw [e] at h1 h2
  have hs := size_toList T
  rw [hT] at hs
  obtain ⟨A, l, B, rfl, rfl⟩ := middle ls n k h.1 (by omega) hk h1 h2
  refine ⟨A, l, B, rfl, bs_ext ?_, ?_, h.1 l (by simp), h.2.2.1 l (by simp)⟩
  · rw [Lib.extract_data, hT, textL_append]; simp
  · rw [rest_data', hT, textL_append]; simp [textL]

set_option maxHeartbeats 4000000 in
set_option maxRecDepth 100000 in
theorem findC_any (c : Int) (hc0 : -9223372036854775808 ≤ c) (hc1 : c ≤ 9223372036854775807) (T0 : ByteArray) (ls0 : List (List UInt8)) (hT0 : T0.data.toList = textL ls0) (h0 : TabOk rdC okC ls0) (w : World) (hE0 : ErrAt w) :
    Calls Tryz.prog 148 #[.string T0, .int .i64 c, .func (.func 149) #[] #[]] w (StrRes (findP rdC c ls0) w) := by
  obtain ⟨r, hr⟩ : ∃ r, findP rdC c ls0 = r := ⟨_, rfl⟩
  have HR : Hid (findP rdC c ls0 = r) := Lib.hid hr
  have HT0 := Lib.hid hT0
  have HT0' := Lib.hid h0
  rw [hr]
  clear hr hT0 h0
  go_enter Tryz.func148, Tryz.ntmps148
  go_wp2
  go_loopw [0] (fun t wr => ∃ (T : ByteArray) (ls : List (List UInt8)), t = .string T ∧ Hid (T.data.toList = textL ls) ∧ Hid (TabOk rdC okC ls) ∧ Hid (findP rdC c ls = r) ∧ Below w.heap.size w wr)
    (fun t _ => match t with | .string t => t.size | _ => 0)
  case atStart => exact ⟨T0, ls0, rfl, HT0, HT0', HR, Below.refl _ _⟩
  case round =>
    obtain ⟨T, ls, rfl, HT, HO, HF, hbel⟩ := hrel
    have hsz : T.size ≤ 1000000 := by have := HO.out.2.2.2; rw [← HT.out, size_toList] at this; exact this
    by_cases ht : 0 < T.size
    · have htd := isEmpty_no ht
      have HL := Lib.hid (lastIx_any (T.extract 0 (T.size / 2)) 10 (by rw [ByteArray.size_extract]; omega))
      have hdv : T.size / 2 < T.size := by omega
      have hex : (T.extract 0 (T.size / 2)).size = T.size / 2 := by rw [ByteArray.size_extract]; omega
      go_wp2_with fail
      refine (HL.out _).mono ?_
      rintro e w' ⟨rfl, k, hk, rfl, hk1, hk2⟩
      rw [size_toList, hex] at hk
      obtain ⟨A, l, B, rfl, eA, eB, hl, hokl⟩ := round_cut HO.out HT.out hdv hk hk1 hk2
      have HA := Lib.hid eA
      have HC := Lib.hid (scut_any (T.extract k T.size) 10 l (textL B) eB hl (by rw [ByteArray.size_extract]; omega))
      have HRow := Lib.hid (classRow_any l hokl)
      have hBs : (bs (textL B)).size < T.size := by
        have h1 := size_toList (T.extract k T.size); rw [eB] at h1
        rw [bs_size]; simp [ByteArray.size_extract] at h1; omega
      have hAs : (bs (textL A)).size < T.size := by rw [← HA.out, ByteArray.size_extract]; omega
      have hEr : ErrAt wr := hE0.below hbel
      have ekk : (k : Int) - 1 + 1 = k := by omega
      clear hk1 hk2 eA eB hl hokl HL hex
      go_wp2_with fail
      refine (HC.out _).mono ?_
      rintro e w1 ⟨hw1, rfl⟩
      go_wp2_with fail
      refine (HRow.out _ (hEr.below (hw1.below _))).mono ?_
      rintro e w2 ⟨rfl, hb2⟩
      have hbel2 := hbel.trans ((hw1.below wr.heap.size).trans (hb2.mono (hw1.below 0).size) |>.mono hbel.size)
      have hz2 := hbel2.size
      clear hw1 hb2 HC HRow hEr
      unfold rowV
      have HX : Hid (Rise rdC (A ++ l :: B)) := Lib.hid HO.out.2.1
      have HOA : Hid (TabOk rdC okC A) := Lib.hid HO.out.left
      have HOB : Hid (TabOk rdC okC B) := Lib.hid HO.out.right.next
      by_cases g1 : c < ((rdC l).1 : Int)
      · have HF2 : Hid (findP rdC c A = r) := Lib.hid (by rw [← find_lower HX.out g1]; exact HF.out)
        clear HF HX HO HT
        generalize rdC l = q at *
        go_wp2
        go_roundw
        case rel => exact ⟨_, A, rfl, Lib.hid (by rw [HA.out, bs_data]), HOA, HF2, hbel2.alloc hz2 _⟩
        case measure => simp only [HA.out]; exact hAs
      · by_cases g2 : ((rdC l).2.1 : Int) < c
        · have HF2 : Hid (findP rdC c B = r) := Lib.hid (by rw [← find_upper HX.out g2]; exact HF.out)
          clear HF HX HO HT
          generalize rdC l = q at *
          go_wp2
          go_roundw
          case rel => exact ⟨_, B, rfl, Lib.hid (bs_data _), HOB, HF2, hbel2.alloc hz2 _⟩
          case measure => exact hBs
        · have HF2 : Hid ((rdC l).2.2 = r) := Lib.hid (by rw [← find_here HX.out (Int.not_lt.1 g1) (Int.not_lt.1 g2)]; exact HF.out)
          clear HF HX HO HT
          generalize rdC l = q at *
          go_wp2
          go_ret
          exact ⟨by rw [← HF2.out]; rfl, hbel2.alloc hz2 _⟩
    · have ht0 := isEmpty_yes ht
      have el : ls = [] := by
        rcases Decidable.em (ls = []) with h | h
        · exact h
        · have := textL_pos h; rw [← HT.out, size_toList] at this; exact absurd this ht
      subst el
      have e : r = [] := HF.out.symm
      subst e
      clear HT HO HF
      go_wp2
      go_ret
      exact ⟨rfl, hbel⟩
set_option maxHeartbeats 4000000 in
set_option maxRecDepth 100000 in
theorem findM_any (c : Int) (hc0 : -9223372036854775808 ≤ c) (hc1 : c ≤ 9223372036854775807) (T0 : ByteArray) (ls0 : List (List UInt8)) (hT0 : T0.data.toList = textL ls0) (h0 : TabOk rdM okM ls0) (w : World) (hE0 : ErrAt w) :
    Calls Tryz.prog 148 #[.string T0, .int .i64 c, .func (.func 154) #[] #[]] w (StrRes (findP rdM c ls0) w) := by
  obtain ⟨r, hr⟩ : ∃ r, findP rdM c ls0 = r := ⟨_, rfl⟩
  have HR : Hid (findP rdM c ls0 = r) := Lib.hid hr
  have HT0 := Lib.hid hT0
  have HT0' := Lib.hid h0
  rw [hr]
  clear hr hT0 h0
  go_enter Tryz.func148, Tryz.ntmps148
  go_wp2
  go_loopw [0] (fun t wr => ∃ (T : ByteArray) (ls : List (List UInt8)), t = .string T ∧ Hid (T.data.toList = textL ls) ∧ Hid (TabOk rdM okM ls) ∧ Hid (findP rdM c ls = r) ∧ Below w.heap.size w wr)
    (fun t _ => match t with | .string t => t.size | _ => 0)
  case atStart => exact ⟨T0, ls0, rfl, HT0, HT0', HR, Below.refl _ _⟩
  case round =>
    obtain ⟨T, ls, rfl, HT, HO, HF, hbel⟩ := hrel
    have hsz : T.size ≤ 1000000 := by have := HO.out.2.2.2; rw [← HT.out, size_toList] at this; exact this
    by_cases ht : 0 < T.size
    · have htd := isEmpty_no ht
      have HL := Lib.hid (lastIx_any (T.extract 0 (T.size / 2)) 10 (by rw [ByteArray.size_extract]; omega))
      have hdv : T.size / 2 < T.size := by omega
      have hex : (T.extract 0 (T.size / 2)).size = T.size / 2 := by rw [ByteArray.size_extract]; omega
      go_wp2_with fail
      refine (HL.out _).mono ?_
      rintro e w' ⟨rfl, k, hk, rfl, hk1, hk2⟩
      rw [size_toList, hex] at hk
      obtain ⟨A, l, B, rfl, eA, eB, hl, hokl⟩ := round_cut HO.out HT.out hdv hk hk1 hk2
      have HA := Lib.hid eA
      have HC := Lib.hid (scut_any (T.extract k T.size) 10 l (textL B) eB hl (by rw [ByteArray.size_extract]; omega))
      have HRow := Lib.hid (mapRow_any l hokl)
      have hBs : (bs (textL B)).size < T.size := by
        have h1 := size_toList (T.extract k T.size); rw [eB] at h1
        rw [bs_size]; simp [ByteArray.size_extract] at h1; omega
      have hAs : (bs (textL A)).size < T.size := by rw [← HA.out, ByteArray.size_extract]; omega
      have hEr : ErrAt wr := hE0.below hbel
      have ekk : (k : Int) - 1 + 1 = k := by omega
      clear hk1 hk2 eA eB hl hokl HL hex
      go_wp2_with fail
      refine (HC.out _).mono ?_
      rintro e w1 ⟨hw1, rfl⟩
      go_wp2_with fail
      refine (HRow.out _ (hEr.below (hw1.below _))).mono ?_
      rintro e w2 ⟨rfl, hb2⟩
      have hbel2 := hbel.trans ((hw1.below wr.heap.size).trans (hb2.mono (hw1.below 0).size) |>.mono hbel.size)
      have hz2 := hbel2.size
      clear hw1 hb2 HC HRow hEr
      unfold rowV
      have HX : Hid (Rise rdM (A ++ l :: B)) := Lib.hid HO.out.2.1
      have HOA : Hid (TabOk rdM okM A) := Lib.hid HO.out.left
      have HOB : Hid (TabOk rdM okM B) := Lib.hid HO.out.right.next
      by_cases g1 : c < ((rdM l).1 : Int)
      · have HF2 : Hid (findP rdM c A = r) := Lib.hid (by rw [← find_lower HX.out g1]; exact HF.out)
        clear HF HX HO HT
        generalize rdM l = q at *
        go_wp2
        go_roundw
        case rel => exact ⟨_, A, rfl, Lib.hid (by rw [HA.out, bs_data]), HOA, HF2, hbel2.alloc hz2 _⟩
        case measure => simp only [HA.out]; exact hAs
      · by_cases g2 : ((rdM l).2.1 : Int) < c
        · have HF2 : Hid (findP rdM c B = r) := Lib.hid (by rw [← find_upper HX.out g2]; exact HF.out)
          clear HF HX HO HT
          generalize rdM l = q at *
          go_wp2
          go_roundw
          case rel => exact ⟨_, B, rfl, Lib.hid (bs_data _), HOB, HF2, hbel2.alloc hz2 _⟩
          case measure => exact hBs
        · have HF2 : Hid ((rdM l).2.2 = r) := Lib.hid (by rw [← find_here HX.out (Int.not_lt.1 g1) (Int.not_lt.1 g2)]; exact HF.out)
          clear HF HX HO HT
          generalize rdM l = q at *
          go_wp2
          go_ret
          exact ⟨by rw [← HF2.out]; rfl, hbel2.alloc hz2 _⟩
    · have ht0 := isEmpty_yes ht
      have el : ls = [] := by
        rcases Decidable.em (ls = []) with h | h
        · exact h
        · have := textL_pos h; rw [← HT.out, size_toList] at this; exact absurd this ht
      subst el
      have e : r = [] := HF.out.symm
      subst e
      clear HT HO HF
      go_wp2
      go_ret
      exact ⟨rfl, hbel⟩
end Go.Proofs.YtjhkfjbgdaomeaaGreatDoor
/- The walk of strings.FieldsSeq's function at a text of digits and blanks: it hands on the text's fields, in their order. -/
namespace Go.Proofs.YtjhkfjbgdaomeaaGreatDoor
set_option linter.unusedVariables false
open Go.RowKit Go.Shelf

def fieldsF : Option (List UInt8) → List UInt8 → List (List UInt8)
  | none, [] => []
  | some w, [] => [w]
  | none, c :: r => if c = 32 then fieldsF none r else fieldsF (some [c]) r
  | some w, c :: r => if c = 32 then w :: fieldsF none r else fieldsF (some (w ++ [c])) r
/-- the fields of a text: what stands between blanks. -/
def fieldsP (l : List UInt8) : List (List UInt8) := fieldsF none l
/-- a field of digits. -/
abbrev Fld := { l : List UInt8 // digsB 16 l = true }
def fldE (x : Fld) : Array Value := #[.string (bs x.1)]
/-- what is still to come when the text has been read up to i, a field having begun at cur. -/
def toCome (l : List UInt8) (cur : Option Nat) (i : Nat) : List (List UInt8) := fieldsF (cur.map fun j => (l.drop j).take (i - j)) (l.drop i)
theorem come_space {l : List UInt8} {i : Nat} (h : i < l.length) (hc : l[i] = 32) : toCome l none i = toCome l none (i + 1) := by
  unfold toCome; rw [List.drop_eq_getElem_cons h, hc]; rfl
theorem come_field {l : List UInt8} {i j : Nat} (h : i < l.length) (hc : l[i] = 32) : toCome l (some j) i = (l.drop j).take (i - j) :: toCome l none (i + 1) := by
  unfold toCome; rw [List.drop_eq_getElem_cons h, hc]; rfl
theorem come_first {l : List UInt8} {i : Nat} (h : i < l.length) (hc : l[i] ≠ 32) : toCome l none i = toCome l (some i) (i + 1) := by
  unfold toCome
  have e : (l.drop i).take (i + 1 - i) = [l[i]] := by rw [Nat.add_sub_cancel_left, List.drop_eq_getElem_cons h]; rfl
  conv => lhs; rw [List.drop_eq_getElem_cons h]
  simp only [Option.map_none, Option.map_some, fieldsF, if_neg hc, e]
theorem come_more {l : List UInt8} {i j : Nat} (h : i < l.length) (hj : j ≤ i) (hc : l[i] ≠ 32) : toCome l (some j) i = toCome l (some j) (i + 1) := by
  unfold toCome
  have e : (l.drop j).take (i + 1 - j) = (l.drop j).take (i - j) ++ [l[i]] := by
    have : i + 1 - j = (i - j) + 1 := by omega
    rw [this, List.take_succ_eq_append_getElem (by rw [List.length_drop]; omega), List.getElem_drop]
    congr 3; omega
  conv => lhs; rw [List.drop_eq_getElem_cons h]
  simp only [Option.map_some, fieldsF, if_neg hc, e]
theorem come_end (l : List UInt8) : toCome l none l.length = [] := by unfold toCome; rw [List.drop_length]; rfl
theorem come_last (l : List UInt8) (j : Nat) : toCome l (some j) l.length = [l.drop j] := by
  unfold toCome; rw [List.drop_length]; simp only [Option.map_some, fieldsF]
  rw [List.take_of_length_le (by rw [List.length_drop]; omega)]

/-- what is read of strings.asciiSpace. -/
def SpAt (w : World) : Prop := 4 < w.heap.size ∧ ∀ i : Nat, i < 256 → w.cell? ⟨4, i, none⟩ = some (.int .u8 (if 9 ≤ i ∧ i ≤ 13 ∨ i = 32 then 1 else 0))
theorem SpAt.below {w w' : World} {n : Nat} (h : SpAt w) (hb : Below n w w') (hn : 4 < n) : SpAt w' :=
  ⟨Nat.lt_of_lt_of_le h.1 hb.size, fun i hi => by rw [hb.cell (p := ⟨_, i, none⟩) hn]; exact h.2 i hi⟩
theorem SpAt.blank {w : World} (h : SpAt w) : w.cell? ⟨4, 32, none⟩ = some (.int .u8 1) := h.2 32 (by omega)
theorem SpAt.digit {w : World} (h : SpAt w) {c : UInt8} (hc : digOk 16 c = true) : w.cell? ⟨4, c.toNat, none⟩ = some (.int .u8 0) := by
  have := of_decide_eq_true hc
  rw [h.2 c.toNat c.toNat_lt, if_neg (by omega)]
theorem ext_bs (s : ByteArray) (j i : Nat) : s.extract j i = bs ((s.data.toList.drop j).take (i - j)) := bs_ext (Lib.extract_data _ _ _)
theorem ext_bs' (s : ByteArray) (j : Nat) : s.extract j s.size = bs (s.data.toList.drop j) := bs_ext (rest_data' _ _)
/-- what a round keeps: the blocks below n, but for one. -/
def KpB (X n : Nat) (A B : World) : Prop := A.heap.size ≤ B.heap.size ∧ ∀ b, b < n → b ≠ X → B.heap[b]? = A.heap[b]?
theorem KpB.refl (X n : Nat) (A : World) : KpB X n A A := ⟨Nat.le_refl _, fun _ _ _ => rfl⟩
theorem KpB.trans {X n : Nat} {A B C : World} (h : KpB X n A B) (k : KpB X n B C) : KpB X n A C := ⟨Nat.le_trans h.1 k.1, fun b h1 h2 => (k.2 b h1 h2).trans (h.2 b h1 h2)⟩
theorem KpB.cell {X n : Nat} {A B : World} (h : KpB X n A B) {p : Addr} (h1 : p.block < n) (h2 : p.block ≠ X) : B.cell? p = A.cell? p := World.cell?_of_block (w := A) (h.2 p.block h1 h2)
theorem KpB.of {X n : Nat} {A B : World} (h : Below n A B) : KpB X n A B := ⟨h.size, fun b hb _ => h.block b hb⟩
theorem KpB.set {X n : Nat} (A : World) (v : Value) : KpB X n A (A.setCell ⟨X, 0, none⟩ v) := ⟨by simp, fun b _ h2 => Below.heap_setCell A ⟨X, 0, none⟩ v b h2⟩
theorem KpB.put {X n : Nat} {w : World} (hn : n ≤ w.heap.size) (W : World) (l : Nat) (o o' : Obj) (hl : w.heap.size ≤ l) (h : W.heap[l]? = some o) (h1 : o.isCells = false) (h2 : o.isWalk = false) : KpB X n W (W.putObj l o') := .of (belowK_b hn W l o o' hl h h1 h2)
theorem SpAt.kept {w w' : World} {X n : Nat} (h : SpAt w) (hb : KpB X n w w') (hn : 4 < n) (hX : 4 ≠ X) : SpAt w' :=
  ⟨Nat.lt_of_lt_of_le h.1 hb.1, fun i hi => by rw [hb.cell (p := ⟨_, i, none⟩) hn hX]; exact h.2 i hi⟩
def stV : Option Nat → Value
  | none => .int .i64 (-1)
  | some j => .int .i64 j
/-- the ends of a walk over the fields. -/
def SeqEnd (fs : List Fld) (J Jx : List Fld → World → Prop) (e : Ending) (W' : World) : Prop := (∃ v, e = .returned v) ∧ ((∃ ys, ys = fs ∧ J ys W') ∨ (∃ pre, pre <+: fs ∧ Jx pre W'))
attribute [local go_sem] Oper.semAt_some
set_option maxRecDepth 100000 in
set_option maxHeartbeats 4000000 in
theorem fields1_in (n : Nat) (hn : 1 ≤ n) (l Bs X n₀ : Nat) (hXs : Bs ≠ X) (hXg : 4 ≠ X) (s : ByteArray) (hs : s.size ≤ 1000000) (hd : ∀ c ∈ s.data.toList, c = 32 ∨ digOk 16 c = true) (fs : List Fld) (hfs : fieldsP s.data.toList = fs.map (·.1)) (J Jx : List Fld → World → Prop)
    (hY : ∀ pre x W, J pre W → pre.length < fs.length → YieldAt Fence.wide (n - 1) Tryz.prog l (fldE x) W fun e W' =>
      (e = .returned (.bool true) ∧ J (pre ++ [x]) W' ∧ KpB X n₀ W W') ∨ (e = .returned (.bool false) ∧ Jx (pre ++ [x]) W'))
    (W : World) (hBn : Bs < n₀) (hBs : W.cell? ⟨Bs, 0, none⟩ = some (.string s)) (hg : 4 < n₀) (hSp : SpAt W) (h0 : J [] W) :
    CallsIn Fence.wide n Tryz.prog 160 #[.func (.yield l) #[] #[], .pointer (some ⟨Bs, 0, none⟩)] W (SeqEnd fs J Jx) := by
  have HD := Lib.hid hd
  have HF0 : Hid (toCome s.data.toList none 0 = fs.map (·.1)) := Lib.hid hfs
  have hll := size_toList s
  have HS := Lib.hid hSp
  clear hd hfs hSp
  refine callsIn_of_wp Tryz.func160 rfl trivial ?_ rfl
  simp only [Tryz.ntmps160, List.size_toArray, List.length_cons, List.length_nil, Nat.reduceAdd, Nat.reduceSub, Array.replicate_succ, Array.replicate_zero, List.push_toArray, List.append_toArray, List.nil_append, List.cons_append]
  gi_wp2
  gi_loopw [3, 4] (fun st iv wr => ∃ (i : Nat) (cur : Option Nat) (pre rest : List Fld), iv = .int .i64 i ∧ i ≤ s.size ∧ st = stV cur ∧ (∀ j, cur = some j → j ≤ i) ∧ fs = pre ++ rest ∧ Hid (toCome s.data.toList cur i = rest.map (·.1)) ∧ J pre wr ∧ KpB X n₀ W wr)
    (fun _ i _ => s.size - (intOf i).toNat)
  case atStart => exact ⟨0, none, [], fs, rfl, Nat.zero_le _, rfl, fun _ h => (by cases h), rfl, HF0, h0, KpB.refl _ _ _⟩
  case round =>
    obtain ⟨i, cur, pre, rest, rfl, hi, rfl, hcur, hx, HF, hJs, hnx⟩ := hrel
    have hsw : wr.cell? ⟨Bs, 0, none⟩ = some (.string s) := (hnx.cell (p := ⟨Bs, 0, none⟩) hBn hXs).trans hBs
    have hSpw : SpAt wr := HS.out.kept hnx hg hXg
    by_cases hlt : i < s.size
    · have hget : s.data.toList[i]'(by omega) = s[i] := at_toList s i hlt
      have hdc : s[i] = 32 ∨ digOk 16 s[i] = true := HD.out _ (by rw [← hget]; exact List.getElem_mem _)
      by_cases hc : s[i] = 32
      · have hct : (s[i].toNat) = 32 := by rw [hc]; rfl
        have hsp := hSpw.blank
        cases cur with
        | none =>
          have HF2 : Hid (toCome s.data.toList none (i + 1) = rest.map (·.1)) := Lib.hid (by rw [← come_space (by omega) (by rw [hget]; exact hc)]; exact HF.out)
          clear HF hdc hSpw hget hc
          unfold stV
          gi_wp2
          go_roundw
          case rel => exact ⟨i + 1, none, pre, rest, by go_num, by omega, rfl, fun _ h => (by cases h), hx, HF2, hJs, hnx⟩
          case measure => simp [intOf]; omega
        | some j =>
          have hji := hcur j rfl
          obtain ⟨x, rest, rfl⟩ : ∃ x r, rest = x :: r := by
            cases rest with
            | nil => have := HF.out; rw [come_field (by omega) (by rw [hget]; exact hc)] at this; simp at this
            | cons x r => exact ⟨x, r, rfl⟩
          have hcf := HF.out
          rw [come_field (by omega) (by rw [hget]; exact hc), List.map_cons, List.cons.injEq] at hcf
          have HX : Hid (s.extract j i = bs x.1) := Lib.hid (by rw [ext_bs, hcf.1])
          have HF2 : Hid (toCome s.data.toList none (i + 1) = rest.map (·.1)) := Lib.hid hcf.2
          obtain ⟨fn, tmps, assign, body, hy, hR⟩ := hY pre x wr hJs (by rw [hx]; simp)
          have hx2 : fs = (pre ++ [x]) ++ rest := by rw [hx]; simp
          have hpx : pre ++ [x] <+: fs := ⟨rest, hx2.symm⟩
          unfold fldE at hy
          rw [← HX.out] at hy
          clear HF hdc hSpw hget hc hcf hx HX
          unfold stV
          gi_wp2
          refine hR.mono ?_
          rintro e W3 (⟨rfl, hJ3, hk3⟩ | ⟨rfl, hJx3⟩)
          · gi_wp2
            go_roundw
            case rel => exact ⟨i + 1, none, pre ++ [x], rest, by go_num, by omega, rfl, fun _ h => (by cases h), hx2, HF2, hJ3, hnx.trans hk3⟩
            case measure => simp [intOf]; omega
          · gi_wp2
            refine bodyPost_ret (results_none rfl _ _ _) rfl ?_
            exact ⟨⟨_, rfl⟩, .inr ⟨pre ++ [x], hpx, hJx3⟩⟩
      · have hdg : digOk 16 s[i] = true := by rcases hdc with h | h
                                              · exact absurd h hc
                                              · exact h
        have hsp := hSpw.digit hdg
        have hdg2 := of_decide_eq_true hdg
        have hlt2 : s[i].toNat < 128 := by omega
        cases cur with
        | none =>
          have HF2 : Hid (toCome s.data.toList (some i) (i + 1) = rest.map (·.1)) := Lib.hid (by rw [← come_first (by omega) (by rw [hget]; exact hc)]; exact HF.out)
          clear HF hdc hSpw hget hc hdg hdg2
          unfold stV
          gi_wp2
          go_roundw
          case rel => exact ⟨i + 1, some i, pre, rest, by go_num, by omega, rfl, fun _ h => by cases h; omega, hx, HF2, hJs, hnx⟩
          case measure => simp [intOf]; omega
        | some j =>
          have hji := hcur j rfl
          have HF2 : Hid (toCome s.data.toList (some j) (i + 1) = rest.map (·.1)) := Lib.hid (by rw [← come_more (by omega) hji (by rw [hget]; exact hc)]; exact HF.out)
          clear HF hdc hSpw hget hc hdg hdg2
          unfold stV
          gi_wp2
          go_roundw
          case rel => exact ⟨i + 1, some j, pre, rest, by go_num, by omega, rfl, fun _ h => by cases h; omega, hx, HF2, hJs, hnx⟩
          case measure => simp [intOf]; omega
    · obtain rfl : i = s.size := by omega
      cases cur with
      | none =>
        have hr : rest = [] := by
          have := HF.out; rw [← hll, come_end] at this; exact List.map_eq_nil_iff.1 this.symm
        subst hr
        have hx2 : pre = fs := by rw [hx]; simp
        clear HF hSpw hx
        unfold stV
        gi_wp2
        go_end0
        exact ⟨⟨_, rfl⟩, .inl ⟨pre, hx2, hJs⟩⟩
      | some j =>
        have hji := hcur j rfl
        have hcf := HF.out
        rw [← hll, come_last] at hcf
        obtain ⟨x, rfl⟩ : ∃ x, rest = [x] := by
          cases rest with
          | nil => simp at hcf
          | cons x r =>
            simp only [List.map_cons, List.cons.injEq] at hcf
            rw [List.map_eq_nil_iff.1 hcf.2.symm]; exact ⟨x, rfl⟩
        simp only [List.map_cons, List.cons.injEq] at hcf
        have HX : Hid (s.extract j s.size = bs x.1) := Lib.hid (by rw [ext_bs', hcf.1])
        obtain ⟨fn, tmps, assign, body, hy, hR⟩ := hY pre x wr hJs (by rw [hx]; simp)
        have hpx : pre ++ [x] <+: fs := ⟨[], by rw [hx]; simp⟩
        unfold fldE at hy
        rw [← HX.out] at hy
        clear HF hSpw hcf HX
        unfold stV
        gi_wp2
        refine hR.mono ?_
        rintro e W3 (⟨rfl, hJ3, hk3⟩ | ⟨rfl, hJx3⟩)
        · gi_wp2
          go_end0
          exact ⟨⟨_, rfl⟩, .inl ⟨pre ++ [x], hx.symm, hJ3⟩⟩
        · gi_wp2
          go_end0
          exact ⟨⟨_, rfl⟩, .inr ⟨pre ++ [x], hpx, hJx3⟩⟩
set_option maxHeartbeats 1000000 in
theorem fieldsSeq_in (n : Nat) (s : ByteArray) (w : World) :
    CallsIn Fence.wide n Tryz.prog 153 #[.string s] w fun e w' => e = .returned (.func (.func 160) #[] #[.pointer (some ⟨w.heap.size, 0, none⟩)]) ∧ w' = w.alloc (.cells #[.string s] 9) := by
  refine callsIn_of_wp Tryz.func153 rfl trivial ?_ rfl
  simp only [Tryz.ntmps153, List.size_toArray, List.length_cons, List.length_nil, Nat.reduceAdd, Nat.reduceSub, Array.replicate_succ, Array.replicate_zero, List.push_toArray, List.append_toArray, List.nil_append, List.cons_append]
  gi_wp2
  go_ret
  exact ⟨rfl, rfl⟩
theorem fields_stops (n : Nat) (hn : 1 ≤ n) (Bs X n₀ : Nat) (hXs : Bs ≠ X) (hXg : 4 ≠ X) (s : ByteArray) (hs : s.size ≤ 1000000) (hd : ∀ c ∈ s.data.toList, c = 32 ∨ digOk 16 c = true) (fs : List Fld) (hfs : fieldsP s.data.toList = fs.map (·.1)) (w : World) (hBn : Bs < n₀) (hn₀ : n₀ ≤ w.heap.size)
    (hc : w.cell? ⟨Bs, 0, none⟩ = some (.string s)) (hg : 4 < n₀) (hSp : SpAt w) :
    SeqStopsK Fence.wide n Tryz.prog 160 #[.pointer (some ⟨Bs, 0, none⟩)] fldE (KpB X n₀) (fun ys => ys = fs) (fun pre => pre <+: fs) fs.length w := fun l J Jx W hW _ _ hY h0 =>
  fields1_in n hn l Bs X n₀ hXs hXg s hs hd fs hfs J Jx hY W hBn ((hW.cell (p := ⟨Bs, 0, none⟩) (Nat.lt_of_lt_of_le hBn hn₀)).trans hc) hg (hSp.below (hW.mono hn₀) hg) h0
end Go.Proofs.YtjhkfjbgdaomeaaGreatDoor
/- The two tables of package api as lines of bytes (the program's own text), and what the kernel reckons of them. -/
namespace Go.Proofs.YtjhkfjbgdaomeaaGreatDoor
set_option linter.unusedVariables false
open Go.RowKit

def classLines : List (List UInt8) := [
  [51, 48, 48, 32, 51, 49, 52, 32, 50, 51, 48],
  [51, 49, 53, 32, 51, 49, 53, 32, 50, 51, 50],
  [51, 49, 54, 32, 51, 49, 57, 32, 50, 50, 48],
  [51, 49, 65, 32, 51, 49, 65, 32, 50, 51, 50],
  [51, 49, 66, 32, 51, 49, 66, 32, 50, 49, 54],
  [51, 49, 67, 32, 51, 50, 48, 32, 50, 50, 48],
  [51, 50, 49, 32, 51, 50, 50, 32, 50, 48, 50],
  [51, 50, 51, 32, 51, 50, 54, 32, 50, 50, 48],
  [51, 50, 55, 32, 51, 50, 56, 32, 50, 48, 50],
  [51, 50, 57, 32, 51, 51, 51, 32, 50, 50, 48],
  [51, 51, 52, 32, 51, 51, 56, 32, 49],
  [51, 51, 57, 32, 51, 51, 67, 32, 50, 50, 48],
  [51, 51, 68, 32, 51, 52, 52, 32, 50, 51, 48],
  [51, 52, 53, 32, 51, 52, 53, 32, 50, 52, 48],
  [51, 52, 54, 32, 51, 52, 54, 32, 50, 51, 48],
  [51, 52, 55, 32, 51, 52, 57, 32, 50, 50, 48],
  [53, 66, 48, 32, 53, 66, 48, 32, 49, 48],
  [53, 66, 52, 32, 53, 66, 52, 32, 49, 52],
  [53, 66, 67, 32, 53, 66, 67, 32, 50, 49],
  [53, 67, 49, 32, 53, 67, 49, 32, 50, 52],
  [53, 67, 50, 32, 53, 67, 50, 32, 50, 53],
  [54, 52, 66, 32, 54, 52, 66, 32, 50, 55],
  [54, 53, 49, 32, 54, 53, 49, 32, 51, 51],
  [54, 53, 51, 32, 54, 53, 52, 32, 50, 51, 48],
  [54, 53, 53, 32, 54, 53, 53, 32, 50, 50, 48],
  [54, 55, 48, 32, 54, 55, 48, 32, 51, 53],
  [57, 51, 67, 32, 57, 51, 67, 32, 55],
  [57, 52, 68, 32, 57, 52, 68, 32, 57],
  [51, 48, 57, 57, 32, 51, 48, 57, 65, 32, 56],
  [49, 68, 49, 54, 53, 32, 49, 68, 49, 54, 53, 32, 50, 49, 54],
  [49, 68, 49, 54, 69, 32, 49, 68, 49, 54, 69, 32, 50, 49, 54]]
def mapLines : List (List UInt8) := [
  [67, 48, 32, 52, 49, 32, 51, 48, 48],
  [67, 49, 32, 52, 49, 32, 51, 48, 49],
  [67, 50, 32, 52, 49, 32, 51, 48, 50],
  [67, 51, 32, 52, 49, 32, 51, 48, 51],
  [67, 52, 32, 52, 49, 32, 51, 48, 56],
  [67, 53, 32, 52, 49, 32, 51, 48, 65],
  [67, 55, 32, 52, 51, 32, 51, 50, 55],
  [67, 56, 32, 52, 53, 32, 51, 48, 48],
  [67, 57, 32, 52, 53, 32, 51, 48, 49],
  [67, 65, 32, 52, 53, 32, 51, 48, 50],
  [67, 66, 32, 52, 53, 32, 51, 48, 56],
  [67, 67, 32, 52, 57, 32, 51, 48, 48],
  [67, 68, 32, 52, 57, 32, 51, 48, 49],
  [67, 69, 32, 52, 57, 32, 51, 48, 50],
  [67, 70, 32, 52, 57, 32, 51, 48, 56],
  [68, 49, 32, 52, 69, 32, 51, 48, 51],
  [68, 50, 32, 52, 70, 32, 51, 48, 48],
  [68, 51, 32, 52, 70, 32, 51, 48, 49],
  [68, 52, 32, 52, 70, 32, 51, 48, 50],
  [68, 53, 32, 52, 70, 32, 51, 48, 51],
  [68, 54, 32, 52, 70, 32, 51, 48, 56],
  [68, 57, 32, 53, 53, 32, 51, 48, 48],
  [68, 65, 32, 53, 53, 32, 51, 48, 49],
  [68, 66, 32, 53, 53, 32, 51, 48, 50],
  [68, 67, 32, 53, 53, 32, 51, 48, 56],
  [68, 68, 32, 53, 57, 32, 51, 48, 49],
  [69, 48, 32, 54, 49, 32, 51, 48, 48],
  [69, 49, 32, 54, 49, 32, 51, 48, 49],
  [69, 50, 32, 54, 49, 32, 51, 48, 50],
  [69, 51, 32, 54, 49, 32, 51, 48, 51],
  [69, 52, 32, 54, 49, 32, 51, 48, 56],
  [69, 53, 32, 54, 49, 32, 51, 48, 65],
  [69, 55, 32, 54, 51, 32, 51, 50, 55],
  [69, 56, 32, 54, 53, 32, 51, 48, 48],
  [69, 57, 32, 54, 53, 32, 51, 48, 49],
  [69, 65, 32, 54, 53, 32, 51, 48, 50],
  [69, 66, 32, 54, 53, 32, 51, 48, 56],
  [69, 67, 32, 54, 57, 32, 51, 48, 48],
  [69, 68, 32, 54, 57, 32, 51, 48, 49],
  [69, 69, 32, 54, 57, 32, 51, 48, 50],
  [69, 70, 32, 54, 57, 32, 51, 48, 56],
  [70, 49, 32, 54, 69, 32, 51, 48, 51],
  [70, 50, 32, 54, 70, 32, 51, 48, 48],
  [70, 51, 32, 54, 70, 32, 51, 48, 49],
  [70, 52, 32, 54, 70, 32, 51, 48, 50],
  [70, 53, 32, 54, 70, 32, 51, 48, 51],
  [70, 54, 32, 54, 70, 32, 51, 48, 56],
  [70, 57, 32, 55, 53, 32, 51, 48, 48],
  [70, 65, 32, 55, 53, 32, 51, 48, 49],
  [70, 66, 32, 55, 53, 32, 51, 48, 50],
  [70, 67, 32, 55, 53, 32, 51, 48, 56],
  [70, 68, 32, 55, 57, 32, 51, 48, 49],
  [70, 70, 32, 55, 57, 32, 51, 48, 56],
  [49, 48, 48, 32, 52, 49, 32, 51, 48, 52],
  [49, 48, 49, 32, 54, 49, 32, 51, 48, 52],
  [49, 48, 50, 32, 52, 49, 32, 51, 48, 54],
  [49, 48, 51, 32, 54, 49, 32, 51, 48, 54],
  [49, 48, 52, 32, 52, 49, 32, 51, 50, 56],
  [49, 48, 53, 32, 54, 49, 32, 51, 50, 56],
  [49, 49, 50, 32, 52, 53, 32, 51, 48, 52],
  [49, 49, 51, 32, 54, 53, 32, 51, 48, 52],
  [49, 49, 52, 32, 52, 53, 32, 51, 48, 54],
  [49, 49, 53, 32, 54, 53, 32, 51, 48, 54],
  [49, 69, 48, 32, 52, 49, 32, 51, 48, 55, 32, 51, 48, 52],
  [49, 69, 49, 32, 54, 49, 32, 51, 48, 55, 32, 51, 48, 52],
  [51, 52, 52, 32, 51, 48, 56, 32, 51, 48, 49],
  [51, 55, 52, 32, 50, 66, 57],
  [51, 56, 53, 32, 65, 56, 32, 51, 48, 49],
  [51, 56, 54, 32, 51, 57, 49, 32, 51, 48, 49],
  [51, 57, 48, 32, 51, 66, 57, 32, 51, 48, 56, 32, 51, 48, 49],
  [51, 65, 67, 32, 51, 66, 49, 32, 51, 48, 49],
  [52, 51, 57, 32, 52, 51, 56, 32, 51, 48, 54],
  [52, 53, 49, 32, 52, 51, 53, 32, 51, 48, 56],
  [54, 50, 50, 32, 54, 50, 55, 32, 54, 53, 51],
  [54, 50, 51, 32, 54, 50, 55, 32, 54, 53, 52],
  [54, 50, 52, 32, 54, 52, 56, 32, 54, 53, 52],
  [57, 50, 57, 32, 57, 50, 56, 32, 57, 51, 67],
  [57, 51, 49, 32, 57, 51, 48, 32, 57, 51, 67],
  [57, 53, 56, 32, 57, 49, 53, 32, 57, 51, 67],
  [49, 69, 48, 56, 32, 52, 51, 32, 51, 50, 55, 32, 51, 48, 49],
  [49, 69, 48, 57, 32, 54, 51, 32, 51, 50, 55, 32, 51, 48, 49],
  [49, 69, 54, 57, 32, 55, 51, 32, 51, 50, 51, 32, 51, 48, 55],
  [49, 69, 57, 66, 32, 49, 55, 70, 32, 51, 48, 55],
  [49, 69, 65, 52, 32, 52, 49, 32, 51, 48, 50, 32, 51, 48, 49],
  [49, 69, 65, 53, 32, 54, 49, 32, 51, 48, 50, 32, 51, 48, 49],
  [49, 69, 68, 56, 32, 52, 70, 32, 51, 50, 51, 32, 51, 48, 50],
  [49, 69, 68, 57, 32, 54, 70, 32, 51, 50, 51, 32, 51, 48, 50],
  [49, 70, 48, 48, 32, 51, 66, 49, 32, 51, 49, 51],
  [49, 70, 48, 49, 32, 51, 66, 49, 32, 51, 49, 52],
  [49, 70, 48, 50, 32, 51, 66, 49, 32, 51, 49, 51, 32, 51, 48, 48],
  [49, 70, 55, 49, 32, 51, 66, 49, 32, 51, 48, 49],
  [49, 70, 56, 50, 32, 51, 66, 49, 32, 51, 49, 51, 32, 51, 48, 48, 32, 51, 52, 53],
  [49, 70, 69, 70, 32, 54, 48],
  [50, 48, 48, 48, 32, 50, 48, 48, 50],
  [50, 48, 48, 49, 32, 50, 48, 48, 51],
  [50, 49, 50, 54, 32, 51, 65, 57],
  [50, 49, 50, 65, 32, 52, 66],
  [50, 49, 50, 66, 32, 52, 49, 32, 51, 48, 65],
  [50, 50, 54, 48, 32, 51, 68, 32, 51, 51, 56],
  [50, 65, 68, 67, 32, 50, 65, 68, 68, 32, 51, 51, 56],
  [51, 48, 52, 67, 32, 51, 48, 52, 66, 32, 51, 48, 57, 57],
  [51, 48, 55, 48, 32, 51, 48, 54, 70, 32, 51, 48, 57, 57],
  [51, 48, 55, 49, 32, 51, 48, 54, 70, 32, 51, 48, 57, 65],
  [70, 57, 48, 48, 32, 56, 67, 52, 56],
  [70, 66, 49, 68, 32, 53, 68, 57, 32, 53, 66, 52],
  [70, 66, 50, 65, 32, 53, 69, 57, 32, 53, 67, 49],
  [70, 66, 50, 66, 32, 53, 69, 57, 32, 53, 67, 50],
  [70, 66, 50, 67, 32, 53, 69, 57, 32, 53, 66, 67, 32, 53, 67, 49],
  [49, 68, 49, 53, 69, 32, 49, 68, 49, 53, 55, 32, 49, 68, 49, 54, 53],
  [49, 68, 49, 53, 70, 32, 49, 68, 49, 53, 56, 32, 49, 68, 49, 54, 53],
  [49, 68, 49, 54, 48, 32, 49, 68, 49, 53, 56, 32, 49, 68, 49, 54, 53, 32, 49, 68, 49, 54, 69],
  [50, 70, 56, 48, 48, 32, 52, 69, 51, 68]]
def linesB (rd : List UInt8 → Row) (ok : List UInt8 → Bool) : List (List UInt8) → Bool
  | [] => true
  | l :: r => (!l.contains 10) && ok l && decide ((rd l).1 ≤ (rd l).2.1) && r.all (fun m => decide ((rd l).2.1 < (rd m).1)) && linesB rd ok r
theorem linesB_ok {rd : List UInt8 → Row} {ok : List UInt8 → Bool} : ∀ {ls : List (List UInt8)}, linesB rd ok ls = true → Lined ls ∧ Rise rd ls ∧ (∀ l ∈ ls, ok l = true)
  | [], _ => ⟨fun _ h => (by cases h), ⟨List.Pairwise.nil, fun _ h => (by cases h)⟩, fun _ h => (by cases h)⟩
  | l :: r, h => by
    unfold linesB at h
    simp only [Bool.and_eq_true, decide_eq_true_eq, List.all_eq_true] at h
    obtain ⟨⟨⟨⟨h1, h2⟩, h3⟩, h4⟩, h5⟩ := h
    obtain ⟨g1, g2, g3⟩ := linesB_ok h5
    have h1' : (10 : UInt8) ∉ l := by simpa using h1
    refine ⟨fun x hx => ?_, ⟨List.pairwise_cons.2 ⟨fun m hm => h4 m hm, g2.1⟩, fun x hx => ?_⟩, fun x hx => ?_⟩
    · rcases List.mem_cons.1 hx with rfl | hx
      · exact h1'
      · exact g1 x hx
    · rcases List.mem_cons.1 hx with rfl | hx
      · exact h3
      · exact g2.2 x hx
    · rcases List.mem_cons.1 hx with rfl | hx
      · exact h2
      · exact g3 x hx
theorem classTab : TabOk rdC okC classLines := by
  obtain ⟨h1, h2, h3⟩ := linesB_ok (show linesB rdC okC classLines = true by decide +kernel)
  exact ⟨h1, h2, h3, by decide +kernel⟩
theorem mapTab : TabOk rdM okM mapLines := by
  obtain ⟨h1, h2, h3⟩ := linesB_ok (show linesB rdM okM mapLines = true by decide +kernel)
  exact ⟨h1, h2, h3, by decide +kernel⟩
/-- the class of a character, and what it comes to. -/
def classP (c : Int) : Int := (numB 10 (findP rdC c classLines) : Nat)
def mapP (c : Int) : List Int := (fieldsP (findP rdM c mapLines)).map fun f => ((numB 16 f : Nat) : Int)
/-- what the search finds is nothing, or the rest of one of the lines. -/
theorem find_mem (rd : List UInt8 → Row) (c : Int) (ls : List (List UInt8)) : findP rd c ls = [] ∨ ∃ l ∈ ls, findP rd c ls = (rd l).2.2 ∧ ((rd l).1 : Int) ≤ c ∧ c ≤ ((rd l).2.1 : Int) := by
  unfold findP
  cases h : ls.find? _ with
  | none => exact .inl rfl
  | some l =>
    have h2 := List.find?_some h
    simp only [decide_eq_true_eq] at h2
    exact .inr ⟨l, List.mem_of_find?_eq_some h, rfl, h2.1, h2.2⟩
def fitM (l : List UInt8) : Bool := (rdM l).2.2.all (fun c => c == 32 || digOk 16 c) && (fieldsP (rdM l).2.2).all (digsB 16) && decide ((fieldsP (rdM l).2.2).length ≤ 10) && decide ((rdM l).2.2.length ≤ 100)
theorem fits : mapLines.all fitM = true := by decide +kernel
theorem mapFit (c : Int) : (findP rdM c mapLines).all (fun c => c == 32 || digOk 16 c) = true ∧ (fieldsP (findP rdM c mapLines)).all (digsB 16) = true ∧ (fieldsP (findP rdM c mapLines)).length ≤ 10 ∧ (findP rdM c mapLines).length ≤ 100 := by
  rcases find_mem rdM c mapLines with h | ⟨l, hl, h, -⟩
  · rw [h]; decide
  · rw [h]
    have := List.all_eq_true.1 fits l hl
    unfold fitM at this
    simp only [Bool.and_eq_true, decide_eq_true_eq] at this
    exact ⟨this.1.1.1, this.1.1.2, this.1.2, this.2⟩
theorem mapDigits (c : Int) : ∀ b ∈ findP rdM c mapLines, b = 32 ∨ digOk 16 b = true := fun b hb => by
  have := List.all_eq_true.1 (mapFit c).1 b hb
  simpa using this
theorem flds : ∀ (L : List (List UInt8)), L.all (digsB 16) = true → ∃ fs : List Fld, L = fs.map (·.1)
  | [], _ => ⟨[], rfl⟩
  | l :: r, h => by
    simp only [List.all_cons, Bool.and_eq_true] at h
    obtain ⟨fs, rfl⟩ := flds r h.2
    exact ⟨⟨l, h.1⟩ :: fs, rfl⟩
def fldI (x : Fld) : Int := ((numB 16 x.1 : Nat) : Int)
theorem mapFields (c : Int) : ∃ fs : List Fld, fieldsP (findP rdM c mapLines) = fs.map (·.1) ∧ mapP c = fs.map fldI ∧ fs.length ≤ 10 := by
  obtain ⟨fs, h⟩ := flds _ (mapFit c).2.1
  refine ⟨fs, h, ?_, ?_⟩
  · unfold mapP; rw [h, List.map_map]; rfl
  · have := (mapFit c).2.2.1; rw [h, List.length_map] at this; exact this
theorem mapLen (c : Int) : (findP rdM c mapLines).length ≤ 100 := (mapFit c).2.2.2
end Go.Proofs.YtjhkfjbgdaomeaaGreatDoor
/- The walks of ucd.Class and ucd.Map. -/
namespace Go.Proofs.YtjhkfjbgdaomeaaGreatDoor
set_option linter.unusedVariables false
open Go.RowKit Go.Shelf
attribute [local go_sem] Oper.semAt_some
theorem info_int : (Tryz.prog.info? 3).map (fun i => (i.zero, i.size, i.bytes)) = some (some (.int .i64 0), 1, 8) := by kernel_rfl
/-- 'append(s, news..)' as one step of a region that draws its order, inside a fence; the news lie in a block that was just laid. -/
theorem stepIn_own {F : Fence} {n : Nat} {P : Program} {ops : Array Oper} {o : Oper} {a : Act} {w : World} {K : Act → World → Prop} {Q : Exit → Act → World → Prop} {E0 : Prop}
    (hg : o.guard = none) (s x : Operand) (t : TypeId) (hop : o.op = Op.call { callee := Callee.builtin Builtin.append, args := #[s, x], argTypes := #[t, t] })
    (base e : Nat) (i : TypeInfo) (z : Value) (bytes : Nat) (h1 : P.underlying t = some (.slice e)) (h2 : P.info? e = some i) (h3 : i.zero = some z) (h4 : i.size = 1) (h5 : i.bytes = bytes) (h6 : z.cells.size = 1)
    (v : Value) (k : Nat) (xs : List Value) (hs : a.eval s = v) (hown : w.ownsRow base e 1 v k xs) (u : Value) (H : Nat) (hx : a.eval x = .slice (some ⟨H, 0, none⟩) 1 1) (hH : w.heap.size = H) (hu : u.oneCell' = true)
    (b1 : k + 1 ≤ maxLen) (b2 : (k + 1) * bytes ≤ 140737488355328) (b3 : base ≤ w.heap.size)
    (hK : ∀ v' w', w'.ownsRow base e 1 v' (k + 1) (xs ++ [u]) → (w.alloc (.cells #[u] e)).grownBy w' v.ownBlock → v' ≠ .slice none 0 0 → K (a.put o.dst v') w') :
    if Region.wanted o (yielded ops a.tmps) = true then Oper.wpIn F n P o a (w.alloc (.cells #[u] e)) K Q else E0 := by
  have hw : Region.wanted o (yielded ops a.tmps) = true := by simp [Region.wanted, hg]
  rw [if_pos hw]
  subst hH
  have hc : ∀ j y, [u][j]? = some y → (w.alloc (.cells #[u] e)).cell? ((⟨w.heap.size, 0, none⟩ : Addr).add j) = some y := fun j y hj => by
    have : j = 0 := by
      rcases j with _ | j
      · rfl
      · simp at hj
    subst this
    have ea : (⟨w.heap.size, 0, none⟩ : Addr).add 0 = ⟨w.heap.size, 0, none⟩ := by unfold Addr.add; split <;> simp_all
    rw [ea]
    unfold World.cell?
    rw [heap_alloc_new]
    simpa using hj
  obtain ⟨v', w', hrun, r1, r2, r3⟩ := run_append_own (P := P) (w.alloc (.cells #[u] e)) base t o.type e i z 1 bytes h1 h2 h3 h4 h5 h6 (by decide) v k xs (hown.alloc _) ⟨w.heap.size, 0, none⟩ 1 1 [u] rfl hc (by simpa using hu) b1 b2 (by simp; omega)
  unfold Oper.wpIn
  refine ⟨?_, ?_⟩
  · simp [Oper.about, hop, resolve, Target.leads, Sem.run_pure]
  · rw [Oper.semAt_plain F _ _ (by rw [hop]; intro c hc'; cases hc')]
    simp [execOp, hop, resolve, invoke, builtin, hs, hx, hrun, Result.andThen]
    exact hK v' w' r1 r2 (fun hn => by have := (r3.1 hn).2; omega)
/-- what an append to a boxed slice and its store keep, where the slice's own blocks lie beyond N and the box ahead of it. -/
theorem boxApp {W w1 : World} {N X : Nat} {t e : TypeId} {v v' : Value} {k m : Nat} {xs ys : List Value} {tmp : Obj}
    (hv : Boxed W X t v) (hte : t ≠ e) (hrow : W.ownsRow N e 1 v k xs) (hN : N ≤ W.heap.size) (hown' : w1.ownsRow N e 1 v' m ys) (hgrow : (W.alloc tmp).grownBy w1 v.ownBlock) :
    Boxed w1 X t v ∧ Boxed (w1.setCell ⟨X, 0, none⟩ v') X t v' ∧ (w1.setCell ⟨X, 0, none⟩ v').ownsRow N e 1 v' m ys ∧ KeepsOthers W (w1.setCell ⟨X, 0, none⟩ v') ∧ KpB X N W (w1.setCell ⟨X, 0, none⟩ v') ∧ Below N W w1 := by
  have base0 : ∀ {w : World} {u : Value} {j : Nat} {zs : List Value}, w.ownsRow N e 1 u j zs → w.ownsRow 0 e 1 u j zs := fun ⟨a, b⟩ => ⟨a, b.imp id fun ⟨g, cap, cur, e1, e2, e3⟩ => ⟨g, cap, cur, e1, Nat.zero_le _, e3⟩⟩
  obtain ⟨g1, g2, -, g4, -⟩ := hv.appended hte (base0 hrow) (Nat.zero_le _) (Nat.zero_le _) (base0 hown') hgrow
  refine ⟨g1, g2, hown'.kept (grownBy_setCell' w1 X v') (.inr (g1.not_row hte hown').symm), g4, ?_⟩
  have hb : Below N W w1 := ((Below.refl N W).alloc hN tmp).grown hgrow (by simp; omega) fun j ej => (World.ownsRow.lt hrow j ej).1
  exact ⟨(KpB.of hb).trans (KpB.set _ _), hb⟩
theorem keepsBelow {W W' : World} (B : Nat) (h : Below W.heap.size W W') : KeepsFrom B W W' := ⟨h.size, fun k o _ hk _ => (h.block k (Array.getElem?_eq_some_iff.1 hk).1).trans hk⟩
def MapRes (l : List Int) (w : World) (e : Ending) (w' : World) : Prop := ∃ v, e = .returned v ∧ OwnV 3 w.heap.size w' v (l.map (Value.int .i64)) ∧ (v = .slice none 0 0 ↔ l = []) ∧ Below w.heap.size w w'
set_option maxRecDepth 100000 in
set_option maxHeartbeats 4000000 in
theorem map_any (c : Int) (hc0 : -9223372036854775808 ≤ c) (hc1 : c ≤ 9223372036854775807) (w : World) (hE : ErrAt w) (hSp : SpAt w) :
    Calls Tryz.prog 146 #[.int .i64 c] w (MapRes (mapP c) w) := by
  obtain ⟨i0, hi, hz0, hz1, hz2⟩ := info_parts info_int
  obtain ⟨fs, hfs, hfm, hfl⟩ := mapFields c
  have HD := Lib.hid (mapDigits c)
  have HM : Hid (∀ t : ByteArray, t.data.toList = textL mapLines → ∀ w, ErrAt w → Calls Tryz.prog 148 #[.string t, .int .i64 c, .func (.func 154) #[] #[]] w (StrRes (findP rdM c mapLines) w)) := Lib.hid fun t ht w h => findM_any c hc0 hc1 t mapLines ht mapTab w h
  have HL := Lib.hid (mapLen c)
  rw [hfm]
  generalize findP rdM c mapLines = R at *
  have HFS := Lib.hid hfs
  have HFL := Lib.hid hfl
  clear hfm hfs hfl
  have b0 : Below w.heap.size w (w.alloc (.cells #[.slice none 0 0] 44)) := (Below.refl _ w).alloc (Nat.le_refl _) _
  have bO := Boxed.new w 44 (.slice none 0 0)
  have hE1 := hE.below b0
  refine (callsIn_wide (n := 3)).1 ?_
  refine callsIn_of_wp_marks Tryz.func146 rfl trivial ?_ rfl
  simp only [Tryz.ntmps146, List.size_toArray, List.length_cons, List.length_nil, Nat.reduceAdd, Nat.reduceSub, Array.replicate_succ, Array.replicate_zero, List.push_toArray, List.append_toArray, List.nil_append, List.cons_append]
  gi_wp2_with fail
  refine ⟨trivial, ?_⟩
  refine (callsIn_wide.2 (HM.out _ (by kernel_rfl) _ hE1)).mono ?_
  rintro e w1 ⟨rfl, hb1⟩
  gi_wp2_with fail
  refine ⟨trivial, ?_⟩
  refine (fieldsSeq_in _ _ _).mono ?_
  rintro e w2 ⟨rfl, rfl⟩
  have hz1' : w.heap.size + 1 ≤ w1.heap.size := by have := hb1.size; rwa [World.size_alloc] at this
  have hB1 : Below (w.heap.size + 1) (w.alloc (.cells #[.slice none 0 0] 44)) w1 := by have := hb1; rwa [World.size_alloc] at this
  have bO1 : Boxed w1 w.heap.size 44 (.slice none 0 0) := (hB1.block w.heap.size (by omega)).trans bO
  have hb01 : Below w.heap.size w w1 := b0.trans (hB1.mono (by omega))
  have bS := Boxed.new w1 9 (.string (bs R))
  have hgl : 4 < w.heap.size := hSp.1
  have hB0 : Below w.heap.size w (w1.alloc (.cells #[.string (bs R)] 9)) := hb01.alloc (by omega) _
  have hSp1 : SpAt (w1.alloc (.cells #[.string (bs R)] 9)) := hSp.below hB0 hgl
  obtain ⟨w2, hw2⟩ : ∃ w2, w1.alloc (.cells #[.string (bs R)] 9) = w2 := ⟨_, rfl⟩
  have hsz2 : w2.heap.size = w1.heap.size + 1 := by rw [← hw2, World.size_alloc]
  have bO2 : Boxed w2 w.heap.size 44 (.slice none 0 0) := by rw [← hw2]; exact bO1.alloc _
  rw [hw2] at bS hB0 hSp1 ⊢
  gi_wp2
  refine wpIn_rangeFunc_ownG rfl (by omega) (gf := 160) (lb := #[.pointer (some ⟨w1.heap.size, 0, none⟩)]) rfl trivial (enters_of Tryz.func160 (by kernel_rfl) rfl)
    (fields_stops (3 - 1) (by omega) w1.heap.size w.heap.size w2.heap.size (by omega) (by omega) (bs R) (by rw [bs_size]; have := HL.out; omega) (by rw [bs_data]; exact HD.out) fs (by rw [bs_data]; exact HFS.out) w2 (by omega) (Nat.le_refl _) bS.cell (by omega) hSp1) KpB.trans (KpB.put (Nat.le_refl _)) (Below.refl _ _) (fun _ => rfl)
    (fun pre W => (∃ v, Boxed W w.heap.size 44 v ∧ W.ownsRow w2.heap.size 3 1 v pre.length ((pre.map fldI).map (Value.int .i64)) ∧ (v = .slice none 0 0 ↔ pre = [])) ∧ Below w.heap.size w W ∧ w2.heap.size ≤ W.heap.size)
    (fun _ _ _ => False)
    (OwnFrom.and (Own.from (holdsRow_own w2.heap.size w.heap.size 44 3 1 (fun pre => List.length pre) (fun pre => (pre.map fldI).map (Value.int .i64)) (fun pre v => v = .slice none 0 0 ↔ pre = [])) _) (OwnFrom.and (ownFrom_below (Nat.le_refl _) (by omega)) (fun s A B row hs hg _ => Nat.le_trans hs hg.size)))
    (fun _ _ _ _ _ hs _ _ => hs)
    ⟨⟨_, bO2, World.ownsRow_nil _ _ _ _, by simp⟩, hB0, Nat.le_refl _⟩
    (fun x => { tmps := #[.int .i64 c, undef, .slice none 0 0, .pointer (some ⟨w.heap.size, 0, none⟩), .string (bs x.1), .int .i64 c, .string (bs R), .func (.func 160) #[] #[.pointer (some ⟨w1.heap.size, 0, none⟩)], .string (bs x.1), undef, undef, undef, undef, undef, undef], defers := [] }) ?assign ?body ?done ?stop
  case assign =>
    intro l x W K hK
    unfold fldE
    gi_wp2
    exact hK
  case body =>
    rintro l pre x W ⟨⟨v, hv, hrow, hnil⟩, hB, hsW⟩ hlt
    have hc := hv.cell
    have hf := hv.frozen
    have HN : Hid (∀ w, ErrAt w → Calls Tryz.prog 147 #[.string (bs x.1), .int .i64 16] w (IntRes (fldI x) w)) := Lib.hid (num_row 16 (by decide) x.1 x.2)
    have hEW : ErrAt W := hE.below hB
    have hpl : pre.length < 10 := Nat.lt_of_lt_of_le hlt HFL.out
    have hmx : Tryz.prog.follows .mixedOrders = true := by kernel_rfl
    have hvl := hv.lt
    have hNW : w2.heap.size ≤ W.heap.size := hsW
    clear HM HD HFS HL hSp1 hE1 b0 bO hb1 hB1 bO1 hb01 bS bO2
    gi_wp2
    refine wpIn_region_any (by assumption) ?_
    change wpAnyIn _ _ _ _ _ _ _ _ _ (World.drew _)
    refine wpAnyIn_ready (rs := [0, 1]) ?_ (by simp) ?_
    (focus decide +kernel)
    refine AllReadyIn.cons rfl (fun K hK => ?_) (AllReadyIn.cons rfl (fun K hK => ?_) AllReadyIn.nil)
    · go_simp
      refine hK _ _ ?_; clear hK K
      refine wpAnyIn_ready (rs := [1]) ?_ (by simp) ?_
      (focus decide +kernel)
      refine AllReadyIn.cons rfl (fun K hK => ?_) AllReadyIn.nil
      go_simp
      refine hK _ _ ?_; clear hK K
      refine wpAnyIn_ready (rs := [2]) ?_ (by simp) ?_
      (focus decide +kernel)
      refine AllReadyIn.cons rfl (fun K hK => ?_) AllReadyIn.nil
      go_simp
      refine ⟨trivial, ?_⟩
      refine (CallsIn.inRound l (callsIn_wide.2 (HN.out _ (by exact hEW)))).mono ?_
      rintro e w3 ⟨rfl, hb3⟩
      have hb3' : Below W.heap.size W w3 := ((Below.refl W.heap.size W).drew).trans hb3
      have hown3' := ownsBelow hrow hb3'
      have hv3 : Boxed w3 w.heap.size 44 v := (hb3'.block w.heap.size hvl).trans hv
      have hc3 := hv3.cell
      have hf3 := hv3.frozen
      have hc3a := (hv3.alloc (.cells #[.int .i64 (fldI x)] 3)).cell
      have hN3 : w2.heap.size ≤ w3.heap.size := Nat.le_trans hNW hb3'.size
      refine hK _ _ ?_; clear hK K
      refine wpAnyIn_ready (rs := [3]) ?_ (by simp) ?_
      (focus decide +kernel)
      refine AllReadyIn.cons rfl (fun K hK => ?_) AllReadyIn.nil
      go_simp
      refine hK _ _ ?_; clear hK K
      refine wpAnyIn_ready (rs := [4]) ?_ (by simp) ?_
      (focus decide +kernel)
      refine AllReadyIn.cons rfl (fun K hK => ?_) AllReadyIn.nil
      refine stepIn_own rfl (.tmp 9) (.tmp 12) 44 rfl w2.heap.size 3 i0 (.int .i64 0) 8 Tryz.underlying44 hi hz0 hz1 hz2 rfl v pre.length _ rfl hown3' (.int .i64 (fldI x)) _ rfl rfl rfl (by unfold maxLen; omega) (by omega) hN3 ?_
      intro v' w4 hown4 hgrow4 hnn
      obtain ⟨g', cap', rfl⟩ := ownsRow_succ hown4
      obtain ⟨q1, q2, q3, q4, q5, q6⟩ := boxApp hv3 (by decide) hown3' hN3 hown4 hgrow4
      have hc4 := q1.cell
      have hf4 := q1.frozen
      refine hK _ _ ?_; clear hK K
      refine wpAnyIn_ready (rs := [5]) ?_ (by simp) ?_
      (focus decide +kernel)
      refine AllReadyIn.cons rfl (fun K hK => ?_) AllReadyIn.nil
      go_simp
      refine hK _ _ ?_; clear hK K
      refine wpAnyIn_done (by kernel_rfl) ?_ _
      gi_wp2
      exact ⟨(keepsBelow _ hb3').trans (q4.from _), (KpB.of (hb3'.mono hNW)).trans q5, ⟨_, q2, by simpa using q3, by simp⟩, (hB.trans (hb3'.mono hB.size)).trans ((q6.mono hB0.size).setCell (p := ⟨w.heap.size, 0, none⟩) (Nat.le_refl _) _), Nat.le_trans hNW (Nat.le_trans hb3'.size q5.1)⟩
    · go_simp
      refine hK _ _ ?_; clear hK K
      refine wpAnyIn_ready (rs := [0, 2]) ?_ (by simp) ?_
      (focus decide +kernel)
      refine AllReadyIn.cons rfl (fun K hK => ?_) (AllReadyIn.cons rfl (fun K hK => ?_) AllReadyIn.nil)
      · go_simp
        refine hK _ _ ?_; clear hK K
        refine wpAnyIn_ready (rs := [2]) ?_ (by simp) ?_
        (focus decide +kernel)
        refine AllReadyIn.cons rfl (fun K hK => ?_) AllReadyIn.nil
        go_simp
        refine ⟨trivial, ?_⟩
        refine (CallsIn.inRound l (callsIn_wide.2 (HN.out _ (by exact hEW)))).mono ?_
        rintro e w3 ⟨rfl, hb3⟩
        have hb3' : Below W.heap.size W w3 := ((Below.refl W.heap.size W).drew).trans hb3
        have hown3' := ownsBelow hrow hb3'
        have hv3 : Boxed w3 w.heap.size 44 v := (hb3'.block w.heap.size hvl).trans hv
        have hc3 := hv3.cell
        have hf3 := hv3.frozen
        have hc3a := (hv3.alloc (.cells #[.int .i64 (fldI x)] 3)).cell
        have hN3 : w2.heap.size ≤ w3.heap.size := Nat.le_trans hNW hb3'.size
        refine hK _ _ ?_; clear hK K
        refine wpAnyIn_ready (rs := [3]) ?_ (by simp) ?_
        (focus decide +kernel)
        refine AllReadyIn.cons rfl (fun K hK => ?_) AllReadyIn.nil
        go_simp
        refine hK _ _ ?_; clear hK K
        refine wpAnyIn_ready (rs := [4]) ?_ (by simp) ?_
        (focus decide +kernel)
        refine AllReadyIn.cons rfl (fun K hK => ?_) AllReadyIn.nil
        refine stepIn_own rfl (.tmp 9) (.tmp 12) 44 rfl w2.heap.size 3 i0 (.int .i64 0) 8 Tryz.underlying44 hi hz0 hz1 hz2 rfl v pre.length _ rfl hown3' (.int .i64 (fldI x)) _ rfl rfl rfl (by unfold maxLen; omega) (by omega) hN3 ?_
        intro v' w4 hown4 hgrow4 hnn
        obtain ⟨g', cap', rfl⟩ := ownsRow_succ hown4
        obtain ⟨q1, q2, q3, q4, q5, q6⟩ := boxApp hv3 (by decide) hown3' hN3 hown4 hgrow4
        have hc4 := q1.cell
        have hf4 := q1.frozen
        refine hK _ _ ?_; clear hK K
        refine wpAnyIn_ready (rs := [5]) ?_ (by simp) ?_
        (focus decide +kernel)
        refine AllReadyIn.cons rfl (fun K hK => ?_) AllReadyIn.nil
        go_simp
        refine hK _ _ ?_; clear hK K
        refine wpAnyIn_done (by kernel_rfl) ?_ _
        gi_wp2
        exact ⟨(keepsBelow _ hb3').trans (q4.from _), (KpB.of (hb3'.mono hNW)).trans q5, ⟨_, q2, by simpa using q3, by simp⟩, (hB.trans (hb3'.mono hB.size)).trans ((q6.mono hB0.size).setCell (p := ⟨w.heap.size, 0, none⟩) (Nat.le_refl _) _), Nat.le_trans hNW (Nat.le_trans hb3'.size q5.1)⟩
      · go_simp
        refine ⟨trivial, ?_⟩
        refine (CallsIn.inRound l (callsIn_wide.2 (HN.out _ (by exact hEW)))).mono ?_
        rintro e w3 ⟨rfl, hb3⟩
        have hb3' : Below W.heap.size W w3 := ((Below.refl W.heap.size W).drew).trans hb3
        have hown3' := ownsBelow hrow hb3'
        have hv3 : Boxed w3 w.heap.size 44 v := (hb3'.block w.heap.size hvl).trans hv
        have hc3 := hv3.cell
        have hf3 := hv3.frozen
        have hc3a := (hv3.alloc (.cells #[.int .i64 (fldI x)] 3)).cell
        have hN3 : w2.heap.size ≤ w3.heap.size := Nat.le_trans hNW hb3'.size
        refine hK _ _ ?_; clear hK K
        refine wpAnyIn_ready (rs := [0, 3]) ?_ (by simp) ?_
        (focus decide +kernel)
        refine AllReadyIn.cons rfl (fun K hK => ?_) (AllReadyIn.cons rfl (fun K hK => ?_) AllReadyIn.nil)
        · go_simp
          refine hK _ _ ?_; clear hK K
          refine wpAnyIn_ready (rs := [3]) ?_ (by simp) ?_
          (focus decide +kernel)
          refine AllReadyIn.cons rfl (fun K hK => ?_) AllReadyIn.nil
          go_simp
          refine hK _ _ ?_; clear hK K
          refine wpAnyIn_ready (rs := [4]) ?_ (by simp) ?_
          (focus decide +kernel)
          refine AllReadyIn.cons rfl (fun K hK => ?_) AllReadyIn.nil
          refine stepIn_own rfl (.tmp 9) (.tmp 12) 44 rfl w2.heap.size 3 i0 (.int .i64 0) 8 Tryz.underlying44 hi hz0 hz1 hz2 rfl v pre.length _ rfl hown3' (.int .i64 (fldI x)) _ rfl rfl rfl (by unfold maxLen; omega) (by omega) hN3 ?_
          intro v' w4 hown4 hgrow4 hnn
          obtain ⟨g', cap', rfl⟩ := ownsRow_succ hown4
          obtain ⟨q1, q2, q3, q4, q5, q6⟩ := boxApp hv3 (by decide) hown3' hN3 hown4 hgrow4
          have hc4 := q1.cell
          have hf4 := q1.frozen
          refine hK _ _ ?_; clear hK K
          refine wpAnyIn_ready (rs := [5]) ?_ (by simp) ?_
          (focus decide +kernel)
          refine AllReadyIn.cons rfl (fun K hK => ?_) AllReadyIn.nil
          go_simp
          refine hK _ _ ?_; clear hK K
          refine wpAnyIn_done (by kernel_rfl) ?_ _
          gi_wp2
          exact ⟨(keepsBelow _ hb3').trans (q4.from _), (KpB.of (hb3'.mono hNW)).trans q5, ⟨_, q2, by simpa using q3, by simp⟩, (hB.trans (hb3'.mono hB.size)).trans ((q6.mono hB0.size).setCell (p := ⟨w.heap.size, 0, none⟩) (Nat.le_refl _) _), Nat.le_trans hNW (Nat.le_trans hb3'.size q5.1)⟩
        · go_simp
          refine hK _ _ ?_; clear hK K
          refine wpAnyIn_ready (rs := [0]) ?_ (by simp) ?_
          (focus decide +kernel)
          refine AllReadyIn.cons rfl (fun K hK => ?_) AllReadyIn.nil
          go_simp
          refine hK _ _ ?_; clear hK K
          refine wpAnyIn_ready (rs := [4]) ?_ (by simp) ?_
          (focus decide +kernel)
          refine AllReadyIn.cons rfl (fun K hK => ?_) AllReadyIn.nil
          refine stepIn_own rfl (.tmp 9) (.tmp 12) 44 rfl w2.heap.size 3 i0 (.int .i64 0) 8 Tryz.underlying44 hi hz0 hz1 hz2 rfl v pre.length _ rfl hown3' (.int .i64 (fldI x)) _ rfl rfl rfl (by unfold maxLen; omega) (by omega) hN3 ?_
          intro v' w4 hown4 hgrow4 hnn
          obtain ⟨g', cap', rfl⟩ := ownsRow_succ hown4
          obtain ⟨q1, q2, q3, q4, q5, q6⟩ := boxApp hv3 (by decide) hown3' hN3 hown4 hgrow4
          have hc4 := q1.cell
          have hf4 := q1.frozen
          refine hK _ _ ?_; clear hK K
          refine wpAnyIn_ready (rs := [5]) ?_ (by simp) ?_
          (focus decide +kernel)
          refine AllReadyIn.cons rfl (fun K hK => ?_) AllReadyIn.nil
          go_simp
          refine hK _ _ ?_; clear hK K
          refine wpAnyIn_done (by kernel_rfl) ?_ _
          gi_wp2
          exact ⟨(keepsBelow _ hb3').trans (q4.from _), (KpB.of (hb3'.mono hNW)).trans q5, ⟨_, q2, by simpa using q3, by simp⟩, (hB.trans (hb3'.mono hB.size)).trans ((q6.mono hB0.size).setCell (p := ⟨w.heap.size, 0, none⟩) (Nat.le_refl _) _), Nat.le_trans hNW (Nat.le_trans hb3'.size q5.1)⟩
  case done =>
    rintro D ys W hD hys ⟨⟨v, hv, hrow, hnil⟩, hB, hsW⟩ hK
    have hc := hv.cell
    have hbD := belowK_b (n₀ := w.heap.size) (w := w) (Nat.le_refl _) W D (.deferred (some [])) (.deferred none) (by have := hB0.size; omega) hK rfl rfl
    have hrow2 := ownsRow_putObj hrow (.deferred none) hK rfl
    have hown : OwnV 3 w.heap.size (W.putObj D (.deferred none)) v ((fs.map fldI).map (Value.int .i64)) := by
      rw [← hys]
      refine OwnV.base (B := w2.heap.size) ?_ hB0.size
      unfold OwnV; simpa using hrow2
    have hnil2 : v = .slice none 0 0 ↔ fs.map fldI = [] := by rw [hnil, hys]; simp
    gi_wp2
    refine ⟨by simp, .inl ⟨_, _, rfl, run_takeDeferred hK, ?_⟩⟩
    exact ⟨_, results_tmp rfl _ _ _, v, rfl, hown, hnil2, hB.trans hbD⟩
  case stop =>
    rintro D c pre W _ _ h _
    exact h.elim
theorem classDigs (c : Int) : digsB 10 (findP rdC c classLines) = true := by
  rcases find_mem rdC c classLines with h | ⟨l, hl, h, -⟩
  · rw [h]; decide
  · rw [h]
    have := classTab.2.2.1 l hl
    unfold okC at this
    simp only [Bool.and_eq_true] at this
    exact this.1.1.2
set_option maxRecDepth 100000 in
set_option maxHeartbeats 1000000 in
theorem class_any (c : Int) (hc0 : -9223372036854775808 ≤ c) (hc1 : c ≤ 9223372036854775807) (w : World) (hE : ErrAt w) :
    Calls Tryz.prog 138 #[.int .i64 c] w (IntRes (classP c) w) := by
  have HM : Hid (∀ t : ByteArray, t.data.toList = textL classLines → ∀ w, ErrAt w → Calls Tryz.prog 148 #[.string t, .int .i64 c, .func (.func 149) #[] #[]] w (StrRes (findP rdC c classLines) w)) := Lib.hid fun t ht w h => findC_any c hc0 hc1 t classLines ht classTab w h
  have HN : Hid (∀ w, ErrAt w → Calls Tryz.prog 147 #[.string (bs (findP rdC c classLines)), .int .i64 10] w (IntRes (classP c) w)) := Lib.hid (num_row 10 (by decide) _ (classDigs c))
  generalize findP rdC c classLines = R at *
  generalize classP c = V at *
  go_enter Tryz.func138, Tryz.ntmps138
  go_wp2_with fail
  refine (HM.out _ (by kernel_rfl) _ hE).mono ?_
  rintro e w1 ⟨rfl, hb1⟩
  go_wp2_with fail
  refine (HN.out _ (hE.below hb1)).mono ?_
  rintro e w2 ⟨rfl, hb2⟩
  go_wp2
  go_ret
  exact ⟨rfl, hb1.trans (hb2.mono hb1.size)⟩
end Go.Proofs.YtjhkfjbgdaomeaaGreatDoor
