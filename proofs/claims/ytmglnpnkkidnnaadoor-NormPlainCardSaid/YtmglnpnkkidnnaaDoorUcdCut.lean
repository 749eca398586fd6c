/- The walks of strings.LastIndexByte and of strings.Cut at a text of one byte. -/
import Derived.Test.YtmglnpnkkidnnaaDoorUcdLines
import Derived.Test.YtmglnpnkkidnnaaDoorShelfIx
import Derived.Test.YtmglnpnkkidnnaaDoorSlices
import Derived.BigQuiet
import Derived.Outline
namespace Go.Proofs.YtmglnpnkkidnnaaDoor
set_option linter.unusedVariables false
open Go.RowKit

theorem ownsBelow {E B : Nat} {w w' : World} {v : Value} {k : Nat} {vs : List Value} (h : w.ownsRow B E 1 v k vs) (hb : Below w.heap.size w w') : w'.ownsRow B E 1 v k vs := by
  obtain ⟨h1, h2⟩ := h
  refine ⟨h1, ?_⟩
  rcases h2 with h2 | ⟨g, cap, cur, e1, e2, e3, e4⟩
  · exact .inl h2
  · exact .inr ⟨g, cap, cur, e1, e2, (hb.block g (Array.getElem?_eq_some_iff.1 e3).1).trans e3, e4⟩
theorem at_list (s : ByteArray) (k : Nat) (h : k < s.size) : s.data.toList[k]? = some s[k] := by
  rw [List.getElem?_eq_getElem (by rw [size_toList]; exact h), at_toList s k h]
def LastRes (l : List UInt8) (c : UInt8) (w : World) (e : Ending) (w' : World) : Prop :=
  w = w' ∧ ∃ k : Nat, k ≤ l.length ∧ e = .returned (.int .i64 ((k : Int) - 1)) ∧ c ∉ l.drop k ∧ (k = 0 ∨ l[k - 1]? = some c)
theorem drop_less {l : List UInt8} {c : UInt8} {k : Nat} (hk : k < l.length) (h : c ∉ l.drop (k + 1)) (hc : l[k] ≠ c) : c ∉ l.drop k := by
  rw [List.drop_eq_getElem_cons hk]
  simp only [List.mem_cons, not_or]
  exact ⟨fun e => hc e.symm, h⟩
set_option maxHeartbeats 4000000 in
set_option maxRecDepth 100000 in
theorem lastIxIn (s : ByteArray) (c : UInt8) (hs : s.size ≤ 1000000) (w : World) :
    Calls Tryd.prog 65 #[.string s, .int .u8 c.toNat] w (LastRes s.data.toList c w) := by
  go_enter Tryd.func65, Tryd.ntmps65
  go_wp2
  go_loop [5] (fun i => ∃ k : Nat, k ≤ s.size ∧ i = .int .i64 ((k : Int) - 1) ∧ Hid (c ∉ s.data.toList.drop k)) (fun i => (intOf i + 1).toNat)
  case atStart => exact ⟨s.size, Nat.le_refl _, rfl, Lib.hid (by rw [List.drop_of_length_le (by rw [size_toList]; exact Nat.le_refl _)]; simp)⟩
  case round =>
    obtain ⟨k, hk, rfl, hh⟩ := hrel
    by_cases h0 : 0 < k
    · obtain ⟨k, rfl⟩ : ∃ j, k = j + 1 := ⟨k - 1, by omega⟩
      have e1 : ((k + 1 : Nat) : Int) - 1 = (k : Int) := by omega
      rw [e1]
      have hlt : k < s.size := by omega
      clear e1
      by_cases hc : s[k] = c
      · have hcd : ((s[k].toNat : Int) == (c.toNat : Int)) = true := by rw [hc]; simp
        have HP : Hid (k + 1 ≤ s.data.toList.length ∧ c ∉ s.data.toList.drop (k + 1) ∧ s.data.toList[k + 1 - 1]? = some c) := Lib.hid ⟨by rw [size_toList]; omega, hh.out, by rw [Nat.add_sub_cancel, at_list s k hlt, hc]⟩
        clear hh hc
        go_wp2
        go_ret
        exact ⟨rfl, k + 1, HP.out.1, ret_int (by omega), HP.out.2.1, .inr HP.out.2.2⟩
      · have hcd : ((s[k].toNat : Int) == (c.toNat : Int)) = false := by
          rw [beq_eq_false_iff_ne]; exact fun e => hc (UInt8.toNat_inj.1 (by omega))
        have HP : Hid (c ∉ s.data.toList.drop k) := Lib.hid (drop_less (by rw [size_toList]; exact hlt) hh.out (by rw [at_toList s k hlt]; exact hc))
        clear hh hc
        go_wp2
        go_round
        case rel => exact ⟨k, by omega, rfl, HP⟩
        case measure => simp [intOf]
    · obtain rfl : k = 0 := by omega
      go_wp2
      go_ret
      exact ⟨rfl, 0, Nat.zero_le _, rfl, hh.out, .inl rfl⟩
set_option maxHeartbeats 1000000 in
theorem lastIx_any (s : ByteArray) (c : UInt8) (hs : s.size ≤ 1000000) (w : World) :
    Calls Tryd.prog 53 #[.string s, .int .u8 c.toNat] w (LastRes s.data.toList c w) := by
  go_enter Tryd.func53, Tryd.ntmps53
  go_wp2_with (go_at_call 65; refine (lastIxIn s c hs _).mono ?_; rintro e w' ⟨rfl, k, h1, rfl, h2⟩)
  go_ret
  exact ⟨rfl, k, h1, rfl, h2⟩

theorem rest_data' (s : ByteArray) (n : Nat) : (s.extract n s.size).data.toList = s.data.toList.drop n := by
  rw [Lib.extract_data, List.take_of_length_le]; rw [List.length_drop, size_toList]; omega
def CutRes (a b : ByteArray) (w : World) (e : Ending) (w' : World) : Prop := DrN w w' ∧ e = .returned (.tuple #[.string a, .string b, .bool true])
set_option maxHeartbeats 1000000 in
theorem cutIn (s : ByteArray) (c : UInt8) (A B : List UInt8) (hs : s.data.toList = A ++ c :: B) (hc : c ∉ A) (hm : s.size ≤ 1000000) (w : World) :
    Calls Tryd.prog 66 #[.string s, .string ⟨#[c]⟩] w (CutRes (bs A) (bs B) w) := by
  have HI : Hid (∀ w, Calls Tryd.prog 77 #[.string s, .string ⟨#[c]⟩] w fun e w' => e = .returned (.int .i64 (A.length : Nat)) ∧ w = w') := Lib.hid fun w => (Tryd.stringslite_Index_one s c w).mono fun e w' ⟨h1, h2⟩ => by
    rw [hs, indexByte_at hc] at h1; exact ⟨h1, h2.symm⟩
  have hl : A.length + 1 + B.length = s.size := by have := size_toList s; rw [hs] at this; simp at this; omega
  have HA : Hid (s.extract 0 A.length = bs A) := Lib.hid (bs_ext (by rw [Lib.extract_data, hs]; simp))
  have HB : Hid (s.extract (A.length + 1) s.size = bs B) := Lib.hid (bs_ext (by rw [rest_data', hs]; simp))
  have hone : (⟨#[c]⟩ : ByteArray).size = 1 := rfl
  clear hs hc
  go_enter Tryd.func66, Tryd.ntmps66
  go_wp2_with (go_at_call 77; refine (HI.out _).mono ?_; rintro e w' ⟨rfl, rfl⟩)
  go_quiet (fail)
  go_wp2
  go_ret3
  exact ⟨⟨_, rfl⟩, by rw [HA.out, HB.out]; rfl⟩
set_option maxHeartbeats 1000000 in
theorem scut_any (s : ByteArray) (c : UInt8) (A B : List UInt8) (hs : s.data.toList = A ++ c :: B) (hc : c ∉ A) (hm : s.size ≤ 1000000) (w : World) :
    Calls Tryd.prog 54 #[.string s, .string ⟨#[c]⟩] w (CutRes (bs A) (bs B) w) := by
  have HI := Lib.hid (cutIn s c A B hs hc hm)
  clear hs hc
  go_enter Tryd.func54, Tryd.ntmps54
  go_wp2_with (go_at_call 66; refine (HI.out _).mono ?_; rintro e w' ⟨hw, rfl⟩)
  go_ret3
  exact ⟨hw, rfl⟩
end Go.Proofs.YtmglnpnkkidnnaaDoor
