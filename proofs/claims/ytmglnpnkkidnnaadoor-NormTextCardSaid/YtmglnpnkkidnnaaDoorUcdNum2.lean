/- strconv.ParseInt and ucd.number: digits give their number, no digits give 0. -/
import Derived.Test.YtmglnpnkkidnnaaDoorUcdNum
import Derived.Outline
import Derived.Lib.IfaceEq
import Derived.Deep.RegionWith
import Derived.BigRegion
import Derived.Deep.DeepCutAuto
namespace Go.Proofs.YtmglnpnkkidnnaaDoor
set_option linter.unusedVariables false
open Go.RowKit

set_option maxHeartbeats 4000000 in
set_option maxRecDepth 100000 in
theorem parseInt10_in (t : ByteArray) (h0 : 0 < t.size) (hd : DigsOk 10 t.data.toList) (w : World) :
    Calls Tryd.prog 63 #[.string t, .int .i64 10, .int .i64 64] w fun e w' => e = .returned (.tuple #[.int .i64 (numB 10 t.data.toList : Nat), .nilIface]) ∧ Below w.heap.size w w' := by
  have hemp := isEmpty_ne h0
  have hsz : t.size ≤ 10 := by have := hd.2; rw [size_toList] at this; exact this
  have hbd := numB_bd (b := 10) (by decide) hd
  have hok : digOk 10 (t[0]'h0) = true := List.all_eq_true.1 hd.1 _ (List.getElem_mem (l := t.data.toList) (n := 0) (by rw [size_toList]; exact h0))
  have hcase : 48 ≤ (t[0]'h0).toNat ∧ (t[0]'h0).toNat ≤ 57 ∨ 10 = 16 ∧ 65 ≤ (t[0]'h0).toNat ∧ (t[0]'h0).toNat ≤ 70 := of_decide_eq_true hok
  have h48 : 48 ≤ (t[0]'h0).toNat := by omega
  clear hok hcase
  have HC : Hid (∀ w, Calls Tryd.prog 72 #[.string t, .int .i64 10, .int .i64 64] w fun e w' => e = .returned (.tuple #[.int .u64 (numB 10 t.data.toList : Nat), .nilIface]) ∧ Below w.heap.size w w') := Lib.hid (parseUint10_any t h0 hd)
  clear hd
  obtain ⟨N, hN⟩ : ∃ N : Int, N = (numB 10 t.data.toList : Nat) := ⟨_, rfl⟩
  rw [← hN] at HC ⊢
  have n0 : 0 ≤ N := by omega
  have n1 : N < 1099511627776 := by omega
  clear hN hbd
  go_enter Tryd.func63, Tryd.ntmps63
  go_wp2_with (go_at_call 72; refine (HC.out _).mono ?_; rintro e w1 ⟨rfl, hb1⟩)
  go_ret2
  exact ⟨rfl, hb1⟩
set_option maxHeartbeats 4000000 in
set_option maxRecDepth 100000 in
theorem parseInt10_any (t : ByteArray) (h0 : 0 < t.size) (hd : DigsOk 10 t.data.toList) (w : World) :
    Calls Tryd.prog 52 #[.string t, .int .i64 10, .int .i64 64] w fun e w' => e = .returned (.tuple #[.int .i64 (numB 10 t.data.toList : Nat), .nilIface]) ∧ Below w.heap.size w w' := by
  have HC : Hid (∀ w, Calls Tryd.prog 63 #[.string t, .int .i64 10, .int .i64 64] w fun e w' => e = .returned (.tuple #[.int .i64 (numB 10 t.data.toList : Nat), .nilIface]) ∧ Below w.heap.size w w') := Lib.hid (parseInt10_in t h0 hd)
  generalize (numB 10 t.data.toList : Int) = N at *
  clear hd h0
  go_enter Tryd.func52, Tryd.ntmps52
  go_wp2_with (go_at_call 63; refine (HC.out _).mono ?_; rintro e w1 ⟨rfl, hb1⟩)
  go_ret2
  exact ⟨rfl, hb1⟩

set_option maxHeartbeats 4000000 in
set_option maxRecDepth 100000 in
theorem parseInt16_in (t : ByteArray) (h0 : 0 < t.size) (hd : DigsOk 16 t.data.toList) (w : World) :
    Calls Tryd.prog 63 #[.string t, .int .i64 16, .int .i64 64] w fun e w' => e = .returned (.tuple #[.int .i64 (numB 16 t.data.toList : Nat), .nilIface]) ∧ Below w.heap.size w w' := by
  have hemp := isEmpty_ne h0
  have hsz : t.size ≤ 10 := by have := hd.2; rw [size_toList] at this; exact this
  have hbd := numB_bd (b := 16) (by decide) hd
  have hok : digOk 16 (t[0]'h0) = true := List.all_eq_true.1 hd.1 _ (List.getElem_mem (l := t.data.toList) (n := 0) (by rw [size_toList]; exact h0))
  have hcase : 48 ≤ (t[0]'h0).toNat ∧ (t[0]'h0).toNat ≤ 57 ∨ 16 = 16 ∧ 65 ≤ (t[0]'h0).toNat ∧ (t[0]'h0).toNat ≤ 70 := of_decide_eq_true hok
  have h48 : 48 ≤ (t[0]'h0).toNat := by omega
  clear hok hcase
  have HC : Hid (∀ w, Calls Tryd.prog 72 #[.string t, .int .i64 16, .int .i64 64] w fun e w' => e = .returned (.tuple #[.int .u64 (numB 16 t.data.toList : Nat), .nilIface]) ∧ Below w.heap.size w w') := Lib.hid (parseUint16_any t h0 hd)
  clear hd
  obtain ⟨N, hN⟩ : ∃ N : Int, N = (numB 16 t.data.toList : Nat) := ⟨_, rfl⟩
  rw [← hN] at HC ⊢
  have n0 : 0 ≤ N := by omega
  have n1 : N < 1099511627776 := by omega
  clear hN hbd
  go_enter Tryd.func63, Tryd.ntmps63
  go_wp2_with (go_at_call 72; refine (HC.out _).mono ?_; rintro e w1 ⟨rfl, hb1⟩)
  go_ret2
  exact ⟨rfl, hb1⟩
set_option maxHeartbeats 4000000 in
set_option maxRecDepth 100000 in
theorem parseInt16_any (t : ByteArray) (h0 : 0 < t.size) (hd : DigsOk 16 t.data.toList) (w : World) :
    Calls Tryd.prog 52 #[.string t, .int .i64 16, .int .i64 64] w fun e w' => e = .returned (.tuple #[.int .i64 (numB 16 t.data.toList : Nat), .nilIface]) ∧ Below w.heap.size w w' := by
  have HC : Hid (∀ w, Calls Tryd.prog 63 #[.string t, .int .i64 16, .int .i64 64] w fun e w' => e = .returned (.tuple #[.int .i64 (numB 16 t.data.toList : Nat), .nilIface]) ∧ Below w.heap.size w w') := Lib.hid (parseInt16_in t h0 hd)
  generalize (numB 16 t.data.toList : Int) = N at *
  clear hd h0
  go_enter Tryd.func52, Tryd.ntmps52
  go_wp2_with (go_at_call 63; refine (HC.out _).mono ?_; rintro e w1 ⟨rfl, hb1⟩)
  go_ret2
  exact ⟨rfl, hb1⟩

/-- what is read of strconv.ErrSyntax is some interface value. -/
def ErrAt (w : World) : Prop := ∃ t p, w.cell? ⟨5, 0, none⟩ = some (.iface t p) ∧ 5 < w.heap.size
theorem ErrAt.below {w w' : World} (h : ErrAt w) (hb : Below w.heap.size w w') : ErrAt w' := by
  obtain ⟨t, p, h1, h2⟩ := h
  exact ⟨t, p, by rw [hb.cell (p := ⟨_, 0, none⟩) h2]; exact h1, Nat.lt_of_lt_of_le h2 hb.size⟩
set_option maxHeartbeats 4000000 in
set_option maxRecDepth 100000 in
theorem parseIntE_in (b : Int) (w : World) :
    Calls Tryd.prog 63 #[.string ByteArray.empty, .int .i64 b, .int .i64 64] w fun e w' => e = .returned (.tuple #[.int .i64 0, .iface 86 (.int .i64 2)]) ∧ w = w' := by
  go_enter Tryd.func63, Tryd.ntmps63
  go_wp2
  go_ret2
  exact ⟨rfl, rfl⟩
set_option maxHeartbeats 4000000 in
set_option maxRecDepth 100000 in
theorem cloneE (w : World) :
    Calls Tryd.prog 83 #[.string ByteArray.empty] w fun e w' => e = .returned (.string ByteArray.empty) ∧ w = w' := by
  go_enter Tryd.func83, Tryd.ntmps83
  go_wp2
  go_ret
  exact ⟨rfl, rfl⟩
def SynRes (w : World) (e : Ending) (w' : World) : Prop := ∃ a, e = .returned (.pointer (some a)) ∧ Below w.heap.size w w'
set_option maxHeartbeats 4000000 in
set_option maxRecDepth 100000 in
theorem syntaxErrorE (fn : ByteArray) (w : World) (hE : ErrAt w) :
    Calls Tryd.prog 73 #[.string fn, .string ByteArray.empty] w (SynRes w) := by
  obtain ⟨et, ep, hv, hlt⟩ := hE
  go_enter Tryd.func73, Tryd.ntmps73
  go_wp2_with fail
  go_region_with (go_at_call 83; refine (cloneE _).mono ?_; rintro e w' ⟨rfl, rfl⟩)
  all_goals go_wp2
  all_goals go_ret
  all_goals exact ⟨_, rfl, ((Below.refl _ _).alloc (Nat.le_refl _) _).drew⟩
def IfRes (w : World) (e : Ending) (w' : World) : Prop := ∃ t v, e = .returned (.iface t v) ∧ Below w.heap.size w w'
set_option maxHeartbeats 4000000 in
set_option maxRecDepth 100000 in
theorem toErrorE (fn : ByteArray) (b : Int) (w : World) (hE : ErrAt w) :
    Calls Tryd.prog 64 #[.string fn, .string ByteArray.empty, .int .i64 b, .int .i64 64, .iface 86 (.int .i64 2)] w (IfRes w) := by
  have heq : ∀ W, (binOp .eql 63 (.iface 86 (.int .i64 2)) (.iface 86 (.int .i64 2))).run Tryd.prog W = .ok (.bool true) W := fun W => Lib.run_eql_iface_int W 2 2 Tryd.underlying63 (by kernel_rfl) Tryd.underlying86
  go_enter Tryd.func64, Tryd.ntmps64
  go_wp2_with (go_at_call 73; refine (syntaxErrorE _ _ hE).mono ?_; rintro e w1 ⟨a, rfl, hb⟩)
  go_ret
  exact ⟨_, _, rfl, hb⟩
def NumRes (w : World) (e : Ending) (w' : World) : Prop := ∃ t v, e = .returned (.tuple #[.int .i64 0, .iface t v]) ∧ Below w.heap.size w w'
set_option maxHeartbeats 4000000 in
set_option maxRecDepth 100000 in
theorem parseIntE (b : Int) (w : World) (hE : ErrAt w) :
    Calls Tryd.prog 52 #[.string ByteArray.empty, .int .i64 b, .int .i64 64] w (NumRes w) := by
  go_enter Tryd.func52, Tryd.ntmps52
  go_wp2_with fail
  refine (parseIntE_in _ _).mono ?_
  rintro e w' ⟨rfl, rfl⟩
  go_wp2_with (go_at_call 64; refine (toErrorE _ _ _ hE).mono ?_; rintro e w1 ⟨t, v, rfl, hb⟩)
  go_ret2
  exact ⟨_, _, rfl, hb⟩
/-- ucd.number at digits, or at none. -/
theorem numB_nil (b : Nat) : numB b [] = 0 := rfl
def IntRes (n : Int) (w : World) (e : Ending) (w' : World) : Prop := e = .returned (.int .i64 n) ∧ Below w.heap.size w w'
set_option maxHeartbeats 4000000 in
set_option maxRecDepth 100000 in
theorem numberE (b : Int) (w : World) (hE : ErrAt w) : Calls Tryd.prog 39 #[.string ByteArray.empty, .int .i64 b] w (IntRes 0 w) := by
  go_enter Tryd.func39, Tryd.ntmps39
  go_wp2_with (go_at_call 52; refine (parseIntE _ _ hE).mono ?_; rintro e w1 ⟨t, v, rfl, hb⟩)
  go_ret
  exact ⟨rfl, hb⟩
set_option maxHeartbeats 4000000 in
set_option maxRecDepth 100000 in
theorem number10_some (t : ByteArray) (h0 : 0 < t.size) (hd : DigsOk 10 t.data.toList) (w : World) :
    Calls Tryd.prog 39 #[.string t, .int .i64 10] w (IntRes (numB 10 t.data.toList : Nat) w) := by
  have HC : Hid (∀ w, Calls Tryd.prog 52 #[.string t, .int .i64 10, .int .i64 64] w fun e w' => e = .returned (.tuple #[.int .i64 (numB 10 t.data.toList : Nat), .nilIface]) ∧ Below w.heap.size w w') := Lib.hid (parseInt10_any t h0 hd)
  generalize (numB 10 t.data.toList : Int) = N at *
  clear hd h0
  go_enter Tryd.func39, Tryd.ntmps39
  go_wp2_with (go_at_call 52; refine (HC.out _).mono ?_; rintro e w1 ⟨rfl, hb1⟩)
  go_ret
  exact ⟨rfl, hb1⟩
set_option maxHeartbeats 4000000 in
set_option maxRecDepth 100000 in
theorem number16_some (t : ByteArray) (h0 : 0 < t.size) (hd : DigsOk 16 t.data.toList) (w : World) :
    Calls Tryd.prog 39 #[.string t, .int .i64 16] w (IntRes (numB 16 t.data.toList : Nat) w) := by
  have HC : Hid (∀ w, Calls Tryd.prog 52 #[.string t, .int .i64 16, .int .i64 64] w fun e w' => e = .returned (.tuple #[.int .i64 (numB 16 t.data.toList : Nat), .nilIface]) ∧ Below w.heap.size w w') := Lib.hid (parseInt16_any t h0 hd)
  generalize (numB 16 t.data.toList : Int) = N at *
  clear hd h0
  go_enter Tryd.func39, Tryd.ntmps39
  go_wp2_with (go_at_call 52; refine (HC.out _).mono ?_; rintro e w1 ⟨rfl, hb1⟩)
  go_ret
  exact ⟨rfl, hb1⟩
theorem number_any (b : Nat) (hb : b = 10 ∨ b = 16) (t : ByteArray) (hd : DigsOk b t.data.toList) (w : World) (hE : ErrAt w) :
    Calls Tryd.prog 39 #[.string t, .int .i64 b] w (IntRes (numB b t.data.toList : Nat) w) := by
  by_cases h0 : 0 < t.size
  · rcases hb with rfl | rfl
    · exact number10_some t h0 hd w
    · exact number16_some t h0 hd w
  · have e : t = ByteArray.empty := by rw [← bs_of t, toList_nil h0]; rfl
    subst e
    exact numberE _ w hE
end Go.Proofs.YtmglnpnkkidnnaaDoor
