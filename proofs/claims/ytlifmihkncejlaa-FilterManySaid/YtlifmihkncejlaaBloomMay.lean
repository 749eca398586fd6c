/- The walk of bloom.May. -/
import Derived.Test.YtlifmihkncejlaaBloomMake
import Derived.Deep.QuietTactic
import Derived.BigQuiet
namespace Go.Proofs.Ytlifmihkncejlaa
set_option linter.unusedVariables false
open Go.RowKit
/-- What May tells of bytes and a text's sum. -/
def mayB (f : List UInt8) (h : Nat) : Bool := if f.length < 2 then true else if f.getD (f.length - 1) 0 = 6 then mayH (8 * (f.length - 1)) f h else true
theorem hasBit_app (f r : List UInt8) {k : Nat} (h : k / 8 < f.length) : hasBit (f ++ r) k = hasBit f k := by
  unfold hasBit
  rw [List.getElem?_append_left h]
theorem mayB_has {hs : List Nat} {g : Nat} (h : g ∈ hs) : mayB (filterB hs) g = true := by
  have hm := filterF_has h
  have hl := filterF_len hs
  have hb : bitsN hs.length = 8 * (bitsN hs.length / 8) ∧ 8 ≤ bitsN hs.length / 8 := by unfold bitsN; omega
  have e : (filterB hs).length - 1 = bitsN hs.length / 8 := by unfold filterB; rw [List.length_append, hl]; rfl
  unfold mayB
  rw [if_neg (by unfold filterB; rw [List.length_append, hl]; simp; omega)]
  split
  · rw [e, ← hb.1]
    unfold mayH at hm ⊢
    rw [List.all_eq_true] at hm ⊢
    intro k hk
    unfold filterB
    rw [hasBit_app _ _ (by rw [hl]; have := plcN_lt (bits := bitsN hs.length) (by omega) g k; omega)]
    exact hm k hk
  · rfl
theorem hasB0 : ∀ (b : Fin 256) (i : Fin 8), (bits .and .u8 (b.val : Int) ((2 ^ i.val : Nat) : Int) == 0) = !(b.val).testBit i.val := by decide +kernel
theorem hasB (b : UInt8) (i : Nat) (hi : i < 8) : (bits .and .u8 (b.toNat : Int) ((2 ^ i : Nat) : Int) == 0) = !(b.toNat).testBit i := hasB0 ⟨b.toNat, b.toNat_lt⟩ ⟨i, hi⟩
theorem may_no {bits : Nat} {f : List UInt8} {h k : Nat} (hk : k < 6) (hn : hasBit f (plcN bits h k) = false) : mayH bits f h = false := by
  unfold mayH
  rw [Bool.eq_false_iff]
  intro e
  rw [List.all_eq_true] at e
  rw [e k (List.mem_range.2 hk)] at hn
  cases hn
theorem may_yes {bits : Nat} {f : List UInt8} {h : Nat} (hn : ∀ k, k < 6 → hasBit f (plcN bits h k) = true) : mayH bits f h = true := by
  unfold mayH
  rw [List.all_eq_true]
  exact fun k hk => hn k (List.mem_range.1 hk)
set_option maxHeartbeats 4000000 in
set_option maxRecDepth 100000 in
theorem may_any (w : World) (v : Value) (f : List UInt8) (hr : RdB w v f) (hn : f.length ≤ 100000000000) (s : ByteArray) (hs : s.size ≤ maxLen) :
    Calls Try.prog 6 #[v, .string s] w fun e w' => e = .returned (.bool (mayB f (hashN s))) ∧ Below w.heap.size w w' := by
  obtain ⟨a, len, cap, rfl, hlen, -⟩ := hr.form
  have HLEN := Lib.hid hlen
  have hl0 : (len : Int) ≤ 100000000000 := by omega
  obtain ⟨R, hR⟩ : ∃ R, mayB f (hashN s) = R := ⟨_, rfl⟩
  rw [hR]
  by_cases h2 : len < 2
  · obtain rfl : R = true := by rw [← hR]; unfold mayB; rw [if_pos (by omega)]
    have hd : decide ((len : Int) - 1 < 1) = true := by simp; omega
    clear hr hR hlen
    go_enter Try.func6, Try.ntmps6
    go_wp2
    go_ret
    exact ⟨rfl, Below.refl _ _⟩
  · obtain ⟨sz, rfl⟩ : ∃ sz, len = sz + 1 := ⟨len - 1, by omega⟩
    have hs1 : 1 ≤ sz := by omega
    have hsI : (1 : Int) ≤ (sz : Int) := by omega
    have e1 : ((sz + 1 : Nat) : Int) - 1 = (sz : Int) := by omega
    have hd : decide ((sz : Int) < 1) = false := by simp; omega
    have hx0 : f[sz]? = some (f.getD sz 0) := by rw [List.getD_eq_getElem?_getD, List.getElem?_eq_getElem (by omega)]; rfl
    obtain ⟨b, off, rfl, hb, hc⟩ := hr.at sz _ hx0
    have HR := Lib.hid hr
    have e2 : mayB f (hashN s) = if f.getD sz 0 = 6 then mayH (8 * sz) f (hashN s) else true := by
      unfold mayB
      rw [if_neg (by omega), ← hlen]
      rfl
    rw [hR] at e2
    obtain ⟨x, hx⟩ : ∃ x, f.getD sz 0 = x := ⟨_, rfl⟩
    rw [hx] at hc e2
    have HE2 := Lib.hid e2
    clear hr hR hx hx0 e2 hlen
    by_cases h6 : x = 6
    · subst h6
      have hq : ((6 : Int) != 6) = false := by decide
      have HE : Hid (R = mayH (8 * sz) f (hashN s)) := Lib.hid (by rw [HE2.out, if_pos rfl])
      have hc6 : w.cell? ⟨b, off + sz, none⟩ = some (.int .u8 6) := hc
      have HPL := Lib.hid (places_any s hs sz hs1 (by omega))
      have HIX : Hid (∀ j : Nat, j < 6 → ∀ w, (Instr.index 30 (plcV (8 * sz) (hashN s)) (.int .i64 (j : Int))).run Try.prog w = .ok (.int .u64 (plcN (8 * sz) (hashN s) j : Nat)) w) := Lib.hid fun j hj w => plc_at _ _ hj w
      obtain ⟨V, hV⟩ : ∃ V, plcV (8 * sz) (hashN s) = V := ⟨_, rfl⟩
      rw [hV] at HPL HIX
      obtain ⟨h, hh⟩ : ∃ h, hashN s = h := ⟨_, rfl⟩
      rw [hh] at HIX HE
      clear hV hh hc HE2
      go_enter Try.func6, Try.ntmps6
      go_wp2_with (refine (HPL.out _).mono ?_; rintro e w2 ⟨rfl, hb2⟩)
      have HB2 := Lib.hid hb2
      clear hb2 hc6 hq hd HPL
      go_loopg [23] 6 (fun jj vj wq => ∃ j : Nat, vj = .int .i64 (j : Int) ∧ j ≤ 6 ∧ jj + j = 6 ∧ Hid (∀ i, i < j → hasBit f (plcN (8 * sz) h i) = true) ∧ Hid (Below w.heap.size w wq))
      case atStart => exact ⟨0, rfl, by omega, by omega, Lib.hid fun i hi => by omega, HB2⟩
      case round =>
        clear HB2
        obtain ⟨j, rfl, hj, hjj, HA, HB⟩ := hrel
        by_cases hlt6 : j < 6
        · have hd6 : decide ((j : Int) < 6) = true := by simp; omega
          have hix := HIX.out j hlt6
          have hkl := plcN_lt (bits := 8 * sz) (by omega) h j
          obtain ⟨k, hk⟩ : ∃ k, plcN (8 * sz) h j = k := ⟨_, rfl⟩
          have HKE := Lib.hid hk
          rw [hk] at hix hkl
          have hq8 : k / 8 < f.length := by rw [← HLEN.out]; omega
          have hx0 : f[k / 8]? = some (f[k / 8]'hq8) := List.getElem?_eq_getElem hq8
          have hbit : hasBit f k = ((f[k / 8]'hq8).toNat).testBit (k % 8) := by unfold hasBit; rw [hx0]; rfl
          have hand := hasB (f[k / 8]'hq8) (k % 8) (Nat.mod_lt _ (by decide))
          rw [← hbit] at hand
          obtain ⟨b', off', e, -, hc⟩ := (RdB.below HR.out HB.out).at (k / 8) _ hx0
          simp only [Option.some.injEq, Addr.mk.injEq, and_true] at e
          obtain ⟨e3, e4⟩ := e
          rw [← e3, ← e4] at hc
          have HK : Hid (∀ w : World, Calls Try.prog 9 #[.int .u64 (k : Int)] w fun e w' => e = .returned (.int .u8 ((2 ^ (k % 8) : Nat) : Int)) ∧ w' = w) := Lib.hid fun w => (mask_any k (by omega) w).mono fun e w' h => ⟨h.1, h.2.symm⟩
          obtain ⟨m, hm⟩ : ∃ m, 2 ^ (k % 8) = m := ⟨_, rfl⟩
          rw [hm] at HK hand
          obtain ⟨y, hy⟩ : ∃ y, f[k / 8]'hq8 = y := ⟨_, rfl⟩
          rw [hy] at hc hand
          have hw8 : IntKind.u64.wrap ((k : Int) / 8) = ((k / 8 : Nat) : Int) := by rw [IntKind.wrap_u64]; omega
          have hk8 : ((k / 8 : Nat) : Int) < (sz : Int) + 1 := by omega
          obtain ⟨q, hq⟩ : ∃ q, k / 8 = q := ⟨_, rfl⟩
          rw [hq] at hc hw8 hk8
          obtain ⟨t, ht⟩ : ∃ t, hasBit f k = t := ⟨_, rfl⟩
          have HT := Lib.hid ht
          rw [ht] at hand
          clear hm hk hx0 hbit hy e3 e4 ht hq8
          cases t
          · replace hand : (bits .and .u8 (y.toNat : Int) (m : Int) == 0) = true := hand
            go_wp2_with fail
            go_quiet ((go_at_call 9; exact Calls.quiet_of_same (HK.out _)))
            go_wp2_with fail
            go_ret
            refine ⟨?_, HB.out.trans ((DrN.refl wr).more _ |>.below _)⟩
            rw [HE.out, may_no hlt6 (by rw [HKE.out, HT.out])]; rfl
          · replace hand : (bits .and .u8 (y.toNat : Int) (m : Int) == 0) = false := hand
            go_wp2_with fail
            go_quiet ((go_at_call 9; exact Calls.quiet_of_same (HK.out _)))
            go_wp2_with fail
            go_roundg (6 - (j + 1))
            case measure => omega
            case rel =>
              refine ⟨j + 1, by go_num, by omega, by omega, Lib.hid fun i hi => ?_, Lib.hid (HB.out.trans ((DrN.refl wr).more _ |>.below _))⟩
              rcases Nat.lt_or_ge i j with g | g
              · exact HA.out i g
              · obtain rfl : i = j := by omega
                rw [HKE.out, HT.out]
        · obtain rfl : j = 6 := by omega
          go_wp2_with fail
          go_ret
          exact ⟨by rw [HE.out, may_yes HA.out]; rfl, HB.out⟩
    · have hq : ((x.toNat : Int) != 6) = true := by
        rw [bne_iff_ne]; intro e; exact h6 (UInt8.toNat_inj.1 (by have : x.toNat = 6 := by omega
                                                                  rw [this]; rfl))
      obtain rfl : R = true := by rw [HE2.out, if_neg h6]
      go_enter Try.func6, Try.ntmps6
      go_wp2
      go_ret
      exact ⟨rfl, Below.refl _ _⟩
end Go.Proofs.Ytlifmihkncejlaa
