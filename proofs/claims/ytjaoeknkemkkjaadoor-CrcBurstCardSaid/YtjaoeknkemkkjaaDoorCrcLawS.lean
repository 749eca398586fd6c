/- The walk of the law CrcSpoilt. -/
import Derived.Test.YtjaoeknkemkkjaaDoorCrcLaws
import Derived.Test.YtjaoeknkemkkjaaDoorByStore
namespace Go.Proofs.YtjaoeknkemkkjaaDoor
set_option linter.unusedVariables false
open Go.RowKit
/-- a window of up to four bytes that was changed changes the sum. -/
theorem moreN_burst {c : Nat} (hc : c < 2 ^ 32) (p l m r : List UInt8) (hl : l.length = m.length) (h4 : l.length ≤ 4) (hne : l ≠ m) : moreN c (p ++ l ++ r) ≠ moreN c (p ++ m ++ r) :=
  fun h => crun_burst (inv_lt hc) p l m r hl h4 hne (xor_canl h)
theorem set_parts {l : List UInt8} {k : Nat} (h : k < l.length) (x : UInt8) : l = l.take k ++ [l.getD k 0] ++ l.drop (k + 1) ∧ l.set k x = l.take k ++ [x] ++ l.drop (k + 1) := by
  refine ⟨?_, ?_⟩
  · rw [List.getD_eq_getElem?_getD, List.getElem?_eq_getElem h, Option.getD_some, List.append_assoc, List.singleton_append, ← List.drop_eq_getElem_cons, List.take_append_drop]
  · rw [List.set_eq_take_append_cons_drop, if_pos h, List.append_assoc]; rfl
theorem xor_other {x y : UInt8} (h : x ≠ 0) : y ≠ y ^^^ x := by
  intro e
  have : y ^^^ 0 = y ^^^ x := by rw [UInt8.xor_zero]; exact e
  exact h ((UInt8.xor_right_inj y).1 this).symm
theorem moreN_set {l : List UInt8} {k : Nat} (h : k < l.length) {x : UInt8} (hx : x ≠ 0) : moreN 0 l ≠ moreN 0 (l.set k (l.getD k 0 ^^^ x)) := by
  obtain ⟨e1, e2⟩ := set_parts h (l.getD k 0 ^^^ x)
  rw [e2]
  conv => lhs; rw [e1]
  exact moreN_burst (by decide) _ _ _ _ rfl (by simp) (by simpa using xor_other hx)
set_option maxHeartbeats 4000000 in
set_option maxRecDepth 100000 in
theorem crcSpoilt_walk (w : World) (ht : TabAt w) (a : Option Addr) (len cap : Nat) (zs : List Int) (hz : RdV w (.slice a len cap) (zs.map (Value.int .u8))) (hw : ∀ n ∈ zs, (Lit.int .u8 n).wf = true)
    (at0 : Int) (hat : (Lit.int .i64 at0).wf = true) (x0 : Int) (hx0 : (Lit.int .u8 x0).wf = true) :
    Calls Tryd.prog 4 #[.slice a len cap, .int .i64 at0, .int .u8 x0] w fun e w' => e = .returned (.bool true) ∧ Below w.heap.size w w' := by
  obtain ⟨xs, hxs⟩ := bytes_of zs hw
  rw [hxs] at hz
  obtain ⟨hx1, hx2⟩ := u8_bd hx0
  obtain ⟨x, rfl⟩ : ∃ x : UInt8, x0 = (x.toNat : Int) := ⟨UInt8.ofNat x0.toNat, by rw [byte_of _ (by omega)]; omega⟩
  have HZ : Hid (RdB w (.slice a len cap) xs) := Lib.hid hz
  have HT := Lib.hid ht
  clear hz hw hxs ht hx0 hx1 hx2
  go_enter Tryd.func4, Tryd.ntmps4
  go_wp2_with fail
  refine (cbegun_any _ HT.out).mono ?_
  rintro e w1 ⟨rfl, B⟩
  have HS := Lib.hid (short_any a len cap xs 300 (by omega) w1 (HZ.out.below B))
  replace HT := Lib.hid (HT.out.below B)
  clear HZ
  go_wp2_with fail
  refine HS.out.mono ?_
  rintro e w' ⟨a3, l3, c3, rfl, hrd3, rfl⟩
  clear HS
  have hla : (xs.take 300).length ≤ 300 := by rw [List.length_take]; omega
  generalize xs.take 300 = A at *
  obtain rfl : l3 = A.length := by
    obtain ⟨_, _, _, e, h2, -⟩ := hrd3.form
    simp only [Value.slice.injEq] at e
    rw [e.2.1, h2]
  have R3 := Lib.hid hrd3
  clear hrd3
  by_cases h0 : A.length = 0
  · have hd0 : decide ((A.length : Int) = 0) = true := decide_eq_true (by omega)
    have hz0 : (A.length : Int) = 0 := by omega
    go_wp2_with fail
    go_ret
    exact ⟨rfl, B⟩
  · have hz0 : ¬ (A.length : Int) = 0 := by omega
    by_cases hx : x = 0
    · subst hx
      have hz1 : (((0 : UInt8).toNat : Nat) : Int) = 0 := rfl
      go_wp2_with fail
      go_ret
      exact ⟨rfl, B⟩
    · have hz1 : ¬ (x.toNat : Int) = 0 := fun e => hx (UInt8.toNat_inj.1 (by rw [UInt8.toNat_zero]; omega))
      by_cases hneg : at0 < 0
      · go_wp2_with fail
        go_ret
        exact ⟨rfl, B⟩
      · obtain ⟨K, rfl⟩ := Int.eq_ofNat_of_zero_le (show 0 ≤ at0 by omega)
        have hKz : (0 : Int) ≤ (K : Int) := by omega
        have t1 : ((A.length : Int) == 0) = false := by simpa using h0
        have t2 : ((x.toNat : Int) == 0) = false := by simpa using hz1
        have t3 : decide ((K : Int) < 0) = false := decide_eq_false hneg
        go_wp2_with (at_builtin; refine wp_appSB _ _ (by rfl) (by rfl) (by rfl) (OwnB.nil w1.heap.size w1) (by rfl) R3.out ?c1 (Nat.le_refl _) ?_)
        case c1 => simp only [List.length_nil]; omega
        intro v5 w5 o5 b5
        have hk : K % A.length < A.length := Nat.mod_lt _ (by omega)
        have hkz : (K : Int) % (A.length : Int) = ((K % A.length : Nat) : Int) := by omega
        have HNE := Lib.hid (moreN_set hk hx)
        generalize K % A.length = k at *
        obtain ⟨g, cap5, rfl, hBg, hg, hc1, hc2, hcell, hfr⟩ := OwnB.place o5 k hk
        obtain ⟨W, hW⟩ : ∃ W, w5.setCell ⟨g, k, none⟩ (.int .u8 (bits .xor .u8 ((A.getD k 0).toNat : Int) (x.toNat : Int))) = W := ⟨_, rfl⟩
        have o6 : OwnB w1.heap.size W (.slice (some ⟨g, 0, none⟩) A.length cap5) (A.set k (A.getD k 0 ^^^ x)) := by
          rw [← hW, bv_xor]; exact o5.set _ _
        have b6 : Below w1.heap.size w1 W := by rw [← hW]; exact b5.setCell (p := ⟨g, k, none⟩) hBg _
        have HA := Lib.hid (sum_any _ A W (HT.out.below b6) (R3.out.below b6))
        have HA2 := Lib.hid (sum_any _ _ W (HT.out.below b6) o6.rd)
        replace B := B.trans (b6.mono B.size)
        clear o5 o6 b5 b6 R3 HT hc2
        generalize moreN 0 (A.set k (A.getD k 0 ^^^ x)) = s at *
        generalize moreN 0 A = r at *
        generalize A.getD k 0 = y at *
        go_wp2_with fail
        clear hW
        refine HA.out.mono ?_
        rintro e w' ⟨rfl, rfl⟩
        go_wp2_with fail
        refine HA2.out.mono ?_
        rintro e w' ⟨rfl, rfl⟩
        have hne : ((r : Int) != (s : Int)) = true := bne_iff_ne.2 fun e => HNE.out (Int.ofNat_inj.1 e)
        go_wp2_with fail
        go_ret
        exact ⟨rfl, B⟩
end Go.Proofs.YtjaoeknkemkkjaaDoor
