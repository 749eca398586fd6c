/- The laws of sums: their begun and the law CrcAll. -/
import Derived.Test.YtjaoeknkemkkjaaDoorCrcSum
import Derived.Test.YtjaoeknkemkkjaaDoorByShort
import Derived.Test.YtjaoeknkemkkjaaDoorByLit
namespace Go.Proofs.YtjaoeknkemkkjaaDoor
set_option linter.unusedVariables false
open Go.RowKit
theorem digits_sum : moreN 0 [49, 50, 51, 52, 53, 54, 55, 56, 57] = 3808858755 := by decide +kernel
set_option maxHeartbeats 1000000 in
set_option maxRecDepth 100000 in
theorem cbegun_any (w : World) (ht : TabAt w) : Calls Tryd.prog 6 #[] w fun e w' => e = .returned (.bool true) ∧ Below w.heap.size w w' := by
  have hcv := litW_run w [49, 50, 51, 52, 53, 54, 55, 56, 57] #[.int .u8 49, .int .u8 50, .int .u8 51, .int .u8 52, .int .u8 53, .int .u8 54, .int .u8 55, .int .u8 56, .int .u8 57] 9 rfl
  have B := litW_below w [49, 50, 51, 52, 53, 54, 55, 56, 57]
  have HS := Lib.hid (sum_any _ _ _ (ht.below B) (litW_rd w [49, 50, 51, 52, 53, 54, 55, 56, 57] 9 rfl (by decide)))
  have HS2 := Lib.hid (sum_any (.slice none 0 0) [] _ (ht.below B) (RdB.nil _ _ _))
  rw [digits_sum] at HS
  rw [moreN_nil] at HS2
  generalize litW w [49, 50, 51, 52, 53, 54, 55, 56, 57] = W at *
  clear ht
  go_enter Tryd.func6, Tryd.ntmps6
  go_wp2_with fail
  refine HS.out.mono ?_
  rintro e w' ⟨rfl, rfl⟩
  go_wp2_with fail
  refine HS2.out.mono ?_
  rintro e w' ⟨rfl, rfl⟩
  go_wp2_with fail
  go_ret
  exact ⟨rfl, B⟩
set_option maxHeartbeats 4000000 in
set_option maxRecDepth 100000 in
theorem crcAll_walk (w : World) (ht : TabAt w) (a : Option Addr) (len cap : Nat) (zs : List Int) (hz : RdV w (.slice a len cap) (zs.map (Value.int .u8))) (hw : ∀ n ∈ zs, (Lit.int .u8 n).wf = true)
    (a2 : Option Addr) (len2 cap2 : Nat) (zs2 : List Int) (hz2 : RdV w (.slice a2 len2 cap2) (zs2.map (Value.int .u8))) (hw2 : ∀ n ∈ zs2, (Lit.int .u8 n).wf = true) :
    Calls Tryd.prog 3 #[.slice a len cap, .slice a2 len2 cap2] w fun e w' => e = .returned (.bool true) ∧ Below w.heap.size w w' := by
  obtain ⟨xs, hxs⟩ := bytes_of zs hw
  obtain ⟨bs, hbs⟩ := bytes_of zs2 hw2
  rw [hxs] at hz
  rw [hbs] at hz2
  have HZ : Hid (RdB w (.slice a len cap) xs) := Lib.hid hz
  have HZ2 : Hid (RdB w (.slice a2 len2 cap2) bs) := Lib.hid hz2
  have HT := Lib.hid ht
  clear hz hw hxs hz2 hw2 hbs ht
  go_enter Tryd.func3, Tryd.ntmps3
  go_wp2_with fail
  refine (cbegun_any _ HT.out).mono ?_
  rintro e w1 ⟨rfl, B⟩
  have HS := Lib.hid (short_any a len cap xs 300 (by omega) w1 (HZ.out.below B))
  have HS2 := Lib.hid (short_any a2 len2 cap2 bs 300 (by omega) w1 (HZ2.out.below B))
  replace HT := Lib.hid (HT.out.below B)
  clear HZ HZ2
  go_wp2_with fail
  refine HS.out.mono ?_
  rintro e w' ⟨a3, l3, c3, rfl, hrd3, rfl⟩
  clear HS
  go_wp2_with fail
  refine HS2.out.mono ?_
  rintro e w' ⟨a4, l4, c4, rfl, hrd4, rfl⟩
  clear HS2
  have hla : (xs.take 300).length ≤ 300 := by rw [List.length_take]; omega
  have hlb : (bs.take 300).length ≤ 300 := by rw [List.length_take]; omega
  generalize xs.take 300 = A at *
  generalize bs.take 300 = C at *
  have R3 := Lib.hid hrd3
  have R4 := Lib.hid hrd4
  clear hrd3 hrd4
  go_wp2_with (at_builtin; refine wp_appSB _ _ (by rfl) (by rfl) (by rfl) (OwnB.nil w1.heap.size w1) (by rfl) R3.out ?c1 (Nat.le_refl _) ?_)
  case c1 => simp only [List.length_nil]; omega
  intro v5 w5 o5 b5
  go_wp2_with (at_builtin; refine wp_appSB _ _ (by rfl) (by rfl) (by rfl) o5 (by rfl) (R4.out.below b5) ?c2 b5.size ?_)
  case c2 => omega
  intro v6 w6 o6 b6
  replace b6 := b5.trans b6
  have HA := Lib.hid (sum_any v6 (A ++ C) w6 (HT.out.below b6) o6.rd)
  have HA2 := Lib.hid (rsum_any v6 (A ++ C) w6 o6.rd)
  have HA3 := Lib.hid (sum_any _ A w6 (HT.out.below b6) (R3.out.below b6))
  have HA4 : Hid (Calls Tryd.prog 10 #[.int .u32 (moreN 0 A : Int), .slice a4 l4 c4] w6 (U32Res (moreN 0 (A ++ C)) w6)) := Lib.hid (by
    have := more_any (moreN 0 A) (moreN_lt (by decide) A) _ C w6 (HT.out.below b6) (R4.out.below b6)
    rwa [moreN_app] at this)
  replace B := B.trans (b6.mono B.size)
  clear o5 b5 o6 b6 R3 R4 HT
  generalize moreN 0 (A ++ C) = r at *
  generalize moreN 0 A = s at *
  go_wp2_with fail
  refine HA.out.mono ?_
  rintro e w' ⟨rfl, rfl⟩
  go_wp2_with fail
  refine HA2.out.mono ?_
  rintro e w' ⟨rfl, rfl⟩
  go_wp2_with fail
  refine HA3.out.mono ?_
  rintro e w' ⟨rfl, rfl⟩
  go_wp2_with fail
  refine HA4.out.mono ?_
  rintro e w' ⟨rfl, rfl⟩
  go_wp2_with fail
  refine HA.out.mono ?_
  rintro e w' ⟨rfl, rfl⟩
  go_wp2_with fail
  go_ret
  exact ⟨rfl, B⟩
end Go.Proofs.YtjaoeknkemkkjaaDoor
