/- The walk of incipitlaw20.VersionSpan. -/
import Derived.Test.YtjloaamaelcmaaaVerLet
import Derived.Test.YtjloaamaelcmaaaVerBegun
namespace Go.Proofs.Ytjloaamaelcmaaa
set_option linter.unusedVariables false
set_option maxRecDepth 100000
open Go.RowKit
set_option maxHeartbeats 8000000 in
theorem versionSpan_walk (w : World) (xn : Int) (hxn : (Lit.int .i64 xn).wf = true) (xa : Int) (hxa : (Lit.int .i64 xa).wf = true) (xb : Int) (hxb : (Lit.int .i64 xb).wf = true) : Calls Try.prog 7 #[.int .i64 xn, .int .i64 xa, .int .i64 xb] w fun e w' => e = .returned (.bool true) ∧ Below w.heap.size w w' := by
  have HBG := Lib.hid (vbegun_any w)
  clear hxn hxa hxb
  go_enter Try.func7, Try.ntmps7
  go_wp2_with fail
  refine HBG.out.mono ?_
  rintro e w1 ⟨rfl, hb⟩
  have HB1 := Lib.hid hb
  clear hb HBG
  by_cases q1 : xn < 0
  · go_wp2_with fail
    go_ret
    exact ⟨rfl, HB1.out⟩
  by_cases q2 : 12 < xn
  · go_wp2_with fail
    go_ret
    exact ⟨rfl, HB1.out⟩
  by_cases q3 : xa < 0
  · go_wp2_with fail
    go_ret
    exact ⟨rfl, HB1.out⟩
  by_cases q4 : 25 < xa
  · go_wp2_with fail
    go_ret
    exact ⟨rfl, HB1.out⟩
  by_cases q5 : xb < 0
  · go_wp2_with fail
    go_ret
    exact ⟨rfl, HB1.out⟩
  by_cases q6 : 25 < xb
  · go_wp2_with fail
    go_ret
    exact ⟨rfl, HB1.out⟩
  obtain ⟨n, rfl⟩ : ∃ n : Nat, xn = (n : Int) := ⟨xn.toNat, by omega⟩
  obtain ⟨a, rfl⟩ : ∃ n : Nat, xa = (n : Int) := ⟨xa.toNat, by omega⟩
  obtain ⟨b, rfl⟩ : ∃ n : Nat, xb = (n : Int) := ⟨xb.toNat, by omega⟩
  have hn : n ≤ 12 := by omega
  have ha : a ≤ 25 := by omega
  have hbb : b ≤ 25 := by omega
  have HNEW := Lib.hid (vnew_any w1)
  have HV0 := Lib.hid (vnew_at w1 w1.heap.size)
  have HB0 := Lib.hid (HB1.out.alloc HB1.out.size (.cells #[.slice none 0 0, .int .i64 0, .int .i64 0, .int .i64 0] 58))
  have hge := HB1.out.size
  go_wp2_with fail
  refine HNEW.out.mono ?_
  rintro e w2 ⟨rfl, hw2⟩
  rw [← hw2] at HV0 HB0
  clear HNEW hw2 HB1
  generalize w1.heap.size = c at *
  have HBz := Lib.hid (Below.refl w2.heap.size w2)
  go_wp2_with fail
  go_loopg [9, 10] n (fun kk va vi wr => ∃ (i : Nat) (al : Option Addr) (cl : Nat), vi = .int .i64 (i : Int) ∧ va = .slice al i cl ∧ i ≤ n ∧ n - i ≤ kk ∧ Hid (OwnK encTbf 5 43 w2.heap.size wr (.slice al i cl) (spL i)) ∧ Hid (Below w2.heap.size w2 wr))
  case atStart => exact ⟨0, none, 0, rfl, rfl, by omega, by omega, Lib.hid (OwnK.nil _ _ _ _ _), HBz⟩
  case round =>
    clear HBz
    obtain ⟨i, al, cl, rfl, rfl, hi, hik, HY, HB⟩ := hrel
    have hi0 : (0 : Int) ≤ (i : Int) := by omega
    by_cases h1 : i < n
    · have hd1 : (i : Int) < (n : Int) := by omega
      have hd2 : (i : Int) ≤ 12 := by omega
      have HC1 : ∀ W : World, (convert 48 9 (.slice (some ⟨W.heap.size, 0, none⟩) 1 1)).run Try.prog (W.alloc (.cells #[.int .u8 (97 + 2 * (i : Int))] 5)) = .ok (.string (ltr (2 * i))) (W.alloc (.cells #[.int .u8 (97 + 2 * (i : Int))] 5)) := fun W => by
        have := conv_let W (2 * i) (by omega)
        rwa [show ((2 * i : Nat) : Int) = 2 * (i : Int) by omega] at this
      have HC2 : ∀ W : World, (convert 48 9 (.slice (some ⟨W.heap.size, 0, none⟩) 1 1)).run Try.prog (W.alloc (.cells #[.int .u8 (97 + 2 * (i : Int) + 1)] 5)) = .ok (.string (ltr (2 * i + 1))) (W.alloc (.cells #[.int .u8 (97 + 2 * (i : Int) + 1)] 5)) := fun W => by
        have := conv_let W (2 * i + 1) (by omega)
        rwa [show (97 : Int) + ((2 * i + 1 : Nat) : Int) = 97 + 2 * (i : Int) + 1 by omega] at this
      have hc1 := HC1 wr
      have hc2 := HC2 (wr.alloc (.cells #[.int .u8 (97 + 2 * (i : Int))] 5))
      rw [show (wr.alloc (.cells #[.int .u8 (97 + 2 * (i : Int))] 5)).heap.size = wr.heap.size + 1 by simp] at hc2
      have hal : Below wr.heap.size wr ((wr.alloc (.cells #[.int .u8 (97 + 2 * (i : Int))] 5)).alloc (.cells #[.int .u8 (97 + 2 * (i : Int) + 1)] 5)) := ((Below.refl _ wr).alloc (Nat.le_refl _) _).alloc (by simp) _
      have HY1 := Lib.hid (HY.out.below hal)
      have HB1 := Lib.hid (HB.out.trans (hal.mono HB.out.size))
      have hsz := HB1.out.size
      have hss : ((wr.alloc (.cells #[.int .u8 (97 + 2 * (i : Int))] 5)).alloc (.cells #[.int .u8 (97 + 2 * (i : Int) + 1)] 5)).heap.size = wr.heap.size + 1 + 1 := by simp
      have HLN : Hid ((spL i).length = i) := Lib.hid (spL_len i)
      clear HC1 HC2 HY HB hal
      go_wp2_with (at_builtin; refine wp_appHK elem_tbf encTbf_len _ _ (by rfl) (by rfl) (by rfl) HY1.out (spT i) _ (by rfl) hss ?c1 ?c2 ?c3 hsz ?_)
      case c1 => exact tbf_cells _
      case c2 => have := HLN.out; omega
      case c3 => have := HLN.out; unfold maxLen; omega
      intro v6 w6 o6 b6
      have o7 : OwnK encTbf 5 43 w2.heap.size w6 v6 (spL (i + 1)) := by rw [spL_succ]; exact o6
      obtain ⟨a6, k6, rfl⟩ := fil_form o7
      have e6 : (spL (i + 1)).length = i + 1 := spL_len (i + 1)
      rw [e6] at o7 ⊢
      have HO6 := Lib.hid o7
      have HB6 := Lib.hid (HB1.out.trans b6)
      clear o6 o7 b6 e6 HY1 HB1 hsz hss HLN hc1 hc2
      go_wp2_with fail
      go_roundg (n - (i + 1))
      case measure => omega
      case rel => exact ⟨i + 1, a6, k6, by go_num, rfl, by omega, Nat.le_refl _, HO6, HB6⟩
    · obtain rfl : i = n := by omega
      have hd1 : ¬ (i : Int) < (i : Int) := by omega
      have HED : Hid (EdAt wr (.agg #[.int .i64 50, .int .i64 0, .int .i64 0, .slice al i cl, .slice none 0 0]) (spE i)) := Lib.hid ⟨_, _, rfl, HY.out.rd encTbf_len, RdV.nil _ _ _⟩
      have HV := Lib.hid (HV0.out.below HB.out)
      have HAP := Lib.hid (vapply_any HV.out (by have := HV.out.lt; omega) _ _ HED.out (spE_ok i hn))
      have HBr := Lib.hid (HB0.out.trans (HB.out.mono HB0.out.size))
      clear HY HB HED HV HV0 HB0
      go_wp2_with fail
      refine HAP.out.mono ?_
      rintro e w3 ⟨k, V, rfl, hv, hu, -, h2⟩
      obtain ⟨rfl, hs⟩ := h2 _ (spE_is i hn)
      have HB3 := Lib.hid (HBr.out.trans (UpdF.below hu HBr.out.size fun k hk e => by omega))
      have HV3 := Lib.hid hv
      have HLN := Lib.hid (sp_over hn ha hbb hs)
      have hc1 := conv_let w3 a (by omega)
      have hc2 := conv_let (w3.alloc (.cells #[.int .u8 (97 + (a : Int))] 5)) b (by omega)
      rw [show (w3.alloc (.cells #[.int .u8 (97 + (a : Int))] 5)).heap.size = w3.heap.size + 1 by simp] at hc2
      have hal : Below w3.heap.size w3 ((w3.alloc (.cells #[.int .u8 (97 + (a : Int))] 5)).alloc (.cells #[.int .u8 (97 + (b : Int))] 5)) := ((Below.refl _ w3).alloc (Nat.le_refl _) _).alloc (by simp) _
      have HOV := Lib.hid (vover_raw (HV3.out.below hal) 2 (ltr a) (ltr b))
      have HB4 := Lib.hid (HB3.out.trans (hal.mono HB3.out.size))
      clear hv hu h2 hs HAP HBr HV3 HB3 hal
      generalize (V.fs.filter fun f => decide (f.lvl = 2 ∧ vOverB (ltr a) (ltr b) f = true)) = ys at *
      go_wp2_with fail
      refine HOV.out.mono ?_
      rintro e w5 ⟨u, rfl, ho, hb⟩
      obtain ⟨a5, k5, rfl⟩ := fil_form ho
      rw [HLN.out]
      have HB5 := Lib.hid (HB4.out.trans (hb.mono HB4.out.size))
      have HB5r := Lib.hid (Below.refl w5.heap.size w5)
      clear ho hb HOV HB4 HLN hc1 hc2
      go_wp2_with fail
      go_loopg [12, 13] i (fun kk vc vj wq => ∃ j : Nat, vj = .int .i64 (j : Int) ∧ vc = .int .i64 (spC a b j : Nat) ∧ j ≤ i ∧ i - j ≤ kk ∧ Hid (Below w5.heap.size w5 wq))
      case atStart => exact ⟨0, rfl, rfl, by omega, by omega, HB5r⟩
      case round =>
        clear HB5r
        obtain ⟨j, rfl, rfl, hj, hjk, HBq⟩ := hrel
        have hj0 : (0 : Int) ≤ (j : Int) := by omega
        by_cases h2 : j < i
        · have hdj : (j : Int) < (i : Int) := by omega
          have hjb : (j : Int) ≤ 12 := by omega
          have hcb : ((spC a b j : Nat) : Int) ≤ 12 := by have := spC_le a b j; omega
          have hcb0 : (0 : Int) ≤ ((spC a b j : Nat) : Int) := by omega
          have hno : ¬ spP a b j → spC a b (j + 1) = spC a b j := fun h => by rw [spC_succ, if_neg h]
          have HNO := Lib.hid hno
          have hyes : spP a b j → spC a b (j + 1) = spC a b j + 1 := fun h => by rw [spC_succ, if_pos h]
          have HYES := Lib.hid hyes
          clear hno hyes
          obtain ⟨S, hS⟩ : ∃ S, spC a b j = S := ⟨_, rfl⟩
          rw [hS] at hcb hcb0 HNO HYES ⊢
          clear hS
          by_cases g1 : a ≤ b
          · have g1' : (a : Int) ≤ (b : Int) := by omega
            by_cases g2 : 2 * j ≤ b
            · have g2' : 2 * (j : Int) ≤ (b : Int) := by omega
              by_cases g3 : a ≤ 2 * j + 1
              · have g3' : (a : Int) ≤ 2 * (j : Int) + 1 := by omega
                have e := HYES.out ⟨g1, g2, g3⟩
                have HE := Lib.hid e
                clear e
                go_wp2_with fail
                go_roundg (i - (j + 1))
                case measure => omega
                case rel => exact ⟨j + 1, by go_num, by rw [HE.out]; go_num, by omega, Nat.le_refl _, HBq⟩
              · have g3' : ¬ (a : Int) ≤ 2 * (j : Int) + 1 := by omega
                have e := HNO.out fun h => g3 h.2.2
                have HE := Lib.hid e
                clear e
                go_wp2_with fail
                go_roundg (i - (j + 1))
                case measure => omega
                case rel => exact ⟨j + 1, by go_num, by rw [HE.out], by omega, Nat.le_refl _, HBq⟩
            · have g2' : ¬ 2 * (j : Int) ≤ (b : Int) := by omega
              have e := HNO.out fun h => g2 h.2.1
              have HE := Lib.hid e
              clear e
              go_wp2_with fail
              go_roundg (i - (j + 1))
              case measure => omega
              case rel => exact ⟨j + 1, by go_num, by rw [HE.out], by omega, Nat.le_refl _, HBq⟩
          · have g1' : ¬ (a : Int) ≤ (b : Int) := by omega
            have e := HNO.out fun h => g1 h.1
            have HE := Lib.hid e
            clear e
            go_wp2_with fail
            go_roundg (i - (j + 1))
            case measure => omega
            case rel => exact ⟨j + 1, by go_num, by rw [HE.out], by omega, Nat.le_refl _, HBq⟩
        · obtain rfl : j = i := by omega
          have hdj : ¬ (j : Int) < (j : Int) := by omega
          go_wp2_with fail
          go_ret
          exact ⟨by simp, HB5.out.trans (HBq.out.mono HB5.out.size)⟩
end Go.Proofs.Ytjloaamaelcmaaa
