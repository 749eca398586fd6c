/- The walk of the law UtfJoin. -/
import Derived.Test.YtcgknggmbfnpeaaUtfLaw2
import Derived.Test.YtcgknggmbfnpeaaSrc
namespace Go.Proofs.Ytcgknggmbfnpeaa
set_option linter.unusedVariables false
open Go.RowKit
set_option maxHeartbeats 1000000 in
set_option maxRecDepth 100000 in
theorem utfJoin_walk (w : World) (a : Option Addr) (len cap : Nat) (zs : List Int) (hz : RdI w (.slice a len cap) zs) (_hw : ∀ n ∈ zs, (Lit.int .i64 n).wf = true)
    (a2 : Option Addr) (len2 cap2 : Nat) (zs2 : List Int) (hz2 : RdI w (.slice a2 len2 cap2) zs2) (_hw2 : ∀ n ∈ zs2, (Lit.int .i64 n).wf = true) :
    Calls Try.prog 8 #[.slice a len cap, .slice a2 len2 cap2] w fun e w' => e = .returned (.bool true) ∧ Below w.heap.size w w' := by
  have HZ := Lib.hid hz
  have HY := Lib.hid hz2
  clear hz hz2
  go_enter Try.func8, Try.ntmps8
  go_wp2_with fail
  refine (begun_any _).mono ?_
  rintro e w1 ⟨rfl, hb1⟩
  have HZ1 : Hid (RdI w1 (.slice a len cap) zs) := Lib.hid (HZ.out.below hb1)
  have HY1 : Hid (RdI w1 (.slice a2 len2 cap2) zs2) := Lib.hid (HY.out.below hb1)
  clear HZ HY
  go_upto_if 16 with fail
  go_cut [0] (fun l wx => ∃ xs a len cap, l = .slice a len cap ∧ Hid (RdI wx l xs) ∧ xs.length ≤ 30 ∧ w1 = wx)
  case first =>
    by_cases h60 : 30 < len
    · obtain ⟨hl, b, off, rfl⟩ := HZ1.out.form 30 h60
      obtain ⟨hc1, hc2⟩ := HZ1.out.cap (by omega)
      have HT : Hid (RdI w1 (.slice (some ⟨b, off, none⟩) 30 cap) (zs.take 30)) := Lib.hid (HZ1.out.take 30 (by omega))
      clear hl hc2
      have hc60 : (30 : Int) ≤ (cap : Int) := by omega
      go_wp2_with fail
      go_meet
      exact ⟨zs.take 30, _, _, _, rfl, HT, by rw [List.length_take]; omega, rfl⟩
    · have hl := HZ1.out.len
      go_wp2_with fail
      go_meet
      exact ⟨zs, _, _, _, rfl, HZ1, by omega, rfl⟩
  case rest =>
    obtain ⟨xs, a, len, cap, rfl, HX, hx30, rfl⟩ := hcut
    clear HZ1
    go_upto_if 21 with fail
    go_cut [1] (fun l wx => ∃ xs a len cap, l = .slice a len cap ∧ Hid (RdI wx l xs) ∧ xs.length ≤ 30 ∧ w1 = wx)
    case first =>
      by_cases h60 : 30 < len2
      · obtain ⟨hl, b, off, rfl⟩ := HY1.out.form 30 h60
        obtain ⟨hc1, hc2⟩ := HY1.out.cap (by omega)
        have HT : Hid (RdI w1 (.slice (some ⟨b, off, none⟩) 30 cap2) (zs2.take 30)) := Lib.hid (HY1.out.take 30 (by omega))
        clear hl hc2
        have hc60 : (30 : Int) ≤ (cap2 : Int) := by omega
        go_wp2_with fail
        go_meet
        exact ⟨zs2.take 30, _, _, _, rfl, HT, by rw [List.length_take]; omega, rfl⟩
      · have hl := HY1.out.len
        go_wp2_with fail
        go_meet
        exact ⟨zs2, _, _, _, rfl, HY1, by omega, rfl⟩
    case rest =>
      obtain ⟨ys, a2, len2, cap2, rfl, HW, hy30, rfl⟩ := hcut
      clear HY1
      have HA : Hid (∀ w', w' = w1 → Calls Try.prog 16 #[.slice a len cap] w' (WriteRes w' (writeP xs))) := Lib.hid fun w' e => by subst e; exact write_any _ xs (by omega) _ HX.out
      have HB : Hid (∀ w', Below w1.heap.size w1 w' → Calls Try.prog 16 #[.slice a2 len2 cap2] w' (WriteRes w' (writeP ys))) := Lib.hid fun w' hb => write_any _ ys (by omega) _ (HW.out.below hb)
      go_wp2_with fail
      refine (HA.out _ rfl).mono ?_
      intro e w2 hr
      obtain ⟨rfl, hb2⟩ := hr.cases
      clear hr
      go_wp2_with fail
      refine (HB.out _ hb2).mono ?_
      intro e w3 hr
      obtain ⟨rfl, hb3⟩ := hr.cases
      clear hr HA HB
      have HX3 : Hid (RdI w3 (.slice a len cap) xs) := Lib.hid ((HX.out.below hb2).below hb3)
      have HW3 : Hid (RdI w3 (.slice a2 len2 cap2) ys) := Lib.hid ((HW.out.below hb2).below hb3)
      have hb13 := (hb1.trans (hb2.mono hb1.size)).trans (hb3.mono (Nat.le_trans hb1.size hb2.size))
      clear hb1 hb2 hb3 HX HW
      cases hq : writeP xs with
      | none =>
        clear hq
        cases hq2 : writeP ys with
        | none =>
          clear hq2
          go_wp2
          go_ret
          exact ⟨rfl, hb13⟩
        | some bs2 =>
          clear hq2
          go_wp2
          go_ret
          exact ⟨rfl, hb13⟩
      | some bs =>
        cases hq2 : writeP ys with
        | none =>
          clear hq hq2
          go_wp2
          go_ret
          exact ⟨rfl, hb13⟩
        | some bs2 =>
          have hl1 := write_len xs bs hq
          have hl2 := write_len ys bs2 hq2
          have HRR : Hid (∀ w, Calls Try.prog 11 #[.string (⟨bs.toArray⟩ ++ ⟨bs2.toArray⟩)] w (ReadRes w (some (xs ++ ys)))) := Lib.hid fun w => by
            rw [str_app]
            have := read_any ⟨(bs ++ bs2).toArray⟩ (by show (bs ++ bs2).toArray.size ≤ 1000000; rw [List.size_toArray, List.length_append]; omega) w
            rw [show (⟨(bs ++ bs2).toArray⟩ : ByteArray).data.toList = bs ++ bs2 from rfl, read_write xs bs bs2 hq, read_write' ys bs2 hq2] at this; exact this
          clear hq hq2
          go_wp2_with fail
          refine (HRR.out _).mono ?_
          intro e w5 hr
          obtain ⟨v, rfl, hv, hb5⟩ := hr.cases
          clear hr HRR
          have hX5 : RdV w5 (.slice a len cap) (xs.map (Value.int .i64)) := HX3.out.below hb5
          have hY5 : RdV w5 (.slice a2 len2 cap2) (ys.map (Value.int .i64)) := HW3.out.below hb5
          have hbb := hb13.trans (hb5.mono hb13.size)
          have HY5 := Lib.hid hY5
          have HV5 := Lib.hid hv
          have HX5 := Lib.hid hX5
          have hb5s := hbb.size
          clear hX5 hY5 hv HX3 HW3 hb5 hb13
          go_wp2_with (at_builtin; refine wp_appS elem_int _ _ (by rfl) (by rfl) (by rfl) (OwnV.nil 3 w5.heap.size w5) (by rfl) HX5.out ?c1 ?c2 ?c3 ?c4 ?_)
          case c1 => exact one_cells .i64 xs
          case c2 => simp; omega
          case c3 => simp [maxLen]; omega
          case c4 => exact Nat.le_refl _
          intro v1 w6 hown6 hb6
          have HY6 : Hid (RdV w6 (.slice a2 len2 cap2) (ys.map (Value.int .i64))) := Lib.hid (HY5.out.below hb6)
          have HO6 := Lib.hid hown6
          have hb6s := hb6.size
          clear hown6
          go_wp2_with (at_builtin; refine wp_appS elem_int _ _ (by rfl) (by rfl) (by rfl) HO6.out (by rfl) HY6.out ?c1 ?c2 ?c3 ?c4 ?_)
          case c1 => exact one_cells .i64 ys
          case c2 => simp; omega
          case c3 => simp [maxLen]; omega
          case c4 => exact hb6s
          intro v2 w7 hown7 hb7
          have HI : Hid (∀ w, w = w7 → Calls Try.prog 15 #[v, v2] w (IntsRes w true)) := Lib.hid fun w e => by
            subst e
            have e2 : RdI w v2 (xs ++ ys) := by
              have := hown7.rd
              unfold RdI
              rw [List.map_append]; exact this
            have := ints_any v v2 (xs ++ ys) (xs ++ ys) (by rw [List.length_append]; omega) (by rw [List.length_append]; omega) _ (RdV.below HV5.out (hb6.trans hb7)) e2
            rwa [decide_eq_true rfl] at this
          have hbb2 := hbb.trans ((hb6.trans hb7).mono hb5s)
          clear hown7 hb6 hb7 hbb HO6 HY6 HX5 HV5 HY5
          go_wp2_with (go_at_call 15; refine (HI.out _ rfl).mono ?_; rintro e w8 ⟨rfl, m, rfl⟩)
          go_ret
          exact ⟨rfl, below_drewN hbb2 _⟩
end Go.Proofs.Ytcgknggmbfnpeaa
