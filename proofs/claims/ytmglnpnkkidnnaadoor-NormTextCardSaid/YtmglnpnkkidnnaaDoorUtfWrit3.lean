/- The walk of the reference's Write; of the laws' Ints and Cut. -/
import Derived.Test.YtmglnpnkkidnnaaDoorUtfWrit2
import Derived.RegionTactic
import Derived.Deep.QuietTactic
import Derived.BigQuiet
namespace Go.Proofs.YtmglnpnkkidnnaaDoor
set_option linter.unusedVariables false
open Go.RowKit

theorem str_app (a b : List UInt8) : (⟨a.toArray⟩ : ByteArray) ++ ⟨b.toArray⟩ = ⟨(a ++ b).toArray⟩ := by
  apply ByteArray.ext; simp
theorem valid_enc (c : Int) (h : vldB c = true) (w : World) : Calls Tryd.prog 48 #[.int .i64 c] w fun e w' => e = .returned (.string ⟨(encP c).toArray⟩) ∧ Below w.heap.size w w' :=
  one_any c ((vldB_iff _).1 h).1 ((vldB_iff _).1 h).2.1 w
set_option maxHeartbeats 1000000 in
set_option maxRecDepth 100000 in
theorem rwrite_any (v : Value) (xs : List Int) (hx : xs.length ≤ 10000) (w : World) (hv : RdI w v xs) :
    Calls Tryd.prog 31 #[v] w (WriteRes w (writeP xs)) := by
  obtain ⟨r, hr⟩ : ∃ r, writeP xs = r := ⟨_, rfl⟩
  rcases hv.cases with ⟨a, cap, rfl, rfl⟩ | ⟨b, off, cap, rfl, hpos, hcap, hmax, hb, hcell⟩
  · rw [show writeP [] = some [] from rfl]
    go_enter Tryd.func31, Tryd.ntmps31
    go_wp2
    refine wp_loop_rounds 1 ?_
    rw [rounds_succ]
    go_wp2
    go_ret2
    exact ⟨Below.refl _ _, rfl⟩
  · have HR : Hid (r = (writeP (xs.drop 0)).map ([] ++ ·)) := Lib.hid (by rw [List.drop_zero, hr]; simp)
    rw [hr]
    clear hr
    have HC : Hid (∀ i, i < xs.length → w.cell? ⟨b, off + i, none⟩ = some (.int .i64 (xs.getD i 0))) := Lib.hid hcell
    clear hcell hmax
    go_enter Tryd.func31, Tryd.ntmps31
    go_wp2
    go_loopw [4, 5] (fun l i wr => ∃ (k : Nat) (bs : List UInt8), i = .int .i64 k ∧ k ≤ xs.length ∧ l = .string ⟨bs.toArray⟩ ∧ Below w.heap.size w wr ∧ bs.length ≤ 4 * k ∧ Hid (r = (writeP (xs.drop k)).map (bs ++ ·)))
      (fun _ i _ => xs.length - (intOf i).toNat)
    case atStart => exact ⟨0, [], rfl, Nat.zero_le _, rfl, Below.refl _ _, Nat.zero_le _, HR⟩
    case round =>
      obtain ⟨k, bs, rfl, hk, rfl, hbel, hlen, HRt⟩ := hrel
      have hwr := hbel.size
      by_cases hlt : k < xs.length
      · have hc : wr.cell? ⟨b, off + k, none⟩ = some (.int .i64 (xs.getD k 0)) := by rw [hbel.cell hb]; exact HC.out k hlt
        cases hvl : vldB (xs.getD k 0) with
        | false =>
          obtain rfl := write_none hlt HRt hvl
          have HV := Lib.hid hvl
          clear HRt hvl
          generalize xs.getD k 0 = c at *
          go_wp2_with (go_at_call 20; refine (rvalid_any _ _).mono ?_; rintro e w' ⟨rfl, rfl⟩; rw [HV.out])
          go_ret2
          exact ⟨hbel, rfl⟩
        | true =>
          have HRn := write_more hlt HRt hvl
          have HV := Lib.hid hvl
          clear HRt hvl
          generalize xs.getD k 0 = c at *
          have he4 := enc_le c
          have HO : Hid (∀ w, Calls Tryd.prog 48 #[.int .i64 c] w fun e w' => e = .returned (.string ⟨(encP c).toArray⟩) ∧ Below w.heap.size w w') := Lib.hid (valid_enc c HV.out)
          go_wp2_with (first | (go_at_call 20; refine (rvalid_any _ _).mono ?_; rintro e w' ⟨rfl, rfl⟩; rw [HV.out]) | (go_at_call 48; refine (HO.out _).mono ?_; rintro e w1 ⟨rfl, hb1⟩))
          go_roundw
          case rel =>
            exact ⟨k + 1, bs ++ encP c, by go_num, hlt, by rw [str_app], hbel.trans (hb1.mono hwr), by rw [List.length_append]; omega, HRn⟩
          case measure => simp [intOf]; omega
      · obtain rfl : k = xs.length := by omega
        obtain rfl := write_end HRt
        clear HRt
        go_wp2
        go_ret2
        exact ⟨hbel, rfl⟩
set_option maxHeartbeats 400000 in
theorem cut_any (s : ByteArray) (n : Nat) (hn : n ≤ 1000000) (hs : s.size ≤ maxLen) (w : World) :
    Calls Tryd.prog 15 #[.string s, .int .i64 n] w fun e w' => ∃ t : ByteArray, e = .returned (.string t) ∧ t.size ≤ n ∧ w = w' := by
  go_enter Tryd.func15, Tryd.ntmps15
  go_wp2
  · go_ret
    exact ⟨_, rfl, by rw [ByteArray.size_extract]; omega, rfl⟩
  · go_ret
    exact ⟨_, rfl, by omega, rfl⟩
end Go.Proofs.YtmglnpnkkidnnaaDoor
