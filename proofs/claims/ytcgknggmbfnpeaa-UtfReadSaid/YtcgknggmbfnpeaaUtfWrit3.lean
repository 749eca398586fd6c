/- The walk of the reference's Write; of the laws' Ints and Cut. -/
import Derived.Test.YtcgknggmbfnpeaaUtfWrit2
import Derived.RegionTactic
import Derived.Deep.QuietTactic
import Derived.BigQuiet
namespace Go.Proofs.Ytcgknggmbfnpeaa
set_option linter.unusedVariables false
open Go.RowKit

theorem str_app (a b : List UInt8) : (⟨a.toArray⟩ : ByteArray) ++ ⟨b.toArray⟩ = ⟨(a ++ b).toArray⟩ := by
  apply ByteArray.ext; simp
theorem valid_enc (c : Int) (h : vldB c = true) (w : World) : Calls Try.prog 22 #[.int .i64 c] w fun e w' => e = .returned (.string ⟨(encP c).toArray⟩) ∧ Below w.heap.size w w' :=
  one_any c ((vldB_iff _).1 h).1 ((vldB_iff _).1 h).2.1 w
set_option maxHeartbeats 1000000 in
set_option maxRecDepth 100000 in
theorem rwrite_any (v : Value) (xs : List Int) (hx : xs.length ≤ 10000) (w : World) (hv : RdI w v xs) :
    Calls Try.prog 17 #[v] w (WriteRes w (writeP xs)) := by
  obtain ⟨r, hr⟩ : ∃ r, writeP xs = r := ⟨_, rfl⟩
  rcases hv.cases with ⟨a, cap, rfl, rfl⟩ | ⟨b, off, cap, rfl, hpos, hcap, hmax, hb, hcell⟩
  · rw [show writeP [] = some [] from rfl]
    go_enter Try.func17, Try.ntmps17
    go_wp2
    refine wp_loop_rounds 1 ?_
    rw [rounds_succ]
    go_wp2
    go_ret2
    exact ⟨Below.refl _ _, rfl⟩
  · have HR : Hid (r = (writeP (xs.drop 0)).map ([] ++ ·)) := Lib.hid (by rw [List.drop_zero, hr]; simp)
    rw [hr]
    clear hr
    have HC : Hid (∀ i, i < xs.length → w.cell? ⟨b, off + i, none⟩ = some (.int .i64 (xs.getD i 0))) := Lib.hid hcell
    clear hcell hmax
    go_enter Try.func17, Try.ntmps17
    go_wp2
    go_loopw [4, 5] (fun l i wr => ∃ (k : Nat) (bs : List UInt8), i = .int .i64 k ∧ k ≤ xs.length ∧ l = .string ⟨bs.toArray⟩ ∧ Below w.heap.size w wr ∧ bs.length ≤ 4 * k ∧ Hid (r = (writeP (xs.drop k)).map (bs ++ ·)))
      (fun _ i _ => xs.length - (intOf i).toNat)
    case atStart => exact ⟨0, [], rfl, Nat.zero_le _, rfl, Below.refl _ _, Nat.zero_le _, HR⟩
    case round =>
      obtain ⟨k, bs, rfl, hk, rfl, hbel, hlen, HRt⟩ := hrel
      have hwr := hbel.size
      by_cases hlt : k < xs.length
      · have hc : wr.cell? ⟨b, off + k, none⟩ = some (.int .i64 (xs.getD k 0)) := by rw [hbel.cell hb]; exact HC.out k hlt
        cases hvl : vldB (xs.getD k 0) with
        | false =>
          obtain rfl := write_none hlt HRt hvl
          have HV := Lib.hid hvl
          clear HRt hvl
          generalize xs.getD k 0 = c at *
          go_wp2_with (go_at_call 19; refine (rvalid_any _ _).mono ?_; rintro e w' ⟨rfl, rfl⟩; rw [HV.out])
          go_ret2
          exact ⟨hbel, rfl⟩
        | true =>
          have HRn := write_more hlt HRt hvl
          have HV := Lib.hid hvl
          clear HRt hvl
          generalize xs.getD k 0 = c at *
          have he4 := enc_le c
          have HO : Hid (∀ w, Calls Try.prog 22 #[.int .i64 c] w fun e w' => e = .returned (.string ⟨(encP c).toArray⟩) ∧ Below w.heap.size w w') := Lib.hid (valid_enc c HV.out)
          go_wp2_with (first | (go_at_call 19; refine (rvalid_any _ _).mono ?_; rintro e w' ⟨rfl, rfl⟩; rw [HV.out]) | (go_at_call 22; refine (HO.out _).mono ?_; rintro e w1 ⟨rfl, hb1⟩))
          go_roundw
          case rel =>
            exact ⟨k + 1, bs ++ encP c, by go_num, hlt, by rw [str_app], hbel.trans (hb1.mono hwr), by rw [List.length_append]; omega, HRn⟩
          case measure => simp [intOf]; omega
      · obtain rfl : k = xs.length := by omega
        obtain rfl := write_end HRt
        clear HRt
        go_wp2
        go_ret2
        exact ⟨hbel, rfl⟩
set_option maxHeartbeats 400000 in
theorem cut_any (s : ByteArray) (n : Nat) (hn : n ≤ 1000000) (hs : s.size ≤ maxLen) (w : World) :
    Calls Try.prog 10 #[.string s, .int .i64 n] w fun e w' => ∃ t : ByteArray, e = .returned (.string t) ∧ t.size ≤ n ∧ w = w' := by
  go_enter Try.func10, Try.ntmps10
  go_wp2
  · go_ret
    exact ⟨_, rfl, by rw [ByteArray.size_extract]; omega, rfl⟩
  · go_ret
    exact ⟨_, rfl, by omega, rfl⟩
theorem ne_of_at {xs ys : List Int} {k : Nat} (h1 : k < xs.length) (h2 : k < ys.length) (h : (xs.getD k 0 != ys.getD k 0) = true) : xs ≠ ys := by
  rintro rfl; simp at h
theorem take_more {xs ys : List Int} {k : Nat} (h1 : k < xs.length) (h2 : k < ys.length) (h : (xs.getD k 0 != ys.getD k 0) = false) (ht : xs.take k = ys.take k) : xs.take (k + 1) = ys.take (k + 1) := by
  rw [List.take_succ_eq_append_getElem h1, List.take_succ_eq_append_getElem h2, ht]
  rw [bne_eq_false_iff_eq, List.getD_eq_getElem?_getD, List.getD_eq_getElem?_getD, List.getElem?_eq_getElem h1, List.getElem?_eq_getElem h2] at h
  simp only [Option.getD_some] at h
  rw [h]
def IntsRes (w : World) (q : Bool) (e : Ending) (w' : World) : Prop := e = .returned (.bool q) ∧ ∃ m, w' = w.drewN m
set_option maxHeartbeats 1000000 in
set_option maxRecDepth 100000 in
theorem ints_any (v u : Value) (xs ys : List Int) (hx : xs.length ≤ 1000000) (hy : ys.length ≤ 1000000) (w : World) (hv : RdI w v xs) (hu : RdI w u ys) :
    Calls Try.prog 15 #[v, u] w (IntsRes w (decide (xs = ys))) := by
  by_cases hl : xs.length = ys.length
  · rcases hv.cases with ⟨a, cap, rfl, rfl⟩ | ⟨b, off, cap, rfl, hpos, hcap, hmax, hb, hcell⟩
    · obtain rfl : ys = [] := List.eq_nil_of_length_eq_zero hl.symm
      rcases hu.cases with ⟨a', cap', rfl, -⟩ | ⟨b', off', cap', rfl, hpos', -⟩
      · go_enter Try.func15, Try.ntmps15
        go_wp2
        refine wp_loop_rounds 1 ?_
        rw [rounds_succ]
        go_wp2
        go_ret
        exact ⟨rfl, 0, rfl⟩
      · exact absurd hpos' (by simp)
    · rcases hu.cases with ⟨a', cap', rfl, rfl⟩ | ⟨b', off', cap', rfl, hpos', hcap', hmax', hb', hcell'⟩
      · exact absurd hl (by rw [List.length_nil]; omega)
      · have HC : Hid (∀ i, i < xs.length → w.cell? ⟨b, off + i, none⟩ = some (.int .i64 (xs.getD i 0))) := Lib.hid hcell
        have HC' : Hid (∀ i, i < ys.length → w.cell? ⟨b', off' + i, none⟩ = some (.int .i64 (ys.getD i 0))) := Lib.hid hcell'
        clear hcell hcell' hmax hmax' hv hu
        obtain ⟨n, hn⟩ : ∃ n, n = ys.length := ⟨_, rfl⟩
        have HN := Lib.hid hn
        rw [hl, ← hn]
        rw [hl, ← hn] at hpos hcap hx
        rw [← hn] at hpos' hcap' hy
        have HL : Hid (xs.length = n) := Lib.hid (by rw [hl, hn])
        clear hl hn
        have hne : ((n : Int) != (n : Int)) = false := by simp
        go_enter Try.func15, Try.ntmps15
        go_wp2
        go_loopw [5] (fun i wr => ∃ (k m : Nat), i = .int .i64 k ∧ k ≤ n ∧ wr = w.drewN m ∧ Hid (xs.take k = ys.take k)) (fun i _ => n - (intOf i).toNat)
        case atStart => exact ⟨0, 0, rfl, Nat.zero_le _, rfl, Lib.hid (by simp)⟩
        case round =>
          obtain ⟨k, m, rfl, hk, rfl, HT⟩ := hrel
          by_cases hlt : k < n
          · have hc : w.cell? ⟨b, off + k, none⟩ = some (.int .i64 (xs.getD k 0)) := HC.out k (by have := HL.out; omega)
            have hc' : w.cell? ⟨b', off' + k, none⟩ = some (.int .i64 (ys.getD k 0)) := HC'.out k (by have := HN.out; omega)
            have HNo : Hid ((xs.getD k 0 != ys.getD k 0) = true → xs ≠ ys) := Lib.hid (ne_of_at (by have := HL.out; omega) (by have := HN.out; omega))
            have HYe : Hid ((xs.getD k 0 != ys.getD k 0) = false → xs.take (k + 1) = ys.take (k + 1)) := Lib.hid fun h => take_more (by have := HL.out; omega) (by have := HN.out; omega) h HT.out
            generalize xs.getD k 0 = x at *
            generalize ys.getD k 0 = y at *
            have h0k : (0 : Int) ≤ (k : Int) := by omega
            have hkn : (k : Int) < (n : Int) := by omega
            cases hq : (x != y) with
            | true =>
              go_wp2
              go_quiet (fail)
              go_wp2
              go_ret
              exact ⟨ret_bool (by rw [decide_eq_false_iff_not.2 (HNo.out hq)]), _, by rw [World.drewN_drewN]⟩
            | false =>
              go_wp2
              go_quiet (fail)
              go_wp2
              go_roundw
              case rel => exact ⟨k + 1, _, by go_num, hlt, rfl, Lib.hid (HYe.out hq)⟩
              case measure => simp [intOf]; omega
          · obtain rfl : k = n := by omega
            have he : xs = ys := by
              have := HT.out
              rwa [List.take_of_length_le (by have := HL.out; omega), List.take_of_length_le (by have := HN.out; omega)] at this
            go_wp2
            go_ret
            exact ⟨ret_bool (by rw [decide_eq_true he]), _, rfl⟩
  · have hne : xs ≠ ys := fun e => hl (by rw [e])
    have HNE := Lib.hid hne
    have hlb : ((xs.length : Int) != (ys.length : Int)) = true := by rw [bne_iff_ne]; omega
    obtain ⟨a, cap, e1⟩ : ∃ a cap, v = .slice a xs.length cap := by
      rcases hv.cases with ⟨a, cap, rfl, rfl⟩ | ⟨b, off, cap, rfl, -⟩
      · exact ⟨_, _, rfl⟩
      · exact ⟨_, _, rfl⟩
    obtain ⟨a', cap', e1'⟩ : ∃ a cap, u = .slice a ys.length cap := by
      rcases hu.cases with ⟨a, cap, rfl, rfl⟩ | ⟨b, off, cap, rfl, -⟩
      · exact ⟨_, _, rfl⟩
      · exact ⟨_, _, rfl⟩
    subst e1 e1'
    rw [decide_eq_false hne]
    clear hv hu hne hl
    generalize xs.length = n at *
    generalize ys.length = n' at *
    go_enter Try.func15, Try.ntmps15
    go_wp2
    go_ret
    exact ⟨rfl, 0, rfl⟩
end Go.Proofs.Ytcgknggmbfnpeaa
