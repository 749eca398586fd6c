/- reclog: what a piece's kind says, whether a log is cut off, which piece stands at a place. -/
import Derived.Test.YtdnohjhknhekhaaDoorRecSmall
import Derived.Test.YtdnohjhknhekhaaDoorNumText
import Derived.Test.YtdnohjhknhekhaaDoorRow3
import Derived.Deep.DeepCutAuto
import Derived.Deep.CutBlock
namespace Go.Proofs.YtdnohjhknhekhaaDoor
set_option linter.unusedVariables false
open Go.RowKit
def piV (k : Nat) (v : Value) (e : Nat) : Value := .agg #[.int .u8 (k : Int), v, .int .i64 (e : Int)]
set_option maxHeartbeats 1000000 in
theorem begins_any (k : Nat) (v : Value) (e : Nat) (w : World) : Calls Tryd.prog 18 #[piV k v e] w fun x w' => x = .returned (.bool (beginsK k)) ∧ Below w.heap.size w w' := by
  have HP : Hid (Row3 (w.alloc (.cells #[.int .u8 (k : Int), v, .int .i64 (e : Int)] 39)) w.heap.size (.int .u8 (k : Int)) v (.int .i64 (e : Int)) ∧ Below w.heap.size w (w.alloc (.cells #[.int .u8 (k : Int), v, .int .i64 (e : Int)] 39))) :=
    Lib.hid ⟨Row3.new .., (Below.refl _ w).alloc (Nat.le_refl _) _⟩
  unfold piV
  obtain ⟨r, hr⟩ : ∃ r, beginsK k = r := ⟨_, rfl⟩
  have hrr : r = (k == 1 || k == 2) := hr.symm
  rw [hr]
  clear hr
  by_cases h1 : k = 1
  · have hz : ((k : Int) == 1) = true := by rw [beq_iff_eq]; omega
    obtain rfl : r = true := by rw [hrr, h1]; rfl
    clear h1 hrr
    go_enter Tryd.func18, Tryd.ntmps18
    go_upto_region 1 with fail
    generalize w.alloc (.cells #[.int .u8 (k : Int), v, .int .i64 (e : Int)] 39) = w1 at HP ⊢
    obtain ⟨⟨⟨c0, c1, c2⟩, -, hs⟩, HB⟩ := HP.out
    clear HP
    go_wp2
    go_ret
    exact ⟨rfl, HB⟩
  · have hz : ((k : Int) == 1) = false := by rw [beq_eq_false_iff_ne]; omega
    have hz2 : ((k : Int) == 2) = r := by
      rw [hrr, (by rw [beq_eq_false_iff_ne]; exact h1 : (k == 1) = false), Bool.false_or]
      by_cases h2 : k = 2
      · rw [h2]; rfl
      · rw [(by rw [beq_eq_false_iff_ne]; exact h2 : (k == 2) = false), beq_eq_false_iff_ne]; omega
    clear h1 hrr
    go_enter Tryd.func18, Tryd.ntmps18
    go_upto_region 1 with fail
    generalize w.alloc (.cells #[.int .u8 (k : Int), v, .int .i64 (e : Int)] 39) = w1 at HP ⊢
    obtain ⟨⟨⟨c0, c1, c2⟩, -, hs⟩, HB⟩ := HP.out
    clear HP
    go_wp2
    go_ret
    exact ⟨rfl, HB⟩
set_option maxHeartbeats 1000000 in
theorem ends_any (k : Nat) (v : Value) (e : Nat) (w : World) : Calls Tryd.prog 19 #[piV k v e] w fun x w' => x = .returned (.bool (endsK k)) ∧ Below w.heap.size w w' := by
  have HP : Hid (Row3 (w.alloc (.cells #[.int .u8 (k : Int), v, .int .i64 (e : Int)] 39)) w.heap.size (.int .u8 (k : Int)) v (.int .i64 (e : Int)) ∧ Below w.heap.size w (w.alloc (.cells #[.int .u8 (k : Int), v, .int .i64 (e : Int)] 39))) :=
    Lib.hid ⟨Row3.new .., (Below.refl _ w).alloc (Nat.le_refl _) _⟩
  unfold piV
  obtain ⟨r, hr⟩ : ∃ r, endsK k = r := ⟨_, rfl⟩
  have hrr : r = (k == 1 || k == 4) := hr.symm
  rw [hr]
  clear hr
  by_cases h1 : k = 1
  · have hz : ((k : Int) == 1) = true := by rw [beq_iff_eq]; omega
    obtain rfl : r = true := by rw [hrr, h1]; rfl
    clear h1 hrr
    go_enter Tryd.func19, Tryd.ntmps19
    go_upto_region 1 with fail
    generalize w.alloc (.cells #[.int .u8 (k : Int), v, .int .i64 (e : Int)] 39) = w1 at HP ⊢
    obtain ⟨⟨⟨c0, c1, c2⟩, -, hs⟩, HB⟩ := HP.out
    clear HP
    go_wp2
    go_ret
    exact ⟨rfl, HB⟩
  · have hz : ((k : Int) == 1) = false := by rw [beq_eq_false_iff_ne]; omega
    have hz2 : ((k : Int) == 4) = r := by
      rw [hrr, (by rw [beq_eq_false_iff_ne]; exact h1 : (k == 1) = false), Bool.false_or]
      by_cases h2 : k = 4
      · rw [h2]; rfl
      · rw [(by rw [beq_eq_false_iff_ne]; exact h2 : (k == 4) = false), beq_eq_false_iff_ne]; omega
    clear h1 hrr
    go_enter Tryd.func19, Tryd.ntmps19
    go_upto_region 1 with fail
    generalize w.alloc (.cells #[.int .u8 (k : Int), v, .int .i64 (e : Int)] 39) = w1 at HP ⊢
    obtain ⟨⟨⟨c0, c1, c2⟩, -, hs⟩, HB⟩ := HP.out
    clear HP
    go_wp2
    go_ret
    exact ⟨rfl, HB⟩
set_option maxHeartbeats 1000000 in
set_option maxRecDepth 100000 in
theorem iscut_any (s : Option Addr) (len cap a : Nat) (log : List UInt8) (hl : log.length ≤ 1000000000000) (ha : a ≤ 1000000000010) (w : World) (h : RdB w (.slice s len cap) log) :
    Calls Tryd.prog 17 #[.slice s len cap, .int .i64 (a : Int)] w fun e w' => e = .returned (.bool (cutS a (log.drop a))) ∧ Below w.heap.size w w' := by
  have hlen : len = log.length := by have := (rdV_len h).1; rwa [List.length_map] at this
  have HH := Lib.hid (head_any s len cap a (by omega) (by omega))
  have hdl : (log.drop a).length = len - a := by rw [List.length_drop, hlen]
  by_cases h7 : 7 ≤ len - a
  · have HE := Lib.hid (ending_any s len cap a log hl (by omega) w h)
    have hsz : szS (log.drop a) ≤ 65535 := by
      unfold szS
      have h1 := ((log.drop a).getD 4 0).toNat_lt
      have h2 := ((log.drop a).getD 5 0).toNat_lt
      omega
    have hres : cutS a (log.drop a) = (decide (len < a + 7 + szS (log.drop a)) && decide (a + 7 + szS (log.drop a) ≤ a - a % 256 + 256)) := by
      unfold cutS
      rw [hdl, decide_eq_false (p := len - a < 7) (by omega), Bool.false_or]
      congr 1
      · rw [decide_eq_decide]; omega
      · rw [decide_eq_decide]; omega
    rw [hres]
    generalize szS (log.drop a) = z at *
    have HK := Lib.hid (block_any a (a + 7 + z) (by omega) (by omega))
    rw [decide_eq_true h7] at HH
    obtain ⟨m, hm⟩ : ∃ m, a + 7 + z = m := ⟨_, rfl⟩
    rw [hm] at HE HK ⊢
    clear hres hdl h7
    by_cases hlt : len < m
    · have hz : (len : Int) < (m : Int) := by omega
      have hm2 : m ≤ 9000000000000 := by omega
      rw [decide_eq_true hlt, Bool.true_and]
      generalize decide (m ≤ a - a % 256 + 256) = q at *
      clear hlt hm hlen
      go_enter Tryd.func17, Tryd.ntmps17
      go_wp2_with fail
      refine (HH.out _).mono ?_
      rintro e w' ⟨rfl, rfl⟩
      go_wp2_with fail
      refine HE.out.mono ?_
      rintro e w1 ⟨rfl, D⟩
      go_wp2_with fail
      refine (HK.out _).mono ?_
      rintro e w' ⟨rfl, rfl⟩
      go_wp2
      go_ret
      exact ⟨rfl, D.below _⟩
    · have hz : ¬ (len : Int) < (m : Int) := by omega
      rw [decide_eq_false hlt, Bool.false_and]
      have hm2 : m ≤ 9000000000000 := by omega
      clear hlt hm hlen
      go_enter Tryd.func17, Tryd.ntmps17
      go_wp2_with fail
      refine (HH.out _).mono ?_
      rintro e w' ⟨rfl, rfl⟩
      go_wp2_with fail
      refine HE.out.mono ?_
      rintro e w1 ⟨rfl, D⟩
      go_wp2
      go_ret
      exact ⟨rfl, D.below _⟩
  · have hres : cutS a (log.drop a) = true := by
      unfold cutS
      rw [hdl, decide_eq_true (p := len - a < 7) (by omega), Bool.true_or]
    rw [hres]
    rw [decide_eq_false h7] at HH
    clear hres hdl h7 hlen
    go_enter Tryd.func17, Tryd.ntmps17
    go_wp2_with fail
    refine (HH.out _).mono ?_
    rintro e w' ⟨rfl, rfl⟩
    go_wp2
    go_ret
    exact ⟨rfl, Below.refl _ _⟩
end Go.Proofs.YtdnohjhknhekhaaDoor
