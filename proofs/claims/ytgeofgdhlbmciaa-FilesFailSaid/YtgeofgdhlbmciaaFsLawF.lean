/- The law FilesFail. -/
import Derived.Test.YtgeofgdhlbmciaaFsLawN
namespace Go.Proofs.Ytgeofgdhlbmciaa
set_option linter.unusedVariables false
open Go.RowKit Go.Maps
/-- behind j calls -/
def stF (n j : Nat) (bs : List UInt8) : Fs := oneF bs 0 [] [mkA] 1000 ((j + 1 : Nat) : Int) (if j ≤ n then some (n - j) else none)
def lenF (n j : Nat) : Nat := if j ≤ n then j else j - 1
theorem stF_step (n j : Nat) (bs : List UInt8) (c : UInt8) (hb : bs.length = lenF n j) (hj : j < 20) : ∃ bs', (stF n j bs).append nmA [c] = (if j = n then 7 else 0, stF n (j + 1) bs') ∧ bs'.length = lenF n (j + 1) := by
  unfold lenF at *
  unfold stF
  have hi := inc64_nat (j + 1) (by omega)
  rcases Nat.lt_trichotomy j n with h | h | h
  · rw [if_pos (by omega)] at hb
    rw [if_pos (by omega), if_neg (by omega : ¬ j = n), if_pos (by omega), if_pos (by omega), show n - j = (n - (j + 1)) + 1 by omega, one_append_some _ _ _ _ _ _ _ _ (by rw [hb]; simp; omega), hi]
    exact ⟨_, rfl, by rw [List.length_append, hb]; rfl⟩
  · subst h
    rw [if_pos (Nat.le_refl _)] at hb
    rw [if_pos (Nat.le_refl _), if_pos rfl, if_neg (by omega), if_neg (by omega), Nat.sub_self, one_append_die, hi]
    exact ⟨_, rfl, by rw [hb]; omega⟩
  · rw [if_neg (by omega)] at hb
    rw [if_neg (by omega), if_neg (by omega : ¬ j = n), if_neg (by omega), if_neg (by omega), one_append _ _ _ _ _ _ _ (by rw [hb]; simp; omega), hi]
    exact ⟨_, rfl, by rw [List.length_append, hb]; simp; omega⟩
set_option maxHeartbeats 4000000 in
set_option maxRecDepth 100000 in
theorem filesFail_walk (w : World) (n : Int) (wn : (Lit.int .i64 n).wf = true) (k : Int) (wk : (Lit.int .i64 k).wf = true) : Calls Try.prog 6 #[.int .i64 n, .int .i64 k] w fun e w' => e = .returned (.bool true) ∧ Below w.heap.size w w' := by
  clear wn wk
  go_enter Try.func6, Try.ntmps6
  go_wp2_with fail
  refine (fbegun_any _).mono ?_
  rintro e w1 ⟨rfl, hb⟩
  have HB := Lib.hid hb
  clear hb
  by_cases hbad : n < 0 ∨ 20 < n ∨ k < 0 ∨ 20 < k
  · go_wp2_with fail
    all_goals (go_ret; exact ⟨rfl, HB.out⟩)
  · have h1 : ¬ n < 0 := by omega
    have h2 : ¬ 20 < n := by omega
    have h3 : ¬ k < 0 := by omega
    have h4 : ¬ 20 < k := by omega
    clear hbad
    obtain ⟨n, rfl⟩ : ∃ m : Nat, n = (m : Int) := ⟨n.toNat, by omega⟩
    obtain ⟨k, rfl⟩ : ∃ m : Nat, k = (m : Int) := ⟨k.toNat, by omega⟩
    have hn : n ≤ 20 := by omega
    have hk : k ≤ 20 := by omega
    go_wp2_with fail
    refine (new_own 1000 w1).mono ?_
    rintro e w2 ⟨rfl, h1⟩
    obtain ⟨b, hb⟩ : ∃ b, w1.heap.size = b := ⟨_, rfl⟩
    have h1' : FsOwn w1 w2 b ⟨[], [], [], [], 1000, 0, none⟩ := by rw [← hb]; exact h1
    rw [hb]
    have HC := Lib.hid (create_own h1' nmA (by decide) (by simp))
    rw [one_create] at HC
    clear h1 h1' hb
    unfold nmA at HC
    go_wp2_with fail
    refine HC.out.mono ?_
    rintro e w3 ⟨rfl, h3⟩
    have HFL := Lib.hid (fail_own h3 (n : Int) (by omega))
    rw [one_fail] at HFL
    clear HC h3
    go_wp2_with fail
    refine HFL.out.mono ?_
    rintro e w4 ⟨rfl, h4⟩
    have H4 : Hid (FsOwn w1 w4 b (stF n 0 [])) := Lib.hid (by
      unfold stF
      rw [if_pos (Nat.zero_le _)]
      rw [show (0 : Int) = ((0 : Nat) : Int) from rfl, inc64_nat 0 (by omega)] at h4
      exact h4)
    clear HFL h4
    go_wp2_with fail
    go_loopg [7, 8] k (fun kk vi _ wr => ∃ (j : Nat) (bs : List UInt8), vi = .int .i64 (j : Int) ∧ j ≤ k ∧ k - j ≤ kk ∧ Hid (bs.length = lenF n j ∧ FsOwn w1 wr b (stF n j bs)))
    case atStart => exact ⟨0, [], rfl, Nat.zero_le _, by omega, Lib.hid ⟨by unfold lenF; rw [if_pos (Nat.zero_le _)]; rfl, H4.out⟩⟩
    case round =>
      clear H4
      obtain ⟨j, bs, rfl, hj, hkk, HS⟩ := hrel
      by_cases hlt : j < k
      · have hz : (j : Int) < (k : Int) := by omega
        obtain ⟨bs', hap, hl'⟩ := stF_step n j bs (UInt8.ofNat j) HS.out.1 (by omega)
        have hbv : bv (UInt8.ofNat j) = .int .u8 (j : Int) := by
          have := bv_of (j : Int) (by omega) (by omega)
          rwa [Int.toNat_natCast] at this
        have hrd := (OwnB.lit wr [UInt8.ofNat j] #[.int .u8 (j : Int)] 1 wr.heap.size rfl (by unfold maxLen; omega) (by rw [← hbv]; rfl) (Nat.le_refl _)).rd
        have HA := Lib.hid (append_own HS.out.2 ((Below.refl _ wr).alloc (Nat.le_refl _) (.cells #[.int .u8 (j : Int)] 5)) nmA (by decide) _ [UInt8.ofNat j] hrd (fun i hi => by
          obtain rfl : wr.heap.size = i := Option.some.inj hi
          exact Nat.le_refl _) (by simp))
        rw [hap] at HA
        unfold nmA at HA
        have HL := Lib.hid hl'
        have hj256 : (j : Int) < 256 := by omega
        clear hap hl' hbv hrd HS
        go_wp2_with fail
        refine HA.out.mono ?_
        rintro e w5 ⟨rfl, h5⟩
        have H5 := Lib.hid h5
        clear HA h5
        by_cases hjn : j = n
        · subst hjn
          simp only [if_true]
          go_wp2_with fail
          go_roundg (k - (j + 1))
          case measure => omega
          case rel => exact ⟨j + 1, bs', by go_num, by omega, Nat.le_refl _, Lib.hid ⟨HL.out, H5.out⟩⟩
        · have hjz : ¬ (j : Int) = (n : Int) := by omega
          simp only [if_neg hjn]
          go_wp2_with fail
          go_roundg (k - (j + 1))
          case measure => omega
          case rel => exact ⟨j + 1, bs', by go_num, by omega, Nat.le_refl _, Lib.hid ⟨HL.out, H5.out⟩⟩
      · obtain rfl : j = k := by omega
        have hz : ¬ (j : Int) < (j : Int) := by omega
        have HR := Lib.hid (read_own HS.out.2 nmA (by decide) bs 0 (one_read _ _ _ _ _ _ _))
        unfold nmA at HR
        go_wp2_with fail
        refine HR.out.mono ?_
        rintro e w6 ⟨v, rfl, o6, b6⟩
        have H6 := Lib.hid (HS.out.2.below b6)
        have hlb := HS.out.1
        have HC := Lib.hid (calls_own H6.out)
        rw [show (stF n j bs).calls = ((j + 1 : Nat) : Int) from rfl] at HC
        obtain ⟨a6, l6, p6, rfl⟩ := row_form o6
        have hl6 := (rdV_len (OwnB.rd o6)).1
        rw [List.length_map] at hl6
        have HB6 := Lib.hid (HB.out.trans (H6.out.blw.mono HB.out.size))
        clear HR o6 b6 HS H6
        by_cases hnj : n < j
        · have hnz : (n : Int) < (j : Int) := by omega
          have hle : (l6 : Int) = (j : Int) - 1 := by
            unfold lenF at hlb
            rw [if_neg (by omega)] at hlb
            omega
          clear hlb hl6
          go_wp2_with fail
          refine HC.out.mono ?_
          rintro e w7 ⟨rfl, rfl⟩
          go_wp2_with fail
          go_ret
          exact ⟨rfl, HB6.out⟩
        · have hnz : ¬ (n : Int) < (j : Int) := by omega
          have hle : (l6 : Int) = (j : Int) := by
            unfold lenF at hlb
            rw [if_pos (by omega)] at hlb
            omega
          clear hlb hl6
          go_wp2_with fail
          refine HC.out.mono ?_
          rintro e w7 ⟨rfl, rfl⟩
          go_wp2_with fail
          go_ret
          exact ⟨rfl, HB6.out⟩
end Go.Proofs.Ytgeofgdhlbmciaa
