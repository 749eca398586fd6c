/- The law ManifestGrows: many edits make a manifest long; made anew it is short, and says the same. -/
import Derived.Test.YtcppaflnhlmcbaaGreatDoorManGr
import Derived.Test.YtcppaflnhlmcbaaGreatDoorMOld
import Derived.Test.YtcppaflnhlmcbaaGreatDoorManBgn
namespace Go.Proofs.YtcppaflnhlmcbaaGreatDoor
set_option linter.unusedVariables false
open Go.RowKit Go.Maps
/-- No name is old where all are needed. -/
theorem mold_st {F : Nat → Prop} {w0 w : World} (hG : GlobM w0) (hE : ErrAt w0) {b mb : Nat} {S : Fs} {u : Nat} {V : Ver} {es : List Edt} {c r : Nat} (h : MSt F w0 w b mb S u V es c r) (hr20 : r ≤ 20) (hn : ∀ x ∈ S.now.map (·.1), x ∈ needN u u V.fs) :
    Calls Tryz.prog 25 #[.pointer (some ⟨mb, 0, none⟩)] w fun e w' => ∃ a cap, e = .returned (.slice a 0 cap) ∧ Below w.heap.size w w' := by
  obtain ⟨ρ, rfl, h2, h3⟩ := h.ex
  have hu := run_u h.run
  have hr := std_read h.run.std
  have hnow := h.run.std.disk.now
  have hne : 0 < S.now.length := by
    obtain ⟨i, j, X, k1, -⟩ := h.run.std.load smN_len
    cases e : S.now with
    | nil => rw [e] at k1; cases k1
    | cons a l => simp
  refine (old_any h2 ⟨hG.1.below h.blw, hG.2.below h.blw⟩ (hE.below h.blw) (by show u ≤ _; omega) u (by omega) hr (ptr_num u hu) (fun x hx hq => absurd (hn x hx) hq) hne (by omega)).mono ?_
  rintro e w' ⟨v, rfl, hrd, hb⟩
  have hrd : RdV w' v (((S.now.map (·.1)).filter fun x => !delP (needN u u V.fs) V.lg x).map Value.string) := hrd
  rw [none_old hn] at hrd
  rcases hrd with ⟨a, cap, rfl, -⟩ | ⟨_, _, _, rfl, h0, -⟩
  · exact ⟨a, cap, rfl, hb⟩
  · simp at h0
set_option maxHeartbeats 32000000 in
set_option maxRecDepth 100000 in
theorem manGrows_walk (w : World) (hG : GlobM w) (hE : ErrAt w) (z : Int) (hz0 : -9223372036854775808 ≤ z) (hz1 : z ≤ 9223372036854775807) :
    Calls Tryz.prog 6 #[.int .i64 z] w fun e w' => e = .returned (.bool true) ∧ Below w.heap.size w w' := by
  have HBG := Lib.hid (mbegun_any w hG)
  by_cases h1 : z < 1
  · have hd1 : decide (z < 1) = true := decide_eq_true h1
    clear hG hE
    go_enter Tryz.func6, Tryz.ntmps6
    go_wp2_with fail
    refine HBG.out.mono ?_
    rintro e w1 ⟨rfl, hb⟩
    go_wp2_with fail
    go_ret
    exact ⟨rfl, hb⟩
  by_cases h2 : 60 < z
  · have hd1 : decide (z < 1) = false := decide_eq_false h1
    have hd2 : decide (60 < z) = true := decide_eq_true h2
    clear hG hE
    go_enter Tryz.func6, Tryz.ntmps6
    go_wp2_with fail
    refine HBG.out.mono ?_
    rintro e w1 ⟨rfl, hb⟩
    go_wp2_with fail
    go_ret
    exact ⟨rfl, hb⟩
  have hd1 : decide (z < 1) = false := decide_eq_false h1
  have hd2 : decide (60 < z) = false := decide_eq_false h2
  obtain ⟨n, rfl⟩ : ∃ n : Nat, z = (n : Int) := ⟨z.toNat, by omega⟩
  have hn1 : 1 ≤ n := by omega
  have hn2 : n ≤ 60 := by omega
  clear hz0 hz1 h1 h2
  have HNEW : Hid (∀ W, Below w.heap.size w W → Calls Tryz.prog 9 #[.int .i64 1048576] W fun e w' => ∃ b, e = .returned (.pointer (some ⟨b, 0, none⟩)) ∧ FsOwn w w' b (fsNew 1048576)) := Lib.hid (fun W hW => by
    refine (new_own 1048576 W).mono ?_
    rintro e w' ⟨rfl, ρ, h1, h2, h3⟩
    exact ⟨_, rfl, ρ, h1, hW.trans (h2.mono hW.size), fun k hk => Nat.le_trans hW.size (h3 k hk)⟩)
  have HG := Lib.hid hG
  have HE := Lib.hid hE
  clear hG hE
  go_enter Tryz.func6, Tryz.ntmps6
  go_wp2_with fail
  refine HBG.out.mono ?_
  rintro e w1 ⟨rfl, hb⟩
  have HN1 := Lib.hid (HNEW.out w1 hb)
  clear hb HBG HNEW
  go_wp2_with fail
  refine HN1.out.mono ?_
  rintro e w2 ⟨b, rfl, hf⟩
  have HC := Lib.hid (mcreate_st HG.out hf)
  clear hf HN1
  go_wp2_with fail
  clear hd1 hd2
  refine HC.out.mono ?_
  rintro e w3 ⟨mb, F0, S0, rfl, hm, hfl, -, hnm⟩
  have HM0 : Hid (MG F0 w w3 b mb S0 1 (vG 0) [wholeE verC] 2 12200 1) := Lib.hid (hm.g.more (by omega) (by omega) (by omega))
  have HFL0 := Lib.hid hfl
  have HNM0 := Lib.hid hnm
  have HLG0 : Hid (7 * (0 + 1) ≤ (logB smN [wholeE verC]).length ∧ (logB smN [wholeE verC]).length ≤ 100 + 190 * 0) := Lib.hid ⟨by rw [logB_one]; exact lay_min smN_len _ _, hm.run.log⟩
  clear hm hfl hnm HC
  go_wp2_with fail
  go_loopg [7, 8] n (fun kk vi vx wr => ∃ (k : Nat) (F : Nat → Prop) (S : Fs) (es : List Edt), vi = .int .i64 (k : Int) ∧ k ≤ n ∧ n - k ≤ kk ∧ Hid (MG F w wr b mb S 1 (vG k) es 2 12200 1) ∧ Hid (S.fails = none) ∧ Hid (∀ x, x ≠ curN → x ≠ manN 1 → dget x S.now = none) ∧ Hid (7 * (k + 1) ≤ (logB smN es).length ∧ (logB smN es).length ≤ 100 + 190 * k))
  case atStart => exact ⟨0, F0, S0, _, rfl, by omega, by omega, HM0, HFL0, HNM0, HLG0⟩
  case round =>
    clear HM0 HFL0 HNM0 HLG0
    obtain ⟨k, F, S, es, rfl, hk, hkk, HM, HFL, HNM, HLG⟩ := hrel
    by_cases hlt : k < n
    · have hd1 : (k : Int) < (n : Int) := by omega
      have hk0 : (0 : Int) ≤ (k : Int) := by omega
      have hk60 : (k : Int) ≤ 60 := by omega
      have hsz : (logB smN es).length + (layB smN (logB smN es).length (edtB (eG k))).length ≤ 12200 ∧ 2 * 12200 + (layB smN (logB smN es).length (edtB (eG k))).length ≤ 1048576 := by
        have := eG_len k (logB smN es).length
        have := HLG.out
        omega
      have HLG2 : Hid (7 * (k + 1 + 1) ≤ (logB smN (es ++ [eG k])).length ∧ (logB smN (es ++ [eG k])).length ≤ 100 + 190 * (k + 1)) := Lib.hid (by
        have h1 := eG_len k (logB smN es).length
        have h2 := lay_min smN_len (logB smN es).length (edtB (eG k))
        have h3 := HLG.out
        rw [logB_snoc, List.length_append]
        omega)
      by_cases hz : k = 0
      · subst hz
        have hp : ¬ (0 : Int) < ((0 : Nat) : Int) := by omega
        have HCO := Lib.hid (mcommit_g HG.out (HM.out.below (((Below.refl _ wr).alloc (Nat.le_refl _) (.cells #[.int .i64 (9 + ((0 : Nat) : Int)), .int .i64 0, .int .i64 0, .string ⟨#[97]⟩, .string ⟨#[98]⟩] 54)).alloc (by simp) (.cells #[.int .i64 (10 + ((0 : Nat) : Int)), .int .i64 0, .int .i64 0, .slice (some ⟨wr.heap.size, 0, none⟩) 1 1, .slice none 0 0] 39))) HFL.out _ (eG 0) (eG_at0 wr _) (eG_ok 0) (grow_at (by omega)) (by omega) hsz.1 (by omega) hsz.2)
        clear hsz HLG HM HFL
        go_wp2_with fail
        refine HCO.out.mono ?_
        rintro e w5 ⟨V', F', S', rfl, hsm, -, hm, hnow, hfl⟩
        obtain rfl := vG_same hsm
        have HM2 := Lib.hid hm
        have HFL2 := Lib.hid hfl
        have HNM2 : Hid (∀ x, x ≠ curN → x ≠ manN 1 → dget x S'.now = none) := Lib.hid (by rw [hnow]; exact HNM.out)
        clear hsm hm hnow hfl HCO HNM
        go_wp2_with fail
        go_roundg (n - (0 + 1))
        case measure => omega
        case rel => exact ⟨0 + 1, F', S', _, by go_num, by omega, Nat.le_refl _, HM2, HFL2, HNM2, HLG2⟩
      · have hp : (0 : Int) < (k : Int) := by omega
        have HCO := Lib.hid (mcommit_g HG.out (HM.out.below ((((Below.refl _ wr).alloc (Nat.le_refl _) (.cells #[.int .i64 (9 + (k : Int)), .int .i64 0, .int .i64 0, .string ⟨#[97]⟩, .string ⟨#[98]⟩] 54)).alloc (by simp) (.cells #[.int .i64 (10 + (k : Int)), .int .i64 0, .int .i64 0, .slice (some ⟨wr.heap.size, 0, none⟩) 1 1, .slice (some ⟨wr.heap.size + 1 + 1, 0, none⟩) 1 1] 39)).alloc (by simp; omega) (.cells #[.int .i64 (8 + (k : Int))] 2))) HFL.out _ (eG k) (eG_at1 wr k hz _) (eG_ok k) (grow_at (by omega)) (by omega) hsz.1 (by omega) hsz.2)
        clear hsz HLG HM HFL
        go_wp2_with fail
        refine HCO.out.mono ?_
        rintro e w5 ⟨V', F', S', rfl, hsm, -, hm, hnow, hfl⟩
        obtain rfl := vG_same hsm
        have HM2 := Lib.hid hm
        have HFL2 := Lib.hid hfl
        have HNM2 : Hid (∀ x, x ≠ curN → x ≠ manN 1 → dget x S'.now = none) := Lib.hid (by rw [hnow]; exact HNM.out)
        clear hsm hm hnow hfl HCO HNM
        go_wp2_with fail
        go_roundg (n - (k + 1))
        case measure => omega
        case rel => exact ⟨k + 1, F', S', _, by go_num, by omega, Nat.le_refl _, HM2, HFL2, HNM2, HLG2⟩
    · obtain rfl : k = n := by omega
      have hd1 : ¬ (k : Int) < (k : Int) := by omega
      obtain ⟨q, rfl⟩ : ∃ q, k = q + 1 := ⟨k - 1, by omega⟩
      have HMS : Hid (MSt F w wr b mb S 1 (vG (q + 1)) es 5 0) := Lib.hid (MG.st (c := 5) (r := 0) HM.out (fun f hf => eG_thin q f hf) (by show 1 ≤ 12 * 5; omega))
      have HSZ := Lib.hid (msize_st HM.out)
      obtain ⟨Lg, hLg⟩ : ∃ Lg, (logB smN es).length = Lg := ⟨_, rfl⟩
      have HLG2 := Lib.hid HLG.out
      rw [hLg] at HSZ HLG2
      have hlgb : (Lg : Int) ≤ 20000 := by have := HLG2.out; omega
      have hlg0 : (0 : Int) ≤ (Lg : Int) := by omega
      clear HM HLG hLg
      go_wp2_with fail
      refine HSZ.out.mono ?_
      rintro e w' ⟨rfl, rfl⟩
      have HRW := Lib.hid (mrewrite_st HG.out HMS.out (by omega) (by show 10 + (q : Int) < 1125899906842624; omega))
      clear HSZ HMS
      go_wp2_with fail
      refine HRW.out.mono ?_
      rintro e w6 ⟨V', F', S', v, hsm, -, hv, (⟨rfl, hm, hfl, hnm⟩ | ⟨hbad, -⟩)⟩
      rotate_left
      · exact absurd HFL.out hbad
      obtain rfl := bump_same hsm
      have HM6 := Lib.hid hm
      have HNA := Lib.hid (names_all hm.run.std.disk.ok.now HNM.out hnm [fG q])
      have HFI := Lib.hid (whole_fin (k := q) (by omega))
      clear hsm hv hm hfl hnm HRW HNM HFL
      have hq0 : (0 : Int) ≤ (q : Int) := by omega
      have hq1 : (q : Int) ≤ 60 := by omega
      have HSZ6 := Lib.hid (msize_st HM6.out.g)
      have HCR := Lib.hid (mcrash_st HM6.out 0 (.slice none 0 0) [] (.inl ⟨_, _, rfl, rfl⟩) (by decide))
      obtain ⟨Sz, hSz⟩ : ∃ Sz, (logB smN [wholeE ⟨[fG q], 10 + (q : Int) + 1, 0, 0⟩]).length = Sz := ⟨_, rfl⟩
      have hs32 : Sz ≤ 32 := by rw [← hSz]; exact HFI.out
      rw [hSz] at HSZ6
      clear hSz HFI
      by_cases h5 : 5 < q + 1
      · have hd5 : (5 : Int) < (q : Int) + 1 := by omega
        have hd6 : ¬ (Lg : Int) ≤ (Sz : Int) := by have := HLG2.out; omega
        go_wp2_with fail
        refine HSZ6.out.mono ?_
        rintro e w' ⟨rfl, rfl⟩
        go_wp2_with fail
        clear HSZ6
        refine HCR.out.mono ?_
        rintro e w7 ⟨b7, rfl, hf7⟩
        have HM7 := Lib.hid (HM6.out.below hf7.blw)
        have HLD := Lib.hid (mload_st (HG.out.below HM6.out.blw) hf7 (HM6.out.run.crash smN_len 0 []) rfl (by omega))
        clear hf7 HCR
        go_wp2_with fail
        refine HLD.out.mono ?_
        rintro e w8 ⟨mb8, F8, S8, V8, rfl, hsm8, hm8, -, -⟩
        obtain rfl := bump_same (k := q) hsm8
        have HM8 := Lib.hid (HM6.out.below hm8.blw)
        obtain ⟨ρ8, -, hma8, -⟩ := hm8.ex
        have HA8 := Lib.hid hma8
        have HV8 := Lib.hid (mver_any hma8)
        clear hsm8 hm8 hma8 HLD HM7
        go_wp2_with fail
        refine HV8.out.mono ?_
        rintro e w9 ⟨rfl, hv9, hb9⟩
        have HM9 := Lib.hid (HM8.out.below hb9)
        have HA9 := Lib.hid (HA8.out.below hb9)
        have HL9 := Lib.hid (vall_any hv9)
        clear hv9 hb9 HV8 HM8 HA8
        go_wp2_with fail
        refine HL9.out.mono ?_
        rintro e w10 ⟨uu, rfl, ho10, hb10⟩
        obtain ⟨a10, c10, e10, -⟩ := edFl_len (ho10.rd encTbf_len)
        rw [show (⟨[fG q], 10 + (q : Int) + 1, 0, 0⟩ : Ver).fs.length = 1 from rfl] at e10
        subst e10
        have HM10 := Lib.hid (HM9.out.below hb10)
        have HA10 := Lib.hid (HA9.out.below hb10)
        have HV10 := Lib.hid (mver_any HA10.out)
        clear ho10 hb10 HL9 HM9 HA9
        go_wp2_with fail
        refine HV10.out.mono ?_
        rintro e w11 ⟨rfl, hv11, hb11⟩
        have HM11 := Lib.hid (HM10.out.below hb11)
        have HN11 := Lib.hid (vnext_any hv11)
        clear hv11 hb11 HV10 HM10 HA10
        go_wp2_with fail
        refine HN11.out.mono ?_
        rintro e w12 ⟨rfl, hb12⟩
        have HM12 := Lib.hid (HM11.out.below hb12)
        obtain ⟨ρm, -, hma12, -⟩ := HM12.out.ex
        have HV12 := Lib.hid (mver_any hma12)
        clear hb12 hma12 HN11 HM11
        go_wp2_with fail
        refine HV12.out.mono ?_
        rintro e w13 ⟨rfl, hv13, hb13⟩
        have HM13 := Lib.hid (HM12.out.below hb13)
        have HN13 := Lib.hid (vnext_any hv13)
        clear hv13 hb13 HV12 HM12
        go_wp2_with fail
        refine HN13.out.mono ?_
        rintro e w14 ⟨rfl, hb14⟩
        have HM14 := Lib.hid (HM13.out.below hb14)
        have HO14 := Lib.hid (mold_st HG.out HE.out HM14.out (by omega) HNA.out)
        clear hb14 HN13 HM13
        go_wp2_with fail
        refine HO14.out.mono ?_
        rintro e w15 ⟨ao, co, rfl, hb15⟩
        have HB15 := Lib.hid (HM14.out.blw.trans (hb15.mono HM14.out.blw.size))
        clear hb15 HO14 HM14
        go_wp2_with fail
        go_ret
        exact ⟨rfl, HB15.out⟩
      · have hd5 : ¬ (5 : Int) < (q : Int) + 1 := by omega
        go_wp2_with fail
        clear HSZ6
        refine HCR.out.mono ?_
        rintro e w7 ⟨b7, rfl, hf7⟩
        have HM7 := Lib.hid (HM6.out.below hf7.blw)
        have HLD := Lib.hid (mload_st (HG.out.below HM6.out.blw) hf7 (HM6.out.run.crash smN_len 0 []) rfl (by omega))
        clear hf7 HCR
        go_wp2_with fail
        refine HLD.out.mono ?_
        rintro e w8 ⟨mb8, F8, S8, V8, rfl, hsm8, hm8, -, -⟩
        obtain rfl := bump_same (k := q) hsm8
        have HM8 := Lib.hid (HM6.out.below hm8.blw)
        obtain ⟨ρ8, -, hma8, -⟩ := hm8.ex
        have HA8 := Lib.hid hma8
        have HV8 := Lib.hid (mver_any hma8)
        clear hsm8 hm8 hma8 HLD HM7
        go_wp2_with fail
        refine HV8.out.mono ?_
        rintro e w9 ⟨rfl, hv9, hb9⟩
        have HM9 := Lib.hid (HM8.out.below hb9)
        have HA9 := Lib.hid (HA8.out.below hb9)
        have HL9 := Lib.hid (vall_any hv9)
        clear hv9 hb9 HV8 HM8 HA8
        go_wp2_with fail
        refine HL9.out.mono ?_
        rintro e w10 ⟨uu, rfl, ho10, hb10⟩
        obtain ⟨a10, c10, e10, -⟩ := edFl_len (ho10.rd encTbf_len)
        rw [show (⟨[fG q], 10 + (q : Int) + 1, 0, 0⟩ : Ver).fs.length = 1 from rfl] at e10
        subst e10
        have HM10 := Lib.hid (HM9.out.below hb10)
        have HA10 := Lib.hid (HA9.out.below hb10)
        have HV10 := Lib.hid (mver_any HA10.out)
        clear ho10 hb10 HL9 HM9 HA9
        go_wp2_with fail
        refine HV10.out.mono ?_
        rintro e w11 ⟨rfl, hv11, hb11⟩
        have HM11 := Lib.hid (HM10.out.below hb11)
        have HN11 := Lib.hid (vnext_any hv11)
        clear hv11 hb11 HV10 HM10 HA10
        go_wp2_with fail
        refine HN11.out.mono ?_
        rintro e w12 ⟨rfl, hb12⟩
        have HM12 := Lib.hid (HM11.out.below hb12)
        obtain ⟨ρm, -, hma12, -⟩ := HM12.out.ex
        have HV12 := Lib.hid (mver_any hma12)
        clear hb12 hma12 HN11 HM11
        go_wp2_with fail
        refine HV12.out.mono ?_
        rintro e w13 ⟨rfl, hv13, hb13⟩
        have HM13 := Lib.hid (HM12.out.below hb13)
        have HN13 := Lib.hid (vnext_any hv13)
        clear hv13 hb13 HV12 HM12
        go_wp2_with fail
        refine HN13.out.mono ?_
        rintro e w14 ⟨rfl, hb14⟩
        have HM14 := Lib.hid (HM13.out.below hb14)
        have HO14 := Lib.hid (mold_st HG.out HE.out HM14.out (by omega) HNA.out)
        clear hb14 HN13 HM13
        go_wp2_with fail
        refine HO14.out.mono ?_
        rintro e w15 ⟨ao, co, rfl, hb15⟩
        have HB15 := Lib.hid (HM14.out.blw.trans (hb15.mono HM14.out.blw.size))
        clear hb15 HO14 HM14
        go_wp2_with fail
        go_ret
        exact ⟨rfl, HB15.out⟩
theorem wf_m {c : Int} (wf : (Lit.int .i64 c).wf = true) : -9223372036854775808 ≤ c ∧ c ≤ 9223372036854775807 := by
  simp [Lit.wf, IntKind.min, IntKind.max, IntKind.signed, IntKind.bits] at wf; omega
theorem manifestGrows_walk (w : World) (hT : TabAt w) (hP : PowAt w) (hE : ErrAt w) (z : Int) (wf : (Lit.int .i64 z).wf = true) :
    Calls Tryz.prog 6 #[.int .i64 z] w fun e w' => e = .returned (.bool true) ∧ Below w.heap.size w w' := manGrows_walk w ⟨hT, hP⟩ hE z (wf_m wf).1 (wf_m wf).2
end Go.Proofs.YtcppaflnhlmcbaaGreatDoor
