/- The walk of the law StreamMarks. -/
import Derived.Test.YtnooloojnhodiaaDoorMStrmB
import Derived.LoopTactic
namespace Go.Proofs.YtnooloojnhodiaaDoor
set_option linter.unusedVariables false
open Go.RowKit
theorem mwf_bd {c : Int} (wf : (Lit.int .i64 c).wf = true) : -9223372036854775808 ≤ c ∧ c ≤ 9223372036854775807 := by
  simp [Lit.wf, IntKind.min, IntKind.max, IntKind.signed, IntKind.bits] at wf; omega
/-- A letter and n marks, as bytes and as characters. -/
def mkT : Nat → List UInt8
  | 0 => []
  | n + 1 => mkT n ++ [204, 129]
def mkP (n : Nat) : List UInt8 := [97] ++ mkT n
def mkL : Nat → List Int
  | 0 => [97]
  | n + 1 => mkL n ++ [769]
theorem mkT_len (n : Nat) : (mkT n).length = 2 * n := by
  induction n with
  | zero => rfl
  | succ n ih => rw [mkT, List.length_append, ih]; simp; omega
theorem mkP_len (n : Nat) : (mkP n).length = 1 + 2 * n := by unfold mkP; rw [List.length_append, mkT_len]; simp
theorem mkP_succ (n : Nat) : mkP (n + 1) = mkP n ++ [204, 129] := by unfold mkP; rw [mkT, List.append_assoc]
theorem mk_write (n : Nat) : writeP (mkL n) = some (mkP n) := by
  induction n with
  | zero => decide +kernel
  | succ n ih => rw [mkL, mkP_succ]; exact wr_app _ _ _ _ ih (by decide +kernel)
theorem mk_one1 : charsP [97] = [97] := by decide +kernel
theorem mk_one2 : charsP [769] = [769] := by decide +kernel
theorem mk_cls1 : classP 97 = 0 := by decide +kernel
theorem mk_cls2 : classP 769 ≠ 0 := by decide +kernel
theorem mk_parts (n : Nat) : partsP (mkL n) = mkL n := by
  induction n with
  | zero => unfold partsP; simp [mkL, mk_one1]
  | succ n ih => rw [mkL, partsP_app, ih]; unfold partsP; simp [mk_one2]
theorem mk_end (n : Nat) : ∃ X y, mkL n = X ++ [y] ∧ (y = 97 ∨ y = 769) := by
  cases n with
  | zero => exact ⟨[], 97, rfl, .inl rfl⟩
  | succ n => exact ⟨mkL n, 769, rfl, .inr rfl⟩
theorem mk_order (n : Nat) : orderP classP (mkL n) = mkL n := by
  induction n with
  | zero => rfl
  | succ n ih =>
    rw [mkL, orderP_snoc, ih]
    obtain ⟨X, y, e, hy⟩ := mk_end n
    rw [e, ins_stay (by
      have h1 := mk_cls1
      rcases hy with rfl | rfl
      · rw [h1]; have := cls_nn 769; omega
      · omega)]
    simp
theorem mk_chars (n : Nat) : charsP (mkL n) = mkL n := by rw [← order_parts, mk_parts, mk_order]
theorem mk_num (n : Nat) : mkN (mkL n) = n := by
  induction n with
  | zero => decide +kernel
  | succ n ih => rw [mkL, mkN_snoc _ _ mk_cls2, ih]
theorem mk_run (n : Nat) (h : n ≤ 30) : runH [] [] (mkL n) = some ([], mkL n) := by
  induction n with
  | zero => decide +kernel
  | succ n ih =>
    rw [mkL, runH_app, ih (by omega)]
    show runH [] (mkL n) [769] = _
    simp only [runH]
    rw [if_neg mk_cls2, if_pos (by rw [mk_num]; omega)]
theorem mk_run' (n : Nat) (h : 31 ≤ n) : runH [] [] (mkL n) = none := by
  obtain ⟨m, rfl⟩ : ∃ m, n = 31 + m := ⟨n - 31, by omega⟩
  clear h
  induction m with
  | zero =>
    rw [show 31 + 0 = 30 + 1 from rfl, mkL, runH_app, mk_run 30 (by omega)]
    show runH [] (mkL 30) [769] = _
    simp only [runH]
    rw [if_neg mk_cls2, if_neg (by rw [mk_num]; omega)]
  | succ m ih =>
    rw [show 31 + (m + 1) = (31 + m) + 1 from rfl, mkL, runH_app, ih]; rfl
theorem mk_dec (n : Nat) : Dec (mkP n) (mkL n) [] := ⟨mkP n, mk_write n, by simp⟩
theorem mk_read (n : Nat) : readP (mkP n) = some (mkL n) := read_write' _ _ (mk_write n)
theorem mk_text (n : Nat) : textP (mkP n) = some (mkP n) := by
  unfold textP; rw [mk_read]
  show writeP (charsP (mkL n)) = _
  rw [mk_chars, mk_write]
theorem mk_good (n : Nat) (h : n ≤ 30) : Good (mkP n) (mkL n) := by
  refine ⟨mk_read n, ?_⟩
  have e := runH_rk (mkL n) [] []
  rw [mk_run n h] at e
  have e0 : mkN [] = 0 := rfl
  rw [e0] at e
  rw [mk_chars]; exact e.symm
/-- A Write behind which n marks stand. -/
theorem mk_step {w w' : World} {b n : Nat} {p out s : List UInt8} {e : Ending} (h : StepRes w b p out s e w') (hp : p ++ s = mkP n) :
    Upd b w w' ∧ ((n ≤ 30 ∧ ∃ v, e = .returned (.tuple #[v, .int .i64 0]) ∧ OpenAt w' b (mkP n) []) ∨ (31 ≤ n ∧ NilRes 2 e ∧ DeadAt w' b 2)) := by
  by_cases hn : n ≤ 30
  · obtain ⟨hU, v, o, h1, h2, h3⟩ := h.ok (x := []) (mk_good n hn) (by rw [hp]; simp)
    rw [hp] at h3
    obtain ⟨e1, -⟩ := open_at h3 (mk_dec n) rfl (by rw [mk_parts]; exact mk_run n hn) (o := []) rfl
    rw [e1] at h3
    exact ⟨hU, .inl ⟨hn, v, h1, h3⟩⟩
  · obtain ⟨hU, h⟩ := h
    rw [hp] at h
    refine ⟨hU, .inr ⟨by omega, ?_⟩⟩
    rcases h with ⟨h1, h2, h3⟩ | ⟨⟨l, r, h1, h2, h3, h4⟩, -⟩ | ⟨v, o, h1, h2, h3⟩
    · exact ⟨h2, h3⟩
    · obtain ⟨-, e⟩ := dec_unique h1 (mk_dec n) h2 rfl
      exact absurd e h3
    · exfalso
      obtain ⟨l, cut, S, H, k1, k2, k3, -⟩ := h3
      obtain ⟨rfl, -⟩ := dec_unique k1 (mk_dec n) k3 rfl
      rw [mk_parts, mk_run' n (by omega)] at k2
      cases k2
def MrkSt (w : World) (b n : Nat) (e : Int) : Prop := (n ≤ 30 ∧ e = 0 ∧ OpenAt w b (mkP n) []) ∨ (31 ≤ n ∧ e = 2 ∧ DeadAt w b 2)
/-- Close at the end. -/
def MrkEnd (w : World) (b n : Nat) (e : Ending) (w' : World) : Prop := Upd b w w' ∧ ∃ a m cap k, e = .returned (.tuple #[.slice a m cap, .int .i64 k]) ∧ ((n ≤ 30 ∧ k = 0 ∧ m = 1 + 2 * n) ∨ (31 ≤ n ∧ k = 2 ∧ m = 0))
theorem mk_close (u w : World) (hE : ErrAt u) (hSp : SpAt u) (hu : Below u.heap.size u w) (b : Nat) (hub : u.heap.size ≤ b) (n : Nat) (e : Int) (h : MrkSt w b n e) :
    Calls Tryd.prog 8 #[.pointer (some ⟨b, 0, none⟩)] w (MrkEnd w b n) := by
  rcases h with ⟨h1, -, h2⟩ | ⟨h1, -, h2⟩
  · refine (close_step u w hE hSp hu b hub _ _ h2).mono ?_
    intro e w' hr
    obtain ⟨hU, v, bs, k1, k2, k3, -⟩ := hr.ok (mk_read n) (mk_text n)
    obtain ⟨a, cap, rfl⟩ := k2.len
    refine ⟨hU, a, _, cap, 0, k1, .inl ⟨h1, rfl, ?_⟩⟩
    have := congrArg List.length k3
    rw [mkP_len] at this
    simpa using this
  · refine (close_dead w b 2 (by decide) h2).mono ?_
    rintro e w' ⟨k1, rfl⟩
    exact ⟨Upd.refl _ _, none, 0, 0, 2, k1, .inr ⟨h1, rfl, rfl⟩⟩
set_option maxHeartbeats 8000000 in
set_option maxRecDepth 100000 in
theorem streamMarks_walk (w : World) (hE : ErrAt w) (hSp : SpAt w) (n : Int) (wn : (Lit.int .i64 n).wf = true) (single : Bool) :
    Calls Tryd.prog 3 #[.int .i64 n, .bool single] w fun e w' => e = .returned (.bool true) ∧ Below w.heap.size w w' := by
  have HES : Hid (ErrAt w ∧ SpAt w) := ⟨hE, hSp⟩
  have HB := Lib.hid (sbegun_any w hE hSp)
  clear hE hSp wn
  by_cases hr : 0 ≤ n ∧ n ≤ 60
  case neg =>
    by_cases h0 : n < 0
    · have h0d : decide (n < 0) = true := decide_eq_true h0
      clear hr
      go_enter Tryd.func3, Tryd.ntmps3
      go_wp2_with fail
      refine HB.out.mono ?_
      rintro e w1 ⟨rfl, hb1⟩
      go_wp2_with fail
      go_ret
      exact ⟨rfl, hb1⟩
    · have h0d : decide (n < 0) = false := decide_eq_false h0
      have h6 : 60 < n := by omega
      have h6d : decide (60 < n) = true := decide_eq_true h6
      clear hr
      go_enter Tryd.func3, Tryd.ntmps3
      go_wp2_with fail
      refine HB.out.mono ?_
      rintro e w1 ⟨rfl, hb1⟩
      go_wp2_with fail
      go_ret
      exact ⟨rfl, hb1⟩
  case pos =>
  obtain ⟨hr0, hr1⟩ := hr
  obtain ⟨k, rfl⟩ := Int.eq_ofNat_of_zero_le hr0
  have hk60 : k ≤ 60 := by omega
  have h0d : ¬ ((k : Int) < 0) := by omega
  have h6d : ¬ (60 < (k : Int)) := by omega
  clear hr0 hr1
  go_enter Tryd.func3, Tryd.ntmps3
  go_wp2_with fail
  refine HB.out.mono ?_
  rintro e w1 ⟨rfl, hb1⟩
  clear HB
  go_wp2_with fail
  refine (new_any w1).mono ?_
  rintro e w2 ⟨rfl, hb2, hz2, hst2⟩
  obtain ⟨b, hbb⟩ : ∃ b, w1.heap.size = b := ⟨_, rfl⟩
  rw [hbb] at hst2 hz2 ⊢
  have HUB : Hid (w.heap.size ≤ b) := Lib.hid (by rw [← hbb]; exact hb1.size)
  have hB2 : Below w.heap.size w w2 := hb1.trans (hb2.mono hb1.size)
  have hal : Below w2.heap.size w2 (w2.alloc (.cells #[.int .u8 97] 5 (1, 2))) := (Below.refl _ _).alloc (Nat.le_refl _) _
  have HB3 : Hid (Below w.heap.size w (w2.alloc (.cells #[.int .u8 97] 5 (1, 2)))) := Lib.hid (hB2.trans (hal.mono hB2.size))
  have HWr := Lib.hid (write_step w (w2.alloc (.cells #[.int .u8 97] 5 (1, 2))) HES.out.1 HES.out.2 HB3.out b HUB.out [] [] ((open_new hst2).below hal) (.slice (some ⟨w2.heap.size, 0, none⟩) 1 1) 0 ⟨#[97]⟩ (lit_by w2 [97] _ _ 1 0 rfl rfl (Nat.zero_le _)) (by show 1 ≤ 10000; omega))
  have hcv := Lib.run_convert_bytes_const (P := Tryd.prog) w2 25 5 #[.int .u8 97] 1 1 Tryd.underlying25 Tryd.underlying5
  clear hb1 hb2 hz2 hst2 hbb hB2 hal
  go_wp2_with fail
  refine HWr.out.mono ?_
  intro e w4 hr
  obtain ⟨hU4, ⟨-, v4, rfl, hop4⟩ | ⟨h31, -⟩⟩ := mk_step (n := 0) hr rfl
  case inr => omega
  have HB4 : Hid (Below w.heap.size w w4) := Lib.hid (hU4.below HB3.out HUB.out HB3.out.size)
  have HS4 := Lib.hid hop4
  clear hr hU4 hop4 HWr hcv HB3
  cases single with
  | true =>
    go_wp2_with fail
    go_loopw [8, 9] (fun ev iv wr => ∃ (i : Nat) (e : Int), ev = .int .i64 e ∧ iv = .int .i64 i ∧ i ≤ k ∧ i ≤ 31 ∧ Below w.heap.size w wr ∧ Hid (MrkSt wr b i e)) (fun _ iv _ => 61 - (intOf iv).toNat)
    case atStart => exact ⟨0, 0, rfl, rfl, Nat.zero_le _, Nat.zero_le _, HB4.out, Lib.hid (.inl ⟨Nat.zero_le _, rfl, HS4.out⟩)⟩
    case round =>
      clear HB4 HS4
      obtain ⟨i, e, rfl, rfl, hi, hi31, hb, HST0⟩ := hrel
      have h0i : (0 : Int) ≤ (i : Int) := by omega
      rcases HST0.out with ⟨g1, rfl, g3⟩ | ⟨g1, rfl, g3⟩
      · by_cases hlt : i < k
        · have hlti : (i : Int) < (k : Int) := by omega
          have hal : Below wr.heap.size wr (wr.alloc (.cells #[.int .u8 204, .int .u8 129] 5 (2, 3))) := (Below.refl _ _).alloc (Nat.le_refl _) _
          have HBA : Hid (Below w.heap.size w (wr.alloc (.cells #[.int .u8 204, .int .u8 129] 5 (2, 3)))) := Lib.hid (hb.trans (hal.mono hb.size))
          have HWr := Lib.hid (write_step w (wr.alloc (.cells #[.int .u8 204, .int .u8 129] 5 (2, 3))) HES.out.1 HES.out.2 HBA.out b HUB.out _ _ (g3.below hal) (.slice (some ⟨wr.heap.size, 0, none⟩) 2 2) 0 ⟨#[204, 129]⟩ (lit_by wr [204, 129] _ _ 2 0 rfl rfl (Nat.zero_le _)) (by show 2 ≤ 10000; omega))
          have hcv := Lib.run_convert_bytes_const (P := Tryd.prog) wr 25 5 #[.int .u8 204, .int .u8 129] 2 2 Tryd.underlying25 Tryd.underlying5
          clear hb hal g3 HST0
          go_wp2_with fail
          refine HWr.out.mono ?_
          intro e wa hr
          obtain ⟨hUa, ⟨h30, va, rfl, hopa⟩ | ⟨h31, rfl, hda⟩⟩ := mk_step (n := i + 1) hr (mkP_succ i).symm
          · have HBa : Hid (Below w.heap.size w wa) := Lib.hid (hUa.below HBA.out HUB.out HBA.out.size)
            have HSa : Hid (MrkSt wa b (i + 1) 0) := Lib.hid (.inl ⟨h30, rfl, hopa⟩)
            clear hr hUa hopa HWr hcv HBA
            go_wp2_with fail
            go_roundw
            case rel => exact ⟨i + 1, 0, rfl, by go_num, hlt, by omega, HBa.out, HSa⟩
            case measure => simp [intOf]; omega
          · have HBa : Hid (Below w.heap.size w wa) := Lib.hid (hUa.below HBA.out HUB.out HBA.out.size)
            have HSa : Hid (MrkSt wa b (i + 1) 2) := Lib.hid (.inr ⟨h31, rfl, hda⟩)
            clear hr hUa hda HWr hcv HBA
            go_wp2_with fail
            go_roundw
            case rel => exact ⟨i + 1, 2, rfl, by go_num, hlt, by omega, HBa.out, HSa⟩
            case measure => simp [intOf]; omega
        · obtain rfl : i = k := by omega
          have hlti : ¬ (i : Int) < (i : Int) := by omega
          have HST : Hid (MrkSt wr b i 0) := HST0
          have HBL := Lib.hid hb
          clear hb HST0 g3
          have HCL := Lib.hid (mk_close w wr HES.out.1 HES.out.2 HBL.out b HUB.out i 0 HST.out)
          go_wp2_with fail
          refine HCL.out.mono ?_
          rintro e w9 ⟨hU9, a9, m9, cap9, k9, rfl, ⟨c1, rfl, c3⟩ | ⟨c1, -, -⟩⟩
          case inr => omega
          have HB9 : Hid (Below w.heap.size w w9) := Lib.hid (hU9.below HBL.out HUB.out HBL.out.size)
          have hEq : ((m9 : Int) == 1 + 2 * (i : Int)) = true := by simp; omega
          have h30 : ¬ (30 < (i : Int)) := by omega
          clear hU9 HCL c3
          go_wp2_with fail
          go_ret
          exact ⟨rfl, HB9.out⟩
      · have HST : Hid (MrkSt wr b k 2) := Lib.hid (.inr ⟨by omega, rfl, g3⟩)
        have HBL := Lib.hid hb
        have hk31 : 31 ≤ k := by omega
        clear hb HST0 g3
        by_cases hlt : i < k
        · have hlti : (i : Int) < (k : Int) := by omega
          have HCL := Lib.hid (mk_close w wr HES.out.1 HES.out.2 HBL.out b HUB.out k 2 HST.out)
          go_wp2_with fail
          refine HCL.out.mono ?_
          rintro e w9 ⟨hU9, a9, m9, cap9, k9, rfl, ⟨c1, -, -⟩ | ⟨c1, rfl, rfl⟩⟩
          case inl => omega
          have HB9 : Hid (Below w.heap.size w w9) := Lib.hid (hU9.below HBL.out HUB.out HBL.out.size)
          have h30 : 30 < (k : Int) := by omega
          clear hU9 HCL
          go_wp2_with fail
          go_ret
          exact ⟨rfl, HB9.out⟩
        · have hlti : ¬ (i : Int) < (k : Int) := by omega
          have HCL := Lib.hid (mk_close w wr HES.out.1 HES.out.2 HBL.out b HUB.out k 2 HST.out)
          go_wp2_with fail
          refine HCL.out.mono ?_
          rintro e w9 ⟨hU9, a9, m9, cap9, k9, rfl, ⟨c1, -, -⟩ | ⟨c1, rfl, rfl⟩⟩
          case inl => omega
          have HB9 : Hid (Below w.heap.size w w9) := Lib.hid (hU9.below HBL.out HUB.out HBL.out.size)
          have h30 : 30 < (k : Int) := by omega
          clear hU9 HCL
          go_wp2_with fail
          go_ret
          exact ⟨rfl, HB9.out⟩
  | false =>
    go_wp2_with fail
    go_loop [10, 11] (fun tv iv => ∃ (i : Nat) (tb : ByteArray), tv = .string tb ∧ iv = .int .i64 i ∧ i ≤ k ∧ tb.size ≤ 2 * i ∧ Hid (tb.data.toList = mkT i)) (fun _ iv => 61 - (intOf iv).toNat)
    case atStart => exact ⟨0, ⟨#[]⟩, rfl, rfl, Nat.zero_le _, Nat.le_refl _, Lib.hid rfl⟩
    case round =>
      obtain ⟨i, tb, rfl, rfl, hi, htb, HTB⟩ := hrel
      have h0i : (0 : Int) ≤ (i : Int) := by omega
      by_cases hlt : i < k
      · have hlti : (i : Int) < (k : Int) := by omega
        have hsum : tb.size + 2 ≤ 9223372036854775807 := by omega
        have HNX : Hid ((tb ++ ⟨#[204, 129]⟩).data.toList = mkT (i + 1)) := Lib.hid (by rw [mkT, ← HTB.out]; simp)
        go_wp2_with fail
        go_round
        case rel => exact ⟨i + 1, tb ++ ⟨#[204, 129]⟩, rfl, by go_num, hlt, by rw [ByteArray.size_append]; show tb.size + 2 ≤ _; omega, HNX⟩
        case measure => simp [intOf]; omega
      · obtain rfl : i = k := by omega
        have hlti : ¬ (i : Int) < (i : Int) := by omega
        have hcv := Lib.run_convert_string_bytes (P := Tryd.prog) w4 9 25 5 tb (u := .string) Tryd.underlying9 Tryd.underlying25 Tryd.underlying5
        have hbcv := below_conv w4 5 tb
        have hby := conv_new_by w4 tb (Nat.zero_le _)
        obtain ⟨w7, e7⟩ : ∃ w7, Lib.bytesWorld w4 5 tb = w7 := ⟨_, rfl⟩
        obtain ⟨v7, ev7⟩ : ∃ v7, Value.slice (some ⟨w4.heap.size, 0, none⟩) tb.size (grownCap w4 tb.size 0 5) = v7 := ⟨_, rfl⟩
        rw [e7, ev7] at hcv hby
        rw [e7] at hbcv
        have HB7 : Hid (Below w.heap.size w w7) := Lib.hid (HB4.out.trans (hbcv.mono HB4.out.size))
        have HWr := Lib.hid (write_step w w7 HES.out.1 HES.out.2 HB7.out b HUB.out _ _ (HS4.out.below hbcv) v7 0 tb hby (by omega))
        clear e7 ev7 hbcv hby HB4 HS4
        go_wp2_with fail
        refine HWr.out.mono ?_
        intro e wa hr
        obtain ⟨hUa, ⟨h30, va, rfl, hopa⟩ | ⟨h31, rfl, hda⟩⟩ := mk_step (n := i) hr (by rw [HTB.out]; unfold mkP; rw [mkT, List.append_nil])
        · have HBL : Hid (Below w.heap.size w wa) := Lib.hid (hUa.below HB7.out HUB.out HB7.out.size)
          have HST : Hid (MrkSt wa b i 0) := Lib.hid (.inl ⟨h30, rfl, hopa⟩)
          clear hr hUa hopa HWr hcv HB7
          have HCL := Lib.hid (mk_close w wa HES.out.1 HES.out.2 HBL.out b HUB.out i 0 HST.out)
          go_wp2_with fail
          refine HCL.out.mono ?_
          rintro e w9 ⟨hU9, a9, m9, cap9, k9, rfl, ⟨c1, rfl, c3⟩ | ⟨c1, -, -⟩⟩
          case inr => omega
          have HB9 : Hid (Below w.heap.size w w9) := Lib.hid (hU9.below HBL.out HUB.out HBL.out.size)
          have hEq : ((m9 : Int) == 1 + 2 * (i : Int)) = true := by simp; omega
          have h30 : ¬ (30 < (i : Int)) := by omega
          clear hU9 HCL c3
          go_wp2_with fail
          go_ret
          exact ⟨rfl, HB9.out⟩
        · have HBL : Hid (Below w.heap.size w wa) := Lib.hid (hUa.below HB7.out HUB.out HB7.out.size)
          have HST : Hid (MrkSt wa b i 2) := Lib.hid (.inr ⟨h31, rfl, hda⟩)
          clear hr hUa hda HWr hcv HB7
          have HCL := Lib.hid (mk_close w wa HES.out.1 HES.out.2 HBL.out b HUB.out i 2 HST.out)
          go_wp2_with fail
          refine HCL.out.mono ?_
          rintro e w9 ⟨hU9, a9, m9, cap9, k9, rfl, ⟨c1, -, -⟩ | ⟨c1, rfl, rfl⟩⟩
          case inl => omega
          have HB9 : Hid (Below w.heap.size w w9) := Lib.hid (hU9.below HBL.out HUB.out HBL.out.size)
          have h30 : 30 < (i : Int) := by omega
          clear hU9 HCL
          go_wp2_with fail
          go_ret
          exact ⟨rfl, HB9.out⟩
end Go.Proofs.YtnooloojnhodiaaDoor
