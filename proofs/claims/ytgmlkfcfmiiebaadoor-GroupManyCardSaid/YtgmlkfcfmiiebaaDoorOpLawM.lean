/- The walk of the law GroupMany. -/
import Derived.Test.YtgmlkfcfmiiebaaDoorMOp
import Derived.Test.YtgmlkfcfmiiebaaDoorMKey
import Derived.Test.YtgmlkfcfmiiebaaDoorMNormB
import Derived.Test.YtgmlkfcfmiiebaaDoorMBase
import Derived.Deep.RegionHeld3
namespace Go.Proofs.YtgmlkfcfmiiebaaDoor
set_option linter.unusedVariables false
open Go.RowKit
/-- n zeros, as a text. -/
def zrs (n : Nat) : ByteArray := ⟨(List.replicate n (0 : UInt8)).toArray⟩
theorem zrs_size (n : Nat) : (zrs n).size = n := by show (List.replicate n (0 : UInt8)).toArray.size = n; simp
theorem zrs_list (n : Nat) : (zrs n).data.toList = List.replicate n 0 := rfl
theorem zrs_key {n : Nat} (h1 : 1 ≤ n) (h2 : n ≤ 4096) : keyP (zrs n).data.toList ≠ none := by
  rw [keyP_text (by rw [zrs_size]; omega) (by rw [zrs_size]; omega), zrs_list, text_plain]
  · simp
  · intro b hb
    rw [List.eq_of_mem_replicate hb]; decide
/-- 'string(make([]byte, n))'. -/
theorem zrs_conv (w W : World) (K : Nat) (hK : K ≤ 1000000000000) (hW : Below (w.heap.size + 1) (w.alloc (.cells (madeCells #[.int .u8 0] K) 5)) W) :
    (convert 28 9 (.slice (some ⟨w.heap.size, 0, none⟩) K K)).run Tryd.prog W = .ok (.string (zrs K)) W :=
  (((mkB_own w K hK).rd).below (by rw [World.size_alloc]; exact hW)).text
theorem zrs_at {w wa : World} {K : Nat} (h : w.alloc (.cells (madeCells #[.int .u8 0] K) 5) = wa) (W : World) (hK : K ≤ 1000000000000) (hW : Below wa.heap.size wa W) :
    (convert 28 9 (.slice (some ⟨w.heap.size, 0, none⟩) K K)).run Tryd.prog W = .ok (.string (zrs K)) W := by
  subst h
  rw [World.size_alloc] at hW
  exact zrs_conv w W K hK hW
def kO : Opn := ⟨1, ⟨#[107]⟩, ⟨#[]⟩⟩
theorem kO_ok : opErr kO = 0 := by decide +kernel
theorem many_chk (n : Nat) : checkP (List.replicate n kO) = if n < 1 ∨ 50 < n then 12 else 0 := by
  unfold checkP
  rw [List.length_replicate, firstErr_of fun o ho => by rw [List.eq_of_mem_replicate ho]; exact kO_ok]
def bigO (k v : Nat) : Opn := ⟨1, zrs k, zrs (1048571 + v)⟩
theorem big_chk (k v : Nat) : checkP [bigO k v] = if k < 1 ∨ 4096 < k then 1 else if 5 < v then 2 else 0 := by
  have h0 : checkP [bigO k v] = opErr (bigO k v) := by
    unfold checkP
    rw [if_neg (by simp), firstErr]
    split
    · rename_i h; rw [h]; rfl
    · rfl
  rw [h0]
  unfold opErr
  rw [if_neg (by rintro ⟨h, -⟩; exact h rfl)]
  by_cases hk : k < 1 ∨ 4096 < k
  · rw [if_pos hk, if_pos]
    rcases hk with h | h
    · exact keyP_nil (by show ¬ 0 < (zrs k).size; rw [zrs_size]; omega)
    · exact keyP_long (by show 4096 < (zrs k).size; rw [zrs_size]; exact h)
  · show (if keyP (zrs k).data.toList = none then (1 : Int) else if 1048576 < (zrs (1048571 + v)).size then 2 else 0) = _
    rw [if_neg hk, if_neg (zrs_key (by omega) (by omega)), zrs_size]
    by_cases hv : 5 < v
    · rw [if_pos hv, if_pos (by omega)]
    · rw [if_neg hv, if_neg (by omega)]
set_option maxHeartbeats 8000000 in
set_option maxRecDepth 100000 in
theorem groupMany_walk (w : World) (hE : ErrAt w) (hSp : SpAt w) (n : Int) (hn : (Lit.int .i64 n).wf = true) (key : Int) (hk : (Lit.int .i64 key).wf = true) (val : Int) (hv : (Lit.int .i64 val).wf = true) :
    Calls Tryd.prog 3 #[.int .i64 n, .int .i64 key, .int .i64 val] w fun e w' => e = .returned (.bool true) ∧ Below w.heap.size w w' := by
  have HBG := Lib.hid (obegun_any w hE hSp)
  have HES : Hid (∀ w', Below w.heap.size w w' → ErrAt w' ∧ SpAt w') := Lib.hid fun w' hb => ⟨hE.below hb, hSp.below hb hSp.1⟩
  clear hE hSp hn hk hv
  go_enter Tryd.func3, Tryd.ntmps3
  go_wp2_with fail
  refine HBG.out.mono ?_
  rintro e w1 ⟨rfl, b1⟩
  have HB1 := Lib.hid b1
  clear b1 HBG
  go_upto_region 4 with fail
  go_cut [38] (fun l wx => ∃ q : Bool, l = .bool q ∧ w1 = wx ∧ Hid (q = false → 0 ≤ n ∧ n ≤ 60 ∧ 0 ≤ key ∧ key ≤ 4200 ∧ 0 ≤ val ∧ val ≤ 10))
  case first =>
    by_cases h1 : n < 0
    · go_wp2_with fail
      go_meet
      exact ⟨true, rfl, rfl, Lib.hid fun h => by cases h⟩
    by_cases h2 : 60 < n
    · go_wp2_with fail
      go_meet
      exact ⟨true, rfl, rfl, Lib.hid fun h => by cases h⟩
    by_cases h3 : key < 0
    · go_wp2_with fail
      go_meet
      exact ⟨true, rfl, rfl, Lib.hid fun h => by cases h⟩
    by_cases h4 : 4200 < key
    · go_wp2_with fail
      go_meet
      exact ⟨true, rfl, rfl, Lib.hid fun h => by cases h⟩
    by_cases h5 : val < 0
    · go_wp2_with fail
      go_meet
      exact ⟨true, rfl, rfl, Lib.hid fun h => by cases h⟩
    by_cases h6 : 10 < val
    · go_wp2_with fail
      go_meet
      exact ⟨true, rfl, rfl, Lib.hid fun h => by cases h⟩
    · go_wp2_with fail
      go_meet
      exact ⟨false, rfl, rfl, Lib.hid fun _ => by omega⟩
  case rest =>
  obtain ⟨q, rfl, rfl, HQ⟩ := hcut
  cases q with
  | true =>
    go_wp2_with fail
    go_ret
    exact ⟨rfl, HB1.out⟩
  | false =>
  obtain ⟨hn0, hn60, hk0, hk42, hv0, hv10⟩ := HQ.out rfl
  clear HQ
  obtain ⟨NN, rfl⟩ := Int.eq_ofNat_of_zero_le hn0
  obtain ⟨KN, rfl⟩ := Int.eq_ofNat_of_zero_le hk0
  obtain ⟨VN, rfl⟩ := Int.eq_ofNat_of_zero_le hv0
  obtain ⟨EM, hEM⟩ : ∃ E, checkP (List.replicate NN kO) = E := ⟨_, rfl⟩
  have HEM := Lib.hid hEM
  obtain ⟨F, hF⟩ : ∃ F, checkP [bigO KN VN] = F := ⟨_, rfl⟩
  have HF := Lib.hid hF
  obtain ⟨MN, hMN⟩ : ∃ M, 1048571 + VN = M := ⟨_, rfl⟩
  have hmb : MN ≤ 1048581 := by omega
  have HBC : Hid (∀ W, Below w.heap.size w W → Calls Tryd.prog 5 #[.slice (some ⟨W.heap.size, 0, none⟩) 1 1] (W.alloc (.cells #[.int .i64 1, .string (zrs KN), .string (zrs MN)] 25)) fun e w' => e = .returned (.int .i64 F) ∧ Below (W.alloc (.cells #[.int .i64 1, .string (zrs KN), .string (zrs MN)] 25)).heap.size (W.alloc (.cells #[.int .i64 1, .string (zrs KN), .string (zrs MN)] 25)) w') := Lib.hid fun W hW => by
    have hal : Below w.heap.size w (W.alloc (.cells #[.int .i64 1, .string (zrs KN), .string (zrs MN)] 25)) := hW.alloc hW.size _
    have := check_any (.slice (some ⟨W.heap.size, 0, none⟩) 1 1) [bigO KN VN] (fun o ho => by
      obtain rfl := List.mem_singleton.1 ho
      constructor
      · show (zrs KN).size ≤ _
        rw [zrs_size]; unfold maxLen; omega
      · show (zrs (1048571 + VN)).size ≤ _
        rw [zrs_size]; unfold maxLen; omega) (by simp) (W.alloc (.cells #[.int .i64 1, .string (zrs KN), .string (zrs MN)] 25)) (by rw [← hMN]; exact rdO_one W (bigO KN VN)) (HES.out _ hal).1 (HES.out _ hal).2
    rwa [hF] at this
  have hmk : ∀ W, (Instr.makeSlice 28 (.int .i64 (KN : Int)) (.int .i64 (KN : Int))).run Tryd.prog W = .ok (.slice (some ⟨W.heap.size, 0, none⟩) KN KN) (W.alloc (.cells (madeCells #[.int .u8 0] KN) 5)) := fun W => mkB_run KN (by omega) W
  have hmk2 : ∀ W, (Instr.makeSlice 28 (.int .i64 (1048571 + (VN : Int))) (.int .i64 (1048571 + (VN : Int)))).run Tryd.prog W = .ok (.slice (some ⟨W.heap.size, 0, none⟩) MN MN) (W.alloc (.cells (madeCells #[.int .u8 0] MN) 5)) := fun W => by
    have := mkB_run MN (by omega) W
    rwa [show (MN : Int) = 1048571 + (VN : Int) by omega] at this
  have HMK := Lib.hid hmk
  have HMK2 := Lib.hid hmk2
  have HMN := Lib.hid hMN
  clear hEM hF hmk hmk2 hMN
  go_wp2_with fail
  go_loopg [8, 9] NN (fun kk vo vi wr => ∃ (i m c : Nat) (ao : Option Addr), vo = .slice ao m c ∧ vi = .int .i64 i ∧ i ≤ NN ∧ NN - i ≤ kk ∧ m = i ∧ Hid (OwnK encOp 3 25 w.heap.size wr (.slice ao m c) (List.replicate i kO)) ∧ Hid (Below w.heap.size w wr))
  case atStart => exact ⟨0, 0, 0, none, rfl, rfl, by omega, by omega, rfl, Lib.hid (OwnK.nil _ _ _ _ _), HB1⟩
  case round =>
    clear HB1
    obtain ⟨i, m, c, ao, rfl, rfl, hi, hik, rfl, HO, HB⟩ := hrel
    by_cases h1 : m < NN
    · have hd1 : (m : Int) < (NN : Int) := by omega
      go_wp2_with (at_builtin; refine wp_appHK elem_op encOp_len _ _ (by rfl) (by rfl) (by rfl) HO.out kO _ (by rfl) (by rfl) ?c1 ?c2 ?c3 HB.out.size ?_)
      case c1 => exact op_cells _
      case c2 => rw [List.length_replicate]; omega
      case c3 => rw [List.length_replicate]; unfold maxLen; omega
      intro v3 w3 o3 b3
      rw [← List.replicate_succ'] at o3
      obtain ⟨a3, n3, c3, rfl, hn3, -⟩ := o3.len3
      rw [List.length_replicate] at hn3
      have HO3 := Lib.hid o3
      have HB3 := Lib.hid (HB.out.trans b3)
      clear o3 b3 HO HB
      go_wp2_with fail
      go_roundg (NN - (m + 1))
      case measure => omega
      case rel => exact ⟨m + 1, n3, c3, a3, rfl, by go_num, by omega, Nat.le_refl _, hn3, HO3, HB3⟩
    · have hd1 : ¬ (m : Int) < (NN : Int) := by omega
      obtain rfl : m = NN := by omega
      have HC := Lib.hid (check_any (.slice ao m c) (List.replicate m kO) (fun o ho => by rw [List.eq_of_mem_replicate ho]; constructor <;> decide) (by rw [List.length_replicate]; omega) wr (HO.out.rd encOp_len) (HES.out _ HB.out).1 (HES.out _ HB.out).2)
      rw [HEM.out] at HC
      go_wp2_with fail
      refine HC.out.mono ?_
      rintro e w2 ⟨rfl, b2⟩
      have HB2 := Lib.hid (HB.out.trans (b2.mono HB.out.size))
      clear b2 HC HO HB
      go_upto_region 12 with fail
      have hmk := HMK.out
      have hmk2 := HMK2.out
      have hwr : IntKind.i64.wrap (1048571 + (VN : Int)) = 1048571 + (VN : Int) := IntWalk.i64_in _ (by omega)
      go_cut [11] (fun v wx => v = .int .i64 F ∧ Hid (Below w.heap.size w wx))
      case first =>
        refine wp_region_held_drew (S := Below w2.heap.size w2) (by kernel_rfl) (Below.refl _ _).drew (fun hHeld => ?_)
        generalize w2.drew = wd at hHeld ⊢
        refine wpAnyH_shift hHeld ?_
        have HB3 := Lib.hid (HB2.out.trans (hHeld.mono HB2.out.size))
        clear hHeld HB2
        refine takeYes (i := 0) (k := 50) (v := .int .i64 (KN : Int)) rfl (by kernel_rfl) (by kernel_rfl) (by kernel_rfl) (by kernel_rfl) (fun _ _ _ h => h) (by kernel_rfl) ?_ (Below.refl _ _) ?_
        · intro W hSw; first | (go_simp; done) | go_simp
        try simp only [Act.put, List.setIfInBounds_toArray, List.set_cons_zero, List.set_cons_succ]
        refine takeYes (i := 3) (k := 53) (v := .int .i64 (VN : Int)) rfl (by kernel_rfl) (by kernel_rfl) (by kernel_rfl) (by kernel_rfl) (fun _ _ _ h => h) (by kernel_rfl) ?_ (Below.refl _ _) ?_
        · intro W hSw; first | (go_simp; done) | go_simp
        try simp only [Act.put, List.setIfInBounds_toArray, List.set_cons_zero, List.set_cons_succ]
        refine takeYes (i := 4) (k := 54) (v := .int .i64 (1048571 + (VN : Int))) rfl (by kernel_rfl) (by kernel_rfl) (by kernel_rfl) (by kernel_rfl) (fun _ _ _ h => h) (by kernel_rfl) ?_ (Below.refl _ _) ?_
        · intro W hSw; first | (go_simp; done) | go_simp
        try simp only [Act.put, List.setIfInBounds_toArray, List.set_cons_zero, List.set_cons_succ]
        refine wpAnyH_ready (rs := [1, 5]) (by kernel_rfl) (by simp) (AllReadyH.cons rfl (fun K hK => ?_) (AllReadyH.cons rfl (fun K hK => ?_) AllReadyH.nil))
        · go_simp
          obtain ⟨wa, hwa⟩ : ∃ x, wd.alloc (.cells (madeCells #[.int .u8 0] KN) 5) = x := ⟨_, rfl⟩
          rw [hwa]
          have hb1 : Below wd.heap.size wd wa := by rw [← hwa]; exact (Below.refl _ _).alloc (Nat.le_refl _) _
          have HZ1 : Hid (∀ W, Below wa.heap.size wa W → (convert 28 9 (.slice (some ⟨wd.heap.size, 0, none⟩) KN KN)).run Tryd.prog W = .ok (.string (zrs KN)) W) := Lib.hid fun W hW => zrs_at hwa W (by omega) hW
          clear hwa
          refine hK.out _ _ hb1 (fun _ => wpAnyH_shift hb1 ?_)
          clear hK K
          try simp only [Act.put, List.setIfInBounds_toArray, List.set_cons_zero, List.set_cons_succ]
          refine takeYes (i := 2) (k := 52) (v := .string (zrs KN)) rfl (by kernel_rfl) (by kernel_rfl) (by kernel_rfl) (by kernel_rfl) (fun _ _ _ h => h) (by kernel_rfl) ?_ (Below.refl _ _) ?_
          · intro W hSw; have hcv := HZ1.out W hSw; first | (go_simp; done) | go_simp
          try simp only [Act.put, List.setIfInBounds_toArray, List.set_cons_zero, List.set_cons_succ]
          refine wpAnyH_ready (rs := [5]) (by kernel_rfl) (by simp) (AllReadyH.cons rfl (fun K hK => ?_) AllReadyH.nil)
          go_simp
          obtain ⟨wb, hwb⟩ : ∃ x, wa.alloc (.cells (madeCells #[.int .u8 0] MN) 5) = x := ⟨_, rfl⟩
          rw [hwb]
          have hb2 : Below wa.heap.size wa wb := by rw [← hwb]; exact (Below.refl _ _).alloc (Nat.le_refl _) _
          have HZ2 : Hid (∀ W, Below wb.heap.size wb W → (convert 28 9 (.slice (some ⟨wa.heap.size, 0, none⟩) MN MN)).run Tryd.prog W = .ok (.string (zrs MN)) W) := Lib.hid fun W hW => zrs_at hwb W (by omega) hW
          clear hwb
          refine hK.out _ _ hb2 (fun _ => wpAnyH_shift hb2 ?_)
          clear hK K
          try simp only [Act.put, List.setIfInBounds_toArray, List.set_cons_zero, List.set_cons_succ]
          refine takeYes (i := 6) (k := 56) (v := .string (zrs MN)) rfl (by kernel_rfl) (by kernel_rfl) (by kernel_rfl) (by kernel_rfl) (fun _ _ _ h => h) (by kernel_rfl) ?_ (Below.refl _ _) ?_
          · intro W hSw; have hcv := HZ2.out W hSw; first | (go_simp; done) | go_simp
          try simp only [Act.put, List.setIfInBounds_toArray, List.set_cons_zero, List.set_cons_succ]
          have HB5 := Lib.hid ((HB3.out.trans (hb1.mono HB3.out.size)).trans (hb2.mono (Nat.le_trans HB3.out.size hb1.size)))
          clear HZ1 HZ2 hb1 hb2 HB3
          refine takeYes (i := 7) (k := 57) (v := .agg #[.int .i64 1, .string (zrs KN), .string (zrs MN)]) rfl (by kernel_rfl) (by kernel_rfl) (by kernel_rfl) (by kernel_rfl) (fun _ _ _ h => h) (by kernel_rfl) ?_ (Below.refl _ _) ?_
          · intro W hSw; first | (go_simp; done) | go_simp
          try simp only [Act.put, List.setIfInBounds_toArray, List.set_cons_zero, List.set_cons_succ]
          refine wpAnyH_ready (rs := [8]) (by kernel_rfl) (by simp) (AllReadyH.cons rfl (fun K hK => ?_) AllReadyH.nil)
          go_simp
          have hb8 : Below wb.heap.size wb (wb.alloc (.cells #[.int .i64 1, .string (zrs KN), .string (zrs MN)] 25)) := (Below.refl _ _).alloc (Nat.le_refl _) _
          have HCK := Lib.hid (HBC.out wb HB5.out)
          have HB6 := Lib.hid (HB5.out.trans (hb8.mono HB5.out.size))
          refine hK.out _ _ hb8 (fun _ => wpAnyH_shift hb8 ?_)
          clear hK K
          try simp only [Act.put, List.setIfInBounds_toArray, List.set_cons_zero, List.set_cons_succ]
          refine wpAnyH_ready (rs := [9]) (by kernel_rfl) (by simp) (AllReadyH.cons rfl (fun K hK => ?_) AllReadyH.nil)
          go_simp
          refine HCK.out.mono ?_
          rintro e wc ⟨rfl, hb9⟩
          have HB7 := Lib.hid (HB6.out.trans (hb9.mono HB6.out.size))
          refine hK.out _ _ hb9 (fun _ => wpAnyH_shift hb9 ?_)
          clear hK K
          try simp only [Act.put, List.setIfInBounds_toArray, List.set_cons_zero, List.set_cons_succ]
          refine takeYes (i := 10) (k := 11) (v := .int .i64 F) rfl (by kernel_rfl) (by kernel_rfl) (by kernel_rfl) (by kernel_rfl) (fun _ _ _ h => h) (by kernel_rfl) ?_ (Below.refl _ _) ?_
          · intro W hSw; first | (go_simp; done) | go_simp
          try simp only [Act.put, List.setIfInBounds_toArray, List.set_cons_zero, List.set_cons_succ]
          refine wpAnyH_done (by kernel_rfl) ?_ _
          go_wp2_with fail
          go_meet
          exact ⟨rfl, HB7⟩
        · go_simp
          obtain ⟨wa, hwa⟩ : ∃ x, wd.alloc (.cells (madeCells #[.int .u8 0] MN) 5) = x := ⟨_, rfl⟩
          rw [hwa]
          have hb1 : Below wd.heap.size wd wa := by rw [← hwa]; exact (Below.refl _ _).alloc (Nat.le_refl _) _
          have HZ2 : Hid (∀ W, Below wa.heap.size wa W → (convert 28 9 (.slice (some ⟨wd.heap.size, 0, none⟩) MN MN)).run Tryd.prog W = .ok (.string (zrs MN)) W) := Lib.hid fun W hW => zrs_at hwa W (by omega) hW
          clear hwa
          refine hK.out _ _ hb1 (fun _ => wpAnyH_shift hb1 ?_)
          clear hK K
          try simp only [Act.put, List.setIfInBounds_toArray, List.set_cons_zero, List.set_cons_succ]
          refine takeYes (i := 6) (k := 56) (v := .string (zrs MN)) rfl (by kernel_rfl) (by kernel_rfl) (by kernel_rfl) (by kernel_rfl) (fun _ _ _ h => h) (by kernel_rfl) ?_ (Below.refl _ _) ?_
          · intro W hSw; have hcv := HZ2.out W hSw; first | (go_simp; done) | go_simp
          try simp only [Act.put, List.setIfInBounds_toArray, List.set_cons_zero, List.set_cons_succ]
          refine wpAnyH_ready (rs := [1]) (by kernel_rfl) (by simp) (AllReadyH.cons rfl (fun K hK => ?_) AllReadyH.nil)
          go_simp
          obtain ⟨wb, hwb⟩ : ∃ x, wa.alloc (.cells (madeCells #[.int .u8 0] KN) 5) = x := ⟨_, rfl⟩
          rw [hwb]
          have hb2 : Below wa.heap.size wa wb := by rw [← hwb]; exact (Below.refl _ _).alloc (Nat.le_refl _) _
          have HZ1 : Hid (∀ W, Below wb.heap.size wb W → (convert 28 9 (.slice (some ⟨wa.heap.size, 0, none⟩) KN KN)).run Tryd.prog W = .ok (.string (zrs KN)) W) := Lib.hid fun W hW => zrs_at hwb W (by omega) hW
          clear hwb
          refine hK.out _ _ hb2 (fun _ => wpAnyH_shift hb2 ?_)
          clear hK K
          try simp only [Act.put, List.setIfInBounds_toArray, List.set_cons_zero, List.set_cons_succ]
          refine takeYes (i := 2) (k := 52) (v := .string (zrs KN)) rfl (by kernel_rfl) (by kernel_rfl) (by kernel_rfl) (by kernel_rfl) (fun _ _ _ h => h) (by kernel_rfl) ?_ (Below.refl _ _) ?_
          · intro W hSw; have hcv := HZ1.out W hSw; first | (go_simp; done) | go_simp
          try simp only [Act.put, List.setIfInBounds_toArray, List.set_cons_zero, List.set_cons_succ]
          have HB5 := Lib.hid ((HB3.out.trans (hb1.mono HB3.out.size)).trans (hb2.mono (Nat.le_trans HB3.out.size hb1.size)))
          clear HZ1 HZ2 hb1 hb2 HB3
          refine takeYes (i := 7) (k := 57) (v := .agg #[.int .i64 1, .string (zrs KN), .string (zrs MN)]) rfl (by kernel_rfl) (by kernel_rfl) (by kernel_rfl) (by kernel_rfl) (fun _ _ _ h => h) (by kernel_rfl) ?_ (Below.refl _ _) ?_
          · intro W hSw; first | (go_simp; done) | go_simp
          try simp only [Act.put, List.setIfInBounds_toArray, List.set_cons_zero, List.set_cons_succ]
          refine wpAnyH_ready (rs := [8]) (by kernel_rfl) (by simp) (AllReadyH.cons rfl (fun K hK => ?_) AllReadyH.nil)
          go_simp
          have hb8 : Below wb.heap.size wb (wb.alloc (.cells #[.int .i64 1, .string (zrs KN), .string (zrs MN)] 25)) := (Below.refl _ _).alloc (Nat.le_refl _) _
          have HCK := Lib.hid (HBC.out wb HB5.out)
          have HB6 := Lib.hid (HB5.out.trans (hb8.mono HB5.out.size))
          refine hK.out _ _ hb8 (fun _ => wpAnyH_shift hb8 ?_)
          clear hK K
          try simp only [Act.put, List.setIfInBounds_toArray, List.set_cons_zero, List.set_cons_succ]
          refine wpAnyH_ready (rs := [9]) (by kernel_rfl) (by simp) (AllReadyH.cons rfl (fun K hK => ?_) AllReadyH.nil)
          go_simp
          refine HCK.out.mono ?_
          rintro e wc ⟨rfl, hb9⟩
          have HB7 := Lib.hid (HB6.out.trans (hb9.mono HB6.out.size))
          refine hK.out _ _ hb9 (fun _ => wpAnyH_shift hb9 ?_)
          clear hK K
          try simp only [Act.put, List.setIfInBounds_toArray, List.set_cons_zero, List.set_cons_succ]
          refine takeYes (i := 10) (k := 11) (v := .int .i64 F) rfl (by kernel_rfl) (by kernel_rfl) (by kernel_rfl) (by kernel_rfl) (fun _ _ _ h => h) (by kernel_rfl) ?_ (Below.refl _ _) ?_
          · intro W hSw; first | (go_simp; done) | go_simp
          try simp only [Act.put, List.setIfInBounds_toArray, List.set_cons_zero, List.set_cons_succ]
          refine wpAnyH_done (by kernel_rfl) ?_ _
          go_wp2_with fail
          go_meet
          exact ⟨rfl, HB7⟩
      case rest =>
      obtain ⟨rfl, HB3⟩ := hcut
      have HEV : Hid (EM = if m < 1 ∨ 50 < m then 12 else 0) := Lib.hid (HEM.out.symm.trans (many_chk m))
      have HFV : Hid (F = if KN < 1 ∨ 4096 < KN then 1 else if 5 < VN then 2 else 0) := Lib.hid (HF.out.symm.trans (big_chk KN VN))
      obtain ⟨G, hG⟩ : ∃ G : Int, (if 5 < VN then (2 : Int) else 0) = G := ⟨_, rfl⟩
      have HGV := Lib.hid hG
      clear HB2 hG HEM HF HBC HMK HMK2 HMN hmk hmk2 hwr HES
      go_upto_region 14 with fail
      go_cut [65] (fun v wx => ∃ q : Bool, v = .bool q ∧ wc = wx ∧ Hid (q = true ↔ (m < 1 ∨ 50 < m)))
      case first =>
        by_cases hm1 : m < 1
        · have hd1 : (m : Int) < 1 := by omega
          go_wp2_with fail
          go_meet
          exact ⟨true, rfl, rfl, Lib.hid (by simp; omega)⟩
        · have hd1 : ¬ (m : Int) < 1 := by omega
          by_cases hm2 : 50 < m
          · have hd2 : (50 : Int) < (m : Int) := by omega
            go_wp2_with fail
            go_meet
            exact ⟨true, rfl, rfl, Lib.hid (by simp; omega)⟩
          · have hd2 : ¬ (50 : Int) < (m : Int) := by omega
            go_wp2_with fail
            go_meet
            exact ⟨false, rfl, rfl, Lib.hid (by simp; omega)⟩
      case rest =>
      obtain ⟨q, rfl, rfl, HQ⟩ := hcut
      go_upto_if 65 with fail
      go_cut [12] (fun v wx => v = .int .i64 EM ∧ wc = wx)
      case first =>
        cases q with
        | true =>
          have HE : Hid (EM = 12) := Lib.hid (by rw [HEV.out, if_pos (HQ.out.1 rfl)])
          go_wp2_with fail
          go_meet
          exact ⟨by rw [HE.out], rfl⟩
        | false =>
          have HE : Hid (EM = 0) := Lib.hid (by rw [HEV.out, if_neg (fun h => by cases HQ.out.2 h)])
          go_wp2_with fail
          go_meet
          exact ⟨by rw [HE.out], rfl⟩
      case rest =>
      obtain ⟨rfl, rfl⟩ := hcut
      clear HQ HEV
      go_upto_if 67 with fail
      go_cut [13] (fun v wx => v = .int .i64 G ∧ wc = wx)
      case first =>
        by_cases hv5 : 5 < VN
        · have hd1 : (5 : Int) < (VN : Int) := by omega
          go_wp2_with fail
          go_meet
          exact ⟨by rw [← HGV.out, if_pos hv5], rfl⟩
        · have hd1 : ¬ (5 : Int) < (VN : Int) := by omega
          go_wp2_with fail
          go_meet
          exact ⟨by rw [← HGV.out, if_neg hv5], rfl⟩
      case rest =>
      obtain ⟨rfl, rfl⟩ := hcut
      go_upto_region 19 with fail
      go_cut [73] (fun v wx => ∃ q : Bool, v = .bool q ∧ wc = wx ∧ Hid (q = true ↔ (KN < 1 ∨ 4096 < KN)))
      case first =>
        by_cases hm1 : KN < 1
        · have hd1 : (KN : Int) < 1 := by omega
          go_wp2_with fail
          go_meet
          exact ⟨true, rfl, rfl, Lib.hid (by simp; omega)⟩
        · have hd1 : ¬ (KN : Int) < 1 := by omega
          by_cases hm2 : 4096 < KN
          · have hd2 : (4096 : Int) < (KN : Int) := by omega
            go_wp2_with fail
            go_meet
            exact ⟨true, rfl, rfl, Lib.hid (by simp; omega)⟩
          · have hd2 : ¬ (4096 : Int) < (KN : Int) := by omega
            go_wp2_with fail
            go_meet
            exact ⟨false, rfl, rfl, Lib.hid (by simp; omega)⟩
      case rest =>
      obtain ⟨q, rfl, rfl, HQ⟩ := hcut
      go_upto_if 73 with fail
      go_cut [13] (fun v wx => v = .int .i64 F ∧ wc = wx)
      case first =>
        cases q with
        | true =>
          have HE : Hid (F = 1) := Lib.hid (by rw [HFV.out, if_pos (HQ.out.1 rfl)])
          go_wp2_with fail
          go_meet
          exact ⟨by rw [HE.out], rfl⟩
        | false =>
          have HE : Hid (F = G) := Lib.hid (by rw [HFV.out, if_neg (fun h => by cases HQ.out.2 h), HGV.out])
          go_wp2_with fail
          go_meet
          exact ⟨by rw [HE.out], rfl⟩
      case rest =>
      obtain ⟨rfl, rfl⟩ := hcut
      clear HQ HFV HGV
      go_wp2_with fail
      go_ret
      exact ⟨rfl, HB3.out⟩
end Go.Proofs.YtgmlkfcfmiiebaaDoor
