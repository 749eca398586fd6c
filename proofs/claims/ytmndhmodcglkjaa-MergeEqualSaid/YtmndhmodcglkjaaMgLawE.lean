/- The walk of the law MergeEqual. -/
import Derived.Test.YtmndhmodcglkjaaMgNm
import Derived.Deep.LoopGhost
import Derived.Deep.CutBlock
import Derived.Deep.DeepCutAuto
namespace Go.Proofs.Ytmndhmodcglkjaa
set_option linter.unusedVariables false
set_option maxRecDepth 100000
open Go.RowKit
def eEq (i : Nat) : Ent := ⟨⟨#[107]⟩, 5, 1, ⟨#[]⟩, ltr1 i⟩
def evR (N : Nat) : List Ent := (List.range N).map eEq
def evLs (N : Nat) : List (List Ent) := (List.range N).map fun i => [eEq i]
theorem evR_at (N i : Nat) (h : i < N) : (evR N)[i]? = some (eEq i) := by unfold evR; rw [List.getElem?_map, List.getElem?_range h]; rfl
theorem evLs_next (N : Nat) : evLs (N + 1) = evLs N ++ [[eEq N]] := by unfold evLs; rw [List.range_succ, List.map_append]; rfl
theorem evLs_len (N : Nat) : (evLs N).length = N := by simp [evLs]
theorem evLs_flat (N : Nat) : (evLs N).flatten = evR N := by
  induction N with
  | zero => rfl
  | succ n ih => rw [evLs_next, List.flatten_append, ih]; unfold evR; rw [List.range_succ, List.map_append]; rfl
theorem evLs_srt (N : Nat) : ∀ l, l ∈ evLs N → SrtW l := fun l hl => by
  obtain ⟨i, -, rfl⟩ := List.mem_map.1 hl
  exact srt_one _
theorem evR_mrg (N : Nat) : mrgL (evLs N).flatten = evR N := by
  rw [evLs_flat]
  refine mrgL_alike fun a ha b hb => ?_
  obtain ⟨i, -, rfl⟩ := List.mem_map.1 ha
  obtain ⟨j, -, rfl⟩ := List.mem_map.1 hb
  exact fun h => ltE_irr (eEq i) ((ltE_like rfl rfl rfl rfl rfl rfl).1 h)
theorem evR_len (N : Nat) : (evR N).length = N := by simp [evR]
set_option maxHeartbeats 16000000 in
theorem mergeEqual_walk (w : World) (n : Int) (hwf : (Lit.int .i64 n).wf = true) : Calls Try.prog 5 #[.int .i64 n] w fun e w' => e = .returned (.bool true) ∧ Below w.heap.size w w' := by
  have HBG := Lib.hid (mgBegun_any w)
  go_enter Try.func5, Try.ntmps5
  go_wp2_with fail
  refine HBG.out.mono ?_
  rintro e w1 ⟨rfl, hb1⟩
  have HB1 := Lib.hid hb1
  clear HBG hb1
  by_cases hn : n < 0
  · have hnd : decide (n < 0) = true := decide_eq_true hn
    go_wp2_with fail
    go_ret
    exact ⟨rfl, HB1.out⟩
  by_cases hn2 : 20 < n
  · have hnd : decide (n < 0) = false := decide_eq_false hn
    have hnd2 : decide (20 < n) = true := decide_eq_true hn2
    go_wp2_with fail
    go_ret
    exact ⟨rfl, HB1.out⟩
  obtain ⟨N, rfl⟩ : ∃ N : Nat, n = N := ⟨n.toNat, by omega⟩
  have hN : N ≤ 20 := by omega
  have hnd : decide ((N : Int) < 0) = false := decide_eq_false hn
  have hnd2 : decide (20 < (N : Int)) = false := decide_eq_false hn2
  go_wp2_with fail
  go_loopg [4, 5] N (fun kk vl vi wr => ∃ (i n a : Nat) (ao : Option Addr), vi = .int .i64 i ∧ vl = .slice ao n a ∧ i ≤ N ∧ N - i ≤ kk ∧ Hid (OwnLs 24 28 encEnt 5 (fun _ => False) w.heap.size wr (.slice ao n a) (evLs i) ∧ Below w.heap.size w wr))
  case atStart => exact ⟨0, 0, 0, none, rfl, rfl, by omega, by omega, Lib.hid ⟨OwnLs.nil .., HB1.out⟩⟩
  case round =>
    obtain ⟨i, n, a, ao, rfl, rfl, hi, hkk, HN⟩ := hrel
    have hi0 : (0 : Int) ≤ (i : Int) := by omega
    by_cases hiN : i < N
    · have hiI : (i : Int) < (N : Int) := by omega
      have hid : decide ((i : Int) < (N : Int)) = true := decide_eq_true hiI
      have hi20 : (i : Int) < 20 := by omega
      obtain ⟨w2, hw2⟩ : ∃ w2, wr.alloc (.cells #[.int .u8 (97 + (i : Int))] 5) = w2 := ⟨_, rfl⟩
      have b2 : Below wr.heap.size wr w2 := by rw [← hw2]; exact (Below.refl _ _).alloc (Nat.le_refl _) _
      have hcv : (convert 43 9 (.slice (some ⟨wr.heap.size, 0, none⟩) 1 1)).run Try.prog w2 = .ok (.string (ltr1 i)) w2 := ltr1_conv (by omega) (by rw [hw2]; exact Below.refl _ _)
      obtain ⟨w3, hw3⟩ : ∃ w3, w2.alloc (.cells #[.string ⟨#[107]⟩, .int .i64 5, .int .i64 1, .string ⟨#[]⟩, .string (ltr1 i)] 28) = w3 := ⟨_, rfl⟩
      have b3 : Below w2.heap.size w2 w3 := by rw [← hw3]; exact (Below.refl _ _).alloc (Nat.le_refl _) _
      have HU : Hid (OwnK encEnt 5 28 w.heap.size w3 (.slice (some ⟨w2.heap.size, 0, none⟩) 1 1) [eEq i]) := Lib.hid (by
        have := own_oneK (E := 28) encEnt_len w2 (eEq i)
        rw [show (encEnt (eEq i)).toArray = #[.string ⟨#[107]⟩, .int .i64 5, .int .i64 1, .string ⟨#[]⟩, .string (ltr1 i)] from rfl, hw3] at this
        exact this.base (Nat.le_trans HN.out.2.size b2.size))
      have HLs := Lib.hid ((HN.out.1.below b2).below b3)
      have HB3 := Lib.hid ((HN.out.2.trans (b2.mono HN.out.2.size)).trans (b3.mono (Nat.le_trans HN.out.2.size b2.size)))
      clear b2 b3 HN
      go_wp2_with (at_builtin; refine wp_appL elemK_ll (by decide) _ _ (by rfl) (by rfl) (by rfl) HLs.out HU.out (fun _ _ h => h) (fun _ h => h.elim) _ (by rfl) (by rfl) ?c1 (by omega) HB3.out.size ?_)
      case c1 => rw [evLs_len]; omega
      intro v5 w5 o5 b5 u5
      obtain ⟨a5, c5, rfl, -, -⟩ := o5.form
      have HN2 : Hid (OwnLs 24 28 encEnt 5 (fun _ => False) w.heap.size w5 (.slice a5 (evLs i ++ [[eEq i]]).length c5) (evLs (i + 1)) ∧ Below w.heap.size w w5) := Lib.hid ⟨by rw [evLs_next]; exact o5, HB3.out.trans b5⟩
      generalize (evLs i ++ [[eEq i]]).length = n5 at HN2 ⊢
      clear o5 b5 u5 HLs HB3 HU hcv hw2 hw3
      go_wp2_with fail
      go_roundg (N - (i + 1))
      case measure => omega
      case rel => exact ⟨i + 1, n5, c5, a5, by go_num, rfl, by omega, Nat.le_refl _, HN2⟩
    · obtain rfl : i = N := by omega
      have hnI : ¬ (i : Int) < (i : Int) := by omega
      have hid : decide ((i : Int) < (i : Int)) = false := decide_eq_false hnI
      have HA := Lib.hid (mgAll_any (evLs i) _ (HN.out.1.rd encEnt_len) (evLs_srt i) (by rw [evLs_len]; omega) (by rw [evLs_flat, evR_len]; omega))
      have HB := Lib.hid HN.out.2
      clear HN
      go_wp2_with fail
      refine HA.out.mono ?_
      rintro e w6 ⟨⟨vA, rfl, hA⟩, hb6⟩
      rw [evR_mrg] at hA
      obtain ⟨aA, cA, rfl, -, -⟩ := hA.kform
      rw [evR_len] at hA ⊢
      have HO6 := Lib.hid (hA.base (B' := 0) (Nat.zero_le _))
      have HB6 : Hid (Below w.heap.size w w6) := Lib.hid (HB.out.trans (hb6.mono HB.out.size))
      clear hA hb6 HA HB
      have HIT := Lib.hid hi
      clear hkk hiN hid hnI hi hi0
      obtain ⟨N, rfl⟩ : ∃ N, N = i := ⟨_, rfl⟩
      go_wp2_with fail
      go_loopg [7] N (fun kk vi wr => ∃ i : Nat, vi = .int .i64 i ∧ i ≤ N ∧ N - i ≤ kk ∧ Hid (OwnK encEnt 5 28 0 wr (.slice aA N cA) (evR N) ∧ Below w.heap.size w wr))
      case atStart => exact ⟨0, rfl, by omega, by omega, Lib.hid ⟨HO6.out, HB6.out⟩⟩
      case round =>
        obtain ⟨i, rfl, hi, hkk, HN⟩ := hrel
        have hi0 : (0 : Int) ≤ (i : Int) := by omega
        clear HO6 HB6
        by_cases hiN : i < N
        · have hiI : (i : Int) < (N : Int) := by omega
          have hid : decide ((i : Int) < (N : Int)) = true := decide_eq_true hiI
          have hi20 : (i : Int) < 20 := by omega
          obtain ⟨HO, HB⟩ := HN.out
          obtain ⟨ga, rfl⟩ : ∃ ga, aA = some ⟨ga, 0, none⟩ := by
            rcases HO.blk with ⟨e, e2⟩ | ⟨ga, ca, cur, e, -⟩
            · have := congrArg List.length e2; rw [evR_len] at this; simp at this; omega
            · simp only [Value.slice.injEq] at e; exact ⟨ga, e.1⟩
          have hwr : IntKind.i64.wrap (97 + (i : Int)) = 97 + (i : Int) := IntWalk.i64_in _ (by omega)
          have hw8 : IntKind.u8.wrap (97 + (i : Int)) = 97 + (i : Int) := by rw [IntKind.wrap_u8]; omega
          clear HN
          go_wp2_with fail
          refine wp_region_held_drew (S := Below wr.heap.size wr) (by kernel_rfl) (Below.refl _ _).drew (fun hHeld => ?_)
          generalize wr.drew = wd2 at hHeld ⊢
          refine wpAnyH_shift hHeld ?_
          replace HB : Below w.heap.size w wd2 := HB.trans (hHeld.mono HB.size)
          replace HO := HO.below hHeld
          clear hHeld
          refine takeYes (i := 0) (k := 40) (v := .slice (some ⟨ga, 0, none⟩) N cA) rfl (by kernel_rfl) (by kernel_rfl) (by kernel_rfl) (by kernel_rfl) (fun _ _ _ h => h) (by kernel_rfl) ?_ (Below.refl _ _) ?_
          · intro W hSw; first | (go_simp; done) | go_simp
          try simp only [Act.put, List.setIfInBounds_toArray, List.set_cons_zero, List.set_cons_succ]
          refine takeYes (i := 1) (k := 41) (v := .int .i64 (i : Int)) rfl (by kernel_rfl) (by kernel_rfl) (by kernel_rfl) (by kernel_rfl) (fun _ _ _ h => h) (by kernel_rfl) ?_ (Below.refl _ _) ?_
          · intro W hSw; first | (go_simp; done) | go_simp
          try simp only [Act.put, List.setIfInBounds_toArray, List.set_cons_zero, List.set_cons_succ]
          refine takeYes (i := 2) (k := 42) (v := .pointer (some ⟨ga, i * 5, none⟩)) rfl (by kernel_rfl) (by kernel_rfl) (by kernel_rfl) (by kernel_rfl) (fun _ _ _ h => h) (by kernel_rfl) ?_ (Below.refl _ _) ?_
          · intro W hSw; first | (go_simp; done) | go_simp
          try simp only [Act.put, List.setIfInBounds_toArray, List.set_cons_zero, List.set_cons_succ]
          refine takeYes (i := 3) (k := 43) (v := .pointer (some ⟨ga, i * 5 + 4, none⟩)) rfl (by kernel_rfl) (by kernel_rfl) (by kernel_rfl) (by kernel_rfl) (fun _ _ _ h => h) (by kernel_rfl) ?_ (Below.refl _ _) ?_
          · intro W hSw; first | (go_simp; done) | go_simp
          try simp only [Act.put, List.setIfInBounds_toArray, List.set_cons_zero, List.set_cons_succ]
          refine takeYes (i := 4) (k := 44) (v := .string (ltr1 i)) rfl (by kernel_rfl) (by kernel_rfl) (by kernel_rfl) (by kernel_rfl) (fun _ _ _ h => h) (by kernel_rfl) ?_ (Below.refl _ _) ?_
          · intro W hSw; have d0 : W.cell? ⟨ga, i * 5 + 4, none⟩ = some (.string (ltr1 i)) := (HO.below hSw).cell encEnt_len i 4 (eEq i) (evR_at N i hiN) (by omega); first | (go_simp; done) | go_simp
          try simp only [Act.put, List.setIfInBounds_toArray, List.set_cons_zero, List.set_cons_succ]
          refine takeYes (i := 5) (k := 45) (v := .int .i64 (i : Int)) rfl (by kernel_rfl) (by kernel_rfl) (by kernel_rfl) (by kernel_rfl) (fun _ _ _ h => h) (by kernel_rfl) ?_ (Below.refl _ _) ?_
          · intro W hSw; first | (go_simp; done) | go_simp
          try simp only [Act.put, List.setIfInBounds_toArray, List.set_cons_zero, List.set_cons_succ]
          refine takeYes (i := 6) (k := 46) (v := .int .i64 (97 + (i : Int))) rfl (by kernel_rfl) (by kernel_rfl) (by kernel_rfl) (by kernel_rfl) (fun _ _ _ h => h) (by kernel_rfl) ?_ (Below.refl _ _) ?_
          · intro W hSw; first | (go_simp; done) | go_simp
          try simp only [Act.put, List.setIfInBounds_toArray, List.set_cons_zero, List.set_cons_succ]
          refine takeYes (i := 7) (k := 47) (v := .int .u8 (97 + (i : Int))) rfl (by kernel_rfl) (by kernel_rfl) (by kernel_rfl) (by kernel_rfl) (fun _ _ _ h => h) (by kernel_rfl) ?_ (Below.refl _ _) ?_
          · intro W hSw; first | (go_simp; done) | go_simp
          try simp only [Act.put, List.setIfInBounds_toArray, List.set_cons_zero, List.set_cons_succ]
          refine wpAnyH_ready (rs := [8]) (by kernel_rfl) (by simp) (AllReadyH.cons rfl (fun K hK => ?_) AllReadyH.nil)
          go_simp
          obtain ⟨wd3, hwx⟩ : ∃ x, wd2.alloc (.cells #[.int .u8 (97 + (i : Int))] 5) = x := ⟨_, rfl⟩
          have hb3 : Below wd2.heap.size wd2 wd3 := by rw [← hwx]; exact (Below.refl _ _).alloc (Nat.le_refl _) _
          have HCV : Hid (∀ W, Below wd3.heap.size wd3 W → (convert 43 9 (.slice (some ⟨wd2.heap.size, 0, none⟩) 1 1)).run Try.prog W = .ok (.string (ltr1 i)) W) := Lib.hid fun W hW => ltr1_conv (by omega) (by rw [hwx]; exact hW)
          rw [hwx]
          clear hwx
          refine hK.out _ _ hb3 (fun _ => wpAnyH_shift hb3 ?_)
          clear hK K
          replace HB : Below w.heap.size w wd3 := HB.trans (hb3.mono HB.size)
          replace HO := HO.below hb3
          clear hb3
          try simp only [Act.put, List.setIfInBounds_toArray, List.set_cons_zero, List.set_cons_succ]
          refine takeYes (i := 9) (k := 49) (v := .string (ltr1 i)) rfl (by kernel_rfl) (by kernel_rfl) (by kernel_rfl) (by kernel_rfl) (fun _ _ _ h => h) (by kernel_rfl) ?_ (Below.refl _ _) ?_
          · intro W hSw; have hcv := HCV.out W hSw; first | (go_simp; done) | go_simp
          try simp only [Act.put, List.setIfInBounds_toArray, List.set_cons_zero, List.set_cons_succ]
          refine takeYes (i := 10) (k := 50) (v := .bool false) rfl (by kernel_rfl) (by kernel_rfl) (by kernel_rfl) (by kernel_rfl) (fun _ _ _ h => h) (by kernel_rfl) ?_ (Below.refl _ _) ?_
          · intro W hSw; first | (go_simp; done) | go_simp
          try simp only [Act.put, List.setIfInBounds_toArray, List.set_cons_zero, List.set_cons_succ]
          refine wpAnyH_done (by kernel_rfl) ?_ _
          have HN2 := Lib.hid (And.intro HO HB)
          clear HO HB
          go_wp2_with fail
          go_roundg (N - (i + 1))
          case measure => omega
          case rel => exact ⟨i + 1, by go_num, by omega, Nat.le_refl _, HN2⟩
        · obtain rfl : i = N := by omega
          have hnI : ¬ (i : Int) < (i : Int) := by omega
          have hid : decide ((i : Int) < (i : Int)) = false := decide_eq_false hnI
          have HB := Lib.hid HN.out.2
          clear HN
          go_wp2_with fail
          go_ret
          exact ⟨by simp, HB.out⟩
end Go.Proofs.Ytmndhmodcglkjaa
