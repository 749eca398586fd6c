/- The walk of the law TableMany. -/
import Derived.Test.YtennpdhnjaemeaaDoorTblMny
import Derived.Test.YtennpdhnjaemeaaDoorTblBeg
import Derived.Test.YtennpdhnjaemeaaDoorMBase
import Derived.Test.YtennpdhnjaemeaaDoorMBlk
import Derived.Deep.RegionHeld3
import Derived.Deep.LoopGhost
import Derived.Deep.CutBlock
import Derived.Deep.DeepCutAuto
namespace Go.Proofs.YtennpdhnjaemeaaDoor
set_option linter.unusedVariables false
set_option maxRecDepth 100000
open Go.RowKit
/-- The last two letters of a name. -/
def nm2 (i : Nat) : ByteArray := ⟨#[UInt8.ofNat (97 + i / 26 % 26), UInt8.ofNat (97 + i % 26)]⟩
theorem nm_cat (i : Nat) : ((⟨#[107]⟩ : ByteArray) ++ nm2 i) = nmK i := by
  apply ByteArray.ext
  rw [ByteArray.data_append]; rfl
theorem conv_nm (W : World) (i : Nat) : (convert 25 9 (.slice (some ⟨W.heap.size, 0, none⟩) 2 2)).run Tryd.prog (W.alloc (.cells #[.int .u8 (97 + (i : Int) / 26 % 26), .int .u8 (97 + (i : Int) % 26)] 5)) = .ok (.string (nm2 i)) (W.alloc (.cells #[.int .u8 (97 + (i : Int) / 26 % 26), .int .u8 (97 + (i : Int) % 26)] 5)) := by
  refine RdB.text (bs := [UInt8.ofNat (97 + i / 26 % 26), UInt8.ofNat (97 + i % 26)]) (OwnB.lit W _ _ 2 0 rfl (by decide) ?_ (Nat.zero_le _)).rd
  have e1 : bv (UInt8.ofNat (97 + i / 26 % 26)) = .int .u8 (97 + (i : Int) / 26 % 26) := by unfold bv; rw [byte_of _ (by omega)]; congr 1
  have e2 : bv (UInt8.ofNat (97 + i % 26)) = .int .u8 (97 + (i : Int) % 26) := by unfold bv; rw [byte_of _ (by omega)]; congr 1
  rw [List.map_cons, List.map_cons, e1, e2]; rfl
theorem nameK_any (i : Nat) (hi : i ≤ 1000) (w : World) : Calls Tryd.prog 25 #[.int .i64 (i : Int)] w fun e w' => e = .returned (.string (nmK i)) ∧ Below w.heap.size w w' := by
  have hi0 : (0 : Int) ≤ (i : Int) := by omega
  have hi1 : (i : Int) ≤ 1000 := by omega
  have hd0 : (0 : Int) ≤ (i : Int) / 26 := by omega
  have hd1 : (i : Int) / 26 ≤ 1000 := by omega
  have hcv := conv_nm w i
  have hal : Below w.heap.size w (w.alloc (.cells #[.int .u8 (97 + (i : Int) / 26 % 26), .int .u8 (97 + (i : Int) % 26)] 5)) := (Below.refl _ _).alloc (Nat.le_refl _) _
  have hks : (nm2 i).size = 2 := rfl
  have hcat : ¬ 9223372036854775807 < (⟨#[107]⟩ : ByteArray).size + (nm2 i).size := by rw [hks]; decide
  have HAL := Lib.hid hal
  have HNM := Lib.hid (nm_cat i)
  clear hal
  generalize nm2 i = X at *
  go_enter Tryd.func25, Tryd.ntmps25
  go_wp2
  go_ret
  exact ⟨by rw [HNM.out]; rfl, HAL.out⟩
theorem name_ev (i : Nat) (hi : i < 120) (w : World) : Calls Tryd.prog 25 #[.int .i64 (2 * (i : Int))] w fun e w' => e = .returned (.string (nmK (2 * i))) ∧ Below w.heap.size w w' := by
  have := nameK_any (2 * i) (by omega) w
  rwa [show ((2 * i : Nat) : Int) = 2 * (i : Int) by omega] at this
theorem name_od (i : Nat) (hi : i < 120) (w : World) : Calls Tryd.prog 25 #[.int .i64 (2 * (i : Int) + 1)] w fun e w' => e = .returned (.string (nmK (2 * i + 1))) ∧ Below w.heap.size w w' := by
  have := nameK_any (2 * i + 1) (by omega) w
  rwa [show ((2 * i + 1 : Nat) : Int) = 2 * (i : Int) + 1 by omega] at this
theorem nmK_short (i : Nat) : (nmK i).size ≤ maxLen := by
  have h : (nmK i).size = 3 := rfl
  rw [h]; decide
/-- A struct that is built, taken first. -/
theorem takeBuild {P : Program} {md : Region.Mode} {ops : Array Oper} {Q : Exit → Act → World → Prop} {S : World → Prop} {i k : Nat} {oi : Oper} {v : Value} {fuel : Nat} {listed : Array Bool} {a : Act} {w : World} (ho : ops[i]? = some oi) (hd : oi.dst = some k)
    (hs : Region.noSelect ops = true) (hf : Region.free md ops listed i = true) (hr : (Region.ready md ops listed).contains i = true) (hQ : ∀ c a w, Q (.panic c) (a.put (some k) v) w → Q (.panic c) a w)
    (hw : Region.wanted oi (yielded ops a.tmps) = true) (t : TypeId) (parts : Array (Nat × Operand)) (vals : Array (Nat × Value)) (hop : oi.op = .build t parts) (hv : (parts.map fun (j, x) => (j, a.eval x)) = vals)
    (hrun : ∀ w, (Instr.build t vals).run P w = .ok v w) (hS : S w)
    (h : wpAnyH P md ops Q S fuel (listed.setIfInBounds i true) (a.put (some k) v) w) : wpAnyH P md ops Q S (fuel + 1) listed a w :=
  takeYes ho hd hs hf hr hQ hw (fun w _ => by unfold execOp; simp only [hop, hv, Sem.run_bind, hrun, Result.andThen_ok]; rfl) hS h
/-- A slice that is built, as one step of a region. -/
theorem step_bs {P : Program} {ops : Array Oper} {o : Oper} {a : Act} {w : World} {K : Act → World → Prop} {Q : Exit → Act → World → Prop} {E : Prop} (d : Nat) (hd : o.dst = some d) (hw : Region.wanted o (yielded ops a.tmps) = true)
    (t : TypeId) (n : Nat) (parts : Array (Nat × Operand)) (vals : Array (Nat × Value)) (hop : o.op = .buildSlice t n parts) (hv : (parts.map fun (j, x) => (j, a.eval x)) = vals) {v : Value} {w' : World}
    (hr : (Instr.buildSlice t n vals).run P w = .ok v w') (hK : K (a.put (some d) v) w') : if Region.wanted o (yielded ops a.tmps) = true then Oper.wp P o a w K Q else E := by
  rw [if_pos hw]
  unfold Oper.wp execOp
  simp only [hop, hv, Sem.run_bind, hr, Result.andThen_ok]
  have hK' : K (a.put o.dst v) w' := by rw [hd]; exact hK
  exact hK'
theorem bdE (A B C : ByteArray) (p q : Int) (w : World) : (Instr.build 39 #[(0, .string A), (1, .int .i64 p), (2, .int .i64 q), (3, .string B), (4, .string C)]).run Tryd.prog w = .ok (.agg #[.string A, .int .i64 p, .int .i64 q, .string B, .string C]) w := by
  go_simp
theorem bsE (A B C : ByteArray) (p q : Int) (w : World) : (Instr.buildSlice 22 1 #[(0, .agg #[.string A, .int .i64 p, .int .i64 q, .string B, .string C])]).run Tryd.prog w = .ok (.slice (some ⟨w.heap.size, 0, none⟩) 1 1) (w.alloc (.cells #[.string A, .int .i64 p, .int .i64 q, .string B, .string C] 39)) := by
  go_simp
section
variable {K : Nat} {w : World} {g S n i : Nat} {ps : List (List (List Ent))} {ss : List ByteArray}
theorem get_many (h : TOk K w g (mL S n) ps (ps.map pcB) ss) (hn : n ≤ 120) (hi : i < n) : Calls Tryd.prog 23 #[.pointer (some ⟨g, 0, none⟩), .string (nmK (2 * i)), .int .i64 1125899906842624] w fun e w' =>
    e = .returned (.tuple #[.agg #[.string (nmK (2 * i)), .int .i64 ((i : Int) + 1), .int .i64 1, .string (nmK (2 * i)), .string (zrT S)], .bool true, .int .i64 0]) ∧ Below w.heap.size w w' := by
  have H := tget_any h (nmK (2 * i)) (nmK_short _) 1125899906842624
  rw [mL_find hn hi] at H
  refine H.mono fun e w' hh => ?_
  obtain ⟨h1 | ⟨h1, -⟩, h2⟩ := hh
  · refine ⟨h1.trans ?_, h2⟩
    have e1 : ((i + 1 : Nat) : Int) = (i : Int) + 1 := by omega
    rw [← e1]; rfl
  · exact absurd rfl h1
theorem get_manyno (h : TOk K w g (mL S n) ps (ps.map pcB) ss) (hn : n ≤ 120) (hi : i < n) : Calls Tryd.prog 23 #[.pointer (some ⟨g, 0, none⟩), .string (nmK (2 * i + 1)), .int .i64 1125899906842624] w fun e w' =>
    e = .returned (.tuple #[.agg #[.string ⟨#[]⟩, .int .i64 0, .int .i64 0, .string ⟨#[]⟩, .string ⟨#[]⟩], .bool false, .int .i64 0]) ∧ Below w.heap.size w w' := by
  have H := tget_any h (nmK (2 * i + 1)) (nmK_short _) 1125899906842624
  rw [mL_none hn hi] at H
  refine H.mono fun e w' hh => ?_
  obtain ⟨h1 | ⟨h1, -⟩, h2⟩ := hh
  · exact ⟨h1, h2⟩
  · exact absurd rfl h1
theorem from_many (h : TOk K w g (mL S n) ps (ps.map pcB) ss) (hn : n ≤ 120) (hi : i < n) : Calls Tryd.prog 22 #[.pointer (some ⟨g, 0, none⟩), .string (nmK (2 * i + 1))] w fun e w' =>
    ∃ a m c, e = .returned (.tuple #[.slice a m c, .int .i64 0]) ∧ m = n - 1 - i ∧ Below w.heap.size w w' := by
  refine (tfrom_any h (nmK (2 * i + 1))).mono fun e w' hh => ?_
  obtain ⟨⟨v, rfl, h1⟩ | ⟨h1, -⟩, h2⟩ := hh
  · obtain ⟨a, m, c, rfl, hm⟩ := rdK_len h1
    rw [mL_from hn hi] at hm
    exact ⟨a, m, c, rfl, hm, h2⟩
  · exact absurd rfl h1
end
set_option maxHeartbeats 32000000 in
theorem tableMany_walk (w : World) (ht : TabAt w) (z : Int) (hz : (Lit.int .i64 z).wf = true) (y : Int) (hy : (Lit.int .i64 y).wf = true) :
    Calls Tryd.prog 7 #[.int .i64 z, .int .i64 y] w fun e w' => e = .returned (.bool true) ∧ Below w.heap.size w w' := by
  have HT := Lib.hid ht
  have HBG := Lib.hid (tbegun_any w ht)
  clear ht hz hy
  go_enter Tryd.func7, Tryd.ntmps7
  go_wp2_with fail
  refine HBG.out.mono ?_
  rintro e w1 ⟨rfl, b1⟩
  have HB1 := Lib.hid b1
  clear b1 HBG
  by_cases h1 : z < 1
  · go_wp2_with fail
    go_ret
    exact ⟨rfl, HB1.out⟩
  by_cases h2 : 120 < z
  · go_wp2_with fail
    go_ret
    exact ⟨rfl, HB1.out⟩
  by_cases h3 : y < 0
  · go_wp2_with fail
    go_ret
    exact ⟨rfl, HB1.out⟩
  by_cases h4 : 60 < y
  · go_wp2_with fail
    go_ret
    exact ⟨rfl, HB1.out⟩
  obtain ⟨n, rfl⟩ : ∃ n : Nat, z = (n : Int) := ⟨z.toNat, (Int.toNat_of_nonneg (by omega)).symm⟩
  obtain ⟨S, rfl⟩ : ∃ n : Nat, y = (n : Int) := ⟨y.toNat, (Int.toNat_of_nonneg (by omega)).symm⟩
  have hn1 : 1 ≤ n := by omega
  have hn2 : n ≤ 120 := by omega
  have hS : S ≤ 60 := by omega
  have hS0 : (0 : Int) ≤ (S : Int) := by omega
  have HMK : Hid (∀ W, (Instr.makeSlice 25 (.int .i64 (S : Int)) (.int .i64 (S : Int))).run Tryd.prog W = .ok (.slice (some ⟨W.heap.size, 0, none⟩) S S) (W.alloc (.cells (madeCells #[.int .u8 0] S) 5))) := Lib.hid fun W => mkB_run S (by omega) W
  go_upto_region 8 with fail
  go_loopg [6, 7] (n + 1) (fun kk v vi wr => ∃ (i c6 : Nat) (a6 : Option Addr), v = .slice a6 i c6 ∧ vi = .int .i64 (i : Int) ∧ i ≤ n ∧ n - i + 1 ≤ kk ∧ Hid (OwnK encEnt 5 39 w.heap.size wr (.slice a6 i c6) (mL S i)) ∧ Hid (Below w.heap.size w wr))
  case atStart => exact ⟨0, 0, none, rfl, rfl, by omega, by omega, Lib.hid (OwnK.nil _ _ _ _ _), HB1⟩
  case round =>
    clear HB1
    obtain ⟨i, c6, a6, rfl, rfl, hin, hik, HO, HB⟩ := hrel
    have hi0 : (0 : Int) ≤ (i : Int) := by omega
    by_cases h0 : i < n
    · have h0' : (i : Int) < (n : Int) := by omega
      have hi2 : (i : Int) < 120 := by omega
      have HEN0 : (encEnt (mE S i)).toArray = #[.string (nmK (2 * i)), .int .i64 ((i : Int) + 1), .int .i64 1, .string (nmK (2 * i)), .string (zrT S)] := by
        have e1 : ((i + 1 : Nat) : Int) = (i : Int) + 1 := by omega
        rw [← e1]; rfl
      have HN0 := fun W => name_ev i (by omega) W
      have HZ0 : (⟨(List.replicate S (0 : UInt8)).toArray⟩ : ByteArray) = zrT S := rfl
      generalize nmK (2 * i) = X at HEN0 HN0
      obtain ⟨Z, hZ⟩ : ∃ x, zrT S = x := ⟨_, rfl⟩
      rw [hZ] at HEN0 HZ0
      have HEN := Lib.hid HEN0
      have HN := Lib.hid HN0
      have HZR := Lib.hid HZ0
      clear HEN0 HN0 HZ0 hZ
      go_wp2_with fail
      refine wp_region_held_drew (S := fun _ => True) (by kernel_rfl) trivial (fun hHeld => ?_)
      have hq0 : Below wr.heap.size wr wr.drew := (Below.refl _ _).drew
      generalize wr.drew = wq0 at hq0 hHeld ⊢
      refine takeYes (i := 0) (k := 43) (v := .slice a6 i c6) rfl (by kernel_rfl) (by kernel_rfl) (by kernel_rfl) (by kernel_rfl) (fun _ _ _ h => h) (by kernel_rfl) ?_ trivial ?_
      · intro W hSw; first | (go_simp; done) | go_simp
      try simp only [Act.put, List.setIfInBounds_toArray, List.set_cons_zero, List.set_cons_succ]
      refine takeYes (i := 1) (k := 44) (v := .int .i64 (i : Int)) rfl (by kernel_rfl) (by kernel_rfl) (by kernel_rfl) (by kernel_rfl) (fun _ _ _ h => h) (by kernel_rfl) ?_ trivial ?_
      · intro W hSw; first | (go_simp; done) | go_simp
      try simp only [Act.put, List.setIfInBounds_toArray, List.set_cons_zero, List.set_cons_succ]
      refine takeYes (i := 2) (k := 45) (v := .int .i64 (2 * (i : Int))) rfl (by kernel_rfl) (by kernel_rfl) (by kernel_rfl) (by kernel_rfl) (fun _ _ _ h => h) (by kernel_rfl) ?_ trivial ?_
      · intro W hSw; go_simp; exact IntWalk.i64_in _ (by omega)
      try simp only [Act.put, List.setIfInBounds_toArray, List.set_cons_zero, List.set_cons_succ]
      refine takeYes (i := 4) (k := 47) (v := .int .i64 (i : Int)) rfl (by kernel_rfl) (by kernel_rfl) (by kernel_rfl) (by kernel_rfl) (fun _ _ _ h => h) (by kernel_rfl) ?_ trivial ?_
      · intro W hSw; first | (go_simp; done) | go_simp
      try simp only [Act.put, List.setIfInBounds_toArray, List.set_cons_zero, List.set_cons_succ]
      refine takeYes (i := 5) (k := 48) (v := .int .i64 ((i : Int) + 1)) rfl (by kernel_rfl) (by kernel_rfl) (by kernel_rfl) (by kernel_rfl) (fun _ _ _ h => h) (by kernel_rfl) ?_ trivial ?_
      · intro W hSw; go_simp; exact IntWalk.i64_in _ (by omega)
      try simp only [Act.put, List.setIfInBounds_toArray, List.set_cons_zero, List.set_cons_succ]
      refine takeYes (i := 6) (k := 49) (v := .int .i64 (i : Int)) rfl (by kernel_rfl) (by kernel_rfl) (by kernel_rfl) (by kernel_rfl) (fun _ _ _ h => h) (by kernel_rfl) ?_ trivial ?_
      · intro W hSw; first | (go_simp; done) | go_simp
      try simp only [Act.put, List.setIfInBounds_toArray, List.set_cons_zero, List.set_cons_succ]
      refine takeYes (i := 7) (k := 50) (v := .int .i64 (2 * (i : Int))) rfl (by kernel_rfl) (by kernel_rfl) (by kernel_rfl) (by kernel_rfl) (fun _ _ _ h => h) (by kernel_rfl) ?_ trivial ?_
      · intro W hSw; go_simp; exact IntWalk.i64_in _ (by omega)
      try simp only [Act.put, List.setIfInBounds_toArray, List.set_cons_zero, List.set_cons_succ]
      refine takeYes (i := 9) (k := 52) (v := .int .i64 (S : Int)) rfl (by kernel_rfl) (by kernel_rfl) (by kernel_rfl) (by kernel_rfl) (fun _ _ _ h => h) (by kernel_rfl) ?_ trivial ?_
      · intro W hSw; first | (go_simp; done) | go_simp
      try simp only [Act.put, List.setIfInBounds_toArray, List.set_cons_zero, List.set_cons_succ]
      refine wpAnyH_ready (rs := [3, 10]) (by kernel_rfl) (by simp) (AllReadyH.cons rfl (fun K hK => ?_) (AllReadyH.cons rfl (fun K hK => ?_) (AllReadyH.nil)))
      · as_aux_lemma =>
          go_simp
          refine (HN.out wq0).mono ?_
          rintro e wq1 ⟨rfl, hb⟩
          have hq1 : Below wr.heap.size wr wq1 := hq0.trans (hb.mono hq0.size)
          refine hK.out _ _ trivial (fun _ => ?_)
          clear hK K hb hq0
          try simp only [Act.put, List.setIfInBounds_toArray, List.set_cons_zero, List.set_cons_succ]
          refine wpAnyH_ready (rs := [8, 10]) (by kernel_rfl) (by simp) (AllReadyH.cons rfl (fun K hK => ?_) (AllReadyH.cons rfl (fun K hK => ?_) (AllReadyH.nil)))
          · as_aux_lemma =>
              go_simp
              refine (HN.out wq1).mono ?_
              rintro e wq2 ⟨rfl, hb⟩
              have hq2 : Below wr.heap.size wr wq2 := hq1.trans (hb.mono hq1.size)
              refine hK.out _ _ trivial (fun _ => ?_)
              clear hK K hb hq1
              try simp only [Act.put, List.setIfInBounds_toArray, List.set_cons_zero, List.set_cons_succ]
              refine wpAnyH_ready (rs := [10]) (by kernel_rfl) (by simp) (AllReadyH.cons rfl (fun K hK => ?_) (AllReadyH.nil))
              have hmk := HMK.out
              go_simp
              clear hmk
              have HZK := (mkB_own wq2 S (by omega)).rd
              have hb : Below wq2.heap.size wq2 (wq2.alloc (.cells (madeCells #[.int .u8 0] S) 5)) := (Below.refl _ _).alloc (Nat.le_refl _) _
              obtain ⟨gz, hgz⟩ : ∃ x, wq2.heap.size = x := ⟨_, rfl⟩
              obtain ⟨wq3, hwq⟩ : ∃ x, wq2.alloc (.cells (madeCells #[.int .u8 0] S) 5) = x := ⟨_, rfl⟩
              rw [hwq] at HZK hb ⊢
              have hq3 : Below wr.heap.size wr wq3 := hq2.trans (hb.mono hq2.size)
              rw [hgz] at HZK ⊢
              refine hK.out _ _ trivial (fun _ => ?_)
              clear hK K hb hwq hgz hq2
              try simp only [Act.put, List.setIfInBounds_toArray, List.set_cons_zero, List.set_cons_succ]
              refine wpAnyH_ready (rs := [11]) (by kernel_rfl) (by simp) (AllReadyH.cons rfl (fun K hK => ?_) (AllReadyH.nil))
              have hcv := HZK.text
              rw [HZR.out] at hcv
              go_simp
              clear hcv
              refine hK.out _ _ trivial (fun _ => ?_)
              clear hK K
              try simp only [Act.put, List.setIfInBounds_toArray, List.set_cons_zero, List.set_cons_succ]
              refine takeBuild (i := 12) (k := 55) rfl (by kernel_rfl) (by kernel_rfl) (by kernel_rfl) (by kernel_rfl) (fun _ _ _ h => h) (by kernel_rfl) _ _ #[(0, .string X), (1, .int .i64 ((i : Int) + 1)), (2, .int .i64 1), (3, .string X), (4, .string Z)] rfl (by kernel_rfl) (bdE X X Z ((i : Int) + 1) 1) trivial ?_
              try simp only [Act.put, List.setIfInBounds_toArray, List.set_cons_zero, List.set_cons_succ]
              obtain ⟨v7, w7, hrun, o7, b7, -, -⟩ := run_oneK (ty := 22) elem_ent encEnt_len (w := wq3) (HO.out.below hq3) (mE S i) (enc_cells _) (by rw [mL_len]; omega) (by rw [mL_len]; unfold maxLen; omega) (Nat.le_trans HB.out.size hq3.size)
              rw [HEN.out] at hrun
              rw [← mL_snoc] at o7
              obtain ⟨a7, c7, rfl, -⟩ := o7.kform
              rw [mL_len] at o7 hrun
              have HB7 := Lib.hid ((HB.out.trans (hq3.mono HB.out.size)).trans b7)
              have HO7 := Lib.hid o7
              have HRUN := Lib.hid hrun
              clear o7 b7 hrun HO HB HEN HZK
              refine wpAnyH_ready (rs := [13]) (by kernel_rfl) (by simp) (AllReadyH.cons rfl (fun K hK => ?_) AllReadyH.nil)
              refine step_bs 56 rfl (by kernel_rfl) _ _ _ #[(0, .agg #[.string X, .int .i64 ((i : Int) + 1), .int .i64 1, .string X, .string Z])] rfl (by kernel_rfl) (bsE X X Z ((i : Int) + 1) 1 _) ?_
              refine hK.out _ _ trivial (fun _ => ?_)
              clear hK K
              try simp only [Act.put, List.setIfInBounds_toArray, List.set_cons_zero, List.set_cons_succ]
              refine wpAnyH_ready (rs := [14]) (by kernel_rfl) (by simp) (AllReadyH.cons rfl (fun K hK => ?_) AllReadyH.nil)
              refine step_appD 57 rfl (by kernel_rfl) (.tmp 43) (.tmp 56) 22 rfl rfl rfl HRUN.out ?_
              refine hK.out _ _ trivial (fun _ => ?_)
              clear hK K
              try simp only [Act.put, List.setIfInBounds_toArray, List.set_cons_zero, List.set_cons_succ]
              refine takeYes (i := 15) (k := 6) (v := .slice a7 (i + 1) c7) rfl (by kernel_rfl) (by kernel_rfl) (by kernel_rfl) (by kernel_rfl) (fun _ _ _ h => h) (by kernel_rfl) ?_ trivial ?_
              · intro W hSw; first | (go_simp; done) | go_simp
              try simp only [Act.put, List.setIfInBounds_toArray, List.set_cons_zero, List.set_cons_succ]
              refine wpAnyH_done (by kernel_rfl) ?_ _
              clear hHeld HRUN hq3
              go_wp2_with fail
              go_roundg (n - (i + 1) + 1)
              case measure => omega
              case rel => exact ⟨i + 1, c7, a7, rfl, by go_num, by omega, Nat.le_refl _, HO7, HB7⟩
          · as_aux_lemma =>
              have hmk := HMK.out
              go_simp
              clear hmk
              have HZK := (mkB_own wq1 S (by omega)).rd
              have hb : Below wq1.heap.size wq1 (wq1.alloc (.cells (madeCells #[.int .u8 0] S) 5)) := (Below.refl _ _).alloc (Nat.le_refl _) _
              obtain ⟨gz, hgz⟩ : ∃ x, wq1.heap.size = x := ⟨_, rfl⟩
              obtain ⟨wq2, hwq⟩ : ∃ x, wq1.alloc (.cells (madeCells #[.int .u8 0] S) 5) = x := ⟨_, rfl⟩
              rw [hwq] at HZK hb ⊢
              have hq2 : Below wr.heap.size wr wq2 := hq1.trans (hb.mono hq1.size)
              rw [hgz] at HZK ⊢
              refine hK.out _ _ trivial (fun _ => ?_)
              clear hK K hb hwq hgz hq1
              try simp only [Act.put, List.setIfInBounds_toArray, List.set_cons_zero, List.set_cons_succ]
              refine wpAnyH_ready (rs := [8, 11]) (by kernel_rfl) (by simp) (AllReadyH.cons rfl (fun K hK => ?_) (AllReadyH.cons rfl (fun K hK => ?_) (AllReadyH.nil)))
              · as_aux_lemma =>
                  go_simp
                  refine (HN.out wq2).mono ?_
                  rintro e wq3 ⟨rfl, hb⟩
                  have hq3 : Below wr.heap.size wr wq3 := hq2.trans (hb.mono hq2.size)
                  replace HZK := HZK.below hb
                  refine hK.out _ _ trivial (fun _ => ?_)
                  clear hK K hb hq2
                  try simp only [Act.put, List.setIfInBounds_toArray, List.set_cons_zero, List.set_cons_succ]
                  refine wpAnyH_ready (rs := [11]) (by kernel_rfl) (by simp) (AllReadyH.cons rfl (fun K hK => ?_) (AllReadyH.nil))
                  have hcv := HZK.text
                  rw [HZR.out] at hcv
                  go_simp
                  clear hcv
                  refine hK.out _ _ trivial (fun _ => ?_)
                  clear hK K
                  try simp only [Act.put, List.setIfInBounds_toArray, List.set_cons_zero, List.set_cons_succ]
                  refine takeBuild (i := 12) (k := 55) rfl (by kernel_rfl) (by kernel_rfl) (by kernel_rfl) (by kernel_rfl) (fun _ _ _ h => h) (by kernel_rfl) _ _ #[(0, .string X), (1, .int .i64 ((i : Int) + 1)), (2, .int .i64 1), (3, .string X), (4, .string Z)] rfl (by kernel_rfl) (bdE X X Z ((i : Int) + 1) 1) trivial ?_
                  try simp only [Act.put, List.setIfInBounds_toArray, List.set_cons_zero, List.set_cons_succ]
                  obtain ⟨v7, w7, hrun, o7, b7, -, -⟩ := run_oneK (ty := 22) elem_ent encEnt_len (w := wq3) (HO.out.below hq3) (mE S i) (enc_cells _) (by rw [mL_len]; omega) (by rw [mL_len]; unfold maxLen; omega) (Nat.le_trans HB.out.size hq3.size)
                  rw [HEN.out] at hrun
                  rw [← mL_snoc] at o7
                  obtain ⟨a7, c7, rfl, -⟩ := o7.kform
                  rw [mL_len] at o7 hrun
                  have HB7 := Lib.hid ((HB.out.trans (hq3.mono HB.out.size)).trans b7)
                  have HO7 := Lib.hid o7
                  have HRUN := Lib.hid hrun
                  clear o7 b7 hrun HO HB HEN HZK
                  refine wpAnyH_ready (rs := [13]) (by kernel_rfl) (by simp) (AllReadyH.cons rfl (fun K hK => ?_) AllReadyH.nil)
                  refine step_bs 56 rfl (by kernel_rfl) _ _ _ #[(0, .agg #[.string X, .int .i64 ((i : Int) + 1), .int .i64 1, .string X, .string Z])] rfl (by kernel_rfl) (bsE X X Z ((i : Int) + 1) 1 _) ?_
                  refine hK.out _ _ trivial (fun _ => ?_)
                  clear hK K
                  try simp only [Act.put, List.setIfInBounds_toArray, List.set_cons_zero, List.set_cons_succ]
                  refine wpAnyH_ready (rs := [14]) (by kernel_rfl) (by simp) (AllReadyH.cons rfl (fun K hK => ?_) AllReadyH.nil)
                  refine step_appD 57 rfl (by kernel_rfl) (.tmp 43) (.tmp 56) 22 rfl rfl rfl HRUN.out ?_
                  refine hK.out _ _ trivial (fun _ => ?_)
                  clear hK K
                  try simp only [Act.put, List.setIfInBounds_toArray, List.set_cons_zero, List.set_cons_succ]
                  refine takeYes (i := 15) (k := 6) (v := .slice a7 (i + 1) c7) rfl (by kernel_rfl) (by kernel_rfl) (by kernel_rfl) (by kernel_rfl) (fun _ _ _ h => h) (by kernel_rfl) ?_ trivial ?_
                  · intro W hSw; first | (go_simp; done) | go_simp
                  try simp only [Act.put, List.setIfInBounds_toArray, List.set_cons_zero, List.set_cons_succ]
                  refine wpAnyH_done (by kernel_rfl) ?_ _
                  clear hHeld HRUN hq3
                  go_wp2_with fail
                  go_roundg (n - (i + 1) + 1)
                  case measure => omega
                  case rel => exact ⟨i + 1, c7, a7, rfl, by go_num, by omega, Nat.le_refl _, HO7, HB7⟩
              · as_aux_lemma =>
                  have hcv := HZK.text
                  rw [HZR.out] at hcv
                  go_simp
                  clear hcv
                  refine hK.out _ _ trivial (fun _ => ?_)
                  clear hK K
                  try simp only [Act.put, List.setIfInBounds_toArray, List.set_cons_zero, List.set_cons_succ]
                  refine wpAnyH_ready (rs := [8]) (by kernel_rfl) (by simp) (AllReadyH.cons rfl (fun K hK => ?_) (AllReadyH.nil))
                  go_simp
                  refine (HN.out wq2).mono ?_
                  rintro e wq4 ⟨rfl, hb⟩
                  have hq4 : Below wr.heap.size wr wq4 := hq2.trans (hb.mono hq2.size)
                  replace HZK := HZK.below hb
                  refine hK.out _ _ trivial (fun _ => ?_)
                  clear hK K hb hq2
                  try simp only [Act.put, List.setIfInBounds_toArray, List.set_cons_zero, List.set_cons_succ]
                  refine takeBuild (i := 12) (k := 55) rfl (by kernel_rfl) (by kernel_rfl) (by kernel_rfl) (by kernel_rfl) (fun _ _ _ h => h) (by kernel_rfl) _ _ #[(0, .string X), (1, .int .i64 ((i : Int) + 1)), (2, .int .i64 1), (3, .string X), (4, .string Z)] rfl (by kernel_rfl) (bdE X X Z ((i : Int) + 1) 1) trivial ?_
                  try simp only [Act.put, List.setIfInBounds_toArray, List.set_cons_zero, List.set_cons_succ]
                  obtain ⟨v7, w7, hrun, o7, b7, -, -⟩ := run_oneK (ty := 22) elem_ent encEnt_len (w := wq4) (HO.out.below hq4) (mE S i) (enc_cells _) (by rw [mL_len]; omega) (by rw [mL_len]; unfold maxLen; omega) (Nat.le_trans HB.out.size hq4.size)
                  rw [HEN.out] at hrun
                  rw [← mL_snoc] at o7
                  obtain ⟨a7, c7, rfl, -⟩ := o7.kform
                  rw [mL_len] at o7 hrun
                  have HB7 := Lib.hid ((HB.out.trans (hq4.mono HB.out.size)).trans b7)
                  have HO7 := Lib.hid o7
                  have HRUN := Lib.hid hrun
                  clear o7 b7 hrun HO HB HEN HZK
                  refine wpAnyH_ready (rs := [13]) (by kernel_rfl) (by simp) (AllReadyH.cons rfl (fun K hK => ?_) AllReadyH.nil)
                  refine step_bs 56 rfl (by kernel_rfl) _ _ _ #[(0, .agg #[.string X, .int .i64 ((i : Int) + 1), .int .i64 1, .string X, .string Z])] rfl (by kernel_rfl) (bsE X X Z ((i : Int) + 1) 1 _) ?_
                  refine hK.out _ _ trivial (fun _ => ?_)
                  clear hK K
                  try simp only [Act.put, List.setIfInBounds_toArray, List.set_cons_zero, List.set_cons_succ]
                  refine wpAnyH_ready (rs := [14]) (by kernel_rfl) (by simp) (AllReadyH.cons rfl (fun K hK => ?_) AllReadyH.nil)
                  refine step_appD 57 rfl (by kernel_rfl) (.tmp 43) (.tmp 56) 22 rfl rfl rfl HRUN.out ?_
                  refine hK.out _ _ trivial (fun _ => ?_)
                  clear hK K
                  try simp only [Act.put, List.setIfInBounds_toArray, List.set_cons_zero, List.set_cons_succ]
                  refine takeYes (i := 15) (k := 6) (v := .slice a7 (i + 1) c7) rfl (by kernel_rfl) (by kernel_rfl) (by kernel_rfl) (by kernel_rfl) (fun _ _ _ h => h) (by kernel_rfl) ?_ trivial ?_
                  · intro W hSw; first | (go_simp; done) | go_simp
                  try simp only [Act.put, List.setIfInBounds_toArray, List.set_cons_zero, List.set_cons_succ]
                  refine wpAnyH_done (by kernel_rfl) ?_ _
                  clear hHeld HRUN hq4
                  go_wp2_with fail
                  go_roundg (n - (i + 1) + 1)
                  case measure => omega
                  case rel => exact ⟨i + 1, c7, a7, rfl, by go_num, by omega, Nat.le_refl _, HO7, HB7⟩
      · as_aux_lemma =>
          have hmk := HMK.out
          go_simp
          clear hmk
          have HZK := (mkB_own wq0 S (by omega)).rd
          have hb : Below wq0.heap.size wq0 (wq0.alloc (.cells (madeCells #[.int .u8 0] S) 5)) := (Below.refl _ _).alloc (Nat.le_refl _) _
          obtain ⟨gz, hgz⟩ : ∃ x, wq0.heap.size = x := ⟨_, rfl⟩
          obtain ⟨wq1, hwq⟩ : ∃ x, wq0.alloc (.cells (madeCells #[.int .u8 0] S) 5) = x := ⟨_, rfl⟩
          rw [hwq] at HZK hb ⊢
          have hq1 : Below wr.heap.size wr wq1 := hq0.trans (hb.mono hq0.size)
          rw [hgz] at HZK ⊢
          refine hK.out _ _ trivial (fun _ => ?_)
          clear hK K hb hwq hgz hq0
          try simp only [Act.put, List.setIfInBounds_toArray, List.set_cons_zero, List.set_cons_succ]
          refine wpAnyH_ready (rs := [3, 11]) (by kernel_rfl) (by simp) (AllReadyH.cons rfl (fun K hK => ?_) (AllReadyH.cons rfl (fun K hK => ?_) (AllReadyH.nil)))
          · as_aux_lemma =>
              go_simp
              refine (HN.out wq1).mono ?_
              rintro e wq2 ⟨rfl, hb⟩
              have hq2 : Below wr.heap.size wr wq2 := hq1.trans (hb.mono hq1.size)
              replace HZK := HZK.below hb
              refine hK.out _ _ trivial (fun _ => ?_)
              clear hK K hb hq1
              try simp only [Act.put, List.setIfInBounds_toArray, List.set_cons_zero, List.set_cons_succ]
              refine wpAnyH_ready (rs := [8, 11]) (by kernel_rfl) (by simp) (AllReadyH.cons rfl (fun K hK => ?_) (AllReadyH.cons rfl (fun K hK => ?_) (AllReadyH.nil)))
              · as_aux_lemma =>
                  go_simp
                  refine (HN.out wq2).mono ?_
                  rintro e wq3 ⟨rfl, hb⟩
                  have hq3 : Below wr.heap.size wr wq3 := hq2.trans (hb.mono hq2.size)
                  replace HZK := HZK.below hb
                  refine hK.out _ _ trivial (fun _ => ?_)
                  clear hK K hb hq2
                  try simp only [Act.put, List.setIfInBounds_toArray, List.set_cons_zero, List.set_cons_succ]
                  refine wpAnyH_ready (rs := [11]) (by kernel_rfl) (by simp) (AllReadyH.cons rfl (fun K hK => ?_) (AllReadyH.nil))
                  have hcv := HZK.text
                  rw [HZR.out] at hcv
                  go_simp
                  clear hcv
                  refine hK.out _ _ trivial (fun _ => ?_)
                  clear hK K
                  try simp only [Act.put, List.setIfInBounds_toArray, List.set_cons_zero, List.set_cons_succ]
                  refine takeBuild (i := 12) (k := 55) rfl (by kernel_rfl) (by kernel_rfl) (by kernel_rfl) (by kernel_rfl) (fun _ _ _ h => h) (by kernel_rfl) _ _ #[(0, .string X), (1, .int .i64 ((i : Int) + 1)), (2, .int .i64 1), (3, .string X), (4, .string Z)] rfl (by kernel_rfl) (bdE X X Z ((i : Int) + 1) 1) trivial ?_
                  try simp only [Act.put, List.setIfInBounds_toArray, List.set_cons_zero, List.set_cons_succ]
                  obtain ⟨v7, w7, hrun, o7, b7, -, -⟩ := run_oneK (ty := 22) elem_ent encEnt_len (w := wq3) (HO.out.below hq3) (mE S i) (enc_cells _) (by rw [mL_len]; omega) (by rw [mL_len]; unfold maxLen; omega) (Nat.le_trans HB.out.size hq3.size)
                  rw [HEN.out] at hrun
                  rw [← mL_snoc] at o7
                  obtain ⟨a7, c7, rfl, -⟩ := o7.kform
                  rw [mL_len] at o7 hrun
                  have HB7 := Lib.hid ((HB.out.trans (hq3.mono HB.out.size)).trans b7)
                  have HO7 := Lib.hid o7
                  have HRUN := Lib.hid hrun
                  clear o7 b7 hrun HO HB HEN HZK
                  refine wpAnyH_ready (rs := [13]) (by kernel_rfl) (by simp) (AllReadyH.cons rfl (fun K hK => ?_) AllReadyH.nil)
                  refine step_bs 56 rfl (by kernel_rfl) _ _ _ #[(0, .agg #[.string X, .int .i64 ((i : Int) + 1), .int .i64 1, .string X, .string Z])] rfl (by kernel_rfl) (bsE X X Z ((i : Int) + 1) 1 _) ?_
                  refine hK.out _ _ trivial (fun _ => ?_)
                  clear hK K
                  try simp only [Act.put, List.setIfInBounds_toArray, List.set_cons_zero, List.set_cons_succ]
                  refine wpAnyH_ready (rs := [14]) (by kernel_rfl) (by simp) (AllReadyH.cons rfl (fun K hK => ?_) AllReadyH.nil)
                  refine step_appD 57 rfl (by kernel_rfl) (.tmp 43) (.tmp 56) 22 rfl rfl rfl HRUN.out ?_
                  refine hK.out _ _ trivial (fun _ => ?_)
                  clear hK K
                  try simp only [Act.put, List.setIfInBounds_toArray, List.set_cons_zero, List.set_cons_succ]
                  refine takeYes (i := 15) (k := 6) (v := .slice a7 (i + 1) c7) rfl (by kernel_rfl) (by kernel_rfl) (by kernel_rfl) (by kernel_rfl) (fun _ _ _ h => h) (by kernel_rfl) ?_ trivial ?_
                  · intro W hSw; first | (go_simp; done) | go_simp
                  try simp only [Act.put, List.setIfInBounds_toArray, List.set_cons_zero, List.set_cons_succ]
                  refine wpAnyH_done (by kernel_rfl) ?_ _
                  clear hHeld HRUN hq3
                  go_wp2_with fail
                  go_roundg (n - (i + 1) + 1)
                  case measure => omega
                  case rel => exact ⟨i + 1, c7, a7, rfl, by go_num, by omega, Nat.le_refl _, HO7, HB7⟩
              · as_aux_lemma =>
                  have hcv := HZK.text
                  rw [HZR.out] at hcv
                  go_simp
                  clear hcv
                  refine hK.out _ _ trivial (fun _ => ?_)
                  clear hK K
                  try simp only [Act.put, List.setIfInBounds_toArray, List.set_cons_zero, List.set_cons_succ]
                  refine wpAnyH_ready (rs := [8]) (by kernel_rfl) (by simp) (AllReadyH.cons rfl (fun K hK => ?_) (AllReadyH.nil))
                  go_simp
                  refine (HN.out wq2).mono ?_
                  rintro e wq4 ⟨rfl, hb⟩
                  have hq4 : Below wr.heap.size wr wq4 := hq2.trans (hb.mono hq2.size)
                  replace HZK := HZK.below hb
                  refine hK.out _ _ trivial (fun _ => ?_)
                  clear hK K hb hq2
                  try simp only [Act.put, List.setIfInBounds_toArray, List.set_cons_zero, List.set_cons_succ]
                  refine takeBuild (i := 12) (k := 55) rfl (by kernel_rfl) (by kernel_rfl) (by kernel_rfl) (by kernel_rfl) (fun _ _ _ h => h) (by kernel_rfl) _ _ #[(0, .string X), (1, .int .i64 ((i : Int) + 1)), (2, .int .i64 1), (3, .string X), (4, .string Z)] rfl (by kernel_rfl) (bdE X X Z ((i : Int) + 1) 1) trivial ?_
                  try simp only [Act.put, List.setIfInBounds_toArray, List.set_cons_zero, List.set_cons_succ]
                  obtain ⟨v7, w7, hrun, o7, b7, -, -⟩ := run_oneK (ty := 22) elem_ent encEnt_len (w := wq4) (HO.out.below hq4) (mE S i) (enc_cells _) (by rw [mL_len]; omega) (by rw [mL_len]; unfold maxLen; omega) (Nat.le_trans HB.out.size hq4.size)
                  rw [HEN.out] at hrun
                  rw [← mL_snoc] at o7
                  obtain ⟨a7, c7, rfl, -⟩ := o7.kform
                  rw [mL_len] at o7 hrun
                  have HB7 := Lib.hid ((HB.out.trans (hq4.mono HB.out.size)).trans b7)
                  have HO7 := Lib.hid o7
                  have HRUN := Lib.hid hrun
                  clear o7 b7 hrun HO HB HEN HZK
                  refine wpAnyH_ready (rs := [13]) (by kernel_rfl) (by simp) (AllReadyH.cons rfl (fun K hK => ?_) AllReadyH.nil)
                  refine step_bs 56 rfl (by kernel_rfl) _ _ _ #[(0, .agg #[.string X, .int .i64 ((i : Int) + 1), .int .i64 1, .string X, .string Z])] rfl (by kernel_rfl) (bsE X X Z ((i : Int) + 1) 1 _) ?_
                  refine hK.out _ _ trivial (fun _ => ?_)
                  clear hK K
                  try simp only [Act.put, List.setIfInBounds_toArray, List.set_cons_zero, List.set_cons_succ]
                  refine wpAnyH_ready (rs := [14]) (by kernel_rfl) (by simp) (AllReadyH.cons rfl (fun K hK => ?_) AllReadyH.nil)
                  refine step_appD 57 rfl (by kernel_rfl) (.tmp 43) (.tmp 56) 22 rfl rfl rfl HRUN.out ?_
                  refine hK.out _ _ trivial (fun _ => ?_)
                  clear hK K
                  try simp only [Act.put, List.setIfInBounds_toArray, List.set_cons_zero, List.set_cons_succ]
                  refine takeYes (i := 15) (k := 6) (v := .slice a7 (i + 1) c7) rfl (by kernel_rfl) (by kernel_rfl) (by kernel_rfl) (by kernel_rfl) (fun _ _ _ h => h) (by kernel_rfl) ?_ trivial ?_
                  · intro W hSw; first | (go_simp; done) | go_simp
                  try simp only [Act.put, List.setIfInBounds_toArray, List.set_cons_zero, List.set_cons_succ]
                  refine wpAnyH_done (by kernel_rfl) ?_ _
                  clear hHeld HRUN hq4
                  go_wp2_with fail
                  go_roundg (n - (i + 1) + 1)
                  case measure => omega
                  case rel => exact ⟨i + 1, c7, a7, rfl, by go_num, by omega, Nat.le_refl _, HO7, HB7⟩
          · as_aux_lemma =>
              have hcv := HZK.text
              rw [HZR.out] at hcv
              go_simp
              clear hcv
              refine hK.out _ _ trivial (fun _ => ?_)
              clear hK K
              try simp only [Act.put, List.setIfInBounds_toArray, List.set_cons_zero, List.set_cons_succ]
              refine wpAnyH_ready (rs := [3]) (by kernel_rfl) (by simp) (AllReadyH.cons rfl (fun K hK => ?_) (AllReadyH.nil))
              go_simp
              refine (HN.out wq1).mono ?_
              rintro e wq3 ⟨rfl, hb⟩
              have hq3 : Below wr.heap.size wr wq3 := hq1.trans (hb.mono hq1.size)
              replace HZK := HZK.below hb
              refine hK.out _ _ trivial (fun _ => ?_)
              clear hK K hb hq1
              try simp only [Act.put, List.setIfInBounds_toArray, List.set_cons_zero, List.set_cons_succ]
              refine wpAnyH_ready (rs := [8]) (by kernel_rfl) (by simp) (AllReadyH.cons rfl (fun K hK => ?_) (AllReadyH.nil))
              go_simp
              refine (HN.out wq3).mono ?_
              rintro e wq4 ⟨rfl, hb⟩
              have hq4 : Below wr.heap.size wr wq4 := hq3.trans (hb.mono hq3.size)
              replace HZK := HZK.below hb
              refine hK.out _ _ trivial (fun _ => ?_)
              clear hK K hb hq3
              try simp only [Act.put, List.setIfInBounds_toArray, List.set_cons_zero, List.set_cons_succ]
              refine takeBuild (i := 12) (k := 55) rfl (by kernel_rfl) (by kernel_rfl) (by kernel_rfl) (by kernel_rfl) (fun _ _ _ h => h) (by kernel_rfl) _ _ #[(0, .string X), (1, .int .i64 ((i : Int) + 1)), (2, .int .i64 1), (3, .string X), (4, .string Z)] rfl (by kernel_rfl) (bdE X X Z ((i : Int) + 1) 1) trivial ?_
              try simp only [Act.put, List.setIfInBounds_toArray, List.set_cons_zero, List.set_cons_succ]
              obtain ⟨v7, w7, hrun, o7, b7, -, -⟩ := run_oneK (ty := 22) elem_ent encEnt_len (w := wq4) (HO.out.below hq4) (mE S i) (enc_cells _) (by rw [mL_len]; omega) (by rw [mL_len]; unfold maxLen; omega) (Nat.le_trans HB.out.size hq4.size)
              rw [HEN.out] at hrun
              rw [← mL_snoc] at o7
              obtain ⟨a7, c7, rfl, -⟩ := o7.kform
              rw [mL_len] at o7 hrun
              have HB7 := Lib.hid ((HB.out.trans (hq4.mono HB.out.size)).trans b7)
              have HO7 := Lib.hid o7
              have HRUN := Lib.hid hrun
              clear o7 b7 hrun HO HB HEN HZK
              refine wpAnyH_ready (rs := [13]) (by kernel_rfl) (by simp) (AllReadyH.cons rfl (fun K hK => ?_) AllReadyH.nil)
              refine step_bs 56 rfl (by kernel_rfl) _ _ _ #[(0, .agg #[.string X, .int .i64 ((i : Int) + 1), .int .i64 1, .string X, .string Z])] rfl (by kernel_rfl) (bsE X X Z ((i : Int) + 1) 1 _) ?_
              refine hK.out _ _ trivial (fun _ => ?_)
              clear hK K
              try simp only [Act.put, List.setIfInBounds_toArray, List.set_cons_zero, List.set_cons_succ]
              refine wpAnyH_ready (rs := [14]) (by kernel_rfl) (by simp) (AllReadyH.cons rfl (fun K hK => ?_) AllReadyH.nil)
              refine step_appD 57 rfl (by kernel_rfl) (.tmp 43) (.tmp 56) 22 rfl rfl rfl HRUN.out ?_
              refine hK.out _ _ trivial (fun _ => ?_)
              clear hK K
              try simp only [Act.put, List.setIfInBounds_toArray, List.set_cons_zero, List.set_cons_succ]
              refine takeYes (i := 15) (k := 6) (v := .slice a7 (i + 1) c7) rfl (by kernel_rfl) (by kernel_rfl) (by kernel_rfl) (by kernel_rfl) (fun _ _ _ h => h) (by kernel_rfl) ?_ trivial ?_
              · intro W hSw; first | (go_simp; done) | go_simp
              try simp only [Act.put, List.setIfInBounds_toArray, List.set_cons_zero, List.set_cons_succ]
              refine wpAnyH_done (by kernel_rfl) ?_ _
              clear hHeld HRUN hq4
              go_wp2_with fail
              go_roundg (n - (i + 1) + 1)
              case measure => omega
              case rel => exact ⟨i + 1, c7, a7, rfl, by go_num, by omega, Nat.le_refl _, HO7, HB7⟩
    · obtain rfl : i = n := by omega
      have h0' : ¬ (i : Int) < (i : Int) := by omega
      have HAR := Lib.hid (mL_are (S := S) hn1 hn2)
      have HBD := Lib.hid (build_good (mL S i) HAR.out.1 (by rw [mL_len]; omega) HAR.out (mL_fit hS i) (.slice a6 i c6) wr (HT.out.below HB.out) (HO.out.rd encEnt_len))
      clear HO HAR HMK
      go_wp2_with fail
      refine HBD.out.mono ?_
      rintro e w2 ⟨v2, ps, ss, rfl, hmd, o2, b2⟩
      obtain ⟨a2, n2, c2, rfl, -⟩ := o2.form
      have HB2 := Lib.hid (HB.out.trans (b2.mono HB.out.size))
      have HOP := Lib.hid (open_good hmd _ w2 (HT.out.below HB2.out) o2.rd)
      have HMD := Lib.hid hmd
      clear hmd o2 b2 HBD HB
      go_wp2_with fail
      refine HOP.out.mono ?_
      rintro e w3 ⟨g, rfl, htk, b3⟩
      have HB3 := Lib.hid (HB2.out.trans (b3.mono HB2.out.size))
      have HTK := Lib.hid htk
      have hle := tlen_any htk.at'
      have hbl := tblocks_any htk.at'
      have hfl : (flatP ps).length = i := by rw [htk.flat, mL_len]
      rw [hfl] at hle
      have HLE := Lib.hid hle
      have HBL := Lib.hid hbl
      obtain ⟨np, hnp⟩ : ∃ x, ps.length = x := ⟨_, rfl⟩
      obtain ⟨P, hP⟩ : ∃ x, i * (S + 10) = x := ⟨_, rfl⟩
      have hPI : (i : Int) * ((S : Int) + 10) = (P : Int) := by rw [← hP]; simp
      have hPb : P ≤ 120 * 70 := by rw [← hP]; exact Nat.mul_le_mul hn2 (by omega)
      have hnp2 : 1000 < P → 2 ≤ np := fun h => by rw [← hnp]; exact mL_blocks hS HMD.out (by rw [hP]; exact h)
      rw [hnp] at HBL
      have hnl : ((i : Int) != (i : Int)) = false := by simp
      clear htk b3 HOP HB2 hle hbl hfl HMD hnp hP
      go_upto_region 13 with fail
      go_cut [91] (fun c wx => c = .bool false ∧ w3 = wx)
      case first =>
        as_aux_lemma =>
        by_cases hp : 1000 < P
        · have hp' : (1000 : Int) < (P : Int) := by omega
          have hq := hnp2 hp
          have hq' : ¬ (np : Int) < 2 := by omega
          go_wp2_with fail
          refine HLE.out.mono ?_
          rintro e w' ⟨rfl, rfl⟩
          go_wp2_with fail
          refine HBL.out.mono ?_
          rintro e w' ⟨rfl, rfl⟩
          go_wp2_with fail
          go_meet
          exact ⟨congrArg Value.bool (decide_eq_false (by omega)), rfl⟩
        · have hp' : ¬ (1000 : Int) < (P : Int) := by omega
          go_wp2_with fail
          refine HLE.out.mono ?_
          rintro e w' ⟨rfl, rfl⟩
          go_wp2_with fail
          go_meet
          exact ⟨rfl, rfl⟩
      case rest =>
      obtain ⟨rfl, rfl⟩ := hcut
      clear HLE HBL hPI hPb hnp2 hnl
      generalize hnn : i = n at *
      go_wp2_with fail
      go_loopg [12] n (fun kk vi wr => ∃ i : Nat, vi = .int .i64 (i : Int) ∧ i ≤ n ∧ n - i ≤ kk ∧ Hid (Below w3.heap.size w3 wr))
      case atStart => exact ⟨0, rfl, by omega, by omega, Lib.hid (Below.refl _ _)⟩
      case round =>
        obtain ⟨i, rfl, hi, hik, HB⟩ := hrel
        by_cases h1 : i < n
        · have hi1 : (i : Int) < (n : Int) := by omega
          have hi0 : (0 : Int) ≤ (i : Int) := by omega
          have hi2 : (i : Int) < 120 := by omega
          have HE := Lib.hid fun W => name_ev i (by omega) W
          have HD := Lib.hid fun W => name_od i (by omega) W
          have HG := Lib.hid fun W (hW : Below wr.heap.size wr W) => get_many (HTK.out.below (HB.out.trans (hW.mono HB.out.size))) hn2 h1
          have HX := Lib.hid fun W (hW : Below wr.heap.size wr W) => get_manyno (HTK.out.below (HB.out.trans (hW.mono HB.out.size))) hn2 h1
          have HF := Lib.hid fun W (hW : Below wr.heap.size wr W) => from_many (HTK.out.below (HB.out.trans (hW.mono HB.out.size))) hn2 h1
          generalize nmK (2 * i) = X at *
          generalize nmK (2 * i + 1) = Y at *
          generalize zrT S = Z at *
          go_wp2_with fail
          refine (HE.out wr).mono ?_
          rintro e wa ⟨rfl, ba⟩
          have HBa := Lib.hid ba
          have HGa := Lib.hid (HG.out wa ba)
          clear ba HE HG
          go_wp2_with fail
          refine HGa.out.mono ?_
          rintro e wb ⟨rfl, bb⟩
          have HBb := Lib.hid (HBa.out.trans (bb.mono HBa.out.size))
          clear bb HBa HGa
          go_upto_region 19 with fail
          have hbk : BlkAt (wb.alloc (.cells #[.string X, .int .i64 ((i : Int) + 1), .int .i64 1, .string X, .string Z] 39)) wb.heap.size #[.string X, .int .i64 ((i : Int) + 1), .int .i64 1, .string X, .string Z] 39 := BlkAt.new _ _ _
          have hbc := HBb.out.alloc HBb.out.size (.cells #[.string X, .int .i64 ((i : Int) + 1), .int .i64 1, .string X, .string Z] 39)
          obtain ⟨g5, hg5⟩ : ∃ x, wb.heap.size = x := ⟨_, rfl⟩
          rw [hg5] at hbk ⊢
          obtain ⟨wc, hwc⟩ : ∃ x, wb.alloc (.cells #[.string X, .int .i64 ((i : Int) + 1), .int .i64 1, .string X, .string Z] 39) = x := ⟨_, rfl⟩
          rw [hwc] at hbk hbc ⊢
          have HBK := Lib.hid hbk
          have HBc := Lib.hid hbc
          clear hbk hbc hwc hg5 HBb
          go_wp2_with fail
          refine (HD.out wc).mono ?_
          rintro e wd ⟨rfl, bd⟩
          have HBd := Lib.hid (HBc.out.trans (bd.mono HBc.out.size))
          have HBKd := Lib.hid (HBK.out.below bd)
          have HXd := Lib.hid (HX.out wd HBd.out)
          clear bd HBc HBK HX
          go_wp2_with fail
          refine HXd.out.mono ?_
          rintro e we ⟨rfl, be⟩
          have HBe := Lib.hid (HBd.out.trans (be.mono HBd.out.size))
          have HBKe := Lib.hid (HBKd.out.below be)
          clear be HXd HBd HBKd
          go_upto_region 20 with fail
          have hbf := HBe.out.alloc HBe.out.size (.cells #[.string ⟨#[]⟩, .int .i64 0, .int .i64 0, .string ⟨#[]⟩, .string ⟨#[]⟩] 39)
          have hbkf := HBKe.out.below ((Below.refl _ we).alloc (Nat.le_refl _) (.cells #[.string ⟨#[]⟩, .int .i64 0, .int .i64 0, .string ⟨#[]⟩, .string ⟨#[]⟩] 39))
          obtain ⟨wf, hwf⟩ : ∃ x, we.alloc (.cells #[.string ⟨#[]⟩, .int .i64 0, .int .i64 0, .string ⟨#[]⟩, .string ⟨#[]⟩] 39) = x := ⟨_, rfl⟩
          rw [hwf] at hbf hbkf ⊢
          have HBf := Lib.hid hbf
          have HBKf := Lib.hid hbkf
          clear hbf hbkf hwf HBe HBKe
          go_wp2_with fail
          refine (HD.out wf).mono ?_
          rintro e wg ⟨rfl, bg⟩
          have HBg := Lib.hid (HBf.out.trans (bg.mono HBf.out.size))
          have HBKg := Lib.hid (HBKf.out.below bg)
          have HFg := Lib.hid (HF.out wg HBg.out)
          clear bg HBf HBKf HF HD
          go_wp2_with fail
          refine HFg.out.mono ?_
          rintro e wh ⟨ah, m, ch, rfl, hm, bh⟩
          have hmi : (n : Int) - 1 - (i : Int) = (m : Int) := by omega
          have HBh := Lib.hid (HB.out.trans ((HBg.out.trans (bh.mono HBg.out.size)).mono HB.out.size))
          have hbkh := HBKg.out.below bh
          have y1 : wh.cell? ⟨g5, 1, none⟩ = some (.int .i64 ((i : Int) + 1)) := hbkh.at 1
          have hgl := hbkh.lt
          have hnm : ((m : Int) != (m : Int)) = false := by simp
          have hii : (((i : Int) + 1) != ((i : Int) + 1)) = false := by simp
          clear bh HBg HBKg HFg hbkh hm
          go_wp2_with fail
          go_roundg (n - (i + 1))
          case measure => omega
          case rel => exact ⟨i + 1, by go_num, by omega, Nat.le_refl _, HBh⟩
        · obtain rfl : i = n := by omega
          have hi1 : ¬ (i : Int) < (i : Int) := by omega
          go_wp2_with fail
          go_ret
          exact ⟨rfl, HB3.out.trans (HB.out.mono HB3.out.size)⟩
end Go.Proofs.YtennpdhnjaemeaaDoor
