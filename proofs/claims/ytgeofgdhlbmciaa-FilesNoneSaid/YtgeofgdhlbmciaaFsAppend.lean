/- simfs' Append: bytes at a file's end. -/
import Derived.Test.YtgeofgdhlbmciaaFsUsed
import Derived.Test.YtgeofgdhlbmciaaTake
import Derived.Deep.RegionHeld3
namespace Go.Proofs.Ytgeofgdhlbmciaa
set_option linter.unusedVariables false
open Go.RowKit Go.Maps
/-- 'append', by what it gives. -/
theorem wp_appRun {P : Program} {ops : Array Oper} {rest : List Oper} {o : Oper} {a : Act} {w w' : World} {Q : Exit → Act → World → Prop} {v src v' : Value} {t : TypeId} (s x : Operand) (ho : o.op = .call { callee := .builtin .append, args := #[s, x], argTypes := #[t, t] }) (hw : Region.wanted o (yielded ops a.tmps) = true)
    (hs : a.eval s = v) (hx : a.eval x = src) (hr : (Builtin.append_ #[t, t] o.type #[v, src]).run P w = .ok v' w') (h : wpList P ops Q rest (a.put o.dst v') w') : wpList P ops Q (o :: rest) a w := by
  refine wpList_step fun K hK => ?_
  rw [if_pos hw]
  unfold Oper.wp execOp
  simp only [ho, resolve, invoke, builtin, Sem.run_bind, Sem.run_pure, Result.andThen_ok, List.map_toArray, List.map_cons, List.map_nil, hs, hx, hr]
  exact hK _ _ h
theorem append_bd {S : Fs} (h : FsOk S) {n : ByteArray} {i : Nat} (hg : dget n S.now = some i) : (S.file i).bytes.length ≤ S.used := by
  have hm := (dget_mem h.now).1 hg
  unfold Fs.used
  generalize S.now = l at hm
  induction l with
  | nil => exact absurd hm List.not_mem_nil
  | cons y r ih =>
    rw [List.map_cons, List.sum_cons]
    rcases List.mem_cons.1 hm with rfl | hm
    · simp
    · have := ih hm; omega
set_option maxHeartbeats 2000000 in
set_option maxRecDepth 100000 in
theorem append_any (w : World) (b : Nat) (ρ : Nat → Option Role) (S : Fs) (h : FsAt w b ρ S) (n : ByteArray) (hn : n.size ≤ maxLen) (bv0 : Value) (bs : List UInt8) (hbv : RdB w bv0 bs) (hout : OutF ρ bv0) (hbl : bs.length ≤ 1000000000000) :
    Calls Try.prog 12 #[.pointer (some ⟨b, 0, none⟩), .string n, bv0] w (OpAt w b ρ (S.append n bs)) := by
  have HB := Lib.hid (begin_any w b ρ S h)
  have HO := Lib.hid hout
  have HV := Lib.hid hbv
  obtain ⟨a, len, cap, rfl, hlen, hcap⟩ := hbv.form
  have HLE := Lib.hid hlen
  clear h hbv hout hcap hlen
  go_enter Try.func12, Try.ntmps12
  go_wp2_with fail
  refine HB.out.mono ?_
  rintro e w1 ⟨rfl, hA, hU⟩
  have HA := Lib.hid hA
  have HU := Lib.hid hU
  clear hA hU
  obtain ⟨z, hz⟩ : ∃ z, dieN S = z := ⟨_, rfl⟩
  rw [hz]
  by_cases hd : S.dies = true
  · have hr : Hid (S.append n bs = (7, S.begun)) := Lib.hid (by unfold Fs.append; rw [if_pos hd])
    obtain rfl : z = 7 := by rw [← hz]; exact if_pos hd
    clear hz hd
    go_wp2_with fail
    go_ret
    exact OpAt.begun HA.out HU.out hr.out
  · obtain rfl : z = 0 := by rw [← hz]; exact if_neg hd
    clear hz
    have HV1 : Hid (RdB w1 (.slice a len cap) bs) := Lib.hid (rdB_out HV.out (HU.out.own HA.out.role) HO.out)
    obtain ⟨L, hL⟩ := HA.out
    have HL := Lib.hid hL
    have HF := Lib.hid (find_any w1 b ρ S.begun L hL n hn)
    clear hL
    go_wp2_with fail
    refine HF.out.mono ?_
    rintro e w' ⟨rfl, rfl⟩
    rw [nil_ptr]
    obtain ⟨o, ho⟩ : ∃ o, dget n S.begun.now = o := ⟨_, rfl⟩
    rw [ho]
    cases o with
    | none =>
      have hr : Hid (S.append n bs = (3, S.begun)) := Lib.hid (by unfold Fs.append; rw [if_neg hd, show dget n S.now = none from ho])
      clear ho hd
      go_wp2_with fail
      go_ret
      exact OpAt.begun HA.out HU.out hr.out
    | some i =>
      have HUS : Hid (∀ W, Below w1.heap.size w1 W → Calls Try.prog 18 #[.pointer (some ⟨b, 0, none⟩)] W fun e w' => e = .returned (.int .i64 (S.begun.used : Nat)) ∧ Below W.heap.size W w') := Lib.hid fun W hW => used_any W b ρ S.begun (HA.out.below hW)
      have hil : i < S.files.length := HL.out.ok.inNow (n, i) ((dget_mem HL.out.ok.now).1 ho)
      have hfi : S.files[i]? = some (S.file i) := Fs.file_some hil
      have HUB := Lib.hid (append_bd HL.out.ok ho)
      have c3 := HL.out.cells.c3
      have hrm : S.begun.room ≤ 16777216 := HL.out.ok.room
      have hus : S.begun.used ≤ 3355443200 := HL.out.ok.used_bd
      have HR : Hid (S.append n bs = if S.room < S.used + bs.length then (6, S.begun) else (0, { S.begun with files := S.files.set i ⟨(S.file i).bytes ++ bs, (S.file i).synced⟩ })) := Lib.hid (by
        unfold Fs.append; rw [if_neg hd, show dget n S.now = some i from ho])
      have HSR : Hid (S.begun.room = S.room ∧ S.begun.used = S.used) := Lib.hid ⟨rfl, rfl⟩
      obtain ⟨rm, hrme⟩ : ∃ rm, S.begun.room = rm := ⟨_, rfl⟩
      obtain ⟨us, huse⟩ : ∃ us, S.begun.used = us := ⟨_, rfl⟩
      rw [hrme] at c3 hrm HSR
      rw [huse] at HUS hus HSR
      have hrm' : (rm : Int) ≤ 16777216 := by omega
      have hus' : (us : Int) ≤ 3355443200 := by omega
      obtain ⟨x, hx⟩ : ∃ x, decide ((len : Int) > (rm : Int) - (us : Int)) = x := ⟨_, rfl⟩
      have HX := Lib.hid hx
      have HWR : Hid (IntKind.i64.wrap ((rm : Int) - (us : Int)) = (rm : Int) - (us : Int)) := Lib.hid (by rw [IntKind.wrap_i64]; omega)
      clear hrme huse ho hd hx
      go_wp2_with fail
      have HC3 := Lib.hid c3
      clear c3

      have BB : Below w1.heap.size w1 w1 := Below.refl _ _
      refine wp_region_held_drew (S := Below w1.heap.size w1) (by kernel_rfl) (Below.refl _ _).drew (fun hHeld => ?_)
      generalize w1.drew = wd2 at hHeld ⊢
      refine wpAnyH_shift hHeld ?_
      replace BB : Below w1.heap.size w1 wd2 := BB.trans (hHeld.mono BB.size)
      clear hHeld
      refine takeYes (i := 0) (k := 19) (v := .slice a len cap) rfl (by kernel_rfl) (by kernel_rfl) (by kernel_rfl) (by kernel_rfl) (fun _ _ _ h => h) (by kernel_rfl) ?_ (Below.refl _ _) ?_
      · intro W hSw; first | (go_simp; done) | go_simp
      try simp only [Act.put, List.setIfInBounds_toArray, List.set_cons_zero, List.set_cons_succ]
      refine takeYes (i := 1) (k := 20) (v := .int .i64 (len : Int)) rfl (by kernel_rfl) (by kernel_rfl) (by kernel_rfl) (by kernel_rfl) (fun _ _ _ h => h) (by kernel_rfl) ?_ (Below.refl _ _) ?_
      · intro W hSw; first | (go_simp; done) | go_simp
      try simp only [Act.put, List.setIfInBounds_toArray, List.set_cons_zero, List.set_cons_succ]
      refine takeYes (i := 2) (k := 21) (v := .pointer (some ⟨b, 0, none⟩)) rfl (by kernel_rfl) (by kernel_rfl) (by kernel_rfl) (by kernel_rfl) (fun _ _ _ h => h) (by kernel_rfl) ?_ (Below.refl _ _) ?_
      · intro W hSw; first | (go_simp; done) | go_simp
      try simp only [Act.put, List.setIfInBounds_toArray, List.set_cons_zero, List.set_cons_succ]
      refine takeYes (i := 3) (k := 22) (v := .pointer (some ⟨b, 0, none⟩)) rfl (by kernel_rfl) (by kernel_rfl) (by kernel_rfl) (by kernel_rfl) (fun _ _ _ h => h) (by kernel_rfl) ?_ (Below.refl _ _) ?_
      · intro W hSw; first | (go_simp; done) | go_simp
      try simp only [Act.put, List.setIfInBounds_toArray, List.set_cons_zero, List.set_cons_succ]
      refine takeYes (i := 4) (k := 23) (v := .pointer (some ⟨b, 3, none⟩)) rfl (by kernel_rfl) (by kernel_rfl) (by kernel_rfl) (by kernel_rfl) (fun _ _ _ h => h) (by kernel_rfl) ?_ (Below.refl _ _) ?_
      · intro W hSw; first | (go_simp; done) | go_simp
      try simp only [Act.put, List.setIfInBounds_toArray, List.set_cons_zero, List.set_cons_succ]
      refine takeYes (i := 5) (k := 24) (v := .int .i64 (rm : Int)) rfl (by kernel_rfl) (by kernel_rfl) (by kernel_rfl) (by kernel_rfl) (fun _ _ _ h => h) (by kernel_rfl) ?_ (Below.refl _ _) ?_
      · intro W hSw; have c3 := (hSw.cell (p := ⟨b, 3, none⟩) (Nat.lt_of_lt_of_le HA.out.lt BB.size)).trans ((BB.cell (p := ⟨b, 3, none⟩) HA.out.lt).trans HC3.out); first | (go_simp; done) | go_simp
      try simp only [Act.put, List.setIfInBounds_toArray, List.set_cons_zero, List.set_cons_succ]
      refine takeYes (i := 6) (k := 25) (v := .pointer (some ⟨b, 0, none⟩)) rfl (by kernel_rfl) (by kernel_rfl) (by kernel_rfl) (by kernel_rfl) (fun _ _ _ h => h) (by kernel_rfl) ?_ (Below.refl _ _) ?_
      · intro W hSw; first | (go_simp; done) | go_simp
      try simp only [Act.put, List.setIfInBounds_toArray, List.set_cons_zero, List.set_cons_succ]
      refine wpAnyH_ready (rs := [7]) (by kernel_rfl) (by simp) (AllReadyH.cons rfl (fun K hK => ?_) AllReadyH.nil)
      go_simp
      refine (HUS.out _ BB).mono ?_
      rintro e wd3 ⟨rfl, hb3⟩
      refine hK.out _ _ hb3 (fun _ => wpAnyH_shift hb3 ?_)
      clear hK K
      replace BB : Below w1.heap.size w1 wd3 := BB.trans (hb3.mono BB.size)
      clear hb3
      try simp only [Act.put, List.setIfInBounds_toArray, List.set_cons_zero, List.set_cons_succ]
      refine takeYes (i := 8) (k := 27) (v := .int .i64 ((rm : Int) - (us : Int))) rfl (by kernel_rfl) (by kernel_rfl) (by kernel_rfl) (by kernel_rfl) (fun _ _ _ h => h) (by kernel_rfl) ?_ (Below.refl _ _) ?_
      · intro W hSw; have hwr := HWR.out; first | (go_simp; done) | go_simp
      try simp only [Act.put, List.setIfInBounds_toArray, List.set_cons_zero, List.set_cons_succ]
      refine takeYes (i := 9) (k := 28) (v := .bool x) rfl (by kernel_rfl) (by kernel_rfl) (by kernel_rfl) (by kernel_rfl) (fun _ _ _ h => h) (by kernel_rfl) ?_ (Below.refl _ _) ?_
      · intro W hSw; have hxx : decide ((rm : Int) - (us : Int) < (len : Int)) = x := HX.out; first | (go_simp; done) | go_simp
      try simp only [Act.put, List.setIfInBounds_toArray, List.set_cons_zero, List.set_cons_succ]
      refine wpAnyH_done (by kernel_rfl) ?_ _
      have hBB := Lib.hid BB
      cases x with
      | true =>
        have hr : Hid (S.append n bs = (6, S.begun)) := Lib.hid (by
          have h1 := HX.out
          rw [decide_eq_true_eq] at h1
          have h2 := HLE.out
          have h3 := HSR.out
          rw [HR.out, if_pos (by omega)])
        clear BB
        go_wp2_with fail
        go_ret
        exact OpAt.begun (HA.out.below hBB.out) (HU.out.trans (UpdF.of hBB.out)) hr.out
      | false =>
        have hle : us + bs.length ≤ rm := by
          have h1 := HX.out
          rw [decide_eq_false_iff_not] at h1
          have h2 := HLE.out
          omega
        have hr : Hid (S.append n bs = (0, { S.begun with files := S.files.set i ⟨(S.file i).bytes ++ bs, (S.file i).synced⟩ })) := Lib.hid (by
          have h3 := HSR.out
          rw [HR.out, if_neg (by omega)])
        have HL2 := HL.out.same (w' := wd3) (fun k hk => BB.block k (HL.out.top k hk)) BB.size
        have hf := HL2.files i _ hfi
        have hub : (S.file i).bytes.length ≤ us := by have h1 := HUB.out; have h2 := HSR.out.2; have h3 : S.begun.used = S.used := rfl; show (S.begun.file i).bytes.length ≤ us; omega
        obtain ⟨v', w3, g0, g1, g2, g3⟩ := run_appGB (ty := 23) hf.own (HV1.out.below BB) (by omega)
        obtain ⟨a', len', cap', rfl⟩ := row_form g1
        have hcell := hf.cell
        have hblk : ∀ k, (L.fv i).ownBlock = some k → k ≠ L.fb i := fun k hk e => by
          have h1 := hf.brole k hk
          rw [e, hf.role] at h1; cases h1
        have hcell3 : w3.heap[L.fb i]? = some (.cells (filV (L.fv i) (S.file i).synced) 47 (0, 0)) := (g2.block _ (Array.getElem?_eq_some_iff.1 hcell).1 (fun e => hblk _ e.symm rfl)).trans hcell
        have HX2 : Hid (FsTo w b ρ (w3.setCell ⟨L.fb i, 0, none⟩ (.slice a' len' cap')) { S.begun with files := S.files.set i ⟨(S.file i).bytes ++ bs, (S.file i).synced⟩ }) := Lib.hid (by
          have u : UpdF (fun k => k = L.fb i ∨ (L.fv i).ownBlock = some k) wd3 (w3.setCell ⟨L.fb i, 0, none⟩ (.slice a' len' cap')) := UpdF.set (UpdF.grown g2 fun k hk => .inr hk) _ _ _ (.inl rfl)
          have hbd := HL.out.ok.file_bd i
          refine (HL2.setFile (f' := ⟨(S.file i).bytes ++ bs, (S.file i).synced⟩) (v' := .slice a' len' cap') hfi u ?_ ?_ g3 ⟨?_, ?_⟩).pre (((HU.out.own HA.out.role)).trans (UpdF.of BB)) fun k hk => .inl hk
          · rw [cells_set hcell3]; rfl
          · refine row_same g1 fun k hk => Below.heap_setCell _ _ _ _ fun e => ?_
            have e' : k = L.fb i := e
            rcases g3 k hk with h | h
            · exact hblk k h e'
            · have := (Array.getElem?_eq_some_iff.1 hcell).1; omega
          · rw [List.length_append]
            have := (HL.out.ok.file_bd i).1
            show (S.file i).synced ≤ _
            have h2 : (S.begun.file i).synced = (S.file i).synced := rfl
            have h3 : (S.begun.file i).bytes = (S.file i).bytes := rfl
            rw [h2, h3] at this
            omega
          · rw [List.length_append]
            show (S.file i).bytes.length + bs.length ≤ _
            omega)
        obtain ⟨fa, fl, fc, hfv⟩ := row_form hf.own
        rw [hfv] at hcell hcell3 g0
        have c0 := (fil_cells hcell).c0
        have d0 := (fil_cells hcell3).c0
        have f0 := (fil_cells hcell3).free 0
        clear hblk hcell hcell3 hf g1 g2 g3 HL2 BB hfv hub hle
        go_wp2_with (first | (at_builtin; refine wp_appRun (.tmp 33) (.tmp 34) rfl rfl rfl rfl g0 ?_) | fail)
        go_ret
        unfold OpAt
        rw [hr.out]
        exact ⟨rfl, HX2.out⟩
end Go.Proofs.Ytgeofgdhlbmciaa
