/- The walk of a builder's Add. -/
import Derived.Test.YtaddihabjdoihaaBdAt
import Derived.Test.YtaddihabjdoihaaStrClone
import Derived.Test.YtaddihabjdoihaaRegTail
import Derived.Test.YtaddihabjdoihaaNumPut
import Derived.Deep.CutBlock
namespace Go.Proofs.Ytaddihabjdoihaa
set_option linter.unusedVariables false
set_option maxRecDepth 100000
open Go.RowKit
/-- 'append(b, s...)' as one step of a region, the slot that it writes named. -/
theorem step_appT {P : Program} {ops : Array Oper} {o : Oper} {a : Act} {w : World} {K : Act → World → Prop} {Q : Exit → Act → World → Prop} {E : Prop} (d : Nat) (hd : o.dst = some d) (hw : Region.wanted o (yielded ops a.tmps) = true)
    (s x : Operand) (t u : TypeId) (ho : o.op = Op.call { callee := Callee.builtin Builtin.append, args := #[s, x], argTypes := #[t, u] }) {v src v' : Value} {w' : World} (hs : a.eval s = v) (hx : a.eval x = src)
    (hr : (Builtin.append_ #[t, u] o.type #[v, src]).run P w = .ok v' w') (hK : K (a.put (some d) v') w') : if Region.wanted o (yielded ops a.tmps) = true then Oper.wp P o a w K Q else E := by
  rw [if_pos hw]
  unfold Oper.wp execOp
  simp only [ho, resolve, invoke, builtin, Sem.run_bind, Sem.run_pure, Result.andThen_ok, List.map_toArray, List.map_cons, List.map_nil, hs, hx, hr]
  have hK' : K (a.put o.dst v') w' := by rw [hd]; exact hK
  exact hK'
theorem wp_appTG {ops : Array Oper} {rest : List Oper} {o : Oper} {a : Act} {w : World} {Q : Exit → Act → World → Prop} (sl x : Operand) (ho : o.op = .call { callee := .builtin .append, args := #[sl, x], argTypes := #[33, 9] }) (hw : Region.wanted o (yielded ops a.tmps) = true)
    {v : Value} {bs : List UInt8} (hs : a.eval sl = v) (hown : OwnB 0 w v bs) (s : ByteArray) (hx : a.eval x = .string s) (hlen : bs.length + s.size ≤ 140737488355328)
    (h : ∀ v' w', OwnB 0 w' v' (bs ++ s.data.toList) → w.grownBy w' v.ownBlock → (∀ g, v'.ownBlock = some g → v.ownBlock = some g ∨ w.heap.size ≤ g) → wpList Try.prog ops Q rest (a.put o.dst v') w') : wpList Try.prog ops Q (o :: rest) a w := by
  refine wpList_step fun K hK => ?_
  rw [if_pos hw]
  obtain ⟨v', w', hr, h2, h3, h4⟩ := run_appTG (ty := o.type) hown s hlen
  unfold Oper.wp execOp
  simp only [ho, resolve, invoke, builtin, Sem.run_bind, Sem.run_pure, Result.andThen_ok, List.map_toArray, List.map_cons, List.map_nil, hs, hx, hr]
  exact hK _ _ (h v' w' h2 h3 h4)
/-- 'append', by what it gives. -/
theorem wp_appZ {P : Program} {ops : Array Oper} {rest : List Oper} {o : Oper} {a : Act} {w w' : World} {Q : Exit → Act → World → Prop} {v src v' : Value} {t u : TypeId} (s x : Operand) (ho : o.op = .call { callee := .builtin .append, args := #[s, x], argTypes := #[t, u] }) (hw : Region.wanted o (yielded ops a.tmps) = true)
    (hs : a.eval s = v) (hx : a.eval x = src) (hr : (Builtin.append_ #[t, u] o.type #[v, src]).run P w = .ok v' w') (h : wpList P ops Q rest (a.put o.dst v') w') : wpList P ops Q (o :: rest) a w := by
  refine wpList_step fun K hK => ?_
  rw [if_pos hw]
  unfold Oper.wp execOp
  simp only [ho, resolve, invoke, builtin, Sem.run_bind, Sem.run_pure, Result.andThen_ok, List.map_toArray, List.map_cons, List.map_nil, hs, hx, hr]
  exact hK _ _ h
def addOk (rs : List Kv) (k : List UInt8) : Prop := rs.length = 0 ∨ lastK [] rs < k
instance (rs : List Kv) (k : List UInt8) : Decidable (addOk rs k) := inferInstanceAs (Decidable (_ ∨ _))
def addK (rs : List Kv) (r : Kv) : List Kv := if addOk rs r.k then rs ++ [r] else rs
theorem rise_snoc {rs : List Kv} {r : Kv} (h : RiseK rs) (hk : addOk rs r.k) : RiseK (rs ++ [r]) := by
  unfold RiseK at h ⊢
  rw [List.pairwise_append]
  refine ⟨h, List.pairwise_singleton _ _, fun x hx y hy => ?_⟩
  obtain rfl : y = r := by simpa using hy
  rcases hk with hk | hk
  · rw [List.eq_nil_of_length_eq_zero hk] at hx; cases hx
  · rcases List.eq_nil_or_concat rs with rfl | ⟨ys, z, rfl⟩
    · cases hx
    · rw [List.concat_eq_append] at *
      rw [lastK_snoc] at hk
      rcases List.mem_append.1 hx with hx | hx
      · exact List.lt_trans ((List.pairwise_append.1 h).2.2 x hx z (List.mem_singleton_self _)) hk
      · obtain rfl : x = z := by simpa using hx
        exact hk
theorem last_le (rs : List Kv) : (lastK [] rs).length ≤ (bodyB 0 [] rs).length := by
  rcases List.eq_nil_or_concat rs with rfl | ⟨ys, z, rfl⟩
  · exact Nat.le_refl _
  · rw [List.concat_eq_append, lastK_snoc]
    have := (body_small (ys ++ [z]) 0 [] z (by simp)).1
    simpa using this
set_option maxHeartbeats 8000000 in
theorem add_any (b : Nat) (F : Nat → Prop) (rs : List Kv) (key val : ByteArray) (w : World) (h : BdAt w b F rs) (hsz : (bodyB 0 [] rs).length + key.size + val.size ≤ 1000000000) :
    Calls Try.prog 11 #[.pointer (some ⟨b, 0, none⟩), .string key, .string val] w fun e w' => e = .returned (.bool (decide (addOk rs key.data.toList))) ∧ BdTo w b F w' (addK rs ⟨key.data.toList, val.data.toList⟩) := by
  obtain ⟨hri, vr, vp, hL⟩ := h
  have hll := last_le rs
  have hbl := body_len rs 0 []
  obtain ⟨l, hl⟩ : ∃ l : ByteArray, (⟨(lastK [] rs).toArray⟩ : ByteArray) = l := ⟨_, rfl⟩
  have hld : l.data.toList = lastK [] rs := by rw [← hl]
  have hls : l.size = (lastK [] rs).length := by rw [← size_toList, hld]
  rw [hl] at hL
  have HRI := Lib.hid hri
  have HLD := Lib.hid hld
  have HLL := Lib.hid hl
  have hlb : l.size ≤ 1000000000 := by omega
  have hkb : key.size ≤ 1000000000 := by omega
  have hvb : val.size ≤ 1000000000 := by omega
  have hnb : rs.length ≤ 1000000000 := by omega
  obtain ⟨A0, N0, K0, rfl, hN0, -⟩ := hL.rows.form
  obtain ⟨ap, kp, rfl, -⟩ := hL.places.kform
  have L0 := Lib.hid hL
  have hN0b : N0 ≤ 1000000000 := by omega
  obtain ⟨np, hnp⟩ : ∃ np, (bkEnds rs).length = np := ⟨_, rfl⟩
  rw [hnp] at L0
  have HN0 := Lib.hid hN0
  have HSZ := Lib.hid hsz
  by_cases hA : addOk rs key.data.toList
  · have HA := Lib.hid hA
    have hA1 : decide (rs.length = 0 ∨ bl l key) = true := decide_eq_true (by unfold bl; rw [hld]; exact hA)
    have HI : Hid (∀ w, Calls Try.prog 20 #[.int .i64 (rs.length : Int), .string l, .string key] w fun e w' => e = .returned (.bool true) ∧ w' = w) := Lib.hid (by rw [← hA1]; exact isNext_any rs.length (by omega) l key)
    obtain ⟨s, hs⟩ : ∃ s, shB rs.length l.data.toList key.data.toList = s := ⟨_, rfl⟩
    have hsk := (shB_le rs.length l.data.toList key.data.toList).2
    rw [hs, size_toList] at hsk
    have HSH : Hid (∀ w, Calls Try.prog 22 #[.int .i64 (rs.length : Int), .string l, .string key] w fun e w' => e = .returned (.int .i64 (s : Int)) ∧ DrN w w') := Lib.hid (by rw [← hs]; exact shared_any rs.length (by omega) l key (by omega) (by omega))
    obtain ⟨q4, hq4⟩ : ∃ q, decide (rs.length % 4 = 0) = q := ⟨_, rfl⟩
    have HQ4 := Lib.hid hq4
    have HW : Hid (∀ w, Calls Try.prog 21 #[.int .i64 (rs.length : Int)] w fun e w' => e = .returned (.bool q4) ∧ w' = w) := Lib.hid (by rw [← hq4]; exact isWhole_any rs.length (by omega))
    obtain ⟨oth, ho⟩ : ∃ oth, key.size - s = oth := ⟨_, rfl⟩
    have hoi : (key.size : Int) - (s : Int) = (oth : Int) := by omega
    have HP1 : Hid (∀ w, Calls Try.prog 23 #[.int .u64 (s : Int)] w (MkB (putN s) w)) := Lib.hid (put_any s (by omega))
    have HP2 : Hid (∀ w, Calls Try.prog 23 #[.int .u64 (oth : Int)] w (MkB (putN oth) w)) := Lib.hid (put_any oth (by omega))
    have HP3 : Hid (∀ w, Calls Try.prog 23 #[.int .u64 (val.size : Int)] w (MkB (putN val.size) w)) := Lib.hid (put_any val.size (by omega))
    have HCL : Hid (∀ w, Calls Try.prog 24 #[.string key] w fun e w' => e = .returned (.string key) ∧ Below w.heap.size w w') := Lib.hid (fun w => clone_any key w (by omega))
    obtain ⟨KD, hKD⟩ : ∃ KD, key.extract s key.size = KD := ⟨_, rfl⟩
    have hKDl : KD.data.toList = key.data.toList.drop s := by rw [← hKD]; simp [List.take_of_length_le]
    have hKDs : KD.size = oth := by rw [← size_toList, hKDl, List.length_drop, size_toList]; omega
    obtain ⟨R, hR⟩ : ∃ R, bodyB 0 [] rs = R := ⟨_, rfl⟩
    have HLE : Hid (R.length + key.size + val.size ≤ 1000000000 ∧ rs.length ≤ 1000000000 ∧ (putN s).length ≤ 10 ∧ (putN oth).length ≤ 10 ∧ (putN val.size).length ≤ 10 ∧ KD.size ≤ key.size) := Lib.hid ⟨by rw [← hR]; exact hsz, hnb, (putN_len _).2, (putN_len _).2, (putN_len _).2, by omega⟩
    have HRR : Hid (bodyB 0 [] (rs ++ [⟨key.data.toList, val.data.toList⟩]) = R ++ putN s ++ putN oth ++ putN val.size ++ KD.data.toList ++ val.data.toList) := Lib.hid (by
      rw [bodyB_snoc, Nat.zero_add, hR]
      unfold rowB
      simp only
      rw [← hld, hs, hKDl, size_toList, size_toList, ho]
      simp only [List.append_assoc])
    have HPL : Hid (bkEnds (rs ++ [⟨key.data.toList, val.data.toList⟩]) = bkEnds rs ++ if rs.length % 4 = 0 then [N0] else []) := Lib.hid (by
      unfold bkEnds
      rw [endsB_snoc, Nat.zero_add, Nat.zero_add, hN0])
    rw [hR] at L0 hN0 HN0
    clear hL hri hld hl hll hbl hls hsz hA hA1 hs hq4 ho hKDl hR hnp hN0
    have hs0 : (0 : Int) ≤ (s : Int) := by omega
    have hsk2 : (s : Int) ≤ (key.size : Int) := by omega
    rw [decide_eq_true HA.out]
    unfold addK
    rw [if_pos (show addOk rs (⟨key.data.toList, val.data.toList⟩ : Kv).k from HA.out)]
    obtain ⟨⟨c0, c1, c2, c3⟩, cf⟩ := L0.out.cells
    go_enter Try.func11, Try.ntmps11
    go_wp2_with fail
    go_quiet ((go_at_call 20; exact Calls.quiet_of_same (HI.out _)))
    have L1 : Hid (BdL F w (w.drewN nq) b (.slice A0 N0 K0) (.slice ap np kp) rs.length l R (bkEnds rs)) := Lib.hid (L0.out.below (DrN.below ⟨nq, rfl⟩ _))
    clear c0 c1 c2 c3 cf L0 HI
    generalize w.drewN nq = w1 at *
    obtain ⟨⟨c0, c1, c2, c3⟩, cf⟩ := L1.out.cells
    go_wp2_with fail
    refine (HW.out _).mono ?_
    rintro e w1' ⟨rfl, hw1⟩
    subst hw1
    clear HW
    go_upto_if 27 with fail
    clear c0 c1 c2 c3 cf
    go_cut [] (fun wx => ∃ (av : Option Addr) (nv kv : Nat), Hid (BdL F w wx b (.slice A0 N0 K0) (.slice av nv kv) rs.length l R (bkEnds (rs ++ [⟨key.data.toList, val.data.toList⟩]))))
    case first =>
      as_aux_lemma =>
      cases q4 with
      | true =>
        have HE : Hid (bkEnds (rs ++ [⟨key.data.toList, val.data.toList⟩]) = bkEnds rs ++ [N0]) := Lib.hid (by rw [HPL.out, if_pos (of_decide_eq_true HQ4.out)])
        go_wp2_with fail
        generalize w1' = w0 at *
        have L0 := L1
        clear L1
        have hS0 : w0.drew.heap[b]? = w0.heap[b]? := rfl
        obtain ⟨⟨c0, c1, c2, c3⟩, cf⟩ := L0.out.cells
        refine beginK (fun W => W.heap[b]? = w0.heap[b]?) 14 (by kernel_rfl) hS0 (fun hHeld => ?_)
        refine takeK (i := 0) (k := 28) (v := .pointer (some ⟨b, 0, none⟩)) rfl rfl (by kernel_rfl) (by kernel_rfl) (by kernel_rfl) [0] rfl (by decide) (by kernel_rfl) (fun _ _ _ h => h) (by kernel_rfl) ?_ (by assumption) ?_
        · intro W hSw; first | (go_simp; done) | (go_simp; first | exact IntWalk.u64_in _ (by omega) | exact IntWalk.i64_in _ (by omega) | (rw [IntWalk.i64_in _ (by omega)]; omega) | skip)
        try simp only [Act.put, List.setIfInBounds_toArray, List.set_cons_zero, List.set_cons_succ]
        refine takeK (i := 1) (k := 29) (v := .pointer (some ⟨b, 0, none⟩)) rfl rfl (by kernel_rfl) (by kernel_rfl) (by kernel_rfl) [1] rfl (by decide) (by kernel_rfl) (fun _ _ _ h => h) (by kernel_rfl) ?_ (by assumption) ?_
        · intro W hSw; first | (go_simp; done) | (go_simp; first | exact IntWalk.u64_in _ (by omega) | exact IntWalk.i64_in _ (by omega) | (rw [IntWalk.i64_in _ (by omega)]; omega) | skip)
        try simp only [Act.put, List.setIfInBounds_toArray, List.set_cons_zero, List.set_cons_succ]
        refine takeK (i := 2) (k := 30) (v := .pointer (some ⟨b, 0, none⟩)) rfl rfl (by kernel_rfl) (by kernel_rfl) (by kernel_rfl) [2] rfl (by decide) (by kernel_rfl) (fun _ _ _ h => h) (by kernel_rfl) ?_ (by assumption) ?_
        · intro W hSw; first | (go_simp; done) | (go_simp; first | exact IntWalk.u64_in _ (by omega) | exact IntWalk.i64_in _ (by omega) | (rw [IntWalk.i64_in _ (by omega)]; omega) | skip)
        try simp only [Act.put, List.setIfInBounds_toArray, List.set_cons_zero, List.set_cons_succ]
        refine takeK (i := 3) (k := 31) (v := .pointer (some ⟨b, 1, none⟩)) rfl rfl (by kernel_rfl) (by kernel_rfl) (by kernel_rfl) [3] rfl (by decide) (by kernel_rfl) (fun _ _ _ h => h) (by kernel_rfl) ?_ (by assumption) ?_
        · intro W hSw; first | (go_simp; done) | (go_simp; first | exact IntWalk.u64_in _ (by omega) | exact IntWalk.i64_in _ (by omega) | (rw [IntWalk.i64_in _ (by omega)]; omega) | skip)
        try simp only [Act.put, List.setIfInBounds_toArray, List.set_cons_zero, List.set_cons_succ]
        refine takeK (i := 4) (k := 32) (v := .slice ap np kp) rfl rfl (by kernel_rfl) (by kernel_rfl) (by kernel_rfl) [4] rfl (by decide) (by kernel_rfl) (fun _ _ _ h => h) (by kernel_rfl) ?_ (by assumption) ?_
        · intro W hSw; have d1 := (World.cell?_of_block (a := ⟨b, 1, none⟩) hSw).trans c1; first | (go_simp; done) | (go_simp; first | exact IntWalk.u64_in _ (by omega) | exact IntWalk.i64_in _ (by omega) | (rw [IntWalk.i64_in _ (by omega)]; omega) | skip)
        try simp only [Act.put, List.setIfInBounds_toArray, List.set_cons_zero, List.set_cons_succ]
        refine takeK (i := 5) (k := 33) (v := .pointer (some ⟨b, 0, none⟩)) rfl rfl (by kernel_rfl) (by kernel_rfl) (by kernel_rfl) [5] rfl (by decide) (by kernel_rfl) (fun _ _ _ h => h) (by kernel_rfl) ?_ (by assumption) ?_
        · intro W hSw; first | (go_simp; done) | (go_simp; first | exact IntWalk.u64_in _ (by omega) | exact IntWalk.i64_in _ (by omega) | (rw [IntWalk.i64_in _ (by omega)]; omega) | skip)
        try simp only [Act.put, List.setIfInBounds_toArray, List.set_cons_zero, List.set_cons_succ]
        refine takeK (i := 6) (k := 34) (v := .pointer (some ⟨b, 0, none⟩)) rfl rfl (by kernel_rfl) (by kernel_rfl) (by kernel_rfl) [6] rfl (by decide) (by kernel_rfl) (fun _ _ _ h => h) (by kernel_rfl) ?_ (by assumption) ?_
        · intro W hSw; first | (go_simp; done) | (go_simp; first | exact IntWalk.u64_in _ (by omega) | exact IntWalk.i64_in _ (by omega) | (rw [IntWalk.i64_in _ (by omega)]; omega) | skip)
        try simp only [Act.put, List.setIfInBounds_toArray, List.set_cons_zero, List.set_cons_succ]
        refine takeK (i := 7) (k := 35) (v := .pointer (some ⟨b, 0, none⟩)) rfl rfl (by kernel_rfl) (by kernel_rfl) (by kernel_rfl) [7] rfl (by decide) (by kernel_rfl) (fun _ _ _ h => h) (by kernel_rfl) ?_ (by assumption) ?_
        · intro W hSw; first | (go_simp; done) | (go_simp; first | exact IntWalk.u64_in _ (by omega) | exact IntWalk.i64_in _ (by omega) | (rw [IntWalk.i64_in _ (by omega)]; omega) | skip)
        try simp only [Act.put, List.setIfInBounds_toArray, List.set_cons_zero, List.set_cons_succ]
        refine takeK (i := 8) (k := 36) (v := .slice A0 N0 K0) rfl rfl (by kernel_rfl) (by kernel_rfl) (by kernel_rfl) [8] rfl (by decide) (by kernel_rfl) (fun _ _ _ h => h) (by kernel_rfl) ?_ (by assumption) ?_
        · intro W hSw; have d0 := (World.cell?_of_block (a := ⟨b, 0, none⟩) hSw).trans c0; first | (go_simp; done) | (go_simp; first | exact IntWalk.u64_in _ (by omega) | exact IntWalk.i64_in _ (by omega) | (rw [IntWalk.i64_in _ (by omega)]; omega) | skip)
        try simp only [Act.put, List.setIfInBounds_toArray, List.set_cons_zero, List.set_cons_succ]
        refine takeK (i := 9) (k := 37) (v := .int .i64 (N0 : Int)) rfl rfl (by kernel_rfl) (by kernel_rfl) (by kernel_rfl) [9] rfl (by decide) (by kernel_rfl) (fun _ _ _ h => h) (by kernel_rfl) ?_ (by assumption) ?_
        · intro W hSw; first | (go_simp; done) | (go_simp; first | exact IntWalk.u64_in _ (by omega) | exact IntWalk.i64_in _ (by omega) | (rw [IntWalk.i64_in _ (by omega)]; omega) | skip)
        try simp only [Act.put, List.setIfInBounds_toArray, List.set_cons_zero, List.set_cons_succ]
        clear hHeld c0 c1 c2 c3 cf
        obtain ⟨vq, rq, hrun, oq, bq, uq, nq⟩ := run_oneK (ty := 50) elemK_n encN_len (w := w0.drew) L0.out.places N0 (encN_one _) (by rw [bkEnds_len]; have := HLE.out; omega) (by rw [bkEnds_len]; have := HLE.out; unfold maxLen; omega) (Nat.zero_le _)
        have HSA : Hid ((w0.drew.alloc (.cells (encN N0).toArray 3)).heap[b]? = w0.heap[b]?) := Lib.hid (((Below.refl _ w0.drew).alloc (Nat.le_refl _) _).block b L0.out.lt)
        have HSR : Hid (rq.heap[b]? = w0.heap[b]?) := Lib.hid (uq.block b L0.out.lt (fun e => L0.out.pne b e rfl))
        have LP := Lib.hid (L0.out.drew.putPlace oq uq nq)
        obtain ⟨aq, cq, rfl, -⟩ := oq.kform
        generalize (bkEnds rs ++ [N0]).length = lq at *
        clear oq bq uq nq
        refine oneK (i := 10) (by kernel_rfl) rfl (fun K hK => ?_)
        go_simp
        refine hK.out _ _ (fun _ => HSA.out) (fun _ => ?_)
        clear hK K
        try simp only [Act.put, List.setIfInBounds_toArray, List.set_cons_zero, List.set_cons_succ]
        refine oneK (i := 11) (by kernel_rfl) rfl (fun K hK => ?_)
        refine step_appD 39 rfl (by kernel_rfl) (.tmp 32) (.tmp 38) 50 rfl rfl rfl hrun ?_
        refine hK.out _ _ (fun _ => HSR.out) (fun _ => ?_)
        clear hK K hrun HSA
        try simp only [Act.put, List.setIfInBounds_toArray, List.set_cons_zero, List.set_cons_succ]
        refine oneK (i := 12) (by kernel_rfl) rfl (fun K hK => ?_)
        go_simp
        refine hK.out _ _ (fun _ => HSR.out) (fun _ => ?_)
        clear hK K
        try simp only [Act.put, List.setIfInBounds_toArray, List.set_cons_zero, List.set_cons_succ]
        refine oneK (i := 13) (by kernel_rfl) rfl (fun K hK => ?_)
        go_simp
        refine hK.out _ _ (fun _ => HSR.out) (fun _ => ?_)
        clear hK K
        try simp only [Act.put, List.setIfInBounds_toArray, List.set_cons_zero, List.set_cons_succ]
        have hbq : BlkAt rq b #[.slice A0 N0 K0, .slice ap np kp, .int .i64 (rs.length : Int), .string l] 52 := HSR.out.trans L0.out.blk
        have e0 := hbq.at 1
        have f0 := hbq.free 1
        clear hbq
        refine oneK (i := 14) (by kernel_rfl) rfl (fun K hK => ?_)
        go_simp
        refine hK.out _ _ (fun h => by have h' : true = false := h; cases h') (fun _ => ?_)
        clear hK K
        try simp only [Act.put, List.setIfInBounds_toArray, List.set_cons_zero, List.set_cons_succ]
        refine doneK (by kernel_rfl) ?_ _
        clear e0 f0 HSR
        generalize rq.setCell ⟨b, 1, none⟩ (.slice aq lq cq) = wq at *
        rw [← HE.out] at LP
        go_wp2_with fail
        go_meet
        exact ⟨_, _, _, LP⟩
      | false =>
        have HE : Hid (bkEnds (rs ++ [⟨key.data.toList, val.data.toList⟩]) = bkEnds rs) := Lib.hid (by rw [HPL.out, if_neg (of_decide_eq_false HQ4.out), List.append_nil])
        rw [← HE.out] at L1
        go_wp2_with fail
        go_meet
        exact ⟨_, _, _, L1⟩
    case rest =>
    clear L1 HPL HQ4
    obtain ⟨av, nv, kv, LX⟩ := hcut
    obtain ⟨vp, hvp⟩ : ∃ vp, (Value.slice av nv kv) = vp := ⟨_, rfl⟩
    obtain ⟨⟨c0, c1, c2, c3⟩, cf⟩ := LX.out.cells
    go_wp2_with fail
    go_quiet ((go_at_call 22; exact Calls.quiet_of (HSH.out _)))
    have LY : Hid (BdL F w (wc.drewN nq) b (.slice A0 N0 K0) (.slice av nv kv) rs.length l R (bkEnds (rs ++ [⟨key.data.toList, val.data.toList⟩]))) := Lib.hid (LX.out.below (DrN.below ⟨nq, rfl⟩ _))
    rw [hvp] at LY
    clear c0 c1 c2 c3 cf LX HSH hvp
    generalize wc.drewN nq = w0 at *
    have L0 := LY
    clear LY
    obtain ⟨PL, hPL⟩ : ∃ PL, bkEnds (rs ++ [⟨key.data.toList, val.data.toList⟩]) = PL := ⟨_, rfl⟩
    have HPL := Lib.hid hPL.symm
    rw [hPL] at L0
    clear hPL
    go_wp2_with fail
    have hS0 : w0.drew.heap[b]? = w0.heap[b]? := rfl
    obtain ⟨⟨c0, c1, c2, c3⟩, cf⟩ := L0.out.cells
    refine beginK (fun W => W.heap[b]? = w0.heap[b]?) 11 (by kernel_rfl) hS0 (fun hHeld => ?_)
    refine takeK (i := 0) (k := 52) (v := .pointer (some ⟨b, 0, none⟩)) rfl rfl (by kernel_rfl) (by kernel_rfl) (by kernel_rfl) [0] rfl (by decide) (by kernel_rfl) (fun _ _ _ h => h) (by kernel_rfl) ?_ (by assumption) ?_
    · intro W hSw; first | (go_simp; done) | (go_simp; first | exact IntWalk.u64_in _ (by omega) | exact IntWalk.i64_in _ (by omega) | (rw [IntWalk.i64_in _ (by omega)]; omega) | skip)
    try simp only [Act.put, List.setIfInBounds_toArray, List.set_cons_zero, List.set_cons_succ]
    refine takeK (i := 1) (k := 53) (v := .pointer (some ⟨b, 0, none⟩)) rfl rfl (by kernel_rfl) (by kernel_rfl) (by kernel_rfl) [1] rfl (by decide) (by kernel_rfl) (fun _ _ _ h => h) (by kernel_rfl) ?_ (by assumption) ?_
    · intro W hSw; first | (go_simp; done) | (go_simp; first | exact IntWalk.u64_in _ (by omega) | exact IntWalk.i64_in _ (by omega) | (rw [IntWalk.i64_in _ (by omega)]; omega) | skip)
    try simp only [Act.put, List.setIfInBounds_toArray, List.set_cons_zero, List.set_cons_succ]
    refine takeK (i := 2) (k := 54) (v := .pointer (some ⟨b, 0, none⟩)) rfl rfl (by kernel_rfl) (by kernel_rfl) (by kernel_rfl) [2] rfl (by decide) (by kernel_rfl) (fun _ _ _ h => h) (by kernel_rfl) ?_ (by assumption) ?_
    · intro W hSw; first | (go_simp; done) | (go_simp; first | exact IntWalk.u64_in _ (by omega) | exact IntWalk.i64_in _ (by omega) | (rw [IntWalk.i64_in _ (by omega)]; omega) | skip)
    try simp only [Act.put, List.setIfInBounds_toArray, List.set_cons_zero, List.set_cons_succ]
    refine takeK (i := 3) (k := 55) (v := .pointer (some ⟨b, 0, none⟩)) rfl rfl (by kernel_rfl) (by kernel_rfl) (by kernel_rfl) [3] rfl (by decide) (by kernel_rfl) (fun _ _ _ h => h) (by kernel_rfl) ?_ (by assumption) ?_
    · intro W hSw; first | (go_simp; done) | (go_simp; first | exact IntWalk.u64_in _ (by omega) | exact IntWalk.i64_in _ (by omega) | (rw [IntWalk.i64_in _ (by omega)]; omega) | skip)
    try simp only [Act.put, List.setIfInBounds_toArray, List.set_cons_zero, List.set_cons_succ]
    refine takeK (i := 4) (k := 56) (v := .slice A0 N0 K0) rfl rfl (by kernel_rfl) (by kernel_rfl) (by kernel_rfl) [4] rfl (by decide) (by kernel_rfl) (fun _ _ _ h => h) (by kernel_rfl) ?_ (by assumption) ?_
    · intro W hSw; have d0 := (World.cell?_of_block (a := ⟨b, 0, none⟩) hSw).trans c0; first | (go_simp; done) | (go_simp; first | exact IntWalk.u64_in _ (by omega) | exact IntWalk.i64_in _ (by omega) | (rw [IntWalk.i64_in _ (by omega)]; omega) | skip)
    try simp only [Act.put, List.setIfInBounds_toArray, List.set_cons_zero, List.set_cons_succ]
    refine takeK (i := 5) (k := 57) (v := .int .i64 (s : Int)) rfl rfl (by kernel_rfl) (by kernel_rfl) (by kernel_rfl) [5] rfl (by decide) (by kernel_rfl) (fun _ _ _ h => h) (by kernel_rfl) ?_ (by assumption) ?_
    · intro W hSw; first | (go_simp; done) | (go_simp; first | exact IntWalk.u64_in _ (by omega) | exact IntWalk.i64_in _ (by omega) | (rw [IntWalk.i64_in _ (by omega)]; omega) | skip)
    try simp only [Act.put, List.setIfInBounds_toArray, List.set_cons_zero, List.set_cons_succ]
    refine takeK (i := 6) (k := 58) (v := .int .u64 (s : Int)) rfl rfl (by kernel_rfl) (by kernel_rfl) (by kernel_rfl) [6] rfl (by decide) (by kernel_rfl) (fun _ _ _ h => h) (by kernel_rfl) ?_ (by assumption) ?_
    · intro W hSw; first | (go_simp; done) | (go_simp; first | exact IntWalk.u64_in _ (by omega) | exact IntWalk.i64_in _ (by omega) | (rw [IntWalk.i64_in _ (by omega)]; omega) | skip)
    try simp only [Act.put, List.setIfInBounds_toArray, List.set_cons_zero, List.set_cons_succ]
    clear hHeld c0 c1 c2 c3 cf
    refine oneK (i := 7) (by kernel_rfl) rfl (fun K hK => ?_)
    go_simp
    refine (HP1.out _).mono ?_
    rintro e q0 ⟨x0, rfl, ox, bx⟩
    have LQ0 := Lib.hid ((L0.out.drew).below bx)
    have HX0 := Lib.hid ox.rd
    have HS0 : Hid (q0.heap[b]? = w0.heap[b]?) := Lib.hid (bx.block b L0.out.lt)
    clear ox bx HP1
    refine hK.out _ _ (fun _ => HS0.out) (fun _ => ?_)
    clear hK K
    try simp only [Act.put, List.setIfInBounds_toArray, List.set_cons_zero, List.set_cons_succ]
    obtain ⟨v0, r0, hrun, o0, g0, n0⟩ := run_appGB (ty := 33) LQ0.out.rows HX0.out (by (try simp only [List.length_append]); have := HLE.out; omega)
    have HSR0 : Hid (r0.heap[b]? = w0.heap[b]?) := Lib.hid ((g0.block b LQ0.out.lt (fun e => LQ0.out.rne b e.symm rfl)).trans HS0.out)
    have L1 := Lib.hid (LQ0.out.putRows o0 g0 n0)
    obtain ⟨A1, N1, K1, rfl, hm0, -⟩ := o0.form
    clear o0 g0 n0 LQ0 HX0 HS0 hm0
    refine oneK (i := 8) (by kernel_rfl) rfl (fun K hK => ?_)
    refine step_appD 60 rfl (by kernel_rfl) (.tmp 56) (.tmp 59) 33 rfl rfl rfl hrun ?_
    refine hK.out _ _ (fun _ => HSR0.out) (fun _ => ?_)
    clear hK K hrun
    try simp only [Act.put, List.setIfInBounds_toArray, List.set_cons_zero, List.set_cons_succ]
    refine oneK (i := 9) (by kernel_rfl) rfl (fun K hK => ?_)
    go_simp
    refine hK.out _ _ (fun _ => HSR0.out) (fun _ => ?_)
    clear hK K
    try simp only [Act.put, List.setIfInBounds_toArray, List.set_cons_zero, List.set_cons_succ]
    refine oneK (i := 10) (by kernel_rfl) rfl (fun K hK => ?_)
    go_simp
    refine hK.out _ _ (fun _ => HSR0.out) (fun _ => ?_)
    clear hK K
    try simp only [Act.put, List.setIfInBounds_toArray, List.set_cons_zero, List.set_cons_succ]
    have hb0 : BlkAt r0 b #[.slice A0 N0 K0, vp, .int .i64 (rs.length : Int), .string l] 52 := HSR0.out.trans L0.out.blk
    have e0 := hb0.at 0
    have f0 := hb0.free 0
    clear hb0
    refine oneK (i := 11) (by kernel_rfl) rfl (fun K hK => ?_)
    go_simp
    refine hK.out _ _ (fun h => by have h' : true = false := h; cases h') (fun _ => ?_)
    clear hK K
    try simp only [Act.put, List.setIfInBounds_toArray, List.set_cons_zero, List.set_cons_succ]
    refine doneK (by kernel_rfl) ?_ _
    clear e0 f0 L0 HSR0 hS0
    generalize r0.setCell ⟨b, 0, none⟩ (.slice A1 N1 K1) = w1 at *
    go_wp2_with fail
    have hS1 : w1.drew.heap[b]? = w1.heap[b]? := rfl
    obtain ⟨⟨c0, c1, c2, c3⟩, cf⟩ := L1.out.cells
    refine beginK (fun W => W.heap[b]? = w1.heap[b]?) 14 (by kernel_rfl) hS1 (fun hHeld => ?_)
    refine takeK (i := 0) (k := 63) (v := .pointer (some ⟨b, 0, none⟩)) rfl rfl (by kernel_rfl) (by kernel_rfl) (by kernel_rfl) [0] rfl (by decide) (by kernel_rfl) (fun _ _ _ h => h) (by kernel_rfl) ?_ (by assumption) ?_
    · intro W hSw; first | (go_simp; done) | (go_simp; first | exact IntWalk.u64_in _ (by omega) | exact IntWalk.i64_in _ (by omega) | (rw [IntWalk.i64_in _ (by omega)]; omega) | skip)
    try simp only [Act.put, List.setIfInBounds_toArray, List.set_cons_zero, List.set_cons_succ]
    refine takeK (i := 1) (k := 64) (v := .pointer (some ⟨b, 0, none⟩)) rfl rfl (by kernel_rfl) (by kernel_rfl) (by kernel_rfl) [1] rfl (by decide) (by kernel_rfl) (fun _ _ _ h => h) (by kernel_rfl) ?_ (by assumption) ?_
    · intro W hSw; first | (go_simp; done) | (go_simp; first | exact IntWalk.u64_in _ (by omega) | exact IntWalk.i64_in _ (by omega) | (rw [IntWalk.i64_in _ (by omega)]; omega) | skip)
    try simp only [Act.put, List.setIfInBounds_toArray, List.set_cons_zero, List.set_cons_succ]
    refine takeK (i := 2) (k := 65) (v := .pointer (some ⟨b, 0, none⟩)) rfl rfl (by kernel_rfl) (by kernel_rfl) (by kernel_rfl) [2] rfl (by decide) (by kernel_rfl) (fun _ _ _ h => h) (by kernel_rfl) ?_ (by assumption) ?_
    · intro W hSw; first | (go_simp; done) | (go_simp; first | exact IntWalk.u64_in _ (by omega) | exact IntWalk.i64_in _ (by omega) | (rw [IntWalk.i64_in _ (by omega)]; omega) | skip)
    try simp only [Act.put, List.setIfInBounds_toArray, List.set_cons_zero, List.set_cons_succ]
    refine takeK (i := 3) (k := 66) (v := .pointer (some ⟨b, 0, none⟩)) rfl rfl (by kernel_rfl) (by kernel_rfl) (by kernel_rfl) [3] rfl (by decide) (by kernel_rfl) (fun _ _ _ h => h) (by kernel_rfl) ?_ (by assumption) ?_
    · intro W hSw; first | (go_simp; done) | (go_simp; first | exact IntWalk.u64_in _ (by omega) | exact IntWalk.i64_in _ (by omega) | (rw [IntWalk.i64_in _ (by omega)]; omega) | skip)
    try simp only [Act.put, List.setIfInBounds_toArray, List.set_cons_zero, List.set_cons_succ]
    refine takeK (i := 4) (k := 67) (v := .slice A1 N1 K1) rfl rfl (by kernel_rfl) (by kernel_rfl) (by kernel_rfl) [4] rfl (by decide) (by kernel_rfl) (fun _ _ _ h => h) (by kernel_rfl) ?_ (by assumption) ?_
    · intro W hSw; have d0 := (World.cell?_of_block (a := ⟨b, 0, none⟩) hSw).trans c0; first | (go_simp; done) | (go_simp; first | exact IntWalk.u64_in _ (by omega) | exact IntWalk.i64_in _ (by omega) | (rw [IntWalk.i64_in _ (by omega)]; omega) | skip)
    try simp only [Act.put, List.setIfInBounds_toArray, List.set_cons_zero, List.set_cons_succ]
    refine takeK (i := 5) (k := 68) (v := .string key) rfl rfl (by kernel_rfl) (by kernel_rfl) (by kernel_rfl) [5] rfl (by decide) (by kernel_rfl) (fun _ _ _ h => h) (by kernel_rfl) ?_ (by assumption) ?_
    · intro W hSw; first | (go_simp; done) | (go_simp; first | exact IntWalk.u64_in _ (by omega) | exact IntWalk.i64_in _ (by omega) | (rw [IntWalk.i64_in _ (by omega)]; omega) | skip)
    try simp only [Act.put, List.setIfInBounds_toArray, List.set_cons_zero, List.set_cons_succ]
    refine takeK (i := 6) (k := 69) (v := .int .i64 (key.size : Int)) rfl rfl (by kernel_rfl) (by kernel_rfl) (by kernel_rfl) [6] rfl (by decide) (by kernel_rfl) (fun _ _ _ h => h) (by kernel_rfl) ?_ (by assumption) ?_
    · intro W hSw; first | (go_simp; done) | (go_simp; first | exact IntWalk.u64_in _ (by omega) | exact IntWalk.i64_in _ (by omega) | (rw [IntWalk.i64_in _ (by omega)]; omega) | skip)
    try simp only [Act.put, List.setIfInBounds_toArray, List.set_cons_zero, List.set_cons_succ]
    refine takeK (i := 7) (k := 70) (v := .int .i64 (s : Int)) rfl rfl (by kernel_rfl) (by kernel_rfl) (by kernel_rfl) [7] rfl (by decide) (by kernel_rfl) (fun _ _ _ h => h) (by kernel_rfl) ?_ (by assumption) ?_
    · intro W hSw; first | (go_simp; done) | (go_simp; first | exact IntWalk.u64_in _ (by omega) | exact IntWalk.i64_in _ (by omega) | (rw [IntWalk.i64_in _ (by omega)]; omega) | skip)
    try simp only [Act.put, List.setIfInBounds_toArray, List.set_cons_zero, List.set_cons_succ]
    refine takeK (i := 8) (k := 71) (v := .int .i64 (oth : Int)) rfl rfl (by kernel_rfl) (by kernel_rfl) (by kernel_rfl) [8] rfl (by decide) (by kernel_rfl) (fun _ _ _ h => h) (by kernel_rfl) ?_ (by assumption) ?_
    · intro W hSw; first | (go_simp; done) | (go_simp; first | exact IntWalk.u64_in _ (by omega) | exact IntWalk.i64_in _ (by omega) | (rw [IntWalk.i64_in _ (by omega)]; omega) | skip)
    try simp only [Act.put, List.setIfInBounds_toArray, List.set_cons_zero, List.set_cons_succ]
    refine takeK (i := 9) (k := 72) (v := .int .u64 (oth : Int)) rfl rfl (by kernel_rfl) (by kernel_rfl) (by kernel_rfl) [9] rfl (by decide) (by kernel_rfl) (fun _ _ _ h => h) (by kernel_rfl) ?_ (by assumption) ?_
    · intro W hSw; first | (go_simp; done) | (go_simp; first | exact IntWalk.u64_in _ (by omega) | exact IntWalk.i64_in _ (by omega) | (rw [IntWalk.i64_in _ (by omega)]; omega) | skip)
    try simp only [Act.put, List.setIfInBounds_toArray, List.set_cons_zero, List.set_cons_succ]
    clear hHeld c0 c1 c2 c3 cf
    refine oneK (i := 10) (by kernel_rfl) rfl (fun K hK => ?_)
    go_simp
    refine (HP2.out _).mono ?_
    rintro e q1 ⟨x1, rfl, ox, bx⟩
    have LQ1 := Lib.hid ((L1.out.drew).below bx)
    have HX1 := Lib.hid ox.rd
    have HS1 : Hid (q1.heap[b]? = w1.heap[b]?) := Lib.hid (bx.block b L1.out.lt)
    clear ox bx HP2
    refine hK.out _ _ (fun _ => HS1.out) (fun _ => ?_)
    clear hK K
    try simp only [Act.put, List.setIfInBounds_toArray, List.set_cons_zero, List.set_cons_succ]
    obtain ⟨v1, r1, hrun, o1, g1, n1⟩ := run_appGB (ty := 33) LQ1.out.rows HX1.out (by (try simp only [List.length_append]); have := HLE.out; omega)
    have HSR1 : Hid (r1.heap[b]? = w1.heap[b]?) := Lib.hid ((g1.block b LQ1.out.lt (fun e => LQ1.out.rne b e.symm rfl)).trans HS1.out)
    have L2 := Lib.hid (LQ1.out.putRows o1 g1 n1)
    obtain ⟨A2, N2, K2, rfl, hm1, -⟩ := o1.form
    clear o1 g1 n1 LQ1 HX1 HS1 hm1
    refine oneK (i := 11) (by kernel_rfl) rfl (fun K hK => ?_)
    refine step_appD 74 rfl (by kernel_rfl) (.tmp 67) (.tmp 73) 33 rfl rfl rfl hrun ?_
    refine hK.out _ _ (fun _ => HSR1.out) (fun _ => ?_)
    clear hK K hrun
    try simp only [Act.put, List.setIfInBounds_toArray, List.set_cons_zero, List.set_cons_succ]
    refine oneK (i := 12) (by kernel_rfl) rfl (fun K hK => ?_)
    go_simp
    refine hK.out _ _ (fun _ => HSR1.out) (fun _ => ?_)
    clear hK K
    try simp only [Act.put, List.setIfInBounds_toArray, List.set_cons_zero, List.set_cons_succ]
    refine oneK (i := 13) (by kernel_rfl) rfl (fun K hK => ?_)
    go_simp
    refine hK.out _ _ (fun _ => HSR1.out) (fun _ => ?_)
    clear hK K
    try simp only [Act.put, List.setIfInBounds_toArray, List.set_cons_zero, List.set_cons_succ]
    have hb1 : BlkAt r1 b #[.slice A1 N1 K1, vp, .int .i64 (rs.length : Int), .string l] 52 := HSR1.out.trans L1.out.blk
    have e0 := hb1.at 0
    have f0 := hb1.free 0
    clear hb1
    refine oneK (i := 14) (by kernel_rfl) rfl (fun K hK => ?_)
    go_simp
    refine hK.out _ _ (fun h => by have h' : true = false := h; cases h') (fun _ => ?_)
    clear hK K
    try simp only [Act.put, List.setIfInBounds_toArray, List.set_cons_zero, List.set_cons_succ]
    refine doneK (by kernel_rfl) ?_ _
    clear e0 f0 L1 HSR1 hS1
    generalize r1.setCell ⟨b, 0, none⟩ (.slice A2 N2 K2) = w2 at *
    go_wp2_with fail
    have hS2 : w2.drew.heap[b]? = w2.heap[b]? := rfl
    obtain ⟨⟨c0, c1, c2, c3⟩, cf⟩ := L2.out.cells
    refine beginK (fun W => W.heap[b]? = w2.heap[b]?) 12 (by kernel_rfl) hS2 (fun hHeld => ?_)
    refine takeK (i := 0) (k := 77) (v := .pointer (some ⟨b, 0, none⟩)) rfl rfl (by kernel_rfl) (by kernel_rfl) (by kernel_rfl) [0] rfl (by decide) (by kernel_rfl) (fun _ _ _ h => h) (by kernel_rfl) ?_ (by assumption) ?_
    · intro W hSw; first | (go_simp; done) | (go_simp; first | exact IntWalk.u64_in _ (by omega) | exact IntWalk.i64_in _ (by omega) | (rw [IntWalk.i64_in _ (by omega)]; omega) | skip)
    try simp only [Act.put, List.setIfInBounds_toArray, List.set_cons_zero, List.set_cons_succ]
    refine takeK (i := 1) (k := 78) (v := .pointer (some ⟨b, 0, none⟩)) rfl rfl (by kernel_rfl) (by kernel_rfl) (by kernel_rfl) [1] rfl (by decide) (by kernel_rfl) (fun _ _ _ h => h) (by kernel_rfl) ?_ (by assumption) ?_
    · intro W hSw; first | (go_simp; done) | (go_simp; first | exact IntWalk.u64_in _ (by omega) | exact IntWalk.i64_in _ (by omega) | (rw [IntWalk.i64_in _ (by omega)]; omega) | skip)
    try simp only [Act.put, List.setIfInBounds_toArray, List.set_cons_zero, List.set_cons_succ]
    refine takeK (i := 2) (k := 79) (v := .pointer (some ⟨b, 0, none⟩)) rfl rfl (by kernel_rfl) (by kernel_rfl) (by kernel_rfl) [2] rfl (by decide) (by kernel_rfl) (fun _ _ _ h => h) (by kernel_rfl) ?_ (by assumption) ?_
    · intro W hSw; first | (go_simp; done) | (go_simp; first | exact IntWalk.u64_in _ (by omega) | exact IntWalk.i64_in _ (by omega) | (rw [IntWalk.i64_in _ (by omega)]; omega) | skip)
    try simp only [Act.put, List.setIfInBounds_toArray, List.set_cons_zero, List.set_cons_succ]
    refine takeK (i := 3) (k := 80) (v := .pointer (some ⟨b, 0, none⟩)) rfl rfl (by kernel_rfl) (by kernel_rfl) (by kernel_rfl) [3] rfl (by decide) (by kernel_rfl) (fun _ _ _ h => h) (by kernel_rfl) ?_ (by assumption) ?_
    · intro W hSw; first | (go_simp; done) | (go_simp; first | exact IntWalk.u64_in _ (by omega) | exact IntWalk.i64_in _ (by omega) | (rw [IntWalk.i64_in _ (by omega)]; omega) | skip)
    try simp only [Act.put, List.setIfInBounds_toArray, List.set_cons_zero, List.set_cons_succ]
    refine takeK (i := 4) (k := 81) (v := .slice A2 N2 K2) rfl rfl (by kernel_rfl) (by kernel_rfl) (by kernel_rfl) [4] rfl (by decide) (by kernel_rfl) (fun _ _ _ h => h) (by kernel_rfl) ?_ (by assumption) ?_
    · intro W hSw; have d0 := (World.cell?_of_block (a := ⟨b, 0, none⟩) hSw).trans c0; first | (go_simp; done) | (go_simp; first | exact IntWalk.u64_in _ (by omega) | exact IntWalk.i64_in _ (by omega) | (rw [IntWalk.i64_in _ (by omega)]; omega) | skip)
    try simp only [Act.put, List.setIfInBounds_toArray, List.set_cons_zero, List.set_cons_succ]
    refine takeK (i := 5) (k := 82) (v := .string val) rfl rfl (by kernel_rfl) (by kernel_rfl) (by kernel_rfl) [5] rfl (by decide) (by kernel_rfl) (fun _ _ _ h => h) (by kernel_rfl) ?_ (by assumption) ?_
    · intro W hSw; first | (go_simp; done) | (go_simp; first | exact IntWalk.u64_in _ (by omega) | exact IntWalk.i64_in _ (by omega) | (rw [IntWalk.i64_in _ (by omega)]; omega) | skip)
    try simp only [Act.put, List.setIfInBounds_toArray, List.set_cons_zero, List.set_cons_succ]
    refine takeK (i := 6) (k := 83) (v := .int .i64 (val.size : Int)) rfl rfl (by kernel_rfl) (by kernel_rfl) (by kernel_rfl) [6] rfl (by decide) (by kernel_rfl) (fun _ _ _ h => h) (by kernel_rfl) ?_ (by assumption) ?_
    · intro W hSw; first | (go_simp; done) | (go_simp; first | exact IntWalk.u64_in _ (by omega) | exact IntWalk.i64_in _ (by omega) | (rw [IntWalk.i64_in _ (by omega)]; omega) | skip)
    try simp only [Act.put, List.setIfInBounds_toArray, List.set_cons_zero, List.set_cons_succ]
    refine takeK (i := 7) (k := 84) (v := .int .u64 (val.size : Int)) rfl rfl (by kernel_rfl) (by kernel_rfl) (by kernel_rfl) [7] rfl (by decide) (by kernel_rfl) (fun _ _ _ h => h) (by kernel_rfl) ?_ (by assumption) ?_
    · intro W hSw; first | (go_simp; done) | (go_simp; first | exact IntWalk.u64_in _ (by omega) | exact IntWalk.i64_in _ (by omega) | (rw [IntWalk.i64_in _ (by omega)]; omega) | skip)
    try simp only [Act.put, List.setIfInBounds_toArray, List.set_cons_zero, List.set_cons_succ]
    clear hHeld c0 c1 c2 c3 cf
    refine oneK (i := 8) (by kernel_rfl) rfl (fun K hK => ?_)
    go_simp
    refine (HP3.out _).mono ?_
    rintro e q2 ⟨x2, rfl, ox, bx⟩
    have LQ2 := Lib.hid ((L2.out.drew).below bx)
    have HX2 := Lib.hid ox.rd
    have HS2 : Hid (q2.heap[b]? = w2.heap[b]?) := Lib.hid (bx.block b L2.out.lt)
    clear ox bx HP3
    refine hK.out _ _ (fun _ => HS2.out) (fun _ => ?_)
    clear hK K
    try simp only [Act.put, List.setIfInBounds_toArray, List.set_cons_zero, List.set_cons_succ]
    obtain ⟨v2, r2, hrun, o2, g2, n2⟩ := run_appGB (ty := 33) LQ2.out.rows HX2.out (by (try simp only [List.length_append]); have := HLE.out; omega)
    have HSR2 : Hid (r2.heap[b]? = w2.heap[b]?) := Lib.hid ((g2.block b LQ2.out.lt (fun e => LQ2.out.rne b e.symm rfl)).trans HS2.out)
    have L3 := Lib.hid (LQ2.out.putRows o2 g2 n2)
    obtain ⟨A3, N3, K3, rfl, hm2, -⟩ := o2.form
    clear o2 g2 n2 LQ2 HX2 HS2 hm2
    refine oneK (i := 9) (by kernel_rfl) rfl (fun K hK => ?_)
    refine step_appD 86 rfl (by kernel_rfl) (.tmp 81) (.tmp 85) 33 rfl rfl rfl hrun ?_
    refine hK.out _ _ (fun _ => HSR2.out) (fun _ => ?_)
    clear hK K hrun
    try simp only [Act.put, List.setIfInBounds_toArray, List.set_cons_zero, List.set_cons_succ]
    refine oneK (i := 10) (by kernel_rfl) rfl (fun K hK => ?_)
    go_simp
    refine hK.out _ _ (fun _ => HSR2.out) (fun _ => ?_)
    clear hK K
    try simp only [Act.put, List.setIfInBounds_toArray, List.set_cons_zero, List.set_cons_succ]
    refine oneK (i := 11) (by kernel_rfl) rfl (fun K hK => ?_)
    go_simp
    refine hK.out _ _ (fun _ => HSR2.out) (fun _ => ?_)
    clear hK K
    try simp only [Act.put, List.setIfInBounds_toArray, List.set_cons_zero, List.set_cons_succ]
    have hb2 : BlkAt r2 b #[.slice A2 N2 K2, vp, .int .i64 (rs.length : Int), .string l] 52 := HSR2.out.trans L2.out.blk
    have e0 := hb2.at 0
    have f0 := hb2.free 0
    clear hb2
    refine oneK (i := 12) (by kernel_rfl) rfl (fun K hK => ?_)
    go_simp
    refine hK.out _ _ (fun h => by have h' : true = false := h; cases h') (fun _ => ?_)
    clear hK K
    try simp only [Act.put, List.setIfInBounds_toArray, List.set_cons_zero, List.set_cons_succ]
    refine doneK (by kernel_rfl) ?_ _
    clear e0 f0 L2 HSR2 hS2
    generalize r2.setCell ⟨b, 0, none⟩ (.slice A3 N3 K3) = w3 at *
    go_wp2_with fail
    have hS3 : w3.drew.heap[b]? = w3.heap[b]? := rfl
    obtain ⟨⟨c0, c1, c2, c3⟩, cf⟩ := L3.out.cells
    refine beginK (fun W => W.heap[b]? = w3.heap[b]?) 11 (by kernel_rfl) hS3 (fun hHeld => ?_)
    refine takeK (i := 0) (k := 89) (v := .pointer (some ⟨b, 0, none⟩)) rfl rfl (by kernel_rfl) (by kernel_rfl) (by kernel_rfl) [0] rfl (by decide) (by kernel_rfl) (fun _ _ _ h => h) (by kernel_rfl) ?_ (by assumption) ?_
    · intro W hSw; first | (go_simp; done) | (go_simp; first | exact IntWalk.u64_in _ (by omega) | exact IntWalk.i64_in _ (by omega) | (rw [IntWalk.i64_in _ (by omega)]; omega) | skip)
    try simp only [Act.put, List.setIfInBounds_toArray, List.set_cons_zero, List.set_cons_succ]
    refine takeK (i := 1) (k := 90) (v := .pointer (some ⟨b, 0, none⟩)) rfl rfl (by kernel_rfl) (by kernel_rfl) (by kernel_rfl) [1] rfl (by decide) (by kernel_rfl) (fun _ _ _ h => h) (by kernel_rfl) ?_ (by assumption) ?_
    · intro W hSw; first | (go_simp; done) | (go_simp; first | exact IntWalk.u64_in _ (by omega) | exact IntWalk.i64_in _ (by omega) | (rw [IntWalk.i64_in _ (by omega)]; omega) | skip)
    try simp only [Act.put, List.setIfInBounds_toArray, List.set_cons_zero, List.set_cons_succ]
    refine takeK (i := 2) (k := 91) (v := .pointer (some ⟨b, 0, none⟩)) rfl rfl (by kernel_rfl) (by kernel_rfl) (by kernel_rfl) [2] rfl (by decide) (by kernel_rfl) (fun _ _ _ h => h) (by kernel_rfl) ?_ (by assumption) ?_
    · intro W hSw; first | (go_simp; done) | (go_simp; first | exact IntWalk.u64_in _ (by omega) | exact IntWalk.i64_in _ (by omega) | (rw [IntWalk.i64_in _ (by omega)]; omega) | skip)
    try simp only [Act.put, List.setIfInBounds_toArray, List.set_cons_zero, List.set_cons_succ]
    refine takeK (i := 3) (k := 92) (v := .pointer (some ⟨b, 0, none⟩)) rfl rfl (by kernel_rfl) (by kernel_rfl) (by kernel_rfl) [3] rfl (by decide) (by kernel_rfl) (fun _ _ _ h => h) (by kernel_rfl) ?_ (by assumption) ?_
    · intro W hSw; first | (go_simp; done) | (go_simp; first | exact IntWalk.u64_in _ (by omega) | exact IntWalk.i64_in _ (by omega) | (rw [IntWalk.i64_in _ (by omega)]; omega) | skip)
    try simp only [Act.put, List.setIfInBounds_toArray, List.set_cons_zero, List.set_cons_succ]
    refine takeK (i := 4) (k := 93) (v := .slice A3 N3 K3) rfl rfl (by kernel_rfl) (by kernel_rfl) (by kernel_rfl) [4] rfl (by decide) (by kernel_rfl) (fun _ _ _ h => h) (by kernel_rfl) ?_ (by assumption) ?_
    · intro W hSw; have d0 := (World.cell?_of_block (a := ⟨b, 0, none⟩) hSw).trans c0; first | (go_simp; done) | (go_simp; first | exact IntWalk.u64_in _ (by omega) | exact IntWalk.i64_in _ (by omega) | (rw [IntWalk.i64_in _ (by omega)]; omega) | skip)
    try simp only [Act.put, List.setIfInBounds_toArray, List.set_cons_zero, List.set_cons_succ]
    refine takeK (i := 5) (k := 94) (v := .string key) rfl rfl (by kernel_rfl) (by kernel_rfl) (by kernel_rfl) [5] rfl (by decide) (by kernel_rfl) (fun _ _ _ h => h) (by kernel_rfl) ?_ (by assumption) ?_
    · intro W hSw; first | (go_simp; done) | (go_simp; first | exact IntWalk.u64_in _ (by omega) | exact IntWalk.i64_in _ (by omega) | (rw [IntWalk.i64_in _ (by omega)]; omega) | skip)
    try simp only [Act.put, List.setIfInBounds_toArray, List.set_cons_zero, List.set_cons_succ]
    refine takeK (i := 6) (k := 95) (v := .int .i64 (s : Int)) rfl rfl (by kernel_rfl) (by kernel_rfl) (by kernel_rfl) [6] rfl (by decide) (by kernel_rfl) (fun _ _ _ h => h) (by kernel_rfl) ?_ (by assumption) ?_
    · intro W hSw; first | (go_simp; done) | (go_simp; first | exact IntWalk.u64_in _ (by omega) | exact IntWalk.i64_in _ (by omega) | (rw [IntWalk.i64_in _ (by omega)]; omega) | skip)
    try simp only [Act.put, List.setIfInBounds_toArray, List.set_cons_zero, List.set_cons_succ]
    refine takeK (i := 7) (k := 96) (v := .string KD) rfl rfl (by kernel_rfl) (by kernel_rfl) (by kernel_rfl) [7] rfl (by decide) (by kernel_rfl) (fun _ _ _ h => h) (by kernel_rfl) ?_ (by assumption) ?_
    · intro W hSw; first | (go_simp; done) | (go_simp; first | done | rw [hKD])
    try simp only [Act.put, List.setIfInBounds_toArray, List.set_cons_zero, List.set_cons_succ]
    clear hHeld c0 c1 c2 c3 cf
    obtain ⟨v3, r3, hrun, o3, g3, n3⟩ := run_appTG (ty := 33) (w := w3.drew) L3.out.rows KD (by (try simp only [List.length_append]); have := HLE.out; omega)
    have HSR3 : Hid (r3.heap[b]? = w3.heap[b]?) := Lib.hid (g3.block b L3.out.lt (fun e => L3.out.rne b e.symm rfl))
    have L4 := Lib.hid (L3.out.drew.putRows o3 g3 n3)
    obtain ⟨A4, N4, K4, rfl, hm3, -⟩ := o3.form
    clear o3 g3 n3 hm3
    refine oneK (i := 8) (by kernel_rfl) rfl (fun K hK => ?_)
    refine step_appT 97 rfl (by kernel_rfl) (.tmp 93) (.tmp 96) 33 9 rfl rfl rfl hrun ?_
    refine hK.out _ _ (fun _ => HSR3.out) (fun _ => ?_)
    clear hK K hrun
    try simp only [Act.put, List.setIfInBounds_toArray, List.set_cons_zero, List.set_cons_succ]
    refine oneK (i := 9) (by kernel_rfl) rfl (fun K hK => ?_)
    go_simp
    refine hK.out _ _ (fun _ => HSR3.out) (fun _ => ?_)
    clear hK K
    try simp only [Act.put, List.setIfInBounds_toArray, List.set_cons_zero, List.set_cons_succ]
    refine oneK (i := 10) (by kernel_rfl) rfl (fun K hK => ?_)
    go_simp
    refine hK.out _ _ (fun _ => HSR3.out) (fun _ => ?_)
    clear hK K
    try simp only [Act.put, List.setIfInBounds_toArray, List.set_cons_zero, List.set_cons_succ]
    have hb3 : BlkAt r3 b #[.slice A3 N3 K3, vp, .int .i64 (rs.length : Int), .string l] 52 := HSR3.out.trans L3.out.blk
    have e0 := hb3.at 0
    have f0 := hb3.free 0
    clear hb3
    refine oneK (i := 11) (by kernel_rfl) rfl (fun K hK => ?_)
    go_simp
    refine hK.out _ _ (fun h => by have h' : true = false := h; cases h') (fun _ => ?_)
    clear hK K
    try simp only [Act.put, List.setIfInBounds_toArray, List.set_cons_zero, List.set_cons_succ]
    refine doneK (by kernel_rfl) ?_ _
    clear e0 f0 L3 HSR3 hS3
    generalize r3.setCell ⟨b, 0, none⟩ (.slice A4 N4 K4) = w4 at *
    obtain ⟨⟨c0, c1, c2, c3⟩, cf⟩ := L4.out.cells
    go_wp2_with (at_builtin; refine wp_appTG _ _ (by rfl) (by rfl) (by rfl) L4.out.rows val (by rfl) ?c1 ?_)
    case c1 => (try simp only [List.length_append]); have := HLE.out; have := size_toList KD; omega
    intro v5 w5 o5' g5 n5
    have o5 : OwnB 0 w5 v5 (R ++ putN s ++ putN oth ++ putN val.size ++ KD.data.toList ++ val.data.toList) := by simpa only [List.append_assoc] using o5'
    clear o5'
    have hb5 : BlkAt w5 b #[.slice A4 N4 K4, vp, .int .i64 (rs.length : Int), .string l] 52 := (g5.block b L4.out.lt (fun e => L4.out.rne b e.symm rfl)).trans L4.out.blk
    have L5 := Lib.hid (L4.out.putRows o5 g5 n5)
    obtain ⟨A5, N5, K5, rfl, -⟩ := o5.form
    clear o5 g5 n5 c0 c1 c2 c3 cf L4
    have e0 := hb5.at 0
    have e2 := hb5.at 2
    have e3 := hb5.at 3
    have ef := hb5.free
    have e0' : w5.cell? ⟨b, 0, none⟩ = some (.slice A4 N4 K4) := e0
    have e2' : w5.cell? ⟨b, 2, none⟩ = some (.int .i64 (rs.length : Int)) := e2
    have f0 := ef 0
    have f2 := ef 2
    clear e0 e2 e3 ef hb5
    go_wp2_with fail
    have L6 := Lib.hid (L5.out.setAt 2 (.int .i64 ((rs.length : Int) + 1)) (rs.length + 1) l rfl)
    clear e0' e2' f0 f2 L5
    generalize (w5.setCell ⟨b, 0, none⟩ (.slice A5 N5 K5)).setCell ⟨b, 2, none⟩ (.int .i64 ((rs.length : Int) + 1)) = w6 at *
    refine (HCL.out _).mono ?_
    rintro e w7 ⟨rfl, b7⟩
    have L7 := Lib.hid (L6.out.below b7)
    clear b7 L6 HCL
    obtain ⟨⟨c0, c1, c2, c3⟩, cf⟩ := L7.out.cells
    have f3 := cf 3
    go_wp2_with fail
    go_ret
    refine ⟨rfl, (L7.out.setAt 3 (.string key) (rs.length + 1) key rfl).to (rise_snoc HRI.out HA.out) (by rw [List.length_append, List.length_singleton]) ?_ HRR.out.symm HPL.out⟩
    rw [lastK_snoc]
  · have HA := Lib.hid hA
    have hA1 : decide (rs.length = 0 ∨ bl l key) = false := decide_eq_false (by unfold bl; rw [hld]; exact hA)
    have HI : Hid (∀ w, Calls Try.prog 20 #[.int .i64 (rs.length : Int), .string l, .string key] w fun e w' => e = .returned (.bool false) ∧ w' = w) := Lib.hid (by rw [← hA1]; exact isNext_any rs.length (by omega) l key)
    rw [hnp.symm] at L0
    clear hL hri hld hl hll hbl hls hsz hA1 hnp hN0 hA
    rw [decide_eq_false HA.out]
    unfold addK
    rw [if_neg (show ¬ addOk rs (⟨key.data.toList, val.data.toList⟩ : Kv).k from HA.out)]
    obtain ⟨⟨c0, c1, c2, c3⟩, cf⟩ := L0.out.cells
    go_enter Try.func11, Try.ntmps11
    go_wp2_with fail
    go_quiet ((go_at_call 20; exact Calls.quiet_of_same (HI.out _)))
    have L1 : Hid (BdL F w (w.drewN nq) b (.slice A0 N0 K0) (.slice ap (bkEnds rs).length kp) rs.length l (bodyB 0 [] rs) (bkEnds rs)) := Lib.hid (L0.out.below (DrN.below ⟨nq, rfl⟩ _))
    clear c0 c1 c2 c3 cf L0 HI
    generalize w.drewN nq = w1 at *
    go_wp2_with fail
    go_ret
    exact ⟨rfl, L1.out.to HRI.out rfl HLL.out.symm rfl rfl⟩
end Go.Proofs.Ytaddihabjdoihaa
