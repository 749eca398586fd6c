/- simfs' Used: the bytes of all files that the directory names. -/
import Derived.Test.YtmmkgopnccfiiaaGreatDoorMFs
import Derived.Test.YtmmkgopnccfiiaaGreatDoorMBase
import Derived.Test.YtmmkgopnccfiiaaGreatDoorRows
import Derived.Test.YtmmkgopnccfiiaaGreatDoorBClone
import Derived.Maps.RangeWalk
import Derived.Deep.RegionHeld3
import Derived.Shelf.SlMaps.Clone
import Derived.Shelf.SlIter.Nil
import Derived.Shelf.SortM.Plain
import Derived.Shelf.SortM.SortNone
import Derived.KernelRfl
namespace Go.Proofs.YtmmkgopnccfiiaaGreatDoor
set_option linter.unusedVariables false
open Go.RowKit Go.Maps
/-- What the entries have that no longer are to come. -/
def sumNot (len : Nat → Nat) (left : Lit → Bool) (l : Dir) : Nat := (l.map fun x => if left (litS x.1) = true then 0 else len x.2).sum
theorem sumNot_le (len : Nat → Nat) (left : Lit → Bool) : ∀ l : Dir, sumNot len left l ≤ (l.map fun x => len x.2).sum
  | [] => Nat.le_refl _
  | y :: r => by
    have := sumNot_le len left r
    unfold sumNot at this ⊢
    simp only [List.map_cons, List.sum_cons]
    split <;> omega
theorem sumNot_end (len : Nat → Nat) {left : Lit → Bool} (h : ∀ k, left k = false) (l : Dir) : sumNot len left l = (l.map fun x => len x.2).sum := by
  unfold sumNot
  congr 1
  exact List.map_congr_left fun x _ => by rw [h]; rfl
theorem sumNot_start (len : Nat → Nat) (l : Dir) (left : Lit → Bool) (h : ∀ x ∈ l, left (litS x.1) = true) : sumNot len left l = 0 := by
  induction l with
  | nil => rfl
  | cons y r ih =>
    have := ih fun x hx => h x (List.mem_cons_of_mem _ hx)
    unfold sumNot at this ⊢
    simp only [List.map_cons, List.sum_cons, this, h y (List.mem_cons_self ..), if_true]
theorem sumNot_step (len : Nat → Nat) {left : Lit → Bool} {n : ByteArray} {i : Nat} (hl : left (litS n) = true) : ∀ {l : Dir}, DirOk l → (n, i) ∈ l → sumNot len (fun z => left z && !z.sameKey (litS n)) l = sumNot len left l + len i
  | [], _, h => absurd h (List.not_mem_nil)
  | y :: r, hok, h => by
    obtain ⟨h1, h2⟩ := List.pairwise_cons.1 hok
    unfold sumNot
    simp only [List.map_cons, List.sum_cons, litS_same]
    rcases List.mem_cons.1 h with e | h
    · subst e
      have hr : sumNot len (fun z => left z && !z.sameKey (litS n)) r = sumNot len left r := by
        unfold sumNot
        congr 1
        refine List.map_congr_left fun x hx => ?_
        have hne : x.1 ≠ n := fun e => bl_irr x.1 (by have := h1 x hx; rw [e] at this ⊢; exact this)
        simp only [litS_same, decide_eq_false hne, Bool.not_false, Bool.and_true]
      have hr' := hr
      unfold sumNot at hr'
      simp only [litS_same] at hr'
      rw [hr']
      simp only [hl, decide_true, Bool.not_true, Bool.and_false, if_true, Bool.false_eq_true, if_false]
      omega
    · have hr := sumNot_step len hl h2 h
      unfold sumNot at hr
      simp only [litS_same] at hr
      rw [hr]
      have hne : y.1 ≠ n := fun e => bl_irr y.1 (by have := h1 _ h; rw [e] at this ⊢; exact this)
      simp only [decide_eq_false hne, Bool.not_false, Bool.and_true]
      omega
set_option maxRecDepth 100000 in
theorem entry_of {x : ByteArray} {c : Option Nat} {kl : Lit} {yd : DataW Unit} {yp : List MemPlace} {fb : Nat → Nat} {d : Dir} (hk : keyOf Tryz.prog 9 (.string x) = some kl) (hR : ptrR (ptrO c) = some (yd, yp)) (hat : ∀ zd, (rawD (dmap fb d)).atKey kl zd = yd) :
    ∃ i, dget x d = some i ∧ c = some (fb i) ∧ kl = litS x := by
  obtain ⟨z, e, e2, -⟩ := keyOf_str Tryz.underlying9 hk
  have hkl : kl = litS x := by
    rw [e2]
    unfold litS
    injection e with e
    rw [e]
  subst hkl
  have h1 := hat .nil
  have h2 := hat (.lit (.bool true))
  rw [raw_at, dmap_get] at h1 h2
  cases hg : dget x d with
  | none => rw [hg] at h1 h2; rw [← h1] at h2; cases h2
  | some i =>
    rw [hg] at h1
    refine ⟨i, rfl, ?_, rfl⟩
    cases c with
    | none =>
      obtain rfl : DataW.nil = yd := by injection hR with hR; injection hR
      cases h1
    | some j =>
      obtain rfl : DataW.lit (.int .i64 (j : Int)) = yd := by injection hR with hR; injection hR
      simp only [Option.map_some, DataW.lit.injEq, Lit.int.injEq, true_and] at h1
      congr 1; omega
theorem inv_key {key : Value} {kl : Lit} (h : keyOf Tryz.prog 9 key = some kl) : ∃ x : ByteArray, key = .string x := by
  obtain ⟨x, e, -⟩ := keyOf_str Tryz.underlying9 h
  exact ⟨⟨x.toArray⟩, e⟩
set_option maxHeartbeats 2000000 in
set_option maxRecDepth 100000 in
theorem used_any (w : World) (b : Nat) (ρ : Nat → Option Role) (S : Fs) (h : FsAt w b ρ S) : Calls Tryz.prog 94 #[.pointer (some ⟨b, 0, none⟩)] w fun e w' => e = .returned (.int .i64 (S.used : Nat)) ∧ Below w.heap.size w w' := by
  obtain ⟨L, h⟩ := h
  have H := Lib.hid h
  have c0 := h.cells.c0
  have hnow := h.now
  have hub := h.ok.used_bd
  clear h
  cases hmn : L.mn with
  | none =>
    rw [hmn] at c0 hnow
    have hE : Hid (S.used = 0) := Lib.hid (by
      have h1 : dmap L.fb S.now = [] := hnow
      have h2 : S.now = [] := by
        have := dmap_len L.fb S.now
        rw [h1] at this
        exact List.eq_nil_of_length_eq_zero this.symm
      unfold Fs.used; rw [h2]; rfl)
    clear hnow hub hmn
    have hrg := run_range_nilMap (P := Tryz.prog) w 46 _ _ Tryz.underlying46
    have hnx : ∀ ty, (Instr.next (.pointer (some ⟨w.heap.size, 0, none⟩)) false ty).run Tryz.prog (w.alloc (.mapIter none 0 #[] 0)) = _ := fun ty => run_next_nilMap w ty 0 0 #[]
    go_enter Tryz.func94, Tryz.ntmps94
    go_wp2
    refine wp_loop_rounds 1 ?_
    rw [rounds_succ]
    go_wp2
    go_ret
    rw [hE.out]
    exact ⟨rfl, (Below.refl _ _).alloc (Nat.le_refl _) _⟩
  | some k =>
    rw [hmn] at c0 hnow
    have hown : w.ownsMap Tryz.prog 9 ptrR k (dmap L.fb S.now).length (rawD (dmap L.fb S.now)) := hnow
    have HLE := Lib.hid (fun left => Nat.le_trans (sumNot_le (fun i => (S.file i).bytes.length) left S.now) hub)
    clear hmn hub hnow
    go_enter Tryz.func94, Tryz.ntmps94
    go_wp2_with (first
      | (at_range; refine wpList_range_own _ rfl _ 46 rfl 9 59 keyedN Tryz.underlying46 _ k _ _ rfl hown ?_; intro w0 hrg0 hg0 hs0)
      | go_in)
    go_frame
    go_loopw [3, 5] (fun s _ wr => ∃ (left : Lit → Bool) (cnt m : Nat), s = .int .i64 (m : Int) ∧ Hid (m = sumNot (fun i => (S.file i).bytes.length) left S.now) ∧ wr.ranges Tryz.prog 9 ptrR k w.heap.size (dmap L.fb S.now).length (rawD (dmap L.fb S.now)) left cnt ∧ Hid (Below w.heap.size w wr))
      (fun _ _ wr => wr.rangeLeft k w.heap.size)
    case atStart =>
      refine ⟨_, _, 0, rfl, Lib.hid (sumNot_start _ _ _ fun x hx => ?_).symm, hrg0, Lib.hid ((Below.refl _ _).grown hg0 (Nat.le_refl _) fun j hj => by cases hj)⟩
      show (List.any ((dmap L.fb S.now).map rawE) fun p => p.1.sameKey (litS x.1)) = true
      rw [List.any_eq_true]
      refine ⟨rawE (x.1, L.fb x.2), List.mem_map_of_mem (List.mem_map.2 ⟨x, hx, rfl⟩), ?_⟩
      show (litS x.1).sameKey (litS x.1) = true
      rw [litS_same]; simp
    case round =>
      obtain ⟨left, cnt, m, rfl, hm, hrg, hB⟩ := hrel
      go_wp2_with (first
        | (at_next; refine wpList_next_ranges _ rfl _ rfl 9 keyedN ptrR (fun x : ByteArray => .string x) ptrO (fun key kl hk => inv_key hk) (fun v y hv => by obtain ⟨o, e, -⟩ := ptrR_inv hv; exact ⟨o, e⟩) k w.heap.size _ _ _ _ rfl hrg ?_ ?_)
        | go_in)
      · intro _ hl0
        have hE : Hid (m = S.used) := Lib.hid (by rw [hm.out, sumNot_end _ hl0]; rfl)
        clear hl0
        go_wp2
        go_ret
        rw [← hE.out]
        exact ⟨rfl, hB.out⟩
      · intro x c kl yd yp w1 cnt1 hkey hlx hRc hat hrg1 hlt hg1 hs1 hen
        obtain ⟨i, hgi, rfl, rfl⟩ := entry_of hkey hRc hat
        have hmem := (dget_mem H.out.ok.now).1 hgi
        have hm1 : Hid (m + (S.file i).bytes.length = sumNot (fun i => (S.file i).bytes.length) (fun z => left z && !z.sameKey (litS x)) S.now) := Lib.hid (by rw [sumNot_step _ hlx H.out.ok.now hmem, ← hm.out])
        have hle : m + (S.file i).bytes.length ≤ 3355443200 := by rw [hm1.out]; exact HLE.out _
        have hB1 : Below w.heap.size w w1 := hB.out.trans (UpdF.below (UpdF.grown (F := fun j => j = w.heap.size) hg1 fun j hj => (Option.some.inj hj).symm) hB.out.size fun j hj e => by omega)
        have hf := H.out.files i _ (Fs.file_some (H.out.ok.inNow _ hmem))
        obtain ⟨a, len, cap, hv, hlen, -, -⟩ := hf.own.form
        have hcell := hf.cell
        rw [hv] at hcell
        have d0 := (fil_cells ((hB1.block _ (Array.getElem?_eq_some_iff.1 hcell).1).trans hcell)).c0
        have HB1 := Lib.hid hB1
        rw [← hlen] at hm1 hle
        have HME := Lib.hid (show w1.rangeLeft k w.heap.size < wr.rangeLeft k w.heap.size by rw [hrg1.left_eq, hrg.left_eq]; exact hlt)
        clear hgi hmem hf hv hlen hcell hB1 hg1 hs1 hlt hlx hRc hat hkey
        unfold ptrO at hen ⊢
        go_wp2
        go_roundw
        case rel => exact ⟨_, cnt1, m + len, by go_num, hm1, hrg1, HB1⟩
        case measure => exact HME.out
end Go.Proofs.YtmmkgopnccfiiaaGreatDoor
/- simfs' Append: bytes at a file's end. -/
namespace Go.Proofs.YtmmkgopnccfiiaaGreatDoor
set_option linter.unusedVariables false
open Go.RowKit Go.Maps
/-- 'append', by what it gives. -/
theorem wp_appRun {P : Program} {ops : Array Oper} {rest : List Oper} {o : Oper} {a : Act} {w w' : World} {Q : Exit → Act → World → Prop} {v src v' : Value} {t : TypeId} (s x : Operand) (ho : o.op = .call { callee := .builtin .append, args := #[s, x], argTypes := #[t, t] }) (hw : Region.wanted o (yielded ops a.tmps) = true)
    (hs : a.eval s = v) (hx : a.eval x = src) (hr : (Builtin.append_ #[t, t] o.type #[v, src]).run P w = .ok v' w') (h : wpList P ops Q rest (a.put o.dst v') w') : wpList P ops Q (o :: rest) a w := by
  refine wpList_step fun K hK => ?_
  rw [if_pos hw]
  unfold Oper.wp execOp
  simp only [ho, resolve, invoke, builtin, Sem.run_bind, Sem.run_pure, Result.andThen_ok, List.map_toArray, List.map_cons, List.map_nil, hs, hx, hr]
  exact hK _ _ h
theorem append_bd {S : Fs} (h : FsOk S) {n : ByteArray} {i : Nat} (hg : dget n S.now = some i) : (S.file i).bytes.length ≤ S.used := by
  have hm := (dget_mem h.now).1 hg
  unfold Fs.used
  generalize S.now = l at hm
  induction l with
  | nil => exact absurd hm List.not_mem_nil
  | cons y r ih =>
    rw [List.map_cons, List.sum_cons]
    rcases List.mem_cons.1 hm with rfl | hm
    · simp
    · have := ih hm; omega
set_option maxHeartbeats 2000000 in
set_option maxRecDepth 100000 in
theorem append_any (w : World) (b : Nat) (ρ : Nat → Option Role) (S : Fs) (h : FsAt w b ρ S) (n : ByteArray) (hn : n.size ≤ maxLen) (bv0 : Value) (bs : List UInt8) (hbv : RdB w bv0 bs) (hout : OutF ρ bv0) (hbl : bs.length ≤ 1000000000000) :
    Calls Tryz.prog 60 #[.pointer (some ⟨b, 0, none⟩), .string n, bv0] w (OpAt w b ρ (S.append n bs)) := by
  have HB := Lib.hid (begin_any w b ρ S h)
  have HO := Lib.hid hout
  have HV := Lib.hid hbv
  obtain ⟨a, len, cap, rfl, hlen, hcap⟩ := hbv.form
  have HLE := Lib.hid hlen
  clear h hbv hout hcap hlen
  go_enter Tryz.func60, Tryz.ntmps60
  go_wp2_with fail
  refine HB.out.mono ?_
  rintro e w1 ⟨rfl, hA, hU⟩
  have HA := Lib.hid hA
  have HU := Lib.hid hU
  clear hA hU
  obtain ⟨z, hz⟩ : ∃ z, dieN S = z := ⟨_, rfl⟩
  rw [hz]
  by_cases hd : S.dies = true
  · have hr : Hid (S.append n bs = (7, S.begun)) := Lib.hid (by unfold Fs.append; rw [if_pos hd])
    obtain rfl : z = 7 := by rw [← hz]; exact if_pos hd
    clear hz hd
    go_wp2_with fail
    go_ret
    exact OpAt.begun HA.out HU.out hr.out
  · obtain rfl : z = 0 := by rw [← hz]; exact if_neg hd
    clear hz
    have HV1 : Hid (RdB w1 (.slice a len cap) bs) := Lib.hid (rdB_out HV.out (HU.out.own HA.out.role) HO.out)
    obtain ⟨L, hL⟩ := HA.out
    have HL := Lib.hid hL
    have HF := Lib.hid (fsFind_any w1 b ρ S.begun L hL n hn)
    clear hL
    go_wp2_with fail
    refine HF.out.mono ?_
    rintro e w' ⟨rfl, rfl⟩
    rw [nil_ptr]
    obtain ⟨o, ho⟩ : ∃ o, dget n S.begun.now = o := ⟨_, rfl⟩
    rw [ho]
    cases o with
    | none =>
      have hr : Hid (S.append n bs = (3, S.begun)) := Lib.hid (by unfold Fs.append; rw [if_neg hd, show dget n S.now = none from ho])
      clear ho hd
      go_wp2_with fail
      go_ret
      exact OpAt.begun HA.out HU.out hr.out
    | some i =>
      have HUS : Hid (∀ W, Below w1.heap.size w1 W → Calls Tryz.prog 94 #[.pointer (some ⟨b, 0, none⟩)] W fun e w' => e = .returned (.int .i64 (S.begun.used : Nat)) ∧ Below W.heap.size W w') := Lib.hid fun W hW => used_any W b ρ S.begun (HA.out.below hW)
      have hil : i < S.files.length := HL.out.ok.inNow (n, i) ((dget_mem HL.out.ok.now).1 ho)
      have hfi : S.files[i]? = some (S.file i) := Fs.file_some hil
      have HUB := Lib.hid (append_bd HL.out.ok ho)
      have c3 := HL.out.cells.c3
      have hrm : S.begun.room ≤ 16777216 := HL.out.ok.room
      have hus : S.begun.used ≤ 3355443200 := HL.out.ok.used_bd
      have HR : Hid (S.append n bs = if S.room < S.used + bs.length then (6, S.begun) else (0, { S.begun with files := S.files.set i ⟨(S.file i).bytes ++ bs, (S.file i).synced⟩ })) := Lib.hid (by
        unfold Fs.append; rw [if_neg hd, show dget n S.now = some i from ho])
      have HSR : Hid (S.begun.room = S.room ∧ S.begun.used = S.used) := Lib.hid ⟨rfl, rfl⟩
      obtain ⟨rm, hrme⟩ : ∃ rm, S.begun.room = rm := ⟨_, rfl⟩
      obtain ⟨us, huse⟩ : ∃ us, S.begun.used = us := ⟨_, rfl⟩
      rw [hrme] at c3 hrm HSR
      rw [huse] at HUS hus HSR
      have hrm' : (rm : Int) ≤ 16777216 := by omega
      have hus' : (us : Int) ≤ 3355443200 := by omega
      obtain ⟨x, hx⟩ : ∃ x, decide ((len : Int) > (rm : Int) - (us : Int)) = x := ⟨_, rfl⟩
      have HX := Lib.hid hx
      have HWR : Hid (IntKind.i64.wrap ((rm : Int) - (us : Int)) = (rm : Int) - (us : Int)) := Lib.hid (by rw [IntKind.wrap_i64]; omega)
      clear hrme huse ho hd hx
      go_wp2_with fail
      have HC3 := Lib.hid c3
      clear c3

      have BB : Below w1.heap.size w1 w1 := Below.refl _ _
      refine wp_region_held_drew (S := Below w1.heap.size w1) (by kernel_rfl) (Below.refl _ _).drew (fun hHeld => ?_)
      generalize w1.drew = wd2 at hHeld ⊢
      refine wpAnyH_shift hHeld ?_
      replace BB : Below w1.heap.size w1 wd2 := BB.trans (hHeld.mono BB.size)
      clear hHeld
      refine takeYes (i := 0) (k := 19) (v := .slice a len cap) rfl (by kernel_rfl) (by kernel_rfl) (by kernel_rfl) (by kernel_rfl) (fun _ _ _ h => h) (by kernel_rfl) ?_ (Below.refl _ _) ?_
      · intro W hSw; first | (go_simp; done) | go_simp
      try simp only [Act.put, List.setIfInBounds_toArray, List.set_cons_zero, List.set_cons_succ]
      refine takeYes (i := 1) (k := 20) (v := .int .i64 (len : Int)) rfl (by kernel_rfl) (by kernel_rfl) (by kernel_rfl) (by kernel_rfl) (fun _ _ _ h => h) (by kernel_rfl) ?_ (Below.refl _ _) ?_
      · intro W hSw; first | (go_simp; done) | go_simp
      try simp only [Act.put, List.setIfInBounds_toArray, List.set_cons_zero, List.set_cons_succ]
      refine takeYes (i := 2) (k := 21) (v := .pointer (some ⟨b, 0, none⟩)) rfl (by kernel_rfl) (by kernel_rfl) (by kernel_rfl) (by kernel_rfl) (fun _ _ _ h => h) (by kernel_rfl) ?_ (Below.refl _ _) ?_
      · intro W hSw; first | (go_simp; done) | go_simp
      try simp only [Act.put, List.setIfInBounds_toArray, List.set_cons_zero, List.set_cons_succ]
      refine takeYes (i := 3) (k := 22) (v := .pointer (some ⟨b, 0, none⟩)) rfl (by kernel_rfl) (by kernel_rfl) (by kernel_rfl) (by kernel_rfl) (fun _ _ _ h => h) (by kernel_rfl) ?_ (Below.refl _ _) ?_
      · intro W hSw; first | (go_simp; done) | go_simp
      try simp only [Act.put, List.setIfInBounds_toArray, List.set_cons_zero, List.set_cons_succ]
      refine takeYes (i := 4) (k := 23) (v := .pointer (some ⟨b, 3, none⟩)) rfl (by kernel_rfl) (by kernel_rfl) (by kernel_rfl) (by kernel_rfl) (fun _ _ _ h => h) (by kernel_rfl) ?_ (Below.refl _ _) ?_
      · intro W hSw; first | (go_simp; done) | go_simp
      try simp only [Act.put, List.setIfInBounds_toArray, List.set_cons_zero, List.set_cons_succ]
      refine takeYes (i := 5) (k := 24) (v := .int .i64 (rm : Int)) rfl (by kernel_rfl) (by kernel_rfl) (by kernel_rfl) (by kernel_rfl) (fun _ _ _ h => h) (by kernel_rfl) ?_ (Below.refl _ _) ?_
      · intro W hSw; have c3 := (hSw.cell (p := ⟨b, 3, none⟩) (Nat.lt_of_lt_of_le HA.out.lt BB.size)).trans ((BB.cell (p := ⟨b, 3, none⟩) HA.out.lt).trans HC3.out); first | (go_simp; done) | go_simp
      try simp only [Act.put, List.setIfInBounds_toArray, List.set_cons_zero, List.set_cons_succ]
      refine takeYes (i := 6) (k := 25) (v := .pointer (some ⟨b, 0, none⟩)) rfl (by kernel_rfl) (by kernel_rfl) (by kernel_rfl) (by kernel_rfl) (fun _ _ _ h => h) (by kernel_rfl) ?_ (Below.refl _ _) ?_
      · intro W hSw; first | (go_simp; done) | go_simp
      try simp only [Act.put, List.setIfInBounds_toArray, List.set_cons_zero, List.set_cons_succ]
      refine wpAnyH_ready (rs := [7]) (by kernel_rfl) (by simp) (AllReadyH.cons rfl (fun K hK => ?_) AllReadyH.nil)
      go_simp
      refine (HUS.out _ BB).mono ?_
      rintro e wd3 ⟨rfl, hb3⟩
      refine hK.out _ _ hb3 (fun _ => wpAnyH_shift hb3 ?_)
      clear hK K
      replace BB : Below w1.heap.size w1 wd3 := BB.trans (hb3.mono BB.size)
      clear hb3
      try simp only [Act.put, List.setIfInBounds_toArray, List.set_cons_zero, List.set_cons_succ]
      refine takeYes (i := 8) (k := 27) (v := .int .i64 ((rm : Int) - (us : Int))) rfl (by kernel_rfl) (by kernel_rfl) (by kernel_rfl) (by kernel_rfl) (fun _ _ _ h => h) (by kernel_rfl) ?_ (Below.refl _ _) ?_
      · intro W hSw; have hwr := HWR.out; first | (go_simp; done) | go_simp
      try simp only [Act.put, List.setIfInBounds_toArray, List.set_cons_zero, List.set_cons_succ]
      refine takeYes (i := 9) (k := 28) (v := .bool x) rfl (by kernel_rfl) (by kernel_rfl) (by kernel_rfl) (by kernel_rfl) (fun _ _ _ h => h) (by kernel_rfl) ?_ (Below.refl _ _) ?_
      · intro W hSw; have hxx : decide ((rm : Int) - (us : Int) < (len : Int)) = x := HX.out; first | (go_simp; done) | go_simp
      try simp only [Act.put, List.setIfInBounds_toArray, List.set_cons_zero, List.set_cons_succ]
      refine wpAnyH_done (by kernel_rfl) ?_ _
      have hBB := Lib.hid BB
      cases x with
      | true =>
        have hr : Hid (S.append n bs = (6, S.begun)) := Lib.hid (by
          have h1 := HX.out
          rw [decide_eq_true_eq] at h1
          have h2 := HLE.out
          have h3 := HSR.out
          rw [HR.out, if_pos (by omega)])
        clear BB
        go_wp2_with fail
        go_ret
        exact OpAt.begun (HA.out.below hBB.out) (HU.out.trans (UpdF.of hBB.out)) hr.out
      | false =>
        have hle : us + bs.length ≤ rm := by
          have h1 := HX.out
          rw [decide_eq_false_iff_not] at h1
          have h2 := HLE.out
          omega
        have hr : Hid (S.append n bs = (0, { S.begun with files := S.files.set i ⟨(S.file i).bytes ++ bs, (S.file i).synced⟩ })) := Lib.hid (by
          have h3 := HSR.out
          rw [HR.out, if_neg (by omega)])
        have HL2 := HL.out.same (w' := wd3) (fun k hk => BB.block k (HL.out.top k hk)) BB.size
        have hf := HL2.files i _ hfi
        have hub : (S.file i).bytes.length ≤ us := by have h1 := HUB.out; have h2 := HSR.out.2; have h3 : S.begun.used = S.used := rfl; show (S.begun.file i).bytes.length ≤ us; omega
        obtain ⟨v', w3, g0, g1, g2, g3⟩ := run_appGB (ty := 23) hf.own (HV1.out.below BB) (by omega)
        obtain ⟨a', len', cap', rfl⟩ := row_form g1
        have hcell := hf.cell
        have hblk : ∀ k, (L.fv i).ownBlock = some k → k ≠ L.fb i := fun k hk e => by
          have h1 := hf.brole k hk
          rw [e, hf.role] at h1; cases h1
        have hcell3 : w3.heap[L.fb i]? = some (.cells (filV (L.fv i) (S.file i).synced) 63 (0, 0)) := (g2.block _ (Array.getElem?_eq_some_iff.1 hcell).1 (fun e => hblk _ e.symm rfl)).trans hcell
        have HX2 : Hid (FsTo w b ρ (w3.setCell ⟨L.fb i, 0, none⟩ (.slice a' len' cap')) { S.begun with files := S.files.set i ⟨(S.file i).bytes ++ bs, (S.file i).synced⟩ }) := Lib.hid (by
          have u : UpdF (fun k => k = L.fb i ∨ (L.fv i).ownBlock = some k) wd3 (w3.setCell ⟨L.fb i, 0, none⟩ (.slice a' len' cap')) := UpdF.set (UpdF.grown g2 fun k hk => .inr hk) _ _ _ (.inl rfl)
          have hbd := HL.out.ok.file_bd i
          refine (HL2.setFile (f' := ⟨(S.file i).bytes ++ bs, (S.file i).synced⟩) (v' := .slice a' len' cap') hfi u ?_ ?_ g3 ⟨?_, ?_⟩).pre (((HU.out.own HA.out.role)).trans (UpdF.of BB)) fun k hk => .inl hk
          · rw [cells_set hcell3]; rfl
          · refine row_same g1 fun k hk => Below.heap_setCell _ _ _ _ fun e => ?_
            have e' : k = L.fb i := e
            rcases g3 k hk with h | h
            · exact hblk k h e'
            · have := (Array.getElem?_eq_some_iff.1 hcell).1; omega
          · rw [List.length_append]
            have := (HL.out.ok.file_bd i).1
            show (S.file i).synced ≤ _
            have h2 : (S.begun.file i).synced = (S.file i).synced := rfl
            have h3 : (S.begun.file i).bytes = (S.file i).bytes := rfl
            rw [h2, h3] at this
            omega
          · rw [List.length_append]
            show (S.file i).bytes.length + bs.length ≤ _
            omega)
        obtain ⟨fa, fl, fc, hfv⟩ := row_form hf.own
        rw [hfv] at hcell hcell3 g0
        have c0 := (fil_cells hcell).c0
        have d0 := (fil_cells hcell3).c0
        have f0 := (fil_cells hcell3).free 0
        clear hblk hcell hcell3 hf g1 g2 g3 HL2 BB hfv hub hle
        go_wp2_with (first | (at_builtin; refine wp_appRun (.tmp 33) (.tmp 34) rfl rfl rfl rfl g0 ?_) | fail)
        go_ret
        unfold OpAt
        rw [hr.out]
        exact ⟨rfl, HX2.out⟩
end Go.Proofs.YtmmkgopnccfiiaaGreatDoor
/- The library's contracts, laid at this program: maps.Clone, maps.Keys, slices.Sorted, slices.Sort. -/
namespace Go.Proofs.YtmmkgopnccfiiaaGreatDoor
open Go.Shelf
def cloneM_ren : Go.Shelf.Ren := ⟨fun | 5 => 41 | 7 => 74 | n => n, fun | 23 => 46 | 25 => 9 | 3 => 59 | 4 => 4 | 20 => 20 | n => n, fun | n => n⟩
theorem cloneM : Go.Proofs.SlLaysW.n5 Tryz.prog cloneM_ren := {
  mixed := by kernel_rfl
  f5 := ⟨Tryz.f41.name, by decide, Tryz.func41.trans (congrArg some (by kernel_rfl))⟩
  f7 := Tryz.func74.trans (congrArg some (by kernel_rfl))
  t4 := Tryz.underlying4
  a4 := Tryz.isAgg4
  z4 := Tryz.sizeOf4
  v4 := Tryz.zeroValue4
  t20 := Tryz.underlying20
  a20 := Tryz.isAgg20
  z20 := Tryz.sizeOf20
  v20 := Tryz.zeroValue20
  t23 := Tryz.underlying46
  a23 := Tryz.isAgg46
  z23 := Tryz.sizeOf46
  v23 := Tryz.zeroValue46 }
def keysM_ren : Go.Shelf.Ren := ⟨fun | 7 => 63 | 10 => 97 | n => n, fun | 23 => 46 | 26 => 9 | 3 => 59 | 28 => 100 | 0 => 0 | 27 => 99 | 33 => 58 | 4 => 4 | n => n, fun | n => n⟩
theorem keysM : Go.Proofs.SlLaysZ.n7 Tryz.prog keysM_ren := {
  mixed := by kernel_rfl
  f7 := ⟨Tryz.f63.name, by decide, Tryz.func63.trans (congrArg some (by kernel_rfl))⟩
  f10 := ⟨Tryz.f97.name, by decide, Tryz.func97.trans (congrArg some (by kernel_rfl))⟩
  t0 := Tryz.underlying0
  a0 := Tryz.isAgg0
  z0 := Tryz.sizeOf0
  v0 := Tryz.zeroValue0
  t4 := Tryz.underlying4
  a4 := Tryz.isAgg4
  z4 := Tryz.sizeOf4
  v4 := Tryz.zeroValue4
  t23 := Tryz.underlying46
  a23 := Tryz.isAgg46
  z23 := Tryz.sizeOf46
  v23 := Tryz.zeroValue46
  t26 := Tryz.underlying9
  a26 := Tryz.isAgg9
  z26 := Tryz.sizeOf9
  v26 := Tryz.zeroValue9
  t27 := Tryz.underlying99
  a27 := Tryz.isAgg99
  z27 := Tryz.sizeOf99
  v27 := Tryz.zeroValue99
  t28 := Tryz.underlying100
  a28 := Tryz.isAgg100
  z28 := Tryz.sizeOf100
  v28 := Tryz.zeroValue100
  t33 := Tryz.underlying58
  a33 := Tryz.isAgg58
  z33 := Tryz.sizeOf58
  v33 := Tryz.zeroValue58 }
def sortedM_ren : Go.Shelf.Ren := ⟨fun | 6 => 62 | 8 => 95 | 9 => 96 | 11 => 125 | 13 => 127 | 12 => 126 | 23 => 159 | 24 => 160 | 14 => 150 | 15 => 151 | 16 => 152 | 17 => 153 | 18 => 154 | 19 => 155 | 20 => 156 | 21 => 157 | 22 => 158 | 25 => 183 | 26 => 184 | 27 => 185 | 28 => 186 | 29 => 187 | 30 => 188 | 31 => 199 | n => n, fun | 26 => 9 | 28 => 100 | 24 => 33 | 0 => 0 | 3 => 3 | 37 => 160 | 48 => 135 | 50 => 111 | 4 => 4 | 40 => 188 | 39 => 187 | 45 => 192 | 5 => 5 | 9 => 9 | 51 => 213 | 55 => 217 | 57 => 229 | 58 => 230 | 33 => 58 | n => n, fun | n => n⟩
theorem sortedM : Go.Proofs.SlLaysZ.n6 Tryz.prog sortedM_ren := {
  mixed := by kernel_rfl
  f6 := ⟨Tryz.f62.name, by decide, Tryz.func62.trans (congrArg some (by kernel_rfl))⟩
  f8 := ⟨Tryz.f95.name, by decide, Tryz.func95.trans (congrArg some (by kernel_rfl))⟩
  f11 := ⟨Tryz.f125.name, by decide, Tryz.func125.trans (congrArg some (by kernel_rfl))⟩
  t0 := Tryz.underlying0
  a0 := Tryz.isAgg0
  z0 := Tryz.sizeOf0
  v0 := Tryz.zeroValue0
  t24 := Tryz.underlying33
  a24 := Tryz.isAgg33
  z24 := Tryz.sizeOf33
  v24 := Tryz.zeroValue33
  t26 := Tryz.underlying9
  a26 := Tryz.isAgg9
  z26 := Tryz.sizeOf9
  v26 := Tryz.zeroValue9
  t28 := Tryz.underlying100
  a28 := Tryz.isAgg100
  z28 := Tryz.sizeOf100
  v28 := Tryz.zeroValue100
  i26 := by kernel_rfl }
def sortM_ren : Go.Shelf.Ren := ⟨fun | 6 => 96 | 8 => 127 | 9 => 126 | 19 => 159 | 20 => 160 | 21 => 150 | 22 => 151 | 23 => 152 | 24 => 153 | 25 => 154 | 26 => 155 | 27 => 156 | 28 => 157 | 29 => 158 | 36 => 183 | 31 => 184 | 32 => 185 | 37 => 186 | 38 => 187 | 39 => 188 | 41 => 199 | n => n, fun | 27 => 33 | 29 => 9 | 3 => 3 | 32 => 160 | 26 => 33 | 0 => 0 | 44 => 135 | 46 => 111 | 4 => 4 | 36 => 188 | 35 => 187 | 41 => 192 | 5 => 5 | 9 => 9 | 53 => 213 | 57 => 217 | 63 => 229 | 64 => 230 | n => n, fun | n => n⟩
theorem sortM : Go.Proofs.SlLaysM.n6 Tryz.prog sortM_ren := {
  mixed := by kernel_rfl
  f6 := ⟨Tryz.f96.name, by decide, Tryz.func96.trans (congrArg some (by kernel_rfl))⟩
  f8 := Tryz.func127.trans (congrArg some (by kernel_rfl))
  f9 := ⟨Tryz.f126.name, by decide, Tryz.func126.trans (congrArg some (by kernel_rfl))⟩
  f19 := Tryz.func159.trans (congrArg some (by kernel_rfl))
  f20 := Tryz.func160.trans (congrArg some (by kernel_rfl))
  f21 := ⟨Tryz.f150.name, by decide, Tryz.func150.trans (congrArg some (by kernel_rfl))⟩
  f22 := ⟨Tryz.f151.name, by decide, Tryz.func151.trans (congrArg some (by kernel_rfl))⟩
  f23 := ⟨Tryz.f152.name, by decide, Tryz.func152.trans (congrArg some (by kernel_rfl))⟩
  f24 := ⟨Tryz.f153.name, by decide, Tryz.func153.trans (congrArg some (by kernel_rfl))⟩
  f25 := ⟨Tryz.f154.name, by decide, Tryz.func154.trans (congrArg some (by kernel_rfl))⟩
  f26 := ⟨Tryz.f155.name, by decide, Tryz.func155.trans (congrArg some (by kernel_rfl))⟩
  f27 := ⟨Tryz.f156.name, by decide, Tryz.func156.trans (congrArg some (by kernel_rfl))⟩
  f28 := ⟨Tryz.f157.name, by decide, Tryz.func157.trans (congrArg some (by kernel_rfl))⟩
  f29 := ⟨Tryz.f158.name, by decide, Tryz.func158.trans (congrArg some (by kernel_rfl))⟩
  f31 := Tryz.func184.trans (congrArg some (by kernel_rfl))
  f32 := Tryz.func185.trans (congrArg some (by kernel_rfl))
  f36 := ⟨Tryz.f183.name, by decide, Tryz.func183.trans (congrArg some (by kernel_rfl))⟩
  f37 := ⟨Tryz.f186.name, by decide, Tryz.func186.trans (congrArg some (by kernel_rfl))⟩
  f38 := ⟨Tryz.f187.name, by decide, Tryz.func187.trans (congrArg some (by kernel_rfl))⟩
  f39 := ⟨Tryz.f188.name, by decide, Tryz.func188.trans (congrArg some (by kernel_rfl))⟩
  f41 := ⟨Tryz.f199.name, by decide, Tryz.func199.trans (congrArg some (by kernel_rfl))⟩
  t0 := Tryz.underlying0
  a0 := Tryz.isAgg0
  z0 := Tryz.sizeOf0
  v0 := Tryz.zeroValue0
  t3 := Tryz.underlying3
  a3 := Tryz.isAgg3
  z3 := Tryz.sizeOf3
  v3 := Tryz.zeroValue3
  t4 := Tryz.underlying4
  a4 := Tryz.isAgg4
  z4 := Tryz.sizeOf4
  v4 := Tryz.zeroValue4
  t5 := Tryz.underlying5
  a5 := Tryz.isAgg5
  z5 := Tryz.sizeOf5
  v5 := Tryz.zeroValue5
  t9 := Tryz.underlying9
  a9 := Tryz.isAgg9
  z9 := Tryz.sizeOf9
  v9 := Tryz.zeroValue9
  t26 := Tryz.underlying33
  a26 := Tryz.isAgg33
  z26 := Tryz.sizeOf33
  v26 := Tryz.zeroValue33
  t27 := Tryz.underlying33
  a27 := Tryz.isAgg33
  z27 := Tryz.sizeOf33
  v27 := Tryz.zeroValue33
  t29 := Tryz.underlying9
  a29 := Tryz.isAgg9
  z29 := Tryz.sizeOf9
  v29 := Tryz.zeroValue9
  t32 := Tryz.underlying160
  a32 := Tryz.isAgg160
  z32 := Tryz.sizeOf160
  v32 := Tryz.zeroValue160
  t35 := Tryz.underlying187
  a35 := Tryz.isAgg187
  z35 := Tryz.sizeOf187
  v35 := Tryz.zeroValue187
  t36 := Tryz.underlying188
  a36 := Tryz.isAgg188
  z36 := Tryz.sizeOf188
  v36 := Tryz.zeroValue188
  t41 := Tryz.underlying192
  a41 := Tryz.isAgg192
  z41 := Tryz.sizeOf192
  v41 := Tryz.zeroValue192
  t44 := Tryz.underlying135
  a44 := Tryz.isAgg135
  z44 := Tryz.sizeOf135
  v44 := Tryz.zeroValue135
  t46 := Tryz.underlying111
  a46 := Tryz.isAgg111
  z46 := Tryz.sizeOf111
  v46 := Tryz.zeroValue111
  t53 := Tryz.underlying213
  a53 := Tryz.isAgg213
  z53 := Tryz.sizeOf213
  v53 := Tryz.zeroValue213
  t57 := Tryz.underlying217
  a57 := Tryz.isAgg217
  z57 := Tryz.sizeOf217
  v57 := Tryz.zeroValue217
  t63 := Tryz.underlying229
  a63 := Tryz.isAgg229
  z63 := Tryz.sizeOf229
  v63 := Tryz.zeroValue229
  t64 := Tryz.underlying230
  a64 := Tryz.isAgg230
  z64 := Tryz.sizeOf230
  v64 := Tryz.zeroValue230 }
end Go.Proofs.YtmmkgopnccfiiaaGreatDoor
/- simfs' names of a directory, rising: the library's keys of a map, sorted. -/
namespace Go.Proofs.YtmmkgopnccfiiaaGreatDoor
set_option linter.unusedVariables false
open Go.RowKit Go.Maps Go.Sort Go.Shelf
theorem sortsM (m : Nat) : AnyZ.SortsIn Tryz.prog sortedM_ren Fence.wide m :=
  ⟨fun blk off cap ss W hH hblk hsz => callsIn_wide.2 (AnyM.slices_Sort_string sortM blk off cap ss W hH hblk hsz),
   fun p cap W => callsIn_wide.2 (AnyM.slices_Sort_string_none sortM p cap W)⟩
theorem keys_c (mb : Option Nat) (W : World) : Calls Tryz.prog 63 #[.map mb] W fun e w' => e = .returned (.func (.func 97) #[] #[.pointer (some ⟨W.heap.size, 0, none⟩)]) ∧ w' = W.alloc (.cells #[.map mb] 46) :=
  callsIn_wide.1 (AnyZ.keys_in keysM Fence.wide 5 trivial rfl mb W)
def SortedAt (w : World) (l : Dir) (e : Ending) (w' : World) : Prop := ∃ v, e = .returned v ∧ OwnV 9 w.heap.size w' v (l.map fun x => .string x.1) ∧ Below w.heap.size w w'
theorem enc_str (s : ByteArray) : encStr s.data.toList = .string s := by unfold encStr; simp
theorem names_sorted {l : Dir} (h : DirOk l) {ss : List (List UInt8)} (hp : ss.Perm (strKeys (rawD l))) : (ss.mergeSort (fun x y => decide (x ≤ y))).map encStr = l.map fun x => .string x.1 := by
  have h1 : ss.mergeSort (fun x y => decide (x ≤ y)) = l.map fun x => x.1.data.toList := by
    rw [show ss.mergeSort (fun x y => decide (x ≤ y)) = ss.mergeSort leB from rfl, mergeSort_of_perm hp, raw_keys]
    refine List.mergeSort_of_pairwise (List.pairwise_map.2 (h.imp fun {x y} hxy => ?_))
    simp only [leB, decide_eq_true_eq]
    exact List.le_of_lt hxy
  rw [h1, List.map_map]
  exact List.map_congr_left fun x _ => enc_str x.1
theorem sorted_c (mb : Option Nat) (l : Dir) (w : World) (h : MB w mb l) (hok : DirOk l) (hl : l.length ≤ 1000000) :
    Calls Tryz.prog 62 #[.func (.func 97) #[] #[.pointer (some ⟨w.heap.size, 0, none⟩)]] (w.alloc (.cells #[.map mb] 46)) (SortedAt (w.alloc (.cells #[.map mb] 46)) l) := by
  cases mb with
  | none =>
    have hseq : SeqGives Fence.wide 2 Tryz.prog 97 #[.pointer (some ⟨w.heap.size, 0, none⟩)] encStr (fun ss : List (List UInt8) => ss = []) 0 (w.alloc (.cells #[.map none] 46)) :=
      AnyZ.keys_gives_nil (ρ := keysM_ren) { keysM with } Fence.wide _ trivial rfl w.heap.size _ (by simp) (by simp)
    refine Calls.mono (callsIn_wide.1 (AnyZ.sorted_in sortedM Fence.wide 5 trivial trivial trivial trivial rfl (by omega) (sortsM _) (enters_of Tryz.func96 (by kernel_rfl) rfl) 97 #[.pointer (some ⟨w.heap.size, 0, none⟩)] trivial (enters_of Tryz.func97 (by kernel_rfl) rfl) _ 0 (Nat.zero_le _) (by omega) _ hseq)) ?_
    rintro e w' ⟨v, ss, rfl, rfl, hrow, hnil, hb⟩
    have hl0 : l = [] := h
    subst hl0
    have h0 : ([] : List (List UInt8)).mergeSort (fun x y => decide (x ≤ y)) = [] := by simp
    rw [h0] at hrow
    exact ⟨v, rfl, hrow, hb⟩
  | some k =>
    have hown : w.ownsMap Tryz.prog 9 ptrR k l.length (rawD l) := h
    have hbl := hown.lt
    have hsz : Maps.size (rawD l) = l.length := raw_size l
    have hseq : SeqGives Fence.wide 2 Tryz.prog 97 #[.pointer (some ⟨w.heap.size, 0, none⟩)] encStr (fun ss => ss.Perm (strKeys (rawD l))) (Maps.size (rawD l)) (w.alloc (.cells #[.map (some k)] 46)) :=
      AnyZ.keys_gives (ρ := keysM_ren) { keysM with } Fence.wide _ trivial rfl (by omega) w.heap.size k l.length (rawD l) _ (by simp) (by simp) (by
        obtain ⟨es, clock, hb, Ft, hs, hD⟩ := hown
        exact ⟨es, clock, (Below.heap_alloc _ _ k hbl).trans hb, Ft, hs, hD⟩)
    refine Calls.mono (callsIn_wide.1 (AnyZ.sorted_in sortedM Fence.wide 5 trivial trivial trivial trivial rfl (by omega) (sortsM _) (enters_of Tryz.func96 (by kernel_rfl) rfl) 97 #[.pointer (some ⟨w.heap.size, 0, none⟩)] trivial (enters_of Tryz.func97 (by kernel_rfl) rfl) _ _ (by rw [hsz]; unfold maxLen; omega) (by rw [hsz]; omega) _ hseq)) ?_
    rintro e w' ⟨v, ss, rfl, hS, hrow, hnil, hb⟩
    refine ⟨v, rfl, ?_, hb⟩
    have hlen : ss.length = l.length := by rw [hS.length_eq, raw_keys, List.length_map]
    have hns := names_sorted hok hS
    unfold OwnV
    rw [List.length_map, ← hlen, ← hns]
    exact hrow
set_option maxHeartbeats 1000000 in
theorem names_any (mb : Option Nat) (l : Dir) (w : World) (h : MB w mb l) (hok : DirOk l) (hl : l.length ≤ 1000000) : Calls Tryz.prog 30 #[.map mb] w (SortedAt w l) := by
  have HK := Lib.hid (keys_c mb w)
  have HS := Lib.hid (sorted_c mb l w h hok hl)
  clear h hok hl
  go_enter Tryz.func30, Tryz.ntmps30
  go_wp2_with fail
  refine HK.out.mono ?_
  rintro e w1 ⟨rfl, rfl⟩
  go_wp2_with fail
  refine HS.out.mono ?_
  rintro e w2 ⟨v, rfl, h1, h2⟩
  go_wp2_with fail
  go_ret
  exact ⟨v, rfl, h1.base (by simp), ((Below.refl _ _).alloc (Nat.le_refl _) _).trans (h2.mono (by simp))⟩
end Go.Proofs.YtmmkgopnccfiiaaGreatDoor
/- simfs' SyncDir: the directory as it is now lasts. -/
namespace Go.Proofs.YtmmkgopnccfiiaaGreatDoor
set_option linter.unusedVariables false
open Go.RowKit Go.Maps
def CloneAt (w : World) (mb : Option Nat) (l : Dir) (e : Ending) (w' : World) : Prop := ∃ mb', e = .returned (.map mb') ∧ MB w' mb' l ∧ (mb' = none ∨ mb' = some w.heap.size) ∧ Below w.heap.size w w'
theorem mclone_any (mb : Option Nat) (l : Dir) (w : World) (h : MB w mb l) : Calls Tryz.prog 41 #[.map mb] w (CloneAt w mb l) := by
  cases mb with
  | none =>
    refine Calls.mono (AnyW.maps_Clone_nil cloneM w) ?_
    rintro e w' ⟨rfl, rfl⟩
    exact ⟨none, rfl, h, .inl rfl, Below.refl _ _⟩
  | some k =>
    refine Calls.mono (AnyW.maps_Clone_owns cloneM _ ptrR k l.length (rawD l) w h) ?_
    rintro e w' ⟨rfl, h1, h2, h3⟩
    exact ⟨some _, rfl, h1, .inr rfl, h3⟩
theorem FsOk.syncDir {S : Fs} (h : FsOk S) : FsOk { S with old := S.now, wait := [] } := by
  refine { h with old := h.now, same := rfl, few := fun k => ?_, inOld := h.inNow, inWait := fun c hc => absurd hc List.not_mem_nil, sizes := fun c hc => absurd hc List.not_mem_nil }
  show (List.foldl Chg.run S.now (List.take k [])).length ≤ 200
  rw [List.take_nil]; exact h.few_now
theorem FsLay.syncDir {w w' : World} {b : Nat} {ρ : Nat → Option Role} {S : Fs} {L : Lay} {ml : Option Nat} (h : FsLay w b ρ S L) (u : UpdF (fun i => i = b) w w')
    (hc : w'.heap[b]? = some (.cells (fsV L.mn ml (.slice none 0 0) S.room S.calls S.fails.isSome L.ah) 49 (0, 0))) (hm : MB w' ml (dmap L.fb S.now)) (hk : ∀ k, ml = some k → w.heap.size ≤ k) : FsTo w b ρ w' { S with old := S.now, wait := [] } := by
  have keep : ∀ r x, ρ x = some r → (if ml = some x then some Role.old else ρ x) = some r := fun r x hx => by
    rw [if_neg]
    · exact hx
    · intro e
      have h1 := hk x e
      have := h.top x (by rw [hx]; simp); omega
  have blk : ∀ r x, ρ x = some r → r ≠ .fs → w'.heap[x]? = w.heap[x]? := fun r x hx h0 => u.block x (h.top x (by rw [hx]; simp)) (by
    intro e
    have e' : x = b := e
    rw [e', h.role] at hx; exact h0 (Option.some.inj hx).symm)
  refine ⟨fun x => if ml = some x then some .old else ρ x, ⟨{ L with ml := ml, wv := .slice none 0 0 }, { cell := hc, role := keep _ _ h.role, ahead := h.ahead, now := ?_, nrole := ?_, old := hm, orole := fun k hk => if_pos hk, wait := OwnK.nil _ _ _ _ _, wrole := (fun k hk => by cases hk), files := ?_, top := ?_, ok := h.ok.syncDir }⟩, ?_, ?_⟩
  · exact h.now.same fun j hj => blk _ j (h.nrole j hj) (by simp)
  · exact fun j hj => keep _ _ (h.nrole j hj)
  · intro j g hj
    have h1 := h.files j g hj
    exact ⟨(blk _ _ h1.role (by simp)).trans h1.cell, keep _ _ h1.role, row_same h1.own fun k hk => blk _ k (h1.brole k hk) (by simp), fun k hk => keep _ _ (h1.brole k hk)⟩
  · intro j hj
    split at hj
    · rename_i e; exact hm.lt j e
    · exact Nat.lt_of_lt_of_le (h.top j hj) u.size
  · exact u.own h.role
  · intro j hj
    have hj' : (if ml = some j then some Role.old else ρ j) ≠ none := hj
    clear hj
    split at hj'
    · rename_i e; exact .inr (hk j e)
    · exact .inl hj'
set_option maxHeartbeats 2000000 in
set_option maxRecDepth 100000 in
theorem syncDir_any (w : World) (b : Nat) (ρ : Nat → Option Role) (S : Fs) (h : FsAt w b ρ S) : Calls Tryz.prog 55 #[.pointer (some ⟨b, 0, none⟩)] w (OpAt w b ρ S.syncDir) := by
  have HB := Lib.hid (begin_any w b ρ S h)
  clear h
  go_enter Tryz.func55, Tryz.ntmps55
  go_wp2_with fail
  refine HB.out.mono ?_
  rintro e w1 ⟨rfl, hA, hU⟩
  have HA := Lib.hid hA
  have HU := Lib.hid hU
  clear hA hU
  obtain ⟨z, hz⟩ : ∃ z, dieN S = z := ⟨_, rfl⟩
  rw [hz]
  by_cases hd : S.dies = true
  · have hr : Hid (S.syncDir = (7, S.begun)) := Lib.hid (by unfold Fs.syncDir; rw [if_pos hd])
    obtain rfl : z = 7 := by rw [← hz]; exact if_pos hd
    clear hz hd
    go_wp2_with fail
    go_ret
    exact OpAt.begun HA.out HU.out hr.out
  · obtain rfl : z = 0 := by rw [← hz]; exact if_neg hd
    clear hz
    obtain ⟨L, hL⟩ := HA.out
    have HL := Lib.hid hL
    have hr : Hid (S.syncDir = (0, { S.begun with old := S.now, wait := [] })) := Lib.hid (by unfold Fs.syncDir; rw [if_neg hd])
    have HM := Lib.hid (mclone_any L.mn _ w1 hL.now)
    have c0 := hL.cells.c0
    clear hL hd
    go_wp2_with fail
    refine HM.out.mono ?_
    rintro e w2 ⟨ml, rfl, h1, h2, h3⟩
    have HL2 := HL.out.same (w' := w2) (fun k hk => h3.block k (HL.out.top k hk)) h3.size
    have HX : Hid (FsTo w b ρ ((w2.setCell ⟨b, 1, none⟩ (.map ml)).setCell ⟨b, 2, none⟩ (.slice none 0 0)) { S.begun with old := S.now, wait := [] }) := Lib.hid (by
      have u := ((UpdF.refl (fun k => k = b) w2).set b 1 (.map ml) rfl).set b 2 (.slice none 0 0) rfl
      have hmb : ∀ k, ml = some k → k ≠ b := fun k hk e => by
        rcases h2 with e1 | e1
        · rw [e1] at hk; cases hk
        · rw [e1] at hk
          obtain rfl := Option.some.inj hk
          have := HL.out.top b (by rw [HL.out.role]; simp)
          omega
      have u0 : UpdF (fun k => k = b) w1 ((w2.setCell ⟨b, 1, none⟩ (.map ml)).setCell ⟨b, 2, none⟩ (.slice none 0 0)) := (UpdF.of h3).trans u
      refine (HL.out.syncDir (ml := ml) u0 ?_ ?_ ?_).pre (HU.out.own HA.out.role) fun k hk => .inl hk
      · rw [cells_set (cells_set HL2.cell _)]; rfl
      · exact h1.same fun k hk => u.block k (h1.lt k hk) (hmb k hk)
      · intro k hk
        rcases h2 with e1 | e1
        · rw [e1] at hk; cases hk
        · rw [e1] at hk
          obtain rfl := Option.some.inj hk
          exact Nat.le_refl _)
    have d1 := HL2.cells.c1
    have d2 := HL2.cells.c2
    have f1 := HL2.cells.free 1
    have f2 := HL2.cells.free 2
    clear HL2 h1 h2 h3 c0
    go_wp2_with fail
    go_ret
    unfold OpAt
    rw [hr.out]
    exact ⟨rfl, HX.out⟩
end Go.Proofs.YtmmkgopnccfiiaaGreatDoor
/- simfs: a copy of bytes; Read; what a crash leaves of a file. -/
namespace Go.Proofs.YtmmkgopnccfiiaaGreatDoor
set_option linter.unusedVariables false
open Go.RowKit Go.Maps
def ReadAt (w : World) (bs : List UInt8) (c : Int) (e : Ending) (w' : World) : Prop := ∃ v, e = .returned (.tuple #[v, .int .i64 c]) ∧ OwnB w.heap.size w' v bs ∧ Below w.heap.size w w'
/-- What Read tells. -/
def Fs.read (S : Fs) (n : ByteArray) : List UInt8 × Int := match dget n S.now with
  | none => ([], 3)
  | some i => ((S.file i).bytes, 0)
set_option maxHeartbeats 1000000 in
theorem fsRead_any (w : World) (b : Nat) (ρ : Nat → Option Role) (S : Fs) (h : FsAt w b ρ S) (n : ByteArray) (hn : n.size ≤ maxLen) : Calls Tryz.prog 17 #[.pointer (some ⟨b, 0, none⟩), .string n] w (ReadAt w (S.read n).1 (S.read n).2) := by
  obtain ⟨L, hL⟩ := h
  have HL := Lib.hid hL
  have HF := Lib.hid (fsFind_any w b ρ S L hL n hn)
  clear hL
  go_enter Tryz.func17, Tryz.ntmps17
  go_wp2_with fail
  refine HF.out.mono ?_
  rintro e w' ⟨rfl, rfl⟩
  rw [nil_ptr]
  obtain ⟨o, ho⟩ : ∃ o, dget n S.now = o := ⟨_, rfl⟩
  rw [ho]
  cases o with
  | none =>
    have hr : Hid (S.read n = ([], 3)) := Lib.hid (by unfold Fs.read; rw [ho])
    clear ho
    go_wp2_with fail
    go_ret2
    rw [hr.out]
    exact ⟨_, rfl, OwnB.nil _ _, Below.refl _ _⟩
  | some i =>
    have hr : Hid (S.read n = ((S.file i).bytes, 0)) := Lib.hid (by unfold Fs.read; rw [ho])
    have hf := HL.out.files i _ (Fs.file_some (HL.out.ok.inNow (n, i) ((dget_mem HL.out.ok.now).1 ho)))
    have hbd := (HL.out.ok.file_bd i).2
    have HC := Lib.hid (bclone_any _ _ w hf.own.rd (by omega))
    obtain ⟨fa, fl, fc, hfv⟩ := row_form hf.own
    rw [hfv] at HC
    have hcell := hf.cell
    rw [hfv] at hcell
    have c0 := (fil_cells hcell).c0
    clear hf hcell hfv ho
    go_wp2_with fail
    refine HC.out.mono ?_
    rintro e w1 ⟨v, rfl, h1, h2⟩
    obtain ⟨a1, l1, p1, rfl⟩ := row_form h1
    go_wp2_with fail
    go_ret2
    rw [hr.out]
    exact ⟨_, rfl, h1, h2⟩
/-- A new file. -/
def FileNew (w : World) (f : Fil) (e : Ending) (w' : World) : Prop := ∃ nb v, e = .returned (.pointer (some ⟨nb, 0, none⟩)) ∧ w'.heap[nb]? = some (.cells (filV v f.synced) 63 (0, 0)) ∧ OwnB w.heap.size w' v f.bytes ∧ w.heap.size ≤ nb ∧ v.ownBlock ≠ some nb ∧ Below w.heap.size w w'
set_option maxHeartbeats 2000000 in
set_option maxRecDepth 100000 in
theorem fcrash_any (w : World) (blk : Nat) (fv : Value) (f : Fil) (t : Int) (hc : w.heap[blk]? = some (.cells (filV fv f.synced) 63 (0, 0))) (ho : OwnB 0 w fv f.bytes) (h1 : f.synced ≤ f.bytes.length) (h2 : f.bytes.length ≤ 16777216) :
    Calls Tryz.prog 44 #[.pointer (some ⟨blk, 0, none⟩), .int .i64 t] w (FileNew w (f.crash t)) := by
  obtain ⟨a, len, cap, rfl, hlen, hlc, hcm⟩ := ho.form
  obtain ⟨bs, sy⟩ := f
  dsimp only at hc ho h1 h2 hlen
  obtain ⟨d, hd⟩ : ∃ d, bs.length - sy = d := ⟨_, rfl⟩
  obtain ⟨c, hcl⟩ : ∃ c, clampN t d = c := ⟨_, rfl⟩
  have hcd : c ≤ d := by rw [← hcl]; exact clamp_le _ _
  have HCR : Hid (Fil.crash ⟨bs, sy⟩ t = ⟨bs.take (sy + c), sy + c⟩) := Lib.hid (by unfold Fil.crash; rw [hd, hcl])
  have HWI : Hid (∀ w, Calls Tryz.prog 42 #[.int .i64 t, .int .i64 (d : Int)] w fun e w' => e = .returned (.int .i64 (c : Int)) ∧ w = w') := Lib.hid fun w => by
    have := fsWithin_any t d w
    rwa [hcl] at this
  have HW1 : Hid (IntKind.i64.wrap ((len : Int) - (sy : Int)) = (d : Int)) := Lib.hid (by rw [IntKind.wrap_i64]; omega)
  have HW2 : Hid (IntKind.i64.wrap ((sy : Int) + (c : Int)) = ((sy + c : Nat) : Int)) := Lib.hid (by rw [IntKind.wrap_i64]; omega)
  obtain ⟨m, hm⟩ : ∃ m, sy + c = m := ⟨_, rfl⟩
  rw [hm] at HW2 HCR
  have hml : m ≤ len := by omega
  have HSL := Lib.hid (fun W => sl_hB W a len cap m (by omega))
  have hCB := Lib.hid (fun (W : World) (hW : Below w.heap.size w W) => bclone_any _ (bs.take m) W (RdB.take (OwnB.rd ho |>.below hW) m hml) (by rw [List.length_take]; omega))
  have HC := Lib.hid hc
  have hlt : blk < w.heap.size := (Array.getElem?_eq_some_iff.1 hc).1
  clear hc ho hlen hd hcl hm hcd h1 h2
  rw [HCR.out]
  go_enter Tryz.func44, Tryz.ntmps44
  go_wp2_with fail
  have B : Below w.heap.size w w := Below.refl _ _

  refine wp_region_held_drew (S := Below w.heap.size w) (by kernel_rfl) (Below.refl _ _).drew (fun hHeld => ?_)
  generalize w.drew = wd2 at hHeld ⊢
  refine wpAnyH_shift hHeld ?_
  replace B : Below w.heap.size w wd2 := B.trans (hHeld.mono B.size)
  clear hHeld
  refine takeYes (i := 0) (k := 6) (v := .pointer (some ⟨blk, 0, none⟩)) rfl (by kernel_rfl) (by kernel_rfl) (by kernel_rfl) (by kernel_rfl) (fun _ _ _ h => h) (by kernel_rfl) ?_ (Below.refl _ _) ?_
  · intro W hSw; first | (go_simp; done) | go_simp
  try simp only [Act.put, List.setIfInBounds_toArray, List.set_cons_zero, List.set_cons_succ]
  refine takeYes (i := 1) (k := 7) (v := .pointer (some ⟨blk, 0, none⟩)) rfl (by kernel_rfl) (by kernel_rfl) (by kernel_rfl) (by kernel_rfl) (fun _ _ _ h => h) (by kernel_rfl) ?_ (Below.refl _ _) ?_
  · intro W hSw; first | (go_simp; done) | go_simp
  try simp only [Act.put, List.setIfInBounds_toArray, List.set_cons_zero, List.set_cons_succ]
  refine takeYes (i := 2) (k := 8) (v := .pointer (some ⟨blk, 1, none⟩)) rfl (by kernel_rfl) (by kernel_rfl) (by kernel_rfl) (by kernel_rfl) (fun _ _ _ h => h) (by kernel_rfl) ?_ (Below.refl _ _) ?_
  · intro W hSw; first | (go_simp; done) | go_simp
  try simp only [Act.put, List.setIfInBounds_toArray, List.set_cons_zero, List.set_cons_succ]
  refine takeYes (i := 3) (k := 9) (v := .int .i64 (sy : Int)) rfl (by kernel_rfl) (by kernel_rfl) (by kernel_rfl) (by kernel_rfl) (fun _ _ _ h => h) (by kernel_rfl) ?_ (Below.refl _ _) ?_
  · intro W hSw; have cc := fil_cells ((hSw.block blk (Nat.lt_of_lt_of_le hlt B.size)).trans ((B.block blk hlt).trans HC.out)); have c0 := cc.c0; have c1 := cc.c1; first | (go_simp; done) | go_simp
  try simp only [Act.put, List.setIfInBounds_toArray, List.set_cons_zero, List.set_cons_succ]
  refine takeYes (i := 4) (k := 10) (v := .int .i64 t) rfl (by kernel_rfl) (by kernel_rfl) (by kernel_rfl) (by kernel_rfl) (fun _ _ _ h => h) (by kernel_rfl) ?_ (Below.refl _ _) ?_
  · intro W hSw; first | (go_simp; done) | go_simp
  try simp only [Act.put, List.setIfInBounds_toArray, List.set_cons_zero, List.set_cons_succ]
  refine takeYes (i := 5) (k := 11) (v := .pointer (some ⟨blk, 0, none⟩)) rfl (by kernel_rfl) (by kernel_rfl) (by kernel_rfl) (by kernel_rfl) (fun _ _ _ h => h) (by kernel_rfl) ?_ (Below.refl _ _) ?_
  · intro W hSw; first | (go_simp; done) | go_simp
  try simp only [Act.put, List.setIfInBounds_toArray, List.set_cons_zero, List.set_cons_succ]
  refine takeYes (i := 6) (k := 12) (v := .pointer (some ⟨blk, 0, none⟩)) rfl (by kernel_rfl) (by kernel_rfl) (by kernel_rfl) (by kernel_rfl) (fun _ _ _ h => h) (by kernel_rfl) ?_ (Below.refl _ _) ?_
  · intro W hSw; first | (go_simp; done) | go_simp
  try simp only [Act.put, List.setIfInBounds_toArray, List.set_cons_zero, List.set_cons_succ]
  refine takeYes (i := 7) (k := 13) (v := .pointer (some ⟨blk, 0, none⟩)) rfl (by kernel_rfl) (by kernel_rfl) (by kernel_rfl) (by kernel_rfl) (fun _ _ _ h => h) (by kernel_rfl) ?_ (Below.refl _ _) ?_
  · intro W hSw; first | (go_simp; done) | go_simp
  try simp only [Act.put, List.setIfInBounds_toArray, List.set_cons_zero, List.set_cons_succ]
  refine takeYes (i := 8) (k := 14) (v := .slice a len cap) rfl (by kernel_rfl) (by kernel_rfl) (by kernel_rfl) (by kernel_rfl) (fun _ _ _ h => h) (by kernel_rfl) ?_ (Below.refl _ _) ?_
  · intro W hSw; have cc := fil_cells ((hSw.block blk (Nat.lt_of_lt_of_le hlt B.size)).trans ((B.block blk hlt).trans HC.out)); have c0 := cc.c0; have c1 := cc.c1; first | (go_simp; done) | go_simp
  try simp only [Act.put, List.setIfInBounds_toArray, List.set_cons_zero, List.set_cons_succ]
  refine takeYes (i := 9) (k := 15) (v := .int .i64 (len : Int)) rfl (by kernel_rfl) (by kernel_rfl) (by kernel_rfl) (by kernel_rfl) (fun _ _ _ h => h) (by kernel_rfl) ?_ (Below.refl _ _) ?_
  · intro W hSw; first | (go_simp; done) | go_simp
  try simp only [Act.put, List.setIfInBounds_toArray, List.set_cons_zero, List.set_cons_succ]
  refine takeYes (i := 10) (k := 16) (v := .pointer (some ⟨blk, 0, none⟩)) rfl (by kernel_rfl) (by kernel_rfl) (by kernel_rfl) (by kernel_rfl) (fun _ _ _ h => h) (by kernel_rfl) ?_ (Below.refl _ _) ?_
  · intro W hSw; first | (go_simp; done) | go_simp
  try simp only [Act.put, List.setIfInBounds_toArray, List.set_cons_zero, List.set_cons_succ]
  refine takeYes (i := 11) (k := 17) (v := .pointer (some ⟨blk, 0, none⟩)) rfl (by kernel_rfl) (by kernel_rfl) (by kernel_rfl) (by kernel_rfl) (fun _ _ _ h => h) (by kernel_rfl) ?_ (Below.refl _ _) ?_
  · intro W hSw; first | (go_simp; done) | go_simp
  try simp only [Act.put, List.setIfInBounds_toArray, List.set_cons_zero, List.set_cons_succ]
  refine takeYes (i := 12) (k := 18) (v := .pointer (some ⟨blk, 1, none⟩)) rfl (by kernel_rfl) (by kernel_rfl) (by kernel_rfl) (by kernel_rfl) (fun _ _ _ h => h) (by kernel_rfl) ?_ (Below.refl _ _) ?_
  · intro W hSw; first | (go_simp; done) | go_simp
  try simp only [Act.put, List.setIfInBounds_toArray, List.set_cons_zero, List.set_cons_succ]
  refine takeYes (i := 13) (k := 19) (v := .int .i64 (sy : Int)) rfl (by kernel_rfl) (by kernel_rfl) (by kernel_rfl) (by kernel_rfl) (fun _ _ _ h => h) (by kernel_rfl) ?_ (Below.refl _ _) ?_
  · intro W hSw; have cc := fil_cells ((hSw.block blk (Nat.lt_of_lt_of_le hlt B.size)).trans ((B.block blk hlt).trans HC.out)); have c0 := cc.c0; have c1 := cc.c1; first | (go_simp; done) | go_simp
  try simp only [Act.put, List.setIfInBounds_toArray, List.set_cons_zero, List.set_cons_succ]
  refine takeYes (i := 14) (k := 20) (v := .int .i64 (d : Int)) rfl (by kernel_rfl) (by kernel_rfl) (by kernel_rfl) (by kernel_rfl) (fun _ _ _ h => h) (by kernel_rfl) ?_ (Below.refl _ _) ?_
  · intro W hSw; have hwr := HW1.out; first | (go_simp; done) | go_simp
  try simp only [Act.put, List.setIfInBounds_toArray, List.set_cons_zero, List.set_cons_succ]
  refine wpAnyH_ready (rs := [15]) (by kernel_rfl) (by simp) (AllReadyH.cons rfl (fun K hK => ?_) AllReadyH.nil)
  go_simp
  refine (HWI.out _).mono ?_
  rintro e w' ⟨rfl, rfl⟩
  refine hK.out _ _ (Below.refl _ _) (fun _ => ?_)
  clear hK K
  try simp only [Act.put, List.setIfInBounds_toArray, List.set_cons_zero, List.set_cons_succ]
  refine takeYes (i := 16) (k := 22) (v := .int .i64 (m : Int)) rfl (by kernel_rfl) (by kernel_rfl) (by kernel_rfl) (by kernel_rfl) (fun _ _ _ h => h) (by kernel_rfl) ?_ (Below.refl _ _) ?_
  · intro W hSw; have hwr := HW2.out; first | (go_simp; done) | go_simp
  try simp only [Act.put, List.setIfInBounds_toArray, List.set_cons_zero, List.set_cons_succ]
  refine takeYes (i := 17) (k := 5) (v := .int .i64 (m : Int)) rfl (by kernel_rfl) (by kernel_rfl) (by kernel_rfl) (by kernel_rfl) (fun _ _ _ h => h) (by kernel_rfl) ?_ (Below.refl _ _) ?_
  · intro W hSw; first | (go_simp; done) | go_simp
  try simp only [Act.put, List.setIfInBounds_toArray, List.set_cons_zero, List.set_cons_succ]
  refine wpAnyH_done (by kernel_rfl) ?_ _
  have HB := Lib.hid B
  have cc := fil_cells ((B.block blk hlt).trans HC.out)
  have c0 := cc.c0
  have hsl := HSL.out
  have HCB := Lib.hid (hCB.out wd2 B)
  clear cc B
  go_wp2_with fail
  refine HCB.out.mono ?_
  rintro e w3 ⟨v, rfl, o3, b3⟩
  have HV := Lib.hid (row_lt o3)
  have HO3 := Lib.hid o3
  obtain ⟨a1, l1, p1, rfl⟩ := row_form o3
  clear o3 c0 hsl
  go_wp2_with fail
  go_ret
  refine ⟨_, _, rfl, heap_alloc_new .., ?_, ?_, ?_, ?_⟩
  · refine OwnV.base (OwnV.below HO3.out ((Below.refl _ _).alloc (Nat.le_refl _) _)) HB.out.size
  · exact Nat.le_trans HB.out.size b3.size
  · intro e
    have := HV.out _ e
    omega
  · exact (HB.out.trans (b3.mono HB.out.size)).alloc (Nat.le_trans HB.out.size b3.size) _
end Go.Proofs.YtmmkgopnccfiiaaGreatDoor
/- simfs' Spoil: a byte is changed. -/
namespace Go.Proofs.YtmmkgopnccfiiaaGreatDoor
set_option linter.unusedVariables false
open Go.RowKit Go.Maps
end Go.Proofs.YtmmkgopnccfiiaaGreatDoor
/- Plain mathematics of a crash: names one by one with new files. -/
namespace Go.Proofs.YtmmkgopnccfiiaaGreatDoor
set_option linter.unusedVariables false
open Go.RowKit
theorem numb_at : ∀ (l : Dir) (s j : Nat), (numb s l)[j]? = (l[j]?).map fun x => (x.1, s + j)
  | [], s, j => by simp [numb]
  | x :: r, s, 0 => by simp [numb]
  | x :: r, s, j + 1 => by
    show (numb (s + 1) r)[j]? = _
    rw [numb_at r (s + 1) j, List.getElem?_cons_succ]
    congr 1
    funext x
    congr 1; omega
/-- the j-th name's file: the new one, if it is told yet -/
def mixF (fb : Nat → Nat) (D : Dir) (g : Nat → Nat) (k j : Nat) : Nat := if j < k then g j else fb (D.getD j (⟨#[]⟩, 0)).2
def mixD (fb : Nat → Nat) (D : Dir) (g : Nat → Nat) (k : Nat) : Dir := dmap (mixF fb D g k) (numb 0 D)
theorem mixD_at (fb : Nat → Nat) (D : Dir) (g : Nat → Nat) (k j : Nat) : (mixD fb D g k)[j]? = (D[j]?).map fun x => (x.1, mixF fb D g k j) := by
  unfold mixD dmap
  rw [List.getElem?_map, numb_at, Option.map_map]
  congr 1
  funext x
  simp
theorem mixD_ok {fb : Nat → Nat} {D : Dir} {g : Nat → Nat} {k : Nat} (h : DirOk D) : DirOk (mixD fb D g k) := dmap_ok (numb_ok D 0 h)
theorem mixD_len (fb : Nat → Nat) (D : Dir) (g : Nat → Nat) (k : Nat) : (mixD fb D g k).length = D.length := by unfold mixD; rw [dmap_len, numb_len]
theorem mixD_start (fb : Nat → Nat) (D : Dir) (g : Nat → Nat) : mixD fb D g 0 = dmap fb D := by
  refine List.ext_getElem? fun j => ?_
  rw [mixD_at]
  unfold dmap
  rw [List.getElem?_map]
  cases hj : D[j]? with
  | none => rfl
  | some x =>
    unfold mixF
    rw [List.getD_eq_getElem?_getD, hj]; rfl
theorem mixD_end (fb : Nat → Nat) (D : Dir) (g : Nat → Nat) : mixD fb D g D.length = dmap g (numb 0 D) := by
  unfold mixD
  refine dmap_congr fun x hx => ?_
  have := numb_bd _ _ _ hx
  unfold mixF
  rw [if_pos (by omega)]
theorem dput_at {n : ByteArray} {v : Nat} : ∀ {l : Dir} {k x : Nat}, DirOk l → l[k]? = some (n, x) → dput n v l = l.set k (n, v)
  | [], k, x, _, h => by simp at h
  | y :: r, 0, x, hok, h => by
    obtain ⟨h1, h2⟩ := List.pairwise_cons.1 hok
    obtain rfl : y = (n, x) := by simpa using h
    unfold dput
    have hr : ddel n ((n, x) :: r) = r := by
      rw [ddel_cons, if_pos rfl]
      refine ddel_self (dget_none.2 fun z hz e => ?_)
      have := h1 z hz
      rw [e] at this
      exact bl_irr _ this
    rw [hr, List.set_cons_zero]
    cases r with
    | nil => rfl
    | cons z r => rw [dins_cons, if_pos (h1 z (List.mem_cons_self ..))]
  | y :: r, k + 1, x, hok, h => by
    obtain ⟨h1, h2⟩ := List.pairwise_cons.1 hok
    rw [List.getElem?_cons_succ] at h
    have ih := dput_at (v := v) h2 h
    have hlt := h1 _ (List.mem_of_getElem? h)
    have hne : y.1 ≠ n := fun e => bl_irr n (by rw [e] at hlt; exact hlt)
    unfold dput at ih ⊢
    rw [ddel_cons, if_neg hne, dins_cons, if_neg (fun hh => bl_irr n (bl_trans hh hlt)), ih, List.set_cons_succ]
theorem mixD_step {fb : Nat → Nat} {D : Dir} {g : Nat → Nat} {k v : Nat} {x : ByteArray × Nat} (h : DirOk D) (hk : D[k]? = some x) : dput x.1 v (mixD fb D g k) = mixD fb D (upN g k v) (k + 1) := by
  have hm := mixD_at fb D g k k
  rw [hk] at hm
  rw [dput_at (mixD_ok h) hm]
  refine List.ext_getElem? fun j => ?_
  have hlt := (List.getElem?_eq_some_iff.1 hk).1
  rw [mixD_at, List.getElem?_set]
  by_cases hj : k = j
  · subst hj
    rw [if_pos rfl, if_pos (by rw [mixD_len]; exact hlt), hk, Option.map_some]
    unfold mixF
    rw [if_pos (Nat.lt_succ_self k), upN_same]
  · rw [if_neg hj, mixD_at]
    congr 1
    funext y
    unfold mixF
    by_cases h1 : j < k
    · rw [if_pos h1, if_pos (by omega), upN_ne _ _ (fun e => hj e.symm)]
    · rw [if_neg h1, if_neg (by omega)]
theorem mixD_get {fb : Nat → Nat} {D : Dir} {g : Nat → Nat} {k : Nat} {x : ByteArray × Nat} (h : DirOk D) (hk : D[k]? = some x) : dget x.1 (mixD fb D g k) = some (fb x.2) := by
  refine (dget_mem (mixD_ok h)).2 ?_
  have hm := mixD_at fb D g k k
  rw [hk] at hm
  have h2 := List.mem_of_getElem? hm
  unfold mixF at h2
  rw [if_neg (Nat.lt_irrefl k), List.getD_eq_getElem?_getD, hk] at h2
  exact h2
theorem crashFiles_at (S : Fs) (n : Int) (tails : List Int) (j : Nat) : (S.crashFiles n tails)[j]? = ((S.left n)[j]?).map fun x => (S.file x.2).crash (tails.getD j 0) := by
  unfold Fs.crashFiles
  rw [List.getElem?_mapIdx]
/-- '[]change' cut: run. -/
theorem sl_hC (W : World) (a : Option Addr) (n cap k : Nat) (hc : k ≤ cap) :
    (Instr.sliceAt 47 (.slice a n cap) none (some (.int .i64 (k : Int))) none).run Tryz.prog W = .ok (.slice a k cap) W := by
  have hT : Tryz.prog.underlying 47 = some (.slice (Tryz.prog.elem 47)) := by kernel_rfl
  have hS : (sizeOf (Tryz.prog.elem 47)).run Tryz.prog W = .ok 3 W := by kernel_rfl
  rw [run_sliceAt_slice (h := hT), run_slice_h (w := W) (t := 47) (a := a) (len := n) (cap := cap) (ht := hT) (kh := .i64) (h := k) (h0 := by omega) (h2 := by omega), hS]
  simp [Result.andThen, sliced, map_add0]
end Go.Proofs.YtmmkgopnccfiiaaGreatDoor
/- simfs' Crash: the file system that is left. -/
namespace Go.Proofs.YtmmkgopnccfiiaaGreatDoor
set_option linter.unusedVariables false
open Go.RowKit Go.Maps
/-- On the way: block q holds the directory that is left, so far l. -/
structure Left1 (w : World) (q : Nat) (l : Dir) (W : World) : Prop where
  ex : ∃ mb, W.heap[q]? = some (.cells #[.map mb] 46 (0, 0)) ∧ MB W mb l ∧ ∀ k, mb = some k → w.heap.size ≤ k ∧ k ≠ q
  q0 : w.heap.size ≤ q
  blw : Below w.heap.size w W
theorem Left1.take {w : World} {q : Nat} {l : Dir} {W : World} (h : Left1 w q l W) (c1 c2 : ByteArray) (fi : Option Nat) (hl : l.length ≤ 1000000) (h1 : c1.size ≤ maxLen) (h2 : c2.size ≤ maxLen) :
    Calls Tryz.prog 43 #[.pointer (some ⟨q, 0, none⟩), .agg #[.string c1, .string c2, ptrO fi]] W fun e w' => e = .returned (.tuple #[]) ∧ Left1 w q (Chg.run l ⟨c1, c2, fi⟩) w' := by
  obtain ⟨⟨mb, hq, hm, hk⟩, hq0, hb⟩ := h
  refine (take_any W q 46 #[.map mb] mb l c1 c2 fi hq rfl hm (fun k e => (hk k e).2) hl h1 h2).mono ?_
  rintro e w' ⟨k, rfl, t1, t2, t3, t4⟩
  refine ⟨rfl, ⟨some k, t1, t2, ?_⟩, hq0, hb.trans (t4.below hb.size fun j hj e => ?_)⟩
  · intro j hj
    obtain rfl := Option.some.inj hj
    rcases t3 with e | e
    · exact hk k e
    · have := (Array.getElem?_eq_some_iff.1 hq).1
      have := hb.size
      exact ⟨by omega, by omega⟩
  · rcases e with e | e
    · omega
    · have := (hk j e).1; omega
theorem Left1.below {w : World} {q : Nat} {l : Dir} {W W' : World} (h : Left1 w q l W) (hb : Below W.heap.size W W') : Left1 w q l W' := by
  obtain ⟨⟨mb, hq, hm, hk⟩, hq0, hb0⟩ := h
  exact ⟨⟨mb, (hb.block _ (Array.getElem?_eq_some_iff.1 hq).1).trans hq, hm.same fun k e => hb.block _ (hm.lt k e), hk⟩, hq0, hb0.trans (hb.mono hb0.size)⟩
theorem Left1.alloc {w : World} {q : Nat} {l : Dir} {W : World} (h : Left1 w q l W) (o : Obj) : Left1 w q l (W.alloc o) := by
  obtain ⟨⟨mb, hq, hm, hk⟩, hq0, hb⟩ := h
  exact ⟨⟨mb, (Below.heap_alloc _ _ _ (Array.getElem?_eq_some_iff.1 hq).1).trans hq, hm.same fun k e => Below.heap_alloc _ _ _ (hm.lt k e), hk⟩, hq0, hb.alloc hb.size _⟩
def CrashAt (w : World) (S : Fs) (e : Ending) (w' : World) : Prop := ∃ b' ρ', e = .returned (.pointer (some ⟨b', 0, none⟩)) ∧ FsAt w' b' ρ' S ∧ Below w.heap.size w w' ∧ ∀ k, ρ' k ≠ none → w.heap.size ≤ k
/-- On the way: k names have new files. -/
structure Left2 (w W5 : World) (mb : Option Nat) (fb : Nat → Nat) (S : Fs) (n : Int) (ts : List Int) (k : Nat) (W : World) : Prop where
  ex : ∃ (g : Nat → Nat) (gv : Nat → Value) (ρ : Nat → Option Role), MB W mb (mixD fb (S.left n) g k) ∧ (∀ j f, j < k → (S.crashFiles n ts)[j]? = some f → FileAt W ρ j (g j) (gv j) f) ∧ ∀ x, ρ x ≠ none → W5.heap.size ≤ x ∧ x < W.heap.size
  upd : UpdF (fun i => mb = some i) W5 W
  mlt : ∀ i, mb = some i → i < W5.heap.size ∧ w.heap.size ≤ i
  blw : Below w.heap.size w W
theorem Left2.start {w W5 : World} {mb : Option Nat} {fb : Nat → Nat} {S : Fs} {n : Int} {ts : List Int} (hm : MB W5 mb (dmap fb (S.left n))) (hl : ∀ i, mb = some i → w.heap.size ≤ i) (hb : Below w.heap.size w W5) : Left2 w W5 mb fb S n ts 0 W5 :=
  ⟨⟨fun _ => 0, fun _ => .slice none 0 0, fun _ => none, by rw [mixD_start]; exact hm, fun j f hj => absurd hj (Nat.not_lt_zero _), fun x hx => absurd rfl hx⟩, UpdF.refl _ _, fun i hi => ⟨hm.lt i hi, hl i hi⟩, hb⟩
theorem Left2.step {w W5 W W' : World} {mb : Option Nat} {fb : Nat → Nat} {S : Fs} {n : Int} {ts : List Int} {k nb : Nat} {v : Value} {x : ByteArray × Nat} (h : Left2 w W5 mb fb S n ts k W) (hS : FsOk S) (hx : (S.left n)[k]? = some x) (hxs : x.1.size ≤ maxLen) (hb : Below W.heap.size W W')
    (hc : W'.heap[nb]? = some (.cells (filV v ((S.file x.2).crash (ts.getD k 0)).synced) 63 (0, 0))) (ho : OwnB W.heap.size W' v ((S.file x.2).crash (ts.getD k 0)).bytes) (hn : W.heap.size ≤ nb) (hv : v.ownBlock ≠ some nb) :
    ∃ W'', (Instr.mapUpdate 46 (.map mb) (.string x.1) (.pointer (some ⟨nb, 0, none⟩))).run Tryz.prog W' = .ok () W'' ∧ Left2 w W5 mb fb S n ts (k + 1) W'' := by
  obtain ⟨⟨g, gv, ρ, hm, hf, hr⟩, hu, hl, hbw⟩ := h
  have hD := hS.left n
  have hkl : k < (S.left n).length := (List.getElem?_eq_some_iff.1 hx).1
  obtain ⟨kk, rfl⟩ : ∃ kk, mb = some kk := by
    cases mb with
    | some kk => exact ⟨kk, rfl⟩
    | none =>
      have h1 : mixD fb (S.left n) g k = [] := hm
      have h2 := mixD_len fb (S.left n) g k
      rw [h1] at h2
      have h3 : 0 = (S.left n).length := h2
      omega
  obtain ⟨hk5, hkw⟩ := hl kk rfl
  have hu5 := hu.size
  have hkW : kk < W.heap.size := by omega
  have hm' := hm.same (w' := W') fun i hi => hb.block i (hm.lt i hi)
  obtain ⟨W'', hrun, hm2, hg2, hs2⟩ := hm'.store (by rw [mixD_len]; have := hD.2.1; unfold maxLen; omega) x.1 hxs nb
  rw [mixD_step hD.1 hx] at hm2
  have old : ∀ y, y < W.heap.size → y ≠ kk → W''.heap[y]? = W.heap[y]? := fun y hy hne => (hg2.block y (by have := hb.size; omega) (fun e => hne (Option.some.inj e))).trans (hb.block y hy)
  have new : ∀ y, y < W'.heap.size → y ≠ kk → W''.heap[y]? = W'.heap[y]? := fun y hy hne => hg2.block y hy (fun e => hne (Option.some.inj e))
  have hnbl := (Array.getElem?_eq_some_iff.1 hc).1
  have hvb : ∀ y, v.ownBlock = some y → W.heap.size ≤ y ∧ y < W'.heap.size := fun y hy => (World.ownsRow.lt ho y hy)
  refine ⟨W'', hrun, ⟨upN g k nb, upN gv k v, fun y => if y = nb then some (.file k) else if v.ownBlock = some y then some (.bytes k) else ρ y, hm2, ?_, ?_⟩, ?_, hl, ?_⟩
  · intro j f hj hjf
    by_cases hjk : j = k
    · subst hjk
      rw [crashFiles_at, hx] at hjf
      obtain rfl := Option.some.inj hjf
      rw [upN_same, upN_same]
      exact ⟨(new nb hnbl (by omega)).trans hc, if_pos rfl, row_same (OwnV.base ho (Nat.zero_le _)) fun y hy => new y (hvb y hy).2 (by have := (hvb y hy).1; omega), fun y hy => by
        try dsimp only
        rw [if_neg (fun e => hv (by rw [← e]; exact hy)), if_pos hy]⟩
    · rw [upN_ne _ _ hjk, upN_ne _ _ hjk]
      have h1 := hf j f (by omega) hjf
      have keep : ∀ r y, ρ y = some r → (if y = nb then some (Role.file k) else if v.ownBlock = some y then some (Role.bytes k) else ρ y) = some r := fun r y hy => by
        have h2 := hr y (by rw [hy]; simp)
        rw [if_neg (by omega), if_neg (fun e => by have := (hvb y e).1; omega)]
        exact hy
      have same : ∀ r y, ρ y = some r → W''.heap[y]? = W.heap[y]? := fun r y hy => by
        have h2 := hr y (by rw [hy]; simp)
        exact old y h2.2 (by omega)
      exact ⟨(same _ _ h1.role).trans h1.cell, keep _ _ h1.role, row_same h1.own fun y hy => same _ y (h1.brole y hy), fun y hy => keep _ _ (h1.brole y hy)⟩
  · intro y hy
    have hy' : (if y = nb then some (Role.file k) else if v.ownBlock = some y then some (Role.bytes k) else ρ y) ≠ none := hy
    clear hy
    have hbs := hb.size
    split at hy'
    · omega
    · split at hy'
      · rename_i e; have := hvb y e; omega
      · have := hr y hy'; omega
  · refine hu.trans ?_
    refine (UpdF.of hb).trans (UpdF.grown hg2 fun y hy => hy)
  · exact hbw.trans ((UpdF.below ((UpdF.of (F := fun i => some kk = some i) hb).trans (UpdF.grown hg2 fun y hy => hy)) hbw.size fun y hy e => by
      have e' := Option.some.inj e
      omega))
/-- The file system that a crash leaves, in memory. -/
theorem Left2.fin {w W5 W W1 : World} {mb ml : Option Nat} {fb : Nat → Nat} {S : Fs} {n : Int} {ts : List Int} {g : Nat → Nat} {gv : Nat → Value} {ρ : Nat → Option Role} (hS : FsOk S) (hm : MB W mb (mixD fb (S.left n) g (S.left n).length))
    (hf : ∀ j f, j < (S.left n).length → (S.crashFiles n ts)[j]? = some f → FileAt W ρ j (g j) (gv j) f) (hr : ∀ x, ρ x ≠ none → W5.heap.size ≤ x ∧ x < W.heap.size) (hl : ∀ i, mb = some i → i < W5.heap.size ∧ w.heap.size ≤ i) (hbw : Below w.heap.size w W) (h5 : w.heap.size ≤ W5.heap.size)
    (hm1 : MB W1 ml (mixD fb (S.left n) g (S.left n).length)) (hml : ∀ i, ml = some i → W.heap.size ≤ i) (hb : Below W.heap.size W W1) (hu5 : W5.heap.size ≤ W.heap.size) :
    CrashAt w (S.crash n ts) (.returned (.pointer (some ⟨W1.heap.size, 0, none⟩))) (W1.alloc (.cells (fsV mb ml (.slice none 0 0) S.room 0 false 0) 49)) := by
  have hbs := hb.size
  have hws := hbw.size
  obtain ⟨b', hb'⟩ : ∃ b', W1.heap.size = b' := ⟨_, rfl⟩
  obtain ⟨W2, hW2⟩ : ∃ W2, W1.alloc (.cells (fsV mb ml (.slice none 0 0) S.room 0 false 0) 49) = W2 := ⟨_, rfl⟩
  have hcell : W2.heap[b']? = some (.cells (fsV mb ml (.slice none 0 0) S.room 0 false 0) 49 (0, 0)) := by rw [← hW2, ← hb']; exact heap_alloc_new ..
  have h12 : Below W1.heap.size W1 W2 := by rw [← hW2]; exact (Below.refl _ _).alloc (Nat.le_refl _) _
  have hs2 : W2.heap.size = b' + 1 := by rw [← hW2, ← hb']; simp
  have hW : Below W.heap.size W W2 := hb.trans (h12.mono hbs)
  have hmlt : ∀ i, ml = some i → W.heap.size ≤ i ∧ i < b' := fun i hi => by
    have h1 := hm1.lt i hi
    exact ⟨hml i hi, by omega⟩
  rw [hb', hW2]
  have keep : ∀ r y, ρ y = some r → (if y = b' then some Role.fs else if mb = some y then some Role.now else if ml = some y then some Role.old else ρ y) = some r := fun r y hy => by
    have h2 := hr y (by rw [hy]; simp)
    rw [if_neg (by omega), if_neg (fun e => by have := hl y e; omega), if_neg (fun e => by have := hmlt y e; omega)]
    exact hy
  have hlen : (S.crashFiles n ts).length = (S.left n).length := List.length_mapIdx
  have hmixe : mixD fb (S.left n) g (S.left n).length = dmap g (numb 0 (S.left n)) := mixD_end _ _ _
  refine ⟨b', fun y => if y = b' then some .fs else if mb = some y then some .now else if ml = some y then some .old else ρ y, rfl, ⟨⟨mb, ml, .slice none 0 0, 0, g, gv⟩, { cell := hcell, role := if_pos rfl, ahead := (fun n hn => by cases hn), now := ?_, nrole := ?_, old := ?_, orole := ?_, wait := OwnK.nil _ _ _ _ _, wrole := (fun k hk => by cases hk), files := ?_, top := ?_, ok := hS.crash n ts }⟩, ?_, ?_⟩
  · show MB W2 mb (dmap g (numb 0 (S.left n)))
    rw [← hmixe]
    exact hm.same fun i hi => hW.block i (hm.lt i hi)
  · intro i hi
    have := hl i hi
    try dsimp only at hi ⊢
    rw [if_neg (by omega), if_pos hi]
  · show MB W2 ml (dmap g (numb 0 (S.left n)))
    rw [← hmixe]
    exact hm1.same fun i hi => h12.block i (hm1.lt i hi)
  · intro i hi
    have h1 := hmlt i hi
    try dsimp only at hi ⊢
    rw [if_neg (by omega), if_neg (fun e => by have := hl i e; omega), if_pos hi]
  · intro j f hj
    have hj' : (S.crashFiles n ts)[j]? = some f := hj
    have hjl := (List.getElem?_eq_some_iff.1 hj').1
    have h1 := hf j f (by omega) hj'
    have same : ∀ r y, ρ y = some r → W2.heap[y]? = W.heap[y]? := fun r y hy => hW.block y (hr y (by rw [hy]; simp)).2
    exact ⟨(same _ _ h1.role).trans h1.cell, keep _ _ h1.role, row_same h1.own fun y hy => same _ y (h1.brole y hy), fun y hy => keep _ _ (h1.brole y hy)⟩
  · intro y hy
    have hy' : (if y = b' then some Role.fs else if mb = some y then some Role.now else if ml = some y then some Role.old else ρ y) ≠ none := hy
    clear hy
    split at hy'
    · omega
    · split at hy'
      · rename_i e; have := hl y e; omega
      · split at hy'
        · rename_i e; have := hmlt y e; omega
        · have := hr y hy'; omega
  · exact hbw.trans (hW.mono hws)
  · intro y hy
    have hy' : (if y = b' then some Role.fs else if mb = some y then some Role.now else if ml = some y then some Role.old else ρ y) ≠ none := hy
    clear hy
    split at hy'
    · omega
    · split at hy'
      · rename_i e; exact (hl y e).2
      · split at hy'
        · rename_i e; have := hmlt y e; omega
        · have := hr y hy'; omega
set_option maxHeartbeats 4000000 in
set_option maxRecDepth 100000 in
theorem crash_any (w : World) (b : Nat) (ρ : Nat → Option Role) (S : Fs) (h : FsAt w b ρ S) (n : Int) (tv : Value) (ts : List Int) (ht : RdV w tv (ts.map (Value.int .i64))) (htl : ts.length ≤ 1000000000000) (hwl : S.wait.length ≤ 1000000000000) :
    Calls Tryz.prog 13 #[.pointer (some ⟨b, 0, none⟩), .int .i64 n, tv] w (CrashAt w (S.crash n ts)) := by
  obtain ⟨L, hL⟩ := h
  have HL := Lib.hid hL
  have HM := Lib.hid (mclone_any L.ml _ w hL.old)
  have c1 := hL.cells.c1
  have hb := hL.top b (by rw [hL.role]; simp)
  clear hL
  have HT := Lib.hid ht
  clear ht
  go_enter Tryz.func13, Tryz.ntmps13
  go_wp2_with fail
  refine HM.out.mono ?_
  rintro e w1 ⟨mb, rfl, h1, h2, h3⟩
  go_wp2_with fail
  obtain ⟨w2, hw2⟩ : ∃ w2, w1.alloc (.cells #[.map mb] 46) = w2 := ⟨_, rfl⟩
  obtain ⟨q, hq⟩ : ∃ q, w1.heap.size = q := ⟨_, rfl⟩
  have HD := Lib.hid (show Left1 w q (dmap L.fb S.old) w2 by
    rw [← hw2, ← hq]
    refine ⟨⟨mb, heap_alloc_new .., h1.same fun k e => Below.heap_alloc _ _ _ (h1.lt k e), fun k e => ?_⟩, h3.size, h3.alloc h3.size _⟩
    have := h1.lt k e
    rcases h2 with e1 | e1
    · rw [e1] at e; cases e
    · rw [e1] at e
      obtain rfl := Option.some.inj e
      exact ⟨Nat.le_refl _, by omega⟩)
  rw [hw2, hq]
  clear hw2 hq h1 h2 h3 c1 HM
  obtain ⟨wa, wl, wc, hwv⟩ := row_form HL.out.wait
  have HW := HL.out.wait
  rw [hwv] at HW
  have hwlc : wl = S.wait.length ∧ wl ≤ wc ∧ wc ≤ maxLen := by
    rcases OwnK.blk HW with ⟨e, e2⟩ | ⟨g, cap, cur, e, _, _, _, e4, e5, _⟩
    · simp only [Value.slice.injEq] at e
      obtain ⟨-, rfl, rfl⟩ := e
      rw [e2]; exact ⟨rfl, Nat.le_refl _, by unfold maxLen; omega⟩
    · simp only [Value.slice.injEq] at e
      obtain ⟨-, rfl, rfl⟩ := e
      exact ⟨rfl, e4, e5⟩
  obtain ⟨m, hm⟩ : ∃ m, clampN n wl = m := ⟨_, rfl⟩
  have hml : m ≤ wl := by rw [← hm]; exact clamp_le _ _
  have HWI : Hid (∀ w, Calls Tryz.prog 42 #[.int .i64 n, .int .i64 (wl : Int)] w fun e w' => e = .returned (.int .i64 (m : Int)) ∧ w = w') := Lib.hid fun w => by
    have := fsWithin_any n wl w
    rwa [hm] at this
  have HTK : Hid (S.left n = (S.wait.take m).foldl Chg.run S.old) := Lib.hid (by
    unfold Fs.left
    congr 1
    have e : m = min n.toNat wl := hm.symm
    rw [e, hwlc.1]
    rcases Nat.le_total n.toNat S.wait.length with h | h
    · rw [Nat.min_eq_left h]
    · rw [Nat.min_eq_right h, List.take_length, List.take_of_length_le h])
  have HWV := Lib.hid hwv
  have HWO := Lib.hid HW
  have HWL := Lib.hid hwlc
  have HSL := Lib.hid (fun W => sl_hC W wa wl wc m (by omega))
  have HC2 : Hid (w.cell? ⟨b, 2, none⟩ = some (.slice wa wl wc)) := Lib.hid (by rw [← hwv]; exact HL.out.cells.c2)
  have hwn : (wl : Int) ≥ 0 := by omega
  have B0 := HD.out.blw
  have HDv := HD.out
  have hmz : (0 : Int) ≤ (m : Int) := by omega
  have hmc : (m : Int) ≤ (wc : Int) := by omega
  clear hm hwv HW hwlc
  have BB : Below w.heap.size w w2 := B0
  clear B0

  refine wp_region_held_drew (S := Below w2.heap.size w2) (by kernel_rfl) (Below.refl _ _).drew (fun hHeld => ?_)
  generalize w2.drew = wd3 at hHeld ⊢
  refine wpAnyH_shift hHeld ?_
  replace BB : Below w.heap.size w wd3 := BB.trans (hHeld.mono BB.size)
  replace HDv := HDv.below hHeld
  clear hHeld
  refine takeYes (i := 0) (k := 20) (v := .pointer (some ⟨b, 0, none⟩)) rfl (by kernel_rfl) (by kernel_rfl) (by kernel_rfl) (by kernel_rfl) (fun _ _ _ h => h) (by kernel_rfl) ?_ (Below.refl _ _) ?_
  · intro W hSw; first | (go_simp; done) | go_simp
  try simp only [Act.put, List.setIfInBounds_toArray, List.set_cons_zero, List.set_cons_succ]
  refine takeYes (i := 1) (k := 21) (v := .pointer (some ⟨b, 0, none⟩)) rfl (by kernel_rfl) (by kernel_rfl) (by kernel_rfl) (by kernel_rfl) (fun _ _ _ h => h) (by kernel_rfl) ?_ (Below.refl _ _) ?_
  · intro W hSw; first | (go_simp; done) | go_simp
  try simp only [Act.put, List.setIfInBounds_toArray, List.set_cons_zero, List.set_cons_succ]
  refine takeYes (i := 2) (k := 22) (v := .pointer (some ⟨b, 2, none⟩)) rfl (by kernel_rfl) (by kernel_rfl) (by kernel_rfl) (by kernel_rfl) (fun _ _ _ h => h) (by kernel_rfl) ?_ (Below.refl _ _) ?_
  · intro W hSw; first | (go_simp; done) | go_simp
  try simp only [Act.put, List.setIfInBounds_toArray, List.set_cons_zero, List.set_cons_succ]
  refine takeYes (i := 3) (k := 23) (v := .slice wa wl wc) rfl (by kernel_rfl) (by kernel_rfl) (by kernel_rfl) (by kernel_rfl) (fun _ _ _ h => h) (by kernel_rfl) ?_ (Below.refl _ _) ?_
  · intro W hSw; have c2 := (hSw.cell (p := ⟨b, 2, none⟩) (Nat.lt_of_lt_of_le hb BB.size)).trans ((BB.cell (p := ⟨b, 2, none⟩) hb).trans HC2.out); first | (go_simp; done) | go_simp
  try simp only [Act.put, List.setIfInBounds_toArray, List.set_cons_zero, List.set_cons_succ]
  refine takeYes (i := 4) (k := 24) (v := .int .i64 n) rfl (by kernel_rfl) (by kernel_rfl) (by kernel_rfl) (by kernel_rfl) (fun _ _ _ h => h) (by kernel_rfl) ?_ (Below.refl _ _) ?_
  · intro W hSw; first | (go_simp; done) | go_simp
  try simp only [Act.put, List.setIfInBounds_toArray, List.set_cons_zero, List.set_cons_succ]
  refine takeYes (i := 5) (k := 25) (v := .pointer (some ⟨b, 0, none⟩)) rfl (by kernel_rfl) (by kernel_rfl) (by kernel_rfl) (by kernel_rfl) (fun _ _ _ h => h) (by kernel_rfl) ?_ (Below.refl _ _) ?_
  · intro W hSw; first | (go_simp; done) | go_simp
  try simp only [Act.put, List.setIfInBounds_toArray, List.set_cons_zero, List.set_cons_succ]
  refine takeYes (i := 6) (k := 26) (v := .pointer (some ⟨b, 0, none⟩)) rfl (by kernel_rfl) (by kernel_rfl) (by kernel_rfl) (by kernel_rfl) (fun _ _ _ h => h) (by kernel_rfl) ?_ (Below.refl _ _) ?_
  · intro W hSw; first | (go_simp; done) | go_simp
  try simp only [Act.put, List.setIfInBounds_toArray, List.set_cons_zero, List.set_cons_succ]
  refine takeYes (i := 7) (k := 27) (v := .pointer (some ⟨b, 2, none⟩)) rfl (by kernel_rfl) (by kernel_rfl) (by kernel_rfl) (by kernel_rfl) (fun _ _ _ h => h) (by kernel_rfl) ?_ (Below.refl _ _) ?_
  · intro W hSw; first | (go_simp; done) | go_simp
  try simp only [Act.put, List.setIfInBounds_toArray, List.set_cons_zero, List.set_cons_succ]
  refine takeYes (i := 8) (k := 28) (v := .slice wa wl wc) rfl (by kernel_rfl) (by kernel_rfl) (by kernel_rfl) (by kernel_rfl) (fun _ _ _ h => h) (by kernel_rfl) ?_ (Below.refl _ _) ?_
  · intro W hSw; have c2 := (hSw.cell (p := ⟨b, 2, none⟩) (Nat.lt_of_lt_of_le hb BB.size)).trans ((BB.cell (p := ⟨b, 2, none⟩) hb).trans HC2.out); first | (go_simp; done) | go_simp
  try simp only [Act.put, List.setIfInBounds_toArray, List.set_cons_zero, List.set_cons_succ]
  refine takeYes (i := 9) (k := 29) (v := .int .i64 (wl : Int)) rfl (by kernel_rfl) (by kernel_rfl) (by kernel_rfl) (by kernel_rfl) (fun _ _ _ h => h) (by kernel_rfl) ?_ (Below.refl _ _) ?_
  · intro W hSw; first | (go_simp; done) | go_simp
  try simp only [Act.put, List.setIfInBounds_toArray, List.set_cons_zero, List.set_cons_succ]
  refine takeYes (i := 13) (k := 33) (v := .int .i64 0) rfl (by kernel_rfl) (by kernel_rfl) (by kernel_rfl) (by kernel_rfl) (fun _ _ _ h => h) (by kernel_rfl) ?_ (Below.refl _ _) ?_
  · intro W hSw; first | (go_simp; done) | go_simp
  try simp only [Act.put, List.setIfInBounds_toArray, List.set_cons_zero, List.set_cons_succ]
  refine wpAnyH_ready (rs := [10]) (by kernel_rfl) (by simp) (AllReadyH.cons rfl (fun K hK => ?_) AllReadyH.nil)
  go_simp
  refine (HWI.out _).mono ?_
  rintro e w' ⟨rfl, rfl⟩
  refine hK.out _ _ (Below.refl _ _) (fun _ => ?_)
  clear hK K
  try simp only [Act.put, List.setIfInBounds_toArray, List.set_cons_zero, List.set_cons_succ]
  refine takeYes (i := 11) (k := 31) (v := .slice wa m wc) rfl (by kernel_rfl) (by kernel_rfl) (by kernel_rfl) (by kernel_rfl) (fun _ _ _ h => h) (by kernel_rfl) ?_ (Below.refl _ _) ?_
  · intro W hSw; have hsl := HSL.out W; first | (go_simp; done) | go_simp
  try simp only [Act.put, List.setIfInBounds_toArray, List.set_cons_zero, List.set_cons_succ]
  refine takeYes (i := 12) (k := 32) (v := .int .i64 (m : Int)) rfl (by kernel_rfl) (by kernel_rfl) (by kernel_rfl) (by kernel_rfl) (fun _ _ _ h => h) (by kernel_rfl) ?_ (Below.refl _ _) ?_
  · intro W hSw; first | (go_simp; done) | go_simp
  try simp only [Act.put, List.setIfInBounds_toArray, List.set_cons_zero, List.set_cons_succ]
  refine wpAnyH_done (by kernel_rfl) ?_ _
  have HD2 := Lib.hid HDv
  have hwlb : wl ≤ 1000000000000 := by have := HWL.out.1; omega
  clear HDv HD BB HC2 HSL HWI
  go_wp2_with fail
  go_loopw [33, 9] (fun vi _ wr => ∃ j : Nat, vi = .int .i64 (j : Int) ∧ j ≤ m ∧ Hid (Left1 w q (dmap L.fb ((S.wait.take j).foldl Chg.run S.old)) wr)) (fun vi _ _ => m - (intOf vi).toNat)
  case atStart => exact ⟨0, rfl, Nat.zero_le _, HD2⟩
  case round =>
    obtain ⟨j, rfl, hj, HR⟩ := hrel
    by_cases hlt : j < m
    · have hjl : j < S.wait.length := by have := HWL.out.1; omega
      obtain ⟨g, rfl⟩ : ∃ g, wa = some ⟨g, 0, none⟩ := by
        rcases OwnK.blk HWO.out with ⟨e, e2⟩ | ⟨g, cap, cur, e, _⟩
        · rw [e2] at hjl; exact absurd hjl (Nat.not_lt_zero _)
        · simp only [Value.slice.injEq] at e; exact ⟨g, e.1⟩
      obtain ⟨c, hc⟩ : ∃ c, S.wait[j]? = some c := ⟨_, List.getElem?_eq_getElem hjl⟩
      have hgl : g < w.heap.size := row_lt HWO.out g rfl
      have hcell : ∀ i, i < 3 → wr.cell? ⟨g, j * 3 + i, none⟩ = some ((encChg L.fb c).getD i undef) := fun i hi => by
        rw [HR.out.blw.cell hgl]
        exact OwnK.cell (encChg_k L.fb) HWO.out j i c hc hi
      have d0 : wr.cell? ⟨g, j * 3, none⟩ = some (.string c.fr) := hcell 0 (by omega)
      have d1 : wr.cell? ⟨g, j * 3 + 1, none⟩ = some (.string c.goes) := hcell 1 (by omega)
      have d2 : wr.cell? ⟨g, j * 3 + 2, none⟩ = some (ptrO (c.file.map L.fb)) := hcell 2 (by omega)
      rw [nil_ptr] at d2
      have hsz := HL.out.ok.sizes c (List.mem_of_getElem? hc)
      have HTK2 := Lib.hid ((HR.out.alloc (.cells #[.string c.fr, .string c.goes, ptrO (c.file.map L.fb)] 81)).take c.fr c.goes (c.file.map L.fb) (by rw [dmap_len]; exact Nat.le_trans (HL.out.ok.few j) (by omega)) (by unfold maxLen; omega) (by unfold maxLen; omega))
      have HST : Hid (Chg.run (dmap L.fb ((S.wait.take j).foldl Chg.run S.old)) ⟨c.fr, c.goes, c.file.map L.fb⟩ = dmap L.fb ((S.wait.take (j + 1)).foldl Chg.run S.old)) := Lib.hid (by
        have h1 := Chg.run_map L.fb ((S.wait.take j).foldl Chg.run S.old) c
        unfold Chg.at at h1
        rw [h1]
        obtain ⟨hj1, hj2⟩ := List.getElem?_eq_some_iff.1 hc
        rw [List.take_succ_eq_append_getElem hj1, List.foldl_append, hj2]; rfl)
      rw [HST.out] at HTK2
      rw [nil_ptr] at HTK2
      obtain ⟨cfr, hcfr⟩ : ∃ x, c.fr = x := ⟨_, rfl⟩
      obtain ⟨cto, hcto⟩ : ∃ x, c.goes = x := ⟨_, rfl⟩
      obtain ⟨cfp, hcfp⟩ : ∃ x, Option.map (fun k => (⟨k, 0, none⟩ : Addr)) (c.file.map L.fb) = x := ⟨_, rfl⟩
      rw [hcfr] at d0 HTK2
      rw [hcto] at d1 HTK2
      rw [hcfp] at d2 HTK2
      have hjz : (j : Int) < (m : Int) := by omega
      clear hcell hc hcfr hcto hcfp hsz HST hjl
      go_wp2_with fail
      refine HTK2.out.mono ?_
      rintro e w4 ⟨rfl, hT⟩
      go_wp2_with fail
      go_roundw
      case rel => exact ⟨j + 1, by go_num, by omega, Lib.hid hT⟩
      case measure => simp [intOf]; omega
    · obtain rfl : j = m := by omega
      rw [← HTK.out] at HR
      obtain ⟨⟨mb2, hq2, hm2, hk2⟩, hq0, hbw⟩ := HR.out
      have hD := HL.out.ok.left n
      have HNM := Lib.hid (names_any mb2 _ wr hm2 (dmap_ok hD.1) (by rw [dmap_len]; have := hD.2.1; omega))
      have dq := cells_at hq2 0
      have dq' : wr.cell? ⟨q, 0, none⟩ = some (.map mb2) := dq
      clear dq
      go_wp2_with fail
      refine HNM.out.mono ?_
      rintro e w5 ⟨nv, rfl, hn1, hn2⟩
      have hnames : (dmap L.fb (S.left n)).map (fun x => Value.string x.1) = (S.left n).map fun x => Value.string x.1 := by
        unfold dmap; rw [List.map_map]; rfl
      rw [hnames] at hn1
      have hql : q < wr.heap.size := (Array.getElem?_eq_some_iff.1 hq2).1
      have hmkl := fun k hk => hm2.lt k hk
      have HNB : Hid (∀ k, nv.ownBlock = some k → mb2 ≠ some k) := Lib.hid fun k hk e => by
        have h1 := (World.ownsRow.lt hn1 k hk).1
        have := hmkl k e
        omega
      have HNR := Lib.hid (OwnV.rd hn1)
      have hnl : ∃ na nn nc, nv = .slice na nn nc ∧ nn = (S.left n).length := by
        rcases hn1.2 with ⟨e, e2⟩ | ⟨g, cap, cur, e, _⟩
        · rw [List.length_map] at e2; exact ⟨_, _, _, e, e2.symm⟩
        · rw [List.length_map] at e; exact ⟨_, _, _, e, rfl⟩
      obtain ⟨na, nn, nc, rfl, hnn⟩ := hnl
      have HNN := Lib.hid hnn
      have hnnb : nn ≤ 200 := by rw [hnn]; exact hD.2.1
      have HOK := Lib.hid HL.out.ok
      have HDD := Lib.hid hD
      have HST := Lib.hid (Left2.start (w := w) (ts := ts) (hm2.same (w' := w5) fun k hk => hn2.block k (hmkl k hk)) (fun i hi => (hk2 i hi).1) (hbw.trans (hn2.mono hbw.size)))
      have HQ5 : Hid (w5.heap[q]? = some (.cells #[.map mb2] 46 (0, 0)) ∧ w.heap.size ≤ w5.heap.size ∧ ∀ k, mb2 = some k → k ≠ q) := Lib.hid ⟨(hn2.block q hql).trans hq2, Nat.le_trans hbw.size hn2.size, fun k hk => (hk2 k hk).2⟩
      obtain ⟨ta, tl, tc, htv, htl2⟩ : ∃ ta tl tc, tv = .slice ta tl tc ∧ tl = ts.length := by
        rcases HT.out with ⟨a, c, e, e2⟩ | ⟨g, off, c, e, _⟩
        · exact ⟨a, 0, c, e, by have := congrArg List.length e2; simpa using this.symm⟩
        · rw [List.length_map] at e; exact ⟨_, _, c, e, rfl⟩
      subst htv
      have HTL := Lib.hid htl2
      clear hn1 hn2 hnn hnames hql hmkl hm2 hk2 hq2 hbw hq0 dq' HNM hD htl2 HD2
      go_wp2_with fail
      go_loopw [43, 10, 11, 12] (fun vi _ _ _ wr2 => ∃ k : Nat, vi = .int .i64 (k : Int) ∧ k ≤ nn ∧ Hid (Left2 w w5 mb2 L.fb S n ts k wr2)) (fun vi _ _ _ _ => nn - (intOf vi).toNat)
      case atStart => exact ⟨0, rfl, Nat.zero_le _, HST⟩
      case round =>
        obtain ⟨k, rfl, hk, HR2⟩ := hrel
        by_cases hlt2 : k < nn
        · have hkl : k < (S.left n).length := by have := HNN.out; omega
          obtain ⟨x, hx⟩ : ∃ x, (S.left n)[k]? = some x := ⟨_, List.getElem?_eq_getElem hkl⟩
          have HX := Lib.hid hx
          have hxf : x.2 < S.files.length := HDD.out.2.2 x (List.mem_of_getElem? hx)
          have hnmr := rdV_cells (rdV_upd HNR.out HR2.out.upd fun j hj e => HNB.out j hj e) (by rw [List.length_map]; omega)
          obtain ⟨ng, noff, rfl, -, hnc⟩ := hnmr
          have dn : wr.cell? ⟨ng, noff + k, none⟩ = some (.string x.1) := by
            rw [hnc k (by rw [List.length_map]; omega), List.getD_eq_getElem?_getD, List.getElem?_map, hx]; rfl
          have hmix : ∃ g, MB wr mb2 (mixD L.fb (S.left n) g k) := by obtain ⟨g, gv, ρ, h, _⟩ := HR2.out.ex; exact ⟨g, h⟩
          obtain ⟨g, hmg⟩ := hmix
          have hxs : x.1.size ≤ maxLen := by
            have h1 := mixD_at L.fb (S.left n) g k k
            rw [hx] at h1
            exact hmg.names (x.1, mixF L.fb (S.left n) g k k) (List.mem_of_getElem? h1)
          have HLK : Hid (∀ W, Below wr.heap.size wr W → (Instr.lookup 46 (.map mb2) (.string x.1) false).run Tryz.prog W = .ok (.pointer (some ⟨L.fb x.2, 0, none⟩)) W) := Lib.hid fun W hW => by
            have h1 := (hmg.same (w' := W) fun j hj => hW.block j (hmg.lt j hj)).look x.1 hxs
            rw [mixD_get HDD.out.1 hx] at h1
            exact h1
          have hqr : q < wr.heap.size := Nat.lt_of_lt_of_le (Array.getElem?_eq_some_iff.1 HQ5.out.1).1 HR2.out.upd.size
          have HQR : Hid (wr.cell? ⟨q, 0, none⟩ = some (.map mb2)) := Lib.hid (by
            rw [cells_at ((HR2.out.upd.block q (Array.getElem?_eq_some_iff.1 HQ5.out.1).1 (fun e => HQ5.out.2.2 q e rfl)).trans HQ5.out.1)]; rfl)
          have hfl := HL.out.files x.2 _ (Fs.file_some hxf)
          have hfb := HOK.out.file_bd x.2
          have hfxl : L.fb x.2 < w.heap.size := (Array.getElem?_eq_some_iff.1 hfl.cell).1
          have HFA : Hid (∀ t, Calls Tryz.prog 44 #[.pointer (some ⟨L.fb x.2, 0, none⟩), .int .i64 t] wr.drew (FileNew wr.drew ((S.file x.2).crash t))) := Lib.hid fun t =>
            fcrash_any wr.drew (L.fb x.2) (L.fv x.2) (S.file x.2) t ((HR2.out.blw.block _ hfxl).trans hfl.cell) (row_same hfl.own fun j hj => HR2.out.blw.block j (row_lt hfl.own j hj)) hfb.1 hfb.2
          obtain ⟨nm, hnm⟩ : ∃ nm, x.1 = nm := ⟨_, rfl⟩
          obtain ⟨fx, hfx⟩ : ∃ fx, L.fb x.2 = fx := ⟨_, rfl⟩
          have HNM := Lib.hid hnm
          rw [hnm] at dn HLK
          rw [hfx] at HLK HFA
          have hkz : (k : Int) < (nn : Int) := by omega
          clear hx hkl hxf hnc hmg hfl hfb hfxl hnm hfx
          by_cases hkt : k < tl
          · obtain ⟨tg, toff, rfl, htg, htc⟩ := rdV_cells HT.out (by rw [List.length_map]; have := HTL.out; omega)
            obtain ⟨t, ht⟩ : ∃ t, ts.getD k 0 = t := ⟨_, rfl⟩
            have HTT := Lib.hid ht
            have dt : wr.cell? ⟨tg, toff + k, none⟩ = some (.int .i64 t) := by
              have h0 : k < ts.length := by have := HTL.out; omega
              rw [HR2.out.blw.cell htg, htc k (by rw [List.length_map]; exact h0), ← ht, List.getD_eq_getElem?_getD, List.getD_eq_getElem?_getD, List.getElem?_map, List.getElem?_eq_getElem h0]; rfl
            have HFC := Lib.hid (HFA.out t)
            have hktz : (k : Int) < (tl : Int) := by omega
            clear ht htc HFA
            go_wp2_with fail
            refine beginK (Below wr.heap.size wr) 7 (by kernel_rfl) (Below.refl _ _).drew (fun hHeld => ?_)
            refine takeK (i := 0) (k := 56) (v := .map mb2) rfl rfl (by kernel_rfl) (by kernel_rfl) (by kernel_rfl) [0] rfl (by decide) (by kernel_rfl) (fun _ _ _ h => h) (by kernel_rfl) ?_ (by assumption) ?_
            · intro W hSw; have dq := (hSw.cell (p := ⟨q, 0, none⟩) hqr).trans HQR.out; first | (go_simp; done) | go_simp
            try simp only [Act.put, List.setIfInBounds_toArray, List.set_cons_zero, List.set_cons_succ]
            refine takeK (i := 1) (k := 57) (v := .string nm) rfl rfl (by kernel_rfl) (by kernel_rfl) (by kernel_rfl) [1] rfl (by decide) (by kernel_rfl) (fun _ _ _ h => h) (by kernel_rfl) ?_ (by assumption) ?_
            · intro W hSw; first | (go_simp; done) | go_simp
            try simp only [Act.put, List.setIfInBounds_toArray, List.set_cons_zero, List.set_cons_succ]
            refine takeK (i := 2) (k := 58) (v := .map mb2) rfl rfl (by kernel_rfl) (by kernel_rfl) (by kernel_rfl) [2] rfl (by decide) (by kernel_rfl) (fun _ _ _ h => h) (by kernel_rfl) ?_ (by assumption) ?_
            · intro W hSw; have dq := (hSw.cell (p := ⟨q, 0, none⟩) hqr).trans HQR.out; first | (go_simp; done) | go_simp
            try simp only [Act.put, List.setIfInBounds_toArray, List.set_cons_zero, List.set_cons_succ]
            refine takeK (i := 3) (k := 59) (v := .string nm) rfl rfl (by kernel_rfl) (by kernel_rfl) (by kernel_rfl) [3] rfl (by decide) (by kernel_rfl) (fun _ _ _ h => h) (by kernel_rfl) ?_ (by assumption) ?_
            · intro W hSw; first | (go_simp; done) | go_simp
            try simp only [Act.put, List.setIfInBounds_toArray, List.set_cons_zero, List.set_cons_succ]
            refine takeK (i := 4) (k := 60) (v := .pointer (some ⟨fx, 0, none⟩)) rfl rfl (by kernel_rfl) (by kernel_rfl) (by kernel_rfl) [4] rfl (by decide) (by kernel_rfl) (fun _ _ _ h => h) (by kernel_rfl) ?_ (by assumption) ?_
            · intro W hSw; have hlk := HLK.out W hSw; first | (go_simp; done) | go_simp
            try simp only [Act.put, List.setIfInBounds_toArray, List.set_cons_zero, List.set_cons_succ]
            refine takeK (i := 5) (k := 61) (v := .int .i64 t) rfl rfl (by kernel_rfl) (by kernel_rfl) (by kernel_rfl) [5] rfl (by decide) (by kernel_rfl) (fun _ _ _ h => h) (by kernel_rfl) ?_ (by assumption) ?_
            · intro W hSw; first | (go_simp; done) | go_simp
            try simp only [Act.put, List.setIfInBounds_toArray, List.set_cons_zero, List.set_cons_succ]
            refine oneK (i := 6) (by kernel_rfl) rfl (fun K hK => ?_)
            go_simp
            refine HFC.out.mono ?_
            rintro e w6 ⟨nb, v, rfl, f1, f2, f3, f4, f5⟩
            have b6 : Below wr.heap.size wr w6 := (Below.refl wr.heap.size wr).drew.trans f5
            rw [← HTT.out] at f1 f2
            obtain ⟨w7, hst, hR7⟩ := HR2.out.step HOK.out HX.out hxs b6 f1 f2 f3 f4
            rw [HNM.out] at hst
            refine hK.out _ _ (fun _ => b6) (fun _ => ?_)
            clear hK K
            try simp only [Act.put, List.setIfInBounds_toArray, List.set_cons_zero, List.set_cons_succ]
            refine oneK (i := 7) (by kernel_rfl) rfl (fun K hK => ?_)
            refine step_upd (by kernel_rfl) (.tmp 56) (.tmp 57) (.tmp 62) 46 rfl rfl rfl rfl hst ?_
            refine hK.out _ _ (fun h => by have h' : true = false := h; cases h') (fun _ => ?_)
            clear hK K
            try simp only [Act.put, List.setIfInBounds_toArray]
            refine doneK (by kernel_rfl) ?_ _
            have HR7 := Lib.hid hR7
            clear hst hR7 f1 f2 f3 f4 f5 b6 hHeld
            go_wp2_with fail
            go_roundw
            case rel => exact ⟨k + 1, by go_num, by omega, HR7⟩
            case measure => simp [intOf]; omega
          · have HTT : Hid (ts.getD k 0 = 0) := Lib.hid (by
              rw [List.getD_eq_getElem?_getD, List.getElem?_eq_none (by have := HTL.out; omega)]; rfl)
            have HFC := Lib.hid (HFA.out 0)
            have hktz : ¬ (k : Int) < (tl : Int) := by omega
            clear HFA
            go_wp2_with fail
            refine beginK (Below wr.heap.size wr) 7 (by kernel_rfl) (Below.refl _ _).drew (fun hHeld => ?_)
            refine takeK (i := 0) (k := 56) (v := .map mb2) rfl rfl (by kernel_rfl) (by kernel_rfl) (by kernel_rfl) [0] rfl (by decide) (by kernel_rfl) (fun _ _ _ h => h) (by kernel_rfl) ?_ (by assumption) ?_
            · intro W hSw; have dq := (hSw.cell (p := ⟨q, 0, none⟩) hqr).trans HQR.out; first | (go_simp; done) | go_simp
            try simp only [Act.put, List.setIfInBounds_toArray, List.set_cons_zero, List.set_cons_succ]
            refine takeK (i := 1) (k := 57) (v := .string nm) rfl rfl (by kernel_rfl) (by kernel_rfl) (by kernel_rfl) [1] rfl (by decide) (by kernel_rfl) (fun _ _ _ h => h) (by kernel_rfl) ?_ (by assumption) ?_
            · intro W hSw; first | (go_simp; done) | go_simp
            try simp only [Act.put, List.setIfInBounds_toArray, List.set_cons_zero, List.set_cons_succ]
            refine takeK (i := 2) (k := 58) (v := .map mb2) rfl rfl (by kernel_rfl) (by kernel_rfl) (by kernel_rfl) [2] rfl (by decide) (by kernel_rfl) (fun _ _ _ h => h) (by kernel_rfl) ?_ (by assumption) ?_
            · intro W hSw; have dq := (hSw.cell (p := ⟨q, 0, none⟩) hqr).trans HQR.out; first | (go_simp; done) | go_simp
            try simp only [Act.put, List.setIfInBounds_toArray, List.set_cons_zero, List.set_cons_succ]
            refine takeK (i := 3) (k := 59) (v := .string nm) rfl rfl (by kernel_rfl) (by kernel_rfl) (by kernel_rfl) [3] rfl (by decide) (by kernel_rfl) (fun _ _ _ h => h) (by kernel_rfl) ?_ (by assumption) ?_
            · intro W hSw; first | (go_simp; done) | go_simp
            try simp only [Act.put, List.setIfInBounds_toArray, List.set_cons_zero, List.set_cons_succ]
            refine takeK (i := 4) (k := 60) (v := .pointer (some ⟨fx, 0, none⟩)) rfl rfl (by kernel_rfl) (by kernel_rfl) (by kernel_rfl) [4] rfl (by decide) (by kernel_rfl) (fun _ _ _ h => h) (by kernel_rfl) ?_ (by assumption) ?_
            · intro W hSw; have hlk := HLK.out W hSw; first | (go_simp; done) | go_simp
            try simp only [Act.put, List.setIfInBounds_toArray, List.set_cons_zero, List.set_cons_succ]
            refine takeK (i := 5) (k := 61) (v := .int .i64 0) rfl rfl (by kernel_rfl) (by kernel_rfl) (by kernel_rfl) [5] rfl (by decide) (by kernel_rfl) (fun _ _ _ h => h) (by kernel_rfl) ?_ (by assumption) ?_
            · intro W hSw; first | (go_simp; done) | go_simp
            try simp only [Act.put, List.setIfInBounds_toArray, List.set_cons_zero, List.set_cons_succ]
            refine oneK (i := 6) (by kernel_rfl) rfl (fun K hK => ?_)
            go_simp
            refine HFC.out.mono ?_
            rintro e w6 ⟨nb, v, rfl, f1, f2, f3, f4, f5⟩
            have b6 : Below wr.heap.size wr w6 := (Below.refl wr.heap.size wr).drew.trans f5
            rw [← HTT.out] at f1 f2
            obtain ⟨w7, hst, hR7⟩ := HR2.out.step HOK.out HX.out hxs b6 f1 f2 f3 f4
            rw [HNM.out] at hst
            refine hK.out _ _ (fun _ => b6) (fun _ => ?_)
            clear hK K
            try simp only [Act.put, List.setIfInBounds_toArray, List.set_cons_zero, List.set_cons_succ]
            refine oneK (i := 7) (by kernel_rfl) rfl (fun K hK => ?_)
            refine step_upd (by kernel_rfl) (.tmp 56) (.tmp 57) (.tmp 62) 46 rfl rfl rfl rfl hst ?_
            refine hK.out _ _ (fun h => by have h' : true = false := h; cases h') (fun _ => ?_)
            clear hK K
            try simp only [Act.put, List.setIfInBounds_toArray]
            refine doneK (by kernel_rfl) ?_ _
            have HR7 := Lib.hid hR7
            clear hst hR7 f1 f2 f3 f4 f5 b6 hHeld
            go_wp2_with fail
            go_roundw
            case rel => exact ⟨k + 1, by go_num, by omega, HR7⟩
            case measure => simp [intOf]; omega
        · obtain rfl : k = nn := by omega
          obtain ⟨⟨g, gv, ρ2, hmg, hfg, hrg⟩, hug, hlg, hbg⟩ := HR2.out
          rw [HNN.out] at hmg hfg
          have HDONE := Lib.hid (fun (W1 : World) (ml : Option Nat) (h1 : MB W1 ml (mixD L.fb (S.left n) g (S.left n).length)) (h2 : ∀ i, ml = some i → wr.heap.size ≤ i) (h3 : Below wr.heap.size wr W1) =>
            Left2.fin (W5 := w5) HOK.out hmg hfg hrg hlg hbg HQ5.out.2.1 h1 h2 h3 hug.size)
          have hqr : q < wr.heap.size := Nat.lt_of_lt_of_le (Array.getElem?_eq_some_iff.1 HQ5.out.1).1 hug.size
          have HQR : Hid (wr.cell? ⟨q, 0, none⟩ = some (.map mb2)) := Lib.hid (by
            rw [cells_at ((hug.block q (Array.getElem?_eq_some_iff.1 HQ5.out.1).1 (fun e => HQ5.out.2.2 q e rfl)).trans HQ5.out.1)]; rfl)
          have hbr : b < wr.heap.size := Nat.lt_of_lt_of_le hb hbg.size
          have HRM : Hid (wr.cell? ⟨b, 3, none⟩ = some (.int .i64 (S.room : Int))) := Lib.hid ((hbg.cell (p := ⟨b, 3, none⟩) hb).trans HL.out.cells.c3)
          have HCL : Hid (∀ W, Below wr.heap.size wr W → Calls Tryz.prog 41 #[.map mb2] W (CloneAt W mb2 (mixD L.fb (S.left n) g (S.left n).length))) := Lib.hid fun W hW =>
            mclone_any mb2 _ W (hmg.same fun i hi => hW.block i (hmg.lt i hi))
          obtain ⟨rm, hrm⟩ : ∃ rm : Nat, S.room = rm := ⟨_, rfl⟩
          rw [hrm] at HRM HDONE
          clear hmg hfg hrg hug hlg hbg hrm
          go_wp2_with fail
          have B2 : Below wr.heap.size wr wr := Below.refl _ _

          refine wp_region_held_drew (S := Below wr.heap.size wr) (by kernel_rfl) (Below.refl _ _).drew (fun hHeld => ?_)
          generalize wr.drew = wd20 at hHeld ⊢
          refine wpAnyH_shift hHeld ?_
          replace B2 : Below wr.heap.size wr wd20 := B2.trans (hHeld.mono B2.size)
          clear hHeld
          refine takeYes (i := 0) (k := 64) (v := .map mb2) rfl (by kernel_rfl) (by kernel_rfl) (by kernel_rfl) (by kernel_rfl) (fun _ _ _ h => h) (by kernel_rfl) ?_ (Below.refl _ _) ?_
          · intro W hSw; have dq := (hSw.cell (p := ⟨q, 0, none⟩) (Nat.lt_of_lt_of_le hqr B2.size)).trans ((B2.cell (p := ⟨q, 0, none⟩) hqr).trans HQR.out); first | (go_simp; done) | go_simp
          try simp only [Act.put, List.setIfInBounds_toArray, List.set_cons_zero, List.set_cons_succ]
          refine takeYes (i := 1) (k := 65) (v := .map mb2) rfl (by kernel_rfl) (by kernel_rfl) (by kernel_rfl) (by kernel_rfl) (fun _ _ _ h => h) (by kernel_rfl) ?_ (Below.refl _ _) ?_
          · intro W hSw; have dq := (hSw.cell (p := ⟨q, 0, none⟩) (Nat.lt_of_lt_of_le hqr B2.size)).trans ((B2.cell (p := ⟨q, 0, none⟩) hqr).trans HQR.out); first | (go_simp; done) | go_simp
          try simp only [Act.put, List.setIfInBounds_toArray, List.set_cons_zero, List.set_cons_succ]
          refine takeYes (i := 3) (k := 67) (v := .pointer (some ⟨b, 0, none⟩)) rfl (by kernel_rfl) (by kernel_rfl) (by kernel_rfl) (by kernel_rfl) (fun _ _ _ h => h) (by kernel_rfl) ?_ (Below.refl _ _) ?_
          · intro W hSw; first | (go_simp; done) | go_simp
          try simp only [Act.put, List.setIfInBounds_toArray, List.set_cons_zero, List.set_cons_succ]
          refine takeYes (i := 4) (k := 68) (v := .pointer (some ⟨b, 0, none⟩)) rfl (by kernel_rfl) (by kernel_rfl) (by kernel_rfl) (by kernel_rfl) (fun _ _ _ h => h) (by kernel_rfl) ?_ (Below.refl _ _) ?_
          · intro W hSw; first | (go_simp; done) | go_simp
          try simp only [Act.put, List.setIfInBounds_toArray, List.set_cons_zero, List.set_cons_succ]
          refine takeYes (i := 5) (k := 69) (v := .pointer (some ⟨b, 3, none⟩)) rfl (by kernel_rfl) (by kernel_rfl) (by kernel_rfl) (by kernel_rfl) (fun _ _ _ h => h) (by kernel_rfl) ?_ (Below.refl _ _) ?_
          · intro W hSw; first | (go_simp; done) | go_simp
          try simp only [Act.put, List.setIfInBounds_toArray, List.set_cons_zero, List.set_cons_succ]
          refine takeYes (i := 6) (k := 70) (v := .int .i64 (rm : Int)) rfl (by kernel_rfl) (by kernel_rfl) (by kernel_rfl) (by kernel_rfl) (fun _ _ _ h => h) (by kernel_rfl) ?_ (Below.refl _ _) ?_
          · intro W hSw; have dr := (hSw.cell (p := ⟨b, 3, none⟩) (Nat.lt_of_lt_of_le hbr B2.size)).trans ((B2.cell (p := ⟨b, 3, none⟩) hbr).trans HRM.out); first | (go_simp; done) | go_simp
          try simp only [Act.put, List.setIfInBounds_toArray, List.set_cons_zero, List.set_cons_succ]
          refine wpAnyH_ready (rs := [2]) (by kernel_rfl) (by simp) (AllReadyH.cons rfl (fun K hK => ?_) AllReadyH.nil)
          go_simp
          refine (HCL.out _ B2).mono ?_
          rintro e wd21 ⟨ml, rfl, hmm1, hmm2, hb21⟩
          have HFX := Lib.hid (HDONE.out wd21 ml hmm1 (fun i hi => by
            rcases hmm2 with h | h
            · rw [h] at hi; cases hi
            · rw [h] at hi; have := Option.some.inj hi; have := B2.size; omega) (B2.trans (hb21.mono B2.size)))
          refine hK.out _ _ hb21 (fun _ => wpAnyH_shift hb21 ?_)
          clear hK K
          replace B2 : Below wr.heap.size wr wd21 := B2.trans (hb21.mono B2.size)
          clear hb21
          try simp only [Act.put, List.setIfInBounds_toArray, List.set_cons_zero, List.set_cons_succ]
          refine takeYes (i := 7) (k := 71) (v := .agg #[.map mb2, .map ml, .slice none 0 0, .int .i64 (rm : Int), .int .i64 0, .bool false, .int .i64 0]) rfl (by kernel_rfl) (by kernel_rfl) (by kernel_rfl) (by kernel_rfl) (fun _ _ _ h => h) (by kernel_rfl) ?_ (Below.refl _ _) ?_
          · intro W hSw; first | (go_simp; done) | go_simp
          try simp only [Act.put, List.setIfInBounds_toArray, List.set_cons_zero, List.set_cons_succ]
          refine wpAnyH_ready (rs := [8]) (by kernel_rfl) (by simp) (AllReadyH.cons rfl (fun K hK => ?_) AllReadyH.nil)
          go_simp
          obtain ⟨wd22, hwx⟩ : ∃ x, wd21.alloc (.cells #[.map mb2, .map ml, .slice none 0 0, .int .i64 (rm : Int), .int .i64 0, .bool false, .int .i64 0] 49) = x := ⟨_, rfl⟩
          rw [hwx]
          have hb22 : Below wd21.heap.size wd21 wd22 := by rw [← hwx]; exact (Below.refl _ _).alloc (Nat.le_refl _) _
          unfold fsV at HFX
          rw [hwx] at HFX
          refine hK.out _ _ hb22 (fun _ => wpAnyH_shift hb22 ?_)
          clear hK K
          replace B2 : Below wr.heap.size wr wd22 := B2.trans (hb22.mono B2.size)
          clear hb22
          try simp only [Act.put, List.setIfInBounds_toArray, List.set_cons_zero, List.set_cons_succ]
          refine takeYes (i := 9) (k := 6) (v := .pointer (some ⟨wd21.heap.size, 0, none⟩)) rfl (by kernel_rfl) (by kernel_rfl) (by kernel_rfl) (by kernel_rfl) (fun _ _ _ h => h) (by kernel_rfl) ?_ (Below.refl _ _) ?_
          · intro W hSw; first | (go_simp; done) | go_simp
          try simp only [Act.put, List.setIfInBounds_toArray, List.set_cons_zero, List.set_cons_succ]
          refine wpAnyH_done (by kernel_rfl) ?_ _
          go_wp2_with fail
          go_ret
          exact HFX.out
end Go.Proofs.YtmmkgopnccfiiaaGreatDoor
/- simfs' calls on a nil file system. -/
namespace Go.Proofs.YtmmkgopnccfiiaaGreatDoor
set_option linter.unusedVariables false
open Go.RowKit Go.Maps

set_option maxHeartbeats 1000000 in
theorem nil_append (w : World) (n : ByteArray) (v : Value) : Calls Tryz.prog 60 #[.pointer none, .string n, v] w fun e w' => e = .returned (.int .i64 3) ∧ w = w' := by
  go_enter Tryz.func60, Tryz.ntmps60
  go_wp2
  go_ret
  exact ⟨rfl, rfl⟩
end Go.Proofs.YtmmkgopnccfiiaaGreatDoor
/- Plain mathematics of a file system with one file. -/
namespace Go.Proofs.YtmmkgopnccfiiaaGreatDoor
set_option linter.unusedVariables false
open Go.RowKit
end Go.Proofs.YtmmkgopnccfiiaaGreatDoor
/- A file system of the call's own, and its calls. -/
namespace Go.Proofs.YtmmkgopnccfiiaaGreatDoor
set_option linter.unusedVariables false
open Go.RowKit Go.Maps
/-- Block b is a file system S that was made since w0; all that lay in w0 lies as it did. -/
def FsOwn (w0 w : World) (b : Nat) (S : Fs) : Prop := ∃ ρ, FsAt w b ρ S ∧ Below w0.heap.size w0 w ∧ ∀ k, ρ k ≠ none → w0.heap.size ≤ k
theorem FsOwn.blw {w0 w : World} {b : Nat} {S : Fs} (h : FsOwn w0 w b S) : Below w0.heap.size w0 w := by obtain ⟨ρ, _, h, _⟩ := h; exact h
theorem FsOwn.below {w0 w w' : World} {b : Nat} {S : Fs} (h : FsOwn w0 w b S) (hb : Below w.heap.size w w') : FsOwn w0 w' b S := by
  obtain ⟨ρ, h1, h2, h3⟩ := h
  exact ⟨ρ, h1.below hb, h2.trans (hb.mono h2.size), h3⟩
theorem FsOwn.to {w0 w w' : World} {b : Nat} {ρ : Nat → Option Role} {S' : Fs} (h2 : Below w0.heap.size w0 w) (h3 : ∀ k, ρ k ≠ none → w0.heap.size ≤ k) (h : FsTo w b ρ w' S') : FsOwn w0 w' b S' := by
  obtain ⟨ρ', g1, g2, g3⟩ := h
  refine ⟨ρ', g1, h2.trans (g2.below h2.size fun k hk f => ?_), fun k hk => ?_⟩
  · have := h3 k f; omega
  · rcases g3 k hk with g | g
    · exact h3 k g
    · exact Nat.le_trans h2.size g
theorem new_own (n : Int) (w : World) : Calls Tryz.prog 5 #[.int .i64 n] w fun e w' => e = .returned (.pointer (some ⟨w.heap.size, 0, none⟩)) ∧ FsOwn w w' w.heap.size (fsNew (clampN n 16777216)) := by
  refine (new_any n w).mono ?_
  rintro e w' ⟨rfl, ρ, h1, h2, h3⟩
  exact ⟨rfl, ρ, h1, h2, h3⟩
/-- What a call on it answers, what is behind it. -/
def OwnRes (w0 : World) (b : Nat) (r : Int × Fs) (e : Ending) (w' : World) : Prop := e = .returned (.int .i64 r.1) ∧ FsOwn w0 w' b r.2
theorem OpAt.own {w0 w w' : World} {b : Nat} {ρ : Nat → Option Role} {r : Int × Fs} {e : Ending} (h2 : Below w0.heap.size w0 w) (h3 : ∀ k, ρ k ≠ none → w0.heap.size ≤ k) (h : OpAt w b ρ r e w') : OwnRes w0 b r e w' := ⟨h.1, FsOwn.to h2 h3 h.2⟩
/-- The one that a crash leaves; the old one stays. -/
def CrashOwn (w : World) (S : Fs) (e : Ending) (w' : World) : Prop := ∃ b', e = .returned (.pointer (some ⟨b', 0, none⟩)) ∧ FsOwn w w' b' S
end Go.Proofs.YtmmkgopnccfiiaaGreatDoor
/- simfs' Names. -/
namespace Go.Proofs.YtmmkgopnccfiiaaGreatDoor
set_option linter.unusedVariables false
open Go.RowKit Go.Maps Go.Sort Go.Shelf
theorem FsLay.fewO {w : World} {b : Nat} {ρ : Nat → Option Role} {S : Fs} {L : Lay} (h : FsLay w b ρ S L) : (dmap L.fb S.now).length ≤ 1000000 := by rw [dmap_len]; have := h.ok.few_now; omega
set_option maxHeartbeats 1000000 in
theorem fsnames_any (w : World) (b : Nat) (ρ : Nat → Option Role) (S : Fs) (h : FsAt w b ρ S) : Calls Tryz.prog 10 #[.pointer (some ⟨b, 0, none⟩)] w (SortedAt w S.now) := by
  obtain ⟨L, h⟩ := h
  have HN := Lib.hid (names_any L.mn _ w h.now (dmap_ok h.ok.now) h.fewO)
  have c0 := h.cells.c0
  clear h
  go_enter Tryz.func10, Tryz.ntmps10
  go_wp2_with fail
  refine HN.out.mono ?_
  rintro e w2 ⟨v, rfl, h1, h2⟩
  go_wp2_with fail
  go_ret
  refine ⟨v, rfl, ?_, h2⟩
  have e : (dmap L.fb S.now).map (fun x => Value.string x.1) = S.now.map (fun x => Value.string x.1) := by
    unfold dmap; rw [List.map_map]; rfl
  rw [← e]
  exact h1
end Go.Proofs.YtmmkgopnccfiiaaGreatDoor
