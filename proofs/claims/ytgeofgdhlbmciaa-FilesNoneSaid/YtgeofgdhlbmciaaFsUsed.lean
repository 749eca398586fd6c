/- simfs' Used: the bytes of all files that the directory names. -/
import Derived.Test.YtgeofgdhlbmciaaFsOps3
import Derived.Maps.RangeWalk
namespace Go.Proofs.Ytgeofgdhlbmciaa
set_option linter.unusedVariables false
open Go.RowKit Go.Maps
/-- What the entries have that no longer are to come. -/
def sumNot (len : Nat → Nat) (left : Lit → Bool) (l : Dir) : Nat := (l.map fun x => if left (litS x.1) = true then 0 else len x.2).sum
theorem sumNot_le (len : Nat → Nat) (left : Lit → Bool) : ∀ l : Dir, sumNot len left l ≤ (l.map fun x => len x.2).sum
  | [] => Nat.le_refl _
  | y :: r => by
    have := sumNot_le len left r
    unfold sumNot at this ⊢
    simp only [List.map_cons, List.sum_cons]
    split <;> omega
theorem sumNot_end (len : Nat → Nat) {left : Lit → Bool} (h : ∀ k, left k = false) (l : Dir) : sumNot len left l = (l.map fun x => len x.2).sum := by
  unfold sumNot
  congr 1
  exact List.map_congr_left fun x _ => by rw [h]; rfl
theorem sumNot_start (len : Nat → Nat) (l : Dir) (left : Lit → Bool) (h : ∀ x ∈ l, left (litS x.1) = true) : sumNot len left l = 0 := by
  induction l with
  | nil => rfl
  | cons y r ih =>
    have := ih fun x hx => h x (List.mem_cons_of_mem _ hx)
    unfold sumNot at this ⊢
    simp only [List.map_cons, List.sum_cons, this, h y (List.mem_cons_self ..), if_true]
theorem sumNot_step (len : Nat → Nat) {left : Lit → Bool} {n : ByteArray} {i : Nat} (hl : left (litS n) = true) : ∀ {l : Dir}, DirOk l → (n, i) ∈ l → sumNot len (fun z => left z && !z.sameKey (litS n)) l = sumNot len left l + len i
  | [], _, h => absurd h (List.not_mem_nil)
  | y :: r, hok, h => by
    obtain ⟨h1, h2⟩ := List.pairwise_cons.1 hok
    unfold sumNot
    simp only [List.map_cons, List.sum_cons, litS_same]
    rcases List.mem_cons.1 h with e | h
    · subst e
      have hr : sumNot len (fun z => left z && !z.sameKey (litS n)) r = sumNot len left r := by
        unfold sumNot
        congr 1
        refine List.map_congr_left fun x hx => ?_
        have hne : x.1 ≠ n := fun e => bl_irr x.1 (by have := h1 x hx; rw [e] at this ⊢; exact this)
        simp only [litS_same, decide_eq_false hne, Bool.not_false, Bool.and_true]
      have hr' := hr
      unfold sumNot at hr'
      simp only [litS_same] at hr'
      rw [hr']
      simp only [hl, decide_true, Bool.not_true, Bool.and_false, if_true, Bool.false_eq_true, if_false]
      omega
    · have hr := sumNot_step len hl h2 h
      unfold sumNot at hr
      simp only [litS_same] at hr
      rw [hr]
      have hne : y.1 ≠ n := fun e => bl_irr y.1 (by have := h1 _ h; rw [e] at this ⊢; exact this)
      simp only [decide_eq_false hne, Bool.not_false, Bool.and_true]
      omega
theorem entry_of {x : ByteArray} {c : Option Nat} {kl : Lit} {yd : DataW Unit} {yp : List MemPlace} {fb : Nat → Nat} {d : Dir} (hk : keyOf Try.prog 9 (.string x) = some kl) (hR : ptrR (ptrO c) = some (yd, yp)) (hat : ∀ zd, (rawD (dmap fb d)).atKey kl zd = yd) :
    ∃ i, dget x d = some i ∧ c = some (fb i) ∧ kl = litS x := by
  obtain ⟨z, e, e2, -⟩ := keyOf_str Try.underlying9 hk
  have hkl : kl = litS x := by
    rw [e2]
    unfold litS
    injection e with e
    rw [e]
  subst hkl
  have h1 := hat .nil
  have h2 := hat (.lit (.bool true))
  rw [raw_at, dmap_get] at h1 h2
  cases hg : dget x d with
  | none => rw [hg] at h1 h2; rw [← h1] at h2; cases h2
  | some i =>
    rw [hg] at h1
    refine ⟨i, rfl, ?_, rfl⟩
    cases c with
    | none =>
      obtain rfl : DataW.nil = yd := by injection hR with hR; injection hR
      cases h1
    | some j =>
      obtain rfl : DataW.lit (.int .i64 (j : Int)) = yd := by injection hR with hR; injection hR
      simp only [Option.map_some, DataW.lit.injEq, Lit.int.injEq, true_and] at h1
      congr 1; omega
theorem inv_key {key : Value} {kl : Lit} (h : keyOf Try.prog 9 key = some kl) : ∃ x : ByteArray, key = .string x := by
  obtain ⟨x, e, -⟩ := keyOf_str Try.underlying9 h
  exact ⟨⟨x.toArray⟩, e⟩
set_option maxHeartbeats 2000000 in
set_option maxRecDepth 100000 in
theorem used_any (w : World) (b : Nat) (ρ : Nat → Option Role) (S : Fs) (h : FsAt w b ρ S) : Calls Try.prog 18 #[.pointer (some ⟨b, 0, none⟩)] w fun e w' => e = .returned (.int .i64 (S.used : Nat)) ∧ Below w.heap.size w w' := by
  obtain ⟨L, h⟩ := h
  have H := Lib.hid h
  have c0 := h.cells.c0
  have hnow := h.now
  have hub := h.ok.used_bd
  clear h
  cases hmn : L.mn with
  | none =>
    rw [hmn] at c0 hnow
    have hE : Hid (S.used = 0) := Lib.hid (by
      have h1 : dmap L.fb S.now = [] := hnow
      have h2 : S.now = [] := by
        have := dmap_len L.fb S.now
        rw [h1] at this
        exact List.eq_nil_of_length_eq_zero this.symm
      unfold Fs.used; rw [h2]; rfl)
    clear hnow hub hmn
    have hrg := run_range_nilMap (P := Try.prog) w 49 _ _ Try.underlying49
    have hnx : ∀ ty, (Instr.next (.pointer (some ⟨w.heap.size, 0, none⟩)) false ty).run Try.prog (w.alloc (.mapIter none 0 #[] 0)) = _ := fun ty => run_next_nilMap w ty 0 0 #[]
    go_enter Try.func18, Try.ntmps18
    go_wp2
    refine wp_loop_rounds 1 ?_
    rw [rounds_succ]
    go_wp2
    go_ret
    rw [hE.out]
    exact ⟨rfl, (Below.refl _ _).alloc (Nat.le_refl _) _⟩
  | some k =>
    rw [hmn] at c0 hnow
    have hown : w.ownsMap Try.prog 9 ptrR k (dmap L.fb S.now).length (rawD (dmap L.fb S.now)) := hnow
    have HLE := Lib.hid (fun left => Nat.le_trans (sumNot_le (fun i => (S.file i).bytes.length) left S.now) hub)
    clear hmn hub hnow
    go_enter Try.func18, Try.ntmps18
    go_wp2_with (first
      | (at_range; refine wpList_range_own _ rfl _ 49 rfl 9 43 keyedN Try.underlying49 _ k _ _ rfl hown ?_; intro w0 hrg0 hg0 hs0)
      | go_in)
    go_frame
    go_loopw [3, 5] (fun s _ wr => ∃ (left : Lit → Bool) (cnt m : Nat), s = .int .i64 (m : Int) ∧ Hid (m = sumNot (fun i => (S.file i).bytes.length) left S.now) ∧ wr.ranges Try.prog 9 ptrR k w.heap.size (dmap L.fb S.now).length (rawD (dmap L.fb S.now)) left cnt ∧ Hid (Below w.heap.size w wr))
      (fun _ _ wr => wr.rangeLeft k w.heap.size)
    case atStart =>
      refine ⟨_, _, 0, rfl, Lib.hid (sumNot_start _ _ _ fun x hx => ?_).symm, hrg0, Lib.hid ((Below.refl _ _).grown hg0 (Nat.le_refl _) fun j hj => by cases hj)⟩
      show (List.any ((dmap L.fb S.now).map rawE) fun p => p.1.sameKey (litS x.1)) = true
      rw [List.any_eq_true]
      refine ⟨rawE (x.1, L.fb x.2), List.mem_map_of_mem (List.mem_map.2 ⟨x, hx, rfl⟩), ?_⟩
      show (litS x.1).sameKey (litS x.1) = true
      rw [litS_same]; simp
    case round =>
      obtain ⟨left, cnt, m, rfl, hm, hrg, hB⟩ := hrel
      go_wp2_with (first
        | (at_next; refine wpList_next_ranges _ rfl _ rfl 9 keyedN ptrR (fun x : ByteArray => .string x) ptrO (fun key kl hk => inv_key hk) (fun v y hv => by obtain ⟨o, e, -⟩ := ptrR_inv hv; exact ⟨o, e⟩) k w.heap.size _ _ _ _ rfl hrg ?_ ?_)
        | go_in)
      · intro _ hl0
        have hE : Hid (m = S.used) := Lib.hid (by rw [hm.out, sumNot_end _ hl0]; rfl)
        clear hl0
        go_wp2
        go_ret
        rw [← hE.out]
        exact ⟨rfl, hB.out⟩
      · intro x c kl yd yp w1 cnt1 hkey hlx hRc hat hrg1 hlt hg1 hs1 hen
        obtain ⟨i, hgi, rfl, rfl⟩ := entry_of hkey hRc hat
        have hmem := (dget_mem H.out.ok.now).1 hgi
        have hm1 : Hid (m + (S.file i).bytes.length = sumNot (fun i => (S.file i).bytes.length) (fun z => left z && !z.sameKey (litS x)) S.now) := Lib.hid (by rw [sumNot_step _ hlx H.out.ok.now hmem, ← hm.out])
        have hle : m + (S.file i).bytes.length ≤ 3355443200 := by rw [hm1.out]; exact HLE.out _
        have hB1 : Below w.heap.size w w1 := hB.out.trans (UpdF.below (UpdF.grown (F := fun j => j = w.heap.size) hg1 fun j hj => (Option.some.inj hj).symm) hB.out.size fun j hj e => by omega)
        have hf := H.out.files i _ (Fs.file_some (H.out.ok.inNow _ hmem))
        obtain ⟨a, len, cap, hv, hlen, -, -⟩ := hf.own.form
        have hcell := hf.cell
        rw [hv] at hcell
        have d0 := (fil_cells ((hB1.block _ (Array.getElem?_eq_some_iff.1 hcell).1).trans hcell)).c0
        have HB1 := Lib.hid hB1
        rw [← hlen] at hm1 hle
        have HME := Lib.hid (show w1.rangeLeft k w.heap.size < wr.rangeLeft k w.heap.size by rw [hrg1.left_eq, hrg.left_eq]; exact hlt)
        clear hgi hmem hf hv hlen hcell hB1 hg1 hs1 hlt hlx hRc hat hkey
        unfold ptrO at hen ⊢
        go_wp2
        go_roundw
        case rel => exact ⟨_, cnt1, m + len, by go_num, hm1, hrg1, HB1⟩
        case measure => exact HME.out
end Go.Proofs.Ytgeofgdhlbmciaa
