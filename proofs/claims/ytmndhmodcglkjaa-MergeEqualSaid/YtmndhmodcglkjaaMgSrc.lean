/- Sources of a merge: a list's, and the laws' own that counts. -/
import Derived.Test.YtmndhmodcglkjaaMgHeap
import Derived.Test.YtmndhmodcglkjaaEntSort
import Derived.Test.YtmndhmodcglkjaaEntInto
namespace Go.Proofs.Ytmndhmodcglkjaa
set_option linter.unusedVariables false
set_option maxRecDepth 100000
open Go.RowKit
/-- What a source tells. -/
def nxV (o : Option Ent) : Value := .tuple #[(o.getD Ent.none).v, .bool o.isSome]
theorem nxV_none : nxV none = .tuple #[.agg #[.string ⟨#[]⟩, .int .i64 0, .int .i64 0, .string ⟨#[]⟩, .string ⟨#[]⟩], .bool false] := rfl
theorem nxV_some (x : Ent) : nxV (some x) = .tuple #[.agg #[.string x.norm, .int .i64 x.seq, .int .i64 x.kind, .string x.spell, .string x.val], .bool true] := rfl
abbrev zE : Array Value := #[.string ⟨#[]⟩, .int .i64 0, .int .i64 0, .string ⟨#[]⟩, .string ⟨#[]⟩]
def Only (s : Nat) (w w' : World) : Prop := UpdF (fun k => k = s) w w'
theorem Only.new {s b o : Nat} {w w' : World} {v : Value} (h : Only s w w') (hb : w.heap.size ≤ b) : Only s w (w'.setCell ⟨b, o, none⟩ v) :=
  UpdF.then h (G := fun k => k = b) ((UpdF.refl _ _).set b o v rfl) fun i hi => .inr (by omega)
theorem Only.drew {s : Nat} {w w' : World} (h : Only s w w') : Only s w w'.drew := UpdF.drew h
theorem Only.below {s : Nat} {w w' w2 : World} (h : Only s w w') (u : Below w'.heap.size w' w2) : Only s w w2 := UpdF.trans h (UpdF.of u)
/-- On the way of a source's Next: its block, the result's. -/
structure NxW (w : World) (s : Nat) (cs : Array Value) (t : TypeId) (W : World) : Prop where
  blk : BlkAt W s cs t
  res : Row5 W w.heap.size (.string ⟨#[]⟩) (.int .i64 0) (.int .i64 0) (.string ⟨#[]⟩) (.string ⟨#[]⟩)
  upd : Only s w W
  old : s < w.heap.size
theorem NxW.start {w : World} {s : Nat} {cs : Array Value} {t : TypeId} (h : BlkAt w s cs t) : NxW w s cs t (w.alloc (.cells zE 28)) :=
  ⟨h.more _, Row5.new _ _ _ _ _ _ _, UpdF.of ((Below.refl _ w).alloc (Nat.le_refl _) _), h.lt⟩
theorem NxW.set {w W : World} {s o : Nat} {cs : Array Value} {t : TypeId} {v : Value} (h : NxW w s cs t W) : NxW w s (cs.setIfInBounds o v) t (W.setCell ⟨s, o, none⟩ v) := by
  have hne : w.heap.size ≠ s := by have := h.old; omega
  refine ⟨h.blk.set v, ?_, UpdF.set h.upd s o v rfl, h.old⟩
  obtain ⟨⟨z0, z1, z2, z3, z4⟩, ⟨g0, g1, g2, g3, g4⟩, hz⟩ := h.res
  have e : (W.setCell ⟨s, o, none⟩ v).heap[w.heap.size]? = W.heap[w.heap.size]? := Below.heap_setCell _ _ _ _ hne
  have e1 : ∀ i, (W.setCell ⟨s, o, none⟩ v).cell? ⟨w.heap.size, i, none⟩ = W.cell? ⟨w.heap.size, i, none⟩ := fun i => World.cell?_of_block e
  have e2 : ∀ i, (W.setCell ⟨s, o, none⟩ v).frozen? ⟨w.heap.size, i, none⟩ = W.frozen? ⟨w.heap.size, i, none⟩ := fun i => by unfold World.frozen?; rw [e]
  exact ⟨⟨(e1 _).trans z0, (e1 _).trans z1, (e1 _).trans z2, (e1 _).trans z3, (e1 _).trans z4⟩, ⟨(e2 _).trans g0, (e2 _).trans g1, (e2 _).trans g2, (e2 _).trans g3, (e2 _).trans g4⟩, by simpa [World.setCell] using hz⟩
theorem NxW.below {w W W' : World} {s : Nat} {cs : Array Value} {t : TypeId} (h : NxW w s cs t W) (u : Below W.heap.size W W') : NxW w s cs t W' :=
  ⟨h.blk.below u, h.res.below u h.res.2.2, h.upd.below u, h.old⟩
/-- Behind it: the result's block was written. -/
theorem NxW.end {w W : World} {s : Nat} {cs : Array Value} {t : TypeId} (h : NxW w s cs t W) (a b c d e : Value) :
    BlkAt (((((W.setCell ⟨w.heap.size, 0, none⟩ a).setCell ⟨w.heap.size, 1, none⟩ b).setCell ⟨w.heap.size, 2, none⟩ c).setCell ⟨w.heap.size, 3, none⟩ d).setCell ⟨w.heap.size, 4, none⟩ e) s cs t ∧
    Only s w (((((W.setCell ⟨w.heap.size, 0, none⟩ a).setCell ⟨w.heap.size, 1, none⟩ b).setCell ⟨w.heap.size, 2, none⟩ c).setCell ⟨w.heap.size, 3, none⟩ d).setCell ⟨w.heap.size, 4, none⟩ e) := by
  have hne : s ≠ w.heap.size := by have := h.old; omega
  exact ⟨((((h.blk.other _ hne).other _ hne).other _ hne).other _ hne).other _ hne, ((((h.upd.new (Nat.le_refl _)).new (Nat.le_refl _)).new (Nat.le_refl _)).new (Nat.le_refl _)).new (Nat.le_refl _)⟩
theorem Only.base {s : Nat} {w0 w w' : World} (h : Only s w w') (b : Below w0.heap.size w0 w) (hs : w0.heap.size ≤ s) : Below w0.heap.size w0 w' := b.trans (UpdF.below h b.size fun k hk e => by omega)
set_option maxHeartbeats 4000000 in
theorem mgTold_any (w0 w : World) (s : Nat) (v : Value) (l : List Ent) (N : Nat) (hb : BlkAt w s #[v, .int .i64 (N : Int)] 35) (hr : RdK encEnt 5 w0 v l) (hl : l.length ≤ 100000000000) (hN : N ≤ l.length) (h0 : Below w0.heap.size w0 w) (hs : w0.heap.size ≤ s) :
    Calls Try.prog 44 #[.pointer (some ⟨s, 0, none⟩)] w fun e w' => e = .returned (nxV l[N]?) ∧ BlkAt w' s #[v, .int .i64 ((N : Int) + 1)] 35 ∧ Only s w w' := by
  obtain ⟨a, cap, rfl, -⟩ := hr.len
  obtain ⟨o, ho⟩ : ∃ o, l[N]? = o := ⟨_, rfl⟩
  rw [ho]
  obtain ⟨L, hL⟩ : ∃ L, l.length = L := ⟨_, rfl⟩
  rw [hL] at hr hl hN hb ⊢
  have hN1 : IntKind.i64.wrap ((N : Int) + 1) = (N : Int) + 1 := IntWalk.i64_in _ (by omega)
  have HW := Lib.hid (NxW.start hb)
  have HRD : Hid (∀ W, Only s w W → RdK encEnt 5 W (.slice a L cap) l) := Lib.hid fun W hW => hr.below (hW.base h0 hs)
  have HLL := Lib.hid hL
  have c0 : (w.alloc (.cells zE 28)).cell? ⟨s, 1, none⟩ = some (.int .i64 (N : Int)) := HW.out.blk.at 1
  have f0 : (w.alloc (.cells zE 28)).frozen? ⟨s, 1, none⟩ = false := HW.out.blk.free 1
  have HW2 : Hid (NxW w s #[.slice a L cap, .int .i64 ((N : Int) + 1)] 35 ((w.alloc (.cells zE 28)).setCell ⟨s, 1, none⟩ (.int .i64 ((N : Int) + 1)))) := Lib.hid (HW.out.set (o := 1) (v := .int .i64 ((N : Int) + 1)))
  clear hb hr hL HW h0
  go_enter Try.func44, Try.ntmps44
  go_wp2_with fail
  generalize (World.setCell _ _ _) = w2 at HW2 ⊢
  clear c0 f0
  have c0 := HW2.out.blk.at 0
  have c1 := HW2.out.blk.at 1
  simp only [List.getElem?_toArray, List.getElem?_cons_zero, List.getElem?_cons_succ] at c0 c1
  by_cases hNL : N < L
  · have hg : ¬ ((L : Int) < (N : Int) + 1) := by omega
    have hgd : decide ((L : Int) < (N : Int) + 1) = false := decide_eq_false hg
    go_quiet (fail)
    rename_i nq
    have HW3 := Lib.hid (HW2.out.below (DrN.below ⟨nq, rfl⟩ _))
    generalize w2.drewN nq = w3 at HW3 ⊢
    clear c0 c1 HW2
    go_wp2_with fail
    obtain ⟨x, hx⟩ : ∃ x, l[N]? = some x := ⟨l[N]'(by have := HLL.out; omega), List.getElem?_eq_getElem _⟩
    obtain rfl : o = some x := ho.symm.trans hx
    obtain ⟨b, off, rfl, hbl, d0, d1, d2, d3, d4⟩ := (HRD.out w3 HW3.out.upd).at5 HLL.out.symm N x hx
    obtain ⟨⟨z0, z1, z2, z3, z4⟩, ⟨g0, g1, g2, g3, g4⟩, hz⟩ := HW3.out.res
    have c0 := HW3.out.blk.at 0
    have c1 := HW3.out.blk.at 1
    simp only [List.getElem?_toArray, List.getElem?_cons_zero, List.getElem?_cons_succ] at c0 c1
    have hw : IntKind.i64.wrap ((N : Int) + 1 - 1) = (N : Int) := by rw [show (N : Int) + 1 - 1 = (N : Int) by omega]; exact IntWalk.i64_in _ (by omega)
    have hN0 : (0 : Int) ≤ (N : Int) := by omega
    have hNI : (N : Int) < (L : Int) := by omega
    have HE := Lib.hid (HW3.out.end (.string x.norm) (.int .i64 x.seq) (.int .i64 x.kind) (.string x.spell) (.string x.val))
    clear hx ho HW3 HRD
    go_region
    go_wp2_with fail
    refine bodyPost_ret (v := nxV (some x)) (by simp [results, Try.results44, go_sem, nxV_some, z0, z1, z2, z3, z4]) rfl ⟨rfl, HE.out.1.below (DrN.below ⟨1, rfl⟩ _), HE.out.2.drew⟩
  · obtain rfl : N = L := by omega
    have hg : ((N : Int) < (N : Int) + 1) := by omega
    have hgd : decide ((N : Int) < (N : Int) + 1) = true := decide_eq_true hg
    have hx : l[N]? = none := List.getElem?_eq_none (by have := HLL.out; omega)
    obtain rfl : o = none := ho.symm.trans hx
    go_quiet (fail)
    rename_i nq
    have HW3 := Lib.hid (HW2.out.below (DrN.below ⟨nq, rfl⟩ _))
    generalize w2.drewN nq = w3 at HW3 ⊢
    clear c0 c1 HW2
    obtain ⟨⟨z0, z1, z2, z3, z4⟩, ⟨g0, g1, g2, g3, g4⟩, hz⟩ := HW3.out.res
    have HE := Lib.hid (HW3.out.end (.string ⟨#[]⟩) (.int .i64 0) (.int .i64 0) (.string ⟨#[]⟩) (.string ⟨#[]⟩))
    clear HW3 HRD
    go_wp2_with fail
    refine bodyPost_ret (v := nxV none) (by simp [results, Try.results44, go_sem, nxV_none, z0, z1, z2, z3, z4]) rfl ⟨rfl, ?_⟩
    exact HE.out
/-- The rest of a list's source. -/
def SlcTo (w : World) (s : Nat) (r : List Ent) (w0 w' : World) : Prop := ∃ v', BlkAt w' s #[v'] 52 ∧ RdK encEnt 5 w0 v' r ∧ Only s w w'
set_option maxHeartbeats 4000000 in
theorem slc_none (w : World) (s : Nat) (v : Value) (w0 : World) (hb : BlkAt w s #[v] 52) (hr : RdK encEnt 5 w0 v []) :
    Calls Try.prog 45 #[.pointer (some ⟨s, 0, none⟩)] w fun e w' => e = .returned (nxV none) ∧ SlcTo w s [] w0 w' := by
  obtain ⟨a, cap, rfl⟩ : ∃ a cap, v = .slice a 0 cap := by
    obtain ⟨a, cap, rfl, -⟩ := hr.len
    exact ⟨a, cap, rfl⟩
  have HW := Lib.hid (NxW.start hb)
  have HR := Lib.hid hr
  have c0 : (w.alloc (.cells zE 28)).cell? ⟨s, 0, none⟩ = some (.slice a 0 cap) := HW.out.blk.at 0
  obtain ⟨⟨z0, z1, z2, z3, z4⟩, ⟨g0, g1, g2, g3, g4⟩, hz⟩ := HW.out.res
  have HE : Hid (SlcTo w s [] w0 (w.alloc (.cells zE 28))) := Lib.hid ⟨_, HW.out.blk, HR.out, HW.out.upd⟩
  clear hb hr HW
  go_enter Try.func45, Try.ntmps45
  go_wp2_with fail
  refine bodyPost_ret (v := nxV none) (by simp [results, Try.results45, go_sem, nxV_none, z0, z1, z2, z3, z4]) rfl ⟨rfl, HE.out⟩
set_option maxHeartbeats 4000000 in
theorem slc_some (w : World) (s : Nat) (v : Value) (w0 : World) (x : Ent) (r : List Ent) (hb : BlkAt w s #[v] 52) (hr : RdK encEnt 5 w0 v (x :: r)) (h0 : Below w0.heap.size w0 w) (hs : w0.heap.size ≤ s) :
    Calls Try.prog 45 #[.pointer (some ⟨s, 0, none⟩)] w fun e w' => e = .returned (nxV (some x)) ∧ SlcTo w s r w0 w' := by
  obtain ⟨a, cap, rfl, hc⟩ := hr.len
  have hsw := hb.lt
  obtain ⟨L, hL⟩ : ∃ L, (x :: r).length = L := ⟨_, rfl⟩
  have hL0 : 0 < L := by rw [← hL]; simp
  rw [hL] at hr hb
  have hcL : L ≤ cap := by rcases hc with hc | ⟨hc, -⟩; · cases hc
                           · omega
  obtain ⟨b, off, rfl, hbl, hAt⟩ := hr.at5 hL.symm 0 x rfl
  have hbw : b < w.heap.size := Nat.lt_of_lt_of_le hbl h0.size
  have HR2 := Lib.hid (hr.rest 1 hL0)
  obtain ⟨T, hT⟩ : ∃ T : Value, Value.slice (if cap = 1 then (some ⟨b, off, none⟩) else ((some ⟨b, off, none⟩) : Option Addr).map (·.add (1 * 5))) (L - 1) (cap - 1) = T := ⟨_, rfl⟩
  have hT1 : T.oneCell' = true := by rw [← hT]; rfl
  have HS : ∀ W, (Instr.sliceAt 24 (.slice (some ⟨b, off, none⟩) L cap) (some (.int .i64 1)) none none).run Try.prog W = .ok T W := fun W => by rw [← hT]; exact sl_l5 W _ L cap 1 hL0 hcL
  rw [hT] at HR2
  simp only [List.drop_succ_cons, List.drop_zero] at HR2
  obtain ⟨a', n', c', rfl⟩ : ∃ a n c, T = .slice a n c := ⟨_, _, _, hT.symm⟩
  obtain ⟨xn, xs, xk, xp, xv⟩ := x
  have HW := Lib.hid (NxW.start hb)
  have hne : w.heap.size + 1 ≠ s := by omega
  have c0 : (w.alloc (.cells zE 28)).cell? ⟨s, 0, none⟩ = some (.slice (some ⟨b, off, none⟩) L cap) := HW.out.blk.at 0
  obtain ⟨d0, d1, d2, d3, d4⟩ := (hAt.under hbl h0).under hbw ((Below.refl _ w).alloc (Nat.le_refl _) (.cells zE 28))
  simp only [Nat.zero_mul, Nat.add_zero] at d0 d1 d2 d3 d4
  obtain ⟨W2, hW2⟩ : ∃ W2, (w.alloc (.cells zE 28)).alloc (.cells #[.string xn, .int .i64 xs, .int .i64 xk, .string xp, .string xv] 28) = W2 := ⟨_, rfl⟩
  have hu2 : Below (w.alloc (.cells zE 28)).heap.size (w.alloc (.cells zE 28)) W2 := by rw [← hW2]; exact (Below.refl _ _).alloc (Nat.le_refl _) _
  have HW2 := HW.out.below hu2
  have e0 := HW2.blk.at 0
  have e1 := HW2.blk.free 0
  simp only [List.getElem?_toArray, List.getElem?_cons_zero] at e0
  have HW3 := HW2.set (o := 0) (v := .slice a' n' c')
  have R2 : Row5 W2 (w.heap.size + 1) (.string xn) (.int .i64 xs) (.int .i64 xk) (.string xp) (.string xv) := by
    have := Row5.new (w.alloc (.cells zE 28)) (.string xn) (.int .i64 xs) (.int .i64 xk) (.string xp) (.string xv) 28
    rw [hW2] at this
    simpa using this
  have q : ∀ i, (W2.setCell ⟨s, 0, none⟩ (.slice a' n' c')).cell? ⟨w.heap.size + 1, i, none⟩ = W2.cell? ⟨w.heap.size + 1, i, none⟩ := fun i => World.cell?_of_block (Below.heap_setCell _ _ _ _ hne)
  obtain ⟨⟨r0, r1, r2, r3, r4⟩, -, -⟩ := R2
  replace r0 := (q 0).trans r0
  replace r1 := (q 1).trans r1
  replace r2 := (q 2).trans r2
  replace r3 := (q 3).trans r3
  replace r4 := (q 4).trans r4
  obtain ⟨⟨z0, z1, z2, z3, z4⟩, ⟨g0, g1, g2, g3, g4⟩, hz⟩ := HW3.res
  have HE := Lib.hid (HW3.end (.string xn) (.int .i64 xs) (.int .i64 xk) (.string xp) (.string xv))
  have hLI : (0 : Int) < (L : Int) := by omega
  have hLe : ((L : Int) == 0) = false := by rw [beq_eq_false_iff_ne]; omega
  have hLn : ¬ ((L : Int) = 0) := by omega
  clear hb hr HW HW2 HW3 q hT hu2 hAt hL hc
  go_enter Try.func45, Try.ntmps45
  go_wp2_with fail
  refine bodyPost_ret (v := nxV (some ⟨xn, xs, xk, xp, xv⟩)) (by simp [results, Try.results45, go_sem, nxV_some, z0, z1, z2, z3, z4]) rfl ⟨rfl, ?_⟩
  exact ⟨_, HE.out.1, HR2.out, HE.out.2⟩
end Go.Proofs.Ytmndhmodcglkjaa
