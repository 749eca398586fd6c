/- The walk of a merge's Next. -/
import Derived.Test.YtmndhmodcglkjaaMgState
namespace Go.Proofs.Ytmndhmodcglkjaa
set_option linter.unusedVariables false
set_option maxRecDepth 100000
open Go.RowKit
/-- A merge in block mb: its places; what its sources read lay in w0. -/
def MgAt (w0 w : World) (mb : Nat) (ps : List Pl) : Prop :=
  ∃ qb v q, BlkAt w mb #[.pointer (some ⟨qb, 0, none⟩)] 61 ∧ MgM w0 w qb ps v q ps.length ∧ HeapQ (ltPl (keyPl ps)) q q.length 0 ∧ GoodP ps ∧ q.length ≤ 10000000000
def allL (ps : List Pl) : List Ent := mrgL (ps.flatMap Pl.tot)
theorem UpdT.new {S : List TypeId} {B b o : Nat} {w w' : World} {v : Value} (h : UpdT S B w w') (hb : w.heap.size ≤ b) : UpdT S B w (w'.setCell ⟨b, o, none⟩ v) :=
  UpdF.then h (G := fun k => k = b) ((UpdF.refl _ _).set b o v rfl) fun i hi => .inr (by omega)
section
variable {w0 w w' w2 w3 : World} {mb qb i p0 : Nat} {ps : List Pl} {v v2 : Value} {q q' : List Nat}
abbrev eT : List TypeId := [28]
theorem MgS.updE (h : MgS w0 w ps i) (u : UpdT eT w0.heap.size w w') : MgS w0 w' ps i :=
  ⟨fun p x hx hk => ⟨(h.src p x hx hk).1.upd u (by decide), (h.src p x hx hk).2⟩, h.fbs, h.apart, h.apf, h.base.trans (u.below h.base.size)⟩
theorem MgM.updE (h : MgM w0 w qb ps v q i) (u : UpdT eT w0.heap.size w w') : MgM w0 w' qb ps v q i :=
  ⟨h.hq.updT u (by decide) (by decide) fun p hp => (u.blk (h.hq.frs p hp) (.inr (by decide))).trans (h.hq.frs p hp).symm, h.st.updE u, h.mem, h.nodup⟩
theorem set5 {b : Nat} {cs : Array Value} (h : BlkAt w b cs 28) (B : Nat) (hB : B ≤ b) (x0 x1 x2 x3 x4 : Value) :
    UpdT eT B w (((((w.setCell ⟨b, 0, none⟩ x0).setCell ⟨b, 1, none⟩ x1).setCell ⟨b, 2, none⟩ x2).setCell ⟨b, 3, none⟩ x3).setCell ⟨b, 4, none⟩ x4) := by
  have h1 := h.set (o := 0) x0
  have h2 := h1.set (o := 1) x1
  have h3 := h2.set (o := 2) x2
  have h4 := h3.set (o := 3) x3
  exact (((((UpdT.refl _ _ _).set h (by decide) hB 0 x0).set h1 (by decide) hB 1 x1).set h2 (by decide) hB 2 x2).set h3 (by decide) hB 3 x3).set h4 (by decide) hB 4 x4
/-- The front p0 is taken out, and asks its source. -/
theorem MgM.asked (h : MgM w0 w qb ps v q i) {x : Pl} (hx : ps[p0]? = some x) (hc : x.cur.isSome = true) (hi : p0 < i) (k : HQ (frnt ps) w2 w0.heap.size qb v2 q') (hp : (p0 :: q').Perm q) (u2 : UpdT qT w0.heap.size w w2)
    (hs : SrcAt w0 w3 x.next (if x.rest.head?.isSome then 0 else 1)) (hb : BlkAt w3 x.fb (frC ⟨x.fb, x.rest.head?.getD Ent.none, nxF (tyS x.k) x.sb⟩ p0) 57) (u3 : UpdF (fun k => k = x.sb ∨ k = x.fb) w2 w3) :
    MgA w0 w3 qb (ps.set p0 x.next) v2 q' i p0 := by
  have hlt : p0 < ps.length := (List.getElem?_eq_some_iff.1 hx).1
  obtain ⟨hf, hk⟩ := h.st.fbs p0 x hx hc
  have s2 := h.st.updQ u2
  have hnd : (p0 :: q').Nodup := hp.nodup_iff.2 h.nodup
  obtain ⟨hnq, hnd'⟩ := List.nodup_cons.1 hnd
  have hfr : BlkAt w x.fb (frC (frnt ps p0) p0) 57 := by
    have := h.hq.frs p0 ((h.mem p0).2 ⟨x, hx, hc⟩)
    rwa [show (frnt ps p0).b = x.fb by rw [frnt_at hx]] at this
  have hfr2 := u2.blk hfr (.inr (by decide))
  have hlen := hp.length_eq
  have hset : ∀ p, p ≠ p0 → (ps.set p0 x.next)[p]? = ps[p]? := fun p e => by rw [List.getElem?_set, if_neg (fun e' => e e'.symm)]
  have hset0 : (ps.set p0 x.next)[p0]? = some x.next := by rw [List.getElem?_set, if_pos rfl, if_pos hlt]
  have hcong : ∀ p, p ∈ q' → frnt ps p = frnt (ps.set p0 x.next) p := fun p hpq => by
    have e : p ≠ p0 := fun e => hnq (e ▸ hpq)
    unfold frnt keyPl; rw [hset p e]
  have hsb2 := (s2.src p0 x hx hk).1
  have nsb : ∀ {b : Nat} {vs : Array Value} {t : TypeId}, BlkAt w2 b vs t → t ≠ 57 → t ∉ [35, 52] → BlkAt w3 b vs t := fun {b vs t} hb' h1 h2 => by
    refine (u3.block b hb'.lt ?_).trans hb'
    rintro (e | e)
    · exact hsb2.ne hb' h2 e.symm
    · subst e
      unfold BlkAt at hfr2 hb'; rw [hfr2] at hb'; cases hb'; exact h1 rfl
  have hq3 : HQ (frnt ps) w3 w0.heap.size qb v2 q' := by
    refine ⟨nsb k.var (by decide) (by decide), row_same k.row fun g hg => u3.block g (row_lt k.row g hg) ?_, k.qB, fun p hpq => ?_⟩
    · rcases k.form with ⟨rfl, -⟩ | ⟨g', cap, rfl, -⟩
      · cases hg
      · obtain rfl : g' = g := Option.some.inj hg
        obtain ⟨-, cs, hgb⟩ := k.rowBlk
        rintro (e | e)
        · exact hsb2.ne hgb (by decide) e.symm
        · subst e
          unfold BlkAt at hfr2 hgb; rw [hfr2] at hgb; cases hgb
    · obtain ⟨y, hy, hyc⟩ := (h.mem p).1 (hp.mem_iff.1 (List.mem_cons_of_mem _ hpq))
      refine (u3.block _ (k.frs p hpq).lt ?_).trans (k.frs p hpq)
      rintro (e | e)
      · exact hsb2.ne (k.frs p hpq) (by decide) e.symm
      · rw [frnt_at hy] at e
        exact h.st.apf p p0 y x hy hx (fun e' => hnq (e' ▸ hpq)) hyc hc e
  refine ⟨hq3.congr hcong, ?_, fun p => ?_, hnd', ?_⟩
  · exact s2.ask (y := x.next) hx hk rfl hf i (fun p _ _ => Iff.rfl) (by omega) (fun p z hz hne hzc => h.st.apf p p0 z x hz hx hne hzc hc) hs (fun p z hz hzk => (s2.src p z hz hzk).1.ne hfr2 (by decide)) u3
  · constructor
    · intro hpq
      have e : p ≠ p0 := fun e => hnq (e ▸ hpq)
      obtain ⟨y, hy, hyc⟩ := (h.mem p).1 (hp.mem_iff.1 (List.mem_cons_of_mem _ hpq))
      exact ⟨e, y, by rw [hset p e]; exact hy, hyc⟩
    · rintro ⟨e, y, hy, hyc⟩
      rw [hset p e] at hy
      have := hp.mem_iff.2 ((h.mem p).2 ⟨y, hy, hyc⟩)
      exact (List.mem_cons.1 this).resolve_left e
  · rw [frnt_at hset0]; exact hb
/-- How Next leaves a merge. -/
def NextTo (w0 : World) (mb : Nat) (ps : List Pl) (w : World) (e : Ending) (w' : World) : Prop :=
  UpdT mS w0.heap.size w w' ∧ ((allL ps = [] ∧ e = .returned (nxV none) ∧ MgAt w0 w' mb ps) ∨
    ∃ p x m, ps[p]? = some x ∧ x.cur = some m ∧ allL ps = m :: allL (ps.set p x.next) ∧ e = .returned (nxV (some m)) ∧ MgAt w0 w' mb (ps.set p x.next))
theorem HeapQ.congr {lt lt' : Nat → Nat → Bool} (h : HeapQ lt q q.length 0) (e : ∀ a, a ∈ q → ∀ b, b ∈ q → lt a b = lt' a b) : HeapQ lt' q q.length 0 := fun k h1 h2 h3 => by
  have := par_lt h1
  rw [← e _ (HQ.mem h2) _ (HQ.mem (by omega))]; exact h k h1 h2 h3
theorem ltPl_congr {K K' : Nat → Ent} {a b : Nat} (ha : K a = K' a) (hb : K b = K' b) : ltPl K a b = ltPl K' a b := by unfold ltPl; rw [ha, hb]
theorem keyPl_set {x : Pl} {p : Nat} (h : p ≠ p0) : keyPl ps p = keyPl (ps.set p0 x) p := by unfold keyPl; rw [List.getElem?_set, if_neg (fun e => h e.symm)]
theorem no_front (h : MgM w0 w qb ps v q i) (hq : q = []) {p : Nat} {x : Pl} (hx : ps[p]? = some x) : x.cur = none := by
  cases hc : x.cur with
  | none => rfl
  | some m =>
    have := (h.mem p).2 ⟨x, hx, by rw [hc]; rfl⟩
    rw [hq] at this; cases this
theorem adv_upd {x : Pl} {d fb : Nat} {cs : Array Value} (u : UpdF (fun k => k = x.sb ∨ k = fb) w w') (h : SrcAt w0 w x d) (hb : BlkAt w fb cs 57) (h1 : w0.heap.size ≤ x.sb) (h2 : w0.heap.size ≤ fb) : UpdT mS w0.heap.size w w' :=
  UpdF.mono u fun k _ e => by
    rcases e with rfl | rfl
    · obtain ⟨cs', t, fz, e, ht⟩ := h.ty
      exact ⟨h1, cs', t, fz, e, (by decide : ∀ t, t ∈ [35, 52] → t ∈ mS) t ht⟩
    · exact ⟨h2, cs, _, _, hb, by decide⟩
/-- The result is stored. -/
theorem told_end {x : Pl} {m : Ent} {W : World} {cs : Array Value} {v' : Value} {q' : List Nat} (hx : ps[p0]? = some x) (hm : x.cur = some m) (ht : allL ps = m :: allL (ps.set p0 x.next)) (hG : GoodP ps) (hmb : BlkAt w mb #[.pointer (some ⟨qb, 0, none⟩)] 61)
    (hM : MgM w0 W qb (ps.set p0 x.next) v' q' ps.length) (hH : HeapQ (ltPl (keyPl (ps.set p0 x.next))) q' q'.length 0) (hl : q'.length ≤ 10000000000) (u : UpdT mS w0.heap.size w W) (hb : BlkAt W w.heap.size cs 28) (hw : w0.heap.size ≤ w.heap.size) :
    NextTo w0 mb ps w (.returned (nxV (some m))) (((((W.setCell ⟨w.heap.size, 0, none⟩ (.string m.norm)).setCell ⟨w.heap.size, 1, none⟩ (.int .i64 m.seq)).setCell ⟨w.heap.size, 2, none⟩ (.int .i64 m.kind)).setCell ⟨w.heap.size, 3, none⟩ (.string m.spell)).setCell ⟨w.heap.size, 4, none⟩ (.string m.val)) := by
  have u5 := set5 hb w0.heap.size hw (.string m.norm) (.int .i64 m.seq) (.int .i64 m.kind) (.string m.spell) (.string m.val)
  refine ⟨((((u.new (Nat.le_refl _)).new (Nat.le_refl _)).new (Nat.le_refl _)).new (Nat.le_refl _)).new (Nat.le_refl _), .inr ⟨p0, x, m, hx, hm, ht, rfl, qb, v', q', u5.blk (u.blk hmb (.inr (by decide))) (.inr (by decide)), ?_, hH, hG.next hx hm, hl⟩⟩
  rw [List.length_set]
  exact hM.updE u5
theorem qT_mS : ∀ t, t ∈ qT → t ∈ mS := by decide
theorem nextAlloc {w : World} : UpdT mS w0.heap.size w (w.alloc (.cells zE 28)) := .of ((Below.refl _ w).alloc (Nat.le_refl _) _)
set_option maxHeartbeats 8000000 in
theorem mgNext_any (h : MgAt w0 w mb ps) (hp : ps.length ≤ 1000000000) : Calls Try.prog 12 #[.pointer (some ⟨mb, 0, none⟩)] w (NextTo w0 mb ps w) := by
  obtain ⟨qb, v, q, hmb, hM, hH, hG, hql⟩ := h
  have hbase := hM.st.base.size
  have u1 : Below w.heap.size w (w.alloc (.cells zE 28)) := (Below.refl _ w).alloc (Nat.le_refl _) _
  have M1 := hM.below u1
  have c0 : (w.alloc (.cells zE 28)).cell? ⟨mb, 0, none⟩ = some (.pointer (some ⟨qb, 0, none⟩)) := (hmb.below u1).at 0
  have cv : (w.alloc (.cells zE 28)).cell? ⟨qb, 0, none⟩ = some v := M1.hq.var.at 0
  have hv1 := M1.hq.one
  have HLen : Hid (Calls Try.prog 19 #[v] (w.alloc (.cells zE 28)) fun e w' => e = .returned (.int .i64 (q.length : Int)) ∧ w' = w.alloc (.cells zE 28)) := Lib.hid (qlen_any M1.hq)
  have HRes := Lib.hid (BlkAt.new w zE 28)
  have HMb := Lib.hid hmb
  have HM1 := Lib.hid M1
  have HH := Lib.hid hH
  have HG := Lib.hid hG
  by_cases h0 : q.length = 0
  · rw [h0] at HLen
    have hq0 : q = [] := List.eq_nil_of_length_eq_zero h0
    have HE : Hid (NextTo w0 mb ps w (.returned (nxV none)) (w.alloc (.cells zE 28))) := Lib.hid ⟨nextAlloc, .inl ⟨hG.end (fun p x hx => no_front hM hq0 hx), rfl, qb, v, q, hmb.below u1, M1, hH, hG, hql⟩⟩
    obtain ⟨z0, z1, z2, z3, z4⟩ : _ ∧ _ ∧ _ ∧ _ ∧ _ := ⟨HRes.out.at 0, HRes.out.at 1, HRes.out.at 2, HRes.out.at 3, HRes.out.at 4⟩
    obtain ⟨g0, g1, g2, g3, g4⟩ : _ ∧ _ ∧ _ ∧ _ ∧ _ := ⟨HRes.out.free 0, HRes.out.free 1, HRes.out.free 2, HRes.out.free 3, HRes.out.free 4⟩
    simp only [List.getElem?_toArray, List.getElem?_cons_zero, List.getElem?_cons_succ] at z0 z1 z2 z3 z4
    clear hmb hM hH hG M1 u1 HM1 HMb HH HG HRes
    go_enter Try.func12, Try.ntmps12
    go_wp2_with fail
    refine HLen.out.mono ?_
    rintro e w2 ⟨rfl, rfl⟩
    clear HLen
    go_wp2_with fail
    refine bodyPost_ret (v := nxV none) (by simp [results, Try.results12, go_sem, nxV_none, z0, z1, z2, z3, z4]) rfl ?_
    exact HE.out
  · have hq0 : 0 < q.length := by omega
    have hne : ¬ ((q.length : Int) = 0) := by omega
    have hnb : ((q.length : Int) == 0) = false := by rw [beq_eq_false_iff_ne]; exact hne
    obtain ⟨p0, hp0⟩ : ∃ p0, q.getD 0 0 = p0 := ⟨_, rfl⟩
    have hpm : p0 ∈ q := by rw [← hp0]; exact HQ.mem hq0
    obtain ⟨x, hx, hxc⟩ := (hM.mem p0).1 hpm
    obtain ⟨m, hm⟩ := Option.isSome_iff_exists.1 hxc
    have hlt : p0 < ps.length := (List.getElem?_eq_some_iff.1 hx).1
    have hk := (hM.st.fbs p0 x hx hxc).2
    have hfb : (frnt ps p0).b = x.fb := by rw [frnt_at hx]
    have hkey : keyPl ps p0 = m := keyPl_at hx hm
    have HT : Hid (Calls Try.prog 20 #[.pointer (some ⟨qb, 0, none⟩)] (w.alloc (.cells zE 28)) fun e w' => e = .returned (.pointer (some ⟨x.fb, 0, none⟩)) ∧ PopTo (frnt ps) w0.heap.size qb q (w.alloc (.cells zE 28)) w') := Lib.hid (by
      have := mgTake_any M1.hq (by omega) hq0 hH
      rwa [hp0, hfb] at this)
    have HTold : Hid (allL ps = m :: allL (ps.set p0 x.next)) := Lib.hid (hG.told hx hm fun p' x' m' hx' hm' => by
      have hpq : p' ∈ q := (hM.mem p').2 ⟨x', hx', by rw [hm']; rfl⟩
      obtain ⟨j, hj, hjp⟩ := List.getElem_of_mem hpq
      have := hH.root (wkP _) j hj
      rw [hp0, List.getD_eq_getElem?_getD, List.getElem?_eq_getElem hj, Option.getD_some, hjp] at this
      exact this)
    have hXI := Lib.hid hx
    have hXC := Lib.hid hxc
    have HHp := Lib.hid hp0
    have HB0 := Lib.hid hbase
    clear hmb hM hH hG M1 hbase hfb hpm
    go_enter Try.func12, Try.ntmps12
    go_wp2_with fail
    refine HLen.out.mono ?_
    rintro e w2 ⟨rfl, rfl⟩
    clear HLen
    go_wp2_with fail
    refine HT.out.mono ?_
    rintro e w2 ⟨rfl, v2, q2, k1, k2, k3, k4⟩
    rw [HHp.out] at k3
    have hfr : BlkAt w2 x.fb (frC ⟨x.fb, m, nxF (tyS x.k) x.sb⟩ p0) 57 := by
      have := HM1.out.hq.frs p0 ((HM1.out.mem p0).2 ⟨x, hXI.out, hXC.out⟩)
      rw [frnt_at hXI.out, hm] at this
      exact k2.blk this (.inr (by decide))
    obtain ⟨z0, z1, z2, z3, z4, -, -⟩ := fr_cells (f := ⟨x.fb, m, nxF (tyS x.k) x.sb⟩) (p := p0) hfr
    simp only [] at z0 z1 z2 z3 z4
    have hres2 : BlkAt w2 w.heap.size zE 28 := k2.blk HRes.out (.inr (by decide))
    obtain ⟨w3, hw3⟩ : ∃ w3, w2.alloc (.cells #[.string m.norm, .int .i64 m.seq, .int .i64 m.kind, .string m.spell, .string m.val] 28) = w3 := ⟨_, rfl⟩
    have u3 : Below w2.heap.size w2 w3 := by rw [← hw3]; exact (Below.refl _ _).alloc (Nat.le_refl _) _
    have hE3 : BlkAt w3 w2.heap.size #[.string m.norm, .int .i64 m.seq, .int .i64 m.kind, .string m.spell, .string m.val] 28 := by rw [← hw3]; exact BlkAt.new _ _ _
    have s3 := (HM1.out.st.updQ k2).below u3
    obtain ⟨ssrc, sbase⟩ := s3.src p0 x hXI.out hk
    rw [if_pos (.inl hXC.out)] at ssrc
    have hfr3 := hfr.below u3
    have HA := Lib.hid (adv_any ssrc s3.base sbase hfr3)
    have HU3 : Hid (UpdT mS w0.heap.size w w3) := Lib.hid (((nextAlloc (w0 := w0) (w := w)).trans (k2.mono qT_mS (Nat.le_refl _))).to u3)
    have HK := Lib.hid (And.intro (k1.below u3) (And.intro (k2.to u3) (And.intro k3 k4)))
    have HF := Lib.hid (And.intro ssrc (And.intro hfr3 (And.intro sbase (s3.fbs p0 x hXI.out hXC.out).1)))
    have HE3 := Lib.hid (And.intro hE3 (hres2.below u3))
    obtain ⟨r, hr⟩ : ∃ r, x.rest.head?.isSome = r := ⟨_, rfl⟩
    have HR := Lib.hid hr
    rw [hr] at HA
    clear k1 k2 k3 k4 hfr hres2 u3 hE3 s3 ssrc sbase hfr3 HT c0 cv hr hx hxc hp0
    go_wp2_with fail
    refine HA.out.mono ?_
    rintro e w4 ⟨rfl, a1, a2, a3⟩
    have U4 := Lib.hid (HU3.out.trans (adv_upd a3 HF.out.1 HF.out.2.1 HF.out.2.2.1 HF.out.2.2.2))
    have A4 := Lib.hid (HM1.out.asked hXI.out hXC.out hlt HK.out.1 HK.out.2.2.1 HK.out.2.1 (by rw [HR.out]; exact a1) a2 a3)
    have hset0 : (ps.set p0 x.next)[p0]? = some x.next := by rw [List.getElem?_set, if_pos rfl, if_pos hlt]
    have hq2l := HK.out.2.2.1.length_eq
    have Hq2 : Hid (q2.length + 1 = q.length) := Lib.hid (by simpa using hq2l)
    have Hq3 : Hid (HeapQ (ltPl (keyPl (ps.set p0 x.next))) q2 q2.length 0) := Lib.hid (HeapQ.congr HK.out.2.2.2 fun a ha b hb => ltPl_congr (keyPl_set ((A4.out.mem a).1 ha).1) (keyPl_set ((A4.out.mem b).1 hb).1))
    have hE4 : BlkAt w4 w2.heap.size #[.string m.norm, .int .i64 m.seq, .int .i64 m.kind, .string m.spell, .string m.val] 28 := (adv_upd a3 HF.out.1 HF.out.2.1 HF.out.2.2.1 HF.out.2.2.2).blk HE3.out.1 (.inr (by decide))
    have hR4 : BlkAt w4 w.heap.size zE 28 := (adv_upd a3 HF.out.1 HF.out.2.1 HF.out.2.2.1 HF.out.2.2.2).blk HE3.out.2 (.inr (by decide))
    have HE4 := Lib.hid (And.intro hE4 hR4)
    have HS0 := Lib.hid hset0
    clear a1 a2 a3 hq2l HA HF HE3 hE4 hR4 hset0 HU3 hw3
    cases r
    · have hn : x.next.cur = none := by
        have := HR.out
        unfold Pl.next
        simpa using this
      have M4 := Lib.hid (A4.out.none HS0.out hn)
      obtain ⟨e0, e1, e2, e3, e4⟩ : _ ∧ _ ∧ _ ∧ _ ∧ _ := ⟨HE4.out.1.at 0, HE4.out.1.at 1, HE4.out.1.at 2, HE4.out.1.at 3, HE4.out.1.at 4⟩
      obtain ⟨z0, z1, z2, z3, z4⟩ : _ ∧ _ ∧ _ ∧ _ ∧ _ := ⟨HE4.out.2.at 0, HE4.out.2.at 1, HE4.out.2.at 2, HE4.out.2.at 3, HE4.out.2.at 4⟩
      obtain ⟨g0, g1, g2, g3, g4⟩ : _ ∧ _ ∧ _ ∧ _ ∧ _ := ⟨HE4.out.2.free 0, HE4.out.2.free 1, HE4.out.2.free 2, HE4.out.2.free 3, HE4.out.2.free 4⟩
      simp only [List.getElem?_toArray, List.getElem?_cons_zero, List.getElem?_cons_succ] at e0 e1 e2 e3 e4 z0 z1 z2 z3 z4
      have HE := Lib.hid (told_end hXI.out hm HTold.out HG.out HMb.out M4.out Hq3.out (by have := Hq2.out; omega) U4.out HE4.out.2 HB0.out)
      clear M4 A4 HE4 Hq3 Hq2 U4 HK HM1 HMb HRes HH HG HTold hn
      go_wp2_with fail
      refine bodyPost_ret (v := nxV (some m)) (by simp [results, Try.results12, go_sem, nxV_some, z0, z1, z2, z3, z4]) rfl ?_
      exact HE.out
    · have hn : x.next.cur.isSome = true := HR.out
      have c0 : w4.cell? ⟨mb, 0, none⟩ = some (.pointer (some ⟨qb, 0, none⟩)) := (U4.out.blk HMb.out (.inr (by decide))).at 0
      have HP : Hid (Calls Try.prog 21 #[qI qb, .iface 55 (.pointer (some ⟨x.fb, 0, none⟩))] w4 fun e w' => e = .returned (.tuple #[]) ∧ HeapAt (frnt (ps.set p0 x.next)) w0.heap.size qb (q2 ++ [p0]) w4 w') := Lib.hid (by
        have := hpush_any A4.out.hq (by have := Hq2.out; omega) A4.out.st.base.size Hq3.out p0 A4.out.frt
        rwa [show (frnt (ps.set p0 x.next) p0).b = x.fb by rw [frnt_at HS0.out]; rfl] at this)
      go_wp2_with fail
      refine HP.out.mono ?_
      rintro e w5 ⟨rfl, v5, q5, j1, j2, j3, j4⟩
      have M5 := Lib.hid (A4.out.push HS0.out hn j1 j3 j2)
      have hE5 := j2.blk HE4.out.1 (.inr (by decide))
      have hR5 := j2.blk HE4.out.2 (.inr (by decide))
      have U5 := Lib.hid (U4.out.trans (j2.mono qT_mS (Nat.le_refl _)))
      have hl5 : q5.length = q.length := by rw [j3.length_eq]; have := Hq2.out; simp; omega
      have HE := Lib.hid (told_end hXI.out hm HTold.out HG.out HMb.out M5.out j4 (by omega) U5.out hR5 HB0.out)
      obtain ⟨e0, e1, e2, e3, e4⟩ : _ ∧ _ ∧ _ ∧ _ ∧ _ := ⟨hE5.at 0, hE5.at 1, hE5.at 2, hE5.at 3, hE5.at 4⟩
      obtain ⟨z0, z1, z2, z3, z4⟩ : _ ∧ _ ∧ _ ∧ _ ∧ _ := ⟨hR5.at 0, hR5.at 1, hR5.at 2, hR5.at 3, hR5.at 4⟩
      obtain ⟨g0, g1, g2, g3, g4⟩ : _ ∧ _ ∧ _ ∧ _ ∧ _ := ⟨hR5.free 0, hR5.free 1, hR5.free 2, hR5.free 3, hR5.free 4⟩
      simp only [List.getElem?_toArray, List.getElem?_cons_zero, List.getElem?_cons_succ] at e0 e1 e2 e3 e4 z0 z1 z2 z3 z4
      clear M5 A4 HE4 Hq3 Hq2 U4 U5 HK HM1 HMb HRes HH HG HTold hn j1 j2 j3 j4 HP hE5 hR5 c0
      go_wp2_with fail
      refine bodyPost_ret (v := nxV (some m)) (by simp [results, Try.results12, go_sem, nxV_some, z0, z1, z2, z3, z4]) rfl ?_
      exact HE.out
end
end Go.Proofs.Ytmndhmodcglkjaa
