/- The walks of ucd.Class and ucd.Map. -/
import Derived.Test.YtmglnpnkkidnnaaDoorUcdSeq
import Derived.Test.YtmglnpnkkidnnaaDoorUcdTabs
import Derived.RegionIn
namespace Go.Proofs.YtmglnpnkkidnnaaDoor
set_option linter.unusedVariables false
open Go.RowKit Go.Shelf
attribute [local go_sem] Oper.semAt_some
theorem info_int : (Tryd.prog.info? 3).map (fun i => (i.zero, i.size, i.bytes)) = some (some (.int .i64 0), 1, 8) := by kernel_rfl
/-- 'append(s, news..)' as one step of a region that draws its order, inside a fence; the news lie in a block that was just laid. -/
theorem stepIn_own {F : Fence} {n : Nat} {P : Program} {ops : Array Oper} {o : Oper} {a : Act} {w : World} {K : Act → World → Prop} {Q : Exit → Act → World → Prop} {E0 : Prop}
    (hg : o.guard = none) (s x : Operand) (t : TypeId) (hop : o.op = Op.call { callee := Callee.builtin Builtin.append, args := #[s, x], argTypes := #[t, t] })
    (base e : Nat) (i : TypeInfo) (z : Value) (bytes : Nat) (h1 : P.underlying t = some (.slice e)) (h2 : P.info? e = some i) (h3 : i.zero = some z) (h4 : i.size = 1) (h5 : i.bytes = bytes) (h6 : z.cells.size = 1)
    (v : Value) (k : Nat) (xs : List Value) (hs : a.eval s = v) (hown : w.ownsRow base e 1 v k xs) (u : Value) (H : Nat) (hx : a.eval x = .slice (some ⟨H, 0, none⟩) 1 1) (hH : w.heap.size = H) (hu : u.oneCell' = true)
    (b1 : k + 1 ≤ maxLen) (b2 : (k + 1) * bytes ≤ 140737488355328) (b3 : base ≤ w.heap.size)
    (hK : ∀ v' w', w'.ownsRow base e 1 v' (k + 1) (xs ++ [u]) → (w.alloc (.cells #[u] e)).grownBy w' v.ownBlock → v' ≠ .slice none 0 0 → K (a.put o.dst v') w') :
    if Region.wanted o (yielded ops a.tmps) = true then Oper.wpIn F n P o a (w.alloc (.cells #[u] e)) K Q else E0 := by
  have hw : Region.wanted o (yielded ops a.tmps) = true := by simp [Region.wanted, hg]
  rw [if_pos hw]
  subst hH
  have hc : ∀ j y, [u][j]? = some y → (w.alloc (.cells #[u] e)).cell? ((⟨w.heap.size, 0, none⟩ : Addr).add j) = some y := fun j y hj => by
    have : j = 0 := by
      rcases j with _ | j
      · rfl
      · simp at hj
    subst this
    have ea : (⟨w.heap.size, 0, none⟩ : Addr).add 0 = ⟨w.heap.size, 0, none⟩ := by unfold Addr.add; split <;> simp_all
    rw [ea]
    unfold World.cell?
    rw [heap_alloc_new]
    simpa using hj
  obtain ⟨v', w', hrun, r1, r2, r3⟩ := run_append_own (P := P) (w.alloc (.cells #[u] e)) base t o.type e i z 1 bytes h1 h2 h3 h4 h5 h6 (by decide) v k xs (hown.alloc _) ⟨w.heap.size, 0, none⟩ 1 1 [u] rfl hc (by simpa using hu) b1 b2 (by simp; omega)
  unfold Oper.wpIn
  refine ⟨?_, ?_⟩
  · simp [Oper.about, hop, resolve, Target.leads, Sem.run_pure]
  · rw [Oper.semAt_plain F _ _ (by rw [hop]; intro c hc'; cases hc')]
    simp [execOp, hop, resolve, invoke, builtin, hs, hx, hrun, Result.andThen]
    exact hK v' w' r1 r2 (fun hn => by have := (r3.1 hn).2; omega)
/-- what an append to a boxed slice and its store keep, where the slice's own blocks lie beyond N and the box ahead of it. -/
theorem boxApp {W w1 : World} {N X : Nat} {t e : TypeId} {v v' : Value} {k m : Nat} {xs ys : List Value} {tmp : Obj}
    (hv : Boxed W X t v) (hte : t ≠ e) (hrow : W.ownsRow N e 1 v k xs) (hN : N ≤ W.heap.size) (hown' : w1.ownsRow N e 1 v' m ys) (hgrow : (W.alloc tmp).grownBy w1 v.ownBlock) :
    Boxed w1 X t v ∧ Boxed (w1.setCell ⟨X, 0, none⟩ v') X t v' ∧ (w1.setCell ⟨X, 0, none⟩ v').ownsRow N e 1 v' m ys ∧ KeepsOthers W (w1.setCell ⟨X, 0, none⟩ v') ∧ KpB X N W (w1.setCell ⟨X, 0, none⟩ v') ∧ Below N W w1 := by
  have base0 : ∀ {w : World} {u : Value} {j : Nat} {zs : List Value}, w.ownsRow N e 1 u j zs → w.ownsRow 0 e 1 u j zs := fun ⟨a, b⟩ => ⟨a, b.imp id fun ⟨g, cap, cur, e1, e2, e3⟩ => ⟨g, cap, cur, e1, Nat.zero_le _, e3⟩⟩
  obtain ⟨g1, g2, -, g4, -⟩ := hv.appended hte (base0 hrow) (Nat.zero_le _) (Nat.zero_le _) (base0 hown') hgrow
  refine ⟨g1, g2, hown'.kept (grownBy_setCell' w1 X v') (.inr (g1.not_row hte hown').symm), g4, ?_⟩
  have hb : Below N W w1 := ((Below.refl N W).alloc hN tmp).grown hgrow (by simp; omega) fun j ej => (World.ownsRow.lt hrow j ej).1
  exact ⟨(KpB.of hb).trans (KpB.set _ _), hb⟩
theorem keepsBelow {W W' : World} (B : Nat) (h : Below W.heap.size W W') : KeepsFrom B W W' := ⟨h.size, fun k o _ hk _ => (h.block k (Array.getElem?_eq_some_iff.1 hk).1).trans hk⟩
def MapRes (l : List Int) (w : World) (e : Ending) (w' : World) : Prop := ∃ v, e = .returned v ∧ OwnV 3 w.heap.size w' v (l.map (Value.int .i64)) ∧ (v = .slice none 0 0 ↔ l = []) ∧ Below w.heap.size w w'
set_option maxRecDepth 100000 in
set_option maxHeartbeats 4000000 in
theorem map_any (c : Int) (hc0 : -9223372036854775808 ≤ c) (hc1 : c ≤ 9223372036854775807) (w : World) (hE : ErrAt w) (hSp : SpAt w) :
    Calls Tryd.prog 38 #[.int .i64 c] w (MapRes (mapP c) w) := by
  obtain ⟨i0, hi, hz0, hz1, hz2⟩ := info_parts info_int
  obtain ⟨fs, hfs, hfm, hfl⟩ := mapFields c
  have HD := Lib.hid (mapDigits c)
  have HM : Hid (∀ t : ByteArray, t.data.toList = textL mapLines → ∀ w, ErrAt w → Calls Tryd.prog 40 #[.string t, .int .i64 c, .func (.func 51) #[] #[]] w (StrRes (findP rdM c mapLines) w)) := Lib.hid fun t ht w h => findM_any c hc0 hc1 t mapLines ht mapTab w h
  have HL := Lib.hid (mapLen c)
  rw [hfm]
  generalize findP rdM c mapLines = R at *
  have HFS := Lib.hid hfs
  have HFL := Lib.hid hfl
  clear hfm hfs hfl
  have b0 : Below w.heap.size w (w.alloc (.cells #[.slice none 0 0] 22)) := (Below.refl _ w).alloc (Nat.le_refl _) _
  have bO := Boxed.new w 22 (.slice none 0 0)
  have hE1 := hE.below b0
  refine (callsIn_wide (n := 3)).1 ?_
  refine callsIn_of_wp_marks Tryd.func38 rfl trivial ?_ rfl
  simp only [Tryd.ntmps38, List.size_toArray, List.length_cons, List.length_nil, Nat.reduceAdd, Nat.reduceSub, Array.replicate_succ, Array.replicate_zero, List.push_toArray, List.append_toArray, List.nil_append, List.cons_append]
  gi_wp2_with fail
  refine ⟨trivial, ?_⟩
  refine (callsIn_wide.2 (HM.out _ (by kernel_rfl) _ hE1)).mono ?_
  rintro e w1 ⟨rfl, hb1⟩
  gi_wp2_with fail
  refine ⟨trivial, ?_⟩
  refine (fieldsSeq_in _ _ _).mono ?_
  rintro e w2 ⟨rfl, rfl⟩
  have hz1' : w.heap.size + 1 ≤ w1.heap.size := by have := hb1.size; rwa [World.size_alloc] at this
  have hB1 : Below (w.heap.size + 1) (w.alloc (.cells #[.slice none 0 0] 22)) w1 := by have := hb1; rwa [World.size_alloc] at this
  have bO1 : Boxed w1 w.heap.size 22 (.slice none 0 0) := (hB1.block w.heap.size (by omega)).trans bO
  have hb01 : Below w.heap.size w w1 := b0.trans (hB1.mono (by omega))
  have bS := Boxed.new w1 9 (.string (bs R))
  have hgl : 0 < w.heap.size := hSp.1
  have hB0 : Below w.heap.size w (w1.alloc (.cells #[.string (bs R)] 9)) := hb01.alloc (by omega) _
  have hSp1 : SpAt (w1.alloc (.cells #[.string (bs R)] 9)) := hSp.below hB0 hgl
  obtain ⟨w2, hw2⟩ : ∃ w2, w1.alloc (.cells #[.string (bs R)] 9) = w2 := ⟨_, rfl⟩
  have hsz2 : w2.heap.size = w1.heap.size + 1 := by rw [← hw2, World.size_alloc]
  have bO2 : Boxed w2 w.heap.size 22 (.slice none 0 0) := by rw [← hw2]; exact bO1.alloc _
  rw [hw2] at bS hB0 hSp1 ⊢
  gi_wp2
  refine wpIn_rangeFunc_ownG rfl (by omega) (gf := 60) (lb := #[.pointer (some ⟨w1.heap.size, 0, none⟩)]) rfl trivial (enters_of Tryd.func60 (by kernel_rfl) rfl)
    (fields_stops (3 - 1) (by omega) w1.heap.size w.heap.size w2.heap.size (by omega) (by omega) (bs R) (by rw [bs_size]; have := HL.out; omega) (by rw [bs_data]; exact HD.out) fs (by rw [bs_data]; exact HFS.out) w2 (by omega) (Nat.le_refl _) bS.cell (by omega) hSp1) KpB.trans (KpB.put (Nat.le_refl _)) (Below.refl _ _) (fun _ => rfl)
    (fun pre W => (∃ v, Boxed W w.heap.size 22 v ∧ W.ownsRow w2.heap.size 3 1 v pre.length ((pre.map fldI).map (Value.int .i64)) ∧ (v = .slice none 0 0 ↔ pre = [])) ∧ Below w.heap.size w W ∧ w2.heap.size ≤ W.heap.size)
    (fun _ _ _ => False)
    (OwnFrom.and (Own.from (holdsRow_own w2.heap.size w.heap.size 22 3 1 (fun pre => List.length pre) (fun pre => (pre.map fldI).map (Value.int .i64)) (fun pre v => v = .slice none 0 0 ↔ pre = [])) _) (OwnFrom.and (ownFrom_below (Nat.le_refl _) (by omega)) (fun s A B row hs hg _ => Nat.le_trans hs hg.size)))
    (fun _ _ _ _ _ hs _ _ => hs)
    ⟨⟨_, bO2, World.ownsRow_nil _ _ _ _, by simp⟩, hB0, Nat.le_refl _⟩
    (fun x => { tmps := #[.int .i64 c, undef, .slice none 0 0, .pointer (some ⟨w.heap.size, 0, none⟩), .string (bs x.1), .int .i64 c, .string (bs R), .func (.func 60) #[] #[.pointer (some ⟨w1.heap.size, 0, none⟩)], .string (bs x.1), undef, undef, undef, undef, undef, undef], defers := [] }) ?assign ?body ?done ?stop
  case assign =>
    intro l x W K hK
    unfold fldE
    gi_wp2
    exact hK
  case body =>
    rintro l pre x W ⟨⟨v, hv, hrow, hnil⟩, hB, hsW⟩ hlt
    have hc := hv.cell
    have hf := hv.frozen
    have HN : Hid (∀ w, ErrAt w → Calls Tryd.prog 39 #[.string (bs x.1), .int .i64 16] w (IntRes (fldI x) w)) := Lib.hid (num_row 16 (by decide) x.1 x.2)
    have hEW : ErrAt W := hE.below hB
    have hpl : pre.length < 10 := Nat.lt_of_lt_of_le hlt HFL.out
    have hmx : Tryd.prog.follows .mixedOrders = true := by kernel_rfl
    have hvl := hv.lt
    have hNW : w2.heap.size ≤ W.heap.size := hsW
    clear HM HD HFS HL hSp1 hE1 b0 bO hb1 hB1 bO1 hb01 bS bO2
    gi_wp2
    refine wpIn_region_any (by assumption) ?_
    change wpAnyIn _ _ _ _ _ _ _ _ _ (World.drew _)
    refine wpAnyIn_ready (rs := [0, 1]) ?_ (by simp) ?_
    (focus decide +kernel)
    refine AllReadyIn.cons rfl (fun K hK => ?_) (AllReadyIn.cons rfl (fun K hK => ?_) AllReadyIn.nil)
    · go_simp
      refine hK _ _ ?_; clear hK K
      refine wpAnyIn_ready (rs := [1]) ?_ (by simp) ?_
      (focus decide +kernel)
      refine AllReadyIn.cons rfl (fun K hK => ?_) AllReadyIn.nil
      go_simp
      refine hK _ _ ?_; clear hK K
      refine wpAnyIn_ready (rs := [2]) ?_ (by simp) ?_
      (focus decide +kernel)
      refine AllReadyIn.cons rfl (fun K hK => ?_) AllReadyIn.nil
      go_simp
      refine ⟨trivial, ?_⟩
      refine (CallsIn.inRound l (callsIn_wide.2 (HN.out _ (by exact hEW)))).mono ?_
      rintro e w3 ⟨rfl, hb3⟩
      have hb3' : Below W.heap.size W w3 := ((Below.refl W.heap.size W).drew).trans hb3
      have hown3' := ownsBelow hrow hb3'
      have hv3 : Boxed w3 w.heap.size 22 v := (hb3'.block w.heap.size hvl).trans hv
      have hc3 := hv3.cell
      have hf3 := hv3.frozen
      have hc3a := (hv3.alloc (.cells #[.int .i64 (fldI x)] 3)).cell
      have hN3 : w2.heap.size ≤ w3.heap.size := Nat.le_trans hNW hb3'.size
      refine hK _ _ ?_; clear hK K
      refine wpAnyIn_ready (rs := [3]) ?_ (by simp) ?_
      (focus decide +kernel)
      refine AllReadyIn.cons rfl (fun K hK => ?_) AllReadyIn.nil
      go_simp
      refine hK _ _ ?_; clear hK K
      refine wpAnyIn_ready (rs := [4]) ?_ (by simp) ?_
      (focus decide +kernel)
      refine AllReadyIn.cons rfl (fun K hK => ?_) AllReadyIn.nil
      refine stepIn_own rfl (.tmp 9) (.tmp 12) 22 rfl w2.heap.size 3 i0 (.int .i64 0) 8 Tryd.underlying22 hi hz0 hz1 hz2 rfl v pre.length _ rfl hown3' (.int .i64 (fldI x)) _ rfl rfl rfl (by unfold maxLen; omega) (by omega) hN3 ?_
      intro v' w4 hown4 hgrow4 hnn
      obtain ⟨g', cap', rfl⟩ := ownsRow_succ hown4
      obtain ⟨q1, q2, q3, q4, q5, q6⟩ := boxApp hv3 (by decide) hown3' hN3 hown4 hgrow4
      have hc4 := q1.cell
      have hf4 := q1.frozen
      refine hK _ _ ?_; clear hK K
      refine wpAnyIn_ready (rs := [5]) ?_ (by simp) ?_
      (focus decide +kernel)
      refine AllReadyIn.cons rfl (fun K hK => ?_) AllReadyIn.nil
      go_simp
      refine hK _ _ ?_; clear hK K
      refine wpAnyIn_done (by kernel_rfl) ?_ _
      gi_wp2
      exact ⟨(keepsBelow _ hb3').trans (q4.from _), (KpB.of (hb3'.mono hNW)).trans q5, ⟨_, q2, by simpa using q3, by simp⟩, (hB.trans (hb3'.mono hB.size)).trans ((q6.mono hB0.size).setCell (p := ⟨w.heap.size, 0, none⟩) (Nat.le_refl _) _), Nat.le_trans hNW (Nat.le_trans hb3'.size q5.1)⟩
    · go_simp
      refine hK _ _ ?_; clear hK K
      refine wpAnyIn_ready (rs := [0, 2]) ?_ (by simp) ?_
      (focus decide +kernel)
      refine AllReadyIn.cons rfl (fun K hK => ?_) (AllReadyIn.cons rfl (fun K hK => ?_) AllReadyIn.nil)
      · go_simp
        refine hK _ _ ?_; clear hK K
        refine wpAnyIn_ready (rs := [2]) ?_ (by simp) ?_
        (focus decide +kernel)
        refine AllReadyIn.cons rfl (fun K hK => ?_) AllReadyIn.nil
        go_simp
        refine ⟨trivial, ?_⟩
        refine (CallsIn.inRound l (callsIn_wide.2 (HN.out _ (by exact hEW)))).mono ?_
        rintro e w3 ⟨rfl, hb3⟩
        have hb3' : Below W.heap.size W w3 := ((Below.refl W.heap.size W).drew).trans hb3
        have hown3' := ownsBelow hrow hb3'
        have hv3 : Boxed w3 w.heap.size 22 v := (hb3'.block w.heap.size hvl).trans hv
        have hc3 := hv3.cell
        have hf3 := hv3.frozen
        have hc3a := (hv3.alloc (.cells #[.int .i64 (fldI x)] 3)).cell
        have hN3 : w2.heap.size ≤ w3.heap.size := Nat.le_trans hNW hb3'.size
        refine hK _ _ ?_; clear hK K
        refine wpAnyIn_ready (rs := [3]) ?_ (by simp) ?_
        (focus decide +kernel)
        refine AllReadyIn.cons rfl (fun K hK => ?_) AllReadyIn.nil
        go_simp
        refine hK _ _ ?_; clear hK K
        refine wpAnyIn_ready (rs := [4]) ?_ (by simp) ?_
        (focus decide +kernel)
        refine AllReadyIn.cons rfl (fun K hK => ?_) AllReadyIn.nil
        refine stepIn_own rfl (.tmp 9) (.tmp 12) 22 rfl w2.heap.size 3 i0 (.int .i64 0) 8 Tryd.underlying22 hi hz0 hz1 hz2 rfl v pre.length _ rfl hown3' (.int .i64 (fldI x)) _ rfl rfl rfl (by unfold maxLen; omega) (by omega) hN3 ?_
        intro v' w4 hown4 hgrow4 hnn
        obtain ⟨g', cap', rfl⟩ := ownsRow_succ hown4
        obtain ⟨q1, q2, q3, q4, q5, q6⟩ := boxApp hv3 (by decide) hown3' hN3 hown4 hgrow4
        have hc4 := q1.cell
        have hf4 := q1.frozen
        refine hK _ _ ?_; clear hK K
        refine wpAnyIn_ready (rs := [5]) ?_ (by simp) ?_
        (focus decide +kernel)
        refine AllReadyIn.cons rfl (fun K hK => ?_) AllReadyIn.nil
        go_simp
        refine hK _ _ ?_; clear hK K
        refine wpAnyIn_done (by kernel_rfl) ?_ _
        gi_wp2
        exact ⟨(keepsBelow _ hb3').trans (q4.from _), (KpB.of (hb3'.mono hNW)).trans q5, ⟨_, q2, by simpa using q3, by simp⟩, (hB.trans (hb3'.mono hB.size)).trans ((q6.mono hB0.size).setCell (p := ⟨w.heap.size, 0, none⟩) (Nat.le_refl _) _), Nat.le_trans hNW (Nat.le_trans hb3'.size q5.1)⟩
      · go_simp
        refine ⟨trivial, ?_⟩
        refine (CallsIn.inRound l (callsIn_wide.2 (HN.out _ (by exact hEW)))).mono ?_
        rintro e w3 ⟨rfl, hb3⟩
        have hb3' : Below W.heap.size W w3 := ((Below.refl W.heap.size W).drew).trans hb3
        have hown3' := ownsBelow hrow hb3'
        have hv3 : Boxed w3 w.heap.size 22 v := (hb3'.block w.heap.size hvl).trans hv
        have hc3 := hv3.cell
        have hf3 := hv3.frozen
        have hc3a := (hv3.alloc (.cells #[.int .i64 (fldI x)] 3)).cell
        have hN3 : w2.heap.size ≤ w3.heap.size := Nat.le_trans hNW hb3'.size
        refine hK _ _ ?_; clear hK K
        refine wpAnyIn_ready (rs := [0, 3]) ?_ (by simp) ?_
        (focus decide +kernel)
        refine AllReadyIn.cons rfl (fun K hK => ?_) (AllReadyIn.cons rfl (fun K hK => ?_) AllReadyIn.nil)
        · go_simp
          refine hK _ _ ?_; clear hK K
          refine wpAnyIn_ready (rs := [3]) ?_ (by simp) ?_
          (focus decide +kernel)
          refine AllReadyIn.cons rfl (fun K hK => ?_) AllReadyIn.nil
          go_simp
          refine hK _ _ ?_; clear hK K
          refine wpAnyIn_ready (rs := [4]) ?_ (by simp) ?_
          (focus decide +kernel)
          refine AllReadyIn.cons rfl (fun K hK => ?_) AllReadyIn.nil
          refine stepIn_own rfl (.tmp 9) (.tmp 12) 22 rfl w2.heap.size 3 i0 (.int .i64 0) 8 Tryd.underlying22 hi hz0 hz1 hz2 rfl v pre.length _ rfl hown3' (.int .i64 (fldI x)) _ rfl rfl rfl (by unfold maxLen; omega) (by omega) hN3 ?_
          intro v' w4 hown4 hgrow4 hnn
          obtain ⟨g', cap', rfl⟩ := ownsRow_succ hown4
          obtain ⟨q1, q2, q3, q4, q5, q6⟩ := boxApp hv3 (by decide) hown3' hN3 hown4 hgrow4
          have hc4 := q1.cell
          have hf4 := q1.frozen
          refine hK _ _ ?_; clear hK K
          refine wpAnyIn_ready (rs := [5]) ?_ (by simp) ?_
          (focus decide +kernel)
          refine AllReadyIn.cons rfl (fun K hK => ?_) AllReadyIn.nil
          go_simp
          refine hK _ _ ?_; clear hK K
          refine wpAnyIn_done (by kernel_rfl) ?_ _
          gi_wp2
          exact ⟨(keepsBelow _ hb3').trans (q4.from _), (KpB.of (hb3'.mono hNW)).trans q5, ⟨_, q2, by simpa using q3, by simp⟩, (hB.trans (hb3'.mono hB.size)).trans ((q6.mono hB0.size).setCell (p := ⟨w.heap.size, 0, none⟩) (Nat.le_refl _) _), Nat.le_trans hNW (Nat.le_trans hb3'.size q5.1)⟩
        · go_simp
          refine hK _ _ ?_; clear hK K
          refine wpAnyIn_ready (rs := [0]) ?_ (by simp) ?_
          (focus decide +kernel)
          refine AllReadyIn.cons rfl (fun K hK => ?_) AllReadyIn.nil
          go_simp
          refine hK _ _ ?_; clear hK K
          refine wpAnyIn_ready (rs := [4]) ?_ (by simp) ?_
          (focus decide +kernel)
          refine AllReadyIn.cons rfl (fun K hK => ?_) AllReadyIn.nil
          refine stepIn_own rfl (.tmp 9) (.tmp 12) 22 rfl w2.heap.size 3 i0 (.int .i64 0) 8 Tryd.underlying22 hi hz0 hz1 hz2 rfl v pre.length _ rfl hown3' (.int .i64 (fldI x)) _ rfl rfl rfl (by unfold maxLen; omega) (by omega) hN3 ?_
          intro v' w4 hown4 hgrow4 hnn
          obtain ⟨g', cap', rfl⟩ := ownsRow_succ hown4
          obtain ⟨q1, q2, q3, q4, q5, q6⟩ := boxApp hv3 (by decide) hown3' hN3 hown4 hgrow4
          have hc4 := q1.cell
          have hf4 := q1.frozen
          refine hK _ _ ?_; clear hK K
          refine wpAnyIn_ready (rs := [5]) ?_ (by simp) ?_
          (focus decide +kernel)
          refine AllReadyIn.cons rfl (fun K hK => ?_) AllReadyIn.nil
          go_simp
          refine hK _ _ ?_; clear hK K
          refine wpAnyIn_done (by kernel_rfl) ?_ _
          gi_wp2
          exact ⟨(keepsBelow _ hb3').trans (q4.from _), (KpB.of (hb3'.mono hNW)).trans q5, ⟨_, q2, by simpa using q3, by simp⟩, (hB.trans (hb3'.mono hB.size)).trans ((q6.mono hB0.size).setCell (p := ⟨w.heap.size, 0, none⟩) (Nat.le_refl _) _), Nat.le_trans hNW (Nat.le_trans hb3'.size q5.1)⟩
  case done =>
    rintro D ys W hD hys ⟨⟨v, hv, hrow, hnil⟩, hB, hsW⟩ hK
    have hc := hv.cell
    have hbD := belowK_b (n₀ := w.heap.size) (w := w) (Nat.le_refl _) W D (.deferred (some [])) (.deferred none) (by have := hB0.size; omega) hK rfl rfl
    have hrow2 := ownsRow_putObj hrow (.deferred none) hK rfl
    have hown : OwnV 3 w.heap.size (W.putObj D (.deferred none)) v ((fs.map fldI).map (Value.int .i64)) := by
      rw [← hys]
      refine OwnV.base (B := w2.heap.size) ?_ hB0.size
      unfold OwnV; simpa using hrow2
    have hnil2 : v = .slice none 0 0 ↔ fs.map fldI = [] := by rw [hnil, hys]; simp
    gi_wp2
    refine ⟨by simp, .inl ⟨_, _, rfl, run_takeDeferred hK, ?_⟩⟩
    exact ⟨_, results_tmp rfl _ _ _, v, rfl, hown, hnil2, hB.trans hbD⟩
  case stop =>
    rintro D c pre W _ _ h _
    exact h.elim
theorem classDigs (c : Int) : digsB 10 (findP rdC c classLines) = true := by
  rcases find_mem rdC c classLines with h | ⟨l, hl, h, -⟩
  · rw [h]; decide
  · rw [h]
    have := classTab.2.2.1 l hl
    unfold okC at this
    simp only [Bool.and_eq_true] at this
    exact this.1.1.2
set_option maxRecDepth 100000 in
set_option maxHeartbeats 1000000 in
theorem class_any (c : Int) (hc0 : -9223372036854775808 ≤ c) (hc1 : c ≤ 9223372036854775807) (w : World) (hE : ErrAt w) :
    Calls Tryd.prog 25 #[.int .i64 c] w (IntRes (classP c) w) := by
  have HM : Hid (∀ t : ByteArray, t.data.toList = textL classLines → ∀ w, ErrAt w → Calls Tryd.prog 40 #[.string t, .int .i64 c, .func (.func 41) #[] #[]] w (StrRes (findP rdC c classLines) w)) := Lib.hid fun t ht w h => findC_any c hc0 hc1 t classLines ht classTab w h
  have HN : Hid (∀ w, ErrAt w → Calls Tryd.prog 39 #[.string (bs (findP rdC c classLines)), .int .i64 10] w (IntRes (classP c) w)) := Lib.hid (num_row 10 (by decide) _ (classDigs c))
  generalize findP rdC c classLines = R at *
  generalize classP c = V at *
  go_enter Tryd.func25, Tryd.ntmps25
  go_wp2_with fail
  refine (HM.out _ (by kernel_rfl) _ hE).mono ?_
  rintro e w1 ⟨rfl, hb1⟩
  go_wp2_with fail
  refine (HN.out _ (hE.below hb1)).mono ?_
  rintro e w2 ⟨rfl, hb2⟩
  go_wp2
  go_ret
  exact ⟨rfl, hb1.trans (hb2.mono hb1.size)⟩
end Go.Proofs.YtmglnpnkkidnnaaDoor
