/- A region that draws its order and holds several operations that make memory, in whatever order they come up: of each just what its value means is kept, not where it lies. -/
import Derived.Test.YtgdmmhdihgajkaaMgStep
import Derived.Test.YtgdmmhdihgajkaaMVerB
import Derived.Deep.RegionHeld3
import Derived.Below
import Derived.Lib.Hide
namespace Go.Proofs.Ytgdmmhdihgajkaa
set_option linter.unusedVariables false
open Go.RowKit
/-- An operation: its number, its slot, what its value means, of which places it waits. -/
structure Itm where
  i : Nat
  k : Nat
  R : Value → World → Prop
  deps : List Nat
def setB : List Nat → List Bool → Array Bool → Array Bool
  | i :: is, b :: bs, l => setB is bs (if b then l.setIfInBounds i true else l)
  | _, _, l => l
def putAB : List Nat → List Bool → List Value → Act → Act
  | k :: ks, b :: bs, v :: vs, a => putAB ks bs vs (if b then a.put (some k) v else a)
  | _, _, _, a => a
theorem set_comm (l : Array Bool) (i j : Nat) : (l.setIfInBounds i true).setIfInBounds j true = (l.setIfInBounds j true).setIfInBounds i true := by
  by_cases h : i = j
  · rw [h]
  · exact Array.setIfInBounds_comm _ _ h
theorem setB_comm (i : Nat) : ∀ (is : List Nat) (bs : List Bool) (l : Array Bool), setB is bs (l.setIfInBounds i true) = (setB is bs l).setIfInBounds i true
  | [], _, _ => by simp [setB]
  | _ :: _, [], _ => by simp [setB]
  | j :: is, b :: bs, l => by
    cases b
    · simp only [setB, Bool.false_eq_true, if_false]; exact setB_comm i is bs l
    · simp only [setB, if_true]; rw [set_comm]; exact setB_comm i is bs _
theorem setB_set : ∀ (is : List Nat) (bs : List Bool) (l : Array Bool) (j i : Nat), is[j]? = some i → bs[j]? = some false → setB is (bs.set j true) l = (setB is bs l).setIfInBounds i true
  | [], _, _, _, _, h, _ => by simp at h
  | _ :: _, [], _, _, _, _, h => by simp at h
  | x :: is, b :: bs, l, 0, i, h, hb => by
    have h : x = i := by simpa using h
    have hb : b = false := by simpa using hb
    subst h hb
    simp only [List.set_cons_zero, setB, if_true, Bool.false_eq_true, if_false]
    exact setB_comm _ _ _ _
  | x :: is, b :: bs, l, j + 1, i, h, hb => by
    simp only [List.set_cons_succ, setB]
    exact setB_set is bs _ j i (by simpa using h) (by simpa using hb)
theorem put_comm {k m : Nat} (h : k ≠ m) (a : Act) (v u : Value) : (a.put (some k) v).put (some m) u = (a.put (some m) u).put (some k) v := by
  unfold Act.put
  simp only [Array.setIfInBounds_comm _ _ h]
theorem putB_comm {k : Nat} (v : Value) : ∀ (ks : List Nat) (bs : List Bool) (vs : List Value) (a : Act), k ∉ ks → putAB ks bs vs (a.put (some k) v) = (putAB ks bs vs a).put (some k) v
  | [], _, _, _, _ => by simp [putAB]
  | _ :: _, [], _, _, _ => by simp [putAB]
  | _ :: _, _ :: _, [], _, _ => by simp [putAB]
  | m :: ks, b :: bs, u :: vs, a, h => by
    have h1 : k ≠ m := fun e => h (by simp [e])
    have h2 : k ∉ ks := fun e => h (List.mem_cons_of_mem _ e)
    cases b
    · simp only [putAB, Bool.false_eq_true, if_false]; exact putB_comm v ks bs vs a h2
    · simp only [putAB, if_true]; rw [put_comm h1]; exact putB_comm v ks bs vs _ h2
theorem putB_set : ∀ (ks : List Nat) (bs : List Bool) (vs : List Value) (a : Act) (j k : Nat) (v : Value), ks.Nodup → ks[j]? = some k → bs[j]? = some false → j < vs.length → putAB ks (bs.set j true) (vs.set j v) a = (putAB ks bs vs a).put (some k) v
  | [], _, _, _, _, _, _, _, h, _, _ => by simp at h
  | _ :: _, [], _, _, _, _, _, _, _, h, _ => by simp at h
  | _ :: _, _ :: _, [], _, _, _, _, _, _, _, h => by simp at h
  | x :: ks, b :: bs, u :: vs, a, 0, k, v, hn, h, hb, _ => by
    have h : x = k := by simpa using h
    have hb : b = false := by simpa using hb
    subst h hb
    simp only [List.set_cons_zero, putAB, if_true, Bool.false_eq_true, if_false]
    exact putB_comm v ks bs vs a (List.nodup_cons.1 hn).1
  | x :: ks, b :: bs, u :: vs, a, j + 1, k, v, hn, h, hb, hv => by
    simp only [List.set_cons_succ, putAB]
    exact putB_set ks bs vs _ j k v (List.nodup_cons.1 hn).2 (by simpa using h) (by simpa using hb) (by simpa using hv)
/-- A slot that is none of these. -/
theorem putB_ne {k : Nat} : ∀ (ks : List Nat) (bs : List Bool) (vs : List Value) (a : Act), k ∉ ks → (putAB ks bs vs a).tmps.getD k undef = a.tmps.getD k undef
  | [], _, _, _, _ => by simp [putAB]
  | _ :: _, [], _, _, _ => by simp [putAB]
  | _ :: _, _ :: _, [], _, _ => by simp [putAB]
  | m :: ks, b :: bs, u :: vs, a, h => by
    have h1 : m ≠ k := fun e => h (by simp [e])
    simp only [putAB]
    rw [putB_ne ks bs vs _ fun e => h (List.mem_cons_of_mem _ e)]
    cases b
    · rfl
    · simp only [if_true, Act.put]
      rw [Array.getD_eq_getD_getElem?, Array.getD_eq_getD_getElem?, Array.getElem?_setIfInBounds, if_neg h1]
theorem putB_size : ∀ (ks : List Nat) (bs : List Bool) (vs : List Value) (a : Act), (putAB ks bs vs a).tmps.size = a.tmps.size
  | [], _, _, _ => by simp [putAB]
  | _ :: _, [], _, _ => by simp [putAB]
  | _ :: _, _ :: _, [], _ => by simp [putAB]
  | m :: ks, b :: bs, u :: vs, a => by
    simp only [putAB]
    rw [putB_size ks bs vs _]
    cases b <;> simp [Act.put]
/-- A slot of one that has come up. -/
theorem putB_eq {k : Nat} : ∀ (ks : List Nat) (bs : List Bool) (vs : List Value) (a : Act) (j : Nat) (v : Value), ks.Nodup → ks[j]? = some k → bs[j]? = some true → vs[j]? = some v → k < a.tmps.size → (putAB ks bs vs a).tmps.getD k undef = v
  | [], _, _, _, _, _, _, h, _, _, _ => by simp at h
  | _ :: _, [], _, _, _, _, _, _, h, _, _ => by simp at h
  | _ :: _, _ :: _, [], _, _, _, _, _, _, h, _ => by simp at h
  | x :: ks, b :: bs, u :: vs, a, 0, v, hn, h, hb, hv, hs => by
    have h : x = k := by simpa using h
    have hb : b = true := by simpa using hb
    have hv : u = v := by simpa using hv
    subst h hb hv
    simp only [putAB, if_true]
    rw [putB_ne ks bs vs _ (List.nodup_cons.1 hn).1]
    simp only [Act.put]
    rw [Array.getD_eq_getD_getElem?, Array.getElem?_setIfInBounds, if_pos rfl, if_pos hs]; rfl
  | x :: ks, b :: bs, u :: vs, a, j + 1, v, hn, h, hb, hv, hs => by
    simp only [putAB]
    exact putB_eq ks bs vs _ j v (List.nodup_cons.1 hn).2 (by simpa using h) (by simpa using hb) (by simpa using hv) (by cases b <;> simpa [Act.put] using hs)
/-- All rows of n truths. -/
def allB : Nat → List (List Bool)
  | 0 => [[]]
  | n + 1 => (allB n).map (false :: ·) ++ (allB n).map (true :: ·)
theorem mem_allB : ∀ (bs : List Bool), bs ∈ allB bs.length
  | [] => by simp [allB]
  | b :: bs => by
    have := mem_allB bs
    cases b <;> simp [allB, this]
/-- Whoever has come up waited for those that have. -/
def closedB (deps : List (List Nat)) (bs : List Bool) : Bool := (List.range bs.length).all fun j => !bs.getD j false || (deps.getD j []).all fun d => bs.getD d false
/-- Where not all have come up somebody may, and whoever may is one of these that has not, behind those it waits for. -/
def readyOk (md : Region.Mode) (ops : Array Oper) (L0 : Array Bool) (is : List Nat) (deps : List (List Nat)) (bs : List Bool) : Bool :=
  !closedB deps bs || bs.all id ||
    (!(Region.ready md ops (setB is bs L0)).isEmpty && (Region.ready md ops (setB is bs L0)).all fun i => (List.range bs.length).any fun j => is.getD j 0 == i && !bs.getD j true && (deps.getD j []).all fun d => bs.getD d false)
theorem count_set : ∀ (bs : List Bool) (j : Nat), bs[j]? = some false → (bs.set j true).count false + 1 = bs.count false
  | [], _, h => by simp at h
  | b :: bs, 0, h => by
    have h : b = false := by simpa using h
    subst h
    simp
  | b :: bs, j + 1, h => by
    have := count_set bs j (by simpa using h)
    cases b <;> simp <;> omega
theorem all_of_count : ∀ {bs : List Bool}, bs.count false = 0 → bs = List.replicate bs.length true
  | [], _ => rfl
  | b :: bs, h => by
    cases b
    · simp at h
    · have := all_of_count (bs := bs) (by simpa using h)
      simp only [List.length_cons, List.replicate_succ]
      rw [← this]
section
variable {P : Program} {md : Region.Mode} {ops : Array Oper} {Q : Exit → Act → World → Prop} {S : World → Prop}
theorem wpAnyH_items (items : List Itm) {L0 : Array Bool} {A0 : Act} {n : Nat} (hk : (items.map Itm.k).Nodup) (hr : (allB items.length).all (readyOk md ops L0 (items.map Itm.i) (items.map Itm.deps)) = true)
    (hst : ∀ t ∈ items, ∀ v w w', t.R v w → Below w.heap.size w w' → t.R v w')
    (hex : ∀ (j : Nat) (t : Itm) (bs : List Bool) (vs : List Value) (w : World), items[j]? = some t → bs.length = items.length → vs.length = items.length → bs[j]? = some false → (∀ d ∈ t.deps, bs[d]? = some true) → S w →
      (∀ (d : Nat) (u : Itm), items[d]? = some u → bs[d]? = some true → ∃ v, vs[d]? = some v ∧ u.R v w) →
      wpOp P ops Q t.i (fun a' w' => ∃ v, a' = (putAB (items.map Itm.k) bs vs A0).put (some t.k) v ∧ S w' ∧ t.R v w' ∧ Below w.heap.size w w') (putAB (items.map Itm.k) bs vs A0) w)
    (hdone : ∀ (vs : List Value) (w : World), vs.length = items.length → S w → (∀ (d : Nat) (u : Itm), items[d]? = some u → ∃ v, vs[d]? = some v ∧ u.R v w) →
      wpAnyH P md ops Q S n (setB (items.map Itm.i) (List.replicate items.length true) L0) (putAB (items.map Itm.k) (List.replicate items.length true) vs A0) w) :
    ∀ (m : Nat) (bs : List Bool) (vs : List Value) (w : World), bs.length = items.length → vs.length = items.length → bs.count false = m → closedB (items.map Itm.deps) bs = true → S w →
      (∀ (d : Nat) (u : Itm), items[d]? = some u → bs[d]? = some true → ∃ v, vs[d]? = some v ∧ u.R v w) →
      wpAnyH P md ops Q S (m + n) (setB (items.map Itm.i) bs L0) (putAB (items.map Itm.k) bs vs A0) w
  | 0, bs, vs, w, hb, hv, hc, hcl, hS, hR => by
    have e := all_of_count hc
    rw [hb] at e
    rw [e, Nat.zero_add]
    refine hdone vs w hv hS fun d u hu => hR d u hu ?_
    rw [e]
    have := (List.getElem?_eq_some_iff.1 hu).1
    rw [List.getElem?_replicate, if_pos this]
  | m + 1, bs, vs, w, hb, hv, hc, hcl, hS, hR => by
    rw [show m + 1 + n = (m + n) + 1 by omega]
    have hok := List.all_eq_true.1 hr bs (by rw [← hb]; exact mem_allB bs)
    unfold readyOk at hok
    rw [hcl] at hok
    have hna : bs.all id = false := by
      rw [Bool.eq_false_iff]
      intro h
      have : bs.count false = 0 := List.count_eq_zero.2 fun hm => by have := List.all_eq_true.1 h _ hm; cases this
      omega
    rw [hna] at hok
    simp only [Bool.not_true, Bool.false_or, Bool.and_eq_true, Bool.not_eq_true', List.isEmpty_eq_false_iff] at hok
    obtain ⟨h1, h2⟩ := hok
    refine ⟨fun h => absurd h h1, fun i hi => ?_⟩
    have h3 := List.all_eq_true.1 h2 i hi
    obtain ⟨j, hj, h4⟩ := List.any_eq_true.1 h3
    have hj := List.mem_range.1 hj
    simp only [Bool.and_eq_true, beq_iff_eq, Bool.not_eq_true'] at h4
    obtain ⟨⟨h4, h5⟩, h6⟩ := h4
    have hjt : j < items.length := by omega
    obtain ⟨t, ht⟩ : ∃ t, items[j]? = some t := ⟨items[j], List.getElem?_eq_getElem hjt⟩
    have hti : (items.map Itm.i)[j]? = some t.i := by rw [List.getElem?_map, ht]; rfl
    have htk : (items.map Itm.k)[j]? = some t.k := by rw [List.getElem?_map, ht]; rfl
    have hii : t.i = i := by rw [List.getD_eq_getElem?_getD, hti] at h4; exact h4
    have hbf : bs[j]? = some false := by
      rw [List.getD_eq_getElem?_getD, List.getElem?_eq_getElem hj] at h5
      rw [List.getElem?_eq_getElem hj]
      exact congrArg some h5
    have hdp : ∀ d ∈ t.deps, bs[d]? = some true := by
      intro d hd
      rw [List.getD_eq_getElem?_getD, List.getElem?_map, ht] at h6
      have := List.all_eq_true.1 h6 d hd
      rw [List.getD_eq_getElem?_getD] at this
      cases hx : bs[d]? with
      | none => rw [hx] at this; cases this
      | some b => rw [hx] at this; exact congrArg some this
    rw [← hii]
    refine wpOp_mono (fun a' w' hh => ?_) (hex j t bs vs w ht hb hv hbf hdp hS hR)
    obtain ⟨v, rfl, hS', hRv, hB⟩ := hh
    refine ⟨hS', ?_⟩
    rw [← setB_set _ bs L0 j t.i hti hbf, ← putB_set _ bs vs A0 j t.k v hk htk hbf (by omega)]
    refine wpAnyH_items items hk hr hst hex hdone m _ _ w' (by rw [List.length_set]; exact hb) (by rw [List.length_set]; exact hv) (by have := count_set bs j hbf; omega) ?_ hS' fun d u hu hd => ?_
    · unfold closedB at hcl ⊢
      rw [List.length_set]
      refine List.all_eq_true.2 fun x hx => ?_
      have hcx := List.all_eq_true.1 hcl x hx
      have mono : ∀ d, bs.getD d false = true → (bs.set j true).getD d false = true := fun d hd => by
        rw [List.getD_eq_getElem?_getD] at hd ⊢
        rw [List.getElem?_set]
        split
        · rfl
        · exact hd
      by_cases hxj : x = j
      · subst hxj
        rw [List.getD_eq_getElem?_getD (l := List.map Itm.deps items), List.getElem?_map, ht]
        simp only [Option.map_some, Option.getD_some]
        rw [Bool.or_eq_true]
        refine .inr (List.all_eq_true.2 fun d hd => mono d ?_)
        rw [List.getD_eq_getElem?_getD, hdp d hd]; rfl
      · rw [Bool.or_eq_true] at hcx ⊢
        rcases hcx with hcx | hcx
        · refine .inl ?_
          rw [List.getD_eq_getElem?_getD] at hcx ⊢
          rw [List.getElem?_set_ne (by omega)]; exact hcx
        · exact .inr (List.all_eq_true.2 fun d hd => mono d (List.all_eq_true.1 hcx d hd))
    · by_cases hdj : d = j
      · subst hdj
        obtain rfl : t = u := Option.some.inj (ht.symm.trans hu)
        exact ⟨v, by rw [List.getElem?_set_self (by omega)], hRv⟩
      · rw [List.getElem?_set_ne (by omega)] at hd
        obtain ⟨x, hx1, hx2⟩ := hR d u hu hd
        exact ⟨x, by rw [List.getElem?_set_ne (by omega)]; exact hx1, hst u (List.mem_of_getElem? hu) x w w' hx2 hB⟩
/-- From the beginning: none has come up. -/
theorem takeItems (items : List Itm) (ks is : List Nat) (ds : List (List Nat)) (m : Nat) (hks : items.map Itm.k = ks) (his : items.map Itm.i = is) (hds : items.map Itm.deps = ds) (hm : items.length = m) {L0 : Array Bool} {A0 : Act} {n N : Nat} {w : World} (hN : N = m + n) (hk : ks.Nodup) (hr : (allB m).all (readyOk md ops L0 is ds) = true)
    (hst : ∀ t ∈ items, ∀ v w w', t.R v w → Below w.heap.size w w' → t.R v w')
    (hex : ∀ (j : Nat) (t : Itm) (bs : List Bool) (vs : List Value) (w : World), items[j]? = some t → bs.length = m → vs.length = m → bs[j]? = some false → (∀ d ∈ t.deps, bs[d]? = some true) → S w →
      (∀ (d : Nat) (u : Itm), items[d]? = some u → bs[d]? = some true → ∃ v, vs[d]? = some v ∧ u.R v w) →
      wpOp P ops Q t.i (fun a' w' => ∃ v, a' = (putAB ks bs vs A0).put (some t.k) v ∧ S w' ∧ t.R v w' ∧ Below w.heap.size w w') (putAB ks bs vs A0) w)
    (hS : S w)
    (hdone : ∀ (vs : List Value) (w : World), vs.length = m → S w → (∀ (d : Nat) (u : Itm), items[d]? = some u → ∃ v, vs[d]? = some v ∧ u.R v w) →
      wpAnyH P md ops Q S n (setB is (List.replicate m true) L0) (putAB ks (List.replicate m true) vs A0) w) :
    wpAnyH P md ops Q S N L0 A0 w := by
  subst hks his hds hm
  have none_set : ∀ (is : List Nat) (m : Nat) (l : Array Bool), setB is (List.replicate m false) l = l := fun is => by
    induction is with
    | nil => intro m l; simp [setB]
    | cons x r ih => intro m l; cases m <;> simp [setB, List.replicate_succ, ih]
  have none_put : ∀ (ks : List Nat) (m : Nat) (vs : List Value) (a : Act), putAB ks (List.replicate m false) vs a = a := fun ks => by
    induction ks with
    | nil => intro m vs a; simp [putAB]
    | cons x r ih => intro m vs a; cases m <;> cases vs <;> simp [putAB, List.replicate_succ, ih]
  have h := wpAnyH_items (P := P) (md := md) (ops := ops) (Q := Q) (S := S) items (L0 := L0) (A0 := A0) (n := n) hk hr hst hex hdone items.length (List.replicate items.length false) (List.replicate items.length undef) w (by simp) (by simp) (by simp) ?_ hS ?_
  · rw [none_set, none_put] at h
    rw [hN]; exact h
  · unfold closedB
    refine List.all_eq_true.2 fun x hx => ?_
    have := List.mem_range.1 hx
    rw [List.length_replicate] at this
    rw [List.getD_eq_getElem?_getD, List.getElem?_replicate, if_pos this]; rfl
  · intro d u hu hd
    rw [List.getElem?_replicate] at hd
    split at hd <;> simp at hd
end
end Go.Proofs.Ytgdmmhdihgajkaa
/- A call of a function as one step of a region; a pointer that is made. -/
namespace Go.Proofs.Ytgdmmhdihgajkaa
set_option linter.unusedVariables false
open Go.RowKit
theorem one_call {P : Program} {ops : Array Oper} {o : Oper} {a : Act} {w : World} {K : Act → World → Prop} {Q : Exit → Act → World → Prop} {E : Prop} (d : Nat) (hd : o.dst = some d) (hw : Region.wanted o (yielded ops a.tmps) = true)
    (f : Nat) (x : Operand) (ats : Array TypeId) (hop : o.op = .call { callee := .value (.func f), args := #[x], argTypes := ats }) {v : Value} (hx : a.eval x = v) (hen : ∀ w, (callFunc f #[v]).run P w = .ok (.enter f #[v]) w)
    (hC : Calls P f #[v] w fun e w' => ∃ u, e = .returned u ∧ K (a.put (some d) u) w') : if Region.wanted o (yielded ops a.tmps) = true then Oper.wp P o a w K Q else E := by
  rw [if_pos hw]
  have hf : a.eval (.func f) = .func (.func f) #[] #[] := rfl
  unfold Oper.wp execOp
  simp only [hop, resolve, invoke, Deferred.ofValue, hf, Sem.run_bind, Sem.run_pure, Result.andThen_ok, List.map_toArray, List.map_cons, List.map_nil, hx, Array.append_empty, List.append_toArray]
  have e : (callFunc f ([] ++ [v]).toArray).run P w = .ok (.enter f #[v]) w := hen w
  rw [e, Oper.upon_enter]
  refine hC.mono ?_
  rintro e w' ⟨u, rfl, h⟩
  show K (a.put o.dst u) w'
  rw [hd]; exact h
/-- Any operation, by what it gives. -/
theorem oneOp_any {P : Program} {ops : Array Oper} {o : Oper} {a : Act} {w : World} {K : Act → World → Prop} {Q : Exit → Act → World → Prop} {E : Prop} (d : Nat) (hd : o.dst = some d) (hw : Region.wanted o (yielded ops a.tmps) = true)
    {v : Value} {w' : World} (hr : (execOp a.eval o).run P w = .ok (.value v) w') (hK : K (a.put (some d) v) w') : if Region.wanted o (yielded ops a.tmps) = true then Oper.wp P o a w K Q else E := by
  rw [if_pos hw]
  unfold Oper.wp
  rw [hr]
  show K (a.put o.dst v) w'
  rw [hd]; exact hK
end Go.Proofs.Ytgdmmhdihgajkaa
/- The walk of changed: what an edit makes of a version. -/
namespace Go.Proofs.Ytgdmmhdihgajkaa
set_option linter.unusedVariables false
set_option maxRecDepth 100000
open Go.RowKit
theorem vOr_assoc (x y : Int) : vOr (vOr x y) 1 = vOr x (vOr y 1) := by
  unfold vOr
  by_cases h : x = 0
  · simp [h]
  · simp [h]
theorem apply_none1 {V : Ver} {x : Edt} (hd : vDels V.fs x.dels = none) : applyV V x = none := by
  unfold applyV
  split
  · rw [hd]
  · rfl
theorem apply_is {V : Ver} {x : Edt} {ys : List Tbf} (hm : mayE x) (hd : vDels V.fs x.dels = some ys) : applyV V x = match vAdds ys x.adds with
    | none => none
    | some m => if vMay V ⟨m, vOr x.nxt V.nx, vOr x.lg V.lg, vOr x.lst V.ls⟩ then some ⟨m, vOr x.nxt V.nx, vOr x.lg V.lg, vOr x.lst V.ls⟩ else none := by
  unfold applyV
  rw [if_pos hm, hd]
  rfl
theorem apply_none2 {V : Ver} {x : Edt} {ys : List Tbf} (hm : mayE x) (hd : vDels V.fs x.dels = some ys) (hw : ¬ withOk ys x.adds) : applyV V x = none := by
  rw [apply_is hm hd]
  cases ha : vAdds ys x.adds with
  | none => rfl
  | some m =>
    obtain ⟨rfl, -⟩ := vAdds_is ha
    refine if_neg fun h => hw ⟨?_, by rw [ha]; simp, h.1⟩
    have := h.2.1
    simp only [List.length_append] at this
    exact this
theorem apply_yes {V : Ver} {x : Edt} {ys zs : List Tbf} {n0 : Int} (hg : 1 ≤ V.nx) (hn : V.nx = vOr n0 1) (hm : mayE x) (hd : vDels V.fs x.dels = some ys) (hw : withOk ys x.adds) (hp : zs.Perm (ys ++ x.adds)) :
    (vFol zs (vOr (vOr x.nxt n0) 1) (vOr x.lg V.lg) (vOr x.lst V.ls) (vOr n0 1) V.lg V.ls → applyV V x = some ⟨ys ++ x.adds, vOr (vOr x.nxt n0) 1, vOr x.lg V.lg, vOr x.lst V.ls⟩) ∧
    (¬ vFol zs (vOr (vOr x.nxt n0) 1) (vOr x.lg V.lg) (vOr x.lst V.ls) (vOr n0 1) V.lg V.ls → applyV V x = none) := by
  rw [apply_is hm hd]
  obtain ⟨h1, h2, h3⟩ := hw
  cases ha : vAdds ys x.adds with
  | none => exact absurd ha h2
  | some m =>
    obtain ⟨rfl, -⟩ := vAdds_is ha
    rw [vOr_assoc, ← hn]
    simp only
    have hiff : vMay V ⟨ys ++ x.adds, vOr x.nxt V.nx, vOr x.lg V.lg, vOr x.lst V.ls⟩ ↔ vFol zs (vOr x.nxt V.nx) (vOr x.lg V.lg) (vOr x.lst V.ls) V.nx V.lg V.ls := by
      unfold vMay vFol
      simp only
      constructor
      · rintro ⟨-, -, a3, a4, a5, a6, a7⟩
        refine ⟨by omega, by omega, by omega, ?_, ?_⟩
        · omega
        · rintro ⟨f, hf, hle⟩
          have := a7 f (hp.mem_iff.1 hf)
          omega
      · rintro ⟨a3, a4, a5, a6, a7⟩
        refine ⟨h3, by rw [List.length_append]; exact h1, by omega, by omega, by omega, by omega, fun f hf => ?_⟩
        exact Int.not_le.1 fun hle => a7 ⟨f, hp.mem_iff.2 hf, hle⟩
    exact ⟨fun h => if_pos (hiff.2 h), fun h => if_neg fun k => h (hiff.1 k)⟩
/-- What changed tells. -/
def ChgTo (w : World) (V : Ver) (x : Edt) (e : Ending) (w' : World) : Prop := ∃ (a : Option Addr) (nt ct : Nat) (n0 l0 s0 : Int) (ok : Bool), e = .returned (.tuple #[.agg #[.slice a nt ct, .int .i64 n0, .int .i64 l0, .int .i64 s0], .bool ok]) ∧ (ok = false → applyV V x = none) ∧
  (ok = true → ∃ zs m, applyV V x = some ⟨m, vOr n0 1, l0, s0⟩ ∧ zs.Perm m ∧ vSorted zs ∧ OwnK encTbf 5 49 w.heap.size w' (.slice a nt ct) zs) ∧ Below w.heap.size w w'
/-- What lies still: the edit's box, the answer's, the version and its tables, the edit's lists. -/
structure ChgL (w : World) (B b : Nat) (tv va vd : Value) (n0 l0 s0 x1 x2 x3 : Int) (fs A : List Tbf) (D : List Int) (W : World) : Prop where
  e : BlkAt W w.heap.size #[.int .i64 x1, .int .i64 x2, .int .i64 x3, va, vd] 44
  z : BlkAt W (w.heap.size + 1) #[.slice none 0 0, .int .i64 0, .int .i64 0, .int .i64 0] 67
  v : BlkAt W b #[tv, .int .i64 n0, .int .i64 l0, .int .i64 s0] 67
  t : OwnK encTbf 5 49 B W tv fs
  a : RdK encTbf 5 W va A
  d : RdV W vd (D.map encI64)
  bel : Below w.heap.size w W
theorem ChgL.below {w : World} {B b : Nat} {tv va vd : Value} {n0 l0 s0 x1 x2 x3 : Int} {fs A : List Tbf} {D : List Int} {W W' : World} (h : ChgL w B b tv va vd n0 l0 s0 x1 x2 x3 fs A D W) (u : Below W.heap.size W W') : ChgL w B b tv va vd n0 l0 s0 x1 x2 x3 fs A D W' :=
  ⟨h.e.below u, h.z.below u, h.v.below u, h.t.below u, h.a.below u, RdV.below h.d u, h.bel.trans (u.mono h.bel.size)⟩
theorem fill4 {w : World} {g : Nat} {T : TypeId} {o0 o1 o2 o3 : Value} (h : BlkAt w g #[o0, o1, o2, o3] T) (v0 v1 v2 v3 : Value) :
    BlkAt ((((w.setCell ⟨g, 0, none⟩ v0).setCell ⟨g, 1, none⟩ v1).setCell ⟨g, 2, none⟩ v2).setCell ⟨g, 3, none⟩ v3) g #[v0, v1, v2, v3] T ∧ UpdF (fun k => k = g) w ((((w.setCell ⟨g, 0, none⟩ v0).setCell ⟨g, 1, none⟩ v1).setCell ⟨g, 2, none⟩ v2).setCell ⟨g, 3, none⟩ v3) :=
  ⟨(((h.set (o := 0) v0).set (o := 1) v1).set (o := 2) v2).set (o := 3) v3, ((((UpdF.refl (fun k => k = g) w).set g 0 v0 rfl).set g 1 v1 rfl).set g 2 v2 rfl).set g 3 v3 rfl⟩
/-- Four cells that may be stored to. -/
structure Free4 (w : World) (b : Nat) : Prop where
  f0 : w.frozen? ⟨b, 0, none⟩ = false
  f1 : w.frozen? ⟨b, 1, none⟩ = false
  f2 : w.frozen? ⟨b, 2, none⟩ = false
  f3 : w.frozen? ⟨b, 3, none⟩ = false
theorem free4_of {w : World} {b : Nat} {vs : Array Value} {t : TypeId} (h : BlkAt w b vs t) : Free4 w b := ⟨h.free 0, h.free 1, h.free 2, h.free 3⟩
theorem i64_bs (p q : Int) (w : World) : (Instr.buildSlice 42 2 #[(0, .int .i64 p), (1, .int .i64 q)]).run Try.prog w = .ok (.slice (some ⟨w.heap.size, 0, none⟩) 2 2) (w.alloc (.cells #[.int .i64 p, .int .i64 q] 2)) := by
  go_simp
theorem ver_bd (a : Option Addr) (n c : Nat) (p q r : Int) (w : World) : (Instr.build 67 #[(0, .slice a n c), (1, .int .i64 p), (2, .int .i64 q), (3, .int .i64 r)]).run Try.prog w = .ok (.agg #[.slice a n c, .int .i64 p, .int .i64 q, .int .i64 r]) w := by
  go_simp
theorem ver_al (w : World) : (Instr.alloc 67 true (.tuple #[])).run Try.prog w = .ok (.pointer (some ⟨w.heap.size, 0, none⟩)) (w.alloc (.cells #[.slice none 0 0, .int .i64 0, .int .i64 0, .int .i64 0] 67)) := by
  go_simp
theorem ver_ax (ρ : Operand → Value) (o : Oper) (ho : o.op = .alloc 67) (w : World) : (execOp ρ o).run Try.prog w = .ok (.value (.pointer (some ⟨w.heap.size, 0, none⟩))) (w.alloc (.cells #[.slice none 0 0, .int .i64 0, .int .i64 0, .int .i64 0] 67)) := by
  unfold execOp
  simp only [ho, Sem.run_bind, ver_al, Result.andThen_ok, Sem.run_pure]
set_option maxHeartbeats 16000000 in
theorem vchanged_any {B : Nat} {w : World} {b : Nat} {V : Ver} (h : VerAt B w b V) (v : Value) (x : Edt) (hx : EdAt w v x) (hm : mayE x) :
    Calls Try.prog 28 #[.pointer (some ⟨b, 0, none⟩), v] w (ChgTo w V x) := by
  obtain ⟨tv, n0, hb1, hb2, hb3⟩ := h.blk
  obtain ⟨va, vd, rfl, ha, hd⟩ := hx
  have HG := Lib.hid (And.intro h.good hb3)
  have HM := Lib.hid hm
  obtain ⟨aT, cT, rfl⟩ := fil_form hb2
  obtain ⟨aA, cA, rfl, -⟩ := edFl_len ha
  obtain ⟨aD, cD, rfl⟩ := edInts_len hd
  obtain ⟨R, hR⟩ : ∃ R, vDels V.fs x.dels = R := ⟨_, rfl⟩
  have HR := Lib.hid hR
  obtain ⟨K, hK⟩ : ∃ K, R.isSome = K := ⟨_, rfl⟩
  have HK := Lib.hid hK
  have HW : Hid (∀ W, RdK encTbf 5 W (.slice aT V.fs.length cT) V.fs → RdV W (.slice aD x.dels.length cD) (x.dels.map encI64) → Calls Try.prog 49 #[.slice aT V.fs.length cT, .slice aD x.dels.length cD] W fun e w' => ∃ u, e = .returned (.tuple #[u, .bool K]) ∧ (∀ ys, R = some ys → OwnK encTbf 5 49 W.heap.size w' u ys) ∧ (R = none → u = .slice none 0 0) ∧ Below W.heap.size W w') := Lib.hid fun W h1 h2 => by
    have := wout_any _ _ V.fs x.dels (by have := HG.out.1.few; omega) (by have := HM.out.2.1.2; omega) W h1 h2
    rw [hR] at this
    rw [← hK]; exact this
  have HL1 : Hid (ChgL w B b (.slice aT V.fs.length cT) (.slice aA x.adds.length cA) (.slice aD x.dels.length cD) n0 V.lg V.ls x.nxt x.lg x.lst V.fs x.adds x.dels ((w.alloc (.cells #[.int .i64 x.nxt, .int .i64 x.lg, .int .i64 x.lst, .slice aA x.adds.length cA, .slice aD x.dels.length cD] 44)).alloc (.cells #[.slice none 0 0, .int .i64 0, .int .i64 0, .int .i64 0] 67))) := Lib.hid (by
    have u : Below w.heap.size w ((w.alloc (.cells #[.int .i64 x.nxt, .int .i64 x.lg, .int .i64 x.lst, .slice aA x.adds.length cA, .slice aD x.dels.length cD] 44)).alloc (.cells #[.slice none 0 0, .int .i64 0, .int .i64 0, .int .i64 0] 67)) := ((Below.refl _ w).alloc (Nat.le_refl _) _).alloc (by simp) _
    refine ⟨(BlkAt.new w _ _).more _, ?_, hb1.below u, hb2.below u, ha.below u, RdV.below hd u, u⟩
    have := BlkAt.new (w.alloc (.cells #[.int .i64 x.nxt, .int .i64 x.lg, .int .i64 x.lst, .slice aA x.adds.length cA, .slice aD x.dels.length cD] 44)) #[.slice none 0 0, .int .i64 0, .int .i64 0, .int .i64 0] 67
    rwa [show (w.alloc (.cells #[.int .i64 x.nxt, .int .i64 x.lg, .int .i64 x.lst, .slice aA x.adds.length cA, .slice aD x.dels.length cD] 44)).heap.size = w.heap.size + 1 by simp] at this)
  clear h hb1 hb2 hb3 ha hd hm hR hK
  obtain ⟨g, hg⟩ : ∃ g, w.heap.size = g := ⟨_, rfl⟩
  have HGE : Hid (∀ W, ChgL w B b (.slice aT V.fs.length cT) (.slice aA x.adds.length cA) (.slice aD x.dels.length cD) n0 V.lg V.ls x.nxt x.lg x.lst V.fs x.adds x.dels W → BlkAt W g #[.int .i64 x.nxt, .int .i64 x.lg, .int .i64 x.lst, .slice aA x.adds.length cA, .slice aD x.dels.length cD] 44 ∧ BlkAt W (g + 1) #[.slice none 0 0, .int .i64 0, .int .i64 0, .int .i64 0] 67) := Lib.hid fun W h => by rw [← hg]; exact ⟨h.e, h.z⟩
  have HGW := Lib.hid hg
  unfold ChgTo
  generalize V.fs.length = nT at *
  generalize x.adds.length = nA at *
  generalize x.dels.length = nD at *
  go_enter Try.func28, Try.ntmps28
  go_wp2_with fail
  obtain ⟨w1, hw1⟩ : ∃ y, (w.alloc (.cells #[.int .i64 x.nxt, .int .i64 x.lg, .int .i64 x.lst, .slice aA nA cA, .slice aD nD cD] 44)).alloc (.cells #[.slice none 0 0, .int .i64 0, .int .i64 0, .int .i64 0] 67) = y := ⟨_, rfl⟩
  rw [hw1] at HL1 ⊢
  clear hw1 hg
  have hB : Below w1.heap.size w1 w1 := Below.refl _ _
  refine wp_region_held_drew (S := Below w1.heap.size w1) (by kernel_rfl) (Below.refl _ _).drew (fun hHeld => ?_)
  generalize w1.drew = wd2 at hHeld ⊢
  refine wpAnyH_shift hHeld ?_
  replace hB : Below w1.heap.size w1 wd2 := hB.trans (hHeld.mono hB.size)
  clear hHeld
  refine takeYes (i := 0) (k := 10) (v := .pointer (some ⟨b, 0, none⟩)) rfl (by kernel_rfl) (by kernel_rfl) (by kernel_rfl) (by kernel_rfl) (fun _ _ _ h => h) (by kernel_rfl) ?_ (Below.refl _ _) ?_
  · intro W hSw; first | (go_simp; done) | go_simp
  try simp only [Act.put, List.setIfInBounds_toArray, List.set_cons_zero, List.set_cons_succ]
  refine takeYes (i := 1) (k := 11) (v := .pointer (some ⟨b, 0, none⟩)) rfl (by kernel_rfl) (by kernel_rfl) (by kernel_rfl) (by kernel_rfl) (fun _ _ _ h => h) (by kernel_rfl) ?_ (Below.refl _ _) ?_
  · intro W hSw; first | (go_simp; done) | go_simp
  try simp only [Act.put, List.setIfInBounds_toArray, List.set_cons_zero, List.set_cons_succ]
  refine takeYes (i := 2) (k := 12) (v := .pointer (some ⟨b, 0, none⟩)) rfl (by kernel_rfl) (by kernel_rfl) (by kernel_rfl) (by kernel_rfl) (fun _ _ _ h => h) (by kernel_rfl) ?_ (Below.refl _ _) ?_
  · intro W hSw; first | (go_simp; done) | go_simp
  try simp only [Act.put, List.setIfInBounds_toArray, List.set_cons_zero, List.set_cons_succ]
  refine takeYes (i := 3) (k := 13) (v := .slice aT nT cT) rfl (by kernel_rfl) (by kernel_rfl) (by kernel_rfl) (by kernel_rfl) (fun _ _ _ h => h) (by kernel_rfl) ?_ (Below.refl _ _) ?_
  · intro W hSw; have hl := HL1.out.below (hB.trans (hSw.mono hB.size)); obtain ⟨z0, z1, z2, z3⟩ := cell4_of hl.v; first | (go_simp; done) | go_simp
  try simp only [Act.put, List.setIfInBounds_toArray, List.set_cons_zero, List.set_cons_succ]
  refine takeYes (i := 4) (k := 14) (v := .pointer (some ⟨g, 4, none⟩)) rfl (by kernel_rfl) (by kernel_rfl) (by kernel_rfl) (by kernel_rfl) (fun _ _ _ h => h) (by kernel_rfl) ?_ (Below.refl _ _) ?_
  · intro W hSw; first | (go_simp; done) | go_simp
  try simp only [Act.put, List.setIfInBounds_toArray, List.set_cons_zero, List.set_cons_succ]
  refine takeYes (i := 5) (k := 15) (v := .slice aD nD cD) rfl (by kernel_rfl) (by kernel_rfl) (by kernel_rfl) (by kernel_rfl) (fun _ _ _ h => h) (by kernel_rfl) ?_ (Below.refl _ _) ?_
  · intro W hSw; have hl := HL1.out.below (hB.trans (hSw.mono hB.size)); obtain ⟨z0, z1, z2, z3, z4⟩ := cell5_of (HGE.out _ hl).1; first | (go_simp; done) | go_simp
  try simp only [Act.put, List.setIfInBounds_toArray, List.set_cons_zero, List.set_cons_succ]
  refine wpAnyH_ready (rs := [6]) (by kernel_rfl) (by simp) (AllReadyH.cons rfl (fun K hK => ?_) AllReadyH.nil)
  go_simp
  refine (HW.out _ ((HL1.out.below hB).t.rd encTbf_len) (HL1.out.below hB).d).mono ?_
  rintro e wd3 ⟨u1, rfl, hu1, hu2, hb3⟩
  have HU1 : Hid (∀ ys, R = some ys → OwnK encTbf 5 49 w1.heap.size wd3 u1 ys) := Lib.hid fun ys h => (hu1 ys h).base hB.size
  clear hu1 hu2
  refine hK.out _ _ hb3 (fun _ => wpAnyH_shift hb3 ?_)
  clear hK K
  replace hB : Below w1.heap.size w1 wd3 := hB.trans (hb3.mono hB.size)
  clear hb3
  try simp only [Act.put, List.setIfInBounds_toArray, List.set_cons_zero, List.set_cons_succ]
  refine takeYes (i := 7) (k := 9) (v := .tuple #[u1, .bool K]) rfl (by kernel_rfl) (by kernel_rfl) (by kernel_rfl) (by kernel_rfl) (fun _ _ _ h => h) (by kernel_rfl) ?_ (Below.refl _ _) ?_
  · intro W hSw; first | (go_simp; done) | go_simp
  try simp only [Act.put, List.setIfInBounds_toArray, List.set_cons_zero, List.set_cons_succ]
  refine takeYes (i := 8) (k := 17) (v := u1) rfl (by kernel_rfl) (by kernel_rfl) (by kernel_rfl) (by kernel_rfl) (fun _ _ _ h => h) (by kernel_rfl) ?_ (Below.refl _ _) ?_
  · intro W hSw; first | (go_simp; done) | go_simp
  try simp only [Act.put, List.setIfInBounds_toArray, List.set_cons_zero, List.set_cons_succ]
  refine takeYes (i := 9) (k := 18) (v := .bool K) rfl (by kernel_rfl) (by kernel_rfl) (by kernel_rfl) (by kernel_rfl) (fun _ _ _ h => h) (by kernel_rfl) ?_ (Below.refl _ _) ?_
  · intro W hSw; first | (go_simp; done) | go_simp
  try simp only [Act.put, List.setIfInBounds_toArray, List.set_cons_zero, List.set_cons_succ]
  refine takeYes (i := 10) (k := 6) (v := u1) rfl (by kernel_rfl) (by kernel_rfl) (by kernel_rfl) (by kernel_rfl) (fun _ _ _ h => h) (by kernel_rfl) ?_ (Below.refl _ _) ?_
  · intro W hSw; first | (go_simp; done) | go_simp
  try simp only [Act.put, List.setIfInBounds_toArray, List.set_cons_zero, List.set_cons_succ]
  refine takeYes (i := 11) (k := 7) (v := .bool K) rfl (by kernel_rfl) (by kernel_rfl) (by kernel_rfl) (by kernel_rfl) (fun _ _ _ h => h) (by kernel_rfl) ?_ (Below.refl _ _) ?_
  · intro W hSw; first | (go_simp; done) | go_simp
  try simp only [Act.put, List.setIfInBounds_toArray, List.set_cons_zero, List.set_cons_succ]
  refine wpAnyH_done (by kernel_rfl) ?_ _
  cases K with
  | false =>
    have HN : Hid (applyV V x = none) := Lib.hid (by have hn : R = none := (by cases hh : R with | none => rfl | some y => have := HK.out; rw [hh] at this; cases this); exact apply_none1 (HR.out.trans hn))
    have HZ := Lib.hid ((HGE.out _ (HL1.out.below hB)).2)
    obtain ⟨z0, z1, z2, z3⟩ := cell4_of HZ.out
    obtain ⟨f0, f1, f2, f3⟩ := free4_of HZ.out
    have HBE := Lib.hid (HL1.out.below hB).bel
    have HF4 := Lib.hid (fill4 HZ.out (.slice none 0 0) (.int .i64 0) (.int .i64 0) (.int .i64 0))
    obtain ⟨y0, y1, y2, y3⟩ := cell4_of HF4.out.1
    have HBF : Hid (Below w.heap.size w ((((wd3.setCell ⟨g + 1, 0, none⟩ (.slice none 0 0)).setCell ⟨g + 1, 1, none⟩ (.int .i64 0)).setCell ⟨g + 1, 2, none⟩ (.int .i64 0)).setCell ⟨g + 1, 3, none⟩ (.int .i64 0))) := Lib.hid (HBE.out.trans (UpdF.below HF4.out.2 HBE.out.size fun k hk e => by have := HGW.out; omega))
    clear hB HBE
    go_wp2_with fail
    refine bodyPost_ret (v := .tuple #[.agg #[.slice none 0 0, .int .i64 0, .int .i64 0, .int .i64 0], .bool false]) (by simp [results, Try.results28, go_sem, y0, y1, y2, y3]) rfl ⟨none, 0, 0, 0, 0, 0, false, rfl, fun _ => HN.out, fun h => (by cases h), ?_⟩
    exact HBF.out
  | true =>
    obtain ⟨ys, hys⟩ : ∃ ys, R = some ys := Option.isSome_iff_exists.1 HK.out
    have HU := Lib.hid (HU1.out ys hys)
    have HRS := Lib.hid (HR.out.trans hys)
    have HYS : Hid ((∀ f ∈ ys, ¬ badTb f) ∧ ys.length ≤ 200) := Lib.hid ⟨fun f hf => HG.out.1.right f ((vDels_sub HRS.out).subset hf), Nat.le_trans (vDels_len HRS.out) HG.out.1.few⟩
    clear hys HU1 HW HK HR
    have HWI := Lib.hid (with_any w1.heap.size u1 (.slice aA nA cA) ys x.adds wd3 HU.out hB.size (HL1.out.below hB).a (fun w' hw' => (HL1.out.below (hB.trans hw')).a) HYS.out.1 HM.out.2.2.1 HYS.out.2 HM.out.2.1.1)
    obtain ⟨z0, z1, z2, z3, z4⟩ := cell5_of (HGE.out _ (HL1.out.below hB)).1
    go_wp2_with fail
    refine HWI.out.mono ?_
    rintro e w5 ⟨u2, ok, rfl, hk1, hk2, hb5⟩
    have HB5 := Lib.hid (hB.trans hb5)
    have HK1 := Lib.hid (And.intro hk1 hk2)
    clear hk1 hk2 hb5 hB HWI z0 z1 z2 z3 z4 HU
    have hB := HB5.out
    cases ok with
    | false =>
      have HN : Hid (applyV V x = none) := Lib.hid (apply_none2 HM.out HRS.out fun h => by have := HK1.out.1.2 h; cases this)
      have HZ := Lib.hid ((HGE.out _ (HL1.out.below hB)).2)
      obtain ⟨z0, z1, z2, z3⟩ := cell4_of HZ.out
      obtain ⟨f0, f1, f2, f3⟩ := free4_of HZ.out
      have HBE := Lib.hid (HL1.out.below hB).bel
      have HF4 := Lib.hid (fill4 HZ.out (.slice none 0 0) (.int .i64 0) (.int .i64 0) (.int .i64 0))
      obtain ⟨y0, y1, y2, y3⟩ := cell4_of HF4.out.1
      have HBF : Hid (Below w.heap.size w ((((w5.setCell ⟨g + 1, 0, none⟩ (.slice none 0 0)).setCell ⟨g + 1, 1, none⟩ (.int .i64 0)).setCell ⟨g + 1, 2, none⟩ (.int .i64 0)).setCell ⟨g + 1, 3, none⟩ (.int .i64 0))) := Lib.hid (HBE.out.trans (UpdF.below HF4.out.2 HBE.out.size fun k hk e => by have := HGW.out; omega))
      clear hB HBE
      go_wp2_with fail
      refine bodyPost_ret (v := .tuple #[.agg #[.slice none 0 0, .int .i64 0, .int .i64 0, .int .i64 0], .bool false]) (by simp [results, Try.results28, go_sem, y0, y1, y2, y3]) rfl ⟨none, 0, 0, 0, 0, 0, false, rfl, fun _ => HN.out, fun h => (by cases h), ?_⟩
      exact HBF.out
    | true =>
      obtain ⟨zs, ho, hs, hp⟩ := HK1.out.2 rfl
      have HO := Lib.hid ho
      have HZS := Lib.hid (And.intro (HK1.out.1.1 rfl) (And.intro hs hp))
      obtain ⟨aZ, cZ, rfl⟩ := fil_form ho
      obtain ⟨nZ, hnZ⟩ : ∃ n, zs.length = n := ⟨_, rfl⟩
      have HNZ := Lib.hid hnZ
      rw [hnZ] at HO ⊢
      clear ho hs hp HK1 hnZ
      have hS0 : Below w5.heap.size w5 w5.drew := (Below.refl _ _).drew
      go_wp2_with fail
      refine wp_region_held_drew (S := Below w5.heap.size w5) (by kernel_rfl) hS0 (fun hHeld => ?_)
      refine takeYes (i := 0) (k := 32) (v := .slice aZ nZ cZ) rfl (by kernel_rfl) (by kernel_rfl) (by kernel_rfl) (by kernel_rfl) (fun _ _ _ h => h) (by kernel_rfl) ?_ (by assumption) ?_
      · intro W hSw; first | (go_simp; done) | go_simp
      try simp only [Act.put, List.setIfInBounds_toArray, List.set_cons_zero, List.set_cons_succ]
      refine takeYes (i := 1) (k := 33) (v := .pointer (some ⟨g, 0, none⟩)) rfl (by kernel_rfl) (by kernel_rfl) (by kernel_rfl) (by kernel_rfl) (fun _ _ _ h => h) (by kernel_rfl) ?_ (by assumption) ?_
      · intro W hSw; first | (go_simp; done) | go_simp
      try simp only [Act.put, List.setIfInBounds_toArray, List.set_cons_zero, List.set_cons_succ]
      refine takeYes (i := 2) (k := 34) (v := .int .i64 x.nxt) rfl (by kernel_rfl) (by kernel_rfl) (by kernel_rfl) (by kernel_rfl) (fun _ _ _ h => h) (by kernel_rfl) ?_ (by assumption) ?_
      · intro W hSw; have hl := HL1.out.below (hB.trans (hSw.mono hB.size)); obtain ⟨z0, z1, z2, z3, z4⟩ := cell5_of (HGE.out _ hl).1; first | (go_simp; done) | go_simp
      try simp only [Act.put, List.setIfInBounds_toArray, List.set_cons_zero, List.set_cons_succ]
      refine takeYes (i := 3) (k := 35) (v := .pointer (some ⟨b, 0, none⟩)) rfl (by kernel_rfl) (by kernel_rfl) (by kernel_rfl) (by kernel_rfl) (fun _ _ _ h => h) (by kernel_rfl) ?_ (by assumption) ?_
      · intro W hSw; first | (go_simp; done) | go_simp
      try simp only [Act.put, List.setIfInBounds_toArray, List.set_cons_zero, List.set_cons_succ]
      refine takeYes (i := 4) (k := 36) (v := .pointer (some ⟨b, 0, none⟩)) rfl (by kernel_rfl) (by kernel_rfl) (by kernel_rfl) (by kernel_rfl) (fun _ _ _ h => h) (by kernel_rfl) ?_ (by assumption) ?_
      · intro W hSw; first | (go_simp; done) | go_simp
      try simp only [Act.put, List.setIfInBounds_toArray, List.set_cons_zero, List.set_cons_succ]
      refine takeYes (i := 5) (k := 37) (v := .pointer (some ⟨b, 1, none⟩)) rfl (by kernel_rfl) (by kernel_rfl) (by kernel_rfl) (by kernel_rfl) (fun _ _ _ h => h) (by kernel_rfl) ?_ (by assumption) ?_
      · intro W hSw; first | (go_simp; done) | go_simp
      try simp only [Act.put, List.setIfInBounds_toArray, List.set_cons_zero, List.set_cons_succ]
      refine takeYes (i := 6) (k := 38) (v := .int .i64 n0) rfl (by kernel_rfl) (by kernel_rfl) (by kernel_rfl) (by kernel_rfl) (fun _ _ _ h => h) (by kernel_rfl) ?_ (by assumption) ?_
      · intro W hSw; have hl := HL1.out.below (hB.trans (hSw.mono hB.size)); obtain ⟨z0, z1, z2, z3⟩ := cell4_of hl.v; first | (go_simp; done) | go_simp
      try simp only [Act.put, List.setIfInBounds_toArray, List.set_cons_zero, List.set_cons_succ]
      refine takeYes (i := 9) (k := 41) (v := .pointer (some ⟨g, 1, none⟩)) rfl (by kernel_rfl) (by kernel_rfl) (by kernel_rfl) (by kernel_rfl) (fun _ _ _ h => h) (by kernel_rfl) ?_ (by assumption) ?_
      · intro W hSw; first | (go_simp; done) | go_simp
      try simp only [Act.put, List.setIfInBounds_toArray, List.set_cons_zero, List.set_cons_succ]
      refine takeYes (i := 10) (k := 42) (v := .int .i64 x.lg) rfl (by kernel_rfl) (by kernel_rfl) (by kernel_rfl) (by kernel_rfl) (fun _ _ _ h => h) (by kernel_rfl) ?_ (by assumption) ?_
      · intro W hSw; have hl := HL1.out.below (hB.trans (hSw.mono hB.size)); obtain ⟨z0, z1, z2, z3, z4⟩ := cell5_of (HGE.out _ hl).1; first | (go_simp; done) | go_simp
      try simp only [Act.put, List.setIfInBounds_toArray, List.set_cons_zero, List.set_cons_succ]
      refine takeYes (i := 11) (k := 43) (v := .pointer (some ⟨b, 0, none⟩)) rfl (by kernel_rfl) (by kernel_rfl) (by kernel_rfl) (by kernel_rfl) (fun _ _ _ h => h) (by kernel_rfl) ?_ (by assumption) ?_
      · intro W hSw; first | (go_simp; done) | go_simp
      try simp only [Act.put, List.setIfInBounds_toArray, List.set_cons_zero, List.set_cons_succ]
      refine takeYes (i := 12) (k := 44) (v := .pointer (some ⟨b, 0, none⟩)) rfl (by kernel_rfl) (by kernel_rfl) (by kernel_rfl) (by kernel_rfl) (fun _ _ _ h => h) (by kernel_rfl) ?_ (by assumption) ?_
      · intro W hSw; first | (go_simp; done) | go_simp
      try simp only [Act.put, List.setIfInBounds_toArray, List.set_cons_zero, List.set_cons_succ]
      refine takeYes (i := 13) (k := 45) (v := .pointer (some ⟨b, 2, none⟩)) rfl (by kernel_rfl) (by kernel_rfl) (by kernel_rfl) (by kernel_rfl) (fun _ _ _ h => h) (by kernel_rfl) ?_ (by assumption) ?_
      · intro W hSw; first | (go_simp; done) | go_simp
      try simp only [Act.put, List.setIfInBounds_toArray, List.set_cons_zero, List.set_cons_succ]
      refine takeYes (i := 14) (k := 46) (v := .int .i64 V.lg) rfl (by kernel_rfl) (by kernel_rfl) (by kernel_rfl) (by kernel_rfl) (fun _ _ _ h => h) (by kernel_rfl) ?_ (by assumption) ?_
      · intro W hSw; have hl := HL1.out.below (hB.trans (hSw.mono hB.size)); obtain ⟨z0, z1, z2, z3⟩ := cell4_of hl.v; first | (go_simp; done) | go_simp
      try simp only [Act.put, List.setIfInBounds_toArray, List.set_cons_zero, List.set_cons_succ]
      refine takeYes (i := 17) (k := 49) (v := .pointer (some ⟨g, 2, none⟩)) rfl (by kernel_rfl) (by kernel_rfl) (by kernel_rfl) (by kernel_rfl) (fun _ _ _ h => h) (by kernel_rfl) ?_ (by assumption) ?_
      · intro W hSw; first | (go_simp; done) | go_simp
      try simp only [Act.put, List.setIfInBounds_toArray, List.set_cons_zero, List.set_cons_succ]
      refine takeYes (i := 18) (k := 50) (v := .int .i64 x.lst) rfl (by kernel_rfl) (by kernel_rfl) (by kernel_rfl) (by kernel_rfl) (fun _ _ _ h => h) (by kernel_rfl) ?_ (by assumption) ?_
      · intro W hSw; have hl := HL1.out.below (hB.trans (hSw.mono hB.size)); obtain ⟨z0, z1, z2, z3, z4⟩ := cell5_of (HGE.out _ hl).1; first | (go_simp; done) | go_simp
      try simp only [Act.put, List.setIfInBounds_toArray, List.set_cons_zero, List.set_cons_succ]
      refine takeYes (i := 19) (k := 51) (v := .pointer (some ⟨b, 0, none⟩)) rfl (by kernel_rfl) (by kernel_rfl) (by kernel_rfl) (by kernel_rfl) (fun _ _ _ h => h) (by kernel_rfl) ?_ (by assumption) ?_
      · intro W hSw; first | (go_simp; done) | go_simp
      try simp only [Act.put, List.setIfInBounds_toArray, List.set_cons_zero, List.set_cons_succ]
      refine takeYes (i := 20) (k := 52) (v := .pointer (some ⟨b, 0, none⟩)) rfl (by kernel_rfl) (by kernel_rfl) (by kernel_rfl) (by kernel_rfl) (fun _ _ _ h => h) (by kernel_rfl) ?_ (by assumption) ?_
      · intro W hSw; first | (go_simp; done) | go_simp
      try simp only [Act.put, List.setIfInBounds_toArray, List.set_cons_zero, List.set_cons_succ]
      refine takeYes (i := 21) (k := 53) (v := .pointer (some ⟨b, 3, none⟩)) rfl (by kernel_rfl) (by kernel_rfl) (by kernel_rfl) (by kernel_rfl) (fun _ _ _ h => h) (by kernel_rfl) ?_ (by assumption) ?_
      · intro W hSw; first | (go_simp; done) | go_simp
      try simp only [Act.put, List.setIfInBounds_toArray, List.set_cons_zero, List.set_cons_succ]
      refine takeYes (i := 22) (k := 54) (v := .int .i64 V.ls) rfl (by kernel_rfl) (by kernel_rfl) (by kernel_rfl) (by kernel_rfl) (fun _ _ _ h => h) (by kernel_rfl) ?_ (by assumption) ?_
      · intro W hSw; have hl := HL1.out.below (hB.trans (hSw.mono hB.size)); obtain ⟨z0, z1, z2, z3⟩ := cell4_of hl.v; first | (go_simp; done) | go_simp
      try simp only [Act.put, List.setIfInBounds_toArray, List.set_cons_zero, List.set_cons_succ]
      refine takeItems [⟨7, 39, fun v W => ∃ p, v = .slice (some ⟨p, 0, none⟩) 2 2 ∧ BlkAt W p #[.int .i64 x.nxt, .int .i64 n0] 2, []⟩, ⟨8, 40, fun v _ => v = .int .i64 (vOr x.nxt n0), [0]⟩, ⟨15, 47, fun v W => ∃ p, v = .slice (some ⟨p, 0, none⟩) 2 2 ∧ BlkAt W p #[.int .i64 x.lg, .int .i64 V.lg] 2, []⟩, ⟨16, 48, fun v _ => v = .int .i64 (vOr x.lg V.lg), [1, 2]⟩, ⟨23, 55, fun v W => ∃ p, v = .slice (some ⟨p, 0, none⟩) 2 2 ∧ BlkAt W p #[.int .i64 x.lst, .int .i64 V.ls] 2, []⟩, ⟨24, 56, fun v _ => v = .int .i64 (vOr x.lst V.ls), [3, 4]⟩, ⟨25, 57, fun v _ => v = .agg #[.slice aZ nZ cZ, .int .i64 (vOr x.nxt n0), .int .i64 (vOr x.lg V.lg), .int .i64 (vOr x.lst V.ls)], [1, 3, 5]⟩, ⟨26, 8, fun v W => ∃ p, v = .pointer (some ⟨p, 0, none⟩) ∧ w5.heap.size ≤ p ∧ BlkAt W p #[.slice none 0 0, .int .i64 0, .int .i64 0, .int .i64 0] 67, []⟩] [39, 40, 47, 48, 55, 56, 57, 8] [7, 8, 15, 16, 23, 24, 25, 26] [[], [0], [], [1, 2], [], [3, 4], [1, 3, 5], []] 8 rfl rfl rfl rfl (n := 1) rfl (by decide) (by kernel_rfl) ?st ?ex (by assumption) ?dn
      case st =>
        intro t ht
        simp only [List.mem_cons, List.not_mem_nil, or_false] at ht
        rcases ht with rfl | rfl | rfl | rfl | rfl | rfl | rfl | rfl
        · rintro v w w' ⟨p, rfl, hb⟩ u; exact ⟨p, rfl, hb.below u⟩
        · rintro v w w' hv u; exact hv
        · rintro v w w' ⟨p, rfl, hb⟩ u; exact ⟨p, rfl, hb.below u⟩
        · rintro v w w' hv u; exact hv
        · rintro v w w' ⟨p, rfl, hb⟩ u; exact ⟨p, rfl, hb.below u⟩
        · rintro v w w' hv u; exact hv
        · rintro v w w' hv u; exact hv
        · rintro v w w' ⟨p, rfl, hp, hb⟩ u; exact ⟨p, rfl, hp, hb.below u⟩
      case ex =>
        intro j t bs vs W hj hbl hvl hbf hdp hSw hR
        have hen : ∀ v w, (callFunc 51 #[v]).run Try.prog w = .ok (.enter 51 #[v]) w := fun v w => enters_of Try.func51 (by kernel_rfl) rfl _ _
        rcases j with _ | _ | _ | _ | _ | _ | _ | _ | j
        · obtain rfl := Option.some.inj hj
          refine wpOp_step rfl fun K hK => ?_
          refine one_bs 39 rfl rfl 42 2 #[(0, .tmp 34), (1, .tmp 38)] #[(0, .int .i64 x.nxt), (1, .int .i64 n0)] rfl ?_ (i64_bs _ _ W) ?_
          · simp only [List.map_toArray, List.map_cons, List.map_nil, Act.eval]; rw [putB_ne (k := 34) [39, 40, 47, 48, 55, 56, 57, 8] _ _ _ (by decide), putB_ne (k := 38) [39, 40, 47, 48, 55, 56, 57, 8] _ _ _ (by decide)]; rfl
          · exact hK _ _ ⟨_, rfl, hSw.alloc hSw.size _, ⟨_, rfl, BlkAt.new _ _ _⟩, (Below.refl _ _).alloc (Nat.le_refl _) _⟩
        · obtain rfl := Option.some.inj hj
          obtain ⟨v0, hv0, p, rfl, hb⟩ := hR 0 _ rfl (hdp 0 (by simp))
          refine wpOp_step rfl fun K hK => ?_
          refine one_call 40 rfl rfl 51 (.tmp 39) _ rfl (putB_eq (k := 39) [39, 40, 47, 48, 55, 56, 57, 8] bs vs _ 0 _ (by decide) rfl (hdp 0 (by simp)) hv0 (show 39 < 63 by decide)) (hen _) ?_
          refine (vor64_any p _ _ W hb).mono ?_
          rintro e w' ⟨rfl, rfl⟩
          exact ⟨_, rfl, hK _ _ ⟨_, rfl, hSw, rfl, Below.refl _ _⟩⟩
        · obtain rfl := Option.some.inj hj
          refine wpOp_step rfl fun K hK => ?_
          refine one_bs 47 rfl rfl 42 2 #[(0, .tmp 42), (1, .tmp 46)] #[(0, .int .i64 x.lg), (1, .int .i64 V.lg)] rfl ?_ (i64_bs _ _ W) ?_
          · simp only [List.map_toArray, List.map_cons, List.map_nil, Act.eval]; rw [putB_ne (k := 42) [39, 40, 47, 48, 55, 56, 57, 8] _ _ _ (by decide), putB_ne (k := 46) [39, 40, 47, 48, 55, 56, 57, 8] _ _ _ (by decide)]; rfl
          · exact hK _ _ ⟨_, rfl, hSw.alloc hSw.size _, ⟨_, rfl, BlkAt.new _ _ _⟩, (Below.refl _ _).alloc (Nat.le_refl _) _⟩
        · obtain rfl := Option.some.inj hj
          obtain ⟨v2, hv2, p, rfl, hb⟩ := hR 2 _ rfl (hdp 2 (by simp))
          refine wpOp_step rfl fun K hK => ?_
          refine one_call 48 rfl rfl 51 (.tmp 47) _ rfl (putB_eq (k := 47) [39, 40, 47, 48, 55, 56, 57, 8] bs vs _ 2 _ (by decide) rfl (hdp 2 (by simp)) hv2 (show 47 < 63 by decide)) (hen _) ?_
          refine (vor64_any p _ _ W hb).mono ?_
          rintro e w' ⟨rfl, rfl⟩
          exact ⟨_, rfl, hK _ _ ⟨_, rfl, hSw, rfl, Below.refl _ _⟩⟩
        · obtain rfl := Option.some.inj hj
          refine wpOp_step rfl fun K hK => ?_
          refine one_bs 55 rfl rfl 42 2 #[(0, .tmp 50), (1, .tmp 54)] #[(0, .int .i64 x.lst), (1, .int .i64 V.ls)] rfl ?_ (i64_bs _ _ W) ?_
          · simp only [List.map_toArray, List.map_cons, List.map_nil, Act.eval]; rw [putB_ne (k := 50) [39, 40, 47, 48, 55, 56, 57, 8] _ _ _ (by decide), putB_ne (k := 54) [39, 40, 47, 48, 55, 56, 57, 8] _ _ _ (by decide)]; rfl
          · exact hK _ _ ⟨_, rfl, hSw.alloc hSw.size _, ⟨_, rfl, BlkAt.new _ _ _⟩, (Below.refl _ _).alloc (Nat.le_refl _) _⟩
        · obtain rfl := Option.some.inj hj
          obtain ⟨v4, hv4, p, rfl, hb⟩ := hR 4 _ rfl (hdp 4 (by simp))
          refine wpOp_step rfl fun K hK => ?_
          refine one_call 56 rfl rfl 51 (.tmp 55) _ rfl (putB_eq (k := 55) [39, 40, 47, 48, 55, 56, 57, 8] bs vs _ 4 _ (by decide) rfl (hdp 4 (by simp)) hv4 (show 55 < 63 by decide)) (hen _) ?_
          refine (vor64_any p _ _ W hb).mono ?_
          rintro e w' ⟨rfl, rfl⟩
          exact ⟨_, rfl, hK _ _ ⟨_, rfl, hSw, rfl, Below.refl _ _⟩⟩
        · obtain rfl := Option.some.inj hj
          obtain ⟨v1, hv1, rfl⟩ := hR 1 _ rfl (hdp 1 (by simp))
          obtain ⟨v3, hv3, rfl⟩ := hR 3 _ rfl (hdp 3 (by simp))
          obtain ⟨v5, hv5, rfl⟩ := hR 5 _ rfl (hdp 5 (by simp))
          refine wpOp_step rfl fun K hK => ?_
          refine one_bd 57 rfl rfl 67 #[(0, .tmp 32), (1, .tmp 40), (2, .tmp 48), (3, .tmp 56)] #[(0, .slice aZ nZ cZ), (1, .int .i64 (vOr x.nxt n0)), (2, .int .i64 (vOr x.lg V.lg)), (3, .int .i64 (vOr x.lst V.ls))] rfl ?_ (ver_bd _ _ _ _ _ _ W) ?_
          · simp only [List.map_toArray, List.map_cons, List.map_nil, Act.eval]; rw [putB_ne (k := 32) [39, 40, 47, 48, 55, 56, 57, 8] _ _ _ (by decide), putB_eq (k := 40) [39, 40, 47, 48, 55, 56, 57, 8] bs vs _ 1 _ (by decide) rfl (hdp 1 (by simp)) hv1 ?h1, putB_eq (k := 48) [39, 40, 47, 48, 55, 56, 57, 8] bs vs _ 3 _ (by decide) rfl (hdp 3 (by simp)) hv3 ?h3, putB_eq (k := 56) [39, 40, 47, 48, 55, 56, 57, 8] bs vs _ 5 _ (by decide) rfl (hdp 5 (by simp)) hv5 ?h5] <;> first | rfl | (show _ < 63; decide)
          · exact hK _ _ ⟨_, rfl, hSw, rfl, Below.refl _ _⟩
        · obtain rfl := Option.some.inj hj
          refine wpOp_step rfl fun K hK => ?_
          refine oneOp_any 8 rfl rfl (ver_ax _ _ rfl W) ?_
          exact hK _ _ ⟨_, rfl, hSw.alloc hSw.size _, ⟨_, rfl, hSw.size, BlkAt.new _ _ _⟩, (Below.refl _ _).alloc (Nat.le_refl _) _⟩
        · simp at hj
      case dn =>
        intro vs W hvl hSw hR
        obtain ⟨v0, hv0, p0, rfl, -⟩ := hR 0 _ rfl
        obtain ⟨v1, hv1, rfl⟩ := hR 1 _ rfl
        obtain ⟨v2, hv2, p2, rfl, -⟩ := hR 2 _ rfl
        obtain ⟨v3, hv3, rfl⟩ := hR 3 _ rfl
        obtain ⟨v4, hv4, p4, rfl, -⟩ := hR 4 _ rfl
        obtain ⟨v5, hv5, rfl⟩ := hR 5 _ rfl
        obtain ⟨v6, hv6, rfl⟩ := hR 6 _ rfl
        obtain ⟨v7, hv7, q, rfl, hq, hbq⟩ := hR 7 _ rfl
        have evs : vs = [.slice (some ⟨p0, 0, none⟩) 2 2, .int .i64 (vOr x.nxt n0), .slice (some ⟨p2, 0, none⟩) 2 2, .int .i64 (vOr x.lg V.lg), .slice (some ⟨p4, 0, none⟩) 2 2, .int .i64 (vOr x.lst V.ls), .agg #[.slice aZ nZ cZ, .int .i64 (vOr x.nxt n0), .int .i64 (vOr x.lg V.lg), .int .i64 (vOr x.lst V.ls)], .pointer (some ⟨q, 0, none⟩)] := by
          match vs, hvl with
          | [a0, a1, a2, a3, a4, a5, a6, a7], _ => rw [Option.some.inj hv0, Option.some.inj hv1, Option.some.inj hv2, Option.some.inj hv3, Option.some.inj hv4, Option.some.inj hv5, Option.some.inj hv6, Option.some.inj hv7]
        subst evs
        clear hR hv0 hv1 hv2 hv3 hv4 hv5 hv6 hv7 hvl
        simp only [List.replicate_succ, List.replicate_zero, putAB, setB, if_true, Act.put, List.setIfInBounds_toArray, List.set_cons_zero, List.set_cons_succ]
        have HQ := Lib.hid hbq
        obtain ⟨e0, e1, e2, e3⟩ := cell4_of hbq
        obtain ⟨f0, f1, f2, f3⟩ := free4_of hbq
        refine wpAnyH_ready (rs := [27]) (by kernel_rfl) (by simp) (AllReadyH.cons rfl (fun K hK => ?_) AllReadyH.nil)
        go_simp
        have HF := Lib.hid (fill4 hbq (.slice aZ nZ cZ) (.int .i64 (vOr x.nxt n0)) (.int .i64 (vOr x.lg V.lg)) (.int .i64 (vOr x.lst V.ls)))
        have hS2 : Below w5.heap.size w5 ((((W.setCell ⟨q, 0, none⟩ (.slice aZ nZ cZ)).setCell ⟨q, 1, none⟩ (.int .i64 (vOr x.nxt n0))).setCell ⟨q, 2, none⟩ (.int .i64 (vOr x.lg V.lg))).setCell ⟨q, 3, none⟩ (.int .i64 (vOr x.lst V.ls))) := hSw.trans (UpdF.below HF.out.2 hSw.size fun k hk e => by omega)
        refine hK.out _ _ hS2 (fun _ => ?_)
        clear hK K
        try simp only [Act.put, List.setIfInBounds_toArray, List.set_cons_zero, List.set_cons_succ]
        refine wpAnyH_done (by kernel_rfl) ?_ _
        have HQ8 := Lib.hid HF.out.1
        have hB8 : Below w1.heap.size w1 _ := hB.trans (hS2.mono hB.size)
        have HS8 := Lib.hid hS2
        clear hS2 hSw hbq HQ HF e0 e1 e2 e3 f0 f1 f2 f3 hHeld hS0 hB
        generalize ((((W.setCell ⟨q, 0, none⟩ (.slice aZ nZ cZ)).setCell ⟨q, 1, none⟩ (.int .i64 (vOr x.nxt n0))).setCell ⟨q, 2, none⟩ (.int .i64 (vOr x.lg V.lg))).setCell ⟨q, 3, none⟩ (.int .i64 (vOr x.lst V.ls))) = w8 at *
        have hB := hB8
        clear hB8
        have HO8 := Lib.hid (HO.out.below HS8.out)
        have HFO := Lib.hid (vfollow_raw HQ8.out (HO8.out.rd encTbf_len) (by rw [HZS.out.2.2.length_eq, List.length_append]; have := HZS.out.1.1; omega) (HL1.out.below hB).v)
        obtain ⟨K8, hK8⟩ : ∃ K8, decide (vFol zs (vOr (vOr x.nxt n0) 1) (vOr x.lg V.lg) (vOr x.lst V.ls) (vOr n0 1) V.lg V.ls) = K8 := ⟨_, rfl⟩
        rw [hK8] at HFO
        have HK8 := Lib.hid hK8
        clear hK8
        have HAY := Lib.hid (apply_yes (by have := HG.out.1.nx1; exact this) HG.out.2 HM.out HRS.out HZS.out.1 HZS.out.2.2)
        go_wp2_with fail
        refine HFO.out.mono ?_
        rintro e w9 ⟨rfl, hb9⟩
        have HO9 := Lib.hid (HO8.out.below hb9)
        have HQ9 := Lib.hid (HQ8.out.below hb9)
        have hB9 : Below w1.heap.size w1 w9 := hB.trans (hb9.mono hB.size)
        clear hb9 hB HFO HO8 HQ8 HS8
        have hB := hB9
        clear hB9
        cases K8 with
        | false =>
          have HN : Hid (applyV V x = none) := Lib.hid (HAY.out.2 (of_decide_eq_false HK8.out))
          have HZ := Lib.hid ((HGE.out _ (HL1.out.below hB)).2)
          obtain ⟨z0, z1, z2, z3⟩ := cell4_of HZ.out
          obtain ⟨f0, f1, f2, f3⟩ := free4_of HZ.out
          have HBE := Lib.hid (HL1.out.below hB).bel
          have HF4 := Lib.hid (fill4 HZ.out (.slice none 0 0) (.int .i64 0) (.int .i64 0) (.int .i64 0))
          obtain ⟨y0, y1, y2, y3⟩ := cell4_of HF4.out.1
          have HBF : Hid (Below w.heap.size w ((((w9.setCell ⟨g + 1, 0, none⟩ (.slice none 0 0)).setCell ⟨g + 1, 1, none⟩ (.int .i64 0)).setCell ⟨g + 1, 2, none⟩ (.int .i64 0)).setCell ⟨g + 1, 3, none⟩ (.int .i64 0))) := Lib.hid (HBE.out.trans (UpdF.below HF4.out.2 HBE.out.size fun k hk e => by have := HGW.out; omega))
          clear hB HBE
          go_wp2_with fail
          refine bodyPost_ret (v := .tuple #[.agg #[.slice none 0 0, .int .i64 0, .int .i64 0, .int .i64 0], .bool false]) (by simp [results, Try.results28, go_sem, y0, y1, y2, y3]) rfl ⟨none, 0, 0, 0, 0, 0, false, rfl, fun _ => HN.out, fun h => (by cases h), ?_⟩
          exact HBF.out
        | true =>
          have HN := Lib.hid (HAY.out.1 (of_decide_eq_true HK8.out))
          have HZ := Lib.hid ((HGE.out _ (HL1.out.below hB)).2)
          obtain ⟨z0, z1, z2, z3⟩ := cell4_of HZ.out
          obtain ⟨f0, f1, f2, f3⟩ := free4_of HZ.out
          obtain ⟨e0, e1, e2, e3⟩ := cell4_of HQ9.out
          have HBE := Lib.hid (HL1.out.below hB).bel
          have HF4 := Lib.hid (fill4 HZ.out (.slice aZ nZ cZ) (.int .i64 (vOr x.nxt n0)) (.int .i64 (vOr x.lg V.lg)) (.int .i64 (vOr x.lst V.ls)))
          obtain ⟨y0, y1, y2, y3⟩ := cell4_of HF4.out.1
          have HOF := Lib.hid ((HO9.out.asideT HF4.out.2 HZ.out (by decide)).base (show w.heap.size ≤ w1.heap.size from HL1.out.bel.size))
          have HBF : Hid (Below w.heap.size w ((((w9.setCell ⟨g + 1, 0, none⟩ (.slice aZ nZ cZ)).setCell ⟨g + 1, 1, none⟩ (.int .i64 (vOr x.nxt n0))).setCell ⟨g + 1, 2, none⟩ (.int .i64 (vOr x.lg V.lg))).setCell ⟨g + 1, 3, none⟩ (.int .i64 (vOr x.lst V.ls)))) := Lib.hid (HBE.out.trans (UpdF.below HF4.out.2 HBE.out.size fun k hk e => by have := HGW.out; omega))
          clear hB HBE
          go_wp2_with fail
          refine bodyPost_ret (v := .tuple #[.agg #[.slice aZ nZ cZ, .int .i64 (vOr x.nxt n0), .int .i64 (vOr x.lg V.lg), .int .i64 (vOr x.lst V.ls)], .bool true]) (by simp [results, Try.results28, go_sem, y0, y1, y2, y3]) rfl ⟨aZ, nZ, cZ, _, _, _, true, rfl, fun h => (by cases h), fun _ => ⟨zs, _, HN.out, HZS.out.2.2, HZS.out.2.1, ?_⟩, ?_⟩
          · exact HOF.out
          · exact HBF.out
end Go.Proofs.Ytgdmmhdihgajkaa
/- The walks of Apply and Edit. -/
namespace Go.Proofs.Ytgdmmhdihgajkaa
set_option linter.unusedVariables false
set_option maxRecDepth 100000
open Go.RowKit
/-- What Apply leaves and tells. -/
def AppTo (B : Nat) (w : World) (b : Nat) (V : Ver) (x : Edt) (e : Ending) (w' : World) : Prop := ∃ (c : Int) (V' : Ver), e = .returned (.int .i64 c) ∧ VerAt B w' b V' ∧ UpdF (fun k => k = b) w w' ∧ (applyV V x = none → c = 12 ∧ V' = V) ∧ (∀ n, applyV V x = some n → c = 0 ∧ vSame n V')
/-- .. and the tables of a version that was changed lie in a new row. -/
def AppN (B : Nat) (w : World) (b : Nat) (V : Ver) (x : Edt) (e : Ending) (w' : World) : Prop := ∃ (c : Int) (V' : Ver), e = .returned (.int .i64 c) ∧ VerAt B w' b V' ∧ UpdF (fun k => k = b) w w' ∧ (applyV V x = none → c = 12 ∧ V' = V) ∧ (∀ n, applyV V x = some n → c = 0 ∧ vSame n V' ∧ VerAt w.heap.size w' b V')
theorem edt_forms {w : World} {v : Value} {x : Edt} (h : EdAt w v x) : ∃ aA cA aD cD, v = .agg #[.int .i64 x.nxt, .int .i64 x.lg, .int .i64 x.lst, .slice aA x.adds.length cA, .slice aD x.dels.length cD] := by
  obtain ⟨va, vd, rfl, ha, hd⟩ := h
  obtain ⟨aA, cA, rfl, -⟩ := edFl_len ha
  obtain ⟨aD, cD, rfl⟩ := edInts_len hd
  exact ⟨_, _, _, _, rfl⟩
set_option maxHeartbeats 8000000 in
theorem vapply_new {B : Nat} {w : World} {b : Nat} {V : Ver} (h : VerAt B w b V) (hB : B ≤ w.heap.size) (v : Value) (x : Edt) (hx : EdAt w v x) (hok : x.ok) : Calls Try.prog 13 #[.pointer (some ⟨b, 0, none⟩), v] w (AppN B w b V x) := by
  have HC : Hid (∀ W, Below w.heap.size w W → Calls Try.prog 27 #[v] W fun e w' => e = .returned (.int .i64 (chkE x)) ∧ Below W.heap.size W w') := Lib.hid fun W hW => edCheck_any v x hok W (hx.below hW)
  have HV := Lib.hid h
  have HX := Lib.hid hx
  obtain ⟨aA, cA, aD, cD, rfl⟩ := edt_forms hx
  have HBS := Lib.hid hB
  have HB1 : Hid (Below w.heap.size w (w.alloc (.cells #[.int .i64 x.nxt, .int .i64 x.lg, .int .i64 x.lst, .slice aA x.adds.length cA, .slice aD x.dels.length cD] 44))) := Lib.hid ((Below.refl _ w).alloc (Nat.le_refl _) _)
  have HXB := Lib.hid (BlkAt.new w #[.int .i64 x.nxt, .int .i64 x.lg, .int .i64 x.lst, .slice aA x.adds.length cA, .slice aD x.dels.length cD] 44)
  clear h hx hok hB
  generalize x.adds.length = nA at *
  generalize x.dels.length = nD at *
  obtain ⟨g, hg⟩ : ∃ g, w.heap.size = g := ⟨_, rfl⟩
  rw [hg] at HXB
  unfold AppN
  go_enter Try.func13, Try.ntmps13
  obtain ⟨z0, z1, z2, z3, z4⟩ := cell5_of HXB.out
  go_wp2_with fail
  refine (HC.out _ HB1.out).mono ?_
  rintro e w2 ⟨rfl, hb2⟩
  have HB2 := Lib.hid (HB1.out.trans (hb2.mono HB1.out.size))
  have HXB2 := Lib.hid (HXB.out.below hb2)
  clear hb2 HC HB1 HXB z0 z1 z2 z3 z4
  by_cases hm : mayE x
  · have e0 : chkE x = 0 := if_pos hm
    rw [e0]
    have HCH := Lib.hid (vchanged_any (HV.out.below HB2.out) _ x (HX.out.below HB2.out) hm)
    clear e0 hm
    obtain ⟨z0, z1, z2, z3, z4⟩ := cell5_of HXB2.out
    go_wp2_with fail
    refine HCH.out.mono ?_
    rintro e w3 ⟨aT, nT, cT, n0, l0, s0, ok, rfl, h1, h2, hb3⟩
    have HB3 := Lib.hid (HB2.out.trans (hb3.mono HB2.out.size))
    have HR := Lib.hid (And.intro h1 h2)
    have HS2 := Lib.hid HB2.out.size
    clear h1 h2 hb3 HCH HB2 HXB2 z0 z1 z2 z3 z4
    cases ok with
    | false =>
      have HN := Lib.hid (HR.out.1 rfl)
      clear HR
      go_wp2_with fail
      go_ret
      have hb : Below w.heap.size w (w3.alloc (.cells #[.slice aT nT cT, .int .i64 n0, .int .i64 l0, .int .i64 s0] 67)) := HB3.out.alloc HB3.out.size _
      exact ⟨12, V, rfl, HV.out.below hb, UpdF.of hb, fun _ => ⟨rfl, rfl⟩, fun n hn => by rw [HN.out] at hn; cases hn⟩
    | true =>
      obtain ⟨zs, m, ha, hp, hs, ho⟩ := HR.out.2 rfl
      have HA := Lib.hid (And.intro ha (And.intro hp hs))
      have HO := Lib.hid ho
      clear ha hp hs ho HR
      obtain ⟨w4, hw4⟩ : ∃ y, w3.alloc (.cells #[.slice aT nT cT, .int .i64 n0, .int .i64 l0, .int .i64 s0] 67) = y := ⟨_, rfl⟩
      have hb34 : Below w3.heap.size w3 w4 := by rw [← hw4]; exact (Below.refl _ _).alloc (Nat.le_refl _) _
      have HN4 : Hid (BlkAt w4 w3.heap.size #[.slice aT nT cT, .int .i64 n0, .int .i64 l0, .int .i64 s0] 67) := Lib.hid (by rw [← hw4]; exact BlkAt.new _ _ _)
      have HB4 := Lib.hid (HB3.out.trans (hb34.mono HB3.out.size))
      have HO4 := Lib.hid (HO.out.below hb34)
      obtain ⟨q, hq⟩ : ∃ q, w3.heap.size = q := ⟨_, rfl⟩
      rw [hq] at HN4
      have HV4 := Lib.hid (HV.out.below HB4.out)
      obtain ⟨tb, nb, hbk, -, -⟩ := HV4.out.blk
      have HBK := Lib.hid hbk
      obtain ⟨e0, e1, e2, e3⟩ := cell4_of HN4.out
      obtain ⟨y0, y1, y2, y3⟩ := cell4_of hbk
      obtain ⟨f0, f1, f2, f3⟩ := free4_of hbk
      clear hb34 hbk HB3 HO
      go_wp2_with fail
      go_ret
      have hf := fill4 HBK.out (.slice aT nT cT) (.int .i64 n0) (.int .i64 l0) (.int .i64 s0)
      have hg1 := applyV_good HV.out.good HA.out.1
      have hsm : vSame ⟨m, vOr n0 1, l0, s0⟩ ⟨zs, vOr n0 1, l0, s0⟩ := ⟨HA.out.2.1.symm, rfl, rfl, rfl⟩
      refine ⟨0, ⟨zs, vOr n0 1, l0, s0⟩, rfl, ⟨⟨_, n0, hf.1, ?_, rfl⟩, HA.out.2.2, hsm.good hg1⟩, (UpdF.of HB4.out).trans hf.2, fun hn => (by rw [HA.out.1] at hn; cases hn), fun n hn => ?_⟩
      · exact (HO4.out.asideT hf.2 HBK.out (by decide)).base (Nat.le_trans HBS.out HS2.out)
      · rw [HA.out.1] at hn
        obtain rfl := Option.some.inj hn
        exact ⟨rfl, hsm, ⟨⟨_, n0, hf.1, (HO4.out.asideT hf.2 HBK.out (by decide)).base HS2.out, rfl⟩, HA.out.2.2, hsm.good hg1⟩⟩
  · have e0 : chkE x = 12 := if_neg hm
    rw [e0]
    have HN : Hid (applyV V x = none) := Lib.hid (if_neg hm)
    clear e0 hm
    go_wp2_with fail
    go_ret
    exact ⟨12, V, rfl, HV.out.below HB2.out, UpdF.of HB2.out, fun _ => ⟨rfl, rfl⟩, fun n hn => by rw [HN.out] at hn; cases hn⟩
theorem vapply_any {B : Nat} {w : World} {b : Nat} {V : Ver} (h : VerAt B w b V) (hB : B ≤ w.heap.size) (v : Value) (x : Edt) (hx : EdAt w v x) (hok : x.ok) : Calls Try.prog 13 #[.pointer (some ⟨b, 0, none⟩), v] w (AppTo B w b V x) :=
  (vapply_new h hB v x hx hok).mono fun e w' ⟨c, V', h1, h2, h3, h4, h5⟩ => ⟨c, V', h1, h2, h3, h4, fun n hn => ⟨(h5 n hn).1, (h5 n hn).2.1⟩⟩
theorem vapply_nil (v : Value) (x : Edt) (w : World) (hx : EdAt w v x) : Calls Try.prog 13 #[.pointer none, v] w fun e w' => e = .returned (.int .i64 11) ∧ Below w.heap.size w w' := by
  obtain ⟨aA, cA, aD, cD, rfl⟩ := edt_forms hx
  have HB1 : Hid (Below w.heap.size w (w.alloc (.cells #[.int .i64 x.nxt, .int .i64 x.lg, .int .i64 x.lst, .slice aA x.adds.length cA, .slice aD x.dels.length cD] 44))) := Lib.hid ((Below.refl _ w).alloc (Nat.le_refl _) _)
  clear hx
  generalize x.adds.length = nA at *
  generalize x.dels.length = nD at *
  go_enter Try.func13, Try.ntmps13
  go_wp2_with fail
  go_ret
  exact ⟨rfl, HB1.out⟩
theorem fill5 {w : World} {g : Nat} {T : TypeId} {o0 o1 o2 o3 o4 : Value} (h : BlkAt w g #[o0, o1, o2, o3, o4] T) (v0 v1 v2 v3 v4 : Value) :
    BlkAt (((((w.setCell ⟨g, 0, none⟩ v0).setCell ⟨g, 1, none⟩ v1).setCell ⟨g, 2, none⟩ v2).setCell ⟨g, 3, none⟩ v3).setCell ⟨g, 4, none⟩ v4) g #[v0, v1, v2, v3, v4] T ∧ UpdF (fun k => k = g) w (((((w.setCell ⟨g, 0, none⟩ v0).setCell ⟨g, 1, none⟩ v1).setCell ⟨g, 2, none⟩ v2).setCell ⟨g, 3, none⟩ v3).setCell ⟨g, 4, none⟩ v4) :=
  ⟨((((h.set (o := 0) v0).set (o := 1) v1).set (o := 2) v2).set (o := 3) v3).set (o := 4) v4, (((((UpdF.refl (fun k => k = g) w).set g 0 v0 rfl).set g 1 v1 rfl).set g 2 v2 rfl).set g 3 v3 rfl).set g 4 v4 rfl⟩
/-- What Edit tells. -/
def EditTo (w : World) (V : Ver) (e : Ending) (w' : World) : Prop := ∃ u, e = .returned (.agg #[.int .i64 V.nx, .int .i64 V.lg, .int .i64 V.ls, u, .slice none 0 0]) ∧ OwnK encTbf 5 49 w.heap.size w' u V.fs ∧ Below w.heap.size w w'
end Go.Proofs.Ytgdmmhdihgajkaa
