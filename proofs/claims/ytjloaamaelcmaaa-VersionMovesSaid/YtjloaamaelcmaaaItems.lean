/- A region that draws its order and holds several operations that make memory, in whatever order they come up: of each just what its value means is kept, not where it lies. -/
import Derived.Deep.RegionHeld3
import Derived.Below
import Derived.Lib.Hide
namespace Go.Proofs.Ytjloaamaelcmaaa
set_option linter.unusedVariables false
open Go.RowKit
/-- An operation: its number, its slot, what its value means, of which places it waits. -/
structure Itm where
  i : Nat
  k : Nat
  R : Value → World → Prop
  deps : List Nat
def setB : List Nat → List Bool → Array Bool → Array Bool
  | i :: is, b :: bs, l => setB is bs (if b then l.setIfInBounds i true else l)
  | _, _, l => l
def putB : List Nat → List Bool → List Value → Act → Act
  | k :: ks, b :: bs, v :: vs, a => putB ks bs vs (if b then a.put (some k) v else a)
  | _, _, _, a => a
theorem set_comm (l : Array Bool) (i j : Nat) : (l.setIfInBounds i true).setIfInBounds j true = (l.setIfInBounds j true).setIfInBounds i true := by
  by_cases h : i = j
  · rw [h]
  · exact Array.setIfInBounds_comm _ _ h
theorem setB_comm (i : Nat) : ∀ (is : List Nat) (bs : List Bool) (l : Array Bool), setB is bs (l.setIfInBounds i true) = (setB is bs l).setIfInBounds i true
  | [], _, _ => by simp [setB]
  | _ :: _, [], _ => by simp [setB]
  | j :: is, b :: bs, l => by
    cases b
    · simp only [setB, Bool.false_eq_true, if_false]; exact setB_comm i is bs l
    · simp only [setB, if_true]; rw [set_comm]; exact setB_comm i is bs _
theorem setB_set : ∀ (is : List Nat) (bs : List Bool) (l : Array Bool) (j i : Nat), is[j]? = some i → bs[j]? = some false → setB is (bs.set j true) l = (setB is bs l).setIfInBounds i true
  | [], _, _, _, _, h, _ => by simp at h
  | _ :: _, [], _, _, _, _, h => by simp at h
  | x :: is, b :: bs, l, 0, i, h, hb => by
    have h : x = i := by simpa using h
    have hb : b = false := by simpa using hb
    subst h hb
    simp only [List.set_cons_zero, setB, if_true, Bool.false_eq_true, if_false]
    exact setB_comm _ _ _ _
  | x :: is, b :: bs, l, j + 1, i, h, hb => by
    simp only [List.set_cons_succ, setB]
    exact setB_set is bs _ j i (by simpa using h) (by simpa using hb)
theorem put_comm {k m : Nat} (h : k ≠ m) (a : Act) (v u : Value) : (a.put (some k) v).put (some m) u = (a.put (some m) u).put (some k) v := by
  unfold Act.put
  simp only [Array.setIfInBounds_comm _ _ h]
theorem putB_comm {k : Nat} (v : Value) : ∀ (ks : List Nat) (bs : List Bool) (vs : List Value) (a : Act), k ∉ ks → putB ks bs vs (a.put (some k) v) = (putB ks bs vs a).put (some k) v
  | [], _, _, _, _ => by simp [putB]
  | _ :: _, [], _, _, _ => by simp [putB]
  | _ :: _, _ :: _, [], _, _ => by simp [putB]
  | m :: ks, b :: bs, u :: vs, a, h => by
    have h1 : k ≠ m := fun e => h (by simp [e])
    have h2 : k ∉ ks := fun e => h (List.mem_cons_of_mem _ e)
    cases b
    · simp only [putB, Bool.false_eq_true, if_false]; exact putB_comm v ks bs vs a h2
    · simp only [putB, if_true]; rw [put_comm h1]; exact putB_comm v ks bs vs _ h2
theorem putB_set : ∀ (ks : List Nat) (bs : List Bool) (vs : List Value) (a : Act) (j k : Nat) (v : Value), ks.Nodup → ks[j]? = some k → bs[j]? = some false → j < vs.length → putB ks (bs.set j true) (vs.set j v) a = (putB ks bs vs a).put (some k) v
  | [], _, _, _, _, _, _, _, h, _, _ => by simp at h
  | _ :: _, [], _, _, _, _, _, _, _, h, _ => by simp at h
  | _ :: _, _ :: _, [], _, _, _, _, _, _, _, h => by simp at h
  | x :: ks, b :: bs, u :: vs, a, 0, k, v, hn, h, hb, _ => by
    have h : x = k := by simpa using h
    have hb : b = false := by simpa using hb
    subst h hb
    simp only [List.set_cons_zero, putB, if_true, Bool.false_eq_true, if_false]
    exact putB_comm v ks bs vs a (List.nodup_cons.1 hn).1
  | x :: ks, b :: bs, u :: vs, a, j + 1, k, v, hn, h, hb, hv => by
    simp only [List.set_cons_succ, putB]
    exact putB_set ks bs vs _ j k v (List.nodup_cons.1 hn).2 (by simpa using h) (by simpa using hb) (by simpa using hv)
/-- A slot that is none of these. -/
theorem putB_ne {k : Nat} : ∀ (ks : List Nat) (bs : List Bool) (vs : List Value) (a : Act), k ∉ ks → (putB ks bs vs a).tmps.getD k undef = a.tmps.getD k undef
  | [], _, _, _, _ => by simp [putB]
  | _ :: _, [], _, _, _ => by simp [putB]
  | _ :: _, _ :: _, [], _, _ => by simp [putB]
  | m :: ks, b :: bs, u :: vs, a, h => by
    have h1 : m ≠ k := fun e => h (by simp [e])
    simp only [putB]
    rw [putB_ne ks bs vs _ fun e => h (List.mem_cons_of_mem _ e)]
    cases b
    · rfl
    · simp only [if_true, Act.put]
      rw [Array.getD_eq_getD_getElem?, Array.getD_eq_getD_getElem?, Array.getElem?_setIfInBounds, if_neg h1]
theorem putB_size : ∀ (ks : List Nat) (bs : List Bool) (vs : List Value) (a : Act), (putB ks bs vs a).tmps.size = a.tmps.size
  | [], _, _, _ => by simp [putB]
  | _ :: _, [], _, _ => by simp [putB]
  | _ :: _, _ :: _, [], _ => by simp [putB]
  | m :: ks, b :: bs, u :: vs, a => by
    simp only [putB]
    rw [putB_size ks bs vs _]
    cases b <;> simp [Act.put]
/-- A slot of one that has come up. -/
theorem putB_eq {k : Nat} : ∀ (ks : List Nat) (bs : List Bool) (vs : List Value) (a : Act) (j : Nat) (v : Value), ks.Nodup → ks[j]? = some k → bs[j]? = some true → vs[j]? = some v → k < a.tmps.size → (putB ks bs vs a).tmps.getD k undef = v
  | [], _, _, _, _, _, _, h, _, _, _ => by simp at h
  | _ :: _, [], _, _, _, _, _, _, h, _, _ => by simp at h
  | _ :: _, _ :: _, [], _, _, _, _, _, _, h, _ => by simp at h
  | x :: ks, b :: bs, u :: vs, a, 0, v, hn, h, hb, hv, hs => by
    have h : x = k := by simpa using h
    have hb : b = true := by simpa using hb
    have hv : u = v := by simpa using hv
    subst h hb hv
    simp only [putB, if_true]
    rw [putB_ne ks bs vs _ (List.nodup_cons.1 hn).1]
    simp only [Act.put]
    rw [Array.getD_eq_getD_getElem?, Array.getElem?_setIfInBounds, if_pos rfl, if_pos hs]; rfl
  | x :: ks, b :: bs, u :: vs, a, j + 1, v, hn, h, hb, hv, hs => by
    simp only [putB]
    exact putB_eq ks bs vs _ j v (List.nodup_cons.1 hn).2 (by simpa using h) (by simpa using hb) (by simpa using hv) (by cases b <;> simpa [Act.put] using hs)
/-- All rows of n truths. -/
def allB : Nat → List (List Bool)
  | 0 => [[]]
  | n + 1 => (allB n).map (false :: ·) ++ (allB n).map (true :: ·)
theorem mem_allB : ∀ (bs : List Bool), bs ∈ allB bs.length
  | [] => by simp [allB]
  | b :: bs => by
    have := mem_allB bs
    cases b <;> simp [allB, this]
/-- Whoever has come up waited for those that have. -/
def closedB (deps : List (List Nat)) (bs : List Bool) : Bool := (List.range bs.length).all fun j => !bs.getD j false || (deps.getD j []).all fun d => bs.getD d false
/-- Where not all have come up somebody may, and whoever may is one of these that has not, behind those it waits for. -/
def readyOk (md : Region.Mode) (ops : Array Oper) (L0 : Array Bool) (is : List Nat) (deps : List (List Nat)) (bs : List Bool) : Bool :=
  !closedB deps bs || bs.all id ||
    (!(Region.ready md ops (setB is bs L0)).isEmpty && (Region.ready md ops (setB is bs L0)).all fun i => (List.range bs.length).any fun j => is.getD j 0 == i && !bs.getD j true && (deps.getD j []).all fun d => bs.getD d false)
theorem count_set : ∀ (bs : List Bool) (j : Nat), bs[j]? = some false → (bs.set j true).count false + 1 = bs.count false
  | [], _, h => by simp at h
  | b :: bs, 0, h => by
    have h : b = false := by simpa using h
    subst h
    simp
  | b :: bs, j + 1, h => by
    have := count_set bs j (by simpa using h)
    cases b <;> simp <;> omega
theorem all_of_count : ∀ {bs : List Bool}, bs.count false = 0 → bs = List.replicate bs.length true
  | [], _ => rfl
  | b :: bs, h => by
    cases b
    · simp at h
    · have := all_of_count (bs := bs) (by simpa using h)
      simp only [List.length_cons, List.replicate_succ]
      rw [← this]
section
variable {P : Program} {md : Region.Mode} {ops : Array Oper} {Q : Exit → Act → World → Prop} {S : World → Prop}
theorem wpAnyH_items (items : List Itm) {L0 : Array Bool} {A0 : Act} {n : Nat} (hk : (items.map Itm.k).Nodup) (hr : (allB items.length).all (readyOk md ops L0 (items.map Itm.i) (items.map Itm.deps)) = true)
    (hst : ∀ t ∈ items, ∀ v w w', t.R v w → Below w.heap.size w w' → t.R v w')
    (hex : ∀ (j : Nat) (t : Itm) (bs : List Bool) (vs : List Value) (w : World), items[j]? = some t → bs.length = items.length → vs.length = items.length → bs[j]? = some false → (∀ d ∈ t.deps, bs[d]? = some true) → S w →
      (∀ (d : Nat) (u : Itm), items[d]? = some u → bs[d]? = some true → ∃ v, vs[d]? = some v ∧ u.R v w) →
      wpOp P ops Q t.i (fun a' w' => ∃ v, a' = (putB (items.map Itm.k) bs vs A0).put (some t.k) v ∧ S w' ∧ t.R v w' ∧ Below w.heap.size w w') (putB (items.map Itm.k) bs vs A0) w)
    (hdone : ∀ (vs : List Value) (w : World), vs.length = items.length → S w → (∀ (d : Nat) (u : Itm), items[d]? = some u → ∃ v, vs[d]? = some v ∧ u.R v w) →
      wpAnyH P md ops Q S n (setB (items.map Itm.i) (List.replicate items.length true) L0) (putB (items.map Itm.k) (List.replicate items.length true) vs A0) w) :
    ∀ (m : Nat) (bs : List Bool) (vs : List Value) (w : World), bs.length = items.length → vs.length = items.length → bs.count false = m → closedB (items.map Itm.deps) bs = true → S w →
      (∀ (d : Nat) (u : Itm), items[d]? = some u → bs[d]? = some true → ∃ v, vs[d]? = some v ∧ u.R v w) →
      wpAnyH P md ops Q S (m + n) (setB (items.map Itm.i) bs L0) (putB (items.map Itm.k) bs vs A0) w
  | 0, bs, vs, w, hb, hv, hc, hcl, hS, hR => by
    have e := all_of_count hc
    rw [hb] at e
    rw [e, Nat.zero_add]
    refine hdone vs w hv hS fun d u hu => hR d u hu ?_
    rw [e]
    have := (List.getElem?_eq_some_iff.1 hu).1
    rw [List.getElem?_replicate, if_pos this]
  | m + 1, bs, vs, w, hb, hv, hc, hcl, hS, hR => by
    rw [show m + 1 + n = (m + n) + 1 by omega]
    have hok := List.all_eq_true.1 hr bs (by rw [← hb]; exact mem_allB bs)
    unfold readyOk at hok
    rw [hcl] at hok
    have hna : bs.all id = false := by
      rw [Bool.eq_false_iff]
      intro h
      have : bs.count false = 0 := List.count_eq_zero.2 fun hm => by have := List.all_eq_true.1 h _ hm; cases this
      omega
    rw [hna] at hok
    simp only [Bool.not_true, Bool.false_or, Bool.and_eq_true, Bool.not_eq_true', List.isEmpty_eq_false_iff] at hok
    obtain ⟨h1, h2⟩ := hok
    refine ⟨fun h => absurd h h1, fun i hi => ?_⟩
    have h3 := List.all_eq_true.1 h2 i hi
    obtain ⟨j, hj, h4⟩ := List.any_eq_true.1 h3
    have hj := List.mem_range.1 hj
    simp only [Bool.and_eq_true, beq_iff_eq, Bool.not_eq_true'] at h4
    obtain ⟨⟨h4, h5⟩, h6⟩ := h4
    have hjt : j < items.length := by omega
    obtain ⟨t, ht⟩ : ∃ t, items[j]? = some t := ⟨items[j], List.getElem?_eq_getElem hjt⟩
    have hti : (items.map Itm.i)[j]? = some t.i := by rw [List.getElem?_map, ht]; rfl
    have htk : (items.map Itm.k)[j]? = some t.k := by rw [List.getElem?_map, ht]; rfl
    have hii : t.i = i := by rw [List.getD_eq_getElem?_getD, hti] at h4; exact h4
    have hbf : bs[j]? = some false := by
      rw [List.getD_eq_getElem?_getD, List.getElem?_eq_getElem hj] at h5
      rw [List.getElem?_eq_getElem hj]
      exact congrArg some h5
    have hdp : ∀ d ∈ t.deps, bs[d]? = some true := by
      intro d hd
      rw [List.getD_eq_getElem?_getD, List.getElem?_map, ht] at h6
      have := List.all_eq_true.1 h6 d hd
      rw [List.getD_eq_getElem?_getD] at this
      cases hx : bs[d]? with
      | none => rw [hx] at this; cases this
      | some b => rw [hx] at this; exact congrArg some this
    rw [← hii]
    refine wpOp_mono (fun a' w' hh => ?_) (hex j t bs vs w ht hb hv hbf hdp hS hR)
    obtain ⟨v, rfl, hS', hRv, hB⟩ := hh
    refine ⟨hS', ?_⟩
    rw [← setB_set _ bs L0 j t.i hti hbf, ← putB_set _ bs vs A0 j t.k v hk htk hbf (by omega)]
    refine wpAnyH_items items hk hr hst hex hdone m _ _ w' (by rw [List.length_set]; exact hb) (by rw [List.length_set]; exact hv) (by have := count_set bs j hbf; omega) ?_ hS' fun d u hu hd => ?_
    · unfold closedB at hcl ⊢
      rw [List.length_set]
      refine List.all_eq_true.2 fun x hx => ?_
      have hcx := List.all_eq_true.1 hcl x hx
      have mono : ∀ d, bs.getD d false = true → (bs.set j true).getD d false = true := fun d hd => by
        rw [List.getD_eq_getElem?_getD] at hd ⊢
        rw [List.getElem?_set]
        split
        · rfl
        · exact hd
      by_cases hxj : x = j
      · subst hxj
        rw [List.getD_eq_getElem?_getD (l := List.map Itm.deps items), List.getElem?_map, ht]
        simp only [Option.map_some, Option.getD_some]
        rw [Bool.or_eq_true]
        refine .inr (List.all_eq_true.2 fun d hd => mono d ?_)
        rw [List.getD_eq_getElem?_getD, hdp d hd]; rfl
      · rw [Bool.or_eq_true] at hcx ⊢
        rcases hcx with hcx | hcx
        · refine .inl ?_
          rw [List.getD_eq_getElem?_getD] at hcx ⊢
          rw [List.getElem?_set_ne (by omega)]; exact hcx
        · exact .inr (List.all_eq_true.2 fun d hd => mono d (List.all_eq_true.1 hcx d hd))
    · by_cases hdj : d = j
      · subst hdj
        obtain rfl : t = u := Option.some.inj (ht.symm.trans hu)
        exact ⟨v, by rw [List.getElem?_set_self (by omega)], hRv⟩
      · rw [List.getElem?_set_ne (by omega)] at hd
        obtain ⟨x, hx1, hx2⟩ := hR d u hu hd
        exact ⟨x, by rw [List.getElem?_set_ne (by omega)]; exact hx1, hst u (List.mem_of_getElem? hu) x w w' hx2 hB⟩
/-- From the beginning: none has come up. -/
theorem takeItems (items : List Itm) (ks is : List Nat) (ds : List (List Nat)) (m : Nat) (hks : items.map Itm.k = ks) (his : items.map Itm.i = is) (hds : items.map Itm.deps = ds) (hm : items.length = m) {L0 : Array Bool} {A0 : Act} {n N : Nat} {w : World} (hN : N = m + n) (hk : ks.Nodup) (hr : (allB m).all (readyOk md ops L0 is ds) = true)
    (hst : ∀ t ∈ items, ∀ v w w', t.R v w → Below w.heap.size w w' → t.R v w')
    (hex : ∀ (j : Nat) (t : Itm) (bs : List Bool) (vs : List Value) (w : World), items[j]? = some t → bs.length = m → vs.length = m → bs[j]? = some false → (∀ d ∈ t.deps, bs[d]? = some true) → S w →
      (∀ (d : Nat) (u : Itm), items[d]? = some u → bs[d]? = some true → ∃ v, vs[d]? = some v ∧ u.R v w) →
      wpOp P ops Q t.i (fun a' w' => ∃ v, a' = (putB ks bs vs A0).put (some t.k) v ∧ S w' ∧ t.R v w' ∧ Below w.heap.size w w') (putB ks bs vs A0) w)
    (hS : S w)
    (hdone : ∀ (vs : List Value) (w : World), vs.length = m → S w → (∀ (d : Nat) (u : Itm), items[d]? = some u → ∃ v, vs[d]? = some v ∧ u.R v w) →
      wpAnyH P md ops Q S n (setB is (List.replicate m true) L0) (putB ks (List.replicate m true) vs A0) w) :
    wpAnyH P md ops Q S N L0 A0 w := by
  subst hks his hds hm
  have none_set : ∀ (is : List Nat) (m : Nat) (l : Array Bool), setB is (List.replicate m false) l = l := fun is => by
    induction is with
    | nil => intro m l; simp [setB]
    | cons x r ih => intro m l; cases m <;> simp [setB, List.replicate_succ, ih]
  have none_put : ∀ (ks : List Nat) (m : Nat) (vs : List Value) (a : Act), putB ks (List.replicate m false) vs a = a := fun ks => by
    induction ks with
    | nil => intro m vs a; simp [putB]
    | cons x r ih => intro m vs a; cases m <;> cases vs <;> simp [putB, List.replicate_succ, ih]
  have h := wpAnyH_items (P := P) (md := md) (ops := ops) (Q := Q) (S := S) items (L0 := L0) (A0 := A0) (n := n) hk hr hst hex hdone items.length (List.replicate items.length false) (List.replicate items.length undef) w (by simp) (by simp) (by simp) ?_ hS ?_
  · rw [none_set, none_put] at h
    rw [hN]; exact h
  · unfold closedB
    refine List.all_eq_true.2 fun x hx => ?_
    have := List.mem_range.1 hx
    rw [List.length_replicate] at this
    rw [List.getD_eq_getElem?_getD, List.getElem?_replicate, if_pos this]; rfl
  · intro d u hu hd
    rw [List.getElem?_replicate] at hd
    split at hd <;> simp at hd
end
end Go.Proofs.Ytjloaamaelcmaaa
