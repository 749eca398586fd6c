/- A merge in memory: its places, their sources and fronts, the queue. -/
import Derived.Test.YtmndhmodcglkjaaMgAdv
namespace Go.Proofs.Ytmndhmodcglkjaa
set_option linter.unusedVariables false
set_option maxRecDepth 100000
open Go.RowKit
def frnt (ps : List Pl) (p : Nat) : Fnt := ⟨((ps[p]?).map Pl.fb).getD 0, keyPl ps p, nxF (((ps[p]?).map fun x => tyS x.k).getD 0) (((ps[p]?).map Pl.sb).getD 0)⟩
theorem frnt_at {ps : List Pl} {p : Nat} {x : Pl} (h : ps[p]? = some x) : frnt ps p = ⟨x.fb, x.cur.getD Ent.none, nxF (tyS x.k) x.sb⟩ := by
  unfold frnt keyPl; rw [h]; rfl
theorem HQ.congr {F G : Nat → Fnt} {w : World} {B qb : Nat} {v : Value} {q : List Nat} (h : HQ F w B qb v q) (e : ∀ p, p ∈ q → F p = G p) : HQ G w B qb v q := by
  refine ⟨h.var, ?_, h.qB, fun p hp => by rw [← e p hp]; exact h.frs p hp⟩
  have : (q.map fun p => ptrO (some (F p).b)) = q.map fun p => ptrO (some (G p).b) := List.map_congr_left fun p hp => by rw [e p hp]
  rw [← this]; exact h.row
theorem HQ.updT {F : Nat → Fnt} {w w' : World} {B C qb : Nat} {S : List TypeId} {v : Value} {q : List Nat} (h : HQ F w B qb v q) (u : UpdT S C w w') (h1 : 55 ∉ S) (h2 : 54 ∉ S) (h3 : ∀ p, p ∈ q → w'.heap[(F p).b]? = w.heap[(F p).b]?) : HQ F w' B qb v q :=
  ⟨u.blk h.var (.inr h2), u.own h.row h1, h.qB, fun p hp => (h3 p hp).trans (h.frs p hp)⟩
/-- What holds of all places: those below i were asked. -/
structure MgS (w0 w : World) (ps : List Pl) (i : Nat) : Prop where
  src : ∀ (p : Nat) (x : Pl), ps[p]? = some x → x.k ≠ 0 → SrcAt w0 w x (if x.cur.isSome ∨ i ≤ p then 0 else 1) ∧ w0.heap.size ≤ x.sb
  fbs : ∀ (p : Nat) (x : Pl), ps[p]? = some x → x.cur.isSome → w0.heap.size ≤ x.fb ∧ x.k ≠ 0
  apart : ∀ (p p' : Nat) (x x' : Pl), ps[p]? = some x → ps[p']? = some x' → p ≠ p' → x.k ≠ 0 → x'.k ≠ 0 → x.sb ≠ x'.sb
  apf : ∀ (p p' : Nat) (x x' : Pl), ps[p]? = some x → ps[p']? = some x' → p ≠ p' → x.cur.isSome → x'.cur.isSome → x.fb ≠ x'.fb
  base : Below w0.heap.size w0 w
/-- The queue has all fronts. -/
structure MgM (w0 w : World) (qb : Nat) (ps : List Pl) (v : Value) (q : List Nat) (i : Nat) : Prop where
  hq : HQ (frnt ps) w w0.heap.size qb v q
  st : MgS w0 w ps i
  mem : ∀ p, p ∈ q ↔ ∃ x, ps[p]? = some x ∧ x.cur.isSome = true
  nodup : q.Nodup
/-- All but one. -/
structure MgA (w0 w : World) (qb : Nat) (ps : List Pl) (v : Value) (q : List Nat) (i p0 : Nat) : Prop where
  hq : HQ (frnt ps) w w0.heap.size qb v q
  st : MgS w0 w ps i
  mem : ∀ p, p ∈ q ↔ p ≠ p0 ∧ ∃ x, ps[p]? = some x ∧ x.cur.isSome = true
  nodup : q.Nodup
  frt : BlkAt w (frnt ps p0).b (frC (frnt ps p0) p0) 57
section
variable {w0 w w' w2 w3 : World} {qb i p0 : Nat} {ps : List Pl} {v v2 : Value} {q q' : List Nat}
theorem MgS.same (h : MgS w0 w ps i) (u : ∀ (p : Nat) (x : Pl), ps[p]? = some x → x.k ≠ 0 → w'.heap[x.sb]? = w.heap[x.sb]?) (b : Below w0.heap.size w0 w') : MgS w0 w' ps i :=
  ⟨fun p x hx hk => ⟨(h.src p x hx hk).1.same (u p x hx hk), (h.src p x hx hk).2⟩, h.fbs, h.apart, h.apf, b⟩
theorem MgS.below (h : MgS w0 w ps i) (u : Below w.heap.size w w') : MgS w0 w' ps i :=
  h.same (fun p x hx hk => u.block _ (h.src p x hx hk).1.lt) (h.base.trans (u.mono h.base.size))
theorem MgS.updQ (h : MgS w0 w ps i) (u : UpdT qT w0.heap.size w w') : MgS w0 w' ps i :=
  ⟨fun p x hx hk => ⟨(h.src p x hx hk).1.upd u (by decide), (h.src p x hx hk).2⟩, h.fbs, h.apart, h.apf, h.base.trans (u.below h.base.size)⟩
theorem MgM.below (h : MgM w0 w qb ps v q i) (u : Below w.heap.size w w') : MgM w0 w' qb ps v q i := ⟨h.hq.below u, h.st.below u, h.mem, h.nodup⟩
theorem MgA.below (h : MgA w0 w qb ps v q i p0) (u : Below w.heap.size w w') : MgA w0 w' qb ps v q i p0 := ⟨h.hq.below u, h.st.below u, h.mem, h.nodup, h.frt.below u⟩
theorem MgA.none (h : MgA w0 w qb ps v q i p0) {y : Pl} (hy : ps[p0]? = some y) (hn : y.cur = none) : MgM w0 w qb ps v q i := by
  refine ⟨h.hq, h.st, fun p => (h.mem p).trans ⟨fun h => h.2, fun ⟨x, hx, hc⟩ => ⟨?_, x, hx, hc⟩⟩, h.nodup⟩
  rintro rfl
  rw [hy] at hx
  obtain rfl := Option.some.inj hx
  rw [hn] at hc; cases hc
theorem MgA.push (h : MgA w0 w qb ps v q i p0) {y : Pl} (hy : ps[p0]? = some y) (hn : y.cur.isSome = true) (k : HQ (frnt ps) w2 w0.heap.size qb v2 q') (hp : q'.Perm (q ++ [p0])) (u : UpdT qT w0.heap.size w w2) : MgM w0 w2 qb ps v2 q' i := by
  have h0 : p0 ∉ q := fun m => ((h.mem p0).1 m).1 rfl
  refine ⟨k, h.st.updQ u, fun p => ?_, ?_⟩
  · rw [hp.mem_iff, List.mem_append, List.mem_singleton, h.mem]
    constructor
    · rintro (⟨-, x⟩ | rfl)
      · exact x
      · exact ⟨y, hy, hn⟩
    · rintro ⟨x, hx, hc⟩
      by_cases e : p = p0
      · exact .inr e
      · exact .inl ⟨e, x, hx, hc⟩
  · refine hp.nodup_iff.2 (List.nodup_append.2 ⟨h.nodup, by simp, fun a ha b hb => ?_⟩)
    rw [List.mem_singleton.1 hb]
    rintro rfl
    exact h0 ha
/-- A place was asked: what was written is its source's block and its front's. -/
theorem MgS.ask (h : MgS w0 w ps i) {x y : Pl} (hx : ps[p0]? = some x) (hk : x.k ≠ 0) (hy : y = { x.next with fb := y.fb }) (hb : w0.heap.size ≤ y.fb) (j : Nat) (hj : ∀ p, p ≠ p0 → p < ps.length → (i ≤ p ↔ j ≤ p)) (hj0 : ¬ j ≤ p0)
    (hf : ∀ (p : Nat) (z : Pl), ps[p]? = some z → p ≠ p0 → z.cur.isSome → z.fb ≠ y.fb) (hs : SrcAt w0 w' y (if x.rest.head?.isSome then 0 else 1)) (ht : ∀ (p : Nat) (z : Pl), ps[p]? = some z → z.k ≠ 0 → z.sb ≠ y.fb) (u : UpdF (fun k => k = x.sb ∨ k = y.fb) w w') : MgS w0 w' (ps.set p0 y) j := by
  have hlt : p0 < ps.length := (List.getElem?_eq_some_iff.1 hx).1
  have hysb : y.sb = x.sb := by rw [hy]; rfl
  have hyk : y.k = x.k := by rw [hy]; rfl
  have hyc : y.cur = x.rest.head? := by rw [hy]; rfl
  have cases : ∀ (p : Nat) (z : Pl), (ps.set p0 y)[p]? = some z → (p = p0 ∧ z = y) ∨ (p ≠ p0 ∧ ps[p]? = some z) := fun p z hz => by
    rw [List.getElem?_set] at hz
    split at hz
    · rename_i e
      exact .inl ⟨e.symm, (Option.some.inj hz).symm⟩
    · rename_i e
      exact .inr ⟨fun e' => e e'.symm, hz⟩
  refine ⟨fun p z hz hzk => ?_, fun p z hz hzc => ?_, fun p p' z z' hz hz' hne hzk hzk' => ?_, fun p p' z z' hz hz' hne hzc hzc' => ?_, ?_⟩
  · rcases cases p z hz with ⟨rfl, rfl⟩ | ⟨hp, hz⟩
    · refine ⟨?_, by rw [hysb]; exact (h.src _ x hx hk).2⟩
      rw [hyc]
      have e : (if x.rest.head?.isSome = true ∨ j ≤ p then 0 else 1) = if x.rest.head?.isSome then 0 else 1 := by
        cases x.rest.head?.isSome <;> simp [hj0]
      rw [e]; exact hs
    · have hpl : p < ps.length := (List.getElem?_eq_some_iff.1 hz).1
      obtain ⟨k1, k2⟩ := h.src p z hz hzk
      refine ⟨?_, k2⟩
      have e : (if z.cur.isSome = true ∨ j ≤ p then 0 else 1) = if z.cur.isSome = true ∨ i ≤ p then 0 else 1 := by
        have := hj p hp hpl
        congr 1
        rw [this]
      rw [e]
      refine k1.same (u.block _ k1.lt ?_)
      rintro (e | e)
      · exact h.apart p p0 z x hz hx hp hzk hk e
      · exact ht p z hz hzk e
  · rcases cases p z hz with ⟨rfl, rfl⟩ | ⟨hp, hz⟩
    · exact ⟨hb, by rw [hyk]; exact hk⟩
    · exact h.fbs p z hz hzc
  · rcases cases p z hz with ⟨rfl, rfl⟩ | ⟨hp, h2⟩
    · rcases cases p' z' hz' with ⟨rfl, rfl⟩ | ⟨hp', h3⟩
      · exact absurd rfl hne
      · rw [hysb]; exact h.apart _ _ x z' hx h3 hne hk hzk'
    · rcases cases p' z' hz' with ⟨rfl, rfl⟩ | ⟨hp', h3⟩
      · rw [hysb]; exact h.apart _ _ z x h2 hx hne hzk hk
      · exact h.apart _ _ z z' h2 h3 hne hzk hzk'
  · rcases cases p z hz with ⟨rfl, rfl⟩ | ⟨hp, h2⟩
    · rcases cases p' z' hz' with ⟨rfl, rfl⟩ | ⟨hp', h3⟩
      · exact absurd rfl hne
      · exact (hf p' z' h3 hp' hzc').symm
    · rcases cases p' z' hz' with ⟨rfl, rfl⟩ | ⟨hp', h3⟩
      · exact hf p z h2 hp hzc
      · exact h.apf _ _ z z' h2 h3 hne hzc hzc'
  · refine h.base.trans (UpdF.below u h.base.size fun k hkk e => ?_)
    rcases e with e | e
    · have := (h.src _ x hx hk).2; omega
    · omega
end
end Go.Proofs.Ytmndhmodcglkjaa
