/- The laws' own sources: their rows, how often each was asked. -/
import Derived.Test.YtmndhmodcglkjaaMgBeg
namespace Go.Proofs.Ytmndhmodcglkjaa
set_option linter.unusedVariables false
set_option maxRecDepth 100000
open Go.RowKit
def encT (x : Pl) : List Value := [.pointer (some ⟨x.sb, 0, none⟩)]
theorem encT_len : EncK encT 1 := fun _ => rfl
theorem encT_one (x : Pl) : ∀ u ∈ encT x, u.oneCell' = true := fun u hu => by
  rcases List.mem_cons.1 hu with rfl | hu
  · rfl
  · cases hu
theorem elemK_told : ElemK Try.prog 32 33 1 8 (.pointer none) := ⟨by kernel_rfl, by kernel_rfl, rfl, by decide⟩
structure TolW (w0 : World) (ins : List (List Ent)) (ss : List Pl) (vt vs : Value) (i : Nat) (wr : World) : Prop where
  len : ss.length = i
  src : ∀ (p : Nat) (x : Pl), ss[p]? = some x → ins[p]? = some x.rest ∧ x.k = 1 ∧ x.N = 0 ∧ x.cur = none ∧ w0.heap.size ≤ x.sb ∧ ∃ v, BlkAt wr x.sb #[v, .int .i64 0] 35 ∧ RdK encEnt 5 w0 v x.rest
  apart : ∀ (p p' : Nat) (x x' : Pl), ss[p]? = some x → ss[p']? = some x' → p ≠ p' → x.sb ≠ x'.sb
  rowT : OwnK encT 1 33 w0.heap.size wr vt ss
  rowS : OwnK encS 1 47 w0.heap.size wr vs ss
  base : Below w0.heap.size w0 wr
section
variable {w0 w wr w1 w2 w3 w' : World} {ins : List (List Ent)} {ss ps : List Pl} {vt vs vt' vs' : Value} {i mb n : Nat}
theorem TolW.below (h : TolW w0 ins ss vt vs i wr) (u : Below wr.heap.size wr w') : TolW w0 ins ss vt vs i w' :=
  ⟨h.len, fun p x hx => by
    obtain ⟨h1, h2, h3, h4, h5, v, h6, h7⟩ := h.src p x hx
    exact ⟨h1, h2, h3, h4, h5, v, h6.below u, h7⟩, h.apart, h.rowT.below u, h.rowS.below u, h.base.trans (u.mono h.base.size)⟩
/-- What has written rows of other types alone leaves a block. -/
theorem row_blk {E B k n' : Nat} {v : Value} {xs : List Value} {b : Nat} {cs : Array Value} {t : TypeId} (h : w1.ownsRow B E k v n' xs) (u : UpdF (fun g => v.ownBlock = some g) w1 w2) (hb : BlkAt w1 b cs t) (hne : E ≠ t) : BlkAt w2 b cs t := by
  refine (u.block b hb.lt ?_).trans hb
  intro e
  rcases h.2 with ⟨rfl, -⟩ | ⟨g1, c1, cur1, rfl, -, k1, -⟩
  · cases e
  · obtain rfl : g1 = b := Option.some.inj e
    unfold BlkAt at hb; rw [k1] at hb; cases hb; exact hne rfl
theorem TolW.step (h : TolW w0 ins ss vt vs i wr) {l : List Ent} {u : Value} (hl : ins[i]? = some l) (hu : RdK encEnt 5 w0 u l) (b1 : Below wr.heap.size wr w1) (hb : BlkAt w1 wr.heap.size #[u, .int .i64 0] 35)
    (o2 : OwnK encT 1 33 w0.heap.size w2 vt' (ss ++ [⟨wr.heap.size, 0, 0, 1, none, l⟩])) (b2 : Below w0.heap.size w1 w2) (u2 : UpdF (fun g => vt.ownBlock = some g) w1 w2)
    (o3 : OwnK encS 1 47 w0.heap.size w3 vs' (ss ++ [⟨wr.heap.size, 0, 0, 1, none, l⟩])) (b3 : Below w0.heap.size w2 w3) (u3 : UpdF (fun g => vs.ownBlock = some g) w2 w3) : TolW w0 ins (ss ++ [⟨wr.heap.size, 0, 0, 1, none, l⟩]) vt' vs' (i + 1) w3 := by
  have h1 := h.below b1
  have s2 : OwnK encS 1 47 w0.heap.size w2 vs ss := OwnK.beside h1.rowT h1.rowS (by decide) u2
  have keep : ∀ {sb : Nat} {cs : Array Value}, BlkAt w1 sb cs 35 → BlkAt w3 sb cs 35 := fun {sb cs} hk => row_blk s2 u3 (row_blk h1.rowT u2 hk (by decide)) (by decide)
  have cases : ∀ (p : Nat) (x : Pl), (ss ++ [⟨wr.heap.size, 0, 0, 1, none, l⟩])[p]? = some x → ss[p]? = some x ∨ (p = i ∧ x = ⟨wr.heap.size, 0, 0, 1, none, l⟩) := fun p x hx => by
    rcases Nat.lt_or_ge p ss.length with e | e
    · rw [List.getElem?_append_left e] at hx; exact .inl hx
    · rw [List.getElem?_append_right e] at hx
      rcases Nat.eq_zero_or_pos (p - ss.length) with e2 | e2
      · rw [e2] at hx
        exact .inr ⟨by have := h.len; omega, (Option.some.inj hx).symm⟩
      · rw [List.getElem?_eq_none (by simp; omega)] at hx; cases hx
  have old : ∀ (p : Nat) (x : Pl), ss[p]? = some x → x.sb < wr.heap.size := fun p x hx => by
    obtain ⟨-, -, -, -, -, v, h5, -⟩ := h.src p x hx
    exact h5.lt
  refine ⟨by simp [h.len], fun p x hx => ?_, fun p p' x x' hx hx' hne => ?_, OwnK.beside s2 o2 (by decide) u3, o3, (h1.base.trans b2).trans b3⟩
  · rcases cases p x hx with hx | ⟨rfl, rfl⟩
    · obtain ⟨k1, k2, k3, k4, k5, v, k6, k7⟩ := h1.src p x hx
      exact ⟨k1, k2, k3, k4, k5, v, keep k6, k7⟩
    · exact ⟨hl, rfl, rfl, rfl, h.base.size, u, keep hb, hu⟩
  · rcases cases p x hx with k | ⟨rfl, rfl⟩
    · rcases cases p' x' hx' with k' | ⟨rfl, rfl⟩
      · exact h.apart p p' x x' k k' hne
      · have := old p x k
        show x.sb ≠ wr.heap.size
        omega
    · rcases cases p' x' hx' with k' | ⟨rfl, rfl⟩
      · have := old p' x' k'
        show wr.heap.size ≠ x'.sb
        omega
      · exact absurd rfl hne
theorem TolW.srcs (h : TolW w0 ins ss vt vs i wr) (hs : ∀ l, l ∈ ins → SrtW l ∧ l.length ≤ 15) : SrcsAt w0 wr ss := by
  refine ⟨fun p x hx hk => ?_, fun p x hx => ?_, fun p p' x x' hx hx' hne _ _ => h.apart p p' x x' hx hx' hne, h.base⟩
  · obtain ⟨h1, h2, h3, -, h4, v, h5, h6⟩ := h.src p x hx
    refine ⟨.inl ⟨h2, v, x.rest, by rw [h3]; exact h5, h6, ?_, by rw [h3]; rfl, by omega⟩, h4⟩
    have := (hs _ (List.mem_of_getElem? h1)).2
    omega
  · obtain ⟨h1, h2, h3, h4, -⟩ := h.src p x hx
    refine ⟨h4, ?_, fun e => by omega⟩
    unfold Pl.tot
    rw [h4]
    exact (hs _ (List.mem_of_getElem? h1)).1
def sumN (ps : List Pl) : Nat := (ps.map Pl.N).sum
theorem sumN_set {p : Nat} {x : Pl} (hx : ps[p]? = some x) : sumN (ps.set p x.next) = sumN ps + 1 := by
  have hlt := (List.getElem?_eq_some_iff.1 hx).1
  have e1 : ps = ps.take p ++ x :: ps.drop (p + 1) := by
    conv => lhs; rw [← List.take_append_drop p ps, List.drop_eq_getElem_cons hlt]
    rw [show ps[p] = x from Option.some.inj ((List.getElem?_eq_getElem hlt).symm.trans hx)]
  rw [List.set_eq_take_append_cons_drop, if_pos hlt]
  conv => rhs; rw [e1]
  unfold sumN
  simp only [List.map_append, List.map_cons, List.sum_append, List.sum_cons]
  show _ + (x.N + 1 + _) = _
  omega
theorem sumN_take {p : Nat} {x : Pl} (hx : ps[p]? = some x) : sumN (ps.take (p + 1)) = sumN (ps.take p) + x.N := by
  have hlt := (List.getElem?_eq_some_iff.1 hx).1
  rw [List.take_succ_eq_append_getElem hlt, show ps[p] = x from Option.some.inj ((List.getElem?_eq_getElem hlt).symm.trans hx)]
  unfold sumN
  simp
/-- A merge of the laws' own sources, n entries told. -/
structure RunW (w0 : World) (mb : Nat) (ss ps : List Pl) (vt vw : Value) (want : List Ent) (n : Nat) (wr : World) : Prop where
  mg : MgAt w0 wr mb ps
  len : ps.length = ss.length
  eq : ∀ (p : Nat) (x' : Pl), ps[p]? = some x' → ∃ x, ss[p]? = some x ∧ x'.sb = x.sb ∧ x'.k = 1
  sum : sumN ps = ss.length + n
  all : allL ps = want.drop n
  rowT : OwnK encT 1 33 w0.heap.size wr vt ss
  rowW : OwnK encEnt 5 28 0 wr vw want
theorem RunW.below {vw : Value} {want : List Ent} (h : RunW w0 mb ss ps vt vw want n wr) (u : Below wr.heap.size wr w') : RunW w0 mb ss ps vt vw want n w' :=
  ⟨h.mg.below u, h.len, h.eq, h.sum, h.all, h.rowT.below u, h.rowW.below u⟩
theorem TolW.run {vw : Value} {want : List Ent} (h : TolW w0 ins ss vt vs ins.length wr) (hw : want = mrgL ins.flatten) (m : MgAt w0 w' mb ps) (hl : ps.length = ss.length) (ho : ∀ (p : Nat) (x' : Pl), ps[p]? = some x' → ∃ x, ss[p]? = some x ∧ Asked x x') (u : UpdT mS w0.heap.size wr w') (hr : OwnK encEnt 5 28 0 wr vw want) : RunW w0 mb ss ps vt vw want 0 w' := by
  refine ⟨m, hl, fun p x' hx' => ?_, ?_, ?_, h.rowT.updT u (by decide), hr.updT u (by decide)⟩
  · obtain ⟨x, hx, ha⟩ := ho p x' hx'
    exact ⟨x, hx, ha.sb, by rw [ha.k]; exact (h.src p x hx).2.1⟩
  · have e : ps.map Pl.N = List.replicate ss.length 1 := by
      rw [List.eq_replicate_iff]
      refine ⟨by rw [List.length_map, hl], fun b hb => ?_⟩
      obtain ⟨x', hx', rfl⟩ := List.mem_map.1 hb
      obtain ⟨p, hp, rfl⟩ := List.getElem_of_mem hx'
      obtain ⟨x, hx, ha⟩ := ho p ps[p] (List.getElem?_eq_getElem hp)
      obtain ⟨-, k1, k2, -⟩ := h.src p x hx
      rw [ha.N, k2, k1]; rfl
    unfold sumN
    rw [e]
    simp
  · unfold allL
    rw [asked_tots hl ho, hw]
    have e : ss.map Pl.tot = ins := by
      apply List.ext_getElem?
      intro p
      rw [List.getElem?_map]
      rcases Nat.lt_or_ge p ss.length with hp | hp
      · obtain ⟨k1, -, -, k2, -⟩ := h.src p ss[p] (List.getElem?_eq_getElem hp)
        rw [List.getElem?_eq_getElem hp, Option.map_some, k1]
        unfold Pl.tot; rw [k2]; rfl
      · rw [List.getElem?_eq_none hp, List.getElem?_eq_none (by have := h.len; omega)]; rfl
    rw [List.flatMap_def, e]; rfl
/-- Next told the entry n. -/
theorem RunW.next {vw : Value} {want : List Ent} {x : Ent} {e : Ending} (h : RunW w0 mb ss ps vt vw want n wr) (hx : want[n]? = some x) (k : NextTo w0 mb ps wr e w') : e = .returned (nxV (some x)) ∧ ∃ ps', RunW w0 mb ss ps' vt vw want (n + 1) w' := by
  have hlt := (List.getElem?_eq_some_iff.1 hx).1
  have hd : want.drop n = x :: want.drop (n + 1) := by
    rw [List.drop_eq_getElem_cons hlt, show want[n] = x from Option.some.inj ((List.getElem?_eq_getElem hlt).symm.trans hx)]
  obtain ⟨u, ⟨h1, -⟩ | ⟨p, y, m, h1, h2, h3, h4, h5⟩⟩ := k
  · rw [h.all, hd] at h1; cases h1
  · rw [h.all, hd] at h3
    obtain ⟨rfl, h6⟩ := List.cons.inj h3
    refine ⟨h4, _, h5, by rw [List.length_set]; exact h.len, fun q z hz => ?_, by rw [sumN_set h1, h.sum]; omega, h6.symm, h.rowT.updT u (by decide), h.rowW.updT u (by decide)⟩
    rw [List.getElem?_set] at hz
    split at hz
    · rename_i e
      subst e
      have hp := (List.getElem?_eq_some_iff.1 h1).1
      simp only [hp, if_true, Option.some.injEq] at hz
      subst hz
      exact h.eq p y h1
    · exact h.eq q z hz
theorem RunW.over {vw : Value} {want : List Ent} {e : Ending} (h : RunW w0 mb ss ps vt vw want n wr) (hn : n = want.length) (k : NextTo w0 mb ps wr e w') : e = .returned (nxV none) ∧ UpdT mS w0.heap.size wr w' := by
  obtain ⟨u, ⟨-, h2, -⟩ | ⟨p, y, m, -, -, h3, -⟩⟩ := k
  · exact ⟨h2, u⟩
  · rw [h.all, hn, List.drop_length] at h3; cases h3
/-- How often a source was asked, as it lies there. -/
theorem RunW.asked {vw : Value} {want : List Ent} (h : RunW w0 mb ss ps vt vw want n wr) {p : Nat} {y : Pl} (hy : ss[p]? = some y) : ∃ x, ps[p]? = some x ∧ wr.cell? ⟨y.sb, 1, none⟩ = some (.int .i64 (x.N : Int)) := by
  have hlt : p < ps.length := by rw [h.len]; exact (List.getElem?_eq_some_iff.1 hy).1
  refine ⟨ps[p], List.getElem?_eq_getElem hlt, ?_⟩
  obtain ⟨z, hz, e1, e2⟩ := h.eq p ps[p] (List.getElem?_eq_getElem hlt)
  rw [hy] at hz
  obtain rfl := Option.some.inj hz
  obtain ⟨qb, v, q, -, k2, -⟩ := h.mg
  obtain ⟨⟨-, v, l, k3, -⟩ | ⟨k3, -⟩, -⟩ := k2.st.src p ps[p] (List.getElem?_eq_getElem hlt) (by omega)
  · rw [e1] at k3
    exact k3.at 1
  · omega
end
end Go.Proofs.Ytmndhmodcglkjaa
