/- Sorted lists put together: what comes next, of places and their fronts. Plain mathematics. -/
import Derived.Test.YtmndhmodcglkjaaHeapMath
import Derived.Test.YtmndhmodcglkjaaEntLess
namespace Go.Proofs.Ytmndhmodcglkjaa
set_option linter.unusedVariables false
/-- ltE hangs on norm, number and kind alone. -/
theorem ltE_like {a b c d : Ent} (h1 : a.norm = c.norm) (h2 : a.seq = c.seq) (h3 : a.kind = c.kind) (k1 : b.norm = d.norm) (k2 : b.seq = d.seq) (k3 : b.kind = d.kind) : ltE a b ↔ ltE c d := by
  unfold ltE; rw [h1, h2, h3, k1, k2, k3]
theorem nlt_trans {a b c : Ent} (h : ¬ ltE a b) (k : ¬ ltE b c) : ¬ ltE a c := fun l => by
  rcases ltE_tri a b with h1 | ⟨h1, h2, h3⟩ | h1
  · exact h h1
  · exact k ((ltE_like h1 h2 h3 rfl rfl rfl).1 l)
  · exact k (ltE_trans h1 l)
/-- Of fronts K: that of the place a is told ahead of that of b. -/
def ltPl (K : Nat → Ent) (a b : Nat) : Bool := if a < b then !ltB (K b) (K a) else ltB (K a) (K b)
theorem ltPl_iff (K : Nat → Ent) (a b : Nat) : ltPl K a b = true ↔ ltE (K a) (K b) ∨ (¬ ltE (K b) (K a) ∧ a < b) := by
  unfold ltPl ltB
  split
  · rename_i h
    simp only [Bool.not_eq_true', decide_eq_false_iff_not]
    constructor
    · exact fun k => .inr ⟨k, h⟩
    · rintro (k | ⟨k, -⟩)
      · exact ltE_asym k
      · exact k
  · rename_i h
    simp only [decide_eq_true_eq]
    exact ⟨.inl, fun k => k.elim id fun k => absurd k.2 h⟩
theorem ltPl_not (K : Nat → Ent) (a b : Nat) : ltPl K a b = false ↔ ¬ ltE (K a) (K b) ∧ (a < b → ltE (K b) (K a)) := by
  rw [← Bool.not_eq_true, ltPl_iff]
  constructor
  · intro h
    exact ⟨fun k => h (.inl k), fun k => Classical.byContradiction fun n => h (.inr ⟨n, k⟩)⟩
  · rintro ⟨h1, h2⟩ (k | ⟨k, l⟩)
    · exact h1 k
    · exact k (h2 l)
theorem wkP (K : Nat → Ent) : WkO (ltPl K) := by
  refine ⟨fun a => ?_, fun a b c h k => ?_, fun a b c h k => ?_⟩
  · rw [ltPl_not]; exact ⟨ltE_irr _, fun h => absurd h (Nat.lt_irrefl _)⟩
  · rw [ltPl_iff] at h k ⊢
    rcases h with h | ⟨h, h'⟩
    · rcases k with k | ⟨k, -⟩
      · exact .inl (ltE_trans h k)
      · exact .inl (Classical.byContradiction fun n => nlt_trans n k h)
    · rcases k with k | ⟨k, k'⟩
      · exact .inl (Classical.byContradiction fun n => nlt_trans h n k)
      · exact .inr ⟨nlt_trans k h, by omega⟩
  · rw [ltPl_not] at h k ⊢
    refine ⟨nlt_trans h.1 k.1, fun l => ?_⟩
    rcases Nat.lt_or_ge a b with h1 | h1
    · exact Classical.byContradiction fun n => nlt_trans k.1 n (h.2 h1)
    · exact Classical.byContradiction fun n => nlt_trans n h.1 (k.2 (by omega))
/-- Not falling. -/
def SrtW (l : List Ent) : Prop := l.Pairwise fun a b => ¬ ltE b a
/-- All of a list, one by one, into sorted ones. -/
def mrgL (l : List Ent) : List Ent := l.foldl (fun acc e => intoE e acc) []
theorem mrgL_snoc (l : List Ent) (e : Ent) : mrgL (l ++ [e]) = intoE e (mrgL l) := by unfold mrgL; rw [List.foldl_append]; rfl
theorem mrgL_app (l r : List Ent) : mrgL (l ++ r) = r.foldl (fun acc e => intoE e acc) (mrgL l) := by unfold mrgL; rw [List.foldl_append]
theorem into_front {m : Ent} : ∀ {l : List Ent}, (∀ a ∈ l, ltE m a) → intoE m l = m :: l
  | [], _ => rfl
  | x :: r, h => by rw [intoE, if_pos (h x (List.mem_cons_self ..))]
theorem into_behind {e m : Ent} (h : ¬ ltE e m) (l : List Ent) : intoE e (m :: l) = m :: intoE e l := by rw [intoE, if_neg h]
theorem into_last {e : Ent} : ∀ {l : List Ent}, (∀ a ∈ l, ¬ ltE e a) → intoE e l = l ++ [e]
  | [], _ => rfl
  | x :: r, h => by rw [into_behind (h x (List.mem_cons_self ..)), into_last fun a ha => h a (List.mem_cons_of_mem _ ha)]; rfl
theorem fold_behind {m : Ent} : ∀ (C X : List Ent), (∀ c ∈ C, ¬ ltE c m) → C.foldl (fun acc e => intoE e acc) (m :: X) = m :: C.foldl (fun acc e => intoE e acc) X
  | [], X, _ => rfl
  | c :: C, X, h => by
    rw [List.foldl_cons, into_behind (h c (List.mem_cons_self ..)), fold_behind C _ fun x hx => h x (List.mem_cons_of_mem _ hx)]; rfl
theorem mrgL_perm (l : List Ent) : (mrgL l).Perm l := by
  have into_perm : ∀ (e : Ent) (l : List Ent), (intoE e l).Perm (e :: l) := fun e l => by
    induction l with
    | nil => exact .refl _
    | cons x r ih =>
      unfold intoE
      split
      · exact .refl _
      · exact ((ih.cons x).trans (.swap e x r))
  have : ∀ (l acc : List Ent), (l.foldl (fun acc e => intoE e acc) acc).Perm (acc ++ l) := fun l => by
    induction l with
    | nil => intro acc; simp
    | cons e l ih =>
      intro acc
      rw [List.foldl_cons]
      refine (ih _).trans (((into_perm e acc).append_right l).trans ?_)
      simpa using (List.perm_middle (l₁ := acc) (a := e) (l₂ := l)).symm
  unfold mrgL; simpa using this l []
theorem mrgL_mem {l : List Ent} {x : Ent} : x ∈ mrgL l ↔ x ∈ l := (mrgL_perm l).mem_iff
theorem mrgL_len (l : List Ent) : (mrgL l).length = l.length := (mrgL_perm l).length_eq
theorem into_srt {e : Ent} : ∀ {l : List Ent}, SrtW l → SrtW (intoE e l)
  | [], _ => by simp [intoE, SrtW]
  | x :: r, h => by
    obtain ⟨h1, h2⟩ := List.pairwise_cons.1 h
    unfold intoE
    split
    · rename_i hl
      refine List.pairwise_cons.2 ⟨fun y hy => ?_, h⟩
      rcases List.mem_cons.1 hy with rfl | hy
      · exact ltE_asym hl
      · exact fun k => h1 y hy (ltE_trans k hl)
    · rename_i hl
      refine List.pairwise_cons.2 ⟨fun y hy => ?_, into_srt h2⟩
      rcases intoE_mem.1 hy with rfl | hy
      · exact hl
      · exact h1 y hy
theorem mrgL_srt (l : List Ent) : SrtW (mrgL l) := by
  have : ∀ (l acc : List Ent), SrtW acc → SrtW (l.foldl (fun acc e => intoE e acc) acc) := fun l => by
    induction l with
    | nil => exact fun _ h => h
    | cons e l ih => exact fun acc h => ih _ (into_srt h)
  exact this l [] .nil
/-- The first of all, ahead of each that stands ahead of it. -/
theorem mrg_front {A C : List Ent} {m : Ent} (hA : ∀ a ∈ A, ltE m a) (hC : ∀ c ∈ C, ¬ ltE c m) : mrgL (A ++ m :: C) = m :: mrgL (A ++ C) := by
  rw [mrgL_app, List.foldl_cons, into_front (fun a ha => hA a (mrgL_mem.1 ha)), fold_behind C _ hC, mrgL_app]
/-- A place of a merge: its source's block, its front's, how often it was asked; of which make it is (0: none, 1: the law's own, 2: a slice); the front's entry; what is still to come. -/
structure Pl where
  sb : Nat
  fb : Nat
  N : Nat
  k : Nat
  cur : Option Ent
  rest : List Ent
def Pl.tot (x : Pl) : List Ent := x.cur.toList ++ x.rest
/-- The front's entry. -/
def keyPl (ps : List Pl) (p : Nat) : Ent := ((ps[p]?).bind Pl.cur).getD Ent.none
/-- A place's front was told: it was asked once more. -/
def Pl.next (x : Pl) : Pl := { x with cur := x.rest.head?, rest := x.rest.tail, N := x.N + 1 }
structure GoodP (ps : List Pl) : Prop where
  srt : ∀ (p : Nat) (x : Pl), ps[p]? = some x → SrtW x.tot
  fin : ∀ (p : Nat) (x : Pl), ps[p]? = some x → x.cur = none → x.rest = []
theorem Pl.next_tot {x : Pl} {m : Ent} (h : x.cur = some m) : x.tot = m :: x.next.tot := by
  unfold Pl.tot Pl.next
  rw [h]
  cases x.rest <;> rfl
theorem GoodP.next {ps : List Pl} (h : GoodP ps) {p : Nat} {x : Pl} {m : Ent} (hx : ps[p]? = some x) (hm : x.cur = some m) : GoodP (ps.set p x.next) := by
  have hlt : p < ps.length := (List.getElem?_eq_some_iff.1 hx).1
  refine ⟨fun i y hy => ?_, fun i y hy hn => ?_⟩
  · rw [List.getElem?_set] at hy
    split at hy
    · subst_vars
      obtain rfl := Option.some.inj hy
      have := h.srt _ _ hx
      rw [Pl.next_tot hm] at this
      exact (List.pairwise_cons.1 this).2
    · exact h.srt _ _ hy
  · rw [List.getElem?_set] at hy
    split at hy
    · subst_vars
      obtain rfl := Option.some.inj hy
      unfold Pl.next at hn ⊢
      simp only [List.head?_eq_none_iff] at hn
      simp [hn]
    · exact h.fin _ _ hy hn
theorem keyPl_at {ps : List Pl} {p : Nat} {x : Pl} {m : Ent} (hx : ps[p]? = some x) (hm : x.cur = some m) : keyPl ps p = m := by
  unfold keyPl; rw [hx]; simp [hm]
theorem tot_head {x : Pl} (hs : SrtW x.tot) (hn : x.cur = none → x.rest = []) {a : Ent} (ha : a ∈ x.tot) : ∃ m, x.cur = some m ∧ ¬ ltE a m := by
  cases hc : x.cur with
  | none => unfold Pl.tot at ha; rw [hc, hn hc] at ha; simp at ha
  | some m =>
    refine ⟨m, rfl, ?_⟩
    unfold Pl.tot at ha hs
    rw [hc] at ha hs
    rcases List.mem_cons.1 ha with rfl | h
    · exact ltE_irr _
    · exact (List.pairwise_cons.1 hs).1 a h
/-- The front that none is ahead of is told next. -/
theorem GoodP.told {ps : List Pl} (h : GoodP ps) {p : Nat} {x : Pl} {m : Ent} (hx : ps[p]? = some x) (hm : x.cur = some m)
    (hmin : ∀ (p' : Nat) (x' : Pl) (m' : Ent), ps[p']? = some x' → x'.cur = some m' → ltPl (keyPl ps) p' p = false) : mrgL (ps.flatMap Pl.tot) = m :: mrgL ((ps.set p x.next).flatMap Pl.tot) := by
  have hlt : p < ps.length := (List.getElem?_eq_some_iff.1 hx).1
  have hk := keyPl_at hx hm
  have e1 : ps = ps.take p ++ x :: ps.drop (p + 1) := by
    conv => lhs; rw [← List.take_append_drop p ps, List.drop_eq_getElem_cons hlt]
    rw [show ps[p] = x from Option.some.inj ((List.getElem?_eq_getElem hlt).symm.trans hx)]
  have e2 : ps.set p x.next = ps.take p ++ x.next :: ps.drop (p + 1) := by
    rw [List.set_eq_take_append_cons_drop, if_pos hlt]
  rw [e2]
  conv => lhs; rw [e1]
  simp only [List.flatMap_append, List.flatMap_cons]
  rw [Pl.next_tot hm, List.cons_append]
  refine mrg_front (fun a ha => ?_) (fun c hc => ?_)
  · obtain ⟨y, hy, hay⟩ := List.mem_flatMap.1 ha
    obtain ⟨i, hi, rfl⟩ := List.getElem_of_mem hy
    rw [List.length_take] at hi
    have hyi : ps[i]? = some (ps.take p)[i] := by rw [List.getElem_take, List.getElem?_eq_getElem (by omega)]
    obtain ⟨m', hm', hn⟩ := tot_head (h.srt _ _ hyi) (h.fin _ _ hyi) hay
    have := (ltPl_not _ _ _).1 (hmin i _ m' hyi hm')
    rw [keyPl_at hyi hm', hk] at this
    exact Classical.byContradiction fun n => nlt_trans n hn (this.2 (by omega))
  · rcases List.mem_append.1 hc with hc | hc
    · have := h.srt _ _ hx
      rw [Pl.next_tot hm] at this
      exact (List.pairwise_cons.1 this).1 c hc
    · obtain ⟨y, hy, hay⟩ := List.mem_flatMap.1 hc
      obtain ⟨i, hi, rfl⟩ := List.getElem_of_mem hy
      rw [List.length_drop] at hi
      have hyi : ps[p + 1 + i]? = some (ps.drop (p + 1))[i] := by rw [List.getElem_drop, List.getElem?_eq_getElem (by omega)]
      obtain ⟨m', hm', hn⟩ := tot_head (h.srt _ _ hyi) (h.fin _ _ hyi) hay
      have := (ltPl_not _ _ _).1 (hmin _ _ m' hyi hm')
      rw [keyPl_at hyi hm', hk] at this
      exact nlt_trans hn this.1
theorem GoodP.end {ps : List Pl} (h : GoodP ps) (hn : ∀ (p : Nat) (x : Pl), ps[p]? = some x → x.cur = none) : mrgL (ps.flatMap Pl.tot) = [] := by
  have : ps.flatMap Pl.tot = [] := by
    rw [List.flatMap_eq_nil_iff]
    intro x hx
    obtain ⟨i, hi, rfl⟩ := List.getElem_of_mem hx
    have hy : ps[i]? = some ps[i] := List.getElem?_eq_getElem hi
    unfold Pl.tot
    rw [hn _ _ hy, h.fin _ _ hy (hn _ _ hy)]; rfl
  rw [this]; rfl
end Go.Proofs.Ytmndhmodcglkjaa
