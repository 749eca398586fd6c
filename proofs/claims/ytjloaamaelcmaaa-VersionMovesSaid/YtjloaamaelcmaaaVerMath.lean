/- Versions in plain words: what an edit makes of one, its levels, who overlaps a span; none of this hangs on the order in which the tables are kept. -/
import Derived.Test.YtjloaamaelcmaaaMEdt
namespace Go.Proofs.Ytjloaamaelcmaaa
set_option linter.unusedVariables false
structure Ver where
  fs : List Tbf
  nx : Int
  lg : Int
  ls : Int
def Ver.new : Ver := ⟨[], 1, 0, 0⟩
/-- Two tables of one level above 0 that have a text in common. -/
def vClash (f g : Tbf) : Prop := f.lvl = g.lvl ∧ 0 < f.lvl ∧ ¬ bl g.hi f.lo ∧ ¬ bl f.hi g.lo
instance (f g : Tbf) : Decidable (vClash f g) := inferInstanceAs (Decidable (_ ∧ _ ∧ _ ∧ _))
theorem vClash_comm {f g : Tbf} (h : vClash f g) : vClash g f := ⟨h.1.symm, by rw [← h.1]; exact h.2.1, h.2.2.2, h.2.2.1⟩
def vApart (l : List Tbf) : Prop := l.Pairwise fun f g => ¬ vClash f g
def vHas (l : List Tbf) (n : Int) : Prop := ∃ f ∈ l, f.num = n
instance (l : List Tbf) (n : Int) : Decidable (vHas l n) := inferInstanceAs (Decidable (∃ f ∈ l, _))
instance (l : List Tbf) : Decidable (vApart l) := inferInstanceAs (Decidable (List.Pairwise _ l))
/-- The table of a number goes. -/
def vDel (l : List Tbf) (n : Int) : List Tbf := l.eraseP fun f => decide (f.num = n)
def vDels : List Tbf → List Int → Option (List Tbf)
  | l, [] => some l
  | l, n :: r => if vHas l n then vDels (vDel l n) r else none
def vAdds : List Tbf → List Tbf → Option (List Tbf)
  | l, [] => some l
  | l, f :: r => if vHas l f.num then none else vAdds (l ++ [f]) r
/-- A number of an edit, or what stood. -/
def vOr (x y : Int) : Int := if x = 0 then y else x
/-- May this stand behind V? -/
def vMay (V n : Ver) : Prop := vApart n.fs ∧ n.fs.length ≤ 200 ∧ V.nx ≤ n.nx ∧ V.lg ≤ n.lg ∧ V.ls ≤ n.ls ∧ ¬ (n.nx ≤ n.lg ∧ 0 < n.lg) ∧ ∀ f ∈ n.fs, f.num < n.nx
instance (V n : Ver) : Decidable (vMay V n) := inferInstanceAs (Decidable (_ ∧ _ ∧ _ ∧ _ ∧ _ ∧ _ ∧ _))
/-- What an edit makes of V; none: ErrForm. -/
def applyV (V : Ver) (e : Edt) : Option Ver :=
  if mayE e then
    match vDels V.fs e.dels with
    | none => none
    | some l => match vAdds l e.adds with
      | none => none
      | some m => if vMay V ⟨m, vOr e.nxt V.nx, vOr e.lg V.lg, vOr e.lst V.ls⟩ then some ⟨m, vOr e.nxt V.nx, vOr e.lg V.lg, vOr e.lst V.ls⟩ else none
  else none
/-- What any version is. -/
structure GoodV (V : Ver) : Prop where
  nums : (V.fs.map Tbf.num).Nodup
  apart : vApart V.fs
  few : V.fs.length ≤ 200
  right : ∀ f ∈ V.fs, ¬ badTb f
  below : ∀ f ∈ V.fs, f.num < V.nx
  nx1 : 1 ≤ V.nx
  nx2 : V.nx ≤ 1125899906842624
  lg0 : 0 ≤ V.lg
  lg1 : V.lg < V.nx
  ls0 : 0 ≤ V.ls
  ls2 : V.ls ≤ 1125899906842624
theorem new_good : GoodV Ver.new := ⟨List.nodup_nil, List.Pairwise.nil, by decide, by simp [Ver.new], by simp [Ver.new], by decide, by decide, by decide, by decide, by decide, by decide⟩
theorem vDel_sub (l : List Tbf) (n : Int) : (vDel l n).Sublist l := List.eraseP_sublist
theorem vDels_sub : ∀ {l : List Tbf} {ns : List Int} {m : List Tbf}, vDels l ns = some m → m.Sublist l
  | l, [], m, h => by obtain rfl := Option.some.inj h; exact List.Sublist.refl _
  | l, n :: r, m, h => by
    rw [vDels] at h
    split at h
    · exact (vDels_sub h).trans (vDel_sub l n)
    · cases h
theorem vHas_num {l : List Tbf} {n : Int} : vHas l n ↔ n ∈ l.map Tbf.num := by
  unfold vHas
  rw [List.mem_map]
theorem vAdds_is : ∀ {a l m : List Tbf}, vAdds l a = some m → m = l ++ a ∧ ((l.map Tbf.num).Nodup → (m.map Tbf.num).Nodup)
  | [], l, m, h => by obtain rfl := Option.some.inj h; exact ⟨by simp, fun h => h⟩
  | f :: r, l, m, h => by
    rw [vAdds] at h
    split at h
    · cases h
    · rename_i hf
      obtain ⟨h1, h2⟩ := vAdds_is h
      refine ⟨by rw [h1]; simp, fun hn => h2 ?_⟩
      rw [List.map_append, List.nodup_append]
      refine ⟨hn, by simp, fun a ha b hb => ?_⟩
      have hb' : b = f.num := by simpa using hb
      subst hb'
      rintro rfl
      exact hf (vHas_num.2 ha)
/-- Just where all these numbers are new, and apart. -/
theorem vAdds_some : ∀ {a l : List Tbf}, ((l ++ a).map Tbf.num).Nodup → vAdds l a = some (l ++ a)
  | [], l, _ => by simp [vAdds]
  | f :: r, l, h => by
    rw [vAdds, if_neg, vAdds_some (by rw [List.append_assoc]; exact h)]
    · simp
    · intro hf
      rw [List.map_append, List.nodup_append] at h
      exact h.2.2 f.num (vHas_num.1 hf) f.num (by simp) rfl
theorem vOr_bd {x y : Int} (hx : okEdN x) (hy0 : 0 ≤ y) (hy : y ≤ 1125899906842624) : 0 ≤ vOr x y ∧ vOr x y ≤ 1125899906842624 := by
  unfold vOr okEdN at *
  split <;> omega
theorem applyV_good {V n : Ver} {e : Edt} (h : GoodV V) (ha : applyV V e = some n) : GoodV n := by
  unfold applyV at ha
  split at ha
  · rename_i hm
    cases hd : vDels V.fs e.dels with
    | none => rw [hd] at ha; cases ha
    | some l =>
      rw [hd] at ha
      simp only at ha
      cases hb : vAdds l e.adds with
      | none => rw [hb] at ha; cases ha
      | some m =>
        rw [hb] at ha
        simp only at ha
        split at ha
        · rename_i hv
          obtain rfl := Option.some.inj ha
          obtain ⟨⟨o1, o2, o3⟩, -, h5, -⟩ := hm
          obtain ⟨h6, h7⟩ := vAdds_is hb
          have hs := vDels_sub hd
          obtain ⟨v1, v2, v3, v4, v5, v6, v7⟩ := hv
          simp only at v1 v2 v3 v4 v5 v6 v7
          have b1 := vOr_bd o1 (by have := h.nx1; omega) h.nx2
          have b2 := vOr_bd o2 h.lg0 (by have := h.lg1; have := h.nx2; omega)
          have b3 := vOr_bd o3 h.ls0 h.ls2
          refine ⟨h7 ((hs.map _).nodup h.nums), v1, v2, fun f hf => ?_, v7, by have := h.nx1; show 1 ≤ vOr _ _; omega, b1.2, b2.1, ?_, b3.1, b3.2⟩
          · have hf' : f ∈ m := hf
            rw [h6] at hf'
            rcases List.mem_append.1 hf' with hf' | hf'
            · exact h.right f (hs.subset hf')
            · exact h5 f hf'
          · show vOr e.lg V.lg < vOr e.nxt V.nx
            have := h.nx1
            omega
        · cases ha
  · cases ha
/-- Two versions that tell the same. -/
def vSame (V W : Ver) : Prop := V.fs.Perm W.fs ∧ V.nx = W.nx ∧ V.lg = W.lg ∧ V.ls = W.ls
theorem vSame.refl (V : Ver) : vSame V V := ⟨List.Perm.refl _, rfl, rfl, rfl⟩
theorem vSame.symm {V W : Ver} (h : vSame V W) : vSame W V := ⟨h.1.symm, h.2.1.symm, h.2.2.1.symm, h.2.2.2.symm⟩
theorem vSame.trans {V W X : Ver} (h : vSame V W) (k : vSame W X) : vSame V X := ⟨h.1.trans k.1, h.2.1.trans k.2.1, h.2.2.1.trans k.2.2.1, h.2.2.2.trans k.2.2.2⟩
theorem vApart_perm {l m : List Tbf} (h : l.Perm m) (ha : vApart l) : vApart m := (h.pairwise_iff fun hn hc => hn (vClash_comm hc)).1 ha
theorem vSame.good {V W : Ver} (h : vSame V W) (g : GoodV V) : GoodV W := by
  obtain ⟨h1, h2, h3, h4⟩ := h
  exact ⟨(h1.map _).nodup_iff.1 g.nums, vApart_perm h1 g.apart, by rw [← h1.length_eq]; exact g.few, fun f hf => g.right f (h1.mem_iff.2 hf), fun f hf => by rw [← h2]; exact g.below f (h1.mem_iff.2 hf), by rw [← h2]; exact g.nx1, by rw [← h2]; exact g.nx2, by rw [← h3]; exact g.lg0, by rw [← h3, ← h2]; exact g.lg1, by rw [← h4]; exact g.ls0, by rw [← h4]; exact g.ls2⟩
theorem vHas_perm {l m : List Tbf} (h : l.Perm m) (n : Int) : vHas l n ↔ vHas m n := by
  rw [vHas_num, vHas_num]; exact (h.map _).mem_iff
/-- Where each number is there once, what goes is what has the number. -/
theorem vDel_filter : ∀ {l : List Tbf} (n : Int), (l.map Tbf.num).Nodup → vDel l n = l.filter fun f => !decide (f.num = n)
  | [], n, _ => rfl
  | f :: r, n, h => by
    rw [List.map_cons, List.nodup_cons] at h
    unfold vDel
    by_cases hf : f.num = n
    · rw [List.eraseP_cons_of_pos (by simpa using hf), List.filter_cons_of_neg (by simpa using hf)]
      refine (List.filter_eq_self.2 fun g hg => ?_).symm
      have : g.num ≠ n := fun e => h.1 (List.mem_map.2 ⟨g, hg, by rw [e, hf]⟩)
      simpa using this
    · rw [List.eraseP_cons_of_neg (by simpa using hf), List.filter_cons_of_pos (by simpa using hf)]
      congr 1
      exact vDel_filter n h.2
theorem vDel_perm {l m : List Tbf} (n : Int) (h : l.Perm m) (hl : (l.map Tbf.num).Nodup) : (vDel l n).Perm (vDel m n) := by
  rw [vDel_filter n hl, vDel_filter n ((h.map _).nodup_iff.1 hl)]
  exact h.filter _
theorem vDels_perm : ∀ {ns : List Int} {l m : List Tbf}, l.Perm m → (l.map Tbf.num).Nodup → (vDels l ns = none ∧ vDels m ns = none) ∨ ∃ p q, vDels l ns = some p ∧ vDels m ns = some q ∧ p.Perm q
  | [], l, m, h, _ => .inr ⟨l, m, rfl, rfl, h⟩
  | n :: r, l, m, h, hl => by
    rw [vDels, vDels]
    by_cases hn : vHas l n
    · rw [if_pos hn, if_pos ((vHas_perm h n).1 hn)]
      exact vDels_perm (vDel_perm n h hl) ((vDel_sub l n).map _ |>.nodup hl)
    · rw [if_neg hn, if_neg fun k => hn ((vHas_perm h n).2 k)]
      exact .inl ⟨rfl, rfl⟩
theorem vAdds_perm : ∀ {a l m : List Tbf}, l.Perm m → (vAdds l a = none ∧ vAdds m a = none) ∨ ∃ p q, vAdds l a = some p ∧ vAdds m a = some q ∧ p.Perm q
  | [], l, m, h => .inr ⟨l, m, rfl, rfl, h⟩
  | f :: r, l, m, h => by
    rw [vAdds, vAdds]
    by_cases hn : vHas l f.num
    · rw [if_pos hn, if_pos ((vHas_perm h _).1 hn)]
      exact .inl ⟨rfl, rfl⟩
    · rw [if_neg hn, if_neg fun k => hn ((vHas_perm h _).2 k)]
      exact vAdds_perm (h.append_right _)
theorem vMay_same {V W n m : Ver} (h : vSame V W) (k : vSame n m) : vMay V n ↔ vMay W m := by
  have half : ∀ {V W n m : Ver}, vSame V W → vSame n m → vMay V n → vMay W m := by
    rintro V W n m ⟨-, h2, h3, h4⟩ ⟨k1, k2, k3, k4⟩ ⟨a1, a2, a3, a4, a5, a6, a7⟩
    exact ⟨vApart_perm k1 a1, by rw [← k1.length_eq]; exact a2, by omega, by omega, by omega, by rw [← k2, ← k3]; exact a6, fun f hf => by rw [← k2]; exact a7 f (k1.mem_iff.2 hf)⟩
  exact ⟨half h k, half h.symm k.symm⟩
/-- What an edit makes does not hang on the order. -/
theorem applyV_same {V W : Ver} (h : vSame V W) (g : GoodV V) (e : Edt) : (applyV V e = none ∧ applyV W e = none) ∨ ∃ n m, applyV V e = some n ∧ applyV W e = some m ∧ vSame n m := by
  unfold applyV
  by_cases hm : mayE e
  · rw [if_pos hm, if_pos hm]
    rcases vDels_perm (ns := e.dels) h.1 g.nums with ⟨h1, h2⟩ | ⟨p, q, h1, h2, hp⟩
    · rw [h1, h2]; exact .inl ⟨rfl, rfl⟩
    · rw [h1, h2]
      simp only
      rcases vAdds_perm (a := e.adds) hp with ⟨h3, h4⟩ | ⟨s, t, h3, h4, hs⟩
      · rw [h3, h4]; exact .inl ⟨rfl, rfl⟩
      · rw [h3, h4]
        simp only
        have hk : vSame ⟨s, vOr e.nxt V.nx, vOr e.lg V.lg, vOr e.lst V.ls⟩ ⟨t, vOr e.nxt W.nx, vOr e.lg W.lg, vOr e.lst W.ls⟩ := ⟨hs, by show vOr _ _ = vOr _ _; rw [h.2.1], by show vOr _ _ = vOr _ _; rw [h.2.2.1], by show vOr _ _ = vOr _ _; rw [h.2.2.2]⟩
        by_cases hv : vMay V ⟨s, vOr e.nxt V.nx, vOr e.lg V.lg, vOr e.lst V.ls⟩
        · rw [if_pos hv, if_pos ((vMay_same h hk).1 hv)]
          exact .inr ⟨_, _, rfl, rfl, hk⟩
        · rw [if_neg hv, if_neg fun k => hv ((vMay_same h hk).2 k)]
          exact .inl ⟨rfl, rfl⟩
  · rw [if_neg hm, if_neg hm]; exact .inl ⟨rfl, rfl⟩
/-- An edit that makes V of a new one, whatever the order of its tables. -/
theorem applyV_edit {V : Ver} (g : GoodV V) {a : List Tbf} (ha : a.Perm V.fs) : applyV Ver.new ⟨V.nx, V.lg, V.ls, a, []⟩ = some ⟨a, V.nx, V.lg, V.ls⟩ := by
  have g2 := (show vSame V ⟨a, V.nx, V.lg, V.ls⟩ from ⟨ha.symm, rfl, rfl, rfl⟩).good g
  have hm : mayE ⟨V.nx, V.lg, V.ls, a, []⟩ := ⟨⟨⟨by have := g.nx1; show 0 ≤ V.nx; omega, g.nx2⟩, ⟨g.lg0, by have := g.lg1; have := g.nx2; show V.lg ≤ _; omega⟩, ⟨g.ls0, g.ls2⟩⟩, ⟨g2.few, Nat.zero_le _⟩, g2.right, fun n hn => by cases hn⟩
  have o1 : vOr V.nx Ver.new.nx = V.nx := if_neg (by have := g.nx1; omega)
  have o2 : vOr V.lg Ver.new.lg = V.lg := by unfold vOr; split <;> simp [Ver.new, *]
  have o3 : vOr V.ls Ver.new.ls = V.ls := by unfold vOr; split <;> simp [Ver.new, *]
  unfold applyV
  rw [if_pos hm]
  show (match vAdds [] a with | none => none | some m => _) = _
  rw [vAdds_some (l := []) (by simpa using g2.nums)]
  simp only [List.nil_append, o1, o2, o3]
  refine if_pos ⟨g2.apart, g2.few, by have := g.nx1; show (1 : Int) ≤ V.nx; exact this, g.lg0, g.ls0, fun h => ?_, g2.below⟩
  have := g.lg1
  simp only at h
  omega
/-- Level n's order: level 0 by numbers falling, the others by the least texts rising. -/
def vBef (n : Int) (f g : Tbf) : Prop := n = 0 ∧ g.num < f.num ∨ 0 < n ∧ bl f.lo g.lo
instance (n : Int) (f g : Tbf) : Decidable (vBef n f g) := inferInstanceAs (Decidable (_ ∨ _))
def vInto (n : Int) (f : Tbf) : List Tbf → List Tbf
  | [] => [f]
  | g :: r => if vBef n g f then g :: vInto n f r else f :: g :: r
/-- A level, as the document tells it. -/
def levelV (n : Int) (l : List Tbf) : List Tbf := (l.filter fun f => decide (f.lvl = n)).foldl (fun s f => vInto n f s) []
theorem vInto_perm (n : Int) (f : Tbf) : ∀ l : List Tbf, (vInto n f l).Perm (f :: l)
  | [] => List.Perm.refl _
  | g :: r => by
    unfold vInto
    split
    · exact ((vInto_perm n f r).cons g).trans (List.Perm.swap f g r)
    · exact List.Perm.refl _
theorem vFold_perm (n : Int) : ∀ (l s : List Tbf), (l.foldl (fun s f => vInto n f s) s).Perm (s ++ l)
  | [], s => by simp
  | f :: r, s => by
    rw [List.foldl_cons]
    refine (vFold_perm n r _).trans ?_
    refine ((vInto_perm n f s).append_right r).trans ?_
    rw [List.cons_append]
    exact (List.perm_middle (a := f) (l₁ := s) (l₂ := r)).symm
theorem levelV_perm (n : Int) (l : List Tbf) : (levelV n l).Perm (l.filter fun f => decide (f.lvl = n)) := by
  have := vFold_perm n (l.filter fun f => decide (f.lvl = n)) []
  rwa [List.nil_append] at this
theorem vBef_trans {n : Int} {f g h : Tbf} (a : vBef n f g) (b : vBef n g h) : vBef n f h := by
  rcases a with ⟨a1, a2⟩ | ⟨a1, a2⟩ <;> rcases b with ⟨b1, b2⟩ | ⟨b1, b2⟩
  · exact .inl ⟨a1, by omega⟩
  · omega
  · omega
  · exact .inr ⟨a1, bl_trans a2 b2⟩
theorem vBef_irr {n : Int} (f : Tbf) : ¬ vBef n f f := by
  rintro (⟨-, h⟩ | ⟨-, h⟩)
  · omega
  · exact bl_irr _ h
/-- Any two of these stand one ahead of the other. -/
def vTot (n : Int) (l : List Tbf) : Prop := ∀ f ∈ l, ∀ g ∈ l, f = g ∨ vBef n f g ∨ vBef n g f
theorem vInto_srt {n : Int} {f : Tbf} : ∀ {l : List Tbf}, l.Pairwise (vBef n) → (∀ g ∈ l, vBef n g f ∨ vBef n f g) → (vInto n f l).Pairwise (vBef n)
  | [], _, _ => List.pairwise_singleton _ _
  | g :: r, h, ht => by
    obtain ⟨h1, h2⟩ := List.pairwise_cons.1 h
    unfold vInto
    split
    · rename_i hg
      refine List.pairwise_cons.2 ⟨fun x hx => ?_, vInto_srt h2 fun y hy => ht y (List.mem_cons_of_mem _ hy)⟩
      rcases List.mem_cons.1 ((vInto_perm n f r).mem_iff.1 hx) with rfl | hx
      · exact hg
      · exact h1 x hx
    · rename_i hg
      have hfg : vBef n f g := (ht g (List.mem_cons_self ..)).resolve_left hg
      refine List.pairwise_cons.2 ⟨fun x hx => ?_, h⟩
      rcases List.mem_cons.1 hx with rfl | hx
      · exact hfg
      · exact vBef_trans hfg (h1 x hx)
theorem vFold_srt {n : Int} : ∀ (l s : List Tbf), s.Pairwise (vBef n) → (s ++ l).Nodup → vTot n (s ++ l) → (l.foldl (fun s f => vInto n f s) s).Pairwise (vBef n)
  | [], s, h, _, _ => h
  | f :: r, s, h, hn, ht => by
    rw [List.foldl_cons]
    have hp : (vInto n f s ++ r).Perm (s ++ f :: r) := ((vInto_perm n f s).append_right r).trans (List.perm_middle (a := f) (l₁ := s) (l₂ := r)).symm
    refine vFold_srt r _ (vInto_srt h fun g hg => ?_) (hp.nodup_iff.2 hn) fun x hx y hy => ht x (hp.mem_iff.1 hx) y (hp.mem_iff.1 hy)
    rcases ht g (List.mem_append_left _ hg) f (by simp) with rfl | h | h
    · rw [List.nodup_append] at hn
      exact absurd rfl (hn.2.2 g hg g (by simp))
    · exact .inl h
    · exact .inr h
theorem nodup_of_num {l : List Tbf} (h : (l.map Tbf.num).Nodup) : l.Nodup := by
  unfold List.Nodup at *
  rw [List.pairwise_map] at h
  exact h.imp fun hne e => hne (by rw [e])
theorem num_inj : ∀ {l : List Tbf}, (l.map Tbf.num).Nodup → ∀ {f g : Tbf}, f ∈ l → g ∈ l → f.num = g.num → f = g
  | [], _, f, g, hf, _, _ => by cases hf
  | x :: r, h, f, g, hf, hg, e => by
    rw [List.map_cons, List.nodup_cons] at h
    rcases List.mem_cons.1 hf with rfl | hf2
    · rcases List.mem_cons.1 hg with rfl | hg2
      · rfl
      · exact absurd (List.mem_map.2 ⟨g, hg2, e.symm⟩) h.1
    · rcases List.mem_cons.1 hg with rfl | hg2
      · exact absurd (List.mem_map.2 ⟨f, hf2, e⟩) h.1
      · exact num_inj h.2 hf2 hg2 e
theorem pair_any {α : Type} {R : α → α → Prop} (hs : ∀ {x y}, R x y → R y x) : ∀ {l : List α}, l.Pairwise R → ∀ {f g : α}, f ∈ l → g ∈ l → f ≠ g → R f g
  | [], _, f, g, hf, _, _ => by cases hf
  | x :: r, h, f, g, hf, hg, e => by
    obtain ⟨h1, h2⟩ := List.pairwise_cons.1 h
    rcases List.mem_cons.1 hf with rfl | hf2
    · rcases List.mem_cons.1 hg with rfl | hg2
      · exact absurd rfl e
      · exact h1 g hg2
    · rcases List.mem_cons.1 hg with rfl | hg2
      · exact hs (h1 f hf2)
      · exact pair_any hs h2 hf2 hg2 e
theorem good_tot {V : Ver} (g : GoodV V) (n : Int) (hn : 0 ≤ n) : vTot n (V.fs.filter fun f => decide (f.lvl = n)) := by
  intro f hf h hh
  obtain ⟨f1, f2⟩ := List.mem_filter.1 hf
  obtain ⟨h1, h2⟩ := List.mem_filter.1 hh
  have f2 := of_decide_eq_true f2
  have h2 := of_decide_eq_true h2
  by_cases e : f = h
  · exact .inl e
  · refine .inr ?_
    rcases Int.lt_or_le 0 n with h0 | h0
    · have hc : ¬ vClash f h := by
        exact pair_any (fun hx hc => hx (vClash_comm hc)) g.apart f1 h1 e
      have r1 := (notBadTb (g.right f f1)).2.2.2.2.2
      have r2 := (notBadTb (g.right h h1)).2.2.2.2.2
      rcases bl_tri f.lo h.lo with k | k | k
      · exact .inl (.inr ⟨h0, k⟩)
      · refine absurd ⟨by rw [f2, h2], by omega, ?_, ?_⟩ hc
        · rw [k]; exact r2
        · rw [← k]; exact r1
      · exact .inr (.inr ⟨h0, k⟩)
    · have hz : n = 0 := by omega
      have hne : f.num ≠ h.num := fun e2 => e (by
        exact num_inj g.nums f1 h1 e2)
      rcases Int.lt_or_le h.num f.num with k | k
      · exact .inl (.inl ⟨hz, k⟩)
      · exact .inr (.inl ⟨hz, by omega⟩)
theorem levelV_srt {V : Ver} (g : GoodV V) (n : Int) (hn : 0 ≤ n) : (levelV n V.fs).Pairwise (vBef n) := by
  have h1 : (V.fs.filter fun f => decide (f.lvl = n)).Nodup := (nodup_of_num g.nums).filter _
  exact vFold_srt _ [] List.Pairwise.nil (by simpa using h1) (by simpa using good_tot g n hn)
/-- Two rows in order that hold the same are the same. -/
theorem vSrt_uniq {n : Int} : ∀ {l m : List Tbf}, l.Pairwise (vBef n) → m.Pairwise (vBef n) → l.Perm m → l = m
  | [], m, _, _, h => (List.nil_perm.1 h).symm
  | f :: r, [], _, _, h => absurd h (by simp)
  | f :: r, g :: s, hl, hm, h => by
    obtain ⟨l1, l2⟩ := List.pairwise_cons.1 hl
    obtain ⟨m1, m2⟩ := List.pairwise_cons.1 hm
    have e : f = g := by
      have hf : f ∈ g :: s := h.mem_iff.1 (List.mem_cons_self ..)
      have hg : g ∈ f :: r := h.mem_iff.2 (List.mem_cons_self ..)
      rcases List.mem_cons.1 hf with e | hf
      · exact e
      · rcases List.mem_cons.1 hg with e | hg
        · exact e.symm
        · exact absurd (vBef_trans (m1 f hf) (l1 g hg)) (vBef_irr g)
    subst e
    rw [vSrt_uniq l2 m2 ((List.perm_cons f).1 h)]
/-- A level does not hang on the order in which the tables are kept. -/
theorem levelV_same {V W : Ver} (h : vSame V W) (g : GoodV V) (n : Int) (hn : 0 ≤ n) : levelV n V.fs = levelV n W.fs :=
  vSrt_uniq (levelV_srt g n hn) (levelV_srt (h.good g) n hn) ((levelV_perm n V.fs).trans ((h.1.filter _).trans (levelV_perm n W.fs).symm))
/-- A row in level n's order that holds the level's tables is the level. -/
theorem levelV_is {V : Ver} (g : GoodV V) (n : Int) (hn : 0 ≤ n) {l : List Tbf} (hs : l.Pairwise (vBef n)) (hp : l.Perm (V.fs.filter fun f => decide (f.lvl = n))) : l = levelV n V.fs :=
  vSrt_uniq hs (levelV_srt g n hn) (hp.trans (levelV_perm n V.fs).symm)
/-- Above level 0 a table ends ahead of the next. -/
theorem levelV_apart {V : Ver} (g : GoodV V) (n : Int) (hn : 0 < n) : (levelV n V.fs).Pairwise fun f h => bl f.hi h.lo := by
  refine (levelV_srt g n (by omega)).imp_of_mem fun {f h} hf hh hb => ?_
  obtain ⟨f1, f2⟩ := List.mem_filter.1 ((levelV_perm n V.fs).mem_iff.1 hf)
  obtain ⟨h1, h2⟩ := List.mem_filter.1 ((levelV_perm n V.fs).mem_iff.1 hh)
  have f2 := of_decide_eq_true f2
  have h2 := of_decide_eq_true h2
  have hb' : bl f.lo h.lo := by
    rcases hb with ⟨k, -⟩ | ⟨-, k⟩
    · omega
    · exact k
  have hne : f ≠ h := by rintro rfl; exact bl_irr _ hb'
  have hc : ¬ vClash f h := pair_any (fun hx hc => hx (vClash_comm hc)) g.apart f1 h1 hne
  have r1 := (notBadTb (g.right f f1)).2.2.2.2.2
  have r2 := (notBadTb (g.right h h1)).2.2.2.2.2
  refine Decidable.byContradiction fun hn2 => hc ⟨by rw [f2, h2], by omega, fun k => ?_, hn2⟩
  rcases bl_tri h.lo h.hi with q | q | q
  · exact bl_irr _ (bl_trans (bl_trans k hb') q)
  · rw [← q] at k; exact bl_irr _ (bl_trans k hb')
  · exact r2 q
/-- Those of a level that have a text from a to b. -/
def vOverB (a b : ByteArray) (f : Tbf) : Bool := !decide (bl b a) && !decide (bl b f.lo) && !decide (bl f.hi a)
def overV (n : Int) (a b : ByteArray) (l : List Tbf) : List Tbf := (levelV n l).filter (vOverB a b)
def levelsV (l : List Tbf) : List Tbf := levelV 0 l ++ (levelV 1 l ++ (levelV 2 l ++ (levelV 3 l ++ levelV 4 l)))
/-- All levels, one behind the other, hold just the tables. -/
theorem levelsV_perm {V : Ver} (g : GoodV V) : (levelsV V.fs).Perm V.fs := by
  have hl : ∀ f ∈ V.fs, f.lvl = 0 ∨ f.lvl = 1 ∨ f.lvl = 2 ∨ f.lvl = 3 ∨ f.lvl = 4 := fun f hf => by
    obtain ⟨h1, h2⟩ := (notBadTb (g.right f hf)).2.1
    omega
  generalize V.fs = l at hl
  have hp : (levelsV l).Perm ((l.filter fun f => decide (f.lvl = 0)) ++ ((l.filter fun f => decide (f.lvl = 1)) ++ ((l.filter fun f => decide (f.lvl = 2)) ++ ((l.filter fun f => decide (f.lvl = 3)) ++ l.filter fun f => decide (f.lvl = 4))))) :=
    (levelV_perm 0 l).append ((levelV_perm 1 l).append ((levelV_perm 2 l).append ((levelV_perm 3 l).append (levelV_perm 4 l))))
  refine hp.trans ?_
  clear hp g
  induction l with
  | nil => exact List.Perm.refl _
  | cons f r ih =>
    have ih := ih fun x hx => hl x (List.mem_cons_of_mem _ hx)
    have mid : ∀ (A B : List Tbf), (A ++ f :: B).Perm (f :: (A ++ B)) := fun A B => List.perm_middle
    rcases hl f (List.mem_cons_self ..) with h | h | h | h | h <;> simp only [List.filter_cons, h] <;> simp only [decide_true, if_true, Int.reduceEq, decide_false, Bool.false_eq_true, if_false, List.cons_append]
    · exact ih.cons f
    · exact (mid _ _).trans (ih.cons f)
    · rw [← List.append_assoc]; refine (mid _ _).trans ?_; rw [List.append_assoc]; exact ih.cons f
    · rw [← List.append_assoc, ← List.append_assoc]; refine (mid _ _).trans ?_; rw [List.append_assoc, List.append_assoc]; exact ih.cons f
    · rw [← List.append_assoc, ← List.append_assoc, ← List.append_assoc]; refine (mid _ _).trans ?_; rw [List.append_assoc, List.append_assoc, List.append_assoc]; exact ih.cons f
end Go.Proofs.Ytjloaamaelcmaaa
