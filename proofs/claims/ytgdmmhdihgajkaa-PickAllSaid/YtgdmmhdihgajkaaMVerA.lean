/- Versions in plain words: what an edit makes of one, its levels, who overlaps a span; none of this hangs on the order in which the tables are kept. -/
import Derived.Test.YtgdmmhdihgajkaaMEdt
import Derived.Test.YtgdmmhdihgajkaaMBase
import Derived.Test.YtgdmmhdihgajkaaRows
import Derived.Deep.RegionHeld3
import Derived.Shelf.SlSortCmp.QuietGrown
import Derived.Shelf.SlSortCmp.WholeK
import Derived.Shelf.SlSortCmp.NoneTotal
namespace Go.Proofs.Ytgdmmhdihgajkaa
set_option linter.unusedVariables false
structure Ver where
  fs : List Tbf
  nx : Int
  lg : Int
  ls : Int
def Ver.new : Ver := ⟨[], 1, 0, 0⟩
/-- Two tables of one level above 0 that have a text in common. -/
def vClash (f g : Tbf) : Prop := f.lvl = g.lvl ∧ 0 < f.lvl ∧ ¬ bl g.hi f.lo ∧ ¬ bl f.hi g.lo
instance (f g : Tbf) : Decidable (vClash f g) := inferInstanceAs (Decidable (_ ∧ _ ∧ _ ∧ _))
theorem vClash_comm {f g : Tbf} (h : vClash f g) : vClash g f := ⟨h.1.symm, by rw [← h.1]; exact h.2.1, h.2.2.2, h.2.2.1⟩
def vApart (l : List Tbf) : Prop := l.Pairwise fun f g => ¬ vClash f g
def vHas (l : List Tbf) (n : Int) : Prop := ∃ f ∈ l, f.num = n
instance (l : List Tbf) (n : Int) : Decidable (vHas l n) := inferInstanceAs (Decidable (∃ f ∈ l, _))
instance (l : List Tbf) : Decidable (vApart l) := inferInstanceAs (Decidable (List.Pairwise _ l))
/-- The table of a number goes. -/
def vDel (l : List Tbf) (n : Int) : List Tbf := l.eraseP fun f => decide (f.num = n)
def vDels : List Tbf → List Int → Option (List Tbf)
  | l, [] => some l
  | l, n :: r => if vHas l n then vDels (vDel l n) r else none
def vAdds : List Tbf → List Tbf → Option (List Tbf)
  | l, [] => some l
  | l, f :: r => if vHas l f.num then none else vAdds (l ++ [f]) r
/-- A number of an edit, or what stood. -/
def vOr (x y : Int) : Int := if x = 0 then y else x
/-- May this stand behind V? -/
def vMay (V n : Ver) : Prop := vApart n.fs ∧ n.fs.length ≤ 200 ∧ V.nx ≤ n.nx ∧ V.lg ≤ n.lg ∧ V.ls ≤ n.ls ∧ ¬ (n.nx ≤ n.lg ∧ 0 < n.lg) ∧ ∀ f ∈ n.fs, f.num < n.nx
instance (V n : Ver) : Decidable (vMay V n) := inferInstanceAs (Decidable (_ ∧ _ ∧ _ ∧ _ ∧ _ ∧ _ ∧ _))
/-- What an edit makes of V; none: ErrForm. -/
def applyV (V : Ver) (e : Edt) : Option Ver :=
  if mayE e then
    match vDels V.fs e.dels with
    | none => none
    | some l => match vAdds l e.adds with
      | none => none
      | some m => if vMay V ⟨m, vOr e.nxt V.nx, vOr e.lg V.lg, vOr e.lst V.ls⟩ then some ⟨m, vOr e.nxt V.nx, vOr e.lg V.lg, vOr e.lst V.ls⟩ else none
  else none
/-- What any version is. -/
structure GoodV (V : Ver) : Prop where
  nums : (V.fs.map Tbf.num).Nodup
  apart : vApart V.fs
  few : V.fs.length ≤ 200
  right : ∀ f ∈ V.fs, ¬ badTb f
  below : ∀ f ∈ V.fs, f.num < V.nx
  nx1 : 1 ≤ V.nx
  nx2 : V.nx ≤ 1125899906842624
  lg0 : 0 ≤ V.lg
  lg1 : V.lg < V.nx
  ls0 : 0 ≤ V.ls
  ls2 : V.ls ≤ 1125899906842624
theorem new_good : GoodV Ver.new := ⟨List.nodup_nil, List.Pairwise.nil, by decide, by simp [Ver.new], by simp [Ver.new], by decide, by decide, by decide, by decide, by decide, by decide⟩
theorem vDel_sub (l : List Tbf) (n : Int) : (vDel l n).Sublist l := List.eraseP_sublist
theorem vDels_sub : ∀ {l : List Tbf} {ns : List Int} {m : List Tbf}, vDels l ns = some m → m.Sublist l
  | l, [], m, h => by obtain rfl := Option.some.inj h; exact List.Sublist.refl _
  | l, n :: r, m, h => by
    rw [vDels] at h
    split at h
    · exact (vDels_sub h).trans (vDel_sub l n)
    · cases h
theorem vHas_num {l : List Tbf} {n : Int} : vHas l n ↔ n ∈ l.map Tbf.num := by
  unfold vHas
  rw [List.mem_map]
theorem vAdds_is : ∀ {a l m : List Tbf}, vAdds l a = some m → m = l ++ a ∧ ((l.map Tbf.num).Nodup → (m.map Tbf.num).Nodup)
  | [], l, m, h => by obtain rfl := Option.some.inj h; exact ⟨by simp, fun h => h⟩
  | f :: r, l, m, h => by
    rw [vAdds] at h
    split at h
    · cases h
    · rename_i hf
      obtain ⟨h1, h2⟩ := vAdds_is h
      refine ⟨by rw [h1]; simp, fun hn => h2 ?_⟩
      rw [List.map_append, List.nodup_append]
      refine ⟨hn, by simp, fun a ha b hb => ?_⟩
      have hb' : b = f.num := by simpa using hb
      subst hb'
      rintro rfl
      exact hf (vHas_num.2 ha)
/-- Just where all these numbers are new, and apart. -/
theorem vAdds_some : ∀ {a l : List Tbf}, ((l ++ a).map Tbf.num).Nodup → vAdds l a = some (l ++ a)
  | [], l, _ => by simp [vAdds]
  | f :: r, l, h => by
    rw [vAdds, if_neg, vAdds_some (by rw [List.append_assoc]; exact h)]
    · simp
    · intro hf
      rw [List.map_append, List.nodup_append] at h
      exact h.2.2 f.num (vHas_num.1 hf) f.num (by simp) rfl
theorem vOr_bd {x y : Int} (hx : okEdN x) (hy0 : 0 ≤ y) (hy : y ≤ 1125899906842624) : 0 ≤ vOr x y ∧ vOr x y ≤ 1125899906842624 := by
  unfold vOr okEdN at *
  split <;> omega
theorem applyV_good {V n : Ver} {e : Edt} (h : GoodV V) (ha : applyV V e = some n) : GoodV n := by
  unfold applyV at ha
  split at ha
  · rename_i hm
    cases hd : vDels V.fs e.dels with
    | none => rw [hd] at ha; cases ha
    | some l =>
      rw [hd] at ha
      simp only at ha
      cases hb : vAdds l e.adds with
      | none => rw [hb] at ha; cases ha
      | some m =>
        rw [hb] at ha
        simp only at ha
        split at ha
        · rename_i hv
          obtain rfl := Option.some.inj ha
          obtain ⟨⟨o1, o2, o3⟩, -, h5, -⟩ := hm
          obtain ⟨h6, h7⟩ := vAdds_is hb
          have hs := vDels_sub hd
          obtain ⟨v1, v2, v3, v4, v5, v6, v7⟩ := hv
          simp only at v1 v2 v3 v4 v5 v6 v7
          have b1 := vOr_bd o1 (by have := h.nx1; omega) h.nx2
          have b2 := vOr_bd o2 h.lg0 (by have := h.lg1; have := h.nx2; omega)
          have b3 := vOr_bd o3 h.ls0 h.ls2
          refine ⟨h7 ((hs.map _).nodup h.nums), v1, v2, fun f hf => ?_, v7, by have := h.nx1; show 1 ≤ vOr _ _; omega, b1.2, b2.1, ?_, b3.1, b3.2⟩
          · have hf' : f ∈ m := hf
            rw [h6] at hf'
            rcases List.mem_append.1 hf' with hf' | hf'
            · exact h.right f (hs.subset hf')
            · exact h5 f hf'
          · show vOr e.lg V.lg < vOr e.nxt V.nx
            have := h.nx1
            omega
        · cases ha
  · cases ha
/-- Two versions that tell the same. -/
def vSame (V W : Ver) : Prop := V.fs.Perm W.fs ∧ V.nx = W.nx ∧ V.lg = W.lg ∧ V.ls = W.ls
theorem vSame.refl (V : Ver) : vSame V V := ⟨List.Perm.refl _, rfl, rfl, rfl⟩
theorem vSame.symm {V W : Ver} (h : vSame V W) : vSame W V := ⟨h.1.symm, h.2.1.symm, h.2.2.1.symm, h.2.2.2.symm⟩
theorem vSame.trans {V W X : Ver} (h : vSame V W) (k : vSame W X) : vSame V X := ⟨h.1.trans k.1, h.2.1.trans k.2.1, h.2.2.1.trans k.2.2.1, h.2.2.2.trans k.2.2.2⟩
theorem vApart_perm {l m : List Tbf} (h : l.Perm m) (ha : vApart l) : vApart m := (h.pairwise_iff fun hn hc => hn (vClash_comm hc)).1 ha
theorem vSame.good {V W : Ver} (h : vSame V W) (g : GoodV V) : GoodV W := by
  obtain ⟨h1, h2, h3, h4⟩ := h
  exact ⟨(h1.map _).nodup_iff.1 g.nums, vApart_perm h1 g.apart, by rw [← h1.length_eq]; exact g.few, fun f hf => g.right f (h1.mem_iff.2 hf), fun f hf => by rw [← h2]; exact g.below f (h1.mem_iff.2 hf), by rw [← h2]; exact g.nx1, by rw [← h2]; exact g.nx2, by rw [← h3]; exact g.lg0, by rw [← h3, ← h2]; exact g.lg1, by rw [← h4]; exact g.ls0, by rw [← h4]; exact g.ls2⟩
theorem vHas_perm {l m : List Tbf} (h : l.Perm m) (n : Int) : vHas l n ↔ vHas m n := by
  rw [vHas_num, vHas_num]; exact (h.map _).mem_iff
/-- Where each number is there once, what goes is what has the number. -/
theorem vDel_filter : ∀ {l : List Tbf} (n : Int), (l.map Tbf.num).Nodup → vDel l n = l.filter fun f => !decide (f.num = n)
  | [], n, _ => rfl
  | f :: r, n, h => by
    rw [List.map_cons, List.nodup_cons] at h
    unfold vDel
    by_cases hf : f.num = n
    · rw [List.eraseP_cons_of_pos (by simpa using hf), List.filter_cons_of_neg (by simpa using hf)]
      refine (List.filter_eq_self.2 fun g hg => ?_).symm
      have : g.num ≠ n := fun e => h.1 (List.mem_map.2 ⟨g, hg, by rw [e, hf]⟩)
      simpa using this
    · rw [List.eraseP_cons_of_neg (by simpa using hf), List.filter_cons_of_pos (by simpa using hf)]
      congr 1
      exact vDel_filter n h.2
theorem vDel_perm {l m : List Tbf} (n : Int) (h : l.Perm m) (hl : (l.map Tbf.num).Nodup) : (vDel l n).Perm (vDel m n) := by
  rw [vDel_filter n hl, vDel_filter n ((h.map _).nodup_iff.1 hl)]
  exact h.filter _
theorem vDels_perm : ∀ {ns : List Int} {l m : List Tbf}, l.Perm m → (l.map Tbf.num).Nodup → (vDels l ns = none ∧ vDels m ns = none) ∨ ∃ p q, vDels l ns = some p ∧ vDels m ns = some q ∧ p.Perm q
  | [], l, m, h, _ => .inr ⟨l, m, rfl, rfl, h⟩
  | n :: r, l, m, h, hl => by
    rw [vDels, vDels]
    by_cases hn : vHas l n
    · rw [if_pos hn, if_pos ((vHas_perm h n).1 hn)]
      exact vDels_perm (vDel_perm n h hl) ((vDel_sub l n).map _ |>.nodup hl)
    · rw [if_neg hn, if_neg fun k => hn ((vHas_perm h n).2 k)]
      exact .inl ⟨rfl, rfl⟩
theorem vAdds_perm : ∀ {a l m : List Tbf}, l.Perm m → (vAdds l a = none ∧ vAdds m a = none) ∨ ∃ p q, vAdds l a = some p ∧ vAdds m a = some q ∧ p.Perm q
  | [], l, m, h => .inr ⟨l, m, rfl, rfl, h⟩
  | f :: r, l, m, h => by
    rw [vAdds, vAdds]
    by_cases hn : vHas l f.num
    · rw [if_pos hn, if_pos ((vHas_perm h _).1 hn)]
      exact .inl ⟨rfl, rfl⟩
    · rw [if_neg hn, if_neg fun k => hn ((vHas_perm h _).2 k)]
      exact vAdds_perm (h.append_right _)
theorem vMay_same {V W n m : Ver} (h : vSame V W) (k : vSame n m) : vMay V n ↔ vMay W m := by
  have half : ∀ {V W n m : Ver}, vSame V W → vSame n m → vMay V n → vMay W m := by
    rintro V W n m ⟨-, h2, h3, h4⟩ ⟨k1, k2, k3, k4⟩ ⟨a1, a2, a3, a4, a5, a6, a7⟩
    exact ⟨vApart_perm k1 a1, by rw [← k1.length_eq]; exact a2, by omega, by omega, by omega, by rw [← k2, ← k3]; exact a6, fun f hf => by rw [← k2]; exact a7 f (k1.mem_iff.2 hf)⟩
  exact ⟨half h k, half h.symm k.symm⟩
/-- What an edit makes does not hang on the order. -/
theorem applyV_same {V W : Ver} (h : vSame V W) (g : GoodV V) (e : Edt) : (applyV V e = none ∧ applyV W e = none) ∨ ∃ n m, applyV V e = some n ∧ applyV W e = some m ∧ vSame n m := by
  unfold applyV
  by_cases hm : mayE e
  · rw [if_pos hm, if_pos hm]
    rcases vDels_perm (ns := e.dels) h.1 g.nums with ⟨h1, h2⟩ | ⟨p, q, h1, h2, hp⟩
    · rw [h1, h2]; exact .inl ⟨rfl, rfl⟩
    · rw [h1, h2]
      simp only
      rcases vAdds_perm (a := e.adds) hp with ⟨h3, h4⟩ | ⟨s, t, h3, h4, hs⟩
      · rw [h3, h4]; exact .inl ⟨rfl, rfl⟩
      · rw [h3, h4]
        simp only
        have hk : vSame ⟨s, vOr e.nxt V.nx, vOr e.lg V.lg, vOr e.lst V.ls⟩ ⟨t, vOr e.nxt W.nx, vOr e.lg W.lg, vOr e.lst W.ls⟩ := ⟨hs, by show vOr _ _ = vOr _ _; rw [h.2.1], by show vOr _ _ = vOr _ _; rw [h.2.2.1], by show vOr _ _ = vOr _ _; rw [h.2.2.2]⟩
        by_cases hv : vMay V ⟨s, vOr e.nxt V.nx, vOr e.lg V.lg, vOr e.lst V.ls⟩
        · rw [if_pos hv, if_pos ((vMay_same h hk).1 hv)]
          exact .inr ⟨_, _, rfl, rfl, hk⟩
        · rw [if_neg hv, if_neg fun k => hv ((vMay_same h hk).2 k)]
          exact .inl ⟨rfl, rfl⟩
  · rw [if_neg hm, if_neg hm]; exact .inl ⟨rfl, rfl⟩
/-- An edit that makes V of a new one, whatever the order of its tables. -/
theorem applyV_edit {V : Ver} (g : GoodV V) {a : List Tbf} (ha : a.Perm V.fs) : applyV Ver.new ⟨V.nx, V.lg, V.ls, a, []⟩ = some ⟨a, V.nx, V.lg, V.ls⟩ := by
  have g2 := (show vSame V ⟨a, V.nx, V.lg, V.ls⟩ from ⟨ha.symm, rfl, rfl, rfl⟩).good g
  have hm : mayE ⟨V.nx, V.lg, V.ls, a, []⟩ := ⟨⟨⟨by have := g.nx1; show 0 ≤ V.nx; omega, g.nx2⟩, ⟨g.lg0, by have := g.lg1; have := g.nx2; show V.lg ≤ _; omega⟩, ⟨g.ls0, g.ls2⟩⟩, ⟨g2.few, Nat.zero_le _⟩, g2.right, fun n hn => by cases hn⟩
  have o1 : vOr V.nx Ver.new.nx = V.nx := if_neg (by have := g.nx1; omega)
  have o2 : vOr V.lg Ver.new.lg = V.lg := by unfold vOr; split <;> simp [Ver.new, *]
  have o3 : vOr V.ls Ver.new.ls = V.ls := by unfold vOr; split <;> simp [Ver.new, *]
  unfold applyV
  rw [if_pos hm]
  show (match vAdds [] a with | none => none | some m => _) = _
  rw [vAdds_some (l := []) (by simpa using g2.nums)]
  simp only [List.nil_append, o1, o2, o3]
  refine if_pos ⟨g2.apart, g2.few, by have := g.nx1; show (1 : Int) ≤ V.nx; exact this, g.lg0, g.ls0, fun h => ?_, g2.below⟩
  have := g.lg1
  simp only at h
  omega
/-- Level n's order: level 0 by numbers falling, the others by the least texts rising. -/
def vBef (n : Int) (f g : Tbf) : Prop := n = 0 ∧ g.num < f.num ∨ 0 < n ∧ bl f.lo g.lo
instance (n : Int) (f g : Tbf) : Decidable (vBef n f g) := inferInstanceAs (Decidable (_ ∨ _))
def vInto (n : Int) (f : Tbf) : List Tbf → List Tbf
  | [] => [f]
  | g :: r => if vBef n g f then g :: vInto n f r else f :: g :: r
/-- A level, as the document tells it. -/
def levelV (n : Int) (l : List Tbf) : List Tbf := (l.filter fun f => decide (f.lvl = n)).foldl (fun s f => vInto n f s) []
theorem vInto_perm (n : Int) (f : Tbf) : ∀ l : List Tbf, (vInto n f l).Perm (f :: l)
  | [] => List.Perm.refl _
  | g :: r => by
    unfold vInto
    split
    · exact ((vInto_perm n f r).cons g).trans (List.Perm.swap f g r)
    · exact List.Perm.refl _
theorem vFold_perm (n : Int) : ∀ (l s : List Tbf), (l.foldl (fun s f => vInto n f s) s).Perm (s ++ l)
  | [], s => by simp
  | f :: r, s => by
    rw [List.foldl_cons]
    refine (vFold_perm n r _).trans ?_
    refine ((vInto_perm n f s).append_right r).trans ?_
    rw [List.cons_append]
    exact (List.perm_middle (a := f) (l₁ := s) (l₂ := r)).symm
theorem levelV_perm (n : Int) (l : List Tbf) : (levelV n l).Perm (l.filter fun f => decide (f.lvl = n)) := by
  have := vFold_perm n (l.filter fun f => decide (f.lvl = n)) []
  rwa [List.nil_append] at this
theorem vBef_trans {n : Int} {f g h : Tbf} (a : vBef n f g) (b : vBef n g h) : vBef n f h := by
  rcases a with ⟨a1, a2⟩ | ⟨a1, a2⟩ <;> rcases b with ⟨b1, b2⟩ | ⟨b1, b2⟩
  · exact .inl ⟨a1, by omega⟩
  · omega
  · omega
  · exact .inr ⟨a1, bl_trans a2 b2⟩
theorem vBef_irr {n : Int} (f : Tbf) : ¬ vBef n f f := by
  rintro (⟨-, h⟩ | ⟨-, h⟩)
  · omega
  · exact bl_irr _ h
/-- Any two of these stand one ahead of the other. -/
def vTot (n : Int) (l : List Tbf) : Prop := ∀ f ∈ l, ∀ g ∈ l, f = g ∨ vBef n f g ∨ vBef n g f
theorem vInto_srt {n : Int} {f : Tbf} : ∀ {l : List Tbf}, l.Pairwise (vBef n) → (∀ g ∈ l, vBef n g f ∨ vBef n f g) → (vInto n f l).Pairwise (vBef n)
  | [], _, _ => List.pairwise_singleton _ _
  | g :: r, h, ht => by
    obtain ⟨h1, h2⟩ := List.pairwise_cons.1 h
    unfold vInto
    split
    · rename_i hg
      refine List.pairwise_cons.2 ⟨fun x hx => ?_, vInto_srt h2 fun y hy => ht y (List.mem_cons_of_mem _ hy)⟩
      rcases List.mem_cons.1 ((vInto_perm n f r).mem_iff.1 hx) with rfl | hx
      · exact hg
      · exact h1 x hx
    · rename_i hg
      have hfg : vBef n f g := (ht g (List.mem_cons_self ..)).resolve_left hg
      refine List.pairwise_cons.2 ⟨fun x hx => ?_, h⟩
      rcases List.mem_cons.1 hx with rfl | hx
      · exact hfg
      · exact vBef_trans hfg (h1 x hx)
theorem vFold_srt {n : Int} : ∀ (l s : List Tbf), s.Pairwise (vBef n) → (s ++ l).Nodup → vTot n (s ++ l) → (l.foldl (fun s f => vInto n f s) s).Pairwise (vBef n)
  | [], s, h, _, _ => h
  | f :: r, s, h, hn, ht => by
    rw [List.foldl_cons]
    have hp : (vInto n f s ++ r).Perm (s ++ f :: r) := ((vInto_perm n f s).append_right r).trans (List.perm_middle (a := f) (l₁ := s) (l₂ := r)).symm
    refine vFold_srt r _ (vInto_srt h fun g hg => ?_) (hp.nodup_iff.2 hn) fun x hx y hy => ht x (hp.mem_iff.1 hx) y (hp.mem_iff.1 hy)
    rcases ht g (List.mem_append_left _ hg) f (by simp) with rfl | h | h
    · rw [List.nodup_append] at hn
      exact absurd rfl (hn.2.2 g hg g (by simp))
    · exact .inl h
    · exact .inr h
theorem nodup_of_num {l : List Tbf} (h : (l.map Tbf.num).Nodup) : l.Nodup := by
  unfold List.Nodup at *
  rw [List.pairwise_map] at h
  exact h.imp fun hne e => hne (by rw [e])
theorem num_inj : ∀ {l : List Tbf}, (l.map Tbf.num).Nodup → ∀ {f g : Tbf}, f ∈ l → g ∈ l → f.num = g.num → f = g
  | [], _, f, g, hf, _, _ => by cases hf
  | x :: r, h, f, g, hf, hg, e => by
    rw [List.map_cons, List.nodup_cons] at h
    rcases List.mem_cons.1 hf with rfl | hf2
    · rcases List.mem_cons.1 hg with rfl | hg2
      · rfl
      · exact absurd (List.mem_map.2 ⟨g, hg2, e.symm⟩) h.1
    · rcases List.mem_cons.1 hg with rfl | hg2
      · exact absurd (List.mem_map.2 ⟨f, hf2, e⟩) h.1
      · exact num_inj h.2 hf2 hg2 e
theorem pair_any {α : Type} {R : α → α → Prop} (hs : ∀ {x y}, R x y → R y x) : ∀ {l : List α}, l.Pairwise R → ∀ {f g : α}, f ∈ l → g ∈ l → f ≠ g → R f g
  | [], _, f, g, hf, _, _ => by cases hf
  | x :: r, h, f, g, hf, hg, e => by
    obtain ⟨h1, h2⟩ := List.pairwise_cons.1 h
    rcases List.mem_cons.1 hf with rfl | hf2
    · rcases List.mem_cons.1 hg with rfl | hg2
      · exact absurd rfl e
      · exact h1 g hg2
    · rcases List.mem_cons.1 hg with rfl | hg2
      · exact hs (h1 f hf2)
      · exact pair_any hs h2 hf2 hg2 e
theorem good_tot {V : Ver} (g : GoodV V) (n : Int) (hn : 0 ≤ n) : vTot n (V.fs.filter fun f => decide (f.lvl = n)) := by
  intro f hf h hh
  obtain ⟨f1, f2⟩ := List.mem_filter.1 hf
  obtain ⟨h1, h2⟩ := List.mem_filter.1 hh
  have f2 := of_decide_eq_true f2
  have h2 := of_decide_eq_true h2
  by_cases e : f = h
  · exact .inl e
  · refine .inr ?_
    rcases Int.lt_or_le 0 n with h0 | h0
    · have hc : ¬ vClash f h := by
        exact pair_any (fun hx hc => hx (vClash_comm hc)) g.apart f1 h1 e
      have r1 := (notBadTb (g.right f f1)).2.2.2.2.2
      have r2 := (notBadTb (g.right h h1)).2.2.2.2.2
      rcases bl_tri f.lo h.lo with k | k | k
      · exact .inl (.inr ⟨h0, k⟩)
      · refine absurd ⟨by rw [f2, h2], by omega, ?_, ?_⟩ hc
        · rw [k]; exact r2
        · rw [← k]; exact r1
      · exact .inr (.inr ⟨h0, k⟩)
    · have hz : n = 0 := by omega
      have hne : f.num ≠ h.num := fun e2 => e (by
        exact num_inj g.nums f1 h1 e2)
      rcases Int.lt_or_le h.num f.num with k | k
      · exact .inl (.inl ⟨hz, k⟩)
      · exact .inr (.inl ⟨hz, by omega⟩)
theorem levelV_srt {V : Ver} (g : GoodV V) (n : Int) (hn : 0 ≤ n) : (levelV n V.fs).Pairwise (vBef n) := by
  have h1 : (V.fs.filter fun f => decide (f.lvl = n)).Nodup := (nodup_of_num g.nums).filter _
  exact vFold_srt _ [] List.Pairwise.nil (by simpa using h1) (by simpa using good_tot g n hn)
/-- Two rows in order that hold the same are the same. -/
theorem vSrt_uniq {n : Int} : ∀ {l m : List Tbf}, l.Pairwise (vBef n) → m.Pairwise (vBef n) → l.Perm m → l = m
  | [], m, _, _, h => (List.nil_perm.1 h).symm
  | f :: r, [], _, _, h => absurd h (by simp)
  | f :: r, g :: s, hl, hm, h => by
    obtain ⟨l1, l2⟩ := List.pairwise_cons.1 hl
    obtain ⟨m1, m2⟩ := List.pairwise_cons.1 hm
    have e : f = g := by
      have hf : f ∈ g :: s := h.mem_iff.1 (List.mem_cons_self ..)
      have hg : g ∈ f :: r := h.mem_iff.2 (List.mem_cons_self ..)
      rcases List.mem_cons.1 hf with e | hf
      · exact e
      · rcases List.mem_cons.1 hg with e | hg
        · exact e.symm
        · exact absurd (vBef_trans (m1 f hf) (l1 g hg)) (vBef_irr g)
    subst e
    rw [vSrt_uniq l2 m2 ((List.perm_cons f).1 h)]
/-- A level does not hang on the order in which the tables are kept. -/
theorem levelV_same {V W : Ver} (h : vSame V W) (g : GoodV V) (n : Int) (hn : 0 ≤ n) : levelV n V.fs = levelV n W.fs :=
  vSrt_uniq (levelV_srt g n hn) (levelV_srt (h.good g) n hn) ((levelV_perm n V.fs).trans ((h.1.filter _).trans (levelV_perm n W.fs).symm))
/-- A row in level n's order that holds the level's tables is the level. -/
theorem levelV_is {V : Ver} (g : GoodV V) (n : Int) (hn : 0 ≤ n) {l : List Tbf} (hs : l.Pairwise (vBef n)) (hp : l.Perm (V.fs.filter fun f => decide (f.lvl = n))) : l = levelV n V.fs :=
  vSrt_uniq hs (levelV_srt g n hn) (hp.trans (levelV_perm n V.fs).symm)
/-- Above level 0 a table ends ahead of the next. -/
theorem levelV_apart {V : Ver} (g : GoodV V) (n : Int) (hn : 0 < n) : (levelV n V.fs).Pairwise fun f h => bl f.hi h.lo := by
  refine (levelV_srt g n (by omega)).imp_of_mem fun {f h} hf hh hb => ?_
  obtain ⟨f1, f2⟩ := List.mem_filter.1 ((levelV_perm n V.fs).mem_iff.1 hf)
  obtain ⟨h1, h2⟩ := List.mem_filter.1 ((levelV_perm n V.fs).mem_iff.1 hh)
  have f2 := of_decide_eq_true f2
  have h2 := of_decide_eq_true h2
  have hb' : bl f.lo h.lo := by
    rcases hb with ⟨k, -⟩ | ⟨-, k⟩
    · omega
    · exact k
  have hne : f ≠ h := by rintro rfl; exact bl_irr _ hb'
  have hc : ¬ vClash f h := pair_any (fun hx hc => hx (vClash_comm hc)) g.apart f1 h1 hne
  have r1 := (notBadTb (g.right f f1)).2.2.2.2.2
  have r2 := (notBadTb (g.right h h1)).2.2.2.2.2
  refine Decidable.byContradiction fun hn2 => hc ⟨by rw [f2, h2], by omega, fun k => ?_, hn2⟩
  rcases bl_tri h.lo h.hi with q | q | q
  · exact bl_irr _ (bl_trans (bl_trans k hb') q)
  · rw [← q] at k; exact bl_irr _ (bl_trans k hb')
  · exact r2 q
/-- Those of a level that have a text from a to b. -/
def vOverB (a b : ByteArray) (f : Tbf) : Bool := !decide (bl b a) && !decide (bl b f.lo) && !decide (bl f.hi a)
def overV (n : Int) (a b : ByteArray) (l : List Tbf) : List Tbf := (levelV n l).filter (vOverB a b)
def levelsV (l : List Tbf) : List Tbf := levelV 0 l ++ (levelV 1 l ++ (levelV 2 l ++ (levelV 3 l ++ levelV 4 l)))
/-- All levels, one behind the other, hold just the tables. -/
theorem levelsV_perm {V : Ver} (g : GoodV V) : (levelsV V.fs).Perm V.fs := by
  have hl : ∀ f ∈ V.fs, f.lvl = 0 ∨ f.lvl = 1 ∨ f.lvl = 2 ∨ f.lvl = 3 ∨ f.lvl = 4 := fun f hf => by
    obtain ⟨h1, h2⟩ := (notBadTb (g.right f hf)).2.1
    omega
  generalize V.fs = l at hl
  have hp : (levelsV l).Perm ((l.filter fun f => decide (f.lvl = 0)) ++ ((l.filter fun f => decide (f.lvl = 1)) ++ ((l.filter fun f => decide (f.lvl = 2)) ++ ((l.filter fun f => decide (f.lvl = 3)) ++ l.filter fun f => decide (f.lvl = 4))))) :=
    (levelV_perm 0 l).append ((levelV_perm 1 l).append ((levelV_perm 2 l).append ((levelV_perm 3 l).append (levelV_perm 4 l))))
  refine hp.trans ?_
  clear hp g
  induction l with
  | nil => exact List.Perm.refl _
  | cons f r ih =>
    have ih := ih fun x hx => hl x (List.mem_cons_of_mem _ hx)
    have mid : ∀ (A B : List Tbf), (A ++ f :: B).Perm (f :: (A ++ B)) := fun A B => List.perm_middle
    rcases hl f (List.mem_cons_self ..) with h | h | h | h | h <;> simp only [List.filter_cons, h] <;> simp only [decide_true, if_true, Int.reduceEq, decide_false, Bool.false_eq_true, if_false, List.cons_append]
    · exact ih.cons f
    · exact (mid _ _).trans (ih.cons f)
    · rw [← List.append_assoc]; refine (mid _ _).trans ?_; rw [List.append_assoc]; exact ih.cons f
    · rw [← List.append_assoc, ← List.append_assoc]; refine (mid _ _).trans ?_; rw [List.append_assoc, List.append_assoc]; exact ih.cons f
    · rw [← List.append_assoc, ← List.append_assoc, ← List.append_assoc]; refine (mid _ _).trans ?_; rw [List.append_assoc, List.append_assoc, List.append_assoc]; exact ih.cons f
end Go.Proofs.Ytgdmmhdihgajkaa
/- The small steps of a version: the first of two numbers that is not 0, comparisons, what a table meets, how tables are ordered. -/
namespace Go.Proofs.Ytgdmmhdihgajkaa
set_option linter.unusedVariables false
set_option maxRecDepth 100000
open Go.RowKit
/-- Two numbers in a row of their own. -/
theorem two_at {w : World} {b : Nat} {u v : Value} {t : TypeId} (h : BlkAt w b #[u, v] t) : w.cell? ⟨b, 0, none⟩ = some u ∧ w.cell? ⟨b, 1, none⟩ = some v := ⟨h.at 0, h.at 1⟩
set_option maxHeartbeats 4000000 in
theorem vor64_any (b : Nat) (x y : Int) (w : World) (h : BlkAt w b #[.int .i64 x, .int .i64 y] 2) : Calls Try.prog 51 #[.slice (some ⟨b, 0, none⟩) 2 2] w fun e w' => e = .returned (.int .i64 (vOr x y)) ∧ w' = w := by
  obtain ⟨c0, c1⟩ := two_at h
  obtain ⟨V, hV⟩ : ∃ V, vOr x y = V := ⟨_, rfl⟩
  rw [hV]
  have HV := Lib.hid hV
  clear h hV
  by_cases hx : x = 0
  · subst hx
    obtain rfl : y = V := HV.out
    by_cases hy : y = 0
    · subst hy
      go_enter Try.func51, Try.ntmps51
      go_wp2
      refine wp_loop_rounds 3 ?_
      rw [rounds_succ]
      go_wp2
      rw [rounds_succ]
      go_wp2
      rw [rounds_succ]
      go_wp2
      go_ret
      exact ⟨rfl, rfl⟩
    · go_enter Try.func51, Try.ntmps51
      go_wp2
      refine wp_loop_rounds 2 ?_
      rw [rounds_succ]
      go_wp2
      rw [rounds_succ]
      go_wp2
      go_ret
      exact ⟨rfl, rfl⟩
  · obtain rfl : x = V := by rw [← HV.out]; exact (if_neg hx).symm
    go_enter Try.func51, Try.ntmps51
    go_wp2
    refine wp_loop_rounds 2 ?_
    rw [rounds_succ]
    go_wp2
    go_ret
    exact ⟨rfl, rfl⟩
set_option maxHeartbeats 4000000 in
theorem vorI_any (b : Nat) (x y : Int) (w : World) (h : BlkAt w b #[.int .i64 x, .int .i64 y] 3) : Calls Try.prog 68 #[.slice (some ⟨b, 0, none⟩) 2 2] w fun e w' => e = .returned (.int .i64 (vOr x y)) ∧ w' = w := by
  obtain ⟨c0, c1⟩ := two_at h
  obtain ⟨V, hV⟩ : ∃ V, vOr x y = V := ⟨_, rfl⟩
  rw [hV]
  have HV := Lib.hid hV
  clear h hV
  by_cases hx : x = 0
  · subst hx
    obtain rfl : y = V := HV.out
    by_cases hy : y = 0
    · subst hy
      go_enter Try.func68, Try.ntmps68
      go_wp2
      refine wp_loop_rounds 3 ?_
      rw [rounds_succ]
      go_wp2
      rw [rounds_succ]
      go_wp2
      rw [rounds_succ]
      go_wp2
      go_ret
      exact ⟨rfl, rfl⟩
    · go_enter Try.func68, Try.ntmps68
      go_wp2
      refine wp_loop_rounds 2 ?_
      rw [rounds_succ]
      go_wp2
      rw [rounds_succ]
      go_wp2
      go_ret
      exact ⟨rfl, rfl⟩
  · obtain rfl : x = V := by rw [← HV.out]; exact (if_neg hx).symm
    go_enter Try.func68, Try.ntmps68
    go_wp2
    refine wp_loop_rounds 2 ?_
    rw [rounds_succ]
    go_wp2
    go_ret
    exact ⟨rfl, rfl⟩
def vCmpI (x y : Int) : Int := if x < y then -1 else if y < x then 1 else 0
theorem nan64_any (x : Int) (w : World) : Calls Try.prog 54 #[.int .i64 x] w fun e w' => e = .returned (.bool false) ∧ w' = w := by
  go_enter Try.func54, Try.ntmps54
  go_wp2
  go_ret
  exact ⟨rfl, rfl⟩
set_option maxHeartbeats 1000000 in
theorem cmp64_any (x y : Int) (w : World) : Calls Try.prog 40 #[.int .i64 x, .int .i64 y] w fun e w' => e = .returned (.int .i64 (vCmpI x y)) ∧ w' = w := by
  have HN : Hid (∀ (x : Int) (w : World), Calls Try.prog 54 #[.int .i64 x] w fun e w' => e = .returned (.bool false) ∧ w' = w) := Lib.hid nan64_any
  obtain ⟨V, hV⟩ : ∃ V, vCmpI x y = V := ⟨_, rfl⟩
  rw [hV]
  unfold vCmpI at hV
  by_cases h1 : x < y
  · rw [if_pos h1] at hV
    subst hV
    go_enter Try.func40, Try.ntmps40
    go_wp2_with fail
    refine (HN.out _ _).mono ?_
    rintro e w' ⟨rfl, rfl⟩
    go_wp2_with fail
    refine (HN.out _ _).mono ?_
    rintro e w' ⟨rfl, rfl⟩
    go_wp2_with fail
    go_ret
    exact ⟨rfl, rfl⟩
  · rw [if_neg h1] at hV
    by_cases h2 : y < x
    · rw [if_pos h2] at hV
      subst hV
      go_enter Try.func40, Try.ntmps40
      go_wp2_with fail
      refine (HN.out _ _).mono ?_
      rintro e w' ⟨rfl, rfl⟩
      go_wp2_with fail
      refine (HN.out _ _).mono ?_
      rintro e w' ⟨rfl, rfl⟩
      go_wp2_with fail
      go_ret
      exact ⟨rfl, rfl⟩
    · rw [if_neg h2] at hV
      subst hV
      go_enter Try.func40, Try.ntmps40
      go_wp2_with fail
      refine (HN.out _ _).mono ?_
      rintro e w' ⟨rfl, rfl⟩
      go_wp2_with fail
      refine (HN.out _ _).mono ?_
      rintro e w' ⟨rfl, rfl⟩
      go_wp2_with fail
      go_ret
      exact ⟨rfl, rfl⟩
theorem nanI_any (x : Int) (w : World) : Calls Try.prog 81 #[.int .i64 x] w fun e w' => e = .returned (.bool false) ∧ w' = w := by
  go_enter Try.func81, Try.ntmps81
  go_wp2
  go_ret
  exact ⟨rfl, rfl⟩
set_option maxHeartbeats 1000000 in
theorem cmpInt_any (x y : Int) (w : World) : Calls Try.prog 69 #[.int .i64 x, .int .i64 y] w fun e w' => e = .returned (.int .i64 (vCmpI x y)) ∧ w' = w := by
  have HN : Hid (∀ (x : Int) (w : World), Calls Try.prog 81 #[.int .i64 x] w fun e w' => e = .returned (.bool false) ∧ w' = w) := Lib.hid nanI_any
  obtain ⟨V, hV⟩ : ∃ V, vCmpI x y = V := ⟨_, rfl⟩
  rw [hV]
  unfold vCmpI at hV
  by_cases h1 : x < y
  · rw [if_pos h1] at hV
    subst hV
    go_enter Try.func69, Try.ntmps69
    go_wp2_with fail
    refine (HN.out _ _).mono ?_
    rintro e w' ⟨rfl, rfl⟩
    go_wp2_with fail
    refine (HN.out _ _).mono ?_
    rintro e w' ⟨rfl, rfl⟩
    go_wp2_with fail
    go_ret
    exact ⟨rfl, rfl⟩
  · rw [if_neg h1] at hV
    by_cases h2 : y < x
    · rw [if_pos h2] at hV
      subst hV
      go_enter Try.func69, Try.ntmps69
      go_wp2_with fail
      refine (HN.out _ _).mono ?_
      rintro e w' ⟨rfl, rfl⟩
      go_wp2_with fail
      refine (HN.out _ _).mono ?_
      rintro e w' ⟨rfl, rfl⟩
      go_wp2_with fail
      go_ret
      exact ⟨rfl, rfl⟩
    · rw [if_neg h2] at hV
      subst hV
      go_enter Try.func69, Try.ntmps69
      go_wp2_with fail
      refine (HN.out _ _).mono ?_
      rintro e w' ⟨rfl, rfl⟩
      go_wp2_with fail
      refine (HN.out _ _).mono ?_
      rintro e w' ⟨rfl, rfl⟩
      go_wp2_with fail
      go_ret
      exact ⟨rfl, rfl⟩
theorem le_tri (a b : ByteArray) : ∃ p q : Bool, Op.bytesLess a.toList b.toList = p ∧ (a.toList == b.toList) = q ∧ (p || q) = !decide (bl b a) := by
  refine ⟨_, _, rfl, rfl, ?_⟩
  rcases bl_tri a b with h | rfl | h
  · rw [bs_less _ _ h, decide_eq_false fun k => bl_irr _ (bl_trans h k)]; rfl
  · rw [bs_not _ _ (bl_irr _), bs_refl, decide_eq_false (bl_irr _)]; rfl
  · have hn : ¬ bl a b := fun k => bl_irr _ (bl_trans h k)
    have hne : a ≠ b := by rintro rfl; exact bl_irr _ h
    rw [bs_not _ _ hn, bs_ne hne, decide_eq_true h]; rfl
set_option maxHeartbeats 4000000 in
theorem meets_raw (n l s : Int) (lo hi a b : ByteArray) (w : World) : Calls Try.prog 42 #[.agg #[.int .i64 n, .int .i64 l, .int .i64 s, .string lo, .string hi], .string a, .string b] w fun e w' => e = .returned (.bool (vOverB a b ⟨n, l, s, lo, hi⟩)) ∧ ∃ os, w' = w.alloc os := by
  obtain ⟨V, hV⟩ : ∃ V, vOverB a b ⟨n, l, s, lo, hi⟩ = V := ⟨_, rfl⟩
  rw [hV]
  unfold vOverB at hV
  simp only at hV
  obtain ⟨p1, q1, l1, e1, h1⟩ := le_tri a b
  obtain ⟨p2, q2, l2, e2, h2⟩ := le_tri lo b
  obtain ⟨p3, q3, l3, e3, h3⟩ := le_tri a hi
  rw [← h1, ← h2, ← h3] at hV
  clear h1 h2 h3
  cases p1 <;> cases q1 <;> cases p2 <;> cases q2 <;> cases p3 <;> cases q3
  all_goals
    subst hV
    go_enter Try.func42, Try.ntmps42
    go_wp2
    go_ret
    exact ⟨rfl, _, rfl⟩
end Go.Proofs.Ytgdmmhdihgajkaa
/- How tables are ordered: the walk of order, in the sort's own words. -/
namespace Go.Proofs.Ytgdmmhdihgajkaa
set_option linter.unusedVariables false
set_option maxRecDepth 100000
open Go.RowKit Go.Sort
open Go.Lib (compareBytes)
/-- Some draws, some blocks behind it. -/
def GrN (w w' : World) : Prop := ∃ p : GrownBy, w' = grow (w.drewN p.n) p.os
theorem GrN.refl (w : World) : GrN w w := ⟨⟨0, #[]⟩, by rw [grow_empty]; rfl⟩
theorem GrN.drew {w w' : World} (h : GrN w w') : GrN w w'.drew := by obtain ⟨⟨n, os⟩, rfl⟩ := h; exact ⟨⟨n + 1, os⟩, rfl⟩
theorem GrN.alloc {w w' : World} (h : GrN w w') (o : Obj) : GrN w (w'.alloc o) := by
  obtain ⟨⟨n, os⟩, rfl⟩ := h
  exact ⟨⟨n, os ++ #[o]⟩, by rw [alloc_eq_grow, grow_grow]⟩
theorem GrN.below {w w' : World} (h : GrN w w') : Below w.heap.size w w' := by
  obtain ⟨⟨n, os⟩, rfl⟩ := h
  have h1 : Below w.heap.size w (w.drewN n) := ⟨rfl, rfl, rfl, Nat.le_refl _, fun _ _ => rfl⟩
  refine h1.trans ⟨rfl, rfl, rfl, ?_, fun k hk => ?_⟩
  · simp only [size_grow]; omega
  · exact Array.getElem?_append_left hk
theorem GrN.trans {w w1 w2 : World} (h : GrN w w1) (k : GrN w1 w2) : GrN w w2 := by
  obtain ⟨⟨n, os⟩, rfl⟩ := h
  obtain ⟨⟨m, ot⟩, rfl⟩ := k
  exact ⟨⟨n + m, os ++ ot⟩, by show grow ((grow (w.drewN n) os).drewN m) ot = _; rw [← grow_grow, ← World.drewN_drewN]; rfl⟩
/-- The five cells of a block. -/
structure Cell5 (w : World) (b : Nat) (v0 v1 v2 v3 v4 : Value) : Prop where
  c0 : w.cell? ⟨b, 0, none⟩ = some v0
  c1 : w.cell? ⟨b, 1, none⟩ = some v1
  c2 : w.cell? ⟨b, 2, none⟩ = some v2
  c3 : w.cell? ⟨b, 3, none⟩ = some v3
  c4 : w.cell? ⟨b, 4, none⟩ = some v4
theorem cell5_of {w : World} {b : Nat} {v0 v1 v2 v3 v4 : Value} {t : TypeId} (h : BlkAt w b #[v0, v1, v2, v3, v4] t) : Cell5 w b v0 v1 v2 v3 v4 := ⟨h.at 0, h.at 1, h.at 2, h.at 3, h.at 4⟩
theorem BlkAt.drew {w : World} {b : Nat} {vs : Array Value} {t : TypeId} (h : BlkAt w b vs t) : BlkAt w.drew b vs t := h
/-- a ahead of b: below 0. -/
def vCf (x y : Tbf) : Int := if x.lvl = 0 ∧ y.lvl = 0 then vCmpI y.num x.num else vOr (vCmpI x.lvl y.lvl) (compareBytes x.lo.data.toList y.lo.data.toList)
def OrdTo (w : World) (c : Int) (e : Ending) (w' : World) : Prop := e = .returned (.int .i64 c) ∧ GrN w w'
set_option maxHeartbeats 4000000 in
theorem vorder_raw (n l s : Int) (lo hi : ByteArray) (m k t : Int) (lp hp : ByteArray) (w : World) :
    Calls Try.prog 61 #[.agg #[.int .i64 n, .int .i64 l, .int .i64 s, .string lo, .string hi], .agg #[.int .i64 m, .int .i64 k, .int .i64 t, .string lp, .string hp]] w (OrdTo w (vCf ⟨n, l, s, lo, hi⟩ ⟨m, k, t, lp, hp⟩)) := by
  obtain ⟨V, hV⟩ : ∃ V, vCf ⟨n, l, s, lo, hi⟩ ⟨m, k, t, lp, hp⟩ = V := ⟨_, rfl⟩
  rw [hV]
  unfold OrdTo
  have HV := Lib.hid hV
  clear hV
  have HG : Hid (GrN w ((w.alloc (.cells #[.int .i64 n, .int .i64 l, .int .i64 s, .string lo, .string hi] 49)).alloc (.cells #[.int .i64 m, .int .i64 k, .int .i64 t, .string lp, .string hp] 49))) := Lib.hid (((GrN.refl w).alloc _).alloc _)
  by_cases h0 : l = 0 ∧ k = 0
  · have e : vCmpI m n = V := by rw [← HV.out]; exact (if_pos h0).symm
    obtain ⟨rfl, rfl⟩ := h0
    have HC : Hid (∀ w, Calls Try.prog 40 #[.int .i64 m, .int .i64 n] w fun e w' => e = .returned (.int .i64 V) ∧ w' = w) := Lib.hid fun w => by rw [← e]; exact cmp64_any m n w
    clear e HV
    go_enter Try.func61, Try.ntmps61
    go_wp2_with fail
    refine (HC.out _).mono ?_
    rintro e w' ⟨rfl, rfl⟩
    go_wp2_with fail
    go_ret
    exact ⟨rfl, HG.out⟩
  · have e : vOr (vCmpI l k) (compareBytes lo.data.toList lp.data.toList) = V := by rw [← HV.out]; exact (if_neg h0).symm
    have HC1 : Hid (∀ w, Calls Try.prog 69 #[.int .i64 l, .int .i64 k] w fun e w' => e = .returned (.int .i64 (vCmpI l k)) ∧ w' = w) := Lib.hid fun w => cmpInt_any l k w
    have HC2 : Hid (∀ w, Calls Try.prog 70 #[.string lo, .string lp] w fun e w' => e = .returned (.int .i64 (compareBytes lo.data.toList lp.data.toList)) ∧ w = w') := Lib.hid fun w => scmp_any lo lp w
    generalize vCmpI l k = c1 at *
    generalize compareBytes lo.data.toList lp.data.toList = c2 at *
    have HC3 : Hid (∀ (b : Nat) (w : World), BlkAt w b #[.int .i64 c1, .int .i64 c2] 3 → Calls Try.prog 68 #[.slice (some ⟨b, 0, none⟩) 2 2] w fun e w' => e = .returned (.int .i64 V) ∧ w' = w) := Lib.hid fun b w h => by rw [← e]; exact vorI_any b c1 c2 w h
    clear e HV
    have HX := Lib.hid (BlkAt.new (w.alloc (.cells #[.int .i64 n, .int .i64 l, .int .i64 s, .string lo, .string hi] 49)) #[.int .i64 m, .int .i64 k, .int .i64 t, .string lp, .string hp] 49)
    have HY := Lib.hid ((BlkAt.new w #[.int .i64 n, .int .i64 l, .int .i64 s, .string lo, .string hi] 49).more (.cells #[.int .i64 m, .int .i64 k, .int .i64 t, .string lp, .string hp] 49))
    have hsz : (w.alloc (.cells #[.int .i64 n, .int .i64 l, .int .i64 s, .string lo, .string hi] 49)).heap.size = w.heap.size + 1 := by simp
    rw [hsz] at HX
    clear hsz
    by_cases hl : l = 0
    · have hk : ¬ k = 0 := fun h => h0 ⟨hl, h⟩
      subst hl
      clear h0
      go_enter Try.func61, Try.ntmps61
      go_wp2_with fail
      obtain ⟨w1, hw1⟩ : ∃ x, (w.alloc (.cells #[.int .i64 n, .int .i64 0, .int .i64 s, .string lo, .string hi] 49)).alloc (.cells #[.int .i64 m, .int .i64 k, .int .i64 t, .string lp, .string hp] 49) = x := ⟨_, rfl⟩
      obtain ⟨g, hg⟩ : ∃ x, w.heap.size = x := ⟨_, rfl⟩
      rw [hw1] at HG HX HY ⊢
      rw [hg] at HX HY ⊢
      have CA : Hid (∀ W, GrN w1 W → Cell5 W g (.int .i64 n) (.int .i64 0) (.int .i64 s) (.string lo) (.string hi)) := Lib.hid fun W h => cell5_of (HY.out.below h.below)
      have CB : Hid (∀ W, GrN w1 W → Cell5 W (g + 1) (.int .i64 m) (.int .i64 k) (.int .i64 t) (.string lp) (.string hp)) := Lib.hid fun W h => cell5_of (HX.out.below h.below)
      clear HX HY hw1 hg
      refine wp_region_held_drew (S := GrN w1) (by kernel_rfl) (GrN.refl w1).drew (fun hHeld => ?_)
      refine takeYes (i := 0) (k := 18) (v := .pointer (some ⟨g, 1, none⟩)) rfl (by kernel_rfl) (by kernel_rfl) (by kernel_rfl) (by kernel_rfl) (fun _ _ _ h => h) (by kernel_rfl) ?_ (by assumption) ?_
      · intro W hSw; first | (go_simp; done) | go_simp
      try simp only [Act.put, List.setIfInBounds_toArray, List.set_cons_zero, List.set_cons_succ]
      refine takeYes (i := 1) (k := 19) (v := .int .i64 0) rfl (by kernel_rfl) (by kernel_rfl) (by kernel_rfl) (by kernel_rfl) (fun _ _ _ h => h) (by kernel_rfl) ?_ (by assumption) ?_
      · intro W hSw; obtain ⟨d0, d1, d2, d3, d4⟩ := CA.out W hSw; first | (go_simp; done) | go_simp
      try simp only [Act.put, List.setIfInBounds_toArray, List.set_cons_zero, List.set_cons_succ]
      refine takeYes (i := 2) (k := 20) (v := .pointer (some ⟨g + 1, 1, none⟩)) rfl (by kernel_rfl) (by kernel_rfl) (by kernel_rfl) (by kernel_rfl) (fun _ _ _ h => h) (by kernel_rfl) ?_ (by assumption) ?_
      · intro W hSw; first | (go_simp; done) | go_simp
      try simp only [Act.put, List.setIfInBounds_toArray, List.set_cons_zero, List.set_cons_succ]
      refine takeYes (i := 3) (k := 21) (v := .int .i64 k) rfl (by kernel_rfl) (by kernel_rfl) (by kernel_rfl) (by kernel_rfl) (fun _ _ _ h => h) (by kernel_rfl) ?_ (by assumption) ?_
      · intro W hSw; obtain ⟨d0, d1, d2, d3, d4⟩ := CB.out W hSw; first | (go_simp; done) | go_simp
      try simp only [Act.put, List.setIfInBounds_toArray, List.set_cons_zero, List.set_cons_succ]
      refine takeYes (i := 5) (k := 23) (v := .pointer (some ⟨g, 3, none⟩)) rfl (by kernel_rfl) (by kernel_rfl) (by kernel_rfl) (by kernel_rfl) (fun _ _ _ h => h) (by kernel_rfl) ?_ (by assumption) ?_
      · intro W hSw; first | (go_simp; done) | go_simp
      try simp only [Act.put, List.setIfInBounds_toArray, List.set_cons_zero, List.set_cons_succ]
      refine takeYes (i := 6) (k := 24) (v := .string lo) rfl (by kernel_rfl) (by kernel_rfl) (by kernel_rfl) (by kernel_rfl) (fun _ _ _ h => h) (by kernel_rfl) ?_ (by assumption) ?_
      · intro W hSw; obtain ⟨d0, d1, d2, d3, d4⟩ := CA.out W hSw; first | (go_simp; done) | go_simp
      try simp only [Act.put, List.setIfInBounds_toArray, List.set_cons_zero, List.set_cons_succ]
      refine takeYes (i := 7) (k := 25) (v := .pointer (some ⟨g + 1, 3, none⟩)) rfl (by kernel_rfl) (by kernel_rfl) (by kernel_rfl) (by kernel_rfl) (fun _ _ _ h => h) (by kernel_rfl) ?_ (by assumption) ?_
      · intro W hSw; first | (go_simp; done) | go_simp
      try simp only [Act.put, List.setIfInBounds_toArray, List.set_cons_zero, List.set_cons_succ]
      refine takeYes (i := 8) (k := 26) (v := .string lp) rfl (by kernel_rfl) (by kernel_rfl) (by kernel_rfl) (by kernel_rfl) (fun _ _ _ h => h) (by kernel_rfl) ?_ (by assumption) ?_
      · intro W hSw; obtain ⟨d0, d1, d2, d3, d4⟩ := CB.out W hSw; first | (go_simp; done) | go_simp
      try simp only [Act.put, List.setIfInBounds_toArray, List.set_cons_zero, List.set_cons_succ]
      refine wpAnyH_ready (rs := [4]) (by kernel_rfl) (by simp) (AllReadyH.cons rfl (fun K hK => ?_) AllReadyH.nil)
      go_simp
      refine (HC1.out _).mono ?_
      rintro e w' ⟨rfl, rfl⟩
      refine hK.out _ _ (by assumption) (fun _ => ?_)
      clear hK K
      try simp only [Act.put, List.setIfInBounds_toArray, List.set_cons_zero, List.set_cons_succ]
      refine wpAnyH_ready (rs := [9]) (by kernel_rfl) (by simp) (AllReadyH.cons rfl (fun K hK => ?_) AllReadyH.nil)
      go_simp
      refine (HC2.out _).mono ?_
      rintro e w' ⟨rfl, rfl⟩
      refine hK.out _ _ (by assumption) (fun _ => ?_)
      clear hK K
      try simp only [Act.put, List.setIfInBounds_toArray, List.set_cons_zero, List.set_cons_succ]
      refine wpAnyH_ready (rs := [10]) (by kernel_rfl) (by simp) (AllReadyH.cons rfl (fun K hK => ?_) AllReadyH.nil)
      go_simp
      refine hK.out _ _ ((GrN.refl w1).alloc _).drew (fun hH2 => ?_)
      clear hK K
      try simp only [Act.put, List.setIfInBounds_toArray, List.set_cons_zero, List.set_cons_succ]
      refine wpAnyH_ready (rs := [11]) (by kernel_rfl) (by simp) (AllReadyH.cons rfl (fun K hK => ?_) AllReadyH.nil)
      go_simp
      refine (HC3.out _ _ (BlkAt.new _ _ _).drew).mono ?_
      rintro e w' ⟨rfl, rfl⟩
      refine hK.out _ _ (by assumption) (fun _ => ?_)
      clear hK K
      try simp only [Act.put, List.setIfInBounds_toArray, List.set_cons_zero, List.set_cons_succ]
      refine takeYes (i := 12) (k := 4) (v := .int .i64 V) rfl (by kernel_rfl) (by kernel_rfl) (by kernel_rfl) (by kernel_rfl) (fun _ _ _ h => h) (by kernel_rfl) ?_ (by assumption) ?_
      · intro W hSw; first | (go_simp; done) | go_simp
      try simp only [Act.put, List.setIfInBounds_toArray, List.set_cons_zero, List.set_cons_succ]
      refine wpAnyH_done (by kernel_rfl) ?_ _
      have HE := Lib.hid (HG.out.trans hH2)
      clear hH2
      go_wp2_with fail
      go_ret
      exact ⟨rfl, HE.out⟩
    · clear h0
      go_enter Try.func61, Try.ntmps61
      go_wp2_with fail
      obtain ⟨w1, hw1⟩ : ∃ x, (w.alloc (.cells #[.int .i64 n, .int .i64 l, .int .i64 s, .string lo, .string hi] 49)).alloc (.cells #[.int .i64 m, .int .i64 k, .int .i64 t, .string lp, .string hp] 49) = x := ⟨_, rfl⟩
      obtain ⟨g, hg⟩ : ∃ x, w.heap.size = x := ⟨_, rfl⟩
      rw [hw1] at HG HX HY ⊢
      rw [hg] at HX HY ⊢
      have CA : Hid (∀ W, GrN w1 W → Cell5 W g (.int .i64 n) (.int .i64 l) (.int .i64 s) (.string lo) (.string hi)) := Lib.hid fun W h => cell5_of (HY.out.below h.below)
      have CB : Hid (∀ W, GrN w1 W → Cell5 W (g + 1) (.int .i64 m) (.int .i64 k) (.int .i64 t) (.string lp) (.string hp)) := Lib.hid fun W h => cell5_of (HX.out.below h.below)
      clear HX HY hw1 hg
      refine wp_region_held_drew (S := GrN w1) (by kernel_rfl) (GrN.refl w1).drew (fun hHeld => ?_)
      refine takeYes (i := 0) (k := 18) (v := .pointer (some ⟨g, 1, none⟩)) rfl (by kernel_rfl) (by kernel_rfl) (by kernel_rfl) (by kernel_rfl) (fun _ _ _ h => h) (by kernel_rfl) ?_ (by assumption) ?_
      · intro W hSw; first | (go_simp; done) | go_simp
      try simp only [Act.put, List.setIfInBounds_toArray, List.set_cons_zero, List.set_cons_succ]
      refine takeYes (i := 1) (k := 19) (v := .int .i64 l) rfl (by kernel_rfl) (by kernel_rfl) (by kernel_rfl) (by kernel_rfl) (fun _ _ _ h => h) (by kernel_rfl) ?_ (by assumption) ?_
      · intro W hSw; obtain ⟨d0, d1, d2, d3, d4⟩ := CA.out W hSw; first | (go_simp; done) | go_simp
      try simp only [Act.put, List.setIfInBounds_toArray, List.set_cons_zero, List.set_cons_succ]
      refine takeYes (i := 2) (k := 20) (v := .pointer (some ⟨g + 1, 1, none⟩)) rfl (by kernel_rfl) (by kernel_rfl) (by kernel_rfl) (by kernel_rfl) (fun _ _ _ h => h) (by kernel_rfl) ?_ (by assumption) ?_
      · intro W hSw; first | (go_simp; done) | go_simp
      try simp only [Act.put, List.setIfInBounds_toArray, List.set_cons_zero, List.set_cons_succ]
      refine takeYes (i := 3) (k := 21) (v := .int .i64 k) rfl (by kernel_rfl) (by kernel_rfl) (by kernel_rfl) (by kernel_rfl) (fun _ _ _ h => h) (by kernel_rfl) ?_ (by assumption) ?_
      · intro W hSw; obtain ⟨d0, d1, d2, d3, d4⟩ := CB.out W hSw; first | (go_simp; done) | go_simp
      try simp only [Act.put, List.setIfInBounds_toArray, List.set_cons_zero, List.set_cons_succ]
      refine takeYes (i := 5) (k := 23) (v := .pointer (some ⟨g, 3, none⟩)) rfl (by kernel_rfl) (by kernel_rfl) (by kernel_rfl) (by kernel_rfl) (fun _ _ _ h => h) (by kernel_rfl) ?_ (by assumption) ?_
      · intro W hSw; first | (go_simp; done) | go_simp
      try simp only [Act.put, List.setIfInBounds_toArray, List.set_cons_zero, List.set_cons_succ]
      refine takeYes (i := 6) (k := 24) (v := .string lo) rfl (by kernel_rfl) (by kernel_rfl) (by kernel_rfl) (by kernel_rfl) (fun _ _ _ h => h) (by kernel_rfl) ?_ (by assumption) ?_
      · intro W hSw; obtain ⟨d0, d1, d2, d3, d4⟩ := CA.out W hSw; first | (go_simp; done) | go_simp
      try simp only [Act.put, List.setIfInBounds_toArray, List.set_cons_zero, List.set_cons_succ]
      refine takeYes (i := 7) (k := 25) (v := .pointer (some ⟨g + 1, 3, none⟩)) rfl (by kernel_rfl) (by kernel_rfl) (by kernel_rfl) (by kernel_rfl) (fun _ _ _ h => h) (by kernel_rfl) ?_ (by assumption) ?_
      · intro W hSw; first | (go_simp; done) | go_simp
      try simp only [Act.put, List.setIfInBounds_toArray, List.set_cons_zero, List.set_cons_succ]
      refine takeYes (i := 8) (k := 26) (v := .string lp) rfl (by kernel_rfl) (by kernel_rfl) (by kernel_rfl) (by kernel_rfl) (fun _ _ _ h => h) (by kernel_rfl) ?_ (by assumption) ?_
      · intro W hSw; obtain ⟨d0, d1, d2, d3, d4⟩ := CB.out W hSw; first | (go_simp; done) | go_simp
      try simp only [Act.put, List.setIfInBounds_toArray, List.set_cons_zero, List.set_cons_succ]
      refine wpAnyH_ready (rs := [4]) (by kernel_rfl) (by simp) (AllReadyH.cons rfl (fun K hK => ?_) AllReadyH.nil)
      go_simp
      refine (HC1.out _).mono ?_
      rintro e w' ⟨rfl, rfl⟩
      refine hK.out _ _ (by assumption) (fun _ => ?_)
      clear hK K
      try simp only [Act.put, List.setIfInBounds_toArray, List.set_cons_zero, List.set_cons_succ]
      refine wpAnyH_ready (rs := [9]) (by kernel_rfl) (by simp) (AllReadyH.cons rfl (fun K hK => ?_) AllReadyH.nil)
      go_simp
      refine (HC2.out _).mono ?_
      rintro e w' ⟨rfl, rfl⟩
      refine hK.out _ _ (by assumption) (fun _ => ?_)
      clear hK K
      try simp only [Act.put, List.setIfInBounds_toArray, List.set_cons_zero, List.set_cons_succ]
      refine wpAnyH_ready (rs := [10]) (by kernel_rfl) (by simp) (AllReadyH.cons rfl (fun K hK => ?_) AllReadyH.nil)
      go_simp
      refine hK.out _ _ ((GrN.refl w1).alloc _).drew (fun hH2 => ?_)
      clear hK K
      try simp only [Act.put, List.setIfInBounds_toArray, List.set_cons_zero, List.set_cons_succ]
      refine wpAnyH_ready (rs := [11]) (by kernel_rfl) (by simp) (AllReadyH.cons rfl (fun K hK => ?_) AllReadyH.nil)
      go_simp
      refine (HC3.out _ _ (BlkAt.new _ _ _).drew).mono ?_
      rintro e w' ⟨rfl, rfl⟩
      refine hK.out _ _ (by assumption) (fun _ => ?_)
      clear hK K
      try simp only [Act.put, List.setIfInBounds_toArray, List.set_cons_zero, List.set_cons_succ]
      refine takeYes (i := 12) (k := 4) (v := .int .i64 V) rfl (by kernel_rfl) (by kernel_rfl) (by kernel_rfl) (by kernel_rfl) (fun _ _ _ h => h) (by kernel_rfl) ?_ (by assumption) ?_
      · intro W hSw; first | (go_simp; done) | go_simp
      try simp only [Act.put, List.setIfInBounds_toArray, List.set_cons_zero, List.set_cons_succ]
      refine wpAnyH_done (by kernel_rfl) ?_ _
      have HE := Lib.hid (HG.out.trans hH2)
      clear hH2
      go_wp2_with fail
      go_ret
      exact ⟨rfl, HE.out⟩
theorem vorder_any (x y : Tbf) (w : World) : Calls Try.prog 61 #[x.v, y.v] w (OrdTo w (vCf x y)) := vorder_raw x.num x.lvl x.siz x.lo x.hi y.num y.lvl y.siz y.lo y.hi w
end Go.Proofs.Ytgdmmhdihgajkaa
/- The library's contracts, laid at this program: slices.SortFunc. -/
namespace Go.Proofs.Ytgdmmhdihgajkaa
open Go.Shelf
def sortF_ren : Go.Shelf.Ren := ⟨fun | 6 => 60 | 15 => 67 | 14 => 66 | 28 => 79 | 29 => 80 | 20 => 71 | 21 => 72 | 22 => 73 | 23 => 74 | 24 => 75 | 25 => 76 | 26 => 77 | 27 => 78 | 46 => 83 | 47 => 84 | 48 => 85 | 49 => 86 | 50 => 87 | 57 => 89 | n => n, fun | 22 => 30 | 24 => 49 | 25 => 79 | 3 => 3 | 39 => 100 | 0 => 0 | 53 => 113 | 55 => 115 | 4 => 4 | 46 => 107 | 45 => 106 | 50 => 58 | 5 => 5 | 9 => 9 | 66 => 117 | 70 => 121 | 76 => 123 | 77 => 124 | n => n, fun | n => n⟩
theorem sortF : Go.Proofs.SlLaysF0.n6 Try.prog sortF_ren := {
  mixed := by kernel_rfl
  f6 := ⟨Try.f60.name, by decide, Try.func60.trans (congrArg some (by kernel_rfl))⟩
  f14 := ⟨Try.f66.name, by decide, Try.func66.trans (congrArg some (by kernel_rfl))⟩
  f15 := Try.func67.trans (congrArg some (by kernel_rfl))
  f20 := ⟨Try.f71.name, by decide, Try.func71.trans (congrArg some (by kernel_rfl))⟩
  f21 := ⟨Try.f72.name, by decide, Try.func72.trans (congrArg some (by kernel_rfl))⟩
  f22 := ⟨Try.f73.name, by decide, Try.func73.trans (congrArg some (by kernel_rfl))⟩
  f23 := ⟨Try.f74.name, by decide, Try.func74.trans (congrArg some (by kernel_rfl))⟩
  f24 := ⟨Try.f75.name, by decide, Try.func75.trans (congrArg some (by kernel_rfl))⟩
  f25 := ⟨Try.f76.name, by decide, Try.func76.trans (congrArg some (by kernel_rfl))⟩
  f26 := ⟨Try.f77.name, by decide, Try.func77.trans (congrArg some (by kernel_rfl))⟩
  f27 := ⟨Try.f78.name, by decide, Try.func78.trans (congrArg some (by kernel_rfl))⟩
  f28 := Try.func79.trans (congrArg some (by kernel_rfl))
  f29 := Try.func80.trans (congrArg some (by kernel_rfl))
  f46 := ⟨Try.f83.name, by decide, Try.func83.trans (congrArg some (by kernel_rfl))⟩
  f47 := Try.func84.trans (congrArg some (by kernel_rfl))
  f48 := Try.func85.trans (congrArg some (by kernel_rfl))
  f49 := ⟨Try.f86.name, by decide, Try.func86.trans (congrArg some (by kernel_rfl))⟩
  f50 := ⟨Try.f87.name, by decide, Try.func87.trans (congrArg some (by kernel_rfl))⟩
  f57 := ⟨Try.f89.name, by decide, Try.func89.trans (congrArg some (by kernel_rfl))⟩
  t0 := Try.underlying0
  a0 := Try.isAgg0
  z0 := Try.sizeOf0
  v0 := Try.zeroValue0
  t3 := Try.underlying3
  a3 := Try.isAgg3
  z3 := Try.sizeOf3
  v3 := Try.zeroValue3
  t4 := Try.underlying4
  a4 := Try.isAgg4
  z4 := Try.sizeOf4
  v4 := Try.zeroValue4
  t5 := Try.underlying5
  a5 := Try.isAgg5
  z5 := Try.sizeOf5
  v5 := Try.zeroValue5
  t9 := Try.underlying9
  a9 := Try.isAgg9
  z9 := Try.sizeOf9
  v9 := Try.zeroValue9
  t22 := Try.underlying30
  a22 := Try.isAgg30
  z22 := Try.sizeOf30
  v22 := Try.zeroValue30
  t25 := Try.underlying79
  a25 := Try.isAgg79
  z25 := Try.sizeOf79
  v25 := Try.zeroValue79
  t39 := Try.underlying100
  a39 := Try.isAgg100
  z39 := Try.sizeOf100
  v39 := Try.zeroValue100
  t45 := Try.underlying106
  a45 := Try.isAgg106
  z45 := Try.sizeOf106
  v45 := Try.zeroValue106
  t46 := Try.underlying107
  a46 := Try.isAgg107
  z46 := Try.sizeOf107
  v46 := Try.zeroValue107
  t50 := Try.underlying58
  a50 := Try.isAgg58
  z50 := Try.sizeOf58
  v50 := Try.zeroValue58
  t53 := Try.underlying113
  a53 := Try.isAgg113
  z53 := Try.sizeOf113
  v53 := Try.zeroValue113
  t55 := Try.underlying115
  a55 := Try.isAgg115
  z55 := Try.sizeOf115
  v55 := Try.zeroValue115
  t66 := Try.underlying117
  a66 := Try.isAgg117
  z66 := Try.sizeOf117
  v66 := Try.zeroValue117
  t70 := Try.underlying121
  a70 := Try.isAgg121
  z70 := Try.sizeOf121
  v70 := Try.zeroValue121
  t76 := Try.underlying123
  a76 := Try.isAgg123
  z76 := Try.sizeOf123
  v76 := Try.zeroValue123
  t77 := Try.underlying124
  a77 := Try.isAgg124
  z77 := Try.sizeOf124
  v77 := Try.zeroValue124 }
end Go.Proofs.Ytgdmmhdihgajkaa
/- A row of structs of the call's own as the library's sort speaks of it. -/
namespace Go.Proofs.Ytgdmmhdihgajkaa
set_option linter.unusedVariables false
open Go.RowKit Go.Shelf Go.Lib
open Go.Sort (HoldsK Holds flatK putRowK putRow putCells mapBlock grow get_flatK size_flatK size_putRow heap_grow_old PermIn SortedIn)
theorem OwnK.blockS {α : Type} {enc : α → List Value} {k E B : Nat} {w : World} {g n cap : Nat} {xs : List α} (h : OwnK enc k E B w (.slice (some ⟨g, 0, none⟩) n cap) xs) : ∃ cur, w.heap[g]? = some (.cells cur E (0, 0)) ∧ n = xs.length ∧ xs.length ≤ cap ∧ cap ≤ maxLen ∧ cur.size = cap * k ∧ B ≤ g ∧ g < w.heap.size ∧ cur.toList.take (xs.length * k) = xs.flatMap enc := by
  rcases h.blk with ⟨e1, -⟩ | ⟨g', cap', cur, e1, e2, e3, e4, e5, e6, e7, e8⟩
  · simp at e1
  · simp only [Value.slice.injEq, Option.some.injEq, Addr.mk.injEq] at e1
    obtain ⟨⟨rfl, -⟩, rfl, rfl⟩ := e1
    exact ⟨cur, e4, rfl, e5, e6, e7, e2, e3, e8⟩
section
variable {α : Type} [Inhabited α] {enc : α → List Value} {k E B : Nat} {w w' : World} {g n cap : Nat} {xs ys : List α}
theorem flatK_list (hk : EncK enc k) (xs : List α) (t : Nat) (h : t < xs.length * k) : some ((flatK enc k xs.toArray)[t]!) = (xs.flatMap enc)[t]? := by
  have hk0 : 0 < k := by rcases Nat.eq_zero_or_pos k with h0 | h0; · subst h0; simp at h
                         · exact h0
  have hm : t % k < k := Nat.mod_lt t hk0
  have hd : t / k < xs.length := (Nat.div_lt_iff_lt_mul hk0).2 h
  have hx : xs[t / k]? = some xs[t / k] := List.getElem?_eq_getElem hd
  have hjk : t / k * k + t % k = t := by rw [Nat.mul_comm]; exact Nat.div_add_mod t k
  have h2 := flat_at hk xs (t / k) (t % k) _ hx hm
  rw [hjk] at h2
  rw [h2, get_flatK _ _ _ _ (by simpa using h)]
  have e : xs.toArray[t / k]! = xs[t / k] := by simp [hd]
  rw [e, getElem!_pos _ _ (by rw [hk]; exact hm), List.getElem?_eq_getElem (by rw [hk]; exact hm)]
theorem OwnK.holdsK (hk : EncK enc k) (h : OwnK enc k E B w (.slice (some ⟨g, 0, none⟩) n cap) xs) : HoldsK enc k w g 0 xs.toArray := by
  obtain ⟨cur, hb, -, h1, -, h3, -, -, hc⟩ := h.blockS
  intro j hj
  rw [size_flatK] at hj
  have hj' : j < xs.length * k := by simpa using hj
  have e := flatK_list hk xs j hj'
  rw [← hc, List.getElem?_take_of_lt hj', Array.getElem?_toList] at e
  constructor
  · simp only [World.cell?, hb, Option.isSome_none, Bool.false_eq_true, if_false, Nat.zero_add]
    exact e.symm
  · simp only [World.frozen?, hb]; simp
theorem OwnK.sortedK (hk : EncK enc k) (h : OwnK enc k E B w (.slice (some ⟨g, 0, none⟩) n cap) xs) (hS : SWK enc k w g 0 ys.toArray w') (hl : ys.length = xs.length) :
    OwnK enc k E B w' (.slice (some ⟨g, 0, none⟩) n cap) ys ∧ Below B w w' := by
  obtain ⟨cur, hb, hn, h1, h2, h3, hg, hgl, hc⟩ := h.blockS
  obtain ⟨q, os, rfl⟩ := hS
  have hsz : (putRowK enc k (Go.Sort.ahead w q) g 0 ys.toArray).heap.size = w.heap.size := size_putRow _ _ _ _ _
  have hheap : (putRowK enc k (Go.Sort.ahead w q) g 0 ys.toArray).heap = w.heap.modify g (Go.Sort.onCells (putCells id 0 (flatK enc k ys.toArray))) := rfl
  have hb' : (grow (putRowK enc k (Go.Sort.ahead w q) g 0 ys.toArray) os).heap[g]? = some (.cells (putCells id 0 (flatK enc k ys.toArray) cur) E (0, 0)) := by
    rw [heap_grow_old _ _ (by rw [hsz]; exact hgl), hheap, Array.getElem?_modify, if_pos rfl, hb]; rfl
  constructor
  · refine ⟨flat_lenK hk _, .inr ⟨g, cap, _, by rw [hn, hl], hg, hb', by rw [hl]; exact h1, h2, by simp [putCells, h3], ?_⟩⟩
    apply List.ext_getElem?
    intro i
    by_cases hi : i < ys.length * k
    · have hic : i < cur.size := by rw [h3]; exact Nat.lt_of_lt_of_le hi (Nat.mul_le_mul_right k (by rw [hl]; exact h1))
      rw [List.getElem?_take_of_lt hi, Array.getElem?_toList, ← flatK_list hk ys i hi, Array.getElem?_eq_getElem (by simpa [putCells] using hic)]
      simp only [putCells, Array.getElem_mapIdx, size_flatK, List.size_toArray]
      rw [if_pos ⟨Nat.zero_le _, by omega⟩]; rfl
    · rw [List.getElem?_eq_none (by rw [List.length_take]; omega), List.getElem?_eq_none (by rw [flat_lenK hk]; omega)]
  · refine ⟨rfl, rfl, rfl, ?_, fun j hj => ?_⟩
    · show w.heap.size ≤ (grow (putRowK enc k (Go.Sort.ahead w q) g 0 ys.toArray) os).heap.size
      rw [Go.Sort.size_grow, hsz]; omega
    · show (grow (putRowK enc k (Go.Sort.ahead w q) g 0 ys.toArray) os).heap[j]? = _
      rw [heap_grow_old _ _ (by rw [hsz]; omega), hheap, Array.getElem?_modify, if_neg (by omega)]
theorem perm_list {d' : Array α} (h : PermIn 0 xs.toArray.size xs.toArray d') : d'.toList.Perm xs := by
  obtain ⟨h1, -, h2⟩ := h
  have e1 : d'.extract 0 xs.toArray.size = d' := by rw [← h1, Array.extract_size]
  have e2 : xs.toArray.extract 0 xs.toArray.size = xs.toArray := Array.extract_size
  rwa [e1, e2] at h2
theorem sorted_list {lt : α → α → Bool} {d' : Array α} (hs : d'.size = xs.length) (h : SortedIn lt 0 xs.length d') : d'.toList.Pairwise fun f g => lt g f = false := by
  rw [List.pairwise_iff_getElem]
  intro i j hi hj hij
  rw [Array.length_toList] at hi hj
  have := h i j (Nat.zero_le _) hij (by omega)
  rw [getElem!_pos d' j hj, getElem!_pos d' i hi] at this
  simpa using this
end
end Go.Proofs.Ytgdmmhdihgajkaa
/- Tables in order: what the library's sort makes of a row of the call's own. -/
namespace Go.Proofs.Ytgdmmhdihgajkaa
set_option linter.unusedVariables false
open Go.RowKit Go.Shelf
open Go.Sort (HoldsK PermIn SortedIn SWO)
open Go.Lib (compareBytes)
instance : Inhabited Tbf := ⟨Tbf.none⟩
/-- f stands ahead of g. -/
def vLt (f g : Tbf) : Prop := f.lvl < g.lvl ∨ f.lvl = g.lvl ∧ (f.lvl = 0 ∧ g.num < f.num ∨ f.lvl ≠ 0 ∧ bl f.lo g.lo)
instance (f g : Tbf) : Decidable (vLt f g) := inferInstanceAs (Decidable (_ ∨ _))
theorem cmpI_neg (x y : Int) : vCmpI x y < 0 ↔ x < y := by
  unfold vCmpI
  split
  · exact ⟨fun _ => by assumption, fun _ => by decide⟩
  · split <;> omega
theorem cmpI_zero (x y : Int) : vCmpI x y = 0 ↔ x = y := by
  unfold vCmpI
  split
  · omega
  · split <;> omega
theorem cmpB_neg (a b : ByteArray) : compareBytes a.data.toList b.data.toList < 0 ↔ bl a b := by
  rcases bl_tri a b with h | rfl | h
  · rw [(cmpL_lt _ _ h).1]; exact ⟨fun _ => h, fun _ => by decide⟩
  · rw [cmpL_self]; exact ⟨fun h => absurd h (by decide), fun h => absurd h (bl_irr _)⟩
  · rw [(cmpL_lt _ _ h).2]; exact ⟨fun h => absurd h (by decide), fun k => absurd (bl_trans h k) (bl_irr _)⟩
theorem ltOf_vCf (f g : Tbf) : ltOf vCf f g = decide (vLt f g) := by
  unfold ltOf
  rw [decide_eq_decide]
  unfold vCf vLt
  by_cases h0 : f.lvl = 0 ∧ g.lvl = 0
  · rw [if_pos h0, cmpI_neg]
    obtain ⟨h1, h2⟩ := h0
    rw [h1, h2]
    constructor
    · intro h; exact .inr ⟨rfl, .inl ⟨rfl, h⟩⟩
    · rintro (h | ⟨-, h | ⟨h, -⟩⟩)
      · omega
      · exact h.2
      · exact absurd rfl h
  · rw [if_neg h0]
    unfold vOr
    by_cases h1 : f.lvl = g.lvl
    · rw [if_pos ((cmpI_zero _ _).2 h1), cmpB_neg]
      have hn : f.lvl ≠ 0 := fun h => h0 ⟨h, by omega⟩
      constructor
      · intro h; exact .inr ⟨h1, .inr ⟨hn, h⟩⟩
      · rintro (h | ⟨-, h | h⟩)
        · omega
        · exact absurd h.1 hn
        · exact h.2
    · rw [if_neg (fun h => h1 ((cmpI_zero _ _).1 h)), cmpI_neg]
      constructor
      · intro h; exact .inl h
      · rintro (h | ⟨h, -⟩)
        · exact h
        · exact absurd h h1
theorem vLt_irr (f : Tbf) : ¬ vLt f f := by
  rintro (h | ⟨-, ⟨-, h⟩ | ⟨-, h⟩⟩)
  · omega
  · omega
  · exact bl_irr _ h
theorem vLt_trans {f g h : Tbf} (a : vLt f g) (b : vLt g h) : vLt f h := by
  rcases a with a | ⟨a1, a2⟩
  · rcases b with b | ⟨b1, -⟩
    · exact .inl (by omega)
    · exact .inl (by omega)
  · rcases b with b | ⟨b1, b2⟩
    · exact .inl (by omega)
    · refine .inr ⟨by omega, ?_⟩
      rcases a2 with ⟨c1, c2⟩ | ⟨c1, c2⟩
      · rcases b2 with ⟨d1, d2⟩ | ⟨d1, d2⟩
        · exact .inl ⟨c1, by omega⟩
        · exact absurd (show g.lvl = 0 by omega) d1
      · rcases b2 with ⟨d1, d2⟩ | ⟨d1, d2⟩
        · exact absurd (show f.lvl = 0 by omega) c1
        · exact .inr ⟨c1, bl_trans c2 d2⟩
theorem not_vLt {f g : Tbf} (h : ¬ vLt f g) : g.lvl < f.lvl ∨ f.lvl = g.lvl ∧ (f.lvl = 0 ∧ f.num ≤ g.num ∨ f.lvl ≠ 0 ∧ ¬ bl f.lo g.lo) := by
  unfold vLt at h
  rcases Int.lt_trichotomy f.lvl g.lvl with k | k | k
  · exact absurd (.inl k) h
  · refine .inr ⟨k, ?_⟩
    by_cases h0 : f.lvl = 0
    · exact .inl ⟨h0, Int.not_lt.1 fun q => h (.inr ⟨k, .inl ⟨h0, q⟩⟩)⟩
    · exact .inr ⟨h0, fun q => h (.inr ⟨k, .inr ⟨h0, q⟩⟩)⟩
  · exact .inl k
theorem bl_ntrans {a b c : ByteArray} (h : ¬ bl a b) (k : ¬ bl b c) : ¬ bl a c := by
  intro q
  rcases bl_tri a b with r | r | r
  · exact h r
  · subst r; exact k q
  · exact k (bl_trans r q)
theorem vLt_ntrans {f g h : Tbf} (a : ¬ vLt f g) (b : ¬ vLt g h) : ¬ vLt f h := by
  have a' := not_vLt a
  have b' := not_vLt b
  rintro (c | ⟨c1, c2⟩)
  · rcases a' with a' | ⟨a1, -⟩ <;> rcases b' with b' | ⟨b1, -⟩ <;> omega
  · rcases a' with a' | ⟨a1, a2⟩
    · rcases b' with b' | ⟨b1, -⟩ <;> omega
    · rcases b' with b' | ⟨b1, b2⟩
      · omega
      · rcases c2 with ⟨d1, d2⟩ | ⟨d1, d2⟩
        · rcases a2 with ⟨-, a3⟩ | ⟨a3, -⟩
          · rcases b2 with ⟨-, b3⟩ | ⟨b3, -⟩
            · omega
            · exact b3 (by omega)
          · exact a3 d1
        · rcases a2 with ⟨a3, -⟩ | ⟨-, a3⟩
          · exact d1 a3
          · rcases b2 with ⟨b3, -⟩ | ⟨-, b3⟩
            · exact d1 (by omega)
            · exact bl_ntrans a3 b3 d2
theorem swo_vCf : SWO (ltOf vCf) where
  irrefl x := by rw [ltOf_vCf]; exact decide_eq_false (vLt_irr x)
  trans x y z h k := by rw [ltOf_vCf] at *; exact decide_eq_true (vLt_trans (of_decide_eq_true h) (of_decide_eq_true k))
  ntrans x y z h k := by rw [ltOf_vCf] at *; exact decide_eq_false (vLt_ntrans (of_decide_eq_false h) (of_decide_eq_false k))
theorem vorder_lays (blk off size : Nat) (w : World) : CmpLays Try.prog 61 #[] encTbf 5 vCf blk off size w := by
  intro m os dk _ x y
  refine (vorder_any x y _).mono ?_
  rintro e w' ⟨h1, ⟨⟨n, o2⟩, h2⟩⟩
  exact ⟨h1, n, o2, h2⟩
/-- In order, as All tells them. -/
def vSorted (l : List Tbf) : Prop := l.Pairwise fun f g => ¬ vLt g f
def SortTo (B : Nat) (w : World) (v : Value) (xs : List Tbf) (e : Ending) (w' : World) : Prop :=
  e = .returned (.tuple #[]) ∧ ∃ ys : List Tbf, ys.Perm xs ∧ vSorted ys ∧ OwnK encTbf 5 49 B w' v ys ∧ Below B w w'
theorem vsort_some (g n cap B : Nat) (xs : List Tbf) (w : World) (h : OwnK encTbf 5 49 B w (.slice (some ⟨g, 0, none⟩) n cap) xs) (hl : xs.length < 4611686018427387904) :
    Calls Try.prog 60 #[.slice (some ⟨g, 0, none⟩) n cap, .func (.func 61) #[] #[]] w (SortTo B w (.slice (some ⟨g, 0, none⟩) n cap) xs) := by
  have eg : ∀ args w, (callFunc 61 args).run Try.prog w = .ok (.enter 61 args) w := enters_of Try.func61 (by kernel_rfl) rfl
  obtain ⟨cur, hb, hn, h1, h2, h3, hg, hgl, hc⟩ := h.blockS
  have hcon := AnyQ.slices_SortFunc sortF 5 Try.isAgg49 Try.sizeOf49 encTbf encTbf_len (fun x v hv => encTbf_one [x] v (by simpa using hv)) vCf swo_vCf 61 #[] g 0 cap xs.toArray w eg (vorder_lays g 0 _ w) (h.holdsK encTbf_len) hgl (by simpa using hl)
  have hs : xs.toArray.size = n := by rw [hn]; simp
  rw [hs] at hcon
  refine Calls.mono hcon ?_
  rintro e w' ⟨rfl, d', q, os, hp, hS, rfl⟩
  rw [← hs] at hp
  have hpl := perm_list hp
  have hdl : d'.toList.length = xs.length := hpl.length_eq
  have hds : d'.size = xs.length := by rw [← Array.length_toList]; exact hdl
  obtain ⟨o, b⟩ := h.sortedK (w' := sortWorldK encTbf 5 w g 0 q d' os) (ys := d'.toList) encTbf_len ⟨q, os, by rw [Array.toArray_toList]⟩ hdl
  refine ⟨rfl, d'.toList, hpl, ?_, o, b⟩
  rw [hn] at hS
  refine (sorted_list hds hS).imp fun {f g} hh => ?_
  rw [ltOf_vCf] at hh
  exact of_decide_eq_false hh
theorem vsort_any {B : Nat} {w : World} {v : Value} {xs : List Tbf} (hB : B ≤ w.heap.size) (h : OwnK encTbf 5 49 B w v xs) (hl : xs.length < 4611686018427387904) :
    Calls Try.prog 60 #[v, .func (.func 61) #[] #[]] w (SortTo B w v xs) := by
  rcases h.blk with ⟨rfl, rfl⟩ | ⟨g, cap, cur, rfl, -⟩
  · refine Calls.mono (AnyF.slices_SortFunc_none sortF none 0 (.func (.func 61) #[] #[]) w) ?_
    rintro e w' ⟨rfl, rfl⟩
    exact ⟨rfl, [], List.Perm.refl _, List.Pairwise.nil, h, Below.refl _ _⟩
  · exact vsort_some g _ cap B xs w h hl
end Go.Proofs.Ytgdmmhdihgajkaa
