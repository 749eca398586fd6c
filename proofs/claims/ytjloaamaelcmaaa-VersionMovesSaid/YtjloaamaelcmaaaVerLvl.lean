/- What a version tells of its levels is what the document's tells. -/
import Derived.Test.YtjloaamaelcmaaaVerSort
namespace Go.Proofs.Ytjloaamaelcmaaa
set_option linter.unusedVariables false
theorem bef_lt {n : Int} {f g : Tbf} (hf : f.lvl = n) (hg : g.lvl = n) (h : vBef n f g) : vLt f g := by
  refine .inr ⟨by omega, ?_⟩
  rcases h with ⟨h1, h2⟩ | ⟨h1, h2⟩
  · exact .inl ⟨by omega, h2⟩
  · exact .inr ⟨by omega, h2⟩
theorem sorted_ne {V : Ver} (g : GoodV V) (hs : vSorted V.fs) : V.fs.Pairwise fun f h => ¬ vLt h f ∧ f ≠ h := by
  unfold vSorted at hs
  have hn : V.fs.Pairwise (· ≠ ·) := nodup_of_num g.nums
  exact hs.and hn
theorem ver_level {V W : Ver} (g : GoodV V) (hs : vSorted V.fs) (h : vSame V W) (n : Int) (hn : 0 ≤ n) : (V.fs.filter fun f => decide (f.lvl = n)) = levelV n W.fs := by
  rw [← levelV_same h g n hn]
  refine levelV_is g n hn ?_ (List.Perm.refl _)
  have h1 := (sorted_ne g hs).filter (p := fun f => decide (f.lvl = n))
  refine h1.imp_of_mem fun {f k} hf hk hh => ?_
  have f2 := of_decide_eq_true (List.mem_filter.1 hf).2
  have k2 := of_decide_eq_true (List.mem_filter.1 hk).2
  rcases good_tot g n hn f hf k hk with e | e | e
  · exact absurd e hh.2
  · exact e
  · exact absurd (bef_lt k2 f2 e) hh.1
theorem level_none {V : Ver} (g : GoodV V) {n : Int} (hn : n < 0 ∨ 5 ≤ n) : (V.fs.filter fun f => decide (f.lvl = n)) = [] := by
  refine List.filter_eq_nil_iff.2 fun f hf => ?_
  have := (notBadTb (g.right f hf)).2.1
  simp only [decide_eq_true_eq]
  omega
theorem vLt_uniq : ∀ {l m : List Tbf}, l.Pairwise vLt → m.Pairwise vLt → l.Perm m → l = m
  | [], m, _, _, h => (List.nil_perm.1 h).symm
  | f :: r, [], _, _, h => absurd h (by simp)
  | f :: r, g :: s, hl, hm, h => by
    obtain ⟨l1, l2⟩ := List.pairwise_cons.1 hl
    obtain ⟨m1, m2⟩ := List.pairwise_cons.1 hm
    have e : f = g := by
      have hf : f ∈ g :: s := h.mem_iff.1 (List.mem_cons_self ..)
      have hg : g ∈ f :: r := h.mem_iff.2 (List.mem_cons_self ..)
      rcases List.mem_cons.1 hf with e | hf
      · exact e
      · rcases List.mem_cons.1 hg with e | hg
        · exact e.symm
        · exact absurd (vLt_trans (m1 f hf) (l1 g hg)) (vLt_irr g)
    subst e
    rw [vLt_uniq l2 m2 ((List.perm_cons f).1 h)]
theorem ver_lt {V : Ver} (g : GoodV V) (hs : vSorted V.fs) : V.fs.Pairwise vLt := by
  refine (sorted_ne g hs).imp_of_mem fun {f k} hf hk hh => ?_
  rcases Int.lt_trichotomy f.lvl k.lvl with e | e | e
  · exact .inl e
  · have h0 : 0 ≤ f.lvl := (notBadTb (g.right f hf)).2.1.1
    rcases good_tot g f.lvl h0 f (List.mem_filter.2 ⟨hf, decide_eq_true rfl⟩) k (List.mem_filter.2 ⟨hk, decide_eq_true e.symm⟩) with d | d | d
    · exact absurd d hh.2
    · exact bef_lt rfl e.symm d
    · exact absurd (bef_lt e.symm rfl d) hh.1
  · exact absurd (.inl e) hh.1
theorem levels_lt {W : Ver} (g : GoodV W) : (levelsV W.fs).Pairwise vLt := by
  have hp : ∀ n : Int, 0 ≤ n → (levelV n W.fs).Pairwise vLt ∧ ∀ f ∈ levelV n W.fs, f.lvl = n := fun n hn => by
    have hm : ∀ f ∈ levelV n W.fs, f.lvl = n := fun f hf => of_decide_eq_true (List.mem_filter.1 ((levelV_perm n W.fs).mem_iff.1 hf)).2
    exact ⟨(levelV_srt g n hn).imp_of_mem fun {f k} hf hk hh => bef_lt (hm f hf) (hm k hk) hh, hm⟩
  have hc : ∀ (n m : Int) (f k : Tbf), 0 ≤ n → 0 ≤ m → n < m → f ∈ levelV n W.fs → k ∈ levelV m W.fs → vLt f k := fun n m f k h1 h2 h3 h4 h5 => .inl (by
    have := (hp n h1).2 f h4; have := (hp m h2).2 k h5; omega)
  unfold levelsV
  refine List.pairwise_append.2 ⟨(hp 0 (by omega)).1, List.pairwise_append.2 ⟨(hp 1 (by omega)).1, List.pairwise_append.2 ⟨(hp 2 (by omega)).1, List.pairwise_append.2 ⟨(hp 3 (by omega)).1, (hp 4 (by omega)).1, fun f hf k hk => hc 3 4 f k (by omega) (by omega) (by omega) hf hk⟩, fun f hf k hk => ?_⟩, fun f hf k hk => ?_⟩, fun f hf k hk => ?_⟩
  · rcases List.mem_append.1 hk with hk | hk
    · exact hc 2 3 f k (by omega) (by omega) (by omega) hf hk
    · exact hc 2 4 f k (by omega) (by omega) (by omega) hf hk
  · rcases List.mem_append.1 hk with hk | hk
    · exact hc 1 2 f k (by omega) (by omega) (by omega) hf hk
    · rcases List.mem_append.1 hk with hk | hk
      · exact hc 1 3 f k (by omega) (by omega) (by omega) hf hk
      · exact hc 1 4 f k (by omega) (by omega) (by omega) hf hk
  · rcases List.mem_append.1 hk with hk | hk
    · exact hc 0 1 f k (by omega) (by omega) (by omega) hf hk
    · rcases List.mem_append.1 hk with hk | hk
      · exact hc 0 2 f k (by omega) (by omega) (by omega) hf hk
      · rcases List.mem_append.1 hk with hk | hk
        · exact hc 0 3 f k (by omega) (by omega) (by omega) hf hk
        · exact hc 0 4 f k (by omega) (by omega) (by omega) hf hk
/-- All tables, level by level. -/
theorem ver_all {V W : Ver} (g : GoodV V) (hs : vSorted V.fs) (h : vSame V W) : V.fs = levelsV W.fs :=
  vLt_uniq (ver_lt g hs) (levels_lt (h.good g)) (h.1.trans (levelsV_perm (h.good g)).symm)
/-- What is told of level n, for any number. -/
def lvAny (n : Int) (F : List Tbf) : List Tbf := if 0 ≤ n ∧ n < 5 then levelV n F else []
theorem ver_any {V W : Ver} (g : GoodV V) (hs : vSorted V.fs) (h : vSame V W) (n : Int) : (V.fs.filter fun f => decide (f.lvl = n)) = lvAny n W.fs := by
  unfold lvAny
  split
  · exact ver_level g hs h n (by omega)
  · exact level_none g (by omega)
/-- The first i of -1, 0, .., 5. -/
def lvsUp (F : List Tbf) : Nat → List Tbf
  | 0 => []
  | i + 1 => lvsUp F i ++ lvAny ((i : Int) - 1) F
theorem lvsUp_all (F : List Tbf) : lvsUp F 7 = levelsV F := by
  simp [lvsUp, lvAny, levelsV]
theorem lvAny_sub {W : Ver} (g : GoodV W) (n : Int) : (∀ f ∈ lvAny n W.fs, f ∈ W.fs) ∧ (lvAny n W.fs).length ≤ 200 := by
  unfold lvAny
  split
  · have h := levelV_perm n W.fs
    refine ⟨fun f hf => (List.mem_filter.1 (h.mem_iff.1 hf)).1, ?_⟩
    rw [h.length_eq]
    exact Nat.le_trans (List.length_filter_le _ _) g.few
  · exact ⟨fun f hf => (by cases hf), Nat.zero_le _⟩
theorem lvsUp_len {W : Ver} (g : GoodV W) : ∀ i, (lvsUp W.fs i).length ≤ 200 * i
  | 0 => Nat.le_refl _
  | i + 1 => by
    have := lvsUp_len g i
    have h2 := (lvAny_sub g ((i : Int) - 1)).2
    simp only [lvsUp, List.length_append]
    omega
theorem good_ok {V : Ver} (g : GoodV V) : ∀ f ∈ V.fs, f.ok := fun f hf => by
  obtain ⟨-, -, -, h1, h2, -⟩ := notBadTb (g.right f hf)
  constructor <;> (unfold maxLen; omega)
/-- Who has a text in common with a span. -/
theorem ver_over {V W : Ver} (g : GoodV V) (hs : vSorted V.fs) (h : vSame V W) (n : Int) (a b : ByteArray) : (V.fs.filter fun f => decide (f.lvl = n ∧ vOverB a b f = true)) = if 0 ≤ n ∧ n < 5 then overV n a b W.fs else [] := by
  have e : (V.fs.filter fun f => decide (f.lvl = n ∧ vOverB a b f = true)) = (V.fs.filter fun f => decide (f.lvl = n)).filter (vOverB a b) := by
    rw [List.filter_filter]
    congr 1
    funext f
    rw [Bool.eq_iff_iff]
    simp [and_comm]
  rw [e, ver_any g hs h n]
  unfold lvAny overV
  split
  · rfl
  · rfl
end Go.Proofs.Ytjloaamaelcmaaa
