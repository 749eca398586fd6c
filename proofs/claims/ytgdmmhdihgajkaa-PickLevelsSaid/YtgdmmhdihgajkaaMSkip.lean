/- Plain mathematics of a list that keeps entries in order, no two alike in norm and number. -/
import Derived.Test.YtgdmmhdihgajkaaMEnt
namespace Go.Proofs.Ytgdmmhdihgajkaa
set_option linter.unusedVariables false
open Go.RowKit
/-- Two sorted rows with the same members are one. -/
theorem srt_uniq {α : Type} {R : α → α → Prop} (hirr : ∀ a, ¬ R a a) (htr : ∀ a b c, R a b → R b c → R a c) : ∀ {l m : List α}, l.Pairwise R → m.Pairwise R → (∀ x, x ∈ l ↔ x ∈ m) → l = m
  | [], [], _, _, _ => rfl
  | [], b :: m, _, _, h => absurd ((h b).2 (List.mem_cons_self ..)) List.not_mem_nil
  | a :: l, [], _, _, h => absurd ((h a).1 (List.mem_cons_self ..)) List.not_mem_nil
  | a :: l, b :: m, hl, hm, h => by
    obtain ⟨l1, l2⟩ := List.pairwise_cons.1 hl
    obtain ⟨m1, m2⟩ := List.pairwise_cons.1 hm
    have hab : a = b := by
      rcases List.mem_cons.1 ((h a).1 (List.mem_cons_self ..)) with e | e
      · exact e
      · rcases List.mem_cons.1 ((h b).2 (List.mem_cons_self ..)) with f | f
        · exact f.symm
        · exact absurd (htr _ _ _ (l1 b f) (m1 a e)) (hirr a)
    subst hab
    have : l = m := srt_uniq hirr htr l2 m2 fun x => by
      constructor
      · intro hx
        rcases List.mem_cons.1 ((h x).1 (List.mem_cons_of_mem _ hx)) with e | e
        · subst e; exact absurd (l1 _ hx) (hirr _)
        · exact e
      · intro hx
        rcases List.mem_cons.1 ((h x).2 (List.mem_cons_of_mem _ hx)) with e | e
        · subst e; exact absurd (m1 _ hx) (hirr _)
        · exact e
    rw [this]
def likeE (x e : Ent) : Prop := x.norm = e.norm ∧ x.seq = e.seq
instance (x e : Ent) : Decidable (likeE x e) := inferInstanceAs (Decidable (_ ∧ _))
/-- An entry's norm and number. -/
def keyE (e : Ent) : ByteArray × Int := (e.norm, e.seq)
def ltP (a b : ByteArray × Int) : Prop := bl a.1 b.1 ∨ a.1 = b.1 ∧ b.2 < a.2
theorem ltP_irr (a : ByteArray × Int) : ¬ ltP a a := by
  rintro (h | ⟨-, h⟩)
  · exact bl_irr _ h
  · omega
theorem ltP_trans (a b c : ByteArray × Int) (h : ltP a b) (k : ltP b c) : ltP a c := by
  unfold ltP at h k ⊢
  rcases h with h | ⟨h1, h2⟩
  · rcases k with k | ⟨k1, k2⟩
    · exact .inl (bl_trans h k)
    · rw [← k1]; exact .inl h
  · rcases k with k | ⟨k1, k2⟩
    · rw [h1]; exact .inl k
    · exact .inr ⟨h1.trans k1, by omega⟩
/-- In order, no two alike. -/
def OrdK (l : List Ent) : Prop := l.Pairwise fun a b => ltP (keyE a) (keyE b)
theorem lt_key {a b : Ent} (h : ltE a b) (hn : ¬ likeE a b) : ltP (keyE a) (keyE b) := by
  rcases h with h | ⟨h1, h2 | ⟨h2, -⟩⟩
  · exact .inl h
  · exact .inr ⟨h1, h2⟩
  · exact absurd ⟨h1, h2⟩ hn
theorem key_lt {a b : Ent} (h : ltP (keyE a) (keyE b)) : ltE a b := by
  rcases h with h | ⟨h1, h2⟩
  · exact .inl h
  · exact .inr ⟨h1, .inl h2⟩
theorem OrdK.srt {l : List Ent} (h : OrdK l) : srtB l = true := (srtB_pair l).2 (h.imp fun h => key_lt h)
theorem OrdK.keys {l : List Ent} (h : OrdK l) : (l.map keyE).Pairwise ltP := List.pairwise_map.2 h
theorem into_ord {e : Ent} : ∀ {l : List Ent}, OrdK l → (∀ x ∈ l, ¬ likeE x e) → OrdK (intoE e l)
  | [], _, _ => by simp [intoE, OrdK]
  | y :: r, h, hn => by
    unfold intoE
    obtain ⟨h1, h2⟩ := List.pairwise_cons.1 h
    have hy := hn y (List.mem_cons_self ..)
    split
    · rename_i hl
      have hk := lt_key hl fun k => hy ⟨k.1.symm, k.2.symm⟩
      refine List.pairwise_cons.2 ⟨fun x hx => ?_, h⟩
      rcases List.mem_cons.1 hx with rfl | hx
      · exact hk
      · exact ltP_trans _ _ _ hk (h1 x hx)
    · rename_i hl
      refine List.pairwise_cons.2 ⟨fun x hx => ?_, into_ord h2 fun x hx => hn x (List.mem_cons_of_mem _ hx)⟩
      rcases intoE_mem.1 hx with rfl | hx
      · rcases ltE_tri y x with h3 | ⟨h3, h4, -⟩ | h3
        · exact lt_key h3 hy
        · exact absurd ⟨h3, h4⟩ hy
        · exact absurd h3 hl
      · exact h1 x hx
/-- What Put makes of the list. -/
def putE (l : List Ent) (e : Ent) : List Ent := if ∃ x ∈ l, likeE x e then l else intoE e l
theorem putE_ord {l : List Ent} (h : OrdK l) (e : Ent) : OrdK (putE l e) := by
  unfold putE
  split
  · exact h
  · rename_i hn
    exact into_ord h fun x hx k => hn ⟨x, hx, k⟩
theorem putE_key {l : List Ent} {e : Ent} {k : ByteArray × Int} : k ∈ (putE l e).map keyE ↔ k ∈ l.map keyE ∨ k = keyE e := by
  unfold putE
  split
  · rename_i hx
    obtain ⟨x, hx, h1, h2⟩ := hx
    constructor
    · exact .inl
    · rintro (h | rfl)
      · exact h
      · exact List.mem_map.2 ⟨x, hx, by unfold keyE; rw [h1, h2]⟩
  · constructor
    · intro h
      obtain ⟨x, hx, rfl⟩ := List.mem_map.1 h
      rcases intoE_mem.1 hx with rfl | hx
      · exact .inr rfl
      · exact .inl (List.mem_map.2 ⟨x, hx, rfl⟩)
    · rintro (h | rfl)
      · obtain ⟨x, hx, rfl⟩ := List.mem_map.1 h
        exact List.mem_map.2 ⟨x, intoE_mem.2 (.inr hx), rfl⟩
      · exact List.mem_map.2 ⟨e, intoE_mem.2 (.inl rfl), rfl⟩
theorem putE_len {l : List Ent} {e : Ent} (h : ¬ ∃ x ∈ l, likeE x e) : (putE l e).length = l.length + 1 := by
  unfold putE
  rw [if_neg h, intoE_len]
/-- Entries that are put one behind the other. -/
def putAll (l : List Ent) : List Ent := l.foldl putE []
theorem putAll_snoc (l : List Ent) (e : Ent) : putAll (l ++ [e]) = putE (putAll l) e := by unfold putAll; rw [List.foldl_append]; rfl
theorem foldl_put_ord : ∀ (l : List Ent) {m : List Ent}, OrdK m → OrdK (l.foldl putE m)
  | [], _, h => h
  | e :: l, _, h => foldl_put_ord l (putE_ord h e)
theorem putAll_ord (l : List Ent) : OrdK (putAll l) := foldl_put_ord l List.Pairwise.nil
theorem foldl_put_key : ∀ (l : List Ent) {m : List Ent} {k : ByteArray × Int}, k ∈ (l.foldl putE m).map keyE ↔ k ∈ m.map keyE ∨ k ∈ l.map keyE
  | [], m, k => by simp
  | e :: l, m, k => by
    rw [List.foldl_cons, foldl_put_key l, putE_key, List.map_cons, List.mem_cons]
    constructor
    · rintro ((h | h) | h)
      · exact .inl h
      · exact .inr (.inl h)
      · exact .inr (.inr h)
    · rintro (h | h | h)
      · exact .inl (.inl h)
      · exact .inl (.inr h)
      · exact .inr h
theorem putAll_key {l : List Ent} {k : ByteArray × Int} : k ∈ (putAll l).map keyE ↔ k ∈ l.map keyE := by
  unfold putAll
  rw [foldl_put_key]; simp
/-- In whatever order they come: the same keys. -/
theorem putAll_same {l m : List Ent} (h : ∀ x, x ∈ l ↔ x ∈ m) : (putAll l).map keyE = (putAll m).map keyE := by
  refine srt_uniq ltP_irr ltP_trans (putAll_ord l).keys (putAll_ord m).keys fun k => ?_
  rw [putAll_key, putAll_key, List.mem_map, List.mem_map]
  constructor
  · rintro ⟨x, hx, e⟩; exact ⟨x, (h x).1 hx, e⟩
  · rintro ⟨x, hx, e⟩; exact ⟨x, (h x).2 hx, e⟩
theorem putAll_len {l m : List Ent} (h : ∀ x, x ∈ l ↔ x ∈ m) : (putAll l).length = (putAll m).length := by
  have := congrArg List.length (putAll_same h)
  rwa [List.length_map, List.length_map] at this
/-- What was put is found. -/
theorem find_put {l : List Ent} {e : Ent} (h : e ∈ l) : ∃ x, findE (putAll l) e.norm e.seq = some x ∧ x.norm = e.norm := by
  obtain ⟨y, hy, hk⟩ := List.mem_map.1 (putAll_key.2 (List.mem_map.2 ⟨e, h, rfl⟩))
  have h1 : y.norm = e.norm := congrArg Prod.fst hk
  have h2 : y.seq = e.seq := congrArg Prod.snd hk
  cases hf : findE (putAll l) e.norm e.seq with
  | none =>
    have := List.find?_eq_none.1 hf y hy
    simp [h1, h2] at this
  | some x =>
    have := List.find?_some hf
    simp only [Bool.and_eq_true, decide_eq_true_eq] at this
    exact ⟨x, rfl, this.1⟩
/-- The place that Seek goes to: how many stand ahead of it. -/
def seekE (l : List Ent) (n : ByteArray) (q : Int) : Nat := (l.takeWhile fun x => decide (ltE x ⟨n, q, 1, ⟨#[]⟩, ⟨#[]⟩⟩)).length
theorem seekE_le (l : List Ent) (n : ByteArray) (q : Int) : seekE l n q ≤ l.length := by
  unfold seekE
  have := List.takeWhile_sublist (l := l) fun x => decide (ltE x ⟨n, q, 1, ⟨#[]⟩, ⟨#[]⟩⟩)
  exact this.length_le
/-- The one that is found has the greatest number that may be seen. -/
theorem find_max : ∀ {l : List Ent}, OrdK l → ∀ {n : ByteArray} {q : Int} {e : Ent}, findE l n q = some e → ∀ x ∈ l, x.norm = n → x.seq ≤ q → x.seq ≤ e.seq
  | [], _, n, q, e, h, x, hx, _, _ => absurd hx List.not_mem_nil
  | y :: r, ho, n, q, e, h, x, hx, hn, hq => by
    obtain ⟨h1, h2⟩ := List.pairwise_cons.1 ho
    unfold findE at h
    rw [List.find?_cons] at h
    split at h
    · rename_i hy
      simp only [Bool.and_eq_true, decide_eq_true_eq] at hy
      obtain rfl := Option.some.inj h
      rcases List.mem_cons.1 hx with rfl | hx
      · exact Int.le_refl _
      · rcases h1 x hx with h3 | ⟨-, h3⟩
        · have h4 : bl y.norm x.norm := h3
          rw [hy.1, hn] at h4
          exact absurd h4 (bl_irr _)
        · have h4 : x.seq < y.seq := h3
          omega
    · rename_i hy
      rcases List.mem_cons.1 hx with rfl | hx
      · simp [hn, hq] at hy
      · exact find_max h2 h x hx hn hq
theorem sfind_none {l : List Ent} {n : ByteArray} {q : Int} (h : findE l n q = none) : ∀ x ∈ l, x.norm = n → ¬ x.seq ≤ q := fun x hx hn hq => by
  have := List.find?_eq_none.1 h x hx
  simp [hn, hq] at this
theorem sfind_some {l : List Ent} {n : ByteArray} {q : Int} {e : Ent} (h : findE l n q = some e) : e ∈ l ∧ e.norm = n ∧ e.seq ≤ q := by
  have := List.find?_some h
  simp only [Bool.and_eq_true, decide_eq_true_eq] at this
  exact ⟨List.mem_of_find?_eq_some h, this.1, this.2⟩
/-- No two alike come: all are kept. -/
theorem put_new {l : List Ent} {e : Ent} (h : keyE e ∉ l.map keyE) : ¬ ∃ x ∈ putAll l, likeE x e := by
  rintro ⟨x, hx, h1, h2⟩
  refine h (putAll_key.1 (List.mem_map.2 ⟨x, hx, ?_⟩))
  unfold keyE; rw [h1, h2]
theorem putAll_all : ∀ (n : Nat) {l : List Ent}, l.length = n → (l.map keyE).Nodup → (putAll l).length = n
  | 0, l, h, _ => by rw [List.eq_nil_of_length_eq_zero h]; rfl
  | n + 1, l, h, hd => by
    obtain ⟨r, e, rfl⟩ : ∃ r e, l = r ++ [e] := ⟨l.dropLast, l.getLast (by intro e; rw [e] at h; cases h), (List.dropLast_concat_getLast (by intro e; rw [e] at h; cases h)).symm⟩
    rw [List.map_append, List.nodup_append] at hd
    obtain ⟨d1, -, d3⟩ := hd
    rw [List.length_append, List.length_singleton] at h
    rw [putAll_snoc, putE_len (put_new fun hk => d3 _ hk _ (by simp) rfl), putAll_all n (by omega) d1]
end Go.Proofs.Ytgdmmhdihgajkaa
