/- Plain mathematics of the place that a list's search ends at. -/
import Derived.Test.YtacaofnonmgfoaaSkipAt
namespace Go.Proofs.Ytacaofnonmgfoaa
set_option linter.unusedVariables false
open Go.RowKit
/-- What is sought, whatever its kind is. -/
def anyE (s : ByteArray) (q : Int) : Ent := ⟨s, q, 9223372036854775807, ⟨#[]⟩, ⟨#[]⟩⟩
theorem lt_anyE {e : Ent} {s : ByteArray} {q : Int} (hk : e.kind ≤ 9223372036854775807) : ltE e (anyE s q) ↔ bl e.norm s ∨ e.norm = s ∧ q < e.seq := by
  unfold ltE anyE
  constructor
  · rintro (h | ⟨h1, h2 | ⟨h2, h3⟩⟩)
    · exact .inl h
    · exact .inr ⟨h1, h2⟩
    · simp only at h3; omega
  · rintro (h | ⟨h1, h2⟩)
    · exact .inl h
    · exact .inr ⟨h1, .inl h2⟩
theorem mem_ahead {N : List Nd} {x : Ent} {m : Nd} (h : m ∈ aheadN N x) : ltE m.e x ∧ m ∈ N := by
  unfold aheadN at h
  have h1 := List.all_eq_true.1 (List.all_takeWhile (l := N) (p := fun n => decide (ltE n.e x))) m h
  exact ⟨by simpa using h1, (List.takeWhile_sublist _).subset h⟩
theorem rest_not {N : List Nd} {x : Ent} {n : Nd} {r : List Nd} (h : restN N x = n :: r) : ¬ ltE n.e x := by
  have := List.head?_dropWhile_not (p := fun n : Nd => decide (ltE n.e x)) N
  unfold restN at h
  rw [h] at this
  simpa using this
theorem mem_rest {N : List Nd} {x : Ent} (ho : OrdK (entsN N)) {n : Nd} {r : List Nd} (h : restN N x = n :: r) : ∀ m ∈ r, ltE n.e m.e := by
  have e := ahead_rest N x
  rw [h] at e
  rw [← e] at ho
  exact (ord_lt ho).2
theorem find_at {N : List Nd} (ho : OrdK (entsN N)) (hk : ∀ n ∈ N, n.e.kind ≤ 9223372036854775807) (s : ByteArray) (q : Int) :
    (restN N (anyE s q) = [] ∧ findE (entsN N) s q = none) ∨ ∃ n r, restN N (anyE s q) = n :: r ∧ (n.e.norm ≠ s ∧ findE (entsN N) s q = none ∨ n.e.norm = s ∧ findE (entsN N) s q = some n.e) := by
  have e := ahead_rest N (anyE s q)
  have hA : ∀ m ∈ aheadN N (anyE s q), ¬ (m.e.norm = s ∧ m.e.seq ≤ q) := fun m hm => by
    obtain ⟨h1, h2⟩ := mem_ahead hm
    rintro ⟨k1, k2⟩
    rcases (lt_anyE (hk m h2)).1 h1 with h | ⟨-, h⟩
    · rw [k1] at h; exact bl_irr _ h
    · omega
  have hnone : (∀ m ∈ restN N (anyE s q), ¬ (m.e.norm = s ∧ m.e.seq ≤ q)) → findE (entsN N) s q = none := fun h => by
    unfold findE
    rw [List.find?_eq_none]
    intro y hy
    obtain ⟨m, hm, rfl⟩ := List.mem_map.1 hy
    rw [← e] at hm
    have := (List.mem_append.1 hm).elim (hA m) (h m)
    simpa using this
  cases hr : restN N (anyE s q) with
  | nil => exact .inl ⟨rfl, hnone fun m hm => by rw [hr] at hm; cases hm⟩
  | cons n r =>
    right
    refine ⟨n, r, rfl, ?_⟩
    have hmn : n ∈ N := by rw [← e, hr]; simp
    have hn := mt (lt_anyE (s := s) (q := q) (hk n hmn)).2 (rest_not hr)
    by_cases hs : n.e.norm = s
    · right
      refine ⟨hs, ?_⟩
      have hq : n.e.seq ≤ q := by
        rcases Int.lt_or_le q n.e.seq with h | h
        · exact absurd (.inr ⟨hs, h⟩) hn
        · exact h
      unfold findE
      rw [List.find?_eq_some_iff_append]
      refine ⟨by simp [hs, hq], entsN (aheadN N (anyE s q)), entsN r, ?_, fun y hy => ?_⟩
      · conv => lhs; rw [← e, hr]
        unfold entsN; rw [List.map_append, List.map_cons]
      · obtain ⟨m, hm, rfl⟩ := List.mem_map.1 hy
        have := hA m hm
        simp only [Bool.not_eq_true', Bool.and_eq_false_imp, decide_eq_true_eq, decide_eq_false_iff_not]
        exact fun a => fun c => this ⟨a, c⟩
    · left
      refine ⟨hs, hnone fun m hm => ?_⟩
      rw [hr] at hm
      have hb : bl s n.e.norm := by
        rcases bl_tri n.e.norm s with h | h | h
        · exact absurd (.inl h) hn
        · exact absurd h hs
        · exact h
      rcases List.mem_cons.1 hm with rfl | hm
      · exact fun h => hs h.1
      · rintro ⟨h1, -⟩
        have h2 := mem_rest ho hr m hm
        unfold ltE at h2
        rw [h1] at h2
        rcases h2 with h2 | ⟨h2, -⟩
        · exact bl_irr _ (bl_trans hb h2)
        · exact hs h2
/-- One with that norm and number is there, just if the search ends at it. -/
theorem like_at {N : List Nd} (ho : OrdK (entsN N)) (hk : ∀ n ∈ N, n.e.kind ≤ 9223372036854775807) (e : Ent) :
    (∃ x ∈ entsN N, likeE x e) ↔ ∃ n r, restN N (anyE e.norm e.seq) = n :: r ∧ n.e.norm = e.norm ∧ n.e.seq = e.seq := by
  have ea := ahead_rest N (anyE e.norm e.seq)
  constructor
  · rintro ⟨x, hx, h1, h2⟩
    obtain ⟨m, hm, rfl⟩ := List.mem_map.1 hx
    have hm0 := hm
    rw [← ea] at hm
    have hml : ¬ ltE m.e (anyE e.norm e.seq) := by
      rw [lt_anyE (hk m hm0), h1, h2]
      rintro (h | ⟨-, h⟩)
      · exact bl_irr _ h
      · omega
    rcases List.mem_append.1 hm with h | h
    · exact absurd (mem_ahead h).1 hml
    · cases hr : restN N (anyE e.norm e.seq) with
      | nil => rw [hr] at h; cases h
      | cons n r =>
        refine ⟨n, r, rfl, ?_⟩
        rw [hr] at h
        rcases List.mem_cons.1 h with rfl | h
        · exact ⟨h1, h2⟩
        · have h3 := mem_rest ho hr m h
          have hmn : n ∈ N := by rw [← ea, hr]; simp
          have hn := mt (lt_anyE (s := e.norm) (q := e.seq) (hk n hmn)).2 (rest_not hr)
          unfold ltE at h3
          rw [h1, h2] at h3
          rcases h3 with h3 | ⟨h3, h4 | ⟨h4, -⟩⟩
          · exact absurd (.inl h3) hn
          · exact absurd (.inr ⟨h3, h4⟩) hn
          · exact ⟨h3, h4⟩
  · rintro ⟨n, r, hr, h1, h2⟩
    exact ⟨n.e, List.mem_map.2 ⟨n, by rw [← ea, hr]; simp, rfl⟩, h1, h2⟩
/-- Where a new entry goes. -/
theorem into_at {N : List Nd} (ho : OrdK (entsN N)) (hk : ∀ n ∈ N, n.e.kind ≤ 9223372036854775807) (e : Ent) (hn : ¬ ∃ x ∈ entsN N, likeE x e) :
    putE (entsN N) e = entsN (aheadN N (anyE e.norm e.seq)) ++ e :: entsN (restN N (anyE e.norm e.seq)) := by
  have ea := ahead_rest N (anyE e.norm e.seq)
  unfold putE
  rw [if_neg hn]
  have hA : ∀ m ∈ aheadN N (anyE e.norm e.seq), ¬ ltE e m.e := fun m hm h => by
    obtain ⟨h1, h2⟩ := mem_ahead hm
    rcases (lt_anyE (hk m h2)).1 h1 with h3 | ⟨h3, h4⟩
    · exact ltE_irr _ (ltE_trans h (.inl h3))
    · exact ltE_irr _ (ltE_trans h (.inr ⟨h3, .inl h4⟩))
  have hsplit : entsN N = entsN (aheadN N (anyE e.norm e.seq)) ++ entsN (restN N (anyE e.norm e.seq)) := by
    conv => lhs; rw [← ea]
    unfold entsN; rw [List.map_append]
  have hlen : (entsN (aheadN N (anyE e.norm e.seq))).length ≤ (entsN N).length := by rw [hsplit, List.length_append]; omega
  rw [intoE_at (entsN N) e (entsN (aheadN N (anyE e.norm e.seq))).length (fun j x hj hx => ?_) (fun x hx => ?_) hlen, hsplit, List.take_left, List.drop_left]
  · rw [hsplit, List.getElem?_append_left hj] at hx
    obtain ⟨m, hm, rfl⟩ := List.mem_map.1 (List.mem_of_getElem? hx)
    exact hA m hm
  · rw [hsplit, List.getElem?_append_right (Nat.le_refl _), Nat.sub_self] at hx
    cases hr : restN N (anyE e.norm e.seq) with
    | nil => rw [hr] at hx; cases hx
    | cons n r =>
      rw [hr] at hx
      obtain rfl : n.e = x := Option.some.inj hx
      have hmn : n ∈ N := by rw [← ea, hr]; simp
      have h1 := mt (lt_anyE (s := e.norm) (q := e.seq) (hk n hmn)).2 (rest_not hr)
      have h2 : ¬ likeE n.e e := fun h => hn ⟨n.e, List.mem_map.2 ⟨n, hmn, rfl⟩, h⟩
      rcases bl_tri n.e.norm e.norm with h | h | h
      · exact absurd (.inl h) h1
      · refine .inr ⟨h.symm, .inl ?_⟩
        rcases Int.lt_trichotomy n.e.seq e.seq with h3 | h3 | h3
        · exact h3
        · exact absurd ⟨h, h3⟩ h2
        · exact absurd (.inr ⟨h, h3⟩) h1
      · exact .inl h
/-- The place that Seek goes to. -/
theorem seek_at (N : List Nd) (s : ByteArray) (q : Int) : (aheadN N ⟨s, q, 1, ⟨#[]⟩, ⟨#[]⟩⟩).length = seekE (entsN N) s q := by
  unfold seekE aheadN entsN
  rw [List.takeWhile_map, List.length_map]
  rfl
end Go.Proofs.Ytacaofnonmgfoaa
