/- Entries: how they lie in cells, their order, and lists in order. -/
import Derived.Test.YtgdmmhdihgajkaaMBase
namespace Go.Proofs.Ytgdmmhdihgajkaa
set_option linter.unusedVariables false
open Go.RowKit
structure Ent where
  norm : ByteArray
  seq : Int
  kind : Int
  spell : ByteArray
  val : ByteArray
def Ent.none : Ent := ⟨⟨#[]⟩, 0, 0, ⟨#[]⟩, ⟨#[]⟩⟩
def encEnt (e : Ent) : List Value := [.string e.norm, .int .i64 e.seq, .int .i64 e.kind, .string e.spell, .string e.val]
def Ent.v (e : Ent) : Value := .agg #[.string e.norm, .int .i64 e.seq, .int .i64 e.kind, .string e.spell, .string e.val]
theorem encEnt_len : EncK encEnt 5 := fun _ => rfl
theorem encEnt_one (l : List Ent) : ∀ u ∈ l.flatMap encEnt, u.oneCell' = true := by
  intro u hu
  obtain ⟨e, -, h⟩ := List.mem_flatMap.1 hu
  simp only [encEnt, List.mem_cons, List.not_mem_nil, or_false] at h
  rcases h with rfl | rfl | rfl | rfl | rfl <;> rfl
/-- By norm rising, then by number falling, then by kind falling. -/
def ltE (a b : Ent) : Prop := bl a.norm b.norm ∨ a.norm = b.norm ∧ (b.seq < a.seq ∨ a.seq = b.seq ∧ b.kind < a.kind)
instance (a b : Ent) : Decidable (ltE a b) := inferInstanceAs (Decidable (_ ∨ _))
theorem ltE_trans {a b c : Ent} (h : ltE a b) (k : ltE b c) : ltE a c := by
  unfold ltE at h k ⊢
  rcases h with h | ⟨h1, h2⟩
  · rcases k with k | ⟨k1, k2⟩
    · exact .inl (bl_trans h k)
    · rw [← k1]; exact .inl h
  · rcases k with k | ⟨k1, k2⟩
    · rw [h1]; exact .inl k
    · exact .inr ⟨h1.trans k1, by omega⟩
theorem ltE_irr (a : Ent) : ¬ ltE a a := by
  unfold ltE
  rintro (h | ⟨-, h⟩)
  · exact bl_irr _ h
  · omega
theorem ltE_tri (a b : Ent) : ltE a b ∨ (a.norm = b.norm ∧ a.seq = b.seq ∧ a.kind = b.kind) ∨ ltE b a := by
  unfold ltE
  rcases bl_tri a.norm b.norm with h | h | h
  · exact .inl (.inl h)
  · by_cases h1 : b.seq < a.seq
    · exact .inl (.inr ⟨h, .inl h1⟩)
    · by_cases h2 : a.seq < b.seq
      · exact .inr (.inr (.inr ⟨h.symm, .inl h2⟩))
      · have h3 : a.seq = b.seq := by omega
        by_cases h4 : b.kind < a.kind
        · exact .inl (.inr ⟨h, .inr ⟨h3, h4⟩⟩)
        · by_cases h5 : a.kind < b.kind
          · exact .inr (.inr (.inr ⟨h.symm, .inr ⟨h3.symm, h5⟩⟩))
          · exact .inr (.inl ⟨h, h3, by omega⟩)
  · exact .inr (.inr (.inl h))
theorem ltE_asym {a b : Ent} (h : ltE a b) : ¬ ltE b a := fun k => ltE_irr _ (ltE_trans h k)
/-- each neighbour ahead of the next -/
def srtB : List Ent → Bool
  | a :: b :: r => decide (ltE a b) && srtB (b :: r)
  | _ => true
theorem srtB_pair : ∀ l : List Ent, srtB l = true ↔ l.Pairwise ltE
  | [] => by simp [srtB]
  | [a] => by simp [srtB]
  | a :: b :: r => by
    rw [srtB, Bool.and_eq_true, decide_eq_true_eq, srtB_pair (b :: r)]
    constructor
    · rintro ⟨h1, h2⟩
      refine List.pairwise_cons.2 ⟨fun x hx => ?_, h2⟩
      rcases List.mem_cons.1 hx with rfl | hx
      · exact h1
      · exact ltE_trans h1 ((List.pairwise_cons.1 h2).1 x hx)
    · intro h
      obtain ⟨h1, h2⟩ := List.pairwise_cons.1 h
      exact ⟨h1 b (List.mem_cons_self ..), h2⟩
/-- where the walk of 'Sorted' stands: all neighbours before place i are in order -/
theorem srtB_bad {l : List Ent} {i : Nat} (h : i + 1 < l.length) (hn : ¬ ltE (l[i]'(by omega)) l[i + 1]) : srtB l = false := by
  cases hs : srtB l with
  | false => rfl
  | true => exact absurd (List.pairwise_iff_getElem.1 ((srtB_pair l).1 hs) i (i + 1) (by omega) h (by omega)) hn
theorem srtB_good : ∀ {l : List Ent}, (∀ i (h : i + 1 < l.length), ltE (l[i]'(by omega)) l[i + 1]) → srtB l = true
  | [], _ => rfl
  | [a], _ => rfl
  | a :: b :: r, h => by
    rw [srtB, Bool.and_eq_true, decide_eq_true_eq]
    exact ⟨h 0 (by simp), srtB_good fun i hi => h (i + 1) (by simpa using hi)⟩
/-- the first of norm n with a number not above q -/
def findE (l : List Ent) (n : ByteArray) (q : Int) : Option Ent := l.find? fun e => decide (e.norm = n) && decide (e.seq ≤ q)
/-- an entry comes behind those that it is not ahead of -/
def intoE (e : Ent) : List Ent → List Ent
  | [] => [e]
  | x :: r => if ltE e x then e :: x :: r else x :: intoE e r
theorem intoE_at : ∀ (l : List Ent) (e : Ent) (k : Nat), (∀ j x, j < k → l[j]? = some x → ¬ ltE e x) → (∀ x, l[k]? = some x → ltE e x) → k ≤ l.length → intoE e l = l.take k ++ e :: l.drop k
  | [], e, k, _, _, hk => by simp at hk; subst hk; rfl
  | x :: r, e, 0, _, h2, _ => by rw [intoE, if_pos (h2 x rfl)]; rfl
  | x :: r, e, k + 1, h1, h2, hk => by
    rw [intoE, if_neg (h1 0 x (by omega) rfl), intoE_at r e k (fun j y hj hy => h1 (j + 1) y (by omega) (by simpa using hy)) (fun y hy => h2 y (by simpa using hy)) (by simpa using hk)]
    rfl
theorem intoE_mem {e x : Ent} : ∀ {l : List Ent}, x ∈ intoE e l ↔ x = e ∨ x ∈ l
  | [] => by simp [intoE]
  | y :: r => by
    unfold intoE
    split
    · simp
    · rw [List.mem_cons, intoE_mem, List.mem_cons]
      constructor
      · rintro (h | h | h)
        · exact .inr (.inl h)
        · exact .inl h
        · exact .inr (.inr h)
      · rintro (h | h | h)
        · exact .inr (.inl h)
        · exact .inl h
        · exact .inr (.inr h)
theorem intoE_len (e : Ent) : ∀ l : List Ent, (intoE e l).length = l.length + 1
  | [] => rfl
  | y :: r => by
    unfold intoE
    split
    · simp
    · simp [intoE_len e r]
/-- of sorted ones, none alike in norm and number, it stays so -/
theorem intoE_pair {e : Ent} : ∀ {l : List Ent}, l.Pairwise ltE → (∀ x ∈ l, ¬ (x.norm = e.norm ∧ x.seq = e.seq)) → (intoE e l).Pairwise ltE
  | [], _, _ => by simp [intoE]
  | y :: r, h, hn => by
    unfold intoE
    obtain ⟨h1, h2⟩ := List.pairwise_cons.1 h
    split
    · rename_i hl
      refine List.pairwise_cons.2 ⟨fun x hx => ?_, h⟩
      rcases List.mem_cons.1 hx with rfl | hx
      · exact hl
      · exact ltE_trans hl (h1 x hx)
    · rename_i hl
      refine List.pairwise_cons.2 ⟨fun x hx => ?_, intoE_pair h2 fun x hx => hn x (List.mem_cons_of_mem _ hx)⟩
      rcases intoE_mem.1 hx with rfl | hx
      · rcases ltE_tri y x with h3 | ⟨h3, h4, -⟩ | h3
        · exact h3
        · exact absurd ⟨h3, h4⟩ (hn y (List.mem_cons_self ..))
        · exact absurd h3 hl
      · exact h1 x hx
end Go.Proofs.Ytgdmmhdihgajkaa
