/- Plain facts on a text of lines and on its lines' words: where the middle line begins, which line is of a character. No program is named here. -/
import Derived.Test.YtmglnpnkkidnnaaDoorUcdMath
import Derived.Lib.IndexLaws
namespace Go.Proofs.YtmglnpnkkidnnaaDoor
set_option linter.unusedVariables false
open Go.RowKit

/-- lines, each with a line's end. -/
def textL : List (List UInt8) → List UInt8
  | [] => []
  | l :: r => l ++ 10 :: textL r
theorem textL_append (a b : List (List UInt8)) : textL (a ++ b) = textL a ++ textL b := by
  induction a with
  | nil => rfl
  | cons l r ih => simp [textL, ih]
/-- no line holds a line's end. -/
def Lined (ls : List (List UInt8)) : Prop := ∀ l ∈ ls, (10 : UInt8) ∉ l
theorem middle (ls : List (List UInt8)) : ∀ (n k : Nat), Lined ls → n < (textL ls).length → k ≤ n → (10 : UInt8) ∉ ((textL ls).take n).drop k → (k = 0 ∨ ((textL ls).take n)[k - 1]? = some 10) →
    ∃ A l B, ls = A ++ l :: B ∧ k = (textL A).length := by
  induction ls with
  | nil => intro n k _ hn; simp [textL] at hn
  | cons l r ih =>
    intro n k hL hn hk h1 h2
    have hl : (10 : UInt8) ∉ l := hL l (List.mem_cons_self ..)
    by_cases hle : n ≤ l.length
    · have e : (textL (l :: r)).take n = l.take n := by simp [textL, List.take_append_of_le_length hle]
      rw [e] at h1 h2
      rcases h2 with rfl | h2
      · exact ⟨[], l, r, rfl, rfl⟩
      · exact absurd (List.mem_of_mem_take (List.mem_of_getElem? h2)) hl
    · obtain ⟨n', rfl⟩ : ∃ n', n = l.length + 1 + n' := ⟨n - l.length - 1, by omega⟩
      have e : (textL (l :: r)).take (l.length + 1 + n') = l ++ 10 :: (textL r).take n' := by
        show (l ++ 10 :: textL r).take _ = _
        rw [Nat.add_assoc, List.take_length_add_append, Nat.add_comm 1 n', List.take_succ_cons]
      rw [e] at h1 h2
      have hk1 : l.length + 1 ≤ k := by
        rcases Nat.lt_or_ge l.length k with h | h
        · exact h
        · exact absurd (by rw [List.drop_append_of_le_length h]; simp) h1
      obtain ⟨k', rfl⟩ : ∃ k', k = l.length + 1 + k' := ⟨k - l.length - 1, by omega⟩
      have e1 : (l ++ 10 :: (textL r).take n').drop (l.length + 1 + k') = ((textL r).take n').drop k' := by
        rw [Nat.add_assoc, List.drop_length_add_append, Nat.add_comm 1 k', List.drop_succ_cons]
      rw [e1] at h1
      have h2' : k' = 0 ∨ ((textL r).take n')[k' - 1]? = some 10 := by
        rcases Nat.eq_zero_or_pos k' with h | h
        · exact .inl h
        · refine .inr ?_
          rcases h2 with h2 | h2
          · omega
          · rw [List.getElem?_append_right (by omega)] at h2
            have : l.length + 1 + k' - 1 - l.length = (k' - 1) + 1 := by omega
            rw [this, List.getElem?_cons_succ] at h2
            exact h2
      have hn' : n' < (textL r).length := by simp [textL] at hn; omega
      obtain ⟨A, m, B, rfl, rfl⟩ := ih n' k' (fun x hx => hL x (List.mem_cons_of_mem _ hx)) hn' (by omega) h1 h2'
      exact ⟨l :: A, m, B, rfl, by simp [textL]; omega⟩

theorem span_at {c : UInt8} {l : List UInt8} (h : c ∈ l) : l = l.takeWhile (· != c) ++ c :: (l.dropWhile (· != c)).drop 1 ∧ c ∉ l.takeWhile (· != c) := by
  induction l with
  | nil => simp at h
  | cons b r ih =>
    by_cases e : b = c
    · subst e; simp
    · have hr : c ∈ r := by rcases List.mem_cons.1 h with h | h
                            · exact absurd h.symm e
                            · exact h
      obtain ⟨h1, h2⟩ := ih hr
      have e' : (b != c) = true := by simpa using e
      rw [List.takeWhile_cons, if_pos e', List.dropWhile_cons, if_pos e']
      refine ⟨by rw [List.cons_append, ← h1], ?_⟩
      simp only [List.mem_cons, not_or]
      exact ⟨fun x => e x.symm, h2⟩
theorem indexByte_at {c : UInt8} : ∀ {A B : List UInt8}, c ∉ A → Lib.indexByte (A ++ c :: B) c = A.length := by
  intro A
  induction A with
  | nil => intro B _; simp [Lib.indexByte]
  | cons a A ih =>
    intro B h
    simp only [List.mem_cons, not_or] at h
    have h1 : (a == c) = false := by simpa using fun x => h.1 x.symm
    rw [List.cons_append, Lib.indexByte, h1, ih h.2]
    simp only [Bool.false_eq_true, if_false, List.length_cons]
    rw [if_neg (by simp)]
    omega

abbrev Row := Nat × Nat × List UInt8
def cutA (l : List UInt8) : List UInt8 := l.takeWhile (· != 32)
def cutB (l : List UInt8) : List UInt8 := (l.dropWhile (· != 32)).drop 1
/-- a line of api's classes, read. -/
def rdC (l : List UInt8) : Row := (numB 16 (cutA l), numB 16 (cutA (cutB l)), cutB (cutB l))
/-- a line of api's maps, read. -/
def rdM (l : List UInt8) : Row := (numB 16 (cutA l), numB 16 (cutA l), cutB l)
def digsB (b : Nat) (l : List UInt8) : Bool := l.all (digOk b) && decide (l.length ≤ 10)
theorem digsB_ok {b : Nat} {l : List UInt8} (h : digsB b l = true) : DigsOk b l := by
  unfold digsB at h; rw [Bool.and_eq_true] at h; exact ⟨h.1, of_decide_eq_true h.2⟩
def okC (l : List UInt8) : Bool := l.contains 32 && (cutB l).contains 32 && digsB 16 (cutA l) && digsB 16 (cutA (cutB l)) && digsB 10 (cutB (cutB l)) && !l.contains 10 && decide (l.length ≤ 100)
def okM (l : List UInt8) : Bool := l.contains 32 && digsB 16 (cutA l) && !l.contains 10 && decide (l.length ≤ 100)
/-- the rest of the line of lines that is of c, or nothing. -/
def findP (rd : List UInt8 → Row) (c : Int) (ls : List (List UInt8)) : List UInt8 :=
  match ls.find? (fun l => decide (((rd l).1 : Int) ≤ c ∧ c ≤ ((rd l).2.1 : Int))) with
  | some l => (rd l).2.2
  | none => []
/-- the lines rise. -/
def Rise (rd : List UInt8 → Row) (ls : List (List UInt8)) : Prop := ls.Pairwise (fun l m => (rd l).2.1 < (rd m).1) ∧ ∀ l ∈ ls, (rd l).1 ≤ (rd l).2.1
theorem Rise.left {rd : List UInt8 → Row} {A B : List (List UInt8)} (h : Rise rd (A ++ B)) : Rise rd A := ⟨(List.pairwise_append.1 h.1).1, fun l hl => h.2 l (List.mem_append_left _ hl)⟩
theorem Rise.right {rd : List UInt8 → Row} {A B : List (List UInt8)} (h : Rise rd (A ++ B)) : Rise rd B := ⟨(List.pairwise_append.1 h.1).2.1, fun l hl => h.2 l (List.mem_append_right _ hl)⟩
theorem find_lower {rd : List UInt8 → Row} {c : Int} {A B : List (List UInt8)} {l : List UInt8} (h : Rise rd (A ++ l :: B)) (hc : c < ((rd l).1 : Int)) : findP rd c (A ++ l :: B) = findP rd c A := by
  unfold findP
  rw [List.find?_append]
  have e : (l :: B).find? (fun l => decide (((rd l).1 : Int) ≤ c ∧ c ≤ ((rd l).2.1 : Int))) = none := by
    rw [List.find?_eq_none]
    intro m hm
    have h1 := h.right
    have : (rd l).1 ≤ (rd m).1 := by
      rcases List.mem_cons.1 hm with rfl | hm
      · exact Nat.le_refl _
      · have := List.rel_of_pairwise_cons h1.1 hm
        have := h1.2 l (List.mem_cons_self ..)
        omega
    simp; omega
  rw [e]
  cases A.find? _ <;> rfl
theorem find_upper {rd : List UInt8 → Row} {c : Int} {A B : List (List UInt8)} {l : List UInt8} (h : Rise rd (A ++ l :: B)) (hc : ((rd l).2.1 : Int) < c) : findP rd c (A ++ l :: B) = findP rd c B := by
  unfold findP
  rw [List.find?_append]
  have h0 := h.2 l (List.mem_append_right _ (List.mem_cons_self ..))
  have e : A.find? (fun l => decide (((rd l).1 : Int) ≤ c ∧ c ≤ ((rd l).2.1 : Int))) = none := by
    rw [List.find?_eq_none]
    intro m hm
    have := (List.pairwise_append.1 h.1).2.2 m hm l (List.mem_cons_self ..)
    simp; omega
  rw [e, List.find?_cons_of_neg (by simp; omega)]
  rfl
theorem find_here {rd : List UInt8 → Row} {c : Int} {A B : List (List UInt8)} {l : List UInt8} (h : Rise rd (A ++ l :: B)) (hc : ((rd l).1 : Int) ≤ c) (hc2 : c ≤ ((rd l).2.1 : Int)) : findP rd c (A ++ l :: B) = (rd l).2.2 := by
  unfold findP
  rw [List.find?_append]
  have e : A.find? (fun l => decide (((rd l).1 : Int) ≤ c ∧ c ≤ ((rd l).2.1 : Int))) = none := by
    rw [List.find?_eq_none]
    intro m hm
    have := (List.pairwise_append.1 h.1).2.2 m hm l (List.mem_cons_self ..)
    simp; omega
  rw [e, List.find?_cons_of_pos (by simp; omega)]
  rfl
end Go.Proofs.YtmglnpnkkidnnaaDoor
