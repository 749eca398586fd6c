/- The walks of the reference's number, words and lines. -/
import Derived.Test.YtgmlkfcfmiiebaaDoorMUcd
import Derived.Test.YtgmlkfcfmiiebaaDoorMBase
import Derived.Laws.BytesArg
import Derived.Laws.OwnMore
import Derived.Handy
import Derived.RegionTactic
import Derived.Deep.DeepCutAuto
namespace Go.Proofs.YtgmlkfcfmiiebaaDoor
set_option linter.unusedVariables false
open Go.RowKit

def strV (l : List UInt8) : Value := .string (bs l)
def wstep (ws : List (List UInt8)) (c : UInt8) : List (List UInt8) := if c = 32 then ws ++ [[]] else ws.set (ws.length - 1) (ws.getD (ws.length - 1) [] ++ [c])
/-- the words of a line, apart by blanks. -/
def wordsP (l : List UInt8) : List (List UInt8) := l.foldl wstep [[]]
theorem wstep_len (ws : List (List UInt8)) (c : UInt8) : ws.length ≤ (wstep ws c).length ∧ (wstep ws c).length ≤ ws.length + 1 := by unfold wstep; split <;> simp
theorem words_snoc (l : List UInt8) (c : UInt8) : wordsP (l ++ [c]) = wstep (wordsP l) c := by simp [wordsP]
theorem words_size (l : List UInt8) : ∀ w ∈ wordsP l, w.length ≤ l.length := by
  rcases Nat.exists_eq_add_of_le (Nat.zero_le l.length) with ⟨n, hn⟩
  rw [Nat.zero_add] at hn
  induction n generalizing l with
  | zero =>
    intro w hw
    have e : l = [] := List.eq_nil_of_length_eq_zero hn
    subst e
    have : w = [] := by simpa [wordsP] using hw
    subst this; exact Nat.le_refl _
  | succ n ih =>
    intro w hw
    obtain ⟨l, c, rfl⟩ : ∃ l' c, l = l' ++ [c] := by
      rcases List.eq_nil_or_concat l with rfl | ⟨l', c, rfl⟩
      · simp at hn
      · exact ⟨l', c, List.concat_eq_append⟩
    have ih := ih l (by simp at hn; omega)
    rw [words_snoc] at hw
    unfold wstep at hw
    simp only [List.length_append, List.length_cons, List.length_nil]
    split at hw
    · rcases List.mem_append.1 hw with hw | hw
      · have := ih w hw; omega
      · have : w = [] := by simpa using hw
        subst this; simp
    · rcases List.mem_or_eq_of_mem_set hw with hw | rfl
      · have := ih w hw; omega
      · rw [List.length_append, List.getD_eq_getElem?_getD]
        cases e : (wordsP l)[(wordsP l).length - 1]? with
        | none => simp
        | some v => have := ih v (List.mem_of_getElem? e); simp; omega
theorem own_one (w : World) (T : TypeId) (u : Value) : (w.alloc (.cells #[u] T)).ownsRow w.heap.size T 1 (.slice (some ⟨w.heap.size, 0, none⟩) 1 1) 1 [u] :=
  ⟨rfl, .inr ⟨w.heap.size, 1, #[u], rfl, Nat.le_refl _, by rw [heap_alloc_new], Nat.le_refl _, by simp [maxLen], rfl, rfl⟩⟩
theorem nums_one (c : UInt8) : strOfNums [(c.toNat : Int)] = bs [c] := by
  unfold strOfNums bs
  simp only [List.map_cons, List.map_nil, Int.toNat_natCast, UInt8.ofNat_toNat]
theorem bs_app (a b : List UInt8) : bs a ++ bs b = bs (a ++ b) := by
  apply ByteArray.ext
  rw [ByteArray.data_append]
  simp [bs]
theorem conv_byte (w : World) (c : UInt8) : (convert 28 9 (.slice (some ⟨w.heap.size, 0, none⟩) 1 1)).run Tryd.prog (w.alloc (.cells #[.int .u8 c.toNat] 5)) = .ok (.string (bs [c])) (w.alloc (.cells #[.int .u8 c.toNat] 5)) := by
  rw [← nums_one]
  refine run_convert_bytes_arg _ 28 5 Tryd.underlying28 Tryd.underlying5 w.heap.size 0 1 1 [c.toNat] rfl ?_ 9 Tryd.underlying9
  intro i hi
  have : i = 0 := by simpa using hi
  subst this
  unfold World.cell?
  rw [heap_alloc_new]; rfl
theorem first_ten {l r : List UInt8} {j : Nat} (hl : (10 : UInt8) ∉ l) (h1 : (10 : UInt8) ∉ (l ++ 10 :: r).take j) (h2 : (l ++ 10 :: r)[j]? = some 10) : j = l.length := by
  rcases Nat.lt_trichotomy j l.length with h | h | h
  · rw [List.getElem?_append_left h] at h2
    exact absurd (List.mem_of_getElem? h2) hl
  · exact h
  · refine absurd ?_ h1
    obtain ⟨m, rfl⟩ : ∃ m, j = l.length + (m + 1) := ⟨j - l.length - 1, by omega⟩
    rw [List.take_length_add_append, List.take_succ_cons]; simp
/-- what the reference's loop over a text of lines knows when i stands at k, the last line having begun at a. -/
def LinesAt (l : List UInt8) (ls A B : List (List UInt8)) (a k : Nat) : Prop := l = textL ls ∧ Lined ls ∧ ls = A ++ B ∧ a = (textL A).length ∧ (10 : UInt8) ∉ (l.drop a).take (k - a)
theorem LinesAt.rest {l : List UInt8} {ls A B : List (List UInt8)} {a k : Nat} (h : LinesAt l ls A B a k) : l.drop a = textL B := by
  obtain ⟨rfl, -, rfl, rfl, -⟩ := h
  rw [textL_append, List.drop_append_of_le_length (Nat.le_refl _), List.drop_length, List.nil_append]
theorem LinesAt.hit {l : List UInt8} {ls A B : List (List UInt8)} {a k : Nat} (h : LinesAt l ls A B a k) (ha : a ≤ k) (hk : k < l.length) (hc : l[k]? = some 10) :
    ∃ x B', B = x :: B' ∧ (l.drop a).take (k - a) = x ∧ LinesAt l ls (A ++ [x]) B' (k + 1) (k + 1) := by
  have hr := h.rest
  obtain ⟨h1, h2, h3, h4, h5⟩ := h
  have hj : (l.drop a)[k - a]? = some 10 := by rw [List.getElem?_drop]; rw [show a + (k - a) = k by omega]; exact hc
  cases B with
  | nil => rw [hr] at hj; simp [textL] at hj
  | cons x B' =>
    have hx : (10 : UInt8) ∉ x := h2 x (by rw [h3]; simp)
    rw [hr] at hj h5
    have e := first_ten (r := textL B') hx h5 hj
    refine ⟨x, B', rfl, ?_, h1, h2, by rw [h3]; simp, ?_, by simp⟩
    · rw [hr, e]; simp [textL]
    · rw [textL_append, List.length_append, ← h4]; simp [textL]; omega
theorem LinesAt.miss {l : List UInt8} {ls A B : List (List UInt8)} {a k : Nat} (h : LinesAt l ls A B a k) (ha : a ≤ k) (hk : k < l.length) (hc : l[k] ≠ 10) : LinesAt l ls A B a (k + 1) := by
  obtain ⟨h1, h2, h3, h4, h5⟩ := h
  refine ⟨h1, h2, h3, h4, ?_⟩
  rw [show k + 1 - a = (k - a) + 1 by omega, List.take_succ_eq_append_getElem (by rw [List.length_drop]; omega), List.mem_append, not_or]
  refine ⟨h5, ?_⟩
  rw [List.getElem_drop]
  simp only [show a + (k - a) = k by omega, List.mem_singleton]
  exact fun e => hc e.symm
theorem LinesAt.over {l : List UInt8} {ls A B : List (List UInt8)} {a : Nat} (h : LinesAt l ls A B a l.length) : A = ls := by
  have hr := h.rest
  obtain ⟨h1, h2, h3, h4, h5⟩ := h
  cases B with
  | nil => rw [h3]; simp
  | cons x B' =>
    rw [hr, List.take_of_length_le (by have := congrArg List.length hr; rw [List.length_drop] at this; omega)] at h5
    simp [textL] at h5
theorem lines_fewer (ls : List (List UInt8)) : ls.length ≤ (textL ls).length := by
  induction ls with
  | nil => exact Nat.le_refl _
  | cons l r ih => simp [textL]; omega
end Go.Proofs.YtgmlkfcfmiiebaaDoor
/- The walks of the reference's Class and Map. -/
namespace Go.Proofs.YtgmlkfcfmiiebaaDoor
set_option linter.unusedVariables false
open Go.RowKit

/-- the reference's words of a line of the classes. -/
def fitC (l : List UInt8) : Bool := decide (wordsP l = [cutA l, cutA (cutB l), cutB (cutB l)]) && okC l
theorem fitsC : classLines.all fitC = true := by decide +kernel
theorem lowC : ∀ l ∈ classLines, 768 ≤ (rdC l).1 := by decide +kernel
theorem class_low (c : Int) (h : c < 768) : classP c = 0 := by
  unfold classP
  have : findP rdC c classLines = [] := by
    rcases find_mem rdC c classLines with h' | ⟨l, hl, h', h1, h2⟩
    · exact h'
    · have := lowC l hl; omega
  rw [this]; rfl
theorem find_cons (rd : List UInt8 → Row) (c : Int) (l : List UInt8) (r : List (List UInt8)) : findP rd c (l :: r) = if ((rd l).1 : Int) ≤ c ∧ c ≤ ((rd l).2.1 : Int) then (rd l).2.2 else findP rd c r := by
  unfold findP
  by_cases h : ((rd l).1 : Int) ≤ c ∧ c ≤ ((rd l).2.1 : Int)
  · rw [if_pos h, List.find?_cons_of_pos (by simpa using h)]
  · rw [if_neg h, List.find?_cons_of_neg (by simpa using h)]
theorem rowsCell {w : World} {E B g n cap : Nat} {vs : List Value} (h : w.ownsRow B E 1 (.slice (some ⟨g, 0, none⟩) n cap) n vs) (j : Nat) (u : Value) (hj : j < n) (hu : vs[j]? = some u) : w.cell? ⟨g, j, none⟩ = some u := by
  rw [h.cellAt j (by omega), hu]
/-- the reference's words of a line of the maps. -/
def fitR (l : List UInt8) : Bool := (wordsP l).all (digsB 16) && decide (1 ≤ (wordsP l).length) && decide ((wordsP l).length ≤ 10) && decide (numB 16 ((wordsP l).getD 0 []) = (rdM l).1) && decide (((wordsP l).drop 1).map (numB 16) = (fieldsP (rdM l).2.2).map (numB 16)) && decide ((rdM l).1 = (rdM l).2.1) && decide (l.length ≤ 100)
theorem fitsR : mapLines.all fitR = true := by decide +kernel
theorem lowM : ∀ l ∈ mapLines, 192 ≤ (rdM l).1 := by decide +kernel
def numI (f : List UInt8) : Int := ((numB 16 f : Nat) : Int)
def numVs (l : List (List UInt8)) : List Value := (l.map numI).map (Value.int .i64)
theorem numVs_snoc (l : List (List UInt8)) (x : List UInt8) : numVs (l ++ [x]) = numVs l ++ [.int .i64 (numI x)] := by simp [numVs]
theorem numVs_len (l : List (List UInt8)) : (numVs l).length = l.length := by simp [numVs]
theorem map_low (c : Int) (h : c < 192) : mapP c = [] := by
  unfold mapP
  have : findP rdM c mapLines = [] := by
    rcases find_mem rdM c mapLines with h' | ⟨l, hl, h', h1, h2⟩
    · exact h'
    · have := lowM l hl; omega
  rw [this]; rfl
theorem mapP_num (c : Int) : mapP c = (fieldsP (findP rdM c mapLines)).map numI := rfl
end Go.Proofs.YtgmlkfcfmiiebaaDoor
