/- A row of structs of the call's own as the library's sort speaks of it. -/
import Derived.Test.YtjloaamaelcmaaaMBase
import Derived.Shelf.SlSortCmp.WholeK
namespace Go.Proofs.Ytjloaamaelcmaaa
set_option linter.unusedVariables false
open Go.RowKit Go.Shelf Go.Lib
open Go.Sort (HoldsK Holds flatK putRowK putRow putCells mapBlock grow get_flatK size_flatK size_putRow heap_grow_old PermIn SortedIn)
theorem OwnK.blockS {α : Type} {enc : α → List Value} {k E B : Nat} {w : World} {g n cap : Nat} {xs : List α} (h : OwnK enc k E B w (.slice (some ⟨g, 0, none⟩) n cap) xs) : ∃ cur, w.heap[g]? = some (.cells cur E (0, 0)) ∧ n = xs.length ∧ xs.length ≤ cap ∧ cap ≤ maxLen ∧ cur.size = cap * k ∧ B ≤ g ∧ g < w.heap.size ∧ cur.toList.take (xs.length * k) = xs.flatMap enc := by
  rcases h.blk with ⟨e1, -⟩ | ⟨g', cap', cur, e1, e2, e3, e4, e5, e6, e7, e8⟩
  · simp at e1
  · simp only [Value.slice.injEq, Option.some.injEq, Addr.mk.injEq] at e1
    obtain ⟨⟨rfl, -⟩, rfl, rfl⟩ := e1
    exact ⟨cur, e4, rfl, e5, e6, e7, e2, e3, e8⟩
section
variable {α : Type} [Inhabited α] {enc : α → List Value} {k E B : Nat} {w w' : World} {g n cap : Nat} {xs ys : List α}
theorem flatK_list (hk : EncK enc k) (xs : List α) (t : Nat) (h : t < xs.length * k) : some ((flatK enc k xs.toArray)[t]!) = (xs.flatMap enc)[t]? := by
  have hk0 : 0 < k := by rcases Nat.eq_zero_or_pos k with h0 | h0; · subst h0; simp at h
                         · exact h0
  have hm : t % k < k := Nat.mod_lt t hk0
  have hd : t / k < xs.length := (Nat.div_lt_iff_lt_mul hk0).2 h
  have hx : xs[t / k]? = some xs[t / k] := List.getElem?_eq_getElem hd
  have hjk : t / k * k + t % k = t := by rw [Nat.mul_comm]; exact Nat.div_add_mod t k
  have h2 := flat_at hk xs (t / k) (t % k) _ hx hm
  rw [hjk] at h2
  rw [h2, get_flatK _ _ _ _ (by simpa using h)]
  have e : xs.toArray[t / k]! = xs[t / k] := by simp [hd]
  rw [e, getElem!_pos _ _ (by rw [hk]; exact hm), List.getElem?_eq_getElem (by rw [hk]; exact hm)]
theorem OwnK.holdsK (hk : EncK enc k) (h : OwnK enc k E B w (.slice (some ⟨g, 0, none⟩) n cap) xs) : HoldsK enc k w g 0 xs.toArray := by
  obtain ⟨cur, hb, -, h1, -, h3, -, -, hc⟩ := h.blockS
  intro j hj
  rw [size_flatK] at hj
  have hj' : j < xs.length * k := by simpa using hj
  have e := flatK_list hk xs j hj'
  rw [← hc, List.getElem?_take_of_lt hj', Array.getElem?_toList] at e
  constructor
  · simp only [World.cell?, hb, Option.isSome_none, Bool.false_eq_true, if_false, Nat.zero_add]
    exact e.symm
  · simp only [World.frozen?, hb]; simp
theorem OwnK.sortedK (hk : EncK enc k) (h : OwnK enc k E B w (.slice (some ⟨g, 0, none⟩) n cap) xs) (hS : SWK enc k w g 0 ys.toArray w') (hl : ys.length = xs.length) :
    OwnK enc k E B w' (.slice (some ⟨g, 0, none⟩) n cap) ys ∧ Below B w w' := by
  obtain ⟨cur, hb, hn, h1, h2, h3, hg, hgl, hc⟩ := h.blockS
  obtain ⟨q, os, rfl⟩ := hS
  have hsz : (putRowK enc k (Go.Sort.ahead w q) g 0 ys.toArray).heap.size = w.heap.size := size_putRow _ _ _ _ _
  have hheap : (putRowK enc k (Go.Sort.ahead w q) g 0 ys.toArray).heap = w.heap.modify g (Go.Sort.onCells (putCells id 0 (flatK enc k ys.toArray))) := rfl
  have hb' : (grow (putRowK enc k (Go.Sort.ahead w q) g 0 ys.toArray) os).heap[g]? = some (.cells (putCells id 0 (flatK enc k ys.toArray) cur) E (0, 0)) := by
    rw [heap_grow_old _ _ (by rw [hsz]; exact hgl), hheap, Array.getElem?_modify, if_pos rfl, hb]; rfl
  constructor
  · refine ⟨flat_lenK hk _, .inr ⟨g, cap, _, by rw [hn, hl], hg, hb', by rw [hl]; exact h1, h2, by simp [putCells, h3], ?_⟩⟩
    apply List.ext_getElem?
    intro i
    by_cases hi : i < ys.length * k
    · have hic : i < cur.size := by rw [h3]; exact Nat.lt_of_lt_of_le hi (Nat.mul_le_mul_right k (by rw [hl]; exact h1))
      rw [List.getElem?_take_of_lt hi, Array.getElem?_toList, ← flatK_list hk ys i hi, Array.getElem?_eq_getElem (by simpa [putCells] using hic)]
      simp only [putCells, Array.getElem_mapIdx, size_flatK, List.size_toArray]
      rw [if_pos ⟨Nat.zero_le _, by omega⟩]; rfl
    · rw [List.getElem?_eq_none (by rw [List.length_take]; omega), List.getElem?_eq_none (by rw [flat_lenK hk]; omega)]
  · refine ⟨rfl, rfl, rfl, ?_, fun j hj => ?_⟩
    · show w.heap.size ≤ (grow (putRowK enc k (Go.Sort.ahead w q) g 0 ys.toArray) os).heap.size
      rw [Go.Sort.size_grow, hsz]; omega
    · show (grow (putRowK enc k (Go.Sort.ahead w q) g 0 ys.toArray) os).heap[j]? = _
      rw [heap_grow_old _ _ (by rw [hsz]; omega), hheap, Array.getElem?_modify, if_neg (by omega)]
theorem perm_list {d' : Array α} (h : PermIn 0 xs.toArray.size xs.toArray d') : d'.toList.Perm xs := by
  obtain ⟨h1, -, h2⟩ := h
  have e1 : d'.extract 0 xs.toArray.size = d' := by rw [← h1, Array.extract_size]
  have e2 : xs.toArray.extract 0 xs.toArray.size = xs.toArray := Array.extract_size
  rwa [e1, e2] at h2
theorem sorted_list {lt : α → α → Bool} {d' : Array α} (hs : d'.size = xs.length) (h : SortedIn lt 0 xs.length d') : d'.toList.Pairwise fun f g => lt g f = false := by
  rw [List.pairwise_iff_getElem]
  intro i j hi hj hij
  rw [Array.length_toList] at hi hj
  have := h i j (Nat.zero_le _) hij (by omega)
  rw [getElem!_pos d' j hj, getElem!_pos d' i hi] at this
  simpa using this
end
end Go.Proofs.Ytjloaamaelcmaaa
