/- A slice of chars of the call's own, a part of it sorted. -/
import Derived.Test.YtmglnpnkkidnnaaDoorSortSwap
import Derived.Test.YtmglnpnkkidnnaaDoorSlices
import Derived.Test.YtmglnpnkkidnnaaDoorNormOrd
import Derived.Below
namespace Go.Proofs.YtmglnpnkkidnnaaDoor
set_option linter.unusedVariables false
open Go.RowKit Go.Shelf Go.Lib
open Go.Sort (HoldsK Holds flatK putRowK putRow putCells mapBlock grow get_flatK size_flatK size_putRow heap_grow_old)
/-- A slice of chars of the call's own: it holds L, each with its class. -/
def OwnC (cl : Int → Int) (B : Nat) (w : World) (v : Value) (L : List Int) : Prop := w.ownsRow B 43 2 v L.length (L.flatMap (encC cl))
theorem cells_len (cl : Int → Int) (L : List Int) : (L.flatMap (encC cl)).length = L.length * 2 := by
  induction L with
  | nil => rfl
  | cons x L ih => simp only [List.flatMap_cons, List.length_append, ih, List.length_cons]; show 2 + _ = _; omega
theorem cells_get (cl : Int → Int) : ∀ (L : List Int) (i : Nat), i < L.length * 2 → (L.flatMap (encC cl))[i]? = some ((encC cl L[i / 2]!)[i % 2]!)
  | [], i, h => by simp at h
  | x :: L, i, h => by
    rw [List.flatMap_cons]
    match i with
    | 0 => rfl
    | 1 => rfl
    | i + 2 =>
      rw [List.getElem?_append_right (by show 2 ≤ _; omega)]
      have := cells_get cl L i (by simp at h; omega)
      rw [show i + 2 - (encC cl x).length = i from rfl, this, show (i + 2) / 2 = i / 2 + 1 by omega, show (i + 2) % 2 = i % 2 by omega]
      simp
theorem flatK_cells (cl : Int → Int) (L : List Int) (t : Nat) (h : t < L.length * 2) : (flatK (encC cl) 2 L.toArray)[t]! = (encC cl L[t / 2]!)[t % 2]! := by
  rw [get_flatK _ _ _ _ (by simpa using h)]
  rw [get_toList L.toArray L rfl]
section
variable {cl : Int → Int} {B : Nat} {w w' : World} {g n cap : Nat} {L D A R M : List Int}
theorem OwnC.block (h : OwnC cl B w (.slice (some ⟨g, 0, none⟩) n cap) L) : ∃ cur, w.heap[g]? = some (.cells cur 43 (0, 0)) ∧ n = L.length ∧ L.length ≤ cap ∧ cap ≤ maxLen ∧ cur.size = cap * 2 ∧ B ≤ g ∧ ∀ i, i < L.length * 2 → cur[i]? = some ((encC cl L[i / 2]!)[i % 2]!) := by
  obtain ⟨h1, ⟨h2, _⟩ | ⟨g', cap', cur, h2, h3, h4, h5, h6, h7, h8⟩⟩ := h
  · simp at h2
  · simp at h2
    obtain ⟨rfl, rfl, rfl⟩ := h2
    refine ⟨cur, h4, rfl, h5, h6, h7, h3, fun i hi => ?_⟩
    rw [← cells_get cl L i hi, ← h8, List.getElem?_take_of_lt hi, Array.getElem?_toList]
theorem OwnC.mk' (cur : Array Value) (hg : B ≤ g) (hb : w.heap[g]? = some (.cells cur 43 (0, 0))) (h1 : L.length ≤ cap) (h2 : cap ≤ maxLen) (h3 : cur.size = cap * 2) (hc : ∀ i, i < L.length * 2 → cur[i]? = some ((encC cl L[i / 2]!)[i % 2]!)) :
    OwnC cl B w (.slice (some ⟨g, 0, none⟩) L.length cap) L := by
  refine ⟨cells_len cl L, .inr ⟨g, cap, cur, rfl, hg, hb, h1, h2, h3, ?_⟩⟩
  apply List.ext_getElem?
  intro i
  by_cases hi : i < L.length * 2
  · rw [List.getElem?_take_of_lt hi, cells_get cl L i hi, Array.getElem?_toList, hc i hi]
  · rw [List.getElem?_eq_none (by rw [List.length_take]; omega), List.getElem?_eq_none (by rw [cells_len]; omega)]
theorem get_mid (D A R : List Int) (j : Nat) (h1 : D.length ≤ j) (h2 : j < D.length + A.length) : (D ++ (A ++ R))[j]! = A[j - D.length]! := by
  rw [getElem!_pos _ j (by simp; omega), getElem!_pos A _ (by omega), List.getElem_append_right h1, List.getElem_append_left (by omega)]
theorem get_out (D A M R : List Int) (hM : M.length = A.length) (j : Nat) (h : j < D.length ∨ D.length + A.length ≤ j) : (D ++ (M ++ R))[j]! = (D ++ (A ++ R))[j]! := by
  simp only [getElem!_def]
  congr 1
  rcases h with h | h
  · rw [List.getElem?_append_left h, List.getElem?_append_left h]
  · rw [List.getElem?_append_right (by omega), List.getElem?_append_right (by omega), List.getElem?_append_right (by omega), List.getElem?_append_right (by omega), hM]
theorem OwnC.holds (h : OwnC cl B w (.slice (some ⟨g, 0, none⟩) n cap) (D ++ (A ++ R))) : HoldsK (encC cl) 2 w g (D.length * 2) A.toArray := by
  obtain ⟨cur, hb, -, -, -, -, -, hc⟩ := h.block
  intro j hj
  rw [size_flatK] at hj
  have hj' : j < A.length * 2 := by simpa using hj
  have e := hc (D.length * 2 + j) (by simp; omega)
  rw [get_mid D A R _ (by omega) (by omega), show (D.length * 2 + j) / 2 - D.length = j / 2 by omega, show (D.length * 2 + j) % 2 = j % 2 by omega] at e
  constructor
  · simp only [World.cell?, hb, Option.isSome_none, Bool.false_eq_true, if_false]
    rw [e, flatK_cells cl A j hj']; rfl
  · simp only [World.frozen?, hb]; simp
theorem OwnC.sorted (h : OwnC cl B w (.slice (some ⟨g, 0, none⟩) n cap) (D ++ (A ++ R))) {d' : Array Int} (hS : SWK (encC cl) 2 w g (D.length * 2) d' w') (hd : d'.toList = M) (hM : M.length = A.length) :
    OwnC cl B w' (.slice (some ⟨g, 0, none⟩) n cap) (D ++ (M ++ R)) ∧ Go.RowKit.Below B w w' := by
  obtain ⟨cur, hb, hn, h1, h2, h3, hg, hc⟩ := h.block
  obtain ⟨q, os, rfl⟩ := hS
  obtain rfl : d' = M.toArray := by rw [← hd]
  have hgl : g < w.heap.size := (Array.getElem?_eq_some_iff.1 hb).1
  have hsz : (putRowK (encC cl) 2 (Go.Sort.ahead w q) g (D.length * 2) M.toArray).heap.size = w.heap.size := size_putRow _ _ _ _ _
  have hheap : (putRowK (encC cl) 2 (Go.Sort.ahead w q) g (D.length * 2) M.toArray).heap = w.heap.modify g (Go.Sort.onCells (putCells id (D.length * 2) (flatK (encC cl) 2 M.toArray))) := rfl
  have hb' : (grow (putRowK (encC cl) 2 (Go.Sort.ahead w q) g (D.length * 2) M.toArray) os).heap[g]? = some (.cells (putCells id (D.length * 2) (flatK (encC cl) 2 M.toArray) cur) 43 (0, 0)) := by
    rw [heap_grow_old _ _ (by rw [hsz]; exact hgl), hheap, Array.getElem?_modify, if_pos rfl, hb]; rfl
  have hlen : (D ++ (M ++ R)).length = (D ++ (A ++ R)).length := by simp [hM]
  constructor
  · rw [hn, ← hlen]
    refine OwnC.mk' _ hg hb' (by rw [hlen]; exact h1) h2 (by simp [putCells, h3]) fun i hi => ?_
    rw [hlen] at hi
    have hi' : i < cur.size := by rw [h3]; have := hi; omega
    have ci := hc i hi
    rw [Array.getElem?_eq_getElem hi'] at ci
    have ci' := Option.some.inj ci
    rw [Array.getElem?_eq_getElem (by simpa [putCells] using hi')]
    simp only [putCells, Array.getElem_mapIdx, size_flatK, List.size_toArray]
    congr 1
    by_cases hin : D.length * 2 ≤ i ∧ i < D.length * 2 + M.length * 2
    · rw [if_pos hin, flatK_cells cl M _ (by omega), get_mid D M R _ (by omega) (by omega), show (i - D.length * 2) / 2 = i / 2 - D.length by omega, show (i - D.length * 2) % 2 = i % 2 by omega]; rfl
    · rw [if_neg hin, ci', get_out D A M R hM (i / 2) (by omega)]
  · refine ⟨rfl, rfl, rfl, ?_, fun k hk => ?_⟩
    · show w.heap.size ≤ (grow (putRowK (encC cl) 2 (Go.Sort.ahead w q) g (D.length * 2) M.toArray) os).heap.size
      rw [Go.Sort.size_grow, hsz]; omega
    · show (grow (putRowK (encC cl) 2 (Go.Sort.ahead w q) g (D.length * 2) M.toArray) os).heap[k]? = _
      rw [heap_grow_old _ _ (by rw [hsz]; omega), hheap, Array.getElem?_modify, if_neg (by omega)]
end
end Go.Proofs.YtmglnpnkkidnnaaDoor
