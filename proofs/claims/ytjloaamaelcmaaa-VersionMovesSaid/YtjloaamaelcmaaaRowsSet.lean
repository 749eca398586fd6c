/- Rows of structs of the call's own: 'make([]T, n)', and a store of a whole struct at a place. -/
import Derived.Test.YtjloaamaelcmaaaMBase
import Derived.Laws.OwnMore
import Derived.Deep.OwnRows
namespace Go.Proofs.Ytjloaamaelcmaaa
set_option linter.unusedVariables false
open Go.RowKit
/-- us stored one behind the other from place o on -/
def putL (L : List Value) (o : Nat) : List Value → List Value
  | [] => L
  | u :: us => putL (L.set o u) (o + 1) us
def setRow (w : World) (g o : Nat) : List Value → World
  | [] => w
  | u :: us => setRow (w.setCell ⟨g, o, none⟩ u) g (o + 1) us
theorem putL_cons (a : Value) : ∀ (us L : List Value) (o : Nat), putL (a :: L) (o + 1) us = a :: putL L o us
  | [], _, _ => rfl
  | u :: us, L, o => by rw [putL, putL, List.set_cons_succ, putL_cons a us]
theorem putL_app : ∀ (A L : List Value) (o : Nat) (us : List Value), putL (A ++ L) (A.length + o) us = A ++ putL L o us
  | [], L, o, us => by simp
  | a :: A, L, o, us => by
    rw [List.cons_append, List.length_cons, show A.length + 1 + o = A.length + o + 1 by omega, putL_cons, putL_app A L o us]; rfl
theorem putL_zero : ∀ (A us L : List Value), us.length = A.length → putL (A ++ L) 0 us = us ++ L
  | [], [], L, _ => rfl
  | a :: A, u :: us, L, h => by
    rw [putL]
    show putL (u :: (A ++ L)) (0 + 1) us = _
    rw [putL_cons, putL_zero A us L (by simpa using h)]; rfl
theorem flat_put {α : Type} {enc : α → List Value} {k : Nat} (hk : EncK enc k) : ∀ (xs : List α) (i : Nat) (x : α), i < xs.length → putL (xs.flatMap enc) (i * k) (enc x) = (xs.set i x).flatMap enc
  | [], i, x, h => by simp at h
  | y :: xs, 0, x, _ => by
    rw [List.flatMap_cons, Nat.zero_mul, putL_zero _ _ _ (by rw [hk, hk])]; rfl
  | y :: xs, i + 1, x, h => by
    rw [List.flatMap_cons, show (i + 1) * k = (enc y).length + i * k by rw [hk, Nat.add_mul]; omega, putL_app, flat_put hk xs i x (by simpa using h)]; rfl
theorem putL_len : ∀ (us L : List Value) (o : Nat), (putL L o us).length = L.length
  | [], _, _ => rfl
  | u :: us, L, o => by rw [putL, putL_len us, List.length_set]
theorem row_put {w : World} {B E k g n cap : Nat} : ∀ (us : List Value) (w : World) (L : List Value) (o : Nat), w.ownsRow B E k (.slice (some ⟨g, 0, none⟩) n cap) n L → (setRow w g o us).ownsRow B E k (.slice (some ⟨g, 0, none⟩) n cap) n (putL L o us)
  | [], _, _, _, h => h
  | u :: us, w, L, o, h => row_put (w := w) us _ _ _ (World.ownsRow.stored h o u).1
theorem setRow_below {B : Nat} {w0 : World} {g : Nat} (hg : B ≤ g) : ∀ (us : List Value) (w : World) (o : Nat), Below B w0 w → Below B w0 (setRow w g o us)
  | [], _, _, h => h
  | u :: us, w, o, h => setRow_below hg us _ _ (Below.setCell h hg _)
/-- A struct stored at place i. -/
theorem OwnK.put {α : Type} {enc : α → List Value} {k E B : Nat} {w : World} {g n cap : Nat} {xs : List α} (hk : EncK enc k) (h : OwnK enc k E B w (.slice (some ⟨g, 0, none⟩) n cap) xs) (i : Nat) (hi : i < xs.length) (x : α) :
    OwnK enc k E B (setRow w g (i * k) (enc x)) (.slice (some ⟨g, 0, none⟩) n cap) (xs.set i x) := by
  have hn : n = xs.length := by
    rcases h.blk with ⟨e, -⟩ | ⟨_, _, _, e, -⟩
    · cases e
    · simp only [Value.slice.injEq] at e; exact e.2.1
  subst hn
  unfold OwnK
  rw [List.length_set, ← flat_put hk xs i x hi]
  exact row_put (w := w) (enc x) w _ _ h
/-- What a store at place i asks. -/
theorem OwnK.place {α : Type} {enc : α → List Value} {k E B : Nat} {w : World} {v : Value} {xs : List α} (hk : EncK enc k) (h : OwnK enc k E B w v xs) (i : Nat) (hi : i < xs.length) :
    ∃ g cap, v = .slice (some ⟨g, 0, none⟩) xs.length cap ∧ B ≤ g ∧ g < w.heap.size ∧ xs.length ≤ cap ∧ cap ≤ maxLen ∧ ∀ j, j < k → w.cell? ⟨g, i * k + j, none⟩ = some ((enc (xs[i]'hi)).getD j undef) ∧ w.frozen? ⟨g, i * k + j, none⟩ = false := by
  rcases h.blk with ⟨rfl, e⟩ | ⟨g, cap, cur, rfl, h2, h3, h4, h5, h6, -⟩
  · subst e; simp at hi
  · exact ⟨g, cap, rfl, h2, h3, h5, h6, fun j hj => ⟨h.cell hk i j _ (List.getElem?_eq_getElem hi) hj, World.ownsRow.frozenAt h _⟩⟩
theorem made_flat {α : Type} {enc : α → List Value} {k : Nat} (hk : EncK enc k) (x : α) (z : Array Value) (hz : z.toList = enc x) (n : Nat) : (madeCells z (n * k)).toList = (List.replicate n x).flatMap enc := by
  have hzs : z.size = k := by rw [← Array.length_toList, hz, hk]
  apply List.ext_getElem?
  intro j
  rcases Nat.lt_or_ge j (n * k) with hj | hj
  · have hk0 : 0 < k := by
      rcases Nat.eq_zero_or_pos k with h | h
      · subst h; simp at hj
      · exact h
    have hm : j % k < k := Nat.mod_lt j hk0
    have hd : j / k < n := (Nat.div_lt_iff_lt_mul hk0).2 hj
    have h2 := flat_at hk (List.replicate n x) (j / k) (j % k) x (by rw [List.getElem?_replicate, if_pos hd]) hm
    have hjk : j / k * k + j % k = j := by rw [Nat.mul_comm]; exact Nat.div_add_mod j k
    rw [hjk] at h2
    rw [h2, ← hz]
    have hmz : j % k < z.size := by omega
    simp only [madeCells, hzs, Array.toList_map, List.getElem?_map, Array.toList_range, List.getElem?_range hj, Option.map_some, Array.getElem?_toList]
    rw [Array.getElem?_eq_getElem hmz, getElem!_pos z (j % k) hmz]
  · rw [List.getElem?_eq_none (by rw [Array.length_toList, size_madeCells]; exact hj), List.getElem?_eq_none (by rw [flat_lenK hk, List.length_replicate]; exact hj)]
/-- 'make([]T, n)', run. -/
theorem mkK_run {α : Type} {enc : α → List Value} {P : Program} {t E k bytes : Nat} {z : Value} (F : ElemK P t E k bytes z) (kl : IntKind) (n : Nat) (hn : n * bytes ≤ 281474976710656) (hm : n ≤ maxLen) (w : World) :
    (Instr.makeSlice t (.int kl (n : Int)) (.int kl (n : Int))).run P w = .ok (.slice (some ⟨w.heap.size, 0, none⟩) n n) (w.alloc (.cells (madeCells z.cells (n * k)) E)) := by
  obtain ⟨f1, f3, f4, i0, hi, hz0, hz1, hz2⟩ := F.parts
  have h63' : (n : Int) ≤ 9223372036854775807 := by simp only [maxLen] at hm; omega
  have hb' : (i0.bytes : Int) * (n : Int) ≤ 281474976710656 := by rw [hz2, ← Int.natCast_mul, Nat.mul_comm]; omega
  have hr := run_make (P := P) w t E i0 z f1 hi hz0 kl kl n n (by omega) (Int.le_refl _) hb' h63'
  simp only [Int.toNat_natCast, hz1] at hr
  exact hr
theorem mkK_own {α : Type} {enc : α → List Value} {k E : Nat} (hk : EncK enc k) (x : α) (z : Array Value) (hz : z.toList = enc x) (n : Nat) (hm : n ≤ maxLen) (w : World) :
    OwnK enc k E w.heap.size (w.alloc (.cells (madeCells z (n * k)) E)) (.slice (some ⟨w.heap.size, 0, none⟩) n n) (List.replicate n x) := by
  have := World.ownsRow_lit (base := w.heap.size) (e := E) (size := k) w (madeCells z (n * k)) n (Nat.le_refl _) hm (size_madeCells _ _)
  unfold OwnK
  rw [List.length_replicate, ← made_flat hk x z hz n]
  exact this
end Go.Proofs.Ytjloaamaelcmaaa
