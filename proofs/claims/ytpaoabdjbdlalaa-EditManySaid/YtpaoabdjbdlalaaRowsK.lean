/- Slices whose elements are structs (k cells each): what may be read, what is the call's own, and append in these words. -/
import Derived.Test.YtpaoabdjbdlalaaSlices
import Derived.Test.YtpaoabdjbdlalaaSrc
import Derived.Test.YtpaoabdjbdlalaaFullApp
namespace Go.Proofs.Ytpaoabdjbdlalaa
set_option linter.unusedVariables false
open Go.RowKit
/-- Each x is laid in k cells. -/
def EncK {α : Type} (enc : α → List Value) (k : Nat) : Prop := ∀ x, (enc x).length = k
/-- v is a slice that reads as xs, k cells each. -/
def RdK {α : Type} (enc : α → List Value) (k : Nat) (w : World) (v : Value) (xs : List α) : Prop :=
  (∃ a cap, v = .slice a 0 cap ∧ xs = []) ∨
  ∃ b off cap, v = .slice (some ⟨b, off, none⟩) xs.length cap ∧ 0 < xs.length ∧ xs.length ≤ cap ∧ cap ≤ maxLen ∧ b < w.heap.size ∧
    ∀ i j x, xs[i]? = some x → j < k → w.cell? ⟨b, off + i * k + j, none⟩ = some ((enc x).getD j undef)
/-- v is a slice of the call's own (blocks from B on) that holds xs. -/
def OwnK {α : Type} (enc : α → List Value) (k E B : Nat) (w : World) (v : Value) (xs : List α) : Prop := w.ownsRow B E k v xs.length (xs.flatMap enc)
theorem flat_lenK {α : Type} {enc : α → List Value} {k : Nat} (hk : EncK enc k) : ∀ xs : List α, (xs.flatMap enc).length = xs.length * k
  | [] => by simp
  | x :: xs => by rw [List.flatMap_cons, List.length_append, hk x, flat_lenK hk xs, List.length_cons, Nat.add_mul]; omega
theorem flat_at {α : Type} {enc : α → List Value} {k : Nat} (hk : EncK enc k) : ∀ (xs : List α) (i j : Nat) (x : α), xs[i]? = some x → j < k → (xs.flatMap enc)[i * k + j]? = (enc x)[j]?
  | [], i, j, x, h, _ => by simp at h
  | y :: xs, 0, j, x, h, hj => by
    simp at h; subst h
    rw [List.flatMap_cons, Nat.zero_mul, Nat.zero_add, List.getElem?_append_left (by rw [hk]; exact hj)]
  | y :: xs, i + 1, j, x, h, hj => by
    rw [List.flatMap_cons, List.getElem?_append_right (by rw [hk, Nat.add_mul]; omega), hk, show (i + 1) * k + j - k = i * k + j by rw [Nat.add_mul]; omega]
    exact flat_at hk xs i j x (by simpa using h) hj
theorem RdK.below {α : Type} {enc : α → List Value} {k : Nat} {w w' : World} {v : Value} {xs : List α} (h : RdK enc k w v xs) (hb : Below w.heap.size w w') : RdK enc k w' v xs := by
  rcases h with h | ⟨b, off, cap, h1, h2, h3, h4, h5, h6⟩
  · exact .inl h
  · exact .inr ⟨b, off, cap, h1, h2, h3, h4, Nat.lt_of_lt_of_le h5 hb.size, fun i j x hx hj => by rw [hb.cell h5]; exact h6 i j x hx hj⟩
theorem OwnK.nil {α : Type} (enc : α → List Value) (k E B : Nat) (w : World) : OwnK enc k E B w (.slice none 0 0) [] := World.ownsRow_nil w B E k
theorem OwnK.blk {α : Type} {enc : α → List Value} {k E B : Nat} {w : World} {v : Value} {xs : List α} (h : OwnK enc k E B w v xs) : (v = .slice none 0 0 ∧ xs = []) ∨
    ∃ g cap cur, v = .slice (some ⟨g, 0, none⟩) xs.length cap ∧ B ≤ g ∧ g < w.heap.size ∧ w.heap[g]? = some (.cells cur E (0, 0)) ∧ xs.length ≤ cap ∧ cap ≤ maxLen ∧ cur.size = cap * k ∧ cur.toList.take (xs.length * k) = xs.flatMap enc := by
  obtain ⟨h1, h2⟩ := h
  rcases h2 with ⟨e1, e2⟩ | ⟨g, cap, cur, e1, e2, e3, e4⟩
  · exact .inl ⟨e1, List.eq_nil_of_length_eq_zero e2⟩
  · refine .inr ⟨g, cap, cur, e1, e2, ?_, e3, e4⟩
    rcases Nat.lt_or_ge g w.heap.size with h | h
    · exact h
    · rw [Array.getElem?_eq_none h] at e3; cases e3
theorem OwnK.below {α : Type} {enc : α → List Value} {k E B : Nat} {w w' : World} {v : Value} {xs : List α} (h : OwnK enc k E B w v xs) (hb : Below w.heap.size w w') : OwnK enc k E B w' v xs := by
  refine ⟨h.1, ?_⟩
  rcases h.blk with ⟨rfl, rfl⟩ | ⟨g, cap, cur, e1, e2, e3, e4, e5⟩
  · exact .inl ⟨rfl, rfl⟩
  · exact .inr ⟨g, cap, cur, e1, e2, by rw [hb.block g e3]; exact e4, e5⟩
theorem OwnK.base {α : Type} {enc : α → List Value} {k E B B' : Nat} {w : World} {v : Value} {xs : List α} (h : OwnK enc k E B w v xs) (hB : B' ≤ B) : OwnK enc k E B' w v xs := by
  refine ⟨h.1, ?_⟩
  rcases h.2 with h2 | ⟨g, cap, cur, e1, e2, e3⟩
  · exact .inl h2
  · exact .inr ⟨g, cap, cur, e1, Nat.le_trans hB e2, e3⟩
theorem OwnK.cell {α : Type} {enc : α → List Value} {k E B : Nat} {w : World} {g n cap : Nat} {xs : List α} (hk : EncK enc k) (h : OwnK enc k E B w (.slice (some ⟨g, 0, none⟩) n cap) xs) (i j : Nat) (x : α) (hx : xs[i]? = some x) (hj : j < k) :
    w.cell? ⟨g, i * k + j, none⟩ = some ((enc x).getD j undef) := by
  rcases h.blk with ⟨e, rfl⟩ | ⟨g', cap', cur, e1, e2, e3, e4, e5, e6, e7, e8⟩
  · simp at hx
  · simp only [Value.slice.injEq, Option.some.injEq, Addr.mk.injEq] at e1
    obtain ⟨⟨rfl, -⟩, -⟩ := e1
    have hi := (List.getElem?_eq_some_iff.1 hx).1
    have hlt : i * k + j < xs.length * k := by
      have : (i + 1) * k ≤ xs.length * k := Nat.mul_le_mul_right k hi
      rw [Nat.add_mul] at this; omega
    have hc : cur[i * k + j]? = some ((enc x).getD j undef) := by
      have h7 : cur.toList[i * k + j]? = (xs.flatMap enc)[i * k + j]? := by
        conv => rhs; rw [← e8]
        rw [List.getElem?_take, if_pos hlt]
      rw [Array.getElem?_toList] at h7
      rw [h7, flat_at hk xs i j x hx hj, List.getD_eq_getElem?_getD, List.getElem?_eq_getElem (by rw [hk]; exact hj)]; rfl
    unfold World.cell?
    simp only [e4, Option.isSome_none, Bool.false_eq_true, if_false]
    exact hc
theorem OwnK.rd {α : Type} {enc : α → List Value} {k E B : Nat} {w : World} {v : Value} {xs : List α} (hk : EncK enc k) (h : OwnK enc k E B w v xs) : RdK enc k w v xs := by
  rcases h.blk with ⟨e1, e2⟩ | ⟨g, cap, cur, e1, e2, e3, e4, e5, e6, e7, e8⟩
  · exact .inl ⟨none, 0, by rw [e1], e2⟩
  · rcases Nat.eq_zero_or_pos xs.length with h0 | h0
    · exact .inl ⟨_, cap, by rw [e1, h0], List.eq_nil_of_length_eq_zero h0⟩
    · refine .inr ⟨g, 0, cap, e1, h0, e5, e6, e3, fun i j x hx hj => ?_⟩
      subst e1
      rw [Nat.zero_add]
      exact h.cell hk i j x hx hj
/-- An element type of k cells. -/
def ElemK (P : Program) (t E k bytes : Nat) (z : Value) : Prop := P.underlying t = some (.slice E) ∧ (P.info? E).map (fun i => (i.zero, i.size, i.bytes)) = some (some z, k, bytes) ∧ z.cells.size = k ∧ 0 < k
theorem RdK.cells {α : Type} {enc : α → List Value} {k : Nat} {w : World} {b off n cap : Nat} {xs : List α} (hk : EncK enc k) (h : RdK enc k w (.slice (some ⟨b, off, none⟩) n cap) xs) : ∀ j u, (xs.flatMap enc)[j]? = some u → w.cell? ((⟨b, off, none⟩ : Addr).add j) = some u := by
  intro j u hj
  rcases h with ⟨_, _, _, rfl⟩ | ⟨b', off', cap', e1, _, _, _, _, e6⟩
  · simp at hj
  · simp only [Value.slice.injEq, Option.some.injEq, Addr.mk.injEq] at e1
    obtain ⟨⟨rfl, rfl, -⟩, -⟩ := e1
    have hlt := (List.getElem?_eq_some_iff.1 hj).1
    rw [flat_lenK hk] at hlt
    have hk0 : 0 < k := by rcases Nat.eq_zero_or_pos k with h | h; · subst h; simp at hlt
                           · exact h
    have hm : j % k < k := Nat.mod_lt j hk0
    have hd : j / k < xs.length := (Nat.div_lt_iff_lt_mul hk0).2 hlt
    have hx : xs[j / k]? = some xs[j / k] := List.getElem?_eq_getElem hd
    have hjk : j / k * k + j % k = j := by rw [Nat.mul_comm]; exact Nat.div_add_mod j k
    have h1 := e6 (j / k) (j % k) _ hx hm
    have h2 := flat_at hk xs (j / k) (j % k) _ hx hm
    rw [hjk, hj] at h2
    rw [add_at, ← hjk, ← Nat.add_assoc, h1, List.getD_eq_getElem?_getD, ← h2]; rfl
theorem ElemK.parts {P : Program} {t E k bytes : Nat} {z : Value} (F : ElemK P t E k bytes z) : P.underlying t = some (.slice E) ∧ z.cells.size = k ∧ 0 < k ∧ ∃ i0, P.info? E = some i0 ∧ i0.zero = some z ∧ i0.size = k ∧ i0.bytes = bytes := by
  obtain ⟨f1, f2, f3, f4⟩ := F
  obtain ⟨i0, hi, hz0, hz1, hz2⟩ := info_parts f2
  exact ⟨f1, f3, f4, i0, hi, hz0, hz1, hz2⟩
/-- 'append(s, us...)' onto a slice of the call's own, from whatever slice that may be read. -/
theorem run_appK {α : Type} {enc : α → List Value} {P : Program} {t E k bytes ty : Nat} {z : Value} (F : ElemK P t E k bytes z) (hk : EncK enc k) {B : Nat} {w : World} {v : Value} {xs : List α} (hown : OwnK enc k E B w v xs) {src : Value} {us : List α} (hs : RdK enc k w src us)
    (h1 : ∀ u ∈ us.flatMap enc, u.oneCell' = true) (hlen : (xs.length + us.length) * bytes ≤ 140737488355328) (hm : xs.length + us.length ≤ maxLen) (hB : B ≤ w.heap.size) :
    ∃ v' w', (Builtin.append_ #[t, t] ty #[v, src]).run P w = .ok v' w' ∧ OwnK enc k E B w' v' (xs ++ us) ∧ Below B w w' := by
  obtain ⟨f1, f3, f4, i0, hi, hz0, hz1, hz2⟩ := F.parts
  have hsome : ∀ (b off m c : Nat), src = .slice (some ⟨b, off, none⟩) m c → m = us.length →
      ∃ v' w', (Builtin.append_ #[t, t] ty #[v, src]).run P w = .ok v' w' ∧ OwnK enc k E B w' v' (xs ++ us) ∧ Below B w w' := by
    rintro b off m c rfl e
    obtain ⟨v', w', g0, g1, g2, -⟩ := run_append_own w B t ty E i0 z k bytes f1 hi hz0 hz1 hz2 f3 f4 v xs.length (xs.flatMap enc) hown ⟨b, off, none⟩ m c (us.flatMap enc) (by rw [flat_lenK hk, e]) (hs.cells hk) h1 (by omega) (by subst e; exact hlen) hB
    refine ⟨v', w', g0, ?_, ?_⟩
    · unfold OwnK; rw [List.length_append, ← e, List.flatMap_append]; exact g1
    · exact (Below.refl B w).grown g2 hB fun k hk => (World.ownsRow.lt hown k hk).1
  have hnone : ∀ c, src = .slice none 0 c → us = [] → ∃ v' w', (Builtin.append_ #[t, t] ty #[v, src]).run P w = .ok v' w' ∧ OwnK enc k E B w' v' (xs ++ us) ∧ Below B w w' := by
    rintro c rfl rfl
    refine ⟨v, w, ?_, by rw [List.append_nil]; exact hown, Below.refl _ _⟩
    rcases hown.blk with ⟨rfl, -⟩ | ⟨g, cap, cur, rfl, -, -, -, hc, -⟩
    · simp [Builtin.append_, run_underlying f1, sizeOf, typeInfo, hi, Builtin.lenOf, Builtin.firstCells]
    · simp [Builtin.append_, run_underlying f1, sizeOf, typeInfo, hi, Builtin.lenOf, Builtin.firstCells, hc, storeCells]
  rcases id hs with ⟨a, cap, e, rfl⟩ | ⟨b, off, cap, e, -⟩
  · cases a with
    | none => exact hnone cap e rfl
    | some ad =>
      subst e
      obtain ⟨v', w', g0, g1, g2, -⟩ := run_append_own w B t ty E i0 z k bytes f1 hi hz0 hz1 hz2 f3 f4 v xs.length (xs.flatMap enc) hown ad 0 cap [] (by simp) (by simp) (by simp) (by simpa using hm) (by simpa using hlen) hB
      refine ⟨v', w', g0, ?_, (Below.refl B w).grown g2 hB fun k hk => (World.ownsRow.lt hown k hk).1⟩
      unfold OwnK; simpa using g1
  · exact hsome b off _ cap e rfl
/-- One element that was just laid as a row of its own. -/
theorem own_oneK {α : Type} {enc : α → List Value} {k E : Nat} (hk : EncK enc k) (w : World) (x : α) : OwnK enc k E w.heap.size (w.alloc (.cells (enc x).toArray E)) (.slice (some ⟨w.heap.size, 0, none⟩) 1 1) [x] := by
  refine ⟨by simp [hk x], .inr ⟨w.heap.size, 1, (enc x).toArray, rfl, Nat.le_refl _, heap_alloc_new .., Nat.le_refl _, by unfold maxLen; omega, by simp [hk x], ?_⟩⟩
  simp only [List.length_singleton, Nat.one_mul, List.flatMap_cons, List.flatMap_nil, List.append_nil]
  exact List.take_of_length_le (by rw [hk x]; exact Nat.le_refl _)
/-- 'append(s, us...)' where s has no room. -/
theorem run_appFK {α : Type} {enc : α → List Value} {P : Program} {t E k bytes ty : Nat} {z : Value} (F : ElemK P t E k bytes z) (hk : EncK enc k) {B : Nat} {w : World} {v : Value} {xs : List α} (hv : RdK enc k w v xs) {a : Option Addr} (hfull : v = .slice a xs.length xs.length) (hnil : a = none → xs = [])
    {src : Value} {us : List α} (hs : RdK enc k w src us) (h0 : us ≠ []) (hlen : (xs.length + us.length) * bytes ≤ 140737488355328) (hm : xs.length + us.length ≤ maxLen) (hB : B ≤ w.heap.size) :
    ∃ v' w', (Builtin.append_ #[t, t] ty #[v, src]).run P w = .ok v' w' ∧ OwnK enc k E B w' v' (xs ++ us) ∧ Below w.heap.size w w' := by
  obtain ⟨f1, f3, f4, i0, hi, hz0, hz1, hz2⟩ := F.parts
  have hup := List.length_pos_iff.2 h0
  obtain ⟨b, off, cap, rfl⟩ : ∃ b off cap, src = .slice (some ⟨b, off, none⟩) us.length cap := by
    rcases hs with ⟨_, _, _, e⟩ | ⟨b, off, cap, e, -⟩
    · exact absurd e h0
    · exact ⟨b, off, cap, e⟩
  have hnews := hs.cells hk
  have hmm : xs.length + us.length ≤ 9223372036854775807 := by simp only [maxLen] at hm; omega
  have lx := flat_lenK hk xs
  have lu := flat_lenK hk us
  have grown : ∀ (need old : Nat), need = xs.length + us.length → OwnK enc k E B (w.drew.alloc (.cells ((xs.flatMap enc).toArray ++ (us.flatMap enc).toArray ++ Builtin.zeroCells z.cells (grownCap w need old E - need)) E)) (.slice (some ⟨w.heap.size, 0, none⟩) need (grownCap w need old E)) (xs ++ us) ∧
      Below w.heap.size w (w.drew.alloc (.cells ((xs.flatMap enc).toArray ++ (us.flatMap enc).toArray ++ Builtin.zeroCells z.cells (grownCap w need old E - need)) E)) := by
    intro need old e
    have hge := grownCap_ge w need old E
    have hcm : grownCap w need old E ≤ maxLen := grownCap_le_maxLen w need old E (by omega)
    refine ⟨⟨flat_lenK hk _, .inr ⟨w.heap.size, grownCap w need old E, _, by rw [List.length_append, ← e], hB, heap_alloc_new w.drew _, by rw [List.length_append]; omega, hcm, ?_, ?_⟩⟩, (Below.refl _ w).drew.alloc (Nat.le_refl _) _⟩
    · simp only [Array.size_append, List.size_toArray, size_zeroCells, f3, lx, lu, ← Nat.add_mul]
      congr 1; omega
    · simp only [Array.toList_append, List.flatMap_append]
      exact List.take_left' (by rw [List.length_append, lx, lu, ← Nat.add_mul, List.length_append])
  cases a with
  | none =>
    obtain rfl := hnil rfl
    subst hfull
    have hr := run_append_nil (P := P) w t ty E i0 z f1 hi hz0 ⟨b, off, none⟩ us.length cap (us.flatMap enc) (by rw [hz1, lu]) hnews (by omega) (by omega) (by rw [hz2]; simp only [List.length_nil, Nat.zero_add] at hlen; omega)
    obtain ⟨g1, g2⟩ := grown us.length 0 (by simp)
    refine ⟨_, _, hr, ?_, ?_⟩
    · simpa using g1
    · simpa using g2
  | some ad =>
    subst hfull
    have hold : ∀ j u, (xs.flatMap enc)[j]? = some u → w.cell? (ad.add j) = some u := by
      rcases id hv with ⟨_, _, _, e⟩ | ⟨b', off', cap', e1, -⟩
      · subst e; intro j u hj; simp at hj
      · simp only [Value.slice.injEq, Option.some.injEq] at e1
        obtain ⟨rfl, -⟩ := e1
        exact hv.cells hk
    have hr := run_append_grow (P := P) w t ty E i0 z f1 hi hz0 ad xs.length xs.length (xs.flatMap enc) (by rw [hz1, lx]) hold ⟨b, off, none⟩ us.length cap (us.flatMap enc) (by rw [hz1, lu]) hnews (by omega) (by omega) (by rw [hz2]; exact growslice_fits (by omega) hlen)
    obtain ⟨g1, g2⟩ := grown (xs.length + us.length) xs.length rfl
    exact ⟨_, _, hr, g1, g2⟩
end Go.Proofs.Ytpaoabdjbdlalaa
