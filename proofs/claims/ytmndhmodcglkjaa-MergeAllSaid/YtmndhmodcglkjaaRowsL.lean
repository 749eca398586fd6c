/- Rows of rows: slices of slices that came in, or are the call's own and lie in none of some blocks. -/
import Derived.Test.YtmndhmodcglkjaaGrow
import Derived.Test.YtmndhmodcglkjaaUpd
namespace Go.Proofs.Ytmndhmodcglkjaa
set_option linter.unusedVariables false
open Go.RowKit
/-- v is a slice of slices that read as these. -/
def RdLs {α : Type} (enc : α → List Value) (k : Nat) (w : World) (v : Value) (ls : List (List α)) : Prop :=
  ∃ vs : List Value, RdV w v vs ∧ vs.length = ls.length ∧ ∀ (i : Nat) (u : Value) (l : List α), vs[i]? = some u → ls[i]? = some l → RdK enc k w u l
theorem RdLs.below {α : Type} {enc : α → List Value} {k : Nat} {w w' : World} {v : Value} {ls : List (List α)} (h : RdLs enc k w v ls) (hb : Below w.heap.size w w') : RdLs enc k w' v ls := by
  obtain ⟨vs, h1, h2, h3⟩ := h
  exact ⟨vs, h1.below hb, h2, fun i u l hu hl => (h3 i u l hu hl).below hb⟩
theorem RdLs.form {α : Type} {enc : α → List Value} {k : Nat} {w : World} {v : Value} {ls : List (List α)} (h : RdLs enc k w v ls) : ∃ a cap, v = .slice a ls.length cap := by
  obtain ⟨vs, h1, h2, -⟩ := h
  rcases h1 with ⟨a, cap, rfl, e⟩ | ⟨b, off, cap, rfl, -⟩
  · subst e
    exact ⟨a, cap, by rw [← h2]; rfl⟩
  · exact ⟨_, cap, by rw [← h2]⟩
/-- The cell of one of them, and what it holds. -/
theorem RdLs.at {α : Type} {enc : α → List Value} {k : Nat} {w : World} {a : Option Addr} {n cap : Nat} {ls : List (List α)} (h : RdLs enc k w (.slice a n cap) ls) (i : Nat) (l : List α) (hi : ls[i]? = some l) :
    ∃ g off u, a = some ⟨g, off, none⟩ ∧ g < w.heap.size ∧ w.cell? ⟨g, off + i, none⟩ = some u ∧ RdK enc k w u l := by
  obtain ⟨vs, h1, h2, h3⟩ := h
  have hlt : i < vs.length := by rw [h2]; exact (List.getElem?_eq_some_iff.1 hi).1
  have hu : vs[i]? = some vs[i] := List.getElem?_eq_getElem hlt
  rcases h1 with ⟨a', cap', e, rfl⟩ | ⟨b, off, cap', e, -, -, -, hb, hc⟩
  · simp at hlt
  · simp only [Value.slice.injEq] at e
    refine ⟨b, off, vs[i], e.1, hb, ?_, h3 i _ _ hu hi⟩
    rw [hc i hlt, List.getD_eq_getElem?_getD, hu]; rfl
/-- v is a row of the call's own (blocks from B on, none of P) that holds these, each a row of the call's own. -/
def OwnLs {α : Type} (T E : Nat) (enc : α → List Value) (k : Nat) (P : Nat → Prop) (B : Nat) (w : World) (v : Value) (ls : List (List α)) : Prop :=
  ∃ vs : List Value, OwnV T B w v vs ∧ vs.length = ls.length ∧ (∀ g, v.ownBlock = some g → ¬ P g) ∧
    ∀ (i : Nat) (u : Value) (l : List α), vs[i]? = some u → ls[i]? = some l → OwnK enc k E B w u l ∧ ∀ g, u.ownBlock = some g → ¬ P g
theorem OwnLs.nil {α : Type} (T E : Nat) (enc : α → List Value) (k : Nat) (P : Nat → Prop) (B : Nat) (w : World) : OwnLs T E enc k P B w (.slice none 0 0) [] :=
  ⟨[], OwnV.nil _ _ _, rfl, fun g h => (by cases h), fun i u l h => (by simp at h)⟩
theorem OwnLs.form {α : Type} {T E : Nat} {enc : α → List Value} {k : Nat} {P : Nat → Prop} {B : Nat} {w : World} {v : Value} {ls : List (List α)} (h : OwnLs T E enc k P B w v ls) : ∃ a cap, v = .slice a ls.length cap ∧ ls.length ≤ cap ∧ cap ≤ maxLen := by
  obtain ⟨vs, h1, h2, -⟩ := h
  rcases h1.nilOr with ⟨rfl, e⟩ | ⟨g, cap, rfl, -, -, hc, hm⟩
  · subst e
    exact ⟨none, 0, by rw [← h2]; rfl, by rw [← h2]; exact Nat.le_refl _, by unfold maxLen; omega⟩
  · exact ⟨_, cap, by rw [← h2], by omega, hm⟩
theorem OwnLs.out {α : Type} {T E : Nat} {enc : α → List Value} {k : Nat} {P : Nat → Prop} {B : Nat} {w : World} {v : Value} {ls : List (List α)} (h : OwnLs T E enc k P B w v ls) : ∀ g, v.ownBlock = some g → ¬ P g ∧ B ≤ g ∧ g < w.heap.size := by
  obtain ⟨vs, h1, -, h3, -⟩ := h
  exact fun g hg => ⟨h3 g hg, h1.where g hg⟩
theorem OwnLs.rd {α : Type} {T E : Nat} {enc : α → List Value} {k : Nat} (hk : EncK enc k) {P : Nat → Prop} {B : Nat} {w : World} {v : Value} {ls : List (List α)} (h : OwnLs T E enc k P B w v ls) : RdLs enc k w v ls := by
  obtain ⟨vs, h1, h2, -, h4⟩ := h
  exact ⟨vs, h1.rd, h2, fun i u l hu hl => (h4 i u l hu hl).1.rd hk⟩
/-- All but the blocks of P lies as it did. -/
theorem OwnLs.upd {α : Type} {T E : Nat} {enc : α → List Value} {k : Nat} {P P' : Nat → Prop} {B : Nat} {w w' : World} {v : Value} {ls : List (List α)} (h : OwnLs T E enc k P B w v ls) (u : UpdF P w w') (hP : ∀ g, P' g → P g ∨ w.heap.size ≤ g) : OwnLs T E enc k P' B w' v ls := by
  obtain ⟨vs, h1, h2, h3, h4⟩ := h
  refine ⟨vs, row_same h1 fun g hg => u.block g (row_lt h1 g hg) (h3 g hg), h2, fun g hg p => ?_, fun i x l hx hl => ?_⟩
  · rcases hP g p with p | p
    · exact h3 g hg p
    · have := row_lt h1 g hg; omega
  · obtain ⟨k1, k2⟩ := h4 i x l hx hl
    refine ⟨row_same k1 fun g hg => u.block g (row_lt k1 g hg) (k2 g hg), fun g hg p => ?_⟩
    rcases hP g p with p | p
    · exact k2 g hg p
    · have := row_lt k1 g hg; omega
theorem OwnLs.below {α : Type} {T E : Nat} {enc : α → List Value} {k : Nat} {P : Nat → Prop} {B : Nat} {w w' : World} {v : Value} {ls : List (List α)} (h : OwnLs T E enc k P B w v ls) (hb : Below w.heap.size w w') : OwnLs T E enc k P B w' v ls := h.upd (UpdF.of hb) fun g p => .inl p
/-- Rows of unlike types lie apart. -/
theorem row_apart {w : World} {B1 B2 T1 T2 k1 k2 n1 n2 : Nat} {v1 v2 : Value} {xs1 xs2 : List Value} (h1 : w.ownsRow B1 T1 k1 v1 n1 xs1) (h2 : w.ownsRow B2 T2 k2 v2 n2 xs2) (hT : T1 ≠ T2) : ∀ g, v2.ownBlock = some g → v1.ownBlock ≠ some g := by
  intro g hg hv
  rcases h1.2 with ⟨rfl, -⟩ | ⟨g1, c1, cur1, rfl, -, e1, -⟩
  · cases hv
  · rcases h2.2 with ⟨rfl, -⟩ | ⟨g2, c2, cur2, rfl, -, e2, -⟩
    · cases hg
    · obtain rfl : g1 = g := Option.some.inj hv
      obtain rfl : g2 = g1 := Option.some.inj hg
      rw [e1] at e2
      simp only [Option.some.injEq, Obj.cells.injEq] at e2
      exact hT e2.2.1
theorem row_kept {w w' : World} {B E k n : Nat} {v : Value} {xs : List Value} {row : Option Nat} (h : w.ownsRow B E k v n xs) (hg : w.grownBy w' row) (hne : ∀ g, v.ownBlock = some g → row ≠ some g) : w'.ownsRow B E k v n xs :=
  row_same h fun g hg' => hg.block g (row_lt h g hg') (fun e => hne g hg' e.symm)
/-- Another row has grown, of a type that neither has. -/
theorem OwnLs.kept {α : Type} {T E T2 k2 n2 B2 : Nat} {enc : α → List Value} {k : Nat} {P : Nat → Prop} {B : Nat} {w w' : World} {v v2 : Value} {xs2 : List Value} {ls : List (List α)} (h : OwnLs T E enc k P B w v ls) (h2 : w.ownsRow B2 T2 k2 v2 n2 xs2)
    (hT : T2 ≠ T) (hE : T2 ≠ E) (hg : w.grownBy w' v2.ownBlock) : OwnLs T E enc k P B w' v ls := by
  obtain ⟨vs, h1, h3, h4, h5⟩ := h
  exact ⟨vs, row_kept h1 hg (row_apart h2 h1 hT), h3, h4, fun i x l hx hl => ⟨row_kept (h5 i x l hx hl).1 hg (row_apart h2 (h5 i x l hx hl).1 hE), (h5 i x l hx hl).2⟩⟩
/-- 'append(v, x)' onto a row of the call's own, x in a block that was just laid: what block the new one lies in. -/
theorem run_appX {t E k bytes ty : Nat} {z : Value} (F : ElemK Try.prog t E k bytes z) {B : Nat} {w : World} {v : Value} {n : Nat} {xs us : List Value} (h : w.ownsRow B E k v n xs) (hl : us.length = k) (h1 : ∀ u ∈ us, u.oneCell' = true) (hn : n ≤ 1000000) (hbt : bytes ≤ 1000000) (hB : B ≤ w.heap.size) :
    ∃ v' w', (Builtin.append_ #[t, t] ty #[v, .slice (some ⟨w.heap.size, 0, none⟩) 1 1]).run Try.prog (w.alloc (.cells us.toArray E)) = .ok v' w' ∧ w'.ownsRow B E k v' (n + 1) (xs ++ us) ∧ Below B w w' ∧ (w.alloc (.cells us.toArray E)).grownBy w' v.ownBlock ∧ ∀ g, v'.ownBlock = some g → v.ownBlock = some g ∨ w.heap.size ≤ g := by
  have hal : Below w.heap.size w (w.alloc (.cells us.toArray E)) := (Below.refl _ w).alloc (Nat.le_refl _) _
  have hB0 : w.ownsRow 0 E k v n xs := by
    obtain ⟨e1, e2⟩ := h
    exact ⟨e1, e2.imp id fun ⟨g, c, cur, q1, _, q3⟩ => ⟨g, c, cur, q1, Nat.zero_le _, q3⟩⟩
  have hown := row_same hB0 fun g hg => hal.block g (row_lt h g hg)
  have hcell : ∀ j x, us[j]? = some x → (w.alloc (.cells us.toArray E)).cell? ((⟨w.heap.size, 0, none⟩ : Addr).add j) = some x := fun j x hj => by
    rw [add_at, Nat.zero_add]
    unfold World.cell?
    rw [heap_alloc_new]
    simpa using hj
  have hnb : (n + 1) * bytes ≤ 140737488355328 := Nat.le_trans (Nat.mul_le_mul (show n + 1 ≤ 1000001 by omega) hbt) (by decide)
  obtain ⟨v', w', g0, g1, g2, g3⟩ := run_appG (ty := ty) F hown ⟨w.heap.size, 0, none⟩ 1 1 us (by rw [hl, Nat.one_mul]) hcell h1 (by unfold maxLen; omega) hnb
  have hwh : ∀ g, v.ownBlock = some g → B ≤ g := fun g hg => by
    rcases h.2 with ⟨rfl, -⟩ | ⟨g1, c1, cur1, rfl, hb, -⟩
    · cases hg
    · obtain rfl : g1 = g := Option.some.inj hg
      exact hb
  have g3' : ∀ g, v'.ownBlock = some g → v.ownBlock = some g ∨ w.heap.size ≤ g := fun g hg => by
    rcases g3 g hg with h5 | h5
    · exact .inl h5
    · have := hal.size; exact .inr (by omega)
  refine ⟨v', w', g0, ?_, (hal.mono hB).grown g2 (by rw [World.size_alloc]; omega) fun k hk => hwh k hk, g2, g3'⟩
  obtain ⟨e1, e2⟩ := g1
  refine ⟨e1, e2.imp id fun ⟨g, c, cur, q1, _, q3⟩ => ⟨g, c, cur, q1, ?_, q3⟩⟩
  rcases g3' g (by rw [q1]; rfl) with h5 | h5
  · exact hwh g h5
  · omega
/-- the same as a step of a region -/
theorem wp_appX {ops : Array Oper} {rest : List Oper} {o : Oper} {a : Act} {w : World} {Q : Exit → Act → World → Prop} {t E k bytes : Nat} {z : Value} (F : ElemK Try.prog t E k bytes z) (s x : Operand) (ho : o.op = .call { callee := .builtin .append, args := #[s, x], argTypes := #[t, t] }) (hw : Region.wanted o (yielded ops a.tmps) = true)
    {B : Nat} {v : Value} {n : Nat} {xs us : List Value} (hs : a.eval s = v) (h : w.ownsRow B E k v n xs) (H : Nat) (hx : a.eval x = .slice (some ⟨H, 0, none⟩) 1 1) (hH : w.heap.size = H) (hl : us.length = k) (h1 : ∀ u ∈ us, u.oneCell' = true) (hn : n ≤ 1000000) (hbt : bytes ≤ 1000000) (hB : B ≤ w.heap.size)
    (hk : ∀ v' w', w'.ownsRow B E k v' (n + 1) (xs ++ us) → Below B w w' → (w.alloc (.cells us.toArray E)).grownBy w' v.ownBlock → (∀ g, v'.ownBlock = some g → v.ownBlock = some g ∨ w.heap.size ≤ g) → wpList Try.prog ops Q rest (a.put o.dst v') w') : wpList Try.prog ops Q (o :: rest) a (w.alloc (.cells us.toArray E)) := by
  refine wpList_step fun K hK => ?_
  rw [if_pos hw]
  subst hH
  obtain ⟨v', w', hr, h2, h3, h4, h5⟩ := run_appX (ty := o.type) F h hl h1 hn hbt hB
  unfold Oper.wp execOp
  simp only [ho, resolve, invoke, builtin, Sem.run_bind, Sem.run_pure, Result.andThen_ok, List.map_toArray, List.map_cons, List.map_nil, hs, hx, hr]
  exact hK _ _ (hk v' w' h2 h3 h4 h5)
theorem OwnK.form {α : Type} {enc : α → List Value} {k E B : Nat} {w : World} {v : Value} {xs : List α} (h : OwnK enc k E B w v xs) : ∃ a cap, v = .slice a xs.length cap := by
  rcases h.2 with ⟨rfl, e⟩ | ⟨g, cap, cur, rfl, -⟩
  · rw [e]; exact ⟨none, 0, rfl⟩
  · exact ⟨_, cap, rfl⟩
/-- A row comes behind the others. -/
theorem OwnLs.snoc {α : Type} {t T E bytes ty : Nat} {z : Value} (F : ElemK Try.prog t T 1 bytes z) (hTE : T ≠ E) {enc : α → List Value} {k : Nat} {P : Nat → Prop} {B : Nat} {w : World} {v u : Value} {ls : List (List α)} {l : List α} (h : OwnLs T E enc k P B w v ls) (hu : OwnK enc k E B w u l) (hP : ∀ g, u.ownBlock = some g → ¬ P g)
    (hPt : ∀ g, P g → g < w.heap.size) (hn : ls.length ≤ 1000000) (hbt : bytes ≤ 1000000) (hB : B ≤ w.heap.size) :
    ∃ v' w', (Builtin.append_ #[t, t] ty #[v, .slice (some ⟨w.heap.size, 0, none⟩) 1 1]).run Try.prog (w.alloc (.cells #[u] T)) = .ok v' w' ∧ OwnLs T E enc k P B w' v' (ls ++ [l]) ∧ Below B w w' ∧ UpdF (fun g => v.ownBlock = some g) w w' := by
  obtain ⟨vs, h1, h2, h3, h4⟩ := h
  have hone : ∀ x ∈ [u], x.oneCell' = true := by
    intro x hx
    obtain rfl := List.mem_singleton.1 hx
    obtain ⟨a, c, rfl⟩ := hu.form; rfl
  have hal : Below w.heap.size w (w.alloc (.cells #[u] T)) := (Below.refl _ w).alloc (Nat.le_refl _) _
  obtain ⟨v', w', g0, g1, g2, g3, g4⟩ := run_appX (ty := ty) F (us := [u]) h1 rfl hone (by omega) hbt hB
  have hkeep : ∀ {y : Value} {m : List α}, OwnK enc k E B w y m → OwnK enc k E B w' y m := fun {y m} hy => by
    have hy' : OwnK enc k E B (w.alloc (.cells #[u] T)) y m := hy.below hal
    exact row_kept hy' g3 (row_apart (row_same h1 fun g hg => hal.block g (row_lt h1 g hg)) hy' hTE)
  refine ⟨v', w', g0, ⟨vs ++ [u], by unfold OwnV; rw [List.length_append]; exact g1, by simp [h2], fun g hg p => ?_, fun i x y hx hy => ?_⟩, g2, (UpdF.of hal).trans (UpdF.grown g3 fun g hg => hg)⟩
  · rcases g4 g hg with h5 | h5
    · exact h3 g h5 p
    · have := hPt g p; omega
  · rcases Nat.lt_or_ge i vs.length with hi | hi
    · rw [List.getElem?_append_left hi] at hx
      rw [List.getElem?_append_left (by omega)] at hy
      exact ⟨hkeep (h4 i x y hx hy).1, (h4 i x y hx hy).2⟩
    · rw [List.getElem?_append_right hi] at hx
      rw [List.getElem?_append_right (by omega), ← h2] at hy
      have h0' : i - vs.length = 0 := by simpa using (List.getElem?_eq_some_iff.1 hx).1
      rw [h0'] at hx hy
      simp at hx hy
      subst hx hy
      exact ⟨hkeep hu, hP⟩
theorem wp_appL {ops : Array Oper} {rest : List Oper} {o : Oper} {a : Act} {w : World} {Q : Exit → Act → World → Prop} {α : Type} {t T E bytes : Nat} {z : Value} (F : ElemK Try.prog t T 1 bytes z) (hTE : T ≠ E) (s x : Operand) (ho : o.op = .call { callee := .builtin .append, args := #[s, x], argTypes := #[t, t] }) (hw : Region.wanted o (yielded ops a.tmps) = true)
    {enc : α → List Value} {k : Nat} {P : Nat → Prop} {B : Nat} {v u : Value} {ls : List (List α)} {l : List α} (hs : a.eval s = v) (h : OwnLs T E enc k P B w v ls) (hu : OwnK enc k E B w u l) (hP : ∀ g, u.ownBlock = some g → ¬ P g) (hPt : ∀ g, P g → g < w.heap.size) (H : Nat) (hx : a.eval x = .slice (some ⟨H, 0, none⟩) 1 1) (hH : w.heap.size = H)
    (hn : ls.length ≤ 1000000) (hbt : bytes ≤ 1000000) (hB : B ≤ w.heap.size)
    (hk : ∀ v' w', OwnLs T E enc k P B w' v' (ls ++ [l]) → Below B w w' → UpdF (fun g => v.ownBlock = some g) w w' → wpList Try.prog ops Q rest (a.put o.dst v') w') : wpList Try.prog ops Q (o :: rest) a (w.alloc (.cells #[u] T)) := by
  refine wpList_step fun K hK => ?_
  rw [if_pos hw]
  subst hH
  obtain ⟨v', w', hr, h2, h3, h4⟩ := OwnLs.snoc (ty := o.type) F hTE h hu hP hPt hn hbt hB
  unfold Oper.wp execOp
  simp only [ho, resolve, invoke, builtin, Sem.run_bind, Sem.run_pure, Result.andThen_ok, List.map_toArray, List.map_cons, List.map_nil, hs, hx, hr]
  exact hK _ _ (hk v' w' h2 h3 h4)
end Go.Proofs.Ytmndhmodcglkjaa
