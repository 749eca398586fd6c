/- Rows of keys and values, rows of places; append of one, with what else holds. -/
import Derived.Test.YtmndhmodcglkjaaRowsK2
import Derived.Test.YtmndhmodcglkjaaGrow
import Derived.Test.YtmndhmodcglkjaaUpd
import Derived.Test.YtmndhmodcglkjaaBlkMath
namespace Go.Proofs.Ytmndhmodcglkjaa
set_option linter.unusedVariables false
open Go.RowKit
def encKv (r : Kv) : List Value := [.string ⟨r.k.toArray⟩, .string ⟨r.v.toArray⟩]
theorem encKv_len : EncK encKv 2 := fun _ => rfl
theorem encKv_one (r : Kv) : ∀ u ∈ encKv r, u.oneCell' = true := by
  intro u hu
  unfold encKv at hu
  rcases List.mem_cons.1 hu with rfl | hu
  · rfl
  · rcases List.mem_cons.1 hu with rfl | hu
    · rfl
    · cases hu
def natV (n : Nat) : Value := .int .i64 (n : Int)
def encN (n : Nat) : List Value := [natV n]
theorem encN_len : EncK encN 1 := fun _ => rfl
theorem encN_one (n : Nat) : ∀ u ∈ encN n, u.oneCell' = true := by
  intro u hu
  rcases List.mem_cons.1 hu with rfl | hu
  · rfl
  · cases hu
theorem flat_encN : ∀ l : List Nat, l.flatMap encN = l.map natV
  | [] => rfl
  | n :: l => by rw [List.flatMap_cons, flat_encN l]; rfl
theorem elemK_n : ElemK Try.prog 42 3 1 8 (.int .i64 0) := ⟨Try.underlying42, by kernel_rfl, rfl, by decide⟩
/-- A row of places, read as one of cells. -/
theorem OwnK.places {B : Nat} {w : World} {v : Value} {l : List Nat} (h : OwnK encN 1 3 B w v l) : OwnV 3 B w v (l.map natV) := by
  unfold OwnK at h
  rw [flat_encN] at h
  unfold OwnV
  rw [List.length_map]; exact h
/-- Rows whose cells are of unlike types lie in unlike blocks. -/
theorem type_apart {E E' B B' k k' n n' : Nat} {w : World} {u v : Value} {xs ys : List Value} (h : w.ownsRow B E k v n xs) (h' : w.ownsRow B' E' k' u n' ys) (hne : E ≠ E') : ∀ g, u.ownBlock = some g → v.ownBlock ≠ some g := by
  intro g hg hv
  rcases h.2 with ⟨rfl, -⟩ | ⟨g1, c1, cur1, rfl, -, k1, -⟩
  · cases hv
  · rcases h'.2 with ⟨rfl, -⟩ | ⟨g2, c2, cur2, rfl, -, k2, -⟩
    · cases hg
    · obtain rfl : g1 = g := Option.some.inj hv
      obtain rfl : g2 = g1 := Option.some.inj hg
      rw [k1] at k2
      simp only [Option.some.injEq, Obj.cells.injEq] at k2
      exact hne k2.2.1
/-- 'append(s, x)', x in a row that was just laid: the row, what lies below, what else was written. -/
theorem run_oneK {α : Type} {enc : α → List Value} {P : Program} {t E k bytes ty : Nat} {z : Value} (F : ElemK P t E k bytes z) (hk : EncK enc k) {B : Nat} {w : World} {v : Value} {xs : List α} (h : OwnK enc k E B w v xs) (y : α)
    (h1 : ∀ u ∈ enc y, u.oneCell' = true) (hlen : (xs.length + 1) * bytes ≤ 140737488355328) (hm : xs.length + 1 ≤ maxLen) (hB : B ≤ w.heap.size) :
    ∃ v' w', (Builtin.append_ #[t, t] ty #[v, .slice (some ⟨w.heap.size, 0, none⟩) 1 1]).run P (w.alloc (.cells (enc y).toArray E)) = .ok v' w' ∧ OwnK enc k E B w' v' (xs ++ [y]) ∧ Below B w w' ∧ UpdF (fun g => v.ownBlock = some g) w w' ∧ ∀ g, v'.ownBlock = some g → v.ownBlock = some g ∨ w.heap.size ≤ g := by
  have hal : Below w.heap.size w (w.alloc (.cells (enc y).toArray E)) := (Below.refl _ w).alloc (Nat.le_refl _) _
  have hown : (w.alloc (.cells (enc y).toArray E)).ownsRow 0 E k v xs.length (xs.flatMap enc) := (h.below hal).base (Nat.zero_le _)
  have hcell : ∀ j u, (enc y)[j]? = some u → (w.alloc (.cells (enc y).toArray E)).cell? ((⟨w.heap.size, 0, none⟩ : Addr).add j) = some u := fun j u hj => by
    rw [add_at, Nat.zero_add]
    unfold World.cell?
    rw [heap_alloc_new]
    simpa using hj
  obtain ⟨v', w', g0, g1, g2, g3⟩ := run_appG (ty := ty) F hown ⟨w.heap.size, 0, none⟩ 1 1 (enc y) (by rw [hk y, Nat.one_mul]) hcell h1 hm hlen
  have hwh : ∀ g, v.ownBlock = some g → B ≤ g ∧ g < w.heap.size := fun g hg => by
    rcases h.2 with ⟨rfl, -⟩ | ⟨g1, c1, cur1, rfl, k0, k1, -⟩
    · cases hg
    · obtain rfl : g1 = g := Option.some.inj hg
      exact ⟨k0, (Array.getElem?_eq_some_iff.1 k1).1⟩
  have hup : UpdF (fun g => v.ownBlock = some g) w w' := (UpdF.of hal).then (UpdF.grown (F := fun g => v.ownBlock = some g) g2 fun k hk => hk) fun i hi => .inl hi
  have hnew : ∀ g, v'.ownBlock = some g → v.ownBlock = some g ∨ w.heap.size ≤ g := fun g hg => by
    rcases g3 g hg with h5 | h5
    · exact .inl h5
    · rw [World.size_alloc] at h5; exact .inr (by omega)
  refine ⟨v', w', g0, ?_, hup.below hB fun k hk hv => by have := (hwh k hv).1; omega, hup, hnew⟩
  have g1' : w'.ownsRow 0 E k v' (xs ++ [y]).length ((xs ++ [y]).flatMap enc) := by
    rw [List.length_append, List.flatMap_append]; simpa using g1
  obtain ⟨e1, e2⟩ := g1'
  refine ⟨e1, ?_⟩
  rcases e2 with e2 | ⟨g, cap, cur, e3, e4, e5⟩
  · exact .inl e2
  · refine .inr ⟨g, cap, cur, e3, ?_, e5⟩
    rcases hnew g (by rw [e3]; rfl) with h5 | h5
    · exact (hwh g h5).1
    · omega
/-- 'append(s, x)', x in a row that was just laid (cs: its cells as the walk spells them; H: its block). -/
theorem wp_oneK {α : Type} {enc : α → List Value} {P : Program} {ops : Array Oper} {rest : List Oper} {o : Oper} {a : Act} {w : World} {Q : Exit → Act → World → Prop} {t E k bytes : Nat} {z : Value} (F : ElemK P t E k bytes z) (hk : EncK enc k)
    (s x : Operand) (ho : o.op = .call { callee := .builtin .append, args := #[s, x], argTypes := #[t, t] }) (hw : Region.wanted o (yielded ops a.tmps) = true)
    {B : Nat} {v : Value} {xs : List α} (hs : a.eval s = v) (hown : OwnK enc k E B w v xs) (y : α) (cs : Array Value) (hcs : (enc y).toArray = cs) (H : Nat) (hx : a.eval x = .slice (some ⟨H, 0, none⟩) 1 1)
    (hH : w.heap.size = H) (h1 : ∀ u ∈ enc y, u.oneCell' = true) (hlen : (xs.length + 1) * bytes ≤ 140737488355328) (hm : xs.length + 1 ≤ maxLen) (hB : B ≤ w.heap.size)
    (h : ∀ v' w', OwnK enc k E B w' v' (xs ++ [y]) → Below B w w' → UpdF (fun g => v.ownBlock = some g) w w' → (∀ g, v'.ownBlock = some g → v.ownBlock = some g ∨ w.heap.size ≤ g) → wpList P ops Q rest (a.put o.dst v') w') : wpList P ops Q (o :: rest) a (w.alloc (.cells cs E)) := by
  subst hH hcs
  refine wpList_step fun K hK => ?_
  rw [if_pos hw]
  obtain ⟨v', w', hr, h2, h3, h4, h5⟩ := run_oneK (ty := o.type) F hk hown y h1 hlen hm hB
  unfold Oper.wp execOp
  simp only [ho, resolve, invoke, builtin, Sem.run_bind, Sem.run_pure, Result.andThen_ok, List.map_toArray, List.map_cons, List.map_nil, hs, hx, hr]
  exact hK _ _ (h v' w' h2 h3 h4 h5)
theorem OwnK.kform {α : Type} {enc : α → List Value} {k E B : Nat} {w : World} {v : Value} {xs : List α} (h : OwnK enc k E B w v xs) : ∃ a c, v = .slice a xs.length c ∧ xs.length ≤ c ∧ c ≤ maxLen := by
  rcases h.2 with ⟨e1, e2⟩ | ⟨g, cap, cur, e1, e2, e3, e4, e5, -⟩
  · exact ⟨none, 0, by rw [e1, e2], by omega, by unfold maxLen; omega⟩
  · exact ⟨_, cap, e1, e4, e5⟩
/-- A row of another type holds while one is written. -/
theorem OwnK.beside {α β : Type} {enc : α → List Value} {enc' : β → List Value} {k k' E E' B B' : Nat} {w w' : World} {u v : Value} {xs : List α} {ys : List β} (h : OwnK enc k E B w v xs) (h' : OwnK enc' k' E' B' w u ys) (hne : E ≠ E') (hu : UpdF (fun g => v.ownBlock = some g) w w') : OwnK enc' k' E' B' w' u ys :=
  row_same h' fun g hg => hu.block g (row_lt h' g hg) (type_apart h h' hne g hg)
theorem strCells_bv (s : ByteArray) : Lib.strCells s = s.data.toList.map bv := rfl
/-- 'append(b, s...)', s a text, with the block the new slice lies in. -/
theorem run_appTG {ty : Nat} {w : World} {v : Value} {bs : List UInt8} (hown : OwnB 0 w v bs) (s : ByteArray) (hlen : bs.length + s.size ≤ 140737488355328) :
    ∃ v' w', (Builtin.append_ #[43, 9] ty #[v, .string s]).run Try.prog w = .ok v' w' ∧ OwnB 0 w' v' (bs ++ s.data.toList) ∧ w.grownBy w' v.ownBlock ∧ ∀ g, v'.ownBlock = some g → v.ownBlock = some g ∨ w.heap.size ≤ g := by
  obtain ⟨f1, f2, f3⟩ := elem_u8
  obtain ⟨i0, hi, hz0, hz1, hz2⟩ := info_parts f2
  have hl : (bs.map bv).length = bs.length := List.length_map _
  have fin : ∀ {B : Nat} {v' : Value} {w' : World}, w'.ownsRow B 5 1 v' ((bs.map bv).length + s.size) (bs.map bv ++ Lib.strCells s) → OwnB B w' v' (bs ++ s.data.toList) := fun {B v' w'} h => by
    have e : ((bs ++ s.data.toList).map bv).length = (bs.map bv).length + s.size := by rw [List.length_map, List.length_append, List.length_map, size_toList]
    unfold OwnB OwnV
    rw [e, List.map_append]
    exact h
  have hm : (bs.map bv).length + s.size ≤ maxLen := by unfold maxLen; omega
  rcases hown.2 with ⟨rfl, e2⟩ | ⟨g, cap, cur, rfl, hbg, hg, hnc, hcm, hcs, htake⟩
  · have hn : w.ownsRow w.heap.size 5 1 (.slice none 0 0) (bs.map bv).length (bs.map bv) := ⟨hown.1, .inl ⟨rfl, e2⟩⟩
    obtain ⟨v', w', g0, g1, g2, g3⟩ := Lib.run_append_own_string w w.heap.size 43 9 ty 5 i0 f1 Try.underlying9 hi hz0 hz1 hz2 _ _ _ hn s hm (by omega) (Nat.le_refl _)
    have o := fin g1
    exact ⟨v', w', g0, o.base (Nat.zero_le _), g2, fun x hx => .inr (o.where x hx).1⟩
  · obtain ⟨v', w', g0, g1, g2, g3⟩ := Lib.run_append_own_string w 0 43 9 ty 5 i0 f1 Try.underlying9 hi hz0 hz1 hz2 _ _ _ hown s hm (by omega) (Nat.zero_le _)
    refine ⟨v', w', g0, fin g1, g2, ?_⟩
    by_cases hroom : (bs.map bv).length + s.size ≤ cap
    · have hr := Lib.run_append_room_string (P := Try.prog) w 43 9 ty 5 i0 f1 Try.underlying9 hi hz1 g _ cap cur hg s hroom (by omega)
      rw [hr] at g0
      injection g0 with g0 _
      rw [← g0]
      exact fun x hx => .inl hx
    · have holds : ∀ j u, (bs.map bv)[j]? = some u → w.cell? ((⟨g, 0, none⟩ : Addr).add j) = some u := World.ownsRow.cells hown (g := g) rfl
      have hr := Lib.run_append_grow_string (P := Try.prog) w 43 9 ty 5 i0 _ f1 Try.underlying9 hi hz0 ⟨g, 0, none⟩ (bs.map bv).length cap (bs.map bv) (by rw [hz1]; omega) holds s (by omega) (by omega) (by rw [hz2]; exact growslice_fits (by omega : cap < (bs.map bv).length + s.size) (by omega))
      rw [hr] at g0
      injection g0 with g0 _
      rw [← g0]
      intro x hx
      obtain rfl : w.heap.size = x := Option.some.inj hx
      exact .inr (Nat.le_refl _)
end Go.Proofs.Ytmndhmodcglkjaa
