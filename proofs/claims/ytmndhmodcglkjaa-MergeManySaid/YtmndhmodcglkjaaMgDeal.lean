/- Numbers dealt over six lists, and put together again: plain mathematics; the six lists in memory. -/
import Derived.Test.YtmndhmodcglkjaaMgNm
import Derived.Laws.OwnMore
import Derived.Deep.OwnRows
namespace Go.Proofs.Ytmndhmodcglkjaa
set_option linter.unusedVariables false
set_option maxRecDepth 100000
open Go.RowKit
theorem ltr2_step : ∀ i, i < 130 → bl (ltr2 i) (ltr2 (i + 1)) := by decide +kernel
theorem ltr2_lt {i j : Nat} (h : i < j) (hj : j ≤ 130) : bl (ltr2 i) (ltr2 j) := by
  obtain ⟨d, rfl⟩ : ∃ d, j = i + d + 1 := ⟨j - i - 1, by omega⟩
  clear h
  induction d with
  | zero => exact ltr2_step i (by omega)
  | succ d ih => exact bl_trans (ih (by omega)) (ltr2_step (i + d + 1) (by omega))
def eDl (d : Nat → Nat) (j : Nat) : Ent := ⟨ltr2 j, (d j : Int), 0, ⟨#[]⟩, ⟨#[]⟩⟩
def lsD (d : Nat → Nat) : Nat → List (List Ent)
  | 0 => List.replicate 6 []
  | i + 1 => (lsD d i).set (d i) ((lsD d i).getD (d i) [] ++ [eDl d i])
def allD (d : Nat → Nat) (n : Nat) : List Ent := (List.range n).map (eDl d)
theorem lsD_len (d : Nat → Nat) : ∀ i, (lsD d i).length = 6
  | 0 => by simp [lsD]
  | i + 1 => by rw [lsD, List.length_set, lsD_len d i]
theorem allD_next (d : Nat → Nat) (n : Nat) : allD d (n + 1) = allD d n ++ [eDl d n] := by unfold allD; rw [List.range_succ, List.map_append]; rfl
theorem allD_len (d : Nat → Nat) (n : Nat) : (allD d n).length = n := by simp [allD]
theorem allD_at (d : Nat → Nat) {n i : Nat} (h : i < n) : (allD d n)[i]? = some (eDl d i) := by unfold allD; rw [List.getElem?_map, List.getElem?_range h]; rfl
theorem set_flat {α : Type} {ls : List (List α)} {k : Nat} (hk : k < ls.length) (x : α) : (ls.set k (ls.getD k [] ++ [x])).flatten.Perm (ls.flatten ++ [x]) := by
  have e1 : ls = ls.take k ++ ls.getD k [] :: ls.drop (k + 1) := by
    conv => lhs; rw [← List.take_append_drop k ls, List.drop_eq_getElem_cons hk]
    rw [List.getD_eq_getElem?_getD, List.getElem?_eq_getElem hk]; rfl
  rw [List.set_eq_take_append_cons_drop, if_pos hk]
  conv => rhs; rw [e1]
  simp only [List.flatten_append, List.flatten_cons, List.append_assoc]
  refine List.Perm.append_left _ (List.Perm.append_left _ ?_)
  exact List.perm_append_comm
theorem lsD_perm (d : Nat → Nat) (hd : ∀ j, d j < 6) : ∀ i, (lsD d i).flatten.Perm (allD d i)
  | 0 => by simp [lsD, allD]
  | i + 1 => by
    rw [lsD, allD_next]
    exact (set_flat (by rw [lsD_len]; exact hd i) _).trans ((lsD_perm d hd i).append_right _)
theorem eDl_lt (d : Nat → Nat) {i j : Nat} (h : i < j) (hj : j ≤ 130) : ltE (eDl d i) (eDl d j) := .inl (ltr2_lt h hj)
theorem lsD_srt (d : Nat → Nat) : ∀ i, i ≤ 130 → ∀ l, l ∈ lsD d i → SrtW l ∧ ∀ x, x ∈ l → ∃ j, j < i ∧ x = eDl d j
  | 0, _, l, hl => by
    simp [lsD] at hl
    subst hl
    exact ⟨List.Pairwise.nil, fun x hx => by cases hx⟩
  | i + 1, hi, l, hl => by
    have old : ∀ m, m ∈ lsD d i → SrtW m ∧ ∀ x, x ∈ m → ∃ j, j < i + 1 ∧ x = eDl d j := fun m hm => by
      obtain ⟨h1, h2⟩ := lsD_srt d i (by omega) m hm
      exact ⟨h1, fun x hx => by obtain ⟨j, hj, e⟩ := h2 x hx; exact ⟨j, by omega, e⟩⟩
    rcases List.mem_or_eq_of_mem_set hl with h | rfl
    · exact old l h
    · have hg : SrtW ((lsD d i).getD (d i) []) ∧ ∀ x, x ∈ (lsD d i).getD (d i) [] → ∃ j, j < i ∧ x = eDl d j := by
        rw [List.getD_eq_getElem?_getD]
        cases e : (lsD d i)[d i]? with
        | none => exact ⟨List.Pairwise.nil, fun x hx => by cases hx⟩
        | some m => exact lsD_srt d i (by omega) m (List.mem_of_getElem? e)
      refine ⟨List.pairwise_append.2 ⟨hg.1, by simp, fun a ha b hb => ?_⟩, fun x hx => ?_⟩
      · obtain ⟨j, hj, rfl⟩ := hg.2 a ha
        rw [List.mem_singleton.1 hb]
        exact ltE_asym (eDl_lt d hj (by omega))
      · rcases List.mem_append.1 hx with hx | hx
        · obtain ⟨j, hj, e⟩ := hg.2 x hx
          exact ⟨j, by omega, e⟩
        · exact ⟨i, by omega, List.mem_singleton.1 hx⟩
theorem allD_srt (d : Nat → Nat) : ∀ n, n ≤ 130 → SrtW (allD d n)
  | 0, _ => List.Pairwise.nil
  | n + 1, hn => by
    rw [allD_next]
    refine List.pairwise_append.2 ⟨allD_srt d n (by omega), by simp, fun a ha b hb => ?_⟩
    obtain ⟨j, hj, rfl⟩ := List.mem_map.1 ha
    rw [List.mem_singleton.1 hb]
    exact ltE_asym (eDl_lt d (List.mem_range.1 hj) (by omega))
theorem mrg_dealt (d : Nat → Nat) (hd : ∀ j, d j < 6) (n : Nat) (hn : n ≤ 130) : mrgL (lsD d n).flatten = allD d n := by
  have hp : (mrgL (lsD d n).flatten).Perm (allD d n) := (mrgL_perm _).trans (lsD_perm d hd n)
  refine List.Perm.eq_of_pairwise (le := fun a b => ¬ ltE b a) (fun a b ha hb h1 h2 => ?_) (mrgL_srt _) (allD_srt d n hn) hp
  obtain ⟨i, hi, rfl⟩ := List.mem_map.1 (hp.mem_iff.1 ha)
  obtain ⟨j, hj, rfl⟩ := List.mem_map.1 hb
  have hi' := List.mem_range.1 hi
  have hj' := List.mem_range.1 hj
  rcases Nat.lt_trichotomy i j with k | rfl | k
  · exact absurd (eDl_lt d k (by omega)) h2
  · rfl
  · exact absurd (eDl_lt d k (by omega)) h1
theorem lsD_tot (d : Nat → Nat) (hd : ∀ j, d j < 6) (n : Nat) : (lsD d n).flatten.length = n := by rw [(lsD_perm d hd n).length_eq, allD_len]
/-- Six lists of the call's own, each in a block of its own. -/
structure DealW (B : Nat) (w : World) (g : Nat) (vs : List Value) (ls : List (List Ent)) : Prop where
  row : OwnV 24 B w (.slice (some ⟨g, 0, none⟩) 6 6) vs
  vl : vs.length = 6
  ll : ls.length = 6
  own : ∀ (i : Nat) (u : Value) (l : List Ent), vs[i]? = some u → ls[i]? = some l → OwnK encEnt 5 28 B w u l
  ap : ∀ (i j : Nat) (u u' : Value) (b : Nat), vs[i]? = some u → vs[j]? = some u' → i ≠ j → u.ownBlock = some b → u'.ownBlock ≠ some b
section
variable {B g k : Nat} {w w' wq : World} {vs : List Value} {ls : List (List Ent)} {v v' : Value} {e : Ent} {l : List Ent}
theorem DealW.below (h : DealW B w g vs ls) (u : Below w.heap.size w w') : DealW B w' g vs ls :=
  ⟨h.row.below u, h.vl, h.ll, fun i x l hx hl => (h.own i x l hx hl).below u, h.ap⟩
theorem DealW.rowBlk (h : DealW B w g vs ls) : B ≤ g ∧ ∃ cs, BlkAt w g cs 24 := by
  rcases h.row.2 with ⟨e, _⟩ | ⟨g', c', cur, e1, e2, e3, e4, e5, e6, e7⟩
  · cases e
  · simp only [Value.slice.injEq, Option.some.injEq, Addr.mk.injEq] at e1
    obtain ⟨⟨rfl, -, -⟩, -, -⟩ := e1
    exact ⟨e2, cur, e3⟩
theorem DealW.rd (h : DealW B w g vs ls) : RdLs encEnt 5 w (.slice (some ⟨g, 0, none⟩) 6 6) ls :=
  ⟨vs, h.row.rd, by rw [h.vl, h.ll], fun i u l hu hl => (h.own i u l hu hl).rd encEnt_len⟩
theorem DealW.cell (h : DealW B w g vs ls) (hk : k < 6) : ∃ u, vs[k]? = some u ∧ w.cell? ⟨g, k, none⟩ = some u := by
  have hlt : k < vs.length := by rw [h.vl]; exact hk
  refine ⟨vs[k], List.getElem?_eq_getElem hlt, ?_⟩
  obtain ⟨g', off, e, -, hc⟩ := rdV_one h.row.rd k vs[k] (List.getElem?_eq_getElem hlt)
  cases e
  rwa [Nat.zero_add] at hc
/-- An entry comes behind the list k, whose slice is stored. -/
theorem DealW.put (h : DealW B w g vs ls) (hv : vs[k]? = some v) (hl : ls[k]? = some l) (o : OwnK encEnt 5 28 B wq v' (l ++ [e])) (b : Below B w wq) (u : UpdF (fun b => v.ownBlock = some b) w wq) (hn : ∀ b, v'.ownBlock = some b → v.ownBlock = some b ∨ w.heap.size ≤ b) :
    DealW B (wq.setCell ⟨g, k, none⟩ v') g (vs.set k v') (ls.set k (l ++ [e])) ∧ Below B w (wq.setCell ⟨g, k, none⟩ v') := by
  obtain ⟨hB, cs, hg⟩ := h.rowBlk
  have hk : k < vs.length := (List.getElem?_eq_some_iff.1 hv).1
  have hgq : BlkAt wq g cs 24 := (u.block g hg.lt (fun e => by
    rcases (h.own k v l hv hl).blk with ⟨rfl, -⟩ | ⟨g1, cap, cur, rfl, -, -, k4, -⟩
    · cases e
    · obtain rfl : g1 = g := Option.some.inj e
      unfold BlkAt at hg; rw [k4] at hg; cases hg)).trans hg
  have hrow : OwnV 24 B wq (.slice (some ⟨g, 0, none⟩) 6 6) vs := row_same h.row fun b hb => by
    obtain rfl : g = b := Option.some.inj hb
    exact hgq.trans hg.symm
  have keep : ∀ {x : Value} {m : List Ent}, OwnK encEnt 5 28 B wq x m → OwnK encEnt 5 28 B (wq.setCell ⟨g, k, none⟩ v') x m := fun {x m} hx => row_same hx fun b hb => Below.heap_setCell _ _ _ _ (by
    rintro rfl
    rcases hx.blk with ⟨rfl, -⟩ | ⟨g1, cap, cur, rfl, -, -, k4, -⟩
    · cases hb
    · obtain rfl : g1 = b := Option.some.inj hb
      unfold BlkAt at hgq; rw [k4] at hgq; cases hgq)
  refine ⟨⟨hrow.setAt k v', by rw [List.length_set]; exact h.vl, by rw [List.length_set]; exact h.ll, fun i x m hx hm => ?_, fun i j x x' b hx hx' hne hb hb' => ?_⟩, b.setCell hB _⟩
  · rw [List.getElem?_set] at hx hm
    by_cases e1 : k = i
    · subst e1
      have hkl : k < ls.length := by rw [h.ll]; have := h.vl; omega
      simp only [if_true, hk, hkl, Option.some.injEq] at hx hm
      subst hx hm
      exact keep o
    · rw [if_neg e1] at hx hm
      refine keep (row_same (h.own i x m hx hm) fun b hb => u.block b (row_lt (h.own i x m hx hm) b hb) fun e => ?_)
      exact h.ap k i v x b hv hx e1 e hb
  · rw [List.getElem?_set] at hx hx'
    by_cases e1 : k = i
    · subst e1
      rw [if_neg hne] at hx'
      simp only [if_true, hk, Option.some.injEq] at hx
      subst hx
      have hj : j < ls.length := by rw [h.ll]; have := (List.getElem?_eq_some_iff.1 hx').1; have := h.vl; omega
      rcases hn b hb with e | e
      · exact h.ap k j v x' b hv hx' hne e hb'
      · have := row_lt (h.own j x' ls[j] hx' (List.getElem?_eq_getElem hj)) b hb'
        omega
    · rw [if_neg e1] at hx
      by_cases e2 : k = j
      · subst e2
        simp only [if_true, hk, Option.some.injEq] at hx'
        subst hx'
        have hi : i < ls.length := by rw [h.ll]; have := (List.getElem?_eq_some_iff.1 hx).1; have := h.vl; omega
        rcases hn b hb' with e | e
        · exact h.ap k i v x b hv hx e1 e hb
        · have := row_lt (h.own i x ls[i] hx (List.getElem?_eq_getElem hi)) b hb
          omega
      · rw [if_neg e2] at hx'
        exact h.ap i j x x' b hx hx' hne hb hb'
theorem deal_make (w : World) : ∃ w', (Instr.makeSlice 22 (.int .i64 6) (.int .i64 6)).run Try.prog w = .ok (.slice (some ⟨w.heap.size, 0, none⟩) 6 6) w' ∧ DealW w.heap.size w' w.heap.size (List.replicate 6 (.slice none 0 0)) (List.replicate 6 []) ∧ Below w.heap.size w w' := by
  obtain ⟨f1, f3, f4, i0, hi, hz0, hz1, hz2⟩ := elemK_ll.parts
  have hr := run_make (P := Try.prog) w _ _ i0 _ f1 hi hz0 .i64 .i64 6 6 (by omega) (by omega) (by rw [hz2]; omega) (by omega)
  rw [hz1] at hr
  have hm : madeCells (Value.slice none 0 0).cells ((6 : Int).toNat * 1) = #[.slice none 0 0, .slice none 0 0, .slice none 0 0, .slice none 0 0, .slice none 0 0, .slice none 0 0] := by
    apply Array.toList_inj.1
    rw [show (Value.slice none 0 0).cells = #[.slice none 0 0] from rfl, show (6 : Int).toNat * 1 = 6 from rfl, toList_madeCells_one]; rfl
  rw [hm] at hr
  refine ⟨_, hr, ⟨?_, rfl, rfl, fun i u l hu hl => ?_, fun i j u u' b hu hu' hne hb => ?_⟩, (Below.refl _ w).alloc (Nat.le_refl _) _⟩
  · exact World.ownsRow_lit (base := w.heap.size) (e := 24) (size := 1) w #[.slice none 0 0, .slice none 0 0, .slice none 0 0, .slice none 0 0, .slice none 0 0, .slice none 0 0] 6 (Nat.le_refl _) (by unfold maxLen; omega) rfl
  · have e1 := List.eq_of_mem_replicate (List.mem_of_getElem? hu)
    have e2 := List.eq_of_mem_replicate (List.mem_of_getElem? hl)
    subst e1 e2
    exact OwnK.nil _ _ _ _ _
  · have e1 := List.eq_of_mem_replicate (List.mem_of_getElem? hu)
    subst e1; cases hb
end
end Go.Proofs.Ytmndhmodcglkjaa
