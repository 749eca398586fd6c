/- The tables that the law PickLevels makes. -/
import Derived.Test.YtgdmmhdihgajkaaPkBegun
import Derived.Test.YtgdmmhdihgajkaaVerLet
namespace Go.Proofs.Ytgdmmhdihgajkaa
set_option linter.unusedVariables false
open Go.RowKit
def plT (z : Nat → Int) (i : Nat) : Tbf := ⟨(i : Int) + 1, ((1 + i % 4 : Nat) : Int), z i, ltr i, ltr i⟩
def plL (z : Nat → Int) (k : Nat) : List Tbf := (List.range k).map (plT z)
theorem plL_len (z : Nat → Int) (k : Nat) : (plL z k).length = k := by unfold plL; rw [List.length_map, List.length_range]
theorem plL_succ (z : Nat → Int) (k : Nat) : plL z (k + 1) = plL z k ++ [plT z k] := by unfold plL; rw [List.range_succ, List.map_append]; rfl
theorem plL_mem {z : Nat → Int} {k : Nat} {f : Tbf} : f ∈ plL z k ↔ ∃ i, i < k ∧ f = plT z i := by
  unfold plL
  rw [List.mem_map]
  constructor
  · rintro ⟨i, hi, rfl⟩; exact ⟨i, List.mem_range.1 hi, rfl⟩
  · rintro ⟨i, hi, rfl⟩; exact ⟨i, List.mem_range.2 hi, rfl⟩
/-- The bytes of level n among the first k. -/
def plS (z : Nat → Int) (n : Nat) : Nat → Int
  | 0 => 0
  | k + 1 => if n = 1 + k % 4 then plS z n k + z k else plS z n k
/-- The least number of level n among the first k. -/
def plM (k n : Nat) : Int := if 1 ≤ n ∧ n ≤ 4 ∧ n ≤ k then (n : Int) else 0
theorem plM_succ (k n : Nat) : plM (k + 1) n = if n = 1 + k % 4 ∧ plM k n = 0 then (k : Int) + 1 else plM k n := by
  have hk := Nat.mod_lt k (show 0 < 4 by decide)
  have a : plM k n = if 1 ≤ n ∧ n ≤ 4 ∧ n ≤ k then (n : Int) else 0 := rfl
  have b : plM (k + 1) n = if 1 ≤ n ∧ n ≤ 4 ∧ n ≤ k + 1 then (n : Int) else 0 := rfl
  generalize plM k n = A at *
  generalize plM (k + 1) n = B at *
  split at a <;> split at b <;> (split <;> omega)
theorem plS_succ (z : Nat → Int) (n k : Nat) : plS z n (k + 1) = if n = 1 + k % 4 then plS z n k + z k else plS z n k := rfl
theorem plS_bd {z : Nat → Int} (hz : ∀ i, 0 ≤ z i ∧ z i < 20000) (n : Nat) : ∀ k, 0 ≤ plS z n k ∧ plS z n k ≤ 20000 * (k : Int)
  | 0 => by simp [plS]
  | k + 1 => by
    have := plS_bd hz n k
    have := hz k
    unfold plS
    split <;> omega
def plV (z : Nat → Int) (k : Nat) : Ver := ⟨plL z k, 50, 0, 0⟩
theorem ltr_inj {i j : Nat} (hi : i ≤ 100) (hj : j ≤ 100) (h1 : leT (ltr i) (ltr j)) (h2 : leT (ltr j) (ltr i)) : i = j := by
  unfold leT at h1 h2
  rw [bl_ltr hj hi] at h1
  rw [bl_ltr hi hj] at h2
  omega
theorem pl_right {z : Nat → Int} (hz : ∀ i, 0 ≤ z i ∧ z i < 20000) {i : Nat} (hi : i < 12) : ¬ badTb (plT z i) := by
  have := hz i
  unfold badTb badTab plT
  simp only [not_or, ltr_size]
  exact ⟨⟨by omega, by omega⟩, by omega, by omega, by omega, by omega, by omega, by omega, fun h => bl_irr _ h⟩
theorem pl_good {z : Nat → Int} (hz : ∀ i, 0 ≤ z i ∧ z i < 20000) {k : Nat} (hk : k ≤ 12) : GoodV (plV z k) := by
  have hp : ∀ R : Tbf → Tbf → Prop, (∀ i j, i < j → j < k → R (plT z i) (plT z j)) → (plL z k).Pairwise R := fun R h => by
    unfold plL
    rw [List.pairwise_map]
    refine List.Pairwise.imp_of_mem ?_ List.pairwise_lt_range
    intro i j hi hj hij
    exact h i j hij (List.mem_range.1 hj)
  refine ⟨?_, ?_, by show (plL z k).length ≤ 200; rw [plL_len]; omega, fun f hf => ?_, fun f hf => ?_, by simp [plV], by simp [plV], by simp [plV], by simp [plV], by simp [plV], by simp [plV]⟩
  · show ((plL z k).map Tbf.num).Pairwise (· ≠ ·)
    rw [List.pairwise_map]
    refine hp _ fun i j hij hj => ?_
    simp only [plT, ne_eq]
    omega
  · refine hp _ fun i j hij hj => ?_
    intro hc
    exact hc.2.2.2 ((bl_ltr (by omega) (by omega)).2 hij)
  · obtain ⟨i, hi, rfl⟩ := plL_mem.1 hf
    exact pl_right hz (by omega)
  · obtain ⟨i, hi, rfl⟩ := plL_mem.1 hf
    show (i : Int) + 1 < 50
    omega
def plE (z : Nat → Int) (k : Nat) : Edt := ⟨50, 0, 0, plL z k, []⟩
theorem plE_is {z : Nat → Int} (hz : ∀ i, 0 ≤ z i ∧ z i < 20000) {k : Nat} (hk : k ≤ 12) : applyV Ver.new (plE z k) = some (plV z k) := applyV_edit (pl_good hz hk) (List.Perm.refl _)
theorem plE_ok (z : Nat → Int) {k : Nat} (hk : k ≤ 12) : (plE z k).ok := by
  refine ⟨fun f hf => ?_, by show (plL z k).length ≤ _; rw [plL_len]; omega, by simp [plE]⟩
  obtain ⟨i, -, rfl⟩ := plL_mem.1 hf
  exact ⟨ltr_ok _, ltr_ok _⟩
theorem siz_perm {l m : List Tbf} (h : l.Perm m) : (l.map Tbf.siz).sum = (m.map Tbf.siz).sum := by
  induction h with
  | nil => rfl
  | cons x _ ih => rw [List.map_cons, List.map_cons, List.sum_cons, List.sum_cons, ih]
  | swap x y l => simp only [List.map_cons, List.sum_cons]; omega
  | trans _ _ h1 h2 => exact h1.trans h2
theorem pl_siz (z : Nat → Int) (n : Nat) : ∀ k, sizV (n : Int) (plL z k) = plS z n k := by
  intro k
  unfold sizV
  rw [siz_perm (levelV_perm (n : Int) (plL z k))]
  induction k with
  | zero => rfl
  | succ k ih =>
    rw [plL_succ, List.filter_append, List.map_append, List.sum_append, ih]
    rw [plS_succ]
    by_cases h : n = 1 + k % 4
    · rw [if_pos h, List.filter_cons_of_pos (p := fun f : Tbf => decide (f.lvl = (n : Int))) (show decide (((1 + k % 4 : Nat) : Int) = (n : Int)) = true from decide_eq_true (by omega))]
      simp [plT]
    · rw [if_neg h, List.filter_cons_of_neg (p := fun f : Tbf => decide (f.lvl = (n : Int))) (show ¬ decide (((1 + k % 4 : Nat) : Int) = (n : Int)) = true from fun q => by have := of_decide_eq_true q; omega)]
      simp
theorem pl_lv0 (z : Nat → Int) (k : Nat) : levelV 0 (plL z k) = [] := by
  refine List.eq_nil_iff_forall_not_mem.2 fun f hf => ?_
  obtain ⟨hf, h0⟩ := level_mem.1 hf
  obtain ⟨i, -, rfl⟩ := plL_mem.1 hf
  simp only [plT] at h0
  omega
theorem pl_pickL (z : Nat → Int) (k : Nat) : pickL (plL z k) = if 2000 < plS z 1 k then some 1 else if 8000 < plS z 2 k then some 2 else if 32000 < plS z 3 k then some 3 else none := by
  unfold pickL
  rw [pl_lv0, if_neg (by simp)]
  rw [show sizV 1 (plL z k) = plS z 1 k from pl_siz z 1 k, show sizV 2 (plL z k) = plS z 2 k from pl_siz z 2 k, show sizV 3 (plL z k) = plS z 3 k from pl_siz z 3 k]
theorem pl_ins {z : Nat → Int} {k : Nat} (hk : k ≤ 12) {n : Nat} (h1 : 1 ≤ n) (h4 : n ≤ 4) (hne : insV (plL z k) (n : Int) ≠ []) : n ≤ k ∧ insV (plL z k) (n : Int) = [plT z (n - 1)] := by
  have ei : insV (plL z k) (n : Int) = (leastV (levelV (n : Int) (plL z k))).toList := if_neg (by omega)
  rw [ei] at hne ⊢
  cases e : leastV (levelV (n : Int) (plL z k)) with
  | none => rw [e] at hne; exact absurd rfl hne
  | some f =>
    obtain ⟨hf, hl⟩ := level_mem.1 (leastV_mem e)
    obtain ⟨i, hi, rfl⟩ := plL_mem.1 hf
    simp only [plT] at hl
    have hle := leastV_le e (plT z (n - 1)) (level_mem.2 ⟨plL_mem.2 ⟨n - 1, by omega, rfl⟩, by simp only [plT]; omega⟩)
    simp only [plT] at hle
    obtain rfl : i = n - 1 := by omega
    exact ⟨by omega, rfl⟩
theorem pl_over {z : Nat → Int} {k : Nat} (hk : k ≤ 12) {i : Nat} (hi : i < 12) {m : Int} (hm : m ≠ ((1 + i % 4 : Nat) : Int)) : overV m (ltr i) (ltr i) (plL z k) = [] := by
  refine List.eq_nil_iff_forall_not_mem.2 fun f hf => ?_
  obtain ⟨hf, hl, h1, h2⟩ := (over_mem (leT_refl _)).1 hf
  obtain ⟨j, hj, rfl⟩ := plL_mem.1 hf
  obtain rfl := ltr_inj (by omega) (by omega) h1 h2
  exact hm hl.symm
theorem pl_job {z : Nat → Int} {k : Nat} (hk : k ≤ 12) {n : Nat} (h1 : 1 ≤ n) (h3 : n ≤ 3) (h : pickL (plL z k) = some (n : Int)) : n ≤ k ∧ jobN (plL z k) = ⟨(n : Int), [plT z (n - 1)], [], true⟩ ∧ (pickV (plL z k)).isSome = true := by
  obtain ⟨hn, e⟩ := pl_ins hk h1 (by omega) (ins_some h)
  obtain ⟨ej, ek⟩ := job_some h
  refine ⟨hn, ?_, ek⟩
  have hs : spanV [plT z (n - 1)] = (ltr (n - 1), ltr (n - 1)) := rfl
  have hb : belV (plL z k) (n : Int) = [] := by
    unfold belV
    rw [e, hs]
    exact pl_over hk (by omega) (by omega)
  rw [ej]
  unfold jobV
  rw [hb, e, List.append_nil, hs, botV_true (by omega) fun m hm _ => pl_over hk (by omega) (by omega)]
/-- How many bytes a level may have. -/
def plB (n : Nat) : Int := if n = 1 then 2000 else if n = 2 then 8000 else 32000
def plPre (z : Nat → Int) (k n : Nat) : Prop := ∀ m, 1 ≤ m → m < n → ¬ plB m < plS z m k
theorem pl_yes {z : Nat → Int} {k n : Nat} (h1 : 1 ≤ n) (h3 : n ≤ 3) (hp : plPre z k n) (h : plB n < plS z n k) : pickL (plL z k) = some (n : Int) := by
  rw [pl_pickL]
  have p1 : 1 < n → ¬ 2000 < plS z 1 k := fun q => hp 1 (Nat.le_refl _) q
  have p2 : 2 < n → ¬ 8000 < plS z 2 k := fun q => hp 2 (by decide) q
  obtain rfl | rfl | rfl : n = 1 ∨ n = 2 ∨ n = 3 := by omega
  · rw [if_pos (show 2000 < plS z 1 k from h)]; rfl
  · rw [if_neg (p1 (by decide)), if_pos (show 8000 < plS z 2 k from h)]; rfl
  · rw [if_neg (p1 (by decide)), if_neg (p2 (by decide)), if_pos (show 32000 < plS z 3 k from h)]; rfl
theorem pl_no {z : Nat → Int} {k : Nat} (hp : plPre z k 4) : pickL (plL z k) = none := by
  rw [pl_pickL, if_neg (show ¬ 2000 < plS z 1 k from hp 1 (by decide) (by decide)), if_neg (show ¬ 8000 < plS z 2 k from hp 2 (by decide) (by decide)), if_neg (show ¬ 32000 < plS z 3 k from hp 3 (by decide) (by decide))]
theorem plB_at {n : Nat} (h1 : 1 ≤ n) (h3 : n ≤ 3) : (#[Value.int .i64 0, .int .i64 2000, .int .i64 8000, .int .i64 32000] : Array Value)[n]? = some (.int .i64 (plB n)) := by
  obtain rfl | rfl | rfl : n = 1 ∨ n = 2 ∨ n = 3 := by omega
  all_goals rfl
end Go.Proofs.Ytgdmmhdihgajkaa
