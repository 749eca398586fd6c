/- Plain mathematics of the law TableMany: its names, its list, how many blocks it comes to. -/
import Derived.Test.YtennpdhnjaemeaaDoorTblMade
import Derived.Test.YtennpdhnjaemeaaDoorTblFro
import Derived.Test.YtennpdhnjaemeaaDoorMEnt
namespace Go.Proofs.YtennpdhnjaemeaaDoor
set_option linter.unusedVariables false
set_option maxRecDepth 100000
open Go.RowKit
/-- A text by a number. -/
def nmL (i : Nat) : List UInt8 := [107, UInt8.ofNat (97 + i / 26 % 26), UInt8.ofNat (97 + i % 26)]
def nmK (i : Nat) : ByteArray := ⟨(nmL i).toArray⟩
theorem nmK_size (i : Nat) : (nmK i).size = 3 := rfl
theorem nmL_step : ∀ i, i < 240 → nmL i < nmL (i + 1) := by decide +kernel
theorem nmK_lt {i j : Nat} (h : i < j) (hj : j ≤ 240) : bl (nmK i) (nmK j) := by
  obtain ⟨d, rfl⟩ : ∃ d, j = i + d + 1 := ⟨j - i - 1, by omega⟩
  clear h
  induction d with
  | zero => exact nmL_step i (by omega)
  | succ d ih => exact bl_trans (ih (by omega)) (nmL_step (i + d + 1) (by omega))
theorem nmK_inj {i j : Nat} (hi : i ≤ 240) (hj : j ≤ 240) (h : nmK i = nmK j) : i = j := by
  rcases Nat.lt_trichotomy i j with k | k | k
  · have := nmK_lt k hj; rw [h] at this; exact absurd this (bl_irr _)
  · exact k
  · have := nmK_lt k hi; rw [h] at this; exact absurd this (bl_irr _)
/-- A text of zeros. -/
def zrT (n : Nat) : ByteArray := ⟨(List.replicate n (0 : UInt8)).toArray⟩
theorem zrT_size (n : Nat) : (zrT n).size = n := by show (List.replicate n (0 : UInt8)).toArray.size = n; simp
/-- The law's entries. -/
def mE (S i : Nat) : Ent := ⟨nmK (2 * i), ((i + 1 : Nat) : Int), 1, nmK (2 * i), zrT S⟩
def mL (S n : Nat) : List Ent := (List.range n).map (mE S)
theorem mL_len (S n : Nat) : (mL S n).length = n := by unfold mL; rw [List.length_map, List.length_range]
theorem mL_at {S n i : Nat} (h : i < n) : (mL S n)[i]? = some (mE S i) := by
  unfold mL
  rw [List.getElem?_map, List.getElem?_range h]; rfl
theorem mL_get {S n i : Nat} {e : Ent} (h : (mL S n)[i]? = some e) : i < n ∧ e = mE S i := by
  have hi : i < n := by have := (List.getElem?_eq_some_iff.1 h).1; rwa [mL_len] at this
  rw [mL_at hi] at h
  exact ⟨hi, (Option.some.inj h).symm⟩
theorem mL_snoc (S n : Nat) : mL S (n + 1) = mL S n ++ [mE S n] := by
  unfold mL
  rw [List.range_succ, List.map_append]; rfl
theorem mE_lt {S i j : Nat} (h : i < j) (hj : j ≤ 120) : bl (mE S i).norm (mE S j).norm := nmK_lt (by omega) (by omega)
theorem mL_are {S n : Nat} (h1 : 1 ≤ n) (h2 : n ≤ 120) : AreP (mL S n) := by
  refine ⟨fun h => ?_, (srtB_pair _).2 (List.pairwise_iff_getElem.2 fun i j hi hj hij => ?_), fun i e he => ⟨?_, fun j d hj hd hh => ?_⟩⟩
  · have := congrArg List.length h
    rw [mL_len] at this
    simp at this
    omega
  · obtain ⟨k1, e1⟩ := mL_get (List.getElem?_eq_getElem hi)
    obtain ⟨k2, e2⟩ := mL_get (List.getElem?_eq_getElem hj)
    rw [e1, e2]
    exact .inl (mE_lt hij (by omega))
  · obtain ⟨k1, rfl⟩ := mL_get he
    refine ⟨?_, ?_, ?_⟩
    · show 1 ≤ ((i + 1 : Nat) : Int); omega
    · show ((i + 1 : Nat) : Int) ≤ _; omega
    · exact .inl rfl
  · subst hj
    obtain ⟨k1, rfl⟩ := mL_get he
    obtain ⟨k2, rfl⟩ := mL_get hd
    have h3 := mE_lt (S := S) (Nat.lt_succ_self j) (by omega)
    rw [← hh.1] at h3
    exact bl_irr _ h3
theorem mL_fit {S : Nat} (hS : S ≤ 60) (n : Nat) : ∀ e ∈ mL S n, FitE 60 e := fun e he => by
  unfold mL at he
  obtain ⟨j, -, rfl⟩ := List.mem_map.1 he
  exact ⟨(by decide : (3 : Nat) ≤ 60), (by decide : (3 : Nat) ≤ 60), by show (zrT S).size ≤ 60; rw [zrT_size]; exact hS⟩
theorem mL_find {S n i : Nat} (hn : n ≤ 120) (hi : i < n) : findE (mL S n) (nmK (2 * i)) 1125899906842624 = some (mE S i) := by
  refine find_some (mL_at hi) ⟨rfl, ?_⟩ fun j y hj hy hh => ?_
  · show ((i + 1 : Nat) : Int) ≤ _; omega
  · obtain ⟨k1, rfl⟩ := mL_get hy
    have := nmK_inj (i := 2 * j) (j := 2 * i) (by omega) (by omega) hh.1
    omega
theorem mL_none {S n i : Nat} (hn : n ≤ 120) (hi : i < n) (q : Int) : findE (mL S n) (nmK (2 * i + 1)) q = none := find_none fun j y hy hh => by
  obtain ⟨k1, rfl⟩ := mL_get hy
  have := nmK_inj (i := 2 * j) (j := 2 * i + 1) (by omega) (by omega) hh.1
  omega
theorem mL_from {S n i : Nat} (hn : n ≤ 120) (hi : i < n) : (fromE (mL S n) (nmK (2 * i + 1))).length = n - 1 - i := by
  rw [← fromE_at (k := i + 1) (by rw [mL_len]; omega) (fun j e hj he => ?_) (fun e he hb => ?_), List.length_drop, mL_len]
  · omega
  · obtain ⟨k1, rfl⟩ := mL_get he
    exact nmK_lt (by omega) (by omega)
  · obtain ⟨k1, rfl⟩ := mL_get he
    exact bl_irr _ (bl_trans hb (nmK_lt (i := 2 * i + 1) (j := 2 * (i + 1)) (by omega) (by omega)))
theorem mE_ver (S i : Nat) : 7 + S ≤ (verB (mE S i)).length := by
  have h1 := (putN_len (mE S i).seq.toNat).1
  have h2 := (putN_len (mE S i).kind.toNat).1
  have h3 := (putN_len (mE S i).spell.data.toList.length).1
  have h4 := (putN_len (mE S i).val.data.toList.length).1
  have h5 : (mE S i).spell.data.toList.length = 3 := rfl
  have h6 : (mE S i).val.data.toList.length = S := by show (List.replicate S (0 : UInt8)).length = S; simp
  rw [verB_len, textE_len, textE_len]; omega
theorem mL_ver (S : Nat) : ∀ m, m * (7 + S) ≤ (verG (mL S m)).length
  | 0 => by rw [Nat.zero_mul]; exact Nat.zero_le _
  | m + 1 => by
    have h1 := mL_ver S m
    have h2 := mE_ver S m
    have e : verG [mE S m] = verB (mE S m) := by unfold verG; simp
    rw [mL_snoc, verG_app, List.length_append, Nat.succ_mul, e]
    omega
/-- Many entries come to two blocks or more. -/
theorem mL_blocks {S n : Nat} {ps : List (List (List Ent))} {ss : List ByteArray} (hS : S ≤ 60) (h : MadeT (mL S n) ps ss) (hn : 1000 < n * (S + 10)) : 2 ≤ ps.length := by
  have h0 := List.length_pos_iff.2 h.psne
  rcases Nat.lt_or_ge ps.length 2 with h2 | h2
  · exfalso
    obtain ⟨gs, rfl⟩ := List.length_eq_one_iff.1 (show ps.length = 1 by omega)
    have h3 := h.tb.flat
    have h4 : gs.flatten = mL S n := by simpa using h3
    have h5 := (h.tb.pcs gs (by simp)).few
    unfold FewB at h5
    rw [h4] at h5
    obtain ⟨m, rfl⟩ : ∃ m, n = m + 1 := ⟨n - 1, by
      rcases Nat.eq_zero_or_pos n with rfl | h
      · rw [Nat.zero_mul] at hn; omega
      · omega⟩
    rw [mL_snoc, List.dropLast_concat] at h5
    have h6 := mL_ver S m
    rw [Nat.mul_add] at h6
    rw [Nat.add_mul, Nat.mul_add] at hn
    generalize m * S = P at *
    omega
  · exact h2
end Go.Proofs.YtennpdhnjaemeaaDoor
