/- Plain mathematics of a crash: names one by one with new files. -/
import Derived.Test.YtgeofgdhlbmciaaFsSpoil
namespace Go.Proofs.Ytgeofgdhlbmciaa
set_option linter.unusedVariables false
open Go.RowKit
theorem numb_at : ∀ (l : Dir) (s j : Nat), (numb s l)[j]? = (l[j]?).map fun x => (x.1, s + j)
  | [], s, j => by simp [numb]
  | x :: r, s, 0 => by simp [numb]
  | x :: r, s, j + 1 => by
    show (numb (s + 1) r)[j]? = _
    rw [numb_at r (s + 1) j, List.getElem?_cons_succ]
    congr 1
    funext x
    congr 1; omega
/-- the j-th name's file: the new one, if it is told yet -/
def mixF (fb : Nat → Nat) (D : Dir) (g : Nat → Nat) (k j : Nat) : Nat := if j < k then g j else fb (D.getD j (⟨#[]⟩, 0)).2
def mixD (fb : Nat → Nat) (D : Dir) (g : Nat → Nat) (k : Nat) : Dir := dmap (mixF fb D g k) (numb 0 D)
theorem mixD_at (fb : Nat → Nat) (D : Dir) (g : Nat → Nat) (k j : Nat) : (mixD fb D g k)[j]? = (D[j]?).map fun x => (x.1, mixF fb D g k j) := by
  unfold mixD dmap
  rw [List.getElem?_map, numb_at, Option.map_map]
  congr 1
  funext x
  simp
theorem mixD_ok {fb : Nat → Nat} {D : Dir} {g : Nat → Nat} {k : Nat} (h : DirOk D) : DirOk (mixD fb D g k) := dmap_ok (numb_ok D 0 h)
theorem mixD_len (fb : Nat → Nat) (D : Dir) (g : Nat → Nat) (k : Nat) : (mixD fb D g k).length = D.length := by unfold mixD; rw [dmap_len, numb_len]
theorem mixD_start (fb : Nat → Nat) (D : Dir) (g : Nat → Nat) : mixD fb D g 0 = dmap fb D := by
  refine List.ext_getElem? fun j => ?_
  rw [mixD_at]
  unfold dmap
  rw [List.getElem?_map]
  cases hj : D[j]? with
  | none => rfl
  | some x =>
    unfold mixF
    rw [List.getD_eq_getElem?_getD, hj]; rfl
theorem mixD_end (fb : Nat → Nat) (D : Dir) (g : Nat → Nat) : mixD fb D g D.length = dmap g (numb 0 D) := by
  unfold mixD
  refine dmap_congr fun x hx => ?_
  have := numb_bd _ _ _ hx
  unfold mixF
  rw [if_pos (by omega)]
theorem dput_at {n : ByteArray} {v : Nat} : ∀ {l : Dir} {k x : Nat}, DirOk l → l[k]? = some (n, x) → dput n v l = l.set k (n, v)
  | [], k, x, _, h => by simp at h
  | y :: r, 0, x, hok, h => by
    obtain ⟨h1, h2⟩ := List.pairwise_cons.1 hok
    obtain rfl : y = (n, x) := by simpa using h
    unfold dput
    have hr : ddel n ((n, x) :: r) = r := by
      rw [ddel_cons, if_pos rfl]
      refine ddel_self (dget_none.2 fun z hz e => ?_)
      have := h1 z hz
      rw [e] at this
      exact bl_irr _ this
    rw [hr, List.set_cons_zero]
    cases r with
    | nil => rfl
    | cons z r => rw [dins_cons, if_pos (h1 z (List.mem_cons_self ..))]
  | y :: r, k + 1, x, hok, h => by
    obtain ⟨h1, h2⟩ := List.pairwise_cons.1 hok
    rw [List.getElem?_cons_succ] at h
    have ih := dput_at (v := v) h2 h
    have hlt := h1 _ (List.mem_of_getElem? h)
    have hne : y.1 ≠ n := fun e => bl_irr n (by rw [e] at hlt; exact hlt)
    unfold dput at ih ⊢
    rw [ddel_cons, if_neg hne, dins_cons, if_neg (fun hh => bl_irr n (bl_trans hh hlt)), ih, List.set_cons_succ]
theorem mixD_step {fb : Nat → Nat} {D : Dir} {g : Nat → Nat} {k v : Nat} {x : ByteArray × Nat} (h : DirOk D) (hk : D[k]? = some x) : dput x.1 v (mixD fb D g k) = mixD fb D (upN g k v) (k + 1) := by
  have hm := mixD_at fb D g k k
  rw [hk] at hm
  rw [dput_at (mixD_ok h) hm]
  refine List.ext_getElem? fun j => ?_
  have hlt := (List.getElem?_eq_some_iff.1 hk).1
  rw [mixD_at, List.getElem?_set]
  by_cases hj : k = j
  · subst hj
    rw [if_pos rfl, if_pos (by rw [mixD_len]; exact hlt), hk, Option.map_some]
    unfold mixF
    rw [if_pos (Nat.lt_succ_self k), upN_same]
  · rw [if_neg hj, mixD_at]
    congr 1
    funext y
    unfold mixF
    by_cases h1 : j < k
    · rw [if_pos h1, if_pos (by omega), upN_ne _ _ (fun e => hj e.symm)]
    · rw [if_neg h1, if_neg (by omega)]
theorem mixD_get {fb : Nat → Nat} {D : Dir} {g : Nat → Nat} {k : Nat} {x : ByteArray × Nat} (h : DirOk D) (hk : D[k]? = some x) : dget x.1 (mixD fb D g k) = some (fb x.2) := by
  refine (dget_mem (mixD_ok h)).2 ?_
  have hm := mixD_at fb D g k k
  rw [hk] at hm
  have h2 := List.mem_of_getElem? hm
  unfold mixF at h2
  rw [if_neg (Nat.lt_irrefl k), List.getD_eq_getElem?_getD, hk] at h2
  exact h2
theorem crashFiles_at (S : Fs) (n : Int) (tails : List Int) (j : Nat) : (S.crashFiles n tails)[j]? = ((S.left n)[j]?).map fun x => (S.file x.2).crash (tails.getD j 0) := by
  unfold Fs.crashFiles
  rw [List.getElem?_mapIdx]
/-- '[]change' cut: run. -/
theorem sl_hC (W : World) (a : Option Addr) (n cap k : Nat) (hc : k ≤ cap) :
    (Instr.sliceAt 50 (.slice a n cap) none (some (.int .i64 (k : Int))) none).run Try.prog W = .ok (.slice a k cap) W := by
  have hT : Try.prog.underlying 50 = some (.slice (Try.prog.elem 50)) := by kernel_rfl
  have hS : (sizeOf (Try.prog.elem 50)).run Try.prog W = .ok 3 W := by kernel_rfl
  rw [run_sliceAt_slice (h := hT), run_slice_h (w := W) (t := 50) (a := a) (len := n) (cap := cap) (ht := hT) (kh := .i64) (h := k) (h0 := by omega) (h2 := by omega), hS]
  simp [Result.andThen, sliced, map_add0]
end Go.Proofs.Ytgeofgdhlbmciaa
