/- wal.Name: the name of a log's file. -/
import Derived.Test.YtjhkfjbgdaomeaaGreatDoorWalLays
import Derived.Test.YtjhkfjbgdaomeaaGreatDoorDecMath
import Derived.Test.YtjhkfjbgdaomeaaGreatDoorMBase
import Derived.RegionTactic
import Derived.Deep.QuietTactic
import Derived.BigQuiet
namespace Go.Proofs.YtjhkfjbgdaomeaaGreatDoor
set_option linter.unusedVariables false
open Go.RowKit Go.Shelf
def dotLog : ByteArray := ⟨#[46, 108, 111, 103]⟩
def logName (u : Nat) : ByteArray := ⟨(Lib.decDigits u).toArray⟩ ++ dotLog
theorem fmt_small (i : Nat) (hi : i < 100) (w : World) : Calls Tryz.prog 42 #[.int .i64 (i : Int), .int .i64 10] w fun e w' => e = .returned (.string ⟨(Lib.decDigits i).toArray⟩) ∧ w' = w :=
  Any.strconv_FormatInt_10_small { fmtI with } i hi w
set_option maxHeartbeats 1000000 in
theorem walname_of (n : Int) (i : Nat) (hD : (Lib.decDigits i).length ≤ 1000000) (w : World) (HF : Hid (Calls Tryz.prog 42 #[.int .i64 n, .int .i64 10] w fun e w' => e = .returned (.string ⟨(Lib.decDigits i).toArray⟩) ∧ Below w.heap.size w w')) :
    Calls Tryz.prog 21 #[.int .i64 n] w fun e w' => e = .returned (.string (logName i)) ∧ Below w.heap.size w w' := by
  have hR : (⟨(Lib.decDigits i).toArray⟩ : ByteArray) ++ (⟨#[46, 108, 111, 103]⟩ : ByteArray) = logName i := rfl
  have hs : (⟨(Lib.decDigits i).toArray⟩ : ByteArray).size ≤ 1000000 := hD
  generalize (⟨(Lib.decDigits i).toArray⟩ : ByteArray) = D at *
  generalize logName i = R at *
  clear hD
  go_enter Tryz.func21, Tryz.ntmps21
  go_wp2_with fail
  refine HF.out.mono ?_
  rintro e w' ⟨rfl, hb⟩
  go_wp2_with fail
  go_ret
  exact ⟨rfl, hb⟩
theorem digits_few (u : Nat) (k : Nat) (hk : 1 ≤ k) (h : u < 10 ^ k) : (Lib.decDigits u).length ≤ k := by
  induction k generalizing u with
  | zero => omega
  | succ k ih =>
    by_cases h1 : u < 10
    · rw [Lib.decDigits_one h1]; simp
    · rw [Lib.decDigits, dif_neg h1, List.length_append, List.length_singleton]
      have h2 : k ≠ 0 := by intro e; subst e; simp at h; omega
      have := ih (u / 10) (by omega) (by rw [Nat.pow_succ] at h; omega)
      omega
theorem walname_small (i : Nat) (hi : i < 100) (w : World) : Calls Tryz.prog 21 #[.int .i64 (i : Int)] w fun e w' => e = .returned (.string (logName i)) ∧ Below w.heap.size w w' := by
  refine walname_of (i : Int) i (Nat.le_trans (digits_few i 2 (by omega) (by omega)) (by omega)) w (Lib.hid ((fmt_small i hi w).mono ?_))
  rintro e w' ⟨rfl, rfl⟩
  exact ⟨rfl, Below.refl _ _⟩
theorem fmt_any (u : Nat) (hu : u ≤ 9223372036854775807) (w : World) (htab : Lib.TabIs Tryz.prog w "internal/strconv.uint64pow10" .u64 Lib.pow10Tab) :
    Calls Tryz.prog 42 #[.int .i64 (u : Int), .int .i64 10] w fun e w' => e = .returned (.string ⟨(Lib.decDigits u).toArray⟩) ∧ Below w.heap.size w w' := by
  refine (Any.strconv_FormatInt_10 fmtI (u : Int) (by omega) (by omega) w htab).mono ?_
  rintro e w' ⟨rfl, k, os, rfl⟩
  exact ⟨by unfold Lib.itoa; simp, ⟨rfl, rfl, rfl, by show w.heap.size ≤ (w.heap ++ os).size; rw [Array.size_append]; omega, fun j hj => by show (w.heap ++ os)[j]? = _; rw [Array.getElem?_append_left hj]⟩⟩
theorem walname_any (u : Nat) (hu : u ≤ 9223372036854775807) (w : World) (htab : Lib.TabIs Tryz.prog w "internal/strconv.uint64pow10" .u64 Lib.pow10Tab) :
    Calls Tryz.prog 21 #[.int .i64 (u : Int)] w fun e w' => e = .returned (.string (logName u)) ∧ Below w.heap.size w w' :=
  walname_of (u : Int) u (Nat.le_trans (digits_few u 19 (by omega) (by omega)) (by omega)) w (Lib.hid (fmt_any u hu w htab))
end Go.Proofs.YtjhkfjbgdaomeaaGreatDoor
