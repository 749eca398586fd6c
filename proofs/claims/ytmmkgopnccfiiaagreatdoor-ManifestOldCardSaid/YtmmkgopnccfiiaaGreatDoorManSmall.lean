/- manifest: whether it may be changed, what closes it, its version, its size; on no manifest. -/
import Derived.Test.YtmmkgopnccfiiaaGreatDoorManAt
namespace Go.Proofs.YtmmkgopnccfiiaaGreatDoor
set_option linter.unusedVariables false
open Go.RowKit Go.Maps
/-- Why nothing may be changed. -/
def mayM (M : Man) : Int := if M.closed then 5 else 0
set_option maxHeartbeats 1000000 in
theorem mayc_any {B : Nat} {w : World} {b mb : Nat} {ρ : Nat → Option Role} {S : Fs} {M : Man} {V : Ver} (h : ManAt B w b mb ρ S M V) : Calls Tryz.prog 25 #[.pointer (some ⟨mb, 0, none⟩)] w fun e w' => e = .returned (.int .i64 (mayM M)) ∧ w' = w := by
  obtain ⟨tv, n0, h1, -⟩ := h.blk
  have c9 := (man_cells h1).c9
  clear h h1
  unfold mayM
  cases hc : M.closed with
  | true =>
    rw [hc] at c9
    rw [if_pos rfl]
    clear hc
    go_enter Tryz.func25, Tryz.ntmps25
    go_wp2_with fail
    go_ret
    exact ⟨rfl, rfl⟩
  | false =>
    rw [hc] at c9
    rw [if_neg (by simp)]
    clear hc
    go_enter Tryz.func25, Tryz.ntmps25
    go_wp2_with fail
    go_ret
    exact ⟨rfl, rfl⟩
set_option maxHeartbeats 1000000 in
/-- What a change was answered closes it, or not. -/
theorem done_any {B : Nat} {w : World} {b mb : Nat} {ρ : Nat → Option Role} {S : Fs} {M : Man} {V : Ver} (h : ManAt B w b mb ρ S M V) (c : Int) : Calls Tryz.prog 27 #[.pointer (some ⟨mb, 0, none⟩), .int .i64 c] w fun e w' => e = .returned (.int .i64 c) ∧ ManTo B w b mb ρ w' S { M with closed := decide (c ≠ 0) } V := by
  have HS := Lib.hid (h.setM (M' := { M with closed := decide (c ≠ 0) }) 9 (.bool (decide (c ≠ 0))) fun tv n0 => rfl)
  obtain ⟨tv, n0, h1, -⟩ := h.blk
  have c9 := (man_cells h1).c9
  have f9 := (man_cells h1).free 9
  have hd : (c != 0) = decide (c ≠ 0) := by
    by_cases hc : c = 0
    · subst hc; rfl
    · rw [decide_eq_true hc, bne_iff_ne]; exact hc
  clear h h1
  generalize decide (c ≠ 0) = q at *
  go_enter Tryz.func27, Tryz.ntmps27
  go_wp2_with fail
  go_ret
  exact ⟨rfl, HS.out⟩
set_option maxHeartbeats 2000000 in
/-- A copy of the version. -/
theorem mver_any {B : Nat} {w : World} {b mb : Nat} {ρ : Nat → Option Role} {S : Fs} {M : Man} {V : Ver} (h : ManAt B w b mb ρ S M V) : Calls Tryz.prog 14 #[.pointer (some ⟨mb, 0, none⟩)] w fun e w' => e = .returned (.pointer (some ⟨w.heap.size, 0, none⟩)) ∧ VerAt B w' w.heap.size V ∧ Below w.heap.size w w' := by
  obtain ⟨tv, n0, h1, h2, -⟩ := h.blk
  obtain ⟨-, -, -, c3, c4, c5, c6, -, -, -, -⟩ := man_cells h1
  obtain ⟨aT, cT, rfl⟩ := fil_form h2.row
  generalize V.fs.length = nT at *
  have hal := (Below.refl w.heap.size w).alloc (Nat.le_refl _) (.cells #[.slice aT nT cT, .int .i64 n0, .int .i64 V.lg, .int .i64 V.ls] 56)
  have HV := Lib.hid ((h2.below hal).at (BlkAt.new w #[.slice aT nT cT, .int .i64 n0, .int .i64 V.lg, .int .i64 V.ls] 56))
  have HB := Lib.hid hal
  clear h h1 h2 hal
  go_enter Tryz.func14, Tryz.ntmps14
  go_wp2_with fail
  go_ret
  exact ⟨rfl, HV.out, HB.out⟩
end Go.Proofs.YtmmkgopnccfiiaaGreatDoor
