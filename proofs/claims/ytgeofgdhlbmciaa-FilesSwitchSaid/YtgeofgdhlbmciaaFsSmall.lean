/- simfs' small functions: within, isNameByte, isName, find, begin. -/
import Derived.Test.YtgeofgdhlbmciaaFsAt
import Derived.RegionTactic
import Derived.Deep.QuietTactic
import Derived.BigQuiet
namespace Go.Proofs.Ytgeofgdhlbmciaa
set_option linter.unusedVariables false
open Go.RowKit Go.Maps
theorem clamp_eq (n : Int) (m : Nat) : min (max n 0) (m : Int) = ((clampN n m : Nat) : Int) := by unfold clampN; omega
set_option maxHeartbeats 1000000 in
theorem within_any (n : Int) (m : Nat) (w : World) : Calls Try.prog 25 #[.int .i64 n, .int .i64 (m : Int)] w fun e w' => e = .returned (.int .i64 (clampN n m : Nat)) ∧ w = w' := by
  go_enter Try.func25, Try.ntmps25
  go_wp2
  go_ret
  refine ⟨?_, rfl⟩
  rw [← clamp_eq]
  rfl
set_option maxHeartbeats 1000000 in
theorem nmb_any (c : UInt8) (w : World) : Calls Try.prog 33 #[.int .u8 (c.toNat : Int)] w fun e w' => e = .returned (.bool (nmB c)) ∧ w = w' := by
  unfold nmB
  generalize c.toNat = n
  go_enter Try.func33, Try.ntmps33
  go_wp2
  all_goals (go_ret; refine ⟨?_, rfl⟩; show Ending.returned (Value.bool _) = _; apply congrArg Ending.returned; apply congrArg Value.bool; rw [Bool.eq_iff_iff]; simp only [Bool.or_eq_true, Bool.and_eq_true, decide_eq_true_eq, beq_iff_eq, true_iff]; omega)
/-- What a call begins with answers. -/
def dieN (S : Fs) : Int := if S.dies = true then 7 else 0
def BeginAt (w : World) (b : Nat) (ρ : Nat → Option Role) (S : Fs) (e : Ending) (w' : World) : Prop := e = .returned (.int .i64 (dieN S)) ∧ FsAt w' b ρ S.begun ∧ UpdF (fun k => k = b) w w'
set_option maxHeartbeats 1000000 in
theorem begin_any (w : World) (b : Nat) (ρ : Nat → Option Role) (S : Fs) (h : FsAt w b ρ S) :
    Calls Try.prog 26 #[.pointer (some ⟨b, 0, none⟩)] w (BeginAt w b ρ S) := by
  obtain ⟨L, h⟩ := h
  have H := Lib.hid h
  obtain ⟨c0, c1, c2, c3, c4, c5, c6, c7⟩ := h.cells
  clear h
  have f4 := c7 4
  have f5 := c7 5
  have f6 := c7 6
  clear c0 c1 c2 c3 c7
  have u1 := (UpdF.refl (fun k => k = b) w).set b 4 (.int .i64 (wrap64 (S.calls + 1))) rfl
  have e1 := cells_set H.out.cell (o := 4) (.int .i64 (wrap64 (S.calls + 1)))
  have ok := H.out.ok.begun
  obtain ⟨n, hS⟩ : ∃ n, S.fails = n := ⟨_, rfl⟩
  have HS := Lib.hid hS
  rw [hS] at c5
  cases n with
  | none =>
    have HX : Hid (FsAt (w.setCell ⟨b, 4, none⟩ (.int .i64 (wrap64 (S.calls + 1)))) b ρ S.begun) := Lib.hid ⟨_, H.out.setFs (ah := L.ah) u1 (by rw [begun_none HS.out, e1, HS.out]; rfl) rfl rfl rfl rfl (fun m hm => by rw [begun_none HS.out] at hm; cases hm) ok⟩
    have HU := Lib.hid u1
    clear ok u1 e1 hS H
    go_enter Try.func26, Try.ntmps26
    go_wp2
    go_ret
    refine ⟨?_, HX.out, HU.out⟩
    unfold dieN Fs.dies
    rw [HS.out]; rfl
  | some n =>
    rw [H.out.ahead n hS] at c6
    cases n with
    | zero =>
      have u2 := u1.set b 5 (.bool false) rfl
      have HX : Hid (FsAt ((w.setCell ⟨b, 4, none⟩ (.int .i64 (wrap64 (S.calls + 1)))).setCell ⟨b, 5, none⟩ (.bool false)) b ρ S.begun) := Lib.hid ⟨_, H.out.setFs (ah := L.ah) u2 (by rw [begun_zero HS.out, cells_set e1, HS.out]; rfl) rfl rfl rfl rfl (fun m hm => by rw [begun_zero HS.out] at hm; cases hm) ok⟩
      have HU := Lib.hid u2
      clear ok u1 u2 e1 hS H
      go_enter Try.func26, Try.ntmps26
      go_wp2
      go_ret
      refine ⟨?_, HX.out, HU.out⟩
      unfold dieN Fs.dies
      rw [HS.out]; rfl
    | succ n =>
      have u2 := u1.set b 6 (.int .i64 (n : Int)) rfl
      have hn := H.out.ok.fails _ hS
      have HX : Hid (FsAt ((w.setCell ⟨b, 4, none⟩ (.int .i64 (wrap64 (S.calls + 1)))).setCell ⟨b, 6, none⟩ (.int .i64 (n : Int))) b ρ S.begun) := Lib.hid ⟨_, H.out.setFs (ah := (n : Int)) u2 (by rw [begun_succ HS.out, cells_set e1, HS.out]; rfl) rfl rfl rfl rfl (fun m hm => by rw [begun_succ HS.out] at hm; rw [Option.some.inj hm]) ok⟩
      have HU := Lib.hid u2
      have hz : ((n + 1 : Nat) : Int) - 1 = n := by omega
      have hp : (0 : Int) < ((n + 1 : Nat) : Int) := by omega
      have hw : wrap64 (n : Int) = n := by unfold wrap64; omega
      generalize ((n + 1 : Nat) : Int) = m at *
      clear ok u1 u2 e1 hS H
      go_enter Try.func26, Try.ntmps26
      go_wp2
      go_ret
      refine ⟨?_, HX.out, HU.out⟩
      unfold dieN Fs.dies
      rw [HS.out]; rfl
end Go.Proofs.Ytgeofgdhlbmciaa
