/- simfs' calls: Calls, Fail, Room, New, find, Create, Rename, Remove, Sync, SyncDir. -/
import Derived.Test.YtgeofgdhlbmciaaFsChg
import Derived.Test.YtgeofgdhlbmciaaFsName
namespace Go.Proofs.Ytgeofgdhlbmciaa
set_option linter.unusedVariables false
open Go.RowKit Go.Maps
theorem FsTo.pre {ρ ρ1 : Nat → Option Role} {w w1 w' : World} {b : Nat} {S' : Fs} (h : FsTo w1 b ρ1 w' S') (u : UpdF (fun k => ρ k ≠ none) w w1) (hr : ∀ k, ρ1 k ≠ none → ρ k ≠ none ∨ w.heap.size ≤ k) : FsTo w b ρ w' S' := by
  obtain ⟨ρ', h1, h2, h3⟩ := h
  refine ⟨ρ', h1, u.then h2 hr, fun k hk => ?_⟩
  rcases h3 k hk with h | h
  · exact hr k h
  · exact .inr (Nat.le_trans u.size h)
theorem FsAt.role {w : World} {b : Nat} {ρ : Nat → Option Role} {S : Fs} (h : FsAt w b ρ S) : ρ b = some .fs := by obtain ⟨L, h⟩ := h; exact h.role
theorem UpdF.own {w w' : World} {b : Nat} {ρ : Nat → Option Role} (h : UpdF (fun k => k = b) w w') (hb : ρ b = some .fs) : UpdF (fun k => ρ k ≠ none) w w' := h.mono fun k _ e => by rw [show k = b from e, hb]; simp
/-- A call that answers a number. -/
def OpAt (w : World) (b : Nat) (ρ : Nat → Option Role) (r : Int × Fs) (e : Ending) (w' : World) : Prop := e = .returned (.int .i64 r.1) ∧ FsTo w b ρ w' r.2
theorem OpAt.begun {w w1 : World} {b : Nat} {ρ : Nat → Option Role} {S' : Fs} {r : Int × Fs} {n : Int} (hA : FsAt w1 b ρ S') (hU : UpdF (fun k => k = b) w w1) (hr : r = (n, S')) : OpAt w b ρ r (.returned (.int .i64 n)) w1 := by
  subst hr
  exact ⟨rfl, hA.to.pre (hU.own hA.role) fun k hk => .inl hk⟩
set_option maxHeartbeats 1000000 in
theorem calls_any (w : World) (b : Nat) (ρ : Nat → Option Role) (S : Fs) (h : FsAt w b ρ S) : Calls Try.prog 19 #[.pointer (some ⟨b, 0, none⟩)] w fun e w' => e = .returned (.int .i64 S.calls) ∧ w = w' := by
  obtain ⟨L, h⟩ := h
  have c4 := h.cells.c4
  clear h
  go_enter Try.func19, Try.ntmps19
  go_wp2
  go_ret
  exact ⟨rfl, rfl⟩
theorem FsOk.fail {S : Fs} (h : FsOk S) (n : Int) (hn : n < 9223372036854775808) : FsOk (S.fail n) := by
  refine { h with fails := fun m hm => ?_ }
  unfold Fs.fail at hm
  dsimp only at hm
  split at hm
  · obtain rfl := Option.some.inj hm; omega
  · cases hm
set_option maxHeartbeats 1000000 in
theorem fail_any (w : World) (b : Nat) (ρ : Nat → Option Role) (S : Fs) (h : FsAt w b ρ S) (n : Int) (hn : n < 9223372036854775808) :
    Calls Try.prog 8 #[.pointer (some ⟨b, 0, none⟩), .int .i64 n] w fun e w' => e = .returned (.tuple #[]) ∧ FsAt w' b ρ (S.fail n) ∧ UpdF (fun k => k = b) w w' := by
  obtain ⟨L, h⟩ := h
  have H := Lib.hid h
  obtain ⟨c0, c1, c2, c3, c4, c5, c6, c7⟩ := h.cells
  have f5 := c7 5
  have f6 := c7 6
  clear c0 c1 c2 c3 c4 c7 h
  obtain ⟨x, hx⟩ : ∃ x, decide (n ≥ 0) = x := ⟨_, rfl⟩
  have HX : Hid (FsAt ((w.setCell ⟨b, 5, none⟩ (.bool x)).setCell ⟨b, 6, none⟩ (.int .i64 (max n 0))) b ρ (S.fail n) ∧ UpdF (fun k => k = b) w ((w.setCell ⟨b, 5, none⟩ (.bool x)).setCell ⟨b, 6, none⟩ (.int .i64 (max n 0)))) := Lib.hid (by
    have u := ((UpdF.refl (fun k => k = b) w).set b 5 (.bool x) rfl).set b 6 (.int .i64 (max n 0)) rfl
    refine ⟨⟨_, H.out.setFs (ah := max n 0) u ?_ rfl rfl rfl rfl ?_ (H.out.ok.fail n hn)⟩, u⟩
    · rw [cells_set (cells_set H.out.cell _)]
      have e : (S.fail n).fails.isSome = x := by
        rw [← hx]
        unfold Fs.fail
        dsimp only
        by_cases h : 0 ≤ n
        · rw [if_pos h, decide_eq_true h]; rfl
        · rw [if_neg h, decide_eq_false h]; rfl
      rw [e]; rfl
    · intro m hm
      unfold Fs.fail at hm
      dsimp only at hm
      split at hm
      · obtain rfl := Option.some.inj hm; omega
      · cases hm)
  clear hn H
  go_enter Try.func8, Try.ntmps8
  go_wp2
  go_end0
  exact ⟨rfl, HX.out.1, HX.out.2⟩
theorem FsOk.setRoom {S : Fs} (h : FsOk S) (n : Int) : FsOk (S.setRoom n) := { h with room := clamp_le _ _ }
set_option maxHeartbeats 1000000 in
theorem room_any (w : World) (b : Nat) (ρ : Nat → Option Role) (S : Fs) (h : FsAt w b ρ S) (n : Int) :
    Calls Try.prog 9 #[.pointer (some ⟨b, 0, none⟩), .int .i64 n] w fun e w' => e = .returned (.tuple #[]) ∧ FsAt w' b ρ (S.setRoom n) ∧ UpdF (fun k => k = b) w w' := by
  obtain ⟨L, h⟩ := h
  have H := Lib.hid h
  obtain ⟨c0, c1, c2, c3, c4, c5, c6, c7⟩ := h.cells
  have f3 := c7 3
  clear c0 c1 c2 c4 c5 c6 c7 h
  have HW := Lib.hid (within_any n 16777216 w)
  have HX : Hid (FsAt (w.setCell ⟨b, 3, none⟩ (.int .i64 (clampN n 16777216 : Nat))) b ρ (S.setRoom n) ∧ UpdF (fun k => k = b) w (w.setCell ⟨b, 3, none⟩ (.int .i64 (clampN n 16777216 : Nat)))) := Lib.hid (by
    have u := (UpdF.refl (fun k => k = b) w).set b 3 (.int .i64 (clampN n 16777216 : Nat)) rfl
    exact ⟨⟨_, H.out.setFs (ah := L.ah) u (by rw [cells_set H.out.cell]; rfl) rfl rfl rfl rfl H.out.ahead (H.out.ok.setRoom n)⟩, u⟩)
  clear H
  go_enter Try.func9, Try.ntmps9
  go_wp2_with fail
  refine HW.out.mono ?_
  rintro e w1 ⟨rfl, rfl⟩
  go_wp2_with fail
  go_end0
  exact ⟨rfl, HX.out.1, HX.out.2⟩
set_option maxHeartbeats 1000000 in
theorem find_any (w : World) (b : Nat) (ρ : Nat → Option Role) (S : Fs) (L : Lay) (h : FsLay w b ρ S L) (n : ByteArray) (hn : n.size ≤ maxLen) :
    Calls Try.prog 23 #[.pointer (some ⟨b, 0, none⟩), .string n] w fun e w' => e = .returned (ptrO ((dget n S.now).map L.fb)) ∧ w = w' := by
  have hl := h.now.look n hn
  rw [dmap_get] at hl
  have c0 := h.cells.c0
  generalize ptrO ((dget n S.now).map L.fb) = x at hl ⊢
  clear h hn
  go_enter Try.func23, Try.ntmps23
  go_wp2
  go_ret
  exact ⟨rfl, rfl⟩
end Go.Proofs.Ytgeofgdhlbmciaa
