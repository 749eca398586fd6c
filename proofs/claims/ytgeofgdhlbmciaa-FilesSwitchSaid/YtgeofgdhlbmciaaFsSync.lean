/- simfs' SyncDir: the directory as it is now lasts. -/
import Derived.Test.YtgeofgdhlbmciaaFsNames
namespace Go.Proofs.Ytgeofgdhlbmciaa
set_option linter.unusedVariables false
open Go.RowKit Go.Maps
def CloneAt (w : World) (mb : Option Nat) (l : Dir) (e : Ending) (w' : World) : Prop := ∃ mb', e = .returned (.map mb') ∧ MB w' mb' l ∧ (mb' = none ∨ mb' = some w.heap.size) ∧ Below w.heap.size w w'
theorem mclone_any (mb : Option Nat) (l : Dir) (w : World) (h : MB w mb l) : Calls Try.prog 29 #[.map mb] w (CloneAt w mb l) := by
  cases mb with
  | none =>
    refine Calls.mono (AnyW.maps_Clone_nil cloneM w) ?_
    rintro e w' ⟨rfl, rfl⟩
    exact ⟨none, rfl, h, .inl rfl, Below.refl _ _⟩
  | some k =>
    refine Calls.mono (AnyW.maps_Clone_owns cloneM _ ptrR k l.length (rawD l) w h) ?_
    rintro e w' ⟨rfl, h1, h2, h3⟩
    exact ⟨some _, rfl, h1, .inr rfl, h3⟩
theorem FsOk.syncDir {S : Fs} (h : FsOk S) : FsOk { S with old := S.now, wait := [] } := by
  refine { h with old := h.now, same := rfl, few := fun k => ?_, inOld := h.inNow, inWait := fun c hc => absurd hc List.not_mem_nil, sizes := fun c hc => absurd hc List.not_mem_nil }
  show (List.foldl Chg.run S.now (List.take k [])).length ≤ 200
  rw [List.take_nil]; exact h.few_now
theorem FsLay.syncDir {w w' : World} {b : Nat} {ρ : Nat → Option Role} {S : Fs} {L : Lay} {ml : Option Nat} (h : FsLay w b ρ S L) (u : UpdF (fun i => i = b) w w')
    (hc : w'.heap[b]? = some (.cells (fsV L.mn ml (.slice none 0 0) S.room S.calls S.fails.isSome L.ah) 52 (0, 0))) (hm : MB w' ml (dmap L.fb S.now)) (hk : ∀ k, ml = some k → w.heap.size ≤ k) : FsTo w b ρ w' { S with old := S.now, wait := [] } := by
  have keep : ∀ r x, ρ x = some r → (if ml = some x then some Role.old else ρ x) = some r := fun r x hx => by
    rw [if_neg]
    · exact hx
    · intro e
      have h1 := hk x e
      have := h.top x (by rw [hx]; simp); omega
  have blk : ∀ r x, ρ x = some r → r ≠ .fs → w'.heap[x]? = w.heap[x]? := fun r x hx h0 => u.block x (h.top x (by rw [hx]; simp)) (by
    intro e
    have e' : x = b := e
    rw [e', h.role] at hx; exact h0 (Option.some.inj hx).symm)
  refine ⟨fun x => if ml = some x then some .old else ρ x, ⟨{ L with ml := ml, wv := .slice none 0 0 }, { cell := hc, role := keep _ _ h.role, ahead := h.ahead, now := ?_, nrole := ?_, old := hm, orole := fun k hk => if_pos hk, wait := OwnK.nil _ _ _ _ _, wrole := (fun k hk => by cases hk), files := ?_, top := ?_, ok := h.ok.syncDir }⟩, ?_, ?_⟩
  · exact h.now.same fun j hj => blk _ j (h.nrole j hj) (by simp)
  · exact fun j hj => keep _ _ (h.nrole j hj)
  · intro j g hj
    have h1 := h.files j g hj
    exact ⟨(blk _ _ h1.role (by simp)).trans h1.cell, keep _ _ h1.role, row_same h1.own fun k hk => blk _ k (h1.brole k hk) (by simp), fun k hk => keep _ _ (h1.brole k hk)⟩
  · intro j hj
    split at hj
    · rename_i e; exact hm.lt j e
    · exact Nat.lt_of_lt_of_le (h.top j hj) u.size
  · exact u.own h.role
  · intro j hj
    have hj' : (if ml = some j then some Role.old else ρ j) ≠ none := hj
    clear hj
    split at hj'
    · rename_i e; exact .inr (hk j e)
    · exact .inl hj'
set_option maxHeartbeats 2000000 in
set_option maxRecDepth 100000 in
theorem syncDir_any (w : World) (b : Nat) (ρ : Nat → Option Role) (S : Fs) (h : FsAt w b ρ S) : Calls Try.prog 14 #[.pointer (some ⟨b, 0, none⟩)] w (OpAt w b ρ S.syncDir) := by
  have HB := Lib.hid (begin_any w b ρ S h)
  clear h
  go_enter Try.func14, Try.ntmps14
  go_wp2_with fail
  refine HB.out.mono ?_
  rintro e w1 ⟨rfl, hA, hU⟩
  have HA := Lib.hid hA
  have HU := Lib.hid hU
  clear hA hU
  obtain ⟨z, hz⟩ : ∃ z, dieN S = z := ⟨_, rfl⟩
  rw [hz]
  by_cases hd : S.dies = true
  · have hr : Hid (S.syncDir = (7, S.begun)) := Lib.hid (by unfold Fs.syncDir; rw [if_pos hd])
    obtain rfl : z = 7 := by rw [← hz]; exact if_pos hd
    clear hz hd
    go_wp2_with fail
    go_ret
    exact OpAt.begun HA.out HU.out hr.out
  · obtain rfl : z = 0 := by rw [← hz]; exact if_neg hd
    clear hz
    obtain ⟨L, hL⟩ := HA.out
    have HL := Lib.hid hL
    have hr : Hid (S.syncDir = (0, { S.begun with old := S.now, wait := [] })) := Lib.hid (by unfold Fs.syncDir; rw [if_neg hd])
    have HM := Lib.hid (mclone_any L.mn _ w1 hL.now)
    have c0 := hL.cells.c0
    clear hL hd
    go_wp2_with fail
    refine HM.out.mono ?_
    rintro e w2 ⟨ml, rfl, h1, h2, h3⟩
    have HL2 := HL.out.same (w' := w2) (fun k hk => h3.block k (HL.out.top k hk)) h3.size
    have HX : Hid (FsTo w b ρ ((w2.setCell ⟨b, 1, none⟩ (.map ml)).setCell ⟨b, 2, none⟩ (.slice none 0 0)) { S.begun with old := S.now, wait := [] }) := Lib.hid (by
      have u := ((UpdF.refl (fun k => k = b) w2).set b 1 (.map ml) rfl).set b 2 (.slice none 0 0) rfl
      have hmb : ∀ k, ml = some k → k ≠ b := fun k hk e => by
        rcases h2 with e1 | e1
        · rw [e1] at hk; cases hk
        · rw [e1] at hk
          obtain rfl := Option.some.inj hk
          have := HL.out.top b (by rw [HL.out.role]; simp)
          omega
      have u0 : UpdF (fun k => k = b) w1 ((w2.setCell ⟨b, 1, none⟩ (.map ml)).setCell ⟨b, 2, none⟩ (.slice none 0 0)) := (UpdF.of h3).trans u
      refine (HL.out.syncDir (ml := ml) u0 ?_ ?_ ?_).pre (HU.out.own HA.out.role) fun k hk => .inl hk
      · rw [cells_set (cells_set HL2.cell _)]; rfl
      · exact h1.same fun k hk => u.block k (h1.lt k hk) (hmb k hk)
      · intro k hk
        rcases h2 with e1 | e1
        · rw [e1] at hk; cases hk
        · rw [e1] at hk
          obtain rfl := Option.some.inj hk
          exact Nat.le_refl _)
    have d1 := HL2.cells.c1
    have d2 := HL2.cells.c2
    have f1 := HL2.cells.free 1
    have f2 := HL2.cells.free 2
    clear HL2 h1 h2 h3 c0
    go_wp2_with fail
    go_ret
    unfold OpAt
    rw [hr.out]
    exact ⟨rfl, HX.out⟩
end Go.Proofs.Ytgeofgdhlbmciaa
