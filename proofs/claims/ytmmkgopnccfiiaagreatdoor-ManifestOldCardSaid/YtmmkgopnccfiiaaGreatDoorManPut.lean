/- manifest.put: a file of a name, made beside. -/
import Derived.Test.YtmmkgopnccfiiaaGreatDoorManAt
namespace Go.Proofs.YtmmkgopnccfiiaaGreatDoor
set_option linter.unusedVariables false
open Go.RowKit Go.Maps
theorem create_wait (S : Fs) (n : ByteArray) : (S.create n).2.wait.length ≤ S.wait.length + 1 := by
  unfold Fs.create
  split
  · exact Nat.le_succ _
  · split
    · exact Nat.le_succ _
    · split
      · exact Nat.le_succ _
      · show (S.wait ++ [_]).length ≤ _
        rw [List.length_append, List.length_singleton]; exact Nat.le_refl _
theorem append_wait (S : Fs) (n : ByteArray) (b : List UInt8) : (S.append n b).2.wait = S.wait := by
  unfold Fs.append
  split
  · rfl
  · split
    · rfl
    · split <;> rfl
theorem sync_wait (S : Fs) (n : ByteArray) : (S.sync n).2.wait = S.wait := by
  unfold Fs.sync
  split
  · rfl
  · split <;> rfl
theorem rename_wait (S : Fs) (n m : ByteArray) : (S.rename n m).2.wait.length ≤ S.wait.length + 1 := by
  unfold Fs.rename
  split
  · exact Nat.le_succ _
  · split
    · exact Nat.le_succ _
    · split
      · exact Nat.le_succ _
      · show (S.wait ++ [_]).length ≤ _
        rw [List.length_append, List.length_singleton]; exact Nat.le_refl _
theorem layNew_wait (S : Fs) (nm : ByteArray) (b : List UInt8) : (layNew S nm b).2.wait.length ≤ S.wait.length + 2 := by
  have h1 := create_wait S besN
  have h2 := append_wait (S.create besN).2 besN b
  have h3 := sync_wait ((S.create besN).2.append besN b).2 besN
  have h4 := rename_wait (((S.create besN).2.append besN b).2.sync besN).2 besN nm
  rw [h3, h2] at h4
  rw [h2] at h3
  have hx : ∀ (p : Prop) [Decidable p] (x y : Int × Fs) (n : Nat), x.2.wait.length ≤ n → y.2.wait.length ≤ n → (if p then x else y).2.wait.length ≤ n := fun p _ x y n hx hy => by split; exact hx; exact hy
  unfold layNew thenF
  refine hx _ _ _ _ (hx _ _ _ _ (hx _ _ _ _ (by show (Fs.rename _ _ _).2.wait.length ≤ _; omega) (by rw [h3]; omega)) (by rw [h2]; omega)) (by omega)
/-- Two calls on the files, one behind the other. -/
theorem fs_step {ρ ρ1 ρ2 : Nat → Option Role} {w w1 w2 : World} (u : UpdF (fun k => ρ k ≠ none) w w1) (hr : ∀ k, ρ1 k ≠ none → ρ k ≠ none ∨ w.heap.size ≤ k) (u2 : UpdF (fun k => ρ1 k ≠ none) w1 w2) (hr2 : ∀ k, ρ2 k ≠ none → ρ1 k ≠ none ∨ w1.heap.size ≤ k) :
    UpdF (fun k => ρ k ≠ none) w w2 ∧ ∀ k, ρ2 k ≠ none → ρ k ≠ none ∨ w.heap.size ≤ k :=
  ⟨u.then u2 hr, fun k hk => by
    rcases hr2 k hk with f | f
    · exact hr k f
    · have := u.size; exact .inr (by omega)⟩
set_option maxHeartbeats 4000000 in
set_option maxRecDepth 100000 in
theorem mput_any (w : World) (b : Nat) (ρ : Nat → Option Role) (S : Fs) (h : FsAt w b ρ S) (nm : ByteArray) (hn : nm.size ≤ 1000000) (v : Value) (bs : List UInt8) (hv : RdB w v bs) (ho : OutF ρ v) (hvl : ∀ k, v.ownBlock = some k → k < w.heap.size) (hbl : bs.length ≤ 1000000000) (hw : S.wait.length ≤ 1000000) :
    Calls Tryz.prog 53 #[.pointer (some ⟨b, 0, none⟩), .string nm, v] w (OpAt w b ρ (layNew S nm bs)) := by
  obtain ⟨R1, h1⟩ : ∃ R, S.create besN = R := ⟨_, rfl⟩
  have hw1 : R1.2.wait.length ≤ 1000001 := by have := create_wait S besN; rw [h1] at this; omega
  obtain ⟨R2, h2⟩ : ∃ R, R1.2.append besN bs = R := ⟨_, rfl⟩
  have hw2 : R2.2.wait.length ≤ 1000001 := by have := append_wait R1.2 besN bs; rw [h2] at this; rw [this]; exact hw1
  obtain ⟨R3, h3⟩ : ∃ R, R2.2.sync besN = R := ⟨_, rfl⟩
  have hw3 : R3.2.wait.length ≤ 1000001 := by have := sync_wait R2.2 besN; rw [h3] at this; rw [this]; exact hw2
  obtain ⟨R4, h4⟩ : ∃ R, R3.2.rename besN nm = R := ⟨_, rfl⟩
  have hL : layNew S nm bs = if R1.1 = 0 then (if R2.1 = 0 then (if R3.1 = 0 then R4 else R3) else R2) else R1 := by
    unfold layNew thenF
    rw [h1]
    simp only [h2, h3, h4]
  rw [hL]
  clear hL
  obtain ⟨G, hG⟩ : ∃ G, (if R1.1 = 0 then (if R2.1 = 0 then (if R3.1 = 0 then R4 else R3) else R2) else R1) = G := ⟨_, rfl⟩
  rw [hG]
  have HC : Hid (Calls Tryz.prog 7 #[.pointer (some ⟨b, 0, none⟩), .string ⟨#[98, 101, 115, 105, 100, 101]⟩] w (OpAt w b ρ R1)) := Lib.hid (by
    have := create_any w b ρ S h besN (by decide) (by omega)
    rwa [h1] at this)
  have HA : Hid (∀ ρ1 W, FsAt W b ρ1 R1.2 → UpdF (fun k => ρ k ≠ none) w W → (∀ k, ρ1 k ≠ none → ρ k ≠ none ∨ w.heap.size ≤ k) → Calls Tryz.prog 60 #[.pointer (some ⟨b, 0, none⟩), .string ⟨#[98, 101, 115, 105, 100, 101]⟩, v] W (OpAt W b ρ1 R2)) := Lib.hid fun ρ1 W t1 t2 t3 => by
    have := append_any W b ρ1 R1.2 t1 besN (by decide) v bs (rdB_out hv t2 ho) (fun k hk => roles_none (ho k hk) (hvl k hk) t3) (by omega)
    rwa [h2] at this
  have HS : Hid (∀ ρ1 W, FsAt W b ρ1 R2.2 → Calls Tryz.prog 61 #[.pointer (some ⟨b, 0, none⟩), .string ⟨#[98, 101, 115, 105, 100, 101]⟩] W (OpAt W b ρ1 R3)) := Lib.hid fun ρ1 W t1 => by
    have := sync_any W b ρ1 R2.2 t1 besN (by decide)
    rwa [h3] at this
  have HN : Hid (∀ ρ1 W, FsAt W b ρ1 R3.2 → Calls Tryz.prog 89 #[.pointer (some ⟨b, 0, none⟩), .string ⟨#[98, 101, 115, 105, 100, 101]⟩, .string nm] W (OpAt W b ρ1 R4)) := Lib.hid fun ρ1 W t1 => by
    have := rename_any W b ρ1 R3.2 t1 besN nm (by decide) (by unfold maxLen; omega) (by decide) (by omega)
    rwa [h4] at this
  obtain ⟨c1, S1⟩ := R1
  obtain ⟨c2, S2⟩ := R2
  obtain ⟨c3, S3⟩ := R3
  obtain ⟨c4, S4⟩ := R4
  dsimp only at *
  have HVF : Hid (∃ a n c, v = .slice a n c) := Lib.hid (by obtain ⟨a, n, c, e, -⟩ := hv.form; exact ⟨a, n, c, e⟩)
  obtain ⟨av, nv, cv, rfl⟩ := HVF.out
  clear h hv ho hvl h1 h2 h3 h4 hw1 hw2 hw3 HVF hbl hn hw
  have HG := Lib.hid hG.symm
  clear hG
  unfold OpAt at HC HA HS HN
  go_enter Tryz.func53, Tryz.ntmps53
  go_wp2_with fail
  refine HC.out.mono ?_
  rintro e w1 ⟨rfl, ρ1, t1, t2, t3⟩
  have HT1 := Lib.hid (And.intro t1 (And.intro t2 t3))
  have HA1 := Lib.hid (HA.out ρ1 w1 t1 t2 t3)
  clear t1 t2 t3 HC HA
  by_cases hc1 : c1 = 0
  rotate_left
  · have d1 : (c1 != 0) = true := by rw [bne_iff_ne]; exact hc1
    obtain rfl : G = (c1, S1) := by have := HG.out; simpa [hc1] using this
    clear hc1
    go_wp2_with fail
    go_ret
    exact ⟨rfl, ρ1, HT1.out⟩
  subst hc1
  go_wp2_with fail
  refine HA1.out.mono ?_
  rintro e w2 ⟨rfl, ρ2, t1, t2, t3⟩
  have HT2 := Lib.hid (And.intro t1 (fs_step HT1.out.2.1 HT1.out.2.2 t2 t3))
  have HS2 := Lib.hid (HS.out ρ2 w2 t1)
  clear t1 t2 t3 HA1 HT1 HS
  by_cases hc2 : c2 = 0
  rotate_left
  · have d1 : (c2 != 0) = true := by rw [bne_iff_ne]; exact hc2
    obtain rfl : G = (c2, S2) := by have := HG.out; simpa [hc2] using this
    clear hc2
    go_wp2_with fail
    go_ret
    exact ⟨rfl, ρ2, HT2.out⟩
  subst hc2
  go_wp2_with fail
  refine HS2.out.mono ?_
  rintro e w3 ⟨rfl, ρ3, t1, t2, t3⟩
  have HT3 := Lib.hid (And.intro t1 (fs_step HT2.out.2.1 HT2.out.2.2 t2 t3))
  have HN3 := Lib.hid (HN.out ρ3 w3 t1)
  clear t1 t2 t3 HS2 HT2 HN
  by_cases hc3 : c3 = 0
  rotate_left
  · have d1 : (c3 != 0) = true := by rw [bne_iff_ne]; exact hc3
    obtain rfl : G = (c3, S3) := by have := HG.out; simpa [hc3] using this
    clear hc3
    go_wp2_with fail
    go_ret
    exact ⟨rfl, ρ3, HT3.out⟩
  subst hc3
  go_wp2_with fail
  refine HN3.out.mono ?_
  rintro e w4 ⟨rfl, ρ4, t1, t2, t3⟩
  have HT4 := Lib.hid (And.intro t1 (fs_step HT3.out.2.1 HT3.out.2.2 t2 t3))
  clear t1 t2 t3 HN3 HT3
  go_wp2_with fail
  obtain rfl : G = (c4, S4) := by have := HG.out; simpa using this
  go_ret
  exact ⟨rfl, ρ4, HT4.out⟩
end Go.Proofs.YtmmkgopnccfiiaaGreatDoor
