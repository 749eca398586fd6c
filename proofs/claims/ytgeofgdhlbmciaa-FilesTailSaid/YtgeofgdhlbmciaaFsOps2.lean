/- simfs' calls: New, Create, Rename, Remove, Sync, SyncDir. -/
import Derived.Test.YtgeofgdhlbmciaaFsOps
namespace Go.Proofs.Ytgeofgdhlbmciaa
set_option linter.unusedVariables false
open Go.RowKit Go.Maps
theorem fsNew_ok (r : Nat) (h : r ≤ 16777216) : FsOk (fsNew r) :=
  ⟨List.Pairwise.nil, List.Pairwise.nil, rfl, fun k => by show (List.foldl Chg.run [] (List.take k [])).length ≤ 200; simp, fun x hx => by simp [fsNew] at hx, fun x hx => by simp [fsNew] at hx, fun x hx => by simp [fsNew] at hx, fun x hx => by simp [fsNew] at hx, fun x hx => by simp [fsNew] at hx, h, (show -9223372036854775808 ≤ (0 : Int) ∧ (0 : Int) < 9223372036854775808 by decide), fun n hn => by cases hn⟩
theorem FsAt.zero (w : World) : FsAt (w.alloc (.cells (fsV none none (.slice none 0 0) 0 0 false 0) 52)) w.heap.size (upN (fun _ => none) w.heap.size (some .fs)) (fsNew 0) := by
  refine ⟨⟨none, none, .slice none 0 0, 0, fun _ => 0, fun _ => .slice none 0 0⟩, { cell := heap_alloc_new .., role := upN_same _ _ _, ahead := (fun n hn => by cases hn), now := rfl, nrole := (fun k hk => by cases hk), old := rfl, orole := (fun k hk => by cases hk), wait := OwnK.nil _ _ _ _ _, wrole := (fun k hk => by cases hk), files := (fun i f hf => by simp [fsNew] at hf), top := ?_, ok := fsNew_ok 0 (by omega) }⟩
  intro k hk
  unfold upN at hk
  split at hk
  · rename_i e; rw [e]; simp
  · exact absurd rfl hk
def NewAt (n : Int) (w : World) (e : Ending) (w' : World) : Prop := e = .returned (.pointer (some ⟨w.heap.size, 0, none⟩)) ∧ ∃ ρ, FsAt w' w.heap.size ρ (fsNew (clampN n 16777216)) ∧ Below w.heap.size w w' ∧ ∀ k, ρ k ≠ none → w.heap.size ≤ k
set_option maxHeartbeats 1000000 in
theorem new_any (n : Int) (w : World) : Calls Try.prog 22 #[.int .i64 n] w (NewAt n w) := by
  have HZ := Lib.hid (FsAt.zero w)
  have HB := Lib.hid ((Below.refl w.heap.size w).alloc (Nat.le_refl _) (.cells (fsV none none (.slice none 0 0) 0 0 false 0) 52))
  obtain ⟨w1, hw1⟩ : ∃ w1, w.alloc (.cells (fsV none none (.slice none 0 0) 0 0 false 0) 52) = w1 := ⟨_, rfl⟩
  rw [hw1] at HZ HB
  have HR := Lib.hid (room_any w1 _ _ _ HZ.out n)
  unfold fsV at hw1
  go_enter Try.func22, Try.ntmps22
  go_wp2_with fail
  refine HR.out.mono ?_
  rintro e w2 ⟨rfl, hA, hU⟩
  go_wp2_with fail
  go_ret
  refine ⟨rfl, _, hA, HB.out.trans (hU.below HB.out.size fun k hk e => by omega), fun k hk => ?_⟩
  unfold upN at hk
  split at hk
  · omega
  · exact absurd rfl hk
theorem nil_ptr (o : Option Nat) : ptrO o = .pointer (o.map fun k => ⟨k, 0, none⟩) := by cases o <;> rfl
theorem create_bd {S : Fs} (h : FsOk S) {n : ByteArray} (hq : nameOk n = true) (hg : dget n S.now ≠ none ∨ S.now.length < 200) : (Chg.run S.now ⟨⟨#[]⟩, n, some S.files.length⟩).length ≤ 200 := by
  show (dput n _ (ddel ⟨#[]⟩ S.now)).length ≤ 200
  rw [dput_len]
  have h1 := ddel_len (n := (⟨#[]⟩ : ByteArray)) (l := S.now)
  rcases hg with hg | hg
  · have hne : n ≠ ⟨#[]⟩ := by
      rintro rfl
      cases hq
    have h2 := ddel_less (n := n) (l := ddel ⟨#[]⟩ S.now) (by rw [dget_del_ne h.now hne]; exact hg)
    have := h.few_now
    omega
  · have h2 := ddel_len (n := n) (l := ddel ⟨#[]⟩ S.now)
    omega
theorem create_step (w w1 : World) (b : Nat) (ρ : Nat → Option Role) (S : Fs) (L : Lay) (h : FsLay w1 b ρ S.begun L) (u : UpdF (fun k => k = b) w w1) (n : ByteArray) (hn : n.size ≤ maxLen) (hw : S.wait.length ≤ 1000000000000) (hz : n.size ≤ 20)
    (hl : (Chg.run S.now ⟨⟨#[]⟩, n, some S.files.length⟩).length ≤ 200) :
    Calls Try.prog 28 #[.pointer (some ⟨b, 0, none⟩), .string ⟨#[]⟩, .string n, .pointer (some ⟨w1.heap.size, 0, none⟩)] (w1.alloc (.cells (filV (.slice none 0 0) 0) 47)) fun e w' => e = .returned (.tuple #[]) ∧
      FsTo w b ρ w' (Fs.change { S.begun with files := S.files ++ [⟨[], 0⟩] } ⟨⟨#[]⟩, n, some S.files.length⟩) := by
  have h2 := h.newFile
  have h3 := change_any _ b _ _ _ h2 ⟨#[]⟩ n (some S.files.length) (fun i hi => by obtain rfl := Option.some.inj hi; show S.files.length < (S.files ++ [(⟨[], 0⟩ : Fil)]).length; simp) (by decide) (by omega) hl hw
  have e : ptrO ((some S.files.length).map (upN L.fb S.files.length w1.heap.size)) = .pointer (some ⟨w1.heap.size, 0, none⟩) := by simp only [Option.map_some, upN_same]; rfl
  have h4 : Calls _ _ #[.pointer (some ⟨b, 0, none⟩), .string ⟨#[]⟩, .string n, ptrO ((some S.files.length).map (upN L.fb S.files.length w1.heap.size))] _ _ := h3
  rw [e] at h4
  refine h4.mono ?_
  rintro e w' ⟨rfl, hF⟩
  refine ⟨rfl, hF.pre ((u.own h.role).trans (UpdF.of ((Below.refl _ _).alloc (Nat.le_refl _) _))) fun k hk => ?_⟩
  unfold upN at hk
  split at hk
  · rename_i e; exact .inr (by rw [e]; exact u.size)
  · exact .inl hk
set_option maxHeartbeats 2000000 in
set_option maxRecDepth 100000 in
theorem create_any (w : World) (b : Nat) (ρ : Nat → Option Role) (S : Fs) (h : FsAt w b ρ S) (n : ByteArray) (hn : n.size ≤ maxLen) (hw : S.wait.length ≤ 1000000000000) :
    Calls Try.prog 11 #[.pointer (some ⟨b, 0, none⟩), .string n] w (OpAt w b ρ (S.create n)) := by
  have HB := Lib.hid (begin_any w b ρ S h)
  have HN := Lib.hid (fun w => name_any n hn w)
  clear h
  go_enter Try.func11, Try.ntmps11
  go_wp2_with fail
  refine HB.out.mono ?_
  rintro e w1 ⟨rfl, hA, hU⟩
  have HA := Lib.hid hA
  have HU := Lib.hid hU
  clear hA hU
  obtain ⟨z, hz⟩ : ∃ z, dieN S = z := ⟨_, rfl⟩
  rw [hz]
  by_cases hd : S.dies = true
  · have hr : Hid (S.create n = (7, S.begun)) := Lib.hid (by unfold Fs.create; rw [if_pos hd])
    obtain rfl : z = 7 := by rw [← hz]; exact if_pos hd
    clear hz hd
    go_wp2_with fail
    go_ret
    exact OpAt.begun HA.out HU.out hr.out
  · obtain rfl : z = 0 := by rw [← hz]; exact if_neg hd
    clear hz
    go_wp2_with fail
    refine (HN.out _).mono ?_
    rintro e w' ⟨rfl, rfl⟩
    obtain ⟨q, hq⟩ : ∃ q, nameOk n = q := ⟨_, rfl⟩
    rw [hq]
    cases q with
    | false =>
      have hr : Hid (S.create n = (12, S.begun)) := Lib.hid (by unfold Fs.create; rw [if_neg hd, if_pos hq])
      clear hq hd
      go_wp2_with fail
      go_ret
      exact OpAt.begun HA.out HU.out hr.out
    | true =>
      obtain ⟨L, hL⟩ := HA.out
      have HL := Lib.hid hL
      have HF := Lib.hid (find_any w1 b ρ S.begun L hL n hn)
      have c0 := hL.cells.c0
      have hlen := fun ty => hL.now.len (w := w1) ty
      rw [dmap_len] at hlen
      clear hL
      go_wp2_with fail
      refine HF.out.mono ?_
      rintro e w' ⟨rfl, rfl⟩
      rw [nil_ptr]
      have hz : n.size ≤ 20 := by
        unfold nameOk at hq
        simp only [Bool.and_eq_true, decide_eq_true_eq] at hq
        exact hq.1.2
      have hbd : FsOk S.begun := HL.out.ok
      obtain ⟨o, ho⟩ : ∃ o, dget n S.begun.now = o := ⟨_, rfl⟩
      obtain ⟨m, hm⟩ : ∃ m, S.begun.now.length = m := ⟨_, rfl⟩
      rw [ho]
      rw [hm] at hlen
      have HR : Hid (o ≠ none ∨ m < 200 → S.create n = (0, Fs.change { S.begun with files := S.files ++ [⟨[], 0⟩] } ⟨⟨#[]⟩, n, some S.files.length⟩)) := Lib.hid fun hg => by
        unfold Fs.create
        rw [if_neg hd, if_neg (by rw [hq]; simp), if_neg]
        rintro ⟨h1, h2⟩
        have h1' : o = none := ho.symm.trans h1
        have h2' : 200 ≤ m := by rw [← hm]; exact h2
        rcases hg with hg | hg
        · exact hg h1'
        · omega
      have HC : Hid (o ≠ none ∨ m < 200 → Calls Try.prog 28 #[.pointer (some ⟨b, 0, none⟩), .string ⟨#[]⟩, .string n, .pointer (some ⟨w1.heap.size, 0, none⟩)] (w1.alloc (.cells #[.slice none 0 0, .int .i64 0] 47)) fun e w' => e = .returned (.tuple #[]) ∧
          FsTo w b ρ w' (Fs.change { S.begun with files := S.files ++ [⟨[], 0⟩] } ⟨⟨#[]⟩, n, some S.files.length⟩)) := Lib.hid fun hg =>
        create_step w w1 b ρ S L HL.out HU.out n hn hw hz (create_bd (S := S.begun) hbd hq (by rw [ho, hm]; exact hg))
      cases o with
      | some i =>
        have HR1 := Lib.hid (HR.out (.inl (by simp)))
        have HC1 := Lib.hid (HC.out (.inl (by simp)))
        clear HR HC hlen hq hd ho hm HL
        go_wp2_with fail
        refine HC1.out.mono ?_
        rintro e w2 ⟨rfl, hF⟩
        go_wp2_with fail
        go_ret
        unfold OpAt
        rw [HR1.out]
        exact ⟨rfl, hF⟩
      | none =>
        by_cases hl : m < 200
        · have HR1 := Lib.hid (HR.out (.inr hl))
          have HC1 := Lib.hid (HC.out (.inr hl))
          have hlz : ¬ ((m : Int) ≥ 200) := by omega
          clear HR HC hq hd ho hm HL
          go_wp2_with fail
          refine HC1.out.mono ?_
          rintro e w2 ⟨rfl, hF⟩
          go_wp2_with fail
          go_ret
          unfold OpAt
          rw [HR1.out]
          exact ⟨rfl, hF⟩
        · have HR1 : Hid (S.create n = (6, S.begun)) := Lib.hid (by
            unfold Fs.create
            rw [if_neg hd, if_neg (by rw [hq]; simp), if_pos ⟨ho, by have h1 : S.now.length = m := hm; omega⟩])
          have hlz : (m : Int) ≥ 200 := by omega
          clear HR HC hq hd ho hm HL
          go_wp2_with fail
          go_ret
          exact OpAt.begun HA.out HU.out HR1.out
end Go.Proofs.Ytgeofgdhlbmciaa
