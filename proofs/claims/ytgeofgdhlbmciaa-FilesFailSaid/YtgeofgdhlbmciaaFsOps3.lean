/- simfs' calls: Rename, Remove, Sync; a file is written. -/
import Derived.Test.YtgeofgdhlbmciaaFsOps2
namespace Go.Proofs.Ytgeofgdhlbmciaa
set_option linter.unusedVariables false
open Go.RowKit Go.Maps
theorem rename_bd {S : Fs} (h : FsOk S) {a b : ByteArray} {i : Nat} (hg : dget a S.now = some i) : (Chg.run S.now ⟨a, b, some i⟩).length ≤ 200 := by
  show (dput b i (ddel a S.now)).length ≤ 200
  rw [dput_len]
  have h1 := ddel_len (n := b) (l := ddel a S.now)
  have h2 := ddel_less (n := a) (l := S.now) (by rw [hg]; simp)
  have := h.few_now
  omega
set_option maxHeartbeats 2000000 in
set_option maxRecDepth 100000 in
theorem rename_any (w : World) (b : Nat) (ρ : Nat → Option Role) (S : Fs) (h : FsAt w b ρ S) (n t : ByteArray) (hn : n.size ≤ maxLen) (ht : t.size ≤ maxLen) (hn2 : n.size ≤ 140737488355328) (hw : S.wait.length ≤ 1000000000000) :
    Calls Try.prog 15 #[.pointer (some ⟨b, 0, none⟩), .string n, .string t] w (OpAt w b ρ (S.rename n t)) := by
  have HB := Lib.hid (begin_any w b ρ S h)
  have HN := Lib.hid (fun w => name_any t ht w)
  clear h
  go_enter Try.func15, Try.ntmps15
  go_wp2_with fail
  refine HB.out.mono ?_
  rintro e w1 ⟨rfl, hA, hU⟩
  have HA := Lib.hid hA
  have HU := Lib.hid hU
  clear hA hU
  obtain ⟨z, hz⟩ : ∃ z, dieN S = z := ⟨_, rfl⟩
  rw [hz]
  by_cases hd : S.dies = true
  · have hr : Hid (S.rename n t = (7, S.begun)) := Lib.hid (by unfold Fs.rename; rw [if_pos hd])
    obtain rfl : z = 7 := by rw [← hz]; exact if_pos hd
    clear hz hd
    go_wp2_with fail
    go_ret
    exact OpAt.begun HA.out HU.out hr.out
  · obtain rfl : z = 0 := by rw [← hz]; exact if_neg hd
    clear hz
    obtain ⟨L, hL⟩ := HA.out
    have HL := Lib.hid hL
    have HF := Lib.hid (find_any w1 b ρ S.begun L hL n hn)
    clear hL
    go_wp2_with fail
    refine HF.out.mono ?_
    rintro e w' ⟨rfl, rfl⟩
    rw [nil_ptr]
    obtain ⟨o, ho⟩ : ∃ o, dget n S.begun.now = o := ⟨_, rfl⟩
    rw [ho]
    cases o with
    | none =>
      have hr : Hid (S.rename n t = (3, S.begun)) := Lib.hid (by unfold Fs.rename; rw [if_neg hd, show dget n S.now = none from ho])
      clear ho hd
      go_wp2_with fail
      go_ret
      exact OpAt.begun HA.out HU.out hr.out
    | some i =>
      go_wp2_with fail
      refine (HN.out _).mono ?_
      rintro e w' ⟨rfl, rfl⟩
      obtain ⟨q, hq⟩ : ∃ q, nameOk t = q := ⟨_, rfl⟩
      rw [hq]
      cases q with
      | false =>
        have hr : Hid (S.rename n t = (12, S.begun)) := Lib.hid (by unfold Fs.rename; rw [if_neg hd, show dget n S.now = some i from ho]; simp only [hq, if_true])
        clear hq hd ho
        go_wp2_with fail
        go_ret
        exact OpAt.begun HA.out HU.out hr.out
      | true =>
        have hr : Hid (S.rename n t = (0, S.begun.change ⟨n, t, some i⟩)) := Lib.hid (by unfold Fs.rename; rw [if_neg hd, show dget n S.now = some i from ho]; simp only [hq]; rfl)
        have hz : t.size ≤ 20 := by
          unfold nameOk at hq
          simp only [Bool.and_eq_true, decide_eq_true_eq] at hq
          exact hq.1.2
        have HC : Hid (Calls Try.prog 28 #[.pointer (some ⟨b, 0, none⟩), .string n, .string t, .pointer (some ⟨L.fb i, 0, none⟩)] w1 fun e w' => e = .returned (.tuple #[]) ∧ FsTo w1 b ρ w' (S.begun.change ⟨n, t, some i⟩)) := Lib.hid
          (change_any w1 b ρ S.begun L HL.out n t (some i) (fun j hj => by
            obtain rfl := Option.some.inj hj
            exact HL.out.ok.inNow (n, i) ((dget_mem HL.out.ok.now).1 ho)) hn2 (by omega) (rename_bd HL.out.ok ho) hw)
        clear hq hd ho hz HL
        go_wp2_with fail
        refine HC.out.mono ?_
        rintro e w2 ⟨rfl, hF⟩
        go_wp2_with fail
        go_ret
        unfold OpAt
        rw [hr.out]
        exact ⟨rfl, hF.pre (HU.out.own HA.out.role) fun k hk => .inl hk⟩
set_option maxHeartbeats 2000000 in
set_option maxRecDepth 100000 in
theorem remove_any (w : World) (b : Nat) (ρ : Nat → Option Role) (S : Fs) (h : FsAt w b ρ S) (n : ByteArray) (hn : n.size ≤ maxLen) (hn2 : n.size ≤ 140737488355328) (hw : S.wait.length ≤ 1000000000000) :
    Calls Try.prog 16 #[.pointer (some ⟨b, 0, none⟩), .string n] w (OpAt w b ρ (S.remove n)) := by
  have HB := Lib.hid (begin_any w b ρ S h)
  clear h
  go_enter Try.func16, Try.ntmps16
  go_wp2_with fail
  refine HB.out.mono ?_
  rintro e w1 ⟨rfl, hA, hU⟩
  have HA := Lib.hid hA
  have HU := Lib.hid hU
  clear hA hU
  obtain ⟨z, hz⟩ : ∃ z, dieN S = z := ⟨_, rfl⟩
  rw [hz]
  by_cases hd : S.dies = true
  · have hr : Hid (S.remove n = (7, S.begun)) := Lib.hid (by unfold Fs.remove; rw [if_pos hd])
    obtain rfl : z = 7 := by rw [← hz]; exact if_pos hd
    clear hz hd
    go_wp2_with fail
    go_ret
    exact OpAt.begun HA.out HU.out hr.out
  · obtain rfl : z = 0 := by rw [← hz]; exact if_neg hd
    clear hz
    obtain ⟨L, hL⟩ := HA.out
    have HL := Lib.hid hL
    have HF := Lib.hid (find_any w1 b ρ S.begun L hL n hn)
    clear hL
    go_wp2_with fail
    refine HF.out.mono ?_
    rintro e w' ⟨rfl, rfl⟩
    rw [nil_ptr]
    obtain ⟨o, ho⟩ : ∃ o, dget n S.begun.now = o := ⟨_, rfl⟩
    rw [ho]
    cases o with
    | none =>
      have hr : Hid (S.remove n = (3, S.begun)) := Lib.hid (by unfold Fs.remove; rw [if_neg hd, show dget n S.now = none from ho])
      clear ho hd
      go_wp2_with fail
      go_ret
      exact OpAt.begun HA.out HU.out hr.out
    | some i =>
      have hr : Hid (S.remove n = (0, S.begun.change ⟨n, ⟨#[]⟩, none⟩)) := Lib.hid (by unfold Fs.remove; rw [if_neg hd, show dget n S.now = some i from ho])
      have HC : Hid (Calls Try.prog 28 #[.pointer (some ⟨b, 0, none⟩), .string n, .string ⟨#[]⟩, .pointer none] w1 fun e w' => e = .returned (.tuple #[]) ∧ FsTo w1 b ρ w' (S.begun.change ⟨n, ⟨#[]⟩, none⟩)) := Lib.hid
        (change_any w1 b ρ S.begun L HL.out n ⟨#[]⟩ none (fun j hj => by cases hj) hn2 (by decide) (Nat.le_trans ddel_len HL.out.ok.few_now) hw)
      clear hd ho HL
      go_wp2_with fail
      refine HC.out.mono ?_
      rintro e w2 ⟨rfl, hF⟩
      go_wp2_with fail
      go_ret
      unfold OpAt
      rw [hr.out]
      exact ⟨rfl, hF.pre (HU.out.own HA.out.role) fun k hk => .inl hk⟩
/-- A file was written: its cells, its bytes. -/
theorem FsLay.setFile {w w' : World} {b i : Nat} {ρ : Nat → Option Role} {S : Fs} {L : Lay} {f f' : Fil} {v' : Value} (h : FsLay w b ρ S L) (hi : S.files[i]? = some f) (u : UpdF (fun k => k = L.fb i ∨ (L.fv i).ownBlock = some k) w w')
    (hc : w'.heap[L.fb i]? = some (.cells (filV v' f'.synced) 47 (0, 0))) (ho : OwnB 0 w' v' f'.bytes) (hg : ∀ g, v'.ownBlock = some g → (L.fv i).ownBlock = some g ∨ w.heap.size ≤ g) (ok : f'.synced ≤ f'.bytes.length ∧ f'.bytes.length ≤ 16777216) :
    FsTo w b ρ w' { S with files := S.files.set i f' } := by
  have hf := h.files i f hi
  have keep : ∀ r x, ρ x = some r → r ≠ .bytes i → (if v'.ownBlock = some x then some (Role.bytes i) else ρ x) = some r := fun r x hx hr => by
    rw [if_neg]
    · exact hx
    · intro e
      rcases hg x e with e | e
      · rw [hf.brole x e] at hx; exact hr (Option.some.inj hx).symm
      · have := h.top x (by rw [hx]; simp); omega
  have blk : ∀ r x, ρ x = some r → r ≠ .file i → r ≠ .bytes i → w'.heap[x]? = w.heap[x]? := fun r x hx h0 h1 => u.block x (h.top x (by rw [hx]; simp)) (by
    rintro (e | e)
    · rw [e, hf.role] at hx; exact h0 (Option.some.inj hx).symm
    · rw [hf.brole x e] at hx; exact h1 (Option.some.inj hx).symm)
  refine ⟨fun x => if v'.ownBlock = some x then some (.bytes i) else ρ x, ⟨{ L with fv := upN L.fv i v' }, { cell := (blk _ _ h.role (by simp) (by simp)).trans h.cell, role := keep _ _ h.role (by simp), ahead := h.ahead, now := ?_, nrole := ?_, old := ?_, orole := ?_, wait := ?_, wrole := ?_, files := ?_, top := ?_, ok := h.ok.setFile i f' ok }⟩, ?_, ?_⟩
  · exact h.now.same fun j hj => blk _ j (h.nrole j hj) (by simp) (by simp)
  · exact fun j hj => keep _ _ (h.nrole j hj) (by simp)
  · exact h.old.same fun j hj => blk _ j (h.orole j hj) (by simp) (by simp)
  · exact fun j hj => keep _ _ (h.orole j hj) (by simp)
  · exact row_same h.wait fun j hj => blk _ j (h.wrole j hj) (by simp) (by simp)
  · exact fun j hj => keep _ _ (h.wrole j hj) (by simp)
  · intro j g hj
    show FileAt _ _ j (L.fb j) (upN L.fv i v' j) g
    by_cases hij : j = i
    · subst hij
      have hlt : j < S.files.length := (List.getElem?_eq_some_iff.1 hi).1
      have : g = f' := by
        rw [List.getElem?_set_self hlt] at hj
        exact (Option.some.inj hj).symm
      subst this
      rw [upN_same]
      exact ⟨hc, keep _ _ hf.role (by simp), ho, fun k hk => if_pos hk⟩
    · have hj' : S.files[j]? = some g := by rwa [List.getElem?_set_ne (fun e => hij e.symm)] at hj
      have h1 := h.files j g hj'
      have hne : Role.file j ≠ Role.file i := fun e => hij (by injection e)
      have hne2 : Role.bytes j ≠ Role.bytes i := fun e => hij (by injection e)
      rw [upN_ne _ _ hij]
      exact ⟨(blk _ _ h1.role hne (by simp)).trans h1.cell, keep _ _ h1.role (by simp), row_same h1.own fun k hk => blk _ k (h1.brole k hk) (by simp) hne2, fun k hk => keep _ _ (h1.brole k hk) hne2⟩
  · intro j hj
    split at hj
    · rename_i e; exact row_lt ho j e
    · exact Nat.lt_of_lt_of_le (h.top j hj) u.size
  · refine u.mono fun j hj hf' => ?_
    rcases hf' with e | e
    · rw [e, hf.role]; simp
    · rw [hf.brole j e]; simp
  · intro j hj
    have hj' : (if v'.ownBlock = some j then some (Role.bytes i) else ρ j) ≠ none := hj
    clear hj
    split at hj'
    · rename_i e
      rcases hg j e with e1 | e1
      · exact .inl (by rw [hf.brole j e1]; simp)
      · exact .inr e1
    · rename_i e
      exact .inl hj'
theorem Fs.file_some {S : Fs} {i : Nat} (h : i < S.files.length) : S.files[i]? = some (S.file i) := by
  unfold Fs.file
  rw [List.getD_eq_getElem?_getD, List.getElem?_eq_getElem h]; rfl
set_option maxHeartbeats 2000000 in
set_option maxRecDepth 100000 in
theorem sync_any (w : World) (b : Nat) (ρ : Nat → Option Role) (S : Fs) (h : FsAt w b ρ S) (n : ByteArray) (hn : n.size ≤ maxLen) :
    Calls Try.prog 13 #[.pointer (some ⟨b, 0, none⟩), .string n] w (OpAt w b ρ (S.sync n)) := by
  have HB := Lib.hid (begin_any w b ρ S h)
  clear h
  go_enter Try.func13, Try.ntmps13
  go_wp2_with fail
  refine HB.out.mono ?_
  rintro e w1 ⟨rfl, hA, hU⟩
  have HA := Lib.hid hA
  have HU := Lib.hid hU
  clear hA hU
  obtain ⟨z, hz⟩ : ∃ z, dieN S = z := ⟨_, rfl⟩
  rw [hz]
  by_cases hd : S.dies = true
  · have hr : Hid (S.sync n = (7, S.begun)) := Lib.hid (by unfold Fs.sync; rw [if_pos hd])
    obtain rfl : z = 7 := by rw [← hz]; exact if_pos hd
    clear hz hd
    go_wp2_with fail
    go_ret
    exact OpAt.begun HA.out HU.out hr.out
  · obtain rfl : z = 0 := by rw [← hz]; exact if_neg hd
    clear hz
    obtain ⟨L, hL⟩ := HA.out
    have HL := Lib.hid hL
    have HF := Lib.hid (find_any w1 b ρ S.begun L hL n hn)
    clear hL
    go_wp2_with fail
    refine HF.out.mono ?_
    rintro e w' ⟨rfl, rfl⟩
    rw [nil_ptr]
    obtain ⟨o, ho⟩ : ∃ o, dget n S.begun.now = o := ⟨_, rfl⟩
    rw [ho]
    cases o with
    | none =>
      have hr : Hid (S.sync n = (3, S.begun)) := Lib.hid (by unfold Fs.sync; rw [if_neg hd, show dget n S.now = none from ho])
      clear ho hd
      go_wp2_with fail
      go_ret
      exact OpAt.begun HA.out HU.out hr.out
    | some i =>
      have hr : Hid (S.sync n = (0, { S.begun with files := S.files.set i ⟨(S.file i).bytes, (S.file i).bytes.length⟩ })) := Lib.hid (by unfold Fs.sync; rw [if_neg hd, show dget n S.now = some i from ho])
      have hil : i < S.files.length := HL.out.ok.inNow (n, i) ((dget_mem HL.out.ok.now).1 ho)
      have hfi : S.files[i]? = some (S.file i) := Fs.file_some hil
      have hf := HL.out.files i _ hfi
      obtain ⟨a, len, cap, hv, hlen, -, -⟩ := hf.own.form
      have hcell := hf.cell
      rw [hv] at hcell
      have c0 := (fil_cells hcell).c0
      have c1 := (fil_cells hcell).c1
      have f1 := (fil_cells hcell).free 1
      have HX : Hid (FsTo w b ρ (w1.setCell ⟨L.fb i, 1, none⟩ (.int .i64 (len : Int))) { S.begun with files := S.files.set i ⟨(S.file i).bytes, (S.file i).bytes.length⟩ }) := Lib.hid (by
        have u := (UpdF.refl (fun k => k = L.fb i ∨ (L.fv i).ownBlock = some k) w1).set (L.fb i) 1 (.int .i64 (len : Int)) (.inl rfl)
        refine (HL.out.setFile (f' := ⟨(S.file i).bytes, (S.file i).bytes.length⟩) (v' := L.fv i) hfi u ?_ ?_ (fun g hg => .inl hg) ⟨Nat.le_refl _, (HL.out.ok.file_bd i).2⟩).pre (HU.out.own HA.out.role) fun k hk => .inl hk
        · rw [cells_set hcell, hv, hlen]; rfl
        · refine row_same hf.own fun k hk => Below.heap_setCell _ _ _ _ fun e => ?_
          have h1 := hf.brole k hk
          have e' : k = L.fb i := e
          rw [e', hf.role] at h1; cases h1)
      clear ho hd hil hfi hf hv hcell hlen HL
      go_wp2_with fail
      go_ret
      unfold OpAt
      rw [hr.out]
      exact ⟨rfl, HX.out⟩
end Go.Proofs.Ytgeofgdhlbmciaa
