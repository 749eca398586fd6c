/- simfs' Spoil: a byte is changed. -/
import Derived.Test.YtgeofgdhlbmciaaFsRead
import Derived.Test.YtgeofgdhlbmciaaByStore
namespace Go.Proofs.Ytgeofgdhlbmciaa
set_option linter.unusedVariables false
open Go.RowKit Go.Maps
set_option maxHeartbeats 2000000 in
set_option maxRecDepth 100000 in
theorem spoil_any (w : World) (b : Nat) (ρ : Nat → Option Role) (S : Fs) (h : FsAt w b ρ S) (n : ByteArray) (hn : n.size ≤ maxLen) (k : Int) (x : UInt8) :
    Calls Try.prog 21 #[.pointer (some ⟨b, 0, none⟩), .string n, .int .i64 k, .int .u8 (x.toNat : Int)] w (OpAt w b ρ (S.spoil n k x)) := by
  have HA := Lib.hid h
  obtain ⟨L, hL⟩ := h
  have HL := Lib.hid hL
  have HF := Lib.hid (find_any w b ρ S L hL n hn)
  clear hL
  go_enter Try.func21, Try.ntmps21
  go_wp2_with fail
  refine HF.out.mono ?_
  rintro e w' ⟨rfl, rfl⟩
  rw [nil_ptr]
  obtain ⟨o, ho⟩ : ∃ o, dget n S.now = o := ⟨_, rfl⟩
  rw [ho]
  cases o with
  | none =>
    have hr : Hid (S.spoil n k x = (3, S)) := Lib.hid (by unfold Fs.spoil; rw [ho])
    clear ho
    go_wp2_with fail
    go_ret
    unfold OpAt
    rw [hr.out]
    exact ⟨rfl, HA.out.to⟩
  | some i =>
    have hil : i < S.files.length := HL.out.ok.inNow (n, i) ((dget_mem HL.out.ok.now).1 ho)
    have hfi : S.files[i]? = some (S.file i) := Fs.file_some hil
    have hf := HL.out.files i _ hfi
    have hR : Hid (S.spoil n k x = if k < 0 ∨ (S.file i).bytes.length ≤ k then (9, S) else (0, { S with files := S.files.set i ⟨(S.file i).bytes.set k.toNat ((S.file i).bytes.getD k.toNat 0 ^^^ x), (S.file i).synced⟩ })) := Lib.hid (by unfold Fs.spoil; rw [ho])
    obtain ⟨fa, fl, fc, hfv, hlen, hlc, hcm⟩ := hf.own.form
    have hcell := hf.cell
    rw [hfv] at hcell
    have c0 := (fil_cells hcell).c0
    by_cases h0 : k < 0
    · have hr : Hid (S.spoil n k x = (9, S)) := Lib.hid (by rw [hR.out, if_pos (.inl h0)])
      clear hf hcell hfv ho hfi hil hlen
      go_wp2_with fail
      go_ret
      unfold OpAt
      rw [hr.out]
      exact ⟨rfl, HA.out.to⟩
    · by_cases h1 : (fl : Int) ≤ k
      · have hr : Hid (S.spoil n k x = (9, S)) := Lib.hid (by rw [hR.out, if_pos (.inr (by rw [← hlen]; exact h1))])
        have h0' : ¬ k < 0 := h0
        have h1' : k ≥ (fl : Int) := h1
        clear hf hcell hfv ho hfi hil hlen
        go_wp2_with fail
        go_ret
        unfold OpAt
        rw [hr.out]
        exact ⟨rfl, HA.out.to⟩
      · have hr : Hid (S.spoil n k x = (0, { S with files := S.files.set i ⟨(S.file i).bytes.set k.toNat ((S.file i).bytes.getD k.toNat 0 ^^^ x), (S.file i).synced⟩ })) := Lib.hid (by rw [hR.out, if_neg (by rw [← hlen]; omega)])
        obtain ⟨j, rfl⟩ : ∃ j : Nat, k = (j : Int) := ⟨k.toNat, by omega⟩
        have hj : j < (S.file i).bytes.length := by omega
        obtain ⟨g, cap, e1, -, hg, -, -, c1, f1⟩ := hf.own.place j hj
        rw [hfv] at e1
        simp only [Value.slice.injEq] at e1
        obtain ⟨rfl, rfl, rfl⟩ := e1
        obtain ⟨y, hy⟩ : ∃ y, (S.file i).bytes.getD j 0 = y := ⟨_, rfl⟩
        have hxor : bits .xor .u8 (y.toNat : Int) (x.toNat : Int) = ((y ^^^ x).toNat : Int) := by rw [u8_xor_nat y.toNat x.toNat y.toNat_lt x.toNat_lt, UInt8.toNat_xor]
        have HX : Hid (FsTo w b ρ (w.setCell ⟨g, j, none⟩ (.int .u8 ((y ^^^ x).toNat : Int))) { S with files := S.files.set i ⟨(S.file i).bytes.set j (y ^^^ x), (S.file i).synced⟩ }) := Lib.hid (by
          have u : UpdF (fun k => k = L.fb i ∨ (L.fv i).ownBlock = some k) w (w.setCell ⟨g, j, none⟩ (bv (y ^^^ x))) := UpdF.set (UpdF.refl _ _) _ _ _ (.inr (by rw [hfv]; rfl))
          have hgb : L.fb i ≠ g := fun e => by
            have h1 := hf.brole g (by rw [hfv]; rfl)
            rw [← e, hf.role] at h1; cases h1
          have ho2 := OwnB.set (by have := hf.own; rw [hfv] at this; exact this) j (y ^^^ x)
          refine HL.out.setFile (f' := ⟨(S.file i).bytes.set j (y ^^^ x), (S.file i).synced⟩) (v' := L.fv i) hfi u ?_ ?_ (fun g hg => .inl hg) ?_
          · rw [Below.heap_setCell _ _ _ _ hgb]; exact hf.cell
          · rw [hfv]; exact ho2
          · have := HL.out.ok.file_bd i
            simpa using this)
        have HR2 : Hid (S.spoil n (j : Int) x = (0, { S with files := S.files.set i ⟨(S.file i).bytes.set j (y ^^^ x), (S.file i).synced⟩ })) := Lib.hid (by rw [hr.out, ← hy]; rfl)
        rw [hy] at c1
        have hjl : j < (S.file i).bytes.length := hj
        obtain ⟨fl, hfl⟩ : ∃ fl, (S.file i).bytes.length = fl := ⟨_, rfl⟩
        rw [hfl] at c0 hjl
        have h2 : ¬ (j : Int) ≥ (fl : Int) := by omega
        have h3 : (j : Int) < (fl : Int) := by omega
        clear hf hcell hfv ho hfi hil hlen hR hr hy hj h1 hlc hfl
        go_wp2_with fail
        go_ret
        unfold OpAt
        rw [HR2.out]
        exact ⟨rfl, HX.out⟩
end Go.Proofs.Ytgeofgdhlbmciaa
