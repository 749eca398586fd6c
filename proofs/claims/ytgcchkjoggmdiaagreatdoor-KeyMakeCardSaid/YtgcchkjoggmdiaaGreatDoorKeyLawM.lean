/- The walk of the law KeyMake. -/
import Derived.Test.YtgcchkjoggmdiaaGreatDoorMKey
import Derived.Deep.DeepCutAuto
import Derived.Deep.CutBlock
import Derived.Deep.OwnRows
namespace Go.Proofs.YtgcchkjoggmdiaaGreatDoor
set_option linter.unusedVariables false
open Go.RowKit
set_option maxHeartbeats 1000000 in
theorem rkey_any (s : ByteArray) (hs : s.size ≤ maxLen) (w : World) :
    Calls Tryz.prog 7 #[.string s] w (TextRes w (keyP s.data.toList)) := by
  by_cases h : 0 < s.size
  · have hemp := isEmpty_no h
    by_cases h2 : 4096 < s.size
    · have hd : decide (4096 < s.size) = true := decide_eq_true h2
      have HK := Lib.hid (keyP_long h2)
      unfold maxLen at hs
      go_enter Tryz.func7, Tryz.ntmps7
      go_wp2
      go_ret2
      exact ⟨by rw [HK.out]; rfl, Below.refl _ _⟩
    · have hd : decide (4096 < s.size) = false := decide_eq_false h2
      have HT : Hid (∀ w, Calls Tryz.prog 13 #[.string s] w (TextRes w (textP s.data.toList))) := Lib.hid fun w => rtext_any s w (short_of (by rw [size_toList]; omega))
      rw [keyP_text h h2]
      unfold maxLen at hs
      generalize textP s.data.toList = r at *
      go_enter Tryz.func7, Tryz.ntmps7
      go_wp2_with fail
      refine (HT.out _).mono ?_
      rintro e w1 ⟨rfl, hb⟩
      go_wp2_with fail
      go_ret2
      exact ⟨rfl, hb⟩
  · have hemp := isEmpty_yes h
    have HK := Lib.hid (keyP_nil h)
    unfold maxLen at hs
    go_enter Tryz.func7, Tryz.ntmps7
    go_wp2
    go_ret2
    exact ⟨by rw [HK.out]; rfl, Below.refl _ _⟩
theorem keyP_len {l A : List UInt8} (h : keyP l = some A) : A.length ≤ maxLen := by
  unfold keyP at h
  split at h
  · cases h
  · rename_i hn
    cases hr : readP l with
    | none => rw [text_none l hr] at h; cases h
    | some xs =>
      obtain ⟨bs, e1, e2, e3⟩ := text_some l xs hr
      rw [h] at e2; cases e2
      have h1 := read_len l xs hr
      have h2 := flat_len xs
      have h5 := chars_len xs
      have h3 : ∀ (L : List Int) (bs : List UInt8), writeP L = some bs → bs.length ≤ 4 * L.length := by
        intro L
        induction L with
        | nil => intro bs h; simp [writeP] at h; simp [h]
        | cons c L ih =>
          intro bs h
          unfold writeP at h
          split at h
          · obtain ⟨b', e, rfl⟩ := Option.map_eq_some_iff.1 h
            have := ih b' e
            have := enc_le c
            rw [List.length_append, List.length_cons]; omega
          · cases h
      have := h3 _ _ e1
      unfold maxLen; omega
/-- 'string(make([]byte, n))'. -/
theorem conv_zeros (w : World) (n : Nat) (hn : 0 < n) : (convert 24 9 (.slice (some ⟨w.heap.size, 0, none⟩) n n)).run Tryz.prog (w.alloc (.cells (madeCells #[.int .u8 0] n) 5)) = .ok (.string (strOfNums (List.replicate n 0))) (w.alloc (.cells (madeCells #[.int .u8 0] n) 5)) := by
  refine run_convert_bytes_arg _ 24 5 Tryz.underlying24 Tryz.underlying5 w.heap.size 0 n n (List.replicate n 0) (by simp) ?_ 9 Tryz.underlying9
  intro i hi
  unfold World.cell?
  rw [heap_alloc_new]
  have e : (madeCells #[.int .u8 0] n)[i]? = some (Value.int .u8 0) := by
    rw [← Array.getElem?_toList, toList_madeCells_one]; simp [hi]
  simp [e, hi, List.getD_eq_getElem?_getD]
theorem zeros_size (n : Nat) : (strOfNums (List.replicate n 0)).size = n := by
  unfold strOfNums; show (List.map _ _).toArray.size = n; simp
set_option maxHeartbeats 4000000 in
set_option maxRecDepth 100000 in
theorem keyMake_walk (w : World) (hE : ErrAt w) (hSp : SpAt w) (s : ByteArray) (hs : s.size ≤ maxLen) (more : Int) (hm : (Lit.int .i64 more).wf = true) :
    Calls Tryz.prog 3 #[.string s, .int .i64 more] w fun e w' => e = .returned (.bool true) ∧ Below w.heap.size w w' := by
  have HES : Hid (∀ w', Below w.heap.size w w' → ErrAt w' ∧ SpAt w') := Lib.hid fun w' hb => ⟨hE.below hb, hSp.below hb hSp.1⟩
  have HB := Lib.hid (kbegun_any w hE hSp)
  have HC1 : Hid (∀ w, Calls Tryz.prog 5 #[.string s, .int .i64 100] w fun e w' => ∃ t : ByteArray, e = .returned (.string t) ∧ t.size ≤ 100 ∧ w = w') := Lib.hid (cut_any s 100 (by omega) hs)
  clear hE hSp hs hm
  go_enter Tryz.func3, Tryz.ntmps3
  go_wp2_with fail
  refine HB.out.mono ?_
  rintro e w1 ⟨rfl, hb1⟩
  have HB1 := Lib.hid hb1
  clear hb1 HB
  go_wp2_with fail
  refine (HC1.out _).mono ?_
  rintro e w' ⟨t, rfl, ht, rfl⟩
  clear HC1
  go_upto_region 5 with fail
  go_cut [20] (fun l wx => ∃ q : Bool, l = .bool q ∧ w1 = wx ∧ Hid (q = true → 0 < more ∧ more < 5000))
  case first =>
    by_cases h0 : 0 < more
    · by_cases h5 : more < 5000
      · go_wp2_with fail
        go_meet
        exact ⟨_, rfl, rfl, Lib.hid fun _ => ⟨h0, h5⟩⟩
      · go_wp2_with fail
        go_meet
        exact ⟨_, rfl, rfl, Lib.hid fun h => by cases h⟩
    · go_wp2_with fail
      go_meet
      exact ⟨_, rfl, rfl, Lib.hid fun h => by cases h⟩
  case rest =>
  obtain ⟨q, rfl, rfl, HQ⟩ := hcut
  go_upto_if 20 with fail
  go_cut [0] (fun l wx => ∃ s : ByteArray, l = .string s ∧ s.size ≤ 6000 ∧ Hid (Below w.heap.size w wx))
  case first =>
    cases q with
    | true =>
      obtain ⟨h0, h5⟩ := HQ.out rfl
      obtain ⟨n, rfl⟩ := Int.eq_ofNat_of_zero_le (show 0 ≤ more by omega)
      have hmk := run_make_row' (P := Tryz.prog) 24 5 (.int .u8 0) 1 Tryz.underlying24 (by kernel_rfl) rfl .i64 .i64 n (by omega) (by omega)
      have hcv := conv_zeros w1 n (by omega)
      have hzs := zeros_size n
      have HZ : Hid ((t ++ strOfNums (List.replicate n 0)).size ≤ 6000) := Lib.hid (by rw [ByteArray.size_append, hzs]; omega)
      go_wp2_with fail
      go_meet
      exact ⟨_, rfl, HZ.out, Lib.hid (HB1.out.alloc HB1.out.size _)⟩
    | false =>
      go_wp2_with fail
      go_meet
      exact ⟨_, rfl, by omega, HB1⟩
  case rest =>
  obtain ⟨s, rfl, hs, HB2⟩ := hcut
  clear HB1 ht
  have hsm : s.size ≤ maxLen := by unfold maxLen; omega
  have HM := Lib.hid (make_any s hsm wc (HES.out _ HB2.out).1 (HES.out _ HB2.out).2)
  have HK : Hid (∀ w, Calls Tryz.prog 7 #[.string s] w (TextRes w (keyP s.data.toList))) := Lib.hid (rkey_any s hsm)
  have HLEN : Hid (∀ A, keyP s.data.toList = some A → A.length ≤ maxLen) := Lib.hid fun A h => keyP_len h
  generalize keyP s.data.toList = r at *
  clear HES
  cases r with
  | none =>
    go_wp2_with fail
    refine HM.out.mono ?_
    rintro e w2 ⟨rfl, hb2⟩
    have hal : Below w.heap.size w (w2.alloc (.cells #[.string ⟨#[]⟩, .string ⟨#[]⟩] 26)) := (HB2.out.trans (hb2.mono HB2.out.size)).alloc (Nat.le_trans HB2.out.size hb2.size) _
    have HAL := Lib.hid hal
    clear hb2 HB2 HM hal
    go_wp2_with fail
    refine (HK.out _).mono ?_
    rintro e w3 ⟨rfl, hb3⟩
    have hb3' : Below (w2.heap.size + 1) (w2.alloc (.cells #[.string ⟨#[]⟩, .string ⟨#[]⟩] 26)) w3 := hb3.mono (by simp)
    have HB3 := Lib.hid (HAL.out.trans (hb3.mono HAL.out.size))
    obtain ⟨⟨c0, c1⟩, ⟨f0, f1⟩, hz⟩ := blk2 hb3'
    clear hb3 hb3' HK HAL
    go_wp2_with fail
    go_ret
    exact ⟨rfl, HB3.out⟩
  | some A =>
    have hA := HLEN.out A rfl
    obtain ⟨h, hh⟩ : ∃ h, hashL A = h := ⟨_, rfl⟩
    have HH : Hid (∀ w, Calls Tryz.prog 8 #[.string ⟨A.toArray⟩] w fun e w' => e = .returned (.int .u64 h) ∧ w = w') := Lib.hid fun w => by
      refine (khash_any ⟨A.toArray⟩ (by rw [← size_toList]; exact hA) w).mono ?_
      rintro e w' ⟨rfl, rfl⟩; exact ⟨by rw [← hh], rfl⟩
    have HH2 : Hid (∀ w, Calls Tryz.prog 9 #[.string ⟨A.toArray⟩] w fun e w' => e = .returned (.int .u64 h) ∧ w = w') := Lib.hid fun w => by
      refine (krhash_any ⟨A.toArray⟩ (by rw [← size_toList]; exact hA) w).mono ?_
      rintro e w' ⟨rfl, rfl⟩; exact ⟨by rw [← hh], rfl⟩
    have HM2 : Hid (Calls Tryz.prog 6 #[.string s] wc fun e w' => e = .returned (.tuple #[.agg #[.string ⟨A.toArray⟩, .string s], .int .i64 0]) ∧ Below wc.heap.size wc w') := HM
    have HK2 : Hid (∀ w, Calls Tryz.prog 7 #[.string s] w fun e w' => e = .returned (.tuple #[.string ⟨A.toArray⟩, .bool true]) ∧ Below w.heap.size w w') := HK
    obtain ⟨c, hc⟩ : ∃ c : ByteArray, (⟨A.toArray⟩ : ByteArray) = c := ⟨_, rfl⟩
    rw [hc] at HM2 HK2 HH HH2
    clear HM HK HLEN hA hh hc
    go_wp2_with fail
    refine HM2.out.mono ?_
    rintro e w2 ⟨rfl, hb2⟩
    have hal : Below w.heap.size w (w2.alloc (.cells #[.string c, .string s] 26)) := (HB2.out.trans (hb2.mono HB2.out.size)).alloc (Nat.le_trans HB2.out.size hb2.size) _
    have HAL := Lib.hid hal
    clear hb2 HB2 HM2 hal
    go_wp2_with fail
    refine (HK2.out _).mono ?_
    rintro e w3 ⟨rfl, hb3⟩
    have hb3' : Below (w2.heap.size + 1) (w2.alloc (.cells #[.string c, .string s] 26)) w3 := hb3.mono (by simp)
    have HB3 := Lib.hid (HAL.out.trans (hb3.mono HAL.out.size))
    obtain ⟨⟨c0, c1⟩, ⟨f0, f1⟩, hz⟩ := blk2 hb3'
    clear hb3 hb3' HK2 HAL
    go_wp2_with fail
    refine (HH.out _).mono ?_
    rintro e w' ⟨rfl, rfl⟩
    go_wp2_with fail
    refine (HH2.out _).mono ?_
    rintro e w' ⟨rfl, rfl⟩
    go_wp2_with fail
    go_ret
    exact ⟨rfl, HB3.out⟩
end Go.Proofs.YtgcchkjoggmdiaaGreatDoor
