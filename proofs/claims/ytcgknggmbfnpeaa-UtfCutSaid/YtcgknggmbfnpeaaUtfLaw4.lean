/- The walk of the law UtfCut. -/
import Derived.Test.YtcgknggmbfnpeaaUtfLaw2
namespace Go.Proofs.Ytcgknggmbfnpeaa
set_option linter.unusedVariables false
open Go.RowKit
theorem writeP_one (c : Int) : writeP [c] = if vldB c = true then some (encP c) else none := by
  unfold writeP
  split
  · simp [writeP]
  · rfl
theorem rd_newW (w : World) (c : Int) : ∀ w', w' = w.alloc (.cells #[.int .i64 c] 3) → RdI w' (.slice (some ⟨w.heap.size, 0, none⟩) 1 1) [c] := fun w' e => by subst e; exact rd_new w c
set_option maxHeartbeats 1000000 in
set_option maxRecDepth 100000 in
theorem utfCut_walk (w : World) (s : ByteArray) (hs : s.size ≤ maxLen) (c : Int) (_hc : (Lit.int .i64 c).wf = true) (q : Int) (hq : (Lit.int .i64 q).wf = true) :
    Calls Try.prog 6 #[.string s, .int .i64 c, .int .i64 q] w fun e w' => e = .returned (.bool true) ∧ Below w.heap.size w w' := by
  have HCut : Hid (∀ w, Calls Try.prog 10 #[.string s, .int .i64 60] w fun e w' => ∃ t : ByteArray, e = .returned (.string t) ∧ t.size ≤ 60 ∧ w = w') := Lib.hid (cut_any s 60 (by omega) hs)
  clear hs _hc hq
  go_enter Try.func6, Try.ntmps6
  go_wp2_with fail
  refine (begun_any _).mono ?_
  rintro e w1 ⟨rfl, hb1⟩
  go_wp2_with fail
  refine (HCut.out _).mono ?_
  rintro e w' ⟨t, rfl, ht, rfl⟩
  have HB : Hid (∀ w, Calls Try.prog 12 #[.string t] w (ReadRes w (readP t.data.toList))) := Lib.hid (rread_any t (by omega))
  go_wp2_with fail
  refine (HB.out _).mono ?_
  intro e w2 hr
  obtain ⟨v, rfl, hv, hb2⟩ := hr.cases
  clear hr HB
  have HW : Hid (Calls Try.prog 17 #[.slice (some ⟨w2.heap.size, 0, none⟩) 1 1] (w2.alloc (.cells #[.int .i64 c] 3)) (WriteRes (w2.alloc (.cells #[.int .i64 c] 3)) (if vldB c = true then some (encP c) else none))) := Lib.hid (by
    rw [← writeP_one]; exact rwrite_any _ [c] (by show 1 ≤ 10000; omega) _ (rd_new w2 c))
  go_wp2_with fail
  refine HW.out.mono ?_
  intro e w3 hr
  obtain ⟨rfl, hb3⟩ := hr.cases
  clear hr HW
  have hv3 : Hid (RdI w3 v ((readP t.data.toList).getD [])) := Lib.hid (RdV.below hv (((Below.refl _ _).alloc (Nat.le_refl _) _).trans (hb3.mono (by simp))))
  have hb13 : Below w.heap.size w w3 := ((hb1.trans (hb2.mono hb1.size)).alloc (Nat.le_trans hb1.size hb2.size) (.cells #[.int .i64 c] 3)).trans (hb3.mono (by simp; have := Nat.le_trans hb1.size hb2.size; omega))
  clear hb1 hb2 hb3 hv HCut
  cases hq1 : readP t.data.toList with
  | none =>
    clear hq1
    cases hvc : vldB c with
    | false =>
      clear hvc
      go_wp2
      go_ret
      exact ⟨rfl, hb13⟩
    | true =>
      clear hvc
      go_wp2
      go_ret
      exact ⟨rfl, hb13⟩
  | some ms =>
    rw [hq1] at hv3
    have hml := readP_len t.data.toList
    rw [hq1, size_toList] at hml
    have hml2 : ms.length ≤ 60 := Nat.le_trans hml ht
    clear hml
    cases hvc : vldB c with
    | false =>
      clear hq1 hvc
      go_wp2
      go_ret
      exact ⟨rfl, hb13⟩
    | true =>
      have he4 := enc_le c
      have HAPP : Hid (∀ r, readP (t.data.toList ++ r) = (readP r).map (ms ++ ·)) := Lib.hid fun r => read_app _ r ms hq1
      have HCUT : Hid (∀ k, 0 < k → k < (encP c).length → readP ((encP c).take k) = none) := Lib.hid (read_cut c hvc)
      have HENC : Hid (readP (encP c) = some [c]) := Lib.hid (by have := read_enc c hvc []; rwa [List.append_nil, readP_nil] at this)
      clear hq1 hvc
      generalize encP c = bs at *
      by_cases k1 : q < 1
      · go_wp2
        go_ret
        exact ⟨rfl, hb13⟩
      · obtain ⟨j, rfl⟩ := Int.eq_ofNat_of_zero_le (show 0 ≤ q by omega)
        by_cases k2 : bs.length ≤ j
        · go_wp2
          go_ret
          exact ⟨rfl, hb13⟩
        · have hpos : 0 < bs.length - j := by omega
          have ed1 : (t ++ (⟨bs.toArray⟩ : ByteArray).extract 0 (bs.length - j)).data.toList = t.data.toList ++ bs.take (bs.length - j) := by
            rw [ByteArray.data_append, Array.toList_append, Lib.extract_data]; simp
          have ed2 : (t ++ (⟨bs.toArray⟩ : ByteArray)).data.toList = t.data.toList ++ bs := by
            rw [ByteArray.data_append, Array.toList_append]
          have HR1 : Hid (∀ w, Calls Try.prog 11 #[.string (t ++ (⟨bs.toArray⟩ : ByteArray).extract 0 (bs.length - j))] w (ReadRes w none)) := Lib.hid fun w => by
            have := read_any (t ++ (⟨bs.toArray⟩ : ByteArray).extract 0 (bs.length - j)) (by rw [← size_toList, ed1, List.length_append, size_toList, List.length_take]; omega) w
            rw [ed1, HAPP.out, HCUT.out _ hpos (by omega)] at this; exact this
          have HR2 : Hid (∀ w, Calls Try.prog 11 #[.string (t ++ (⟨bs.toArray⟩ : ByteArray))] w (ReadRes w (some (ms ++ [c])))) := Lib.hid fun w => by
            have := read_any (t ++ (⟨bs.toArray⟩ : ByteArray)) (by rw [← size_toList, ed2, List.length_append, size_toList]; omega) w
            rw [ed2, HAPP.out, HENC.out] at this; exact this
          clear ed1 ed2 HAPP HCUT HENC
          go_wp2_with fail
          refine (HR1.out _).mono ?_
          intro e w5 hr
          obtain ⟨v5, rfl, hv5, hb5⟩ := hr.cases
          clear hr HR1 hv5
          go_wp2_with fail
          refine (HR2.out _).mono ?_
          intro e w6 hr
          obtain ⟨v6, rfl, hv6, hb6⟩ := hr.cases
          clear hr HR2
          have hbb := (hb13.trans (hb5.mono hb13.size)).trans (hb6.mono (Nat.le_trans hb13.size hb5.size))
          obtain ⟨a, cap, rfl⟩ : ∃ a cap, v = .slice a ms.length cap := by
            rcases hv3.out.cases with ⟨a, cap, h1, h2⟩ | ⟨b, off, cap, h1, -⟩
            · simp only [Option.getD_some] at h2; subst h2; exact ⟨a, cap, h1⟩
            · exact ⟨_, _, h1⟩
          obtain ⟨b, off, cap2, rfl, hc6, hcap⟩ : ∃ b off cap, v6 = .slice (some ⟨b, off, none⟩) (ms.length + 1) cap ∧ w6.cell? ⟨b, off + ms.length, none⟩ = some (.int .i64 c) ∧ ms.length + 1 ≤ cap := by
            rcases hv6.cases with ⟨a, cap, h1, h2⟩ | ⟨b, off, cap, h1, h2, h3, h4, h5, h6⟩
            · simp at h2
            · simp only [Option.getD_some, List.length_append, List.length_cons, List.length_nil] at h1 h2 h3 h6
              refine ⟨b, off, cap, h1, ?_, h3⟩
              rw [h6 ms.length (by omega)]
              simp
          clear hv6 hv3 hb5 hb6 hb13
          have hll : (((ms.length : Int) + 1) == (ms.length : Int) + 1) = true := by simp
          have hcc : (c == c) = true := by simp
          generalize ms.length = n at *
          go_wp2
          go_ret
          exact ⟨rfl, hbb⟩
end Go.Proofs.Ytcgknggmbfnpeaa
