/- The walk of the law UtfLong. -/
import Derived.Test.YtcgknggmbfnpeaaUtfLaw2
import Derived.Test.YtcgknggmbfnpeaaSrc
import Derived.Deep.LoopGhost
namespace Go.Proofs.Ytcgknggmbfnpeaa
set_option linter.unusedVariables false
open Go.RowKit
theorem long2 (c : Int) (h0 : 0 ≤ c) (h1 : c < 128) (r : List UInt8) : (firstP (UInt8.ofNat (192 + c / 64).toNat :: UInt8.ofNat (128 + c % 64).toNat :: r)).2 = 0 := by
  rw [first_two _ _ c r (by omega) (by omega) (by omega) (by omega) (by omega), if_neg]
  rintro ⟨-, h⟩; unfold szI at h; rw [if_pos h1] at h; omega
theorem long3 (c : Int) (h0 : 0 ≤ c) (h1 : c < 2048) (r : List UInt8) : (firstP (UInt8.ofNat (224 : Int).toNat :: UInt8.ofNat (128 + c / 64).toNat :: UInt8.ofNat (128 + c % 64).toNat :: r)).2 = 0 := by
  rw [first_three _ _ _ c r (by omega) (by omega) (by omega) (by omega) (by omega) (by omega) (by omega), if_neg]
  rintro ⟨-, h⟩; unfold szI at h; split at h <;> (try split at h) <;> omega
theorem long4 (c : Int) (h0 : 0 ≤ c) (h1 : c ≤ 65535) (r : List UInt8) : (firstP (UInt8.ofNat (240 : Int).toNat :: UInt8.ofNat (128 + c / 4096).toNat :: UInt8.ofNat (128 + c / 64 % 64).toNat :: UInt8.ofNat (128 + c % 64).toNat :: r)).2 = 0 := by
  rw [first_four _ _ _ _ c r (by omega) (by omega) (by omega) (by omega) (by omega) (by omega) (by omega) (by omega) (by omega), if_neg]
  rintro ⟨-, h⟩; unfold szI at h; split at h <;> (try split at h) <;> (try split at h) <;> omega
/-- Some bytes that begin with no character. -/
def BadS (s : ByteArray) : Prop := 0 < s.size ∧ s.size ≤ 4 ∧ (firstP s.data.toList).2 = 0
theorem bad2 (c : Int) (h0 : 0 ≤ c) (h1 : c < 128) : BadS (strOfNums [192 + c / 64, 128 + c % 64]) := ⟨by rw [strOfNums_size]; simp, by rw [strOfNums_size]; simp, long2 c h0 h1 []⟩
theorem bad3 (c : Int) (h0 : 0 ≤ c) (h1 : c < 2048) : BadS (strOfNums [224, 128 + c / 64, 128 + c % 64]) := ⟨by rw [strOfNums_size]; simp, by rw [strOfNums_size]; simp, long3 c h0 h1 []⟩
theorem bad4 (c : Int) (h0 : 0 ≤ c) (h1 : c ≤ 65535) : BadS (strOfNums [240, 128 + c / 4096, 128 + c / 64 % 64, 128 + c % 64]) := ⟨by rw [strOfNums_size]; simp, by rw [strOfNums_size]; simp, long4 c h0 h1 []⟩
theorem bad_first (s : ByteArray) (h : BadS s) (w : World) : Calls Try.prog 13 #[.string s] w fun e w' => e = .returned (.tuple #[.int .i64 (firstP s.data.toList).1, .int .i64 0]) ∧ w = w' := by
  have := first_any s (by unfold maxLen; have := h.2.1; omega) w
  rw [h.2.2] at this; exact this
theorem bad_read (s : ByteArray) (h : BadS s) (w : World) : Calls Try.prog 11 #[.string (⟨#[97]⟩ ++ s)] w (ReadRes w none) := by
  have e : ((⟨#[97]⟩ : ByteArray) ++ s).data.toList = 97 :: s.data.toList := by rw [ByteArray.data_append, Array.toList_append]; rfl
  have := read_any (⟨#[97]⟩ ++ s) (by have := h.2.1; rw [← size_toList, e, List.length_cons, size_toList]; omega) w
  rw [e, read_bad s.data.toList [] (by rw [size_toList]; exact h.1) h.2.2 97 (by decide)] at this
  exact this
theorem one_str (s : ByteArray) : ∀ u ∈ [Value.string s], u.oneCell' = true := by
  intro u hu; rw [List.mem_singleton.1 hu]; rfl
theorem elem_str : ElemOk Try.prog 38 9 16 (.string ByteArray.empty) := ⟨Try.underlying38, by kernel_rfl, rfl⟩
set_option maxHeartbeats 1000000 in
set_option maxRecDepth 100000 in
theorem utfLong_walk (w : World) (c : Int) (hc : (Lit.int .i64 c).wf = true) :
    Calls Try.prog 7 #[.int .i64 c] w fun e w' => e = .returned (.bool true) ∧ Below w.heap.size w w' := by
  clear hc
  by_cases hr : c < 0 ∨ 65535 < c
  · by_cases h0 : c < 0
    · clear hr
      go_enter Try.func7, Try.ntmps7
      go_wp2_with fail
      refine (begun_any _).mono ?_
      rintro e w1 ⟨rfl, hb1⟩
      go_wp2
      go_ret
      exact ⟨rfl, hb1⟩
    · have h1 : 65535 < c := by omega
      clear hr
      go_enter Try.func7, Try.ntmps7
      go_wp2_with fail
      refine (begun_any _).mono ?_
      rintro e w1 ⟨rfl, hb1⟩
      go_wp2
      go_ret
      exact ⟨rfl, hb1⟩
  · have h0 : 0 ≤ c := by omega
    have h1 : c ≤ 65535 := by omega
    clear hr
    go_enter Try.func7, Try.ntmps7
    go_wp2_with fail
    refine (begun_any _).mono ?_
    rintro e w1 ⟨rfl, hb1⟩
    go_upto_if 20 with fail
    go_cut [4] (fun l wx => ∃ ss : List ByteArray, ss.length ≤ 1 ∧ (∀ s ∈ ss, BadS s) ∧ OwnV 9 w1.heap.size wx l (ss.map Value.string) ∧ Below w1.heap.size w1 wx)
    case first =>
      by_cases k : c < 128
      · have hcv := fun w : World => conv2 w (192 + c / 64) (128 + c % 64)
        go_wp2_with (at_builtin; refine wp_appH elem_str _ _ (by rfl) (by rfl) (by rfl) (OwnV.nil 9 w1.heap.size _) [_] 1 _ rfl (by rfl) ?c1 (by decide) ?c2 ?c3 ?c4 ?c5 ?_)
        case c1 => simp
        case c2 => exact one_str _
        case c3 => simp
        case c4 => simp [maxLen]
        case c5 => simp
        intro v' w2 hown2 hb2
        go_wp2
        go_meet
        exact ⟨[strOfNums [192 + c / 64, 128 + c % 64]], by simp, by simpa using bad2 c h0 k, hown2, ((Below.refl _ _).alloc (Nat.le_refl _) _).trans hb2⟩
      · go_wp2
        go_meet
        exact ⟨[], by simp, by simp, OwnV.nil _ _ _, Below.refl _ _⟩
    case rest =>
      obtain ⟨ss, hl1, hbad1, hown1, hb2⟩ := hcut
      have HBAD1 := Lib.hid hbad1
      have HO1 := Lib.hid hown1
      have hb2s := hb2.size
      clear hbad1 hown1
      go_upto_if 35 with fail
      go_cut [4] (fun l wx => ∃ ss : List ByteArray, ss.length ≤ 2 ∧ (∀ s ∈ ss, BadS s) ∧ OwnV 9 w1.heap.size wx l (ss.map Value.string) ∧ Below w1.heap.size w1 wx)
      case first =>
        by_cases k : c < 2048
        · rename_i wc _ _
          have hcv := fun w : World => conv3 w 224 (128 + c / 64) (128 + c % 64)
          go_wp2_with (at_builtin; refine wp_appH elem_str _ _ (by rfl) (by rfl) (by rfl) (HO1.out.below ((Below.refl _ _).alloc (Nat.le_refl _) _)) [_] 1 _ rfl (by rfl) ?c1 (by decide) ?c2 ?c3 ?c4 ?c5 ?_)
          case c1 => simp
          case c2 => exact one_str _
          case c3 => simp; omega
          case c4 => simp [maxLen]; omega
          case c5 => simp; omega
          intro v' w2 hown2 hb3
          go_wp2
          go_meet
          exact ⟨ss ++ [strOfNums [224, 128 + c / 64, 128 + c % 64]], by simp; omega, by
            intro s hs
            rcases List.mem_append.1 hs with h | h
            · exact HBAD1.out s h
            · rw [List.mem_singleton.1 h]; exact bad3 c h0 k, by rw [List.map_append]; exact hown2, (hb2.alloc hb2s _).trans hb3⟩
        · go_wp2
          go_meet
          exact ⟨ss, by omega, HBAD1.out, HO1.out, hb2⟩
      case rest =>
        clear HBAD1 HO1 hb2 hb2s hl1
        obtain ⟨ss, hl1, hbad1, hown1, hb2⟩ := hcut
        have HBAD1 := Lib.hid hbad1
        have HO1 := Lib.hid hown1
        have hb2s := hb2.size
        clear hbad1 hown1
        have hcv := fun w : World => conv4 w 240 (128 + c / 4096) (128 + c / 64 % 64) (128 + c % 64)
        go_wp2_with (at_builtin; refine wp_appH elem_str _ _ (by rfl) (by rfl) (by rfl) (HO1.out.below ((Below.refl _ _).alloc (Nat.le_refl _) _)) [_] 1 _ rfl (by rfl) ?c1 (by decide) ?c2 ?c3 ?c4 ?c5 ?_)
        case c1 => simp
        case c2 => exact one_str _
        case c3 => simp; omega
        case c4 => simp [maxLen]; omega
        case c5 => simp; omega
        intro v' w2 hown2 hb3
        have HBAD : Hid (∀ s ∈ ss ++ [strOfNums [240, 128 + c / 4096, 128 + c / 64 % 64, 128 + c % 64]], BadS s) := Lib.hid (by
            intro s hs
            rcases List.mem_append.1 hs with h | h
            · exact HBAD1.out s h
            · rw [List.mem_singleton.1 h]; exact bad4 c h0 h1)
        have hl3 : (ss ++ [strOfNums [240, 128 + c / 4096, 128 + c / 64 % 64, 128 + c % 64]]).length ≤ 3 := by simp; omega
        have hbb := hb1.trans (((hb2.alloc hb2s (.cells #[.int .u8 240, .int .u8 (128 + c / 4096), .int .u8 (128 + c / 64 % 64), .int .u8 (128 + c % 64)] 5)).trans hb3).mono hb1.size)
        have hRD : RdV w2 v' ((ss ++ [strOfNums [240, 128 + c / 4096, 128 + c / 64 % 64, 128 + c % 64]]).map Value.string) := by
          have := hown2.rd; rw [List.map_append]; exact this
        have hl0 : 0 < (ss ++ [strOfNums [240, 128 + c / 4096, 128 + c / 64 % 64, 128 + c % 64]]).length := by simp
        clear hown2 HBAD1 HO1 hb2 hb3 hb2s hb1 hcv hl1
        generalize ss ++ [strOfNums [240, 128 + c / 4096, 128 + c / 64 % 64, 128 + c % 64]] = l at *
        obtain ⟨b, off, cap, rfl, hcap, hbw, hcell⟩ : ∃ b off cap, v' = .slice (some ⟨b, off, none⟩) l.length cap ∧ l.length ≤ cap ∧ b < w2.heap.size ∧ ∀ k, k < l.length → w2.cell? ⟨b, off + k, none⟩ = some (.string (l.getD k ByteArray.empty)) := by
          rcases hRD with ⟨a, cap, h1, h2⟩ | ⟨b, off, cap, h1, h2, h3, h4, h5, h6⟩
          · rw [List.map_eq_nil_iff.1 h2] at hl0; simp at hl0
          · rw [List.length_map] at h1 h2 h3 h6
            refine ⟨b, off, cap, h1, h3, h5, fun k hk => ?_⟩
            rw [h6 k hk, List.getD_eq_getElem?_getD, List.getD_eq_getElem?_getD, List.getElem?_map, List.getElem?_eq_getElem hk]; rfl
        have HC := Lib.hid hcell
        clear hcell hRD
        have HBK : Hid (∀ k, k < l.length → BadS (l.getD k ByteArray.empty)) := Lib.hid fun k hk => by
          rw [List.getD_eq_getElem?_getD, List.getElem?_eq_getElem hk]; exact HBAD.out _ (List.getElem_mem hk)
        clear HBAD
        generalize l.length = n at *
        go_wp2
        go_loopw [5] (fun i wr => ∃ k : Nat, i = .int .i64 k ∧ k ≤ n ∧ Below w2.heap.size w2 wr) (fun i _ => n - (intOf i).toNat)
        case atStart => exact ⟨0, rfl, Nat.zero_le _, Below.refl _ _⟩
        case round =>
          obtain ⟨k, rfl, hk, hbel⟩ := hrel
          have hbs := hbel.size
          by_cases hlt : k < n
          · have hc : wr.cell? ⟨b, off + k, none⟩ = some (.string (l.getD k ByteArray.empty)) := by rw [hbel.cell hbw]; exact HC.out k hlt
            have hbd := HBK.out k hlt
            generalize l.getD k ByteArray.empty = s at *
            have HF : Hid (∀ w, Calls Try.prog 13 #[.string s] w fun e w' => e = .returned (.tuple #[.int .i64 (firstP s.data.toList).1, .int .i64 0]) ∧ w = w') := Lib.hid (bad_first s hbd)
            have HR : Hid (∀ w, Calls Try.prog 11 #[.string (⟨#[97]⟩ ++ s)] w (ReadRes w none)) := Lib.hid (bad_read s hbd)
            have hs4 := hbd.2.1
            generalize (firstP s.data.toList).1 = x at *
            clear hbd
            go_wp2_with fail
            refine (HF.out _).mono ?_
            rintro e w' ⟨rfl, rfl⟩
            go_wp2_with fail
            refine (HR.out _).mono ?_
            rintro e w5 ⟨hb5, rfl⟩
            have hbel2 := hbel.trans (hb5.mono hbs)
            clear hb5 HF HR
            go_wp2
            go_roundw
            case rel => exact ⟨k + 1, by go_num, hlt, hbel2⟩
            case measure => simp [intOf]; omega
          · obtain rfl : k = n := by omega
            have hfin := hbb.trans (hbel.mono hbb.size)
            clear hbb
            go_wp2
            go_ret
            exact ⟨rfl, hfin⟩
end Go.Proofs.Ytcgknggmbfnpeaa
