/- The law of filters: its begun and FilterMany. -/
import Derived.Test.YtlifmihkncejlaaBloomMay
namespace Go.Proofs.Ytlifmihkncejlaa
set_option linter.unusedVariables false
open Go.RowKit
theorem elem_text : ElemOk Try.prog 23 9 16 (.string ⟨#[]⟩) := ⟨Try.underlying23, by kernel_rfl, rfl⟩
theorem one_text (s : ByteArray) : ∀ u ∈ [Value.string s], u.oneCell' = true := by simp [Value.oneCell']
theorem filterB_len (hs : List Nat) : (filterB hs).length = bitsN hs.length / 8 + 1 := by unfold filterB; rw [List.length_append, filterF_len]; rfl
theorem filterB_last (hs : List Nat) : (filterB hs)[bitsN hs.length / 8]? = some 6 := by
  unfold filterB
  rw [List.getElem?_append_right (by rw [filterF_len]; exact Nat.le_refl _), filterF_len, Nat.sub_self]; rfl
theorem rd_one (w : World) (s : ByteArray) : RdV (w.alloc (.cells #[.string s] 9)) (.slice (some ⟨w.heap.size, 0, none⟩) 1 1) ([s].map Value.string) := by
  refine .inr ⟨w.heap.size, 0, 1, rfl, by simp, by simp, by decide, by simp, fun i hi => ?_⟩
  obtain rfl : i = 0 := by simp at hi; omega
  unfold World.cell?
  rw [heap_alloc_new]
  rfl
set_option maxHeartbeats 4000000 in
set_option maxRecDepth 100000 in
theorem bbegun_any (w : World) : Calls Try.prog 4 #[] w fun e w' => e = .returned (.bool true) ∧ Below w.heap.size w w' := by
  have HM : Hid (Calls Try.prog 5 #[.slice (some ⟨w.heap.size, 0, none⟩) 1 1] (w.alloc (.cells #[.string ⟨#[97, 98, 99]⟩] 9)) (MkB (filterB ([⟨#[97, 98, 99]⟩].map hashN)) (w.alloc (.cells #[.string ⟨#[97, 98, 99]⟩] 9)))) :=
    Lib.hid (make_any _ _ [⟨#[97, 98, 99]⟩] (rd_one w _) (by decide) (by decide))
  have hlen : (filterB ([(⟨#[97, 98, 99]⟩ : ByteArray)].map hashN)).length = 9 := by rw [filterB_len]; decide
  have hlast : (filterB ([(⟨#[97, 98, 99]⟩ : ByteArray)].map hashN))[8]? = some 6 := by
    have := filterB_last ([(⟨#[97, 98, 99]⟩ : ByteArray)].map hashN)
    rwa [show bitsN ([(⟨#[97, 98, 99]⟩ : ByteArray)].map hashN).length / 8 = 8 from by decide] at this
  have hmay : mayB (filterB ([(⟨#[97, 98, 99]⟩ : ByteArray)].map hashN)) (hashN ⟨#[97, 98, 99]⟩) = true := mayB_has (List.mem_singleton.2 rfl)
  generalize filterB ([(⟨#[97, 98, 99]⟩ : ByteArray)].map hashN) = F at HM hlen hlast hmay
  have HY : Hid (∀ v w, RdB w v F → Calls Try.prog 6 #[v, .string ⟨#[97, 98, 99]⟩] w fun e w' => e = .returned (.bool true) ∧ Below w.heap.size w w') := Lib.hid fun v w h => by
    have := may_any w v F h (by rw [hlen]; decide) ⟨#[97, 98, 99]⟩ (by decide)
    rwa [hmay] at this
  have HN : Hid (∀ w, Calls Try.prog 6 #[.slice none 0 0, .string ⟨#[120]⟩] w fun e w' => e = .returned (.bool true) ∧ Below w.heap.size w w') := Lib.hid fun w =>
    may_any w _ [] (RdB.nil _ _ _) (by decide) ⟨#[120]⟩ (by decide)
  clear hmay
  go_enter Try.func4, Try.ntmps4
  go_wp2_with fail
  refine HM.out.mono ?_
  rintro e w2 ⟨v, rfl, ho, hb⟩
  obtain ⟨a, n, cap, rfl, hn, -⟩ := ho.form
  rw [hlen] at hn
  subst hn
  obtain ⟨b, off, rfl, -, hc⟩ := ho.rd.at 8 6 hlast
  have hc6 : w2.cell? ⟨b, off + 8, none⟩ = some (.int .u8 6) := hc
  have HR := Lib.hid ho.rd
  have HB : Hid (Below w.heap.size w w2) := Lib.hid ((((Below.refl _ w).alloc (Nat.le_refl _) _)).trans (hb.mono (by simp)))
  clear ho hb hc hlen hlast HM
  go_wp2_with fail
  refine (HY.out _ _ HR.out).mono ?_
  rintro e w3 ⟨rfl, hb3⟩
  have HB3 := Lib.hid (HB.out.trans (hb3.mono HB.out.size))
  clear hb3
  go_wp2_with fail
  refine (HN.out _).mono ?_
  rintro e w4 ⟨rfl, hb4⟩
  have HB4 := Lib.hid (HB3.out.trans (hb4.mono HB3.out.size))
  clear hb4
  go_wp2_with fail
  go_ret
  exact ⟨rfl, HB4.out⟩
/-- A row of texts of the law's own. -/
structure TxS (w0 : World) (v : Value) (ls : List ByteArray) (w : World) : Prop where
  own : OwnV 9 w0.heap.size w v (ls.map Value.string)
  small : ∀ s ∈ ls, s.size ≤ maxLen
  below : Below w0.heap.size w0 w
set_option maxHeartbeats 4000000 in
set_option maxRecDepth 100000 in
theorem filterMany_walk (w : World) (z : Int) (hz : (Lit.int .i64 z).wf = true) :
    Calls Try.prog 3 #[.int .i64 z] w fun e w' => e = .returned (.bool true) ∧ Below w.heap.size w w' := by
  have HBG := Lib.hid (bbegun_any w)
  by_cases h0 : z < 0
  · have hd : decide (z < 0) = true := decide_eq_true h0
    go_enter Try.func3, Try.ntmps3
    go_wp2_with fail
    refine HBG.out.mono ?_
    rintro e w2 ⟨rfl, hb⟩
    go_wp2_with fail
    go_ret
    exact ⟨rfl, hb⟩
  by_cases h3 : 300 < z
  · have hd : decide (z < 0) = false := decide_eq_false h0
    have hd3 : decide (300 < z) = true := decide_eq_true h3
    go_enter Try.func3, Try.ntmps3
    go_wp2_with fail
    refine HBG.out.mono ?_
    rintro e w2 ⟨rfl, hb⟩
    go_wp2_with fail
    go_ret
    exact ⟨rfl, hb⟩
  obtain ⟨n, rfl⟩ : ∃ n : Nat, z = (n : Int) := ⟨z.toNat, by omega⟩
  have hn : n ≤ 300 := by omega
  have hd : decide ((n : Int) < 0) = false := decide_eq_false h0
  have hd3 : decide (300 < (n : Int)) = false := decide_eq_false h3
  go_enter Try.func3, Try.ntmps3
  go_wp2_with fail
  refine HBG.out.mono ?_
  rintro e w2 ⟨rfl, hb⟩
  have HT0 : Hid (TxS w (.slice none 0 0) [] w2) := Lib.hid ⟨OwnV.nil _ _ _, by simp, hb⟩
  clear hb HBG hz h0 h3
  go_wp2_with fail
  clear hd hd3
  have hnI : (n : Int) ≤ 300 := by omega
  go_loopg [4, 5] n (fun kk v vi wr => ∃ (i : Nat) (ls : List ByteArray) (a : Option Addr) (cap : Nat), v = .slice a i cap ∧ vi = .int .i64 (i : Int) ∧ i ≤ n ∧ kk + i = n ∧ ls.length = i ∧ Hid (TxS w (.slice a i cap) ls wr))
  case atStart => exact ⟨0, [], none, 0, rfl, rfl, by omega, by omega, rfl, HT0⟩
  case round =>
    clear HT0
    obtain ⟨i, ls, a, cap, rfl, rfl, hi, hkk, hls, HT⟩ := hrel
    by_cases hlt : i < n
    · have hd1 : decide ((i : Int) < (n : Int)) = true := by simp; omega
      have hiI : (i : Int) < 300 := by omega
      have HLS := Lib.hid hls
      clear hls
      obtain ⟨T, hT2, hcv⟩ : ∃ T : ByteArray, T.size = 2 ∧ ∀ W : World, (convert 24 9 (.slice (some ⟨W.heap.size, 0, none⟩) 2 2)).run Try.prog (W.alloc (.cells #[.int .u8 (97 + (i : Int) / 26), .int .u8 (97 + (i : Int) % 26)] 5)) = .ok (.string T) (W.alloc (.cells #[.int .u8 (97 + (i : Int) / 26), .int .u8 (97 + (i : Int) % 26)] 5)) := by
        refine ⟨⟨[UInt8.ofNat (97 + (i : Int) / 26).toNat, UInt8.ofNat (97 + (i : Int) % 26).toNat].toArray⟩, rfl, fun W => ?_⟩
        refine RdB.text (OwnB.lit W [UInt8.ofNat (97 + (i : Int) / 26).toNat, UInt8.ofNat (97 + (i : Int) % 26).toNat] _ 2 0 rfl (by decide) ?_ (Nat.zero_le _)).rd
        rw [List.map_cons, List.map_cons, bv_of _ (by omega) (by omega), bv_of _ (by omega) (by omega)]; rfl
      have hal : Below wr.heap.size wr (wr.alloc (.cells #[.int .u8 (97 + (i : Int) / 26), .int .u8 (97 + (i : Int) % 26)] 5)) := (Below.refl _ _).alloc (Nat.le_refl _) _
      go_wp2_with (at_builtin; refine wp_appH elem_text _ _ (by rfl) (by rfl) (by rfl) (HT.out.own.below hal) [_] 1 _ rfl (by rfl) ?c1 (by decide) ?c2 ?c3 ?c4 ?c5 ?_)
      case c1 => simp
      case c2 => exact one_text _
      case c3 => rw [List.length_map, HLS.out]; omega
      case c4 => rw [List.length_map, HLS.out]; simp [maxLen]; omega
      case c5 => exact Nat.le_trans HT.out.below.size (by simp)
      intro v' w3 ho3 hb3
      obtain ⟨a3, cap3, rfl⟩ : ∃ a3 cap3, v' = .slice a3 (i + 1) cap3 := by
        rcases OwnV.nilOr ho3 with ⟨-, e⟩ | ⟨g, c3, e, -⟩
        · simp at e
        · rw [List.length_append, List.length_map, HLS.out] at e
          exact ⟨_, _, e⟩
      have HT3 : Hid (TxS w (.slice a3 (i + 1) cap3) (ls ++ [⟨#[116, 101, 120, 116]⟩ ++ T]) w3) := Lib.hid (by
        refine ⟨by rw [List.map_append]; exact ho3, fun s hs => ?_, (HT.out.below.trans (hal.mono HT.out.below.size)).trans hb3⟩
        rcases List.mem_append.1 hs with h | h
        · exact HT.out.small s h
        · rw [List.mem_singleton.1 h, ByteArray.size_append, hT2]; decide)
      clear ho3 hb3 hcv hal HT
      go_wp2_with fail
      go_roundg (n - (i + 1))
      case measure => omega
      case rel => exact ⟨i + 1, _, a3, cap3, rfl, by go_num, by omega, by omega, by rw [List.length_append, HLS.out]; rfl, HT3⟩
    · obtain rfl : i = n := by omega
      have hd1 : decide ((i : Int) < (i : Int)) = false := by simp
      have HM := Lib.hid (make_any wr _ ls HT.out.own.rd (by omega) HT.out.small)
      have hlF : (filterB (ls.map hashN)).length = bitsN i / 8 + 1 := by rw [filterB_len, List.length_map, hls]
      have HY : Hid (∀ s ∈ ls, ∀ v w, RdB w v (filterB (ls.map hashN)) → Calls Try.prog 6 #[v, .string s] w fun e w' => e = .returned (.bool true) ∧ Below w.heap.size w w') := Lib.hid fun s hs v w h => by
        have := may_any w v _ h (by rw [hlF]; unfold bitsN; omega) s (HT.out.small s hs)
        rwa [mayB_has (List.mem_map.2 ⟨s, hs, rfl⟩)] at this
      generalize filterB (ls.map hashN) = F at HM hlF HY
      have HLS := Lib.hid hls
      clear hls
      go_wp2_with fail
      refine HM.out.mono ?_
      rintro e w3 ⟨v, rfl, ho, hb⟩
      obtain ⟨a2, len, cap2, rfl, hl2, -⟩ := ho.form
      rw [hlF] at hl2
      have hI : (len : Int) = (((bitsN i / 8 : Nat) : Int) + 1) := by rw [hl2]; rfl
      have hbn : bitsN i / 8 = (max 64 (10 * i) + 7) / 8 := by unfold bitsN; omega
      have hne : ((len : Int) != (if 64 < (10 * (i : Int) + 7) / 8 * 8 then (10 * (i : Int) + 7) / 8 * 8 else 64) / 8 + 1) = false := by
        rw [bne_eq_false_iff_eq, hI, hbn]
        split <;> omega
      have HR := Lib.hid ho.rd
      have HT3 : Hid (RdV w3 (.slice a i cap) (ls.map Value.string)) := Lib.hid (HT.out.own.rd.below hb)
      have HB : Hid (Below w.heap.size w w3) := Lib.hid (HT.out.below.trans (hb.mono HT.out.below.size))
      clear ho hb HM hl2 hlF hI hbn HT
      go_wp2_with fail
      all_goals
        go_loopg [7] i (fun kk vj wq => ∃ j : Nat, vj = .int .i64 (j : Int) ∧ j ≤ i ∧ kk + j = i ∧ Hid (Below w3.heap.size w3 wq))
        case atStart => exact ⟨0, rfl, by omega, by omega, Lib.hid (Below.refl _ _)⟩
        case round =>
          obtain ⟨j, rfl, hj, hjj, HBQ⟩ := hrel
          by_cases hji : j < i
          · have hd2 : decide ((j : Int) < (i : Int)) = true := by simp; omega
            have hjl : j < ls.length := by rw [HLS.out]; exact hji
            obtain ⟨b, off, rfl, -, hc⟩ := rdV_cells (HT3.out.below HBQ.out) (by rw [List.length_map]; omega)
            have hcj := hc j (by rw [List.length_map]; exact hjl)
            rw [getD_strs _ _ hjl] at hcj
            have HYJ := Lib.hid (HY.out (ls.getD j ByteArray.empty) (by rw [List.getD_eq_getElem?_getD, List.getElem?_eq_getElem hjl]; exact List.getElem_mem hjl))
            generalize ls.getD j ByteArray.empty = sj at hcj HYJ
            clear hc hjl
            go_wp2_with fail
            refine (HYJ.out _ _ (RdB.below HR.out HBQ.out)).mono ?_
            rintro e w4 ⟨rfl, hb4⟩
            have HB4 := Lib.hid (HBQ.out.trans (hb4.mono HBQ.out.size))
            clear hb4 hcj HYJ
            go_wp2_with fail
            go_roundg (i - (j + 1))
            case measure => omega
            case rel => exact ⟨j + 1, by go_num, by omega, by omega, HB4⟩
          · obtain rfl : j = i := by omega
            go_wp2_with fail
            go_ret
            exact ⟨rfl, HB.out.trans (HBQ.out.mono HB.out.size)⟩
end Go.Proofs.Ytlifmihkncejlaa
