/- The walk of the law NumbersMany. -/
import Derived.Test.YtjhkgpjefdndaaaNumLawB
namespace Go.Proofs.Ytjhkgpjefdndaaa
set_option linter.unusedVariables false
open Go.RowKit
/-- what the laws' Cut answers -/
def cutS (s : ByteArray) (n : Nat) : ByteArray := if n < s.size then s.extract 0 n else s
theorem cutS_size (s : ByteArray) (n : Nat) : (cutS s n).size ≤ n := by
  unfold cutS
  split
  · rw [ByteArray.size_extract]; omega
  · omega
set_option maxHeartbeats 400000 in
theorem cut_is (s : ByteArray) (n : Nat) (hn : n ≤ 1000000) (hs : s.size ≤ maxLen) (w : World) :
    Calls Try.prog 8 #[.string s, .int .i64 n] w fun e w' => e = .returned (.string (cutS s n)) ∧ w = w' := by
  unfold cutS
  by_cases h : n < s.size
  · rw [if_pos h]
    have hi : (n : Int) < (s.size : Int) := by omega
    go_enter Try.func8, Try.ntmps8
    go_wp2
    go_ret
    exact ⟨rfl, rfl⟩
  · rw [if_neg h]
    have hi : ¬ (n : Int) < (s.size : Int) := by omega
    go_enter Try.func8, Try.ntmps8
    go_wp2
    go_ret
    exact ⟨rfl, rfl⟩
/-- pieces i, i + 1, .. one behind the other, so many -/
def chunks (f : Nat → List UInt8) : Nat → Nat → List UInt8
  | _, 0 => []
  | i, m + 1 => f i ++ chunks f (i + 1) m
theorem chunks_snoc (f : Nat → List UInt8) : ∀ (m i : Nat), chunks f i (m + 1) = chunks f i m ++ f (i + m)
  | 0, i => by simp [chunks]
  | m + 1, i => by
    rw [chunks, chunks_snoc f m (i + 1), chunks, List.append_assoc, show i + 1 + m = i + (m + 1) by omega]
theorem chunks_len (f : Nat → List UInt8) (c : Nat) (h : ∀ i, (f i).length ≤ c) : ∀ (m i : Nat), (chunks f i m).length ≤ c * m
  | 0, i => by simp [chunks]
  | m + 1, i => by
    have h1 := chunks_len f c h m (i + 1)
    have h2 := h i
    rw [chunks, List.length_append, Nat.mul_succ]; omega
theorem u64_wrap (z : Int) : ∃ n : Nat, IntKind.u64.wrap z = (n : Int) ∧ n < 2 ^ 64 := by
  rw [IntKind.wrap_u64]
  exact ⟨(z % 18446744073709551616).toNat, by omega, by omega⟩
def wrapN (z : Int) : Nat := (IntKind.u64.wrap z).toNat
theorem wrapN_is (z : Int) : IntKind.u64.wrap z = (wrapN z : Int) ∧ wrapN z < 2 ^ 64 := by
  unfold wrapN
  rw [IntKind.wrap_u64]; omega
theorem textE_len (s : ByteArray) (h : s.size ≤ 30) : (textE s.data.toList).length ≤ 40 := by
  unfold textE
  rw [List.length_append, size_toList]
  have := (putN_len s.size).2
  omega
/-- a number's bytes, and a text's if there is one -/
def piece (zs : List Int) (ss : List ByteArray) (i : Nat) : List UInt8 := putN (wrapN (zs.getD i 0)) ++ if i < ss.length then textE (cutS (ss.getD i ByteArray.empty) 30).data.toList else []
theorem piece_len (zs : List Int) (ss : List ByteArray) (i : Nat) : (piece zs ss i).length ≤ 50 := by
  unfold piece
  have h1 := (putN_len (wrapN (zs.getD i 0))).2
  have h2 := textE_len (cutS (ss.getD i ByteArray.empty) 30) (cutS_size _ _)
  rw [List.length_append]
  generalize putN (wrapN (zs.getD i 0)) = P at *
  split
  · omega
  · rw [List.length_nil]; omega
set_option maxHeartbeats 8000000 in
set_option maxRecDepth 100000 in
theorem numbersMany_walk (w : World) (la : Option Addr) (len cap : Nat) (zs : List Int) (hz : RdV w (.slice la len cap) (zs.map (Value.int .i64))) (hw : ∀ n ∈ zs, (Lit.int .i64 n).wf = true)
    (sa : Option Addr) (slen scap : Nat) (ss : List ByteArray) (hz2 : RdV w (.slice sa slen scap) (ss.map Value.string)) (hw2 : ∀ s ∈ ss, s.size ≤ maxLen) :
    Calls Try.prog 5 #[.slice la len cap, .slice sa slen scap] w fun e w' => e = .returned (.bool true) ∧ Below w.heap.size w w' := by
  have hlen : len = zs.length := by have := (rdV_len hz).1; rwa [List.length_map] at this
  have hslen : slen = ss.length := by have := (rdV_len hz2).1; rwa [List.length_map] at this
  have hm1 : len ≤ maxLen := by
    rcases Nat.eq_zero_or_pos len with h | h
    · unfold maxLen; omega
    · rcases hz with ⟨_, _, e, _⟩ | ⟨_, _, _, e, _, h2, h3, _⟩
      · simp only [Value.slice.injEq] at e; omega
      · simp only [Value.slice.injEq] at e; omega
  have hm2 : slen ≤ maxLen := by
    rcases Nat.eq_zero_or_pos slen with h | h
    · unfold maxLen; omega
    · rcases hz2 with ⟨_, _, e, _⟩ | ⟨_, _, _, e, _, h2, h3, _⟩
      · simp only [Value.slice.injEq] at e; omega
      · simp only [Value.slice.injEq] at e; omega
  have HCZ : Hid (∀ i, i < len → ∃ g off, la = some ⟨g, off, none⟩ ∧ g < w.heap.size ∧ w.cell? ⟨g, off + i, none⟩ = some (.int .i64 (zs.getD i 0))) := Lib.hid fun i hi => by
    obtain ⟨g, off, e1, e2, e3⟩ := rdV_cells hz (by rw [List.length_map]; omega)
    refine ⟨g, off, e1, e2, ?_⟩
    rw [e3 i (by rw [List.length_map]; omega), List.getD_eq_getElem?_getD, List.getD_eq_getElem?_getD, List.getElem?_map, List.getElem?_eq_getElem (by omega)]; rfl
  have HCS : Hid (∀ i, i < slen → ∃ g off, sa = some ⟨g, off, none⟩ ∧ g < w.heap.size ∧ w.cell? ⟨g, off + i, none⟩ = some (.string (ss.getD i ByteArray.empty))) := Lib.hid fun i hi => by
    obtain ⟨g, off, e1, e2, e3⟩ := rdV_cells hz2 (by rw [List.length_map]; omega)
    refine ⟨g, off, e1, e2, ?_⟩
    rw [e3 i (by rw [List.length_map]; omega), getD_strs ss i (by omega)]
  have HW : Hid (∀ i, i < slen → ∀ w, Calls Try.prog 8 #[.string (ss.getD i ByteArray.empty), .int .i64 30] w fun e w' => e = .returned (.string (cutS (ss.getD i ByteArray.empty) 30)) ∧ w = w') := Lib.hid fun i hi => by
    refine cut_is _ 30 (by omega) ?_
    rw [List.getD_eq_getElem?_getD, List.getElem?_eq_getElem (by omega)]
    exact hw2 _ (List.getElem_mem _)
  have HF : Hid (∀ i, piece zs ss i = putN (wrapN (zs.getD i 0)) ++ if i < slen then textE (cutS (ss.getD i ByteArray.empty) 30).data.toList else []) := Lib.hid fun i => by rw [hslen]; rfl
  have HFL : Hid (∀ i, (piece zs ss i).length ≤ 50) := Lib.hid (piece_len zs ss)
  unfold maxLen at hm1 hm2
  clear hz hz2 hw hw2 hlen hslen
  generalize piece zs ss = f at *
  go_enter Try.func5, Try.ntmps5
  go_wp2_with fail
  refine (vbegun_any _).mono ?_
  rintro e w1 ⟨rfl, B⟩
  go_wp2_with fail
  go_loopw [6, 7] (fun v i wr => ∃ j : Nat, i = .int .i64 (j : Int) ∧ j ≤ len ∧ j ≤ 20 ∧ OwnB w.heap.size wr v (chunks f 0 j) ∧ Below w.heap.size w wr)
    (fun _ i _ => len - (intOf i).toNat)
  case atStart => exact ⟨0, rfl, Nat.zero_le _, Nat.zero_le _, OwnB.nil _ _, B⟩
  case round =>
    clear B
    obtain ⟨j, rfl, hj, hj20, hown, hbel⟩ := hrel
    have hwr := hbel.size
    by_cases hlt : j < len ∧ j < 20
    · obtain ⟨hlt, h20⟩ := hlt
      have hz1 : (j : Int) < (len : Int) := by omega
      have hz2 : (j : Int) < 20 := by omega
      obtain ⟨g, off, rfl, hg, hcell⟩ := HCZ.out j hlt
      have hc : wr.cell? ⟨g, off + j, none⟩ = some (.int .i64 (zs.getD j 0)) := (hbel.cell hg).trans hcell
      have hfj := HF.out j
      have hlen50 := chunks_len f 50 HFL.out j 0
      have hsn : chunks f 0 (j + 1) = chunks f 0 j ++ f j := by have := chunks_snoc f j 0; rwa [Nat.zero_add] at this
      obtain ⟨hwz, hw64⟩ := wrapN_is (zs.getD j 0)
      generalize wrapN (zs.getD j 0) = n at *
      generalize zs.getD j 0 = z at *
      have HP := Lib.hid (put_any n hw64)
      have hpl := (putN_len n).2
      have HFJ := Lib.hid hfj
      have HSN := Lib.hid hsn
      obtain ⟨P, hP⟩ : ∃ P, putN n = P := ⟨_, rfl⟩
      rw [hP] at HP HFJ hpl
      obtain ⟨C, hC⟩ : ∃ C, chunks f 0 j = C := ⟨_, rfl⟩
      rw [hC] at hown HSN hlen50
      clear hfj hsn hcell hP hC
      go_wp2_with fail
      refine (HP.out _).mono ?_
      rintro e w2 ⟨v2, rfl, o2, b2⟩
      have hown := hown.below b2
      replace hbel := hbel.trans (b2.mono hwr)
      have hwr2 := hbel.size
      go_wp2_with (at_builtin; refine wp_appSB _ _ (by rfl) (by rfl) (by rfl) hown (by rfl) o2.rd ?c1 hwr2 ?_)
      case c1 => omega
      intro v3 w3 o3 b3
      replace hbel := hbel.trans b3
      have hwr3 := hbel.size
      clear hown o2 b2 HP
      by_cases hs : j < slen
      · have hz3 : (j : Int) < (slen : Int) := by omega
        obtain ⟨gs, offs, rfl, hgs, hcell⟩ := HCS.out j hs
        have hcs : w3.cell? ⟨gs, offs + j, none⟩ = some (.string (ss.getD j ByteArray.empty)) := (hbel.cell hgs).trans hcell
        have HCut := Lib.hid (HW.out j hs)
        have hfj := HFJ.out
        rw [if_pos hs] at hfj
        have HFJ2 := Lib.hid hfj
        have hts := cutS_size (ss.getD j ByteArray.empty) 30
        generalize cutS (ss.getD j ByteArray.empty) 30 = t at *
        generalize ss.getD j ByteArray.empty = s at *
        have HT := Lib.hid (text_put t (by omega))
        have htl := textE_len t hts
        generalize textE t.data.toList = T at *
        clear hcell hfj HFJ
        go_wp2_with fail
        refine (HCut.out _).mono ?_
        rintro e w' ⟨rfl, rfl⟩
        go_wp2_with fail
        refine (HT.out _).mono ?_
        rintro e w4 ⟨v4, rfl, o4, b4⟩
        have o3 := o3.below b4
        replace hbel := hbel.trans (b4.mono hwr3)
        have hwr4 := hbel.size
        go_wp2_with (at_builtin; refine wp_appSB _ _ (by rfl) (by rfl) (by rfl) o3 (by rfl) o4.rd ?c2 hwr4 ?_)
        case c2 => rw [List.length_append]; omega
        intro v5 w5 o5 b5
        replace hbel := hbel.trans b5
        clear o3 o4 b4
        go_wp2_with fail
        go_roundw
        case rel => exact ⟨j + 1, by go_num, hlt, h20, by rw [HSN.out, HFJ2.out]; exact List.append_assoc C P T ▸ o5, hbel⟩
        case measure => simp [intOf]; omega
      · have hz3 : ¬ (j : Int) < (slen : Int) := by omega
        have hfj := HFJ.out
        rw [if_neg hs, List.append_nil] at hfj
        have HFJ2 := Lib.hid hfj
        clear hfj HFJ
        go_wp2_with fail
        go_roundw
        case rel => exact ⟨j + 1, by go_num, hlt, h20, by rw [HSN.out, HFJ2.out]; exact o3, hbel⟩
        case measure => simp [intOf]; omega
    · rcases Nat.lt_or_ge j len with hjl | hjl
      · have hz1 : (j : Int) < (len : Int) := by omega
        have hz2 : ¬ (j : Int) < 20 := by omega
        clear hlt
        have HB0 : Hid (RdB wr u6 (chunks f 0 (j - 0))) := Lib.hid hown.rd
        clear hown
        go_wp2_with fail
        go_loop [6, 8] (fun v i => ∃ q : Nat, i = .int .i64 (q : Int) ∧ q ≤ j ∧ Hid (RdB wr v (chunks f q (j - q))))
          (fun _ i => j - (intOf i).toNat)
        case atStart => exact ⟨0, rfl, Nat.zero_le _, HB0⟩
        case round =>
          clear HB0
          obtain ⟨q, rfl, hq, HR⟩ := hrel
          by_cases hqj : q < j
          · have hq1 : (q : Int) < (len : Int) := by omega
            have hq2 : (q : Int) < 20 := by omega
            obtain ⟨g, off, rfl, hg, hcell⟩ := HCZ.out q (by omega)
            have hc : wr.cell? ⟨g, off + q, none⟩ = some (.int .i64 (zs.getD q 0)) := (hbel.cell hg).trans hcell
            obtain ⟨m, hm⟩ : ∃ m, j - (q + 1) = m := ⟨_, rfl⟩
            have hrd := HR.out
            rw [show j - q = m + 1 by omega, chunks, HF.out q] at hrd
            obtain ⟨hwz, hw64⟩ := wrapN_is (zs.getD q 0)
            generalize wrapN (zs.getD q 0) = n at *
            generalize zs.getD q 0 = z at *
            have hpl := putN_len n
            have hget := fun r => get_put hw64 r
            generalize putN n = P at *
            generalize hrest : chunks f (q + 1) m = rest at *
            have HREST : Hid (chunks f (q + 1) (j - (q + 1)) = rest) := Lib.hid (by rw [hm]; exact hrest)
            obtain ⟨pl, hpll⟩ : ∃ pl, P.length = pl := ⟨_, rfl⟩
            rw [hpll] at hpl hget
            have hnn : (n : Int) = (n : Int) := rfl
            have hplz : ((pl : Int) == 0) = false := by simp; omega
            by_cases hs : q < slen
            · have hz3 : (q : Int) < (slen : Int) := by omega
              obtain ⟨gs, offs, rfl, hgs, hcells⟩ := HCS.out q hs
              have hcs : wr.cell? ⟨gs, offs + q, none⟩ = some (.string (ss.getD q ByteArray.empty)) := (hbel.cell hgs).trans hcells
              have HCut := Lib.hid (HW.out q hs)
              have hts := cutS_size (ss.getD q ByteArray.empty) 30
              rw [if_pos hs] at hrd
              generalize cutS (ss.getD q ByteArray.empty) 30 = t at *
              generalize ss.getD q ByteArray.empty = s at *
              have htl := textE_len t hts
              have hgt : ∀ r, getT (textE t.data.toList ++ r) = some (t.data.toList, (textE t.data.toList).length) := fun r => getT_text t.data.toList r (by rw [size_toList]; omega)
              have htl1 : 1 ≤ (textE t.data.toList).length := by
                have := (putN_len t.data.toList.length).1
                unfold textE; rw [List.length_append]; omega
              generalize textE t.data.toList = T at *
              obtain ⟨tl, htll⟩ : ∃ tl, T.length = tl := ⟨_, rfl⟩
              rw [htll] at htl htl1 hgt
              obtain ⟨a, ln, c, rfl, hln, hcap⟩ := hrd.form
              rw [List.length_append, List.length_append, hpll, htll] at hln
              obtain ⟨hc1, hc2⟩ := hcap (by omega)
              unfold maxLen at hc2
              obtain ⟨⟨gb, ob, rfl⟩, -⟩ := (rdV_len hrd).2 (by omega)
              have HG := Lib.hid (get_any _ _ wr hrd)
              rw [List.append_assoc, hget] at HG
              have hdr := RdB.drop hrd pl (by omega)
              rw [List.append_assoc, List.drop_append_of_le_length (by omega), List.drop_of_length_le (by omega), List.nil_append, if_neg (by omega)] at hdr
              have HT := Lib.hid (gettext_any _ _ wr hdr)
              rw [hgt] at HT
              have hdr2 := RdB.drop hdr tl (by omega)
              rw [List.drop_append_of_le_length (by omega), List.drop_of_length_le (by omega), List.nil_append] at hdr2
              have hck : ¬ c = pl := by omega
              have hT : txtRes (some (t.data.toList, tl)) = .tuple #[.string t, .int .i64 (tl : Int)] := rfl
              unfold TxtRes at HT
              rw [hT] at HT
              have htlz : ((tl : Int) == 0) = false := by simp; omega
              have htt : (t.toList == t.toList) = true := by simp
              have hz8 : (pl : Int) ≤ (ln : Int) := by omega
              have hz9 : (tl : Int) ≤ ((ln - pl : Nat) : Int) := by omega
              have hR2 := hdr2
              have HD := Lib.hid hdr2
              clear hdr hdr2 hrd HR hcell hcells hget hgt hln hcap hrest hm htll hpll hT hR2
              simp only [Option.map_some, add_at] at HT HD
              obtain ⟨l1, hl1⟩ : ∃ l1, ln - pl = l1 := ⟨_, rfl⟩
              obtain ⟨c1, hcc1⟩ : ∃ c1, c - pl = c1 := ⟨_, rfl⟩
              have hle : l1 ≤ c1 := by omega
              have hlt1 : tl ≤ l1 := by omega
              rw [hl1, hcc1] at HT HD
              go_wp2_with fail
              refine HG.out.mono ?_
              rintro e w' ⟨rfl, rfl⟩
              unfold numRes
              go_wp2_with fail
              refine HT.out.mono ?_
              rintro e w' ⟨rfl, rfl⟩
              clear HG HT
              go_wp2_with fail
              refine (HCut.out _).mono ?_
              rintro e w' ⟨rfl, rfl⟩
              clear HCut
              by_cases hck2 : c1 = tl
              · rw [if_pos hck2, ← HREST.out] at HD
                go_wp2_with fail
                refine ⟨⟨q + 1, by go_num, hqj, ?_⟩, by simp [intOf]; omega⟩
                subst hck2
                rw [Nat.sub_self] at HD
                exact HD
              · rw [if_neg hck2, ← HREST.out] at HD
                go_wp2_with fail
                refine ⟨⟨q + 1, by go_num, hqj, ?_⟩, by simp [intOf]; omega⟩
                exact HD
            · have hz3 : ¬ (q : Int) < (slen : Int) := by omega
              rw [if_neg hs, List.append_nil] at hrd
              obtain ⟨a, ln, c, rfl, hln, hcap⟩ := hrd.form
              rw [List.length_append, hpll] at hln
              obtain ⟨hc1, hc2⟩ := hcap (by omega)
              unfold maxLen at hc2
              obtain ⟨⟨gb, ob, rfl⟩, -⟩ := (rdV_len hrd).2 (by omega)
              have HG := Lib.hid (get_any _ _ wr hrd)
              rw [hget] at HG
              have hdr := RdB.drop hrd pl (by omega)
              rw [List.drop_append_of_le_length (by omega), List.drop_of_length_le (by omega), List.nil_append] at hdr
              have HD := Lib.hid hdr
              have hz8 : (pl : Int) ≤ (ln : Int) := by omega
              clear hdr hrd HR hcell hget hln hcap hrest hm hpll
              simp only [Option.map_some, add_at] at HD
              obtain ⟨l1, hl1⟩ : ∃ l1, ln - pl = l1 := ⟨_, rfl⟩
              obtain ⟨c1, hcc1⟩ : ∃ c1, c - pl = c1 := ⟨_, rfl⟩
              have hle : l1 ≤ c1 := by omega
              rw [hl1, hcc1] at HD
              go_wp2_with fail
              refine HG.out.mono ?_
              rintro e w' ⟨rfl, rfl⟩
              unfold numRes
              clear HG
              by_cases hck2 : c = pl
              · rw [if_pos hck2, ← HREST.out] at HD
                go_wp2_with fail
                refine ⟨⟨q + 1, by go_num, hqj, ?_⟩, by simp [intOf]; omega⟩
                have : c1 = 0 := by omega
                subst this
                exact HD
              · rw [if_neg hck2, ← HREST.out] at HD
                go_wp2_with fail
                refine ⟨⟨q + 1, by go_num, hqj, ?_⟩, by simp [intOf]; omega⟩
                exact HD
          · obtain rfl : q = j := by omega
            have hrd := HR.out
            rw [Nat.sub_self, chunks] at hrd
            obtain ⟨a, ln, c, rfl, hln, -⟩ := hrd.form
            rw [List.length_nil] at hln
            subst hln
            clear HR hrd
            have hz9 : (q : Int) < (len : Int) := by omega
            go_wp2_with fail
            go_ret
            exact ⟨rfl, hbel⟩
      · obtain rfl : j = len := by omega
        have hz1 : ¬ (j : Int) < (j : Int) := by omega
        clear hlt hjl
        have HB0 : Hid (RdB wr u6 (chunks f 0 (j - 0))) := Lib.hid hown.rd
        clear hown
        go_wp2_with fail
        go_loop [6, 8] (fun v i => ∃ q : Nat, i = .int .i64 (q : Int) ∧ q ≤ j ∧ Hid (RdB wr v (chunks f q (j - q))))
          (fun _ i => j - (intOf i).toNat)
        case atStart => exact ⟨0, rfl, Nat.zero_le _, HB0⟩
        case round =>
          clear HB0
          obtain ⟨q, rfl, hq, HR⟩ := hrel
          by_cases hqj : q < j
          · have hq1 : (q : Int) < (j : Int) := by omega
            have hq2 : (q : Int) < 20 := by omega
            obtain ⟨g, off, rfl, hg, hcell⟩ := HCZ.out q (by omega)
            have hc : wr.cell? ⟨g, off + q, none⟩ = some (.int .i64 (zs.getD q 0)) := (hbel.cell hg).trans hcell
            obtain ⟨m, hm⟩ : ∃ m, j - (q + 1) = m := ⟨_, rfl⟩
            have hrd := HR.out
            rw [show j - q = m + 1 by omega, chunks, HF.out q] at hrd
            obtain ⟨hwz, hw64⟩ := wrapN_is (zs.getD q 0)
            generalize wrapN (zs.getD q 0) = n at *
            generalize zs.getD q 0 = z at *
            have hpl := putN_len n
            have hget := fun r => get_put hw64 r
            generalize putN n = P at *
            generalize hrest : chunks f (q + 1) m = rest at *
            have HREST : Hid (chunks f (q + 1) (j - (q + 1)) = rest) := Lib.hid (by rw [hm]; exact hrest)
            obtain ⟨pl, hpll⟩ : ∃ pl, P.length = pl := ⟨_, rfl⟩
            rw [hpll] at hpl hget
            have hnn : (n : Int) = (n : Int) := rfl
            have hplz : ((pl : Int) == 0) = false := by simp; omega
            by_cases hs : q < slen
            · have hz3 : (q : Int) < (slen : Int) := by omega
              obtain ⟨gs, offs, rfl, hgs, hcells⟩ := HCS.out q hs
              have hcs : wr.cell? ⟨gs, offs + q, none⟩ = some (.string (ss.getD q ByteArray.empty)) := (hbel.cell hgs).trans hcells
              have HCut := Lib.hid (HW.out q hs)
              have hts := cutS_size (ss.getD q ByteArray.empty) 30
              rw [if_pos hs] at hrd
              generalize cutS (ss.getD q ByteArray.empty) 30 = t at *
              generalize ss.getD q ByteArray.empty = s at *
              have htl := textE_len t hts
              have hgt : ∀ r, getT (textE t.data.toList ++ r) = some (t.data.toList, (textE t.data.toList).length) := fun r => getT_text t.data.toList r (by rw [size_toList]; omega)
              have htl1 : 1 ≤ (textE t.data.toList).length := by
                have := (putN_len t.data.toList.length).1
                unfold textE; rw [List.length_append]; omega
              generalize textE t.data.toList = T at *
              obtain ⟨tl, htll⟩ : ∃ tl, T.length = tl := ⟨_, rfl⟩
              rw [htll] at htl htl1 hgt
              obtain ⟨a, ln, c, rfl, hln, hcap⟩ := hrd.form
              rw [List.length_append, List.length_append, hpll, htll] at hln
              obtain ⟨hc1, hc2⟩ := hcap (by omega)
              unfold maxLen at hc2
              obtain ⟨⟨gb, ob, rfl⟩, -⟩ := (rdV_len hrd).2 (by omega)
              have HG := Lib.hid (get_any _ _ wr hrd)
              rw [List.append_assoc, hget] at HG
              have hdr := RdB.drop hrd pl (by omega)
              rw [List.append_assoc, List.drop_append_of_le_length (by omega), List.drop_of_length_le (by omega), List.nil_append, if_neg (by omega)] at hdr
              have HT := Lib.hid (gettext_any _ _ wr hdr)
              rw [hgt] at HT
              have hdr2 := RdB.drop hdr tl (by omega)
              rw [List.drop_append_of_le_length (by omega), List.drop_of_length_le (by omega), List.nil_append] at hdr2
              have hck : ¬ c = pl := by omega
              have hT : txtRes (some (t.data.toList, tl)) = .tuple #[.string t, .int .i64 (tl : Int)] := rfl
              unfold TxtRes at HT
              rw [hT] at HT
              have htlz : ((tl : Int) == 0) = false := by simp; omega
              have htt : (t.toList == t.toList) = true := by simp
              have hz8 : (pl : Int) ≤ (ln : Int) := by omega
              have hz9 : (tl : Int) ≤ ((ln - pl : Nat) : Int) := by omega
              have hR2 := hdr2
              have HD := Lib.hid hdr2
              clear hdr hdr2 hrd HR hcell hcells hget hgt hln hcap hrest hm htll hpll hT hR2
              simp only [Option.map_some, add_at] at HT HD
              obtain ⟨l1, hl1⟩ : ∃ l1, ln - pl = l1 := ⟨_, rfl⟩
              obtain ⟨c1, hcc1⟩ : ∃ c1, c - pl = c1 := ⟨_, rfl⟩
              have hle : l1 ≤ c1 := by omega
              have hlt1 : tl ≤ l1 := by omega
              rw [hl1, hcc1] at HT HD
              go_wp2_with fail
              refine HG.out.mono ?_
              rintro e w' ⟨rfl, rfl⟩
              unfold numRes
              go_wp2_with fail
              refine HT.out.mono ?_
              rintro e w' ⟨rfl, rfl⟩
              clear HG HT
              go_wp2_with fail
              refine (HCut.out _).mono ?_
              rintro e w' ⟨rfl, rfl⟩
              clear HCut
              by_cases hck2 : c1 = tl
              · rw [if_pos hck2, ← HREST.out] at HD
                go_wp2_with fail
                refine ⟨⟨q + 1, by go_num, hqj, ?_⟩, by simp [intOf]; omega⟩
                subst hck2
                rw [Nat.sub_self] at HD
                exact HD
              · rw [if_neg hck2, ← HREST.out] at HD
                go_wp2_with fail
                refine ⟨⟨q + 1, by go_num, hqj, ?_⟩, by simp [intOf]; omega⟩
                exact HD
            · have hz3 : ¬ (q : Int) < (slen : Int) := by omega
              rw [if_neg hs, List.append_nil] at hrd
              obtain ⟨a, ln, c, rfl, hln, hcap⟩ := hrd.form
              rw [List.length_append, hpll] at hln
              obtain ⟨hc1, hc2⟩ := hcap (by omega)
              unfold maxLen at hc2
              obtain ⟨⟨gb, ob, rfl⟩, -⟩ := (rdV_len hrd).2 (by omega)
              have HG := Lib.hid (get_any _ _ wr hrd)
              rw [hget] at HG
              have hdr := RdB.drop hrd pl (by omega)
              rw [List.drop_append_of_le_length (by omega), List.drop_of_length_le (by omega), List.nil_append] at hdr
              have HD := Lib.hid hdr
              have hz8 : (pl : Int) ≤ (ln : Int) := by omega
              clear hdr hrd HR hcell hget hln hcap hrest hm hpll
              simp only [Option.map_some, add_at] at HD
              obtain ⟨l1, hl1⟩ : ∃ l1, ln - pl = l1 := ⟨_, rfl⟩
              obtain ⟨c1, hcc1⟩ : ∃ c1, c - pl = c1 := ⟨_, rfl⟩
              have hle : l1 ≤ c1 := by omega
              rw [hl1, hcc1] at HD
              go_wp2_with fail
              refine HG.out.mono ?_
              rintro e w' ⟨rfl, rfl⟩
              unfold numRes
              clear HG
              by_cases hck2 : c = pl
              · rw [if_pos hck2, ← HREST.out] at HD
                go_wp2_with fail
                refine ⟨⟨q + 1, by go_num, hqj, ?_⟩, by simp [intOf]; omega⟩
                have : c1 = 0 := by omega
                subst this
                exact HD
              · rw [if_neg hck2, ← HREST.out] at HD
                go_wp2_with fail
                refine ⟨⟨q + 1, by go_num, hqj, ?_⟩, by simp [intOf]; omega⟩
                exact HD
          · obtain rfl : q = j := by omega
            have hrd := HR.out
            rw [Nat.sub_self, chunks] at hrd
            obtain ⟨a, ln, c, rfl, hln, -⟩ := hrd.form
            rw [List.length_nil] at hln
            subst hln
            clear HR hrd
            have hz9 : ¬ (q : Int) < (q : Int) := by omega
            go_wp2_with fail
            go_ret
            exact ⟨rfl, hbel⟩
end Go.Proofs.Ytjhkgpjefdndaaa
