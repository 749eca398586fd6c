/- The reference's Append. -/
import Derived.Test.YtdnohjhknhekhaaDoorRecLay
import Derived.Test.YtdnohjhknhekhaaDoorByZero
import Derived.Deep.LoopGhost
namespace Go.Proofs.YtdnohjhknhekhaaDoor
set_option linter.unusedVariables false
open Go.RowKit
theorem layF_fuel (sm : List UInt8 → List UInt8) : ∀ (f g a : Nat) (first : Bool) (b : List UInt8), needF a b ≤ f → needF a b ≤ g → layF sm f a first b = layF sm g a first b
  | 0, _, a, _, b, h, _ => by unfold needF at h; omega
  | _ + 1, 0, a, _, b, _, h => by unfold needF at h; omega
  | f + 1, g + 1, a, first, b, hf, hg => by
    by_cases hl : b.length ≤ roomN a
    · rw [lay_last hl, lay_last hl]
    · have hn := need_next hl
      rw [lay_more hl, lay_more hl, layF_fuel sm f g _ _ _ (by omega) (by omega)]
/-- how it stands ahead of a round: place, what is left of the record, what was made, is it the first piece -/
def RaSt (w : World) (X : List UInt8) (f a : Nat) (fb : Bool) (ae : Option Addr) (ne ce : Nat) (vo : Value) (wr : World) : Prop :=
  ∃ (E L : List UInt8), RdB w (.slice ae ne ce) E ∧ OwnB w.heap.size wr vo L ∧ Below w.heap.size w wr ∧ needF a E ≤ f ∧ X = L ++ layF smN f a fb E ∧
    L.length + 8 * ne ≤ 8000000000013 ∧ a ≤ 1000000000000 + L.length ∧ (fb = true → vo = .slice none 0 0 ∧ L = [] ∧ 8 * ne ≤ 8000000000000) ∧ (fb = false → a % 256 = 0)
set_option maxHeartbeats 8000000 in
set_option maxRecDepth 100000 in
theorem rappend_any (a : Nat) (ha : a ≤ 1000000000000) (vb : Value) (b : List UInt8) (hb : b.length ≤ 1000000000000) (w : World) (hrd : RdB w vb b) :
    Calls Tryd.prog 13 #[.int .i64 (a : Int), vb] w (MkB (layB smN a b) w) := by
  obtain ⟨ab, nb, cb, rfl, hnb, -⟩ := hrd.form
  obtain ⟨X, hX⟩ : ∃ X, layB smN a b = X := ⟨_, rfl⟩
  have HS0 : Hid (RaSt w X (2 * b.length + 2) a true ab nb cb (.slice none 0 0) w) := Lib.hid
    ⟨b, [], hrd, OwnB.nil _ _, Below.refl _ _, need_first a b, by rw [← hX]; rfl, by rw [List.length_nil]; omega, by omega, fun _ => ⟨rfl, rfl, by omega⟩, fun h => by cases h⟩
  rw [hX]
  obtain ⟨K, hK⟩ : ∃ K, 2 * b.length + 2 = K := ⟨_, rfl⟩
  rw [hK] at HS0
  clear hX hrd hnb hb hK
  go_enter Tryd.func13, Tryd.ntmps13
  go_wp2_with fail
  go_loopg [0, 1, 5, 6] K (fun kk va vb vo vf wr => ∃ (a f : Nat) (fb : Bool) (ae : Option Addr) (ne ce : Nat), va = .int .i64 (a : Int) ∧ vb = .slice ae ne ce ∧ vf = .bool fb ∧ f ≤ kk ∧ a ≤ 9000000000100 ∧ Hid (RaSt w X f a fb ae ne ce vo wr))
  case atStart => exact ⟨a, K, true, ab, nb, cb, rfl, rfl, rfl, Nat.le_refl _, by omega, HS0⟩
  case round =>
    clear HS0
    obtain ⟨a, f, fb, ae, ne, ce, rfl, rfl, rfl, hf, ha9, HS⟩ := hrel
    clear ha
    obtain ⟨f, rfl⟩ : ∃ f', f = f' + 1 := ⟨f - 1, by obtain ⟨E, L, h1, h2, h3, h4, -⟩ := HS.out; unfold needF at h4; omega⟩
    obtain ⟨r1, r2, r3⟩ := pad_room a
    obtain ⟨q, hq⟩ : ∃ q, padN a = q := ⟨_, rfl⟩
    obtain ⟨s, hs⟩ : ∃ s, a + q = s := ⟨_, rfl⟩
    have hs9 : s ≤ 9000000000106 := by omega
    have HQ : Hid (padN a = q ∧ a + q = s) := Lib.hid ⟨hq, hs⟩
    rw [hq] at r1 r3
    rw [hs] at r1
    go_upto_if 16 with fail
    go_cut [0, 5, 7] (fun va vo vl wx => ∃ (lf : Nat), va = .int .i64 (s : Int) ∧ vl = .int .i64 (lf : Int) ∧ Hid (lf = 256 - s % 256) ∧ ∃ (E L : List UInt8), Hid (RdB w (.slice ae ne ce) E ∧ OwnB w.heap.size wx vo L ∧ Below w.heap.size w wx) ∧
      Hid (needF a E ≤ f + 1 ∧ X = L ++ (pieceB smN (kindB fb (decide (E.length ≤ roomN a))) (E.take (roomN a)) ++ (if E.length ≤ roomN a then [] else layF smN f (a + padN a + 7 + roomN a) false (E.drop (roomN a)))) ∧ L.length + 8 * ne ≤ 8000000000013 ∧ s ≤ 1000000000000 + L.length ∧ (fb = true → L.length + 8 * ne ≤ 8000000000006) ∧ (fb = false → s % 256 = 0)))
    case first =>
      obtain ⟨E, L, h1, h2, h3, h4, h5, h6, h7, h8, h9⟩ := HS.out
      have hst := lay_step smN f a fb E
      rw [hst, hq] at h5
      clear hst HS
      by_cases hpd : 256 - a % 256 < 7
      · have hqv : 256 - a % 256 = q := by rw [← hq]; unfold padN; rw [if_pos hpd]
        have hz : (256 : Int) - (a : Int) % 256 < 7 := by omega
        have hzq : (256 : Int) - (a : Int) % 256 = (q : Int) := by omega
        have hfb : fb = true := by
          cases fb with
          | true => rfl
          | false => have := h9 rfl; omega
        obtain ⟨rfl, rfl, h88⟩ := h8 hfb
        have HF : Hid (RdB w (.slice ae ne ce) E ∧ Below w.heap.size w wr) := Lib.hid ⟨h1, h3⟩
        have HX : Hid (needF a E ≤ f + 1 ∧ X = List.replicate q 0 ++ (pieceB smN (kindB fb (decide (E.length ≤ roomN a))) (E.take (roomN a)) ++ (if E.length ≤ roomN a then [] else layF smN f (a + padN a + 7 + roomN a) false (E.drop (roomN a)))) ∧ (List.replicate q (0 : UInt8)).length + 8 * ne ≤ 8000000000013 ∧ s ≤ 1000000000000 + (List.replicate q (0 : UInt8)).length ∧ (fb = true → (List.replicate q (0 : UInt8)).length + 8 * ne ≤ 8000000000006) ∧ (fb = false → s % 256 = 0)) := Lib.hid
          ⟨h4, by rw [h5, hq]; rfl, by rw [List.length_replicate]; omega, by rw [List.length_replicate]; simp only [List.length_nil] at h7; omega, fun _ => by rw [List.length_replicate]; omega, fun h => by rw [hfb] at h; cases h⟩
        have HV : Hid (256 = 256 - s % 256) := Lib.hid (by omega)
        obtain ⟨v', w', g0, g1, g2⟩ := app_zeros (ty := 23) wr q (by omega) (by omega)
        have HG := Lib.hid (And.intro g1 g2)
        clear h1 h2 h3 h4 h5 h6 h7 h8 h9 h88 g1 g2 hq hqv hpd hfb r1 r2 hf
        rw [hzq]
        have hsa : (a : Int) + (q : Int) = (s : Int) := by omega
        go_wp2_with (at_builtin; refine Lib.wpList_append_run _ rfl _ _ _ _ rfl _ _ rfl rfl _ _ g0 ?_)
        go_wp2_with fail
        go_meet
        exact ⟨256, rfl, rfl, HV, E, List.replicate q 0, Lib.hid ⟨HF.out.1, HG.out.1.base HF.out.2.size, HF.out.2.trans (HG.out.2.mono HF.out.2.size)⟩, HX⟩
      · have hqv : q = 0 := by rw [← hq]; unfold padN; rw [if_neg hpd]
        have hz : ¬ (256 : Int) - (a : Int) % 256 < 7 := by omega
        obtain rfl : s = a := by omega
        have HX : Hid (needF s E ≤ f + 1 ∧ X = L ++ (pieceB smN (kindB fb (decide (E.length ≤ roomN s))) (E.take (roomN s)) ++ (if E.length ≤ roomN s then [] else layF smN f (s + padN s + 7 + roomN s) false (E.drop (roomN s)))) ∧ L.length + 8 * ne ≤ 8000000000013 ∧ s ≤ 1000000000000 + L.length ∧ (fb = true → L.length + 8 * ne ≤ 8000000000006) ∧ (fb = false → s % 256 = 0)) := Lib.hid
          ⟨h4, by rw [h5, hq, hqv]; rfl, h6, h7, fun h => by obtain ⟨-, e, h10⟩ := h8 h; rw [e, List.length_nil]; omega, h9⟩
        have HF : Hid (RdB w (.slice ae ne ce) E ∧ OwnB w.heap.size wr u5 L ∧ Below w.heap.size w wr) := Lib.hid ⟨h1, h2, h3⟩
        have hlf : (256 : Int) - (s : Int) % 256 = ((256 - s % 256 : Nat) : Int) := by omega
        clear h1 h2 h3 h4 h5 h6 h7 h8 h9 hq hqv hpd r1 r2 hf hs HQ
        go_wp2_with fail
        go_meet
        exact ⟨256 - s % 256, rfl, by rw [← hlf], Lib.hid rfl, E, L, HF, HX⟩
    case rest =>
    obtain ⟨lf, rfl, rfl, HLF, E, L, HM, HX⟩ := hcut
    obtain ⟨R, hR⟩ : ∃ R, roomN a = R := ⟨_, rfl⟩
    have hlf : lf = R + 7 := by
      have h1 := HLF.out
      have h2 := HQ.out
      rw [← hR]; unfold roomN
      rw [h2.1, h2.2]; omega
    have hX := HX.out
    rw [hR] at hX r2
    have hlen : ne = E.length := by have := (rdV_len HM.out.1).1; rwa [List.length_map] at this
    obtain ⟨n, hn⟩ : ∃ n, min ne R = n := ⟨_, rfl⟩
    obtain ⟨lb, hlb⟩ : ∃ lb, decide (E.length ≤ R) = lb := ⟨_, rfl⟩
    have h7 : (lf : Int) - 7 = (R : Int) := by omega
    have hlf9 : 7 ≤ lf ∧ lf ≤ 256 := by omega
    obtain ⟨hlf8, hlf9⟩ := hlf9
    have hne9 : ne ≤ 2000000000000 := by have := hX.2.2.1; omega
    have hnl : ((n : Int) == (ne : Int)) = lb := by
      rw [← hlb]
      by_cases h : E.length ≤ R
      · rw [decide_eq_true h, beq_iff_eq]; omega
      · rw [decide_eq_false h, beq_eq_false_iff_ne]; omega
    have hTn : E.take R = E.take n := by
      by_cases h : E.length ≤ R
      · rw [List.take_of_length_le h, List.take_of_length_le (by omega)]
      · rw [show n = R by omega]
    have hTl : (E.take n).length = n := by rw [List.length_take]; omega
    have hcap : ne ≤ ce := by
      obtain ⟨_, _, _, e, -, hc⟩ := HM.out.1.form
      simp only [Value.slice.injEq] at e
      obtain ⟨-, rfl, rfl⟩ := e
      rcases Nat.eq_zero_or_pos ne with h | h
      · omega
      · exact (hc h).1
    have hnne : n ≤ ne := by omega
    have hn249 : n ≤ 249 := by omega
    have HTK : Hid (RdB w (.slice ae n ce) (E.take n)) := Lib.hid (HM.out.1.take n hnne)
    have HDR : Hid (RdB w (.slice (if ce = n then ae else ae.map (·.add n)) (ne - n) (ce - n)) (E.drop n)) := Lib.hid (HM.out.1.drop n hnne)
    have hsl := fun W => sl_hB W ae ne ce n (by omega)
    have hsl2 := fun W => sl_lB W ae ne ce n hnne hcap
    obtain ⟨ad, had⟩ : ∃ ad, (if ce = n then ae else ae.map (·.add n)) = ad := ⟨_, rfl⟩
    rw [had] at HDR
    simp only [had] at hsl2
    have HLEN := Lib.hid hlen
    have HTN := Lib.hid (And.intro hTn hTl)
    have HRR := Lib.hid hR
    have HLB := Lib.hid hlb
    have HN := Lib.hid hn
    have HCE := Lib.hid hcap
    clear hlen hTn hTl hR hlb hn hX had hlf HLF HS HQ hcap
    go_upto_region 8 with fail
    go_cut [8] (fun vn wx => vn = .int .i64 (n : Int) ∧ wc = wx)
    case first =>
      have hn := HN.out
      clear HN HCE HLB HRR HTN HLEN hsl hsl2 HTK HDR HX HM hnne hn249 hnl
      by_cases h : R < ne
      · obtain rfl : R = n := by omega
        clear hn
        go_wp2_with fail
        go_meet
        exact ⟨rfl, rfl⟩
      · obtain rfl : ne = n := by omega
        clear hn
        go_wp2_with fail
        go_meet
        exact ⟨rfl, rfl⟩
    case rest =>
    obtain ⟨rfl, rfl⟩ := hcut
    go_upto_block 2 with fail
    go_cut [10] (fun vk wx => vk = .int .u8 ((kindB fb lb : Nat) : Int) ∧ wc = wx)
    case first =>
      clear HN HCE HLB HRR HTN HLEN HTK HDR HX HM hsl hsl2
      cases fb with
      | true => cases lb with
        | true => go_wp2_with fail; go_meet; exact ⟨rfl, rfl⟩
        | false => go_wp2_with fail; go_meet; exact ⟨rfl, rfl⟩
      | false => cases lb with
        | true => go_wp2_with fail; go_meet; exact ⟨rfl, rfl⟩
        | false => go_wp2_with fail; go_meet; exact ⟨rfl, rfl⟩
    case rest =>
    obtain ⟨rfl, rfl⟩ := hcut
    have HXX : Hid (X = L ++ (pieceB smN (kindB fb lb) (E.take n) ++ (if lb = true then [] else layF smN f (s + 7 + n) false (E.drop n)))) := Lib.hid (by
      have h1 := HX.out.2.1
      have h2 := HTN.out.1
      rw [HRR.out, HLB.out, h2] at h1
      rw [h1]
      cases lb with
      | true => rw [if_pos (of_decide_eq_true HLB.out), if_pos rfl]
      | false =>
        have h3 := of_decide_eq_false HLB.out
        have h4 : R = n := by have := HN.out; have := HLEN.out; omega
        rw [if_neg h3, if_neg (by decide), hq, hs, h4])
    have hkk : kindB fb lb ≤ 4 := (kind_bd fb lb).2
    have HFB : Hid (lb = false → needF (s + 7 + n) (E.drop n) ≤ f ∧ n = R ∧ R < ne) := Lib.hid fun h => by
      rw [h] at HLB
      have h3 := of_decide_eq_false HLB.out
      have h4 : R = n := by have := HN.out; have := HLEN.out; omega
      have h5 := need_next (a := a) (b := E) (by rw [HRR.out]; exact h3)
      rw [HRR.out, hq, hs, h4] at h5
      have := HX.out.1
      exact ⟨by omega, h4.symm, by have := HLEN.out; omega⟩
    have hTl := HTN.out.2
    have HROW : Hid (((hdB (kindB fb lb) (E.take n)).map bv).toArray = #[.int .u8 (n : Int), .int .u8 ((n : Int) / 256), .int .u8 (kindB fb lb : Int)]) := Lib.hid (hd_row _ n _ hTl hn249 hkk)
    have HLIT : Hid (OwnB wc.heap.size (wc.alloc (.cells #[.int .u8 (n : Int), .int .u8 ((n : Int) / 256), .int .u8 (kindB fb lb : Int)] 5)) (.slice (some ⟨wc.heap.size, 0, none⟩) 3 3) (hdB (kindB fb lb) (E.take n))) := Lib.hid (OwnB.lit wc _ _ 3 wc.heap.size rfl (by decide) HROW.out (Nat.le_refl _))
    have HAL : Hid (Below wc.heap.size wc (wc.alloc (.cells #[.int .u8 (n : Int), .int .u8 ((n : Int) / 256), .int .u8 (kindB fb lb : Int)] 5))) := Lib.hid ((Below.refl _ wc).alloc (Nat.le_refl _) _)
    have hHl : (hdB (kindB fb lb) (E.take n)).length = 3 := rfl
    have HPB : Hid (pieceB smN (kindB fb lb) (E.take n) = fixN 4 (moreN 0 (hdB (kindB fb lb) (E.take n) ++ E.take n)) ++ (hdB (kindB fb lb) (E.take n) ++ E.take n)) := Lib.hid rfl
    have hLl : L.length ≤ 8000000000013 := by have := HX.out.2.2.1; omega
    have HL2 : Hid (L.length + 8 * ne ≤ 8000000000013 ∧ s ≤ 1000000000000 + L.length ∧ (fb = true → L.length + 8 * ne ≤ 8000000000006) ∧ (fb = false → s % 256 = 0)) := Lib.hid HX.out.2.2
    have HRS : Hid (R = 256 - s % 256 - 7) := Lib.hid (by rw [← HRR.out]; unfold roomN; rw [hq, hs])
    clear HX HTN HRR HLB HN HCE HROW hq hs
    generalize pieceB smN (kindB fb lb) (E.take n) = PB at *
    generalize hdB (kindB fb lb) (E.take n) = H at *
    generalize kindB fb lb = kk at *
    generalize E.take n = TK at *
    generalize E.drop n = DR at *
    have HTK2 := Lib.hid (HTK.out.below (HM.out.2.2.trans (HAL.out.mono HM.out.2.2.size)))
    have hB2 : wc.heap.size ≤ (wc.alloc (.cells #[.int .u8 (n : Int), .int .u8 ((n : Int) / 256), .int .u8 (kk : Int)] 5)).heap.size := HAL.out.size
    go_wp2_with (at_builtin; refine wp_appSB _ _ (by rfl) (by rfl) (by rfl) HLIT.out (by rfl) HTK2.out ?c1 hB2 ?_)
    case c1 => omega
    intro v3 w3 o3 b3
    have HB3 := Lib.hid (HAL.out.trans (b3.mono (Nat.le_refl _)))
    have HO3 := Lib.hid o3
    have hbd : (H ++ TK).length = 3 + n := by rw [List.length_append, hHl, hTl]
    have hbl : (H ++ TK).length ≤ 252 := by omega
    have HSU := Lib.hid (rsum_any v3 (H ++ TK) w3 o3.rd)
    have HFX := Lib.hid (rfixed_any (moreN 0 (H ++ TK)) (Nat.lt_of_lt_of_le (moreN_lt (by decide) _) (by decide)) 4 (by omega))
    have hS : moreN 0 (H ++ TK) < 4294967296 := moreN_lt (by decide) _
    clear o3 b3 hB2 HTK2 HAL HLIT hkk HTK
    generalize H ++ TK = BD at *
    generalize moreN 0 BD = S at *
    obtain ⟨F, hF⟩ : ∃ F, fixN 4 S = F := ⟨_, rfl⟩
    have hFl : F.length = 4 := by rw [← hF]; exact fixN_len _ _
    rw [hF] at HFX HPB
    clear hF
    go_wp2_with fail
    refine HSU.out.mono ?_
    rintro e w' ⟨rfl, rfl⟩
    go_wp2_with fail
    refine (HFX.out _).mono ?_
    rintro e w4 ⟨v4, rfl, o4, b4⟩
    have HB4 := Lib.hid (HB3.out.trans (b4.mono HB3.out.size))
    have o5 := HM.out.2.1.below HB4.out
    have hs4 : w.heap.size ≤ w4.heap.size := Nat.le_trans HM.out.2.2.size HB4.out.size
    have HO4 := Lib.hid (HO3.out.below b4)
    have HLT : Hid (∀ g, u5.ownBlock = some g → g < wc.heap.size) := Lib.hid fun g hg => (HM.out.2.1.where g hg).2
    clear HSU HFX HO3 HB3
    go_wp2_with (at_builtin; refine wp_appGB _ _ (by rfl) (by rfl) (by rfl) o5 (by rfl) o4.rd ?c2 hs4 ?_)
    case c2 => omega
    intro v5 w5 o6 b5 g5 l5
    have HO5 : Hid (OwnB wc.heap.size w5 v3 BD) := Lib.hid (HO4.out.kept g5 fun g hg e => by
      have h1 := (HO4.out.where g hg).1
      have h2 := HLT.out g e
      omega)
    have HB5 : Hid (Below w.heap.size w w5) := Lib.hid ((HM.out.2.2.trans (HB4.out.mono HM.out.2.2.size)).trans b5)
    have hs5 : w.heap.size ≤ w5.heap.size := HB5.out.size
    have hl5 : (L ++ F).length ≤ 8000000000017 := by rw [List.length_append]; omega
    clear o4 b4 o5 g5 l5 b5 HO4 HB4 HLT
    have HO5r := Lib.hid HO5.out.rd
    go_wp2_with (at_builtin; refine wp_appSB _ _ (by rfl) (by rfl) (by rfl) o6 (by rfl) HO5r.out ?c3 hs5 ?_)
    case c3 => omega
    intro v6 w6 o7 b6
    have HB6 := Lib.hid (HB5.out.trans b6)
    have HLAY : Hid (OwnB w.heap.size w6 v6 (L ++ PB)) := Lib.hid (by rw [HPB.out]; simpa only [List.append_assoc] using o7)
    have hPl : PB.length = 7 + n := by rw [HPB.out]; simp only [List.length_append, hFl]; have := hbd; omega
    clear o6 o7 b6 HB5 HO5 HO5r
    cases lb with
    | true =>
      have hX : X = L ++ PB := by have := HXX.out; rwa [if_pos rfl, List.append_nil] at this
      have HX2 := Lib.hid hX
      clear hX HXX HFB
      go_wp2_with fail
      go_ret
      exact ⟨v6, rfl, by rw [HX2.out]; exact HLAY.out, HB6.out⟩
    | false =>
      obtain ⟨k1, k2, k3⟩ := HFB.out rfl
      obtain ⟨l1, l2, l3, l4⟩ := HL2.out
      have hmod : (s + 7 + n) % 256 = 0 := by have := HRS.out; omega
      have hst : RaSt w X f (s + 7 + n) false ad (ne - n) (ce - n) v6 w6 := by
        refine ⟨DR, L ++ PB, HDR.out, HLAY.out, HB6.out, k1, ?_, ?_, ?_, ⟨fun h => (by contradiction), fun _ => hmod⟩⟩
        · have := HXX.out
          rw [if_neg (by decide)] at this
          rw [this, List.append_assoc]
        · rw [List.length_append, hPl]
          cases fb with
          | true => have := l3 rfl; omega
          | false => have := l4 rfl; have := HRS.out; omega
        · rw [List.length_append, hPl]; omega
      have HST := Lib.hid hst
      have HGK : Hid (f ≤ gk - 1 ∧ s + 7 + n ≤ 9000000000100 ∧ gk - 1 < gk) := Lib.hid ⟨by omega, by omega, by omega⟩
      clear hst hmod k1 k2 k3 l1 l2 l3 l4 HXX HFB HDR HLAY HB6 HL2
      go_wp2_with fail
      go_roundg (gk - 1)
      case measure => exact HGK.out.2.2
      case rel => exact ⟨s + 7 + n, f, false, ad, ne - n, ce - n, congrArg (Value.int .i64) (by omega), rfl, rfl, HGK.out.1, HGK.out.2.1, HST⟩
end Go.Proofs.YtdnohjhknhekhaaDoor
