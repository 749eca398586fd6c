/- The walk of incipitlaw22.PickLevels. -/
import Derived.Test.YtgdmmhdihgajkaaPkLevS
import Derived.Deep.LoopGhost
import Derived.RegionTactic
import Derived.Deep.Cut
import Derived.Deep.CutBlock
import Derived.Deep.QuietTactic
import Derived.BigQuiet
namespace Go.Proofs.Ytgdmmhdihgajkaa
set_option linter.unusedVariables false
set_option maxRecDepth 100000
open Go.RowKit
theorem PlSt.new (w0 w1 : World) (h : Below w0.heap.size w0 w1) :
    PlSt w0 ((((w1.alloc (.cells #[.slice none 0 0, .int .i64 0, .int .i64 0, .int .i64 0] 67)).alloc (.cells #[.int .i64 0, .int .i64 0, .int .i64 0, .slice none 0 0, .slice none 0 0] 44)).alloc (.cells #[.int .i64 0, .int .i64 0, .int .i64 0, .int .i64 0, .int .i64 0] 45)).alloc (.cells #[.int .i64 0, .int .i64 0, .int .i64 0, .int .i64 0, .int .i64 0] 46)) (w1.heap.size + 4) w1.heap.size (w1.heap.size + 1) (.slice none 0 0) (.slice none 0 0) [] (fun _ => 0) (fun _ => 0) := by
  refine ⟨h.size, by omega, by omega, by simp, (((BlkAt.new _ _ _).more _).more _).more _, ?_, ?_, ?_, OwnK.nil _ _ _ _ _, (((h.alloc h.size _).alloc (by simp; have := h.size; omega) _).alloc (by simp; have := h.size; omega) _).alloc (by simp; have := h.size; omega) _⟩
  · have k := ((BlkAt.new (w1.alloc (.cells #[.slice none 0 0, .int .i64 0, .int .i64 0, .int .i64 0] 67)) #[.int .i64 0, .int .i64 0, .int .i64 0, .slice none 0 0, .slice none 0 0] 44).more (.cells #[.int .i64 0, .int .i64 0, .int .i64 0, .int .i64 0, .int .i64 0] 45)).more (.cells #[.int .i64 0, .int .i64 0, .int .i64 0, .int .i64 0, .int .i64 0] 46)
    simp at k
    exact k
  · have k := (BlkAt.new ((w1.alloc (.cells #[.slice none 0 0, .int .i64 0, .int .i64 0, .int .i64 0] 67)).alloc (.cells #[.int .i64 0, .int .i64 0, .int .i64 0, .slice none 0 0, .slice none 0 0] 44)) #[.int .i64 0, .int .i64 0, .int .i64 0, .int .i64 0, .int .i64 0] 45).more (.cells #[.int .i64 0, .int .i64 0, .int .i64 0, .int .i64 0, .int .i64 0] 46)
    simp at k
    exact k
  · have k := BlkAt.new (((w1.alloc (.cells #[.slice none 0 0, .int .i64 0, .int .i64 0, .int .i64 0] 67)).alloc (.cells #[.int .i64 0, .int .i64 0, .int .i64 0, .slice none 0 0, .slice none 0 0] 44)).alloc (.cells #[.int .i64 0, .int .i64 0, .int .i64 0, .int .i64 0, .int .i64 0] 45)) #[.int .i64 0, .int .i64 0, .int .i64 0, .int .i64 0, .int .i64 0] 46
    simp at k
    exact k
set_option maxHeartbeats 16000000 in
theorem pickLevels_walk (w : World) (ma : Option Addr) (len cap : Nat) (zs : List Int) (hz : RdV w (.slice ma len cap) (zs.map (Value.int .i64))) (hzw : ∀ n ∈ zs, (Lit.int .i64 n).wf = true) : Calls Try.prog 4 #[.slice ma len cap] w fun e w' => e = .returned (.bool true) ∧ Below w.heap.size w w' := by
  have HBG := Lib.hid (pbegun_any w)
  have HZ : Hid (RdV w (.slice ma len cap) (zs.map encI64)) := Lib.hid hz
  obtain ⟨am, cm, em⟩ := edInts_len HZ.out
  simp only [Value.slice.injEq] at em
  have HZL := Lib.hid em.2.1
  clear hz hzw em
  go_enter Try.func4, Try.ntmps4
  go_wp2_with fail
  refine HBG.out.mono ?_
  rintro e w1 ⟨rfl, hb⟩
  have HB1 := Lib.hid hb
  clear hb HBG
  have HNEW := Lib.hid (vnew_any w1)
  go_wp2_with fail
  refine HNEW.out.mono ?_
  rintro e w2 ⟨rfl, rfl⟩
  clear HNEW
  have HS0 := Lib.hid (PlSt.new w w1 HB1.out)
  go_upto_block 0 with fail
  generalize (((w1.alloc (.cells #[.slice none 0 0, .int .i64 0, .int .i64 0, .int .i64 0] 67)).alloc (.cells #[.int .i64 0, .int .i64 0, .int .i64 0, .slice none 0 0, .slice none 0 0] 44)).alloc (.cells #[.int .i64 0, .int .i64 0, .int .i64 0, .int .i64 0, .int .i64 0] 45)).alloc (.cells #[.int .i64 0, .int .i64 0, .int .i64 0, .int .i64 0, .int .i64 0] 46) = w3 at *
  generalize w1.heap.size + 4 = B0 at *
  generalize w1.heap.size + 1 = g at *
  generalize w1.heap.size = b at *
  obtain ⟨z, hz⟩ : ∃ z : Nat → Int, z = fun i => nz (zs.getD i 0) := ⟨_, rfl⟩
  have HZN : Hid (∀ i x, zs[i]? = some x → z i = nz x) := Lib.hid fun i x hx => by rw [hz]; show nz (zs.getD i 0) = nz x; rw [List.getD_eq_getElem?_getD, hx]; rfl
  have hzb : ∀ i, 0 ≤ z i ∧ z i < 20000 := fun i => by rw [hz]; exact nz_bd _
  have HZB := Lib.hid hzb
  clear hz hzb
  have HS1 : Hid (PlSt w w3 B0 b g (.slice none 0 0) (.slice none 0 0) (plL z 0) (fun n => plS z n 0) (fun n => plM 0 n)) := Lib.hid (by
    have e : (fun n => plM 0 n) = fun _ : Nat => (0 : Int) := funext fun n => by unfold plM; rw [if_neg (by omega)]
    rw [e]
    exact HS0.out)
  clear HS0 HB1
  go_cut [] (fun wx => ∃ k al cl, k ≤ 12 ∧ Hid (PlSt w wx B0 b g (.slice al k cl) (.slice al k cl) (plL z k) (fun n => plS z n k) (fun n => plM k n)))
  case first =>
    go_wp2_with fail
    go_loopg [8, 9, 10, 11] 13 (fun kk vi _ _ _ wr => ∃ (i : Nat) (al : Option Addr) (cl : Nat), vi = .int .i64 (i : Int) ∧ i ≤ 12 ∧ 12 - i ≤ kk ∧ Hid (PlSt w wr B0 b g (.slice al i cl) (.slice al i cl) (plL z i) (fun n => plS z n i) (fun n => plM i n)))
    case atStart => exact ⟨0, none, 0, rfl, by omega, by omega, HS1⟩
    case round =>
      clear HS1
      obtain ⟨i, al, cl, rfl, hi, hik, HS⟩ := hrel
      by_cases hl : i < len
      · have hl1 : (i : Int) < (len : Int) := by omega
        by_cases h12 : i < 12
        · have h12i : (i : Int) < 12 := by omega
          have hi0 : (0 : Int) ≤ (i : Int) := by omega
          obtain ⟨c, hc⟩ : ∃ c, i % 4 = c := ⟨_, rfl⟩
          have hc4 : c < 4 := by have := Nat.mod_lt i (show 0 < 4 by decide); omega
          have hcT : (i : Int).tmod 4 = (c : Int) := by rw [Int.tmod_eq_emod_of_nonneg hi0]; omega
          obtain ⟨j, hj⟩ : ∃ j, 1 + c = j := ⟨_, rfl⟩
          have hjI : (1 : Int) + (c : Int) = (j : Int) := by omega
          have hj1 : 1 ≤ j := by omega
          have hj4 : j ≤ 4 := by omega
          obtain ⟨x, hx⟩ : ∃ x, zs[i]? = some x := ⟨zs[i]'(by have := HZL.out; omega), List.getElem?_eq_getElem _⟩
          obtain ⟨bm, om, rfl, hbm, hcell⟩ := edInts_at HZ.out i x hx
          have hcell : wr.cell? ⟨bm, om + i, none⟩ = some (.int .i64 x) := (HS.out.u.cell hbm).trans hcell
          have HZI := Lib.hid (HZN.out i x hx)
          obtain ⟨y, hy⟩ : ∃ y, x.tmod 20000 = y := ⟨_, rfl⟩
          have hyb : -20000 < y ∧ y < 20000 := by
            rw [← hy]
            exact ⟨by have := Int.lt_tmod_of_pos x (show (0 : Int) < 20000 by decide); omega, Int.tmod_lt_of_pos x (by decide)⟩
          have HNZ : Hid (nz x = if y < 0 then -y else y) := Lib.hid (by rw [← hy]; rfl)
          obtain ⟨hy1, hy2⟩ := hyb
          have HJ := Lib.hid (show j = 1 + i % 4 by omega)
          clear hx hc hj
          go_upto_if 39 with fail
          go_cut [10] (fun v wx => v = .int .i64 (z i) ∧ wr = wx)
          case first =>
            by_cases hn : y < 0
            · go_wp2_with fail
              go_meet
              exact ⟨by rw [HZI.out, HNZ.out, if_pos hn], rfl⟩
            · go_wp2_with fail
              go_meet
              exact ⟨by rw [HZI.out, HNZ.out, if_neg (by omega)], rfl⟩
          case rest =>
            obtain ⟨rfl, rfl⟩ := hcut
            clear hcell HZI HNZ hy hy1 hy2
            have hzi := HZB.out i
            obtain ⟨zi, hzi0⟩ : ∃ q, z i = q := ⟨_, rfl⟩
            have HZI := Lib.hid hzi0
            rw [hzi0] at hzi ⊢
            obtain ⟨hz1, hz2⟩ := hzi
            clear hzi0
            have hc1 := conv_let wr i (by omega)
            have hal : Below wr.heap.size wr (wr.alloc (.cells #[.int .u8 (97 + (i : Int))] 5)) := (Below.refl _ wr).alloc (Nat.le_refl _) _
            have HS2 := Lib.hid (HS.out.grow hal)
            have hsz := HS2.out.hw
            have hss : (wr.alloc (.cells #[.int .u8 (97 + (i : Int))] 5)).heap.size = wr.heap.size + 1 := by simp
            have HLN : Hid ((plL z i).length = i) := Lib.hid (plL_len z i)
            have hev : (wr.alloc (.cells #[.int .u8 (97 + (i : Int))] 5)).cell? ⟨g, 3, none⟩ = some (.slice al i cl) := HS2.out.eb.at 3
            clear hal HS
            go_wp2_with (at_builtin; refine wp_appHK elem_tbf encTbf_len _ _ (by rfl) (by rfl) (by rfl) HS2.out.o ⟨(i : Int) + 1, (j : Int), zi, ltr i, ltr i⟩ _ (by rfl) hss ?c1 ?c2 ?c3 hsz ?_)
            case c1 => exact tbf_cells _
            case c2 => have := HLN.out; omega
            case c3 => have := HLN.out; unfold maxLen; omega
            intro v6 w6 o6 b6
            have o7 : OwnK encTbf 5 49 B0 w6 v6 (plL z (i + 1)) := by
              rw [plL_succ, show plT z i = ⟨(i : Int) + 1, (j : Int), zi, ltr i, ltr i⟩ from by unfold plT; rw [HJ.out, HZI.out]]
              exact o6
            have HS6 := Lib.hid (HS2.out.over b6 o7)
            obtain ⟨a6, k6, rfl⟩ := fil_form o7
            rw [plL_len] at HS6 ⊢
            clear o6 o7 b6 HS2 hsz hss HLN hc1 hev
            have f3 := HS6.out.eb.free 3
            have e3 : w6.cell? ⟨g, 3, none⟩ = some (.slice al i cl) := HS6.out.eb.at 3
            have hs6 : w6.cell? ⟨g + 1, j, none⟩ = some (.int .i64 (plS z j i)) := (HS6.out.sb.at j).trans (arr5_at _ hj4)
            have fs6 := HS6.out.sb.free j
            have hm6 : w6.cell? ⟨g + 1 + 1, j, none⟩ = some (.int .i64 (plM i j)) := (HS6.out.mb.at j).trans (arr5_at _ hj4)
            have fm6 := HS6.out.mb.free j
            have hpb := plS_bd HZB.out j i
            have HS7 := Lib.hid ((HS6.out.setE (.slice a6 (i + 1) k6)).setS hj4 (plS z j i + zi))
            have eS : (fun n => if n = j then plS z j i + zi else plS z n i) = fun n => plS z n (i + 1) := funext fun n => by
              rw [plS_succ, HZI.out, ← HJ.out]
              by_cases h : n = j <;> simp [h]
            have HS8 : Hid (PlSt w ((w6.setCell ⟨g, 3, none⟩ (.slice a6 (i + 1) k6)).setCell ⟨g + 1, j, none⟩ (.int .i64 (plS z j i + zi))) B0 b g (.slice a6 (i + 1) k6) (.slice a6 (i + 1) k6) (plL z (i + 1)) (fun n => plS z n (i + 1)) (fun n => plM i n)) := Lib.hid (by rw [← eS]; exact HS7.out)
            clear HS6 HS7 eS
            obtain ⟨s, hs⟩ : ∃ s, plS z j i = s := ⟨_, rfl⟩
            rw [hs] at hs6 hpb HS8
            obtain ⟨m, hm⟩ : ∃ m, plM i j = m := ⟨_, rfl⟩
            rw [hm] at hm6
            have HMJ := Lib.hid hm
            clear hs hm
            obtain ⟨hp0, hp1⟩ := hpb
            have hji : (j : Int) < 5 := by omega
            have hj0 : (0 : Int) ≤ (j : Int) := by omega
            by_cases hm0 : m = 0
            · subst hm0
              have eM : (fun n => if n = j then (i : Int) + 1 else plM i n) = fun n => plM (i + 1) n := funext fun n => by
                rw [plM_succ, ← HJ.out]
                by_cases h : n = j
                · subst h; rw [if_pos rfl, if_pos ⟨rfl, HMJ.out⟩]
                · rw [if_neg h, if_neg fun q => h q.1]
              have HS9 := Lib.hid (HS8.out.setM hj4 ((i : Int) + 1))
              rw [eM] at HS9
              clear HS8 eM
              go_wp2_with fail
              go_roundg (12 - (i + 1))
              case measure => omega
              case rel => exact ⟨i + 1, a6, k6, by go_num, by omega, Nat.le_refl _, HS9⟩
            · have hm1 : ((m : Int) == 0) = false := beq_false_of_ne hm0
              have eM : (fun n => plM i n) = fun n => plM (i + 1) n := funext fun n => by
                rw [plM_succ, ← HJ.out, if_neg]
                rintro ⟨rfl, q⟩
                exact hm0 (HMJ.out.symm.trans q)
              rw [eM] at HS8
              clear eM
              go_wp2_with fail
              go_roundg (12 - (i + 1))
              case measure => omega
              case rel => exact ⟨i + 1, a6, k6, by go_num, by omega, Nat.le_refl _, HS8⟩
        · have HE := HS
          go_wp2_with fail
          go_meet
          exact ⟨i, al, cl, hi, HE⟩
      · have HE := HS
        have hl1 : ¬ (i : Int) < (len : Int) := by omega
        go_wp2_with fail
        go_meet
        exact ⟨i, al, cl, hi, HE⟩
  case rest =>
    obtain ⟨k, al, cl, hk, HS⟩ := hcut
    clear HS1 HZ HZN HZL
    have f0 := HS.out.eb.free 0
    have c0 : wc.cell? ⟨g, 0, none⟩ = some (.int .i64 0) := HS.out.eb.at 0
    obtain ⟨hu, hB4, hvb, ho4, hb4⟩ := HS.out.side (c := g) (o := 0) (v := .int .i64 50) rfl (Nat.le_refl _) HS.out.eb (by decide)
    have heb := HS.out.eb.set (o := 0) (.int .i64 50)
    have hsb := (hu.block (g + 1) HS.out.sb.lt (fun q => by have : g + 1 = g := q; omega)).trans HS.out.sb
    have hmb := (hu.block (g + 1 + 1) HS.out.mb.lt (fun q => by have : g + 1 + 1 = g := q; omega)).trans HS.out.mb
    have hgb := HS.out.hg
    have hwb := HS.out.hb
    have hgB := HS.out.hB
    clear HS hu
    have HAP := Lib.hid (vapply_any (B := B0) (w := wc.setCell ⟨g, 0, none⟩ (.int .i64 50)) (b := b) (V := Ver.new) ⟨⟨_, 0, hvb, OwnK.nil _ _ _ _ _, rfl⟩, List.Pairwise.nil, new_good⟩ hB4 (.agg #[.int .i64 50, .int .i64 0, .int .i64 0, .slice al k cl, .slice none 0 0]) (plE z k) ⟨_, _, rfl, ho4.rd encTbf_len, RdV.nil _ _ _⟩ (plE_ok z hk))
    obtain ⟨e0, e1, e2, e3, e4⟩ := cell5_of heb
    have HST : Hid (BlkAt (wc.setCell ⟨g, 0, none⟩ (.int .i64 50)) (g + 1) (arr5 fun n => plS z n k) 45 ∧ BlkAt (wc.setCell ⟨g, 0, none⟩ (.int .i64 50)) (g + 1 + 1) (arr5 fun n => plM k n) 46 ∧ Below w.heap.size w (wc.setCell ⟨g, 0, none⟩ (.int .i64 50))) := Lib.hid ⟨hsb, hmb, hb4⟩
    clear hB4 hvb ho4 hb4 heb hsb hmb
    go_wp2_with fail
    clear f0 c0 e0 e1 e2 e3 e4
    generalize wc.setCell ⟨g, 0, none⟩ (.int .i64 50) = w4 at *
    refine HAP.out.mono ?_
    rintro e w5 ⟨c1, V1, rfl, hv, hu, -, h2⟩
    obtain ⟨rfl, hs⟩ := h2 _ (plE_is HZB.out hk)
    have HV5 := Lib.hid hv
    have hsb := (hu.block (g + 1) HST.out.1.lt (fun q => by have : g + 1 = b := q; omega)).trans HST.out.1
    have hmb := (hu.block (g + 1 + 1) HST.out.2.1.lt (fun q => by have : g + 1 + 1 = b := q; omega)).trans HST.out.2.1
    have HST5 : Hid (BlkAt w5 (g + 1) (arr5 fun n => plS z n k) 45 ∧ BlkAt w5 (g + 1 + 1) (arr5 fun n => plM k n) 46 ∧ Below w.heap.size w w5) := Lib.hid ⟨hsb, hmb, HST.out.2.2.trans (UpdF.below hu HST.out.2.2.size fun q hq e => by have : q = b := e; omega)⟩
    have g1 : GoodV (plV z k) := pl_good HZB.out hk
    obtain ⟨hj1, hj2⟩ := jobN_same hs g1
    have HN := Lib.hid (pnext_any (vLvs HV5.out))
    unfold JobTo at HN
    rw [← hj1, ← hj2] at HN
    clear HAP hv hu h2 hs g1 hj1 hj2 hsb hmb HST HV5
    obtain ⟨J, hJ⟩ : ∃ J, jobN (plV z k).fs = J := ⟨_, rfl⟩
    obtain ⟨K, hK⟩ : ∃ K, (pickV (plV z k).fs).isSome = K := ⟨_, rfl⟩
    have HJK : Hid (jobN (plL z k) = J ∧ (pickV (plL z k)).isSome = K) := Lib.hid ⟨hJ, hK⟩
    rw [hJ, hK] at HN
    clear hJ hK
    obtain ⟨lv, is, bs, bt⟩ := J
    simp only at HN
    go_wp2_with fail
    refine HN.out.mono ?_
    rintro e w6 ⟨u1, u2, rfl, ho1, ho2, hb⟩
    have hR1 := ho1.rd encTbf_len
    obtain ⟨a1, c1, rfl⟩ := fil_form ho1
    obtain ⟨a2, c2, rfl⟩ := fil_form ho2
    obtain ⟨N1, hN1⟩ : ∃ N, is.length = N := ⟨_, rfl⟩
    obtain ⟨N2, hN2⟩ : ∃ N, bs.length = N := ⟨_, rfl⟩
    have HNN := Lib.hid (And.intro hN1 hN2)
    rw [hN1] at hR1
    rw [hN1, hN2]
    have hA : Below w6.heap.size w6 ((w6.alloc (.cells #[.int .i64 lv, .slice a1 N1 c1, .slice a2 N2 c2, .bool bt] 32)).alloc (.cells #[.int .i64 0, .int .i64 2000, .int .i64 8000, .int .i64 32000] 3)) := ((Below.refl _ _).alloc (Nat.le_refl _) _).alloc (by simp) _
    have hA5 := hb.trans (hA.mono hb.size)
    have HST6 : Hid (BlkAt _ (g + 1) (arr5 fun n => plS z n k) 45 ∧ BlkAt _ (g + 1 + 1) (arr5 fun n => plM k n) 46 ∧ Below w.heap.size w _) := Lib.hid ⟨HST5.out.1.below hA5, HST5.out.2.1.below hA5, HST5.out.2.2.trans (hA5.mono HST5.out.2.2.size)⟩
    have HR6 := Lib.hid (hR1.below hA)
    have HX6 : Hid (BlkAt _ w6.heap.size #[.int .i64 lv, .slice a1 N1 c1, .slice a2 N2 c2, .bool bt] 32) := Lib.hid ((BlkAt.new w6 _ _).more (.cells #[.int .i64 0, .int .i64 2000, .int .i64 8000, .int .i64 32000] 3))
    have hY := BlkAt.new (w6.alloc (.cells #[.int .i64 lv, .slice a1 N1 c1, .slice a2 N2 c2, .bool bt] 32)) #[.int .i64 0, .int .i64 2000, .int .i64 8000, .int .i64 32000] 3
    rw [show (w6.alloc (.cells #[.int .i64 lv, .slice a1 N1 c1, .slice a2 N2 c2, .bool bt] 32)).heap.size = w6.heap.size + 1 by simp] at hY
    have HY6 := Lib.hid hY
    clear ho1 ho2 hb hA hA5 HN HST5 hR1 hY hN1 hN2
    go_wp2_with fail
    generalize (w6.alloc (.cells #[.int .i64 lv, .slice a1 N1 c1, .slice a2 N2 c2, .bool bt] 32)).alloc (.cells #[.int .i64 0, .int .i64 2000, .int .i64 8000, .int .i64 32000] 3) = w7 at *
    generalize w6.heap.size + 1 = p2 at *
    generalize w6.heap.size = p1 at *
    have HP0 : Hid (plPre z k 1) := Lib.hid fun m h1 h2 => by omega
    have HB0 := Lib.hid (Below.refl w7.heap.size w7)
    go_loopg [15] 4 (fun kk vn wr => ∃ n : Nat, vn = .int .i64 (n : Int) ∧ 1 ≤ n ∧ n ≤ 4 ∧ 4 - n ≤ kk ∧ Hid (plPre z k n) ∧ Hid (Below w7.heap.size w7 wr))
    case atStart => exact ⟨1, rfl, by omega, by omega, by omega, HP0, HB0⟩
    case round =>
      clear HP0 HB0
      obtain ⟨n, rfl, hn1, hn4, hnk, HP, HB⟩ := hrel
      by_cases h3 : n ≤ 3
      · have hd3 : (n : Int) ≤ 3 := by omega
        have hd5 : (n : Int) < 5 := by omega
        have hd4 : (n : Int) < 4 := by omega
        have hd0 : (0 : Int) ≤ (n : Int) := by omega
        have hcs : wr.cell? ⟨g + 1, n, none⟩ = some (.int .i64 (plS z n k)) := ((HST6.out.1.below HB.out).at n).trans (arr5_at _ (by omega))
        have hcb : wr.cell? ⟨p2, n, none⟩ = some (.int .i64 (plB n)) := ((HY6.out.below HB.out).at n).trans (plB_at hn1 h3)
        obtain ⟨s, hs⟩ : ∃ s, plS z n k = s := ⟨_, rfl⟩
        obtain ⟨t, ht⟩ : ∃ s, plB n = s := ⟨_, rfl⟩
        rw [hs] at hcs
        rw [ht] at hcb
        have HTS := Lib.hid (And.intro hs ht)
        clear hs ht
        by_cases hlt : t < s
        · have hpk := pl_yes hn1 h3 HP.out (by rw [HTS.out.1, HTS.out.2]; exact hlt)
          obtain ⟨hnk2, hjb, hkb⟩ := pl_job hk hn1 h3 hpk
          have hjb := hjb.symm.trans HJK.out.1
          simp only [JobV.mk.injEq] at hjb
          obtain ⟨rfl, rfl, rfl, rfl⟩ := hjb
          obtain rfl : K = true := HJK.out.2.symm.trans hkb
          obtain rfl : N1 = 1 := HNN.out.1.symm
          obtain rfl : N2 = 0 := HNN.out.2.symm
          have HW : Hid (Below w.heap.size w wr) := Lib.hid (HST6.out.2.2.trans (HB.out.mono HST6.out.2.2.size))
          have hml : plM k n = (n : Int) := by unfold plM; rw [if_pos (by omega)]
          go_upto_region 28 with fail
          go_quiet (fail)
          have HB2 := Lib.hid (HB.out.trans (((DrN.refl wr).more nq).below w7.heap.size))
          have HW2 := Lib.hid (HW.out.trans (((DrN.refl wr).more nq).below w.heap.size))
          clear hcs hcb HB HW
          generalize wr.drewN nq = wq at *
          obtain ⟨k0, k1, k2, k3⟩ := cell4_of (HX6.out.below HB2.out)
          obtain ⟨b1, o1, rfl, -, q0, q1, q2, q3, q4⟩ := (HR6.out.below HB2.out).atTbf 0 _ rfl
          have q0 : wq.cell? ⟨b1, o1, none⟩ = some (.int .i64 (n : Int)) := by
            simp only [Nat.zero_mul, Nat.add_zero] at q0
            rw [q0]
            show some (Value.int .i64 (((n - 1 : Nat) : Int) + 1)) = _
            rw [show ((n - 1 : Nat) : Int) + 1 = (n : Int) by omega]
          have hcm : wq.cell? ⟨g + 1 + 1, n, none⟩ = some (.int .i64 (n : Int)) := ((HST6.out.2.1.below HB2.out).at n).trans ((arr5_at _ (by omega)).trans (by rw [hml]))
          clear q1 q2 q3 q4 hml hpk hkb HR6 HX6 HY6 HST6 HB2 HTS
          go_upto_region 29 with fail
          go_quiet (fail)
          have HW3 := Lib.hid (HW2.out.trans (((DrN.refl wq).more nq).below w.heap.size))
          generalize wq.drewN nq = wz at *
          go_wp2_with fail
          go_ret
          exact ⟨rfl, HW3.out⟩
        · have HP2 : Hid (plPre z k (n + 1)) := Lib.hid fun m h1 h2 => by
            by_cases hm : m < n
            · exact HP.out m h1 hm
            · obtain rfl : m = n := by omega
              rw [HTS.out.1, HTS.out.2]; exact hlt
          go_upto_region 28 with fail
          go_quiet (fail)
          have HB2 := Lib.hid (HB.out.trans (((DrN.refl wr).more nq).below w7.heap.size))
          generalize wr.drewN nq = wq at *
          clear hcs hcb HB
          go_wp2_with fail
          go_roundg (4 - (n + 1))
          case measure => omega
          case rel => exact ⟨n + 1, by go_num, by omega, by omega, Nat.le_refl _, HP2, HB2⟩
      · obtain rfl : n = 4 := by omega
        obtain ⟨hjb, hkb⟩ := job_none (pl_no HP.out)
        have hjb := hjb.symm.trans HJK.out.1
        simp only [JobV.mk.injEq] at hjb
        obtain ⟨rfl, rfl, rfl, rfl⟩ := hjb
        obtain rfl : K = false := HJK.out.2.symm.trans hkb
        obtain rfl : N1 = 0 := HNN.out.1.symm
        obtain rfl : N2 = 0 := HNN.out.2.symm
        have HW : Hid (Below w.heap.size w wr) := Lib.hid (HST6.out.2.2.trans (HB.out.mono HST6.out.2.2.size))
        obtain ⟨k0, k1, k2, k3⟩ := cell4_of (HX6.out.below HB.out)
        clear hkb HP HB
        go_wp2_with fail
        go_ret
        exact ⟨rfl, HW.out⟩
end Go.Proofs.Ytgdmmhdihgajkaa
