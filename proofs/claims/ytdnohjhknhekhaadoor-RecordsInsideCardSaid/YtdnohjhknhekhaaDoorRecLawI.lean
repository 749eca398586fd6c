/- The walk of the law RecordsInside. -/
import Derived.Test.YtdnohjhknhekhaaDoorRecBegun
namespace Go.Proofs.YtdnohjhknhekhaaDoor
set_option linter.unusedVariables false
open Go.RowKit
theorem cut_one (b : List UInt8) (c : Nat) (hc : c < (layB smN 0 b).length) : readC smN ((layB smN 0 b).take c) = ([], 0, true) := by
  have := readC_cut smN_len [b] c (by simp only [layAll, List.append_nil]; omega)
  have hf : fitK smN 0 [b] c = 0 := by rw [fitK, if_neg (by omega)]
  rw [hf] at this
  simp only [layAll, List.append_nil, List.take_zero, List.length_nil] at this
  exact this
set_option maxHeartbeats 4000000 in
set_option maxRecDepth 100000 in
theorem recordsInside_walk (w : World) (ht : TabAt w) (n : Int) (wn : (Lit.int .i64 n).wf = true) (cut : Int) (wc0 : (Lit.int .i64 cut).wf = true) :
    Calls Tryd.prog 6 #[.int .i64 n, .int .i64 cut] w fun e w' => e = .returned (.bool true) ∧ Below w.heap.size w w' := by
  clear wn wc0
  have HBE := Lib.hid (rbegun_any w ht)
  have HT := Lib.hid ht
  clear ht
  by_cases h1 : n < 1
  · have hd1 : decide (n < 1) = true := decide_eq_true h1
    go_enter Tryd.func6, Tryd.ntmps6
    go_wp2_with fail
    refine HBE.out.mono ?_
    rintro e w1 ⟨rfl, B⟩
    go_wp2_with fail
    go_ret
    exact ⟨rfl, B⟩
  have hd1 : decide (n < 1) = false := decide_eq_false h1
  by_cases h2 : 20 < n
  · have hd2 : decide (20 < n) = true := decide_eq_true h2
    go_enter Tryd.func6, Tryd.ntmps6
    go_wp2_with fail
    refine HBE.out.mono ?_
    rintro e w1 ⟨rfl, B⟩
    go_wp2_with fail
    go_ret
    exact ⟨rfl, B⟩
  have hd2 : decide (20 < n) = false := decide_eq_false h2
  obtain ⟨N, rfl⟩ := Int.eq_ofNat_of_zero_le (show 0 ≤ n by omega)
  have hN : N ≤ 20 := by omega
  go_enter Tryd.func6, Tryd.ntmps6
  go_wp2_with fail
  refine HBE.out.mono ?_
  rintro e w1 ⟨rfl, B⟩
  have HB := Lib.hid B
  have HT1 := Lib.hid (HT.out.below B)
  clear B HBE HT
  have hlay : (layB smN 0 [105, 110, 110, 101, 114]).length = 12 := by rw [one_lay _ (by decide), piece_len smN_len]; rfl
  have HLY := Lib.hid hlay
  clear hlay
  go_wp2_with fail
  go_loopg [6, 7] N (fun kk v vi wr => ∃ (j : Nat), vi = .int .i64 (j : Int) ∧ j ≤ N ∧ N - j ≤ kk ∧ Hid (∃ I : List UInt8, I.length = 12 * j ∧ OwnB w1.heap.size wr v I ∧ Below w1.heap.size w1 wr))
  case atStart => exact ⟨0, rfl, Nat.zero_le _, by omega, Lib.hid ⟨[], rfl, OwnB.nil _ _, Below.refl _ _⟩⟩
  case round =>
    obtain ⟨j, rfl, hj, hjk, HS⟩ := hrel
    obtain ⟨I, hI, hown, hbel⟩ := HS.out
    have hwr := hbel.size
    have HI := Lib.hid hI
    have hIl : I.length ≤ 240 := by omega
    by_cases hlt : j < N
    · have hz1 : (j : Int) < (N : Int) := by omega
      have hcv := litW_run wr [105, 110, 110, 101, 114] #[.int .u8 105, .int .u8 110, .int .u8 110, .int .u8 101, .int .u8 114] 5 rfl
      have BL := litW_below wr [105, 110, 110, 101, 114]
      have HA := Lib.hid (append_any 0 (by omega) _ [105, 110, 110, 101, 114] (by decide) (litW wr [105, 110, 110, 101, 114]) ((HT1.out.below hbel).below BL) (litW_rd wr [105, 110, 110, 101, 114] 5 rfl (by decide)))
      generalize layB smN 0 [105, 110, 110, 101, 114] = P at *
      generalize litW wr [105, 110, 110, 101, 114] = W at *
      have HO := Lib.hid (And.intro (hown.below BL) (hbel.trans (BL.mono hwr)))
      clear hI hown hbel HS BL
      go_wp2_with fail
      refine HA.out.mono ?_
      rintro e w3 ⟨v3, rfl, o3, b3⟩
      have o4 := HO.out.1.below b3
      have B4 := HO.out.2.trans (b3.mono HO.out.2.size)
      have hs4 := B4.size
      have hPl : P.length = 12 := HLY.out
      clear HA
      go_wp2_with (at_builtin; refine wp_appSB _ _ (by rfl) (by rfl) (by rfl) o4 (by rfl) o3.rd ?c1 hs4 ?_)
      case c1 => omega
      intro v5 w5 o5 b5
      have HN : Hid (∃ I : List UInt8, I.length = 12 * (j + 1) ∧ OwnB w1.heap.size w5 v5 I ∧ Below w1.heap.size w1 w5) := Lib.hid ⟨I ++ P, by rw [List.length_append, hPl, HI.out]; omega, o5, B4.trans b5⟩
      clear o3 b3 o4 B4 o5 b5 HO
      go_wp2_with fail
      go_roundg (N - (j + 1))
      case measure => omega
      case rel => exact ⟨j + 1, by go_num, hlt, Nat.le_refl _, HN⟩
    · obtain rfl : j = N := by omega
      have hz1 : ¬ (j : Int) < (j : Int) := by omega
      have HA := Lib.hid (append_any 0 (by omega) u6 I (by omega) wr (HT1.out.below hbel) hown.rd)
      have HRC : Hid (∀ c, c < (layB smN 0 I).length → readC smN ((layB smN 0 I).take c) = ([], 0, true)) := Lib.hid (cut_one I)
      have hLl := layB_len smN smN_len 0 I
      have HB1 := Lib.hid hbel
      generalize layB smN 0 I = L at *
      clear hI hown hbel HS HI
      go_wp2_with fail
      refine HA.out.mono ?_
      rintro e w3 ⟨v3, rfl, o3, b3⟩
      obtain ⟨a3, l3, c3, rfl, hl3, hc3, hcm⟩ := o3.form
      unfold maxLen at hcm
      have HB3 := Lib.hid (HB1.out.trans (b3.mono HB1.out.size))
      have HL3 := Lib.hid hl3
      have hl32 : l3 ≤ 2000 := by omega
      have HO3 := Lib.hid o3.rd
      have HBW := Lib.hid (HB.out.trans (HB3.out.mono HB.out.size))
      clear HA o3 b3 hl3 hLl HB1
      by_cases h3 : cut < 1
      · have hd3 : decide (cut < 1) = true := decide_eq_true h3
        go_wp2_with fail
        go_ret
        exact ⟨rfl, HBW.out⟩
      have hd3 : decide (cut < 1) = false := decide_eq_false h3
      obtain ⟨C, rfl⟩ := Int.eq_ofNat_of_zero_le (show 0 ≤ cut by omega)
      by_cases h4 : (l3 : Int) < (C : Int)
      · have hd4 : decide ((l3 : Int) < (C : Int)) = true := decide_eq_true h4
        go_wp2_with fail
        go_ret
        exact ⟨rfl, HBW.out⟩
      have hd4 : decide ((l3 : Int) < (C : Int)) = false := decide_eq_false h4
      obtain ⟨d, hd⟩ : ∃ d, l3 - C = d := ⟨_, rfl⟩
      have hdi : (l3 : Int) - (C : Int) = (d : Int) := by omega
      have hdl : d ≤ l3 := by omega
      have hdL : d < L.length := by have := HL3.out; omega
      have HR := Lib.hid (read_any a3 d c3 (L.take d) (by rw [List.length_take]; omega) w3 (HT1.out.below HB3.out) (HO3.out.take d hdl))
      rw [HRC.out d hdL] at HR
      have hsl := fun W => sl_hB W a3 l3 c3 d (by omega)
      clear hd hdL HO3 HRC HT1
      go_wp2_with fail
      refine HR.out.mono ?_
      rintro e w4 ⟨v4, rfl, r4, b4⟩
      obtain ⟨a4, c4, rfl, -, -⟩ := r4.form
      have HBZ := Lib.hid (HBW.out.trans (b4.mono HBW.out.size))
      clear HR r4 b4 HBW
      go_wp2_with fail
      go_ret
      exact ⟨rfl, HBZ.out⟩
end Go.Proofs.YtdnohjhknhekhaaDoor
