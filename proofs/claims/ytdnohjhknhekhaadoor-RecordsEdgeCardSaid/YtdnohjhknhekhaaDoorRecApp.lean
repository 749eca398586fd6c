/- reclog.Append: the bytes that come behind a log, so that a record is laid. -/
import Derived.Test.YtdnohjhknhekhaaDoorRecLay
import Derived.Test.YtdnohjhknhekhaaDoorByMake
import Derived.Deep.LoopGhost
namespace Go.Proofs.YtdnohjhknhekhaaDoor
set_option linter.unusedVariables false
open Go.RowKit
set_option maxHeartbeats 4000000 in
set_option maxRecDepth 100000 in
theorem append_any (a : Nat) (ha : a ≤ 9223372036854775807) (vb : Value) (b : List UInt8) (hb : b.length ≤ 1000000000000) (w : World) (ht : TabAt w) (hrd : RdB w vb b) :
    Calls Tryd.prog 10 #[.int .i64 (a : Int), vb] w (MkB (layB smN a b) w) := by
  rw [← layB_mod]
  obtain ⟨p, hp⟩ : ∃ p, a % 256 = p := ⟨_, rfl⟩
  have hpi : (a : Int) % 256 = (p : Int) := by omega
  have hmx : max (a : Int) 0 = (a : Int) := by omega
  have hp2 : p ≤ 255 := by omega
  have HN : Hid (∀ w, Calls Tryd.prog 14 #[.int .i64 (p : Int)] w fun e w' => e = .returned (.int .i64 ((p + padN p : Nat) : Int)) ∧ w = w') := Lib.hid (next_any p (by omega))
  obtain ⟨q, hq⟩ : ∃ q, padN p = q := ⟨_, rfl⟩
  obtain ⟨s, hs⟩ : ∃ s, p + q = s := ⟨_, rfl⟩
  obtain ⟨R, hR⟩ : ∃ R, roomN p = R := ⟨_, rfl⟩
  obtain ⟨r1, r2, r3⟩ := pad_room p
  have hRe : 256 - s % 256 - 7 = R := by rw [← hR, ← hs, ← hq]; rfl
  rw [hq, hs] at HN r1
  rw [hR] at r2
  rw [hq] at r3
  have e1 : (256 : Int) - (s : Int) % 256 - 7 = (R : Int) := by omega
  have e2 : (s : Int) - (p : Int) = (q : Int) := by omega
  have hs2 : s ≤ 300 := by omega
  have hmk := mkB_run q (by omega)
  have HQ := Lib.hid (mkB_own w q (by omega))
  have HB : Hid (Below w.heap.size w (w.alloc (.cells (madeCells #[.int .u8 0] q) 5))) := Lib.hid ((Below.refl _ w).alloc (Nat.le_refl _) _)
  rw [hp]
  obtain ⟨ab, nb, cb, rfl, hnb, hcb⟩ := hrd.form
  have HR : Hid (RdB w (.slice ab nb cb) b) := Lib.hid hrd
  have hnb2 : nb ≤ 1000000000000 := by omega
  have hcb0 := hcb
  clear hrd hRe hcb
  clear hp
  have hql : (List.replicate q (0 : UInt8)).length ≤ 6 := by rw [List.length_replicate]; exact r3
  obtain ⟨Q, hQ⟩ : ∃ Q, List.replicate q (0 : UInt8) = Q := ⟨_, rfl⟩
  rw [hQ] at HQ hql
  by_cases hle : b.length ≤ R
  · have hz : (nb : Int) ≤ (R : Int) := by omega
    have HP : Hid (layB smN p b = Q ++ pieceB smN 1 b) := Lib.hid (by rw [layB_whole smN p b (by rw [hR]; exact hle), hq, hQ])
    have hb2 : b.length ≤ 249 := by omega
    clear hq hs hR hnb hQ hle
    go_enter Tryd.func10, Tryd.ntmps10
    go_wp2_with fail
    refine (HN.out _).mono ?_
    rintro e w' ⟨rfl, rfl⟩
    go_upto_region 5 with fail
    clear hmk
    generalize w.alloc (.cells (madeCells #[.int .u8 0] q) 5) = w2 at HQ HB ⊢
    have HL := Lib.hid (lay_any w w2 HB.out ht 1 (by omega) b hb2 ab nb cb HR.out Q (by omega) _ HQ.out)
    go_wp2_with fail
    refine HL.out.mono ?_
    rintro e w3 ⟨v3, rfl, o3, b3⟩
    go_wp2
    go_ret
    exact ⟨v3, rfl, by rw [HP.out]; exact o3, HB.out.trans b3⟩
  · have hz : ¬ (nb : Int) ≤ (R : Int) := by omega
    have HP : Hid (layB smN p b = Q ++ (pieceB smN 2 (b.take R) ++ midsB smN (b.drop R))) := Lib.hid (by rw [layB_more smN p b (by rw [hR]; exact hle), hq, hQ, hR])
    have hT : (b.take R).length ≤ 249 := by rw [List.length_take]; omega
    have hRn : R ≤ nb := by omega
    have HTK : Hid (RdB w (.slice ab R cb) (b.take R)) := Lib.hid (HR.out.take R hRn)
    have HDR : Hid (RdB w (.slice (if cb = R then ab else ab.map (·.add R)) (nb - R) (cb - R)) (b.drop R)) := Lib.hid (HR.out.drop R hRn)
    have hcb : nb ≤ cb := (hcb0 (by omega)).1
    have hsl := fun W => sl_hB W ab nb cb R (by omega)
    have hsl2 := fun W => sl_lB W ab nb cb R hRn hcb
    obtain ⟨ad, had⟩ : ∃ ad, (if cb = R then ab else ab.map (·.add R)) = ad := ⟨_, rfl⟩
    simp only [had] at HDR hsl2
    have hpl : (Q ++ pieceB smN 2 (b.take R)).length ≤ 262 := by rw [List.length_append, piece_len smN_len]; omega
    have hdl : (b.drop R).length = nb - R := by rw [List.length_drop]; omega
    obtain ⟨n1, hn1⟩ : ∃ n1, nb - R = n1 := ⟨_, rfl⟩
    obtain ⟨c1, hc1⟩ : ∃ c1, cb - R = c1 := ⟨_, rfl⟩
    rw [hn1, hc1] at HDR
    simp only [hn1, hc1] at hsl2
    rw [hn1] at hdl
    have hn1b : n1 ≤ 1000000000000 := by omega
    generalize b.drop R = D at *
    generalize b.take R = T at *
    obtain ⟨X, hX⟩ : ∃ X, layB smN p b = X := ⟨_, rfl⟩
    rw [hX] at HP ⊢
    clear hX hq hs hR hnb hQ hle HR had hn1 hc1 hcb0
    go_enter Tryd.func10, Tryd.ntmps10
    go_wp2_with fail
    refine (HN.out _).mono ?_
    rintro e w' ⟨rfl, rfl⟩
    go_upto_region 5 with fail
    clear hmk
    generalize w.alloc (.cells (madeCells #[.int .u8 0] q) 5) = w2 at HQ HB ⊢
    have HL := Lib.hid (lay_any w w2 HB.out ht 2 (by omega) T hT ab R cb HTK.out Q (by omega) _ HQ.out)
    go_wp2_with fail
    refine HL.out.mono ?_
    rintro e w3 ⟨v3, rfl, o3, b3⟩
    have HB3 := Lib.hid (HB.out.trans b3)
    have HO3 := Lib.hid o3
    clear HL HB HQ b3 o3 hsl
    go_wp2_with fail
    generalize pieceB smN 2 T = P2 at *
    clear HTK HN hsl2
    go_loopg [7, 1] n1 (fun kk v bb wr => ∃ (L E : List UInt8) (ae : Option Addr) (ne ce : Nat), bb = .slice ae ne ce ∧ ne ≤ kk ∧ E.length = ne ∧ Hid (RdB w (.slice ae ne ce) E) ∧ Hid (OwnB w.heap.size wr v L) ∧ Hid (Below w.heap.size w wr) ∧ L.length + 8 * ne ≤ 8000000000262 ∧ Hid (X = L ++ midsB smN E))
    case atStart => exact ⟨Q ++ P2, D, ad, n1, c1, rfl, Nat.le_refl _, hdl, HDR, HO3, HB3, by omega, Lib.hid (by rw [HP.out, List.append_assoc])⟩
    case round =>
      clear HP HDR HO3 HB3 hpl hdl
      obtain ⟨L, E, ae, ne, ce, rfl, hkk, hEl, HRE, HOL, HBL, hLl, HX⟩ := hrel
      have hw := HBL.out.size
      by_cases hlt : 249 < ne
      · have hz1 : (249 : Int) < (ne : Int) := by omega
        have hce : ne ≤ ce := by
          obtain ⟨_, _, _, e, -, hc⟩ := HRE.out.form
          simp only [Value.slice.injEq] at e
          obtain ⟨-, rfl, rfl⟩ := e
          exact (hc (by omega)).1
        have hTl : (E.take 249).length ≤ 249 := by rw [List.length_take]; omega
        have hT2 : (E.take 249).length = 249 := by rw [List.length_take]; omega
        have HTK : Hid (RdB w (.slice ae 249 ce) (E.take 249)) := Lib.hid (HRE.out.take 249 (by omega))
        obtain ⟨⟨ge, oe, rfl⟩, -⟩ := (rdV_len HRE.out).2 (by omega)
        have HDR : Hid (RdB w (.slice (some ⟨ge, oe + 249, none⟩) (ne - 249) (ce - 249)) (E.drop 249)) := Lib.hid (by
          have := HRE.out.drop 249 (by omega)
          rw [if_neg (by omega)] at this
          simpa only [Option.map_some, add_at] using this)
        have hdl : (E.drop 249).length = ne - 249 := by rw [List.length_drop]; omega
        have HXN : Hid (X = L ++ (pieceB smN 3 (E.take 249) ++ midsB smN (E.drop 249))) := Lib.hid (by rw [HX.out, mids_more smN E (by omega)])
        have hPl := piece_len smN_len 3 (E.take 249)
        rw [hT2] at hPl
        have HLL : Hid ((L ++ pieceB smN 3 (E.take 249)).length + 8 * (ne - 249) ≤ 8000000000262) := Lib.hid (by rw [List.length_append, hPl]; omega)
        have HKK : Hid (ne - 249 < gk) := Lib.hid (by omega)
        generalize E.take 249 = T2 at *
        generalize E.drop 249 = D2 at *
        have HL := Lib.hid (lay_any w wr HBL.out ht 3 (by omega) T2 hTl (some ⟨ge, oe, none⟩) 249 ce HTK.out L (by omega) _ HOL.out)
        clear HTK HX HRE HOL hEl hPl hT2
        go_wp2_with fail
        refine HL.out.mono ?_
        rintro e w3 ⟨v3, rfl, o3, b3⟩
        have HB3 := Lib.hid (HBL.out.trans b3)
        have HO3 := Lib.hid o3
        clear HL o3 b3 HBL
        go_wp2_with fail
        go_roundg (ne - 249)
        case measure => have := HKK.out; omega
        case rel => exact ⟨_, D2, _, ne - 249, ce - 249, rfl, Nat.le_refl _, hdl, HDR, HO3, HB3, HLL.out, Lib.hid (by rw [HXN.out, List.append_assoc])⟩
      · have hz1 : ¬ (249 : Int) < (ne : Int) := by omega
        have HXN : Hid (X = L ++ pieceB smN 4 E) := Lib.hid (by rw [HX.out, mids_last smN E (by omega)])
        have HL := Lib.hid (lay_any w wr HBL.out ht 4 (by omega) E (by omega) ae ne ce HRE.out L (by omega) _ HOL.out)
        clear HX HRE HOL hEl
        go_wp2_with fail
        refine HL.out.mono ?_
        rintro e w3 ⟨v3, rfl, o3, b3⟩
        go_wp2
        go_ret
        exact ⟨v3, rfl, by rw [HXN.out]; exact o3, HBL.out.trans b3⟩
end Go.Proofs.YtdnohjhknhekhaaDoor
