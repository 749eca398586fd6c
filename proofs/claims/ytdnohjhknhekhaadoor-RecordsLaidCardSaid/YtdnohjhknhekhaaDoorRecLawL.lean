/- The walk of the law RecordsLaid. -/
import Derived.Test.YtdnohjhknhekhaaDoorRecBegun
import Derived.Test.YtdnohjhknhekhaaDoorRecLaid
import Derived.Test.YtdnohjhknhekhaaDoorByShort
namespace Go.Proofs.YtdnohjhknhekhaaDoor
set_option linter.unusedVariables false
open Go.RowKit
set_option maxHeartbeats 8000000 in
set_option maxRecDepth 100000 in
theorem recordsLaid_walk (w : World) (ht : TabAt w) (la : Option Addr) (len cap : Nat) (zs : List Int) (hz : RdV w (.slice la len cap) (zs.map (Value.int .i64))) (hw : ∀ n ∈ zs, (Lit.int .i64 n).wf = true)
    (fa : Option Addr) (fl fc : Nat) (zs2 : List Int) (hz2 : RdV w (.slice fa fl fc) (zs2.map (Value.int .u8))) (hw2 : ∀ n ∈ zs2, (Lit.int .u8 n).wf = true) :
    Calls Tryd.prog 3 #[.slice la len cap, .slice fa fl fc] w fun e w' => e = .returned (.bool true) ∧ Below w.heap.size w w' := by
  obtain ⟨bs, hbs⟩ := bytes_of zs2 hw2
  rw [hbs] at hz2
  have HZ : Hid (RdV w (.slice la len cap) (zs.map (Value.int .i64))) := Lib.hid hz
  have HF : Hid (RdB w (.slice fa fl fc) bs) := Lib.hid hz2
  have HW := Lib.hid hw
  have HBE := Lib.hid (rbegun_any w ht)
  have HT := Lib.hid ht
  clear hz hw hz2 hw2 hbs ht
  go_enter Tryd.func3, Tryd.ntmps3
  go_wp2_with fail
  refine HBE.out.mono ?_
  rintro e w1 ⟨rfl, B⟩
  have HS := Lib.hid (short_any fa fl fc bs 300 (by omega) w1 (HF.out.below B))
  have HB := Lib.hid B
  have HT1 := Lib.hid (HT.out.below B)
  clear B HBE HT HF
  go_wp2_with fail
  refine HS.out.mono ?_
  rintro e w' ⟨a3, l3, c3, rfl, hrd3, rfl⟩
  have hl300 : (bs.take 300).length ≤ 1000 := by rw [List.length_take]; omega
  have HL := Lib.hid (laid_any 10 (by omega) la len cap zs a3 l3 c3 (bs.take 300) hl300 w1 (HZ.out.below HB.out) HW.out hrd3)
  clear HS hrd3 hl300 HZ HW
  go_wp2_with fail
  refine HL.out.mono ?_
  rintro e w2 ⟨vl, vr, rs, rfl, ol, rr, hrs, h700, b2⟩
  have hLl := all_len700 rs 0 h700
  obtain ⟨al, ll, cl, rfl, hll, -⟩ := ol.form
  obtain ⟨ar, cr, rfl, hcr, hmr⟩ := rr.form
  obtain ⟨n, hn⟩ : ∃ n, rs.length = n := ⟨_, rfl⟩
  rw [hn] at rr hrs hcr ⊢
  have HT2 := Lib.hid (HT1.out.below b2)
  have HBW := Lib.hid (HB.out.trans (b2.mono HB.out.size))
  have HO := Lib.hid (And.intro ol (And.intro rr (And.intro h700 (And.intro hn (And.intro hll hLl)))))
  unfold maxLen at hmr
  clear ol rr h700 hn b2 hll HL HT1 HB
  have HS0 : Hid (OwnB w2.heap.size w2 (.slice none 0 0) (layAll smN 0 (rs.take 0)) ∧ Below w2.heap.size w2 w2) := Lib.hid ⟨OwnB.nil _ _, Below.refl _ _⟩
  have hll2 : ll ≤ 100000 := by have := HO.out.2.2.2; omega
  clear hLl
  go_wp2_with fail
  go_loopg [8, 9] n (fun kk v vi wr => ∃ (j : Nat), vi = .int .i64 (j : Int) ∧ j ≤ n ∧ n - j ≤ kk ∧ Hid (OwnB w2.heap.size wr v (layAll smN 0 (rs.take j)) ∧ Below w2.heap.size w2 wr))
  case atStart => exact ⟨0, rfl, Nat.zero_le _, by omega, HS0⟩
  case round =>
    clear HS0
    obtain ⟨j, rfl, hj, hjk, HI⟩ := hrel
    obtain ⟨hown, hbel⟩ := HI.out
    obtain ⟨ol, rr, h700, hn, hll, hLl⟩ := HO.out
    by_cases hlt : j < n
    · have hz1 : (j : Int) < (n : Int) := by omega
      obtain ⟨b, hb⟩ : ∃ b, rs[j]? = some b := ⟨_, List.getElem?_eq_getElem (by omega)⟩
      obtain ⟨g, u, e1, hg, hc, hu⟩ := (rr.below hbel).at j b hb
      obtain rfl := e1
      rw [Nat.zero_add] at hc
      have hb7 := h700 b (List.mem_of_getElem? hb)
      have hpre := all_len700 (rs.take j) 0 fun r hr => h700 r (List.mem_of_mem_take hr)
      rw [List.length_take] at hpre
      have hsn : layAll smN 0 (rs.take (j + 1)) = layAll smN 0 (rs.take j) ++ layB smN (layAll smN 0 (rs.take j)).length b := by
        rw [List.take_add_one, hb, Option.toList_some, layAll_snoc, Nat.zero_add]
      obtain ⟨av, lv, cv, rfl, hlv, -⟩ := hown.form
      rw [← hlv] at hsn
      have HA := Lib.hid (append_any lv (by omega) u b (by omega) wr (HT2.out.below hbel) hu.rd)
      have hlb := layB_len smN smN_len lv b
      obtain ⟨NX, hNX⟩ : ∃ NX, layAll smN 0 (rs.take (j + 1)) = NX := ⟨_, rfl⟩
      rw [hNX] at hsn
      have HNX := Lib.hid hNX
      clear hNX
      obtain ⟨LB, hLB⟩ : ∃ LB, layB smN lv b = LB := ⟨_, rfl⟩
      rw [hLB] at HA hsn hlb
      generalize layAll smN 0 (rs.take j) = PX at *
      have HSN := Lib.hid hsn
      have HQ := Lib.hid (And.intro hown hbel)
      have hPl : PX.length ≤ 100000 := by omega
      have hBl : LB.length ≤ 100000 := by omega
      have hwr := hbel.size
      have HU : Hid (∃ a l c, u = .slice a l c) := Lib.hid (by obtain ⟨a, l, c, e, -⟩ := hu.form; exact ⟨a, l, c, e⟩)
      clear hown hbel ol rr h700 hn hll hLl hb hu hlv hpre hsn hlb hb7 HI
      go_wp2_with fail
      refine HA.out.mono ?_
      rintro e w3 ⟨v3, rfl, o3, b3⟩
      have o4 := HQ.out.1.below b3
      have B4 := HQ.out.2.trans (b3.mono hwr)
      have hs4 := B4.size
      clear HA
      go_wp2_with (at_builtin; refine wp_appSB _ _ (by rfl) (by rfl) (by rfl) o4 (by rfl) o3.rd ?c1 hs4 ?_)
      case c1 => omega
      intro v5 w5 o5 b5
      have HN : Hid (OwnB w2.heap.size w5 v5 NX ∧ Below w2.heap.size w2 w5) := Lib.hid ⟨by rw [HSN.out]; exact o5, B4.trans b5⟩
      clear o3 b3 o4 B4 o5 b5 HQ
      go_wp2_with fail
      go_roundg (n - (j + 1))
      case measure => omega
      case rel => exact ⟨j + 1, by go_num, hlt, Nat.le_refl _, Lib.hid (by rw [HNX.out]; exact HN.out)⟩
    · obtain rfl : j = n := by omega
      have hz1 : ¬ (j : Int) < (j : Int) := by omega
      rw [List.take_of_length_le (by omega)] at hown
      obtain ⟨X, hX⟩ : ∃ X, layAll smN 0 rs = X := ⟨_, rfl⟩
      have hRC := readC_all smN_len rs
      rw [hX] at hRC hown ol hll hLl
      obtain ⟨av, lv, cv, rfl, hlv, -⟩ := hown.form
      have hR := read_any av lv cv X (by omega) wr (HT2.out.below hbel) hown.rd
      rw [hRC, ← hll] at hR
      have HR := Lib.hid hR
      have HQ := Lib.hid (And.intro hown (And.intro hbel (And.intro (ol.below hbel) (rr.below hbel))))
      have HBR := Lib.hid (HBW.out.trans (hbel.mono HBW.out.size))
      have hn2 : rs.length ≤ 1000000000000 := by omega
      clear hown hbel ol rr h700 hll hLl hX hRC hR hlv HI HO
      go_wp2_with fail
      refine HR.out.mono ?_
      rintro e w4 ⟨v4, rfl, r4, b4⟩
      obtain ⟨a4, c4, rfl, -, -⟩ := r4.form
      rw [hn] at r4 ⊢
      have x1 := (HQ.out.1.below b4).rd.text
      have x2 := (HQ.out.2.2.1.below b4).rd.text
      have hq : (X == X) = true := beq_self_eq_true X
      have HSM := Lib.hid (same_any _ _ rs rs hn2 hn2 w4 r4.rd (HQ.out.2.2.2.below b4).rd)
      rw [decide_eq_true rfl] at HSM
      have HB4 := Lib.hid (HBR.out.trans (b4.mono HBR.out.size))
      clear r4 b4 HR HQ HBR hn
      go_wp2_with fail
      refine HSM.out.mono ?_
      rintro e w5 ⟨rfl, D5⟩
      go_wp2_with fail
      go_ret
      exact ⟨rfl, HB4.out.trans (D5.below _)⟩
end Go.Proofs.YtdnohjhknhekhaaDoor
