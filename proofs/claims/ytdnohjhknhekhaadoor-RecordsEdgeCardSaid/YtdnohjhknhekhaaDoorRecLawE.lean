/- The walk of the law RecordsEdge. -/
import Derived.Test.YtdnohjhknhekhaaDoorRecBegun
import Derived.Test.YtdnohjhknhekhaaDoorByStore
namespace Go.Proofs.YtdnohjhknhekhaaDoor
set_option linter.unusedVariables false
open Go.RowKit
theorem read_two (b c : List UInt8) : readC smN (layB smN 0 b ++ layB smN (layB smN 0 b).length c) = ([b, c], (layB smN 0 b ++ layB smN (layB smN 0 b).length c).length, true) := by
  have := readC_all smN_len [b, c]
  simp only [layAll, List.append_nil, Nat.zero_add] at this
  exact this
set_option maxHeartbeats 4000000 in
set_option maxRecDepth 100000 in
theorem recordsEdge_main (w : World) (ht : TabAt w) (M N : Nat) (hM : M ≤ 600) (hN : N ≤ 1200) :
    Calls Tryd.prog 5 #[.int .i64 (M : Int), .int .i64 (N : Int)] w fun e w' => e = .returned (.bool true) ∧ Below w.heap.size w w' := by
  have HBE := Lib.hid (rbegun_any w ht)
  have HT := Lib.hid ht
  have d1 : decide ((M : Int) < 0) = false := decide_eq_false (by omega)
  have d2 : decide ((600 : Int) < (M : Int)) = false := decide_eq_false (by omega)
  have d3 : decide ((N : Int) < 0) = false := decide_eq_false (by omega)
  have d4 : decide ((1200 : Int) < (N : Int)) = false := decide_eq_false (by omega)
  clear ht
  go_enter Tryd.func5, Tryd.ntmps5
  go_wp2_with fail
  refine HBE.out.mono ?_
  rintro e w1 ⟨rfl, B⟩
  have HT1 := Lib.hid (HT.out.below B)
  have hmk := mkB_run M (by omega)
  have HROW := Lib.hid (mkB_own w1 M (by omega))
  have HAL : Hid (Below w1.heap.size w1 (w1.alloc (.cells (madeCells #[.int .u8 0] M) 5))) := Lib.hid ((Below.refl _ w1).alloc (Nat.le_refl _) _)
  have HB := Lib.hid B
  have HA := Lib.hid (append_any 0 (by omega) _ (List.replicate M 0) (by rw [List.length_replicate]; omega) _ (HT1.out.below HAL.out) HROW.out.rd)
  clear B HBE HT
  go_wp2_with fail
  have hAl : (List.replicate M (0 : UInt8)).length = M := List.length_replicate
  have HAl := Lib.hid hAl
  have HL1l : Hid ((layB smN 0 (List.replicate M 0)).length ≤ 4820) := Lib.hid (by have := layB_len smN smN_len 0 (List.replicate M 0); omega)
  have HRD := Lib.hid (read_two (List.replicate M 0))
  generalize List.replicate M (0 : UInt8) = A at *
  refine HA.out.mono ?_
  rintro e w2 ⟨v2, rfl, o2, b2⟩
  have HB2 := Lib.hid (HAL.out.trans (b2.mono HAL.out.size))
  have HO2 := Lib.hid (o2.base HAL.out.size)
  have hs2 := HB2.out.size
  clear hmk o2 b2 HA HROW HAL hAl
  have hmk := mkB_run N (by omega)
  have HROW := Lib.hid (mkB_own w2 N (by omega))
  have HAL : Hid (Below w2.heap.size w2 (w2.alloc (.cells (madeCells #[.int .u8 0] N) 5))) := Lib.hid ((Below.refl _ w2).alloc (Nat.le_refl _) _)
  go_upto_region 8 with fail
  clear hmk
  generalize w2.alloc (.cells (madeCells #[.int .u8 0] N) 5) = w3 at HROW HAL ⊢
  obtain ⟨g2, hg2⟩ : ∃ g2, w2.heap.size = g2 := ⟨_, rfl⟩
  have HG := Lib.hid hg2
  rw [hg2] at HROW HAL
  simp only [hg2]
  have HS3 : Hid (∃ bs : List UInt8, bs.length = N ∧ OwnB g2 w3 (.slice (some ⟨g2, 0, none⟩) N N) bs ∧ Below g2 w2 w3) := Lib.hid ⟨_, List.length_replicate, HROW.out, HAL.out⟩
  clear HROW HAL hg2
  go_wp2_with fail
  go_loopg [8] N (fun kk vt wx => ∃ (t : Nat), vt = .int .i64 (t : Int) ∧ t ≤ N ∧ N - t ≤ kk ∧ Hid (∃ bs : List UInt8, bs.length = N ∧ OwnB g2 wx (.slice (some ⟨g2, 0, none⟩) N N) bs ∧ Below g2 w2 wx))
  case atStart => exact ⟨0, rfl, Nat.zero_le _, by omega, HS3⟩
  case round =>
    clear HS3
    obtain ⟨t, rfl, ht, htk, HI⟩ := hrel
    by_cases htN : t < N
    · have hz1 : (t : Int) < (N : Int) := by omega
      obtain ⟨bs, hbs, hown, hbel⟩ := HI.out
      obtain ⟨go, cap2, e, hgo, hgl, hcl, hcm, hcell, hfr⟩ := hown.place t (by omega)
      simp only [Value.slice.injEq, Option.some.injEq, Addr.mk.injEq, and_true] at e
      obtain ⟨rfl, -, -⟩ := e
      obtain ⟨q, hq⟩ : ∃ q, t % 250 + 1 = q := ⟨_, rfl⟩
      have hqi : (t : Int) % 250 + 1 = (q : Int) := by omega
      have hq256 : q < 256 := by omega
      have hbv : Value.int .u8 (q : Int) = bv (UInt8.ofNat q) := by unfold bv; rw [byte_of _ hq256]
      have HIN : Hid (∃ bs : List UInt8, bs.length = N ∧ OwnB g2 (wr.setCell ⟨g2, t, none⟩ (.int .u8 (q : Int))) (.slice (some ⟨g2, 0, none⟩) N N) bs ∧ Below g2 w2 (wr.setCell ⟨g2, t, none⟩ (.int .u8 (q : Int)))) := Lib.hid
        ⟨bs.set t (UInt8.ofNat q), by rw [List.length_set]; exact hbs, by rw [hbv]; exact hown.set t _, hbel.setCell (p := ⟨g2, t, none⟩) (Nat.le_refl _) _⟩
      clear hown hbel hbs hcl hcm hgo HI hbv hq
      go_wp2_with fail
      go_roundg (N - (t + 1))
      case measure => omega
      case rel => exact ⟨t + 1, by go_num, htN, Nat.le_refl _, HIN⟩
    · have hz1 : ¬ (t : Int) < (N : Int) := by omega
      obtain ⟨bs, hbs, hown, hbel⟩ := HI.out
      have hsz := HG.out
      rw [← hsz] at hbel
      have HB4 := Lib.hid (HB2.out.trans (hbel.mono hs2))
      obtain ⟨a2, l2, c2, rfl, hl2, -⟩ := HO2.out.form
      have o4 := HO2.out.below hbel
      have hl2b : l2 ≤ 5000 := by have := HL1l.out; omega
      have hLBl := layB_len smN smN_len l2 bs
      have hT4 := HT1.out.below HB4.out
      have HA := Lib.hid (append_any l2 (by omega) (.slice (some ⟨g2, 0, none⟩) N N) bs (by omega) wr hT4 hown.rd)
      have hrd := HRD.out bs
      rw [← hl2] at hrd
      have hlt : ∀ x, (Value.slice a2 l2 c2).ownBlock = some x → x < g2 := fun x hx => by rw [← hsz]; exact (HO2.out.where x hx).2
      have HO4 := Lib.hid (And.intro o4 (And.intro hown (And.intro hlt hbs)))
      have hL1l := HL1l.out
      generalize layB smN 0 A = L1 at *
      generalize layB smN l2 bs = L2 at *
      have HRD2 := Lib.hid hrd
      have hs4 := HB4.out.size
      have hL2l : L2.length ≤ 10000 := by omega
      clear hown hbel hrd HI o4 hlt hl2 hbs HRD hT4 hsz hLBl HO2 HB2 HG HL1l
      go_wp2_with fail
      refine HA.out.mono ?_
      rintro e w5 ⟨v5, rfl, o5, b5⟩
      have HQ := Lib.hid (And.intro (HO4.out.2.1.below b5) (HB4.out.trans (b5.mono hs4)))
      have o6 := HO4.out.1.below b5
      have hs5 := HQ.out.2.size
      clear HA
      go_wp2_with (at_builtin; refine wp_appGB _ _ (by rfl) (by rfl) (by rfl) o6 (by rfl) o5.rd ?c1 hs5 ?_)
      case c1 => omega
      intro v6 w6 o7 b6 g6 l6
      have HU6 : Hid (OwnB g2 w6 (.slice (some ⟨g2, 0, none⟩) N N) bs) := Lib.hid (HQ.out.1.kept g6 fun x hx e => by
        obtain rfl : g2 = x := Option.some.inj hx
        exact Nat.lt_irrefl _ (HO4.out.2.2.1 g2 e))
      have HB6 : Hid (Below w1.heap.size w1 w6) := Lib.hid (HQ.out.2.trans b6)
      obtain ⟨a6, n6, c6, rfl, hl6, -⟩ := o7.form
      have HR := Lib.hid (read_any a6 n6 c6 (L1 ++ L2) (by rw [List.length_append]; omega) w6 (HT1.out.below HB6.out) o7.rd)
      rw [HRD2.out] at HR
      rw [← hl6] at HR
      clear o5 b5 o6 o7 b6 g6 l6 HQ hl6 HRD2
      go_wp2_with fail
      refine HR.out.mono ?_
      rintro e w7 ⟨v7, rfl, r7, b7⟩
      obtain ⟨a7, c7, rfl, hc7, hm7⟩ := r7.form
      obtain ⟨g7, u1, e7, hg7, hcell1, hu1⟩ := r7.at 0 A rfl
      obtain rfl := e7
      obtain ⟨g7', u2, e7, -, hcell2, hu2⟩ := r7.at 1 bs rfl
      simp only [Option.some.injEq, Addr.mk.injEq, and_true] at e7
      subst e7
      obtain ⟨au, lu, cu, rfl, hlu, -⟩ := hu1.form
      obtain rfl : lu = M := by rw [hlu]; exact HAl.out
      have HB7 := Lib.hid (HB6.out.trans (b7.mono HB6.out.size))
      have HBW := Lib.hid (HB.out.trans (HB7.out.mono HB.out.size))
      have x1 : ∀ j, (convert 23 9 u2).run Tryd.prog (w7.drewN j) = .ok (.string ⟨bs.toArray⟩) (w7.drewN j) := fun j => (hu2.rd.below (DrN.below ⟨j, rfl⟩ _)).text
      have x2 : ∀ j, (convert 23 9 (.slice (some ⟨g2, 0, none⟩) N N)).run Tryd.prog (w7.drewN j) = .ok (.string ⟨bs.toArray⟩) (w7.drewN j) := fun j => ((HU6.out.rd.below b7).below (DrN.below ⟨j, rfl⟩ _)).text
      have hq : (bs == bs) = true := beq_self_eq_true bs
      rw [Nat.zero_add] at hcell1 hcell2
      clear r7 b7 hu1 hu2 HU6 HB6 HB7 HR hlu HAl HO4 HB4
      go_wp2_with fail
      go_quiet (fail)
      go_wp2
      go_ret
      exact ⟨rfl, HBW.out.trans (DrN.below ⟨nq, rfl⟩ _)⟩
set_option maxHeartbeats 2000000 in
set_option maxRecDepth 100000 in
theorem recordsEdge_walk (w : World) (ht : TabAt w) (m : Int) (wm : (Lit.int .i64 m).wf = true) (n : Int) (wn : (Lit.int .i64 n).wf = true) :
    Calls Tryd.prog 5 #[.int .i64 m, .int .i64 n] w fun e w' => e = .returned (.bool true) ∧ Below w.heap.size w w' := by
  clear wm wn
  have HBE := Lib.hid (rbegun_any w ht)
  by_cases h1 : m < 0
  · have d1 : decide (m < 0) = true := decide_eq_true h1
    clear ht
    go_enter Tryd.func5, Tryd.ntmps5
    go_wp2_with fail
    refine HBE.out.mono ?_
    rintro e w1 ⟨rfl, B⟩
    go_wp2_with fail
    go_ret
    exact ⟨rfl, B⟩
  have d1 : decide (m < 0) = false := decide_eq_false h1
  by_cases h2 : 600 < m
  · have d2 : decide (600 < m) = true := decide_eq_true h2
    clear ht
    go_enter Tryd.func5, Tryd.ntmps5
    go_wp2_with fail
    refine HBE.out.mono ?_
    rintro e w1 ⟨rfl, B⟩
    go_wp2_with fail
    go_ret
    exact ⟨rfl, B⟩
  have d2 : decide (600 < m) = false := decide_eq_false h2
  by_cases h3 : n < 0
  · have d3 : decide (n < 0) = true := decide_eq_true h3
    clear ht
    go_enter Tryd.func5, Tryd.ntmps5
    go_wp2_with fail
    refine HBE.out.mono ?_
    rintro e w1 ⟨rfl, B⟩
    go_wp2_with fail
    go_ret
    exact ⟨rfl, B⟩
  have d3 : decide (n < 0) = false := decide_eq_false h3
  by_cases h4 : 1200 < n
  · have d4 : decide (1200 < n) = true := decide_eq_true h4
    clear ht
    go_enter Tryd.func5, Tryd.ntmps5
    go_wp2_with fail
    refine HBE.out.mono ?_
    rintro e w1 ⟨rfl, B⟩
    go_wp2_with fail
    go_ret
    exact ⟨rfl, B⟩
  obtain ⟨M, rfl⟩ := Int.eq_ofNat_of_zero_le (show 0 ≤ m by omega)
  obtain ⟨N, rfl⟩ := Int.eq_ofNat_of_zero_le (show 0 ≤ n by omega)
  exact recordsEdge_main w ht M N (by omega) (by omega)
end Go.Proofs.YtdnohjhknhekhaaDoor
