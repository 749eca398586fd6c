/- The walk of the law RecordsCut. -/
import Derived.Test.YtdnohjhknhekhaaDoorRecBegun
import Derived.Test.YtdnohjhknhekhaaDoorRecLaid
import Derived.Test.YtdnohjhknhekhaaDoorByShort
namespace Go.Proofs.YtdnohjhknhekhaaDoor
set_option linter.unusedVariables false
open Go.RowKit
/-- How many are whole: those whose bytes go within the cut. -/
theorem fitK_spec {sm : List UInt8 → List UInt8} : ∀ (rs : List (List UInt8)) (a c j : Nat), j ≤ rs.length → ((layAll sm a (rs.take j)).length ≤ c ↔ j ≤ fitK sm a rs c)
  | [], a, c, j, h => by
    obtain rfl : j = 0 := by simpa using h
    simp [layAll]
  | b :: rs, a, c, 0, h => by simp [layAll]
  | b :: rs, a, c, j + 1, h => by
    rw [List.take_succ_cons, layAll, List.length_append, fitK]
    by_cases hb : (layB sm a b).length ≤ c
    · rw [if_pos hb]
      have := fitK_spec rs (a + (layB sm a b).length) (c - (layB sm a b).length) j (by simpa using h) (sm := sm)
      omega
    · rw [if_neg hb]; omega
/-- 's[:k]' of rows of bytes, run. -/
theorem sl_hR (W : World) (a : Option Addr) (n cap k : Nat) (hc : k ≤ cap) :
    (Instr.sliceAt 25 (.slice a n cap) none (some (.int .i64 (k : Int))) none).run Tryd.prog W = .ok (.slice a k cap) W := by
  have hT : Tryd.prog.underlying 25 = some (.slice (Tryd.prog.elem 25)) := by kernel_rfl
  have hS : (sizeOf (Tryd.prog.elem 25)).run Tryd.prog W = .ok 1 W := by kernel_rfl
  rw [run_sliceAt_slice (h := hT), run_slice_h (w := W) (t := 25) (a := a) (len := n) (cap := cap) (ht := hT) (kh := .i64) (h := k) (h0 := by omega) (h2 := by omega), hS]
  simp [Result.andThen, sliced, map_add0]
set_option maxHeartbeats 8000000 in
set_option maxRecDepth 100000 in
theorem recordsCut_walk (w : World) (ht : TabAt w) (la : Option Addr) (len cap : Nat) (zs : List Int) (hz : RdV w (.slice la len cap) (zs.map (Value.int .i64))) (hw : ∀ n ∈ zs, (Lit.int .i64 n).wf = true)
    (fa : Option Addr) (fl fc : Nat) (zs2 : List Int) (hz2 : RdV w (.slice fa fl fc) (zs2.map (Value.int .u8))) (hw2 : ∀ n ∈ zs2, (Lit.int .u8 n).wf = true) (cut : Int) (wcut : (Lit.int .i64 cut).wf = true) :
    Calls Tryd.prog 4 #[.slice la len cap, .slice fa fl fc, .int .i64 cut] w fun e w' => e = .returned (.bool true) ∧ Below w.heap.size w w' := by
  clear wcut
  obtain ⟨bs, hbs⟩ := bytes_of zs2 hw2
  rw [hbs] at hz2
  have HZ : Hid (RdV w (.slice la len cap) (zs.map (Value.int .i64))) := Lib.hid hz
  have HF : Hid (RdB w (.slice fa fl fc) bs) := Lib.hid hz2
  have HW := Lib.hid hw
  have HBE := Lib.hid (rbegun_any w ht)
  have HT := Lib.hid ht
  clear hz hw hz2 hw2 hbs ht
  go_enter Tryd.func4, Tryd.ntmps4
  go_wp2_with fail
  refine HBE.out.mono ?_
  rintro e w1 ⟨rfl, B⟩
  have HS := Lib.hid (short_any fa fl fc bs 300 (by omega) w1 (HF.out.below B))
  have HB := Lib.hid B
  have HT1 := Lib.hid (HT.out.below B)
  clear B HBE HT HF
  go_wp2_with fail
  refine HS.out.mono ?_
  rintro e w' ⟨a3, l3, c3, rfl, hrd3, rfl⟩
  have hl300 : (bs.take 300).length ≤ 1000 := by rw [List.length_take]; omega
  have HL := Lib.hid (laid_any 8 (by omega) la len cap zs a3 l3 c3 (bs.take 300) hl300 w1 (HZ.out.below HB.out) HW.out hrd3)
  clear HS hrd3 hl300 HZ HW
  go_wp2_with fail
  refine HL.out.mono ?_
  rintro e w2 ⟨vl, vr, rs, rfl, ol, rr, hrs, h700, b2⟩
  have hLl := all_len700 rs 0 h700
  obtain ⟨al, ll, cl, rfl, hll, hlc, hcm⟩ := ol.form
  obtain ⟨ar, cr, rfl, hcr, hmr⟩ := rr.form
  obtain ⟨n, hn⟩ : ∃ n, rs.length = n := ⟨_, rfl⟩
  rw [hn] at rr hrs hcr ⊢
  have HT2 := Lib.hid (HT1.out.below b2)
  have HBW := Lib.hid (HB.out.trans (b2.mono HB.out.size))
  have HO := Lib.hid (And.intro ol (And.intro rr (And.intro h700 (And.intro hn (And.intro hll hLl)))))
  unfold maxLen at hmr hcm
  clear ol rr h700 hn b2 hll HL HT1 HB
  have hll2 : ll ≤ 100000 := by have := HO.out.2.2.2; omega
  clear hLl
  by_cases h1 : cut < 0
  · have d1 : decide (cut < 0) = true := decide_eq_true h1
    go_wp2_with fail
    go_ret
    exact ⟨rfl, HBW.out⟩
  have d1 : decide (cut < 0) = false := decide_eq_false h1
  obtain ⟨C, rfl⟩ := Int.eq_ofNat_of_zero_le (show 0 ≤ cut by omega)
  by_cases h2 : (ll : Int) < (C : Int)
  · have d2 : decide ((ll : Int) < (C : Int)) = true := decide_eq_true h2
    go_wp2_with fail
    go_ret
    exact ⟨rfl, HBW.out⟩
  have d2 : decide ((ll : Int) < (C : Int)) = false := decide_eq_false h2
  have d7 : decide (ll < C) = false := decide_eq_false (by omega)
  have hC : C ≤ ll := by omega
  have hsl := fun W => sl_hB W al ll cl C (by omega)
  obtain ⟨ol, rr, h700, hn, hll, hLl⟩ := HO.out
  have hRC := readC_cut smN_len rs C (by omega)
  have HSP : Hid (∀ j, j ≤ rs.length → ((layAll smN 0 (rs.take j)).length ≤ C ↔ j ≤ fitK smN 0 rs C)) := Lib.hid (fitK_spec rs 0 C)
  have hkn := fitK_le (sm := smN) rs 0 C
  obtain ⟨k, hk⟩ : ∃ k, fitK smN 0 rs C = k := ⟨_, rfl⟩
  rw [hk] at hRC HSP hkn
  have hE := (HSP.out k hkn).2 (Nat.le_refl _)
  obtain ⟨E, hEq⟩ : ∃ E, (layAll smN 0 (rs.take k)).length = E := ⟨_, rfl⟩
  rw [hEq] at hRC hE
  have hR := read_any al C cl ((layAll smN 0 rs).take C) (by rw [List.length_take]; omega) w2 HT2.out (ol.rd.take C hC)
  rw [hRC] at hR
  have HR := Lib.hid hR
  have hkl : (rs.take k).length = k := by rw [List.length_take]; omega
  have HKL := Lib.hid hkl
  have hkn2 : k ≤ n := by omega
  have HRR := Lib.hid rr
  have H7 := Lib.hid (And.intro h700 (And.intro hn (And.intro hll hLl)))
  clear ol rr h700 hn hll hLl hRC hkn hk hEq hR hkl HO
  go_wp2_with fail
  refine HR.out.mono ?_
  rintro e w4 ⟨v4, rfl, r4, b4⟩
  obtain ⟨a4, c4, rfl, hc4, -⟩ := r4.form
  rw [HKL.out] at r4 hc4 ⊢
  have hRk := (HRR.out.below b4).rd.take k hkn2
  have HSM := Lib.hid (same_any _ _ (rs.take k) (rs.take k) (by rw [HKL.out]; omega) (by rw [HKL.out]; omega) w4 r4.rd hRk)
  rw [decide_eq_true rfl] at HSM
  have HB4 := Lib.hid (And.intro b4 (HBW.out.trans (b4.mono HBW.out.size)))
  have d3 : decide ((C : Int) < (E : Int)) = false := decide_eq_false (by omega)
  have d4 : decide ((n : Int) < (k : Int)) = false := decide_eq_false (by omega)
  have d5 : decide (C < E) = false := decide_eq_false (by omega)
  have d6 : decide (n < k) = false := decide_eq_false (by omega)
  clear r4 b4 HR hRk HBW
  have hsl2 := fun W => sl_hR W ar n cr k (by omega)
  go_wp2_with fail
  refine HSM.out.mono ?_
  rintro e w5 ⟨rfl, D5⟩
  have HB5 := Lib.hid (And.intro (HB4.out.1.trans (D5.below _)) (HB4.out.2.trans (D5.below _)))
  clear HSM HB4 D5 hsl hsl2
  go_wp2_with fail
  go_loopg [13, 14] n (fun kk va vi wr => ∃ (j A : Nat), va = .int .i64 (A : Int) ∧ vi = .int .i64 (j : Int) ∧ j ≤ k ∧ n - j ≤ kk ∧ A ≤ 100000 ∧ Hid (A = (layAll smN 0 (rs.take j)).length) ∧ Hid (Below w2.heap.size w2 wr ∧ Below w.heap.size w wr))
  case atStart => exact ⟨0, 0, rfl, rfl, Nat.zero_le _, by omega, by omega, Lib.hid rfl, HB5⟩
  case round =>
    clear HB5
    obtain ⟨j, A, rfl, rfl, hj, hjk, hA, HA, HBR⟩ := hrel
    by_cases hlt : j < n
    · have hz1 : (j : Int) < (n : Int) := by omega
      obtain ⟨h700, hn, hll, hLl⟩ := H7.out
      obtain ⟨b, hb⟩ : ∃ b, rs[j]? = some b := ⟨_, List.getElem?_eq_getElem (by omega)⟩
      obtain ⟨g, u, e1, hg, hc, hu⟩ := (HRR.out.below HBR.out.1).at j b hb
      obtain rfl := e1
      rw [Nat.zero_add] at hc
      have hb7 := h700 b (List.mem_of_getElem? hb)
      have hsn : layAll smN 0 (rs.take (j + 1)) = layAll smN 0 (rs.take j) ++ layB smN (layAll smN 0 (rs.take j)).length b := by
        rw [List.take_add_one, hb, Option.toList_some, layAll_snoc, Nat.zero_add]
      have hpre := all_len700 (rs.take (j + 1)) 0 fun r hr => h700 r (List.mem_of_mem_take hr)
      rw [List.length_take] at hpre
      have hRA := rappend_any A (by omega) u b (by omega) wr hu.rd
      have hspec := HSP.out (j + 1) (by omega)
      rw [hsn, List.length_append, ← HA.out] at hspec hpre
      have hAN : (layAll smN 0 (rs.take (j + 1))).length = A + (layB smN A b).length := by rw [hsn, List.length_append, ← HA.out]
      have HAN := Lib.hid hAN
      obtain ⟨LB, hLB⟩ : ∃ LB, layB smN A b = LB := ⟨_, rfl⟩
      rw [hLB] at hspec hpre hRA HAN
      have HRA := Lib.hid hRA
      obtain ⟨M, hM⟩ : ∃ M, A + LB.length = M := ⟨_, rfl⟩
      rw [hM] at hspec hpre HAN
      have hMl : M ≤ 100000 := by omega
      have HU : Hid (∃ a l c, u = .slice a l c) := Lib.hid (by obtain ⟨a, l, c, e, -⟩ := hu.form; exact ⟨a, l, c, e⟩)
      have HSPJ := Lib.hid hspec
      have HMM := Lib.hid hM
      clear h700 hn hll hLl hb hu hb7 hsn hpre hRA hspec hAN hLB hM
      go_wp2_with fail
      refine HRA.out.mono ?_
      rintro e w6 ⟨v6, rfl, o6, b6⟩
      obtain ⟨a6, l6, c6, rfl, hl6, -⟩ := o6.form
      have hAM : (A : Int) + (l6 : Int) = (M : Int) := by have := HMM.out; omega
      have hl6b : l6 ≤ 100000 := by have := HMM.out; omega
      have HB6 := Lib.hid (And.intro (HBR.out.1.trans (b6.mono HBR.out.1.size)) (HBR.out.2.trans (b6.mono HBR.out.2.size)))
      clear o6 b6 HRA hl6
      by_cases hgt : C < M
      · have d5 : (C : Int) < (M : Int) := by omega
        have hjk2 : ((k : Int) == (j : Int)) = true := by
          rw [beq_iff_eq]
          have h1 : ¬ j + 1 ≤ k := fun h => by have := HSPJ.out.2 h; omega
          omega
        clear HSPJ HMM HAN
        go_wp2_with fail
        go_ret
        exact ⟨rfl, HB6.out.2⟩
      · have d5 : ¬ (C : Int) < (M : Int) := by omega
        have hjk2 : j + 1 ≤ k := HSPJ.out.1 (by omega)
        clear HSPJ HMM
        go_wp2_with fail
        go_roundg (n - (j + 1))
        case measure => omega
        case rel => exact ⟨j + 1, M, rfl, by go_num, hjk2, Nat.le_refl _, hMl, Lib.hid HAN.out.symm, HB6⟩
    · have hz1 : ¬ (j : Int) < (n : Int) := by omega
      have hjk2 : ((k : Int) == (j : Int)) = true := by rw [beq_iff_eq]; omega
      go_wp2_with fail
      go_ret
      exact ⟨rfl, HBR.out.2⟩
end Go.Proofs.YtdnohjhknhekhaaDoor
