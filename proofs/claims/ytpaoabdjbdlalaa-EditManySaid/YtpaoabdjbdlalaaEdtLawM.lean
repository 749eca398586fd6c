/- The walk of the law EditMany. -/
import Derived.Test.YtpaoabdjbdlalaaEdtBeg
import Derived.Test.YtpaoabdjbdlalaaEdtLst
import Derived.Deep.LoopGhost
import Derived.Deep.CutBlock
import Derived.Deep.DeepCutAuto
namespace Go.Proofs.Ytpaoabdjbdlalaa
set_option linter.unusedVariables false
set_option maxRecDepth 100000
open Go.RowKit
def manyF (n : Nat) : List Tbf := (List.range n).map fun (j : Nat) => ⟨(j : Int) + 1, 0, 0, ⟨#[]⟩, ⟨#[]⟩⟩
def manyI (n : Nat) : List Int := (List.range n).map fun (j : Nat) => (j : Int) + 1
theorem manyF_len (n : Nat) : (manyF n).length = n := by simp [manyF]
theorem manyI_len (n : Nat) : (manyI n).length = n := by simp [manyI]
theorem manyF_succ (n : Nat) : manyF (n + 1) = manyF n ++ [⟨(n : Int) + 1, 0, 0, ⟨#[]⟩, ⟨#[]⟩⟩] := by simp [manyF, List.range_succ]
theorem manyI_succ (n : Nat) : manyI (n + 1) = manyI n ++ [(n : Int) + 1] := by simp [manyI, List.range_succ]
def manyEd (a d : Nat) : Edt := ⟨0, 0, 0, manyF a, manyI d⟩
theorem many_may {a d : Nat} (ha : a ≤ 220) (hd : d ≤ 220) : mayE (manyEd a d) ↔ a ≤ 200 ∧ d ≤ 200 := by
  constructor
  · rintro ⟨-, ⟨h1, h2⟩, -⟩
    simp only [manyEd, manyF_len, manyI_len] at h1 h2
    exact ⟨h1, h2⟩
  · rintro ⟨h1, h2⟩
    refine ⟨⟨⟨by show (0 : Int) ≤ 0; decide, by show (0 : Int) ≤ _; decide⟩, ⟨by show (0 : Int) ≤ 0; decide, by show (0 : Int) ≤ _; decide⟩, ⟨by show (0 : Int) ≤ 0; decide, by show (0 : Int) ≤ _; decide⟩⟩, ⟨by simp only [manyEd, manyF_len]; exact h1, by simp only [manyEd, manyI_len]; exact h2⟩, fun f hf => ?_, fun n hn => ?_⟩
    · obtain ⟨j, hj, rfl⟩ := List.mem_map.1 hf
      have hj := List.mem_range.1 hj
      unfold badTb badTab
      simp only [not_or]
      exact ⟨⟨by omega, by omega⟩, by decide, by decide, by decide, by decide, by decide, by decide, bl_irr _⟩
    · obtain ⟨j, hj, rfl⟩ := List.mem_map.1 hn
      have hj := List.mem_range.1 hj
      unfold badTab
      omega
theorem many_ok {a d : Nat} (ha : a ≤ 220) (hd : d ≤ 220) : (manyEd a d).ok := by
  refine ⟨fun f hf => ?_, by simp only [manyEd, manyF_len]; omega, by simp only [manyEd, manyI_len]; omega⟩
  obtain ⟨j, hj, rfl⟩ := List.mem_map.1 hf
  exact ⟨Nat.zero_le _, Nat.zero_le _⟩
theorem OwnV.slformL {E B : Nat} {w : World} {v : Value} {vs : List Value} (h : OwnV E B w v vs) : ∃ a c, v = .slice a vs.length c := by
  rcases h.nilOr with ⟨rfl, rfl⟩ | ⟨g, cap, rfl, -⟩
  · exact ⟨none, 0, rfl⟩
  · exact ⟨_, cap, rfl⟩
/-- What came of wA: of its blocks just g was written, which holds an edit. -/
structure ManyL (wA wk : World) (g : Nat) (va vd : Value) : Prop where
  upd : UpdF (fun k => k = g) wA wk
  blk : BlkAt wk g #[.int .i64 0, .int .i64 0, .int .i64 0, va, vd] 25
  gA : g < wA.heap.size
theorem ManyL.over {wA wk wl : World} {g : Nat} {va vd : Value} (h : ManyL wA wk g va vd) (b : Below wA.heap.size wk wl) : ManyL wA wl g va vd :=
  ⟨h.upd.then (G := fun k => wA.heap.size ≤ k) ⟨b.os, b.tape, b.output, b.size, fun k hk hn => b.block k (by omega)⟩ fun i hi => .inr hi, (b.block g h.gA).trans h.blk, h.gA⟩
theorem ManyL.put3 {wA wk : World} {g : Nat} {va vd : Value} (h : ManyL wA wk g va vd) (v : Value) : ManyL wA (wk.setCell ⟨g, 3, none⟩ v) g v vd :=
  ⟨h.upd.set g 3 v rfl, h.blk.set (o := 3) v, h.gA⟩
theorem ManyL.put4 {wA wk : World} {g : Nat} {va vd : Value} (h : ManyL wA wk g va vd) (v : Value) : ManyL wA (wk.setCell ⟨g, 4, none⟩ v) g va v :=
  ⟨h.upd.set g 4 v rfl, h.blk.set (o := 4) v, h.gA⟩
theorem ManyL.below {w wA wk : World} {g : Nat} {va vd : Value} (h : ManyL wA wk g va vd) (hw : w.heap.size ≤ g) (b : Below w.heap.size w wA) : Below w.heap.size w wk :=
  b.trans (UpdF.below h.upd b.size fun k hk e => by omega)
set_option maxHeartbeats 16000000 in
theorem editMany_walk (w : World) (a : Int) (ha : (Lit.int .i64 a).wf = true) (d : Int) (hd : (Lit.int .i64 d).wf = true) :
    Calls Try.prog 5 #[.int .i64 a, .int .i64 d] w fun e w' => e = .returned (.bool true) ∧ Below w.heap.size w w' := by
  clear ha hd
  have HBG := Lib.hid (edBegun_any w)
  by_cases hin : 0 ≤ a ∧ a ≤ 220 ∧ 0 ≤ d ∧ d ≤ 220
  · obtain ⟨h1, h2, h3, h4⟩ := hin
    obtain ⟨A, rfl⟩ := Int.eq_ofNat_of_zero_le h1
    obtain ⟨D, rfl⟩ := Int.eq_ofNat_of_zero_le h3
    have hA : A ≤ 220 := by omega
    have hD : D ≤ 220 := by omega
    have q1 : ¬ (A : Int) < 0 := by omega
    have q2 : ¬ (220 : Int) < (A : Int) := by omega
    have q3 : ¬ (D : Int) < 0 := by omega
    have q4 : ¬ (220 : Int) < (D : Int) := by omega
    clear h1 h2 h3 h4
    go_enter Try.func5, Try.ntmps5
    go_wp2_with fail
    refine HBG.out.mono ?_
    rintro e w1 ⟨rfl, b1⟩
    have HB1 := Lib.hid b1
    clear b1 HBG
    obtain ⟨g, hg⟩ : ∃ g, w1.heap.size = g := ⟨_, rfl⟩
    have HM0 : Hid (ManyL (w1.alloc (.cells #[.int .i64 0, .int .i64 0, .int .i64 0, .slice none 0 0, .slice none 0 0] 25)) (w1.alloc (.cells #[.int .i64 0, .int .i64 0, .int .i64 0, .slice none 0 0, .slice none 0 0] 25)) g (.slice none 0 0) (.slice none 0 0)) := Lib.hid
      ⟨UpdF.refl _ _, by rw [← hg]; exact BlkAt.new _ _ _, by rw [← hg]; simp⟩
    have HBA := Lib.hid (And.intro (show w1.heap.size ≤ g by omega) ((Below.refl w1.heap.size w1).alloc (Nat.le_refl _) (.cells #[.int .i64 0, .int .i64 0, .int .i64 0, .slice none 0 0, .slice none 0 0] 25)))
    go_wp2_with fail
    generalize w1.alloc (.cells #[.int .i64 0, .int .i64 0, .int .i64 0, .slice none 0 0, .slice none 0 0] 25) = wA at *
    go_loopg [7] A (fun kk vi wr => ∃ (i : Nat) (al : Option Addr) (kl : Nat), vi = .int .i64 (i : Int) ∧ i ≤ A ∧ A - i ≤ kk ∧ Hid (ManyL wA wr g (.slice al i kl) (.slice none 0 0)) ∧ Hid (OwnK encTbf 5 39 wA.heap.size wr (.slice al i kl) (manyF i)))
    case atStart => exact ⟨0, none, 0, rfl, by omega, by omega, HM0, Lib.hid (OwnK.nil _ _ _ _ _)⟩
    case round =>
      clear HM0
      obtain ⟨q, al, kl, rfl, hq, hqk, HM, HO⟩ := hrel
      obtain ⟨d0, d1, d2, d3, d4, f0, f1, f2, f3, f4⟩ := HM.out.blk.cells5
      have hsz := HM.out.upd.size
      by_cases hlt : q < A
      · have hq1 : (q : Int) < (A : Int) := by omega
        go_wp2_with (at_builtin; refine wp_appHK elem_tbf encTbf_len _ _ (by rfl) (by rfl) (by rfl) HO.out ⟨(q : Int) + 1, 0, 0, ⟨#[]⟩, ⟨#[]⟩⟩ _ (by rfl) (by rfl) ?c1 ?c2 ?c3 hsz ?_)
        case c1 => exact tbf_cells _
        case c2 => rw [manyF_len]; omega
        case c3 => rw [manyF_len]; unfold maxLen; omega
        intro v3 w3 o3 b3
        obtain ⟨a3, k3, rfl⟩ := tbf_form o3
        rw [← manyF_succ, manyF_len] at o3
        have e3 : (manyF q ++ [(⟨(q : Int) + 1, 0, 0, ⟨#[]⟩, ⟨#[]⟩⟩ : Tbf)]).length = q + 1 := by rw [List.length_append, manyF_len]; rfl
        rw [e3]
        have hm := HM.out.over b3
        have HM2 := Lib.hid (hm.put3 (.slice a3 (q + 1) k3))
        have HO2 := Lib.hid (o3.apart ((UpdF.refl (fun k => k = g) w3).set g 3 (.slice a3 (q + 1) k3) rfl) hm.gA)
        obtain ⟨g0, g1, g2, g3, g4, i0, i1, i2, i3, i4⟩ := hm.blk.cells5
        clear o3 b3 HM HO e3 hm d0 d1 d2 d3 d4 f0 f1 f2 f3 f4
        go_wp2_with fail
        go_roundg (A - (q + 1))
        case measure => omega
        case rel => exact ⟨q + 1, a3, k3, by go_num, by omega, Nat.le_refl _, HM2, HO2⟩
      · have hq1 : ¬ (q : Int) < (A : Int) := by omega
        obtain rfl : q = A := by omega
        have HBR := Lib.hid (And.intro HBA.out.1 (HM.out.below HBA.out.1 HBA.out.2))
        have HM0 : Hid (ManyL wr wr g (.slice al q kl) (.slice none 0 0)) := Lib.hid ⟨UpdF.refl _ _, HM.out.blk, Nat.lt_of_lt_of_le HM.out.gA hsz⟩
        have HOA := Lib.hid (And.intro HO.out HM.out.gA)
        obtain ⟨wo, rfl⟩ : ∃ x, x = wr := ⟨_, rfl⟩
        clear HM HO hsz d0 d1 d2 d3 d4 f0 f1 f2 f3 f4
        go_wp2_with fail
        go_loopg [8] D (fun kk vi wx => ∃ (i : Nat) (ad : Option Addr) (kd : Nat), vi = .int .i64 (i : Int) ∧ i ≤ D ∧ D - i ≤ kk ∧ Hid (ManyL wo wx g (.slice al q kl) (.slice ad i kd)) ∧ Hid (OwnV 2 wo.heap.size wx (.slice ad i kd) ((manyI i).map encI64)))
        case atStart => exact ⟨0, none, 0, rfl, by omega, by omega, HM0, Lib.hid (OwnV.nil _ _ _)⟩
        case round =>
          clear HM0
          obtain ⟨p, ad, kd, rfl, hp, hpk, HM, HO⟩ := hrel
          obtain ⟨d0, d1, d2, d3, d4, f0, f1, f2, f3, f4⟩ := HM.out.blk.cells5
          have hsz := HM.out.upd.size
          by_cases hlt2 : p < D
          · have hp1 : (p : Int) < (D : Int) := by omega
            have hml : ((manyI p).map encI64).length = p := by rw [List.length_map, manyI_len]
            go_wp2_with (at_builtin; refine wp_appH elem_i64 _ _ (by rfl) (by rfl) (by rfl) HO.out [.int .i64 ((p : Int) + 1)] 1 _ rfl (by rfl) (by rfl) (by decide) ?c1 ?c2 ?c3 hsz ?_)
            case c1 => intro u hu; rw [List.mem_singleton.1 hu]; rfl
            case c2 => omega
            case c3 => unfold maxLen; omega
            intro v3 w3 o3 b3
            obtain ⟨a3, k3, rfl⟩ := o3.slformL
            have e3 : ((manyI p).map encI64 ++ [Value.int .i64 ((p : Int) + 1)]).length = p + 1 := by rw [List.length_append, hml]; rfl
            rw [e3] at o3 ⊢
            have o4 : OwnV 2 wo.heap.size w3 (.slice a3 (p + 1) k3) ((manyI (p + 1)).map encI64) := by rw [manyI_succ, List.map_append]; exact o3
            have hm := HM.out.over b3
            have HM2 := Lib.hid (hm.put4 (.slice a3 (p + 1) k3))
            have HO2 := Lib.hid (o4.apartV ((UpdF.refl (fun k => k = g) w3).set g 4 (.slice a3 (p + 1) k3) rfl) hm.gA)
            obtain ⟨g0, g1, g2, g3, g4, i0, i1, i2, i3, i4⟩ := hm.blk.cells5
            clear o3 o4 b3 HM HO e3 hm hml d0 d1 d2 d3 d4 f0 f1 f2 f3 f4
            go_wp2_with fail
            go_roundg (D - (p + 1))
            case measure => omega
            case rel => exact ⟨p + 1, a3, k3, by go_num, by omega, Nat.le_refl _, HM2, HO2⟩
          · have hp1 : ¬ (p : Int) < (D : Int) := by omega
            obtain rfl : p = D := by omega
            have hE : EdAt wr (.agg #[.int .i64 0, .int .i64 0, .int .i64 0, .slice al q kl, .slice ad p kd]) (manyEd q p) :=
              ⟨_, _, rfl, (HOA.out.1.apart HM.out.upd HOA.out.2).rd encTbf_len, HO.out.rd⟩
            have HEN := Lib.hid (edEncode_any _ _ (many_ok hA hD) _ hE)
            have HB := Lib.hid (HB1.out.trans ((HM.out.below HBR.out.1 HBR.out.2).mono HB1.out.size))
            clear hE HM HO HOA HBA HBR hsz
            unfold EncToE at HEN
            by_cases hm : q ≤ 200 ∧ p ≤ 200
            · obtain ⟨hm1, hm2⟩ := hm
              have hmay := (many_may hA hD).2 ⟨hm1, hm2⟩
              have hc : chkE (manyEd q p) = 0 := if_pos hmay
              have HY := Lib.hid hmay
              rw [hc] at HEN
              have r1 : ¬ (200 : Int) < (q : Int) := by omega
              have r2 : ¬ (200 : Int) < (p : Int) := by omega
              clear hmay hc
              go_wp2_with fail
              refine HEN.out.mono ?_
              rintro e w3 ⟨v3, rfl, ho, -, hb⟩
              have HD := Lib.hid (edDecode_any _ _ w3 (ho HY.out).rd)
              have HB3 := Lib.hid (HB.out.trans (hb.mono HB.out.size))
              clear hb HEN HB ho d0 d1 d2 d3 d4 f0 f1 f2 f3 f4
              go_wp2_with fail
              refine HD.out.mono ?_
              rintro e w4 ⟨v4, c4, rfl, hd, hb⟩
              obtain ⟨rfl, va, vd, rfl, oa, od⟩ := hd.yes _ (decE_enc HY.out)
              obtain ⟨a4, k4, rfl⟩ := tbf_form oa
              obtain ⟨a5, k5, rfl⟩ := od.slformL
              have e1 : (manyEd q p).adds.length = q := manyF_len q
              have e2 : ((manyEd q p).dels.map encI64).length = p := by rw [List.length_map]; exact manyI_len p
              rw [e1, e2]
              have HB4 := Lib.hid (HB3.out.trans (hb.mono HB3.out.size))
              have HX := Lib.hid (BlkAt.new w4 #[.int .i64 0, .int .i64 0, .int .i64 0, .slice a4 q k4, .slice a5 p k5] 25)
              have HB5 := Lib.hid (HB4.out.alloc HB4.out.size (.cells #[.int .i64 0, .int .i64 0, .int .i64 0, .slice a4 q k4, .slice a5 p k5] 25))
              simp only [manyEd]
              clear oa od hb HD HB3 e1 e2 HB4
              obtain ⟨w5, hw5⟩ : ∃ x, w4.alloc (.cells #[.int .i64 0, .int .i64 0, .int .i64 0, .slice a4 q k4, .slice a5 p k5] 25) = x := ⟨_, rfl⟩
              rw [hw5] at HX HB5
              obtain ⟨d0, d1, d2, d3, d4, -, -, -, -, -⟩ := HX.out.cells5
              have z1 : ((q : Int) == (q : Int)) = true := by simp
              have z2 : ((p : Int) == (p : Int)) = true := by simp
              go_wp2_with fail
              go_ret
              exact ⟨rfl, HB5.out⟩
            · have hno : ¬ mayE (manyEd q p) := fun h => hm ((many_may hA hD).1 h)
              have hc : chkE (manyEd q p) = 12 := if_neg hno
              have HNO := Lib.hid hno
              rw [hc] at HEN
              have HM := Lib.hid hm
              clear hno hc hm
              by_cases r1 : (200 : Int) < (q : Int)
              · go_wp2_with fail
                refine HEN.out.mono ?_
                rintro e w3 ⟨v3, rfl, -, hv, hb⟩
                obtain rfl := hv HNO.out
                have HB3 := Lib.hid (HB.out.trans (hb.mono HB.out.size))
                clear hb HEN HB hv HNO d0 d1 d2 d3 d4 f0 f1 f2 f3 f4
                go_wp2_with fail
                go_ret
                exact ⟨rfl, HB3.out⟩
              · have r2 : (200 : Int) < (p : Int) := by have := HM.out; omega
                go_wp2_with fail
                refine HEN.out.mono ?_
                rintro e w3 ⟨v3, rfl, -, hv, hb⟩
                obtain rfl := hv HNO.out
                have HB3 := Lib.hid (HB.out.trans (hb.mono HB.out.size))
                clear hb HEN HB hv HNO d0 d1 d2 d3 d4 f0 f1 f2 f3 f4
                go_wp2_with fail
                go_ret
                exact ⟨rfl, HB3.out⟩
  · have HIN := Lib.hid hin
    go_enter Try.func5, Try.ntmps5
    go_wp2_with fail
    refine HBG.out.mono ?_
    rintro e w1 ⟨rfl, b1⟩
    have HB1 := Lib.hid b1
    clear b1 HBG
    by_cases c1 : a < 0
    · clear HIN hin
      go_wp2_with fail
      go_ret
      exact ⟨rfl, HB1.out⟩
    · by_cases c2 : 220 < a
      · clear HIN hin
        go_wp2_with fail
        go_ret
        exact ⟨rfl, HB1.out⟩
      · by_cases c3 : d < 0
        · clear HIN hin
          go_wp2_with fail
          go_ret
          exact ⟨rfl, HB1.out⟩
        · have c4 : 220 < d := by omega
          clear HIN hin
          go_wp2_with fail
          go_ret
          exact ⟨rfl, HB1.out⟩
end Go.Proofs.Ytpaoabdjbdlalaa
