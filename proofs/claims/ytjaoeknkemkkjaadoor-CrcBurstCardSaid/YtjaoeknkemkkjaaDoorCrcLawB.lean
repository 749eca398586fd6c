/- The walk of the law CrcBurst. -/
import Derived.Test.YtjaoeknkemkkjaaDoorCrcLawS
import Derived.Deep.DeepCutAuto
import Derived.Deep.CutBlock
namespace Go.Proofs.YtjaoeknkemkkjaaDoor
set_option linter.unusedVariables false
open Go.RowKit
/-- l, of which the bytes from K on are changed by the first j of X -/
def mixB (l : List UInt8) (K : Nat) (X : List UInt8) (j : Nat) : List UInt8 := l.take K ++ List.zipWith (· ^^^ ·) ((l.drop K).take j) (X.take j) ++ l.drop (K + j)
theorem mixB_zero (l : List UInt8) (K : Nat) (X : List UInt8) : mixB l K X 0 = l := by
  unfold mixB; simp
theorem mixB_len (l : List UInt8) (K : Nat) (X : List UInt8) (j : Nat) (hj : j ≤ X.length) (hK : K + X.length ≤ l.length) : (mixB l K X j).length = l.length := by
  unfold mixB; simp; omega
theorem mixB_at (l : List UInt8) (K : Nat) (X : List UInt8) (j : Nat) (hj : j < X.length) (hK : K + X.length ≤ l.length) : (mixB l K X j).getD (K + j) 0 = l.getD (K + j) 0 := by
  unfold mixB
  have e : (l.take K ++ List.zipWith (· ^^^ ·) ((l.drop K).take j) (X.take j)).length = K + j := by simp; omega
  rw [List.getD_eq_getElem?_getD, List.getD_eq_getElem?_getD, List.getElem?_append_right (by rw [e]; exact Nat.le_refl _), e, Nat.sub_self, List.getElem?_drop, Nat.add_zero]
theorem mixB_step (l : List UInt8) (K : Nat) (X : List UInt8) (j : Nat) (hj : j < X.length) (hK : K + X.length ≤ l.length) : (mixB l K X j).set (K + j) ((mixB l K X j).getD (K + j) 0 ^^^ X.getD j 0) = mixB l K X (j + 1) := by
  rw [mixB_at l K X j hj hK]
  have e : (l.take K ++ List.zipWith (· ^^^ ·) ((l.drop K).take j) (X.take j)).length = K + j := by simp; omega
  have hl : l.getD (K + j) 0 = l[K + j]'(by omega) := by rw [List.getD_eq_getElem?_getD, List.getElem?_eq_getElem (by omega)]; rfl
  have hx : X.getD j 0 = X[j] := by rw [List.getD_eq_getElem?_getD, List.getElem?_eq_getElem hj]; rfl
  have h1 : (l.drop K).take (j + 1) = (l.drop K).take j ++ [l[K + j]'(by omega)] := by
    rw [List.take_add_one, List.getElem?_drop, List.getElem?_eq_getElem (by omega)]; rfl
  have h2 : X.take (j + 1) = X.take j ++ [X[j]] := by
    rw [List.take_add_one, List.getElem?_eq_getElem hj]; rfl
  unfold mixB
  rw [List.set_append_right _ _ (by rw [e]; exact Nat.le_refl _), e, Nat.sub_self, List.drop_eq_getElem_cons (by omega : K + j < l.length), List.set_cons_zero, hl, hx, h1, h2, List.zipWith_append (by simp; omega), ← Nat.add_assoc]
  simp
theorem mixB_sum (l : List UInt8) (K : Nat) (X : List UInt8) (hK : K + X.length ≤ l.length) (h4 : X.length ≤ 4) (hx : X.any (· != 0) = true) : moreN 0 l ≠ moreN 0 (mixB l K X X.length) := by
  have e : l = l.take K ++ (l.drop K).take X.length ++ l.drop (K + X.length) := by
    rw [List.append_assoc, ← List.drop_drop, List.take_append_drop, List.take_append_drop]
  unfold mixB
  conv => lhs; rw [e]
  rw [List.take_length]
  refine moreN_burst (by decide) _ _ _ _ (by simp) (by simp; omega) fun h => ?_
  obtain ⟨x, hx1, hx2⟩ := List.any_eq_true.1 hx
  obtain ⟨i, hi, rfl⟩ := List.getElem_of_mem hx1
  have h3 := congrArg (·[i]?) h
  simp only [List.getElem?_zipWith, List.getElem?_take, List.getElem?_drop, if_pos hi, List.getElem?_eq_getElem hi, List.getElem?_eq_getElem (show K + i < l.length by omega), Option.some.injEq] at h3
  exact xor_other (by simpa using hx2) h3
theorem any_snoc (X : List UInt8) (j : Nat) (hj : j < X.length) : (X.take (j + 1)).any (· != 0) = ((X.take j).any (· != 0) || (X.getD j 0 != 0)) := by
  have h2 : X.take (j + 1) = X.take j ++ [X.getD j 0] := by
    rw [List.take_add_one, List.getD_eq_getElem?_getD, List.getElem?_eq_getElem hj]; rfl
  rw [h2, List.any_append]; simp
set_option maxHeartbeats 8000000 in
set_option maxRecDepth 100000 in
theorem crcBurst_walk (w : World) (ht : TabAt w) (a : Option Addr) (len cap : Nat) (zs : List Int) (hz : RdV w (.slice a len cap) (zs.map (Value.int .u8))) (hw : ∀ n ∈ zs, (Lit.int .u8 n).wf = true)
    (at0 : Int) (hat : (Lit.int .i64 at0).wf = true) (a2 : Option Addr) (len2 cap2 : Nat) (zs2 : List Int) (hz2 : RdV w (.slice a2 len2 cap2) (zs2.map (Value.int .u8))) (hw2 : ∀ n ∈ zs2, (Lit.int .u8 n).wf = true) :
    Calls Tryd.prog 5 #[.slice a len cap, .int .i64 at0, .slice a2 len2 cap2] w fun e w' => e = .returned (.bool true) ∧ Below w.heap.size w w' := by
  obtain ⟨xs, hxs⟩ := bytes_of zs hw
  obtain ⟨bs, hbs⟩ := bytes_of zs2 hw2
  rw [hxs] at hz
  rw [hbs] at hz2
  have HZ : Hid (RdB w (.slice a len cap) xs) := Lib.hid hz
  have HZ2 : Hid (RdB w (.slice a2 len2 cap2) bs) := Lib.hid hz2
  have HT := Lib.hid ht
  clear hz hw hxs hz2 hw2 hbs ht
  go_enter Tryd.func5, Tryd.ntmps5
  go_wp2_with fail
  refine (cbegun_any _ HT.out).mono ?_
  rintro e w1 ⟨rfl, B⟩
  have HS := Lib.hid (short_any a len cap xs 200 (by omega) w1 (HZ.out.below B))
  have HS2 := Lib.hid (short_any a2 len2 cap2 bs 4 (by omega) w1 (HZ2.out.below B))
  replace HT := Lib.hid (HT.out.below B)
  clear HZ HZ2
  go_wp2_with fail
  refine HS.out.mono ?_
  rintro e w' ⟨a3, l3, c3, rfl, hrd3, rfl⟩
  clear HS
  go_wp2_with fail
  refine HS2.out.mono ?_
  rintro e w' ⟨a4, l4, c4, rfl, hrd4, rfl⟩
  clear HS2
  have hla : (xs.take 200).length ≤ 200 := by rw [List.length_take]; omega
  have hlb : (bs.take 4).length ≤ 4 := by rw [List.length_take]; omega
  generalize xs.take 200 = A at *
  generalize bs.take 4 = X at *
  obtain rfl : l3 = A.length := by
    obtain ⟨_, _, _, e, h2, -⟩ := hrd3.form
    simp only [Value.slice.injEq] at e
    rw [e.2.1, h2]
  obtain rfl : l4 = X.length := by
    obtain ⟨_, _, _, e, h2, -⟩ := hrd4.form
    simp only [Value.slice.injEq] at e
    rw [e.2.1, h2]
  have R3 := Lib.hid hrd3
  have R4 := Lib.hid hrd4
  clear hrd3 hrd4
  have HX : Hid (∀ j, j < X.length → X[j]? = some (X.getD j 0)) := Lib.hid fun j hj => by rw [List.getD_eq_getElem?_getD, List.getElem?_eq_getElem hj]; rfl
  go_wp2_with fail
  go_loop [8, 9] (fun q i => ∃ (j : Nat) (p : Bool), q = .bool p ∧ i = .int .i64 (j : Int) ∧ j ≤ X.length ∧ Hid (p = (X.take j).any (· != 0)))
    (fun _ i => X.length - (intOf i).toNat)
  case atStart => exact ⟨0, false, rfl, rfl, by omega, Lib.hid rfl⟩
  case round =>
    obtain ⟨j, p, rfl, rfl, hj, HP⟩ := hrel
    by_cases hlt : j < X.length
    · have hzj : (j : Int) < (X.length : Int) := by omega
      cases p with
      | true =>
        have HP2 : Hid (true = (X.take (j + 1)).any (· != 0)) := Lib.hid (by rw [any_snoc X j hlt, ← HP.out]; rfl)
        go_wp2_with fail
        refine ⟨⟨j + 1, true, rfl, by go_num, hlt, HP2⟩, by simp [intOf]; omega⟩
      | false =>
        obtain ⟨g, off, rfl, hg, hcell⟩ := R4.out.at j _ (HX.out j hlt)
        have HP2 : Hid ((X.getD j 0 != 0) = (X.take (j + 1)).any (· != 0)) := Lib.hid (by rw [any_snoc X j hlt, ← HP.out]; rfl)
        generalize X.getD j 0 = y at *
        by_cases hy : y = 0
        · subst hy
          have hcell0 : w1.cell? ⟨g, off + j, none⟩ = some (.int .u8 0) := hcell
          clear hcell
          have HP3 : Hid (false = (X.take (j + 1)).any (· != 0)) := Lib.hid (by rw [← HP2.out]; rfl)
          go_wp2_with fail
          refine ⟨⟨j + 1, false, rfl, by go_num, hlt, HP3⟩, by simp [intOf]; omega⟩
        · have hz1 : ¬ (y.toNat : Int) = 0 := fun e => hy (UInt8.toNat_inj.1 (by rw [UInt8.toNat_zero]; omega))
          have t1 : ((y.toNat : Int) != 0) = true := by simpa using hz1
          have HP3 : Hid (true = (X.take (j + 1)).any (· != 0)) := Lib.hid (by rw [← HP2.out]; simpa using hy)
          go_wp2_with fail
          refine ⟨⟨j + 1, true, rfl, by go_num, hlt, HP3⟩, by simp [intOf]; omega⟩
    · obtain rfl : j = X.length := by omega
      have HP2 : Hid (p = X.any (· != 0)) := Lib.hid (by rw [HP.out, List.take_length])
      have hzj : ¬ (X.length : Int) < (X.length : Int) := by omega
      clear HP hlt hj
      by_cases hneg : at0 < 0
      · go_wp2_with fail
        go_ret
        exact ⟨rfl, B⟩
      · by_cases hbig : (A.length : Int) - (X.length : Int) < at0
        · go_wp2_with fail
          go_ret
          exact ⟨rfl, B⟩
        · cases p with
          | false =>
            go_wp2_with fail
            go_ret
            exact ⟨rfl, B⟩
          | true =>
            obtain ⟨K, rfl⟩ := Int.eq_ofNat_of_zero_le (show 0 ≤ at0 by omega)
            have hK : K + X.length ≤ A.length := by omega
            have HNE := Lib.hid (mixB_sum A K X hK hlb HP2.out.symm)
            have t1 : decide ((K : Int) < 0) = false := decide_eq_false hneg
            have t2 : decide ((A.length : Int) - (X.length : Int) < (K : Int)) = false := decide_eq_false hbig
            go_wp2_with (at_builtin; refine wp_appSB _ _ (by rfl) (by rfl) (by rfl) (OwnB.nil w1.heap.size w1) (by rfl) R3.out ?c1 (Nat.le_refl _) ?_)
            case c1 => first | omega | (simp only [List.length_nil]; omega) | trace_state
            intro v5 w5 o5 b5
            have hX0 : 0 < X.length := by
              rcases Nat.eq_zero_or_pos X.length with h | h
              · have : X = [] := List.eq_nil_of_length_eq_zero h
                subst this; cases HP2.out
              · exact h
            obtain ⟨g, cap5, rfl, hBg, -, hc1, hc2, -, -⟩ := OwnB.place o5 0 (by omega)
            have HA := fun W b6 => Lib.hid (sum_any _ A W (HT.out.below b6) (R3.out.below b6))
            have HA2 := fun W b6 l v h => Lib.hid (sum_any v l W (HT.out.below b6) h)
            replace HA := Lib.hid HA
            replace HA2 := Lib.hid HA2
            have hO : Hid (OwnB w1.heap.size w5 (.slice (some ⟨g, 0, none⟩) A.length cap5) (mixB A K X 0)) := Lib.hid (by rw [mixB_zero]; exact o5)
            clear o5 HP2 hneg hbig
            go_wp2_with fail
            go_loopw [11] (fun i wr => ∃ (j : Nat), i = .int .i64 (j : Int) ∧ j ≤ X.length ∧ Hid (OwnB w1.heap.size wr (.slice (some ⟨g, 0, none⟩) A.length cap5) (mixB A K X j)) ∧ Below w1.heap.size w1 wr)
              (fun i _ => X.length - (intOf i).toNat)
            case atStart => exact ⟨0, rfl, by omega, hO, b5⟩
            case round =>
              clear hO b5
              obtain ⟨j, rfl, hj, HO, hbel⟩ := hrel
              by_cases hlt : j < X.length
              · have hzj : (j : Int) < (X.length : Int) := by omega
                have hml := mixB_len A K X j hj hK
                obtain ⟨g', cap', e, -, hg, -, -, hcell, hfr⟩ := OwnB.place HO.out (K + j) (by rw [hml]; omega)
                simp only [Value.slice.injEq, Option.some.injEq, Addr.mk.injEq, and_true] at e
                obtain ⟨⟨rfl, -⟩, -, -⟩ := e
                obtain ⟨g2, off, rfl, hg2, hcell2⟩ := (R4.out.below hbel).at j _ (HX.out j hlt)
                obtain ⟨W, hW⟩ : ∃ W, wr.setCell ⟨g, K + j, none⟩ (.int .u8 (bits .xor .u8 (((mixB A K X j).getD (K + j) 0).toNat : Int) ((X.getD j 0).toNat : Int))) = W := ⟨_, rfl⟩
                have HOn : Hid (OwnB w1.heap.size W (.slice (some ⟨g, 0, none⟩) A.length cap5) (mixB A K X (j + 1))) := Lib.hid (by
                  rw [← hW, bv_xor, ← mixB_step A K X j hlt hK]; exact HO.out.set _ _)
                have hbn : Below w1.heap.size w1 W := by rw [← hW]; exact hbel.setCell (p := ⟨g, K + j, none⟩) hBg _
                generalize (mixB A K X j).getD (K + j) 0 = y at *
                generalize X.getD j 0 = x at *
                clear HO hml hc2
                have hq1 : (K : Int) + (j : Int) < (A.length : Int) := by omega
                go_wp2_with fail
                clear HA HA2 HT R3 R4 HX HNE t1 t2
                go_region
                replace HOn : Hid (OwnB w1.heap.size W.drew (.slice (some ⟨g, 0, none⟩) A.length cap5) (mixB A K X (j + 1))) := Lib.hid (HOn.out.below (Below.refl _ _).drew)
                replace hbn := hbn.drew
                clear hW hcell hcell2 hfr hbel
                generalize W.drew = W2 at *
                go_wp2_with fail
                go_roundw
                case rel => exact ⟨j + 1, by go_num, hlt, HOn, hbn⟩
                case measure => simp [intOf]; omega
              · obtain rfl : j = X.length := by omega
                have HS1 := Lib.hid ((HA.out wr hbel).out)
                have HS2 := Lib.hid ((HA2.out wr hbel _ _ HO.out.rd).out)
                have B2 := B.trans (hbel.mono B.size)
                have hzj : ¬ (X.length : Int) < (X.length : Int) := by omega
                clear HO HA HA2 HT R3 R4 hlt hc2 hbel
                generalize moreN 0 A = r at *
                generalize moreN 0 (mixB A K X X.length) = s at *
                go_wp2_with fail
                refine HS1.out.mono ?_
                rintro e w' ⟨rfl, rfl⟩
                go_wp2_with fail
                refine HS2.out.mono ?_
                rintro e w' ⟨rfl, rfl⟩
                have hne : ((r : Int) != (s : Int)) = true := bne_iff_ne.2 fun e => HNE.out (Int.ofNat_inj.1 e)
                go_wp2_with fail
                go_ret
                exact ⟨rfl, B2⟩
end Go.Proofs.YtjaoeknkemkkjaaDoor
