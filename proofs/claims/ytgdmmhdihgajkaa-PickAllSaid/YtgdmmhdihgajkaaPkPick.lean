/- The walk of the reference's Pick. -/
import Derived.Test.YtgdmmhdihgajkaaPkJob
import Derived.Deep.LoopGhost
import Derived.RegionTactic
import Derived.Deep.Cut
import Derived.Deep.CutBlock
import Derived.Deep.QuietTactic
import Derived.BigQuiet
namespace Go.Proofs.Ytgdmmhdihgajkaa
set_option linter.unusedVariables false
set_option maxRecDepth 100000
open Go.RowKit
/-- How far the levels below have been asked. -/
def BotAt (F : List Tbf) (n : Int) (a b : ByteArray) (m : Int) (q : Bool) : Prop := q = true ↔ ∀ k, n + 2 ≤ k → k < m → overV k a b F = []
set_option maxHeartbeats 16000000 in
theorem rpick_any {w : World} {P0 : Value} {F : List Tbf} (h : Lvs 18 26 w P0 F) :
    Calls Try.prog 10 #[P0] w (JobTo F w) := by
  have HV := Lib.hid h
  have HJ0 := Lib.hid (PkJob.new w)
  clear h
  unfold JobTo
  go_enter Try.func10, Try.ntmps10
  go_wp2_with fail
  generalize (w.alloc (.cells #[.int .i64 0, .slice none 0 0, .slice none 0 0, .bool false] 35)).alloc (.cells #[.int .i64 (-1), .slice none 0 0, .slice none 0 0, .bool false] 35) = w2 at *
  generalize w.heap.size + 1 = p at *
  generalize hS : w.heap.size = S at *
  have HL0 := Lib.hid (HV.out.lv w2 0 HJ0.out.b (by decide))
  obtain ⟨L0, hL0⟩ : ∃ x, levelV 0 F = x := ⟨_, rfl⟩
  have HEL := Lib.hid hL0
  rw [hL0] at HL0
  clear hL0
  refine HL0.out.mono ?_
  rintro e w3 ⟨u, rfl, ho, hb⟩
  have HJ3 := Lib.hid (HJ0.out.below hb)
  obtain ⟨aL, cL, rfl⟩ := fil_form ho
  obtain ⟨N, hN⟩ : ∃ N, L0.length = N := ⟨_, rfl⟩
  have HN : Hid ((levelV 0 F).length = N) := Lib.hid (by rw [HEL.out, hN])
  rw [hN]
  clear ho hb HL0 hN HJ0
  go_upto_if 17 with fail
  go_cut [] (fun wx => Hid (PkWay F w wx p S 2000 1))
  case first =>
    by_cases h4 : 4 ≤ N
    · have hd : (4 : Int) ≤ (N : Int) := by omega
      obtain ⟨c0, c1, c2, c3⟩ := cell4_of HJ3.out.j
      have f0 := HJ3.out.j.free 0
      have HJ4 := Lib.hid (HJ3.out.setLv 0)
      have HL0 := Lib.hid (HV.out.lv (w3.setCell ⟨p, 0, none⟩ (.int .i64 0)) 0 HJ4.out.b (by decide))
      rw [HEL.out] at HL0
      go_wp2_with fail
      refine HL0.out.mono ?_
      rintro e w5 ⟨u5, rfl, ho, hb⟩
      have HJ5 := Lib.hid (HJ4.out.below hb)
      have HO5 := Lib.hid (ho.base HJ4.out.b.size)
      obtain ⟨a5, c5, rfl⟩ := fil_form ho
      generalize L0.length = N5 at *
      clear ho hb HL0 HJ4 c0 c1 c2 c3 f0
      obtain ⟨c0, c1, c2, c3⟩ := cell4_of HJ5.out.j
      have f1 := HJ5.out.j.free 1
      have HJ6 := Lib.hid (HJ5.out.setIn HO5.out)
      have HP : Hid (pickL F = some 0 ∧ insV F 0 = L0) := Lib.hid ⟨by unfold pickL; rw [if_pos (by rw [HN.out]; exact h4)], by rw [← HEL.out]; exact if_pos rfl⟩
      clear HJ5 HO5 HN HEL HJ3
      go_wp2_with fail
      go_meet
      exact Lib.hid (.inr ⟨0, _, HP.out.1, by rw [HP.out.2]; exact HJ6.out⟩)
    · have hd : ¬ (4 : Int) ≤ (N : Int) := by omega
      have HW : Hid (PkWay F w w3 p S 2000 1) := Lib.hid (.inl ⟨⟨by rw [HN.out]; exact h4, .inl ⟨rfl, rfl⟩⟩, HJ3.out⟩)
      clear HJ3 HN HEL
      go_wp2_with fail
      go_meet
      exact HW
  case rest =>
    have HW := hcut
    clear HJ3 HN HEL
    go_upto_block 0 with fail
    go_cut [] (fun wx => Hid (PkEnd F w wx p S))
    case first =>
      go_wp2_with fail
      go_loopg [5, 6, 7, 8, 9] 5 (fun kk vm vi _ _ _ wr => ∃ m i : Int, vi = .int .i64 i ∧ vm = .int .i64 m ∧ (4 - i).toNat ≤ kk ∧ 1 ≤ i ∧ i ≤ 4 ∧ Hid (PkWay F w wr p S m i))
      case atStart => exact ⟨2000, 1, rfl, rfl, by omega, by omega, by omega, HW⟩
      case round =>
        clear HW
        obtain ⟨m, i, rfl, rfl, hk, hi1, hi4, HW⟩ := hrel
        rcases HW.out with ⟨hf, hj⟩ | ⟨n, u1, hn, hj⟩
        · obtain ⟨-, -, hm1, hm2⟩ := hf.bd
          by_cases h3 : i ≤ 3
          · have HF := Lib.hid hf
            have HJ := Lib.hid hj
            obtain ⟨c0, c1, c2, c3⟩ := cell4_of hj.j
            have HSZ := Lib.hid (rsize_any HV.out i (by omega) wr hj.b)
            unfold IntTo at HSZ
            obtain ⟨s, hs⟩ : ∃ s, sizV i F = s := ⟨_, rfl⟩
            rw [hs] at HSZ
            have HSS := Lib.hid hs
            clear hs hf hj HW
            go_wp2_with fail
            refine HSZ.out.mono ?_
            rintro e w5 ⟨rfl, hb⟩
            have HJ5 := Lib.hid (HJ.out.below hb)
            clear hb HSZ HJ c0 c1 c2 c3
            by_cases hsm : m < s
            · have HP := Lib.hid (HF.out.yes (by omega) (by rw [HSS.out]; exact hsm))
              have HNE := Lib.hid (ins_some HP.out)
              have ei : insV F i = (leastV (levelV i F)).toList := if_neg (by omega)
              rw [ei] at HNE
              obtain ⟨c0, c1, c2, c3⟩ := cell4_of HJ5.out.j
              have f0 := HJ5.out.j.free 0
              have HJ6 := Lib.hid (HJ5.out.setLv i)
              have HLV := Lib.hid (HV.out.lv (w5.setCell ⟨p, 0, none⟩ (.int .i64 i)) i HJ6.out.b (by omega))
              have HLN := Lib.hid (HV.out.len i)
              cases e : levelV i F with
              | nil => exact absurd (by rw [e]; rfl) HNE.out
              | cons f r =>
                rw [e] at HLV HLN ei
                have HEI : Hid (insV F i = [leastF f r]) := Lib.hid ei
                clear e ei HNE HF HSS
                go_wp2_with fail
                refine HLV.out.mono ?_
                rintro e w7 ⟨u7, rfl, ho, hb⟩
                have HJ7 := Lib.hid (HJ6.out.below hb)
                have HR7 := Lib.hid (ho.rd encTbf_len)
                obtain ⟨a7, c7, rfl⟩ := fil_form ho
                rw [List.length_cons]
                rw [List.length_cons] at HR7 HLN
                obtain ⟨NR, hNR⟩ : ∃ N, r.length = N := ⟨_, rfl⟩
                have HNR := Lib.hid hNR
                have hNL : NR + 1 ≤ 200 := by have := HLN.out; omega
                rw [hNR]
                rw [hNR] at HR7
                clear ho hb HLV HJ6 HJ5 c0 c1 c2 c3 f0 HLN hNR
                go_wp2_with fail
                go_loopg [8, 9] (NR + 1) (fun kk vk vi wq => ∃ j kx : Nat, vi = .int .i64 ((j : Int) + 1) ∧ vk = .int .i64 (kx : Int) ∧ j ≤ NR ∧ NR + 1 - j ≤ kk ∧ kx ≤ NR ∧ Hid ((f :: r)[kx]? = some (leastF f (r.take j))) ∧ Hid (Below w7.heap.size w7 wq))
                case atStart => exact ⟨0, 0, rfl, rfl, by omega, by omega, by omega, Lib.hid rfl, Lib.hid (Below.refl _ _)⟩
                case round =>
                  obtain ⟨j, kx, rfl, rfl, hjn, hjk, hkx, HKX, HB⟩ := hrel
                  have hk0 : (0 : Int) ≤ (kx : Int) := by omega
                  have hk1 : (kx : Int) < ((NR + 1 : Nat) : Int) := by omega
                  obtain ⟨b1, o1, hz1, -, z0, z1, z2, z3, z4⟩ := (HR7.out.below HB.out).atTbf kx _ HKX.out
                  by_cases hj1 : j < NR
                  · have hd1 : (j : Int) + 1 < ((NR + 1 : Nat) : Int) := by omega
                    have hd0 : (0 : Int) ≤ (j : Int) + 1 := by omega
                    obtain ⟨g, hg⟩ : ∃ g, r[j]? = some g := ⟨r[j]'(by have := HNR.out; omega), List.getElem?_eq_getElem _⟩
                    obtain ⟨b2, o2, hz2, -, y0, y1, y2, y3, y4⟩ := (HR7.out.below HB.out).atTbf (j + 1) g (by rw [List.getElem?_cons_succ]; exact hg)
                    rw [hz1] at hz2
                    simp only [Option.some.injEq, Addr.mk.injEq] at hz2
                    obtain ⟨rfl, rfl, -⟩ := hz2
                    subst hz1
                    have HST := Lib.hid (leastF_take f r j g hg)
                    have HG : Hid ((f :: r)[j + 1]? = some g) := Lib.hid (by rw [List.getElem?_cons_succ]; exact hg)
                    generalize leastF f (r.take j) = z at *
                    clear hg z1 z2 z3 z4 y1 y2 y3 y4
                    obtain ⟨K, hK⟩ : ∃ K, decide (g.num < z.num) = K := ⟨_, rfl⟩
                    have HK := Lib.hid hK
                    go_upto_region 16 with fail
                    go_quiet (fail)
                    have HB2 := Lib.hid (HB.out.trans (((DrN.refl wr).more nq).below w7.heap.size))
                    generalize wr.drewN nq = wz at *
                    clear z0 y0 HB hK
                    cases K with
                    | true =>
                      have HL2 : Hid (leastF f (r.take (j + 1)) = g) := Lib.hid (by rw [HST.out]; exact if_pos (of_decide_eq_true HK.out))
                      clear HST HKX
                      go_wp2_with fail
                      go_roundg (NR + 1 - (j + 1))
                      case measure => omega
                      case rel => exact ⟨j + 1, j + 1, by go_num, by go_num, by omega, Nat.le_refl _, by omega, Lib.hid (by rw [HL2.out]; exact HG.out), HB2⟩
                    | false =>
                      have HL2 : Hid (leastF f (r.take (j + 1)) = z) := Lib.hid (by rw [HST.out]; exact if_neg (of_decide_eq_false HK.out))
                      clear HST
                      go_wp2_with fail
                      go_roundg (NR + 1 - (j + 1))
                      case measure => omega
                      case rel => exact ⟨j + 1, kx, by go_num, rfl, by omega, Nat.le_refl _, by omega, Lib.hid (by rw [HL2.out]; exact HKX.out), HB2⟩
                  · obtain rfl : j = NR := by omega
                    subst hz1
                    have hd1 : ¬ (j : Int) + 1 < ((j + 1 : Nat) : Int) := by omega
                    rw [List.take_of_length_le (by have := HNR.out; omega)] at z0 z1 z2 z3 z4
                    have HJ8 := Lib.hid (HJ7.out.below HB.out)
                    have HA : Hid (Below wr.heap.size wr (wr.alloc (.cells (encTbf (leastF f r)).toArray 49))) := Lib.hid ((Below.refl _ _).alloc (Nat.le_refl _) _)
                    have HJ9 := Lib.hid (HJ8.out.below HA.out)
                    have HO9 := Lib.hid ((own_oneK (E := 49) encTbf_len wr (leastF f r)).base HJ8.out.b.size)
                    rw [← HEI.out] at HO9
                    generalize leastF f r = z at *
                    obtain ⟨q0, q1, q2, q3, q4⟩ := z
                    have e5 : (encTbf ⟨q0, q1, q2, q3, q4⟩).toArray = #[.int .i64 q0, .int .i64 q1, .int .i64 q2, .string q3, .string q4] := rfl
                    rw [e5] at HJ9 HO9
                    clear e5
                    simp only at z0 z1 z2 z3 z4
                    clear HJ7 HKX HB HR7 HJ8 HA
                    obtain ⟨k0, k1, k2, k3⟩ := cell4_of HJ9.out.j
                    have f1 := HJ9.out.j.free 1
                    have HJX := Lib.hid (HJ9.out.setIn HO9.out)
                    clear HJ9 HO9 HNR
                    go_wp2_with fail
                    go_roundg ((4 - (i + 1)).toNat)
                    case measure => omega
                    case rel => exact ⟨m * 4, i + 1, by go_num, by go_num, Nat.le_refl _, by omega, by omega, Lib.hid (.inr ⟨i, _, HP.out, HJX.out⟩)⟩
            · have HF2 := Lib.hid (HF.out.next (by omega) (by rw [HSS.out]; exact hsm))
              clear HF HSS
              go_wp2_with fail
              go_roundg ((4 - (i + 1)).toNat)
              case measure => omega
              case rel => exact ⟨m * 4, i + 1, by go_num, by go_num, Nat.le_refl _, by omega, by omega, Lib.hid (.inl ⟨HF2.out, HJ5.out⟩)⟩
          · have HE : Hid (PkEnd F w wr p S) := Lib.hid (.inl ⟨hf.no (by omega), hj⟩)
            clear hf hj HW
            go_wp2_with fail
            go_meet
            exact HE
        · have hn0 := (pickL_lv hn).1
          obtain ⟨c0, c1, c2, c3⟩ := cell4_of hj.j
          have HE : Hid (PkEnd F w wr p S) := Lib.hid (.inr ⟨n, u1, hn, hj⟩)
          clear hn hj HW
          by_cases h3 : i ≤ 3
          · go_wp2_with fail
            go_meet
            exact HE
          · go_wp2_with fail
            go_meet
            exact HE
    case rest =>
      have HW := hcut
      rcases HW.out with ⟨hp, hj⟩ | ⟨n, u1, hp, hj⟩
      · obtain ⟨ej, ek⟩ := job_none hp
        have HE : Hid (jobN F = ⟨0, [], [], false⟩ ∧ (pickV F).isSome = false) := Lib.hid ⟨ej, ek⟩
        obtain ⟨c0, c1, c2, c3⟩ := cell4_of hj.j
        obtain ⟨y0, y1, y2, y3⟩ := cell4_of hj.z
        have f0 := hj.z.free 0
        have f1 := hj.z.free 1
        have f2 := hj.z.free 2
        have f3 := hj.z.free 3
        have HF := Lib.hid (fill4 hj.z (.int .i64 0) (.slice none 0 0) (.slice none 0 0) (.bool false))
        obtain ⟨r0, r1, r2, r3⟩ := cell4_of HF.out.1
        have HBF := Lib.hid (hj.b.trans (UpdF.below HF.out.2 hj.b.size fun k hk e => by have : k = S := e; omega))
        clear ej ek hp hj HW HF
        go_wp2_with fail
        refine bodyPost_ret (v := .tuple #[.agg #[.int .i64 0, .slice none 0 0, .slice none 0 0, .bool false], .bool false]) (by simp [results, Try.results10, go_sem, r0, r1, r2, r3]) rfl ⟨.slice none 0 0, .slice none 0 0, ?_, ?_, ?_, ?_⟩
        · rw [HE.out.1, HE.out.2]
        · rw [HE.out.1]; exact OwnK.nil _ _ _ _ _
        · rw [HE.out.1]; exact OwnK.nil _ _ _ _ _
        · exact HBF.out
      · obtain ⟨ej, ek⟩ := job_some hp
        obtain ⟨hn0, hn3⟩ := pickL_lv hp
        have HNE := Lib.hid (ins_some hp)
        have HNL := Lib.hid (ins_len HV.out.len n)
        have HE : Hid (jobN F = ⟨n, insV F n, overV (n + 1) (spanV (insV F n)).1 (spanV (insV F n)).2 F, botV F n (spanV (insV F n ++ overV (n + 1) (spanV (insV F n)).1 (spanV (insV F n)).2 F)).1 (spanV (insV F n ++ overV (n + 1) (spanV (insV F n)).1 (spanV (insV F n)).2 F)).2⟩ ∧ (pickV F).isSome = true) := Lib.hid ⟨ej, ek⟩
        have HJ := Lib.hid hj
        clear ej ek hp hj HW
        obtain ⟨I, hI⟩ : ∃ I, insV F n = I := ⟨_, rfl⟩
        rw [hI] at HJ HE HNE HNL
        clear hI
        obtain ⟨a1, c1, rfl⟩ := fil_form HJ.out.o1
        cases I with
        | nil => exact absurd rfl HNE.out
        | cons f r =>
        have HR := Lib.hid (HJ.out.o1.rd encTbf_len)
        obtain ⟨N1, hN1⟩ : ∃ N, (f :: r).length = N := ⟨_, rfl⟩
        have HN1 := Lib.hid hN1
        rw [hN1] at HR HJ
        clear hN1
        have hn1 : ¬ n < 0 := by omega
        have HSP := Lib.hid (rspan_any _ f r (by have := HNL.out; rw [List.length_cons] at this; omega) wc HR.out)
        unfold SpanTo at HSP
        obtain ⟨s1, hs1⟩ : ∃ s, (spanV (f :: r)).1 = s := ⟨_, rfl⟩
        obtain ⟨s2, hs2⟩ : ∃ s, (spanV (f :: r)).2 = s := ⟨_, rfl⟩
        rw [hs1, hs2] at HSP HE
        clear hs1 hs2 HR
        obtain ⟨k0, k1, k2, k3⟩ := cell4_of HJ.out.j
        go_wp2_with fail
        refine HSP.out.mono ?_
        rintro e w4 ⟨rfl, hb⟩
        have HJ4 := Lib.hid (HJ.out.below hb)
        clear hb HSP HJ k0 k1 k2 k3
        obtain ⟨k0, k1, k2, k3⟩ := cell4_of HJ4.out.j
        have HOV := Lib.hid (HV.out.ov w4 (n + 1) s1 s2 HJ4.out.b (by omega) (by omega))
        have HOL := Lib.hid (over_len HV.out (n + 1) s1 s2)
        obtain ⟨ys, hys⟩ : ∃ ys, overV (n + 1) s1 s2 F = ys := ⟨_, rfl⟩
        rw [hys] at HOV HE HOL
        clear hys
        go_wp2_with fail
        refine HOV.out.mono ?_
        rintro e w5 ⟨u2, rfl, ho, hb⟩
        have HJ5 := Lib.hid (HJ4.out.below hb)
        have HO5 := Lib.hid (ho.base HJ4.out.b.size)
        obtain ⟨a2, c2, rfl⟩ := fil_form ho
        clear ho hb HOV HJ4 k0 k1 k2 k3
        obtain ⟨N2, hN2⟩ : ∃ N, ys.length = N := ⟨_, rfl⟩
        have HN2 := Lib.hid hN2
        rw [hN2] at HO5
        rw [hN2]
        clear hN2
        obtain ⟨k0, k1, k2, k3⟩ := cell4_of HJ5.out.j
        have f2 := HJ5.out.j.free 2
        have HJ := Lib.hid (HJ5.out.setBl HO5.out)
        clear HJ5 HO5
        go_upto_region 24 with fail
        clear k0 k1 k2 k3 f2
        generalize w5.setCell ⟨p, 2, none⟩ (.slice a2 N2 c2) = wt at *
        have HR1 := Lib.hid (HJ.out.o1.rd encTbf_len)
        have HR2 := Lib.hid (HJ.out.o2.rd encTbf_len)
        obtain ⟨t1, h1⟩ : ∃ s, (spanV (f :: r ++ ys)).1 = s := ⟨_, rfl⟩
        obtain ⟨t2, h2⟩ : ∃ s, (spanV (f :: r ++ ys)).2 = s := ⟨_, rfl⟩
        rw [h1, h2] at HE
        have ht1 := Lib.hid h1
        have ht2 := Lib.hid h2
        clear h1 h2
        have B : Below wt.heap.size wt wt := Below.refl _ _
        refine wp_region_held_drew (S := Below wt.heap.size wt) (by kernel_rfl) (Below.refl _ _).drew (fun hHeld => ?_)
        generalize wt.drew = wd2 at hHeld ⊢
        refine wpAnyH_shift hHeld ?_
        replace B : Below wt.heap.size wt wd2 := B.trans (hHeld.mono B.size)
        clear hHeld
        refine takeYes (i := 0) (k := 86) (v := .pointer (some ⟨p, 1, none⟩)) rfl (by kernel_rfl) (by kernel_rfl) (by kernel_rfl) (by kernel_rfl) (fun _ _ _ h => h) (by kernel_rfl) ?_ (Below.refl _ _) ?_
        · intro W hSw; first | (go_simp; done) | go_simp
        try simp only [Act.put, List.setIfInBounds_toArray, List.set_cons_zero, List.set_cons_succ]
        refine takeYes (i := 1) (k := 87) (v := .slice a1 N1 c1) rfl (by kernel_rfl) (by kernel_rfl) (by kernel_rfl) (by kernel_rfl) (fun _ _ _ h => h) (by kernel_rfl) ?_ (Below.refl _ _) ?_
        · intro W hSw; obtain ⟨k0, k1, k2, k3⟩ := cell4_of (HJ.out.j.below (B.trans (hSw.mono B.size))); first | (go_simp; done) | go_simp
        try simp only [Act.put, List.setIfInBounds_toArray, List.set_cons_zero, List.set_cons_succ]
        refine takeYes (i := 3) (k := 89) (v := .pointer (some ⟨p, 2, none⟩)) rfl (by kernel_rfl) (by kernel_rfl) (by kernel_rfl) (by kernel_rfl) (fun _ _ _ h => h) (by kernel_rfl) ?_ (Below.refl _ _) ?_
        · intro W hSw; first | (go_simp; done) | go_simp
        try simp only [Act.put, List.setIfInBounds_toArray, List.set_cons_zero, List.set_cons_succ]
        refine takeYes (i := 4) (k := 90) (v := .slice a2 N2 c2) rfl (by kernel_rfl) (by kernel_rfl) (by kernel_rfl) (by kernel_rfl) (fun _ _ _ h => h) (by kernel_rfl) ?_ (Below.refl _ _) ?_
        · intro W hSw; obtain ⟨k0, k1, k2, k3⟩ := cell4_of (HJ.out.j.below (B.trans (hSw.mono B.size))); first | (go_simp; done) | go_simp
        try simp only [Act.put, List.setIfInBounds_toArray, List.set_cons_zero, List.set_cons_succ]
        refine wpAnyH_ready (rs := [2]) (by kernel_rfl) (by simp) (AllReadyH.cons rfl (fun K hK => ?_) AllReadyH.nil)
        obtain ⟨v88, wd3, hr88, ho88, hb3⟩ := run_appK (ty := 30) elem_tbf encTbf_len (OwnK.nil encTbf 5 49 wd2.heap.size wd2) (HR1.out.below B) (encTbf_one (f :: r)) (by have h1 := HNL.out; simp at h1 ⊢; omega) (by have h1 := HNL.out; simp at h1 ⊢; unfold maxLen; omega) (Nat.le_refl _)
        rw [List.nil_append] at ho88
        obtain ⟨a88, c88, rfl⟩ := fil_form ho88
        have HO88 := Lib.hid ho88
        refine one_app 88 rfl (by kernel_rfl) _ _ 30 30 30 rfl rfl (by kernel_rfl) (by kernel_rfl) hr88 ?_
        refine hK.out _ _ hb3 (fun _ => ?_)
        clear hK K hr88 ho88
        have B3 : Below wt.heap.size wt wd3 := B.trans (hb3.mono B.size)
        try simp only [Act.put, List.setIfInBounds_toArray, List.set_cons_zero, List.set_cons_succ]
        refine wpAnyH_ready (rs := [5]) (by kernel_rfl) (by simp) (AllReadyH.cons rfl (fun K hK => ?_) AllReadyH.nil)
        obtain ⟨v91, wd4, hr91, ho91, hb4⟩ := run_appK (ty := 30) elem_tbf encTbf_len HO88.out (HR2.out.below B3) (encTbf_one ys) (by have h1 := HNL.out; have h2 := HOL.out; simp at h1 ⊢; omega) (by have h1 := HNL.out; have h2 := HOL.out; simp at h1 ⊢; unfold maxLen; omega) hb3.size
        obtain ⟨a91, c91, rfl⟩ := fil_form ho91
        have HR91 := Lib.hid (ho91.rd encTbf_len)
        have B4 : Below wd2.heap.size wd2 wd4 := hb3.trans hb4
        refine one_app 91 rfl (by kernel_rfl) _ _ 30 30 30 rfl rfl (by kernel_rfl) (by kernel_rfl) hr91 ?_
        refine hK.out _ _ B4 (fun _ => ?_)
        clear hK K hr91 ho91 HO88
        try simp only [Act.put, List.setIfInBounds_toArray, List.set_cons_zero, List.set_cons_succ]
        refine wpAnyH_ready (rs := [6]) (by kernel_rfl) (by simp) (AllReadyH.cons rfl (fun K hK => ?_) AllReadyH.nil)
        have HSP := Lib.hid (rspan_any _ f (r ++ ys) (by have h1 := HNL.out; have h2 := HOL.out; rw [List.length_append]; rw [List.length_cons] at h1; omega) wd4 (by have := HR91.out; rwa [List.cons_append] at this))
        unfold SpanTo at HSP
        rw [← List.cons_append, ht1.out, ht2.out] at HSP
        generalize (f :: r ++ ys).length = N3 at *
        go_simp
        refine HSP.out.mono ?_
        rintro e wd5 ⟨rfl, hb5⟩
        have B5 : Below wd2.heap.size wd2 wd5 := B4.trans (hb5.mono B4.size)
        refine hK.out _ _ B5 (fun _ => ?_)
        clear hK K HSP
        try simp only [Act.put, List.setIfInBounds_toArray, List.set_cons_zero, List.set_cons_succ]
        refine takeYes (i := 7) (k := 85) (v := .tuple #[.string t1, .string t2]) rfl (by kernel_rfl) (by kernel_rfl) (by kernel_rfl) (by kernel_rfl) (fun _ _ _ h => h) (by kernel_rfl) ?_ B5 ?_
        · intro W hSw; first | (go_simp; done) | go_simp
        try simp only [Act.put, List.setIfInBounds_toArray, List.set_cons_zero, List.set_cons_succ]
        refine takeYes (i := 8) (k := 93) (v := .string t1) rfl (by kernel_rfl) (by kernel_rfl) (by kernel_rfl) (by kernel_rfl) (fun _ _ _ h => h) (by kernel_rfl) ?_ B5 ?_
        · intro W hSw; first | (go_simp; done) | go_simp
        try simp only [Act.put, List.setIfInBounds_toArray, List.set_cons_zero, List.set_cons_succ]
        refine takeYes (i := 9) (k := 94) (v := .string t2) rfl (by kernel_rfl) (by kernel_rfl) (by kernel_rfl) (by kernel_rfl) (fun _ _ _ h => h) (by kernel_rfl) ?_ B5 ?_
        · intro W hSw; first | (go_simp; done) | go_simp
        try simp only [Act.put, List.setIfInBounds_toArray, List.set_cons_zero, List.set_cons_succ]
        refine takeYes (i := 10) (k := 10) (v := .string t1) rfl (by kernel_rfl) (by kernel_rfl) (by kernel_rfl) (by kernel_rfl) (fun _ _ _ h => h) (by kernel_rfl) ?_ B5 ?_
        · intro W hSw; first | (go_simp; done) | go_simp
        try simp only [Act.put, List.setIfInBounds_toArray, List.set_cons_zero, List.set_cons_succ]
        refine takeYes (i := 11) (k := 11) (v := .string t2) rfl (by kernel_rfl) (by kernel_rfl) (by kernel_rfl) (by kernel_rfl) (fun _ _ _ h => h) (by kernel_rfl) ?_ B5 ?_
        · intro W hSw; first | (go_simp; done) | go_simp
        try simp only [Act.put, List.setIfInBounds_toArray, List.set_cons_zero, List.set_cons_succ]
        refine wpAnyH_done (by kernel_rfl) ?_ _
        have HJ6 := Lib.hid (HJ.out.below (B.trans (B5.mono B.size)))
        clear B B3 B4 B5 hb3 hb4 hb5 HR91 HJ HR1 HR2 ht1 ht2
        obtain ⟨k0, k1, k2, k3⟩ := cell4_of HJ6.out.j
        have f3 := HJ6.out.j.free 3
        have HJ7 := Lib.hid (HJ6.out.setBt true)
        have e52 : n + 2 ≤ 5 := by omega
        clear HJ6
        go_wp2_with fail
        go_loopg [12] 5 (fun kk vi wr => ∃ (m : Int) (q : Bool), vi = .int .i64 m ∧ n + 2 ≤ m ∧ m ≤ 5 ∧ (5 - m).toNat ≤ kk ∧ Hid (BotAt F n t1 t2 m q) ∧ Hid (PkJob w wr p S n (.slice a1 N1 c1) (.slice a2 N2 c2) (f :: r) ys q))
        case atStart => exact ⟨n + 2, true, by go_num, by omega, by omega, by omega, Lib.hid ⟨fun _ k h1 h2 => by omega, fun _ => rfl⟩, HJ7⟩
        case round =>
          clear k0 k1 k2 k3 f3 HJ7
          obtain ⟨m, q, rfl, hm1, hm5, hk, HQ, HJ⟩ := hrel
          obtain ⟨k0, k1, k2, k3⟩ := cell4_of HJ.out.j
          by_cases h5 : m < 5
          · cases q with
            | true =>
              have HO := Lib.hid (HV.out.ov wr m t1 t2 HJ.out.b (by omega) h5)
              obtain ⟨zs, hzs⟩ : ∃ ys, overV m t1 t2 F = ys := ⟨_, rfl⟩
              have HZS := Lib.hid hzs
              rw [hzs] at HO
              clear hzs
              go_wp2_with fail
              refine HO.out.mono ?_
              rintro e w8 ⟨u, rfl, ho, hb⟩
              have HJ8 := Lib.hid (HJ.out.below hb)
              obtain ⟨aZ, cZ, rfl⟩ := fil_form ho
              clear ho hb HO HJ k0 k1 k2 k3
              obtain ⟨k0, k1, k2, k3⟩ := cell4_of HJ8.out.j
              have f3 := HJ8.out.j.free 3
              cases zs with
              | nil =>
                have HQ2 : Hid (BotAt F n t1 t2 (m + 1) true) := Lib.hid ⟨fun _ k h1 h2 => by
                  by_cases hkm : k < m
                  · exact HQ.out.1 rfl k h1 hkm
                  · obtain rfl : k = m := by omega
                    exact HZS.out, fun _ => rfl⟩
                have HJ9 := Lib.hid (HJ8.out.setBt true)
                rw [List.length_nil]
                clear HQ HZS HJ8
                go_wp2_with fail
                go_roundg ((5 - (m + 1)).toNat)
                case measure => omega
                case rel => exact ⟨m + 1, true, by go_num, by omega, by omega, Nat.le_refl _, HQ2, HJ9⟩
              | cons z zs =>
                have HQ2 : Hid (BotAt F n t1 t2 (m + 1) false) := Lib.hid ⟨fun h => by simp at h, fun h => by
                  have := h m hm1 (by omega)
                  rw [HZS.out] at this
                  simp at this⟩
                have HJ9 := Lib.hid (HJ8.out.setBt false)
                rw [List.length_cons]
                have hz0 : (((zs.length + 1 : Nat) : Int) == 0) = false := by rw [beq_eq_false_iff_ne]; omega
                generalize zs.length + 1 = NZ at *
                clear HQ HZS HJ8
                go_wp2_with fail
                go_roundg ((5 - (m + 1)).toNat)
                case measure => omega
                case rel => exact ⟨m + 1, false, by go_num, by omega, by omega, Nat.le_refl _, HQ2, HJ9⟩
            | false =>
              have HQ2 : Hid (BotAt F n t1 t2 (m + 1) false) := Lib.hid ⟨fun h => by simp at h, fun h => by
                have := HQ.out.2 fun k h1 h2 => h k h1 (by omega)
                simp at this⟩
              have f3 := HJ.out.j.free 3
              have HJ9 := Lib.hid (HJ.out.setBt false)
              clear HQ HJ
              go_wp2_with fail
              go_roundg ((5 - (m + 1)).toNat)
              case measure => omega
              case rel => exact ⟨m + 1, false, by go_num, by omega, by omega, Nat.le_refl _, HQ2, HJ9⟩
          · obtain rfl : m = 5 := by omega
            have HQB : Hid (botV F n t1 t2 = q) := Lib.hid (by
              cases q with
              | true => exact botV_true hn0 fun k h1 h2 => HQ.out.1 rfl k h1 h2
              | false =>
                by_cases hx : ∃ k, n + 2 ≤ k ∧ k < 5 ∧ overV k t1 t2 F ≠ []
                · obtain ⟨k, h1, h2, h3⟩ := hx
                  exact botV_false hn0 h1 h2 h3
                · have := HQ.out.2 fun k h1 h2 => Classical.byContradiction fun h3 => hx ⟨k, h1, h2, h3⟩
                  simp at this)
            rw [HQB.out] at HE
            obtain ⟨y0, y1, y2, y3⟩ := cell4_of HJ.out.z
            have f0 := HJ.out.z.free 0
            have f1 := HJ.out.z.free 1
            have f2 := HJ.out.z.free 2
            have f3 := HJ.out.z.free 3
            have hf := fill4 HJ.out.z (.int .i64 n) (.slice a1 N1 c1) (.slice a2 N2 c2) (.bool q)
            obtain ⟨r0, r1, r2, r3⟩ := cell4_of hf.1
            have HBF := Lib.hid (HJ.out.b.trans (UpdF.below hf.2 HJ.out.b.size fun k hk e => by have : k = S := e; have := HJ.out.hS; omega))
            have HO := Lib.hid (And.intro (HJ.out.o1.asideT hf.2 HJ.out.z (by decide)) (HJ.out.o2.asideT hf.2 HJ.out.z (by decide)))
            clear hf HJ HQ HQB
            go_wp2_with fail
            refine bodyPost_ret (v := .tuple #[.agg #[.int .i64 n, .slice a1 N1 c1, .slice a2 N2 c2, .bool q], .bool true]) (by simp [results, Try.results10, go_sem, r0, r1, r2, r3]) rfl ⟨.slice a1 N1 c1, .slice a2 N2 c2, ?_, ?_, ?_, ?_⟩
            · rw [HE.out.1, HE.out.2]
            · rw [HE.out.1]; have := HO.out.1; rw [hS] at this; exact this
            · rw [HE.out.1]; have := HO.out.2; rw [hS] at this; exact this
            · have := HBF.out; rw [hS] at this; exact this
end Go.Proofs.Ytgdmmhdihgajkaa
