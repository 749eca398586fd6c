/- The walk of table's Build. -/
import Derived.Test.YtennpdhnjaemeaaDoorMTblB
import Derived.Test.YtennpdhnjaemeaaDoorMTblC
import Derived.Test.YtennpdhnjaemeaaDoorMTblA
import Derived.Test.YtennpdhnjaemeaaDoorMBlk
import Derived.Test.YtennpdhnjaemeaaDoorMEnt
namespace Go.Proofs.YtennpdhnjaemeaaDoor
set_option linter.unusedVariables false
set_option maxRecDepth 100000
open Go.RowKit
/-- Of what may not stand in a table there is none. -/
theorem build_no (v : Value) (l : List Ent) (hl : l.length ≤ 1000000) (hn : ¬ AreP l) (w : World) (hv : RdK encEnt 5 w v l) : Calls Tryd.prog 11 #[v] w fun en w' => en = .returned (.tuple #[.slice none 0 0, .int .i64 12]) ∧ Below w.heap.size w w' := by
  obtain ⟨a, len, cap, rfl, -⟩ := rdK_len hv
  have HA := Lib.hid (areright_any _ l hl w hv)
  have HN := Lib.hid hn
  clear hn hv hl
  go_enter Tryd.func11, Tryd.ntmps11
  go_wp2_with fail
  refine HA.out.mono ?_
  rintro e w1 ⟨q, rfl, hq, b1⟩
  obtain rfl : q = false := by
    cases q with
    | false => rfl
    | true => exact absurd (hq.1 rfl) HN.out
  have HB := Lib.hid b1
  clear hq b1 HA
  go_wp2_with fail
  go_ret2
  exact ⟨rfl, HB.out⟩
/-- What Build tells. -/
def BuildRes (K : Nat) (l : List Ent) (w : World) (en : Ending) (w' : World) : Prop :=
  ∃ v ps ss, en = .returned (.tuple #[v, .int .i64 0]) ∧ TbOk K l ps ∧ NormsOf l ss ∧ OwnB w.heap.size w' v (togB (blocksB ps) (filterB (ss.map hashN)) (indexB ps)) ∧ Below w.heap.size w w'
theorem srtB_drop {l : List Ent} (h : srtB l = true) (k : Nat) : srtB (l.drop k) = true := (srtB_pair _).2 (((srtB_pair _).1 h).sublist (List.drop_sublist _ _))
theorem take_drop_app {l es : List Ent} {k n : Nat} (h : es = (l.drop k).take n) : l.take k ++ es = l.take (k + n) := by
  rw [h, List.take_add]
set_option maxHeartbeats 16000000 in
theorem build_yes (K : Nat) (hK : K ≤ 1000000) (v : Value) (l : List Ent) (hl1 : l.length ≤ 1000000) (hl : l.length * (53 * K + 2040) ≤ 100000000000) (ha : AreP l) (hf : ∀ e ∈ l, FitE K e) (w : World) (ht : TabAt w) (hv : RdK encEnt 5 w v l) :
    Calls Tryd.prog 11 #[v] w (BuildRes K l w) := by
  obtain ⟨a, len, cap, rfl, hlen⟩ := rdK_len hv
  have hlm : len ≤ 1000000 := by rw [hlen]; exact hl1
  have HA := Lib.hid (areright_any _ l hl1 w hv)
  have HAP := Lib.hid ha
  have HS : Hid (srtB l = true) := Lib.hid ha.2.1
  have HRI : Hid (∀ e ∈ l, RightE e ∧ FitE K e) := Lib.hid fun e he => by
    obtain ⟨i, hi⟩ := List.mem_iff_getElem?.1 he
    exact ⟨(ha.2.2 i e hi).1, hf e he⟩
  have HSZ : Hid (len * (53 * K + 2040) ≤ 100000000000) := Lib.hid (by rw [hlen]; exact hl)
  have HLN := Lib.hid hlen
  have HRD := Lib.hid hv
  have HT := Lib.hid ht
  have HKK : Hid (K ≤ 1000000) := Lib.hid hK
  have hcap : len ≤ cap := by
    rcases RdK.len hv with ⟨a', c', e, h⟩
    simp only [Value.slice.injEq] at e
    obtain ⟨rfl, e2, rfl⟩ := e
    rcases h with rfl | ⟨h, -⟩
    · rw [hlen]; exact Nat.zero_le _
    · rw [hlen]; exact h
  clear ha hf hl hv ht hlen hK hl1
  go_enter Tryd.func11, Tryd.ntmps11
  go_wp2_with fail
  refine HA.out.mono ?_
  rintro e w1 ⟨q, rfl, hq, b1⟩
  obtain rfl : q = true := hq.2 HAP.out
  have HB1 := Lib.hid b1
  clear hq b1 HA HAP
  go_wp2_with fail
  go_loopg [4, 5, 6] len (fun kk v4 v5 v6 wr => ∃ (ps : List (List (List Ent))) (k n6 c6 : Nat) (a4 a5 a6 : Option Addr) (n4 c4 n5 c5 : Nat), v4 = .slice a4 n4 c4 ∧ v5 = .slice a5 n5 c5 ∧ v6 = .slice a6 n6 c6 ∧ k ≤ len ∧ n6 ≤ kk ∧ n6 ≤ c6 ∧ n6 ≤ len ∧ Hid (n6 = len - k) ∧ Hid (k = ((ps.map List.flatten).flatten).length) ∧ Hid ((ps.map List.flatten).flatten = l.take k) ∧ Hid (∀ gs ∈ ps, Pc K gs) ∧ Hid (TwoB w wr (.slice a4 n4 c4) (blocksB ps) (.slice a5 n5 c5) (indexB ps)) ∧ Hid (RdK encEnt 5 w (.slice a6 n6 c6) (l.drop k)))
  case atStart => exact ⟨[], 0, len, cap, none, none, a, 0, 0, 0, 0, rfl, rfl, rfl, by omega, by omega, hcap, Nat.le_refl _, Lib.hid rfl, Lib.hid rfl, Lib.hid rfl, Lib.hid (fun gs h => (List.not_mem_nil h).elim), Lib.hid ⟨OwnB.nil _ _, OwnB.nil _ _, (fun g h => by cases h), HB1.out⟩, HRD⟩
  case round =>
    clear HB1
    obtain ⟨ps, k, n6, c6, a4, a5, a6, n4, c4, n5, c5, rfl, rfl, rfl, hk, hkk, hc6, hn6l, HN6, HKL, HTK, HPC, HTB, HRR⟩ := hrel
    by_cases h0 : 0 < n6
    · have h0' : (0 : Int) < (n6 : Int) := by omega
      have HPB := Lib.hid (fun W (hW : Below w.heap.size w W) => putblk_any (.slice a6 n6 c6) (l.drop k) (srtB_drop HS.out k) (fun e he => ⟨(HRI.out e (List.mem_of_mem_drop he)).1, by
        have h1 := (HRI.out e (List.mem_of_mem_drop he)).2
        have h2 := HKK.out
        exact ⟨Nat.le_trans h1.norm h2, Nat.le_trans h1.spell h2, Nat.le_trans h1.val h2⟩⟩) (by
          intro h
          have h1 := congrArg List.length h
          rw [List.length_drop, List.length_nil, ← HLN.out, ← HN6.out] at h1
          omega) (by rw [List.length_drop, ← HLN.out]; omega) W (HRR.out.below hW))
      have HPB2 := Lib.hid (HPB.out _ HTB.out.bel)
      clear HPB hcap
      go_wp2_with fail
      refine HPB2.out.mono ?_
      rintro e w2 ⟨u2, gs, rfl, o2, hpc, hgt, hfw, b2⟩
      obtain ⟨a2, m2, c2, rfl, -⟩ := o2.form
      have HPCG : Hid (Pc K gs) := Lib.hid ⟨hpc, hfw, fun e he => HRI.out e (List.mem_of_mem_drop (List.mem_of_mem_take (by rw [← hgt]; exact he)))⟩
      have HPS : Hid (∀ x ∈ ps ++ [gs], Pc K x) := Lib.hid fun x hx => by
        rcases List.mem_append.1 hx with h | h
        · exact HPC.out x h
        · rw [List.mem_singleton.1 h]; exact HPCG.out
      obtain ⟨ct, hct⟩ : ∃ n, gs.flatten.length = n := ⟨_, rfl⟩
      have hpos := List.length_pos_iff.2 (pc_ne hpc)
      rw [hct] at hgt hpos ⊢
      have HCT := Lib.hid hct
      have hctn : ct ≤ n6 := by
        have h1 := congrArg List.length hgt
        rw [hct, List.length_take, List.length_drop, ← HLN.out, ← HN6.out] at h1
        omega
      have HZ := Lib.hid (last_at (by rw [hct]; exact hgt) (pc_ne hpc))
      rw [hct] at HZ
      have HFT : Hid (((ps ++ [gs]).map List.flatten).flatten = l.take (k + ct)) := Lib.hid (by rw [flat_snoc, HTK.out]; exact take_drop_app hgt)
      have hkc : k + ct ≤ len := by have := HN6.out; omega
      have HKC : Hid (k + ct = ((ps ++ [gs]).map List.flatten).flatten.length) := Lib.hid (by rw [HFT.out, List.length_take]; have := HLN.out; omega)
      have HZE := Lib.hid (tb_size HPS.out (by rw [← HKC.out]; exact hkc) HSZ.out)
      rw [blocksB_snoc, indexB_snoc, List.length_append, List.length_append] at HZE
      have HB2 := Lib.hid (HTB.out.bel.trans (b2.mono HTB.out.bel.size))
      have HTB2 := Lib.hid (HTB.out.below b2)
      have HSL := Lib.hid (seal_any _ (blockB (gs.map rowE)) (by have := (pcB_le HPCG.out).1; have := HKK.out; omega) w2 (HT.out.below HB2.out) o2.rd)
      clear o2 hpc hgt hfw b2 hct HPB2 HTB
      go_wp2_with fail
      refine HSL.out.mono ?_
      rintro e w3 ⟨v3, rfl, o3, b3⟩
      obtain ⟨a3, n3, c3, rfl, hn3, -⟩ := id o3.form
      have HN3 : Hid (n3 = (pcB gs).length) := Lib.hid hn3
      have HTB3 := Lib.hid (HTB2.out.below b3)
      have HR3 : Hid (RdB w3 (.slice a3 n3 c3) (pcB gs)) := Lib.hid o3.rd
      clear o3 b3 hn3 HSL HTB2 HB2
      go_wp2_with (at_builtin; refine wp_appGB _ _ (by rfl) (by rfl) (by rfl) HTB3.out.fst (by rfl) HR3.out ?c1 HTB3.out.bel.size ?_)
      case c1 => have := HZE.out.1; omega
      intro v4 w4 o4 b4 g4 q4
      have htb4 := HTB3.out.app (o4.base (Nat.zero_le _)) g4 q4
      rw [← blocksB_snoc] at htb4
      obtain ⟨a7, n7, c7, rfl, -⟩ := id o4.form
      have HTB4 := Lib.hid htb4
      obtain ⟨z, hz⟩ : ∃ z, lastE gs = z := ⟨_, rfl⟩
      have HLZ := Lib.hid hz
      rw [hz] at HZ
      have hzr : RightE z ∧ FitE K z := by rw [← hz]; exact HPCG.out.fit _ (lastE_mem (pc_ne HPCG.out.ok))
      obtain ⟨bx, ox, rfl, hblt, d0, d1, d2, d3, d4⟩ := (HRR.out.below htb4.bel).at5 (by rw [List.length_drop, ← HLN.out]; exact HN6.out) (ct - 1) z HZ.out
      obtain ⟨en, hen⟩ : ∃ x, z.norm = x := ⟨_, rfl⟩
      obtain ⟨eq, heq⟩ : ∃ x : Nat, z.seq = (x : Int) := ⟨z.seq.toNat, (Int.toNat_of_nonneg (by have := hzr.1.seq1; omega)).symm⟩
      obtain ⟨ek, hek⟩ : ∃ x, z.kind = x := ⟨_, rfl⟩
      obtain ⟨es, hes⟩ : ∃ x, z.spell = x := ⟨_, rfl⟩
      obtain ⟨ev, hev⟩ : ∃ x, z.val = x := ⟨_, rfl⟩
      rw [hen] at d0
      rw [heq] at d1
      rw [hek] at d2
      rw [hes] at d3
      rw [hev] at d4
      have HPP := Lib.hid (fun W => putpart_raw en eq ek es ev 0 n3 ct (by rw [← hen]; have := hzr.2.norm; have := HKK.out; omega) (by have := hzr.1.seq2; omega) (by have h1 := (pcB_le HPCG.out).2; have := HKK.out; have := HN3.out; omega) (by omega) W)
      have HPE : Hid (textE en.data.toList ++ (putN eq ++ (putN n3 ++ putN ct)) = partB ⟨(lastE gs).norm, (lastE gs).seq, (blocksB ps).length, (pcB gs).length, gs.flatten.length⟩) := Lib.hid (by
        unfold partB; simp only; rw [hz, hen, heq, HN3.out, HCT.out]; rfl)
      rw [HPE.out] at HPP
      obtain ⟨PB, hPB⟩ : ∃ x, partB ⟨(lastE gs).norm, (lastE gs).seq, (blocksB ps).length, (pcB gs).length, gs.flatten.length⟩ = x := ⟨_, rfl⟩
      have HIX : Hid (indexB (ps ++ [gs]) = indexB ps ++ PB) := Lib.hid (by rw [indexB_snoc, hPB])
      rw [hPB] at HPP HZE
      clear hPB
      have hc1 : (ct : Int) - 1 = ((ct - 1 : Nat) : Int) := by omega
      have hc2 : ((ct - 1 : Nat) : Int) < (n6 : Int) := by omega
      have hc3 : (0 : Int) ≤ ((ct - 1 : Nat) : Int) := by omega
      have HRS := HRR.out.rest ct hctn
      rw [List.drop_drop] at HRS
      have hsl := fun W => sl_l5 W (some ⟨bx, ox, none⟩) n6 c6 ct hctn hc6
      generalize hT : (if c6 = ct then some ⟨bx, ox, none⟩ else (some (⟨bx, ox, none⟩ : Addr)).map (·.add (ct * 5))) = T at HRS hsl
      generalize hct1 : ct - 1 = ct1 at *
      obtain ⟨Q, hQ⟩ : ∃ Q, n6 - ct = Q := ⟨_, rfl⟩
      obtain ⟨C, hC⟩ : ∃ C, c6 - ct = C := ⟨_, rfl⟩
      rw [hQ, hC] at HRS
      simp only [hQ, hC] at hsl
      have HRS2 := Lib.hid HRS
      have hQn : Q < n6 := by omega
      have hQC : Q ≤ C := by omega
      have HQ6 : Hid (Q = len - (k + ct)) := Lib.hid (by have := HN6.out; omega)
      clear o4 b4 g4 q4 htb4 hz hzr hen heq hek hes hev HTB3 HR3 HRS hT hct1 hQ hC HPE HZ
      go_wp2_with fail
      refine (HPP.out _).mono ?_
      rintro e w5 ⟨v5, rfl, o5, b5⟩
      obtain ⟨a8, n8, c8, rfl, -⟩ := id o5.form
      have HTB5 := Lib.hid (HTB4.out.below b5)
      have HR5 := Lib.hid o5.rd
      clear o5 b5 HTB4 HPP d0 d1 d2 d3 d4
      go_wp2_with (at_builtin; refine wp_appGB _ _ (by rfl) (by rfl) (by rfl) HTB5.out.snd (by rfl) HR5.out ?c1 HTB5.out.bel.size ?_)
      case c1 => have := HZE.out.2; omega
      intro v6 w6 o6 b6 g6 q6
      have htb6 := (HTB5.out.swap.app (o6.base (Nat.zero_le _)) g6 q6).swap
      rw [← HIX.out] at htb6
      obtain ⟨a9, n9, c9, rfl, -⟩ := id o6.form
      have HTB6 := Lib.hid htb6
      clear o6 b6 g6 q6 htb6 HTB5 HR5
      go_wp2_with fail
      go_roundg Q
      case measure => omega
      case rel => exact ⟨ps ++ [gs], k + ct, Q, C, a7, a9, T, n7, c7, n9, c9, rfl, rfl, rfl, hkc, Nat.le_refl _, hQC, by omega, HQ6, HKC, HFT, HPS, HTB6, HRS2⟩
    · obtain rfl : n6 = 0 := by omega
      have hk2 : k = len := by have := HN6.out; omega
      have HTO : Hid (TbOk K l ps) := Lib.hid ⟨HPC.out, by rw [HTK.out, hk2, HLN.out, List.take_length]⟩
      have HZE := Lib.hid (tb_size HPC.out (by rw [← HKL.out]; exact hk) HSZ.out)
      have HNO := Lib.hid (norms_any _ l (by rw [← HLN.out]; exact hlm) wr (HRD.out.below HTB.out.bel))
      clear hk2 HKL HTK HPC HRR HN6
      go_wp2_with fail
      refine HNO.out.mono ?_
      rintro e w3 ⟨v3, ss, rfl, hno, rs, b3⟩
      have HNS := Lib.hid hno
      have HTB3 := Lib.hid (HTB.out.below b3)
      have HMK := Lib.hid (make_any w3 v3 ss rs (by have := hno.len; rw [← HLN.out] at this; omega) (fun s hs => by
        obtain ⟨e, he, rfl⟩ := hno.from' s hs
        have h1 := (HRI.out e he).2.norm
        have h2 := HKK.out
        unfold maxLen; omega))
      obtain ⟨a3, n3, c3, rfl⟩ : ∃ a3 n3 c3, v3 = .slice a3 n3 c3 := by
        rcases rs with ⟨a, c, h, -⟩ | ⟨b, o, c, h, -⟩
        · exact ⟨_, _, _, h⟩
        · exact ⟨_, _, _, h⟩
      clear hno rs b3 HTB HNO
      go_wp2_with fail
      refine HMK.out.mono ?_
      rintro e w4 ⟨v4, rfl, o4, b4⟩
      obtain ⟨a6', n6', c6', rfl, -⟩ := o4.form
      have HTB4 := Lib.hid (HTB3.out.below b4)
      have HTG := Lib.hid (tog_any _ _ _ (blocksB ps) (filterB (ss.map hashN)) (indexB ps) (by have := HZE.out.1; omega) (by
        rw [filterB_len, List.length_map]
        have h1 := HNS.out.len
        rw [← HLN.out] at h1
        unfold bitsN
        have h2 : max 64 (10 * ss.length) ≤ 64 + 10 * ss.length := by omega
        omega) (by have := HZE.out.2; omega) w4 (HT.out.below HTB4.out.bel) HTB4.out.fst.rd o4.rd HTB4.out.snd.rd)
      have HB4 := Lib.hid HTB4.out.bel
      clear o4 b4 HMK HTB3 HTB4
      go_wp2_with fail
      refine HTG.out.mono ?_
      rintro e w5 ⟨v5, rfl, o5, b5⟩
      obtain ⟨a7, n7, c7, rfl, -⟩ := id o5.form
      have HO5 := Lib.hid (o5.base HB4.out.size)
      have HB5 := Lib.hid (HB4.out.trans (b5.mono HB4.out.size))
      clear o5 b5 HTG
      go_wp2_with fail
      go_ret2
      exact ⟨_, ps, ss, rfl, HTO.out, HNS.out, HO5.out, HB5.out⟩
end Go.Proofs.YtennpdhnjaemeaaDoor
