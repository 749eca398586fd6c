/- The walk of the law TableSpoilt. -/
import Derived.Test.YtennpdhnjaemeaaDoorTblFro
import Derived.Test.YtennpdhnjaemeaaDoorMBase
import Derived.Deep.RegionHeld3
import Derived.Deep.CutBlock
namespace Go.Proofs.YtennpdhnjaemeaaDoor
set_option linter.unusedVariables false
set_option maxRecDepth 100000
open Go.RowKit
/-- What may have become of a table's bytes. -/
def SpB (ps : List (List (List Ent))) (ss : List ByteArray) (Z : List UInt8) : Prop := (∃ n, n < (madeB ps ss).length ∧ Z = (madeB ps ss).take n) ∨ Z = madeB ps ss ∨ Chg (madeB ps ss) Z
theorem open_sp {l : List Ent} {ps : List (List (List Ent))} {ss : List ByteArray} (h : MadeT l ps ss) {Z : List UInt8} (hz : SpB ps ss Z) (v : Value) (w : World) (ht : TabAt w) (hv : RdB w v Z) : Calls Tryd.prog 12 #[v] w (OpenSp l ps ss w) := by
  rcases hz with ⟨n, hn, rfl⟩ | rfl | hz
  · exact open_cut h hn v w ht hv
  · exact open_same h v w ht hv
  · exact open_chg h hz v w ht hv
/-- What From has told, while the walk goes on. -/
def FrMid (es : List Ent) (good : Prop) (w : World) (v : Value) (n : Nat) (c : Int) : Prop := (c = 0 ∧ RdK encEnt 5 w v es) ∨ (¬ good ∧ c = 8 ∧ n = 0)
theorem from_mid {es : List Ent} {good : Prop} {w : World} {en : Ending} {w' : World} (h : TFromRes es good w en w') : ∃ a n c ec, en = .returned (.tuple #[.slice a n c, .int .i64 ec]) ∧ FrMid es good w' (.slice a n c) n ec ∧ Below w.heap.size w w' := by
  obtain ⟨h1 | ⟨h1, rfl⟩, h2⟩ := h
  · obtain ⟨v, rfl, h3⟩ := h1
    obtain ⟨a, n, c, rfl, -⟩ := rdK_len h3
    exact ⟨a, n, c, 0, rfl, .inl ⟨rfl, h3⟩, h2⟩
  · exact ⟨_, _, _, 8, rfl, .inr ⟨h1, rfl, rfl⟩, h2⟩
/-- What Get has told. -/
def GtMid (o : Option Ent) (good : Prop) (zn : ByteArray) (zq zk : Int) (zs zv : ByteArray) (fb : Bool) (c : Int) : Prop := (c = 0 ∧ fb = o.isSome ∧ (⟨zn, zq, zk, zs, zv⟩ : Ent) = o.getD Ent.none) ∨ (¬ good ∧ c = 8 ∧ fb = false)
theorem get_mid {o : Option Ent} {good : Prop} {w : World} {en : Ending} {w' : World} (h : TGetRes o good w en w') : ∃ zn zq zk zs zv fb ec, en = .returned (.tuple #[.agg #[.string zn, .int .i64 zq, .int .i64 zk, .string zs, .string zv], .bool fb, .int .i64 ec]) ∧ GtMid o good zn zq zk zs zv fb ec ∧ Below w.heap.size w w' := by
  obtain ⟨rfl | ⟨h1, rfl⟩, h2⟩ := h
  · exact ⟨_, _, _, _, _, _, _, rfl, .inl ⟨rfl, rfl, rfl⟩, h2⟩
  · exact ⟨_, _, _, _, _, _, _, rfl, .inr ⟨h1, rfl, rfl⟩, h2⟩
/-- An entry is found by its own norm and number. -/
theorem find_self {l : List Ent} (hg : GoodL l) {i : Nat} {e : Ent} (hi : l[i]? = some e) : findE l e.norm e.seq = some e := by
  refine find_some hi ⟨rfl, Int.le_refl _⟩ fun j y hj hy hh => ?_
  obtain ⟨h1, e1⟩ := List.getElem?_eq_some_iff.1 hi
  obtain ⟨h2, e2⟩ := List.getElem?_eq_some_iff.1 hy
  have h3 := List.pairwise_iff_getElem.1 ((srtB_pair _).1 hg.sorted) j i h2 h1 hj
  have h4 := List.pairwise_iff_getElem.1 hg.apart j i h2 h1 hj
  rw [e1, e2] at h3 h4
  rcases h3 with h | ⟨h, h5⟩
  · rw [hh.1] at h; exact bl_irr _ h
  · rcases h5 with h5 | ⟨h5, -⟩
    · have := hh.2; omega
    · exact h4 ⟨hh.1, h5⟩
set_option maxHeartbeats 32000000 in
theorem tableSpoilt_walk (w : World) (ht : TabAt w) (a0 : Option Addr) (len0 cap0 : Nat) (xs : List Ent) (hrd : RdK encEnt 5 w (.slice a0 len0 cap0) xs) (hok : ∀ e ∈ xs, e.ok) (at0 : Int) (hat : (Lit.int .i64 at0).wf = true) (x0 : Int) (hx0 : (Lit.int .u8 x0).wf = true) (cu : Int) (hcu : (Lit.int .i64 cu).wf = true) (n : ByteArray) (hn : n.size ≤ maxLen) :
    Calls Tryd.prog 5 #[.slice a0 len0 cap0, .int .i64 at0, .int .u8 x0, .int .i64 cu, .string n] w fun e w' => e = .returned (.bool true) ∧ Below w.heap.size w w' := by
  have HT := Lib.hid ht
  have HBG := Lib.hid (tbegun_any w ht)
  have HSO : Hid (∀ W, Below w.heap.size w W → Calls Tryd.prog 10 #[.slice a0 len0 cap0, .int .i64 30] W (SortResN 30 W)) := Lib.hid (fun W hW => sortN_any 30 (by decide) _ xs hok W (hrd.below hW))
  have hxb := u8_bd hx0
  obtain ⟨x, rfl⟩ : ∃ x : UInt8, x0 = (x.toNat : Int) := ⟨UInt8.ofNat x0.toNat, by rw [UInt8.toNat_ofNat']; omega⟩
  clear ht hrd hok hat hx0 hcu hn hxb
  go_enter Tryd.func5, Tryd.ntmps5
  go_wp2_with fail
  refine HBG.out.mono ?_
  rintro e w1 ⟨rfl, b1⟩
  have HB1 := Lib.hid b1
  have HS1 := Lib.hid (HSO.out w1 b1)
  clear b1 HBG HSO
  go_wp2_with fail
  refine HS1.out.mono ?_
  rintro e w2 ⟨v, ys, rfl, hv, hyl, hgl, b2⟩
  obtain ⟨a, cap, rfl, hcy, -⟩ := hv.kform
  have HB2 := Lib.hid (HB1.out.trans (b2.mono HB1.out.size))
  have HV2 := Lib.hid (hv.rd encEnt_len)
  have HGL := Lib.hid hgl
  obtain ⟨len, hlen⟩ : ∃ x, ys.length = x := ⟨_, rfl⟩
  rw [hlen] at HV2 hyl hcy ⊢
  have HLN := Lib.hid hlen
  clear hv hgl hlen b2 HS1 HB1
  rcases Nat.eq_zero_or_pos len with h0 | h0
  · have hy : ys = [] := List.eq_nil_of_length_eq_zero (by rw [HLN.out]; exact h0)
    subst h0
    have HBD := Lib.hid (build_no (.slice a 0 cap) ys (by rw [hy]; decide) (by rw [hy]; exact areP_nil) w2 HV2.out)
    clear hy
    go_wp2_with fail
    refine HBD.out.mono ?_
    rintro e w3 ⟨rfl, b3⟩
    have HB3 := Lib.hid (HB2.out.trans (b3.mono HB2.out.size))
    clear b3 HBD HB2
    go_wp2_with fail
    go_ret
    exact ⟨rfl, HB3.out⟩
  have hne : ys ≠ [] := by rintro rfl; have := HLN.out; rw [List.length_nil] at this; omega
  have HBD := Lib.hid (build_good ys hne (by rw [HLN.out]; omega) (areP_of HGL.out hne) HGL.out.fit (.slice a len cap) w2 (HT.out.below HB2.out) HV2.out)
  clear hne
  go_wp2_with fail
  refine HBD.out.mono ?_
  rintro e w3 ⟨v3, ps, ss, rfl, hmd, o3, b3⟩
  obtain ⟨a3, n3, c3, rfl, hn3, hc3, -⟩ := o3.form
  have HMD := Lib.hid hmd
  have HO3 := Lib.hid o3
  have HB3 := Lib.hid b3
  have HN3 := Lib.hid hn3
  have hn8 : 8 ≤ n3 := by
    have h : (madeB ps ss).length = _ := togB_len _ _ _
    unfold sizeT at h
    omega
  have hnb : n3 ≤ 1000000000000 := by
    have h : (madeB ps ss).length = _ := togB_len _ _ _
    have h1 := hmd.sz
    have h2 := hmd.fl
    unfold sizeT at h
    rw [sealB_len, sealB_len, sealB_len, endB_len] at h
    omega
  clear hmd o3 b3 hn3 HBD
  obtain ⟨qc, hqc⟩ : ∃ q, decide (0 < cu ∧ cu ≤ (n3 : Int)) = q := ⟨_, rfl⟩
  have HQC := Lib.hid hqc
  clear hqc
  go_upto_region 8 with fail
  go_cut [44] (fun c wx => c = .bool qc ∧ w3 = wx)
  case first =>
    as_aux_lemma =>
    by_cases s1 : 0 < cu
    · by_cases s2 : cu ≤ (n3 : Int)
      · obtain rfl : qc = true := by rw [← HQC.out]; exact decide_eq_true ⟨s1, s2⟩
        go_wp2_with fail
        go_meet
        exact ⟨rfl, rfl⟩
      · obtain rfl : qc = false := by rw [← HQC.out]; exact decide_eq_false fun h => s2 h.2
        go_wp2_with fail
        go_meet
        exact ⟨rfl, rfl⟩
    · obtain rfl : qc = false := by rw [← HQC.out]; exact decide_eq_false fun h => s1 h.1
      go_wp2_with fail
      go_meet
      exact ⟨rfl, rfl⟩
  case rest =>
  obtain ⟨rfl, rfl⟩ := hcut
  go_upto_if 44 with fail
  go_cut [12] (fun vb wx => ∃ (Z : List UInt8) (aZ : Option Addr) (nZ cZ : Nat), vb = .slice aZ nZ cZ ∧ Hid (SpB ps ss Z ∧ RdB wx (.slice aZ nZ cZ) Z ∧ Below w2.heap.size w2 wx))
  case first =>
    as_aux_lemma =>
    cases qc with
    | true =>
      obtain ⟨s1, s2⟩ := of_decide_eq_true HQC.out
      obtain ⟨c, rfl⟩ : ∃ c : Nat, cu = (c : Int) := ⟨cu.toNat, (Int.toNat_of_nonneg (by omega)).symm⟩
      obtain ⟨m, hm⟩ : ∃ m, n3 - c = m := ⟨_, rfl⟩
      have hsub : (n3 : Int) - (c : Int) = (m : Int) := by omega
      have hm0 : (0 : Int) ≤ (m : Int) := by omega
      have hmn : (m : Int) ≤ (n3 : Int) := by omega
      have hsl := fun W => sl_hB W a3 n3 c3 m (by omega)
      have HTK := Lib.hid (HO3.out.rd.take m (by omega))
      have HSP : Hid (SpB ps ss ((madeB ps ss).take m)) := Lib.hid (.inl ⟨m, by rw [← HN3.out]; omega, rfl⟩)
      clear s1 s2 hm
      go_wp2_with fail
      go_meet
      exact ⟨_, _, _, _, rfl, Lib.hid ⟨HSP.out, HTK.out, HB3.out⟩⟩
    | false =>
      by_cases s3 : 0 ≤ at0
      · by_cases s4 : x = 0
        · subst s4
          have hz1 : ((((0 : UInt8).toNat : Nat) : Int) != 0) = false := rfl
          have hz2 : (((0 : UInt8).toNat : Nat) : Int) = 0 := rfl
          go_wp2_with fail
          go_meet
          exact ⟨_, _, _, _, rfl, Lib.hid ⟨.inr (.inl rfl), HO3.out.rd, HB3.out⟩⟩
        · have hxz : ¬ (x.toNat : Int) = 0 := fun e => s4 (UInt8.toNat_inj.1 (by rw [UInt8.toNat_zero]; omega))
          have t2 : ((x.toNat : Int) == 0) = false := by simpa using hxz
          have t3 : ((x.toNat : Int) != 0) = true := by rw [bne, t2]; rfl
          obtain ⟨K, rfl⟩ := Int.eq_ofNat_of_zero_le s3
          have hk : K % n3 < n3 := Nat.mod_lt _ (by omega)
          have hkz : (K : Int) % (n3 : Int) = ((K % n3 : Nat) : Int) := by omega
          have hkt : (K : Int).tmod (n3 : Int) = ((K % n3 : Nat) : Int) := by rw [Int.tmod_eq_emod_of_nonneg (by omega)]; exact hkz
          have hnz : ((n3 : Int) == 0) = false := by rw [beq_eq_false_iff_ne]; omega
          generalize K % n3 = k at *
          obtain ⟨gg, cap5, e5, hBg, hg, hc1, hc2, hcell, hfr⟩ := OwnB.place HO3.out k (by rw [← HN3.out]; exact hk)
          rw [← HN3.out] at e5
          simp only [Value.slice.injEq] at e5
          obtain ⟨rfl, -, rfl⟩ := e5
          have o6 : OwnB w2.heap.size (w3.setCell ⟨gg, k, none⟩ (.int .u8 (bits .xor .u8 (((madeB ps ss).getD k 0).toNat : Int) (x.toNat : Int)))) (.slice (some ⟨gg, 0, none⟩) n3 c3) ((madeB ps ss).set k ((madeB ps ss).getD k 0 ^^^ x)) := by
            rw [bv_xor]; exact HO3.out.set _ _
          have b6 := HB3.out.setCell (p := ⟨gg, k, none⟩) hBg (.int .u8 (bits .xor .u8 (((madeB ps ss).getD k 0).toNat : Int) (x.toNat : Int)))
          have HO6 := Lib.hid o6
          have HB6 := Lib.hid b6
          have HSP : Hid (SpB ps ss ((madeB ps ss).set k ((madeB ps ss).getD k 0 ^^^ x))) := Lib.hid (.inr (.inr ⟨k, _, by rw [← HN3.out]; exact hk, xor_other s4, rfl⟩))
          generalize ((madeB ps ss).getD k 0).toNat = yb at *
          have hk0 : (0 : Int) ≤ (k : Int) := by omega
          have hkl : (k : Int) < (n3 : Int) := by omega
          clear o6 b6 hc2 s4 HO3 HB3
          go_wp2_with fail
          go_meet
          exact ⟨_, _, _, _, rfl, Lib.hid ⟨HSP.out, HO6.out.rd, HB6.out⟩⟩
      · go_wp2_with fail
        go_meet
        exact ⟨_, _, _, _, rfl, Lib.hid ⟨.inr (.inl rfl), HO3.out.rd, HB3.out⟩⟩
  case rest =>
  obtain ⟨Z, aZ, nZ, cZ, rfl, HZ⟩ := hcut
  generalize wc = w4 at *
  have HB4 := Lib.hid (HB2.out.trans (HZ.out.2.2.mono HB2.out.size))
  have HV4 := Lib.hid (HV2.out.below HZ.out.2.2)
  have HOP := Lib.hid (open_sp HMD.out HZ.out.1 (.slice aZ nZ cZ) w4 (HT.out.below HB4.out) HZ.out.2.1)
  clear HZ HO3 HB3 HN3 hn8 hnb HQC HB2 HV2 HMD
  go_wp2_with fail
  refine HOP.out.mono ?_
  rintro e w5 ⟨rfl | ⟨g, bss, rfl, htk⟩, b5⟩
  · have HB5 := Lib.hid (HB4.out.trans (b5.mono HB4.out.size))
    clear b5 HOP HB4
    go_wp2_with fail
    go_ret
    exact ⟨rfl, HB5.out⟩
  have HB5 := Lib.hid (HB4.out.trans (b5.mono HB4.out.size))
  have HV5 := Lib.hid (HV4.out.below b5)
  have HTK := Lib.hid htk
  have HAL := Lib.hid ((tall_any htk).mono fun en w' hh => ask_mid hh)
  clear b5 htk HOP HB4 HV4
  go_wp2_with fail
  refine HAL.out.mono ?_
  rintro e w6 ⟨a6, n6, c6, ec, rfl, hm6, b6⟩
  have HM6 := Lib.hid hm6
  have HB6 := Lib.hid (HB5.out.trans (b6.mono HB5.out.size))
  have HV6 := Lib.hid (HV5.out.below b6)
  have HTK6 := Lib.hid (HTK.out.below b6)
  clear hm6 b6 HAL HB5 HV5 HTK
  go_upto_region 16 with fail
  go_cut [105] (fun c wx => c = .bool false ∧ Hid (Below w6.heap.size w6 wx))
  case first =>
    as_aux_lemma =>
    rcases HM6.out with ⟨rfl, hv6⟩ | ⟨-, rfl, hv6⟩
    · have HEQ := Lib.hid (eqall_same _ _ ys (by rw [HLN.out]; omega) w6 (hv6.rd encEnt_len) HV6.out)
      clear hv6 HM6
      go_wp2_with fail
      refine HEQ.out.mono ?_
      rintro e w7 ⟨rfl, b7⟩
      have HB7 := Lib.hid b7
      clear b7 HEQ
      go_wp2_with fail
      go_meet
      exact ⟨rfl, HB7⟩
    · simp only [Value.slice.injEq] at hv6
      obtain ⟨rfl, rfl, rfl⟩ := hv6
      clear HM6
      go_wp2_with fail
      go_meet
      exact ⟨rfl, Lib.hid (Below.refl _ _)⟩
  case rest =>
  obtain ⟨rfl, HU7⟩ := hcut
  generalize wc = w7 at *
  have HB7 := Lib.hid (HB6.out.trans (HU7.out.mono HB6.out.size))
  have HV7 := Lib.hid (HV6.out.below HU7.out)
  have HTK7 := Lib.hid (HTK6.out.below HU7.out)
  have HFR := Lib.hid ((tfrom_any HTK7.out n).mono fun en w' hh => from_mid hh)
  clear HM6 HU7 HB6 HV6 HTK6
  go_wp2_with fail
  refine HFR.out.mono ?_
  rintro e w8 ⟨a8, n8, c8, ec8, rfl, hm8, b8⟩
  have HM8 := Lib.hid hm8
  have HB8 := Lib.hid (HB7.out.trans (b8.mono HB7.out.size))
  have HV8 := Lib.hid (HV7.out.below b8)
  have HTK8 := Lib.hid (HTK7.out.below b8)
  clear hm8 b8 HFR HB7 HV7 HTK7
  go_wp2_with fail
  go_loopg [17] (len + 1) (fun kk vk wr => ∃ k : Nat, vk = .int .i64 (k : Int) ∧ k ≤ len ∧ len + 1 - k ≤ kk ∧ Hid (CntAt ys n k) ∧ w8 = wr)
  case atStart => exact ⟨0, rfl, by omega, by omega, Lib.hid ⟨Nat.zero_le _, fun j e h => by omega⟩, rfl⟩
  case round =>
    obtain ⟨k, rfl, hk, hkk, HC, rfl⟩ := hrel
    have hk0 : (0 : Int) ≤ (k : Int) := by omega
    by_cases hd : ∃ e, ys[k]? = some e ∧ bl e.norm n
    · obtain ⟨e, he, hb⟩ := hd
      have hkl : k < len := by rw [← HLN.out]; exact (List.getElem?_eq_some_iff.1 he).1
      have hkl' : (k : Int) < (len : Int) := by omega
      obtain ⟨bb, ox, rfl, hblt, d0, d1, d2, d3, d4⟩ := HV8.out.at5 HLN.out.symm k e he
      have HC2 : Hid (CntAt ys n (k + 1)) := Lib.hid ⟨by rw [HLN.out]; omega, fun j x hj hx => by
        rcases Nat.lt_or_ge j k with h | h
        · exact HC.out.lo j x h hx
        · obtain rfl : j = k := by omega
          rw [he] at hx
          cases hx
          exact hb⟩
      obtain ⟨en, hen⟩ : ∃ x, e.norm = x := ⟨_, rfl⟩
      rw [hen] at d0 hb
      have hbs := bs_less en n hb
      clear he hb d1 d2 d3 d4 hen HC
      go_wp2_with fail
      go_roundg (len + 1 - (k + 1))
      case measure => omega
      case rel => exact ⟨k + 1, by go_num, by omega, Nat.le_refl _, HC2, rfl⟩
    · go_upto_region 20 with fail
      go_cut [124] (fun c wx => c = .bool false ∧ w8 = wx)
      case first =>
        as_aux_lemma =>
        by_cases hkl : k < len
        · have hkl' : (k : Int) < (len : Int) := by omega
          obtain ⟨e, he⟩ : ∃ e, ys[k]? = some e := ⟨ys[k]'(by have := HLN.out; omega), List.getElem?_eq_getElem _⟩
          obtain ⟨bb, ox, rfl, hblt, d0, d1, d2, d3, d4⟩ := HV8.out.at5 HLN.out.symm k e he
          have hnb : ¬ bl e.norm n := fun h => hd ⟨e, he, h⟩
          obtain ⟨en, hen⟩ : ∃ x, e.norm = x := ⟨_, rfl⟩
          rw [hen] at d0 hnb
          have hbs := bs_not en n hnb
          clear he hnb d1 d2 d3 d4 hen HC hd
          go_wp2_with fail
          go_meet
          exact ⟨rfl, rfl⟩
        · have hkl' : ¬ (k : Int) < (len : Int) := by omega
          clear hd
          go_wp2_with fail
          go_meet
          exact ⟨rfl, rfl⟩
      case rest =>
      obtain ⟨rfl, rfl⟩ := hcut
      have hfd : ys.drop k = fromE ys n := fromE_at HC.out.le HC.out.lo fun e he hb => hd ⟨e, he, hb⟩
      have HRS0 := HV8.out.rest k hk
      rw [hfd] at HRS0
      have hsl := fun W => sl_l5b W a len cap k hk hcy
      generalize (if cap = k then a else a.map (·.add (k * 5))) = T at HRS0 hsl
      obtain ⟨Q, hQ⟩ : ∃ Q, len - k = Q := ⟨_, rfl⟩
      obtain ⟨C, hC⟩ : ∃ C, cap - k = C := ⟨_, rfl⟩
      rw [hQ, hC] at HRS0
      simp only [hQ, hC] at hsl
      have HRS := Lib.hid HRS0
      have HFL : Hid ((fromE ys n).length ≤ 1000) := Lib.hid (by rw [← hfd, List.length_drop, HLN.out]; omega)
      clear HRS0 hfd hQ hC hd HC
      go_upto_region 22 with fail
      go_cut [149] (fun c wx => c = .bool false ∧ Hid (Below w8.heap.size w8 wx))
      case first =>
        as_aux_lemma =>
        rcases HM8.out with ⟨rfl, hv8⟩ | ⟨-, rfl, rfl⟩
        · have HEQ := Lib.hid (eqall_same _ _ (fromE ys n) (by have := HFL.out; omega) w8 hv8 HRS.out)
          clear hv8 HM8
          go_wp2_with fail
          refine HEQ.out.mono ?_
          rintro e w9 ⟨rfl, b9⟩
          have HB9 := Lib.hid b9
          clear b9 HEQ
          go_wp2_with fail
          go_meet
          exact ⟨rfl, HB9⟩
        · clear HM8
          go_wp2_with fail
          go_meet
          exact ⟨rfl, Lib.hid (Below.refl _ _)⟩
      case rest =>
      obtain ⟨rfl, HU9⟩ := hcut
      generalize wc = wx at *
      have HBX := Lib.hid (HB8.out.trans (HU9.out.mono HB8.out.size))
      have HVX := Lib.hid (HV8.out.below HU9.out)
      have HTX := Lib.hid (HTK8.out.below HU9.out)
      clear HM8 HU9 HB8 HV8 HTK8 hsl HRS HFL hk hkk hk0
      go_wp2_with fail
      go_loopg [18] len (fun kk vi wr => ∃ i : Nat, vi = .int .i64 (i : Int) ∧ i ≤ len ∧ len - i ≤ kk ∧ Hid (Below wx.heap.size wx wr))
      case atStart => exact ⟨0, rfl, by omega, by omega, Lib.hid (Below.refl _ _)⟩
      case round =>
        obtain ⟨i, rfl, hi, hik, HB⟩ := hrel
        by_cases h1 : i < len
        · have hi1 : (i : Int) < (len : Int) := by omega
          have hi0 : (0 : Int) ≤ (i : Int) := by omega
          obtain ⟨e, he⟩ : ∃ e, ys[i]? = some e := ⟨ys[i]'(by rw [HLN.out]; exact h1), List.getElem?_eq_getElem _⟩
          obtain ⟨bb, ox, rfl, hblt, hat⟩ := HVX.out.at5 HLN.out.symm i e he
          have hfs := find_self HGL.out he
          have hfe := HGL.out.fit e (List.mem_of_getElem? he)
          obtain ⟨xn, xq, xk, xs', xv⟩ := e
          have HAT := Lib.hid hat
          have hxs : xn.size ≤ maxLen := by have := hfe.norm; unfold maxLen; simp only at this; omega
          have HGT := Lib.hid fun W (hW : Below wr.heap.size wr W) => (tget_any (HTX.out.below (HB.out.trans (hW.mono HB.out.size))) xn hxs xq).mono fun en w' hh => get_mid hh
          simp only at hfs
          have HFS := Lib.hid hfs
          clear he hat hfe hfs hxs
          go_upto_region 27 with fail
          go_cut [19, 20, 21] (fun pz vf vc wx => ∃ (vx : Nat) (fb : Bool) (ec : Int) (zn : ByteArray) (zq zk : Int) (zs zv : ByteArray), pz = .pointer (some ⟨vx, 0, none⟩) ∧ vf = .bool fb ∧ vc = .int .i64 ec ∧ Hid (BlkAt wx vx #[.string zn, .int .i64 zq, .int .i64 zk, .string zs, .string zv] 39 ∧ GtMid (findE ys xn xq) (AllGood ps bss) zn zq zk zs zv fb ec ∧ Below wr.heap.size wr wx))
          case first =>
            as_aux_lemma =>
            go_wp2_with fail
            refine wp_region_held_drew (S := Below wr.heap.size wr) (by kernel_rfl) (Below.refl _ _).drew (fun hHeld => ?_)
            generalize wr.drew = wq0 at hHeld ⊢
            refine takeYes (i := 0) (k := 157) (v := .pointer (some ⟨g, 0, none⟩)) rfl (by kernel_rfl) (by kernel_rfl) (by kernel_rfl) (by kernel_rfl) (fun _ _ _ h => h) (by kernel_rfl) ?_ hHeld ?_
            · intro W hSw; first | (go_simp; done) | go_simp
            try simp only [Act.put, List.setIfInBounds_toArray, List.set_cons_zero, List.set_cons_succ]
            refine takeYes (i := 1) (k := 158) (v := .slice (some ⟨bb, ox, none⟩) len cap) rfl (by kernel_rfl) (by kernel_rfl) (by kernel_rfl) (by kernel_rfl) (fun _ _ _ h => h) (by kernel_rfl) ?_ hHeld ?_
            · intro W hSw; first | (go_simp; done) | go_simp
            try simp only [Act.put, List.setIfInBounds_toArray, List.set_cons_zero, List.set_cons_succ]
            refine takeYes (i := 2) (k := 159) (v := .int .i64 (i : Int)) rfl (by kernel_rfl) (by kernel_rfl) (by kernel_rfl) (by kernel_rfl) (fun _ _ _ h => h) (by kernel_rfl) ?_ hHeld ?_
            · intro W hSw; first | (go_simp; done) | go_simp
            try simp only [Act.put, List.setIfInBounds_toArray, List.set_cons_zero, List.set_cons_succ]
            refine takeYes (i := 3) (k := 160) (v := .pointer (some ⟨bb, ox + i * 5, none⟩)) rfl (by kernel_rfl) (by kernel_rfl) (by kernel_rfl) (by kernel_rfl) (fun _ _ _ h => h) (by kernel_rfl) ?_ hHeld ?_
            · intro W hSw; first | (go_simp; done) | go_simp
            try simp only [Act.put, List.setIfInBounds_toArray, List.set_cons_zero, List.set_cons_succ]
            refine takeYes (i := 4) (k := 161) (v := .pointer (some ⟨bb, ox + i * 5, none⟩)) rfl (by kernel_rfl) (by kernel_rfl) (by kernel_rfl) (by kernel_rfl) (fun _ _ _ h => h) (by kernel_rfl) ?_ hHeld ?_
            · intro W hSw; first | (go_simp; done) | go_simp
            try simp only [Act.put, List.setIfInBounds_toArray, List.set_cons_zero, List.set_cons_succ]
            refine takeYes (i := 5) (k := 162) (v := .string xn) rfl (by kernel_rfl) (by kernel_rfl) (by kernel_rfl) (by kernel_rfl) (fun _ _ _ h => h) (by kernel_rfl) ?_ hHeld ?_
            · intro W hSw; obtain ⟨d0, d1, d2, d3, d4⟩ := HAT.out.under hblt (HB.out.trans (hSw.mono HB.out.size)); simp only at d0 d1 d2 d3 d4; first | (go_simp; done) | go_simp
            try simp only [Act.put, List.setIfInBounds_toArray, List.set_cons_zero, List.set_cons_succ]
            refine takeYes (i := 6) (k := 163) (v := .slice (some ⟨bb, ox, none⟩) len cap) rfl (by kernel_rfl) (by kernel_rfl) (by kernel_rfl) (by kernel_rfl) (fun _ _ _ h => h) (by kernel_rfl) ?_ hHeld ?_
            · intro W hSw; first | (go_simp; done) | go_simp
            try simp only [Act.put, List.setIfInBounds_toArray, List.set_cons_zero, List.set_cons_succ]
            refine takeYes (i := 7) (k := 164) (v := .int .i64 (i : Int)) rfl (by kernel_rfl) (by kernel_rfl) (by kernel_rfl) (by kernel_rfl) (fun _ _ _ h => h) (by kernel_rfl) ?_ hHeld ?_
            · intro W hSw; first | (go_simp; done) | go_simp
            try simp only [Act.put, List.setIfInBounds_toArray, List.set_cons_zero, List.set_cons_succ]
            refine takeYes (i := 8) (k := 165) (v := .pointer (some ⟨bb, ox + i * 5, none⟩)) rfl (by kernel_rfl) (by kernel_rfl) (by kernel_rfl) (by kernel_rfl) (fun _ _ _ h => h) (by kernel_rfl) ?_ hHeld ?_
            · intro W hSw; first | (go_simp; done) | go_simp
            try simp only [Act.put, List.setIfInBounds_toArray, List.set_cons_zero, List.set_cons_succ]
            refine takeYes (i := 9) (k := 166) (v := .pointer (some ⟨bb, ox + i * 5 + 1, none⟩)) rfl (by kernel_rfl) (by kernel_rfl) (by kernel_rfl) (by kernel_rfl) (fun _ _ _ h => h) (by kernel_rfl) ?_ hHeld ?_
            · intro W hSw; first | (go_simp; done) | go_simp
            try simp only [Act.put, List.setIfInBounds_toArray, List.set_cons_zero, List.set_cons_succ]
            refine takeYes (i := 10) (k := 167) (v := .int .i64 xq) rfl (by kernel_rfl) (by kernel_rfl) (by kernel_rfl) (by kernel_rfl) (fun _ _ _ h => h) (by kernel_rfl) ?_ hHeld ?_
            · intro W hSw; obtain ⟨d0, d1, d2, d3, d4⟩ := HAT.out.under hblt (HB.out.trans (hSw.mono HB.out.size)); simp only at d0 d1 d2 d3 d4; first | (go_simp; done) | go_simp
            try simp only [Act.put, List.setIfInBounds_toArray, List.set_cons_zero, List.set_cons_succ]
            refine wpAnyH_ready (rs := [11, 16]) (by kernel_rfl) (by simp) (AllReadyH.cons rfl (fun K hK => ?_) (AllReadyH.cons rfl (fun K hK => ?_) (AllReadyH.nil)))
            · go_simp
              refine (HGT.out wq0 hHeld).mono ?_
              rintro e wq1 ⟨zn, zq, zk, zs, zv, fb, ec, rfl, hm, hb⟩
              have hq1 : Below wr.heap.size wr wq1 := hHeld.trans (hb.mono hHeld.size)
              refine hK.out _ _ hq1 (fun _ => ?_)
              clear hK K
              try simp only [Act.put, List.setIfInBounds_toArray, List.set_cons_zero, List.set_cons_succ]
              refine takeYes (i := 12) (k := 156) (v := .tuple #[.agg #[.string zn, .int .i64 zq, .int .i64 zk, .string zs, .string zv], .bool fb, .int .i64 ec]) rfl (by kernel_rfl) (by kernel_rfl) (by kernel_rfl) (by kernel_rfl) (fun _ _ _ h => h) (by kernel_rfl) ?_ hq1 ?_
              · intro W hSw; first | (go_simp; done) | go_simp
              try simp only [Act.put, List.setIfInBounds_toArray, List.set_cons_zero, List.set_cons_succ]
              refine takeYes (i := 13) (k := 169) (v := .agg #[.string zn, .int .i64 zq, .int .i64 zk, .string zs, .string zv]) rfl (by kernel_rfl) (by kernel_rfl) (by kernel_rfl) (by kernel_rfl) (fun _ _ _ h => h) (by kernel_rfl) ?_ hq1 ?_
              · intro W hSw; first | (go_simp; done) | go_simp
              try simp only [Act.put, List.setIfInBounds_toArray, List.set_cons_zero, List.set_cons_succ]
              refine takeYes (i := 14) (k := 170) (v := .bool fb) rfl (by kernel_rfl) (by kernel_rfl) (by kernel_rfl) (by kernel_rfl) (fun _ _ _ h => h) (by kernel_rfl) ?_ hq1 ?_
              · intro W hSw; first | (go_simp; done) | go_simp
              try simp only [Act.put, List.setIfInBounds_toArray, List.set_cons_zero, List.set_cons_succ]
              refine takeYes (i := 15) (k := 171) (v := .int .i64 ec) rfl (by kernel_rfl) (by kernel_rfl) (by kernel_rfl) (by kernel_rfl) (fun _ _ _ h => h) (by kernel_rfl) ?_ hq1 ?_
              · intro W hSw; first | (go_simp; done) | go_simp
              try simp only [Act.put, List.setIfInBounds_toArray, List.set_cons_zero, List.set_cons_succ]
              refine wpAnyH_ready (rs := [16]) (by kernel_rfl) (by simp) (AllReadyH.cons rfl (fun K hK => ?_) (AllReadyH.nil))
              go_simp
              have hz : BlkAt (wq1.alloc (.cells #[.string ⟨#[]⟩, .int .i64 0, .int .i64 0, .string ⟨#[]⟩, .string ⟨#[]⟩] 39)) wq1.heap.size #[.string ⟨#[]⟩, .int .i64 0, .int .i64 0, .string ⟨#[]⟩, .string ⟨#[]⟩] 39 := BlkAt.new _ _ _
              have hv0 : wr.heap.size ≤ wq1.heap.size := hq1.size
              have hq2 : Below wr.heap.size wr (wq1.alloc (.cells #[.string ⟨#[]⟩, .int .i64 0, .int .i64 0, .string ⟨#[]⟩, .string ⟨#[]⟩] 39)) := hq1.alloc hq1.size _
              obtain ⟨vx, hvx⟩ : ∃ v, wq1.heap.size = v := ⟨_, rfl⟩
              rw [hvx] at hz hv0 ⊢
              obtain ⟨wq2, hwx⟩ : ∃ x, wq1.alloc (.cells #[.string ⟨#[]⟩, .int .i64 0, .int .i64 0, .string ⟨#[]⟩, .string ⟨#[]⟩] 39) = x := ⟨_, rfl⟩
              rw [hwx] at hz hq2 ⊢
              refine hK.out _ _ hq2 (fun _ => ?_)
              clear hK K hvx hwx
              try simp only [Act.put, List.setIfInBounds_toArray, List.set_cons_zero, List.set_cons_succ]
              refine wpAnyH_ready (rs := [17]) (by kernel_rfl) (by simp) (AllReadyH.cons rfl (fun K hK => ?_) (AllReadyH.nil))
              obtain ⟨z0, z1, z2, z3, z4⟩ := blk5 hz
              have f0 := hz.free 0
              have f1 := hz.free 1
              have f2 := hz.free 2
              have f3 := hz.free 3
              have f4 := hz.free 4
              have hzl := hz.lt
              go_simp
              have hq3 := ((((hq2.setCell (p := ⟨vx, 0, none⟩) hv0 (.string zn)).setCell (p := ⟨vx, 1, none⟩) hv0 (.int .i64 zq)).setCell (p := ⟨vx, 2, none⟩) hv0 (.int .i64 zk)).setCell (p := ⟨vx, 3, none⟩) hv0 (.string zs)).setCell (p := ⟨vx, 4, none⟩) hv0 (.string zv)
              replace hz : BlkAt _ vx #[.string zn, .int .i64 zq, .int .i64 zk, .string zs, .string zv] 39 := ((((hz.set (o := 0) (.string zn)).set (o := 1) (.int .i64 zq)).set (o := 2) (.int .i64 zk)).set (o := 3) (.string zs)).set (o := 4) (.string zv)
              refine hK.out _ _ hq3 (fun _ => ?_)
              clear hK K z0 z1 z2 z3 z4 f0 f1 f2 f3 f4 hzl
              try simp only [Act.put, List.setIfInBounds_toArray, List.set_cons_zero, List.set_cons_succ]
              refine takeYes (i := 18) (k := 20) (v := .bool fb) rfl (by kernel_rfl) (by kernel_rfl) (by kernel_rfl) (by kernel_rfl) (fun _ _ _ h => h) (by kernel_rfl) ?_ hq3 ?_
              · intro W hSw; first | (go_simp; done) | go_simp
              try simp only [Act.put, List.setIfInBounds_toArray, List.set_cons_zero, List.set_cons_succ]
              refine takeYes (i := 19) (k := 21) (v := .int .i64 ec) rfl (by kernel_rfl) (by kernel_rfl) (by kernel_rfl) (by kernel_rfl) (fun _ _ _ h => h) (by kernel_rfl) ?_ hq3 ?_
              · intro W hSw; first | (go_simp; done) | go_simp
              try simp only [Act.put, List.setIfInBounds_toArray, List.set_cons_zero, List.set_cons_succ]
              refine wpAnyH_done (by kernel_rfl) ?_ _
              go_wp2_with fail
              go_meet
              exact ⟨vx, fb, ec, zn, zq, zk, zs, zv, rfl, rfl, rfl, Lib.hid ⟨hz, hm, hq3⟩⟩
            · go_simp
              have hz : BlkAt (wq0.alloc (.cells #[.string ⟨#[]⟩, .int .i64 0, .int .i64 0, .string ⟨#[]⟩, .string ⟨#[]⟩] 39)) wq0.heap.size #[.string ⟨#[]⟩, .int .i64 0, .int .i64 0, .string ⟨#[]⟩, .string ⟨#[]⟩] 39 := BlkAt.new _ _ _
              have hv0 : wr.heap.size ≤ wq0.heap.size := hHeld.size
              have hq1 : Below wr.heap.size wr (wq0.alloc (.cells #[.string ⟨#[]⟩, .int .i64 0, .int .i64 0, .string ⟨#[]⟩, .string ⟨#[]⟩] 39)) := hHeld.alloc hHeld.size _
              obtain ⟨vx, hvx⟩ : ∃ v, wq0.heap.size = v := ⟨_, rfl⟩
              rw [hvx] at hz hv0 ⊢
              obtain ⟨wq1, hwx⟩ : ∃ x, wq0.alloc (.cells #[.string ⟨#[]⟩, .int .i64 0, .int .i64 0, .string ⟨#[]⟩, .string ⟨#[]⟩] 39) = x := ⟨_, rfl⟩
              rw [hwx] at hz hq1 ⊢
              refine hK.out _ _ hq1 (fun _ => ?_)
              clear hK K hvx hwx
              try simp only [Act.put, List.setIfInBounds_toArray, List.set_cons_zero, List.set_cons_succ]
              refine wpAnyH_ready (rs := [11]) (by kernel_rfl) (by simp) (AllReadyH.cons rfl (fun K hK => ?_) (AllReadyH.nil))
              go_simp
              refine (HGT.out wq1 hq1).mono ?_
              rintro e wq2 ⟨zn, zq, zk, zs, zv, fb, ec, rfl, hm, hb⟩
              have hq2 : Below wr.heap.size wr wq2 := hq1.trans (hb.mono hq1.size)
              replace hz := BlkAt.below hz hb
              refine hK.out _ _ hq2 (fun _ => ?_)
              clear hK K
              try simp only [Act.put, List.setIfInBounds_toArray, List.set_cons_zero, List.set_cons_succ]
              refine takeYes (i := 12) (k := 156) (v := .tuple #[.agg #[.string zn, .int .i64 zq, .int .i64 zk, .string zs, .string zv], .bool fb, .int .i64 ec]) rfl (by kernel_rfl) (by kernel_rfl) (by kernel_rfl) (by kernel_rfl) (fun _ _ _ h => h) (by kernel_rfl) ?_ hq2 ?_
              · intro W hSw; first | (go_simp; done) | go_simp
              try simp only [Act.put, List.setIfInBounds_toArray, List.set_cons_zero, List.set_cons_succ]
              refine takeYes (i := 13) (k := 169) (v := .agg #[.string zn, .int .i64 zq, .int .i64 zk, .string zs, .string zv]) rfl (by kernel_rfl) (by kernel_rfl) (by kernel_rfl) (by kernel_rfl) (fun _ _ _ h => h) (by kernel_rfl) ?_ hq2 ?_
              · intro W hSw; first | (go_simp; done) | go_simp
              try simp only [Act.put, List.setIfInBounds_toArray, List.set_cons_zero, List.set_cons_succ]
              refine takeYes (i := 14) (k := 170) (v := .bool fb) rfl (by kernel_rfl) (by kernel_rfl) (by kernel_rfl) (by kernel_rfl) (fun _ _ _ h => h) (by kernel_rfl) ?_ hq2 ?_
              · intro W hSw; first | (go_simp; done) | go_simp
              try simp only [Act.put, List.setIfInBounds_toArray, List.set_cons_zero, List.set_cons_succ]
              refine takeYes (i := 15) (k := 171) (v := .int .i64 ec) rfl (by kernel_rfl) (by kernel_rfl) (by kernel_rfl) (by kernel_rfl) (fun _ _ _ h => h) (by kernel_rfl) ?_ hq2 ?_
              · intro W hSw; first | (go_simp; done) | go_simp
              try simp only [Act.put, List.setIfInBounds_toArray, List.set_cons_zero, List.set_cons_succ]
              refine wpAnyH_ready (rs := [17]) (by kernel_rfl) (by simp) (AllReadyH.cons rfl (fun K hK => ?_) (AllReadyH.nil))
              obtain ⟨z0, z1, z2, z3, z4⟩ := blk5 hz
              have f0 := hz.free 0
              have f1 := hz.free 1
              have f2 := hz.free 2
              have f3 := hz.free 3
              have f4 := hz.free 4
              have hzl := hz.lt
              go_simp
              have hq3 := ((((hq2.setCell (p := ⟨vx, 0, none⟩) hv0 (.string zn)).setCell (p := ⟨vx, 1, none⟩) hv0 (.int .i64 zq)).setCell (p := ⟨vx, 2, none⟩) hv0 (.int .i64 zk)).setCell (p := ⟨vx, 3, none⟩) hv0 (.string zs)).setCell (p := ⟨vx, 4, none⟩) hv0 (.string zv)
              replace hz : BlkAt _ vx #[.string zn, .int .i64 zq, .int .i64 zk, .string zs, .string zv] 39 := ((((hz.set (o := 0) (.string zn)).set (o := 1) (.int .i64 zq)).set (o := 2) (.int .i64 zk)).set (o := 3) (.string zs)).set (o := 4) (.string zv)
              refine hK.out _ _ hq3 (fun _ => ?_)
              clear hK K z0 z1 z2 z3 z4 f0 f1 f2 f3 f4 hzl
              try simp only [Act.put, List.setIfInBounds_toArray, List.set_cons_zero, List.set_cons_succ]
              refine takeYes (i := 18) (k := 20) (v := .bool fb) rfl (by kernel_rfl) (by kernel_rfl) (by kernel_rfl) (by kernel_rfl) (fun _ _ _ h => h) (by kernel_rfl) ?_ hq3 ?_
              · intro W hSw; first | (go_simp; done) | go_simp
              try simp only [Act.put, List.setIfInBounds_toArray, List.set_cons_zero, List.set_cons_succ]
              refine takeYes (i := 19) (k := 21) (v := .int .i64 ec) rfl (by kernel_rfl) (by kernel_rfl) (by kernel_rfl) (by kernel_rfl) (fun _ _ _ h => h) (by kernel_rfl) ?_ hq3 ?_
              · intro W hSw; first | (go_simp; done) | go_simp
              try simp only [Act.put, List.setIfInBounds_toArray, List.set_cons_zero, List.set_cons_succ]
              refine wpAnyH_done (by kernel_rfl) ?_ _
              go_wp2_with fail
              go_meet
              exact ⟨vx, fb, ec, zn, zq, zk, zs, zv, rfl, rfl, rfl, Lib.hid ⟨hz, hm, hq3⟩⟩
          case rest =>
          obtain ⟨vx, fb, ec, zn, zq, zk, zs, zv, rfl, rfl, rfl, HU⟩ := hcut
          generalize wc = wu at *
          have HBU := Lib.hid (HB.out.trans (HU.out.2.2.mono HB.out.size))
          have hz := HU.out.1
          have hm := HU.out.2.1
          rw [HFS.out] at hm
          have HZ := Lib.hid hz
          have HM := Lib.hid hm
          clear hz hm HU HGT HFS
          go_upto_region 28 with fail
          go_cut [197] (fun c wy => c = .bool false ∧ Hid (Below wu.heap.size wu wy))
          case first =>
            as_aux_lemma =>
            rcases HM.out with ⟨rfl, rfl, hz⟩ | ⟨-, rfl, rfl⟩
            · have hz' : (⟨zn, zq, zk, zs, zv⟩ : Ent) = ⟨xn, xq, xk, xs', xv⟩ := hz
              cases hz'
              have HZK := HZ.out
              have HEQ : Hid (∀ W, Calls Tryd.prog 24 #[(⟨xn, xq, xk, xs', xv⟩ : Ent).v, (⟨xn, xq, xk, xs', xv⟩ : Ent).v] W fun e w' => e = .returned (.bool true) ∧ Below W.heap.size W w') := Lib.hid fun W => by have := req_any ⟨xn, xq, xk, xs', xv⟩ ⟨xn, xq, xk, xs', xv⟩ W; rwa [eqB_self] at this
              have B : Below wu.heap.size wu wu := Below.refl _ _
              clear hz HM HZ
              go_wp2_with fail
              refine wp_region_held_drew (S := Below wu.heap.size wu) (by kernel_rfl) (Below.refl _ _).drew (fun hHeld => ?_)
              generalize wu.drew = wd2 at hHeld ⊢
              refine wpAnyH_shift hHeld ?_
              replace B : Below wu.heap.size wu wd2 := B.trans (hHeld.mono B.size)
              replace HZK := HZK.below hHeld
              clear hHeld
              refine takeYes (i := 0) (k := 172) (v := .int .i64 0) rfl (by kernel_rfl) (by kernel_rfl) (by kernel_rfl) (by kernel_rfl) (fun _ _ _ h => h) (by kernel_rfl) ?_ (Below.refl _ _) ?_
              · intro W hSw; first | (go_simp; done) | go_simp
              try simp only [Act.put, List.setIfInBounds_toArray, List.set_cons_zero, List.set_cons_succ]
              refine takeYes (i := 1) (k := 173) (v := .bool true) rfl (by kernel_rfl) (by kernel_rfl) (by kernel_rfl) (by kernel_rfl) (fun _ _ _ h => h) (by kernel_rfl) ?_ (Below.refl _ _) ?_
              · intro W hSw; first | (go_simp; done) | go_simp
              try simp only [Act.put, List.setIfInBounds_toArray, List.set_cons_zero, List.set_cons_succ]
              refine takeYes (i := 2) (k := 174) (v := .bool true) rfl (by kernel_rfl) (by kernel_rfl) (by kernel_rfl) (by kernel_rfl) (fun _ _ _ h => h) (by kernel_rfl) ?_ (Below.refl _ _) ?_
              · intro W hSw; first | (go_simp; done) | go_simp
              try simp only [Act.put, List.setIfInBounds_toArray, List.set_cons_zero, List.set_cons_succ]
              refine takeYes (i := 3) (k := 175) (v := .bool true) rfl (by kernel_rfl) (by kernel_rfl) (by kernel_rfl) (by kernel_rfl) (fun _ _ _ h => h) (by kernel_rfl) ?_ (Below.refl _ _) ?_
              · intro W hSw; first | (go_simp; done) | go_simp
              try simp only [Act.put, List.setIfInBounds_toArray, List.set_cons_zero, List.set_cons_succ]
              refine takeYes (i := 4) (k := 176) (v := .bool false) rfl (by kernel_rfl) (by kernel_rfl) (by kernel_rfl) (by kernel_rfl) (fun _ _ _ h => h) (by kernel_rfl) ?_ (Below.refl _ _) ?_
              · intro W hSw; first | (go_simp; done) | go_simp
              try simp only [Act.put, List.setIfInBounds_toArray, List.set_cons_zero, List.set_cons_succ]
              refine takeYes (i := 5) (k := 177) (v := .bool false) rfl (by kernel_rfl) (by kernel_rfl) (by kernel_rfl) (by kernel_rfl) (fun _ _ _ h => h) (by kernel_rfl) ?_ (Below.refl _ _) ?_
              · intro W hSw; first | (go_simp; done) | go_simp
              try simp only [Act.put, List.setIfInBounds_toArray, List.set_cons_zero, List.set_cons_succ]
              refine takeYes (i := 6) (k := 178) (v := .agg #[.string xn, .int .i64 xq, .int .i64 xk, .string xs', .string xv]) rfl (by kernel_rfl) (by kernel_rfl) (by kernel_rfl) (by kernel_rfl) (fun _ _ _ h => h) (by kernel_rfl) ?_ (Below.refl _ _) ?_
              · intro W hSw; obtain ⟨y0, y1, y2, y3, y4⟩ := blk5 (HZK.below hSw); first | (go_simp; done) | go_simp
              try simp only [Act.put, List.setIfInBounds_toArray, List.set_cons_zero, List.set_cons_succ]
              refine takeYes (i := 7) (k := 179) (v := .slice (some ⟨bb, ox, none⟩) len cap) rfl (by kernel_rfl) (by kernel_rfl) (by kernel_rfl) (by kernel_rfl) (fun _ _ _ h => h) (by kernel_rfl) ?_ (Below.refl _ _) ?_
              · intro W hSw; first | (go_simp; done) | go_simp
              try simp only [Act.put, List.setIfInBounds_toArray, List.set_cons_zero, List.set_cons_succ]
              refine takeYes (i := 8) (k := 180) (v := .int .i64 (i : Int)) rfl (by kernel_rfl) (by kernel_rfl) (by kernel_rfl) (by kernel_rfl) (fun _ _ _ h => h) (by kernel_rfl) ?_ (Below.refl _ _) ?_
              · intro W hSw; first | (go_simp; done) | go_simp
              try simp only [Act.put, List.setIfInBounds_toArray, List.set_cons_zero, List.set_cons_succ]
              refine takeYes (i := 9) (k := 181) (v := .pointer (some ⟨bb, ox + i * 5, none⟩)) rfl (by kernel_rfl) (by kernel_rfl) (by kernel_rfl) (by kernel_rfl) (fun _ _ _ h => h) (by kernel_rfl) ?_ (Below.refl _ _) ?_
              · intro W hSw; first | (go_simp; done) | go_simp
              try simp only [Act.put, List.setIfInBounds_toArray, List.set_cons_zero, List.set_cons_succ]
              refine takeYes (i := 10) (k := 182) (v := .agg #[.string xn, .int .i64 xq, .int .i64 xk, .string xs', .string xv]) rfl (by kernel_rfl) (by kernel_rfl) (by kernel_rfl) (by kernel_rfl) (fun _ _ _ h => h) (by kernel_rfl) ?_ (Below.refl _ _) ?_
              · intro W hSw; obtain ⟨d0, d1, d2, d3, d4⟩ := HAT.out.under hblt (HBU.out.trans ((B.trans (hSw.mono B.size)).mono HBU.out.size)); simp only at d0 d1 d2 d3 d4; first | (go_simp; done) | go_simp
              try simp only [Act.put, List.setIfInBounds_toArray, List.set_cons_zero, List.set_cons_succ]
              refine wpAnyH_ready (rs := [11]) (by kernel_rfl) (by simp) (AllReadyH.cons rfl (fun K hK => ?_) AllReadyH.nil)
              go_simp
              refine (HEQ.out _).mono ?_
              rintro e wd3 ⟨rfl, hb3⟩
              refine hK.out _ _ hb3 (fun _ => wpAnyH_shift hb3 ?_)
              clear hK K
              replace B : Below wu.heap.size wu wd3 := B.trans (hb3.mono B.size)
              replace HZK := HZK.below hb3
              clear hb3
              try simp only [Act.put, List.setIfInBounds_toArray, List.set_cons_zero, List.set_cons_succ]
              refine takeYes (i := 12) (k := 184) (v := .bool false) rfl (by kernel_rfl) (by kernel_rfl) (by kernel_rfl) (by kernel_rfl) (fun _ _ _ h => h) (by kernel_rfl) ?_ (Below.refl _ _) ?_
              · intro W hSw; first | (go_simp; done) | go_simp
              try simp only [Act.put, List.setIfInBounds_toArray, List.set_cons_zero, List.set_cons_succ]
              refine takeYes (i := 13) (k := 185) (v := .bool false) rfl (by kernel_rfl) (by kernel_rfl) (by kernel_rfl) (by kernel_rfl) (fun _ _ _ h => h) (by kernel_rfl) ?_ (Below.refl _ _) ?_
              · intro W hSw; first | (go_simp; done) | go_simp
              try simp only [Act.put, List.setIfInBounds_toArray, List.set_cons_zero, List.set_cons_succ]
              refine takeYes (i := 14) (k := 186) (v := .bool false) rfl (by kernel_rfl) (by kernel_rfl) (by kernel_rfl) (by kernel_rfl) (fun _ _ _ h => h) (by kernel_rfl) ?_ (Below.refl _ _) ?_
              · intro W hSw; first | (go_simp; done) | go_simp
              try simp only [Act.put, List.setIfInBounds_toArray, List.set_cons_zero, List.set_cons_succ]
              refine takeYes (i := 15) (k := 187) (v := .bool false) rfl (by kernel_rfl) (by kernel_rfl) (by kernel_rfl) (by kernel_rfl) (fun _ _ _ h => h) (by kernel_rfl) ?_ (Below.refl _ _) ?_
              · intro W hSw; first | (go_simp; done) | go_simp
              try simp only [Act.put, List.setIfInBounds_toArray, List.set_cons_zero, List.set_cons_succ]
              refine takeYes (i := 16) (k := 188) (v := .int .i64 0) rfl (by kernel_rfl) (by kernel_rfl) (by kernel_rfl) (by kernel_rfl) (fun _ _ _ h => h) (by kernel_rfl) ?_ (Below.refl _ _) ?_
              · intro W hSw; first | (go_simp; done) | go_simp
              try simp only [Act.put, List.setIfInBounds_toArray, List.set_cons_zero, List.set_cons_succ]
              refine takeYes (i := 17) (k := 189) (v := .bool false) rfl (by kernel_rfl) (by kernel_rfl) (by kernel_rfl) (by kernel_rfl) (fun _ _ _ h => h) (by kernel_rfl) ?_ (Below.refl _ _) ?_
              · intro W hSw; first | (go_simp; done) | go_simp
              try simp only [Act.put, List.setIfInBounds_toArray, List.set_cons_zero, List.set_cons_succ]
              refine takeYes (i := 18) (k := 190) (v := .bool false) rfl (by kernel_rfl) (by kernel_rfl) (by kernel_rfl) (by kernel_rfl) (fun _ _ _ h => h) (by kernel_rfl) ?_ (Below.refl _ _) ?_
              · intro W hSw; first | (go_simp; done) | go_simp
              try simp only [Act.put, List.setIfInBounds_toArray, List.set_cons_zero, List.set_cons_succ]
              refine takeNot (i := 19) (k := 191) (by kernel_rfl) (by kernel_rfl) (by kernel_rfl) (by kernel_rfl) (fun _ _ _ h => h) (by kernel_rfl) (Below.refl _ _) ?_
              try simp only [Act.put, List.setIfInBounds_toArray, List.set_cons_zero, List.set_cons_succ]
              refine takeNot (i := 20) (k := 192) (by kernel_rfl) (by kernel_rfl) (by kernel_rfl) (by kernel_rfl) (fun _ _ _ h => h) (by kernel_rfl) (Below.refl _ _) ?_
              try simp only [Act.put, List.setIfInBounds_toArray, List.set_cons_zero, List.set_cons_succ]
              refine takeNot (i := 21) (k := 193) (by kernel_rfl) (by kernel_rfl) (by kernel_rfl) (by kernel_rfl) (fun _ _ _ h => h) (by kernel_rfl) (Below.refl _ _) ?_
              try simp only [Act.put, List.setIfInBounds_toArray, List.set_cons_zero, List.set_cons_succ]
              refine takeNot (i := 22) (k := 194) (by kernel_rfl) (by kernel_rfl) (by kernel_rfl) (by kernel_rfl) (fun _ _ _ h => h) (by kernel_rfl) (Below.refl _ _) ?_
              try simp only [Act.put, List.setIfInBounds_toArray, List.set_cons_zero, List.set_cons_succ]
              refine takeNot (i := 23) (k := 195) (by kernel_rfl) (by kernel_rfl) (by kernel_rfl) (by kernel_rfl) (fun _ _ _ h => h) (by kernel_rfl) (Below.refl _ _) ?_
              try simp only [Act.put, List.setIfInBounds_toArray, List.set_cons_zero, List.set_cons_succ]
              refine takeYes (i := 24) (k := 196) (v := .bool false) rfl (by kernel_rfl) (by kernel_rfl) (by kernel_rfl) (by kernel_rfl) (fun _ _ _ h => h) (by kernel_rfl) ?_ (Below.refl _ _) ?_
              · intro W hSw; first | (go_simp; done) | go_simp
              try simp only [Act.put, List.setIfInBounds_toArray, List.set_cons_zero, List.set_cons_succ]
              refine takeYes (i := 25) (k := 197) (v := .bool false) rfl (by kernel_rfl) (by kernel_rfl) (by kernel_rfl) (by kernel_rfl) (fun _ _ _ h => h) (by kernel_rfl) ?_ (Below.refl _ _) ?_
              · intro W hSw; first | (go_simp; done) | go_simp
              try simp only [Act.put, List.setIfInBounds_toArray, List.set_cons_zero, List.set_cons_succ]
              refine wpAnyH_done (by kernel_rfl) ?_ _
              go_wp2_with fail
              go_meet
              exact ⟨rfl, Lib.hid B⟩
            · have B : Below wu.heap.size wu wu := Below.refl _ _
              clear HM HZ
              go_wp2_with fail
              refine wp_region_held_drew (S := Below wu.heap.size wu) (by kernel_rfl) (Below.refl _ _).drew (fun hHeld => ?_)
              generalize wu.drew = wd2 at hHeld ⊢
              refine wpAnyH_shift hHeld ?_
              replace B : Below wu.heap.size wu wd2 := B.trans (hHeld.mono B.size)
              clear hHeld
              refine takeYes (i := 0) (k := 172) (v := .int .i64 8) rfl (by kernel_rfl) (by kernel_rfl) (by kernel_rfl) (by kernel_rfl) (fun _ _ _ h => h) (by kernel_rfl) ?_ (Below.refl _ _) ?_
              · intro W hSw; first | (go_simp; done) | go_simp
              try simp only [Act.put, List.setIfInBounds_toArray, List.set_cons_zero, List.set_cons_succ]
              refine takeYes (i := 1) (k := 173) (v := .bool false) rfl (by kernel_rfl) (by kernel_rfl) (by kernel_rfl) (by kernel_rfl) (fun _ _ _ h => h) (by kernel_rfl) ?_ (Below.refl _ _) ?_
              · intro W hSw; first | (go_simp; done) | go_simp
              try simp only [Act.put, List.setIfInBounds_toArray, List.set_cons_zero, List.set_cons_succ]
              refine takeYes (i := 2) (k := 174) (v := .bool false) rfl (by kernel_rfl) (by kernel_rfl) (by kernel_rfl) (by kernel_rfl) (fun _ _ _ h => h) (by kernel_rfl) ?_ (Below.refl _ _) ?_
              · intro W hSw; first | (go_simp; done) | go_simp
              try simp only [Act.put, List.setIfInBounds_toArray, List.set_cons_zero, List.set_cons_succ]
              refine takeNot (i := 3) (k := 175) (by kernel_rfl) (by kernel_rfl) (by kernel_rfl) (by kernel_rfl) (fun _ _ _ h => h) (by kernel_rfl) (Below.refl _ _) ?_
              try simp only [Act.put, List.setIfInBounds_toArray, List.set_cons_zero, List.set_cons_succ]
              refine takeNot (i := 4) (k := 176) (by kernel_rfl) (by kernel_rfl) (by kernel_rfl) (by kernel_rfl) (fun _ _ _ h => h) (by kernel_rfl) (Below.refl _ _) ?_
              try simp only [Act.put, List.setIfInBounds_toArray, List.set_cons_zero, List.set_cons_succ]
              refine takeNot (i := 5) (k := 177) (by kernel_rfl) (by kernel_rfl) (by kernel_rfl) (by kernel_rfl) (fun _ _ _ h => h) (by kernel_rfl) (Below.refl _ _) ?_
              try simp only [Act.put, List.setIfInBounds_toArray, List.set_cons_zero, List.set_cons_succ]
              refine takeNot (i := 6) (k := 178) (by kernel_rfl) (by kernel_rfl) (by kernel_rfl) (by kernel_rfl) (fun _ _ _ h => h) (by kernel_rfl) (Below.refl _ _) ?_
              try simp only [Act.put, List.setIfInBounds_toArray, List.set_cons_zero, List.set_cons_succ]
              refine takeNot (i := 7) (k := 179) (by kernel_rfl) (by kernel_rfl) (by kernel_rfl) (by kernel_rfl) (fun _ _ _ h => h) (by kernel_rfl) (Below.refl _ _) ?_
              try simp only [Act.put, List.setIfInBounds_toArray, List.set_cons_zero, List.set_cons_succ]
              refine takeNot (i := 8) (k := 180) (by kernel_rfl) (by kernel_rfl) (by kernel_rfl) (by kernel_rfl) (fun _ _ _ h => h) (by kernel_rfl) (Below.refl _ _) ?_
              try simp only [Act.put, List.setIfInBounds_toArray, List.set_cons_zero, List.set_cons_succ]
              refine takeNot (i := 9) (k := 181) (by kernel_rfl) (by kernel_rfl) (by kernel_rfl) (by kernel_rfl) (fun _ _ _ h => h) (by kernel_rfl) (Below.refl _ _) ?_
              try simp only [Act.put, List.setIfInBounds_toArray, List.set_cons_zero, List.set_cons_succ]
              refine takeNot (i := 10) (k := 182) (by kernel_rfl) (by kernel_rfl) (by kernel_rfl) (by kernel_rfl) (fun _ _ _ h => h) (by kernel_rfl) (Below.refl _ _) ?_
              try simp only [Act.put, List.setIfInBounds_toArray, List.set_cons_zero, List.set_cons_succ]
              refine takeNot (i := 11) (k := 183) (by kernel_rfl) (by kernel_rfl) (by kernel_rfl) (by kernel_rfl) (fun _ _ _ h => h) (by kernel_rfl) (Below.refl _ _) ?_
              try simp only [Act.put, List.setIfInBounds_toArray, List.set_cons_zero, List.set_cons_succ]
              refine takeNot (i := 12) (k := 184) (by kernel_rfl) (by kernel_rfl) (by kernel_rfl) (by kernel_rfl) (fun _ _ _ h => h) (by kernel_rfl) (Below.refl _ _) ?_
              try simp only [Act.put, List.setIfInBounds_toArray, List.set_cons_zero, List.set_cons_succ]
              refine takeNot (i := 13) (k := 185) (by kernel_rfl) (by kernel_rfl) (by kernel_rfl) (by kernel_rfl) (fun _ _ _ h => h) (by kernel_rfl) (Below.refl _ _) ?_
              try simp only [Act.put, List.setIfInBounds_toArray, List.set_cons_zero, List.set_cons_succ]
              refine takeYes (i := 14) (k := 186) (v := .bool false) rfl (by kernel_rfl) (by kernel_rfl) (by kernel_rfl) (by kernel_rfl) (fun _ _ _ h => h) (by kernel_rfl) ?_ (Below.refl _ _) ?_
              · intro W hSw; first | (go_simp; done) | go_simp
              try simp only [Act.put, List.setIfInBounds_toArray, List.set_cons_zero, List.set_cons_succ]
              refine takeYes (i := 15) (k := 187) (v := .bool false) rfl (by kernel_rfl) (by kernel_rfl) (by kernel_rfl) (by kernel_rfl) (fun _ _ _ h => h) (by kernel_rfl) ?_ (Below.refl _ _) ?_
              · intro W hSw; first | (go_simp; done) | go_simp
              try simp only [Act.put, List.setIfInBounds_toArray, List.set_cons_zero, List.set_cons_succ]
              refine takeYes (i := 16) (k := 188) (v := .int .i64 8) rfl (by kernel_rfl) (by kernel_rfl) (by kernel_rfl) (by kernel_rfl) (fun _ _ _ h => h) (by kernel_rfl) ?_ (Below.refl _ _) ?_
              · intro W hSw; first | (go_simp; done) | go_simp
              try simp only [Act.put, List.setIfInBounds_toArray, List.set_cons_zero, List.set_cons_succ]
              refine takeYes (i := 17) (k := 189) (v := .bool true) rfl (by kernel_rfl) (by kernel_rfl) (by kernel_rfl) (by kernel_rfl) (fun _ _ _ h => h) (by kernel_rfl) ?_ (Below.refl _ _) ?_
              · intro W hSw; first | (go_simp; done) | go_simp
              try simp only [Act.put, List.setIfInBounds_toArray, List.set_cons_zero, List.set_cons_succ]
              refine takeYes (i := 18) (k := 190) (v := .bool true) rfl (by kernel_rfl) (by kernel_rfl) (by kernel_rfl) (by kernel_rfl) (fun _ _ _ h => h) (by kernel_rfl) ?_ (Below.refl _ _) ?_
              · intro W hSw; first | (go_simp; done) | go_simp
              try simp only [Act.put, List.setIfInBounds_toArray, List.set_cons_zero, List.set_cons_succ]
              refine takeYes (i := 19) (k := 191) (v := .int .i64 8) rfl (by kernel_rfl) (by kernel_rfl) (by kernel_rfl) (by kernel_rfl) (fun _ _ _ h => h) (by kernel_rfl) ?_ (Below.refl _ _) ?_
              · intro W hSw; first | (go_simp; done) | go_simp
              try simp only [Act.put, List.setIfInBounds_toArray, List.set_cons_zero, List.set_cons_succ]
              refine takeYes (i := 20) (k := 192) (v := .bool false) rfl (by kernel_rfl) (by kernel_rfl) (by kernel_rfl) (by kernel_rfl) (fun _ _ _ h => h) (by kernel_rfl) ?_ (Below.refl _ _) ?_
              · intro W hSw; first | (go_simp; done) | go_simp
              try simp only [Act.put, List.setIfInBounds_toArray, List.set_cons_zero, List.set_cons_succ]
              refine takeYes (i := 21) (k := 193) (v := .bool false) rfl (by kernel_rfl) (by kernel_rfl) (by kernel_rfl) (by kernel_rfl) (fun _ _ _ h => h) (by kernel_rfl) ?_ (Below.refl _ _) ?_
              · intro W hSw; first | (go_simp; done) | go_simp
              try simp only [Act.put, List.setIfInBounds_toArray, List.set_cons_zero, List.set_cons_succ]
              refine takeYes (i := 22) (k := 194) (v := .bool false) rfl (by kernel_rfl) (by kernel_rfl) (by kernel_rfl) (by kernel_rfl) (fun _ _ _ h => h) (by kernel_rfl) ?_ (Below.refl _ _) ?_
              · intro W hSw; first | (go_simp; done) | go_simp
              try simp only [Act.put, List.setIfInBounds_toArray, List.set_cons_zero, List.set_cons_succ]
              refine takeYes (i := 23) (k := 195) (v := .bool false) rfl (by kernel_rfl) (by kernel_rfl) (by kernel_rfl) (by kernel_rfl) (fun _ _ _ h => h) (by kernel_rfl) ?_ (Below.refl _ _) ?_
              · intro W hSw; first | (go_simp; done) | go_simp
              try simp only [Act.put, List.setIfInBounds_toArray, List.set_cons_zero, List.set_cons_succ]
              refine takeYes (i := 24) (k := 196) (v := .bool false) rfl (by kernel_rfl) (by kernel_rfl) (by kernel_rfl) (by kernel_rfl) (fun _ _ _ h => h) (by kernel_rfl) ?_ (Below.refl _ _) ?_
              · intro W hSw; first | (go_simp; done) | go_simp
              try simp only [Act.put, List.setIfInBounds_toArray, List.set_cons_zero, List.set_cons_succ]
              refine takeYes (i := 25) (k := 197) (v := .bool false) rfl (by kernel_rfl) (by kernel_rfl) (by kernel_rfl) (by kernel_rfl) (fun _ _ _ h => h) (by kernel_rfl) ?_ (Below.refl _ _) ?_
              · intro W hSw; first | (go_simp; done) | go_simp
              try simp only [Act.put, List.setIfInBounds_toArray, List.set_cons_zero, List.set_cons_succ]
              refine wpAnyH_done (by kernel_rfl) ?_ _
              go_wp2_with fail
              go_meet
              exact ⟨rfl, Lib.hid B⟩
          case rest =>
          obtain ⟨rfl, HUY⟩ := hcut
          generalize wc = wy at *
          have HBY := Lib.hid (HBU.out.trans (HUY.out.mono HBU.out.size))
          clear HM HZ HUY HBU HB HAT hblt
          go_wp2_with fail
          go_roundg (len - (i + 1))
          case measure => omega
          case rel => exact ⟨i + 1, by go_num, by omega, Nat.le_refl _, HBY⟩
        · obtain rfl : i = len := by omega
          have hi1 : ¬ (i : Int) < (i : Int) := by omega
          go_wp2_with fail
          go_ret
          exact ⟨rfl, HBX.out.trans (HB.out.mono HBX.out.size)⟩
end Go.Proofs.YtennpdhnjaemeaaDoor
