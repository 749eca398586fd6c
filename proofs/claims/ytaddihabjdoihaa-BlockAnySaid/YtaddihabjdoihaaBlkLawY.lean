/- The law BlockAny. -/
import Derived.Test.YtaddihabjdoihaaBlkRows
import Derived.Test.YtaddihabjdoihaaBlkLawA
import Derived.Test.YtaddihabjdoihaaByShort
import Derived.Test.YtaddihabjdoihaaByStore
namespace Go.Proofs.Ytaddihabjdoihaa
set_option linter.unusedVariables false
set_option maxRecDepth 100000
open Go.RowKit
/-- The first k of bytes of the call's own. -/
theorem OwnB.upTo {B : Nat} {w : World} {a : Option Addr} {n cap : Nat} {bs : List UInt8} (h : OwnB B w (.slice a n cap) bs) (k : Nat) (hn : 0 < n) (hk : k ≤ n) : OwnB B w (.slice a k cap) (bs.take k) := by
  have hl : n = bs.length := (rdV_len h.rd).1.trans (List.length_map _)
  obtain ⟨h1, h2⟩ := h
  rcases h2 with ⟨e, e2⟩ | ⟨g, c, cur, e1, e2, e3, e4, e5, e6, e7⟩
  · simp only [Value.slice.injEq] at e; omega
  · simp only [Value.slice.injEq] at e1
    obtain ⟨rfl, -, rfl⟩ := e1
    have hk2 : ((bs.take k).map bv).length = k := by rw [List.length_map, List.length_take]; omega
    unfold OwnB OwnV
    rw [hk2]
    refine ⟨by rw [hk2]; omega, .inr ⟨g, cap, cur, rfl, e2, e3, ?_, e5, e6, ?_⟩⟩
    · rw [List.length_map] at e4; omega
    · rw [List.length_map, Nat.mul_one] at e7
      have e8 : cur.toList.take k = (cur.toList.take bs.length).take k := by rw [List.take_take]; congr 1; omega
      rw [Nat.mul_one, e8, e7, List.map_take]
theorem few_body30 {ms : List Kv} (h : FewK 30 ms) (hl : ms.length ≤ 20) : (bodyB 0 [] ms).length ≤ 1800 := by
  have h1 := body_bd 30 ms 0 [] h
  omega
set_option maxHeartbeats 16000000 in
theorem blockAny_walk (w : World) (a : Option Addr) (len cap : Nat) (rs : List Kv) (hrd : RdK encKv 2 w (.slice a len cap) rs) (hok : ∀ r ∈ rs, r.ok) (z : Int) (hz : (Lit.int .i64 z).wf = true) (x : Int) (hx : (Lit.int .u8 x).wf = true)
    (ar : Option Addr) (lr cr : Nat) (zs : List Int) (hzs : RdV w (.slice ar lr cr) (zs.map (Value.int .u8))) (hwf : ∀ n ∈ zs, (Lit.int .u8 n).wf = true) (c : Int) (hc : (Lit.int .i64 c).wf = true) :
    Calls Try.prog 4 #[.slice a len cap, .int .i64 z, .int .u8 x, .slice ar lr cr, .int .i64 c] w fun e w' => e = .returned (.bool true) ∧ Below w.heap.size w w' := by
  have HBG := Lib.hid (bkBegun_any w)
  have HRD := Lib.hid hrd
  have HOK := Lib.hid hok
  obtain ⟨a', len', cap', e', hlen⟩ := rdKv_len hrd
  simp only [Value.slice.injEq] at e'
  obtain ⟨rfl, rfl, rfl⟩ := e'
  have HN := Lib.hid hlen
  have hlb : (len : Int) ≤ 9223372036854775807 := by
    rcases hrd with ⟨_, _, e, -⟩ | ⟨_, _, _, e, -, h2, h3, -⟩
    · simp only [Value.slice.injEq] at e; omega
    · simp only [Value.slice.injEq] at e; unfold maxLen at h3; omega
  obtain ⟨rb, hrb⟩ := bytes_of zs hwf
  rw [hrb] at hzs
  have HRB : Hid (RdB w (.slice ar lr cr) rb) := Lib.hid hzs
  obtain ⟨xb, rfl⟩ : ∃ xb : UInt8, x = (xb.toNat : Int) := by
    obtain ⟨h0, h1⟩ := u8_bd hx
    exact ⟨UInt8.ofNat x.toNat, by rw [byte_of _ (by omega)]; omega⟩
  have hzb : -9223372036854775808 ≤ z ∧ z ≤ 9223372036854775807 := by simp [Lit.wf, IntKind.min, IntKind.max, IntKind.signed, IntKind.bits] at hz; omega
  have hcb : -9223372036854775808 ≤ c ∧ c ≤ 9223372036854775807 := by simp [Lit.wf, IntKind.min, IntKind.max, IntKind.signed, IntKind.bits] at hc; omega
  obtain ⟨hzb1, hzb2⟩ := hzb
  obtain ⟨hcb1, hcb2⟩ := hcb
  clear hrd hok hlen hz hx hc hzs hwf hrb
  go_enter Try.func4, Try.ntmps4
  go_wp2_with fail
  refine HBG.out.mono ?_
  rintro e w2 ⟨rfl, hb⟩
  have HB2 := Lib.hid hb
  clear hb HBG
  go_wp2_with fail
  go_loopg [12, 13] 20 (fun kk vm vi wr => ∃ (i : Nat) (ms : List Kv) (a7 : Option Addr) (n7 c7 : Nat), vi = .int .i64 (i : Int) ∧ vm = .slice a7 n7 c7 ∧ i ≤ 20 ∧ 20 - i ≤ kk ∧ n7 ≤ i ∧ Hid (n7 = ms.length) ∧ Hid (FewK 30 ms) ∧ Hid (Below w.heap.size w wr) ∧ Hid (OwnK encKv 2 31 w.heap.size wr (.slice a7 n7 c7) ms))
  case atStart => exact ⟨0, [], none, 0, 0, rfl, rfl, by omega, by omega, by omega, Lib.hid rfl, Lib.hid (fun r h => by cases h), HB2, Lib.hid (OwnK.nil _ _ _ _ _)⟩
  case round =>
    clear HB2
    obtain ⟨i, ms, a7, n7, c7, rfl, rfl, hi, hik, hn7, HN7, HFW, HO, HM⟩ := hrel
    generalize wr = w0 at *
    by_cases h1 : i < len ∧ i < 20
    · obtain ⟨h1, h2⟩ := h1
      have hi1 : (i : Int) < (len : Int) := by omega
      have hi2 : (i : Int) < 20 := by omega
      have hi0 : (0 : Int) ≤ (i : Int) := by omega
      obtain ⟨r, hr⟩ : ∃ r, rs[i]? = some r := ⟨rs[i]'(by have := HN.out; omega), List.getElem?_eq_getElem _⟩
      obtain ⟨b1, o1, rfl, hb1, d0, d1⟩ := (HRD.out.below HO.out).at2 i r hr
      obtain ⟨ok1, ok2⟩ := HOK.out r (List.mem_of_getElem? hr)
      obtain ⟨ks, hks⟩ : ∃ ks : ByteArray, (⟨r.k.toArray⟩ : ByteArray) = ks := ⟨_, rfl⟩
      obtain ⟨vs, hvs⟩ : ∃ vs : ByteArray, (⟨r.v.toArray⟩ : ByteArray) = vs := ⟨_, rfl⟩
      obtain ⟨kc, hkc, hck⟩ := cut_fix ks 30 (by decide) (by rw [← hks]; show r.k.toArray.size ≤ _; rw [List.size_toArray]; exact ok1)
      obtain ⟨vc, hvc, hcv⟩ := cut_fix vs 30 (by decide) (by rw [← hvs]; show r.v.toArray.size ≤ _; rw [List.size_toArray]; exact ok2)
      have HCK := Lib.hid hck
      have HCV := Lib.hid hcv
      rw [hks] at d0
      rw [hvs] at d1
      clear hr hks hvs hck hcv ok1 ok2
      obtain ⟨q, hq⟩ : ∃ q, decide (addOk ms kc.data.toList) = q := ⟨_, rfl⟩
      have HQ := Lib.hid hq
      go_wp2_with fail
      clear hq
      refine wp_region_quiet_lit (by kernel_rfl) (by kernel_rfl) ?_
      iterate 5 quiet_step (fail)
      quiet_step (exact Calls.quiet_of_same (HCK.out _))
      iterate 5 quiet_step (fail)
      quiet_step (exact Calls.quiet_of_same (HCV.out _))
      iterate 2 quiet_step (fail)
      refine wpQuiet_nil ?_
      rintro _ ⟨nq, rfl⟩
      have hdn : Below w0.heap.size w0 (w0.drewN nq) := DrN.below ⟨nq, rfl⟩ _
      have HO1 := Lib.hid (HO.out.trans (hdn.mono HO.out.size))
      have HM1 := Lib.hid (HM.out.below hdn)
      clear hdn HO HM HCK HCV d0 d1
      generalize w0.drewN nq = w1 at *
      go_upto_region 9 with fail
      go_cut [61] (fun c wx => c = .bool q ∧ w1 = wx)
      case first =>
        as_aux_lemma =>
        rcases Nat.eq_zero_or_pos n7 with h0 | h0
        · subst h0
          obtain rfl : q = true := by rw [← HQ.out]; exact decide_eq_true (.inl HN7.out.symm)
          go_wp2_with fail
          go_meet
          exact ⟨rfl, rfl⟩
        · obtain ⟨j, rfl⟩ : ∃ j, n7 = j + 1 := ⟨n7 - 1, by omega⟩
          obtain ⟨rl, hrl, hll⟩ := last_mem HN7.out.symm
          obtain ⟨b2, o2, rfl, hb2, e0, e1⟩ := (HM1.out.rd encKv_len).at2 j rl hrl
          obtain ⟨ls, hls⟩ : ∃ ls : ByteArray, (⟨rl.k.toArray⟩ : ByteArray) = ls := ⟨_, rfl⟩
          rw [hls] at e0
          have hj1 : ((j + 1 : Nat) : Int) - 1 = (j : Int) := by omega
          have hj2 : (((j + 1 : Nat) : Int) == 0) = false := by rw [beq_eq_false_iff_ne]; omega
          have hj3 : (j : Int) < ((j + 1 : Nat) : Int) := by omega
          have hj0 : (0 : Int) ≤ (j : Int) := by omega
          have hgt : (!Op.bytesLess kc.toList ls.toList && !(kc.toList == ls.toList)) = q := by
            rw [← HQ.out]; exact want_is (by rw [hll, ← hls]) (by have := HN7.out; omega)
          clear hrl hll hls
          go_wp2_with fail
          go_meet
          exact ⟨rfl, rfl⟩
      case rest =>
      obtain ⟨rfl, rfl⟩ := hcut
      cases q with
      | true =>
        have HCS : Hid ((encKv (⟨kc.data.toList, vc.data.toList⟩ : Kv)).toArray = #[.string kc, .string vc]) := Lib.hid rfl
        go_wp2_with (at_builtin; refine wp_oneK elemK_kv encKv_len _ _ (by rfl) (by rfl) (by rfl) HM1.out (⟨kc.data.toList, vc.data.toList⟩ : Kv) _ HCS.out _ (by rfl) (by rfl) (encKv_one _) ?c1 ?c2 HO1.out.size ?_)
        case c1 => have := HN7.out; omega
        case c2 => have := HN7.out; unfold maxLen; omega
        intro v5 w5 o5 b5 u5 n5
        have HO5 := Lib.hid (HO1.out.trans b5)
        obtain ⟨a5, c5, rfl, -⟩ := o5.kform
        obtain ⟨n9, hn9⟩ : ∃ n9, (ms ++ [(⟨kc.data.toList, vc.data.toList⟩ : Kv)]).length = n9 := ⟨_, rfl⟩
        have HN9 : Hid (n9 = (ms ++ [(⟨kc.data.toList, vc.data.toList⟩ : Kv)]).length) := Lib.hid hn9.symm
        have hn97 : n9 ≤ i + 1 := by have := HN7.out; rw [← hn9, List.length_append, List.length_singleton]; omega
        have HM5 := Lib.hid o5
        rw [hn9] at HM5 ⊢
        have HFW5 : Hid (FewK 30 (ms ++ [(⟨kc.data.toList, vc.data.toList⟩ : Kv)])) := Lib.hid (few_snoc HFW.out ⟨by show kc.data.toList.length ≤ 30; rw [size_toList]; exact hkc, by show vc.data.toList.length ≤ 30; rw [size_toList]; exact hvc⟩)
        clear o5 b5 u5 n5 hn9 HM1 HO1
        go_wp2_with fail
        go_roundg (20 - (i + 1))
        case measure => omega
        case rel => exact ⟨i + 1, _, a5, n9, c5, by go_num, rfl, by omega, Nat.le_refl _, hn97, HN9, HFW5, HO5, HM5⟩
      | false =>
        go_wp2_with fail
        go_roundg (20 - (i + 1))
        case measure => omega
        case rel => exact ⟨i + 1, ms, a7, n7, c7, by go_num, rfl, by omega, Nat.le_refl _, by omega, HN7, HFW, HO1, HM1⟩
    · go_upto_region 6 with fail
      go_cut [33] (fun c wx => c = .bool false ∧ w0 = wx)
      case first =>
        as_aux_lemma =>
        by_cases h2 : i < len
        · have hi1 : (i : Int) < (len : Int) := by omega
          obtain rfl : i = 20 := by omega
          go_wp2_with fail
          go_meet
          exact ⟨rfl, rfl⟩
        · have hi1 : ¬ (i : Int) < (len : Int) := by omega
          go_wp2_with fail
          go_meet
          exact ⟨rfl, rfl⟩
      case rest =>
      obtain ⟨rfl, rfl⟩ := hcut
      have HSZ : Hid ((bodyB 0 [] ms).length ≤ 1800) := Lib.hid (few_body30 HFW.out (by have := HN7.out; omega))
      have HBL : Hid (4 ≤ (blockB ms).length ∧ (blockB ms).length ≤ 2000) := Lib.hid (by have := blockB_len ms; have := HSZ.out; have := HN7.out; omega)
      have HBC := Lib.hid (rblock_any _ ms (by have := HSZ.out; omega) w0 (HM.out.rd encKv_len))
      clear h1 HM
      go_wp2_with fail
      refine HBC.out.mono ?_
      rintro e w5 ⟨v5, rfl, x5, b5⟩
      have HX5 := Lib.hid (x5.base HO.out.size)
      have HB5 := Lib.hid (HO.out.trans (b5.mono HO.out.size))
      have HSH := Lib.hid (short_any ar lr cr rb 10 (by decide) w5 (HRB.out.below HB5.out))
      clear x5 b5 HBC HO
      go_wp2_with fail
      refine HSH.out.mono ?_
      rintro e w6 ⟨aS, lS, cS, rfl, hs, rfl⟩
      have HS := Lib.hid hs
      clear hs HSH
      have HTL : Hid ((rb.take 10).length ≤ 10) := Lib.hid (by rw [List.length_take]; omega)
      go_wp2_with (at_builtin; refine wp_appSB _ _ (by rfl) (by rfl) (by rfl) HX5.out (by rfl) HS.out ?c1 HB5.out.size ?_)
      case c1 => have := HTL.out; have := HBL.out; omega
      intro v7 w7 o7 b7
      obtain ⟨a8, n8, c8, rfl, hn8, hc8, -⟩ := o7.form
      have HX7 := Lib.hid o7
      have HB7 := Lib.hid (HB5.out.trans b7)
      have h8 : 4 ≤ n8 ∧ n8 ≤ 2010 := by rw [hn8, List.length_append]; have := HTL.out; have := HBL.out; omega
      obtain ⟨h81, h82⟩ := h8
      clear o7 b7 hn8 HX5 HB5 HS HTL
      generalize blockB ms ++ rb.take 10 = L at *
      obtain ⟨q, hq⟩ : ∃ q, decide (0 < c ∧ c ≤ (n8 : Int)) = q := ⟨_, rfl⟩
      have HQ := Lib.hid hq
      clear hq
      go_upto_region 12 with fail
      go_cut [80] (fun v wx => v = .bool q ∧ w7 = wx)
      case first =>
        as_aux_lemma =>
        by_cases h2 : 0 < c
        · by_cases h3 : c ≤ (n8 : Int)
          · obtain rfl : q = true := by rw [← HQ.out]; exact decide_eq_true ⟨h2, h3⟩
            go_wp2_with fail
            go_meet
            exact ⟨rfl, rfl⟩
          · obtain rfl : q = false := by rw [← HQ.out]; exact decide_eq_false (fun k => h3 k.2)
            go_wp2_with fail
            go_meet
            exact ⟨rfl, rfl⟩
        · obtain rfl : q = false := by rw [← HQ.out]; exact decide_eq_false (fun k => h2 k.1)
          go_wp2_with fail
          go_meet
          exact ⟨rfl, rfl⟩
      case rest =>
      obtain ⟨rfl, rfl⟩ := hcut
      go_upto_if 80 with fail
      go_cut [16] (fun v wx => ∃ (aX : Option Addr) (nX cX : Nat) (M : List UInt8), v = .slice aX nX cX ∧ nX ≤ 2010 ∧ w7 = wx ∧ Hid (OwnB w.heap.size wx (.slice aX nX cX) M))
      case first =>
        as_aux_lemma =>
        cases q with
        | true =>
          obtain ⟨h2, h3⟩ := of_decide_eq_true HQ.out
          obtain ⟨k, hk⟩ : ∃ k : Nat, (n8 : Int) - c = (k : Int) := ⟨((n8 : Int) - c).toNat, by omega⟩
          have hk0 : (0 : Int) ≤ (k : Int) := by omega
          have hkn : k ≤ n8 := by omega
          have hsl := fun W => sl_hB W a8 n8 c8 k (by omega)
          have HU := Lib.hid (HX7.out.upTo k (by omega) hkn)
          clear h2 h3
          go_wp2_with fail
          go_meet
          exact ⟨_, _, _, _, rfl, by omega, rfl, HU⟩
        | false =>
          go_wp2_with fail
          go_meet
          exact ⟨_, _, _, _, rfl, by omega, rfl, HX7⟩
      case rest =>
      clear HX7
      obtain ⟨aX, nX, cX, M, rfl, hnX, rfl, HX⟩ := hcut
      have hnM : nX = M.length := (rdV_len HX.out.rd).1.trans (List.length_map _)
      have HNM := Lib.hid hnM
      clear hnM
      obtain ⟨q2, hq2⟩ : ∃ q, decide (0 < nX ∧ 0 ≤ z) = q := ⟨_, rfl⟩
      have HQ2 := Lib.hid hq2
      clear hq2
      go_upto_region 14 with fail
      go_cut [93] (fun v wx => v = .bool q2 ∧ w7 = wx)
      case first =>
        as_aux_lemma =>
        by_cases h2 : 0 < nX
        · have h21 : (0 : Int) < (nX : Int) := by omega
          by_cases h3 : 0 ≤ z
          · obtain rfl : q2 = true := by rw [← HQ2.out]; exact decide_eq_true ⟨h2, h3⟩
            go_wp2_with fail
            go_meet
            exact ⟨rfl, rfl⟩
          · obtain rfl : q2 = false := by rw [← HQ2.out]; exact decide_eq_false (fun k => h3 k.2)
            go_wp2_with fail
            go_meet
            exact ⟨rfl, rfl⟩
        · have h21 : ¬ (0 : Int) < (nX : Int) := by omega
          obtain rfl : q2 = false := by rw [← HQ2.out]; exact decide_eq_false (fun k => h2 k.1)
          go_wp2_with fail
          go_meet
          exact ⟨rfl, rfl⟩
      case rest =>
      obtain ⟨rfl, rfl⟩ := hcut
      go_upto_if 93 with fail
      go_cut [] (fun wx => ∃ M' : List UInt8, M'.length = nX ∧ Hid (OwnB w.heap.size wx (.slice aX nX cX) M') ∧ Hid (Below w.heap.size w wx))
      case first =>
        as_aux_lemma =>
        cases q2 with
        | true =>
          obtain ⟨h2, h3⟩ := of_decide_eq_true HQ2.out
          obtain ⟨zn, rfl⟩ : ∃ zn : Nat, z = (zn : Int) := ⟨z.toNat, by omega⟩
          obtain ⟨k, hk⟩ : ∃ k, zn % nX = k := ⟨_, rfl⟩
          have hkX : k < nX := by rw [← hk]; exact Nat.mod_lt _ h2
          have hki : (zn : Int) % (nX : Int) = (k : Int) := by rw [← hk]; rfl
          have hnz : ¬ (nX : Int) = 0 := by omega
          obtain ⟨g, cap', hv, hB, hg, hlc, hcm, hcell, hfree⟩ := HX.out.place k (by have := HNM.out; omega)
          simp only [Value.slice.injEq] at hv
          obtain ⟨rfl, -, rfl⟩ := hv
          have hkI : (k : Int) < (nX : Int) := by omega
          have hk0 : (0 : Int) ≤ (k : Int) := by omega
          obtain ⟨y, hy⟩ : ∃ y, M.getD k 0 = y := ⟨_, rfl⟩
          rw [hy] at hcell
          have HXR := Lib.hid (bv_xor y xb)
          go_wp2_with fail
          have o := HX.out.set k (y ^^^ xb)
          rw [← HXR.out] at o
          go_meet
          exact ⟨M.set k (y ^^^ xb), by rw [List.length_set]; exact HNM.out.symm, Lib.hid o, Lib.hid (HB7.out.setCell hB _)⟩
        | false =>
          go_wp2_with fail
          go_meet
          exact ⟨M, HNM.out.symm, HX, HB7⟩
      case rest =>
      clear HX HB7
      obtain ⟨M', hM', HX, HB⟩ := hcut
      have HML := Lib.hid hM'
      clear hM' HNM HQ2
      have HRE := Lib.hid (bkRead_any (.slice aX nX cX) M' (by have := HML.out; omega) wc HX.out.rd)
      obtain ⟨R, hR⟩ : ∃ R, readCk M' = R := ⟨_, rfl⟩
      have HRB2 : Hid (readB M' = R) := Lib.hid (by rw [← hR, readC_eq (by have := HML.out; omega)])
      have HRC := Lib.hid hR
      cases hR2 : R with
      | none =>
        subst hR2
        have hR : readCk M' = none := HRC.out
        rw [hR] at HRE
        unfold BkReadRes at HRE
        simp only [Option.isSome_none, Option.getD_none, Bool.false_eq_true, if_false] at HRE
        go_wp2_with fail
        refine HRE.out.mono ?_
        rintro e w8 ⟨v8, rfl, x8, b8⟩
        obtain ⟨a9, c9, rfl, -⟩ := x8.kform
        have HL8 := Lib.hid (x8.rd encKv_len)
        have HX8 := Lib.hid (HX.out.below b8)
        have HB8 := Lib.hid (HB.out.trans (b8.mono HB.out.size))
        have HRR := Lib.hid (rrows_any (.slice aX nX cX) M' (by have := HML.out; omega) w8 HX8.out.rd)
        rw [HRB2.out] at HRR
        unfold RowsRes at HRR
        simp only [Option.isSome_none, Option.getD_none] at HRR
        clear x8 b8 HRE HX HB
        rw [show ([] : List Kv).length = 0 from rfl]
        go_wp2_with fail
        refine HRR.out.mono ?_
        rintro e w9 ⟨v9, rfl, x9, b9⟩
        obtain ⟨a10, c10, rfl, -⟩ := x9.kform
        have HL9 := Lib.hid (HL8.out.below b9)
        have HN9 := Lib.hid (x9.rd encKv_len)
        have HX9 := Lib.hid (HX8.out.below b9)
        have HB9 := Lib.hid (HB8.out.trans (b9.mono HB8.out.size))
        have HSE := Lib.hid (seek_any (.slice aX nX cX) M' (by have := HML.out; omega) ⟨#[109]⟩ w9 HX9.out.rd)
        rw [HRC.out] at HSE
        unfold SeekRes at HSE
        simp only [Option.isSome_none, Bool.false_eq_true, if_false] at HSE
        clear x9 b9 HRR HL8 HX8 HB8
        rw [show ([] : List Kv).length = 0 from rfl]
        go_wp2_with fail
        refine HSE.out.mono ?_
        rintro e w10 ⟨rfl, b10⟩
        have HL := Lib.hid (HL9.out.below b10)
        have HNN := Lib.hid (HN9.out.below b10)
        have HB10 := Lib.hid (HB9.out.trans (b10.mono HB9.out.size))
        clear b10 HSE HL9 HN9 HX9 HB9
        go_wp2_with fail
        go_ret
        exact ⟨rfl, HB10.out⟩
      | some ms' =>
        subst hR2
        have hR : readCk M' = some ms' := HRC.out
        have HFEW : Hid (ms'.length ≤ 1000000000) := Lib.hid (by
          obtain ⟨g1, g2⟩ := readC_some hR
          have h1 := body_len ms' 0 []
          have h2 := blockB_len ms'
          rw [g2, HML.out] at h2
          omega)
        rw [hR] at HRE
        unfold BkReadRes at HRE
        simp only [Option.isSome_some, Option.getD_some, if_true] at HRE
        go_wp2_with fail
        refine HRE.out.mono ?_
        rintro e w8 ⟨v8, rfl, x8, b8⟩
        obtain ⟨a9, c9, rfl, -⟩ := x8.kform
        have HL8 := Lib.hid (x8.rd encKv_len)
        have HX8 := Lib.hid (HX.out.below b8)
        have HB8 := Lib.hid (HB.out.trans (b8.mono HB.out.size))
        have HRR := Lib.hid (rrows_any (.slice aX nX cX) M' (by have := HML.out; omega) w8 HX8.out.rd)
        rw [HRB2.out] at HRR
        unfold RowsRes at HRR
        simp only [Option.isSome_some, Option.getD_some] at HRR
        clear x8 b8 HRE HX HB
        obtain ⟨ml, hml⟩ : ∃ ml, ms'.length = ml := ⟨_, rfl⟩
        rw [hml] at HL8 ⊢
        go_wp2_with fail
        refine HRR.out.mono ?_
        rintro e w9 ⟨v9, rfl, x9, b9⟩
        obtain ⟨a10, c10, rfl, -⟩ := x9.kform
        have HL9 := Lib.hid (HL8.out.below b9)
        have HN9 := Lib.hid (x9.rd encKv_len)
        have HX9 := Lib.hid (HX8.out.below b9)
        have HB9 := Lib.hid (HB8.out.trans (b9.mono HB8.out.size))
        have HSE := Lib.hid (seek_any (.slice aX nX cX) M' (by have := HML.out; omega) ⟨#[109]⟩ w9 HX9.out.rd)
        rw [HRC.out] at HSE
        unfold SeekRes at HSE
        simp only [Option.isSome_some, if_true] at HSE
        clear x9 b9 HRR HL8 HX8 HB8
        rw [hml] at HN9 ⊢
        generalize seekK ms' (⟨#[109]⟩ : ByteArray).data.toList = sk at HSE
        go_wp2_with fail
        refine HSE.out.mono ?_
        rintro e w10 ⟨rfl, b10⟩
        have HL := Lib.hid (HL9.out.below b10)
        have HNN := Lib.hid (HN9.out.below b10)
        have HB10 := Lib.hid (HB9.out.trans (b10.mono HB9.out.size))
        clear b10 HSE HL9 HN9 HX9 HB9
        go_wp2_with fail
        refine (same_yes _ _ ms' HFEW.out w10 HL.out HNN.out).mono ?_
        rintro e w11 ⟨rfl, d11⟩
        have HB11 := Lib.hid (HB10.out.trans (d11.below _))
        go_wp2_with fail
        go_ret
        exact ⟨rfl, HB11.out⟩
end Go.Proofs.Ytaddihabjdoihaa
