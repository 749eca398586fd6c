/- The law BlockAll. -/
import Derived.Test.YtaddihabjdoihaaBlkRMath
import Derived.Test.YtaddihabjdoihaaBlkBegun
import Derived.Test.YtaddihabjdoihaaRowOpen
import Derived.Test.YtaddihabjdoihaaCutLaw
import Derived.Deep.LoopGhost
import Derived.Deep.CutBlock
namespace Go.Proofs.Ytaddihabjdoihaa
set_option linter.unusedVariables false
set_option maxRecDepth 100000
open Go.RowKit
theorem seekK_lt : ∀ {rs : List Kv} {k : List UInt8} {i : Nat} {r : Kv}, i < seekK rs k → rs[i]? = some r → r.k < k
  | [], k, i, r, _, h => by simp at h
  | x :: rs, k, i, r, h1, h2 => by
    unfold seekK at h1
    rw [List.takeWhile_cons] at h1
    split at h1
    · rename_i hx
      cases i with
      | zero =>
        obtain rfl : x = r := by simpa using h2
        exact of_decide_eq_true hx
      | succ i => exact seekK_lt (rs := rs) (by unfold seekK; simpa using h1) (by simpa using h2)
    · simp at h1
theorem seekK_ge : ∀ {rs : List Kv} {k : List UInt8} {r : Kv}, rs[seekK rs k]? = some r → ¬ r.k < k
  | [], k, r, h => by simp at h
  | x :: rs, k, r, h => by
    unfold seekK at h
    rw [List.takeWhile_cons] at h
    split at h
    · exact seekK_ge (rs := rs) (by unfold seekK; simpa using h)
    · rename_i hx
      obtain rfl : x = r := by simpa using h
      exact fun e => hx (decide_eq_true e)
/-- The rows so far: few and small. -/
def FewK (K : Nat) (ms : List Kv) : Prop := ∀ r ∈ ms, r.k.length ≤ K ∧ r.v.length ≤ K
theorem few_snoc {K : Nat} {ms : List Kv} (h : FewK K ms) {r : Kv} (hr : r.k.length ≤ K ∧ r.v.length ≤ K) : FewK K (ms ++ [r]) := fun x hx => by
  rcases List.mem_append.1 hx with hx | hx
  · exact h x hx
  · obtain rfl : x = r := by simpa using hx
    exact hr
theorem few_body {ms : List Kv} (h : FewK 40 ms) (hl : ms.length ≤ 40) : (bodyB 0 [] ms).length ≤ 10000 := by
  have h1 := body_bd 40 ms 0 [] h
  omega
theorem last_mem {ms : List Kv} {j : Nat} (h : ms.length = j + 1) : ∃ r, ms[j]? = some r ∧ lastK [] ms = r.k := by
  rcases List.eq_nil_or_concat ms with rfl | ⟨ys, z, rfl⟩
  · simp at h
  · rw [List.concat_eq_append] at h ⊢
    rw [List.length_append, List.length_singleton] at h
    obtain rfl : ys.length = j := by omega
    exact ⟨z, by simp, lastK_snoc _ _ _⟩
/-- What the law's 'want' reckons. -/
theorem want_is {ms : List Kv} {ls kc : ByteArray} (h1 : lastK [] ms = ls.data.toList) (h2 : ¬ ms.length = 0) : (!Op.bytesLess kc.toList ls.toList && !(kc.toList == ls.toList)) = decide (addOk ms kc.data.toList) := by
  rw [gt_eq]
  by_cases h : bl ls kc
  · have h3 : addOk ms kc.data.toList := .inr (by rw [h1]; exact h)
    rw [decide_eq_true h, decide_eq_true h3]
  · have h3 : ¬ addOk ms kc.data.toList := by
      rintro (k | k)
      · exact h2 k
      · rw [h1] at k; exact h k
    rw [decide_eq_false h, decide_eq_false h3]
set_option maxHeartbeats 16000000 in
theorem blockAll_walk (w : World) (a : Option Addr) (len cap : Nat) (rs : List Kv) (hrd : RdK encKv 2 w (.slice a len cap) rs) (hok : ∀ r ∈ rs, r.ok) (key : ByteArray) (hkey : key.size ≤ maxLen) :
    Calls Try.prog 3 #[.slice a len cap, .string key] w fun e w' => e = .returned (.bool true) ∧ Below w.heap.size w w' := by
  have HBG := Lib.hid (bkBegun_any w)
  have HRD := Lib.hid hrd
  have HOK := Lib.hid hok
  obtain ⟨a', len', cap', e', hlen⟩ := rdKv_len hrd
  simp only [Value.slice.injEq] at e'
  obtain ⟨rfl, rfl, rfl⟩ := e'
  have HN := Lib.hid hlen
  have hlb : (len : Int) ≤ 9223372036854775807 := by
    rcases hrd with ⟨_, _, e, -⟩ | ⟨_, _, _, e, -, h2, h3, -⟩
    · simp only [Value.slice.injEq] at e; omega
    · simp only [Value.slice.injEq] at e; unfold maxLen at h3; omega
  clear hrd hok hlen hkey
  go_enter Try.func3, Try.ntmps3
  go_wp2_with fail
  refine HBG.out.mono ?_
  rintro e w2 ⟨rfl, hb⟩
  have HNW := Lib.hid (bkNew_own hb)
  clear hb HBG
  go_wp2_with fail
  refine HNW.out.mono ?_
  rintro e w3 ⟨rfl, o3, -⟩
  have HO3 := Lib.hid o3
  clear o3 HNW
  generalize w2.heap.size = b at *
  go_wp2_with fail
  go_loopg [7, 8] 40 (fun kk vm vi wr => ∃ (i : Nat) (ms : List Kv) (a7 : Option Addr) (n7 c7 : Nat), vi = .int .i64 (i : Int) ∧ vm = .slice a7 n7 c7 ∧ i ≤ 40 ∧ 40 - i ≤ kk ∧ n7 ≤ i ∧ Hid (n7 = ms.length) ∧ Hid (FewK 40 ms) ∧ Hid (BdOwn w wr b ms) ∧ Hid (OwnK encKv 2 31 w.heap.size wr (.slice a7 n7 c7) ms))
  case atStart => exact ⟨0, [], none, 0, 0, rfl, rfl, by omega, by omega, by omega, Lib.hid rfl, Lib.hid (fun r h => by cases h), HO3, Lib.hid (OwnK.nil _ _ _ _ _)⟩
  case round =>
    clear HO3
    obtain ⟨i, ms, a7, n7, c7, rfl, rfl, hi, hik, hn7, HN7, HFW, HO, HM⟩ := hrel
    generalize wr = w0 at *
    by_cases h1 : i < len ∧ i < 40
    · obtain ⟨h1, h2⟩ := h1
      have hi1 : (i : Int) < (len : Int) := by omega
      have hi2 : (i : Int) < 40 := by omega
      have hi0 : (0 : Int) ≤ (i : Int) := by omega
      obtain ⟨r, hr⟩ : ∃ r, rs[i]? = some r := ⟨rs[i]'(by have := HN.out; omega), List.getElem?_eq_getElem _⟩
      obtain ⟨b1, o1, rfl, hb1, d0, d1⟩ := (HRD.out.below HO.out.1).at2 i r hr
      obtain ⟨ok1, ok2⟩ := HOK.out r (List.mem_of_getElem? hr)
      obtain ⟨ks, hks⟩ : ∃ ks : ByteArray, (⟨r.k.toArray⟩ : ByteArray) = ks := ⟨_, rfl⟩
      obtain ⟨vs, hvs⟩ : ∃ vs : ByteArray, (⟨r.v.toArray⟩ : ByteArray) = vs := ⟨_, rfl⟩
      obtain ⟨kc, hkc, hck⟩ := cut_fix ks 40 (by decide) (by rw [← hks]; show r.k.toArray.size ≤ _; rw [List.size_toArray]; exact ok1)
      obtain ⟨vc, hvc, hcv⟩ := cut_fix vs 40 (by decide) (by rw [← hvs]; show r.v.toArray.size ≤ _; rw [List.size_toArray]; exact ok2)
      have HCK := Lib.hid hck
      have HCV := Lib.hid hcv
      rw [hks] at d0
      rw [hvs] at d1
      clear hr hks hvs hck hcv ok1 ok2
      obtain ⟨q, hq⟩ : ∃ q, decide (addOk ms kc.data.toList) = q := ⟨_, rfl⟩
      have HQ := Lib.hid hq
      go_wp2_with fail
      clear hq
      refine wp_region_quiet_lit (by kernel_rfl) (by kernel_rfl) ?_
      iterate 5 quiet_step (fail)
      quiet_step (exact Calls.quiet_of_same (HCK.out _))
      iterate 5 quiet_step (fail)
      quiet_step (exact Calls.quiet_of_same (HCV.out _))
      iterate 2 quiet_step (fail)
      refine wpQuiet_nil ?_
      rintro _ ⟨nq, rfl⟩
      have hdn : Below w0.heap.size w0 (w0.drewN nq) := DrN.below ⟨nq, rfl⟩ _
      have HO1 := Lib.hid (HO.out.below hdn)
      have HM1 := Lib.hid (HM.out.below hdn)
      clear hdn HO HM HCK HCV d0 d1
      generalize w0.drewN nq = w1 at *
      go_upto_region 10 with fail
      go_cut [11] (fun c wx => c = .bool q ∧ w1 = wx)
      case first =>
        as_aux_lemma =>
        rcases Nat.eq_zero_or_pos n7 with h0 | h0
        · subst h0
          obtain rfl : q = true := by rw [← HQ.out]; exact decide_eq_true (.inl HN7.out.symm)
          go_wp2_with fail
          go_meet
          exact ⟨rfl, rfl⟩
        · obtain ⟨j, rfl⟩ : ∃ j, n7 = j + 1 := ⟨n7 - 1, by omega⟩
          obtain ⟨rl, hrl, hll⟩ := last_mem HN7.out.symm
          obtain ⟨b2, o2, rfl, hb2, e0, e1⟩ := (HM1.out.rd encKv_len).at2 j rl hrl
          obtain ⟨ls, hls⟩ : ∃ ls : ByteArray, (⟨rl.k.toArray⟩ : ByteArray) = ls := ⟨_, rfl⟩
          rw [hls] at e0
          have hj1 : ((j + 1 : Nat) : Int) - 1 = (j : Int) := by omega
          have hj2 : (((j + 1 : Nat) : Int) == 0) = false := by rw [beq_eq_false_iff_ne]; omega
          have hj3 : (j : Int) < ((j + 1 : Nat) : Int) := by omega
          have hj0 : (0 : Int) ≤ (j : Int) := by omega
          have hgt : (!Op.bytesLess kc.toList ls.toList && !(kc.toList == ls.toList)) = q := by
            rw [← HQ.out]; exact want_is (by rw [hll, ← hls]) (by have := HN7.out; omega)
          clear hrl hll hls
          go_wp2_with fail
          go_meet
          exact ⟨rfl, rfl⟩
      case rest =>
      obtain ⟨rfl, rfl⟩ := hcut
      have HADD := Lib.hid (add_own HO1.out kc vc (by have := few_body HFW.out (by have := HN7.out; omega); omega))
      rw [HQ.out] at HADD
      have HMR := Lib.hid (fun w' (h : Beside w1 w') => (show OwnK encKv 2 31 w.heap.size w' (.slice a7 n7 c7) ms from h _ _ _ _ _ _ nobd_kv HM1.out))
      clear HO1 HM1
      go_wp2_with fail
      refine HADD.out.mono ?_
      rintro e w4 ⟨rfl, o4, s4⟩
      have HM4 := Lib.hid (HMR.out _ s4)
      have HO4 := Lib.hid o4
      clear o4 s4 HADD HMR
      cases q with
      | true =>
        have hok : addOk ms kc.data.toList := of_decide_eq_true HQ.out
        have HAD : Hid (addK ms ⟨kc.data.toList, vc.data.toList⟩ = ms ++ [⟨kc.data.toList, vc.data.toList⟩]) := Lib.hid (if_pos hok)
        have HCS : Hid ((encKv (⟨kc.data.toList, vc.data.toList⟩ : Kv)).toArray = #[.string kc, .string vc]) := Lib.hid rfl
        rw [HAD.out] at HO4
        clear hok
        go_wp2_with (at_builtin; refine wp_oneK elemK_kv encKv_len _ _ (by rfl) (by rfl) (by rfl) HM4.out (⟨kc.data.toList, vc.data.toList⟩ : Kv) _ HCS.out _ (by rfl) (by rfl) (encKv_one _) ?c1 ?c2 HO4.out.1.size ?_)
        case c1 => have := HN7.out; omega
        case c2 => have := HN7.out; unfold maxLen; omega
        intro v5 w5 o5 b5 u5 n5
        have HO5 := Lib.hid (HO4.out.beside HM4.out nobd_kv u5 (HO4.out.1.trans b5))
        obtain ⟨a5, c5, rfl, -⟩ := o5.kform
        obtain ⟨n9, hn9⟩ : ∃ n9, (ms ++ [(⟨kc.data.toList, vc.data.toList⟩ : Kv)]).length = n9 := ⟨_, rfl⟩
        have HN9 : Hid (n9 = (ms ++ [(⟨kc.data.toList, vc.data.toList⟩ : Kv)]).length) := Lib.hid hn9.symm
        have hn97 : n9 ≤ i + 1 := by have := HN7.out; rw [← hn9, List.length_append, List.length_singleton]; omega
        have HM5 := Lib.hid o5
        rw [hn9] at HM5 ⊢
        have HFW5 : Hid (FewK 40 (ms ++ [(⟨kc.data.toList, vc.data.toList⟩ : Kv)])) := Lib.hid (few_snoc HFW.out ⟨by show kc.data.toList.length ≤ 40; rw [size_toList]; exact hkc, by show vc.data.toList.length ≤ 40; rw [size_toList]; exact hvc⟩)
        clear o5 b5 u5 n5 hn9 HM4 HO4
        go_wp2_with fail
        go_roundg (40 - (i + 1))
        case measure => omega
        case rel => exact ⟨i + 1, _, a5, n9, c5, by go_num, rfl, by omega, Nat.le_refl _, hn97, HN9, HFW5, HO5, HM5⟩
      | false =>
        have hok : ¬ addOk ms kc.data.toList := of_decide_eq_false HQ.out
        have HAD : Hid (addK ms ⟨kc.data.toList, vc.data.toList⟩ = ms) := Lib.hid (if_neg hok)
        rw [HAD.out] at HO4
        clear hok
        go_wp2_with fail
        go_roundg (40 - (i + 1))
        case measure => omega
        case rel => exact ⟨i + 1, ms, a7, n7, c7, by go_num, rfl, by omega, Nat.le_refl _, by omega, HN7, HFW, HO4, HM4⟩
    · go_upto_region 7 with fail
      go_cut [29] (fun c wx => c = .bool false ∧ w0 = wx)
      case first =>
        as_aux_lemma =>
        by_cases h2 : i < len
        · have hi1 : (i : Int) < (len : Int) := by omega
          obtain rfl : i = 40 := by omega
          go_wp2_with fail
          go_meet
          exact ⟨rfl, rfl⟩
        · have hi1 : ¬ (i : Int) < (len : Int) := by omega
          go_wp2_with fail
          go_meet
          exact ⟨rfl, rfl⟩
      case rest =>
      obtain ⟨rfl, rfl⟩ := hcut
      have HSZ : Hid ((bodyB 0 [] ms).length ≤ 10000) := Lib.hid (few_body HFW.out (by have := HN7.out; omega))
      have HBL : Hid ((blockB ms).length ≤ 20000) := Lib.hid (by have := blockB_len ms; have := HSZ.out; have := HN7.out; omega)
      have HRI : Hid (RiseK ms) := Lib.hid (by obtain ⟨-, F, h, -⟩ := HO.out; exact h.1)
      have HRC : Hid (readCk (blockB ms) = some ms) := Lib.hid (readC_lay HRI.out (by have := HBL.out; omega))
      have HBY := Lib.hid (bytes_own HO.out (by have := HSZ.out; omega))
      clear h1
      go_wp2_with fail
      refine HBY.out.mono ?_
      rintro e w5 ⟨v5, rfl, x5, b5⟩
      obtain ⟨a5, n5, c5, rfl, hn5, -⟩ := x5.form
      have HN5 := Lib.hid hn5
      have HX5 := Lib.hid (x5.base HO.out.1.size)
      have HO5 := Lib.hid (HO.out.below b5)
      have HM5 := Lib.hid (HM.out.below b5)
      clear x5 b5 HBY HO HM hn5
      have HR := Lib.hid (bkRead_any (.slice a5 n5 c5) (blockB ms) (by have := HBL.out; omega) w5 HX5.out.rd)
      rw [HRC.out] at HR
      unfold BkReadRes at HR
      simp only [Option.isSome_some, Option.getD_some, if_true] at HR
      go_wp2_with fail
      refine HR.out.mono ?_
      rintro e w6 ⟨v6, rfl, x6, b6⟩
      obtain ⟨a6, c6, rfl, -⟩ := x6.kform
      have HL6 := Lib.hid (x6.rd encKv_len)
      have HX6 := Lib.hid (HX5.out.below b6)
      have HO6 := Lib.hid (HO5.out.below b6)
      have HM6 := Lib.hid (HM5.out.below b6)
      rw [← HN7.out] at HL6 ⊢
      clear x6 b6 HR HX5 HO5 HM5
      have HS := Lib.hid (seek_any (.slice a5 n5 c5) (blockB ms) (by have := HBL.out; omega) key w6 HX6.out.rd)
      rw [HRC.out] at HS
      unfold SeekRes at HS
      simp only [Option.isSome_some, if_true] at HS
      obtain ⟨s, hs⟩ : ∃ s, seekK ms key.data.toList = s := ⟨_, rfl⟩
      have HSS := Lib.hid hs
      have hsl := seekK_le ms key.data.toList
      rw [hs] at HS hsl
      have hsn : s ≤ n7 := by have := HN7.out; omega
      clear hs hsl
      go_wp2_with fail
      refine HS.out.mono ?_
      rintro e w7 ⟨rfl, b7⟩
      have HL := Lib.hid (HL6.out.below b7)
      have HX := Lib.hid (HX6.out.below b7)
      have HO := Lib.hid (HO6.out.below b7)
      have HM := Lib.hid (HM6.out.below b7)
      clear b7 HS HL6 HX6 HO6 HM6
      have hsb : s ≤ 40 := by omega
      go_wp2_with fail
      go_loopg [17] s (fun kk vt wr => ∃ t : Nat, vt = .int .i64 (t : Int) ∧ t ≤ s ∧ s - t ≤ kk ∧ w7 = wr)
      case atStart => exact ⟨0, rfl, by omega, by omega, rfl⟩
      case round =>
        obtain ⟨t, rfl, ht, htk, rfl⟩ := hrel
        have ht0 : (0 : Int) ≤ (t : Int) := by omega
        by_cases h3 : t < s
        · have ht1 : (t : Int) < (n7 : Int) := by omega
          obtain ⟨r, hr⟩ : ∃ r, ms[t]? = some r := ⟨ms[t]'(by have := HN7.out; omega), List.getElem?_eq_getElem _⟩
          obtain ⟨b2, o2, rfl, hb2, e0, e1⟩ := (HM.out.rd encKv_len).at2 t r hr
          obtain ⟨ls, hls⟩ : ∃ ls : ByteArray, (⟨r.k.toArray⟩ : ByteArray) = ls := ⟨_, rfl⟩
          rw [hls] at e0
          have hlt : Op.bytesLess ls.toList key.toList = true := bs_less ls key (by rw [← hls]; exact seekK_lt (by rw [HSS.out]; exact h3) hr)
          clear hr hls
          go_wp2_with fail
          go_roundg (s - (t + 1))
          case measure => omega
          case rel => exact ⟨t + 1, by go_num, by omega, Nat.le_refl _, rfl⟩
        · obtain rfl : t = s := by omega
          go_upto_region 19 with fail
          go_cut [96] (fun c wx => c = .bool false ∧ w7 = wx)
          case first =>
            as_aux_lemma =>
            by_cases h4 : t < n7
            · have ht1 : (t : Int) < (n7 : Int) := by omega
              obtain ⟨r, hr⟩ : ∃ r, ms[t]? = some r := ⟨ms[t]'(by have := HN7.out; omega), List.getElem?_eq_getElem _⟩
              obtain ⟨b2, o2, rfl, hb2, e0, e1⟩ := (HM.out.rd encKv_len).at2 t r hr
              obtain ⟨ls, hls⟩ : ∃ ls : ByteArray, (⟨r.k.toArray⟩ : ByteArray) = ls := ⟨_, rfl⟩
              rw [hls] at e0
              have hlt : Op.bytesLess ls.toList key.toList = false := bs_not ls key (by rw [← hls]; exact seekK_ge (by rw [HSS.out]; exact hr))
              clear hr hls
              go_wp2_with fail
              go_meet
              exact ⟨rfl, rfl⟩
            · have ht1 : ¬ (t : Int) < (n7 : Int) := by omega
              go_wp2_with fail
              go_meet
              exact ⟨rfl, rfl⟩
          case rest =>
          obtain ⟨rfl, rfl⟩ := hcut
          generalize w7 = w0 at *
          have HMB : Hid (ms.length ≤ 1000000000) := Lib.hid (by have := HN7.out; omega)
          have HBL2 : Hid (Calls Try.prog 15 #[.slice a7 n7 c7] w0.drew (MkB (blockB ms) w0.drew)) := Lib.hid (rblock_any _ ms (by have := HSZ.out; omega) w0.drew (OwnK.rd (w := w0.drew) encKv_len HM.out))
          have HSZ2 : Hid (∀ W, BdOwn w W b ms → Calls Try.prog 16 #[.pointer (some ⟨b, 0, none⟩)] W fun e w' => e = .returned (.int .i64 (n5 : Int)) ∧ DrN W w') := Lib.hid fun W h => by rw [HN5.out]; exact size_own h (by have := HSZ.out; omega)
          obtain ⟨BS, hBS⟩ : ∃ BS : ByteArray, (⟨(blockB ms).toArray⟩ : ByteArray) = BS := ⟨_, rfl⟩
          have HBS := Lib.hid hBS
          have hbe := bs_refl BS
          clear hBS HBL
          have HBL := HBL2
          clear HBL2 h3
          go_wp2_with fail
          refine wp_region_held_drew (S := Below w0.heap.size w0) (by kernel_rfl) (Below.refl _ _).drew (fun hHeld => ?_)
          refine takeYes (i := 0) (k := 99) (v := .slice a5 n5 c5) rfl (by kernel_rfl) (by kernel_rfl) (by kernel_rfl) (by kernel_rfl) (fun _ _ _ h => h) (by kernel_rfl) ?_ (by assumption) ?_
          · intro W hSw; first | (go_simp; done) | go_simp
          try simp only [Act.put, List.setIfInBounds_toArray, List.set_cons_zero, List.set_cons_succ]
          refine takeYes (i := 1) (k := 100) (v := .string BS) rfl (by kernel_rfl) (by kernel_rfl) (by kernel_rfl) (by kernel_rfl) (fun _ _ _ h => h) (by kernel_rfl) ?_ (by assumption) ?_
          · intro W hSw; have x9 := (HX.out.rd.below hSw).text; rw [HBS.out] at x9; first | (go_simp; done) | go_simp
          try simp only [Act.put, List.setIfInBounds_toArray, List.set_cons_zero, List.set_cons_succ]
          refine takeYes (i := 2) (k := 101) (v := .slice a7 n7 c7) rfl (by kernel_rfl) (by kernel_rfl) (by kernel_rfl) (by kernel_rfl) (fun _ _ _ h => h) (by kernel_rfl) ?_ (by assumption) ?_
          · intro W hSw; first | (go_simp; done) | go_simp
          try simp only [Act.put, List.setIfInBounds_toArray, List.set_cons_zero, List.set_cons_succ]
          refine wpAnyH_ready (rs := [3]) (by kernel_rfl) (by simp) (AllReadyH.cons rfl (fun K hK => ?_) AllReadyH.nil)
          go_simp
          refine HBL.out.mono ?_
          rintro e q1 ⟨x1, rfl, ox, bx⟩
          have hb0 : Below w0.heap.size w0 q1 := ((Below.refl _ w0).drew).trans bx
          have HO1 := Lib.hid (HO.out.below hb0)
          have HM1 := Lib.hid ((HM.out.rd encKv_len).below hb0)
          have HL1 := Lib.hid (HL.out.below hb0)
          have HC1 := Lib.hid ox.rd
          obtain ⟨ax, nx, cx, rfl, -⟩ := ox.form
          refine hK.out _ _ hb0 (fun _ => wpAnyH_shift hb0 ?_)
          clear hK K hHeld ox bx hb0 HO HM HL HBL
          try simp only [Act.put, List.setIfInBounds_toArray, List.set_cons_zero, List.set_cons_succ]
          refine takeYes (i := 4) (k := 103) (v := .string BS) rfl (by kernel_rfl) (by kernel_rfl) (by kernel_rfl) (by kernel_rfl) (fun _ _ _ h => h) (by kernel_rfl) ?_ (Below.refl _ _) ?_
          · intro W hSw; have x9 := (HC1.out.below hSw).text; rw [HBS.out] at x9; first | (go_simp; done) | go_simp
          try simp only [Act.put, List.setIfInBounds_toArray, List.set_cons_zero, List.set_cons_succ]
          refine takeYes (i := 5) (k := 104) (v := .bool true) rfl (by kernel_rfl) (by kernel_rfl) (by kernel_rfl) (by kernel_rfl) (fun _ _ _ h => h) (by kernel_rfl) ?_ (Below.refl _ _) ?_
          · intro W hSw; first | (go_simp; done) | go_simp
          try simp only [Act.put, List.setIfInBounds_toArray, List.set_cons_zero, List.set_cons_succ]
          refine takeYes (i := 6) (k := 105) (v := .bool true) rfl (by kernel_rfl) (by kernel_rfl) (by kernel_rfl) (by kernel_rfl) (fun _ _ _ h => h) (by kernel_rfl) ?_ (Below.refl _ _) ?_
          · intro W hSw; first | (go_simp; done) | go_simp
          try simp only [Act.put, List.setIfInBounds_toArray, List.set_cons_zero, List.set_cons_succ]
          refine takeYes (i := 7) (k := 106) (v := .pointer (some ⟨b, 0, none⟩)) rfl (by kernel_rfl) (by kernel_rfl) (by kernel_rfl) (by kernel_rfl) (fun _ _ _ h => h) (by kernel_rfl) ?_ (Below.refl _ _) ?_
          · intro W hSw; first | (go_simp; done) | go_simp
          try simp only [Act.put, List.setIfInBounds_toArray, List.set_cons_zero, List.set_cons_succ]
          refine takeYes (i := 9) (k := 108) (v := .slice a5 n5 c5) rfl (by kernel_rfl) (by kernel_rfl) (by kernel_rfl) (by kernel_rfl) (fun _ _ _ h => h) (by kernel_rfl) ?_ (Below.refl _ _) ?_
          · intro W hSw; first | (go_simp; done) | go_simp
          try simp only [Act.put, List.setIfInBounds_toArray, List.set_cons_zero, List.set_cons_succ]
          refine takeYes (i := 10) (k := 109) (v := .int .i64 (n5 : Int)) rfl (by kernel_rfl) (by kernel_rfl) (by kernel_rfl) (by kernel_rfl) (fun _ _ _ h => h) (by kernel_rfl) ?_ (Below.refl _ _) ?_
          · intro W hSw; first | (go_simp; done) | go_simp
          try simp only [Act.put, List.setIfInBounds_toArray, List.set_cons_zero, List.set_cons_succ]
          refine wpAnyH_ready (rs := [8]) (by kernel_rfl) (by simp) (AllReadyH.cons rfl (fun K hK => ?_) AllReadyH.nil)
          go_simp
          refine (HSZ2.out _ HO1.out).mono ?_
          rintro e q2 ⟨rfl, d2⟩
          have hb2 := d2.below q1.heap.size
          have HO2 := Lib.hid (HO1.out.below hb2)
          have HM2 := Lib.hid (HM1.out.below hb2)
          have HL2 := Lib.hid (HL1.out.below hb2)
          refine hK.out _ _ hb2 (fun _ => wpAnyH_shift hb2 ?_)
          clear hK K d2 hb2 HO1 HM1 HL1 HC1
          try simp only [Act.put, List.setIfInBounds_toArray, List.set_cons_zero, List.set_cons_succ]
          refine takeYes (i := 11) (k := 110) (v := .bool true) rfl (by kernel_rfl) (by kernel_rfl) (by kernel_rfl) (by kernel_rfl) (fun _ _ _ h => h) (by kernel_rfl) ?_ (Below.refl _ _) ?_
          · intro W hSw; first | (go_simp; done) | go_simp
          try simp only [Act.put, List.setIfInBounds_toArray, List.set_cons_zero, List.set_cons_succ]
          refine takeYes (i := 12) (k := 111) (v := .bool true) rfl (by kernel_rfl) (by kernel_rfl) (by kernel_rfl) (by kernel_rfl) (fun _ _ _ h => h) (by kernel_rfl) ?_ (Below.refl _ _) ?_
          · intro W hSw; first | (go_simp; done) | go_simp
          try simp only [Act.put, List.setIfInBounds_toArray, List.set_cons_zero, List.set_cons_succ]
          refine takeYes (i := 13) (k := 112) (v := .bool true) rfl (by kernel_rfl) (by kernel_rfl) (by kernel_rfl) (by kernel_rfl) (fun _ _ _ h => h) (by kernel_rfl) ?_ (Below.refl _ _) ?_
          · intro W hSw; first | (go_simp; done) | go_simp
          try simp only [Act.put, List.setIfInBounds_toArray, List.set_cons_zero, List.set_cons_succ]
          refine takeYes (i := 14) (k := 113) (v := .int .i64 0) rfl (by kernel_rfl) (by kernel_rfl) (by kernel_rfl) (by kernel_rfl) (fun _ _ _ h => h) (by kernel_rfl) ?_ (Below.refl _ _) ?_
          · intro W hSw; first | (go_simp; done) | go_simp
          try simp only [Act.put, List.setIfInBounds_toArray, List.set_cons_zero, List.set_cons_succ]
          refine takeYes (i := 15) (k := 114) (v := .bool true) rfl (by kernel_rfl) (by kernel_rfl) (by kernel_rfl) (by kernel_rfl) (fun _ _ _ h => h) (by kernel_rfl) ?_ (Below.refl _ _) ?_
          · intro W hSw; first | (go_simp; done) | go_simp
          try simp only [Act.put, List.setIfInBounds_toArray, List.set_cons_zero, List.set_cons_succ]
          refine takeYes (i := 16) (k := 115) (v := .bool true) rfl (by kernel_rfl) (by kernel_rfl) (by kernel_rfl) (by kernel_rfl) (fun _ _ _ h => h) (by kernel_rfl) ?_ (Below.refl _ _) ?_
          · intro W hSw; first | (go_simp; done) | go_simp
          try simp only [Act.put, List.setIfInBounds_toArray, List.set_cons_zero, List.set_cons_succ]
          refine takeYes (i := 17) (k := 116) (v := .bool true) rfl (by kernel_rfl) (by kernel_rfl) (by kernel_rfl) (by kernel_rfl) (fun _ _ _ h => h) (by kernel_rfl) ?_ (Below.refl _ _) ?_
          · intro W hSw; first | (go_simp; done) | go_simp
          try simp only [Act.put, List.setIfInBounds_toArray, List.set_cons_zero, List.set_cons_succ]
          refine takeYes (i := 18) (k := 117) (v := .slice a6 n7 c6) rfl (by kernel_rfl) (by kernel_rfl) (by kernel_rfl) (by kernel_rfl) (fun _ _ _ h => h) (by kernel_rfl) ?_ (Below.refl _ _) ?_
          · intro W hSw; first | (go_simp; done) | go_simp
          try simp only [Act.put, List.setIfInBounds_toArray, List.set_cons_zero, List.set_cons_succ]
          refine takeYes (i := 19) (k := 118) (v := .slice a7 n7 c7) rfl (by kernel_rfl) (by kernel_rfl) (by kernel_rfl) (by kernel_rfl) (fun _ _ _ h => h) (by kernel_rfl) ?_ (Below.refl _ _) ?_
          · intro W hSw; first | (go_simp; done) | go_simp
          try simp only [Act.put, List.setIfInBounds_toArray, List.set_cons_zero, List.set_cons_succ]
          refine wpAnyH_ready (rs := [20]) (by kernel_rfl) (by simp) (AllReadyH.cons rfl (fun K hK => ?_) AllReadyH.nil)
          go_simp
          refine (same_yes _ _ ms HMB.out q2 HL2.out HM2.out).mono ?_
          rintro e q3 ⟨rfl, d3⟩
          have hb3 := d3.below q2.heap.size
          have HO3 := Lib.hid (HO2.out.below hb3)
          refine hK.out _ _ hb3 (fun _ => wpAnyH_shift hb3 ?_)
          clear hK K d3 hb3 HO2 HM2 HL2
          try simp only [Act.put, List.setIfInBounds_toArray, List.set_cons_zero, List.set_cons_succ]
          refine takeYes (i := 21) (k := 120) (v := .bool true) rfl (by kernel_rfl) (by kernel_rfl) (by kernel_rfl) (by kernel_rfl) (fun _ _ _ h => h) (by kernel_rfl) ?_ (Below.refl _ _) ?_
          · intro W hSw; first | (go_simp; done) | go_simp
          try simp only [Act.put, List.setIfInBounds_toArray, List.set_cons_zero, List.set_cons_succ]
          refine takeYes (i := 22) (k := 121) (v := .bool true) rfl (by kernel_rfl) (by kernel_rfl) (by kernel_rfl) (by kernel_rfl) (fun _ _ _ h => h) (by kernel_rfl) ?_ (Below.refl _ _) ?_
          · intro W hSw; first | (go_simp; done) | go_simp
          try simp only [Act.put, List.setIfInBounds_toArray, List.set_cons_zero, List.set_cons_succ]
          refine takeYes (i := 23) (k := 122) (v := .int .i64 0) rfl (by kernel_rfl) (by kernel_rfl) (by kernel_rfl) (by kernel_rfl) (fun _ _ _ h => h) (by kernel_rfl) ?_ (Below.refl _ _) ?_
          · intro W hSw; first | (go_simp; done) | go_simp
          try simp only [Act.put, List.setIfInBounds_toArray, List.set_cons_zero, List.set_cons_succ]
          refine takeYes (i := 24) (k := 123) (v := .bool true) rfl (by kernel_rfl) (by kernel_rfl) (by kernel_rfl) (by kernel_rfl) (fun _ _ _ h => h) (by kernel_rfl) ?_ (Below.refl _ _) ?_
          · intro W hSw; first | (go_simp; done) | go_simp
          try simp only [Act.put, List.setIfInBounds_toArray, List.set_cons_zero, List.set_cons_succ]
          refine takeYes (i := 25) (k := 124) (v := .bool true) rfl (by kernel_rfl) (by kernel_rfl) (by kernel_rfl) (by kernel_rfl) (fun _ _ _ h => h) (by kernel_rfl) ?_ (Below.refl _ _) ?_
          · intro W hSw; first | (go_simp; done) | go_simp
          try simp only [Act.put, List.setIfInBounds_toArray, List.set_cons_zero, List.set_cons_succ]
          refine takeYes (i := 26) (k := 125) (v := .bool true) rfl (by kernel_rfl) (by kernel_rfl) (by kernel_rfl) (by kernel_rfl) (fun _ _ _ h => h) (by kernel_rfl) ?_ (Below.refl _ _) ?_
          · intro W hSw; first | (go_simp; done) | go_simp
          try simp only [Act.put, List.setIfInBounds_toArray, List.set_cons_zero, List.set_cons_succ]
          refine takeYes (i := 27) (k := 126) (v := .int .i64 (t : Int)) rfl (by kernel_rfl) (by kernel_rfl) (by kernel_rfl) (by kernel_rfl) (fun _ _ _ h => h) (by kernel_rfl) ?_ (Below.refl _ _) ?_
          · intro W hSw; first | (go_simp; done) | go_simp
          try simp only [Act.put, List.setIfInBounds_toArray, List.set_cons_zero, List.set_cons_succ]
          refine takeYes (i := 28) (k := 127) (v := .int .i64 (t : Int)) rfl (by kernel_rfl) (by kernel_rfl) (by kernel_rfl) (by kernel_rfl) (fun _ _ _ h => h) (by kernel_rfl) ?_ (Below.refl _ _) ?_
          · intro W hSw; first | (go_simp; done) | go_simp
          try simp only [Act.put, List.setIfInBounds_toArray, List.set_cons_zero, List.set_cons_succ]
          refine takeYes (i := 29) (k := 128) (v := .bool true) rfl (by kernel_rfl) (by kernel_rfl) (by kernel_rfl) (by kernel_rfl) (fun _ _ _ h => h) (by kernel_rfl) ?_ (Below.refl _ _) ?_
          · intro W hSw; first | (go_simp; done) | go_simp
          try simp only [Act.put, List.setIfInBounds_toArray, List.set_cons_zero, List.set_cons_succ]
          refine takeYes (i := 30) (k := 129) (v := .bool true) rfl (by kernel_rfl) (by kernel_rfl) (by kernel_rfl) (by kernel_rfl) (fun _ _ _ h => h) (by kernel_rfl) ?_ (Below.refl _ _) ?_
          · intro W hSw; first | (go_simp; done) | go_simp
          try simp only [Act.put, List.setIfInBounds_toArray, List.set_cons_zero, List.set_cons_succ]
          refine takeYes (i := 31) (k := 4) (v := .bool true) rfl (by kernel_rfl) (by kernel_rfl) (by kernel_rfl) (by kernel_rfl) (fun _ _ _ h => h) (by kernel_rfl) ?_ (Below.refl _ _) ?_
          · intro W hSw; first | (go_simp; done) | go_simp
          try simp only [Act.put, List.setIfInBounds_toArray, List.set_cons_zero, List.set_cons_succ]
          refine wpAnyH_done (by kernel_rfl) ?_ _
          go_wp2_with fail
          go_ret
          exact ⟨rfl, HO3.out.1⟩
end Go.Proofs.Ytaddihabjdoihaa
