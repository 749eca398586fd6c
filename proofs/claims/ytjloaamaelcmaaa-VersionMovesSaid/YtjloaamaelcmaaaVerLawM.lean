/- The walk of incipitlaw20.VersionMoves. -/
import Derived.Test.YtjloaamaelcmaaaVerMov
import Derived.Test.YtjloaamaelcmaaaVerBegun
import Derived.Test.YtjloaamaelcmaaaVerROv
import Derived.Deep.QuietTactic
import Derived.BigQuiet
namespace Go.Proofs.Ytjloaamaelcmaaa
set_option linter.unusedVariables false
set_option maxRecDepth 100000
open Go.RowKit
theorem tmod_nat (z : Int) {n : Nat} (h : 1 ≤ n) : ∃ K : Nat, K < n ∧ (z.tmod (n : Int) = (K : Int) ∨ z.tmod (n : Int) = -(K : Int)) := by
  have h1 := Int.natAbs_tmod z (n : Int)
  rw [Int.natAbs_natCast] at h1
  have h2 : z.natAbs % n < n := Nat.mod_lt _ (by omega)
  exact ⟨z.natAbs % n, h2, by omega⟩
set_option maxHeartbeats 16000000 in
theorem versionMoves_walk (w : World) (xn : Int) (hxn : (Lit.int .i64 xn).wf = true) (ma : Option Addr) (len cap : Nat) (zs : List Int) (hz : RdV w (.slice ma len cap) (zs.map (Value.int .i64))) (hzw : ∀ n ∈ zs, (Lit.int .i64 n).wf = true) : Calls Try.prog 6 #[.int .i64 xn, .slice ma len cap] w fun e w' => e = .returned (.bool true) ∧ Below w.heap.size w w' := by
  have HBG := Lib.hid (vbegun_any w)
  have HZ : Hid (RdV w (.slice ma len cap) (zs.map encI64)) := Lib.hid hz
  obtain ⟨am, cm, em⟩ := edInts_len HZ.out
  simp only [Value.slice.injEq] at em
  have HZL := Lib.hid em.2.1
  have HZW := Lib.hid hzw
  clear hxn hz hzw em
  go_enter Try.func6, Try.ntmps6
  go_wp2_with fail
  refine HBG.out.mono ?_
  rintro e w1 ⟨rfl, hb⟩
  have HB1 := Lib.hid hb
  clear hb HBG
  by_cases q1 : xn < 1
  · go_wp2_with fail
    go_ret
    exact ⟨rfl, HB1.out⟩
  by_cases q2 : 20 < xn
  · go_wp2_with fail
    go_ret
    exact ⟨rfl, HB1.out⟩
  obtain ⟨n, rfl⟩ : ∃ n : Nat, xn = (n : Int) := ⟨xn.toNat, by omega⟩
  have hn1 : 1 ≤ n := by omega
  have hn : n ≤ 20 := by omega
  have hnI : (n : Int) ≤ 20 := by omega
  have HNEW := Lib.hid (vnew_any w1)
  have HV0 := Lib.hid (vnew_at w1 w1.heap.size)
  have HB0 := Lib.hid (HB1.out.alloc HB1.out.size (.cells #[.slice none 0 0, .int .i64 0, .int .i64 0, .int .i64 0] 58))
  have hge := HB1.out.size
  go_wp2_with fail
  refine HNEW.out.mono ?_
  rintro e w2 ⟨rfl, hw2⟩
  have hs2 : w2.heap.size = w1.heap.size + 1 := by rw [hw2]; simp
  rw [← hw2] at HV0 HB0
  clear HNEW hw2 HB1
  obtain ⟨c, hc⟩ : ∃ c, w1.heap.size = c := ⟨_, rfl⟩
  rw [hc] at HV0 hge hs2 ⊢
  clear hc
  have hmk := mkK_run (enc := encNt) elem_nt .i64 n (by omega) (by unfold maxLen; omega) w2
  have HLV := Lib.hid (mkK_own (E := 3) encNt_len 0 #[.int .i64 0] rfl n (by unfold maxLen; omega) w2)
  have hal : Below w2.heap.size w2 (w2.alloc (.cells (madeCells #[.int .i64 0] (n * 1)) 3)) := (Below.refl _ _).alloc (Nat.le_refl _) _
  have HV3 := Lib.hid (HV0.out.below hal)
  have HB3 := Lib.hid (HB0.out.trans (hal.mono HB0.out.size))
  have hmk2 : (Instr.makeSlice 47 (.int .i64 (n : Int)) (.int .i64 (n : Int))).run Try.prog w2 = .ok (.slice (some ⟨w2.heap.size, 0, none⟩) n n) (w2.alloc (.cells (madeCells #[.int .i64 0] (n * 1)) 3)) := hmk
  clear hmk hal HV0 HB0
  generalize w2.alloc (.cells (madeCells #[.int .i64 0] (n * 1)) 3) = w3 at *
  obtain ⟨g, hg⟩ : ∃ g, w2.heap.size = g := ⟨_, rfl⟩
  have hgc : c ≤ g := by omega
  rw [hg] at HLV hmk2
  clear hg hs2
  go_wp2_with fail
  clear hmk2
  have HBz := Lib.hid (Below.refl w3.heap.size w3)
  go_wp2_with fail
  go_loopg [7, 9, 10] n (fun kk va vi _ wr => ∃ (i : Nat) (al : Option Addr) (cl : Nat), vi = .int .i64 (i : Int) ∧ va = .slice al i cl ∧ i ≤ n ∧ n - i ≤ kk ∧ Hid (OwnK encTbf 5 43 w3.heap.size wr (.slice al i cl) (mvL (List.replicate i 0))) ∧ Hid (Below w3.heap.size w3 wr))
  case atStart => exact ⟨0, none, 0, rfl, rfl, by omega, by omega, Lib.hid (OwnK.nil _ _ _ _ _), HBz⟩
  case round =>
    clear HBz
    obtain ⟨i, al, cl, rfl, rfl, hi, hik, HY, HB⟩ := hrel
    have hi0 : (0 : Int) ≤ (i : Int) := by omega
    by_cases h1 : i < n
    · have hd1 : (i : Int) < (n : Int) := by omega
      have hd2 : (i : Int) ≤ 20 := by omega
      have hc1 := conv_let wr i (by omega)
      have hal : Below wr.heap.size wr (wr.alloc (.cells #[.int .u8 (97 + (i : Int))] 5)) := (Below.refl _ wr).alloc (Nat.le_refl _) _
      have HY1 := Lib.hid (HY.out.below hal)
      have HB1 := Lib.hid (HB.out.trans (hal.mono HB.out.size))
      have hsz := HB1.out.size
      have hss : (wr.alloc (.cells #[.int .u8 (97 + (i : Int))] 5)).heap.size = wr.heap.size + 1 := by simp
      have HLN : Hid ((mvL (List.replicate i 0)).length = i) := Lib.hid (by rw [mvL_len, List.length_replicate])
      clear HY HB hal
      go_wp2_with (at_builtin; refine wp_appHK elem_tbf encTbf_len _ _ (by rfl) (by rfl) (by rfl) HY1.out ⟨(i : Int) + 1, 0, 0, ltr i, ltr i⟩ _ (by rfl) hss ?c1 ?c2 ?c3 hsz ?_)
      case c1 => exact tbf_cells _
      case c2 => have := HLN.out; omega
      case c3 => have := HLN.out; unfold maxLen; omega
      intro v6 w6 o6 b6
      have o7 : OwnK encTbf 5 43 w3.heap.size w6 v6 (mvL (List.replicate (i + 1) 0)) := by rw [mvL_rep]; exact o6
      obtain ⟨a6, k6, rfl⟩ := fil_form o7
      have e6 : (mvL (List.replicate (i + 1) 0)).length = i + 1 := by rw [mvL_len, List.length_replicate]
      rw [e6] at o7 ⊢
      have HO6 := Lib.hid o7
      have HB6 := Lib.hid (HB1.out.trans b6)
      clear o6 o7 b6 e6 HY1 HB1 hsz hss HLN hc1
      go_wp2_with fail
      go_roundg (n - (i + 1))
      case measure => omega
      case rel => exact ⟨i + 1, a6, k6, by go_num, rfl, by omega, Nat.le_refl _, HO6, HB6⟩
    · obtain rfl : n = i := by omega
      have hd1 : ¬ (n : Int) < (n : Int) := by omega
      have HED : Hid (EdAt wr (.agg #[.int .i64 ((n : Int) + 1), .int .i64 0, .int .i64 0, .slice al n cl, .slice none 0 0]) (mvE n)) := Lib.hid ⟨_, _, rfl, HY.out.rd encTbf_len, RdV.nil _ _ _⟩
      have HV := Lib.hid (HV3.out.below HB.out)
      have hcw : c ≤ wr.heap.size := by have := HV.out.lt; omega
      have HAP := Lib.hid (vapply_any HV.out hcw _ _ HED.out (mvE_ok hn))
      have hc3 : c ≤ w3.heap.size := by have := HV3.out.lt; omega
      have HM0 : Hid (∀ (w' : World) (V' : Ver), UpdF (fun j => j = c) wr w' → VerAt c w' c V' → vSame (mvV (List.replicate n 0)) V' → MvAt w w' c g n al cl V' (List.replicate n 0) (List.replicate n 0)) := Lib.hid fun w' V' u hv hs => by
        obtain ⟨tv, n0, hb, -, -⟩ := HV.out.blk
        have hl := ((HLV.out.below HB.out).base hgc).asideT u hb (by decide)
        have ha := (HY.out.base hc3).asideT u hb (by decide)
        have hbr := HB3.out.trans (HB.out.mono HB3.out.size)
        exact ⟨hv, hs, hl, ha, fun l hl => by rw [List.eq_of_mem_replicate hl]; omega, List.length_replicate, List.length_replicate, hge, hbr.trans (UpdF.below u hbr.size fun j hj e => by omega)⟩
      clear HY HB HED HV HV3 HB3 HLV hcw hc3 hgc
      go_wp2_with fail
      refine HAP.out.mono ?_
      rintro e w4 ⟨k, V, rfl, hv, hu, -, h2⟩
      obtain ⟨rfl, hs⟩ := h2 _ (mvE_is hn1 hn)
      have HM := Lib.hid (HM0.out w4 V hu hv hs)
      clear hv hu h2 hs HAP HM0
      go_wp2_with fail
      have HL0 : Hid (∃ (V : Ver) (lv : List Nat), MvAt w w4 c g n al cl V lv lv) := Lib.hid ⟨_, _, HM.out⟩
      clear HM
      go_wp2_with fail
      go_loopg [11, 12, 13] 30 (fun kk vi _ _ wr => ∃ i : Nat, vi = .int .i64 (i : Int) ∧ i ≤ 30 ∧ 30 - i ≤ kk ∧ Hid (∃ (V : Ver) (lv : List Nat), MvAt w wr c g n al cl V lv lv))
      case atStart => exact ⟨0, rfl, by omega, by omega, HL0⟩
      case round =>
        clear HL0
        obtain ⟨i, rfl, hi, hik, HL⟩ := hrel
        have hi0 : (0 : Int) ≤ (i : Int) := by omega
        obtain ⟨Q, hQ⟩ : ∃ Q : Bool, decide (i < len ∧ i < 30) = Q := ⟨_, rfl⟩
        have HQ := Lib.hid hQ
        clear hQ
        go_upto_region 17 with fail
        go_cut [63] (fun v wx => v = .bool Q ∧ wr = wx)
        case first =>
          by_cases h1 : i < len
          · have hd1 : (i : Int) < (len : Int) := by omega
            by_cases h2 : i < 30
            · obtain rfl : Q = true := by rw [← HQ.out]; exact decide_eq_true ⟨h1, h2⟩
              have hd2 : (i : Int) < 30 := by omega
              go_wp2_with fail
              go_meet
              exact ⟨rfl, rfl⟩
            · obtain rfl : Q = false := by rw [← HQ.out]; exact decide_eq_false fun h => h2 h.2
              have hd2 : ¬ (i : Int) < 30 := by omega
              go_wp2_with fail
              go_meet
              exact ⟨rfl, rfl⟩
          · obtain rfl : Q = false := by rw [← HQ.out]; exact decide_eq_false fun h => h1 h.1
            have hd1 : ¬ (i : Int) < (len : Int) := by omega
            go_wp2_with fail
            go_meet
            exact ⟨rfl, rfl⟩
        case rest =>
        obtain ⟨rfl, rfl⟩ := hcut
        cases Q with
        | false =>
          clear HQ
          obtain ⟨we, rfl⟩ : ∃ x, x = wr := ⟨_, rfl⟩
          obtain ⟨V, lv, hM⟩ := HL.out
          have HM := Lib.hid hM
          clear hM HL
          have HGD := Lib.hid HM.out.v.good
          have HLV : Hid (∀ (W1 : World) (k : Int), Below we.heap.size we W1 → Calls Try.prog 17 #[.pointer (some ⟨c, 0, none⟩), .int .i64 k] W1 (FilsTo W1 (V.fs.filter fun f => decide (f.lvl = k)))) := Lib.hid fun W1 k hW => vlevel_raw (HM.out.v.below hW) k
          have HAL : Hid (∀ W1 : World, Below we.heap.size we W1 → Calls Try.prog 18 #[.pointer (some ⟨c, 0, none⟩)] W1 (FilsTo W1 V.fs)) := Lib.hid fun W1 hW => vall_any (HM.out.v.below hW)
          have HLEN : Hid (V.fs.length = n) := Lib.hid (by rw [← HM.out.s.1.length_eq]; show (mvL lv).length = n; rw [mvL_len]; exact HM.out.len)
          have HCNT : Hid (∀ k : Nat, (V.fs.filter fun f => decide (f.lvl = (k : Int))).length = mvC lv k) := Lib.hid fun k => mv_count HM.out.s k
          have HORD : Hid (∀ k : Nat, (V.fs.filter fun f => decide (f.lvl = (k : Int))).Pairwise (vBef k)) := Lib.hid fun k => mv_order HM.out.v.good HM.out.v.srt k
          have HLL := Lib.hid HM.out.len
          have HBW := Lib.hid HM.out.bel
          have HC : Hid (∀ (W1 : World) (j x : Nat), Below we.heap.size we W1 → lv[j]? = some x → W1.cell? ⟨g, j, none⟩ = some (.int .i64 (x : Int))) := Lib.hid fun W1 j x hW hx => by
            have hc := (HM.out.cell j x hx).1
            exact (hW.cell (p := ⟨g, j, none⟩) (World.block_lt_of_cell? we _ hc)).trans hc
          have HBz := Lib.hid (Below.refl we.heap.size we)
          clear HM HGD
          go_wp2_with fail
          generalize V.fs = fs at *
          go_loopg [14, 15, 16, 17, 18] 5 (fun kk vk _ _ _ _ wq => ∃ k : Nat, vk = .int .i64 (k : Int) ∧ k ≤ 5 ∧ 5 - k ≤ kk ∧ Hid (Below we.heap.size we wq))
          case atStart => exact ⟨0, rfl, by omega, by omega, HBz⟩
          case round =>
            clear HBz
            obtain ⟨k, rfl, hk, hkk, HB⟩ := hrel
            have hk0 : (0 : Int) ≤ (k : Int) := by omega
            by_cases h5 : k < 5
            · have hkI : (k : Int) < 5 := by omega
              obtain ⟨wf, rfl⟩ : ∃ x, x = wr := ⟨_, rfl⟩
              go_wp2_with fail
              go_loopg [15, 16] n (fun kk vc vj wq => ∃ j : Nat, vj = .int .i64 (j : Int) ∧ vc = .int .i64 ((mvC (lv.take j) k : Nat) : Int) ∧ j ≤ n ∧ n - j ≤ kk ∧ Hid (Below we.heap.size we wq))
              case atStart => exact ⟨0, rfl, rfl, by omega, by omega, HB⟩
              case round =>
                clear HB
                obtain ⟨j, rfl, rfl, hj, hjk, HB⟩ := hrel
                have hj0 : (0 : Int) ≤ (j : Int) := by omega
                have hcb : mvC (lv.take j) k ≤ 20 := by have := mvC_le (lv.take j) k; rw [List.length_take] at this; omega
                by_cases h6 : j < n
                · have hdj : (j : Int) < (n : Int) := by omega
                  have hjb : (j : Int) ≤ 20 := by omega
                  obtain ⟨x, hx⟩ : ∃ x, lv[j]? = some x := ⟨lv[j]'(by have := HLL.out; omega), List.getElem?_eq_getElem _⟩
                  have hcx := HC.out wr j x HB.out hx
                  have HT : Hid (mvC (lv.take (j + 1)) k = if x = k then mvC (lv.take j) k + 1 else mvC (lv.take j) k) := Lib.hid (by
                    rw [List.take_add_one, hx]
                    exact mvC_snoc _ k x)
                  obtain ⟨S, hS⟩ : ∃ S, mvC (lv.take j) k = S := ⟨_, rfl⟩
                  rw [hS] at HT hcb ⊢
                  have hSI : (S : Int) ≤ 20 := by omega
                  have hSI0 : (0 : Int) ≤ (S : Int) := by omega
                  clear hS hx
                  by_cases h7 : x = k
                  · have HE : Hid (mvC (lv.take (j + 1)) k = S + 1) := Lib.hid (by rw [HT.out, if_pos h7])
                    subst h7
                    clear HT
                    go_wp2_with fail
                    go_roundg (n - (j + 1))
                    case measure => omega
                    case rel => exact ⟨j + 1, by go_num, by rw [HE.out]; go_num, by omega, Nat.le_refl _, HB⟩
                  · have HE : Hid (mvC (lv.take (j + 1)) k = S) := Lib.hid (by rw [HT.out, if_neg h7])
                    have hxk : ((x : Int) == (k : Int)) = false := by rw [beq_eq_false_iff_ne]; omega
                    have hxk2 : ¬ (x : Int) = (k : Int) := by omega
                    clear HT
                    go_wp2_with fail
                    go_roundg (n - (j + 1))
                    case measure => omega
                    case rel => exact ⟨j + 1, by go_num, by rw [HE.out], by omega, Nat.le_refl _, HB⟩
                · obtain rfl : n = j := by omega
                  have hdj : ¬ (n : Int) < (n : Int) := by omega
                  have hT : mvC (lv.take n) k = mvC lv k := by rw [List.take_of_length_le (by have := HLL.out; omega)]
                  rw [hT] at hcb ⊢
                  have hL := HLV.out wr (k : Int) HB.out
                  have hY := HCNT.out k
                  have hO := HORD.out k
                  generalize (fs.filter fun f => decide (f.lvl = (k : Int))) = ys at hL hY hO
                  have HL5 := Lib.hid hL
                  have HO := Lib.hid hO
                  obtain ⟨N, hN⟩ : ∃ N, mvC lv k = N := ⟨_, rfl⟩
                  rw [hN] at hY hcb ⊢
                  have HN := Lib.hid hY
                  clear hL hY hO hT hN
                  go_wp2_with fail
                  refine HL5.out.mono ?_
                  rintro e w5 ⟨u, rfl, ho, hb⟩
                  obtain ⟨a5, c5, rfl⟩ := fil_form ho
                  rw [HN.out]
                  have HB5 := Lib.hid (HB.out.trans (hb.mono HB.out.size))
                  have HR5 : Hid (RdK encTbf 5 w5 (.slice a5 N c5) ys) := Lib.hid (by have := ho.rd encTbf_len; rwa [HN.out] at this)
                  have HZ5 := Lib.hid (Below.refl w5.heap.size w5)
                  have hbne : ((N : Int) != (N : Int)) = false := by simp
                  clear ho hb HL5 HB
                  go_wp2_with fail
                  go_loopg [18] N (fun kk vi wq => ∃ i : Nat, vi = .int .i64 ((i : Int) + 1) ∧ (i + 1 ≤ N ∨ i = 0) ∧ N - i ≤ kk ∧ Hid (Below w5.heap.size w5 wq))
                  case atStart => exact ⟨0, rfl, by omega, by omega, HZ5⟩
                  case round =>
                    clear HZ5
                    obtain ⟨q, rfl, hq, hqk, HBq⟩ := hrel
                    have hd0 : (0 : Int) ≤ (q : Int) := by omega
                    by_cases h8 : q + 1 < N
                    · have hd2 : (q : Int) + 1 < (N : Int) := by omega
                      obtain ⟨x, hx⟩ : ∃ x, ys[q]? = some x := ⟨ys[q]'(by have := HN.out; omega), List.getElem?_eq_getElem _⟩
                      obtain ⟨y, hy⟩ : ∃ y, ys[q + 1]? = some y := ⟨ys[q + 1]'(by have := HN.out; omega), List.getElem?_eq_getElem _⟩
                      obtain ⟨bb, off, rfl, hblt, d0, d1, d2, d3, d4⟩ := (HR5.out.below HBq.out).atTbf q x hx
                      obtain ⟨b', off', e', -, e0, e1, e2, e3, e4⟩ := (HR5.out.below HBq.out).atTbf (q + 1) y hy
                      simp only [Option.some.injEq, Addr.mk.injEq] at e'
                      obtain ⟨rfl, rfl, -⟩ := e'
                      have hbf : vBef (k : Int) x y := by
                        obtain ⟨p1, p2⟩ := List.getElem?_eq_some_iff.1 hx
                        obtain ⟨p3, p4⟩ := List.getElem?_eq_some_iff.1 hy
                        have := List.pairwise_iff_getElem.1 HO.out q (q + 1) p1 p3 (by omega)
                        rwa [p2, p4] at this
                      have hqs : IntKind.i64.wrap ((q : Int) + 1 - 1) = (q : Int) := by rw [show (q : Int) + 1 - 1 = (q : Int) by omega]; exact IntWalk.i64_in _ (by omega)
                      have hN0 : (q : Int) < (N : Int) := by omega
                      have hqb : (q : Int) ≤ 1000 := by omega
                      have HCX : Hid (∀ W : World, Below w5.heap.size w5 W → W.cell? ⟨bb, off + q * 5, none⟩ = some (.int .i64 x.num) ∧ W.cell? ⟨bb, off + q * 5 + 3, none⟩ = some (.string x.lo) ∧ W.cell? ⟨bb, off + (q + 1) * 5, none⟩ = some (.int .i64 y.num) ∧ W.cell? ⟨bb, off + (q + 1) * 5 + 3, none⟩ = some (.string y.lo)) := Lib.hid fun W hW => by
                        obtain ⟨b1, o1, q1, -, d0, d1, d2, d3, d4⟩ := (HR5.out.below hW).atTbf q x hx
                        obtain ⟨b2, o2, q2, -, e0, e1, e2, e3, e4⟩ := (HR5.out.below hW).atTbf (q + 1) y hy
                        simp only [Option.some.injEq, Addr.mk.injEq] at q1 q2
                        obtain ⟨rfl, rfl, -⟩ := q1
                        obtain ⟨rfl, rfl, -⟩ := q2
                        exact ⟨d0, d3, e0, e3⟩
                      have eq3 : (q : Int) + 1 - 1 = (q : Int) := by omega
                      have wq : IntKind.i64.wrap (q : Int) = (q : Int) := IntWalk.i64_in _ (by omega)
                      have bq3 : (0 : Int) ≤ (q : Int) + 1 := by omega
                      have bq4 : ¬ (q : Int) + 1 < 0 := by omega
                      have tq : ((q : Int) + 1).toNat = q + 1 := by omega
                      have hBq := HBq.out
                      clear hx hy d0 d1 d2 d3 d4 e0 e1 e2 e3 e4
                      by_cases hz0 : k = 0
                      · subst hz0
                        have hnm : ¬ x.num ≤ y.num := by
                          rcases hbf with ⟨-, h⟩ | ⟨h, -⟩
                          · omega
                          · simp at h
                        clear hbf
                        go_upto_region 43 with fail
                        refine wp_region_held_drew (S := Below wr.heap.size wr) (by kernel_rfl) (Below.refl _ _).drew (fun hHeld => ?_)
                        generalize wr.drew = wd2 at hHeld ⊢
                        refine wpAnyH_shift hHeld ?_
                        replace hBq : Below w5.heap.size w5 wd2 := hBq.trans (hHeld.mono hBq.size)
                        clear hHeld
                        refine takeYes (i := 0) (k := 135) (v := .int .i64 0) rfl (by kernel_rfl) (by kernel_rfl) (by kernel_rfl) (by kernel_rfl) (fun _ _ _ h => h) (by kernel_rfl) ?_ (Below.refl _ _) ?_
                        · intro W hSw; first | (go_simp; done) | go_simp
                        try simp only [Act.put, List.setIfInBounds_toArray, List.set_cons_zero, List.set_cons_succ]
                        refine takeYes (i := 1) (k := 136) (v := .bool true) rfl (by kernel_rfl) (by kernel_rfl) (by kernel_rfl) (by kernel_rfl) (fun _ _ _ h => h) (by kernel_rfl) ?_ (Below.refl _ _) ?_
                        · intro W hSw; first | (go_simp; done) | go_simp
                        try simp only [Act.put, List.setIfInBounds_toArray, List.set_cons_zero, List.set_cons_succ]
                        refine takeYes (i := 2) (k := 137) (v := .bool true) rfl (by kernel_rfl) (by kernel_rfl) (by kernel_rfl) (by kernel_rfl) (fun _ _ _ h => h) (by kernel_rfl) ?_ (Below.refl _ _) ?_
                        · intro W hSw; first | (go_simp; done) | go_simp
                        try simp only [Act.put, List.setIfInBounds_toArray, List.set_cons_zero, List.set_cons_succ]
                        refine takeYes (i := 3) (k := 138) (v := .slice (some ⟨bb, off, none⟩) N c5) rfl (by kernel_rfl) (by kernel_rfl) (by kernel_rfl) (by kernel_rfl) (fun _ _ _ h => h) (by kernel_rfl) ?_ (Below.refl _ _) ?_
                        · intro W hSw; first | (go_simp; done) | go_simp
                        try simp only [Act.put, List.setIfInBounds_toArray, List.set_cons_zero, List.set_cons_succ]
                        refine takeYes (i := 4) (k := 139) (v := .int .i64 ((q : Int) + 1)) rfl (by kernel_rfl) (by kernel_rfl) (by kernel_rfl) (by kernel_rfl) (fun _ _ _ h => h) (by kernel_rfl) ?_ (Below.refl _ _) ?_
                        · intro W hSw; first | (go_simp; done) | go_simp
                        try simp only [Act.put, List.setIfInBounds_toArray, List.set_cons_zero, List.set_cons_succ]
                        refine takeYes (i := 5) (k := 140) (v := .pointer (some ⟨bb, off + (q + 1) * 5, none⟩)) rfl (by kernel_rfl) (by kernel_rfl) (by kernel_rfl) (by kernel_rfl) (fun _ _ _ h => h) (by kernel_rfl) ?_ (Below.refl _ _) ?_
                        · intro W hSw; first | (go_simp; done) | go_simp
                        try simp only [Act.put, List.setIfInBounds_toArray, List.set_cons_zero, List.set_cons_succ]
                        refine takeYes (i := 6) (k := 141) (v := .pointer (some ⟨bb, off + (q + 1) * 5, none⟩)) rfl (by kernel_rfl) (by kernel_rfl) (by kernel_rfl) (by kernel_rfl) (fun _ _ _ h => h) (by kernel_rfl) ?_ (Below.refl _ _) ?_
                        · intro W hSw; first | (go_simp; done) | go_simp
                        try simp only [Act.put, List.setIfInBounds_toArray, List.set_cons_zero, List.set_cons_succ]
                        refine takeYes (i := 7) (k := 142) (v := .int .i64 y.num) rfl (by kernel_rfl) (by kernel_rfl) (by kernel_rfl) (by kernel_rfl) (fun _ _ _ h => h) (by kernel_rfl) ?_ (Below.refl _ _) ?_
                        · intro W hSw; obtain ⟨c0, c1, c2, c3⟩ := HCX.out W (hBq.trans (hSw.mono hBq.size)); first | (go_simp; done) | go_simp
                        try simp only [Act.put, List.setIfInBounds_toArray, List.set_cons_zero, List.set_cons_succ]
                        refine takeYes (i := 8) (k := 143) (v := .slice (some ⟨bb, off, none⟩) N c5) rfl (by kernel_rfl) (by kernel_rfl) (by kernel_rfl) (by kernel_rfl) (fun _ _ _ h => h) (by kernel_rfl) ?_ (Below.refl _ _) ?_
                        · intro W hSw; first | (go_simp; done) | go_simp
                        try simp only [Act.put, List.setIfInBounds_toArray, List.set_cons_zero, List.set_cons_succ]
                        refine takeYes (i := 9) (k := 144) (v := .int .i64 ((q : Int) + 1)) rfl (by kernel_rfl) (by kernel_rfl) (by kernel_rfl) (by kernel_rfl) (fun _ _ _ h => h) (by kernel_rfl) ?_ (Below.refl _ _) ?_
                        · intro W hSw; first | (go_simp; done) | go_simp
                        try simp only [Act.put, List.setIfInBounds_toArray, List.set_cons_zero, List.set_cons_succ]
                        refine takeYes (i := 10) (k := 145) (v := .int .i64 (q : Int)) rfl (by kernel_rfl) (by kernel_rfl) (by kernel_rfl) (by kernel_rfl) (fun _ _ _ h => h) (by kernel_rfl) ?_ (Below.refl _ _) ?_
                        · intro W hSw; first | (go_simp; done) | go_simp
                        try simp only [Act.put, List.setIfInBounds_toArray, List.set_cons_zero, List.set_cons_succ]
                        refine takeYes (i := 11) (k := 146) (v := .pointer (some ⟨bb, off + q * 5, none⟩)) rfl (by kernel_rfl) (by kernel_rfl) (by kernel_rfl) (by kernel_rfl) (fun _ _ _ h => h) (by kernel_rfl) ?_ (Below.refl _ _) ?_
                        · intro W hSw; first | (go_simp; done) | go_simp
                        try simp only [Act.put, List.setIfInBounds_toArray, List.set_cons_zero, List.set_cons_succ]
                        refine takeYes (i := 12) (k := 147) (v := .pointer (some ⟨bb, off + q * 5, none⟩)) rfl (by kernel_rfl) (by kernel_rfl) (by kernel_rfl) (by kernel_rfl) (fun _ _ _ h => h) (by kernel_rfl) ?_ (Below.refl _ _) ?_
                        · intro W hSw; first | (go_simp; done) | go_simp
                        try simp only [Act.put, List.setIfInBounds_toArray, List.set_cons_zero, List.set_cons_succ]
                        refine takeYes (i := 13) (k := 148) (v := .int .i64 x.num) rfl (by kernel_rfl) (by kernel_rfl) (by kernel_rfl) (by kernel_rfl) (fun _ _ _ h => h) (by kernel_rfl) ?_ (Below.refl _ _) ?_
                        · intro W hSw; obtain ⟨c0, c1, c2, c3⟩ := HCX.out W (hBq.trans (hSw.mono hBq.size)); first | (go_simp; done) | go_simp
                        try simp only [Act.put, List.setIfInBounds_toArray, List.set_cons_zero, List.set_cons_succ]
                        refine takeYes (i := 14) (k := 149) (v := .bool false) rfl (by kernel_rfl) (by kernel_rfl) (by kernel_rfl) (by kernel_rfl) (fun _ _ _ h => h) (by kernel_rfl) ?_ (Below.refl _ _) ?_
                        · intro W hSw; first | (go_simp; done) | go_simp
                        try simp only [Act.put, List.setIfInBounds_toArray, List.set_cons_zero, List.set_cons_succ]
                        refine takeYes (i := 15) (k := 150) (v := .bool false) rfl (by kernel_rfl) (by kernel_rfl) (by kernel_rfl) (by kernel_rfl) (fun _ _ _ h => h) (by kernel_rfl) ?_ (Below.refl _ _) ?_
                        · intro W hSw; first | (go_simp; done) | go_simp
                        try simp only [Act.put, List.setIfInBounds_toArray, List.set_cons_zero, List.set_cons_succ]
                        refine takeYes (i := 16) (k := 151) (v := .bool false) rfl (by kernel_rfl) (by kernel_rfl) (by kernel_rfl) (by kernel_rfl) (fun _ _ _ h => h) (by kernel_rfl) ?_ (Below.refl _ _) ?_
                        · intro W hSw; first | (go_simp; done) | go_simp
                        try simp only [Act.put, List.setIfInBounds_toArray, List.set_cons_zero, List.set_cons_succ]
                        refine takeYes (i := 17) (k := 152) (v := .int .i64 0) rfl (by kernel_rfl) (by kernel_rfl) (by kernel_rfl) (by kernel_rfl) (fun _ _ _ h => h) (by kernel_rfl) ?_ (Below.refl _ _) ?_
                        · intro W hSw; first | (go_simp; done) | go_simp
                        try simp only [Act.put, List.setIfInBounds_toArray, List.set_cons_zero, List.set_cons_succ]
                        refine takeYes (i := 18) (k := 153) (v := .bool false) rfl (by kernel_rfl) (by kernel_rfl) (by kernel_rfl) (by kernel_rfl) (fun _ _ _ h => h) (by kernel_rfl) ?_ (Below.refl _ _) ?_
                        · intro W hSw; first | (go_simp; done) | go_simp
                        try simp only [Act.put, List.setIfInBounds_toArray, List.set_cons_zero, List.set_cons_succ]
                        refine takeYes (i := 19) (k := 154) (v := .bool false) rfl (by kernel_rfl) (by kernel_rfl) (by kernel_rfl) (by kernel_rfl) (fun _ _ _ h => h) (by kernel_rfl) ?_ (Below.refl _ _) ?_
                        · intro W hSw; first | (go_simp; done) | go_simp
                        try simp only [Act.put, List.setIfInBounds_toArray, List.set_cons_zero, List.set_cons_succ]
                        refine takeNot (i := 20) (k := 155) (by kernel_rfl) (by kernel_rfl) (by kernel_rfl) (by kernel_rfl) (fun _ _ _ h => h) (by kernel_rfl) (Below.refl _ _) ?_
                        try simp only [Act.put, List.setIfInBounds_toArray, List.set_cons_zero, List.set_cons_succ]
                        refine takeNot (i := 21) (k := 156) (by kernel_rfl) (by kernel_rfl) (by kernel_rfl) (by kernel_rfl) (fun _ _ _ h => h) (by kernel_rfl) (Below.refl _ _) ?_
                        try simp only [Act.put, List.setIfInBounds_toArray, List.set_cons_zero, List.set_cons_succ]
                        refine takeNot (i := 22) (k := 157) (by kernel_rfl) (by kernel_rfl) (by kernel_rfl) (by kernel_rfl) (fun _ _ _ h => h) (by kernel_rfl) (Below.refl _ _) ?_
                        try simp only [Act.put, List.setIfInBounds_toArray, List.set_cons_zero, List.set_cons_succ]
                        refine takeNot (i := 23) (k := 158) (by kernel_rfl) (by kernel_rfl) (by kernel_rfl) (by kernel_rfl) (fun _ _ _ h => h) (by kernel_rfl) (Below.refl _ _) ?_
                        try simp only [Act.put, List.setIfInBounds_toArray, List.set_cons_zero, List.set_cons_succ]
                        refine takeNot (i := 24) (k := 159) (by kernel_rfl) (by kernel_rfl) (by kernel_rfl) (by kernel_rfl) (fun _ _ _ h => h) (by kernel_rfl) (Below.refl _ _) ?_
                        try simp only [Act.put, List.setIfInBounds_toArray, List.set_cons_zero, List.set_cons_succ]
                        refine takeNot (i := 25) (k := 160) (by kernel_rfl) (by kernel_rfl) (by kernel_rfl) (by kernel_rfl) (fun _ _ _ h => h) (by kernel_rfl) (Below.refl _ _) ?_
                        try simp only [Act.put, List.setIfInBounds_toArray, List.set_cons_zero, List.set_cons_succ]
                        refine takeNot (i := 26) (k := 161) (by kernel_rfl) (by kernel_rfl) (by kernel_rfl) (by kernel_rfl) (fun _ _ _ h => h) (by kernel_rfl) (Below.refl _ _) ?_
                        try simp only [Act.put, List.setIfInBounds_toArray, List.set_cons_zero, List.set_cons_succ]
                        refine takeNot (i := 27) (k := 162) (by kernel_rfl) (by kernel_rfl) (by kernel_rfl) (by kernel_rfl) (fun _ _ _ h => h) (by kernel_rfl) (Below.refl _ _) ?_
                        try simp only [Act.put, List.setIfInBounds_toArray, List.set_cons_zero, List.set_cons_succ]
                        refine takeNot (i := 28) (k := 163) (by kernel_rfl) (by kernel_rfl) (by kernel_rfl) (by kernel_rfl) (fun _ _ _ h => h) (by kernel_rfl) (Below.refl _ _) ?_
                        try simp only [Act.put, List.setIfInBounds_toArray, List.set_cons_zero, List.set_cons_succ]
                        refine takeNot (i := 29) (k := 164) (by kernel_rfl) (by kernel_rfl) (by kernel_rfl) (by kernel_rfl) (fun _ _ _ h => h) (by kernel_rfl) (Below.refl _ _) ?_
                        try simp only [Act.put, List.setIfInBounds_toArray, List.set_cons_zero, List.set_cons_succ]
                        refine takeNot (i := 30) (k := 165) (by kernel_rfl) (by kernel_rfl) (by kernel_rfl) (by kernel_rfl) (fun _ _ _ h => h) (by kernel_rfl) (Below.refl _ _) ?_
                        try simp only [Act.put, List.setIfInBounds_toArray, List.set_cons_zero, List.set_cons_succ]
                        refine takeNot (i := 31) (k := 166) (by kernel_rfl) (by kernel_rfl) (by kernel_rfl) (by kernel_rfl) (fun _ _ _ h => h) (by kernel_rfl) (Below.refl _ _) ?_
                        try simp only [Act.put, List.setIfInBounds_toArray, List.set_cons_zero, List.set_cons_succ]
                        refine takeYes (i := 32) (k := 167) (v := .bool false) rfl (by kernel_rfl) (by kernel_rfl) (by kernel_rfl) (by kernel_rfl) (fun _ _ _ h => h) (by kernel_rfl) ?_ (Below.refl _ _) ?_
                        · intro W hSw; first | (go_simp; done) | go_simp
                        try simp only [Act.put, List.setIfInBounds_toArray, List.set_cons_zero, List.set_cons_succ]
                        refine takeYes (i := 33) (k := 168) (v := .bool false) rfl (by kernel_rfl) (by kernel_rfl) (by kernel_rfl) (by kernel_rfl) (fun _ _ _ h => h) (by kernel_rfl) ?_ (Below.refl _ _) ?_
                        · intro W hSw; first | (go_simp; done) | go_simp
                        try simp only [Act.put, List.setIfInBounds_toArray, List.set_cons_zero, List.set_cons_succ]
                        refine wpAnyH_done (by kernel_rfl) ?_ _
                        have HBq2 := Lib.hid hBq
                        go_wp2_with fail
                        go_roundg (N - (q + 1))
                        case measure => omega
                        case rel => exact ⟨q + 1, by go_num, .inl (by omega), Nat.le_refl _, HBq2⟩
                      · have hbl : bl x.lo y.lo := by
                          rcases hbf with ⟨h, -⟩ | ⟨-, h⟩
                          · omega
                          · exact h
                        obtain ⟨hs1, hs2⟩ : Op.bytesLess y.lo.toList x.lo.toList = false ∧ (y.lo.toList == x.lo.toList) = false := by
                          rcases le_three y.lo x.lo with ⟨-, h⟩ | ⟨-, -, h⟩ | ⟨h1, h2, -⟩
                          · exact absurd hbl (of_decide_eq_false h)
                          · exact absurd hbl (of_decide_eq_false h)
                          · exact ⟨h1, h2⟩
                        have hke : ((k : Int) == 0) = false := by rw [beq_eq_false_iff_ne]; omega
                        have hke2 : ¬ (k : Int) = 0 := by omega
                        have hkp : (0 : Int) < (k : Int) := by omega
                        have hkN : 0 < k := by omega
                        clear hbf hbl
                        go_upto_region 43 with fail
                        refine wp_region_held_drew (S := Below wr.heap.size wr) (by kernel_rfl) (Below.refl _ _).drew (fun hHeld => ?_)
                        generalize wr.drew = wd2 at hHeld ⊢
                        refine wpAnyH_shift hHeld ?_
                        replace hBq : Below w5.heap.size w5 wd2 := hBq.trans (hHeld.mono hBq.size)
                        clear hHeld
                        refine takeYes (i := 0) (k := 135) (v := .int .i64 (k : Int)) rfl (by kernel_rfl) (by kernel_rfl) (by kernel_rfl) (by kernel_rfl) (fun _ _ _ h => h) (by kernel_rfl) ?_ (Below.refl _ _) ?_
                        · intro W hSw; first | (go_simp; done) | go_simp
                        try simp only [Act.put, List.setIfInBounds_toArray, List.set_cons_zero, List.set_cons_succ]
                        refine takeYes (i := 1) (k := 136) (v := .bool false) rfl (by kernel_rfl) (by kernel_rfl) (by kernel_rfl) (by kernel_rfl) (fun _ _ _ h => h) (by kernel_rfl) ?_ (Below.refl _ _) ?_
                        · intro W hSw; first | (go_simp; done) | go_simp
                        try simp only [Act.put, List.setIfInBounds_toArray, List.set_cons_zero, List.set_cons_succ]
                        refine takeYes (i := 2) (k := 137) (v := .bool false) rfl (by kernel_rfl) (by kernel_rfl) (by kernel_rfl) (by kernel_rfl) (fun _ _ _ h => h) (by kernel_rfl) ?_ (Below.refl _ _) ?_
                        · intro W hSw; first | (go_simp; done) | go_simp
                        try simp only [Act.put, List.setIfInBounds_toArray, List.set_cons_zero, List.set_cons_succ]
                        refine takeNot (i := 3) (k := 138) (by kernel_rfl) (by kernel_rfl) (by kernel_rfl) (by kernel_rfl) (fun _ _ _ h => h) (by kernel_rfl) (Below.refl _ _) ?_
                        try simp only [Act.put, List.setIfInBounds_toArray, List.set_cons_zero, List.set_cons_succ]
                        refine takeNot (i := 4) (k := 139) (by kernel_rfl) (by kernel_rfl) (by kernel_rfl) (by kernel_rfl) (fun _ _ _ h => h) (by kernel_rfl) (Below.refl _ _) ?_
                        try simp only [Act.put, List.setIfInBounds_toArray, List.set_cons_zero, List.set_cons_succ]
                        refine takeNot (i := 5) (k := 140) (by kernel_rfl) (by kernel_rfl) (by kernel_rfl) (by kernel_rfl) (fun _ _ _ h => h) (by kernel_rfl) (Below.refl _ _) ?_
                        try simp only [Act.put, List.setIfInBounds_toArray, List.set_cons_zero, List.set_cons_succ]
                        refine takeNot (i := 6) (k := 141) (by kernel_rfl) (by kernel_rfl) (by kernel_rfl) (by kernel_rfl) (fun _ _ _ h => h) (by kernel_rfl) (Below.refl _ _) ?_
                        try simp only [Act.put, List.setIfInBounds_toArray, List.set_cons_zero, List.set_cons_succ]
                        refine takeNot (i := 7) (k := 142) (by kernel_rfl) (by kernel_rfl) (by kernel_rfl) (by kernel_rfl) (fun _ _ _ h => h) (by kernel_rfl) (Below.refl _ _) ?_
                        try simp only [Act.put, List.setIfInBounds_toArray, List.set_cons_zero, List.set_cons_succ]
                        refine takeNot (i := 8) (k := 143) (by kernel_rfl) (by kernel_rfl) (by kernel_rfl) (by kernel_rfl) (fun _ _ _ h => h) (by kernel_rfl) (Below.refl _ _) ?_
                        try simp only [Act.put, List.setIfInBounds_toArray, List.set_cons_zero, List.set_cons_succ]
                        refine takeNot (i := 9) (k := 144) (by kernel_rfl) (by kernel_rfl) (by kernel_rfl) (by kernel_rfl) (fun _ _ _ h => h) (by kernel_rfl) (Below.refl _ _) ?_
                        try simp only [Act.put, List.setIfInBounds_toArray, List.set_cons_zero, List.set_cons_succ]
                        refine takeNot (i := 10) (k := 145) (by kernel_rfl) (by kernel_rfl) (by kernel_rfl) (by kernel_rfl) (fun _ _ _ h => h) (by kernel_rfl) (Below.refl _ _) ?_
                        try simp only [Act.put, List.setIfInBounds_toArray, List.set_cons_zero, List.set_cons_succ]
                        refine takeNot (i := 11) (k := 146) (by kernel_rfl) (by kernel_rfl) (by kernel_rfl) (by kernel_rfl) (fun _ _ _ h => h) (by kernel_rfl) (Below.refl _ _) ?_
                        try simp only [Act.put, List.setIfInBounds_toArray, List.set_cons_zero, List.set_cons_succ]
                        refine takeNot (i := 12) (k := 147) (by kernel_rfl) (by kernel_rfl) (by kernel_rfl) (by kernel_rfl) (fun _ _ _ h => h) (by kernel_rfl) (Below.refl _ _) ?_
                        try simp only [Act.put, List.setIfInBounds_toArray, List.set_cons_zero, List.set_cons_succ]
                        refine takeNot (i := 13) (k := 148) (by kernel_rfl) (by kernel_rfl) (by kernel_rfl) (by kernel_rfl) (fun _ _ _ h => h) (by kernel_rfl) (Below.refl _ _) ?_
                        try simp only [Act.put, List.setIfInBounds_toArray, List.set_cons_zero, List.set_cons_succ]
                        refine takeNot (i := 14) (k := 149) (by kernel_rfl) (by kernel_rfl) (by kernel_rfl) (by kernel_rfl) (fun _ _ _ h => h) (by kernel_rfl) (Below.refl _ _) ?_
                        try simp only [Act.put, List.setIfInBounds_toArray, List.set_cons_zero, List.set_cons_succ]
                        refine takeYes (i := 15) (k := 150) (v := .bool false) rfl (by kernel_rfl) (by kernel_rfl) (by kernel_rfl) (by kernel_rfl) (fun _ _ _ h => h) (by kernel_rfl) ?_ (Below.refl _ _) ?_
                        · intro W hSw; first | (go_simp; done) | go_simp
                        try simp only [Act.put, List.setIfInBounds_toArray, List.set_cons_zero, List.set_cons_succ]
                        refine takeYes (i := 16) (k := 151) (v := .bool false) rfl (by kernel_rfl) (by kernel_rfl) (by kernel_rfl) (by kernel_rfl) (fun _ _ _ h => h) (by kernel_rfl) ?_ (Below.refl _ _) ?_
                        · intro W hSw; first | (go_simp; done) | go_simp
                        try simp only [Act.put, List.setIfInBounds_toArray, List.set_cons_zero, List.set_cons_succ]
                        refine takeYes (i := 17) (k := 152) (v := .int .i64 (k : Int)) rfl (by kernel_rfl) (by kernel_rfl) (by kernel_rfl) (by kernel_rfl) (fun _ _ _ h => h) (by kernel_rfl) ?_ (Below.refl _ _) ?_
                        · intro W hSw; first | (go_simp; done) | go_simp
                        try simp only [Act.put, List.setIfInBounds_toArray, List.set_cons_zero, List.set_cons_succ]
                        refine takeYes (i := 18) (k := 153) (v := .bool true) rfl (by kernel_rfl) (by kernel_rfl) (by kernel_rfl) (by kernel_rfl) (fun _ _ _ h => h) (by kernel_rfl) ?_ (Below.refl _ _) ?_
                        · intro W hSw; first | (go_simp; done) | go_simp
                        try simp only [Act.put, List.setIfInBounds_toArray, List.set_cons_zero, List.set_cons_succ]
                        refine takeYes (i := 19) (k := 154) (v := .bool true) rfl (by kernel_rfl) (by kernel_rfl) (by kernel_rfl) (by kernel_rfl) (fun _ _ _ h => h) (by kernel_rfl) ?_ (Below.refl _ _) ?_
                        · intro W hSw; first | (go_simp; done) | go_simp
                        try simp only [Act.put, List.setIfInBounds_toArray, List.set_cons_zero, List.set_cons_succ]
                        refine takeYes (i := 20) (k := 155) (v := .slice (some ⟨bb, off, none⟩) N c5) rfl (by kernel_rfl) (by kernel_rfl) (by kernel_rfl) (by kernel_rfl) (fun _ _ _ h => h) (by kernel_rfl) ?_ (Below.refl _ _) ?_
                        · intro W hSw; first | (go_simp; done) | go_simp
                        try simp only [Act.put, List.setIfInBounds_toArray, List.set_cons_zero, List.set_cons_succ]
                        refine takeYes (i := 21) (k := 156) (v := .int .i64 ((q : Int) + 1)) rfl (by kernel_rfl) (by kernel_rfl) (by kernel_rfl) (by kernel_rfl) (fun _ _ _ h => h) (by kernel_rfl) ?_ (Below.refl _ _) ?_
                        · intro W hSw; first | (go_simp; done) | go_simp
                        try simp only [Act.put, List.setIfInBounds_toArray, List.set_cons_zero, List.set_cons_succ]
                        refine takeYes (i := 22) (k := 157) (v := .pointer (some ⟨bb, off + (q + 1) * 5, none⟩)) rfl (by kernel_rfl) (by kernel_rfl) (by kernel_rfl) (by kernel_rfl) (fun _ _ _ h => h) (by kernel_rfl) ?_ (Below.refl _ _) ?_
                        · intro W hSw; first | (go_simp; done) | go_simp
                        try simp only [Act.put, List.setIfInBounds_toArray, List.set_cons_zero, List.set_cons_succ]
                        refine takeYes (i := 23) (k := 158) (v := .pointer (some ⟨bb, off + (q + 1) * 5 + 3, none⟩)) rfl (by kernel_rfl) (by kernel_rfl) (by kernel_rfl) (by kernel_rfl) (fun _ _ _ h => h) (by kernel_rfl) ?_ (Below.refl _ _) ?_
                        · intro W hSw; first | (go_simp; done) | go_simp
                        try simp only [Act.put, List.setIfInBounds_toArray, List.set_cons_zero, List.set_cons_succ]
                        refine takeYes (i := 24) (k := 159) (v := .string y.lo) rfl (by kernel_rfl) (by kernel_rfl) (by kernel_rfl) (by kernel_rfl) (fun _ _ _ h => h) (by kernel_rfl) ?_ (Below.refl _ _) ?_
                        · intro W hSw; obtain ⟨c0, c1, c2, c3⟩ := HCX.out W (hBq.trans (hSw.mono hBq.size)); first | (go_simp; done) | go_simp
                        try simp only [Act.put, List.setIfInBounds_toArray, List.set_cons_zero, List.set_cons_succ]
                        refine takeYes (i := 25) (k := 160) (v := .slice (some ⟨bb, off, none⟩) N c5) rfl (by kernel_rfl) (by kernel_rfl) (by kernel_rfl) (by kernel_rfl) (fun _ _ _ h => h) (by kernel_rfl) ?_ (Below.refl _ _) ?_
                        · intro W hSw; first | (go_simp; done) | go_simp
                        try simp only [Act.put, List.setIfInBounds_toArray, List.set_cons_zero, List.set_cons_succ]
                        refine takeYes (i := 26) (k := 161) (v := .int .i64 ((q : Int) + 1)) rfl (by kernel_rfl) (by kernel_rfl) (by kernel_rfl) (by kernel_rfl) (fun _ _ _ h => h) (by kernel_rfl) ?_ (Below.refl _ _) ?_
                        · intro W hSw; first | (go_simp; done) | go_simp
                        try simp only [Act.put, List.setIfInBounds_toArray, List.set_cons_zero, List.set_cons_succ]
                        refine takeYes (i := 27) (k := 162) (v := .int .i64 (q : Int)) rfl (by kernel_rfl) (by kernel_rfl) (by kernel_rfl) (by kernel_rfl) (fun _ _ _ h => h) (by kernel_rfl) ?_ (Below.refl _ _) ?_
                        · intro W hSw; first | (go_simp; done) | go_simp
                        try simp only [Act.put, List.setIfInBounds_toArray, List.set_cons_zero, List.set_cons_succ]
                        refine takeYes (i := 28) (k := 163) (v := .pointer (some ⟨bb, off + q * 5, none⟩)) rfl (by kernel_rfl) (by kernel_rfl) (by kernel_rfl) (by kernel_rfl) (fun _ _ _ h => h) (by kernel_rfl) ?_ (Below.refl _ _) ?_
                        · intro W hSw; first | (go_simp; done) | go_simp
                        try simp only [Act.put, List.setIfInBounds_toArray, List.set_cons_zero, List.set_cons_succ]
                        refine takeYes (i := 29) (k := 164) (v := .pointer (some ⟨bb, off + q * 5 + 3, none⟩)) rfl (by kernel_rfl) (by kernel_rfl) (by kernel_rfl) (by kernel_rfl) (fun _ _ _ h => h) (by kernel_rfl) ?_ (Below.refl _ _) ?_
                        · intro W hSw; first | (go_simp; done) | go_simp
                        try simp only [Act.put, List.setIfInBounds_toArray, List.set_cons_zero, List.set_cons_succ]
                        refine takeYes (i := 30) (k := 165) (v := .string x.lo) rfl (by kernel_rfl) (by kernel_rfl) (by kernel_rfl) (by kernel_rfl) (fun _ _ _ h => h) (by kernel_rfl) ?_ (Below.refl _ _) ?_
                        · intro W hSw; obtain ⟨c0, c1, c2, c3⟩ := HCX.out W (hBq.trans (hSw.mono hBq.size)); first | (go_simp; done) | go_simp
                        try simp only [Act.put, List.setIfInBounds_toArray, List.set_cons_zero, List.set_cons_succ]
                        refine takeYes (i := 31) (k := 166) (v := .bool false) rfl (by kernel_rfl) (by kernel_rfl) (by kernel_rfl) (by kernel_rfl) (fun _ _ _ h => h) (by kernel_rfl) ?_ (Below.refl _ _) ?_
                        · intro W hSw; first | (go_simp; done) | go_simp
                        try simp only [Act.put, List.setIfInBounds_toArray, List.set_cons_zero, List.set_cons_succ]
                        refine takeYes (i := 32) (k := 167) (v := .bool false) rfl (by kernel_rfl) (by kernel_rfl) (by kernel_rfl) (by kernel_rfl) (fun _ _ _ h => h) (by kernel_rfl) ?_ (Below.refl _ _) ?_
                        · intro W hSw; first | (go_simp; done) | go_simp
                        try simp only [Act.put, List.setIfInBounds_toArray, List.set_cons_zero, List.set_cons_succ]
                        refine takeYes (i := 33) (k := 168) (v := .bool false) rfl (by kernel_rfl) (by kernel_rfl) (by kernel_rfl) (by kernel_rfl) (fun _ _ _ h => h) (by kernel_rfl) ?_ (Below.refl _ _) ?_
                        · intro W hSw; first | (go_simp; done) | go_simp
                        try simp only [Act.put, List.setIfInBounds_toArray, List.set_cons_zero, List.set_cons_succ]
                        refine wpAnyH_done (by kernel_rfl) ?_ _
                        have HBq2 := Lib.hid hBq
                        go_wp2_with fail
                        go_roundg (N - (q + 1))
                        case measure => omega
                        case rel => exact ⟨q + 1, by go_num, .inl (by omega), Nat.le_refl _, HBq2⟩
                    · have hd2 : ¬ (q : Int) + 1 < (N : Int) := by omega
                      have HB6 := Lib.hid (HB5.out.trans (HBq.out.mono HB5.out.size))
                      clear HB5 HBq HR5 HO HN
                      go_wp2_with fail
                      go_roundg (5 - (k + 1))
                      case measure => omega
                      case rel => exact ⟨k + 1, by go_num, by omega, Nat.le_refl _, HB6⟩
            · obtain rfl : k = 5 := by omega
              have HA := Lib.hid (HAL.out wr HB.out)
              go_wp2_with fail
              refine HA.out.mono ?_
              rintro e w5 ⟨u, rfl, ho, hb⟩
              obtain ⟨a5, c5, rfl⟩ := fil_form ho
              rw [HLEN.out]
              have HB5 := Lib.hid (HBW.out.trans ((HB.out.trans (hb.mono HB.out.size)).mono HBW.out.size))
              clear ho hb HA HB
              go_wp2_with fail
              go_ret
              exact ⟨by simp, HB5.out⟩
        | true =>
          have hiL : i < len := (of_decide_eq_true HQ.out).1
          have hi30 : i < 30 := (of_decide_eq_true HQ.out).2
          have hd1 : (i : Int) < (len : Int) := by omega
          clear HQ
          obtain ⟨V, lv, hM⟩ := HL.out
          have HM := Lib.hid hM
          clear hM HL
          obtain ⟨x, hx⟩ : ∃ x, zs[i]? = some x := ⟨zs[i]'(by have := HZL.out; omega), List.getElem?_eq_getElem _⟩
          have hwf := HZW.out x (List.mem_of_getElem? hx)
          obtain ⟨bm, om, rfl, hbm, hcell⟩ := edInts_at HZ.out i x hx
          replace hcell := (HM.out.bel.cell (p := ⟨bm, om + i, none⟩) hbm).trans hcell
          obtain ⟨K, hK, hKy⟩ := tmod_nat x hn1
          obtain ⟨y, hy⟩ : ∃ y, x.tmod (n : Int) = y := ⟨_, rfl⟩
          rw [hy] at hKy
          have hK0 : (0 : Int) ≤ (K : Int) := by omega
          have hKn : (K : Int) < (n : Int) := by omega
          have hK20 : (K : Int) ≤ 20 := by omega
          have hnz : ¬ (n : Int) = 0 := by omega
          have hyw : IntKind.i64.wrap y = y := IntWalk.i64_in _ (by omega)
          clear hx hwf
          go_upto_if 73 with fail
          go_cut [12] (fun v wx => v = .int .i64 (K : Int) ∧ wr = wx)
          case first =>
            by_cases hyn : y < 0
            · obtain rfl : y = -(K : Int) := by omega
              have hneg : IntKind.i64.wrap (K : Int) = (K : Int) := IntWalk.i64_in _ (by omega)
              have hyd : decide (-(K : Int) < 0) = true := decide_eq_true hyn
              go_wp2_with fail
              go_meet
              exact ⟨by simp, rfl⟩
            · obtain rfl : y = (K : Int) := by omega
              go_wp2_with fail
              go_meet
              exact ⟨rfl, rfl⟩
          case rest =>
          obtain ⟨rfl, rfl⟩ := hcut
          clear hy hKy hyw hcell
          obtain ⟨l, hl⟩ : ∃ l, lv[K]? = some l := ⟨lv[K]'(by have := HM.out.len; omega), List.getElem?_eq_getElem _⟩
          obtain ⟨hc1, hf1⟩ := HM.out.cell K l hl
          have hl4 := HM.out.low l (List.mem_of_getElem? hl)
          by_cases h4 : l = 4
          · subst h4
            have HGO : Hid (∃ (V : Ver) (lv : List Nat), MvAt w wr c g n al cl V lv lv) := Lib.hid ⟨_, _, HM.out⟩
            clear hl HM
            go_wp2_with fail
            go_roundg (30 - (i + 1))
            case measure => omega
            case rel => exact ⟨i + 1, by go_num, by omega, Nat.le_refl _, HGO⟩
          · have hl3 : l < 4 := by omega
            have hlI : (l : Int) < 4 := by omega
            have hlI0 : (0 : Int) ≤ (l : Int) := by omega
            have hle : ((l : Int) == 4) = false := by rw [beq_eq_false_iff_ne]; omega
            have hle2 : ¬ (l : Int) = 4 := by omega
            have HM5 : Hid (MvAt w (wr.setCell ⟨g, K, none⟩ (.int .i64 ((l : Int) + 1))) c g n al cl V lv (lv.set K (l + 1))) := Lib.hid (HM.out.store K (l + 1) (by have := HM.out.lenw; omega))
            obtain ⟨N, hN1, hN2⟩ := mv_any (by rw [HM.out.len]; exact hn1) (by rw [HM.out.len]; exact hn) HM.out.low hl hl3 HM.out.s
            have HN := Lib.hid (And.intro hN1 hN2)
            have HL4 : Hid (∀ x ∈ lv.set K (l + 1), x ≤ 4) := Lib.hid fun x hx => by
              rcases List.mem_or_eq_of_mem_set hx with h | h
              · exact HM.out.low x h
              · omega
            have HLS : Hid ((lv.set K (l + 1))[K]? = some (l + 1)) := Lib.hid (by rw [List.getElem?_set]; simp; exact (List.getElem?_eq_some_iff.1 hl).1)
            clear hN1 hN2 hl
            go_upto_region 24 with fail
            obtain ⟨w5, hw5⟩ : ∃ x, wr.setCell ⟨g, K, none⟩ (.int .i64 ((l : Int) + 1)) = x := ⟨_, rfl⟩
            rw [hw5] at HM5 ⊢
            clear hw5 HM hc1 hf1
            have hc5 : w5.cell? ⟨g, K, none⟩ = some (.int .i64 ((l : Int) + 1)) := (HM5.out.cell K (l + 1) (by rw [show (lv.set K (l + 1))[K]? = some (l + 1) from HLS.out])).1
            obtain ⟨ba, oa, rfl, hba, f0, f1, f2, f3, f4⟩ := (HM5.out.add.rd encTbf_len).atTbf K (mvT K 0) (by rw [mvL_at, List.getElem?_replicate, if_pos hK]; rfl)
            have g0 : w5.cell? ⟨ba, oa + K * 5, none⟩ = some (.int .i64 ((K : Int) + 1)) := f0
            have g1 : w5.cell? ⟨ba, oa + K * 5 + 1, none⟩ = some (.int .i64 0) := f1
            have g2 : w5.cell? ⟨ba, oa + K * 5 + 2, none⟩ = some (.int .i64 0) := f2
            have g3 : w5.cell? ⟨ba, oa + K * 5 + 3, none⟩ = some (.string (ltr K)) := f3
            have g4 : w5.cell? ⟨ba, oa + K * 5 + 4, none⟩ = some (.string (ltr K)) := f4
            clear f0 f1 f2 f3 f4 hba
            have hb6 : Below w5.heap.size w5 (w5.alloc (.cells #[.int .i64 ((K : Int) + 1), .int .i64 0, .int .i64 0, .string (ltr K), .string (ltr K)] 43)) := (Below.refl _ _).alloc (Nat.le_refl _) _
            have HX6 := Lib.hid (BlkAt.new w5 #[.int .i64 ((K : Int) + 1), .int .i64 0, .int .i64 0, .string (ltr K), .string (ltr K)] 43)
            have HM6 := Lib.hid (HM5.out.below hb6)
            have HB56 := Lib.hid hb6
            clear hb6
            go_upto_region 25 with fail
            generalize w5.alloc (.cells #[.int .i64 ((K : Int) + 1), .int .i64 0, .int .i64 0, .string (ltr K), .string (ltr K)] 43) = w6 at *
            obtain ⟨p, hp⟩ : ∃ p, w5.heap.size = p := ⟨_, rfl⟩
            rw [hp] at HX6 ⊢
            have hc6 : w6.cell? ⟨g, K, none⟩ = some (.int .i64 ((l : Int) + 1)) := (HM6.out.cell K (l + 1) (by rw [show (lv.set K (l + 1))[K]? = some (l + 1) from HLS.out])).1
            obtain ⟨d0, d1, d2, d3, d4⟩ := cell5_of HX6.out
            have hfr := HX6.out.free 1
            have HX7 : Hid (BlkAt (w6.setCell ⟨p, 1, none⟩ (.int .i64 ((l : Int) + 1))) p #[.int .i64 ((K : Int) + 1), .int .i64 ((l : Int) + 1), .int .i64 0, .string (ltr K), .string (ltr K)] 43) := Lib.hid (HX6.out.set (o := 1) (.int .i64 ((l : Int) + 1)))
            have HM7 : Hid (MvAt w (w6.setCell ⟨p, 1, none⟩ (.int .i64 ((l : Int) + 1))) c g n (some ⟨ba, oa, none⟩) cl V lv (lv.set K (l + 1))) := Lib.hid (HM5.out.below (Below.setCell HB56.out (Nat.le_of_eq hp) _))
            clear g0 g1 g2 g3 g4 hc5 HM5 HM6 HB56 hp
            go_upto_region 26 with fail
            generalize w6.setCell ⟨p, 1, none⟩ (.int .i64 ((l : Int) + 1)) = w7 at *
            clear d0 d1 d2 d3 d4 hfr hc6 HX6
            have hb8 : Below w7.heap.size w7 (w7.alloc (.cells #[.int .i64 ((K : Int) + 1)] 2)) := (Below.refl _ _).alloc (Nat.le_refl _) _
            have hs8 : (w7.alloc (.cells #[.int .i64 ((K : Int) + 1)] 2)).heap.size = w7.heap.size + 1 := by simp
            have hn8 := num_one w7 ((K : Int) + 1)
            obtain ⟨d0, d1, d2, d3, d4⟩ := cell5_of HX7.out
            obtain ⟨e0, e1, e2, e3, e4⟩ := cell5_of (HX7.out.below hb8)
            have HM8 := Lib.hid (HM7.out.below hb8)
            clear HM7 hb8
            obtain ⟨w8, hw8⟩ : ∃ x, w7.alloc (.cells #[.int .i64 ((K : Int) + 1)] 2) = x := ⟨_, rfl⟩
            rw [hw8] at hs8 hn8 e0 e1 e2 e3 e4 HM8
            have hb9 : Below w8.heap.size w8 (w8.alloc (.cells #[.int .i64 ((K : Int) + 1), .int .i64 ((l : Int) + 1), .int .i64 0, .string (ltr K), .string (ltr K)] 43)) := (Below.refl _ _).alloc (Nat.le_refl _) _
            have ht9 := tab_one w8 (mvT K (l + 1))
            rw [hs8] at ht9
            have HED : Hid (EdAt (w8.alloc (.cells #[.int .i64 ((K : Int) + 1), .int .i64 ((l : Int) + 1), .int .i64 0, .string (ltr K), .string (ltr K)] 43)) (.agg #[.int .i64 0, .int .i64 0, .int .i64 0, .slice (some ⟨w7.heap.size + 1, 0, none⟩) 1 1, .slice (some ⟨w7.heap.size, 0, none⟩) 1 1]) (mvM K (l + 1))) := Lib.hid ⟨_, _, rfl, ht9, RdV.below hn8 hb9⟩
            have HM9 := Lib.hid (HM8.out.below hb9)
            have HAP := Lib.hid (vapply_any HM9.out.v (by have := HM9.out.v.lt; omega) _ _ HED.out (mvM_ok K (l + 1)))
            clear HM8 hb9 ht9 hn8 HED
            go_wp2_with fail
            refine HAP.out.mono ?_
            rintro e w10 ⟨k, V', rfl, hv, hu, -, h2⟩
            obtain ⟨rfl, hs⟩ := h2 _ HN.out.1
            have HGO : Hid (∃ (V : Ver) (lv : List Nat), MvAt w w10 c g n (some ⟨ba, oa, none⟩) cl V lv lv) := Lib.hid ⟨V', lv.set K (l + 1), HM9.out.apply hu hv (HN.out.2.trans hs) HL4.out (by rw [List.length_set]; exact HM9.out.len)⟩
            clear hv hu h2 hs HAP HM9 HN HL4 HLS
            go_wp2_with fail
            go_roundg (30 - (i + 1))
            case measure => omega
            case rel => exact ⟨i + 1, by go_num, by omega, Nat.le_refl _, HGO⟩
end Go.Proofs.Ytjloaamaelcmaaa
