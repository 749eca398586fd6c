/- The walk of slices.symMergeCmpFunc at norm's char: a second part of one element. -/
import Derived.Test.YtmglnpnkkidnnaaDoorSortMrg
namespace Go.Proofs.YtmglnpnkkidnnaaDoor
set_option linter.unusedVariables false
open Go.RowKit Go.Shelf Go.Lib Go.Sort
set_option maxHeartbeats 4000000 in
set_option maxRecDepth 200000 in
theorem mergeR_any (cl : Int → Int) (blk off cap : Nat) (d0 d : Array Int) (w0 w : World) (R : RowC cl w0 blk off d0) (hs : d0.size = d.size) (S0 : SWK (encC cl) 2 w0 blk off d w) (hsz : d.size < 1000000)
    (P A S : List Int) (y : Int) (a m b : Nat) (N : Nat) (hN : N = d.size) (hd : d.toList = P ++ (A ++ (y :: S))) (hA : Asc cl A) (hA2 : 2 ≤ A.length) (ha : a = P.length) (hm : m = a + A.length) (hb : b = m + 1) :
    Calls Tryd.prog 68 #[.slice (some ⟨blk, off, none⟩) N cap, .int .i64 a, .int .i64 m, .int .i64 b, .func (.func 43) #[] #[]] w (MrgRes cl w0 blk off N P (A ++ [y]) S) := by
  have mixed : Tryd.prog.follows .mixedOrders = true := by kernel_rfl
  have hlen : d.size = P.length + (A.length + (1 + S.length)) := by rw [← Array.length_toList, hd]; simp; omega
  have SA : Aside (SWK (encC cl) 2 w0 blk off d w) := S0
  have gx : d[m]! = y := by have := get_part (d := d) (P := P ++ A) (A := [y]) (S := S) (by simpa using hd) 0 (by simp); simpa [ha, hm] using this
  have gA : ∀ t, t < A.length → d[a + t]! = A[t]! := fun t ht => by
    have := get_part (d := d) (P := P) (A := A) (S := y :: S) hd t ht
    simpa [ha] using this
  have HD : Hid (N = d.size ∧ d.toList = P ++ (A ++ (y :: S)) ∧ Asc cl A ∧ d[m]! = y ∧ (∀ t, t < A.length → d[a + t]! = A[t]!) ∧ a = P.length ∧ b = m + 1 ∧ m = a + A.length) := ⟨hN, hd, hA, gx, gA, ha, hb, hm⟩
  have hbN : m < N := by omega
  have hN1 : N < 1000000 := by omega
  have ma2 : a + 2 ≤ m := by omega
  have bm : (b : Int) - (m : Int) = 1 := by omega
  obtain ⟨n1, hn1⟩ : ∃ n : Nat, m - a = n := ⟨_, rfl⟩
  have ma : (m : Int) - (a : Int) = (n1 : Int) := by omega
  have wn1 : IntKind.i64.wrap (n1 : Int) = (n1 : Int) := by rw [IntKind.wrap_i64]; omega
  have nn1 : ¬ ((n1 : Int) = 1) := by omega
  have nn2 : ((n1 : Int) == 1) = false := by rw [beq_eq_false_iff_ne]; exact nn1
  have nn3 : ¬ (n1 = 1) := by omega
  clear S0 hd hA gx gA hb hlen ha hN hn1 hA2
  have HS : Hid (d0.size = d.size) := hs
  have HM : Hid (m = a + A.length) := hm
  clear hs hm
  go_enter Tryd.func68, Tryd.ntmps68
  go_wp2
  go_loopg [14, 15, 16] (m - a) (fun k vi vj vh wr => ∃ (i j : Nat), vi = .int .i64 i ∧ vj = .int .i64 j ∧ a ≤ i ∧ i ≤ j ∧ j ≤ m ∧ j - i ≤ k ∧ Aside (SWK (encC cl) 2 w0 blk off d wr) ∧
    Hid ((∀ t, a + t < i → t < A.length → cl A[t]! ≤ cl y) ∧ (∀ t, j ≤ a + t → t < A.length → cl y < cl A[t]!)))
  case atStart => exact ⟨a, m, rfl, rfl, Nat.le_refl _, by omega, Nat.le_refl _, Nat.le_refl _, SA, (show Hid _ from ⟨fun t h => by omega, fun t h h' => by have := HM.out; omega⟩)⟩
  case round =>
    clear SA
    obtain ⟨i, j, rfl, rfl, h1, h2, h3, hk, S1, HI⟩ := hrel
    by_cases hij : i < j
    · have hijz : (i : Int) < (j : Int) := by omega
      obtain ⟨h, hh⟩ : ∃ h, h = (i + j) / 2 := ⟨_, rfl⟩
      have eh : ((i : Int) + (j : Int)) / 2 = (h : Int) := by omega
      have wij : IntKind.i64.wrap ((i : Int) + (j : Int)) = (i : Int) + (j : Int) := by rw [IntKind.wrap_i64]; omega
      have wh : IntKind.i64.wrap (h : Int) = (h : Int) := by rw [IntKind.wrap_i64]; omega
      have bh : (h : Int) < (N : Int) := by omega
      have ba : (m : Int) < (N : Int) := by omega
      have hhb : h < j := by omega
      have hhi : i ≤ h := by omega
      have hha : a ≤ h := by omega
      have HH : Hid (h = (i + j) / 2) := hh
      clear hh
      have c1 := sw_c0 S1.out R HS.out.symm h (by have := HD.out.1; omega)
      have c2 := sw_c1 S1.out R HS.out.symm h (by have := HD.out.1; omega)
      have c3 := sw_c0 S1.out R HS.out.symm m (by have := HD.out.1; omega)
      have c4 := sw_c1 S1.out R HS.out.symm m (by have := HD.out.1; omega)
      obtain ⟨t, ht⟩ : ∃ t, h = a + t := ⟨h - a, by omega⟩
      have htB : t < A.length := by have := HM.out; omega
      rw [show d[h]! = A[t]! by rw [ht]; exact HD.out.2.2.2.2.1 t htB] at c1 c2
      rw [show d[m]! = y from HD.out.2.2.2.1] at c3 c4
      have HT : Hid (h = a + t ∧ t < A.length) := ⟨ht, htB⟩
      clear ht htB
      obtain ⟨x, hy⟩ : ∃ y, A[t]! = y := ⟨_, rfl⟩
      obtain ⟨kx, hkx⟩ : ∃ k, cl x = k := ⟨_, rfl⟩
      obtain ⟨ky, hky⟩ : ∃ k, cl y = k := ⟨_, rfl⟩
      rw [hy] at c1 c2
      rw [hky] at c4
      rw [hkx] at c2
      have HY : Hid (A[t]! = x ∧ cl y = ky ∧ cl x = kx) := ⟨hy, hky, hkx⟩
      clear hy hky hkx
      obtain ⟨r, hr⟩ : ∃ r, cfC ky kx = r := ⟨_, rfl⟩
      have hcg : ∀ n' os', Calls Tryd.prog 43 #[.agg #[.int .i64 y, .int .i64 ky], .agg #[.int .i64 x, .int .i64 kx]] (grow (wr.drewN n') os') fun e w' => e = .returned (.int .i64 r) ∧ ∃ q os'', w' = grow ((grow (wr.drewN n') os').drewN q) os'' := fun n' os' => hr ▸ byClass_any y ky x kx _
      by_cases hlt : ky < kx
      · have hr0 : r < 0 := by rw [← hr]; exact cfC_lt.2 hlt
        have hrd : decide (r < 0) = true := decide_eq_true hr0
        clear hr
        go_wp2_with fail
        go_quiet_grown (first | (go_at_call 43; refine Calls.grown_of (hcg _ _)))
        have S2 : Aside (SWK (encC cl) 2 w0 blk off d (grow (wr.drewN nq) osq)) := S1.out.grown nq osq
        clear c1 c2 c3 c4 hcg S1
        generalize grow (wr.drewN nq) osq = w2 at S2 ⊢
        go_wp2
        go_roundg (h - i)
        case measure => omega
        case rel =>
          refine ⟨i, h, rfl, by go_num, h1, hhi, by omega, Nat.le_refl _, S2, (show Hid _ from ⟨HI.out.1, fun u hu hu' => ?_⟩)⟩
          obtain ⟨e1, e2⟩ := HT.out
          obtain ⟨e3, e4, e5⟩ := HY.out
          have := asc_get HD.out.2.2.1 (t := t) (u := u) (by omega) hu'
          rw [e3, e5] at this; omega
      · have hr0 : ¬ r < 0 := by rw [← hr]; exact fun h => hlt (cfC_lt.1 h)
        have hrd : decide (r < 0) = false := decide_eq_false hr0
        clear hr
        go_wp2_with fail
        go_quiet_grown (first | (go_at_call 43; refine Calls.grown_of (hcg _ _)))
        have S2 : Aside (SWK (encC cl) 2 w0 blk off d (grow (wr.drewN nq) osq)) := S1.out.grown nq osq
        clear c1 c2 c3 c4 hcg S1
        generalize grow (wr.drewN nq) osq = w2 at S2 ⊢
        go_wp2
        go_roundg (j - (h + 1))
        case measure => omega
        case rel =>
          refine ⟨h + 1, j, by go_num, rfl, by omega, by omega, h3, Nat.le_refl _, S2, (show Hid _ from ⟨fun u hu hu' => ?_, HI.out.2⟩)⟩
          obtain ⟨e1, e2⟩ := HT.out
          obtain ⟨e3, e4, e5⟩ := HY.out
          have := asc_get HD.out.2.2.1 (t := u) (u := t) (by omega) e2
          rw [e3, e5] at this; omega
    · obtain rfl : i = j := by omega
      obtain ⟨r, hr⟩ : ∃ r, i = a + r := ⟨i - a, by omega⟩
      have hrB : r ≤ A.length := by have := HM.out; omega
      have HR : Hid (i = a + r) := hr
      have HF : Hid (Stb cl (A.take r ++ y :: A.drop r) (A ++ [y])) := right_stb HD.out.2.2.1 (fun t ht => HI.out.1 t (by omega)) (fun t ht => HI.out.2 t (by omega))
      have hAl : m = a + A.length := HM.out
      have HAl : Hid (m = a + A.length) := HM
      clear hr HI hAl
      go_wp2
      go_loopg [17] (A.length - r) (fun k vk wr2 => ∃ (t : Nat) (dk : Array Int), vk = .int .i64 ((a + t : Nat) : Int) ∧ r ≤ t ∧ t ≤ A.length ∧ t - r ≤ k ∧ Aside (SWK (encC cl) 2 w0 blk off dk wr2) ∧
        Hid (dk.size = d.size ∧ dk.toList = P ++ (A.take t ++ (y :: (A.drop t ++ S)))))
      case atStart => exact ⟨A.length, d, by rw [← HM.out], hrB, Nat.le_refl _, Nat.le_refl _, S1, (show Hid _ from ⟨rfl, by simpa using HD.out.2.1⟩)⟩
      case round =>
        clear S1
        obtain ⟨t, dk, rfl, ht, htl, hk2, S2, HL⟩ := hrel
        by_cases htr : r < t
        · obtain ⟨u, rfl⟩ : ∃ u, t = u + 1 := ⟨t - 1, by omega⟩
          have hz : (i : Int) < ((a + (u + 1) : Nat) : Int) := by have := HR.out; omega
          obtain ⟨q, hq⟩ : ∃ q, a + u = q := ⟨_, rfl⟩
          have hmN : q + 1 ≤ m := by have := HM.out; omega
          have HQ : Hid (a + u = q) := hq
          rw [show a + (u + 1) = q + 1 by omega] at hz
          rw [show a + (u + 1) = q + 1 by omega]
          have e1 : ((q : Int) + 1).toNat = q + 1 := by omega
          have p1 : (0 : Int) ≤ (q : Int) + 1 := by omega
          have b1 : (q : Int) + 1 < (N : Int) := by omega
          have b2 : (q : Int) < (N : Int) := by omega
          have r1 : IntKind.i64.wrap ((q : Int)) = (q : Int) := by rw [IntKind.wrap_i64]; omega
          have hN' := HD.out.1
          have hds := HL.out.1
          obtain ⟨oa, hoa⟩ : ∃ o, off + (q + 1) * 2 = o := ⟨_, rfl⟩
          obtain ⟨ob, hob⟩ : ∃ o, off + q * 2 = o := ⟨_, rfl⟩
          have S3 : Hid (SWK (encC cl) 2 w0 blk off (swp dk (q + 1) q) _) := sw_sw S2.out R (q + 1) q (by omega) (by omega) oa ob hoa hob
          obtain ⟨c1, c2, f1, f2⟩ := sw_h0 S2.out R (hds.trans HS.out.symm) (q + 1) (by omega)
          obtain ⟨c3, c4, f3, f4⟩ := sw_h0 S2.out R (hds.trans HS.out.symm) q (by omega)
          have q1 : ¬ oa = ob := by omega
          have q2 : ¬ oa + 1 = ob := by omega
          have q3 : ¬ oa = ob + 1 := by omega
          have q4 : ¬ ob = oa := by omega
          have q5 : ¬ ob + 1 = oa := by omega
          have q6 : ¬ ob = oa + 1 := by omega
          rw [hoa] at c1 c2 f1 f2
          rw [hob] at c3 c4 f3 f4
          generalize cl dk[q]! = k1 at *
          generalize cl dk[q + 1]! = k2 at *
          generalize dk[q]! = x1 at *
          generalize dk[q + 1]! = x2 at *
          clear S2 hN' hds hq
          go_wp2_with fail
          go_big_region
          clear c1 c2 c3 c4 f1 f2 f3 f4
          generalize (World.setCell _ _ _).drew = w2 at S3 ⊢
          go_wp2
          go_roundg (u - r)
          case measure => omega
          case rel => exact ⟨u, swp dk (q + 1) q, by rw [HQ.out], by omega, by omega, Nat.le_refl _, S3, (show Hid _ from ⟨by rw [size_swp]; exact HL.out.1, by rw [← HQ.out]; exact downStep HD.out.2.2.2.2.2.1 (by omega) HL.out.2⟩)⟩
        · have hz : ¬ (i : Int) < ((a + t : Nat) : Int) := by have := HR.out; omega
          obtain rfl : t = r := by omega
          go_wp2
          (try simp only [Exit.inBlock, Exit.then]); refine bodyPost_ret (results_none rfl _ _ _) rfl ?_
          exact ⟨_, HF.out, rfl, dk, by rw [HL.out.2]; simp, HL.out.1.trans HD.out.1.symm, S2.out⟩
end Go.Proofs.YtmglnpnkkidnnaaDoor
