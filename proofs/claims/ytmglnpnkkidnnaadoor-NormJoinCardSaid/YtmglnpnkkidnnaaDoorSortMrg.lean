/- The walk of slices.symMergeCmpFunc at norm's char: a part of one element. -/
import Derived.Test.YtmglnpnkkidnnaaDoorSortRot
namespace Go.Proofs.YtmglnpnkkidnnaaDoor
set_option linter.unusedVariables false
open Go.RowKit Go.Shelf Go.Lib Go.Sort
/-- what byClass answers. -/
def cfC (k l : Int) : Int := if k < l then -1 else if l < k then 1 else 0
theorem cfC_lt {k l : Int} : cfC k l < 0 ↔ k < l := by
  unfold cfC
  split
  · constructor <;> intros <;> omega
  · split <;> constructor <;> intros <;> omega
theorem isNaN_any (x : Int) (w : World) : Calls Tryd.prog 69 #[.int .i64 x] w fun e w' => e = .returned (.bool false) ∧ w = w' := by
  have h : (x != x) = false := by simp
  go_enter Tryd.func69, Tryd.ntmps69
  go_wp2
  go_ret
  exact ⟨rfl, rfl⟩
theorem compare_any (k l : Int) (w : World) : Calls Tryd.prog 56 #[.int .i64 k, .int .i64 l] w fun e w' => e = .returned (.int .i64 (cfC k l)) ∧ w = w' := by
  have HN := Lib.hid isNaN_any
  unfold cfC
  by_cases h1 : k < l
  · rw [if_pos h1]
    go_enter Tryd.func56, Tryd.ntmps56
    go_wp2_with (go_at_call 69; refine (HN.out _ _).mono ?_; rintro e w' ⟨rfl, rfl⟩)
    go_ret
    exact ⟨rfl, rfl⟩
  · rw [if_neg h1]
    by_cases h2 : l < k
    · rw [if_pos h2]
      go_enter Tryd.func56, Tryd.ntmps56
      go_wp2_with (go_at_call 69; refine (HN.out _ _).mono ?_; rintro e w' ⟨rfl, rfl⟩)
      go_ret
      exact ⟨rfl, rfl⟩
    · rw [if_neg h2]
      go_enter Tryd.func56, Tryd.ntmps56
      go_wp2_with (go_at_call 69; refine (HN.out _ _).mono ?_; rintro e w' ⟨rfl, rfl⟩)
      go_ret
      exact ⟨rfl, rfl⟩
set_option maxHeartbeats 1000000 in
theorem byClass_any (x k y l : Int) (W : World) : Calls Tryd.prog 43 #[.agg #[.int .i64 x, .int .i64 k], .agg #[.int .i64 y, .int .i64 l]] W fun e w' => e = .returned (.int .i64 (cfC k l)) ∧ ∃ q os', w' = grow (W.drewN q) os' := by
  have hcon := Lib.hid (fun W' => compare_any k l W')
  generalize cfC k l = r at hcon ⊢
  go_enter Tryd.func43, Tryd.ntmps43
  go_wp2_with (go_at_call 56; refine (hcon.out _).mono ?_; rintro e w' ⟨rfl, rfl⟩)
  go_ret
  exact ⟨rfl, 0, _, by rw [alloc_eq_grow, alloc_eq_grow, grow_grow]; rfl⟩
section
variable {cl : Int → Int} {w0 W : World} {blk off : Nat} {dk d0 : Array Int}
theorem sw_c0 (h : SWK (encC cl) 2 w0 blk off dk W) (R : RowC cl w0 blk off d0) (hs : dk.size = d0.size) (i : Nat) (hi : i < dk.size) (n : Nat) (os : Array Obj) : (grow (W.drewN n) os).cell? ⟨blk, off + i * 2, none⟩ = some (.int .i64 dk[i]!) :=
  (HoldsK.cell ((h.grown n os).holds R.hblk R.hH hs) (i := i) (c := 0) hi (by omega)).1
theorem sw_c1 (h : SWK (encC cl) 2 w0 blk off dk W) (R : RowC cl w0 blk off d0) (hs : dk.size = d0.size) (i : Nat) (hi : i < dk.size) (n : Nat) (os : Array Obj) : (grow (W.drewN n) os).cell? ⟨blk, off + i * 2 + 1, none⟩ = some (.int .i64 (cl dk[i]!)) :=
  (HoldsK.cell ((h.grown n os).holds R.hblk R.hH hs) (i := i) (c := 1) hi (by omega)).1
theorem sw_h0 (h : SWK (encC cl) 2 w0 blk off dk W) (R : RowC cl w0 blk off d0) (hs : dk.size = d0.size) (i : Nat) (hi : i < dk.size) : W.cell? ⟨blk, off + i * 2, none⟩ = some (.int .i64 dk[i]!) ∧ W.cell? ⟨blk, off + i * 2 + 1, none⟩ = some (.int .i64 (cl dk[i]!)) ∧ W.frozen? ⟨blk, off + i * 2, none⟩ = false ∧ W.frozen? ⟨blk, off + i * 2 + 1, none⟩ = false :=
  have H := h.holds R.hblk R.hH hs
  ⟨(HoldsK.cell H (i := i) (c := 0) hi (by omega)).1, (HoldsK.cell H (i := i) (c := 1) hi (by omega)).1, (HoldsK.cell H (i := i) (c := 0) hi (by omega)).2, (HoldsK.cell H (i := i) (c := 1) hi (by omega)).2⟩
/-- An exchange, cell by cell. -/
theorem sw_sw (h : SWK (encC cl) 2 w0 blk off dk W) (R : RowC cl w0 blk off d0) (i j : Nat) (hi : i < dk.size) (hj : j < dk.size) (oa ob : Nat) (ha : off + i * 2 = oa) (hb : off + j * 2 = ob) :
    SWK (encC cl) 2 w0 blk off (swp dk i j) (((((W.setCell ⟨blk, oa, none⟩ (.int .i64 dk[j]!)).setCell ⟨blk, oa + 1, none⟩ (.int .i64 (cl dk[j]!))).setCell ⟨blk, ob, none⟩ (.int .i64 dk[i]!)).setCell ⟨blk, ob + 1, none⟩ (.int .i64 (cl dk[i]!))).drew) := by
  subst ha hb
  exact h.swapped R i j hi hj
end
/-- what a merge answers: the part holds a stable order of L. -/
def MrgRes (cl : Int → Int) (w0 : World) (blk off n : Nat) (P L S : List Int) (e : Ending) (w' : World) : Prop :=
  ∃ M, Stb cl M L ∧ RowRes cl w0 blk off n (P ++ (M ++ S)) e w'
theorem get_part {d : Array Int} {P A S : List Int} (h : d.toList = P ++ (A ++ S)) (t : Nat) (ht : t < A.length) : d[P.length + t]! = A[t]! := by
  rw [get_toList d _ h, getElem!_pos _ (P.length + t) (by simp; omega), getElem!_pos A t ht, List.getElem_append_right (by omega)]
  simp only [Nat.add_sub_cancel_left]
  rw [List.getElem_append_left ht]
set_option maxHeartbeats 4000000 in
set_option maxRecDepth 200000 in
theorem mergeL_any (cl : Int → Int) (blk off cap : Nat) (d0 d : Array Int) (w0 w : World) (R : RowC cl w0 blk off d0) (hs : d0.size = d.size) (S0 : SWK (encC cl) 2 w0 blk off d w) (hsz : d.size < 1000000)
    (P B S : List Int) (x : Int) (a m b : Nat) (N : Nat) (hN : N = d.size) (hd : d.toList = P ++ (x :: (B ++ S))) (hB : Asc cl B) (ha : a = P.length) (hm : m = a + 1) (hb : b = m + B.length) :
    Calls Tryd.prog 68 #[.slice (some ⟨blk, off, none⟩) N cap, .int .i64 a, .int .i64 m, .int .i64 b, .func (.func 43) #[] #[]] w (MrgRes cl w0 blk off N P ([x] ++ B) S) := by
  have mixed : Tryd.prog.follows .mixedOrders = true := by kernel_rfl
  have hlen : d.size = P.length + (1 + (B.length + S.length)) := by rw [← Array.length_toList, hd]; simp; omega
  have SA : Aside (SWK (encC cl) 2 w0 blk off d w) := S0
  have gx : d[a]! = x := by have := get_part (d := d) (P := P) (A := [x]) (S := B ++ S) (by simpa using hd) 0 (by simp); simpa [ha] using this
  have gB : ∀ t, t < B.length → d[m + t]! = B[t]! := fun t ht => by
    have := get_part (d := d) (P := P ++ [x]) (A := B) (S := S) (by simpa using hd) t ht
    simpa [hm, ha, Nat.add_assoc, Nat.add_comm 1] using this
  have HD : Hid (N = d.size ∧ d.toList = P ++ (x :: (B ++ S)) ∧ Asc cl B ∧ d[a]! = x ∧ (∀ t, t < B.length → d[m + t]! = B[t]!) ∧ a = P.length ∧ b = m + B.length ∧ m = a + 1) := ⟨hN, hd, hB, gx, gB, ha, hb, hm⟩
  have hbN : b ≤ N := by omega
  have hN1 : N < 1000000 := by omega
  have hma : m = a + 1 := hm
  have hmb : m ≤ b := by omega
  clear S0 hd hB gx gB hb hlen ha hN
  have ma : (m : Int) - (a : Int) = 1 := by omega
  have HS : Hid (d0.size = d.size) := hs
  have HM : Hid (m = a + 1) := hm
  clear hs hm hma
  go_enter Tryd.func68, Tryd.ntmps68
  go_wp2
  go_loopg [10, 11, 12] (b - m) (fun k vi vj vh wr => ∃ (i j : Nat), vi = .int .i64 i ∧ vj = .int .i64 j ∧ m ≤ i ∧ i ≤ j ∧ j ≤ b ∧ j - i ≤ k ∧ Aside (SWK (encC cl) 2 w0 blk off d wr) ∧
    Hid ((∀ t, m + t < i → t < B.length → cl B[t]! < cl x) ∧ (∀ t, j ≤ m + t → t < B.length → cl x ≤ cl B[t]!)))
  case atStart => exact ⟨m, b, rfl, rfl, Nat.le_refl _, hmb, Nat.le_refl _, Nat.le_refl _, SA, (show Hid _ from ⟨fun t h => by omega, fun t h h' => by have := HD.out.2.2.2.2.2.2.1; omega⟩)⟩
  case round =>
    clear SA
    obtain ⟨i, j, rfl, rfl, h1, h2, h3, hk, S1, HI⟩ := hrel
    by_cases hij : i < j
    · have hijz : (i : Int) < (j : Int) := by omega
      obtain ⟨h, hh⟩ : ∃ h, h = (i + j) / 2 := ⟨_, rfl⟩
      have eh : ((i : Int) + (j : Int)) / 2 = (h : Int) := by omega
      have wij : IntKind.i64.wrap ((i : Int) + (j : Int)) = (i : Int) + (j : Int) := by rw [IntKind.wrap_i64]; omega
      have wh : IntKind.i64.wrap (h : Int) = (h : Int) := by rw [IntKind.wrap_i64]; omega
      have bh : (h : Int) < (N : Int) := by omega
      have ba : (a : Int) < (N : Int) := by have := HM.out; omega
      have hha : m ≤ h := by omega
      have hhb : h < j := by omega
      have hhi : i ≤ h := by omega
      have HH : Hid (h = (i + j) / 2) := hh
      clear hh
      have c1 := sw_c0 S1.out R HS.out.symm h (by have := HD.out.1; omega)
      have c2 := sw_c1 S1.out R HS.out.symm h (by have := HD.out.1; omega)
      have c3 := sw_c0 S1.out R HS.out.symm a (by have := HD.out.1; have := HM.out; omega)
      have c4 := sw_c1 S1.out R HS.out.symm a (by have := HD.out.1; have := HM.out; omega)
      obtain ⟨t, ht⟩ : ∃ t, h = m + t := ⟨h - m, by omega⟩
      have htB : t < B.length := by have := HD.out.2.2.2.2.2.2.1; omega
      rw [show d[h]! = B[t]! by rw [ht]; exact HD.out.2.2.2.2.1 t htB] at c1 c2
      rw [show d[a]! = x from HD.out.2.2.2.1] at c3 c4
      have HT : Hid (h = m + t ∧ t < B.length) := ⟨ht, htB⟩
      clear ht htB
      obtain ⟨y, hy⟩ : ∃ y, B[t]! = y := ⟨_, rfl⟩
      obtain ⟨ky, hky⟩ : ∃ k, cl y = k := ⟨_, rfl⟩
      obtain ⟨kx, hkx⟩ : ∃ k, cl x = k := ⟨_, rfl⟩
      rw [hy] at c1 c2
      rw [hky] at c2
      rw [hkx] at c4
      have HY : Hid (B[t]! = y ∧ cl y = ky ∧ cl x = kx) := ⟨hy, hky, hkx⟩
      clear hy hky hkx
      obtain ⟨r, hr⟩ : ∃ r, cfC ky kx = r := ⟨_, rfl⟩
      have hcg : ∀ n' os', Calls Tryd.prog 43 #[.agg #[.int .i64 y, .int .i64 ky], .agg #[.int .i64 x, .int .i64 kx]] (grow (wr.drewN n') os') fun e w' => e = .returned (.int .i64 r) ∧ ∃ q os'', w' = grow ((grow (wr.drewN n') os').drewN q) os'' := fun n' os' => hr ▸ byClass_any y ky x kx _
      by_cases hlt : ky < kx
      · have hr0 : r < 0 := by rw [← hr]; exact cfC_lt.2 hlt
        have hrd : decide (r < 0) = true := decide_eq_true hr0
        clear hr
        go_wp2_with fail
        go_quiet_grown (first | (go_at_call 43; refine Calls.grown_of (hcg _ _)))
        have S2 : Aside (SWK (encC cl) 2 w0 blk off d (grow (wr.drewN nq) osq)) := S1.out.grown nq osq
        clear c1 c2 c3 c4 hcg S1
        generalize grow (wr.drewN nq) osq = w2 at S2 ⊢
        go_wp2
        go_roundg (j - (h + 1))
        case measure => omega
        case rel =>
          refine ⟨h + 1, j, by go_num, rfl, by omega, by omega, h3, Nat.le_refl _, S2, (show Hid _ from ⟨fun u hu hu' => ?_, HI.out.2⟩)⟩
          obtain ⟨e1, e2⟩ := HT.out
          obtain ⟨e3, e4, e5⟩ := HY.out
          have := asc_get HD.out.2.2.1 (t := u) (u := t) (by omega) e2
          rw [e3, e4] at this; omega
      · have hr0 : ¬ r < 0 := by rw [← hr]; exact fun h => hlt (cfC_lt.1 h)
        have hrd : decide (r < 0) = false := decide_eq_false hr0
        clear hr
        go_wp2_with fail
        go_quiet_grown (first | (go_at_call 43; refine Calls.grown_of (hcg _ _)))
        have S2 : Aside (SWK (encC cl) 2 w0 blk off d (grow (wr.drewN nq) osq)) := S1.out.grown nq osq
        clear c1 c2 c3 c4 hcg S1
        generalize grow (wr.drewN nq) osq = w2 at S2 ⊢
        go_wp2
        go_roundg (h - i)
        case measure => omega
        case rel =>
          refine ⟨i, h, rfl, by go_num, h1, hhi, by omega, Nat.le_refl _, S2, (show Hid _ from ⟨HI.out.1, fun u hu hu' => ?_⟩)⟩
          obtain ⟨e1, e2⟩ := HT.out
          obtain ⟨e3, e4, e5⟩ := HY.out
          have := asc_get HD.out.2.2.1 (t := t) (u := u) (by omega) hu'
          rw [e3, e4] at this; omega
    · obtain rfl : i = j := by omega
      obtain ⟨r, hr⟩ : ∃ r, i = m + r := ⟨i - m, by omega⟩
      have hrB : r ≤ B.length := by have := HD.out.2.2.2.2.2.2.1; omega
      have HR : Hid (i = m + r) := hr
      have HF : Hid (Stb cl (B.take r ++ x :: B.drop r) ([x] ++ B)) := left_stb HD.out.2.2.1 (fun t ht => HI.out.1 t (by omega)) (fun t ht => HI.out.2 t (by omega))
      have ei : (i : Int) - 1 = ((a + r : Nat) : Int) := by have := HM.out; omega
      have wi : IntKind.i64.wrap ((a + r : Nat) : Int) = ((a + r : Nat) : Int) := by rw [IntKind.wrap_i64]; have := HM.out; omega
      have hir : a + r < b := by have := HM.out; omega
      clear hr HI
      go_wp2
      go_loopg [13] r (fun k vk wr2 => ∃ (t : Nat) (dk : Array Int), vk = .int .i64 ((a + t : Nat) : Int) ∧ t ≤ r ∧ r - t ≤ k ∧ Aside (SWK (encC cl) 2 w0 blk off dk wr2) ∧
        Hid (dk.size = d.size ∧ dk.toList = P ++ (B.take t ++ (x :: (B.drop t ++ S)))))
      case atStart => exact ⟨0, d, by simp, by omega, by omega, S1, (show Hid _ from ⟨rfl, by simpa using HD.out.2.1⟩)⟩
      case round =>
        clear S1
        obtain ⟨t, dk, rfl, ht, hk2, S2, HL⟩ := hrel
        by_cases htr : t < r
        · have hz : ((a + t : Nat) : Int) < ((a + r : Nat) : Int) := by omega
          obtain ⟨q, hq⟩ : ∃ q, a + t = q := ⟨_, rfl⟩
          obtain ⟨q', hq'⟩ : ∃ q, a + r = q := ⟨_, rfl⟩
          rw [hq, hq'] at hz
          rw [hq'] at ei wi hir
          rw [hq]
          have e1 : ((q : Int) + 1).toNat = q + 1 := by omega
          have p1 : (0 : Int) ≤ (q : Int) + 1 := by omega
          have b1 : (q : Int) + 1 < (N : Int) := by omega
          have b2 : (q : Int) < (N : Int) := by omega
          have r1 : IntKind.i64.wrap ((q : Int) + 1) = (q : Int) + 1 := by rw [IntKind.wrap_i64]; omega
          have hN' := HD.out.1
          have hds := HL.out.1
          obtain ⟨oa, hoa⟩ : ∃ o, off + q * 2 = o := ⟨_, rfl⟩
          obtain ⟨ob, hob⟩ : ∃ o, off + (q + 1) * 2 = o := ⟨_, rfl⟩
          have S3 : Hid (SWK (encC cl) 2 w0 blk off (swp dk q (q + 1)) _) := sw_sw S2.out R q (q + 1) (by omega) (by omega) oa ob hoa hob
          obtain ⟨c1, c2, f1, f2⟩ := sw_h0 S2.out R (hds.trans HS.out.symm) q (by omega)
          obtain ⟨c3, c4, f3, f4⟩ := sw_h0 S2.out R (hds.trans HS.out.symm) (q + 1) (by omega)
          have q1 : ¬ oa = ob := by omega
          have q2 : ¬ oa + 1 = ob := by omega
          have q3 : ¬ oa = ob + 1 := by omega
          have q4 : ¬ ob = oa := by omega
          have q5 : ¬ ob + 1 = oa := by omega
          have q6 : ¬ ob = oa + 1 := by omega
          rw [hoa] at c1 c2 f1 f2
          rw [hob] at c3 c4 f3 f4
          generalize cl dk[q]! = k1 at *
          generalize cl dk[q + 1]! = k2 at *
          generalize dk[q]! = x1 at *
          generalize dk[q + 1]! = x2 at *
          have HQ : Hid (a + t = q ∧ a + r = q') := ⟨hq, hq'⟩
          clear S2 hN' hds hq hq'
          go_wp2_with fail
          go_big_region
          clear c1 c2 c3 c4 f1 f2 f3 f4
          generalize (World.setCell _ _ _).drew = w2 at S3 ⊢
          go_wp2
          go_roundg (r - (t + 1))
          case measure => omega
          case rel => exact ⟨t + 1, swp dk q (q + 1), by have := HQ.out.1; go_num, by omega, Nat.le_refl _, S3, (show Hid _ from ⟨by rw [size_swp]; exact HL.out.1, by rw [← HQ.out.1]; exact upStep HD.out.2.2.2.2.2.1 (by omega) HL.out.2⟩)⟩
        · have hz : ¬ ((a + t : Nat) : Int) < ((a + r : Nat) : Int) := by omega
          obtain rfl : t = r := by omega
          go_wp2
          (try simp only [Exit.inBlock, Exit.then]); refine bodyPost_ret (results_none rfl _ _ _) rfl ?_
          exact ⟨_, HF.out, rfl, dk, by rw [HL.out.2]; simp, HL.out.1.trans HD.out.1.symm, S2.out⟩
end Go.Proofs.YtmglnpnkkidnnaaDoor
