/- The walk of slices.symMergeCmpFunc at norm's char: the halves. -/
import Derived.Test.YtjhkfjbgdaomeaaGreatDoorMSort
import Derived.Deep.DeepCutAuto
import Derived.Deep.CutBlock
namespace Go.Proofs.YtjhkfjbgdaomeaaGreatDoor
set_option linter.unusedVariables false
open Go.RowKit Go.Shelf Go.Lib Go.Sort
/-- Where the search begins and ends. -/
def SymLim (a m b s0 r0 : Nat) : Prop := ((a + b) / 2 < m ∧ s0 + b = (a + b) / 2 + m ∧ r0 = (a + b) / 2) ∨ (¬ (a + b) / 2 < m ∧ s0 = a ∧ r0 = m)
theorem SymLim.bd {a m b s0 r0 : Nat} (h : SymLim a m b s0 r0) (h1 : a + 2 ≤ m) (h2 : m + 2 ≤ b) : a ≤ s0 ∧ s0 ≤ r0 ∧ r0 ≤ m ∧ r0 ≤ (a + b) / 2 + m ∧ (∀ c, s0 ≤ c → c < r0 → c + 1 ≤ (a + b) / 2 + m - m ∧ m ≤ (a + b) / 2 + m - 1 - c ∧ (a + b) / 2 + m - 1 - c < b) ∧ (a + b) / 2 + m ≤ s0 + b ∧ m + r0 ≤ (a + b) / 2 + m := by
  unfold SymLim at h
  refine ⟨by omega, by omega, by omega, by omega, fun c hc1 hc2 => ⟨by omega, by omega, by omega⟩, by omega, by omega⟩
/-- What the search has found. -/
theorem sym_facts {cl : Int → Int} {A B : List Int} (hA : Asc cl A) (hB : Asc cl B) {a m b s0 r0 st en : Nat} (hL : SymLim a m b s0 r0) (h1 : a + 2 ≤ m) (h2 : m + 2 ≤ b) (hAl : A.length = m - a) (hBl : B.length = b - m)
    (hs : s0 ≤ st) (hr : st ≤ r0) (he : en + st = (a + b) / 2 + m)
    (f1 : ∀ c, s0 ≤ c → c < st → cl A[c - a]! ≤ cl B[(a + b) / 2 + m - 1 - c - m]!) (f2 : ∀ c, st ≤ c → c < r0 → cl B[(a + b) / 2 + m - 1 - c - m]! < cl A[c - a]!) :
    (∀ y ∈ B.take (en - m), ∀ x ∈ A.drop (st - a), cl y < cl x) ∧ (∀ x ∈ A.take (st - a), ∀ y ∈ B.drop (en - m), cl x ≤ cl y) := by
  have bd := hL.bd h1 h2
  constructor
  · intro y hy x hx
    obtain ⟨u, hu, hu', rfl⟩ := mem_take hy
    obtain ⟨v, hv, hv', rfl⟩ := mem_drop hx
    by_cases hc : st < r0
    · have h := f2 st (Nat.le_refl _) hc
      rw [show (a + b) / 2 + m - 1 - st - m = en - 1 - m by omega] at h
      have e1 := asc_get hB (t := u) (u := en - 1 - m) (by omega) (by omega)
      have e2 := asc_get hA (t := st - a) (u := v) (by omega) hv'
      omega
    · unfold SymLim at hL
      rcases hL with ⟨l1, l2, l3⟩ | ⟨l1, l2, l3⟩ <;> omega
  · intro x hx y hy
    obtain ⟨v, hv, hv', rfl⟩ := mem_take hx
    obtain ⟨u, hu, hu', rfl⟩ := mem_drop hy
    by_cases hc : s0 < st
    · have h := f1 (st - 1) (by omega) (by omega)
      rw [show (a + b) / 2 + m - 1 - (st - 1) - m = en - m by omega] at h
      have e1 := asc_get hB (t := en - m) (u := u) (by omega) (by omega)
      have e2 := asc_get hA (t := v) (u := st - 1 - a) (by omega) (by omega)
      omega
    · unfold SymLim at hL
      rcases hL with ⟨l1, l2, l3⟩ | ⟨l1, l2, l3⟩ <;> omega
/-- The contract of a merge, for parts of fewer than n. -/
def MrgAt (cl : Int → Int) (blk off cap : Nat) (d0 : Array Int) (w0 : World) (n : Nat) : Prop :=
  ∀ (d : Array Int) (w : World) (P A B S : List Int) (a m b N : Nat), A.length + B.length < n → N = d.size → d0.size = d.size → SWK (encC cl) 2 w0 blk off d w → d.toList = P ++ (A ++ (B ++ S)) → Asc cl A → Asc cl B → 0 < A.length → 0 < B.length →
    a = P.length → m = a + A.length → b = m + B.length →
    Calls Tryz.prog 168 #[.slice (some ⟨blk, off, none⟩) N cap, .int .i64 a, .int .i64 m, .int .i64 b, .func (.func 151) #[] #[]] w (MrgRes cl w0 blk off N P (A ++ B) S)
set_option maxHeartbeats 8000000 in
set_option maxRecDepth 200000 in
theorem mergeH_any (cl : Int → Int) (blk off cap : Nat) (d0 d : Array Int) (w0 w : World) (R : RowC cl w0 blk off d0) (hs : d0.size = d.size) (S0 : SWK (encC cl) 2 w0 blk off d w) (hsz : d.size < 1000000)
    (P A B S : List Int) (a m b : Nat) (N : Nat) (IH : MrgAt cl blk off cap d0 w0 (A.length + B.length)) (hN : N = d.size) (hd : d.toList = P ++ (A ++ (B ++ S))) (hA : Asc cl A) (hB : Asc cl B) (hA2 : 2 ≤ A.length) (hB2 : 2 ≤ B.length) (ha : a = P.length) (hm : m = a + A.length) (hb : b = m + B.length) :
    Calls Tryz.prog 168 #[.slice (some ⟨blk, off, none⟩) N cap, .int .i64 a, .int .i64 m, .int .i64 b, .func (.func 151) #[] #[]] w (MrgRes cl w0 blk off N P (A ++ B) S) := by
  have mixed : Tryz.prog.follows .mixedOrders = true := by kernel_rfl
  have hlen : d.size = P.length + (A.length + (B.length + S.length)) := by rw [← Array.length_toList, hd]; simp
  have SA : Aside (SWK (encC cl) 2 w0 blk off d w) := S0
  have gA : ∀ t, t < A.length → d[a + t]! = A[t]! := fun t ht => by
    have := get_part (d := d) (P := P) (A := A) (S := B ++ S) hd t ht
    simpa [ha] using this
  have gB : ∀ t, t < B.length → d[m + t]! = B[t]! := fun t ht => by
    have := get_part (d := d) (P := P ++ A) (A := B) (S := S) (by simpa using hd) t ht
    simpa [ha, hm] using this
  have HD : Hid (N = d.size ∧ d.toList = P ++ (A ++ (B ++ S)) ∧ Asc cl A ∧ Asc cl B ∧ (∀ t, t < A.length → d[a + t]! = A[t]!) ∧ (∀ t, t < B.length → d[m + t]! = B[t]!) ∧ a = P.length ∧ m = a + A.length ∧ b = m + B.length) := ⟨hN, hd, hA, hB, gA, gB, ha, hm, hb⟩
  have HIH : Hid (MrgAt cl blk off cap d0 w0 (A.length + B.length)) := IH
  have hbN : b ≤ N := by omega
  have hN1 : N < 1000000 := by omega
  have ma2 : a + 2 ≤ m := by omega
  have mb2 : m + 2 ≤ b := by omega
  obtain ⟨n1, hn1⟩ : ∃ n : Nat, m - a = n := ⟨_, rfl⟩
  obtain ⟨n2, hn2⟩ : ∃ n : Nat, b - m = n := ⟨_, rfl⟩
  have ma : (m : Int) - (a : Int) = (n1 : Int) := by omega
  have wn1 : IntKind.i64.wrap (n1 : Int) = (n1 : Int) := by rw [IntKind.wrap_i64]; omega
  have nn1 : ¬ ((n1 : Int) = 1) := by omega
  have nn2 : ((n1 : Int) == 1) = false := by rw [beq_eq_false_iff_ne]; exact nn1
  have nn3 : ¬ (n1 = 1) := by omega
  have mb : (b : Int) - (m : Int) = (n2 : Int) := by omega
  have wn2 : IntKind.i64.wrap (n2 : Int) = (n2 : Int) := by rw [IntKind.wrap_i64]; omega
  have mm1 : ¬ ((n2 : Int) = 1) := by omega
  have mm2 : ((n2 : Int) == 1) = false := by rw [beq_eq_false_iff_ne]; exact mm1
  have mm3 : ¬ (n2 = 1) := by omega
  obtain ⟨md, hmd⟩ : ∃ n : Nat, (a + b) / 2 = n := ⟨_, rfl⟩
  obtain ⟨n, hn⟩ : ∃ n : Nat, md + m = n := ⟨_, rfl⟩
  have wab : IntKind.i64.wrap ((a : Int) + (b : Int)) = (a : Int) + (b : Int) := by rw [IntKind.wrap_i64]; omega
  have eab : ((a : Int) + (b : Int)) / 2 = (md : Int) := by omega
  have wmd : IntKind.i64.wrap (md : Int) = (md : Int) := by rw [IntKind.wrap_i64]; omega
  have en' : (md : Int) + (m : Int) = (n : Int) := by omega
  have wn : IntKind.i64.wrap (n : Int) = (n : Int) := by rw [IntKind.wrap_i64]; omega
  have HMD : Hid ((a + b) / 2 = md ∧ md + m = n) := ⟨hmd, hn⟩
  have hmdb : md + 1 ≤ b := by omega
  have hmda : a + 1 ≤ md := by omega
  clear S0 hd hA gA gB hB hb hlen ha hN hn1 hn2 hA2 hB2 IH hmd hn
  have HS : Hid (d0.size = d.size) := hs
  clear hs hm
  go_enter Tryz.func168, Tryz.ntmps168
  go_upto_if 140 with fail
  go_cut [20, 21] (fun s r wx => ∃ s0 r0 : Nat, s = .int .i64 s0 ∧ r = .int .i64 r0 ∧ Hid (SymLim a m b s0 r0) ∧ wx = w)
  case first =>
    by_cases hmm : md < m
    · have hz : (md : Int) < (m : Int) := by omega
      have hs0 : (n : Int) - (b : Int) = ((n - b : Nat) : Int) := by have := HMD.out; omega
      have ws0 : IntKind.i64.wrap ((n - b : Nat) : Int) = ((n - b : Nat) : Int) := by rw [IntKind.wrap_i64]; have := HMD.out; omega
      go_wp2_with fail
      go_meet
      exact ⟨n - b, md, rfl, rfl, (show Hid _ from by have := HMD.out; exact .inl ⟨by omega, by omega, by omega⟩), rfl⟩
    · have hz : ¬ (md : Int) < (m : Int) := by omega
      go_wp2_with fail
      go_meet
      exact ⟨a, m, rfl, rfl, (show Hid _ from by have := HMD.out; exact .inr ⟨by omega, rfl, rfl⟩), rfl⟩
  case rest =>
    obtain ⟨s0, r0, rfl, rfl, HL, rfl⟩ := hcut
    have HB := Lib.hid (HL.out.bd ma2 mb2)
    obtain ⟨p, hp⟩ : ∃ p : Nat, n - 1 = p := ⟨_, rfl⟩
    have ep : (n : Int) - 1 = (p : Int) := by have := HMD.out; omega
    have wp' : IntKind.i64.wrap (p : Int) = (p : Int) := by rw [IntKind.wrap_i64]; have := HMD.out; omega
    have HP : Hid (n - 1 = p) := hp
    clear hp
    have k1 : s0 ≤ r0 := HB.out.2.1
    have k2 : r0 ≤ m := HB.out.2.2.1
    have k3 : a ≤ s0 := HB.out.1
    go_wp2
    go_loopg [20, 21, 23] (r0 - s0) (fun k vi vj vh wr => ∃ (i j : Nat), vi = .int .i64 i ∧ vj = .int .i64 j ∧ s0 ≤ i ∧ i ≤ j ∧ j ≤ r0 ∧ j - i ≤ k ∧ Aside (SWK (encC cl) 2 w0 blk off d wr) ∧
      Hid ((∀ c, s0 ≤ c → c < i → cl A[c - a]! ≤ cl B[(a + b) / 2 + m - 1 - c - m]!) ∧ (∀ c, j ≤ c → c < r0 → cl B[(a + b) / 2 + m - 1 - c - m]! < cl A[c - a]!)))
    case atStart => exact ⟨s0, r0, rfl, rfl, Nat.le_refl _, k1, Nat.le_refl _, Nat.le_refl _, SA, (show Hid _ from ⟨fun c _ _ => by omega, fun c _ _ => by omega⟩)⟩
    case round =>
      clear SA
      obtain ⟨i, j, rfl, rfl, h1, h2, h3, hk, S1, HI⟩ := hrel
      by_cases hij : i < j
      · have hijz : (i : Int) < (j : Int) := by omega
        obtain ⟨c, hc⟩ : ∃ c, c = (i + j) / 2 := ⟨_, rfl⟩
        have eh : ((i : Int) + (j : Int)) / 2 = (c : Int) := by omega
        have wij : IntKind.i64.wrap ((i : Int) + (j : Int)) = (i : Int) + (j : Int) := by rw [IntKind.wrap_i64]; omega
        have wh : IntKind.i64.wrap (c : Int) = (c : Int) := by rw [IntKind.wrap_i64]; omega
        have bh : (c : Int) < (N : Int) := by omega
        have hhb : c < j := by omega
        have hhi : i ≤ c := by omega
        have HC : Hid (c = (i + j) / 2) := hc
        clear hc
        obtain ⟨q, hq⟩ : ∃ q : Nat, p - c = q := ⟨_, rfl⟩
        obtain ⟨z1, z2, z3⟩ := HB.out.2.2.2.2.1 c (by omega) (by omega)
        have hpq : (p : Int) - (c : Int) = (q : Int) := by have := HMD.out; have := HP.out; omega
        have hq1 : m ≤ q := by have := HMD.out; have := HP.out; omega
        have hq2 : q < b := by have := HMD.out; have := HP.out; omega
        have wq : IntKind.i64.wrap (q : Int) = (q : Int) := by rw [IntKind.wrap_i64]; omega
        have bq : (q : Int) < (N : Int) := by omega
        have c1 := sw_c0 S1.out R HS.out.symm c (by have := HD.out.1; omega)
        have c2 := sw_c1 S1.out R HS.out.symm c (by have := HD.out.1; omega)
        have c3 := sw_c0 S1.out R HS.out.symm q (by have := HD.out.1; omega)
        have c4 := sw_c1 S1.out R HS.out.symm q (by have := HD.out.1; omega)
        have hct : c - a < A.length := by have := HD.out.2.2.2.2.2.2.2; omega
        have hqt : q - m < B.length := by have := HD.out.2.2.2.2.2.2.2; omega
        rw [show d[c]! = A[c - a]! by have := HD.out.2.2.2.2.1 (c - a) hct; rwa [show a + (c - a) = c by omega] at this] at c1 c2
        rw [show d[q]! = B[q - m]! by have := HD.out.2.2.2.2.2.1 (q - m) hqt; rwa [show m + (q - m) = q by omega] at this] at c3 c4
        have HT : Hid (c - a < A.length ∧ q - m < B.length ∧ q - m = (a + b) / 2 + m - 1 - c - m) := ⟨hct, hqt, by have := HMD.out; have := HP.out; omega⟩
        clear hct hqt hq z1 z2 z3
        obtain ⟨x, hx⟩ : ∃ y, A[c - a]! = y := ⟨_, rfl⟩
        obtain ⟨y, hy⟩ : ∃ y, B[q - m]! = y := ⟨_, rfl⟩
        obtain ⟨kx, hkx⟩ : ∃ k, cl x = k := ⟨_, rfl⟩
        obtain ⟨ky, hky⟩ : ∃ k, cl y = k := ⟨_, rfl⟩
        rw [hx] at c1 c2
        rw [hy] at c3 c4
        rw [hky] at c4
        rw [hkx] at c2
        have HY : Hid (A[c - a]! = x ∧ B[q - m]! = y ∧ cl y = ky ∧ cl x = kx) := ⟨hx, hy, hky, hkx⟩
        clear hx hy hky hkx
        obtain ⟨r, hr⟩ : ∃ r, cfC ky kx = r := ⟨_, rfl⟩
        have hcg : ∀ n' os', Calls Tryz.prog 151 #[.agg #[.int .i64 y, .int .i64 ky], .agg #[.int .i64 x, .int .i64 kx]] (grow (wr.drewN n') os') fun e w' => e = .returned (.int .i64 r) ∧ ∃ q os'', w' = grow ((grow (wr.drewN n') os').drewN q) os'' := fun n' os' => hr ▸ byClass_any y ky x kx _
        by_cases hlt : ky < kx
        · as_aux_lemma =>
          have hr0 : r < 0 := by rw [← hr]; exact cfC_lt.2 hlt
          have hrd : decide (r < 0) = true := decide_eq_true hr0
          clear hr
          go_wp2_with fail
          go_quiet_grown (first | (go_at_call 151; refine Calls.grown_of (hcg _ _)))
          have S2 : Aside (SWK (encC cl) 2 w0 blk off d (grow (wr.drewN nq) osq)) := S1.out.grown nq osq
          clear c1 c2 c3 c4 hcg S1
          generalize grow (wr.drewN nq) osq = w2 at S2 ⊢
          go_wp2
          go_roundg (c - i)
          case measure => omega
          case rel =>
            refine ⟨i, c, rfl, by go_num, h1, hhi, by omega, Nat.le_refl _, S2, (show Hid _ from ⟨HI.out.1, fun u hu hu' => ?_⟩)⟩
            obtain ⟨e1, e2, e3⟩ := HT.out
            obtain ⟨y1, y2, y3, y4⟩ := HY.out
            have hul := (HB.out.2.2.2.2.1 u (by omega) (by omega))
            have l1 := asc_get HD.out.2.2.1 (t := c - a) (u := u - a) (by omega) (by have := HD.out.2.2.2.2.2.2.2; omega)
            have l2 := asc_get HD.out.2.2.2.1 (t := (a + b) / 2 + m - 1 - u - m) (u := q - m) (by omega) e2
            rw [y1, y4] at l1
            rw [y2, y3] at l2
            omega
        · as_aux_lemma =>
          have hr0 : ¬ r < 0 := by rw [← hr]; exact fun h => hlt (cfC_lt.1 h)
          have hrd : decide (r < 0) = false := decide_eq_false hr0
          clear hr
          go_wp2_with fail
          go_quiet_grown (first | (go_at_call 151; refine Calls.grown_of (hcg _ _)))
          have S2 : Aside (SWK (encC cl) 2 w0 blk off d (grow (wr.drewN nq) osq)) := S1.out.grown nq osq
          clear c1 c2 c3 c4 hcg S1
          generalize grow (wr.drewN nq) osq = w2 at S2 ⊢
          go_wp2
          go_roundg (j - (c + 1))
          case measure => omega
          case rel =>
            refine ⟨c + 1, j, by go_num, rfl, by omega, by omega, h3, Nat.le_refl _, S2, (show Hid _ from ⟨fun u hu hu' => ?_, HI.out.2⟩)⟩
            obtain ⟨e1, e2, e3⟩ := HT.out
            obtain ⟨y1, y2, y3, y4⟩ := HY.out
            have hul := (HB.out.2.2.2.2.1 u (by omega) (by omega))
            have l1 := asc_get HD.out.2.2.1 (t := u - a) (u := c - a) (by omega) e1
            have l2 := asc_get HD.out.2.2.2.1 (t := q - m) (u := (a + b) / 2 + m - 1 - u - m) (by omega) (by have := HD.out.2.2.2.2.2.2.2; omega)
            rw [y1, y4] at l1
            rw [y2, y3] at l2
            omega
      · as_aux_lemma =>
        obtain rfl : i = j := by omega
        obtain ⟨en, hen⟩ : ∃ e : Nat, n - i = e := ⟨_, rfl⟩
        have een : (n : Int) - (i : Int) = (en : Int) := by have := HMD.out; omega
        have wen : IntKind.i64.wrap (en : Int) = (en : Int) := by rw [IntKind.wrap_i64]; have := HMD.out; omega
        have hmen : m ≤ en := by have := HMD.out; have := HB.out; omega
        have henb : en ≤ b := by have := HMD.out; have := HB.out; omega
        have hai : a ≤ i := by omega
        have him : i ≤ m := by omega
        have hsum : en + i = md + m := by have := HMD.out; omega
        obtain ⟨FYX, FAB⟩ := sym_facts HD.out.2.2.1 HD.out.2.2.2.1 HL.out ma2 mb2 (by have := HD.out.2.2.2.2.2.2.2; omega) (by have := HD.out.2.2.2.2.2.2.2; omega) h1 h3 (show en + i = (a + b) / 2 + m by have := HMD.out; omega) HI.out.1 HI.out.2
        obtain ⟨A1, hA1⟩ : ∃ L, A.take (i - a) = L := ⟨_, rfl⟩
        obtain ⟨X, hX⟩ : ∃ L, A.drop (i - a) = L := ⟨_, rfl⟩
        obtain ⟨Y, hY⟩ : ∃ L, B.take (en - m) = L := ⟨_, rfl⟩
        obtain ⟨B2, hB2⟩ : ∃ L, B.drop (en - m) = L := ⟨_, rfl⟩
        have eA : A = A1 ++ X := by rw [← hA1, ← hX, List.take_append_drop]
        have eB : B = Y ++ B2 := by rw [← hY, ← hB2, List.take_append_drop]
        have HF : Hid (A = A1 ++ X ∧ B = Y ++ B2 ∧ A1.length = i - a ∧ X.length = m - i ∧ Y.length = en - m ∧ B2.length = b - en ∧ (∀ y ∈ Y, ∀ x ∈ X, cl y < cl x) ∧ (∀ x ∈ A1, ∀ y ∈ B2, cl x ≤ cl y)) := by
          have l1 := HD.out.2.2.2.2.2.2.2
          refine ⟨eA, eB, by rw [← hA1, List.length_take]; omega, by rw [← hX, List.length_drop]; omega, by rw [← hY, List.length_take]; omega, by rw [← hB2, List.length_drop]; omega, ?_, ?_⟩
          · rw [← hY, ← hX]; exact FYX
          · rw [← hA1, ← hB2]; exact FAB
        have HE : Hid (n - i = en) := hen
        clear FYX FAB hA1 hX hY hB2 eA eB hen HI
        have hsm : b < 1000000 := by omega
        go_upto_region 39 with fail
        go_cut [24, 185] (fun e c wx => e = .int .i64 en ∧ c = .bool (decide (i < m) && decide (m < en)) ∧ wr = wx)
        case first =>
          as_aux_lemma =>
          by_cases g1 : i < m
          · have z1 : (i : Int) < (m : Int) := by omega
            by_cases g2 : m < en
            · have z2 : (m : Int) < (en : Int) := by omega
              go_wp2_with fail; go_meet; exact ⟨rfl, by simp [g1, g2], rfl⟩
            · have z2 : ¬ (m : Int) < (en : Int) := by omega
              go_wp2_with fail; go_meet; exact ⟨rfl, by simp [g1, g2], rfl⟩
          · have z1 : ¬ (i : Int) < (m : Int) := by omega
            go_wp2_with fail; go_meet; exact ⟨rfl, by simp [g1], rfl⟩
        case rest =>
        as_aux_lemma =>
        obtain ⟨rfl, rfl, rfl⟩ := hcut
        obtain ⟨c1, hc1⟩ : ∃ c, (decide (i < m) && decide (m < en)) = c := ⟨_, rfl⟩
        rw [hc1]
        have HC1 : Hid ((decide (i < m) && decide (m < en)) = c1) := hc1
        clear hc1
        go_upto_if 185 with fail
        go_cut [24] (fun e wx => e = .int .i64 en ∧ ∃ d1 : Array Int, Hid (d1.toList = P ++ (A1 ++ (Y ++ (X ++ (B2 ++ S)))) ∧ d1.size = N) ∧ Aside (SWK (encC cl) 2 w0 blk off d1 wx))
        case first =>
          as_aux_lemma =>
          cases c1 with
          | true =>
            have g := HC1.out
            rw [Bool.and_eq_true, decide_eq_true_eq, decide_eq_true_eq] at g
            have HC : Hid (∀ W, W = wr → Calls Tryz.prog 178 #[.slice (some ⟨blk, off, none⟩) N cap, .int .i64 i, .int .i64 m, .int .i64 en, .func (.func 151) #[] #[]] W (RowRes cl w0 blk off N ((P ++ A1) ++ (Y ++ (X ++ (B2 ++ S)))))) := Lib.hid fun W e => by
              subst e
              obtain ⟨f1, f2, f3, f4, f5, f6, _⟩ := HF.out
              obtain ⟨h1, h2, _, _, _, _, h7, h8, h9⟩ := HD.out
              exact rotate_any cl #[] _ blk off cap d0 d w0 W R HS.out S1.out hsz (P ++ A1) X Y (B2 ++ S) i m en N h1 (by rw [h2, f1, f2]; simp) (by omega) (by omega) (by simp; omega) (by simp; omega) (by simp; omega)
            clear g
            go_wp2_with fail
            refine (HC.out _ rfl).mono ?_
            rintro e w3 ⟨rfl, d', r1, r2, r3⟩
            have R1 : Hid (d'.toList = (P ++ A1) ++ (Y ++ (X ++ (B2 ++ S))) ∧ d'.size = N) := ⟨r1, r2⟩
            clear r1 r2
            go_wp2_with fail
            go_meet
            exact ⟨rfl, d', ⟨by rw [R1.out.1]; simp, R1.out.2⟩, r3⟩
          | false =>
            have g : X = [] ∨ Y = [] := by
              have g := HC1.out
              rw [Bool.and_eq_false_iff, decide_eq_false_iff_not, decide_eq_false_iff_not] at g
              obtain ⟨f1, f2, f3, f4, f5, f6, _⟩ := HF.out
              rcases g with g | g
              · exact .inl (List.eq_nil_of_length_eq_zero (by omega))
              · exact .inr (List.eq_nil_of_length_eq_zero (by omega))
            have HG : Hid (X = [] ∨ Y = []) := g
            clear g
            go_wp2_with fail
            go_meet
            refine ⟨rfl, d, ⟨?_, HD.out.1.symm⟩, S1⟩
            obtain ⟨f1, f2, _⟩ := HF.out
            rw [HD.out.2.1, f1, f2]
            rcases HG.out with e | e <;> simp [e]
        case rest =>
        as_aux_lemma =>
        obtain ⟨rfl, d1, R1, S2⟩ := hcut
        clear S1 HC1
        have HLT : Hid (A1.length + Y.length < A.length + B.length ∧ X.length + B2.length < A.length + B.length) := by
          have l1 := HD.out.2.2.2.2.2.2.2
          obtain ⟨f1, f2, f3, f4, f5, f6, _⟩ := HF.out
          exact ⟨by omega, by omega⟩
        go_upto_region 41 with fail
        go_cut [24, 199] (fun e c wx => e = .int .i64 en ∧ c = .bool (decide (a < i) && decide (i < md)) ∧ Aside (SWK (encC cl) 2 w0 blk off d1 wx))
        case first =>
          as_aux_lemma =>
          by_cases g1 : a < i
          · have z1 : (a : Int) < (i : Int) := by omega
            by_cases g2 : i < md
            · have z2 : (i : Int) < (md : Int) := by omega
              go_wp2_with fail; go_meet; exact ⟨rfl, by simp [g1, g2], S2⟩
            · have z2 : ¬ (i : Int) < (md : Int) := by omega
              go_wp2_with fail; go_meet; exact ⟨rfl, by simp [g1, g2], S2⟩
          · have z1 : ¬ (a : Int) < (i : Int) := by omega
            go_wp2_with fail; go_meet; exact ⟨rfl, by simp [g1], S2⟩
        case rest =>
        as_aux_lemma =>
        clear S2
        obtain ⟨rfl, rfl, S2⟩ := hcut
        obtain ⟨c2, hc2⟩ : ∃ c, (decide (a < i) && decide (i < md)) = c := ⟨_, rfl⟩
        rw [hc2]
        have HC2 : Hid ((decide (a < i) && decide (i < md)) = c2) := hc2
        clear hc2
        go_upto_if 199 with fail
        go_cut [24] (fun e wx => e = .int .i64 en ∧ ∃ (d2 : Array Int) (R1 : List Int), Hid (d2.toList = P ++ (R1 ++ (X ++ (B2 ++ S))) ∧ d2.size = N ∧ Stb cl R1 (A1 ++ Y)) ∧ Aside (SWK (encC cl) 2 w0 blk off d2 wx))
        case first =>
          as_aux_lemma =>
          cases c2 with
          | true =>
            have g := HC2.out
            rw [Bool.and_eq_true, decide_eq_true_eq, decide_eq_true_eq] at g
            have HC : Hid (∀ W, SWK (encC cl) 2 w0 blk off d1 W → Calls Tryz.prog 168 #[.slice (some ⟨blk, off, none⟩) N cap, .int .i64 a, .int .i64 i, .int .i64 md, .func (.func 151) #[] #[]] W (MrgRes cl w0 blk off N P (A1 ++ Y) (X ++ (B2 ++ S)))) := Lib.hid fun W e => by
              obtain ⟨f1, f2, f3, f4, f5, f6, _⟩ := HF.out
              obtain ⟨h1, h2, h3, h4, _, _, h7, h8, h9⟩ := HD.out
              exact HIH.out d1 W P A1 Y (X ++ (B2 ++ S)) a i md N HLT.out.1 R1.out.2.symm (by have := HS.out; have := R1.out.2; omega) e R1.out.1 (f1 ▸ h3).split.1 (f2 ▸ h4).split.1 (by omega) (by omega) h7 (by omega) (by omega)
            clear g
            go_wp2_with fail
            refine (HC.out _ S2.out).mono ?_
            rintro e w3 ⟨M, r0, rfl, d', r1, r2, r3⟩
            have R2 : Hid (d'.toList = P ++ (M ++ (X ++ (B2 ++ S))) ∧ d'.size = N ∧ Stb cl M (A1 ++ Y)) := ⟨r1, r2, r0⟩
            clear r1 r2 r0
            go_wp2_with fail
            go_meet
            exact ⟨rfl, d', M, R2, r3⟩
          | false =>
            have g : A1 = [] ∨ Y = [] := by
              have g := HC2.out
              rw [Bool.and_eq_false_iff, decide_eq_false_iff_not, decide_eq_false_iff_not] at g
              obtain ⟨f1, f2, f3, f4, f5, f6, _⟩ := HF.out
              rcases g with g | g
              · exact .inl (List.eq_nil_of_length_eq_zero (by omega))
              · exact .inr (List.eq_nil_of_length_eq_zero (by omega))
            have HG : Hid (A1 = [] ∨ Y = []) := g
            clear g
            go_wp2_with fail
            go_meet
            refine ⟨rfl, d1, A1 ++ Y, ⟨by rw [R1.out.1]; simp, R1.out.2, Stb.self ?_⟩, S2⟩
            obtain ⟨f1, f2, _⟩ := HF.out
            have a1 := (f1 ▸ HD.out.2.2.1).split.1
            have a2 := (f2 ▸ HD.out.2.2.2.1).split.1
            rcases HG.out with e | e
            · rw [e]; exact a2
            · rw [e, List.append_nil]; exact a1
        case rest =>
        as_aux_lemma =>
        obtain ⟨rfl, d2, M1, R2, S3⟩ := hcut
        clear S2 HC2
        go_upto_region 43 with fail
        go_cut [213] (fun c wx => c = .bool (decide (md < en) && decide (en < b)) ∧ Aside (SWK (encC cl) 2 w0 blk off d2 wx))
        case first =>
          as_aux_lemma =>
          by_cases g1 : md < en
          · have z1 : (md : Int) < (en : Int) := by omega
            by_cases g2 : en < b
            · have z2 : (en : Int) < (b : Int) := by omega
              go_wp2_with fail; go_meet; exact ⟨by simp [g1, g2], S3⟩
            · have z2 : ¬ (en : Int) < (b : Int) := by omega
              go_wp2_with fail; go_meet; exact ⟨by simp [g1, g2], S3⟩
          · have z1 : ¬ (md : Int) < (en : Int) := by omega
            go_wp2_with fail; go_meet; exact ⟨by simp [g1], S3⟩
        case rest =>
        as_aux_lemma =>
        clear S3
        obtain ⟨rfl, S3⟩ := hcut
        obtain ⟨c3, hc3⟩ : ∃ c, (decide (md < en) && decide (en < b)) = c := ⟨_, rfl⟩
        rw [hc3]
        have HC3 : Hid ((decide (md < en) && decide (en < b)) = c3) := hc3
        clear hc3
        cases c3 with
        | true =>
          have g := HC3.out
          rw [Bool.and_eq_true, decide_eq_true_eq, decide_eq_true_eq] at g
          have HC : Hid (∀ W, SWK (encC cl) 2 w0 blk off d2 W → Calls Tryz.prog 168 #[.slice (some ⟨blk, off, none⟩) N cap, .int .i64 md, .int .i64 en, .int .i64 b, .func (.func 151) #[] #[]] W (MrgRes cl w0 blk off N (P ++ M1) (X ++ B2) S)) := Lib.hid fun W e => by
            obtain ⟨f1, f2, f3, f4, f5, f6, _⟩ := HF.out
            obtain ⟨h1, h2, h3, h4, _, _, h7, h8, h9⟩ := HD.out
            have hl := R2.out.2.2.2.length
            rw [List.length_append] at hl
            exact HIH.out d2 W (P ++ M1) X B2 S md en b N HLT.out.2 R2.out.2.1.symm (by have := HS.out; have := R2.out.2.1; omega) e (by rw [R2.out.1]; simp) (f1 ▸ h3).split.2.1 (f2 ▸ h4).split.2.1 (by omega) (by omega) (by simp; omega) (by omega) (by omega)
          clear g
          go_wp2_with fail
          refine (HC.out _ S3.out).mono ?_
          rintro e w3 ⟨M, r0, rfl, d', r1, r2, r3⟩
          have R3 : Hid (d'.toList = (P ++ M1) ++ (M ++ S) ∧ d'.size = N ∧ Stb cl M (X ++ B2)) := ⟨r1, r2, r0⟩
          clear r1 r2 r0
          go_wp2_with fail
          go_end0
          obtain ⟨f1, f2, f3, f4, f5, f6, f7, f8⟩ := HF.out
          refine ⟨M1 ++ M, ?_, rfl, d', by rw [R3.out.1]; simp, R3.out.2.1, r3⟩
          rw [f1, f2]
          exact half_stb (f1 ▸ HD.out.2.2.1) (f2 ▸ HD.out.2.2.2.1) f7 f8 R2.out.2.2 R3.out.2.2
        | false =>
          have g : X = [] ∨ B2 = [] := by
            have g := HC3.out
            rw [Bool.and_eq_false_iff, decide_eq_false_iff_not, decide_eq_false_iff_not] at g
            obtain ⟨f1, f2, f3, f4, f5, f6, _⟩ := HF.out
            rcases g with g | g
            · exact .inl (List.eq_nil_of_length_eq_zero (by omega))
            · exact .inr (List.eq_nil_of_length_eq_zero (by omega))
          have HG : Hid (X = [] ∨ B2 = []) := g
          clear g
          go_wp2_with fail
          go_end0
          obtain ⟨f1, f2, f3, f4, f5, f6, f7, f8⟩ := HF.out
          refine ⟨M1 ++ (X ++ B2), ?_, rfl, d2, by rw [R2.out.1]; simp, R2.out.2.1, S3.out⟩
          have a1 := (f1 ▸ HD.out.2.2.1).split.2.1
          have a2 := (f2 ▸ HD.out.2.2.2.1).split.2.1
          rw [f1, f2]
          refine half_stb (f1 ▸ HD.out.2.2.1) (f2 ▸ HD.out.2.2.2.1) f7 f8 R2.out.2.2 (Stb.self ?_)
          rcases HG.out with e | e
          · rw [e]; exact a2
          · rw [e, List.append_nil]; exact a1
end Go.Proofs.YtjhkfjbgdaomeaaGreatDoor
