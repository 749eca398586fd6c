/- The walk of Decode. -/
import Derived.Test.YtpaoabdjbdlalaaEdtLst
namespace Go.Proofs.Ytpaoabdjbdlalaa
set_option linter.unusedVariables false
set_option maxRecDepth 100000
open Go.RowKit
/-- v is an edit whose lists are the call's own. -/
def EdOwn (B : Nat) (w : World) (v : Value) (e : Edt) : Prop := ∃ va vd, v = .agg #[.int .i64 e.nxt, .int .i64 e.lg, .int .i64 e.lst, va, vd] ∧ OwnK encTbf 5 39 B w va e.adds ∧ OwnV 2 B w vd (e.dels.map encI64)
theorem EdOwn.at {B : Nat} {w : World} {v : Value} {e : Edt} (h : EdOwn B w v e) : EdAt w v e := by
  obtain ⟨va, vd, rfl, h1, h2⟩ := h
  exact ⟨va, vd, rfl, h1.rd encTbf_len, h2.rd⟩
theorem EdOwn.below {B : Nat} {w w' : World} {v : Value} {e : Edt} (h : EdOwn B w v e) (hb : Below w.heap.size w w') : EdOwn B w' v e := by
  obtain ⟨va, vd, rfl, h1, h2⟩ := h
  exact ⟨va, vd, rfl, h1.below hb, OwnV.below h2 hb⟩
theorem EdOwn.base {B B' : Nat} {w : World} {v : Value} {e : Edt} (h : EdOwn B w v e) (hB : B' ≤ B) : EdOwn B' w v e := by
  obtain ⟨va, vd, rfl, h1, h2⟩ := h
  exact ⟨va, vd, rfl, h1.base hB, OwnV.base h2 hB⟩
def edLeft (M : Nat) (s : Option (List UInt8)) : Prop := (s.getD []).length ≤ M
theorem edNm_left {M : Nat} {s : Option (List UInt8)} (h : edLeft M s) : edLeft M (edNm s).2 := by
  unfold edLeft at *
  rw [edNm_eq]
  cases hg : getN (s.getD []) with
  | none => exact Nat.zero_le _
  | some p =>
    obtain ⟨n, k⟩ := p
    simp only [Option.getD_some, List.length_drop]
    omega
theorem edTx_left {M : Nat} {s : Option (List UInt8)} (h : edLeft M s) : (edTx s).1.size ≤ M ∧ edLeft M (edTx s).2 := by
  unfold edLeft at *
  rw [edTx_eq]
  cases hg : getT (s.getD []) with
  | none => exact ⟨Nat.zero_le _, Nat.zero_le _⟩
  | some p =>
    obtain ⟨n, k⟩ := p
    have := (text_get hg).2.2
    simp only [Option.getD_some, List.length_drop]
    refine ⟨?_, by omega⟩
    show n.toArray.size ≤ M
    simp; omega
theorem edFl_left {M : Nat} {s : Option (List UInt8)} (h : edLeft M s) : ((edFl s).1.lo.size ≤ M ∧ (edFl s).1.hi.size ≤ M) ∧ edLeft M (edFl s).2 := by
  have h4 := edTx_left (edNm_left (edNm_left (edNm_left h)))
  have h5 := edTx_left h4.2
  exact ⟨⟨h4.1, h5.1⟩, h5.2⟩
theorem edMany_left {α : Type} {rd : Option (List UInt8) → α × Option (List UInt8)} {P : α → Prop} {M : Nat} (hrd : ∀ s, edLeft M s → P (rd s).1 ∧ edLeft M (rd s).2) :
    ∀ (n : Nat) (s : Option (List UInt8)), edLeft M s → (∀ x ∈ (edMany rd n s).1, P x) ∧ edLeft M (edMany rd n s).2 ∧ (edMany rd n s).1.length = n
  | 0, s, h => ⟨fun x hx => by simp [edMany] at hx, h, rfl⟩
  | n + 1, s, h => by
    obtain ⟨h1, h2⟩ := hrd s h
    obtain ⟨h3, h4, h5⟩ := edMany_left hrd n (rd s).2 h2
    refine ⟨fun x hx => ?_, h4, by simp only [edMany, List.length_cons, h5]⟩
    rcases List.mem_cons.1 hx with rfl | hx
    · exact h1
    · exact h3 x hx
theorem edCnt_left {M : Nat} {s : Option (List UInt8)} (h : edLeft M s) : edLeft M (edCnt s).2 := by
  unfold edCnt
  split
  · exact Nat.zero_le _
  · exact edNm_left h
theorem edList_left {α : Type} {rd : Option (List UInt8) → α × Option (List UInt8)} {P : α → Prop} {M : Nat} (hrd : ∀ s, edLeft M s → P (rd s).1 ∧ edLeft M (rd s).2) {s : Option (List UInt8)} (h : edLeft M s) :
    (∀ x ∈ (edList rd s).1, P x) ∧ edLeft M (edList rd s).2 ∧ (edList rd s).1.length ≤ 200 := by
  obtain ⟨h1, h2, h3⟩ := edMany_left hrd (edCnt s).1 (edCnt s).2 (edCnt_left h)
  exact ⟨h1, h2, by have := edCnt_le s; unfold edList; omega⟩
theorem edAll_ok {b : List UInt8} (h : b.length ≤ maxLen) : (edAll b).1.ok := by
  have h0 : edLeft maxLen (some b) := h
  have h3 := edNm_left (edNm_left (edNm_left h0))
  obtain ⟨h4, h5, h6⟩ := edList_left (rd := edFl) (P := Tbf.ok) (fun s hs => edFl_left hs) h3
  obtain ⟨-, -, h7⟩ := edList_left (rd := edNm) (P := fun _ => True) (fun s hs => ⟨trivial, edNm_left hs⟩) h5
  exact ⟨h4, by show _ ≤ 1000000000000; exact Nat.le_trans h6 (by decide), Nat.le_trans h7 (by decide)⟩
theorem RdB.lenMax {w : World} {v : Value} {b : List UInt8} (h : RdB w v b) : b.length ≤ maxLen := by
  rcases h with ⟨_, _, _, e⟩ | ⟨_, _, cap, _, _, h2, h3, _⟩
  · have : b = [] := by simpa using e
    subst this; exact Nat.zero_le _
  · rw [List.length_map] at h2; omega
theorem OwnV.slform {E B : Nat} {w : World} {v : Value} {vs : List Value} (h : OwnV E B w v vs) : ∃ a n c, v = .slice a n c := by
  rcases h.nilOr with ⟨rfl, -⟩ | ⟨g, cap, rfl, -⟩
  · exact ⟨none, 0, 0, rfl⟩
  · exact ⟨_, _, cap, rfl⟩
theorem EdOwn.apart {B g : Nat} {w w' : World} {v : Value} {e : Edt} (h : EdOwn B w v e) (u : UpdF (fun k => k = g) w w') (hg : g < B) : EdOwn B w' v e := by
  obtain ⟨va, vd, rfl, h1, h2⟩ := h
  exact ⟨va, vd, rfl, h1.apart u hg, h2.apartV u hg⟩
/-- On the way through Decode: the reader g, the edit that is filled, the answer's place. -/
structure DecL (w wk : World) (r f g : Nat) (s : Option (List UInt8)) (vs : Array Value) : Prop where
  rdr : RdrAt w wk g s
  edt : BlkAt wk f vs 25
  res : BlkAt wk r #[.int .i64 0, .int .i64 0, .int .i64 0, .slice none 0 0, .slice none 0 0] 25
  wr : w.heap.size ≤ r
  wf : w.heap.size ≤ f
  fg : f ≠ g
  rg : r ≠ g
  rf : r ≠ f
theorem DecL.call {w wk wl : World} {r f g : Nat} {s s' : Option (List UInt8)} {vs : Array Value} (h : DecL w wk r f g s vs) (k : RdrTo w wk g s' wl) : DecL w wl r f g s' vs :=
  { h with rdr := k.1, edt := (k.2.block f h.edt.lt h.fg).trans h.edt, res := (k.2.block r h.res.lt h.rg).trans h.res }
theorem DecL.set {w wk : World} {r f g : Nat} {s : Option (List UInt8)} {vs : Array Value} (h : DecL w wk r f g s vs) (o : Nat) (v : Value) : DecL w (wk.setCell ⟨f, o, none⟩ v) r f g s (vs.setIfInBounds o v) :=
  { h with
    rdr := h.rdr.aside ((UpdF.refl (fun k => k = f) wk).set f o v rfl) (fun e => h.fg e.symm) fun k hk e => by have := h.wf; omega
    edt := h.edt.set v
    res := h.res.other v h.rf }
def zeroEd : Value := .agg #[.int .i64 0, .int .i64 0, .int .i64 0, .slice none 0 0, .slice none 0 0]
structure DecAtE (B : Nat) (w : World) (v : Value) (c : Int) (o : Option Edt) : Prop where
  no : o = none → c = 8 ∧ v = zeroEd
  yes : ∀ x, o = some x → c = 0 ∧ EdOwn B w v x
theorem decAtE_no {B : Nat} {w : World} : DecAtE B w zeroEd 8 none := ⟨fun _ => ⟨rfl, rfl⟩, fun x h => by cases h⟩
theorem decAtE_yes {B : Nat} {w : World} {v : Value} {x : Edt} (h : EdOwn B w v x) : DecAtE B w v 0 (some x) := ⟨fun h => (by cases h), fun y e => by obtain rfl := Option.some.inj e; exact ⟨rfl, h⟩⟩
def DecTo (b : List UInt8) (w : World) (e : Ending) (w' : World) : Prop := ∃ v c, e = .returned (.tuple #[v, .int .i64 c]) ∧ DecAtE w.heap.size w' v c (decE b) ∧ Below w.heap.size w w'
set_option maxHeartbeats 8000000 in
theorem edDecode_any (v : Value) (b : List UInt8) (w : World) (h : RdB w v b) : Calls Try.prog 11 #[v] w (DecTo b w) := by
  have HN : Hid (∀ W g t, RdrAt w W g t → Calls Try.prog 22 #[.pointer (some ⟨g, 0, none⟩)] W (NumTo w W g (edNm t))) := Lib.hid fun W g t h => edNumber_any h
  have HOK := Lib.hid (edAll_ok h.lenMax)
  obtain ⟨a, len, cap, rfl, -, -⟩ := h.form
  obtain ⟨D, hD⟩ : ∃ D, decE b = D := ⟨_, rfl⟩
  unfold DecTo
  rw [hD]
  unfold decE at hD
  have hE : ∃ E, edAll b = E := ⟨_, rfl⟩
  obtain ⟨⟨E, sE⟩, hE⟩ := hE
  rw [hE] at hD HOK
  simp only at hD HOK
  unfold edAll at hE
  simp only at hE
  obtain ⟨⟨x1, s1⟩, e1⟩ : ∃ p, edNm (some b) = p := ⟨_, rfl⟩
  rw [e1] at hE; simp only at hE
  obtain ⟨⟨x2, s2⟩, e2⟩ : ∃ p, edNm s1 = p := ⟨_, rfl⟩
  rw [e2] at hE; simp only at hE
  obtain ⟨⟨x3, s3⟩, e3⟩ : ∃ p, edNm s2 = p := ⟨_, rfl⟩
  rw [e3] at hE; simp only at hE
  obtain ⟨⟨x4, s4⟩, e4⟩ : ∃ p, edList edFl s3 = p := ⟨_, rfl⟩
  rw [e4] at hE; simp only at hE
  obtain ⟨⟨x5, s5⟩, e5⟩ : ∃ p, edList edNm s4 = p := ⟨_, rfl⟩
  rw [e5] at hE; simp only at hE
  simp only [Prod.mk.injEq] at hE
  obtain ⟨rfl, rfl⟩ := hE
  have HE := Lib.hid (And.intro e1 (And.intro e2 (And.intro e3 (And.intro e4 e5))))
  have HD := Lib.hid hD
  clear hD e1 e2 e3 e4 e5
  have HL : Hid (DecL w (((w.alloc (.cells #[.int .i64 0, .int .i64 0, .int .i64 0, .slice none 0 0, .slice none 0 0] 25)).alloc (.cells #[.int .i64 0, .int .i64 0, .int .i64 0, .slice none 0 0, .slice none 0 0] 25)).alloc (.cells #[.slice a len cap, .bool false] 51)) w.heap.size (w.heap.size + 1) (w.heap.size + 1 + 1) (some b) #[.int .i64 0, .int .i64 0, .int .i64 0, .slice none 0 0, .slice none 0 0]) := Lib.hid (by
    have n1 := BlkAt.new w #[.int .i64 0, .int .i64 0, .int .i64 0, .slice none 0 0, .slice none 0 0] 25
    have b1 := (Below.refl w.heap.size w).alloc (Nat.le_refl _) (.cells #[.int .i64 0, .int .i64 0, .int .i64 0, .slice none 0 0, .slice none 0 0] 25)
    have z1 : (w.alloc (.cells #[.int .i64 0, .int .i64 0, .int .i64 0, .slice none 0 0, .slice none 0 0] 25)).heap.size = w.heap.size + 1 := by simp
    generalize w.alloc (.cells #[.int .i64 0, .int .i64 0, .int .i64 0, .slice none 0 0, .slice none 0 0] 25) = wA at *
    have n2 := BlkAt.new wA #[.int .i64 0, .int .i64 0, .int .i64 0, .slice none 0 0, .slice none 0 0] 25
    have b2 := b1.alloc b1.size (.cells #[.int .i64 0, .int .i64 0, .int .i64 0, .slice none 0 0, .slice none 0 0] 25)
    have z2 : (wA.alloc (.cells #[.int .i64 0, .int .i64 0, .int .i64 0, .slice none 0 0, .slice none 0 0] 25)).heap.size = w.heap.size + 1 + 1 := by simp [z1]
    have n1' := n1.more (.cells #[.int .i64 0, .int .i64 0, .int .i64 0, .slice none 0 0, .slice none 0 0] 25)
    generalize wA.alloc (.cells #[.int .i64 0, .int .i64 0, .int .i64 0, .slice none 0 0, .slice none 0 0] 25) = wB at *
    have n3 := BlkAt.new wB #[.slice a len cap, .bool false] 51
    have b3 := b2.alloc b2.size (.cells #[.slice a len cap, .bool false] 51)
    rw [z1] at n2
    rw [z2] at n3
    exact { rdr := ⟨by omega, b3, _, n3, h⟩, edt := n2.more _, res := n1'.more _, wr := Nat.le_refl _, wf := by omega, fg := by omega, rg := by omega, rf := by omega })
  have HC1 := Lib.hid (HN.out _ _ _ HL.out.rdr)
  rw [HE.out.1] at HC1
  clear h
  go_enter Try.func11, Try.ntmps11
  go_wp2_with fail
  refine HC1.out.mono ?_
  rintro e w1 ⟨rfl, h1⟩
  have HM := Lib.hid (HL.out.call h1)
  obtain ⟨b0, b1, b2, b3, b4, f0, f1, f2, f3, f4⟩ := HM.out.edt.cells5
  have HL1 := Lib.hid (HM.out.set 0 (.int .i64 x1))
  clear h1 HL HC1 HM
  have HC2 := Lib.hid (HN.out _ _ _ HL1.out.rdr)
  rw [HE.out.2.1] at HC2
  go_wp2_with fail
  clear b0 b1 b2 b3 b4 f0 f1 f2 f3 f4
  refine HC2.out.mono ?_
  rintro e w2 ⟨rfl, h1⟩
  have HM := Lib.hid (HL1.out.call h1)
  obtain ⟨b0, b1, b2, b3, b4, f0, f1, f2, f3, f4⟩ := HM.out.edt.cells5
  have HL2 := Lib.hid (HM.out.set 1 (.int .i64 x2))
  clear h1 HL1 HC2 HM
  have HC3 := Lib.hid (HN.out _ _ _ HL2.out.rdr)
  rw [HE.out.2.2.1] at HC3
  go_wp2_with fail
  clear b0 b1 b2 b3 b4 f0 f1 f2 f3 f4
  refine HC3.out.mono ?_
  rintro e w3 ⟨rfl, h1⟩
  have HM := Lib.hid (HL2.out.call h1)
  obtain ⟨b0, b1, b2, b3, b4, f0, f1, f2, f3, f4⟩ := HM.out.edt.cells5
  have HL3 := Lib.hid (HM.out.set 2 (.int .i64 x3))
  clear h1 HL2 HC3 HM
  have HC4 := Lib.hid (edFiles_any HL3.out.rdr)
  rw [HE.out.2.2.2.1] at HC4
  go_wp2_with fail
  clear b0 b1 b2 b3 b4 f0 f1 f2 f3 f4
  refine HC4.out.mono ?_
  rintro e w4 ⟨v4, rfl, ho, h1⟩
  obtain ⟨a4, k4, rfl⟩ := tbf_form ho
  have hz := HL3.out.rdr.2.1.size
  have HM := Lib.hid (HL3.out.call h1)
  have hlt := HL3.out.edt.lt
  obtain ⟨b0, b1, b2, b3, b4, f0, f1, f2, f3, f4⟩ := HM.out.edt.cells5
  have HL4 := Lib.hid (HM.out.set 3 (.slice a4 x4.length k4))
  have HA4 := Lib.hid (And.intro (ho.apart ((UpdF.refl (fun k => k = w.heap.size + 1) w4).set (w.heap.size + 1) 3 (.slice a4 x4.length k4) rfl) hlt) (And.intro hz (And.intro HL3.out.rdr.lt h1.2.size)))
  clear h1 ho hz hlt HL3 HC4 HM
  have HC5 := Lib.hid (edNumbers_any HL4.out.rdr)
  rw [HE.out.2.2.2.2] at HC5
  generalize hwa : w3.setCell ⟨w.heap.size + 1, 2, none⟩ (.int .i64 x3) = wa at HA4
  clear hwa
  go_wp2_with fail
  clear b0 b1 b2 b3 b4 f0 f1 f2 f3 f4
  refine HC5.out.mono ?_
  rintro e w5 ⟨v5, rfl, ho, h1⟩
  obtain ⟨a5, n5, k5, rfl⟩ := ho.slform
  have HM := Lib.hid (HL4.out.call h1)
  have hlt := HL4.out.edt.lt
  obtain ⟨b0, b1, b2, b3, b4, f0, f1, f2, f3, f4⟩ := HM.out.edt.cells5
  have HL5 := Lib.hid (HM.out.set 4 (.slice a5 n5 k5))
  have hu := (UpdF.refl (fun k => k = w.heap.size + 1) w5).set (w.heap.size + 1) 4 (.slice a5 n5 k5) rfl
  have HA5 := Lib.hid (And.intro ((HA4.out.1.apart h1.2 HA4.out.2.2.1).apart hu (by have := HA4.out.2.2.1; omega)) (And.intro (ho.apartV hu hlt) HL4.out.rdr.lt))
  clear h1 ho hlt hu HL4 HC5 HM HE HN
  have HED : Hid (EdOwn (w.heap.size + 1 + 1) (w5.setCell ⟨w.heap.size + 1, 4, none⟩ (.slice a5 n5 k5)) (.agg #[.int .i64 x1, .int .i64 x2, .int .i64 x3, (.slice a4 x4.length k4), (.slice a5 n5 k5)]) ⟨x1, x2, x3, x4, x5⟩) := Lib.hid ⟨_, _, rfl, HA5.out.1.base (Nat.le_of_lt HA4.out.2.2.1), OwnV.base HA5.out.2.1 (Nat.le_of_lt HA5.out.2.2)⟩
  clear HA5 HA4
  obtain ⟨c0, c1, c2, c3, c4, -, -, -, -, -⟩ := HL5.out.edt.cells5
  obtain ⟨r0, r1, r2, r3, r4, q0, q1, q2, q3, q4⟩ := HL5.out.res.cells5
  have HDN := Lib.hid (edDone_any HL5.out.rdr)
  have HCK := Lib.hid (edCheck_any _ _ HOK.out _ HED.out.at)
  have HBW := Lib.hid HL5.out.rdr.2.1
  have HRS := Lib.hid HL5.out
  generalize hdd : decide (s5 = some []) = dd at HDN
  have HDD := Lib.hid hdd
  clear hdd HOK HL5
  cases dd with
  | false =>
    obtain rfl : D = none := by rw [← HD.out, if_neg fun h => of_decide_eq_false HDD.out h.1]
    clear HD HDD HCK
    go_wp2_with fail
    refine HDN.out.mono ?_
    rintro e w' ⟨rfl, rfl⟩
    go_wp2_with fail
    refine bodyPost_ret (v := .tuple #[zeroEd, .int .i64 8]) (by simp [results, Try.results11, go_sem, zeroEd, r0, r1, r2, r3, r4]) rfl ⟨_, 8, rfl, decAtE_no, ?_⟩
    exact UpdF.below ((((((UpdF.of (F := fun k => w.heap.size ≤ k) (HBW.out.mono (Nat.le_refl _))).set w.heap.size 0 _ (Nat.le_refl _)).set w.heap.size 1 _ (Nat.le_refl _)).set w.heap.size 2 _ (Nat.le_refl _)).set w.heap.size 3 _ (Nat.le_refl _)).set w.heap.size 4 _ (Nat.le_refl _)) (Nat.le_refl _) fun k hk e => by omega
  | true =>
    have hs5 := of_decide_eq_true HDD.out
    by_cases hm : mayE ⟨x1, x2, x3, x4, x5⟩
    · have hc : chkE ⟨x1, x2, x3, x4, x5⟩ = 0 := if_pos hm
      obtain rfl : D = some ⟨x1, x2, x3, x4, x5⟩ := by rw [← HD.out, if_pos ⟨hs5, hm⟩]
      rw [hc] at HCK
      clear HD HDD hm hs5 hc
      go_wp2_with fail
      refine HDN.out.mono ?_
      rintro e w' ⟨rfl, rfl⟩
      go_wp2_with fail
      refine HCK.out.mono ?_
      rintro e w6 ⟨rfl, hb⟩
      have HB6 := Lib.hid (HBW.out.trans (hb.mono HBW.out.size))
      obtain ⟨y0, y1, y2, y3, y4, p0, p1, p2, p3, p4⟩ := (HRS.out.res.below hb).cells5
      obtain ⟨d0, d1, d2, d3, d4, -, -, -, -, -⟩ := (HRS.out.edt.below hb).cells5
      have HE6 := Lib.hid (HED.out.below hb)
      clear hb b0 b1 b2 b3 b4 c0 c1 c2 c3 c4 r0 r1 r2 r3 r4 q0 q1 q2 q3 q4 f0 f1 f2 f3 f4
      go_wp2_with fail
      refine bodyPost_ret (v := .tuple #[.agg #[.int .i64 x1, .int .i64 x2, .int .i64 x3, (.slice a4 x4.length k4), (.slice a5 n5 k5)], .int .i64 0]) (by simp [results, Try.results11, go_sem, y0, y1, y2, y3, y4]) rfl ⟨_, 0, rfl, decAtE_yes ?_, ?_⟩
      · have hu := ((((((UpdF.refl (fun k => k = w.heap.size) w6).set w.heap.size 0 (.int .i64 x1) rfl).set w.heap.size 1 (.int .i64 x2) rfl).set w.heap.size 2 (.int .i64 x3) rfl).set w.heap.size 3 (.slice a4 x4.length k4) rfl).set w.heap.size 4 (.slice a5 n5 k5) rfl)
        exact (HE6.out.apart hu (by omega)).base (by omega)
      · exact UpdF.below ((((((UpdF.of (F := fun k => w.heap.size ≤ k) HB6.out).set w.heap.size 0 _ (Nat.le_refl _)).set w.heap.size 1 _ (Nat.le_refl _)).set w.heap.size 2 _ (Nat.le_refl _)).set w.heap.size 3 _ (Nat.le_refl _)).set w.heap.size 4 _ (Nat.le_refl _)) (Nat.le_refl _) fun k hk e => by omega
    · have hc : chkE ⟨x1, x2, x3, x4, x5⟩ = 12 := if_neg hm
      obtain rfl : D = none := by rw [← HD.out, if_neg fun h => hm h.2]
      rw [hc] at HCK
      clear HD HDD hm hs5 hc
      go_wp2_with fail
      refine HDN.out.mono ?_
      rintro e w' ⟨rfl, rfl⟩
      go_wp2_with fail
      refine HCK.out.mono ?_
      rintro e w6 ⟨rfl, hb⟩
      have HB6 := Lib.hid (HBW.out.trans (hb.mono HBW.out.size))
      obtain ⟨y0, y1, y2, y3, y4, p0, p1, p2, p3, p4⟩ := (HRS.out.res.below hb).cells5
      obtain ⟨d0, d1, d2, d3, d4, -, -, -, -, -⟩ := (HRS.out.edt.below hb).cells5
      have HE6 := Lib.hid (HED.out.below hb)
      clear hb b0 b1 b2 b3 b4 c0 c1 c2 c3 c4 r0 r1 r2 r3 r4 q0 q1 q2 q3 q4 f0 f1 f2 f3 f4
      go_wp2_with fail
      refine bodyPost_ret (v := .tuple #[zeroEd, .int .i64 8]) (by simp [results, Try.results11, go_sem, zeroEd, y0, y1, y2, y3, y4]) rfl ⟨_, 8, rfl, decAtE_no, ?_⟩
      exact UpdF.below ((((((UpdF.of (F := fun k => w.heap.size ≤ k) HB6.out).set w.heap.size 0 _ (Nat.le_refl _)).set w.heap.size 1 _ (Nat.le_refl _)).set w.heap.size 2 _ (Nat.le_refl _)).set w.heap.size 3 _ (Nat.le_refl _)).set w.heap.size 4 _ (Nat.le_refl _)) (Nat.le_refl _) fun k hk e => by omega
end Go.Proofs.Ytpaoabdjbdlalaa
