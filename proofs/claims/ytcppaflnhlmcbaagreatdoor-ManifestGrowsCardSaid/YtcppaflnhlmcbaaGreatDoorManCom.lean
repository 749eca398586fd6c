/- manifest: Commit and Rewrite (of a manifest whose end is whole and whose files are all synced). -/
import Derived.Test.YtcppaflnhlmcbaaGreatDoorManTrn
import Derived.Test.YtcppaflnhlmcbaaGreatDoorManSmall
namespace Go.Proofs.YtcppaflnhlmcbaaGreatDoor
set_option linter.unusedVariables false
open Go.RowKit Go.Maps
/-- What Commit answers. -/
def ComTo (B : Nat) (w : World) (b mb : Nat) (ρ : Nat → Option Role) (S : Fs) (M : Man) (V : Ver) (x : Edt) (bs : List UInt8) (e : Ending) (w' : World) : Prop :=
  (applyV V x = none ∧ e = .returned (.int .i64 12) ∧ ManTo B w b mb ρ w' S M V) ∨
  (∃ n V', applyV V x = some n ∧ vSame n V' ∧ e = .returned (.int .i64 (addF S M.num bs).1) ∧ (((addF S M.num bs).1 = 0 ∧ ManTo B w b mb ρ w' (addF S M.num bs).2 { M with size := M.size + bs.length } V') ∨ ((addF S M.num bs).1 ≠ 0 ∧ ∃ s, ManTo B w b mb ρ w' (addF S M.num bs).2 { M with size := s, closed := true } V)))
theorem ManAt.out_new {B : Nat} {w : World} {b mb : Nat} {ρ : Nat → Option Role} {S : Fs} {M : Man} {V : Ver} (h : ManAt B w b mb ρ S M V) {k : Nat} (hk : w.heap.size ≤ k) : ρ k = none := by
  cases e : ρ k with
  | none => rfl
  | some r => have := h.top k (.inl (by rw [e]; simp)); omega
set_option maxHeartbeats 2000000 in
theorem mcommit_closed {B : Nat} {w : World} {b mb : Nat} {ρ : Nat → Option Role} {S : Fs} {M : Man} {V : Ver} (h : ManAt B w b mb ρ S M V) (hc : M.closed = true) (x y z : Int) (u v : Value) : Calls Tryz.prog 14 #[.pointer (some ⟨mb, 0, none⟩), .agg #[.int .i64 x, .int .i64 y, .int .i64 z, u, v]] w fun e w' => e = .returned (.int .i64 5) ∧ Below w.heap.size w w' := by
  have HB := Lib.hid ((Below.refl w.heap.size w).alloc (Nat.le_refl _) (.cells #[.int .i64 x, .int .i64 y, .int .i64 z, u, v] 39))
  have HM := Lib.hid (mayc_any (h.below HB.out))
  unfold mayM at HM
  rw [hc, if_pos rfl] at HM
  clear h hc
  go_enter Tryz.func14, Tryz.ntmps14
  go_wp2_with fail
  refine HM.out.mono ?_
  rintro e w' ⟨rfl, rfl⟩
  go_wp2_with fail
  go_ret
  exact ⟨rfl, HB.out⟩
set_option maxHeartbeats 8000000 in
set_option maxRecDepth 100000 in
theorem mcommit_any {B : Nat} {w0 : World} (hG0 : GlobM w0) {w : World} (h0 : Below w0.heap.size w0 w) {b mb : Nat} {ρ : Nat → Option Role} {S : Fs} {M : Man} {V : Ver} (h : ManAt B w b mb ρ S M V) (hB : B ≤ w.heap.size) (hu : M.num ≤ 1125899906842624) (hH : HighP w0 ρ mb) (hlo : M.loose = false) (hto : M.torn = false) (hcl : M.closed = false) (hsz : M.size ≤ 1000000000)
    (v : Value) (x : Edt) (hx : EdAt w v x) (hok : x.ok) (bs : List UInt8) (hbs : bs = layB smN M.size (edtB x)) :
    Calls Tryz.prog 14 #[.pointer (some ⟨mb, 0, none⟩), v] w (ComTo B w b mb ρ S M V x bs) := by
  have HX := Lib.hid hx
  have HM := Lib.hid h
  have HBB := Lib.hid hB
  have HOK := Lib.hid hok
  have HMC : Hid (∀ W, Below w.heap.size w W → Calls Tryz.prog 36 #[.pointer (some ⟨mb, 0, none⟩)] W fun e w' => e = .returned (.int .i64 0) ∧ w' = W) := Lib.hid fun W hW => by
    have := mayc_any (h.below hW)
    unfold mayM at this
    rwa [hcl, if_neg (by simp)] at this
  have HAD : Hid (mayE x → ∀ (W : World) (tv : Value) (n0 : Int) (V' : Ver), Below w.heap.size w W → VerP B W tv n0 V' → (∀ k, tv.ownBlock = some k → w.heap.size ≤ k) → Calls Tryz.prog 39 #[.pointer (some ⟨mb, 0, none⟩), v, .agg #[tv, .int .i64 n0, .int .i64 V'.lg, .int .i64 V'.ls]] W (AddTo B W b mb ρ M bs.length V V' (addF S M.num bs))) := Lib.hid fun hm W tv n0 V' hW hV hk =>
    madd_any hG0 (h0.trans (hW.mono h0.size)) (h.below hW) hu hH hlo hsz v x (hx.below hW) hok hm tv n0 hV (fun k e => h.out_new (hk k e)) bs hbs
  have HTC : Hid (M.torn = false ∧ M.closed = false) := Lib.hid ⟨hto, hcl⟩
  obtain ⟨va, vd, rfl, ha, hd⟩ := hx
  obtain ⟨aA, cA, rfl, -⟩ := edFl_len ha
  obtain ⟨aD, cD, rfl⟩ := edInts_len hd
  obtain ⟨tv, n0, hq1, hq2, -⟩ := h.blk
  obtain ⟨aT, cT, rfl⟩ := fil_form hq2.row
  have HQ := Lib.hid hq2
  generalize x.adds.length = nA at *
  generalize x.dels.length = nD at *
  obtain ⟨nT, hnT⟩ : ∃ nT, V.fs.length = nT := ⟨_, rfl⟩
  rw [hnT] at HQ hq1
  clear hnT
  obtain ⟨wa, hwa⟩ : ∃ wa, w.alloc (.cells #[.int .i64 x.nxt, .int .i64 x.lg, .int .i64 x.lst, .slice aA nA cA, .slice aD nD cD] 39) = wa := ⟨_, rfl⟩
  have hba : Below w.heap.size w wa := by rw [← hwa]; exact (Below.refl _ w).alloc (Nat.le_refl _) _
  obtain ⟨wb, hwb⟩ : ∃ wb, wa.alloc (.cells #[.slice aT nT cT, .int .i64 n0, .int .i64 V.lg, .int .i64 V.ls] 73) = wb := ⟨_, rfl⟩
  have hbab : Below wa.heap.size wa wb := by rw [← hwb]; exact (Below.refl _ wa).alloc (Nat.le_refl _) _
  have hbb : Below w.heap.size w wb := hba.trans (hbab.mono hba.size)
  have hxa : BlkAt wa w.heap.size #[.int .i64 x.nxt, .int .i64 x.lg, .int .i64 x.lst, .slice aA nA cA, .slice aD nD cD] 39 := by rw [← hwa]; exact BlkAt.new _ _ _
  have hxb := hxa.below hbab
  have hyb : BlkAt wb wa.heap.size #[.slice aT nT cT, .int .i64 n0, .int .i64 V.lg, .int .i64 V.ls] 73 := by rw [← hwb]; exact BlkAt.new _ _ _
  obtain ⟨g1, hg1⟩ : ∃ g1, w.heap.size = g1 := ⟨_, rfl⟩
  obtain ⟨g2, hg2⟩ : ∃ g2, wa.heap.size = g2 := ⟨_, rfl⟩
  rw [hg2] at hyb
  rw [hg1] at hxa hxb
  have HLT : Hid (w.heap.size = g1 ∧ g1 < g2 ∧ g2 < wb.heap.size) := Lib.hid ⟨hg1, by rw [← hg2]; exact hxa.lt, hyb.lt⟩
  have HB := Lib.hid hbb
  have HXB := Lib.hid hxb
  have HA := Lib.hid hba
  have HVA : Hid (VerAt B wb g2 V) := Lib.hid ((HQ.out.below hbb).at hyb)
  have HMA := Lib.hid (HMC.out wa hba)
  obtain ⟨x0, x1, x2, x3, x4⟩ := cell5_of hxb
  obtain ⟨-, -, -, c3, c4, c5, c6, -, -, -, -⟩ := man_cells (hq1.below hba)
  have HAP := Lib.hid (vapply_new HVA.out (Nat.le_trans HBB.out HB.out.size) _ x (HX.out.below HB.out) HOK.out)
  clear h hB hok hG0 h0 hu hH hlo hto hcl hsz hbs ha hd hq1 hq2 hba hbab hbb hxa hxb hyb HMC
  go_enter Tryz.func14, Tryz.ntmps14
  go_wp2_with fail
  clear hwa
  refine HMA.out.mono ?_
  rintro e wS ⟨rfl, rfl⟩
  clear HMA
  go_wp2_with fail
  clear hwb hg2 c3 c4 c5 c6 x0 x1 x2 x3 x4 hg1
  refine HAP.out.mono ?_
  rintro e w3 ⟨c, V', rfl, hv, hu3, hn, hs⟩
  have HB3 : Hid (Below w.heap.size w w3) := Lib.hid (HB.out.trans (hu3.below HB.out.size fun k hk e => by have := HLT.out; omega))
  cases hap : applyV V x with
  | none =>
    obtain ⟨rfl, rfl⟩ := hn hap
    have HNO := Lib.hid hap
    clear hn hs hap hv hu3 HAP HAD
    go_wp2_with fail
    go_ret
    exact .inl ⟨HNO.out, rfl, HM.out.to HB3.out⟩
  | some n =>
  obtain ⟨rfl, hsm, hvn⟩ := hs n hap
  have HSM := Lib.hid (And.intro hap hsm)
  have HX3 := Lib.hid (show BlkAt w3 g1 #[.int .i64 x.nxt, .int .i64 x.lg, .int .i64 x.lst, .slice aA nA cA, .slice aD nD cD] 39 from (hu3.block g1 HXB.out.lt fun e => by have := HLT.out; omega).trans HXB.out)
  obtain ⟨tv3, n3, hb3, hp3⟩ := hvn.p
  have HAD3 := Lib.hid (HAD.out (applyV_parts hap).1 w3 tv3 n3 V' HB3.out (hp3.base (Nat.le_trans HBB.out HB.out.size)) fun k hk => by
    rcases hp3.row.blk with ⟨e, -⟩ | ⟨g', cap, cur, e, e2, -⟩
    · rw [e] at hk; simp [Value.ownBlock] at hk
    · rw [e] at hk; simp only [Value.ownBlock, Option.some.injEq] at hk; have := HB.out.size; omega)
  obtain ⟨a3, c3, rfl⟩ := fil_form hp3.row
  obtain ⟨nV, hnV⟩ : ∃ nV, V'.fs.length = nV := ⟨_, rfl⟩
  rw [hnV] at hb3 HAD3
  obtain ⟨y0, y1, y2, y3⟩ := cell4_of hb3
  obtain ⟨x0, x1, x2, x3, x4⟩ := cell5_of HX3.out
  obtain ⟨tq, mq, hq⟩ := (HM.out.below HB3.out).pl
  have c7 := hq.c7
  rw [HTC.out.1] at c7
  clear hn hs hap hv hu3 hsm hvn hb3 hp3 hnV hq HAP HAD HX3 HXB HVA
  go_wp2_with fail
  refine HAD3.out.mono ?_
  rintro e w4 ⟨rfl, hor⟩
  clear x0 x1 x2 x3 x4 y0 y1 y2 y3 c7 HAD3
  rcases hor with ⟨hc, hm⟩ | ⟨hc, sz, hm⟩
  · rw [hc]
    obtain ⟨ρ', k1, k2, k3⟩ := hm
    have HD := Lib.hid (done_any k1 0)
    have HK := Lib.hid (And.intro k2 k3)
    have HC := Lib.hid hc
    clear hc k1 k2 k3
    go_wp2_with fail
    refine HD.out.mono ?_
    rintro e w5 ⟨rfl, hd⟩
    have hME : ({ { M with size := M.size + bs.length } with closed := decide ((0 : Int) ≠ 0) } : Man) = { M with size := M.size + bs.length } := by
      have := HTC.out.2
      cases M; simp_all
    rw [hME] at hd
    have HDD := Lib.hid hd
    clear hME hd HD
    go_wp2_with fail
    go_ret
    exact .inr ⟨n, V', HSM.out.1, HSM.out.2, by rw [HC.out]; rfl, .inl ⟨HC.out, ManTo.pre HB3.out (ManTo.then HK.out.1 HK.out.2 HDD.out)⟩⟩
  · obtain ⟨ρ', k1, k2, k3⟩ := hm
    obtain ⟨cc, hcc⟩ : ∃ cc, (addF S M.num bs).1 = cc := ⟨_, rfl⟩
    rw [hcc] at hc ⊢
    have HCE := Lib.hid hcc
    have HD := Lib.hid (done_any k1 cc)
    have HK := Lib.hid (And.intro k2 k3)
    have HC := Lib.hid hc
    clear hc k1 k2 k3 hcc
    go_wp2_with fail
    refine HD.out.mono ?_
    rintro e w5 ⟨rfl, hd⟩
    rw [decide_eq_true HC.out] at hd
    have HDD := Lib.hid hd
    clear hd HD
    go_wp2_with fail
    go_ret
    exact .inr ⟨n, V', HSM.out.1, HSM.out.2, by rw [HCE.out]; rfl, .inr ⟨by rw [HCE.out]; exact HC.out, sz, ManTo.pre HB3.out (ManTo.then HK.out.1 HK.out.2 HDD.out)⟩⟩
/-- What Rewrite answers. -/
def RewTo (B : Nat) (w : World) (b mb : Nat) (ρ : Nat → Option Role) (S : Fs) (M : Man) (V : Ver) (v : Nat) (e : Ending) (w' : World) : Prop :=
  ∃ V' log, vSame (bumpV V) V' ∧ GoodV V' ∧ log = layB smN 0 (edtB (wholeE V')) ∧ e = .returned (.int .i64 (turnF smN S M.num v log).1) ∧
    (((turnF smN S M.num v log).1 = 0 ∧ ManTo B w b mb ρ w' (turnF smN S M.num v log).2 ⟨v, log.length, false, false, false⟩ V') ∨ ((turnF smN S M.num v log).1 ≠ 0 ∧ ManTo B w b mb ρ w' (turnF smN S M.num v log).2 { M with closed := true } V))
set_option maxHeartbeats 8000000 in
set_option maxRecDepth 100000 in
theorem mrewrite_any {B : Nat} {w0 : World} (hG0 : GlobM w0) {w : World} (h0 : Below w0.heap.size w0 w) {b mb : Nat} {ρ : Nat → Option Role} {S : Fs} {M : Man} {V : Ver} (h : ManAt B w b mb ρ S M V) (hB : B ≤ w.heap.size) (hu : M.num ≤ 1125899906842624) (hH : HighP w0 ρ mb) (hlo : M.loose = false) (hcl : M.closed = false) (hw : S.wait.length ≤ 100000)
    (v : Nat) (hv : (v : Int) = V.nx) (hne : M.num ≠ v) (hlt : V.nx < 1125899906842624) :
    Calls Tryz.prog 16 #[.pointer (some ⟨mb, 0, none⟩)] w (RewTo B w b mb ρ S M V v) := by
  have HM := Lib.hid h
  have HBB := Lib.hid hB
  have HMC : Hid (Calls Tryz.prog 36 #[.pointer (some ⟨mb, 0, none⟩)] w fun e w' => e = .returned (.int .i64 0) ∧ w' = w) := Lib.hid (by
    have := mayc_any h
    unfold mayM at this
    rwa [hcl, if_neg (by simp)] at this)
  have HTU : Hid (∀ (W : World) (tv : Value) (n0 : Int) (V' : Ver) (log : List UInt8), Below w.heap.size w W → VerP B W tv n0 V' → (∀ k, tv.ownBlock = some k → w.heap.size ≤ k) → log = layB smN 0 (edtB (wholeE V')) → Calls Tryz.prog 38 #[.pointer (some ⟨mb, 0, none⟩), .agg #[tv, .int .i64 n0, .int .i64 V'.lg, .int .i64 V'.ls]] W (TurnTo B W b mb ρ M ⟨v, log.length, false, false, false⟩ V V' (turnF smN S M.num v log))) := Lib.hid fun W tv n0 V' log hW hV hk hl =>
    mturn_any hG0 (h0.trans (hW.mono h0.size)) (h.below hW) hu hH hlo hw v hv hne tv n0 hV (fun k e => h.out_new (hk k e)) log hl
  have HCL := Lib.hid hcl
  have HGB := Lib.hid (applyV_bump h.good hlt)
  have HGV := Lib.hid (bumpV_good h.good hlt)
  have hn1 : V.nx + 1 ≤ 1125899906842624 := by omega
  have hn0 : 1 ≤ V.nx := h.good.nx1
  obtain ⟨tv, n0, hq1, hq2, -⟩ := h.blk
  obtain ⟨aT, cT, rfl⟩ := fil_form hq2.row
  have HQ := Lib.hid hq2
  obtain ⟨nT, hnT⟩ : ∃ nT, V.fs.length = nT := ⟨_, rfl⟩
  rw [hnT] at HQ hq1
  clear hnT
  obtain ⟨wb, hwb⟩ : ∃ wb, w.alloc (.cells #[.slice aT nT cT, .int .i64 n0, .int .i64 V.lg, .int .i64 V.ls] 73) = wb := ⟨_, rfl⟩
  have hbb : Below w.heap.size w wb := by rw [← hwb]; exact (Below.refl _ w).alloc (Nat.le_refl _) _
  have hyb : BlkAt wb w.heap.size #[.slice aT nT cT, .int .i64 n0, .int .i64 V.lg, .int .i64 V.ls] 73 := by rw [← hwb]; exact BlkAt.new _ _ _
  obtain ⟨g2, hg2⟩ : ∃ g2, w.heap.size = g2 := ⟨_, rfl⟩
  rw [hg2] at hyb
  have HLT : Hid (w.heap.size = g2 ∧ g2 < wb.heap.size) := Lib.hid ⟨hg2, hyb.lt⟩
  have HB := Lib.hid hbb
  have HVA : Hid (VerAt B wb g2 V) := Lib.hid ((HQ.out.below hbb).at hyb)
  have HNX := Lib.hid (vnext_any HVA.out)
  have HAP : Hid (∀ W, Below wb.heap.size wb W → Calls Tryz.prog 32 #[.pointer (some ⟨g2, 0, none⟩), .agg #[.int .i64 (V.nx + 1), .int .i64 0, .int .i64 0, .slice none 0 0, .slice none 0 0]] W (AppN B W g2 V ⟨V.nx + 1, 0, 0, [], []⟩)) := Lib.hid fun W hW =>
    vapply_new (HVA.out.below hW) (Nat.le_trans HBB.out (Nat.le_trans HB.out.size hW.size)) _ ⟨V.nx + 1, 0, 0, [], []⟩ ⟨_, _, rfl, .inl ⟨_, _, rfl, rfl⟩, RdV.nil _ _ _⟩ ⟨fun f hf => (by cases hf), Nat.zero_le _, Nat.zero_le _⟩
  obtain ⟨-, -, -, c3, c4, c5, c6, -, -, -, -⟩ := man_cells hq1
  clear h hB hG0 h0 hu hH hlo hcl hw hv hne hlt hq1 hq2 hbb hyb
  go_enter Tryz.func16, Tryz.ntmps16
  go_wp2_with fail
  refine HMC.out.mono ?_
  rintro e wS ⟨rfl, rfl⟩
  clear HMC
  go_wp2_with fail
  clear hwb c3 c4 c5 c6
  refine HNX.out.mono ?_
  rintro e w2 ⟨rfl, hb2⟩
  have HB2 := Lib.hid (HB.out.trans (hb2.mono HB.out.size))
  have HAP2 := Lib.hid (HAP.out w2 hb2)
  have HZ2 := Lib.hid hb2.size
  clear hb2 HNX HAP
  go_wp2_with fail
  refine HAP2.out.mono ?_
  rintro e w3 ⟨c, V', rfl, hv, hu3, hn, hs⟩
  obtain ⟨rfl, hsm, hvn⟩ := hs _ HGB.out
  have HB3 : Hid (Below wS.heap.size wS w3) := Lib.hid (HB2.out.trans (hu3.below HB2.out.size fun k hk e => by have := HLT.out; omega))
  have HSM := Lib.hid hsm
  obtain ⟨tv3, n3, hb3, hp3⟩ := hvn.p
  have HT3 := Lib.hid (HTU.out w3 tv3 n3 V' _ HB3.out (hp3.base (Nat.le_trans HBB.out HB2.out.size)) (fun k hk => by
    rcases hp3.row.blk with ⟨e, -⟩ | ⟨g', cap, cur, e, e2, -⟩
    · rw [e] at hk; simp [Value.ownBlock] at hk
    · rw [e] at hk; simp only [Value.ownBlock, Option.some.injEq] at hk; have := HB2.out.size; omega) rfl)
  obtain ⟨log, hlog⟩ : ∃ log, layB smN 0 (edtB (wholeE V')) = log := ⟨_, rfl⟩
  rw [hlog] at HT3
  have HLOG := Lib.hid hlog
  obtain ⟨a3, c3, rfl⟩ := fil_form hp3.row
  obtain ⟨nV, hnV⟩ : ∃ nV, V'.fs.length = nV := ⟨_, rfl⟩
  rw [hnV] at hb3 HT3
  obtain ⟨y0, y1, y2, y3⟩ := cell4_of hb3
  clear hn hs hv hu3 hsm hvn hb3 hp3 hnV HAP2 HTU HVA hlog
  go_wp2_with fail
  refine HT3.out.mono ?_
  rintro e w4 ⟨rfl, hor⟩
  clear y0 y1 y2 y3 HT3
  obtain ⟨cc, hcc⟩ : ∃ cc, (turnF smN S M.num v log).1 = cc := ⟨_, rfl⟩
  rw [hcc] at hor ⊢
  have HCE := Lib.hid hcc
  clear hcc
  have HG3 := Lib.hid (HSM.out.good HGV.out)
  rcases hor with ⟨hc, hm⟩ | ⟨hc, hm⟩
  · subst hc
    obtain ⟨ρ', k1, k2, k3⟩ := hm
    have HD := Lib.hid (done_any k1 0)
    have HK := Lib.hid (And.intro k2 k3)
    clear k1 k2 k3
    go_wp2_with fail
    refine HD.out.mono ?_
    rintro e w5 ⟨rfl, hd⟩
    have HDD := Lib.hid hd
    clear hd HD
    go_wp2_with fail
    go_ret
    exact ⟨V', log, HSM.out, HG3.out, HLOG.out.symm, by rw [HCE.out]; rfl, .inl ⟨HCE.out, ManTo.pre HB3.out (ManTo.then HK.out.1 HK.out.2 HDD.out)⟩⟩
  · obtain ⟨ρ', k1, k2, k3⟩ := hm
    have HD := Lib.hid (done_any k1 cc)
    have HK := Lib.hid (And.intro k2 k3)
    have HC := Lib.hid hc
    clear hc k1 k2 k3
    go_wp2_with fail
    refine HD.out.mono ?_
    rintro e w5 ⟨rfl, hd⟩
    rw [decide_eq_true HC.out] at hd
    have HDD := Lib.hid hd
    clear hd HD
    go_wp2_with fail
    go_ret
    exact ⟨V', log, HSM.out, HG3.out, HLOG.out.symm, by rw [HCE.out]; rfl, .inr ⟨by rw [HCE.out]; exact HC.out, ManTo.pre HB3.out (ManTo.then HK.out.1 HK.out.2 HDD.out)⟩⟩
end Go.Proofs.YtcppaflnhlmcbaaGreatDoor
