/- The walk of the law EditBytes. -/
import Derived.Test.YtpaoabdjbdlalaaEdtBeg
import Derived.Test.YtpaoabdjbdlalaaEdtEqE
import Derived.Test.YtpaoabdjbdlalaaEdtMay
import Derived.Test.YtpaoabdjbdlalaaEdtCut
import Derived.Test.YtpaoabdjbdlalaaByStore
import Derived.Test.YtpaoabdjbdlalaaRegTail
namespace Go.Proofs.Ytpaoabdjbdlalaa
set_option linter.unusedVariables false
set_option maxRecDepth 100000
open Go.RowKit
/-- On the way: the two boxes hold the short edits y and z. -/
structure BytL (w0 wk : World) (g : Nat) (va vd vb ve : Value) (y z : Edt) : Prop where
  bxA : BlkAt wk g #[.int .i64 y.nxt, .int .i64 y.lg, .int .i64 y.lst, va, vd] 25
  bxB : BlkAt wk (g + 1) #[.int .i64 z.nxt, .int .i64 z.lg, .int .i64 z.lst, vb, ve] 25
  edA : EdHalf w0 (g + 2) wk va vd y
  edB : EdHalf w0 (g + 2) wk vb ve z
  shA : y.short
  shB : z.short
  gw : w0.heap.size ≤ g
  bel : Below w0.heap.size w0 wk
theorem BytL.below {w0 wk wl : World} {g : Nat} {va vd vb ve : Value} {y z : Edt} (h : BytL w0 wk g va vd vb ve y z) (b : Below wk.heap.size wk wl) : BytL w0 wl g va vd vb ve y z :=
  ⟨h.bxA.below b, h.bxB.below b, h.edA.below b, h.edB.below b, h.shA, h.shB, h.gw, h.bel.trans (b.mono h.bel.size)⟩
theorem BytL.atA {w0 wk : World} {g : Nat} {va vd vb ve : Value} {y z : Edt} (h : BytL w0 wk g va vd vb ve y z) : EdAt wk (.agg #[.int .i64 y.nxt, .int .i64 y.lg, .int .i64 y.lst, va, vd]) y := h.edA.at h.bel
theorem BytL.atB {w0 wk : World} {g : Nat} {va vd vb ve : Value} {y z : Edt} (h : BytL w0 wk g va vd vb ve y z) : EdAt wk (.agg #[.int .i64 z.nxt, .int .i64 z.lg, .int .i64 z.lst, vb, ve]) z := h.edB.at h.bel
theorem EdHalf.far {w0 w w' : World} {B : Nat} {va vd : Value} {y : Edt} {F : Nat → Prop} (h : EdHalf w0 B w va vd y) (u : UpdF F w w') (hF : ∀ k, B ≤ k → ¬ F k) : EdHalf w0 B w' va vd y :=
  ⟨row_same h.adds fun k hk => u.block k (row_lt h.adds k hk) (hF k (own_from h.adds k hk)), h.dels⟩
theorem edtB_pos (x : Edt) : 0 < (edtB x).length := by
  have := (putN_len x.nxt.toNat).1
  unfold edtB edHeadB edNumB
  simp only [List.length_append]
  omega
theorem edtB_small {x : Edt} (h : x.short) : (edtB x).length ≤ 2000 := by
  have h1 := edFlat_le (B := tbfB) (K := 110) x.adds fun f hf => by
    obtain ⟨s1, s2⟩ := h.2.2 f hf
    have a1 := edNumB_len f.num
    have a2 := edNumB_len f.lvl
    have a3 := edNumB_len f.siz
    have a4 := (putN_len f.lo.data.toList.length).2
    have a5 := (putN_len f.hi.data.toList.length).2
    have a6 := size_toList f.lo
    have a7 := size_toList f.hi
    unfold tbfB textE
    simp only [List.length_append]
    omega
  have h2 := edFlat_le (B := edNumB) (K := 10) x.dels fun n _ => edNumB_len n
  have a1 := edNumB_len x.nxt
  have a2 := edNumB_len x.lg
  have a3 := edNumB_len x.lst
  have a4 := (putN_len x.adds.length).2
  have a5 := (putN_len x.dels.length).2
  have h3 := h.1
  have h4 := h.2.1
  unfold edtB edHeadB
  simp only [List.length_append]
  have h5 : x.adds.length * 110 ≤ 12 * 110 := Nat.mul_le_mul_right _ h3
  have h6 : x.dels.length * 10 ≤ 12 * 10 := Nat.mul_le_mul_right _ h4
  omega
theorem may_ok {x : Edt} (h : mayE x) : x.ok := by
  obtain ⟨-, ⟨h1, h2⟩, h3, -⟩ := h
  refine ⟨fun f hf => ?_, by omega, by omega⟩
  obtain ⟨-, -, -, h4, h5, -⟩ := notBadTb (h3 f hf)
  constructor <;> (unfold maxLen; omega)
/-- Two boxes stored to. -/
theorem fill10 {w3 : World} {g : Nat} {T : TypeId} {o0 o1 o2 o3 o4 p0 p1 p2 p3 p4 : Value} (ha : BlkAt w3 g #[o0, o1, o2, o3, o4] T) (hb : BlkAt w3 (g + 1) #[p0, p1, p2, p3, p4] T) (v0 v1 v2 v3 v4 u0 u1 u2 u3 u4 : Value) :
    BlkAt ((((((((((w3.setCell ⟨g, 0, none⟩ v0).setCell ⟨g, 1, none⟩ v1).setCell ⟨g, 2, none⟩ v2).setCell ⟨g, 3, none⟩ v3).setCell ⟨g, 4, none⟩ v4).setCell ⟨g + 1, 0, none⟩ u0).setCell ⟨g + 1, 1, none⟩ u1).setCell ⟨g + 1, 2, none⟩ u2).setCell ⟨g + 1, 3, none⟩ u3).setCell ⟨g + 1, 4, none⟩ u4) g #[v0, v1, v2, v3, v4] T ∧ BlkAt ((((((((((w3.setCell ⟨g, 0, none⟩ v0).setCell ⟨g, 1, none⟩ v1).setCell ⟨g, 2, none⟩ v2).setCell ⟨g, 3, none⟩ v3).setCell ⟨g, 4, none⟩ v4).setCell ⟨g + 1, 0, none⟩ u0).setCell ⟨g + 1, 1, none⟩ u1).setCell ⟨g + 1, 2, none⟩ u2).setCell ⟨g + 1, 3, none⟩ u3).setCell ⟨g + 1, 4, none⟩ u4) (g + 1) #[u0, u1, u2, u3, u4] T ∧ UpdF (fun k => k = g ∨ k = g + 1) w3 ((((((((((w3.setCell ⟨g, 0, none⟩ v0).setCell ⟨g, 1, none⟩ v1).setCell ⟨g, 2, none⟩ v2).setCell ⟨g, 3, none⟩ v3).setCell ⟨g, 4, none⟩ v4).setCell ⟨g + 1, 0, none⟩ u0).setCell ⟨g + 1, 1, none⟩ u1).setCell ⟨g + 1, 2, none⟩ u2).setCell ⟨g + 1, 3, none⟩ u3).setCell ⟨g + 1, 4, none⟩ u4) :=
  ⟨((((((((((ha.set (o := 0) v0).set (o := 1) v1).set (o := 2) v2).set (o := 3) v3).set (o := 4) v4).other (c := g + 1) (o := 0) u0 (by omega)).other (c := g + 1) (o := 1) u1 (by omega)).other (c := g + 1) (o := 2) u2 (by omega)).other (c := g + 1) (o := 3) u3 (by omega)).other (c := g + 1) (o := 4) u4 (by omega)), ((((((((((hb.other (c := g) (o := 0) v0 (by omega)).other (c := g) (o := 1) v1 (by omega)).other (c := g) (o := 2) v2 (by omega)).other (c := g) (o := 3) v3 (by omega)).other (c := g) (o := 4) v4 (by omega)).set (o := 0) u0).set (o := 1) u1).set (o := 2) u2).set (o := 3) u3).set (o := 4) u4), (((((((((((UpdF.refl (fun k => k = g ∨ k = g + 1) w3).set g 0 v0 (.inl rfl)).set g 1 v1 (.inl rfl)).set g 2 v2 (.inl rfl)).set g 3 v3 (.inl rfl)).set g 4 v4 (.inl rfl)).set (g + 1) 0 u0 (.inr rfl)).set (g + 1) 1 u1 (.inr rfl)).set (g + 1) 2 u2 (.inr rfl)).set (g + 1) 3 u3 (.inr rfl)).set (g + 1) 4 u4 (.inr rfl))⟩
set_option maxHeartbeats 16000000 in
theorem editBytes_walk (w : World) (va : Value) (xa : Edt) (ha : EdAt w va xa) (hao : ∀ f ∈ xa.adds, f.ok) (vb : Value) (xb : Edt) (hb : EdAt w vb xb) (hbo : ∀ f ∈ xb.adds, f.ok) (at0 : Int) (hat : (Lit.int .i64 at0).wf = true) (xz : Int) (hxz : (Lit.int .u8 xz).wf = true) :
    Calls Try.prog 3 #[va, vb, .int .i64 at0, .int .u8 xz] w fun e w' => e = .returned (.bool true) ∧ Below w.heap.size w w' := by
  have hab : -9223372036854775808 ≤ at0 ∧ at0 ≤ 9223372036854775807 := by
    simp [Lit.wf, IntKind.min, IntKind.max, IntKind.signed, IntKind.bits] at hat; omega
  obtain ⟨xb0, rfl⟩ : ∃ x : UInt8, xz = (x.toNat : Int) := ⟨UInt8.ofNat xz.toNat, by have := u8_bd hxz; rw [byte_of _ (by omega)]; omega⟩
  clear hat hxz
  have HCA : Hid (∀ W, Below w.heap.size w W → Calls Try.prog 7 #[va] W (CutTo w W)) := Lib.hid fun W hW => edCut_any va xa hao w W ha hW
  have HCB : Hid (∀ W, Below w.heap.size w W → Calls Try.prog 7 #[vb] W (CutTo w W)) := Lib.hid fun W hW => edCut_any vb xb hbo w W hb hW
  obtain ⟨ua, ud, rfl, -, -⟩ := id ha
  obtain ⟨ub, ue, rfl, -, -⟩ := id hb
  obtain ⟨aA, cA, rfl, -⟩ := edFl_len (show RdK encTbf 5 w ua xa.adds from (by obtain ⟨p, q, e, h1, -⟩ := ha; simp only [Value.agg.injEq, Array.mk.injEq, List.cons.injEq] at e; rw [e.2.2.2.1]; exact h1))
  obtain ⟨aD, cD, rfl⟩ := edInts_len (show RdV w ud (xa.dels.map encI64) from (by obtain ⟨p, q, e, -, h1⟩ := ha; simp only [Value.agg.injEq, Array.mk.injEq, List.cons.injEq] at e; rw [e.2.2.2.2.1]; exact h1))
  obtain ⟨bA, eA, rfl, -⟩ := edFl_len (show RdK encTbf 5 w ub xb.adds from (by obtain ⟨p, q, e, h1, -⟩ := hb; simp only [Value.agg.injEq, Array.mk.injEq, List.cons.injEq] at e; rw [e.2.2.2.1]; exact h1))
  obtain ⟨bD, eD, rfl⟩ := edInts_len (show RdV w ue (xb.dels.map encI64) from (by obtain ⟨p, q, e, -, h1⟩ := hb; simp only [Value.agg.injEq, Array.mk.injEq, List.cons.injEq] at e; rw [e.2.2.2.2.1]; exact h1))
  clear ha hb hao hbo
  obtain ⟨x1, x2, x3, XA, XD⟩ := xa
  obtain ⟨z1, z2, z3, ZA, ZD⟩ := xb
  simp only at HCA HCB ⊢
  have HX := Lib.hid (Two5.new w #[.int .i64 x1, .int .i64 x2, .int .i64 x3, .slice aA XA.length cA, .slice aD XD.length cD] #[.int .i64 z1, .int .i64 z2, .int .i64 z3, .slice bA ZA.length eA, .slice bD ZD.length eD] 25)
  generalize XA.length = nA at *
  generalize XD.length = nD at *
  generalize ZA.length = mA at *
  generalize ZD.length = mD at *
  go_enter Try.func3, Try.ntmps3
  go_wp2_with fail
  refine (edBegun_any _).mono ?_
  rintro e w1 ⟨rfl, b1⟩
  have HX1 := Lib.hid (HX.out.below b1)
  have HS1 := Lib.hid (Nat.le_trans (show w.heap.size + 2 ≤ _ from by simp) b1.size)
  clear b1 HX
  go_wp2_with fail
  refine beginK (Below w1.heap.size w1) 4 (by kernel_rfl) (Below.refl _ _).drew (fun hHeld => ?_)
  refine takeK (i := 0) (k := 21) (v := .agg #[.int .i64 x1, .int .i64 x2, .int .i64 x3, .slice aA nA cA, .slice aD nD cD]) rfl rfl (by kernel_rfl) (by kernel_rfl) (by kernel_rfl) [0] rfl (by decide) (by kernel_rfl) (fun _ _ _ h => h) (by kernel_rfl) ?_ (by assumption) ?_
  · intro W hSw; obtain ⟨d0, d1, d2, d3, d4, -, -, -, -, -⟩ := (HX1.out.2.1.below hSw).cells5; first | (go_simp; done) | go_simp
  try simp only [Act.put, List.setIfInBounds_toArray, List.set_cons_zero, List.set_cons_succ]
  refine takeK (i := 2) (k := 23) (v := .agg #[.int .i64 z1, .int .i64 z2, .int .i64 z3, .slice bA mA eA, .slice bD mD eD]) rfl rfl (by kernel_rfl) (by kernel_rfl) (by kernel_rfl) [3, 2] rfl (by decide) (by kernel_rfl) (fun _ _ _ h => h) (by kernel_rfl) ?_ (by assumption) ?_
  · intro W hSw; obtain ⟨d0, d1, d2, d3, d4, -, -, -, -, -⟩ := (HX1.out.2.2.below hSw).cells5; first | (go_simp; done) | go_simp
  try simp only [Act.put, List.setIfInBounds_toArray, List.set_cons_zero, List.set_cons_succ]
  have hd1 : Below w1.heap.size w1 w1.drew := (Below.refl _ _).drew
  have HC1 := Lib.hid (HCA.out w1.drew (HX1.out.1.drew))
  generalize w1.drew = w1d at *
  refine oneK (i := 1) (by kernel_rfl) rfl (fun KK hK => ?_)
  go_simp
  refine HC1.out.mono ?_
  rintro e w2 ⟨va, vd, y, rfl, hy, hys, hb⟩
  have hb2 : Below w1.heap.size w1 w2 := hd1.trans (hb.mono hd1.size)
  refine hK.out _ _ (fun _ => hb2) (fun hHx => ?_)
  clear hHx hK KK HCA HC1 hHeld
  try simp only [Act.put, List.setIfInBounds_toArray, List.set_cons_zero, List.set_cons_succ]
  have HC2 := Lib.hid (HCB.out w2 (HX1.out.below hb2).1)
  refine oneK (i := 3) (by kernel_rfl) rfl (fun KK hK => ?_)
  go_simp
  refine HC2.out.mono ?_
  rintro e w3 ⟨vb, ve, z, rfl, hz, hzs, hb'⟩
  have hb3 : Below w1.heap.size w1 w3 := hb2.trans (hb'.mono hb2.size)
  refine hK.out _ _ (fun _ => hb3) (fun hHx => ?_)
  clear hHx hK KK HCB HC2
  try simp only [Act.put, List.setIfInBounds_toArray, List.set_cons_zero, List.set_cons_succ]
  have HX3 := HX1.out.below hb3
  have hsz2 := HS1.out
  have hA3 : EdHalf w (w.heap.size + 2) w3 va vd y := ⟨(hy.adds.below hb').base (by have := hd1.size; omega), hy.dels⟩
  have hB3 : EdHalf w (w.heap.size + 2) w3 vb ve z := ⟨hz.adds.base (by have := hb2.size; omega), hz.dels⟩
  obtain ⟨a3, k3, rfl⟩ := tbf_form hA3.adds
  obtain ⟨a4, k4, rfl⟩ := edInts_len hA3.dels
  obtain ⟨a5, k5, rfl⟩ := tbf_form hB3.adds
  obtain ⟨a6, k6, rfl⟩ := edInts_len hB3.dels
  obtain ⟨c0, c1, c2, c3, c4, f0, f1, f2, f3, f4⟩ := HX3.2.1.cells5
  obtain ⟨d0, d1, d2, d3, d4, i0, i1, i2, i3, i4⟩ := HX3.2.2.cells5
  have hf := fill10 HX3.2.1 HX3.2.2 (.int .i64 y.nxt) (.int .i64 y.lg) (.int .i64 y.lst) (.slice a3 y.adds.length k3) (.slice a4 y.dels.length k4) (.int .i64 z.nxt) (.int .i64 z.lg) (.int .i64 z.lst) (.slice a5 z.adds.length k5) (.slice a6 z.dels.length k6)
  have HL : Hid (BytL w ((((((((((w3.setCell ⟨w.heap.size, 0, none⟩ (.int .i64 y.nxt)).setCell ⟨w.heap.size, 1, none⟩ (.int .i64 y.lg)).setCell ⟨w.heap.size, 2, none⟩ (.int .i64 y.lst)).setCell ⟨w.heap.size, 3, none⟩ (.slice a3 y.adds.length k3)).setCell ⟨w.heap.size, 4, none⟩ (.slice a4 y.dels.length k4)).setCell ⟨w.heap.size + 1, 0, none⟩ (.int .i64 z.nxt)).setCell ⟨w.heap.size + 1, 1, none⟩ (.int .i64 z.lg)).setCell ⟨w.heap.size + 1, 2, none⟩ (.int .i64 z.lst)).setCell ⟨w.heap.size + 1, 3, none⟩ (.slice a5 z.adds.length k5)).setCell ⟨w.heap.size + 1, 4, none⟩ (.slice a6 z.dels.length k6)) w.heap.size (.slice a3 y.adds.length k3) (.slice a4 y.dels.length k4) (.slice a5 z.adds.length k5) (.slice a6 z.dels.length k6) y z) := Lib.hid ⟨hf.1, hf.2.1, hA3.far hf.2.2 (by omega), hB3.far hf.2.2 (by omega), hys, hzs, Nat.le_refl _, HX3.1.trans (UpdF.below hf.2.2 HX3.1.size fun k hk e => by omega)⟩
  clear hf hA3 hB3 HX3 hb3 hb2 hb hb' hy hz hd1 HX1 HS1 hys hzs
  refine oneK (i := 4) (by kernel_rfl) rfl (fun KK hK => ?_)
  go_simp
  refine hK.out _ _ (fun h => by have h' : true = false := h; cases h') (fun hHx => ?_)
  clear hHx hK KK
  try simp only [Act.put, List.setIfInBounds_toArray, List.set_cons_zero, List.set_cons_succ]
  refine oneK (i := 5) (by kernel_rfl) rfl (fun KK hK => ?_)
  go_simp
  refine hK.out _ _ (fun h => by have h' : true = false := h; cases h') (fun hHx => ?_)
  clear hHx hK KK c0 c1 c2 c3 c4 f0 f1 f2 f3 f4 d0 d1 d2 d3 d4 i0 i1 i2 i3 i4
  try simp only [Act.put, List.setIfInBounds_toArray, List.set_cons_zero, List.set_cons_succ]
  refine doneK (by kernel_rfl) ?_ _
  generalize ((((((((((w3.setCell ⟨w.heap.size, 0, none⟩ (.int .i64 y.nxt)).setCell ⟨w.heap.size, 1, none⟩ (.int .i64 y.lg)).setCell ⟨w.heap.size, 2, none⟩ (.int .i64 y.lst)).setCell ⟨w.heap.size, 3, none⟩ (.slice a3 y.adds.length k3)).setCell ⟨w.heap.size, 4, none⟩ (.slice a4 y.dels.length k4)).setCell ⟨w.heap.size + 1, 0, none⟩ (.int .i64 z.nxt)).setCell ⟨w.heap.size + 1, 1, none⟩ (.int .i64 z.lg)).setCell ⟨w.heap.size + 1, 2, none⟩ (.int .i64 z.lst)).setCell ⟨w.heap.size + 1, 3, none⟩ (.slice a5 z.adds.length k5)).setCell ⟨w.heap.size + 1, 4, none⟩ (.slice a6 z.dels.length k6)) = w4 at *
  obtain ⟨c0, c1, c2, c3, c4, -, -, -, -, -⟩ := HL.out.bxA.cells5
  have HEN := Lib.hid (edEncode_any _ _ HL.out.shA.ok w4 HL.out.atA)
  unfold EncToE at HEN
  go_wp2_with fail
  refine HEN.out.mono ?_
  rintro e w5 ⟨vp, rfl, hp, hpn, hb⟩
  have HL5 := Lib.hid (HL.out.below hb)
  have HP5 := Lib.hid (And.intro hp hpn)
  clear hp hpn hb HEN HL c0 c1 c2 c3 c4
  obtain ⟨c0, c1, c2, c3, c4, -, -, -, -, -⟩ := HL5.out.bxA.cells5
  have HMY := Lib.hid (rmayEd_any _ _ HL5.out.shA.ok w5 HL5.out.atA)
  go_wp2_with fail
  refine HMY.out.mono ?_
  rintro e w6 ⟨rfl, hb⟩
  have HL6 := Lib.hid (HL5.out.below hb)
  have HB6 := Lib.hid hb
  clear HMY HL5 hb c0 c1 c2 c3 c4
  obtain ⟨c0, c1, c2, c3, c4, -, -, -, -, -⟩ := HL6.out.bxA.cells5
  by_cases hm : mayE y
  · have hc : chkE y = 0 := if_pos hm
    rw [hc, decide_eq_true hm]
    have HP6 := Lib.hid ((HP5.out.1 hm).below HB6.out)
    obtain ⟨ap, np, kp, rfl, hnp, -⟩ := HP6.out.form
    have HY := Lib.hid hm
    have HNP := Lib.hid hnp
    have HD := Lib.hid (edDecode_any _ _ w6 HP6.out.rd)
    clear hm hc hnp HP5 HB6
    go_wp2_with fail
    refine HD.out.mono ?_
    rintro e w7 ⟨v7, c7, rfl, hd, hb⟩
    obtain ⟨rfl, hd7⟩ := hd.yes _ (decE_enc HY.out)
    obtain ⟨u7, t7, rfl, oa, od⟩ := id hd7
    obtain ⟨a7, k7, rfl⟩ := tbf_form oa
    obtain ⟨a8, n8, k8, rfl⟩ := od.slform
    have HL7 := HL6.out.below hb
    have HP7 := HP6.out.below hb
    have hal : Below w7.heap.size w7 (w7.alloc (.cells #[.int .i64 y.nxt, .int .i64 y.lg, .int .i64 y.lst, .slice a7 y.adds.length k7, .slice a8 n8 k8] 25)) := (Below.refl _ _).alloc (Nat.le_refl _) _
    have HL8 := Lib.hid (HL7.below hal)
    have HP8 := Lib.hid (HP7.below hal)
    have HE8 := Lib.hid (hd7.at.below hal)
    have HX8 := Lib.hid (BlkAt.new w7 #[.int .i64 y.nxt, .int .i64 y.lg, .int .i64 y.lst, .slice a7 y.adds.length k7, .slice a8 n8 k8] 25)
    obtain ⟨g8, hg8⟩ : ∃ g, w7.heap.size = g := ⟨_, rfl⟩
    obtain ⟨w8, hw8⟩ : ∃ x, w7.alloc (.cells #[.int .i64 y.nxt, .int .i64 y.lg, .int .i64 y.lst, .slice a7 y.adds.length k7, .slice a8 n8 k8] 25) = x := ⟨_, rfl⟩
    rw [hw8] at HL8 HP8 HE8 HX8
    rw [hg8] at HX8
    have HQE := Lib.hid (reqEd_any _ _ _ _ HL8.out.shA.ok HL8.out.shA.ok w8 HL8.out.atA HE8.out)
    clear oa od hb hd hd7 HL7 HP7 hal HL6 HP6 HD HE8 c0 c1 c2 c3 c4
    obtain ⟨c0, c1, c2, c3, c4, -, -, -, -, -⟩ := HL8.out.bxA.cells5
    obtain ⟨d0, d1, d2, d3, d4, -, -, -, -, -⟩ := HX8.out.cells5
    go_wp2_with fail
    refine HQE.out.mono ?_
    rintro e w9 ⟨q9, hq9, rfl, hb⟩
    obtain rfl : q9 = true := hq9.2 (by first | rfl | trivial)
    have HL9 := Lib.hid (HL8.out.below hb)
    have HP9 := Lib.hid (HP8.out.below hb)
    have HCK := Lib.hid (edCheck_any _ _ HL9.out.shA.ok w9 HL9.out.atA)
    rw [show chkE y = 0 from if_pos HY.out] at HCK
    clear hb hq9 HQE HL8 HP8 HX8 hw8 hg8 d0 d1 d2 d3 d4 c0 c1 c2 c3 c4
    obtain ⟨c0, c1, c2, c3, c4, -, -, -, -, -⟩ := HL9.out.bxA.cells5
    go_wp2_with fail
    refine HCK.out.mono ?_
    rintro e w10 ⟨rfl, hb⟩
    have HL10 := Lib.hid (HL9.out.below hb)
    have HP10 := Lib.hid (HP9.out.below hb)
    have HEN := Lib.hid (edEncode_any _ _ HL10.out.shB.ok w10 HL10.out.atB)
    unfold EncToE at HEN
    clear hb HCK HL9 HP9 c0 c1 c2 c3 c4
    obtain ⟨c0, c1, c2, c3, c4, -, -, -, -, -⟩ := HL10.out.bxA.cells5
    obtain ⟨d0, d1, d2, d3, d4, -, -, -, -, -⟩ := HL10.out.bxB.cells5
    go_wp2_with fail
    refine HEN.out.mono ?_
    rintro e w11 ⟨vq, rfl, hq, hqn, hb⟩
    have HL11 := Lib.hid (HL10.out.below hb)
    have HP11 := Lib.hid (HP10.out.below hb)
    have HQ11 := Lib.hid (And.intro hq hqn)
    clear hq hqn hb HEN HL10 HP10 d0 d1 d2 d3 d4 c0 c1 c2 c3 c4
    obtain ⟨C, hC⟩ : ∃ C, chkE z = C := ⟨_, rfl⟩
    rw [hC]
    have HC := Lib.hid hC
    clear hC
    go_upto_region 12 with fail
    go_cut [84] (fun c wx => c = .bool false ∧ Hid (Below w11.heap.size w11 wx))
    case first =>
      as_aux_lemma =>
      by_cases hz : mayE z
      · obtain rfl : C = 0 := by rw [← HC.out]; exact if_pos hz
        have HQB := Lib.hid (HQ11.out.1 hz)
        obtain ⟨aq, nq', kq, rfl, -, -⟩ := HQB.out.form
        obtain ⟨sp, hsp⟩ : ∃ sp : ByteArray, (⟨(edtB y).toArray⟩ : ByteArray) = sp := ⟨_, rfl⟩
        obtain ⟨sq, hsq⟩ : ∃ sq : ByteArray, (⟨(edtB z).toArray⟩ : ByteArray) = sq := ⟨_, rfl⟩
        obtain ⟨EQ, hEQ⟩ : ∃ b : Bool, (sp.toList == sq.toList) = b := ⟨_, rfl⟩
        have HEQ : Hid (EQ = true ↔ y = z) := Lib.hid (by
          rw [← hEQ, ← hsp, ← hsq, arr_eq, decide_eq_true_iff]
          exact ⟨fun h => edtB_inj HY.out hz h, fun h => by rw [h]⟩)
        have HCP : Hid (∀ W, Below w11.heap.size w11 W → (convert 28 9 (.slice ap np kp)).run Try.prog W = .ok (.string sp) W) := Lib.hid fun W hW => by rw [← hsp]; exact (HP11.out.rd.below hW).text
        have HCQ : Hid (∀ W, Below w11.heap.size w11 W → (convert 28 9 (.slice aq nq' kq)).run Try.prog W = .ok (.string sq) W) := Lib.hid fun W hW => by rw [← hsq]; exact (HQB.out.rd.below hW).text
        have HQE : Hid (∀ W, Below w11.heap.size w11 W → Calls Try.prog 12 #[.agg #[.int .i64 y.nxt, .int .i64 y.lg, .int .i64 y.lst, .slice a3 y.adds.length k3, .slice a4 y.dels.length k4], .agg #[.int .i64 z.nxt, .int .i64 z.lg, .int .i64 z.lst, .slice a5 z.adds.length k5, .slice a6 z.dels.length k6]] W (EqRes (y = z) W)) := Lib.hid fun W hW => reqEd_any _ _ _ _ HL11.out.shA.ok HL11.out.shB.ok W (HL11.out.below hW).atA (HL11.out.below hW).atB
        clear hz HC hsp hsq HQ11 HP11 HQB HY HNP
        have B : Below w11.heap.size w11 w11 := Below.refl _ _
        refine wp_region_held_drew (S := Below w11.heap.size w11) (by kernel_rfl) (Below.refl _ _).drew (fun hHeld => ?_)
        generalize w11.drew = wd20 at hHeld ⊢
        refine wpAnyH_shift hHeld ?_
        replace B : Below w11.heap.size w11 wd20 := B.trans (hHeld.mono B.size)
        clear hHeld
        refine takeYes (i := 0) (k := 72) (v := .int .i64 0) rfl (by kernel_rfl) (by kernel_rfl) (by kernel_rfl) (by kernel_rfl) (fun _ _ _ h => h) (by kernel_rfl) ?_ (Below.refl _ _) ?_
        · intro W hSw; first | (go_simp; done) | go_simp
        try simp only [Act.put, List.setIfInBounds_toArray, List.set_cons_zero, List.set_cons_succ]
        refine takeYes (i := 1) (k := 73) (v := .bool true) rfl (by kernel_rfl) (by kernel_rfl) (by kernel_rfl) (by kernel_rfl) (fun _ _ _ h => h) (by kernel_rfl) ?_ (Below.refl _ _) ?_
        · intro W hSw; first | (go_simp; done) | go_simp
        try simp only [Act.put, List.setIfInBounds_toArray, List.set_cons_zero, List.set_cons_succ]
        refine takeYes (i := 2) (k := 74) (v := .bool true) rfl (by kernel_rfl) (by kernel_rfl) (by kernel_rfl) (by kernel_rfl) (fun _ _ _ h => h) (by kernel_rfl) ?_ (Below.refl _ _) ?_
        · intro W hSw; first | (go_simp; done) | go_simp
        try simp only [Act.put, List.setIfInBounds_toArray, List.set_cons_zero, List.set_cons_succ]
        refine takeYes (i := 3) (k := 75) (v := .slice ap np kp) rfl (by kernel_rfl) (by kernel_rfl) (by kernel_rfl) (by kernel_rfl) (fun _ _ _ h => h) (by kernel_rfl) ?_ (Below.refl _ _) ?_
        · intro W hSw; first | (go_simp; done) | go_simp
        try simp only [Act.put, List.setIfInBounds_toArray, List.set_cons_zero, List.set_cons_succ]
        refine takeYes (i := 4) (k := 76) (v := .string sp) rfl (by kernel_rfl) (by kernel_rfl) (by kernel_rfl) (by kernel_rfl) (fun _ _ _ h => h) (by kernel_rfl) ?_ (Below.refl _ _) ?_
        · intro W hSw; have hcv := HCP.out W (B.trans (hSw.mono B.size)); first | (go_simp; done) | go_simp
        try simp only [Act.put, List.setIfInBounds_toArray, List.set_cons_zero, List.set_cons_succ]
        refine takeYes (i := 5) (k := 77) (v := (.slice aq nq' kq)) rfl (by kernel_rfl) (by kernel_rfl) (by kernel_rfl) (by kernel_rfl) (fun _ _ _ h => h) (by kernel_rfl) ?_ (Below.refl _ _) ?_
        · intro W hSw; first | (go_simp; done) | go_simp
        try simp only [Act.put, List.setIfInBounds_toArray, List.set_cons_zero, List.set_cons_succ]
        refine takeYes (i := 6) (k := 78) (v := .string sq) rfl (by kernel_rfl) (by kernel_rfl) (by kernel_rfl) (by kernel_rfl) (fun _ _ _ h => h) (by kernel_rfl) ?_ (Below.refl _ _) ?_
        · intro W hSw; have hcv := HCQ.out W (B.trans (hSw.mono B.size)); first | (go_simp; done) | go_simp
        try simp only [Act.put, List.setIfInBounds_toArray, List.set_cons_zero, List.set_cons_succ]
        refine takeYes (i := 7) (k := 79) (v := .bool EQ) rfl (by kernel_rfl) (by kernel_rfl) (by kernel_rfl) (by kernel_rfl) (fun _ _ _ h => h) (by kernel_rfl) ?_ (Below.refl _ _) ?_
        · intro W hSw; first | (go_simp; done) | go_simp
        try simp only [Act.put, List.setIfInBounds_toArray, List.set_cons_zero, List.set_cons_succ]
        refine takeYes (i := 8) (k := 80) (v := .agg #[.int .i64 y.nxt, .int .i64 y.lg, .int .i64 y.lst, .slice a3 y.adds.length k3, .slice a4 y.dels.length k4]) rfl (by kernel_rfl) (by kernel_rfl) (by kernel_rfl) (by kernel_rfl) (fun _ _ _ h => h) (by kernel_rfl) ?_ (Below.refl _ _) ?_
        · intro W hSw; obtain ⟨c0, c1, c2, c3, c4, -, -, -, -, -⟩ := (HL11.out.below (B.trans (hSw.mono B.size))).bxA.cells5; first | (go_simp; done) | go_simp
        try simp only [Act.put, List.setIfInBounds_toArray, List.set_cons_zero, List.set_cons_succ]
        refine takeYes (i := 9) (k := 81) (v := .agg #[.int .i64 z.nxt, .int .i64 z.lg, .int .i64 z.lst, .slice a5 z.adds.length k5, .slice a6 z.dels.length k6]) rfl (by kernel_rfl) (by kernel_rfl) (by kernel_rfl) (by kernel_rfl) (fun _ _ _ h => h) (by kernel_rfl) ?_ (Below.refl _ _) ?_
        · intro W hSw; obtain ⟨d0, d1, d2, d3, d4, -, -, -, -, -⟩ := (HL11.out.below (B.trans (hSw.mono B.size))).bxB.cells5; first | (go_simp; done) | go_simp
        try simp only [Act.put, List.setIfInBounds_toArray, List.set_cons_zero, List.set_cons_succ]
        refine wpAnyH_ready (rs := [10]) (by kernel_rfl) (by simp) (AllReadyH.cons rfl (fun K hK => ?_) AllReadyH.nil)
        go_simp
        refine (HQE.out wd20 B).mono ?_
        rintro e wd21 ⟨qq, hqq, rfl, hb21⟩
        obtain rfl : EQ = qq := by rw [Bool.eq_iff_iff, hqq, HEQ.out]
        clear hqq
        refine hK.out _ _ hb21 (fun _ => wpAnyH_shift hb21 ?_)
        clear hK K
        replace B : Below w11.heap.size w11 wd21 := B.trans (hb21.mono B.size)
        clear hb21
        try simp only [Act.put, List.setIfInBounds_toArray, List.set_cons_zero, List.set_cons_succ]
        refine takeYes (i := 11) (k := 83) (v := .bool false) rfl (by kernel_rfl) (by kernel_rfl) (by kernel_rfl) (by kernel_rfl) (fun _ _ _ h => h) (by kernel_rfl) ?_ (Below.refl _ _) ?_
        · intro W hSw; have hxx : (EQ != EQ) = false := (by simp); first | (go_simp; done) | go_simp
        try simp only [Act.put, List.setIfInBounds_toArray, List.set_cons_zero, List.set_cons_succ]
        refine takeYes (i := 12) (k := 84) (v := .bool false) rfl (by kernel_rfl) (by kernel_rfl) (by kernel_rfl) (by kernel_rfl) (fun _ _ _ h => h) (by kernel_rfl) ?_ (Below.refl _ _) ?_
        · intro W hSw; first | (go_simp; done) | go_simp
        try simp only [Act.put, List.setIfInBounds_toArray, List.set_cons_zero, List.set_cons_succ]
        refine wpAnyH_done (by kernel_rfl) ?_ _
        go_wp2_with fail
        go_meet
        exact ⟨rfl, Lib.hid B⟩
      · obtain rfl : C = 12 := by rw [← HC.out]; exact if_neg hz
        obtain rfl := HQ11.out.2 hz
        clear hz HC HQ11 HP11 HY HNP HL11
        have B : Below w11.heap.size w11 w11 := Below.refl _ _
        refine wp_region_held_drew (S := Below w11.heap.size w11) (by kernel_rfl) (Below.refl _ _).drew (fun hHeld => ?_)
        generalize w11.drew = wd20 at hHeld ⊢
        refine wpAnyH_shift hHeld ?_
        replace B : Below w11.heap.size w11 wd20 := B.trans (hHeld.mono B.size)
        clear hHeld
        refine takeYes (i := 0) (k := 72) (v := .int .i64 12) rfl (by kernel_rfl) (by kernel_rfl) (by kernel_rfl) (by kernel_rfl) (fun _ _ _ h => h) (by kernel_rfl) ?_ (Below.refl _ _) ?_
        · intro W hSw; first | (go_simp; done) | go_simp
        try simp only [Act.put, List.setIfInBounds_toArray, List.set_cons_zero, List.set_cons_succ]
        refine takeYes (i := 1) (k := 73) (v := .bool false) rfl (by kernel_rfl) (by kernel_rfl) (by kernel_rfl) (by kernel_rfl) (fun _ _ _ h => h) (by kernel_rfl) ?_ (Below.refl _ _) ?_
        · intro W hSw; first | (go_simp; done) | go_simp
        try simp only [Act.put, List.setIfInBounds_toArray, List.set_cons_zero, List.set_cons_succ]
        refine takeYes (i := 2) (k := 74) (v := .bool false) rfl (by kernel_rfl) (by kernel_rfl) (by kernel_rfl) (by kernel_rfl) (fun _ _ _ h => h) (by kernel_rfl) ?_ (Below.refl _ _) ?_
        · intro W hSw; first | (go_simp; done) | go_simp
        try simp only [Act.put, List.setIfInBounds_toArray, List.set_cons_zero, List.set_cons_succ]
        refine takeNot (i := 3) (k := 75) (by kernel_rfl) (by kernel_rfl) (by kernel_rfl) (by kernel_rfl) (fun _ _ _ h => h) (by kernel_rfl) (Below.refl _ _) ?_
        try simp only [Act.put, List.setIfInBounds_toArray, List.set_cons_zero, List.set_cons_succ]
        refine takeNot (i := 4) (k := 76) (by kernel_rfl) (by kernel_rfl) (by kernel_rfl) (by kernel_rfl) (fun _ _ _ h => h) (by kernel_rfl) (Below.refl _ _) ?_
        try simp only [Act.put, List.setIfInBounds_toArray, List.set_cons_zero, List.set_cons_succ]
        refine takeNot (i := 5) (k := 77) (by kernel_rfl) (by kernel_rfl) (by kernel_rfl) (by kernel_rfl) (fun _ _ _ h => h) (by kernel_rfl) (Below.refl _ _) ?_
        try simp only [Act.put, List.setIfInBounds_toArray, List.set_cons_zero, List.set_cons_succ]
        refine takeNot (i := 6) (k := 78) (by kernel_rfl) (by kernel_rfl) (by kernel_rfl) (by kernel_rfl) (fun _ _ _ h => h) (by kernel_rfl) (Below.refl _ _) ?_
        try simp only [Act.put, List.setIfInBounds_toArray, List.set_cons_zero, List.set_cons_succ]
        refine takeNot (i := 7) (k := 79) (by kernel_rfl) (by kernel_rfl) (by kernel_rfl) (by kernel_rfl) (fun _ _ _ h => h) (by kernel_rfl) (Below.refl _ _) ?_
        try simp only [Act.put, List.setIfInBounds_toArray, List.set_cons_zero, List.set_cons_succ]
        refine takeNot (i := 8) (k := 80) (by kernel_rfl) (by kernel_rfl) (by kernel_rfl) (by kernel_rfl) (fun _ _ _ h => h) (by kernel_rfl) (Below.refl _ _) ?_
        try simp only [Act.put, List.setIfInBounds_toArray, List.set_cons_zero, List.set_cons_succ]
        refine takeNot (i := 9) (k := 81) (by kernel_rfl) (by kernel_rfl) (by kernel_rfl) (by kernel_rfl) (fun _ _ _ h => h) (by kernel_rfl) (Below.refl _ _) ?_
        try simp only [Act.put, List.setIfInBounds_toArray, List.set_cons_zero, List.set_cons_succ]
        refine takeNot (i := 10) (k := 82) (by kernel_rfl) (by kernel_rfl) (by kernel_rfl) (by kernel_rfl) (fun _ _ _ h => h) (by kernel_rfl) (Below.refl _ _) ?_
        try simp only [Act.put, List.setIfInBounds_toArray, List.set_cons_zero, List.set_cons_succ]
        refine takeNot (i := 11) (k := 83) (by kernel_rfl) (by kernel_rfl) (by kernel_rfl) (by kernel_rfl) (fun _ _ _ h => h) (by kernel_rfl) (Below.refl _ _) ?_
        try simp only [Act.put, List.setIfInBounds_toArray, List.set_cons_zero, List.set_cons_succ]
        refine takeYes (i := 12) (k := 84) (v := .bool false) rfl (by kernel_rfl) (by kernel_rfl) (by kernel_rfl) (by kernel_rfl) (fun _ _ _ h => h) (by kernel_rfl) ?_ (Below.refl _ _) ?_
        · intro W hSw; first | (go_simp; done) | go_simp
        try simp only [Act.put, List.setIfInBounds_toArray, List.set_cons_zero, List.set_cons_succ]
        refine wpAnyH_done (by kernel_rfl) ?_ _
        go_wp2_with fail
        go_meet
        exact ⟨rfl, Lib.hid B⟩
    case rest =>
    obtain ⟨rfl, HB12⟩ := hcut
    have HB0 := Lib.hid (HL11.out.bel.trans (HB12.out.mono HL11.out.bel.size))
    have HPC := Lib.hid (HP11.out.below HB12.out)
    have hpl := edtB_small HL11.out.shA
    have hpp := edtB_pos y
    clear HB12 HP11 HQ11 HL11 HC
    go_wp2_with (at_builtin; refine wp_appSB _ _ (by rfl) (by rfl) (by rfl) (OwnB.nil wc.heap.size wc) (by rfl) HPC.out.rd ?c1 (Nat.le_refl _) ?_)
    case c1 => simp only [List.length_nil]; omega
    intro vy w13 oy by'
    obtain ⟨ay, ny, ky, rfl, hny, -⟩ := oy.form
    have HM : Hid ((edtB y).length = ny) := Lib.hid hny.symm
    have hnyb : 0 < ny ∧ ny ≤ 2000 := by omega
    have HO := Lib.hid oy
    have HB := Lib.hid (HB0.out.trans (by'.mono HB0.out.size))
    have HCW := Lib.hid HB0.out.size
    clear oy by' hny hpl hpp HPC HB0 HY HNP
    obtain ⟨hny0, hny1⟩ := hnyb
    have hnyI : (0 : Int) < (ny : Int) := by omega
    generalize edtB y = P at *
    obtain ⟨q2, hq2⟩ : ∃ q, decide (0 ≤ at0) = q := ⟨_, rfl⟩
    have HQ2 := Lib.hid hq2
    clear hq2
    go_upto_region 15 with fail
    go_cut [93] (fun v wx => v = .bool q2 ∧ w13 = wx)
    case first =>
      as_aux_lemma =>
      by_cases h3 : 0 ≤ at0
      · obtain rfl : q2 = true := by rw [← HQ2.out]; exact decide_eq_true h3
        go_wp2_with fail
        go_meet
        exact ⟨rfl, rfl⟩
      · obtain rfl : q2 = false := by rw [← HQ2.out]; exact decide_eq_false h3
        go_wp2_with fail
        go_meet
        exact ⟨rfl, rfl⟩
    case rest =>
    obtain ⟨rfl, rfl⟩ := hcut
    go_upto_if 93 with fail
    go_cut [] (fun wx => ∃ M' : List UInt8, M'.length = ny ∧ Hid (OwnB w.heap.size wx (.slice ay ny ky) M') ∧ Hid (Below w.heap.size w wx))
    case first =>
      as_aux_lemma =>
      cases q2 with
      | true =>
        have h3 := of_decide_eq_true HQ2.out
        obtain ⟨zn, rfl⟩ : ∃ zn : Nat, at0 = (zn : Int) := ⟨at0.toNat, by omega⟩
        obtain ⟨k, hk⟩ : ∃ k, zn % ny = k := ⟨_, rfl⟩
        have hkX : k < ny := by rw [← hk]; exact Nat.mod_lt _ hny0
        have hki : (zn : Int) % (ny : Int) = (k : Int) := by rw [← hk]; rfl
        have hnz : ¬ (ny : Int) = 0 := by omega
        obtain ⟨g, cap', hv, hB, hg, hlc, hcm, hcell, hfree⟩ := HO.out.place k (by have := HM.out; omega)
        simp only [Value.slice.injEq] at hv
        obtain ⟨rfl, -, rfl⟩ := hv
        have hkI : (k : Int) < (ny : Int) := by omega
        have hk0 : (0 : Int) ≤ (k : Int) := by omega
        obtain ⟨yb, hyb⟩ : ∃ yb, P.getD k 0 = yb := ⟨_, rfl⟩
        rw [hyb] at hcell
        have HXR := Lib.hid (bv_xor yb xb0)
        go_wp2_with fail
        have o := HO.out.set k (yb ^^^ xb0)
        rw [← HXR.out] at o
        go_meet
        exact ⟨P.set k (yb ^^^ xb0), by rw [List.length_set]; exact HM.out, Lib.hid (o.base HCW.out), Lib.hid (HB.out.setCell (Nat.le_trans HCW.out hB) _)⟩
      | false =>
        go_wp2_with fail
        go_meet
        exact ⟨P, HM.out, Lib.hid (HO.out.base HCW.out), HB⟩
    case rest =>
    clear HO HB HM HQ2
    obtain ⟨M, hM, HO, HB⟩ := hcut
    have HD := Lib.hid (edDecode_any _ M _ HO.out.rd)
    go_wp2_with fail
    refine HD.out.mono ?_
    rintro e w15 ⟨v5, c5, rfl, hd, hb⟩
    have HO15 := Lib.hid (HO.out.below hb)
    have HB15 := Lib.hid (HB.out.trans (hb.mono HB.out.size))
    clear HD HO HB
    cases hde : decE M with
    | none =>
      obtain ⟨rfl, rfl⟩ := hd.no hde
      clear hd hde hb
      unfold zeroEd
      have HX := Lib.hid (BlkAt.new w15 #[.int .i64 0, .int .i64 0, .int .i64 0, .slice none 0 0, .slice none 0 0] 25)
      have HBF := Lib.hid (HB15.out.alloc HB15.out.size (.cells #[.int .i64 0, .int .i64 0, .int .i64 0, .slice none 0 0, .slice none 0 0] 25))
      obtain ⟨d0, d1, d2, d3, d4, -, -, -, -, -⟩ := HX.out.cells5
      go_wp2_with fail
      go_ret
      exact ⟨rfl, HBF.out⟩
    | some x =>
      obtain ⟨rfl, hd5⟩ := hd.yes _ hde
      obtain ⟨hmx, hbx⟩ := decE_is hde
      obtain ⟨u5, t5, rfl, oa, od⟩ := id hd5
      obtain ⟨a7', k7', rfl⟩ := tbf_form oa
      obtain ⟨a8', n8', k8', rfl⟩ := od.slform
      have hal : Below w15.heap.size w15 (w15.alloc (.cells #[.int .i64 x.nxt, .int .i64 x.lg, .int .i64 x.lst, .slice a7' x.adds.length k7', .slice a8' n8' k8'] 25)) := (Below.refl _ _).alloc (Nat.le_refl _) _
      have HE16 := Lib.hid (hd5.at.below hal)
      have HX := Lib.hid (BlkAt.new w15 #[.int .i64 x.nxt, .int .i64 x.lg, .int .i64 x.lst, .slice a7' x.adds.length k7', .slice a8' n8' k8'] 25)
      have HB16 := Lib.hid (HB15.out.trans (hal.mono HB15.out.size))
      have HO16 := Lib.hid (HO15.out.below hal)
      obtain ⟨w16, hw16⟩ : ∃ ww, w15.alloc (.cells #[.int .i64 x.nxt, .int .i64 x.lg, .int .i64 x.lst, .slice a7' x.adds.length k7', .slice a8' n8' k8'] 25) = ww := ⟨_, rfl⟩
      rw [hw16] at HX HB16 HE16 HO16
      have HEN := Lib.hid (edEncode_any _ _ (may_ok hmx) w16 HE16.out)
      unfold EncToE at HEN
      rw [show chkE x = 0 from if_pos hmx] at HEN
      have HXM := Lib.hid (And.intro hmx hbx)
      obtain ⟨d0, d1, d2, d3, d4, -, -, -, -, -⟩ := HX.out.cells5
      clear hd hde hb hd5 oa od hal HE16 HO15 HB15 hmx hbx
      go_wp2_with fail
      refine HEN.out.mono ?_
      rintro e w17 ⟨v7, rfl, ho, -, hb⟩
      have hz := ho HXM.out.1
      rw [HXM.out.2] at hz
      obtain ⟨a9, n9, k9, rfl, -, -⟩ := hz.form
      obtain ⟨sm, hsm⟩ : ∃ sm : ByteArray, (⟨M.toArray⟩ : ByteArray) = sm := ⟨_, rfl⟩
      have hcv1 : (convert 28 9 (.slice a9 n9 k9)).run Try.prog w17 = .ok (.string sm) w17 := by rw [← hsm]; exact hz.rd.text
      have hcv2 : (convert 28 9 (.slice ay ny ky)).run Try.prog w17 = .ok (.string sm) w17 := by rw [← hsm]; exact (HO16.out.below hb).rd.text
      have HBF := Lib.hid (HB16.out.trans (hb.mono HB16.out.size))
      clear ho hb hz hsm HEN HX HB16 HO16 HXM d0 d1 d2 d3 d4 hw16
      go_wp2_with fail
      go_ret
      exact ⟨rfl, HBF.out⟩
  · have hc : chkE y = 12 := if_neg hm
    rw [hc, decide_eq_false hm]
    obtain rfl := HP5.out.2 hm
    have HCK := Lib.hid (edCheck_any _ _ HL6.out.shA.ok w6 HL6.out.atA)
    rw [hc] at HCK
    have HB6' := Lib.hid HL6.out.bel
    clear hm hc HP5 HL6 HB6
    go_wp2_with fail
    refine HCK.out.mono ?_
    rintro e w7 ⟨rfl, hb⟩
    have HB7 := Lib.hid (HB6'.out.trans (hb.mono HB6'.out.size))
    clear hb HCK HB6' c0 c1 c2 c3 c4
    go_wp2_with fail
    go_ret
    exact ⟨rfl, HB7.out⟩
end Go.Proofs.Ytpaoabdjbdlalaa
