/- The walks of Apply and Edit. -/
import Derived.Test.YtjloaamaelcmaaaVerChg
import Derived.Test.YtjloaamaelcmaaaVerThose
namespace Go.Proofs.Ytjloaamaelcmaaa
set_option linter.unusedVariables false
set_option maxRecDepth 100000
open Go.RowKit
/-- What Apply leaves and tells. -/
def AppTo (B : Nat) (w : World) (b : Nat) (V : Ver) (x : Edt) (e : Ending) (w' : World) : Prop := ∃ (c : Int) (V' : Ver), e = .returned (.int .i64 c) ∧ VerAt B w' b V' ∧ UpdF (fun k => k = b) w w' ∧ (applyV V x = none → c = 12 ∧ V' = V) ∧ (∀ n, applyV V x = some n → c = 0 ∧ vSame n V')
theorem edt_forms {w : World} {v : Value} {x : Edt} (h : EdAt w v x) : ∃ aA cA aD cD, v = .agg #[.int .i64 x.nxt, .int .i64 x.lg, .int .i64 x.lst, .slice aA x.adds.length cA, .slice aD x.dels.length cD] := by
  obtain ⟨va, vd, rfl, ha, hd⟩ := h
  obtain ⟨aA, cA, rfl, -⟩ := edFl_len ha
  obtain ⟨aD, cD, rfl⟩ := edInts_len hd
  exact ⟨_, _, _, _, rfl⟩
set_option maxHeartbeats 8000000 in
theorem vapply_any {B : Nat} {w : World} {b : Nat} {V : Ver} (h : VerAt B w b V) (hB : B ≤ w.heap.size) (v : Value) (x : Edt) (hx : EdAt w v x) (hok : x.ok) : Calls Try.prog 14 #[.pointer (some ⟨b, 0, none⟩), v] w (AppTo B w b V x) := by
  have HC : Hid (∀ W, Below w.heap.size w W → Calls Try.prog 28 #[v] W fun e w' => e = .returned (.int .i64 (chkE x)) ∧ Below W.heap.size W w') := Lib.hid fun W hW => edCheck_any v x hok W (hx.below hW)
  have HV := Lib.hid h
  have HX := Lib.hid hx
  obtain ⟨aA, cA, aD, cD, rfl⟩ := edt_forms hx
  have HBS := Lib.hid hB
  have HB1 : Hid (Below w.heap.size w (w.alloc (.cells #[.int .i64 x.nxt, .int .i64 x.lg, .int .i64 x.lst, .slice aA x.adds.length cA, .slice aD x.dels.length cD] 37))) := Lib.hid ((Below.refl _ w).alloc (Nat.le_refl _) _)
  have HXB := Lib.hid (BlkAt.new w #[.int .i64 x.nxt, .int .i64 x.lg, .int .i64 x.lst, .slice aA x.adds.length cA, .slice aD x.dels.length cD] 37)
  clear h hx hok hB
  generalize x.adds.length = nA at *
  generalize x.dels.length = nD at *
  obtain ⟨g, hg⟩ : ∃ g, w.heap.size = g := ⟨_, rfl⟩
  rw [hg] at HXB
  unfold AppTo
  go_enter Try.func14, Try.ntmps14
  obtain ⟨z0, z1, z2, z3, z4⟩ := cell5_of HXB.out
  go_wp2_with fail
  refine (HC.out _ HB1.out).mono ?_
  rintro e w2 ⟨rfl, hb2⟩
  have HB2 := Lib.hid (HB1.out.trans (hb2.mono HB1.out.size))
  have HXB2 := Lib.hid (HXB.out.below hb2)
  clear hb2 HC HB1 HXB z0 z1 z2 z3 z4
  by_cases hm : mayE x
  · have e0 : chkE x = 0 := if_pos hm
    rw [e0]
    have HCH := Lib.hid (vchanged_any (HV.out.below HB2.out) _ x (HX.out.below HB2.out) hm)
    clear e0 hm
    obtain ⟨z0, z1, z2, z3, z4⟩ := cell5_of HXB2.out
    go_wp2_with fail
    refine HCH.out.mono ?_
    rintro e w3 ⟨aT, nT, cT, n0, l0, s0, ok, rfl, h1, h2, hb3⟩
    have HB3 := Lib.hid (HB2.out.trans (hb3.mono HB2.out.size))
    have HR := Lib.hid (And.intro h1 h2)
    have HS2 := Lib.hid HB2.out.size
    clear h1 h2 hb3 HCH HB2 HXB2 z0 z1 z2 z3 z4
    cases ok with
    | false =>
      have HN := Lib.hid (HR.out.1 rfl)
      clear HR
      go_wp2_with fail
      go_ret
      have hb : Below w.heap.size w (w3.alloc (.cells #[.slice aT nT cT, .int .i64 n0, .int .i64 l0, .int .i64 s0] 58)) := HB3.out.alloc HB3.out.size _
      exact ⟨12, V, rfl, HV.out.below hb, UpdF.of hb, fun _ => ⟨rfl, rfl⟩, fun n hn => by rw [HN.out] at hn; cases hn⟩
    | true =>
      obtain ⟨zs, m, ha, hp, hs, ho⟩ := HR.out.2 rfl
      have HA := Lib.hid (And.intro ha (And.intro hp hs))
      have HO := Lib.hid ho
      clear ha hp hs ho HR
      obtain ⟨w4, hw4⟩ : ∃ y, w3.alloc (.cells #[.slice aT nT cT, .int .i64 n0, .int .i64 l0, .int .i64 s0] 58) = y := ⟨_, rfl⟩
      have hb34 : Below w3.heap.size w3 w4 := by rw [← hw4]; exact (Below.refl _ _).alloc (Nat.le_refl _) _
      have HN4 : Hid (BlkAt w4 w3.heap.size #[.slice aT nT cT, .int .i64 n0, .int .i64 l0, .int .i64 s0] 58) := Lib.hid (by rw [← hw4]; exact BlkAt.new _ _ _)
      have HB4 := Lib.hid (HB3.out.trans (hb34.mono HB3.out.size))
      have HO4 := Lib.hid (HO.out.below hb34)
      obtain ⟨q, hq⟩ : ∃ q, w3.heap.size = q := ⟨_, rfl⟩
      rw [hq] at HN4
      have HV4 := Lib.hid (HV.out.below HB4.out)
      obtain ⟨tb, nb, hbk, -, -⟩ := HV4.out.blk
      have HBK := Lib.hid hbk
      obtain ⟨e0, e1, e2, e3⟩ := cell4_of HN4.out
      obtain ⟨y0, y1, y2, y3⟩ := cell4_of hbk
      obtain ⟨f0, f1, f2, f3⟩ := free4_of hbk
      clear hb34 hbk HB3 HO
      go_wp2_with fail
      go_ret
      have hf := fill4 HBK.out (.slice aT nT cT) (.int .i64 n0) (.int .i64 l0) (.int .i64 s0)
      have hg1 := applyV_good HV.out.good HA.out.1
      have hsm : vSame ⟨m, vOr n0 1, l0, s0⟩ ⟨zs, vOr n0 1, l0, s0⟩ := ⟨HA.out.2.1.symm, rfl, rfl, rfl⟩
      refine ⟨0, ⟨zs, vOr n0 1, l0, s0⟩, rfl, ⟨⟨_, n0, hf.1, ?_, rfl⟩, HA.out.2.2, hsm.good hg1⟩, (UpdF.of HB4.out).trans hf.2, fun hn => (by rw [HA.out.1] at hn; cases hn), fun n hn => ?_⟩
      · exact (HO4.out.asideT hf.2 HBK.out (by decide)).base (Nat.le_trans HBS.out HS2.out)
      · rw [HA.out.1] at hn
        obtain rfl := Option.some.inj hn
        exact ⟨rfl, hsm⟩
  · have e0 : chkE x = 12 := if_neg hm
    rw [e0]
    have HN : Hid (applyV V x = none) := Lib.hid (if_neg hm)
    clear e0 hm
    go_wp2_with fail
    go_ret
    exact ⟨12, V, rfl, HV.out.below HB2.out, UpdF.of HB2.out, fun _ => ⟨rfl, rfl⟩, fun n hn => by rw [HN.out] at hn; cases hn⟩
theorem vapply_nil (v : Value) (x : Edt) (w : World) (hx : EdAt w v x) : Calls Try.prog 14 #[.pointer none, v] w fun e w' => e = .returned (.int .i64 11) ∧ Below w.heap.size w w' := by
  obtain ⟨aA, cA, aD, cD, rfl⟩ := edt_forms hx
  have HB1 : Hid (Below w.heap.size w (w.alloc (.cells #[.int .i64 x.nxt, .int .i64 x.lg, .int .i64 x.lst, .slice aA x.adds.length cA, .slice aD x.dels.length cD] 37))) := Lib.hid ((Below.refl _ w).alloc (Nat.le_refl _) _)
  clear hx
  generalize x.adds.length = nA at *
  generalize x.dels.length = nD at *
  go_enter Try.func14, Try.ntmps14
  go_wp2_with fail
  go_ret
  exact ⟨rfl, HB1.out⟩
theorem fill5 {w : World} {g : Nat} {T : TypeId} {o0 o1 o2 o3 o4 : Value} (h : BlkAt w g #[o0, o1, o2, o3, o4] T) (v0 v1 v2 v3 v4 : Value) :
    BlkAt (((((w.setCell ⟨g, 0, none⟩ v0).setCell ⟨g, 1, none⟩ v1).setCell ⟨g, 2, none⟩ v2).setCell ⟨g, 3, none⟩ v3).setCell ⟨g, 4, none⟩ v4) g #[v0, v1, v2, v3, v4] T ∧ UpdF (fun k => k = g) w (((((w.setCell ⟨g, 0, none⟩ v0).setCell ⟨g, 1, none⟩ v1).setCell ⟨g, 2, none⟩ v2).setCell ⟨g, 3, none⟩ v3).setCell ⟨g, 4, none⟩ v4) :=
  ⟨((((h.set (o := 0) v0).set (o := 1) v1).set (o := 2) v2).set (o := 3) v3).set (o := 4) v4, (((((UpdF.refl (fun k => k = g) w).set g 0 v0 rfl).set g 1 v1 rfl).set g 2 v2 rfl).set g 3 v3 rfl).set g 4 v4 rfl⟩
/-- What Edit tells. -/
def EditTo (w : World) (V : Ver) (e : Ending) (w' : World) : Prop := ∃ u, e = .returned (.agg #[.int .i64 V.nx, .int .i64 V.lg, .int .i64 V.ls, u, .slice none 0 0]) ∧ OwnK encTbf 5 43 w.heap.size w' u V.fs ∧ Below w.heap.size w w'
set_option maxHeartbeats 4000000 in
theorem vedit_any {B : Nat} {w : World} {b : Nat} {V : Ver} (h : VerAt B w b V) : Calls Try.prog 15 #[.pointer (some ⟨b, 0, none⟩)] w (EditTo w V) := by
  have HV := Lib.hid h
  have HB1 : Hid (Below w.heap.size w (w.alloc (.cells #[.int .i64 0, .int .i64 0, .int .i64 0, .slice none 0 0, .slice none 0 0] 37))) := Lib.hid ((Below.refl _ w).alloc (Nat.le_refl _) _)
  have HX := Lib.hid (BlkAt.new w #[.int .i64 0, .int .i64 0, .int .i64 0, .slice none 0 0, .slice none 0 0] 37)
  obtain ⟨g, hg⟩ : ∃ g, w.heap.size = g := ⟨_, rfl⟩
  have HG := Lib.hid hg
  rw [hg] at HX
  clear h
  unfold EditTo
  go_enter Try.func15, Try.ntmps15
  go_wp2_with fail
  clear hg
  generalize w.alloc (.cells #[.int .i64 0, .int .i64 0, .int .i64 0, .slice none 0 0, .slice none 0 0] 37) = w1 at *
  refine (vnext_any (HV.out.below HB1.out)).mono ?_
  rintro e w2 ⟨rfl, hb⟩
  have HB2 := Lib.hid (HB1.out.trans (hb.mono HB1.out.size))
  have HX2 := Lib.hid (HX.out.below hb)
  clear hb HB1 HX
  go_wp2_with fail
  refine (vlog_any (HV.out.below HB2.out)).mono ?_
  rintro e w3 ⟨rfl, rfl⟩
  go_wp2_with fail
  refine (vlast_any (HV.out.below HB2.out)).mono ?_
  rintro e w4 ⟨rfl, rfl⟩
  go_wp2_with fail
  have HA := Lib.hid (vall_any (HV.out.below HB2.out))
  refine HA.out.mono ?_
  rintro e w5 ⟨u, rfl, ho, hb⟩
  have HB5 := Lib.hid (HB2.out.trans (hb.mono HB2.out.size))
  have HX5 := Lib.hid (HX2.out.below hb)
  have HO5 := Lib.hid (ho.base HB2.out.size)
  obtain ⟨aU, cU, rfl⟩ := fil_form ho
  clear ho hb HA HB2 HX2
  generalize V.fs.length = nU at *
  obtain ⟨y0, y1, y2, y3, y4⟩ := cell5_of HX5.out
  have f0 := HX5.out.free 0
  have f1 := HX5.out.free 1
  have f2 := HX5.out.free 2
  have f3 := HX5.out.free 3
  have f4 := HX5.out.free 4
  have HF := Lib.hid (fill5 HX5.out (.int .i64 V.nx) (.int .i64 V.lg) (.int .i64 V.ls) (.slice aU nU cU) (.slice none 0 0))
  obtain ⟨r0, r1, r2, r3, r4⟩ := cell5_of HF.out.1
  have HOF := Lib.hid (HO5.out.asideT HF.out.2 HX5.out (by decide))
  have HBF := Lib.hid (HB5.out.trans (UpdF.below HF.out.2 HB5.out.size fun k hk e => by have := HG.out; omega))
  go_wp2_with fail
  refine bodyPost_ret (v := .agg #[.int .i64 V.nx, .int .i64 V.lg, .int .i64 V.ls, .slice aU nU cU, .slice none 0 0]) (by simp [results, Try.results15, go_sem, r0, r1, r2, r3, r4]) rfl ⟨_, rfl, ?_, ?_⟩
  · exact HOF.out
  · exact HBF.out
end Go.Proofs.Ytjloaamaelcmaaa
