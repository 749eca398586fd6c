/- The walk of changed: what an edit makes of a version. -/
import Derived.Test.YtjloaamaelcmaaaVerWith
import Derived.Test.YtjloaamaelcmaaaVerFol
import Derived.Test.YtjloaamaelcmaaaItems
import Derived.Test.YtjloaamaelcmaaaOneCall
namespace Go.Proofs.Ytjloaamaelcmaaa
set_option linter.unusedVariables false
set_option maxRecDepth 100000
open Go.RowKit
theorem vOr_assoc (x y : Int) : vOr (vOr x y) 1 = vOr x (vOr y 1) := by
  unfold vOr
  by_cases h : x = 0
  · simp [h]
  · simp [h]
theorem apply_none1 {V : Ver} {x : Edt} (hd : vDels V.fs x.dels = none) : applyV V x = none := by
  unfold applyV
  split
  · rw [hd]
  · rfl
theorem apply_is {V : Ver} {x : Edt} {ys : List Tbf} (hm : mayE x) (hd : vDels V.fs x.dels = some ys) : applyV V x = match vAdds ys x.adds with
    | none => none
    | some m => if vMay V ⟨m, vOr x.nxt V.nx, vOr x.lg V.lg, vOr x.lst V.ls⟩ then some ⟨m, vOr x.nxt V.nx, vOr x.lg V.lg, vOr x.lst V.ls⟩ else none := by
  unfold applyV
  rw [if_pos hm, hd]
  rfl
theorem apply_none2 {V : Ver} {x : Edt} {ys : List Tbf} (hm : mayE x) (hd : vDels V.fs x.dels = some ys) (hw : ¬ withOk ys x.adds) : applyV V x = none := by
  rw [apply_is hm hd]
  cases ha : vAdds ys x.adds with
  | none => rfl
  | some m =>
    obtain ⟨rfl, -⟩ := vAdds_is ha
    refine if_neg fun h => hw ⟨?_, by rw [ha]; simp, h.1⟩
    have := h.2.1
    simp only [List.length_append] at this
    exact this
theorem apply_yes {V : Ver} {x : Edt} {ys zs : List Tbf} {n0 : Int} (hg : 1 ≤ V.nx) (hn : V.nx = vOr n0 1) (hm : mayE x) (hd : vDels V.fs x.dels = some ys) (hw : withOk ys x.adds) (hp : zs.Perm (ys ++ x.adds)) :
    (vFol zs (vOr (vOr x.nxt n0) 1) (vOr x.lg V.lg) (vOr x.lst V.ls) (vOr n0 1) V.lg V.ls → applyV V x = some ⟨ys ++ x.adds, vOr (vOr x.nxt n0) 1, vOr x.lg V.lg, vOr x.lst V.ls⟩) ∧
    (¬ vFol zs (vOr (vOr x.nxt n0) 1) (vOr x.lg V.lg) (vOr x.lst V.ls) (vOr n0 1) V.lg V.ls → applyV V x = none) := by
  rw [apply_is hm hd]
  obtain ⟨h1, h2, h3⟩ := hw
  cases ha : vAdds ys x.adds with
  | none => exact absurd ha h2
  | some m =>
    obtain ⟨rfl, -⟩ := vAdds_is ha
    rw [vOr_assoc, ← hn]
    simp only
    have hiff : vMay V ⟨ys ++ x.adds, vOr x.nxt V.nx, vOr x.lg V.lg, vOr x.lst V.ls⟩ ↔ vFol zs (vOr x.nxt V.nx) (vOr x.lg V.lg) (vOr x.lst V.ls) V.nx V.lg V.ls := by
      unfold vMay vFol
      simp only
      constructor
      · rintro ⟨-, -, a3, a4, a5, a6, a7⟩
        refine ⟨by omega, by omega, by omega, ?_, ?_⟩
        · omega
        · rintro ⟨f, hf, hle⟩
          have := a7 f (hp.mem_iff.1 hf)
          omega
      · rintro ⟨a3, a4, a5, a6, a7⟩
        refine ⟨h3, by rw [List.length_append]; exact h1, by omega, by omega, by omega, by omega, fun f hf => ?_⟩
        exact Int.not_le.1 fun hle => a7 ⟨f, hp.mem_iff.2 hf, hle⟩
    exact ⟨fun h => if_pos (hiff.2 h), fun h => if_neg fun k => h (hiff.1 k)⟩
/-- What changed tells. -/
def ChgTo (w : World) (V : Ver) (x : Edt) (e : Ending) (w' : World) : Prop := ∃ (a : Option Addr) (nt ct : Nat) (n0 l0 s0 : Int) (ok : Bool), e = .returned (.tuple #[.agg #[.slice a nt ct, .int .i64 n0, .int .i64 l0, .int .i64 s0], .bool ok]) ∧ (ok = false → applyV V x = none) ∧
  (ok = true → ∃ zs m, applyV V x = some ⟨m, vOr n0 1, l0, s0⟩ ∧ zs.Perm m ∧ vSorted zs ∧ OwnK encTbf 5 43 w.heap.size w' (.slice a nt ct) zs) ∧ Below w.heap.size w w'
/-- What lies still: the edit's box, the answer's, the version and its tables, the edit's lists. -/
structure ChgL (w : World) (B b : Nat) (tv va vd : Value) (n0 l0 s0 x1 x2 x3 : Int) (fs A : List Tbf) (D : List Int) (W : World) : Prop where
  e : BlkAt W w.heap.size #[.int .i64 x1, .int .i64 x2, .int .i64 x3, va, vd] 37
  z : BlkAt W (w.heap.size + 1) #[.slice none 0 0, .int .i64 0, .int .i64 0, .int .i64 0] 58
  v : BlkAt W b #[tv, .int .i64 n0, .int .i64 l0, .int .i64 s0] 58
  t : OwnK encTbf 5 43 B W tv fs
  a : RdK encTbf 5 W va A
  d : RdV W vd (D.map encI64)
  bel : Below w.heap.size w W
theorem ChgL.below {w : World} {B b : Nat} {tv va vd : Value} {n0 l0 s0 x1 x2 x3 : Int} {fs A : List Tbf} {D : List Int} {W W' : World} (h : ChgL w B b tv va vd n0 l0 s0 x1 x2 x3 fs A D W) (u : Below W.heap.size W W') : ChgL w B b tv va vd n0 l0 s0 x1 x2 x3 fs A D W' :=
  ⟨h.e.below u, h.z.below u, h.v.below u, h.t.below u, h.a.below u, RdV.below h.d u, h.bel.trans (u.mono h.bel.size)⟩
theorem fill4 {w : World} {g : Nat} {T : TypeId} {o0 o1 o2 o3 : Value} (h : BlkAt w g #[o0, o1, o2, o3] T) (v0 v1 v2 v3 : Value) :
    BlkAt ((((w.setCell ⟨g, 0, none⟩ v0).setCell ⟨g, 1, none⟩ v1).setCell ⟨g, 2, none⟩ v2).setCell ⟨g, 3, none⟩ v3) g #[v0, v1, v2, v3] T ∧ UpdF (fun k => k = g) w ((((w.setCell ⟨g, 0, none⟩ v0).setCell ⟨g, 1, none⟩ v1).setCell ⟨g, 2, none⟩ v2).setCell ⟨g, 3, none⟩ v3) :=
  ⟨(((h.set (o := 0) v0).set (o := 1) v1).set (o := 2) v2).set (o := 3) v3, ((((UpdF.refl (fun k => k = g) w).set g 0 v0 rfl).set g 1 v1 rfl).set g 2 v2 rfl).set g 3 v3 rfl⟩
/-- Four cells that may be stored to. -/
structure Free4 (w : World) (b : Nat) : Prop where
  f0 : w.frozen? ⟨b, 0, none⟩ = false
  f1 : w.frozen? ⟨b, 1, none⟩ = false
  f2 : w.frozen? ⟨b, 2, none⟩ = false
  f3 : w.frozen? ⟨b, 3, none⟩ = false
theorem free4_of {w : World} {b : Nat} {vs : Array Value} {t : TypeId} (h : BlkAt w b vs t) : Free4 w b := ⟨h.free 0, h.free 1, h.free 2, h.free 3⟩
theorem i64_bs (p q : Int) (w : World) : (Instr.buildSlice 35 2 #[(0, .int .i64 p), (1, .int .i64 q)]).run Try.prog w = .ok (.slice (some ⟨w.heap.size, 0, none⟩) 2 2) (w.alloc (.cells #[.int .i64 p, .int .i64 q] 2)) := by
  go_simp
theorem ver_bd (a : Option Addr) (n c : Nat) (p q r : Int) (w : World) : (Instr.build 58 #[(0, .slice a n c), (1, .int .i64 p), (2, .int .i64 q), (3, .int .i64 r)]).run Try.prog w = .ok (.agg #[.slice a n c, .int .i64 p, .int .i64 q, .int .i64 r]) w := by
  go_simp
theorem ver_al (w : World) : (Instr.alloc 58 true (.tuple #[])).run Try.prog w = .ok (.pointer (some ⟨w.heap.size, 0, none⟩)) (w.alloc (.cells #[.slice none 0 0, .int .i64 0, .int .i64 0, .int .i64 0] 58)) := by
  go_simp
theorem ver_ax (ρ : Operand → Value) (o : Oper) (ho : o.op = .alloc 58) (w : World) : (execOp ρ o).run Try.prog w = .ok (.value (.pointer (some ⟨w.heap.size, 0, none⟩))) (w.alloc (.cells #[.slice none 0 0, .int .i64 0, .int .i64 0, .int .i64 0] 58)) := by
  unfold execOp
  simp only [ho, Sem.run_bind, ver_al, Result.andThen_ok, Sem.run_pure]
set_option maxHeartbeats 16000000 in
theorem vchanged_any {B : Nat} {w : World} {b : Nat} {V : Ver} (h : VerAt B w b V) (v : Value) (x : Edt) (hx : EdAt w v x) (hm : mayE x) :
    Calls Try.prog 29 #[.pointer (some ⟨b, 0, none⟩), v] w (ChgTo w V x) := by
  obtain ⟨tv, n0, hb1, hb2, hb3⟩ := h.blk
  obtain ⟨va, vd, rfl, ha, hd⟩ := hx
  have HG := Lib.hid (And.intro h.good hb3)
  have HM := Lib.hid hm
  obtain ⟨aT, cT, rfl⟩ := fil_form hb2
  obtain ⟨aA, cA, rfl, -⟩ := edFl_len ha
  obtain ⟨aD, cD, rfl⟩ := edInts_len hd
  obtain ⟨R, hR⟩ : ∃ R, vDels V.fs x.dels = R := ⟨_, rfl⟩
  have HR := Lib.hid hR
  obtain ⟨K, hK⟩ : ∃ K, R.isSome = K := ⟨_, rfl⟩
  have HK := Lib.hid hK
  have HW : Hid (∀ W, RdK encTbf 5 W (.slice aT V.fs.length cT) V.fs → RdV W (.slice aD x.dels.length cD) (x.dels.map encI64) → Calls Try.prog 42 #[.slice aT V.fs.length cT, .slice aD x.dels.length cD] W fun e w' => ∃ u, e = .returned (.tuple #[u, .bool K]) ∧ (∀ ys, R = some ys → OwnK encTbf 5 43 W.heap.size w' u ys) ∧ (R = none → u = .slice none 0 0) ∧ Below W.heap.size W w') := Lib.hid fun W h1 h2 => by
    have := wout_any _ _ V.fs x.dels (by have := HG.out.1.few; omega) (by have := HM.out.2.1.2; omega) W h1 h2
    rw [hR] at this
    rw [← hK]; exact this
  have HL1 : Hid (ChgL w B b (.slice aT V.fs.length cT) (.slice aA x.adds.length cA) (.slice aD x.dels.length cD) n0 V.lg V.ls x.nxt x.lg x.lst V.fs x.adds x.dels ((w.alloc (.cells #[.int .i64 x.nxt, .int .i64 x.lg, .int .i64 x.lst, .slice aA x.adds.length cA, .slice aD x.dels.length cD] 37)).alloc (.cells #[.slice none 0 0, .int .i64 0, .int .i64 0, .int .i64 0] 58))) := Lib.hid (by
    have u : Below w.heap.size w ((w.alloc (.cells #[.int .i64 x.nxt, .int .i64 x.lg, .int .i64 x.lst, .slice aA x.adds.length cA, .slice aD x.dels.length cD] 37)).alloc (.cells #[.slice none 0 0, .int .i64 0, .int .i64 0, .int .i64 0] 58)) := ((Below.refl _ w).alloc (Nat.le_refl _) _).alloc (by simp) _
    refine ⟨(BlkAt.new w _ _).more _, ?_, hb1.below u, hb2.below u, ha.below u, RdV.below hd u, u⟩
    have := BlkAt.new (w.alloc (.cells #[.int .i64 x.nxt, .int .i64 x.lg, .int .i64 x.lst, .slice aA x.adds.length cA, .slice aD x.dels.length cD] 37)) #[.slice none 0 0, .int .i64 0, .int .i64 0, .int .i64 0] 58
    rwa [show (w.alloc (.cells #[.int .i64 x.nxt, .int .i64 x.lg, .int .i64 x.lst, .slice aA x.adds.length cA, .slice aD x.dels.length cD] 37)).heap.size = w.heap.size + 1 by simp] at this)
  clear h hb1 hb2 hb3 ha hd hm hR hK
  obtain ⟨g, hg⟩ : ∃ g, w.heap.size = g := ⟨_, rfl⟩
  have HGE : Hid (∀ W, ChgL w B b (.slice aT V.fs.length cT) (.slice aA x.adds.length cA) (.slice aD x.dels.length cD) n0 V.lg V.ls x.nxt x.lg x.lst V.fs x.adds x.dels W → BlkAt W g #[.int .i64 x.nxt, .int .i64 x.lg, .int .i64 x.lst, .slice aA x.adds.length cA, .slice aD x.dels.length cD] 37 ∧ BlkAt W (g + 1) #[.slice none 0 0, .int .i64 0, .int .i64 0, .int .i64 0] 58) := Lib.hid fun W h => by rw [← hg]; exact ⟨h.e, h.z⟩
  have HGW := Lib.hid hg
  unfold ChgTo
  generalize V.fs.length = nT at *
  generalize x.adds.length = nA at *
  generalize x.dels.length = nD at *
  go_enter Try.func29, Try.ntmps29
  go_wp2_with fail
  obtain ⟨w1, hw1⟩ : ∃ y, (w.alloc (.cells #[.int .i64 x.nxt, .int .i64 x.lg, .int .i64 x.lst, .slice aA nA cA, .slice aD nD cD] 37)).alloc (.cells #[.slice none 0 0, .int .i64 0, .int .i64 0, .int .i64 0] 58) = y := ⟨_, rfl⟩
  rw [hw1] at HL1 ⊢
  clear hw1 hg
  have hB : Below w1.heap.size w1 w1 := Below.refl _ _
  refine wp_region_held_drew (S := Below w1.heap.size w1) (by kernel_rfl) (Below.refl _ _).drew (fun hHeld => ?_)
  generalize w1.drew = wd2 at hHeld ⊢
  refine wpAnyH_shift hHeld ?_
  replace hB : Below w1.heap.size w1 wd2 := hB.trans (hHeld.mono hB.size)
  clear hHeld
  refine takeYes (i := 0) (k := 10) (v := .pointer (some ⟨b, 0, none⟩)) rfl (by kernel_rfl) (by kernel_rfl) (by kernel_rfl) (by kernel_rfl) (fun _ _ _ h => h) (by kernel_rfl) ?_ (Below.refl _ _) ?_
  · intro W hSw; first | (go_simp; done) | go_simp
  try simp only [Act.put, List.setIfInBounds_toArray, List.set_cons_zero, List.set_cons_succ]
  refine takeYes (i := 1) (k := 11) (v := .pointer (some ⟨b, 0, none⟩)) rfl (by kernel_rfl) (by kernel_rfl) (by kernel_rfl) (by kernel_rfl) (fun _ _ _ h => h) (by kernel_rfl) ?_ (Below.refl _ _) ?_
  · intro W hSw; first | (go_simp; done) | go_simp
  try simp only [Act.put, List.setIfInBounds_toArray, List.set_cons_zero, List.set_cons_succ]
  refine takeYes (i := 2) (k := 12) (v := .pointer (some ⟨b, 0, none⟩)) rfl (by kernel_rfl) (by kernel_rfl) (by kernel_rfl) (by kernel_rfl) (fun _ _ _ h => h) (by kernel_rfl) ?_ (Below.refl _ _) ?_
  · intro W hSw; first | (go_simp; done) | go_simp
  try simp only [Act.put, List.setIfInBounds_toArray, List.set_cons_zero, List.set_cons_succ]
  refine takeYes (i := 3) (k := 13) (v := .slice aT nT cT) rfl (by kernel_rfl) (by kernel_rfl) (by kernel_rfl) (by kernel_rfl) (fun _ _ _ h => h) (by kernel_rfl) ?_ (Below.refl _ _) ?_
  · intro W hSw; have hl := HL1.out.below (hB.trans (hSw.mono hB.size)); obtain ⟨z0, z1, z2, z3⟩ := cell4_of hl.v; first | (go_simp; done) | go_simp
  try simp only [Act.put, List.setIfInBounds_toArray, List.set_cons_zero, List.set_cons_succ]
  refine takeYes (i := 4) (k := 14) (v := .pointer (some ⟨g, 4, none⟩)) rfl (by kernel_rfl) (by kernel_rfl) (by kernel_rfl) (by kernel_rfl) (fun _ _ _ h => h) (by kernel_rfl) ?_ (Below.refl _ _) ?_
  · intro W hSw; first | (go_simp; done) | go_simp
  try simp only [Act.put, List.setIfInBounds_toArray, List.set_cons_zero, List.set_cons_succ]
  refine takeYes (i := 5) (k := 15) (v := .slice aD nD cD) rfl (by kernel_rfl) (by kernel_rfl) (by kernel_rfl) (by kernel_rfl) (fun _ _ _ h => h) (by kernel_rfl) ?_ (Below.refl _ _) ?_
  · intro W hSw; have hl := HL1.out.below (hB.trans (hSw.mono hB.size)); obtain ⟨z0, z1, z2, z3, z4⟩ := cell5_of (HGE.out _ hl).1; first | (go_simp; done) | go_simp
  try simp only [Act.put, List.setIfInBounds_toArray, List.set_cons_zero, List.set_cons_succ]
  refine wpAnyH_ready (rs := [6]) (by kernel_rfl) (by simp) (AllReadyH.cons rfl (fun K hK => ?_) AllReadyH.nil)
  go_simp
  refine (HW.out _ ((HL1.out.below hB).t.rd encTbf_len) (HL1.out.below hB).d).mono ?_
  rintro e wd3 ⟨u1, rfl, hu1, hu2, hb3⟩
  have HU1 : Hid (∀ ys, R = some ys → OwnK encTbf 5 43 w1.heap.size wd3 u1 ys) := Lib.hid fun ys h => (hu1 ys h).base hB.size
  clear hu1 hu2
  refine hK.out _ _ hb3 (fun _ => wpAnyH_shift hb3 ?_)
  clear hK K
  replace hB : Below w1.heap.size w1 wd3 := hB.trans (hb3.mono hB.size)
  clear hb3
  try simp only [Act.put, List.setIfInBounds_toArray, List.set_cons_zero, List.set_cons_succ]
  refine takeYes (i := 7) (k := 9) (v := .tuple #[u1, .bool K]) rfl (by kernel_rfl) (by kernel_rfl) (by kernel_rfl) (by kernel_rfl) (fun _ _ _ h => h) (by kernel_rfl) ?_ (Below.refl _ _) ?_
  · intro W hSw; first | (go_simp; done) | go_simp
  try simp only [Act.put, List.setIfInBounds_toArray, List.set_cons_zero, List.set_cons_succ]
  refine takeYes (i := 8) (k := 17) (v := u1) rfl (by kernel_rfl) (by kernel_rfl) (by kernel_rfl) (by kernel_rfl) (fun _ _ _ h => h) (by kernel_rfl) ?_ (Below.refl _ _) ?_
  · intro W hSw; first | (go_simp; done) | go_simp
  try simp only [Act.put, List.setIfInBounds_toArray, List.set_cons_zero, List.set_cons_succ]
  refine takeYes (i := 9) (k := 18) (v := .bool K) rfl (by kernel_rfl) (by kernel_rfl) (by kernel_rfl) (by kernel_rfl) (fun _ _ _ h => h) (by kernel_rfl) ?_ (Below.refl _ _) ?_
  · intro W hSw; first | (go_simp; done) | go_simp
  try simp only [Act.put, List.setIfInBounds_toArray, List.set_cons_zero, List.set_cons_succ]
  refine takeYes (i := 10) (k := 6) (v := u1) rfl (by kernel_rfl) (by kernel_rfl) (by kernel_rfl) (by kernel_rfl) (fun _ _ _ h => h) (by kernel_rfl) ?_ (Below.refl _ _) ?_
  · intro W hSw; first | (go_simp; done) | go_simp
  try simp only [Act.put, List.setIfInBounds_toArray, List.set_cons_zero, List.set_cons_succ]
  refine takeYes (i := 11) (k := 7) (v := .bool K) rfl (by kernel_rfl) (by kernel_rfl) (by kernel_rfl) (by kernel_rfl) (fun _ _ _ h => h) (by kernel_rfl) ?_ (Below.refl _ _) ?_
  · intro W hSw; first | (go_simp; done) | go_simp
  try simp only [Act.put, List.setIfInBounds_toArray, List.set_cons_zero, List.set_cons_succ]
  refine wpAnyH_done (by kernel_rfl) ?_ _
  cases K with
  | false =>
    have HN : Hid (applyV V x = none) := Lib.hid (by have hn : R = none := (by cases hh : R with | none => rfl | some y => have := HK.out; rw [hh] at this; cases this); exact apply_none1 (HR.out.trans hn))
    have HZ := Lib.hid ((HGE.out _ (HL1.out.below hB)).2)
    obtain ⟨z0, z1, z2, z3⟩ := cell4_of HZ.out
    obtain ⟨f0, f1, f2, f3⟩ := free4_of HZ.out
    have HBE := Lib.hid (HL1.out.below hB).bel
    have HF4 := Lib.hid (fill4 HZ.out (.slice none 0 0) (.int .i64 0) (.int .i64 0) (.int .i64 0))
    obtain ⟨y0, y1, y2, y3⟩ := cell4_of HF4.out.1
    have HBF : Hid (Below w.heap.size w ((((wd3.setCell ⟨g + 1, 0, none⟩ (.slice none 0 0)).setCell ⟨g + 1, 1, none⟩ (.int .i64 0)).setCell ⟨g + 1, 2, none⟩ (.int .i64 0)).setCell ⟨g + 1, 3, none⟩ (.int .i64 0))) := Lib.hid (HBE.out.trans (UpdF.below HF4.out.2 HBE.out.size fun k hk e => by have := HGW.out; omega))
    clear hB HBE
    go_wp2_with fail
    refine bodyPost_ret (v := .tuple #[.agg #[.slice none 0 0, .int .i64 0, .int .i64 0, .int .i64 0], .bool false]) (by simp [results, Try.results29, go_sem, y0, y1, y2, y3]) rfl ⟨none, 0, 0, 0, 0, 0, false, rfl, fun _ => HN.out, fun h => (by cases h), ?_⟩
    exact HBF.out
  | true =>
    obtain ⟨ys, hys⟩ : ∃ ys, R = some ys := Option.isSome_iff_exists.1 HK.out
    have HU := Lib.hid (HU1.out ys hys)
    have HRS := Lib.hid (HR.out.trans hys)
    have HYS : Hid ((∀ f ∈ ys, ¬ badTb f) ∧ ys.length ≤ 200) := Lib.hid ⟨fun f hf => HG.out.1.right f ((vDels_sub HRS.out).subset hf), Nat.le_trans (vDels_len HRS.out) HG.out.1.few⟩
    clear hys HU1 HW HK HR
    have HWI := Lib.hid (with_any w1.heap.size u1 (.slice aA nA cA) ys x.adds wd3 HU.out hB.size (HL1.out.below hB).a (fun w' hw' => (HL1.out.below (hB.trans hw')).a) HYS.out.1 HM.out.2.2.1 HYS.out.2 HM.out.2.1.1)
    obtain ⟨z0, z1, z2, z3, z4⟩ := cell5_of (HGE.out _ (HL1.out.below hB)).1
    go_wp2_with fail
    refine HWI.out.mono ?_
    rintro e w5 ⟨u2, ok, rfl, hk1, hk2, hb5⟩
    have HB5 := Lib.hid (hB.trans hb5)
    have HK1 := Lib.hid (And.intro hk1 hk2)
    clear hk1 hk2 hb5 hB HWI z0 z1 z2 z3 z4 HU
    have hB := HB5.out
    cases ok with
    | false =>
      have HN : Hid (applyV V x = none) := Lib.hid (apply_none2 HM.out HRS.out fun h => by have := HK1.out.1.2 h; cases this)
      have HZ := Lib.hid ((HGE.out _ (HL1.out.below hB)).2)
      obtain ⟨z0, z1, z2, z3⟩ := cell4_of HZ.out
      obtain ⟨f0, f1, f2, f3⟩ := free4_of HZ.out
      have HBE := Lib.hid (HL1.out.below hB).bel
      have HF4 := Lib.hid (fill4 HZ.out (.slice none 0 0) (.int .i64 0) (.int .i64 0) (.int .i64 0))
      obtain ⟨y0, y1, y2, y3⟩ := cell4_of HF4.out.1
      have HBF : Hid (Below w.heap.size w ((((w5.setCell ⟨g + 1, 0, none⟩ (.slice none 0 0)).setCell ⟨g + 1, 1, none⟩ (.int .i64 0)).setCell ⟨g + 1, 2, none⟩ (.int .i64 0)).setCell ⟨g + 1, 3, none⟩ (.int .i64 0))) := Lib.hid (HBE.out.trans (UpdF.below HF4.out.2 HBE.out.size fun k hk e => by have := HGW.out; omega))
      clear hB HBE
      go_wp2_with fail
      refine bodyPost_ret (v := .tuple #[.agg #[.slice none 0 0, .int .i64 0, .int .i64 0, .int .i64 0], .bool false]) (by simp [results, Try.results29, go_sem, y0, y1, y2, y3]) rfl ⟨none, 0, 0, 0, 0, 0, false, rfl, fun _ => HN.out, fun h => (by cases h), ?_⟩
      exact HBF.out
    | true =>
      obtain ⟨zs, ho, hs, hp⟩ := HK1.out.2 rfl
      have HO := Lib.hid ho
      have HZS := Lib.hid (And.intro (HK1.out.1.1 rfl) (And.intro hs hp))
      obtain ⟨aZ, cZ, rfl⟩ := fil_form ho
      obtain ⟨nZ, hnZ⟩ : ∃ n, zs.length = n := ⟨_, rfl⟩
      have HNZ := Lib.hid hnZ
      rw [hnZ] at HO ⊢
      clear ho hs hp HK1 hnZ
      have hS0 : Below w5.heap.size w5 w5.drew := (Below.refl _ _).drew
      go_wp2_with fail
      refine wp_region_held_drew (S := Below w5.heap.size w5) (by kernel_rfl) hS0 (fun hHeld => ?_)
      refine takeYes (i := 0) (k := 32) (v := .slice aZ nZ cZ) rfl (by kernel_rfl) (by kernel_rfl) (by kernel_rfl) (by kernel_rfl) (fun _ _ _ h => h) (by kernel_rfl) ?_ (by assumption) ?_
      · intro W hSw; first | (go_simp; done) | go_simp
      try simp only [Act.put, List.setIfInBounds_toArray, List.set_cons_zero, List.set_cons_succ]
      refine takeYes (i := 1) (k := 33) (v := .pointer (some ⟨g, 0, none⟩)) rfl (by kernel_rfl) (by kernel_rfl) (by kernel_rfl) (by kernel_rfl) (fun _ _ _ h => h) (by kernel_rfl) ?_ (by assumption) ?_
      · intro W hSw; first | (go_simp; done) | go_simp
      try simp only [Act.put, List.setIfInBounds_toArray, List.set_cons_zero, List.set_cons_succ]
      refine takeYes (i := 2) (k := 34) (v := .int .i64 x.nxt) rfl (by kernel_rfl) (by kernel_rfl) (by kernel_rfl) (by kernel_rfl) (fun _ _ _ h => h) (by kernel_rfl) ?_ (by assumption) ?_
      · intro W hSw; have hl := HL1.out.below (hB.trans (hSw.mono hB.size)); obtain ⟨z0, z1, z2, z3, z4⟩ := cell5_of (HGE.out _ hl).1; first | (go_simp; done) | go_simp
      try simp only [Act.put, List.setIfInBounds_toArray, List.set_cons_zero, List.set_cons_succ]
      refine takeYes (i := 3) (k := 35) (v := .pointer (some ⟨b, 0, none⟩)) rfl (by kernel_rfl) (by kernel_rfl) (by kernel_rfl) (by kernel_rfl) (fun _ _ _ h => h) (by kernel_rfl) ?_ (by assumption) ?_
      · intro W hSw; first | (go_simp; done) | go_simp
      try simp only [Act.put, List.setIfInBounds_toArray, List.set_cons_zero, List.set_cons_succ]
      refine takeYes (i := 4) (k := 36) (v := .pointer (some ⟨b, 0, none⟩)) rfl (by kernel_rfl) (by kernel_rfl) (by kernel_rfl) (by kernel_rfl) (fun _ _ _ h => h) (by kernel_rfl) ?_ (by assumption) ?_
      · intro W hSw; first | (go_simp; done) | go_simp
      try simp only [Act.put, List.setIfInBounds_toArray, List.set_cons_zero, List.set_cons_succ]
      refine takeYes (i := 5) (k := 37) (v := .pointer (some ⟨b, 1, none⟩)) rfl (by kernel_rfl) (by kernel_rfl) (by kernel_rfl) (by kernel_rfl) (fun _ _ _ h => h) (by kernel_rfl) ?_ (by assumption) ?_
      · intro W hSw; first | (go_simp; done) | go_simp
      try simp only [Act.put, List.setIfInBounds_toArray, List.set_cons_zero, List.set_cons_succ]
      refine takeYes (i := 6) (k := 38) (v := .int .i64 n0) rfl (by kernel_rfl) (by kernel_rfl) (by kernel_rfl) (by kernel_rfl) (fun _ _ _ h => h) (by kernel_rfl) ?_ (by assumption) ?_
      · intro W hSw; have hl := HL1.out.below (hB.trans (hSw.mono hB.size)); obtain ⟨z0, z1, z2, z3⟩ := cell4_of hl.v; first | (go_simp; done) | go_simp
      try simp only [Act.put, List.setIfInBounds_toArray, List.set_cons_zero, List.set_cons_succ]
      refine takeYes (i := 9) (k := 41) (v := .pointer (some ⟨g, 1, none⟩)) rfl (by kernel_rfl) (by kernel_rfl) (by kernel_rfl) (by kernel_rfl) (fun _ _ _ h => h) (by kernel_rfl) ?_ (by assumption) ?_
      · intro W hSw; first | (go_simp; done) | go_simp
      try simp only [Act.put, List.setIfInBounds_toArray, List.set_cons_zero, List.set_cons_succ]
      refine takeYes (i := 10) (k := 42) (v := .int .i64 x.lg) rfl (by kernel_rfl) (by kernel_rfl) (by kernel_rfl) (by kernel_rfl) (fun _ _ _ h => h) (by kernel_rfl) ?_ (by assumption) ?_
      · intro W hSw; have hl := HL1.out.below (hB.trans (hSw.mono hB.size)); obtain ⟨z0, z1, z2, z3, z4⟩ := cell5_of (HGE.out _ hl).1; first | (go_simp; done) | go_simp
      try simp only [Act.put, List.setIfInBounds_toArray, List.set_cons_zero, List.set_cons_succ]
      refine takeYes (i := 11) (k := 43) (v := .pointer (some ⟨b, 0, none⟩)) rfl (by kernel_rfl) (by kernel_rfl) (by kernel_rfl) (by kernel_rfl) (fun _ _ _ h => h) (by kernel_rfl) ?_ (by assumption) ?_
      · intro W hSw; first | (go_simp; done) | go_simp
      try simp only [Act.put, List.setIfInBounds_toArray, List.set_cons_zero, List.set_cons_succ]
      refine takeYes (i := 12) (k := 44) (v := .pointer (some ⟨b, 0, none⟩)) rfl (by kernel_rfl) (by kernel_rfl) (by kernel_rfl) (by kernel_rfl) (fun _ _ _ h => h) (by kernel_rfl) ?_ (by assumption) ?_
      · intro W hSw; first | (go_simp; done) | go_simp
      try simp only [Act.put, List.setIfInBounds_toArray, List.set_cons_zero, List.set_cons_succ]
      refine takeYes (i := 13) (k := 45) (v := .pointer (some ⟨b, 2, none⟩)) rfl (by kernel_rfl) (by kernel_rfl) (by kernel_rfl) (by kernel_rfl) (fun _ _ _ h => h) (by kernel_rfl) ?_ (by assumption) ?_
      · intro W hSw; first | (go_simp; done) | go_simp
      try simp only [Act.put, List.setIfInBounds_toArray, List.set_cons_zero, List.set_cons_succ]
      refine takeYes (i := 14) (k := 46) (v := .int .i64 V.lg) rfl (by kernel_rfl) (by kernel_rfl) (by kernel_rfl) (by kernel_rfl) (fun _ _ _ h => h) (by kernel_rfl) ?_ (by assumption) ?_
      · intro W hSw; have hl := HL1.out.below (hB.trans (hSw.mono hB.size)); obtain ⟨z0, z1, z2, z3⟩ := cell4_of hl.v; first | (go_simp; done) | go_simp
      try simp only [Act.put, List.setIfInBounds_toArray, List.set_cons_zero, List.set_cons_succ]
      refine takeYes (i := 17) (k := 49) (v := .pointer (some ⟨g, 2, none⟩)) rfl (by kernel_rfl) (by kernel_rfl) (by kernel_rfl) (by kernel_rfl) (fun _ _ _ h => h) (by kernel_rfl) ?_ (by assumption) ?_
      · intro W hSw; first | (go_simp; done) | go_simp
      try simp only [Act.put, List.setIfInBounds_toArray, List.set_cons_zero, List.set_cons_succ]
      refine takeYes (i := 18) (k := 50) (v := .int .i64 x.lst) rfl (by kernel_rfl) (by kernel_rfl) (by kernel_rfl) (by kernel_rfl) (fun _ _ _ h => h) (by kernel_rfl) ?_ (by assumption) ?_
      · intro W hSw; have hl := HL1.out.below (hB.trans (hSw.mono hB.size)); obtain ⟨z0, z1, z2, z3, z4⟩ := cell5_of (HGE.out _ hl).1; first | (go_simp; done) | go_simp
      try simp only [Act.put, List.setIfInBounds_toArray, List.set_cons_zero, List.set_cons_succ]
      refine takeYes (i := 19) (k := 51) (v := .pointer (some ⟨b, 0, none⟩)) rfl (by kernel_rfl) (by kernel_rfl) (by kernel_rfl) (by kernel_rfl) (fun _ _ _ h => h) (by kernel_rfl) ?_ (by assumption) ?_
      · intro W hSw; first | (go_simp; done) | go_simp
      try simp only [Act.put, List.setIfInBounds_toArray, List.set_cons_zero, List.set_cons_succ]
      refine takeYes (i := 20) (k := 52) (v := .pointer (some ⟨b, 0, none⟩)) rfl (by kernel_rfl) (by kernel_rfl) (by kernel_rfl) (by kernel_rfl) (fun _ _ _ h => h) (by kernel_rfl) ?_ (by assumption) ?_
      · intro W hSw; first | (go_simp; done) | go_simp
      try simp only [Act.put, List.setIfInBounds_toArray, List.set_cons_zero, List.set_cons_succ]
      refine takeYes (i := 21) (k := 53) (v := .pointer (some ⟨b, 3, none⟩)) rfl (by kernel_rfl) (by kernel_rfl) (by kernel_rfl) (by kernel_rfl) (fun _ _ _ h => h) (by kernel_rfl) ?_ (by assumption) ?_
      · intro W hSw; first | (go_simp; done) | go_simp
      try simp only [Act.put, List.setIfInBounds_toArray, List.set_cons_zero, List.set_cons_succ]
      refine takeYes (i := 22) (k := 54) (v := .int .i64 V.ls) rfl (by kernel_rfl) (by kernel_rfl) (by kernel_rfl) (by kernel_rfl) (fun _ _ _ h => h) (by kernel_rfl) ?_ (by assumption) ?_
      · intro W hSw; have hl := HL1.out.below (hB.trans (hSw.mono hB.size)); obtain ⟨z0, z1, z2, z3⟩ := cell4_of hl.v; first | (go_simp; done) | go_simp
      try simp only [Act.put, List.setIfInBounds_toArray, List.set_cons_zero, List.set_cons_succ]
      refine takeItems [⟨7, 39, fun v W => ∃ p, v = .slice (some ⟨p, 0, none⟩) 2 2 ∧ BlkAt W p #[.int .i64 x.nxt, .int .i64 n0] 2, []⟩, ⟨8, 40, fun v _ => v = .int .i64 (vOr x.nxt n0), [0]⟩, ⟨15, 47, fun v W => ∃ p, v = .slice (some ⟨p, 0, none⟩) 2 2 ∧ BlkAt W p #[.int .i64 x.lg, .int .i64 V.lg] 2, []⟩, ⟨16, 48, fun v _ => v = .int .i64 (vOr x.lg V.lg), [1, 2]⟩, ⟨23, 55, fun v W => ∃ p, v = .slice (some ⟨p, 0, none⟩) 2 2 ∧ BlkAt W p #[.int .i64 x.lst, .int .i64 V.ls] 2, []⟩, ⟨24, 56, fun v _ => v = .int .i64 (vOr x.lst V.ls), [3, 4]⟩, ⟨25, 57, fun v _ => v = .agg #[.slice aZ nZ cZ, .int .i64 (vOr x.nxt n0), .int .i64 (vOr x.lg V.lg), .int .i64 (vOr x.lst V.ls)], [1, 3, 5]⟩, ⟨26, 8, fun v W => ∃ p, v = .pointer (some ⟨p, 0, none⟩) ∧ w5.heap.size ≤ p ∧ BlkAt W p #[.slice none 0 0, .int .i64 0, .int .i64 0, .int .i64 0] 58, []⟩] [39, 40, 47, 48, 55, 56, 57, 8] [7, 8, 15, 16, 23, 24, 25, 26] [[], [0], [], [1, 2], [], [3, 4], [1, 3, 5], []] 8 rfl rfl rfl rfl (n := 1) rfl (by decide) (by kernel_rfl) ?st ?ex (by assumption) ?dn
      case st =>
        intro t ht
        simp only [List.mem_cons, List.not_mem_nil, or_false] at ht
        rcases ht with rfl | rfl | rfl | rfl | rfl | rfl | rfl | rfl
        · rintro v w w' ⟨p, rfl, hb⟩ u; exact ⟨p, rfl, hb.below u⟩
        · rintro v w w' hv u; exact hv
        · rintro v w w' ⟨p, rfl, hb⟩ u; exact ⟨p, rfl, hb.below u⟩
        · rintro v w w' hv u; exact hv
        · rintro v w w' ⟨p, rfl, hb⟩ u; exact ⟨p, rfl, hb.below u⟩
        · rintro v w w' hv u; exact hv
        · rintro v w w' hv u; exact hv
        · rintro v w w' ⟨p, rfl, hp, hb⟩ u; exact ⟨p, rfl, hp, hb.below u⟩
      case ex =>
        intro j t bs vs W hj hbl hvl hbf hdp hSw hR
        have hen : ∀ v w, (callFunc 33 #[v]).run Try.prog w = .ok (.enter 33 #[v]) w := fun v w => enters_of Try.func33 (by kernel_rfl) rfl _ _
        rcases j with _ | _ | _ | _ | _ | _ | _ | _ | j
        · obtain rfl := Option.some.inj hj
          refine wpOp_step rfl fun K hK => ?_
          refine one_bs 39 rfl rfl 35 2 #[(0, .tmp 34), (1, .tmp 38)] #[(0, .int .i64 x.nxt), (1, .int .i64 n0)] rfl ?_ (i64_bs _ _ W) ?_
          · simp only [List.map_toArray, List.map_cons, List.map_nil, Act.eval]; rw [putB_ne (k := 34) [39, 40, 47, 48, 55, 56, 57, 8] _ _ _ (by decide), putB_ne (k := 38) [39, 40, 47, 48, 55, 56, 57, 8] _ _ _ (by decide)]; rfl
          · exact hK _ _ ⟨_, rfl, hSw.alloc hSw.size _, ⟨_, rfl, BlkAt.new _ _ _⟩, (Below.refl _ _).alloc (Nat.le_refl _) _⟩
        · obtain rfl := Option.some.inj hj
          obtain ⟨v0, hv0, p, rfl, hb⟩ := hR 0 _ rfl (hdp 0 (by simp))
          refine wpOp_step rfl fun K hK => ?_
          refine one_call 40 rfl rfl 33 (.tmp 39) _ rfl (putB_eq (k := 39) [39, 40, 47, 48, 55, 56, 57, 8] bs vs _ 0 _ (by decide) rfl (hdp 0 (by simp)) hv0 (show 39 < 63 by decide)) (hen _) ?_
          refine (vor64_any p _ _ W hb).mono ?_
          rintro e w' ⟨rfl, rfl⟩
          exact ⟨_, rfl, hK _ _ ⟨_, rfl, hSw, rfl, Below.refl _ _⟩⟩
        · obtain rfl := Option.some.inj hj
          refine wpOp_step rfl fun K hK => ?_
          refine one_bs 47 rfl rfl 35 2 #[(0, .tmp 42), (1, .tmp 46)] #[(0, .int .i64 x.lg), (1, .int .i64 V.lg)] rfl ?_ (i64_bs _ _ W) ?_
          · simp only [List.map_toArray, List.map_cons, List.map_nil, Act.eval]; rw [putB_ne (k := 42) [39, 40, 47, 48, 55, 56, 57, 8] _ _ _ (by decide), putB_ne (k := 46) [39, 40, 47, 48, 55, 56, 57, 8] _ _ _ (by decide)]; rfl
          · exact hK _ _ ⟨_, rfl, hSw.alloc hSw.size _, ⟨_, rfl, BlkAt.new _ _ _⟩, (Below.refl _ _).alloc (Nat.le_refl _) _⟩
        · obtain rfl := Option.some.inj hj
          obtain ⟨v2, hv2, p, rfl, hb⟩ := hR 2 _ rfl (hdp 2 (by simp))
          refine wpOp_step rfl fun K hK => ?_
          refine one_call 48 rfl rfl 33 (.tmp 47) _ rfl (putB_eq (k := 47) [39, 40, 47, 48, 55, 56, 57, 8] bs vs _ 2 _ (by decide) rfl (hdp 2 (by simp)) hv2 (show 47 < 63 by decide)) (hen _) ?_
          refine (vor64_any p _ _ W hb).mono ?_
          rintro e w' ⟨rfl, rfl⟩
          exact ⟨_, rfl, hK _ _ ⟨_, rfl, hSw, rfl, Below.refl _ _⟩⟩
        · obtain rfl := Option.some.inj hj
          refine wpOp_step rfl fun K hK => ?_
          refine one_bs 55 rfl rfl 35 2 #[(0, .tmp 50), (1, .tmp 54)] #[(0, .int .i64 x.lst), (1, .int .i64 V.ls)] rfl ?_ (i64_bs _ _ W) ?_
          · simp only [List.map_toArray, List.map_cons, List.map_nil, Act.eval]; rw [putB_ne (k := 50) [39, 40, 47, 48, 55, 56, 57, 8] _ _ _ (by decide), putB_ne (k := 54) [39, 40, 47, 48, 55, 56, 57, 8] _ _ _ (by decide)]; rfl
          · exact hK _ _ ⟨_, rfl, hSw.alloc hSw.size _, ⟨_, rfl, BlkAt.new _ _ _⟩, (Below.refl _ _).alloc (Nat.le_refl _) _⟩
        · obtain rfl := Option.some.inj hj
          obtain ⟨v4, hv4, p, rfl, hb⟩ := hR 4 _ rfl (hdp 4 (by simp))
          refine wpOp_step rfl fun K hK => ?_
          refine one_call 56 rfl rfl 33 (.tmp 55) _ rfl (putB_eq (k := 55) [39, 40, 47, 48, 55, 56, 57, 8] bs vs _ 4 _ (by decide) rfl (hdp 4 (by simp)) hv4 (show 55 < 63 by decide)) (hen _) ?_
          refine (vor64_any p _ _ W hb).mono ?_
          rintro e w' ⟨rfl, rfl⟩
          exact ⟨_, rfl, hK _ _ ⟨_, rfl, hSw, rfl, Below.refl _ _⟩⟩
        · obtain rfl := Option.some.inj hj
          obtain ⟨v1, hv1, rfl⟩ := hR 1 _ rfl (hdp 1 (by simp))
          obtain ⟨v3, hv3, rfl⟩ := hR 3 _ rfl (hdp 3 (by simp))
          obtain ⟨v5, hv5, rfl⟩ := hR 5 _ rfl (hdp 5 (by simp))
          refine wpOp_step rfl fun K hK => ?_
          refine one_bd 57 rfl rfl 58 #[(0, .tmp 32), (1, .tmp 40), (2, .tmp 48), (3, .tmp 56)] #[(0, .slice aZ nZ cZ), (1, .int .i64 (vOr x.nxt n0)), (2, .int .i64 (vOr x.lg V.lg)), (3, .int .i64 (vOr x.lst V.ls))] rfl ?_ (ver_bd _ _ _ _ _ _ W) ?_
          · simp only [List.map_toArray, List.map_cons, List.map_nil, Act.eval]; rw [putB_ne (k := 32) [39, 40, 47, 48, 55, 56, 57, 8] _ _ _ (by decide), putB_eq (k := 40) [39, 40, 47, 48, 55, 56, 57, 8] bs vs _ 1 _ (by decide) rfl (hdp 1 (by simp)) hv1 ?h1, putB_eq (k := 48) [39, 40, 47, 48, 55, 56, 57, 8] bs vs _ 3 _ (by decide) rfl (hdp 3 (by simp)) hv3 ?h3, putB_eq (k := 56) [39, 40, 47, 48, 55, 56, 57, 8] bs vs _ 5 _ (by decide) rfl (hdp 5 (by simp)) hv5 ?h5] <;> first | rfl | (show _ < 63; decide)
          · exact hK _ _ ⟨_, rfl, hSw, rfl, Below.refl _ _⟩
        · obtain rfl := Option.some.inj hj
          refine wpOp_step rfl fun K hK => ?_
          refine one_any 8 rfl rfl (ver_ax _ _ rfl W) ?_
          exact hK _ _ ⟨_, rfl, hSw.alloc hSw.size _, ⟨_, rfl, hSw.size, BlkAt.new _ _ _⟩, (Below.refl _ _).alloc (Nat.le_refl _) _⟩
        · simp at hj
      case dn =>
        intro vs W hvl hSw hR
        obtain ⟨v0, hv0, p0, rfl, -⟩ := hR 0 _ rfl
        obtain ⟨v1, hv1, rfl⟩ := hR 1 _ rfl
        obtain ⟨v2, hv2, p2, rfl, -⟩ := hR 2 _ rfl
        obtain ⟨v3, hv3, rfl⟩ := hR 3 _ rfl
        obtain ⟨v4, hv4, p4, rfl, -⟩ := hR 4 _ rfl
        obtain ⟨v5, hv5, rfl⟩ := hR 5 _ rfl
        obtain ⟨v6, hv6, rfl⟩ := hR 6 _ rfl
        obtain ⟨v7, hv7, q, rfl, hq, hbq⟩ := hR 7 _ rfl
        have evs : vs = [.slice (some ⟨p0, 0, none⟩) 2 2, .int .i64 (vOr x.nxt n0), .slice (some ⟨p2, 0, none⟩) 2 2, .int .i64 (vOr x.lg V.lg), .slice (some ⟨p4, 0, none⟩) 2 2, .int .i64 (vOr x.lst V.ls), .agg #[.slice aZ nZ cZ, .int .i64 (vOr x.nxt n0), .int .i64 (vOr x.lg V.lg), .int .i64 (vOr x.lst V.ls)], .pointer (some ⟨q, 0, none⟩)] := by
          match vs, hvl with
          | [a0, a1, a2, a3, a4, a5, a6, a7], _ => rw [Option.some.inj hv0, Option.some.inj hv1, Option.some.inj hv2, Option.some.inj hv3, Option.some.inj hv4, Option.some.inj hv5, Option.some.inj hv6, Option.some.inj hv7]
        subst evs
        clear hR hv0 hv1 hv2 hv3 hv4 hv5 hv6 hv7 hvl
        simp only [List.replicate_succ, List.replicate_zero, putB, setB, if_true, Act.put, List.setIfInBounds_toArray, List.set_cons_zero, List.set_cons_succ]
        have HQ := Lib.hid hbq
        obtain ⟨e0, e1, e2, e3⟩ := cell4_of hbq
        obtain ⟨f0, f1, f2, f3⟩ := free4_of hbq
        refine wpAnyH_ready (rs := [27]) (by kernel_rfl) (by simp) (AllReadyH.cons rfl (fun K hK => ?_) AllReadyH.nil)
        go_simp
        have HF := Lib.hid (fill4 hbq (.slice aZ nZ cZ) (.int .i64 (vOr x.nxt n0)) (.int .i64 (vOr x.lg V.lg)) (.int .i64 (vOr x.lst V.ls)))
        have hS2 : Below w5.heap.size w5 ((((W.setCell ⟨q, 0, none⟩ (.slice aZ nZ cZ)).setCell ⟨q, 1, none⟩ (.int .i64 (vOr x.nxt n0))).setCell ⟨q, 2, none⟩ (.int .i64 (vOr x.lg V.lg))).setCell ⟨q, 3, none⟩ (.int .i64 (vOr x.lst V.ls))) := hSw.trans (UpdF.below HF.out.2 hSw.size fun k hk e => by omega)
        refine hK.out _ _ hS2 (fun _ => ?_)
        clear hK K
        try simp only [Act.put, List.setIfInBounds_toArray, List.set_cons_zero, List.set_cons_succ]
        refine wpAnyH_done (by kernel_rfl) ?_ _
        have HQ8 := Lib.hid HF.out.1
        have hB8 : Below w1.heap.size w1 _ := hB.trans (hS2.mono hB.size)
        have HS8 := Lib.hid hS2
        clear hS2 hSw hbq HQ HF e0 e1 e2 e3 f0 f1 f2 f3 hHeld hS0 hB
        generalize ((((W.setCell ⟨q, 0, none⟩ (.slice aZ nZ cZ)).setCell ⟨q, 1, none⟩ (.int .i64 (vOr x.nxt n0))).setCell ⟨q, 2, none⟩ (.int .i64 (vOr x.lg V.lg))).setCell ⟨q, 3, none⟩ (.int .i64 (vOr x.lst V.ls))) = w8 at *
        have hB := hB8
        clear hB8
        have HO8 := Lib.hid (HO.out.below HS8.out)
        have HFO := Lib.hid (vfollow_raw HQ8.out (HO8.out.rd encTbf_len) (by rw [HZS.out.2.2.length_eq, List.length_append]; have := HZS.out.1.1; omega) (HL1.out.below hB).v)
        obtain ⟨K8, hK8⟩ : ∃ K8, decide (vFol zs (vOr (vOr x.nxt n0) 1) (vOr x.lg V.lg) (vOr x.lst V.ls) (vOr n0 1) V.lg V.ls) = K8 := ⟨_, rfl⟩
        rw [hK8] at HFO
        have HK8 := Lib.hid hK8
        clear hK8
        have HAY := Lib.hid (apply_yes (by have := HG.out.1.nx1; exact this) HG.out.2 HM.out HRS.out HZS.out.1 HZS.out.2.2)
        go_wp2_with fail
        refine HFO.out.mono ?_
        rintro e w9 ⟨rfl, hb9⟩
        have HO9 := Lib.hid (HO8.out.below hb9)
        have HQ9 := Lib.hid (HQ8.out.below hb9)
        have hB9 : Below w1.heap.size w1 w9 := hB.trans (hb9.mono hB.size)
        clear hb9 hB HFO HO8 HQ8 HS8
        have hB := hB9
        clear hB9
        cases K8 with
        | false =>
          have HN : Hid (applyV V x = none) := Lib.hid (HAY.out.2 (of_decide_eq_false HK8.out))
          have HZ := Lib.hid ((HGE.out _ (HL1.out.below hB)).2)
          obtain ⟨z0, z1, z2, z3⟩ := cell4_of HZ.out
          obtain ⟨f0, f1, f2, f3⟩ := free4_of HZ.out
          have HBE := Lib.hid (HL1.out.below hB).bel
          have HF4 := Lib.hid (fill4 HZ.out (.slice none 0 0) (.int .i64 0) (.int .i64 0) (.int .i64 0))
          obtain ⟨y0, y1, y2, y3⟩ := cell4_of HF4.out.1
          have HBF : Hid (Below w.heap.size w ((((w9.setCell ⟨g + 1, 0, none⟩ (.slice none 0 0)).setCell ⟨g + 1, 1, none⟩ (.int .i64 0)).setCell ⟨g + 1, 2, none⟩ (.int .i64 0)).setCell ⟨g + 1, 3, none⟩ (.int .i64 0))) := Lib.hid (HBE.out.trans (UpdF.below HF4.out.2 HBE.out.size fun k hk e => by have := HGW.out; omega))
          clear hB HBE
          go_wp2_with fail
          refine bodyPost_ret (v := .tuple #[.agg #[.slice none 0 0, .int .i64 0, .int .i64 0, .int .i64 0], .bool false]) (by simp [results, Try.results29, go_sem, y0, y1, y2, y3]) rfl ⟨none, 0, 0, 0, 0, 0, false, rfl, fun _ => HN.out, fun h => (by cases h), ?_⟩
          exact HBF.out
        | true =>
          have HN := Lib.hid (HAY.out.1 (of_decide_eq_true HK8.out))
          have HZ := Lib.hid ((HGE.out _ (HL1.out.below hB)).2)
          obtain ⟨z0, z1, z2, z3⟩ := cell4_of HZ.out
          obtain ⟨f0, f1, f2, f3⟩ := free4_of HZ.out
          obtain ⟨e0, e1, e2, e3⟩ := cell4_of HQ9.out
          have HBE := Lib.hid (HL1.out.below hB).bel
          have HF4 := Lib.hid (fill4 HZ.out (.slice aZ nZ cZ) (.int .i64 (vOr x.nxt n0)) (.int .i64 (vOr x.lg V.lg)) (.int .i64 (vOr x.lst V.ls)))
          obtain ⟨y0, y1, y2, y3⟩ := cell4_of HF4.out.1
          have HOF := Lib.hid ((HO9.out.asideT HF4.out.2 HZ.out (by decide)).base (show w.heap.size ≤ w1.heap.size from HL1.out.bel.size))
          have HBF : Hid (Below w.heap.size w ((((w9.setCell ⟨g + 1, 0, none⟩ (.slice aZ nZ cZ)).setCell ⟨g + 1, 1, none⟩ (.int .i64 (vOr x.nxt n0))).setCell ⟨g + 1, 2, none⟩ (.int .i64 (vOr x.lg V.lg))).setCell ⟨g + 1, 3, none⟩ (.int .i64 (vOr x.lst V.ls)))) := Lib.hid (HBE.out.trans (UpdF.below HF4.out.2 HBE.out.size fun k hk e => by have := HGW.out; omega))
          clear hB HBE
          go_wp2_with fail
          refine bodyPost_ret (v := .tuple #[.agg #[.slice aZ nZ cZ, .int .i64 (vOr x.nxt n0), .int .i64 (vOr x.lg V.lg), .int .i64 (vOr x.lst V.ls)], .bool true]) (by simp [results, Try.results29, go_sem, y0, y1, y2, y3]) rfl ⟨aZ, nZ, cZ, _, _, _, true, rfl, fun h => (by cases h), fun _ => ⟨zs, _, HN.out, HZS.out.2.2, HZS.out.2.1, ?_⟩, ?_⟩
          · exact HOF.out
          · exact HBF.out
end Go.Proofs.Ytjloaamaelcmaaa
