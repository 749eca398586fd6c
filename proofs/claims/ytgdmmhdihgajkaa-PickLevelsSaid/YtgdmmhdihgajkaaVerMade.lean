/- The laws' Made: a version behind edits, and the document's. -/
import Derived.Test.YtgdmmhdihgajkaaMVerR
import Derived.Test.YtgdmmhdihgajkaaMEdtR
namespace Go.Proofs.Ytgdmmhdihgajkaa
set_option linter.unusedVariables false
set_option maxRecDepth 100000
open Go.RowKit
/-- The cells of an edit that came in. -/
structure EdCell (w : World) (b o : Nat) (x : Edt) (va vd : Value) : Prop where
  c0 : w.cell? ⟨b, o, none⟩ = some (.int .i64 x.nxt)
  c1 : w.cell? ⟨b, o + 1, none⟩ = some (.int .i64 x.lg)
  c2 : w.cell? ⟨b, o + 2, none⟩ = some (.int .i64 x.lst)
  c3 : w.cell? ⟨b, o + 3, none⟩ = some va
  c4 : w.cell? ⟨b, o + 4, none⟩ = some vd
/-- Edits that came in. -/
def EdtsAt (w : World) (v : Value) (xs : List Edt) : Prop := ∃ a cap, v = .slice a xs.length cap ∧ ∀ (i : Nat) (x : Edt), xs[i]? = some x → ∃ b o va vd, a = some ⟨b, o, none⟩ ∧ b < w.heap.size ∧ EdCell w b (o + i * 5) x va vd ∧ RdK encTbf 5 w va x.adds ∧ RdV w vd (x.dels.map encI64)
theorem EdtsAt.below {w w' : World} {v : Value} {xs : List Edt} (h : EdtsAt w v xs) (u : Below w.heap.size w w') : EdtsAt w' v xs := by
  obtain ⟨a, cap, h1, h2⟩ := h
  refine ⟨a, cap, h1, fun i x hx => ?_⟩
  obtain ⟨b, o, va, vd, h3, h4, h5, h6, h7⟩ := h2 i x hx
  exact ⟨b, o, va, vd, h3, Nat.lt_of_lt_of_le h4 u.size, ⟨(u.cell h4).trans h5.c0, (u.cell h4).trans h5.c1, (u.cell h4).trans h5.c2, (u.cell h4).trans h5.c3, (u.cell h4).trans h5.c4⟩, h6.below u, RdV.below h7 u⟩
/-- Both versions, and what they tell. -/
structure TwoV (B : Nat) (w : World) (b c : Nat) (V W : Ver) : Prop where
  v : VerAt B w b V
  r : RefAt B w c W
  s : vSame V W
theorem TwoV.below {B : Nat} {w w' : World} {b c : Nat} {V W : Ver} (h : TwoV B w b c V W) (u : Below w.heap.size w w') : TwoV B w' b c V W := ⟨h.v.below u, h.r.below u, h.s⟩
/-- What Made tells. -/
def MadeTo (w : World) (e : Ending) (w' : World) : Prop := ∃ b c V W, e = .returned (.tuple #[.pointer (some ⟨b, 0, none⟩), .pointer (some ⟨c, 0, none⟩), .bool true]) ∧ TwoV w.heap.size w' b c V W ∧ w.heap.size ≤ b ∧ Below w.heap.size w w'
theorem code_same {V W : Ver} (h : vSame V W) (g : GoodV V) {x : Edt} {c1 c2 : Int} {V' W' : Ver} (h1 : applyV V x = none → c1 = 12 ∧ V' = V) (h2 : ∀ n, applyV V x = some n → c1 = 0 ∧ vSame n V') (k1 : applyV W x = none → c2 = 12 ∧ W' = W) (k2 : ∀ n, applyV W x = some n → c2 = 0 ∧ W' = n) : c1 = c2 ∧ vSame V' W' := by
  rcases applyV_same h g x with ⟨e1, e2⟩ | ⟨n, m, e1, e2, hs⟩
  · obtain ⟨rfl, rfl⟩ := h1 e1
    obtain ⟨rfl, rfl⟩ := k1 e2
    exact ⟨rfl, h⟩
  · obtain ⟨rfl, a⟩ := h2 n e1
    obtain ⟨rfl, rfl⟩ := k2 m e2
    exact ⟨rfl, a.symm.trans hs⟩
set_option maxHeartbeats 16000000 in
theorem vmade_any (v : Value) (xs : List Edt) (hok : ∀ x ∈ xs, ∀ f ∈ x.adds, f.ok) (N : Nat) (hN : N ≤ 1000) (w : World) (h : EdtsAt w v xs) : Calls Try.prog 6 #[v, .int .i64 (N : Int)] w (MadeTo w) := by
  obtain ⟨aE, cE, rfl, he⟩ := h
  have HE := Lib.hid he
  have HOK := Lib.hid hok
  obtain ⟨L, hL⟩ : ∃ L, xs.length = L := ⟨_, rfl⟩
  have HL := Lib.hid hL
  rw [hL]
  have HCT : Hid (∀ (i : Nat) (x : Edt) (va vd : Value) (W : World), xs[i]? = some x → RdK encTbf 5 w va x.adds → RdV w vd (x.dels.map encI64) → Below w.heap.size w W → Calls Try.prog 14 #[.agg #[.int .i64 x.nxt, .int .i64 x.lg, .int .i64 x.lst, va, vd]] W (CutTo w W)) := Lib.hid fun i x va vd W hx ha hd hW => edCut_any _ x (hok x (List.mem_of_getElem? hx)) w W ⟨va, vd, rfl, ha, hd⟩ hW
  have HN0 : Hid (TwoV w.heap.size ((w.alloc (.cells #[.slice none 0 0, .int .i64 0, .int .i64 0, .int .i64 0] 67)).alloc (.cells #[.slice none 0 0, .int .i64 1, .int .i64 0, .int .i64 0] 54)) w.heap.size (w.heap.size + 1) Ver.new Ver.new) := Lib.hid (by
    refine ⟨(vnew_at w w.heap.size).below ((Below.refl _ _).alloc (Nat.le_refl _) _), ⟨⟨_, ?_, OwnK.nil _ _ _ _ _⟩, new_good⟩, vSame.refl _⟩
    have := BlkAt.new (w.alloc (.cells #[.slice none 0 0, .int .i64 0, .int .i64 0, .int .i64 0] 67)) #[.slice none 0 0, .int .i64 1, .int .i64 0, .int .i64 0] 54
    rwa [show (w.alloc (.cells #[.slice none 0 0, .int .i64 0, .int .i64 0, .int .i64 0] 67)).heap.size = w.heap.size + 1 by simp] at this)
  have HB0 : Hid (Below w.heap.size w ((w.alloc (.cells #[.slice none 0 0, .int .i64 0, .int .i64 0, .int .i64 0] 67)).alloc (.cells #[.slice none 0 0, .int .i64 1, .int .i64 0, .int .i64 0] 54))) := Lib.hid (((Below.refl _ w).alloc (Nat.le_refl _) _).alloc (by simp) _)
  have HNEW := Lib.hid (vnew_any w)
  clear he hok hL
  obtain ⟨b, hb⟩ : ∃ b, w.heap.size = b := ⟨_, rfl⟩
  have HBB := Lib.hid hb
  go_enter Try.func6, Try.ntmps6
  go_wp2_with fail
  refine HNEW.out.mono ?_
  rintro e w2 ⟨rfl, hw2⟩
  rw [hw2]
  clear hw2 HNEW
  go_wp2_with fail
  rw [hb] at HN0
  generalize (w.alloc (.cells #[.slice none 0 0, .int .i64 0, .int .i64 0, .int .i64 0] 67)).alloc (.cells #[.slice none 0 0, .int .i64 1, .int .i64 0, .int .i64 0] 54) = w3 at *
  clear hb
  go_loopg [9, 10] L (fun kk vi _ wr => ∃ (i : Nat) (V W : Ver), vi = .int .i64 (i : Int) ∧ i ≤ L ∧ L - i ≤ kk ∧ Hid (TwoV b wr b (b + 1) V W) ∧ Hid (Below w.heap.size w wr))
  case atStart => exact ⟨0, _, _, rfl, by omega, by omega, HN0, HB0⟩
  case round =>
    clear HN0 HB0
    obtain ⟨i, V, W, rfl, hi, hik, HT, HB⟩ := hrel
    have hi0 : (0 : Int) ≤ (i : Int) := by omega
    obtain ⟨Q, hQ⟩ : ∃ Q : Bool, decide (i < L ∧ i < N) = Q := ⟨_, rfl⟩
    have HQ := Lib.hid hQ
    clear hQ
    go_upto_region 3 with fail
    go_cut [22] (fun v wx => v = .bool Q ∧ wr = wx)
    case first =>
      by_cases h1 : i < L
      · have hd1 : (i : Int) < (L : Int) := by omega
        by_cases h2 : i < N
        · obtain rfl : Q = true := by rw [← HQ.out]; exact decide_eq_true ⟨h1, h2⟩
          have hd2 : (i : Int) < (N : Int) := by omega
          go_wp2_with fail
          go_meet
          exact ⟨rfl, rfl⟩
        · obtain rfl : Q = false := by rw [← HQ.out]; exact decide_eq_false fun h => h2 h.2
          have hd2 : ¬ (i : Int) < (N : Int) := by omega
          go_wp2_with fail
          go_meet
          exact ⟨rfl, rfl⟩
      · obtain rfl : Q = false := by rw [← HQ.out]; exact decide_eq_false fun h => h1 h.1
        have hd1 : ¬ (i : Int) < (L : Int) := by omega
        go_wp2_with fail
        go_meet
        exact ⟨rfl, rfl⟩
    case rest =>
    obtain ⟨rfl, rfl⟩ := hcut
    cases Q with
    | false =>
      clear HQ
      go_wp2_with fail
      go_ret3
      exact ⟨b, b + 1, V, W, rfl, by rw [HBB.out]; exact HT.out, by rw [HBB.out]; exact Nat.le_refl _, HB.out⟩
    | true =>
      have hiL : i < L := (of_decide_eq_true HQ.out).1
      have hiN : i < N := (of_decide_eq_true HQ.out).2
      have hd1 : (i : Int) < (L : Int) := by omega
      clear HQ
      obtain ⟨x, hx⟩ : ∃ x, xs[i]? = some x := ⟨xs[i]'(by have := HL.out; omega), List.getElem?_eq_getElem _⟩
      obtain ⟨be, oe, va, vd, rfl, hbe, AC, hva, hvd⟩ := HE.out i x hx
      have HCC := Lib.hid (HCT.out i x va vd wr hx hva hvd HB.out)
      obtain ⟨aA, cA, rfl, -⟩ := edFl_len hva
      obtain ⟨aD, cD, rfl⟩ := edInts_len hvd
      obtain ⟨d0, d1, d2, d3, d4⟩ : EdCell wr be (oe + i * 5) x (.slice aA x.adds.length cA) (.slice aD x.dels.length cD) := ⟨(HB.out.cell hbe).trans AC.c0, (HB.out.cell hbe).trans AC.c1, (HB.out.cell hbe).trans AC.c2, (HB.out.cell hbe).trans AC.c3, (HB.out.cell hbe).trans AC.c4⟩
      clear hx hva hvd AC hbe
      generalize x.adds.length = nA at *
      generalize x.dels.length = nD at *
      go_wp2_with fail
      refine HCC.out.mono ?_
      rintro e w4 ⟨ua, ud, y, rfl, hh, hsh, hb4⟩
      have HB4 := Lib.hid (HB.out.trans (hb4.mono HB.out.size))
      have HT4 := Lib.hid (HT.out.below hb4)
      have HH := Lib.hid hh
      have HSH := Lib.hid hsh.ok
      clear hh hsh hb4 HCC HB HT d0 d1 d2 d3 d4
      obtain ⟨aA2, cA2, aD2, cD2, hfm⟩ := edt_forms (HH.out.at HB4.out)
      simp only [Value.agg.injEq, Array.mk.injEq, List.cons.injEq, true_and, and_true] at hfm
      obtain ⟨rfl, rfl⟩ := hfm
      generalize y.adds.length = mA at *
      generalize y.dels.length = mD at *
      have HX5 := Lib.hid (BlkAt.new w4 #[.int .i64 y.nxt, .int .i64 y.lg, .int .i64 y.lst, .slice aA2 mA cA2, .slice aD2 mD cD2] 44)
      have hb45 : Below w4.heap.size w4 (w4.alloc (.cells #[.int .i64 y.nxt, .int .i64 y.lg, .int .i64 y.lst, .slice aA2 mA cA2, .slice aD2 mD cD2] 44)) := (Below.refl _ _).alloc (Nat.le_refl _) _
      have HB5 := Lib.hid (HB4.out.trans (hb45.mono HB4.out.size))
      have HT5 := Lib.hid (HT4.out.below hb45)
      have HH5 := Lib.hid (HH.out.below hb45)
      clear hb45 HB4 HT4 HH
      go_wp2_with fail
      generalize w4.alloc (.cells #[.int .i64 y.nxt, .int .i64 y.lg, .int .i64 y.lst, .slice aA2 mA cA2, .slice aD2 mD cD2] 44) = w5 at *
      generalize w4.heap.size = p at *
      have hS0 : BlkAt w5.drew p #[.int .i64 y.nxt, .int .i64 y.lg, .int .i64 y.lst, .slice aA2 mA cA2, .slice aD2 mD cD2] 44 := HX5.out
      refine wp_region_held_drew (S := fun W => BlkAt W p #[.int .i64 y.nxt, .int .i64 y.lg, .int .i64 y.lst, .slice aA2 mA cA2, .slice aD2 mD cD2] 44) (by kernel_rfl) hS0 (fun hHeld => ?_)
      refine takeYes (i := 0) (k := 30) (v := .pointer (some ⟨b, 0, none⟩)) rfl (by kernel_rfl) (by kernel_rfl) (by kernel_rfl) (by kernel_rfl) (fun _ _ _ h => h) (by kernel_rfl) ?_ (by assumption) ?_
      · intro W hSw; first | (go_simp; done) | go_simp
      try simp only [Act.put, List.setIfInBounds_toArray, List.set_cons_zero, List.set_cons_succ]
      refine takeYes (i := 1) (k := 31) (v := .agg #[.int .i64 y.nxt, .int .i64 y.lg, .int .i64 y.lst, .slice aA2 mA cA2, .slice aD2 mD cD2]) rfl (by kernel_rfl) (by kernel_rfl) (by kernel_rfl) (by kernel_rfl) (fun _ _ _ h => h) (by kernel_rfl) ?_ (by assumption) ?_
      · intro W hSw; obtain ⟨d0, d1, d2, d3, d4⟩ := cell5_of hSw; first | (go_simp; done) | go_simp
      try simp only [Act.put, List.setIfInBounds_toArray, List.set_cons_zero, List.set_cons_succ]
      refine takeYes (i := 3) (k := 33) (v := .pointer (some ⟨b + 1, 0, none⟩)) rfl (by kernel_rfl) (by kernel_rfl) (by kernel_rfl) (by kernel_rfl) (fun _ _ _ h => h) (by kernel_rfl) ?_ (by assumption) ?_
      · intro W hSw; first | (go_simp; done) | go_simp
      try simp only [Act.put, List.setIfInBounds_toArray, List.set_cons_zero, List.set_cons_succ]
      refine takeYes (i := 4) (k := 34) (v := .agg #[.int .i64 y.nxt, .int .i64 y.lg, .int .i64 y.lst, .slice aA2 mA cA2, .slice aD2 mD cD2]) rfl (by kernel_rfl) (by kernel_rfl) (by kernel_rfl) (by kernel_rfl) (fun _ _ _ h => h) (by kernel_rfl) ?_ (by assumption) ?_
      · intro W hSw; obtain ⟨d0, d1, d2, d3, d4⟩ := cell5_of hSw; first | (go_simp; done) | go_simp
      try simp only [Act.put, List.setIfInBounds_toArray, List.set_cons_zero, List.set_cons_succ]
      have HV5 := Lib.hid (HT5.out.v.below (Below.refl _ w5).drew)
      have HR5 := Lib.hid (HT5.out.r.below (Below.refl _ w5).drew)
      have HH6 := Lib.hid (HH5.out.below (Below.refl _ w5).drew)
      have HBd := Lib.hid (HB5.out.drew)
      have hbs : b ≤ w5.drew.heap.size := by have := HBd.out.size; have := HBB.out; omega
      have HAP := Lib.hid (vapply_any HV5.out hbs _ y (HH6.out.at HBd.out) HSH.out)
      have HG := Lib.hid HT5.out.v.good
      have HVS := Lib.hid HT5.out.s
      generalize w5.drew = w5d at *
      refine wpAnyH_ready (rs := [2]) (by kernel_rfl) (by simp) (AllReadyH.cons rfl (fun K hK => ?_) AllReadyH.nil)
      go_simp
      refine HAP.out.mono ?_
      rintro e w6 ⟨c1, V', rfl, hv6, hu6, h1, h2⟩
      obtain ⟨tvb, nb, hbv, -, -⟩ := HV5.out.blk
      have hpb : p ≠ b := fun e => (by have hx := hS0; rw [e] at hx; unfold BlkAt at hx hbv; rw [hbv] at hx; simp only [Option.some.injEq, Obj.cells.injEq] at hx; exact absurd hx.2.1 (by decide))
      have hS6 : BlkAt w6 p #[.int .i64 y.nxt, .int .i64 y.lg, .int .i64 y.lst, .slice aA2 mA cA2, .slice aD2 mD cD2] 44 := (hu6.block p hS0.lt hpb).trans hS0
      have hB6 : Below w.heap.size w w6 := HBd.out.trans (UpdF.below hu6 HBd.out.size fun k hk e => by have := HBB.out; omega)
      have hR6 : RefAt b w6 (b + 1) W := HR5.out.aside hu6 hbv (by decide) (by decide)
      have hH6 : EdHalf w wr.heap.size w6 (.slice aA2 mA cA2) (.slice aD2 mD cD2) y := ⟨HH6.out.adds.asideT hu6 hbv (by decide), HH6.out.dels⟩
      have HAR := Lib.hid (rapply_any hR6 (show b ≤ w6.heap.size by have := hu6.size; omega) _ y (hH6.at hB6) HSH.out)
      have HC := Lib.hid (And.intro h1 h2)
      clear h1 h2 HAP HV5 HR5 HBd HH6 hbv hH6
      refine hK.out _ _ hS6 (fun _ => ?_)
      clear hK K
      try simp only [Act.put, List.setIfInBounds_toArray, List.set_cons_zero, List.set_cons_succ]
      refine wpAnyH_ready (rs := [5]) (by kernel_rfl) (by simp) (AllReadyH.cons rfl (fun K hK => ?_) AllReadyH.nil)
      go_simp
      refine HAR.out.mono ?_
      rintro e w7 ⟨c2, W', rfl, hr7, hu7, k1, k2⟩
      obtain ⟨fvb, hbv, -⟩ := hR6.blk
      have hpc : p ≠ b + 1 := fun e => (by have hx := hS6; rw [e] at hx; unfold BlkAt at hx hbv; rw [hbv] at hx; simp only [Option.some.injEq, Obj.cells.injEq] at hx; exact absurd hx.2.1 (by decide))
      have hS7 : BlkAt w7 p #[.int .i64 y.nxt, .int .i64 y.lg, .int .i64 y.lst, .slice aA2 mA cA2, .slice aD2 mD cD2] 44 := (hu7.block p hS6.lt hpc).trans hS6
      have hB7 : Below w.heap.size w w7 := hB6.trans (UpdF.below hu7 hB6.size fun k hk e => by have := HBB.out; omega)
      have hV7 : VerAt b w7 b V' := hv6.aside hu7 hbv (by decide) (by decide)
      obtain ⟨rfl, hs7⟩ := code_same HVS.out HG.out HC.out.1 HC.out.2 k1 k2
      have HSM := Lib.hid (vsame_any hV7 hr7 hs7)
      have HT7 : Hid (TwoV b w7 b (b + 1) V' W') := Lib.hid ⟨hV7, hr7, hs7⟩
      have HB7 := Lib.hid hB7
      have q0 : (c1 != c1) = false := by simp
      clear k1 k2 HC HVS HG HAR hv6 hu6 hu7 hbv hB6 hR6 hV7 hr7 hs7 hB7 hS6 hS0 hpb hpc
      refine hK.out _ _ hS7 (fun _ => ?_)
      clear hK K
      try simp only [Act.put, List.setIfInBounds_toArray, List.set_cons_zero, List.set_cons_succ]
      refine takeYes (i := 6) (k := 36) (v := .bool false) rfl (by kernel_rfl) (by kernel_rfl) (by kernel_rfl) (by kernel_rfl) (fun _ _ _ h => h) (by kernel_rfl) ?_ (by assumption) ?_
      · intro W hSw; first | (go_simp; done) | go_simp
      try simp only [Act.put, List.setIfInBounds_toArray, List.set_cons_zero, List.set_cons_succ]
      refine takeYes (i := 7) (k := 37) (v := .bool false) rfl (by kernel_rfl) (by kernel_rfl) (by kernel_rfl) (by kernel_rfl) (fun _ _ _ h => h) (by kernel_rfl) ?_ (by assumption) ?_
      · intro W hSw; first | (go_simp; done) | go_simp
      try simp only [Act.put, List.setIfInBounds_toArray, List.set_cons_zero, List.set_cons_succ]
      refine takeYes (i := 8) (k := 38) (v := .pointer (some ⟨b, 0, none⟩)) rfl (by kernel_rfl) (by kernel_rfl) (by kernel_rfl) (by kernel_rfl) (fun _ _ _ h => h) (by kernel_rfl) ?_ (by assumption) ?_
      · intro W hSw; first | (go_simp; done) | go_simp
      try simp only [Act.put, List.setIfInBounds_toArray, List.set_cons_zero, List.set_cons_succ]
      refine takeYes (i := 9) (k := 39) (v := .pointer (some ⟨b + 1, 0, none⟩)) rfl (by kernel_rfl) (by kernel_rfl) (by kernel_rfl) (by kernel_rfl) (fun _ _ _ h => h) (by kernel_rfl) ?_ (by assumption) ?_
      · intro W hSw; first | (go_simp; done) | go_simp
      try simp only [Act.put, List.setIfInBounds_toArray, List.set_cons_zero, List.set_cons_succ]
      refine wpAnyH_ready (rs := [10]) (by kernel_rfl) (by simp) (AllReadyH.cons rfl (fun K hK => ?_) AllReadyH.nil)
      go_simp
      refine HSM.out.mono ?_
      rintro e w8 ⟨rfl, hb8⟩
      have hS8 : BlkAt w8 p #[.int .i64 y.nxt, .int .i64 y.lg, .int .i64 y.lst, .slice aA2 mA cA2, .slice aD2 mD cD2] 44 := hS7.below hb8
      have HT8 := Lib.hid (HT7.out.below hb8)
      have HB8 := Lib.hid (HB7.out.trans (hb8.mono HB7.out.size))
      clear HT7 HB7 HSM hb8 hS7
      refine hK.out _ _ hS8 (fun _ => ?_)
      clear hK K
      try simp only [Act.put, List.setIfInBounds_toArray, List.set_cons_zero, List.set_cons_succ]
      refine takeYes (i := 11) (k := 41) (v := .bool false) rfl (by kernel_rfl) (by kernel_rfl) (by kernel_rfl) (by kernel_rfl) (fun _ _ _ h => h) (by kernel_rfl) ?_ (by assumption) ?_
      · intro W hSw; first | (go_simp; done) | go_simp
      try simp only [Act.put, List.setIfInBounds_toArray, List.set_cons_zero, List.set_cons_succ]
      refine takeYes (i := 12) (k := 42) (v := .bool false) rfl (by kernel_rfl) (by kernel_rfl) (by kernel_rfl) (by kernel_rfl) (fun _ _ _ h => h) (by kernel_rfl) ?_ (by assumption) ?_
      · intro W hSw; first | (go_simp; done) | go_simp
      try simp only [Act.put, List.setIfInBounds_toArray, List.set_cons_zero, List.set_cons_succ]
      refine wpAnyH_done (by kernel_rfl) ?_ _
      go_wp2_with fail
      go_roundg (L - (i + 1))
      case measure => omega
      case rel => exact ⟨i + 1, V', W', by go_num, by omega, Nat.le_refl _, HT8, HB8⟩
end Go.Proofs.Ytgdmmhdihgajkaa
