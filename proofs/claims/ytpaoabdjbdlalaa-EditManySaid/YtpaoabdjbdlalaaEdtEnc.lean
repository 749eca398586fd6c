/- The walk of Encode. -/
import Derived.Test.YtpaoabdjbdlalaaEdtPut
import Derived.Deep.LoopGhost
namespace Go.Proofs.Ytpaoabdjbdlalaa
set_option linter.unusedVariables false
set_option maxRecDepth 100000
open Go.RowKit
def EncToE (x : Edt) (w : World) (e : Ending) (w' : World) : Prop := ∃ v, e = .returned (.tuple #[v, .int .i64 (chkE x)]) ∧ (mayE x → OwnB w.heap.size w' v (edtB x)) ∧ (¬ mayE x → v = .slice none 0 0) ∧ Below w.heap.size w w'
theorem edFlat_take {α : Type} {B : α → List UInt8} {l : List α} {q : Nat} {x : α} (h : l[q]? = some x) : (l.take (q + 1)).flatMap B = (l.take q).flatMap B ++ B x := by
  obtain ⟨hq, rfl⟩ := List.getElem?_eq_some_iff.1 h
  rw [List.take_add_one, List.getElem?_eq_getElem hq, List.flatMap_append]
  simp
theorem edFlat_le {α : Type} {B : α → List UInt8} {K : Nat} : ∀ (l : List α), (∀ x ∈ l, (B x).length ≤ K) → (l.flatMap B).length ≤ l.length * K
  | [], _ => by simp
  | x :: l, h => by
    have h1 := h x (List.mem_cons_self ..)
    have h2 := edFlat_le l fun y hy => h y (List.mem_cons_of_mem _ hy)
    rw [List.flatMap_cons, List.length_append, List.length_cons, Nat.add_mul]
    omega
set_option maxHeartbeats 8000000 in
theorem edEncode_any (v : Value) (x : Edt) (hok : x.ok) (w : World) (h : EdAt w v x) : Calls Try.prog 8 #[v] w (EncToE x w) := by
  obtain ⟨C, hC⟩ : ∃ C, chkE x = C := ⟨_, rfl⟩
  unfold EncToE
  rw [hC]
  have HCK : Hid (∀ W, Below w.heap.size w W → Calls Try.prog 10 #[v] W (ChkRes W C)) := Lib.hid fun W hW => by rw [← hC]; exact edCheck_any v x hok W (h.below hW)
  obtain ⟨va, vd, rfl, ha, hd⟩ := h
  obtain ⟨aA, cA, rfl, -⟩ := edFl_len ha
  obtain ⟨aD, cD, rfl⟩ := edInts_len hd
  obtain ⟨x1, x2, x3, A, D⟩ := x
  simp only at ha hd HCK ⊢
  obtain ⟨LA, hLA⟩ : ∃ L, A.length = L := ⟨_, rfl⟩
  obtain ⟨LD, hLD⟩ : ∃ L, D.length = L := ⟨_, rfl⟩
  have HB := Lib.hid ((Below.refl w.heap.size w).alloc (Nat.le_refl _) (.cells #[.int .i64 x1, .int .i64 x2, .int .i64 x3, .slice aA LA cA, .slice aD LD cD] 25))
  have HX0 := Lib.hid (BlkAt.new w #[.int .i64 x1, .int .i64 x2, .int .i64 x3, .slice aA LA cA, .slice aD LD cD] 25)
  have HLA := Lib.hid hLA
  have HLD := Lib.hid hLD
  rw [hLA] at ha HCK ⊢
  rw [hLD] at hd HCK ⊢
  have HRA := Lib.hid ha
  have HRD := Lib.hid hd
  have HC1 := Lib.hid (HCK.out _ HB.out)
  clear ha hd HCK hok
  by_cases hm : mayE ⟨x1, x2, x3, A, D⟩
  · obtain rfl : C = 0 := by rw [← hC]; exact if_pos hm
    obtain ⟨⟨⟨a1, a2⟩, ⟨a3, a4⟩, ⟨a5, a6⟩⟩, ⟨a7, a8⟩, HMF, HMD⟩ := id hm
    simp only at a1 a2 a3 a4 a5 a6 a7 a8 HMF HMD
    rw [hLA] at a7
    rw [hLD] at a8
    have HF := Lib.hid HMF
    have HD := Lib.hid HMD
    have HPX := Lib.hid (fun W => edPutN_any x1 a1 a2 W)
    have HPL := Lib.hid (fun W => edPutN_any x2 a3 a4 W)
    have HPS := Lib.hid (fun W => edPutN_any x3 a5 a6 W)
    have HPA : Hid (∀ W, Calls Try.prog 15 #[.int .i64 (LA : Int)] W (MkB (putN LA) W)) := Lib.hid (fun W => edPutN_any (LA : Int) (by omega) (by omega) W)
    have HPD : Hid (∀ W, Calls Try.prog 15 #[.int .i64 (LD : Int)] W (MkB (putN LD) W)) := Lib.hid (fun W => edPutN_any (LD : Int) (by omega) (by omega) W)
    obtain ⟨R, hR⟩ : ∃ R, edtB ⟨x1, x2, x3, A, D⟩ = R := ⟨_, rfl⟩
    rw [hR]
    obtain ⟨H, hH⟩ : ∃ H, edHeadB ⟨x1, x2, x3, A, D⟩ = H := ⟨_, rfl⟩
    have HRR : Hid (R = (H ++ A.flatMap tbfB) ++ (putN LD ++ D.flatMap edNumB)) := Lib.hid (by rw [← hR, ← hH, ← hLD]; simp [edtB])
    have HE : Hid ([edNumB x1, edNumB x2, edNumB x3, putN LA].flatMap id = H) := Lib.hid (by rw [← hH, ← hLA]; simp [edHeadB])
    have hHL : H.length ≤ 40 := by
      have b1 := edNumB_len x1
      have b2 := edNumB_len x2
      have b3 := edNumB_len x3
      have b4 := (putN_len LA).2
      rw [← HE.out]; simp; omega
    have HEL : Hid (([edNumB x1, edNumB x2, edNumB x3, putN LA].flatMap id).length ≤ 1000000000000) := Lib.hid (by rw [HE.out]; omega)
    have hpd := (putN_len LD).2
    have HYES := Lib.hid hm
    clear hm hC hR hH HMF HMD hLA hLD
    generalize edNumB x1 = PX at *
    generalize edNumB x2 = PL at *
    generalize edNumB x3 = PS at *
    generalize putN LA = PA at *
    generalize putN LD = PD at *
    go_enter Try.func8, Try.ntmps8
    go_wp2_with fail
    refine HC1.out.mono ?_
    rintro e w1 ⟨rfl, b1⟩
    have HBW := Lib.hid (HB.out.trans (b1.mono HB.out.size))
    have HX := HX0.out.below b1
    have HXW := Lib.hid HX
    have B : Below w1.heap.size w1 w1 := Below.refl _ _
    clear b1 HC1 HB HX0
    obtain ⟨b, hbq⟩ : ∃ b, w.heap.size = b := ⟨_, rfl⟩
    rw [hbq] at HX ⊢
    go_wp2_with fail
    refine wp_region_held_drew (S := Below w1.heap.size w1) (by kernel_rfl) (Below.refl _ _).drew (fun hHeld => ?_)
    generalize w1.drew = wd2 at hHeld ⊢
    refine wpAnyH_shift hHeld ?_
    replace B : Below w1.heap.size w1 wd2 := B.trans (hHeld.mono B.size)
    replace HX := HX.below hHeld
    clear hHeld
    refine takeYes (i := 0) (k := 15) (v := .pointer (some ⟨b, 0, none⟩)) rfl (by kernel_rfl) (by kernel_rfl) (by kernel_rfl) (by kernel_rfl) (fun _ _ _ h => h) (by kernel_rfl) ?_ (Below.refl _ _) ?_
    · intro W hSw; first | (go_simp; done) | go_simp
    try simp only [Act.put, List.setIfInBounds_toArray, List.set_cons_zero, List.set_cons_succ]
    refine takeYes (i := 1) (k := 16) (v := .int .i64 x1) rfl (by kernel_rfl) (by kernel_rfl) (by kernel_rfl) (by kernel_rfl) (fun _ _ _ h => h) (by kernel_rfl) ?_ (Below.refl _ _) ?_
    · intro W hSw; have d0 : W.cell? ⟨b, 0, none⟩ = some (.int .i64 x1) := (HX.below hSw).at 0; first | (go_simp; done) | go_simp
    try simp only [Act.put, List.setIfInBounds_toArray, List.set_cons_zero, List.set_cons_succ]
    refine takeYes (i := 3) (k := 18) (v := .pointer (some ⟨b, 1, none⟩)) rfl (by kernel_rfl) (by kernel_rfl) (by kernel_rfl) (by kernel_rfl) (fun _ _ _ h => h) (by kernel_rfl) ?_ (Below.refl _ _) ?_
    · intro W hSw; first | (go_simp; done) | go_simp
    try simp only [Act.put, List.setIfInBounds_toArray, List.set_cons_zero, List.set_cons_succ]
    refine takeYes (i := 4) (k := 19) (v := .int .i64 x2) rfl (by kernel_rfl) (by kernel_rfl) (by kernel_rfl) (by kernel_rfl) (fun _ _ _ h => h) (by kernel_rfl) ?_ (Below.refl _ _) ?_
    · intro W hSw; have d1 : W.cell? ⟨b, 1, none⟩ = some (.int .i64 x2) := (HX.below hSw).at 1; first | (go_simp; done) | go_simp
    try simp only [Act.put, List.setIfInBounds_toArray, List.set_cons_zero, List.set_cons_succ]
    refine takeYes (i := 6) (k := 21) (v := .pointer (some ⟨b, 2, none⟩)) rfl (by kernel_rfl) (by kernel_rfl) (by kernel_rfl) (by kernel_rfl) (fun _ _ _ h => h) (by kernel_rfl) ?_ (Below.refl _ _) ?_
    · intro W hSw; first | (go_simp; done) | go_simp
    try simp only [Act.put, List.setIfInBounds_toArray, List.set_cons_zero, List.set_cons_succ]
    refine takeYes (i := 7) (k := 22) (v := .int .i64 x3) rfl (by kernel_rfl) (by kernel_rfl) (by kernel_rfl) (by kernel_rfl) (fun _ _ _ h => h) (by kernel_rfl) ?_ (Below.refl _ _) ?_
    · intro W hSw; have d2 : W.cell? ⟨b, 2, none⟩ = some (.int .i64 x3) := (HX.below hSw).at 2; first | (go_simp; done) | go_simp
    try simp only [Act.put, List.setIfInBounds_toArray, List.set_cons_zero, List.set_cons_succ]
    refine takeYes (i := 9) (k := 24) (v := .pointer (some ⟨b, 3, none⟩)) rfl (by kernel_rfl) (by kernel_rfl) (by kernel_rfl) (by kernel_rfl) (fun _ _ _ h => h) (by kernel_rfl) ?_ (Below.refl _ _) ?_
    · intro W hSw; first | (go_simp; done) | go_simp
    try simp only [Act.put, List.setIfInBounds_toArray, List.set_cons_zero, List.set_cons_succ]
    refine takeYes (i := 10) (k := 25) (v := .slice aA LA cA) rfl (by kernel_rfl) (by kernel_rfl) (by kernel_rfl) (by kernel_rfl) (fun _ _ _ h => h) (by kernel_rfl) ?_ (Below.refl _ _) ?_
    · intro W hSw; have d3 : W.cell? ⟨b, 3, none⟩ = some (.slice aA LA cA) := (HX.below hSw).at 3; first | (go_simp; done) | go_simp
    try simp only [Act.put, List.setIfInBounds_toArray, List.set_cons_zero, List.set_cons_succ]
    refine takeYes (i := 11) (k := 26) (v := .int .i64 (LA : Int)) rfl (by kernel_rfl) (by kernel_rfl) (by kernel_rfl) (by kernel_rfl) (fun _ _ _ h => h) (by kernel_rfl) ?_ (Below.refl _ _) ?_
    · intro W hSw; first | (go_simp; done) | go_simp
    try simp only [Act.put, List.setIfInBounds_toArray, List.set_cons_zero, List.set_cons_succ]
    refine wpAnyH_ready (rs := [2]) (by kernel_rfl) (by simp) (AllReadyH.cons rfl (fun K hK => ?_) AllReadyH.nil)
    go_simp
    refine (HPX.out _).mono ?_
    rintro e wd3 ⟨v17, rfl, o17, hb3⟩
    obtain ⟨a17, n17, c17, rfl, -⟩ := id o17.form
    have R17 := OwnB.rd o17
    clear o17
    refine hK.out _ _ hb3 (fun _ => wpAnyH_shift hb3 ?_)
    clear hK K
    replace B : Below w1.heap.size w1 wd3 := B.trans (hb3.mono B.size)
    replace HX := HX.below hb3
    clear hb3
    try simp only [Act.put, List.setIfInBounds_toArray, List.set_cons_zero, List.set_cons_succ]
    refine wpAnyH_ready (rs := [5]) (by kernel_rfl) (by simp) (AllReadyH.cons rfl (fun K hK => ?_) AllReadyH.nil)
    go_simp
    refine (HPL.out _).mono ?_
    rintro e wd4 ⟨v20, rfl, o20, hb4⟩
    obtain ⟨a20, n20, c20, rfl, -⟩ := id o20.form
    have R20 := OwnB.rd o20
    clear o20
    refine hK.out _ _ hb4 (fun _ => wpAnyH_shift hb4 ?_)
    clear hK K
    replace B : Below w1.heap.size w1 wd4 := B.trans (hb4.mono B.size)
    replace HX := HX.below hb4
    replace R17 := R17.below hb4
    clear hb4
    try simp only [Act.put, List.setIfInBounds_toArray, List.set_cons_zero, List.set_cons_succ]
    refine wpAnyH_ready (rs := [8]) (by kernel_rfl) (by simp) (AllReadyH.cons rfl (fun K hK => ?_) AllReadyH.nil)
    go_simp
    refine (HPS.out _).mono ?_
    rintro e wd5 ⟨v23, rfl, o23, hb5⟩
    obtain ⟨a23, n23, c23, rfl, -⟩ := id o23.form
    have R23 := OwnB.rd o23
    clear o23
    refine hK.out _ _ hb5 (fun _ => wpAnyH_shift hb5 ?_)
    clear hK K
    replace B : Below w1.heap.size w1 wd5 := B.trans (hb5.mono B.size)
    replace HX := HX.below hb5
    replace R17 := R17.below hb5
    replace R20 := R20.below hb5
    clear hb5
    try simp only [Act.put, List.setIfInBounds_toArray, List.set_cons_zero, List.set_cons_succ]
    refine wpAnyH_ready (rs := [12]) (by kernel_rfl) (by simp) (AllReadyH.cons rfl (fun K hK => ?_) AllReadyH.nil)
    go_simp
    refine (HPA.out _).mono ?_
    rintro e wd6 ⟨v27, rfl, o27, hb6⟩
    obtain ⟨a27, n27, c27, rfl, -⟩ := id o27.form
    have R27 := OwnB.rd o27
    clear o27
    refine hK.out _ _ hb6 (fun _ => wpAnyH_shift hb6 ?_)
    clear hK K
    replace B : Below w1.heap.size w1 wd6 := B.trans (hb6.mono B.size)
    replace HX := HX.below hb6
    replace R17 := R17.below hb6
    replace R20 := R20.below hb6
    replace R23 := R23.below hb6
    clear hb6
    try simp only [Act.put, List.setIfInBounds_toArray, List.set_cons_zero, List.set_cons_succ]
    refine wpAnyH_ready (rs := [13]) (by kernel_rfl) (by simp) (AllReadyH.cons rfl (fun K hK => ?_) AllReadyH.nil)
    go_simp
    have HC := Lib.hid (concat_any _ [PX, PL, PS, PA] ⟨HEL.out, by simp⟩ _ (rdRecs_row wd6 [.slice a17 n17 c17, .slice a20 n20 c20, .slice a23 n23 c23, .slice a27 n27 c27] _ (.cons R17 (.cons R20 (.cons R23 (.cons R27 .nil)))) _ rfl 4 rfl (by decide) (by unfold maxLen; decide)))
    rw [HE.out] at HC
    obtain ⟨hh17, hh17q⟩ : ∃ x, wd6.heap.size = x := ⟨_, rfl⟩
    obtain ⟨wd7, hwx⟩ : ∃ x, wd6.alloc (.cells #[.slice a17 n17 c17, .slice a20 n20 c20, .slice a23 n23 c23, .slice a27 n27 c27] 28) = x := ⟨_, rfl⟩
    rw [hwx] at HC ⊢
    rw [hh17q] at HC ⊢
    have hb7 : Below wd6.heap.size wd6 wd7 := by rw [← hwx]; exact (Below.refl _ _).alloc (Nat.le_refl _) _
    clear hwx hh17q
    refine hK.out _ _ hb7 (fun _ => wpAnyH_shift hb7 ?_)
    clear hK K
    replace B : Below w1.heap.size w1 wd7 := B.trans (hb7.mono B.size)
    replace HX := HX.below hb7
    replace R17 := R17.below hb7
    replace R20 := R20.below hb7
    replace R23 := R23.below hb7
    replace R27 := R27.below hb7
    clear hb7
    try simp only [Act.put, List.setIfInBounds_toArray, List.set_cons_zero, List.set_cons_succ]
    refine wpAnyH_ready (rs := [14]) (by kernel_rfl) (by simp) (AllReadyH.cons rfl (fun K hK => ?_) AllReadyH.nil)
    go_simp
    refine (HC.out).mono ?_
    rintro e wd8 ⟨v29, rfl, o29, hb8⟩
    obtain ⟨a29, n29, c29, rfl, -⟩ := id o29.form
    have OO := OwnB.base (B' := w1.heap.size) o29 B.size
    clear HC
    refine hK.out _ _ hb8 (fun _ => wpAnyH_shift hb8 ?_)
    clear hK K
    replace B : Below w1.heap.size w1 wd8 := B.trans (hb8.mono B.size)
    replace HX := HX.below hb8
    replace R17 := R17.below hb8
    replace R20 := R20.below hb8
    replace R23 := R23.below hb8
    replace R27 := R27.below hb8
    clear hb8
    try simp only [Act.put, List.setIfInBounds_toArray, List.set_cons_zero, List.set_cons_succ]
    refine takeYes (i := 15) (k := 5) (v := .slice a29 n29 c29) rfl (by kernel_rfl) (by kernel_rfl) (by kernel_rfl) (by kernel_rfl) (fun _ _ _ h => h) (by kernel_rfl) ?_ (Below.refl _ _) ?_
    · intro W hSw; first | (go_simp; done) | go_simp
    try simp only [Act.put, List.setIfInBounds_toArray, List.set_cons_zero, List.set_cons_succ]
    refine wpAnyH_done (by kernel_rfl) ?_ _
    rw [← hbq] at HX ⊢
    clear hbq
    have HB1 := Lib.hid B
    have HO1 := Lib.hid OO
    obtain ⟨d0, d1, d2, d3, d4, -, -, -, -, -⟩ := HX.cells5
    clear B HX OO R17 R20 R23 R27 HPX HPL HPS HPA HE HEL
    have HRA1 := Lib.hid (HRA.out.below (HBW.out.mono (Nat.le_refl _)))
    go_wp2_with fail
    clear d0 d1 d2 d3 d4
    go_loopg [33, 5] LA (fun kk vi vb wr => ∃ (i : Nat) (L : List UInt8) (ab : Option Addr) (nb cb : Nat), vi = .int .i64 (i : Int) ∧ vb = .slice ab nb cb ∧ i ≤ LA ∧ LA - i ≤ kk ∧ L.length ≤ 40 + i * 26100 ∧ Hid (L = H ++ (A.take i).flatMap tbfB) ∧ Hid (OwnB w1.heap.size wr (.slice ab nb cb) L) ∧ Hid (Below w1.heap.size w1 wr))
    case atStart => exact ⟨0, H, _, _, _, rfl, rfl, by omega, by omega, by omega, Lib.hid (by simp), HO1, HB1⟩
    case round =>
      clear HO1 HB1
      obtain ⟨q, L, ab, nb, cb, rfl, rfl, hq, hkk, hLl, HL, HO, HB⟩ := hrel
      by_cases h1 : q < LA
      · have hd1 : (q : Int) < (LA : Int) := by omega
        have hd0 : (0 : Int) ≤ (q : Int) := by omega
        obtain ⟨f, hf⟩ : ∃ f, A[q]? = some f := ⟨A[q]'(by have := HLA.out; omega), List.getElem?_eq_getElem _⟩
        have hnf := HF.out f (List.mem_of_getElem? hf)
        have HTK := Lib.hid (edFlat_take (B := tbfB) hf)
        have hfl := tbfB_len hnf
        obtain ⟨bA, off, rfl, hblt, d0, d1, d2, d3, d4⟩ := (HRA1.out.below HB.out).atTbf q f hf
        have HPF := Lib.hid (fun W => edPutF_any f hnf W)
        clear hf hnf
        have hal : Below wr.heap.size wr (wr.alloc (.cells #[.int .i64 f.num, .int .i64 f.lvl, .int .i64 f.siz, .string f.lo, .string f.hi] 39)) := (Below.refl _ wr).alloc (Nat.le_refl _) _
        have HB2 := Lib.hid (And.intro (HB.out.trans (hal.mono HB.out.size)) (HO.out.below hal))
        clear hal HO HB
        generalize tbfB f = FB at *
        obtain ⟨y1, y2, y3, y4, y5⟩ := f
        unfold Tbf.v at HPF
        simp only at d0 d1 d2 d3 d4 HPF HB2
        go_wp2_with fail
        refine (HPF.out _).mono ?_
        rintro e w2 ⟨v2, rfl, o2, b2⟩
        have HB3 := Lib.hid (And.intro (HB2.out.1.trans (b2.mono HB2.out.1.size)) (And.intro (HB2.out.2.below b2) o2.rd))
        clear o2 b2 HB2 HPF d0 d1 d2 d3 d4
        have hLq : q * 26100 ≤ 5220000 := by omega
        go_wp2_with (at_builtin; refine wp_appSB _ _ (by rfl) (by rfl) (by rfl) HB3.out.2.1 (by rfl) HB3.out.2.2 ?c1 HB3.out.1.size ?_)
        case c1 => omega
        intro v3 w3 o3 b3
        obtain ⟨a3, n3, c3, rfl, -⟩ := o3.form
        have HO4 := Lib.hid o3
        have HB4 := Lib.hid (HB3.out.1.trans b3)
        clear o3 b3 HB3
        go_wp2_with fail
        go_roundg (LA - (q + 1))
        case measure => omega
        case rel => exact ⟨q + 1, _, a3, n3, c3, by go_num, rfl, by omega, Nat.le_refl _, by rw [List.length_append]; omega, Lib.hid (by rw [HTK.out, HL.out, List.append_assoc]), HO4, HB4⟩
      · have hd1 : ¬ (q : Int) < (LA : Int) := by omega
        obtain rfl : q = LA := by omega
        have hLA : L = H ++ A.flatMap tbfB := by rw [HL.out, List.take_of_length_le (by have := HLA.out; omega)]
        have HRL : Hid (R = L ++ (PD ++ D.flatMap edNumB)) := Lib.hid (by rw [HRR.out, hLA])
        have hLm : L.length ≤ 5300000 := by omega
        clear HL hLA HRR hLl hHL HF HRA HRA1 hq hkk
        obtain ⟨d0, d1, d2, d3, d4, -, -, -, -, -⟩ := (HXW.out.below HB.out).cells5
        go_wp2_with fail
        refine (HPD.out _).mono ?_
        rintro e w2 ⟨v2, rfl, o2, b2⟩
        have HB3 := Lib.hid (And.intro (HB.out.trans (b2.mono HB.out.size)) (And.intro (HO.out.below b2) o2.rd))
        clear o2 b2 HPD HO HB d0 d1 d2 d3 d4
        go_wp2_with (at_builtin; refine wp_appSB _ _ (by rfl) (by rfl) (by rfl) HB3.out.2.1 (by rfl) HB3.out.2.2 ?c1 HB3.out.1.size ?_)
        case c1 => omega
        intro v3 w3 o3 b3
        obtain ⟨a3, n3, c3, rfl, -⟩ := o3.form
        have HO1 := Lib.hid o3
        have HB1 := Lib.hid (HB3.out.1.trans b3)
        clear o3 b3 HB3
        obtain ⟨d0, d1, d2, d3, d4, -, -, -, -, -⟩ := (HXW.out.below HB1.out).cells5
        have HRD1 := Lib.hid (RdV.below HRD.out HBW.out)
        clear HRD
        have hpl : (L ++ PD).length ≤ 5300010 := by rw [List.length_append]; omega
        have HRM : Hid (R = (L ++ PD) ++ D.flatMap edNumB) := Lib.hid (by rw [HRL.out, List.append_assoc])
        clear HRL
        generalize L ++ PD = M at *
        go_wp2_with fail
        clear d0 d1 d2 d3 d4
        go_loopg [51, 5] LD (fun kk vi vb wr => ∃ (i : Nat) (L : List UInt8) (ab : Option Addr) (nb cb : Nat), vi = .int .i64 (i : Int) ∧ vb = .slice ab nb cb ∧ i ≤ LD ∧ LD - i ≤ kk ∧ L.length ≤ 5300010 + i * 10 ∧ Hid (L = M ++ (D.take i).flatMap edNumB) ∧ Hid (OwnB w1.heap.size wr (.slice ab nb cb) L) ∧ Hid (Below w1.heap.size w1 wr))
        case atStart => exact ⟨0, M, _, _, _, rfl, rfl, by omega, by omega, by omega, Lib.hid (by simp), HO1, HB1⟩
        case round =>
          clear HO1 HB1
          obtain ⟨p, L, ab, nb, cb, rfl, rfl, hp, hkk, hLl, HL, HO, HB⟩ := hrel
          by_cases h2 : p < LD
          · have hd1 : (p : Int) < (LD : Int) := by omega
            have hd0 : (0 : Int) ≤ (p : Int) := by omega
            obtain ⟨n, hn⟩ : ∃ n, D[p]? = some n := ⟨D[p]'(by have := HLD.out; omega), List.getElem?_eq_getElem _⟩
            have hnn := HD.out n (List.mem_of_getElem? hn)
            have HTK := Lib.hid (edFlat_take (B := edNumB) hn)
            have hnl := edNumB_len n
            obtain ⟨bD, off, rfl, hblt, d0⟩ := edInts_at (RdV.below HRD1.out HB.out) p n hn
            have HPF := Lib.hid (fun W => edPutN_any n (by unfold badTab at hnn; omega) (by unfold badTab at hnn; omega) W)
            clear hn hnn
            generalize edNumB n = FB at *
            go_wp2_with fail
            refine (HPF.out _).mono ?_
            rintro e w4 ⟨v4, rfl, o4, b4⟩
            have HB5 := Lib.hid (And.intro (HB.out.trans (b4.mono HB.out.size)) (And.intro (HO.out.below b4) o4.rd))
            clear o4 b4 HPF HO HB d0
            go_wp2_with (at_builtin; refine wp_appSB _ _ (by rfl) (by rfl) (by rfl) HB5.out.2.1 (by rfl) HB5.out.2.2 ?c1 HB5.out.1.size ?_)
            case c1 => omega
            intro v5 w5 o5 b5
            obtain ⟨a5', n5, c5, rfl, -⟩ := o5.form
            have HO6 := Lib.hid o5
            have HB6 := Lib.hid (HB5.out.1.trans b5)
            clear o5 b5 HB5
            go_wp2_with fail
            go_roundg (LD - (p + 1))
            case measure => omega
            case rel => exact ⟨p + 1, _, a5', n5, c5, by go_num, rfl, by omega, Nat.le_refl _, by rw [List.length_append]; omega, Lib.hid (by rw [HTK.out, HL.out, List.append_assoc]), HO6, HB6⟩
          · have hd1 : ¬ (p : Int) < (LD : Int) := by omega
            obtain rfl : p = LD := by omega
            have HRL : Hid (R = L) := Lib.hid (by rw [HRM.out, HL.out, List.take_of_length_le (by have := HLD.out; omega)])
            clear HL HRM
            go_wp2_with fail
            go_ret2
            exact ⟨_, rfl, fun _ => by rw [HRL.out]; exact HO.out.base HBW.out.size, fun h => absurd HYES.out h, HBW.out.trans (HB.out.mono HBW.out.size)⟩
  · obtain rfl : C = 12 := by rw [← hC]; exact if_neg hm
    have HNO := Lib.hid hm
    clear hm hC hLA hLD HRA HRD HLA HLD
    go_enter Try.func8, Try.ntmps8
    go_wp2_with fail
    refine HC1.out.mono ?_
    rintro e w1 ⟨rfl, b1⟩
    have HBW := Lib.hid (HB.out.trans (b1.mono HB.out.size))
    clear b1 HC1 HB HX0
    go_wp2_with fail
    go_ret2
    exact ⟨_, rfl, fun h => absurd h HNO.out, fun _ => rfl, HBW.out⟩
end Go.Proofs.Ytpaoabdjbdlalaa
