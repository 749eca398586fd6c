/- The walk of Check. -/
import Derived.Test.YtpaoabdjbdlalaaEdtFnd
namespace Go.Proofs.Ytpaoabdjbdlalaa
set_option linter.unusedVariables false
set_option maxRecDepth 100000
open Go.RowKit
/-- v is an edit that reads as e. -/
def EdAt (w : World) (v : Value) (e : Edt) : Prop := ∃ va vd, v = .agg #[.int .i64 e.nxt, .int .i64 e.lg, .int .i64 e.lst, va, vd] ∧ RdK encTbf 5 w va e.adds ∧ RdV w vd (e.dels.map encI64)
theorem EdAt.below {w w' : World} {v : Value} {e : Edt} (h : EdAt w v e) (hb : Below w.heap.size w w') : EdAt w' v e := by
  obtain ⟨va, vd, rfl, h1, h2⟩ := h
  exact ⟨va, vd, rfl, h1.below hb, RdV.below h2 hb⟩
def Edt.ok (e : Edt) : Prop := (∀ f ∈ e.adds, f.ok) ∧ e.adds.length ≤ 1000000000000 ∧ e.dels.length ≤ 1000000000000
def chkE (e : Edt) : Int := if mayE e then 0 else 12
def ChkRes (w : World) (c : Int) (e : Ending) (w' : World) : Prop := e = .returned (.int .i64 c) ∧ Below w.heap.size w w'
theorem BlkAt5.c4 (w : World) (v0 v1 v2 v3 v4 : Value) (t : TypeId) : (w.alloc (.cells #[v0, v1, v2, v3, v4] t)).cell? ⟨w.heap.size, 4, none⟩ = some v4 := by
  unfold World.cell?; rw [heap_alloc_new]; rfl
set_option maxHeartbeats 8000000 in
theorem edCheck_any (v : Value) (x : Edt) (hok : x.ok) (w : World) (h : EdAt w v x) : Calls Try.prog 10 #[v] w (ChkRes w (chkE x)) := by
  obtain ⟨va, vd, rfl, ha, hd⟩ := h
  obtain ⟨C, hC⟩ : ∃ C, chkE x = C := ⟨_, rfl⟩
  rw [hC]
  unfold ChkRes
  obtain ⟨hof, hl1, hl2⟩ := hok
  obtain ⟨x1, x2, x3, A, D⟩ := x
  simp only at ha hd hof hl1 hl2
  have HNO := Lib.hid (And.intro (fun h => by rw [← hC]; exact if_neg h : ¬ mayE ⟨x1, x2, x3, A, D⟩ → C = 12) (fun h => by rw [← hC]; exact if_pos h : mayE ⟨x1, x2, x3, A, D⟩ → C = 0))
  clear hC
  have HN : Hid (∀ (n : Int) (w : World), Calls Try.prog 17 #[.int .i64 n] w fun e w' => e = .returned (.bool (decide (okEdN n))) ∧ w' = w) := Lib.hid edIsnum_any
  have HF : Hid (∀ W, Below w.heap.size w W → Calls Try.prog 18 #[va, .func (.func 19) #[] #[]] W fun e w' => e = .returned (.bool (decide (∃ f ∈ A, badTb f))) ∧ Below W.heap.size W w') := Lib.hid fun W hW => conF_any va A hof hl1 W (ha.below hW)
  have HI : Hid (∀ W, Below w.heap.size w W → Calls Try.prog 20 #[vd, .func (.func 21) #[] #[]] W fun e w' => e = .returned (.bool (decide (∃ f ∈ D, badTab f))) ∧ Below W.heap.size W w') := Lib.hid fun W hW => conI_any vd D hl2 W (RdV.below hd hW)
  obtain ⟨aA, cA, rfl, -⟩ := edFl_len ha
  obtain ⟨aD, cD, rfl⟩ := edInts_len hd
  have HB := Lib.hid ((Below.refl w.heap.size w).alloc (Nat.le_refl _) (.cells #[.int .i64 x1, .int .i64 x2, .int .i64 x3, .slice aA A.length cA, .slice aD D.length cD] 25))
  obtain ⟨LA, hLA⟩ : ∃ L, A.length = L := ⟨_, rfl⟩
  obtain ⟨LD, hLD⟩ : ∃ L, D.length = L := ⟨_, rfl⟩
  have HL := Lib.hid (And.intro hLA hLD)
  rw [hLA] at HF HB hl1 ⊢
  rw [hLD] at HI HB hl2 ⊢
  clear ha hd hof hLA hLD
  by_cases o1 : okEdN x1
  rotate_left
  · have hno : ¬ mayE ⟨x1, x2, x3, A, D⟩ := fun h => o1 h.1.1
    obtain rfl : C = 12 := HNO.out.1 hno
    clear HNO
    have H1 : Hid (∀ (w : World), Calls Try.prog 17 #[.int .i64 x1] w fun e w' => e = .returned (.bool false) ∧ w' = w) := Lib.hid (by have := HN.out x1; rwa [decide_eq_false o1] at this)
    clear HN o1
    clear HF HI
    go_enter Try.func10, Try.ntmps10
    go_wp2_with fail
    refine (H1.out _).mono ?_
    rintro e w' ⟨rfl, rfl⟩
    clear H1
    go_wp2_with fail
    go_ret
    exact ⟨rfl, HB.out⟩
  by_cases o2 : okEdN x2
  rotate_left
  · have hno : ¬ mayE ⟨x1, x2, x3, A, D⟩ := fun h => o2 h.1.2.1
    obtain rfl : C = 12 := HNO.out.1 hno
    clear HNO
    have H1 : Hid (∀ (w : World), Calls Try.prog 17 #[.int .i64 x1] w fun e w' => e = .returned (.bool true) ∧ w' = w) := Lib.hid (by have := HN.out x1; rwa [decide_eq_true o1] at this)
    have H2 : Hid (∀ (w : World), Calls Try.prog 17 #[.int .i64 x2] w fun e w' => e = .returned (.bool false) ∧ w' = w) := Lib.hid (by have := HN.out x2; rwa [decide_eq_false o2] at this)
    clear HN o1 o2
    clear HF HI
    go_enter Try.func10, Try.ntmps10
    go_wp2_with fail
    refine (H1.out _).mono ?_
    rintro e w' ⟨rfl, rfl⟩
    clear H1
    go_wp2_with fail
    refine (H2.out _).mono ?_
    rintro e w' ⟨rfl, rfl⟩
    clear H2
    go_wp2_with fail
    go_ret
    exact ⟨rfl, HB.out⟩
  by_cases o3 : okEdN x3
  rotate_left
  · have hno : ¬ mayE ⟨x1, x2, x3, A, D⟩ := fun h => o3 h.1.2.2
    obtain rfl : C = 12 := HNO.out.1 hno
    clear HNO
    have H1 : Hid (∀ (w : World), Calls Try.prog 17 #[.int .i64 x1] w fun e w' => e = .returned (.bool true) ∧ w' = w) := Lib.hid (by have := HN.out x1; rwa [decide_eq_true o1] at this)
    have H2 : Hid (∀ (w : World), Calls Try.prog 17 #[.int .i64 x2] w fun e w' => e = .returned (.bool true) ∧ w' = w) := Lib.hid (by have := HN.out x2; rwa [decide_eq_true o2] at this)
    have H3 : Hid (∀ (w : World), Calls Try.prog 17 #[.int .i64 x3] w fun e w' => e = .returned (.bool false) ∧ w' = w) := Lib.hid (by have := HN.out x3; rwa [decide_eq_false o3] at this)
    clear HN o1 o2 o3
    clear HF HI
    go_enter Try.func10, Try.ntmps10
    go_wp2_with fail
    refine (H1.out _).mono ?_
    rintro e w' ⟨rfl, rfl⟩
    clear H1
    go_wp2_with fail
    refine (H2.out _).mono ?_
    rintro e w' ⟨rfl, rfl⟩
    clear H2
    go_wp2_with fail
    refine (H3.out _).mono ?_
    rintro e w' ⟨rfl, rfl⟩
    clear H3
    go_wp2_with fail
    go_ret
    exact ⟨rfl, HB.out⟩
  have HO := Lib.hid (And.intro o1 (And.intro o2 o3))
  by_cases lA : 200 < LA
  · have hno : ¬ mayE ⟨x1, x2, x3, A, D⟩ := fun h => by have h' : A.length ≤ 200 := h.2.1.1; rw [HL.out.1] at h'; omega
    have hi : (200 : Int) < (LA : Int) := by omega
    obtain rfl : C = 12 := HNO.out.1 hno
    clear HNO
    have H1 : Hid (∀ (w : World), Calls Try.prog 17 #[.int .i64 x1] w fun e w' => e = .returned (.bool true) ∧ w' = w) := Lib.hid (by have := HN.out x1; rwa [decide_eq_true o1] at this)
    have H2 : Hid (∀ (w : World), Calls Try.prog 17 #[.int .i64 x2] w fun e w' => e = .returned (.bool true) ∧ w' = w) := Lib.hid (by have := HN.out x2; rwa [decide_eq_true o2] at this)
    have H3 : Hid (∀ (w : World), Calls Try.prog 17 #[.int .i64 x3] w fun e w' => e = .returned (.bool true) ∧ w' = w) := Lib.hid (by have := HN.out x3; rwa [decide_eq_true o3] at this)
    clear HN o1 o2 o3
    clear HF HI
    go_enter Try.func10, Try.ntmps10
    go_wp2_with fail
    refine (H1.out _).mono ?_
    rintro e w' ⟨rfl, rfl⟩
    clear H1
    go_wp2_with fail
    refine (H2.out _).mono ?_
    rintro e w' ⟨rfl, rfl⟩
    clear H2
    go_wp2_with fail
    refine (H3.out _).mono ?_
    rintro e w' ⟨rfl, rfl⟩
    clear H3
    go_wp2_with fail
    go_ret
    exact ⟨rfl, HB.out⟩
  by_cases lD : 200 < LD
  · have hno : ¬ mayE ⟨x1, x2, x3, A, D⟩ := fun h => by have h' : D.length ≤ 200 := h.2.1.2; rw [HL.out.2] at h'; omega
    have hi : (200 : Int) < (LD : Int) := by omega
    have hiA : ¬ (200 : Int) < (LA : Int) := by omega
    obtain rfl : C = 12 := HNO.out.1 hno
    clear HNO
    have H1 : Hid (∀ (w : World), Calls Try.prog 17 #[.int .i64 x1] w fun e w' => e = .returned (.bool true) ∧ w' = w) := Lib.hid (by have := HN.out x1; rwa [decide_eq_true o1] at this)
    have H2 : Hid (∀ (w : World), Calls Try.prog 17 #[.int .i64 x2] w fun e w' => e = .returned (.bool true) ∧ w' = w) := Lib.hid (by have := HN.out x2; rwa [decide_eq_true o2] at this)
    have H3 : Hid (∀ (w : World), Calls Try.prog 17 #[.int .i64 x3] w fun e w' => e = .returned (.bool true) ∧ w' = w) := Lib.hid (by have := HN.out x3; rwa [decide_eq_true o3] at this)
    clear HN o1 o2 o3
    clear HF HI
    go_enter Try.func10, Try.ntmps10
    go_wp2_with fail
    refine (H1.out _).mono ?_
    rintro e w' ⟨rfl, rfl⟩
    clear H1
    go_wp2_with fail
    refine (H2.out _).mono ?_
    rintro e w' ⟨rfl, rfl⟩
    clear H2
    go_wp2_with fail
    refine (H3.out _).mono ?_
    rintro e w' ⟨rfl, rfl⟩
    clear H3
    go_wp2_with fail
    go_ret
    exact ⟨rfl, HB.out⟩
  have hiA : ¬ (200 : Int) < (LA : Int) := by omega
  have hiD : ¬ (200 : Int) < (LD : Int) := by omega
  by_cases oF : ∃ f ∈ A, badTb f
  · have hno : ¬ mayE ⟨x1, x2, x3, A, D⟩ := fun h => by obtain ⟨f, hf, hb⟩ := oF; exact h.2.2.1 f hf hb
    obtain rfl : C = 12 := HNO.out.1 hno
    clear HNO
    have H1 : Hid (∀ (w : World), Calls Try.prog 17 #[.int .i64 x1] w fun e w' => e = .returned (.bool true) ∧ w' = w) := Lib.hid (by have := HN.out x1; rwa [decide_eq_true o1] at this)
    have H2 : Hid (∀ (w : World), Calls Try.prog 17 #[.int .i64 x2] w fun e w' => e = .returned (.bool true) ∧ w' = w) := Lib.hid (by have := HN.out x2; rwa [decide_eq_true o2] at this)
    have H3 : Hid (∀ (w : World), Calls Try.prog 17 #[.int .i64 x3] w fun e w' => e = .returned (.bool true) ∧ w' = w) := Lib.hid (by have := HN.out x3; rwa [decide_eq_true o3] at this)
    clear HN o1 o2 o3
    clear HI
    go_enter Try.func10, Try.ntmps10
    go_wp2_with fail
    refine (H1.out _).mono ?_
    rintro e w' ⟨rfl, rfl⟩
    clear H1
    go_wp2_with fail
    refine (H2.out _).mono ?_
    rintro e w' ⟨rfl, rfl⟩
    clear H2
    go_wp2_with fail
    refine (H3.out _).mono ?_
    rintro e w' ⟨rfl, rfl⟩
    clear H3
    go_wp2_with fail
    refine (HF.out _ HB.out).mono ?_
    rintro e w2 ⟨rfl, hb2⟩
    have HB2 := Lib.hid (HB.out.trans (hb2.mono HB.out.size))
    have hx4 := (hb2.cell (p := ⟨w.heap.size, 4, none⟩) (by simp)).trans (BlkAt5.c4 w _ _ _ _ _ 25)
    rw [decide_eq_true oF]
    clear hb2 HF oF
    go_wp2_with fail
    go_ret
    exact ⟨rfl, HB2.out⟩
  by_cases oI : ∃ n ∈ D, badTab n
  · have hno : ¬ mayE ⟨x1, x2, x3, A, D⟩ := fun h => by obtain ⟨f, hf, hb⟩ := oI; exact h.2.2.2 f hf hb
    obtain rfl : C = 12 := HNO.out.1 hno
    clear HNO
    have H1 : Hid (∀ (w : World), Calls Try.prog 17 #[.int .i64 x1] w fun e w' => e = .returned (.bool true) ∧ w' = w) := Lib.hid (by have := HN.out x1; rwa [decide_eq_true o1] at this)
    have H2 : Hid (∀ (w : World), Calls Try.prog 17 #[.int .i64 x2] w fun e w' => e = .returned (.bool true) ∧ w' = w) := Lib.hid (by have := HN.out x2; rwa [decide_eq_true o2] at this)
    have H3 : Hid (∀ (w : World), Calls Try.prog 17 #[.int .i64 x3] w fun e w' => e = .returned (.bool true) ∧ w' = w) := Lib.hid (by have := HN.out x3; rwa [decide_eq_true o3] at this)
    clear HN o1 o2 o3
    go_enter Try.func10, Try.ntmps10
    go_wp2_with fail
    refine (H1.out _).mono ?_
    rintro e w' ⟨rfl, rfl⟩
    clear H1
    go_wp2_with fail
    refine (H2.out _).mono ?_
    rintro e w' ⟨rfl, rfl⟩
    clear H2
    go_wp2_with fail
    refine (H3.out _).mono ?_
    rintro e w' ⟨rfl, rfl⟩
    clear H3
    go_wp2_with fail
    refine (HF.out _ HB.out).mono ?_
    rintro e w2 ⟨rfl, hb2⟩
    have HB2 := Lib.hid (HB.out.trans (hb2.mono HB.out.size))
    have hx4 := (hb2.cell (p := ⟨w.heap.size, 4, none⟩) (by simp)).trans (BlkAt5.c4 w _ _ _ _ _ 25)
    rw [decide_eq_false oF]
    clear hb2 HF oF
    go_wp2_with fail
    refine (HI.out _ HB2.out).mono ?_
    rintro e w3 ⟨rfl, hb3⟩
    have HB3 := Lib.hid (HB2.out.trans (hb3.mono HB2.out.size))
    rw [decide_eq_true oI]
    clear hb3 HI oI hx4
    go_wp2_with fail
    go_ret
    exact ⟨rfl, HB3.out⟩
  have hyes : mayE ⟨x1, x2, x3, A, D⟩ := ⟨HO.out, ⟨by show A.length ≤ 200; rw [HL.out.1]; omega, by show D.length ≤ 200; rw [HL.out.2]; omega⟩, fun f hf hb => oF ⟨f, hf, hb⟩, fun f hf hb => oI ⟨f, hf, hb⟩⟩
  obtain rfl : C = 0 := HNO.out.2 hyes
  clear HNO
  have H1 : Hid (∀ (w : World), Calls Try.prog 17 #[.int .i64 x1] w fun e w' => e = .returned (.bool true) ∧ w' = w) := Lib.hid (by have := HN.out x1; rwa [decide_eq_true o1] at this)
  have H2 : Hid (∀ (w : World), Calls Try.prog 17 #[.int .i64 x2] w fun e w' => e = .returned (.bool true) ∧ w' = w) := Lib.hid (by have := HN.out x2; rwa [decide_eq_true o2] at this)
  have H3 : Hid (∀ (w : World), Calls Try.prog 17 #[.int .i64 x3] w fun e w' => e = .returned (.bool true) ∧ w' = w) := Lib.hid (by have := HN.out x3; rwa [decide_eq_true o3] at this)
  clear HN o1 o2 o3
  go_enter Try.func10, Try.ntmps10
  go_wp2_with fail
  refine (H1.out _).mono ?_
  rintro e w' ⟨rfl, rfl⟩
  clear H1
  go_wp2_with fail
  refine (H2.out _).mono ?_
  rintro e w' ⟨rfl, rfl⟩
  clear H2
  go_wp2_with fail
  refine (H3.out _).mono ?_
  rintro e w' ⟨rfl, rfl⟩
  clear H3
  go_wp2_with fail
  refine (HF.out _ HB.out).mono ?_
  rintro e w2 ⟨rfl, hb2⟩
  have HB2 := Lib.hid (HB.out.trans (hb2.mono HB.out.size))
  have hx4 := (hb2.cell (p := ⟨w.heap.size, 4, none⟩) (by simp)).trans (BlkAt5.c4 w _ _ _ _ _ 25)
  rw [decide_eq_false oF]
  clear hb2 HF oF
  go_wp2_with fail
  refine (HI.out _ HB2.out).mono ?_
  rintro e w3 ⟨rfl, hb3⟩
  have HB3 := Lib.hid (HB2.out.trans (hb3.mono HB2.out.size))
  rw [decide_eq_false oI]
  clear hb3 HI oI hx4
  go_wp2_with fail
  go_ret
  exact ⟨rfl, HB3.out⟩
end Go.Proofs.Ytpaoabdjbdlalaa
