/- The laws' Cut of an edit: some tables and numbers, each text short. -/
import Derived.Test.YtpaoabdjbdlalaaEdtEqE
import Derived.Test.YtpaoabdjbdlalaaEdtDec
import Derived.Test.YtpaoabdjbdlalaaCutLaw
import Derived.StillTailTactics
namespace Go.Proofs.Ytpaoabdjbdlalaa
set_option linter.unusedVariables false
set_option maxRecDepth 100000
open Go.RowKit
theorem Two5.set0 {w0 w : World} {g : Nat} {u v : Array Value} {t : TypeId} (h : Two5 w0 w g u v t) (hg : w0.heap.size ≤ g) (o : Nat) (x : Value) : Two5 w0 (w.setCell ⟨g, o, none⟩ x) g (u.setIfInBounds o x) v t :=
  ⟨h.1.setCell hg x, h.2.1.set x, h.2.2.other x (by omega)⟩
theorem sl_hF (W : World) (a : Option Addr) (n cap k : Nat) (hc : k ≤ cap) :
    (Instr.sliceAt 22 (.slice a n cap) none (some (.int .i64 (k : Int))) none).run Try.prog W = .ok (.slice a k cap) W := by
  have hT : Try.prog.underlying 22 = some (.slice (Try.prog.elem 22)) := by kernel_rfl
  have hS : (sizeOf (Try.prog.elem 22)).run Try.prog W = .ok 5 W := by kernel_rfl
  rw [run_sliceAt_slice (h := hT), run_slice_h (w := W) (t := 22) (a := a) (len := n) (cap := cap) (ht := hT) (kh := .i64) (h := k) (h0 := by omega) (h2 := by omega), hS]
  have e : a.map (·.add 0) = a := map_add0 a
  simp [Result.andThen, sliced, e]
theorem sl_h64 (W : World) (a : Option Addr) (n cap k : Nat) (hc : k ≤ cap) :
    (Instr.sliceAt 23 (.slice a n cap) none (some (.int .i64 (k : Int))) none).run Try.prog W = .ok (.slice a k cap) W := by
  have hT : Try.prog.underlying 23 = some (.slice (Try.prog.elem 23)) := by kernel_rfl
  have hS : (sizeOf (Try.prog.elem 23)).run Try.prog W = .ok 1 W := by kernel_rfl
  rw [run_sliceAt_slice (h := hT), run_slice_h (w := W) (t := 23) (a := a) (len := n) (cap := cap) (ht := hT) (kh := .i64) (h := k) (h0 := by omega) (h2 := by omega), hS]
  have e : a.map (·.add 0) = a := map_add0 a
  simp [Result.andThen, sliced, e]
theorem edInts_take {w : World} {a : Option Addr} {n cap : Nat} {xs : List Int} (h : RdV w (.slice a n cap) (xs.map encI64)) (j : Nat) (hj : j ≤ n) : RdV w (.slice a j cap) ((xs.take j).map encI64) := by
  rw [List.map_take]
  rcases Nat.eq_zero_or_pos j with h0 | h0
  · subst h0; exact .inl ⟨a, cap, rfl, by simp⟩
  · rcases id h with ⟨_, _, e, e2⟩ | ⟨b, off, c, e, _⟩
    · simp only [Value.slice.injEq] at e; omega
    · simp only [Value.slice.injEq] at e
      obtain ⟨rfl, -, rfl⟩ := e
      exact rdV_take h j hj
theorem own_from {α : Type} {enc : α → List Value} {k E B : Nat} {w : World} {v : Value} {xs : List α} (h : OwnK enc k E B w v xs) : ∀ g, v.ownBlock = some g → B ≤ g := by
  intro g hg
  rcases h.blk with ⟨rfl, -⟩ | ⟨g', cap, cur, rfl, h2, -⟩
  · cases hg
  · obtain rfl : g' = g := Option.some.inj hg
    exact h2
/-- A short table. -/
def Tbf.short (f : Tbf) : Prop := f.lo.size ≤ 20 ∧ f.hi.size ≤ 20
def Edt.short (x : Edt) : Prop := x.adds.length ≤ 12 ∧ x.dels.length ≤ 12 ∧ ∀ f ∈ x.adds, f.short
theorem Edt.short.ok {x : Edt} (h : x.short) : x.ok := ⟨fun f hf => by obtain ⟨h1, h2⟩ := h.2.2 f hf; constructor <;> (unfold maxLen; omega), by have := h.1; omega, by have := h.2.1; omega⟩
/-- An edit that reads as y: its tables in a row of the call's own (blocks from B on), its numbers as they came in (at w0). -/
structure EdHalf (w0 : World) (B : Nat) (w : World) (va vd : Value) (y : Edt) : Prop where
  adds : OwnK encTbf 5 39 B w va y.adds
  dels : RdV w0 vd (y.dels.map encI64)
theorem EdHalf.at {w0 w : World} {B : Nat} {va vd : Value} {y : Edt} (h : EdHalf w0 B w va vd y) (b : Below w0.heap.size w0 w) : EdAt w (.agg #[.int .i64 y.nxt, .int .i64 y.lg, .int .i64 y.lst, va, vd]) y := ⟨va, vd, rfl, h.adds.rd encTbf_len, RdV.below h.dels b⟩
theorem EdHalf.below {w0 w w' : World} {B : Nat} {va vd : Value} {y : Edt} (h : EdHalf w0 B w va vd y) (b : Below w.heap.size w w') : EdHalf w0 B w' va vd y := ⟨h.adds.below b, h.dels⟩
/-- What Cut answers: a short edit. -/
def CutTo (w0 w : World) (e : Ending) (w' : World) : Prop := ∃ va vd y, e = .returned (.agg #[.int .i64 y.nxt, .int .i64 y.lg, .int .i64 y.lst, va, vd]) ∧ EdHalf w0 w.heap.size w' va vd y ∧ y.short ∧ Below w.heap.size w w'
set_option maxHeartbeats 16000000 in
theorem edCut_any (v : Value) (x : Edt) (hof : ∀ f ∈ x.adds, f.ok) (w0 w : World) (h : EdAt w0 v x) (hw0 : Below w0.heap.size w0 w) : Calls Try.prog 7 #[v] w (CutTo w0 w) := by
  obtain ⟨va, vd, rfl, ha, hd⟩ := h
  obtain ⟨aA, cA, rfl, hcA⟩ := edFl_len ha
  obtain ⟨aD, cD, rfl, hcD⟩ := edInts_lenC hd
  obtain ⟨x1, x2, x3, A, D⟩ := x
  simp only at ha hd hof hcA hcD ⊢
  obtain ⟨LA, hLA⟩ : ∃ N, A.length = N := ⟨_, rfl⟩
  obtain ⟨LD, hLD⟩ : ∃ N, D.length = N := ⟨_, rfl⟩
  have HLA := Lib.hid hLA
  have HLD := Lib.hid hLD
  rw [hLA] at ha hcA ⊢
  rw [hLD] at hd hcD ⊢
  have HRA := Lib.hid (ha.below hw0)
  have HRD := Lib.hid hd
  have HOF := Lib.hid hof
  have HX := Lib.hid (Two5.new w #[.int .i64 x1, .int .i64 x2, .int .i64 x3, .slice aA LA cA, .slice aD LD cD] #[.int .i64 0, .int .i64 0, .int .i64 0, .slice none 0 0, .slice none 0 0] 25)
  have hslA : 12 < LA → ∀ W, (Instr.sliceAt 22 (.slice aA LA cA) none (some (.int .i64 12)) none).run Try.prog W = .ok (.slice aA 12 cA) W := fun h W => sl_hF W aA LA cA 12 (by have := hcA (by omega); omega)
  have hslD : 12 < LD → ∀ W, (Instr.sliceAt 23 (.slice aD LD cD) none (some (.int .i64 12)) none).run Try.prog W = .ok (.slice aD 12 cD) W := fun h W => sl_h64 W aD LD cD 12 (by have := hcD (by omega); omega)
  have HSD := Lib.hid hslD
  have HSA := Lib.hid hslA
  clear ha hd hof hLA hLD hslD hslA hcA hcD hw0
  go_enter Try.func7, Try.ntmps7
  go_upto_if 9 with fail
  generalize hw2 : (w.alloc (.cells #[.int .i64 x1, .int .i64 x2, .int .i64 x3, .slice aA LA cA, .slice aD LD cD] 25)).alloc (.cells #[.int .i64 0, .int .i64 0, .int .i64 0, .slice none 0 0, .slice none 0 0] 25) = w2 at *
  clear hw2
  go_cut [] (fun wx => ∃ n' : Nat, n' ≤ 12 ∧ n' ≤ LA ∧ Hid (Two5 w wx w.heap.size #[.int .i64 x1, .int .i64 x2, .int .i64 x3, .slice aA n' cA, .slice aD LD cD] #[.int .i64 0, .int .i64 0, .int .i64 0, .slice none 0 0, .slice none 0 0] 25))
  case first =>
    as_aux_lemma =>
    obtain ⟨d0, d1, d2, d3, d4, f0, f1, f2, f3, f4⟩ := HX.out.2.1.cells5
    by_cases h12 : 12 < LA
    · have hi : (12 : Int) < (LA : Int) := by omega
      have hsl := HSA.out h12
      go_wp2_with fail
      go_meet
      exact ⟨12, by omega, by omega, Lib.hid (HX.out.set0 (Nat.le_refl _) 3 (.slice aA 12 cA))⟩
    · have hi : ¬ (12 : Int) < (LA : Int) := by omega
      go_wp2_with fail
      go_meet
      exact ⟨LA, by omega, by omega, HX⟩
  case rest =>
  obtain ⟨n', hn12, hnA, HX2⟩ := hcut
  have HRA2 := Lib.hid ((HRA.out.takeC n' hnA).below HX2.out.1)
  have HB1 := Lib.hid HX2.out.1
  have HSZ : Hid (w.heap.size + 1 < wc.heap.size) := Lib.hid HX2.out.2.2.lt
  have HOF2 : Hid (∀ f ∈ A.take n', f.ok) := Lib.hid fun f hf => HOF.out f (List.mem_of_mem_take hf)
  have HNT : Hid ((A.take n').length = n') := Lib.hid (by rw [List.length_take, HLA.out]; omega)
  clear HX HRA HSA HOF HLA
  generalize A.take n' = A2 at *
  go_wp2_with fail
  go_loopg [3, 4] n' (fun kk vl vi wr => ∃ (i : Nat) (ys : List Tbf) (al : Option Addr) (kl : Nat), vi = .int .i64 (i : Int) ∧ vl = .slice al i kl ∧ i ≤ n' ∧ n' - i ≤ kk ∧ ys.length = i ∧ Hid (∀ f ∈ ys, f.short) ∧ Hid (OwnK encTbf 5 39 wc.heap.size wr (.slice al i kl) ys ∧ Below wc.heap.size wc wr))
  case atStart => exact ⟨0, [], none, 0, rfl, rfl, by omega, by omega, rfl, Lib.hid (by simp), Lib.hid ⟨OwnK.nil _ _ _ _ _, Below.refl _ _⟩⟩
  case round =>
    obtain ⟨q, ys, al, kl, rfl, rfl, hq, hqk, hyl, HSH, HO⟩ := hrel
    have hwr := HO.out.2.size
    have HXR := Lib.hid (HX2.out.below HO.out.2)
    obtain ⟨d0, d1, d2, d3, d4, f0, f1, f2, f3, f4⟩ := HXR.out.2.1.cells5
    by_cases h1 : q < n'
    · have hq1 : (q : Int) < (n' : Int) := by omega
      have hq0 : (0 : Int) ≤ (q : Int) := by omega
      obtain ⟨f, hf⟩ : ∃ f, A2[q]? = some f := ⟨A2[q]'(by have := HNT.out; omega), List.getElem?_eq_getElem _⟩
      obtain ⟨b, off, rfl, hblt, e0, e1, e2, e3, e4⟩ := (HRA2.out.below HO.out.2).atTbf q f hf
      obtain ⟨k1, k2⟩ := HOF2.out f (List.mem_of_getElem? hf)
      obtain ⟨t1, n1, c1⟩ := cut_fix f.lo 20 (by omega) k1
      obtain ⟨t2, n2, c2⟩ := cut_fix f.hi 20 (by omega) k2
      have C1 := Lib.hid c1
      have C2 := Lib.hid c2
      have HN12 : Hid (t1.size ≤ 20 ∧ t2.size ≤ 20) := Lib.hid ⟨n1, n2⟩
      obtain ⟨y1, y2, y3, y4, y5⟩ := f
      simp only at e0 e1 e2 e3 e4 C1 C2
      clear hf k1 k2 c1 c2 n1 n2
      go_upto_region 8 with fail
      have HR1 : Hid (BlkAt (wr.alloc (.cells #[.int .i64 y1, .int .i64 y2, .int .i64 y3, .string y4, .string y5] 39)).drew wr.heap.size #[.int .i64 y1, .int .i64 y2, .int .i64 y3, .string y4, .string y5] 39) := Lib.hid (BlkAt.new wr _ _)
      have hal : Below wr.heap.size wr (wr.alloc (.cells #[.int .i64 y1, .int .i64 y2, .int .i64 y3, .string y4, .string y5] 39)).drew := ((Below.refl _ wr).alloc (Nat.le_refl _) _).drew
      have HS : Hid (∀ (v1 v2 : Value), Below wr.heap.size wr (((wr.alloc (.cells #[.int .i64 y1, .int .i64 y2, .int .i64 y3, .string y4, .string y5] 39)).drew.setCell ⟨wr.heap.size, 3, none⟩ v1).setCell ⟨wr.heap.size, 4, none⟩ v2)) := Lib.hid fun v1 v2 => (hal.setCell (p := ⟨wr.heap.size, 3, none⟩) (Nat.le_refl _) v1).setCell (p := ⟨wr.heap.size, 4, none⟩) (Nat.le_refl _) v2
      clear hal d0 d1 d2 d3 d4 e0 e1 e2 e3 e4 f0 f1 f2 f3 f4
      refine wp_region_still_tail 7 (by kernel_rfl) (by kernel_rfl) ?_
      change wpStill _ _ (World.drew _) (fun a => wpList _ _ _ _ a (World.drew _)) _ _
      simp only [List.take_succ_cons, List.take_zero, List.drop_succ_cons, List.drop_zero]
      generalize hg : wr.heap.size = g at HR1 HS ⊢
      generalize World.drew (wr.alloc _) = w3 at HR1 HS ⊢
      obtain ⟨a0, a1, a2, a3, a4, f0, f1, f2, f3, f4⟩ := HR1.out.cells5
      still_step
      still_step
      still_call (C1.out _)
      still_step
      still_step
      still_call (C2.out _)
      still_step
      refine wpStill_nil ?_
      have hb := HS.out (.string t1) (.string t2)
      have HB2 : Hid (Below wc.heap.size wc ((w3.setCell ⟨g, 3, none⟩ (.string t1)).setCell ⟨g, 4, none⟩ (.string t2))) := Lib.hid (HO.out.2.trans (hb.mono (by rw [← hg]; exact HO.out.2.size)))
      have HO2 : Hid (OwnK encTbf 5 39 wc.heap.size ((w3.setCell ⟨g, 3, none⟩ (.string t1)).setCell ⟨g, 4, none⟩ (.string t2)) (.slice al q kl) ys) := Lib.hid (HO.out.1.below (by rw [hg]; exact hb))
      clear hb HS HO hg HXR
      go_wp2_with (at_builtin; refine wp_appHK elem_tbf encTbf_len _ _ (by rfl) (by rfl) (by rfl) HO2.out ⟨y1, y2, y3, t1, t2⟩ _ (by rfl) (by simp) ?c1 ?c2 ?c3 ?c4 ?_)
      case c1 => exact tbf_cells _
      case c2 => omega
      case c3 => unfold maxLen; omega
      case c4 => exact HB2.out.size
      intro v' w' o' b'
      obtain ⟨a', k', rfl⟩ := tbf_form o'
      have hyl2 : (ys ++ [(⟨y1, y2, y3, t1, t2⟩ : Tbf)]).length = q + 1 := by rw [List.length_append, hyl]; rfl
      rw [hyl2] at o'
      have HO' := Lib.hid (And.intro o' (HB2.out.trans b'))
      clear o' b' HO2 HB2
      rw [hyl2]
      go_wp2_with fail
      go_roundg (n' - (q + 1))
      case measure => omega
      case rel =>
        refine ⟨q + 1, _, a', k', by go_num, rfl, by omega, Nat.le_refl _, hyl2, Lib.hid (fun o ho => ?_), HO'⟩
        rcases List.mem_append.1 ho with h | h
        · exact HSH.out o h
        · obtain rfl := List.mem_singleton.1 h
          exact HN12.out
    · have hq1 : ¬ (q : Int) < (n' : Int) := by omega
      obtain rfl : q = n' := by omega
      have HRDW := Lib.hid ((HX2.out.1.trans (HO.out.2.mono HX2.out.1.size)))
      have HBA := Lib.hid (And.intro HO.out (And.intro HSH.out HSZ.out))
      have HXS := Lib.hid (HXR.out.set0 (Nat.le_refl _) 3 (.slice al q kl))
      obtain ⟨g0, g1, g2, g3, g4, i0, i1, i2, i3, i4⟩ := HXS.out.2.1.cells5
      obtain ⟨r0, r1, r2, r3, r4, z0, z1, z2, z3, z4⟩ := HXS.out.2.2.cells5
      clear HO HSH HX2 HXR HRA2 HOF2 HNT
      by_cases h12 : 12 < LD
      · have hi : (12 : Int) < (LD : Int) := by omega
        have hsl := HSD.out h12
        clear HSD
        go_wp2_with fail
        refine bodyPost_ret (v := .agg #[.int .i64 x1, .int .i64 x2, .int .i64 x3, .slice al q kl, .slice aD 12 cD]) (by simp [results, Try.results7, go_sem, r0, r1, r2, r3, r4]) rfl ⟨_, _, ⟨x1, x2, x3, ys, D.take 12⟩, rfl, ⟨?_, ?_⟩, ?_, ?_⟩
        · have hu := ((((((((UpdF.refl (fun k => k = w.heap.size ∨ k = w.heap.size + 1) wr).set w.heap.size 3 (.slice al q kl) (.inl rfl)).set w.heap.size 4 (.slice aD 12 cD) (.inl rfl)).set (w.heap.size + 1) 0 (.int .i64 x1) (.inr rfl)).set (w.heap.size + 1) 1 (.int .i64 x2) (.inr rfl)).set (w.heap.size + 1) 2 (.int .i64 x3) (.inr rfl)).set (w.heap.size + 1) 3 (.slice al q kl) (.inr rfl)).set (w.heap.size + 1) 4 (.slice aD 12 cD) (.inr rfl))
          have ho : OwnK encTbf 5 39 wc.heap.size _ (.slice al q kl) ys := row_same HBA.out.1.1 fun k hk => hu.block k (row_lt HBA.out.1.1 k hk) (by
            have := own_from HBA.out.1.1 k hk
            have := HBA.out.2.2
            omega)
          exact ho.base (by have := HBA.out.2.2; omega)
        · exact edInts_take HRD.out 12 (by omega)
        · exact ⟨by show ys.length ≤ 12; omega, by show (D.take 12).length ≤ 12; rw [List.length_take]; omega, HBA.out.2.1⟩
        · have hu := ((((((((UpdF.refl (fun k => k = w.heap.size ∨ k = w.heap.size + 1) wr).set w.heap.size 3 (.slice al q kl) (.inl rfl)).set w.heap.size 4 (.slice aD 12 cD) (.inl rfl)).set (w.heap.size + 1) 0 (.int .i64 x1) (.inr rfl)).set (w.heap.size + 1) 1 (.int .i64 x2) (.inr rfl)).set (w.heap.size + 1) 2 (.int .i64 x3) (.inr rfl)).set (w.heap.size + 1) 3 (.slice al q kl) (.inr rfl)).set (w.heap.size + 1) 4 (.slice aD 12 cD) (.inr rfl))
          exact HRDW.out.trans (UpdF.below hu HRDW.out.size fun k hk e => by omega)
      · have hi : ¬ (12 : Int) < (LD : Int) := by omega
        clear HSD
        go_wp2_with fail
        refine bodyPost_ret (v := .agg #[.int .i64 x1, .int .i64 x2, .int .i64 x3, .slice al q kl, .slice aD LD cD]) (by simp [results, Try.results7, go_sem, r0, r1, r2, r3, r4]) rfl ⟨_, _, ⟨x1, x2, x3, ys, D⟩, rfl, ⟨?_, ?_⟩, ?_, ?_⟩
        · have hu := (((((((UpdF.refl (fun k => k = w.heap.size ∨ k = w.heap.size + 1) wr).set w.heap.size 3 (.slice al q kl) (.inl rfl)).set (w.heap.size + 1) 0 (.int .i64 x1) (.inr rfl)).set (w.heap.size + 1) 1 (.int .i64 x2) (.inr rfl)).set (w.heap.size + 1) 2 (.int .i64 x3) (.inr rfl)).set (w.heap.size + 1) 3 (.slice al q kl) (.inr rfl)).set (w.heap.size + 1) 4 (.slice aD LD cD) (.inr rfl))
          have ho : OwnK encTbf 5 39 wc.heap.size _ (.slice al q kl) ys := row_same HBA.out.1.1 fun k hk => hu.block k (row_lt HBA.out.1.1 k hk) (by
            have := own_from HBA.out.1.1 k hk
            have := HBA.out.2.2
            omega)
          exact ho.base (by have := HBA.out.2.2; omega)
        · exact HRD.out
        · exact ⟨by show ys.length ≤ 12; omega, by show D.length ≤ 12; have := HLD.out; omega, HBA.out.2.1⟩
        · have hu := (((((((UpdF.refl (fun k => k = w.heap.size ∨ k = w.heap.size + 1) wr).set w.heap.size 3 (.slice al q kl) (.inl rfl)).set (w.heap.size + 1) 0 (.int .i64 x1) (.inr rfl)).set (w.heap.size + 1) 1 (.int .i64 x2) (.inr rfl)).set (w.heap.size + 1) 2 (.int .i64 x3) (.inr rfl)).set (w.heap.size + 1) 3 (.slice al q kl) (.inr rfl)).set (w.heap.size + 1) 4 (.slice aD LD cD) (.inr rfl))
          exact HRDW.out.trans (UpdF.below hu HRDW.out.size fun k hk e => by omega)
end Go.Proofs.Ytpaoabdjbdlalaa
