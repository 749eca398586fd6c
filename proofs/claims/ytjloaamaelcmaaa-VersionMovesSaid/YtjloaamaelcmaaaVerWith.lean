/- The walk of with: tables come in, and all stand in order. -/
import Derived.Test.YtjloaamaelcmaaaVerApt
import Derived.Test.YtjloaamaelcmaaaVerWout
import Derived.Test.YtjloaamaelcmaaaMBase
namespace Go.Proofs.Ytjloaamaelcmaaa
set_option linter.unusedVariables false
set_option maxRecDepth 100000
open Go.RowKit
/-- May these tables come to those? -/
def withOk (xs ts : List Tbf) : Prop := xs.length + ts.length ≤ 200 ∧ vAdds xs ts ≠ none ∧ vApart (xs ++ ts)
def WithTo (B : Nat) (xs ts : List Tbf) (w : World) (e : Ending) (w' : World) : Prop := ∃ (u : Value) (ok : Bool), e = .returned (.tuple #[u, .bool ok]) ∧ (ok = true ↔ withOk xs ts) ∧
  (ok = true → ∃ zs : List Tbf, OwnK encTbf 5 43 B w' u zs ∧ vSorted zs ∧ zs.Perm (xs ++ ts)) ∧ Below B w w'
abbrev filC (f : Tbf) : Array Value := #[.int .i64 f.num, .int .i64 f.lvl, .int .i64 f.siz, .string f.lo, .string f.hi]
theorem blk_same {w : World} {p : Nat} {f : Tbf} (h : BlkAt w p (filC f) 43) : BlkAt (w.setCell ⟨p, 3, none⟩ (.string f.lo)) p (filC f) 43 ∧ BlkAt ((w.setCell ⟨p, 3, none⟩ (.string f.lo)).setCell ⟨p, 4, none⟩ (.string f.hi)) p (filC f) 43 :=
  ⟨h.set (o := 3) (.string f.lo), (h.set (o := 3) (.string f.lo)).set (o := 4) (.string f.hi)⟩
theorem blk_same_below {w0 w : World} {p : Nat} {x y : Value} {B : Nat} (h : Below B w0 w) (hB : B ≤ w.heap.size) (hp : B ≤ p) : Below B w0 ((w.setCell ⟨p, 3, none⟩ x).setCell ⟨p, 4, none⟩ y) :=
  h.trans (UpdF.below (((UpdF.refl (fun k => B ≤ k) w).set p 3 x hp).set p 4 y hp) hB fun k hk hn => by omega)
theorem own_apart {B : Nat} {w w' : World} {v : Value} {ys : List Tbf} (h : OwnK encTbf 5 43 B w v ys) (hk : ∀ g, v.ownBlock = some g → w'.heap[g]? = w.heap[g]?) : OwnK encTbf 5 43 B w' v ys := row_same h hk
set_option maxHeartbeats 16000000 in
theorem with_any (B : Nat) (v va : Value) (xs ts : List Tbf) (w : World) (h : OwnK encTbf 5 43 B w v xs) (hB : B ≤ w.heap.size) (ha : RdK encTbf 5 w va ts) (hA : ∀ w', Below B w w' → RdK encTbf 5 w' va ts) (hxr : ∀ f ∈ xs, ¬ badTb f) (har : ∀ f ∈ ts, ¬ badTb f) (hlx : xs.length ≤ 200) (hla : ts.length ≤ 200) :
    Calls Try.prog 43 #[v, va] w (WithTo B xs ts w) := by
  have HA := Lib.hid hA
  have HRT := Lib.hid (And.intro hxr har)
  obtain ⟨a, ca, rfl, -⟩ := edFl_len ha
  obtain ⟨al, cl, rfl⟩ := fil_form h
  have HO := Lib.hid h
  obtain ⟨R, hR⟩ : ∃ R, vAdds xs ts = R := ⟨_, rfl⟩
  have HR := Lib.hid hR
  obtain ⟨N, hN⟩ : ∃ N, ts.length = N := ⟨_, rfl⟩
  obtain ⟨K0, hK0⟩ : ∃ N, xs.length = N := ⟨_, rfl⟩
  have HN := Lib.hid (And.intro hN hK0)
  have HB0 := Lib.hid hB
  rw [hN] at HA hla ⊢
  rw [hK0] at HO hlx ⊢
  clear h ha hA hxr har hR hN hK0 hB
  by_cases hbig : 200 < K0 + N
  · have hbi : (200 : Int) < (K0 : Int) + (N : Int) := by omega
    have HF : Hid (¬ withOk xs ts) := Lib.hid fun h => by have := h.1; have := HN.out; omega
    go_enter Try.func43, Try.ntmps43
    go_wp2_with fail
    go_ret2
    exact ⟨_, false, rfl, ⟨fun h => (by cases h), fun h => absurd h HF.out⟩, fun h => (by cases h), Below.refl _ _⟩
  · have hbi : ¬ (200 : Int) < (K0 : Int) + (N : Int) := by omega
    unfold WithTo
    go_enter Try.func43, Try.ntmps43
    go_wp2_with fail
    go_loopg [0, 7, 16] N (fun kk vt _ vi wr => ∃ (i : Nat) (ys : List Tbf) (al : Option Addr) (nl cl : Nat), vi = .int .i64 (i : Int) ∧ vt = .slice al nl cl ∧ i ≤ N ∧ N - i ≤ kk ∧ nl ≤ 200 ∧ Hid (nl = K0 + i ∧ ys.length = nl ∧ ys = xs ++ ts.take i) ∧ Hid (OwnK encTbf 5 43 B wr (.slice al nl cl) ys) ∧ Hid (vAdds ys (ts.drop i) = R) ∧ Hid (Below B w wr))
    case atStart => exact ⟨0, xs, al, K0, cl, rfl, rfl, by omega, by omega, by omega, Lib.hid ⟨by omega, HN.out.2, by simp⟩, HO, Lib.hid (by rw [List.drop_zero]; exact HR.out), Lib.hid (Below.refl _ _)⟩
    case round =>
      clear HO
      obtain ⟨q, ys, al, nl, cl, rfl, rfl, hq, hqk, hnl, HL, HY, HV, HB⟩ := hrel
      have hd0 : (0 : Int) ≤ (q : Int) := by omega
      by_cases h1 : q < N
      · have hd1 : (q : Int) < (N : Int) := by omega
        obtain ⟨f, hf⟩ : ∃ f, ts[q]? = some f := ⟨ts[q]'(by have := HN.out.1; omega), List.getElem?_eq_getElem _⟩
        have HFK : Hid (ts[q]? = some f ∧ ts.drop q = f :: ts.drop (q + 1)) := Lib.hid ⟨hf, by
          rw [List.drop_eq_getElem_cons (by have := HN.out.1; omega)]
          congr 1
          exact (List.getElem?_eq_some_iff.1 hf).2⟩
        have HRF := Lib.hid (HRT.out.2 f (List.mem_of_getElem? hf))
        obtain ⟨b, off, rfl, hblt, AF⟩ := (HA.out _ HB.out).atTbf q f hf
        have hbs := HB.out.size
        have HRK : Hid (vAdds ys (f :: ts.drop (q + 1)) = R) := Lib.hid (by rw [← HFK.out.2]; exact HV.out)
        obtain ⟨d0, d1, d2, d3, d4⟩ := AF
        clear hf HV
        -- the box
        obtain ⟨wa, hwa⟩ : ∃ x, wr.alloc (.cells (filC f) 43) = x := ⟨_, rfl⟩
        have HBX : Hid (BlkAt wa wr.heap.size (filC f) 43) := Lib.hid (by rw [← hwa]; exact BlkAt.new _ _ _)
        have HBA : Hid (Below wr.heap.size wr wa) := Lib.hid (by rw [← hwa]; exact (Below.refl _ _).alloc (Nat.le_refl _) _)
        have HP : Hid (B ≤ wr.heap.size) := Lib.hid (Nat.le_trans HB0.out hbs)
        obtain ⟨p, hp⟩ : ∃ p, wr.heap.size = p := ⟨_, rfl⟩
        have HYA := Lib.hid (HY.out.below HBA.out)
        have HBB := Lib.hid (HB.out.trans (HBA.out.mono HP.out))
        have HYP : Hid (∀ g, (Value.slice al nl cl).ownBlock = some g → g ≠ p) := Lib.hid fun g hg => by
          have := row_lt HY.out g hg; omega
        have HFD := Lib.hid (vfind_any (.slice al nl cl) f.num ys (by have := HL.out.2.1; omega) wa (HYA.out.rd encTbf_len))
        obtain ⟨fn, fl, fs, fo, fh⟩ := f
        unfold filC at hwa
        simp only at hwa d0 d1 d2 d3 d4 HFD
        clear HY HB
        obtain ⟨c0, c1, c2, c3, c4⟩ := cell5_of HBX.out
        rw [hp] at c0 c1 c2 c3 c4
        go_wp2_with fail
        refine HFD.out.mono ?_
        rintro e w2 ⟨i, rfl, hi, hb⟩
        have HI := Lib.hid hi
        have HB2 := Lib.hid (HBB.out.trans (hb.mono (Nat.le_trans HP.out HBA.out.size)))
        have HY2 := Lib.hid (HYA.out.below hb)
        have HX2 := Lib.hid (HBX.out.below hb)
        have HS2 : Hid (p < w2.heap.size) := Lib.hid (by rw [← hp]; exact HX2.out.lt)
        rw [hp] at HX2 HP
        clear hi hb HFD HYA HBX HBA HBB c0 c1 c2 c3 c4 d0 d1 d2 d3 d4 hwa
        by_cases hpos : 0 ≤ i
        · have HX : Hid (R = none) := Lib.hid (by
            rw [← HRK.out, vAdds, if_pos]
            obtain ⟨x, hx, e⟩ := HI.out.bd.2.2.1 hpos
            exact ⟨x, hx, e⟩)
          have HF : Hid (¬ withOk xs ts) := Lib.hid fun h => h.2.1 (HR.out.trans HX.out)
          clear HI HRK HX HFK
          go_wp2_with fail
          go_ret2
          exact ⟨_, false, rfl, ⟨fun h => (by cases h), fun h => absurd h HF.out⟩, fun h => (by cases h), HB2.out⟩
        · have HV2 : Hid (vAdds (ys ++ [⟨fn, fl, fs, fo, fh⟩]) (ts.drop (q + 1)) = R) := Lib.hid (by
            rw [← HRK.out, vAdds, if_neg]
            rintro ⟨x, hx, e⟩
            exact hpos (HI.out.bd.2.2.2 ⟨x, hx, e⟩))
          clear HI HRK
          have hso : fo.size ≤ 281474976710656 ∧ fh.size ≤ 281474976710656 := by
            obtain ⟨-, -, -, h5, h6, -⟩ := notBadTb HRF.out
            simp only at h5 h6
            omega
          have HC1 : Hid (∀ w, Calls Try.prog 49 #[.string fo] w fun e w' => e = .returned (.string fo) ∧ Below w.heap.size w w') := Lib.hid fun w => clone_any fo w hso.1
          have HC2 : Hid (∀ w, Calls Try.prog 49 #[.string fh] w fun e w' => e = .returned (.string fh) ∧ Below w.heap.size w w') := Lib.hid fun w => clone_any fh w hso.2
          clear hso
          have hS2 : BlkAt w2.drew p #[.int .i64 fn, .int .i64 fl, .int .i64 fs, .string fo, .string fh] 43 := HX2.out
          go_wp2_with fail
          refine beginK (fun W => BlkAt W p #[.int .i64 fn, .int .i64 fl, .int .i64 fs, .string fo, .string fh] 43) 9 (by kernel_rfl) hS2 (fun hHeld => ?_)
          refine takeK (i := 0) (k := 25) (v := .pointer (some ⟨p, 3, none⟩)) rfl rfl (by kernel_rfl) (by kernel_rfl) (by kernel_rfl) [0] rfl (by decide) (by kernel_rfl) (fun _ _ _ h => h) (by kernel_rfl) ?_ (by assumption) ?_
          · intro W hSw; first | (go_simp; done) | go_simp
          try simp only [Act.put, List.setIfInBounds_toArray, List.set_cons_zero, List.set_cons_succ]
          refine takeK (i := 1) (k := 26) (v := .string fo) rfl rfl (by kernel_rfl) (by kernel_rfl) (by kernel_rfl) [1] rfl (by decide) (by kernel_rfl) (fun _ _ _ h => h) (by kernel_rfl) ?_ (by assumption) ?_
          · intro W hSw; obtain ⟨d0, d1, d2, d3, d4⟩ := cell5_of hSw; first | (go_simp; done) | go_simp
          try simp only [Act.put, List.setIfInBounds_toArray, List.set_cons_zero, List.set_cons_succ]
          refine takeK (i := 3) (k := 28) (v := .pointer (some ⟨p, 4, none⟩)) rfl rfl (by kernel_rfl) (by kernel_rfl) (by kernel_rfl) [3] rfl (by decide) (by kernel_rfl) (fun _ _ _ h => h) (by kernel_rfl) ?_ (by assumption) ?_
          · intro W hSw; first | (go_simp; done) | go_simp
          try simp only [Act.put, List.setIfInBounds_toArray, List.set_cons_zero, List.set_cons_succ]
          refine takeK (i := 4) (k := 29) (v := .string fh) rfl rfl (by kernel_rfl) (by kernel_rfl) (by kernel_rfl) [4] rfl (by decide) (by kernel_rfl) (fun _ _ _ h => h) (by kernel_rfl) ?_ (by assumption) ?_
          · intro W hSw; obtain ⟨d0, d1, d2, d3, d4⟩ := cell5_of hSw; first | (go_simp; done) | go_simp
          try simp only [Act.put, List.setIfInBounds_toArray, List.set_cons_zero, List.set_cons_succ]
          refine oneK (i := 2) (by kernel_rfl) rfl (fun K hK => ?_)
          go_simp
          refine (HC1.out _).mono ?_
          rintro e w3 ⟨rfl, hb3⟩
          have HX3 : Hid (BlkAt w3 p #[.int .i64 fn, .int .i64 fl, .int .i64 fs, .string fo, .string fh] 43) := Lib.hid (BlkAt.below (w := w2.drew) (by assumption) hb3)
          have HW3 := Lib.hid hb3
          have hs3 := HX3.out
          refine hK.out _ _ (fun _ => hs3) (fun _ => ?_)
          clear hK K hb3 HC1
          try simp only [Act.put, List.setIfInBounds_toArray, List.set_cons_zero, List.set_cons_succ]
          refine takeK (i := 6) (k := 31) (v := .pointer (some ⟨p, 3, none⟩)) rfl rfl (by kernel_rfl) (by kernel_rfl) (by kernel_rfl) [6] rfl (by decide) (by kernel_rfl) (fun _ _ _ h => h) (by kernel_rfl) ?_ (by assumption) ?_
          · intro W hSw; first | (go_simp; done) | go_simp
          try simp only [Act.put, List.setIfInBounds_toArray, List.set_cons_zero, List.set_cons_succ]
          refine oneK (i := 5) (by kernel_rfl) rfl (fun K hK => ?_)
          go_simp
          refine (HC2.out _).mono ?_
          rintro e w4 ⟨rfl, hb4⟩
          have HX4 : Hid (BlkAt w4 p #[.int .i64 fn, .int .i64 fl, .int .i64 fs, .string fo, .string fh] 43) := Lib.hid (BlkAt.below (w := w3) (by assumption) hb4)
          have HW4 := Lib.hid hb4
          have hs4 := HX4.out
          refine hK.out _ _ (fun _ => hs4) (fun _ => ?_)
          clear hK K hb4 HC2
          try simp only [Act.put, List.setIfInBounds_toArray, List.set_cons_zero, List.set_cons_succ]
          obtain ⟨e0, e1, e2, e3, e4⟩ := cell5_of HX4.out
          have f3 := HX4.out.free 3
          have f4 := (blk_same (f := ⟨fn, fl, fs, fo, fh⟩) HX4.out).1.free 4
          have e4' : (w4.setCell ⟨p, 3, none⟩ (.string fo)).cell? ⟨p, 4, none⟩ = some (.string fh) := (blk_same (f := ⟨fn, fl, fs, fo, fh⟩) HX4.out).1.at 4
          refine oneK (i := 7) (by kernel_rfl) rfl (fun K hK => ?_)
          go_simp
          refine hK.out _ _ (fun _ => (blk_same (f := ⟨fn, fl, fs, fo, fh⟩) HX4.out).1) (fun _ => ?_)
          clear hK K
          try simp only [Act.put, List.setIfInBounds_toArray, List.set_cons_zero, List.set_cons_succ]
          refine oneK (i := 8) (by kernel_rfl) rfl (fun K hK => ?_)
          go_simp
          refine hK.out _ _ (fun _ => (blk_same (f := ⟨fn, fl, fs, fo, fh⟩) HX4.out).1) (fun _ => ?_)
          clear hK K
          try simp only [Act.put, List.setIfInBounds_toArray, List.set_cons_zero, List.set_cons_succ]
          refine oneK (i := 9) (by kernel_rfl) rfl (fun K hK => ?_)
          go_simp
          refine hK.out _ _ (fun h => by have h' : true = false := h; cases h') (fun _ => ?_)
          clear hK K
          try simp only [Act.put, List.setIfInBounds_toArray, List.set_cons_zero, List.set_cons_succ]
          refine doneK (by kernel_rfl) ?_ _
          have HX5 := Lib.hid (blk_same (f := ⟨fn, fl, fs, fo, fh⟩) HX4.out).2
          have HB4 : Hid (Below B w w4) := Lib.hid ((HB2.out.drew.trans (HW3.out.mono (Nat.le_trans HP.out (Nat.le_of_lt HS2.out)))).trans (HW4.out.mono (Nat.le_trans HP.out (Nat.le_of_lt HX3.out.lt))))
          have HB5 := Lib.hid (blk_same_below (x := .string fo) (y := .string fh) HB4.out (Nat.le_trans HP.out (Nat.le_of_lt HX4.out.lt)) HP.out)
          have HY4 : Hid (OwnK encTbf 5 43 B w4 (.slice al nl cl) ys) := Lib.hid ((HY2.out.below (Below.refl _ w2).drew |>.below HW3.out).below HW4.out)
          have HY5 : Hid (OwnK encTbf 5 43 B ((w4.setCell ⟨p, 3, none⟩ (.string fo)).setCell ⟨p, 4, none⟩ (.string fh)) (.slice al nl cl) ys) := Lib.hid (own_apart HY4.out fun g hg => ((UpdF.refl (fun k => k = p) w4).set p 3 (.string fo) rfl).set p 4 (.string fh) rfl |>.block g (row_lt HY4.out g hg) (HYP.out g hg))
          clear hHeld hS2 hs3 hs4 e0 e1 e2 e3 e4 f3 f4 e4' HX2 HX3 HX4 HW3 HW4 HY2 HY4 HB2 HB4 HS2
          generalize ((w4.setCell ⟨p, 3, none⟩ (.string fo)).setCell ⟨p, 4, none⟩ (.string fh)) = w5 at *
          obtain ⟨c0, c1, c2, c3, c4⟩ := cell5_of HX5.out
          simp only at c0 c1 c2 c3 c4
          have hBw5 : B ≤ w5.heap.size := Nat.le_trans HP.out (Nat.le_of_lt HX5.out.lt)
          go_wp2_with (at_builtin; refine wp_appHK elem_tbf encTbf_len _ _ (by rfl) (by rfl) (by rfl) HY5.out ⟨fn, fl, fs, fo, fh⟩ _ (by rfl) (by rfl) ?c1 ?c2 ?c3 hBw5 ?_)
          case c1 => exact tbf_cells _
          case c2 => have := HL.out.2.1; omega
          case c3 => have := HL.out.2.1; unfold maxLen; omega
          intro v6 w6 o6 b6
          obtain ⟨a6, k6, rfl⟩ := fil_form o6
          have e6 : (ys ++ [(⟨fn, fl, fs, fo, fh⟩ : Tbf)]).length = nl + 1 := by rw [List.length_append]; have := HL.out.2.1; simp; omega
          rw [e6] at o6 ⊢
          have HL6 : Hid (nl + 1 = K0 + (q + 1) ∧ (ys ++ [(⟨fn, fl, fs, fo, fh⟩ : Tbf)]).length = nl + 1 ∧ ys ++ [(⟨fn, fl, fs, fo, fh⟩ : Tbf)] = xs ++ ts.take (q + 1)) := Lib.hid ⟨by have := HL.out.1; omega, e6, by rw [HL.out.2.2, List.take_add_one, HFK.out.1]; simp⟩
          have hl6 : nl + 1 ≤ 200 := by have := HL.out.1; omega
          have HO6 := Lib.hid o6
          have HB6 := Lib.hid (HB5.out.trans b6)
          clear o6 b6 e6 HY5 HB5 HX5 c0 c1 c2 c3 c4 HL HFK HRF hBw5 HP HYP
          go_wp2_with fail
          go_roundg (N - (q + 1))
          case measure => omega
          case rel => exact ⟨q + 1, _, a6, nl + 1, k6, by go_num, rfl, by omega, Nat.le_refl _, hl6, HL6, HO6, HV2, HB6⟩
      · have hd1 : ¬ (q : Int) < (N : Int) := by omega
        obtain rfl : q = N := by omega
        have HE : Hid (ys = xs ++ ts ∧ R = some ys) := Lib.hid (by
          have e1 : ts.take q = ts := List.take_of_length_le (by have := HN.out.1; omega)
          have e2 : ts.drop q = [] := List.drop_of_length_le (by have := HN.out.1; omega)
          refine ⟨by have := HL.out.2.2; rwa [e1] at this, ?_⟩
          have := HV.out
          rw [e2] at this
          exact this.symm)
        have hBr : B ≤ wr.heap.size := Nat.le_trans HB0.out HB.out.size
        have HRY : Hid (∀ f ∈ ys, ¬ badTb f) := Lib.hid fun f hf => by
          rw [HE.out.1] at hf
          rcases List.mem_append.1 hf with h | h
          · exact HRT.out.1 f h
          · exact HRT.out.2 f h
        have HSO : Hid (Calls Try.prog 50 #[.slice al nl cl, .func (.func 51) #[] #[]] wr (SortTo B wr (.slice al nl cl) ys)) := Lib.hid (vsort_any hBr HY.out (by have := HL.out.2.1; omega))
        clear HV HY
        go_wp2_with fail
        refine HSO.out.mono ?_
        rintro e w2 ⟨rfl, zs, hp, hs, ho, hb⟩
        have HZ := Lib.hid (And.intro hp hs)
        have HOZ := Lib.hid ho
        have HBZ := Lib.hid (HB.out.trans hb)
        have HAP := Lib.hid (vapart_any (.slice al nl cl) zs (by have := hp.length_eq; have := HL.out.2.1; omega) (fun f hf => (notBadTb (HRY.out f (hp.mem_iff.1 hf))).2.2.2.2.2) w2 (ho.rd encTbf_len))
        have HBs : Hid (B ≤ w2.heap.size) := Lib.hid (Nat.le_trans hBr hb.size)
        clear hp hs ho hb HSO HB
        go_wp2_with fail
        refine HAP.out.mono ?_
        rintro e w3 ⟨b, rfl, hb1, hb2⟩
        have HW : Hid (b = true ↔ withOk xs ts) := Lib.hid (by
          have h1 := adj_apart HZ.out.2 (fun f hf => (notBadTb (HRY.out f (HZ.out.1.mem_iff.1 hf))).2.2.2.2.2)
          rw [hb1, h1]
          constructor
          · intro h
            exact ⟨by have := HN.out; omega, by rw [HR.out, HE.out.2]; simp, by rw [← HE.out.1]; exact vApart_perm HZ.out.1 h⟩
          · intro h
            have := h.2.2
            rw [← HE.out.1] at this
            exact vApart_perm HZ.out.1.symm this)
        have HB3 := Lib.hid (HBZ.out.trans (hb2.mono HBs.out))
        have HO3 := Lib.hid (HOZ.out.below hb2)
        have HZ3 : Hid (vSorted zs ∧ zs.Perm (xs ++ ts)) := Lib.hid ⟨HZ.out.2, by rw [← HE.out.1]; exact HZ.out.1⟩
        clear hb1 hb2 HAP HBZ HOZ HZ HE HRY
        cases b with
        | false =>
          go_wp2_with fail
          go_ret2
          exact ⟨_, false, rfl, HW.out, fun h => (by cases h), HB3.out⟩
        | true =>
          go_wp2_with fail
          go_ret2
          exact ⟨_, true, rfl, ⟨fun _ => HW.out.1 trivial, fun _ => rfl⟩, fun _ => ⟨zs, HO3.out, HZ3.out.1, HZ3.out.2⟩, HB3.out⟩
end Go.Proofs.Ytjloaamaelcmaaa
