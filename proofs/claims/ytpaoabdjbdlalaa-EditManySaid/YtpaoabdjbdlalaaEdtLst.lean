/- The walks of a reader's files and numbers. -/
import Derived.Test.YtpaoabdjbdlalaaEdtFile
import Derived.Test.YtpaoabdjbdlalaaRowsK2
namespace Go.Proofs.Ytpaoabdjbdlalaa
set_option linter.unusedVariables false
set_option maxRecDepth 100000
open Go.RowKit
theorem OwnK.apart {α : Type} {enc : α → List Value} {k E B : Nat} {w w' : World} {g : Nat} {v : Value} {xs : List α} (h : OwnK enc k E B w v xs) (u : UpdF (fun x => x = g) w w') (hg : g < B) : OwnK enc k E B w' v xs := by
  refine row_same h fun x hx => u.block x (row_lt h x hx) fun e => ?_
  rcases h.blk with ⟨rfl, -⟩ | ⟨g', cap, cur, rfl, h2, -⟩
  · cases hx
  · obtain rfl : g' = x := Option.some.inj hx
    omega
theorem OwnV.apartV {E B : Nat} {w w' : World} {g : Nat} {v : Value} {vs : List Value} (h : OwnV E B w v vs) (u : UpdF (fun x => x = g) w w') (hg : g < B) : OwnV E B w' v vs := by
  refine row_same h fun x hx => u.block x (row_lt h x hx) fun e => ?_
  rcases h.nilOr with ⟨rfl, -⟩ | ⟨g', cap, rfl, h2, -⟩
  · cases hx
  · obtain rfl : g' = x := Option.some.inj hx
    omega
/-- A list that a reader takes: the reader, and a row of the call's own. -/
def FilesTo (w0 w : World) (g : Nat) (r : List Tbf × Option (List UInt8)) (e : Ending) (w' : World) : Prop := ∃ v, e = .returned v ∧ OwnK encTbf 5 39 w.heap.size w' v r.1 ∧ RdrTo w0 w g r.2 w'
def NumsTo (w0 w : World) (g : Nat) (r : List Int × Option (List UInt8)) (e : Ending) (w' : World) : Prop := ∃ v, e = .returned v ∧ OwnV 2 w.heap.size w' v (r.1.map encI64) ∧ RdrTo w0 w g r.2 w'
theorem tbf_form {B : Nat} {w : World} {v : Value} {xs : List Tbf} (h : OwnK encTbf 5 39 B w v xs) : ∃ a c, v = .slice a xs.length c := by
  rcases h.blk with ⟨rfl, rfl⟩ | ⟨g, cap, cur, rfl, -⟩
  · exact ⟨none, 0, rfl⟩
  · exact ⟨_, cap, rfl⟩
/-- Below B nothing was written: the reader stands as it stood. -/
theorem RdrTo.belowB {w0 w w1 w2 : World} {g : Nat} {s : Option (List UInt8)} (h : RdrTo w0 w g s w1) (u : Below w.heap.size w1 w2) (hg : g < w.heap.size) (h0 : w0.heap.size ≤ w.heap.size) : RdrTo w0 w g s w2 :=
  h.aside ⟨u.os, u.tape, u.output, u.size, fun k hk hn => u.block k (by omega)⟩ hg h0
set_option maxHeartbeats 8000000 in
theorem edFiles_any {w0 w : World} {g : Nat} {s : Option (List UInt8)} (h : RdrAt w0 w g s) : Calls Try.prog 23 #[.pointer (some ⟨g, 0, none⟩)] w (FilesTo w0 w g (edList edFl s)) := by
  have HF : Hid (∀ W t, RdrAt w0 W g t → Calls Try.prog 35 #[.pointer (some ⟨g, 0, none⟩)] W (FileTo w0 W g (edFl t))) := Lib.hid fun W t h => edFile_any h
  have HC := Lib.hid (edCount_any h)
  have HG := Lib.hid (And.intro h.lt h.2.1.size)
  obtain ⟨R, hR⟩ : ∃ R, edList edFl s = R := ⟨_, rfl⟩
  rw [hR]
  unfold edList at hR
  have hN := edCnt_le s
  generalize edCnt s = p at *
  obtain ⟨N, s1⟩ := p
  simp only at hR hN
  have HR := Lib.hid hR
  unfold CntTo at HC
  simp only at HC
  clear h hR
  go_enter Try.func23, Try.ntmps23
  go_wp2_with fail
  refine HC.out.mono ?_
  rintro e w1 ⟨rfl, h1⟩
  have HT := Lib.hid h1
  clear h1 HC
  go_wp2_with fail
  go_loopg [3, 6] N (fun kk vl vi wr => ∃ (i : Nat) (xs : List Tbf) (t : Option (List UInt8)) (a : Option Addr) (n c : Nat), vi = .int .i64 (i : Int) ∧ vl = .slice a n c ∧ i ≤ N ∧ N - i ≤ kk ∧ xs.length = i ∧ Hid (OwnK encTbf 5 39 w.heap.size wr (.slice a n c) xs) ∧ Hid (RdrTo w0 w g t wr) ∧ Hid (R = (xs ++ (edMany edFl (N - i) t).1, (edMany edFl (N - i) t).2)))
  case atStart => exact ⟨0, [], s1, none, 0, 0, rfl, rfl, by omega, by omega, rfl, Lib.hid (OwnK.nil _ _ _ _ _), HT, Lib.hid (by rw [← HR.out]; simp)⟩
  case round =>
    clear HT HR
    obtain ⟨q, xs, t, a, n, c, rfl, rfl, hq, hkk, hxl, HO, HT, HR⟩ := hrel
    by_cases h1 : q < N
    · have hd1 : (q : Int) < (N : Int) := by omega
      have HC := Lib.hid (HF.out wr t HT.out.1)
      have HR2 : Hid (R = ((xs ++ [(edFl t).1]) ++ (edMany edFl (N - (q + 1)) (edFl t).2).1, (edMany edFl (N - (q + 1)) (edFl t).2).2)) := Lib.hid (by
        have := edMany_succ edFl (N - (q + 1)) t xs
        rw [show N - (q + 1) + 1 = N - q by omega] at this
        rw [← this]; exact HR.out)
      clear HR
      generalize edFl t = p at *
      obtain ⟨⟨x0, x1, x2, x3, x4⟩, t'⟩ := p
      unfold FileTo Tbf.v at HC
      simp only at HC HR2
      go_wp2_with fail
      refine HC.out.mono ?_
      rintro e w2 ⟨rfl, h2⟩
      have HT2 := Lib.hid (HT.out.trans h2)
      have HO2 := Lib.hid (HO.out.apart h2.2 HG.out.1)
      clear h2 HC HT HO
      have hws := HT2.out.2.size
      go_wp2_with (at_builtin; refine wp_appHK elem_tbf encTbf_len _ _ (by rfl) (by rfl) (by rfl) HO2.out ⟨x0, x1, x2, x3, x4⟩ _ (by rfl) (by rfl) ?c1 ?c2 ?c3 hws ?_)
      case c1 => exact tbf_cells _
      case c2 => omega
      case c3 => unfold maxLen; omega
      intro v3 w3 o3 b3
      obtain ⟨a3, c3, rfl⟩ := tbf_form o3
      have HO3 := Lib.hid o3
      have HT3 := Lib.hid (HT2.out.belowB b3 HG.out.1 HG.out.2)
      clear o3 b3 HO2 HT2
      go_wp2_with fail
      go_roundg (N - (q + 1))
      case measure => omega
      case rel => exact ⟨q + 1, _, t', a3, _, c3, by go_num, rfl, by omega, Nat.le_refl _, by rw [List.length_append, hxl]; rfl, HO3, HT3, HR2⟩
    · have hd1 : ¬ (q : Int) < (N : Int) := by omega
      obtain rfl : q = N := by omega
      have hRe : R = (xs, t) := by
        have := HR.out
        rw [Nat.sub_self] at this
        simpa [edMany] using this
      subst hRe
      clear HR
      go_wp2_with fail
      go_ret
      exact ⟨_, rfl, HO.out, HT.out⟩
set_option maxHeartbeats 8000000 in
theorem edNumbers_any {w0 w : World} {g : Nat} {s : Option (List UInt8)} (h : RdrAt w0 w g s) : Calls Try.prog 24 #[.pointer (some ⟨g, 0, none⟩)] w (NumsTo w0 w g (edList edNm s)) := by
  have HF : Hid (∀ W t, RdrAt w0 W g t → Calls Try.prog 22 #[.pointer (some ⟨g, 0, none⟩)] W (NumTo w0 W g (edNm t))) := Lib.hid fun W t h => edNumber_any h
  have HC := Lib.hid (edCount_any h)
  have HG := Lib.hid (And.intro h.lt h.2.1.size)
  obtain ⟨R, hR⟩ : ∃ R, edList edNm s = R := ⟨_, rfl⟩
  rw [hR]
  unfold edList at hR
  have hN := edCnt_le s
  generalize edCnt s = p at *
  obtain ⟨N, s1⟩ := p
  simp only at hR hN
  have HR := Lib.hid hR
  unfold CntTo at HC
  simp only at HC
  clear h hR
  go_enter Try.func24, Try.ntmps24
  go_wp2_with fail
  refine HC.out.mono ?_
  rintro e w1 ⟨rfl, h1⟩
  have HT := Lib.hid h1
  clear h1 HC
  go_wp2_with fail
  go_loopg [3, 6] N (fun kk vl vi wr => ∃ (i : Nat) (xs : List Int) (t : Option (List UInt8)), vi = .int .i64 (i : Int) ∧ i ≤ N ∧ N - i ≤ kk ∧ xs.length = i ∧ Hid (OwnV 2 w.heap.size wr vl (xs.map encI64)) ∧ Hid (RdrTo w0 w g t wr) ∧ Hid (R = (xs ++ (edMany edNm (N - i) t).1, (edMany edNm (N - i) t).2)))
  case atStart => exact ⟨0, [], s1, rfl, by omega, by omega, rfl, Lib.hid (OwnV.nil _ _ _), HT, Lib.hid (by rw [← HR.out]; simp)⟩
  case round =>
    clear HT HR
    obtain ⟨q, xs, t, rfl, hq, hkk, hxl, HO, HT, HR⟩ := hrel
    by_cases h1 : q < N
    · have hd1 : (q : Int) < (N : Int) := by omega
      have HC := Lib.hid (HF.out wr t HT.out.1)
      have HR2 : Hid (R = ((xs ++ [(edNm t).1]) ++ (edMany edNm (N - (q + 1)) (edNm t).2).1, (edMany edNm (N - (q + 1)) (edNm t).2).2)) := Lib.hid (by
        have := edMany_succ edNm (N - (q + 1)) t xs
        rw [show N - (q + 1) + 1 = N - q by omega] at this
        rw [← this]; exact HR.out)
      clear HR
      generalize edNm t = p at *
      obtain ⟨x0, t'⟩ := p
      unfold NumTo at HC
      simp only at HC HR2
      go_wp2_with fail
      refine HC.out.mono ?_
      rintro e w2 ⟨rfl, h2⟩
      have HT2 := Lib.hid (HT.out.trans h2)
      have HO2 := Lib.hid (HO.out.apartV h2.2 HG.out.1)
      clear h2 HC HT HO
      have hws := HT2.out.2.size
      have hxm : (xs.map encI64).length = q := by rw [List.length_map, hxl]
      go_wp2_with (at_builtin; refine wp_appH elem_i64 _ _ (by rfl) (by rfl) (by rfl) HO2.out [.int .i64 x0] 1 _ rfl (by rfl) (by rfl) (by decide) ?c1 ?c2 ?c3 hws ?_)
      case c1 => intro u hu; rw [List.mem_singleton.1 hu]; rfl
      case c2 => omega
      case c3 => unfold maxLen; omega
      intro v3 w3 o3 b3
      have HO3 : Hid (OwnV 2 w.heap.size w3 v3 ((xs ++ [x0]).map encI64)) := Lib.hid (by rw [List.map_append]; exact o3)
      have HT3 := Lib.hid (HT2.out.belowB b3 HG.out.1 HG.out.2)
      clear o3 b3 HO2 HT2 hxm
      go_wp2_with fail
      go_roundg (N - (q + 1))
      case measure => omega
      case rel => exact ⟨q + 1, _, t', by go_num, by omega, Nat.le_refl _, by rw [List.length_append, hxl]; rfl, HO3, HT3, HR2⟩
    · have hd1 : ¬ (q : Int) < (N : Int) := by omega
      obtain rfl : q = N := by omega
      have hRe : R = (xs, t) := by
        have := HR.out
        rw [Nat.sub_self] at this
        simpa [edMany] using this
      subst hRe
      clear HR
      go_wp2_with fail
      go_ret
      exact ⟨_, rfl, HO.out, HT.out⟩
end Go.Proofs.Ytpaoabdjbdlalaa
