/- The walks of pick.span and of the reference's span. -/
import Derived.Test.YtgdmmhdihgajkaaMLsm
import Derived.Test.YtgdmmhdihgajkaaMVerB
import Derived.Test.YtgdmmhdihgajkaaMVerA
import Derived.Test.YtgdmmhdihgajkaaMBase
import Derived.Test.YtgdmmhdihgajkaaMVerR
import Derived.Test.YtgdmmhdihgajkaaMEdt
import Derived.Test.YtgdmmhdihgajkaaMVerC
import Derived.Test.YtgdmmhdihgajkaaVerMade
import Derived.Lib.MinMaxS
import Derived.Deep.LoopGhost
import Derived.Deep.RegionHeld3
import Derived.Deep.Cut
import Derived.RegionTactic
import Derived.Deep.QuietTactic
import Derived.BigQuiet
import Derived.Lib.AppendZeros
namespace Go.Proofs.Ytgdmmhdihgajkaa
set_option linter.unusedVariables false
set_option maxRecDepth 100000
open Go.RowKit
theorem minS_T (a b : ByteArray) : Lib.minS a b = minT a b := by
  unfold Lib.minS minT
  rcases bl_tri a b with h | rfl | h
  · rw [if_pos (.inl h), if_neg fun k => bl_irr _ (bl_trans h k)]
  · rw [if_pos (.inr rfl), if_neg (bl_irr _)]
  · rw [if_neg, if_pos h]
    rintro (k | k)
    · exact bl_irr _ (bl_trans h k)
    · rw [show a = b from ByteArray.ext (Array.toList_inj.1 k)] at h; exact bl_irr _ h
theorem run_minT {P : Program} (w : World) (ts : Array TypeId) (t : TypeId) (x y : ByteArray) : (Builtin.min_ ts t #[.string x, .string y]).run P w = .ok (.string (minT x y)) w := by rw [← minS_T]; exact Lib.run_min_strs w ts t x y
theorem run_maxT {P : Program} (w : World) (ts : Array TypeId) (t : TypeId) (x y : ByteArray) : (Builtin.max_ ts t #[.string x, .string y]).run P w = .ok (.string (maxT x y)) w := Lib.run_max_strs w ts t x y
def SpanTo (w : World) (l : List Tbf) (e : Ending) (w' : World) : Prop := e = .returned (.tuple #[.string (spanV l).1, .string (spanV l).2]) ∧ Below w.heap.size w w'
theorem spanF_take (r : List Tbf) (p : ByteArray × ByteArray) (i : Nat) (g : Tbf) (h : r[i]? = some g) : spanF p (r.take (i + 1)) = (minT (spanF p (r.take i)).1 g.lo, maxT (spanF p (r.take i)).2 g.hi) := by
  unfold spanF
  rw [List.take_add_one, h, Option.toList_some, List.foldl_append]; rfl
set_option maxHeartbeats 4000000 in
theorem rspan_any (v : Value) (f : Tbf) (r : List Tbf) (hl : r.length ≤ 1000000) (w : World) (h : RdK encTbf 5 w v (f :: r)) : Calls Try.prog 25 #[v] w (SpanTo w (f :: r)) := by
  have hmn : ∀ (w : World) (ts : Array TypeId) (t : TypeId) (x y : ByteArray), (Builtin.min_ ts t #[.string x, .string y]).run Try.prog w = .ok (.string (minT x y)) w := run_minT
  have hmx : ∀ (w : World) (ts : Array TypeId) (t : TypeId) (x y : ByteArray), (Builtin.max_ ts t #[.string x, .string y]).run Try.prog w = .ok (.string (maxT x y)) w := run_maxT
  obtain ⟨a, cap, rfl, hcap⟩ := edFl_len h
  have HRD := Lib.hid h
  obtain ⟨bb, off, rfl, hblt, d0, d1, d2, d3, d4⟩ := h.atTbf 0 f rfl
  rw [List.length_cons] at HRD hcap ⊢
  have hcc := (hcap (by omega)).1
  unfold maxLen at hcc
  obtain ⟨N, hN⟩ : ∃ N, r.length = N := ⟨_, rfl⟩
  have HN := Lib.hid hN
  rw [hN] at HRD hl ⊢
  obtain ⟨S, hS⟩ : ∃ S, spanV (f :: r) = S := ⟨_, rfl⟩
  have HS : Hid (spanF (f.lo, f.hi) r = S) := Lib.hid hS
  unfold SpanTo
  rw [hS]
  clear h hcap hN hS d0 d1 d2
  simp only [Nat.zero_mul, Nat.add_zero] at d3 d4
  have hN0 : (0 : Int) < (N : Int) + 1 := by omega
  have e1 : ((N + 1 : Nat) : Int) = (N : Int) + 1 := by omega
  go_enter Try.func25, Try.ntmps25
  go_upto_region 1 with fail
  go_quiet (fail)
  have HB1 := Lib.hid (((DrN.refl w).more nq).below w.heap.size)
  generalize w.drewN nq = w1 at *
  clear d3 d4
  go_wp2_with fail
  go_loopg [4, 5, 6] N (fun kk va vb vi wr => ∃ i : Nat, vi = .int .i64 ((i : Int) + 1) ∧ va = .string (spanF (f.lo, f.hi) (r.take i)).1 ∧ vb = .string (spanF (f.lo, f.hi) (r.take i)).2 ∧ i ≤ N ∧ N - i ≤ kk ∧ Hid (Below w.heap.size w wr))
  case atStart => exact ⟨0, rfl, rfl, rfl, by omega, by omega, HB1⟩
  case round =>
    clear HB1
    obtain ⟨i, rfl, rfl, rfl, hi, hik, HB⟩ := hrel
    by_cases h1 : i < N
    · have hd1 : (i : Int) + 1 < ((N + 1 : Nat) : Int) := by omega
      have hd0 : (0 : Int) ≤ (i : Int) + 1 := by omega
      obtain ⟨g, hg⟩ : ∃ g, r[i]? = some g := ⟨r[i]'(by have := HN.out; omega), List.getElem?_eq_getElem _⟩
      obtain ⟨b', off', e', -, e0, e1, e2, e3, e4⟩ := (HRD.out.below HB.out).atTbf (i + 1) g (by rw [List.getElem?_cons_succ]; exact hg)
      simp only [Option.some.injEq, Addr.mk.injEq] at e'
      obtain ⟨rfl, rfl, -⟩ := e'
      have HST := Lib.hid (spanF_take r (f.lo, f.hi) i g hg)
      clear hg e0 e1 e2
      go_wp2_with fail
      go_roundg (N - (i + 1))
      case measure => omega
      case rel => exact ⟨i + 1, by go_num, by rw [HST.out], by rw [HST.out], by omega, Nat.le_refl _, HB⟩
    · have hd1 : ¬ (i : Int) + 1 < ((N + 1 : Nat) : Int) := by omega
      rw [List.take_of_length_le (by have := HN.out; omega), HS.out]
      go_wp2_with fail
      go_ret2
      exact ⟨rfl, HB.out⟩
set_option maxHeartbeats 4000000 in
theorem pspan_any (v : Value) (f : Tbf) (r : List Tbf) (hl : r.length ≤ 1000000) (w : World) (h : RdK encTbf 5 w v (f :: r)) : Calls Try.prog 21 #[v] w (SpanTo w (f :: r)) := by
  have hmn : ∀ (w : World) (ts : Array TypeId) (t : TypeId) (x y : ByteArray), (Builtin.min_ ts t #[.string x, .string y]).run Try.prog w = .ok (.string (minT x y)) w := run_minT
  have hmx : ∀ (w : World) (ts : Array TypeId) (t : TypeId) (x y : ByteArray), (Builtin.max_ ts t #[.string x, .string y]).run Try.prog w = .ok (.string (maxT x y)) w := run_maxT
  obtain ⟨a, cap, rfl, hcap⟩ := edFl_len h
  obtain ⟨bb, off, rfl, hblt, d0, d1, d2, d3, d4⟩ := h.atTbf 0 f rfl
  rw [List.length_cons] at h hcap ⊢
  have hcc := hcap (by omega)
  unfold maxLen at hcc
  have hsl : ∀ W, (Instr.sliceAt 30 (.slice (some ⟨bb, off, none⟩) (r.length + 1) cap) (some (.int .i64 1)) none none).run Try.prog W = .ok (.slice (if cap = 1 then (some ⟨bb, off, none⟩ : Option Addr) else (some ⟨bb, off, none⟩ : Option Addr).map (·.add (1 * 5))) (r.length + 1 - 1) (cap - 1)) W := fun W => sl_lF W (some ⟨bb, off, none⟩) (r.length + 1) cap 1 (by omega) (by omega)
  have HRD := Lib.hid (h.rest 1 (by omega))
  obtain ⟨N, hN⟩ : ∃ N, r.length = N := ⟨_, rfl⟩
  have HN := Lib.hid hN
  rw [hN] at HRD hl hsl ⊢
  obtain ⟨S, hS⟩ : ∃ S, spanV (f :: r) = S := ⟨_, rfl⟩
  have HS : Hid (spanF (f.lo, f.hi) r = S) := Lib.hid hS
  unfold SpanTo
  rw [hS]
  clear h hcap hN hS d0 d1 d2
  simp only [Nat.zero_mul, Nat.add_zero] at d3 d4
  generalize (if cap = 1 then (some ⟨bb, off, none⟩ : Option Addr) else (some ⟨bb, off, none⟩ : Option Addr).map (·.add (1 * 5))) = aR at *
  rw [List.drop_one, List.tail_cons, Nat.add_sub_cancel] at HRD
  simp only [Nat.add_sub_cancel] at hsl
  have hN0 : (0 : Int) < (N : Int) + 1 := by omega
  have e1 : ((N + 1 : Nat) : Int) = (N : Int) + 1 := by omega
  go_enter Try.func21, Try.ntmps21
  go_upto_region 1 with fail
  go_quiet (fail)
  have HB1 := Lib.hid (((DrN.refl w).more nq).below w.heap.size)
  generalize w.drewN nq = w1 at *
  clear d3 d4
  go_wp2_with fail
  go_loopg [4, 5, 7, 19] N (fun kk va vb _ vi wr => ∃ i : Nat, vi = .int .i64 (i : Int) ∧ va = .string (spanF (f.lo, f.hi) (r.take i)).1 ∧ vb = .string (spanF (f.lo, f.hi) (r.take i)).2 ∧ i ≤ N ∧ N - i ≤ kk ∧ Hid (Below w.heap.size w wr))
  case atStart => exact ⟨0, rfl, rfl, rfl, by omega, by omega, HB1⟩
  case round =>
    clear HB1
    obtain ⟨i, rfl, rfl, rfl, hi, hik, HB⟩ := hrel
    by_cases h1 : i < N
    · have hd1 : (i : Int) < (N : Int) := by omega
      have hd0 : (0 : Int) ≤ (i : Int) := by omega
      obtain ⟨g, hg⟩ : ∃ g, r[i]? = some g := ⟨r[i]'(by have := HN.out; omega), List.getElem?_eq_getElem _⟩
      obtain ⟨b', off', rfl, -, e0, e1, e2, e3, e4⟩ := (HRD.out.below HB.out).atTbf i g hg
      have HST := Lib.hid (spanF_take r (f.lo, f.hi) i g hg)
      obtain ⟨wa, hwa⟩ : ∃ x, wr.alloc (.cells #[.int .i64 g.num, .int .i64 g.lvl, .int .i64 g.siz, .string g.lo, .string g.hi] 49) = x := ⟨_, rfl⟩
      have HBX : Hid (BlkAt wa wr.heap.size #[.int .i64 g.num, .int .i64 g.lvl, .int .i64 g.siz, .string g.lo, .string g.hi] 49) := Lib.hid (by rw [← hwa]; exact BlkAt.new _ _ _)
      have HBA : Hid (Below w.heap.size w wa) := Lib.hid (by rw [← hwa]; exact HB.out.alloc HB.out.size _)
      clear hg
      obtain ⟨pp, hpp⟩ : ∃ x, wr.heap.size = x := ⟨_, rfl⟩
      rw [hpp] at HBX
      obtain ⟨k0, k1, k2, k3, k4⟩ := cell5_of HBX.out
      go_upto_region 5 with fail
      go_quiet (fail)
      have HB2 := Lib.hid (HBA.out.trans (((DrN.refl wa).more nq).below w.heap.size))
      generalize wa.drewN nq = wz at *
      clear HBX HBA k0 k1 k2 k3 k4 e0 e1 e2 e3 e4 hwa hpp
      go_wp2_with fail
      go_roundg (N - (i + 1))
      case measure => omega
      case rel => exact ⟨i + 1, by go_num, by rw [HST.out], by rw [HST.out], by omega, Nat.le_refl _, HB2⟩
    · have hd1 : ¬ (i : Int) < (N : Int) := by omega
      rw [List.take_of_length_le (by have := HN.out; omega), HS.out]
      go_wp2_with fail
      go_ret2
      exact ⟨rfl, HB.out⟩
end Go.Proofs.Ytgdmmhdihgajkaa
/- The walks of pick.Size and of the reference's Size. -/
namespace Go.Proofs.Ytgdmmhdihgajkaa
set_option linter.unusedVariables false
set_option maxRecDepth 100000
open Go.RowKit
def sizL (l : List Tbf) : Int := (l.map Tbf.siz).sum
theorem sizL_take (l : List Tbf) (i : Nat) (g : Tbf) (h : l[i]? = some g) : sizL (l.take (i + 1)) = sizL (l.take i) + g.siz := by
  unfold sizL
  rw [List.take_add_one, h, Option.toList_some, List.map_append, List.sum_append]
  simp
theorem sizL_bd : ∀ (l : List Tbf), (∀ f ∈ l, 0 ≤ f.siz ∧ f.siz ≤ 16777216) → 0 ≤ sizL l ∧ sizL l ≤ 16777216 * (l.length : Int)
  | [], _ => by simp [sizL]
  | f :: r, h => by
    obtain ⟨h1, h2⟩ := sizL_bd r fun g hg => h g (List.mem_cons_of_mem _ hg)
    have := h f (List.mem_cons_self ..)
    unfold sizL at h1 h2 ⊢
    rw [List.map_cons, List.sum_cons, List.length_cons]
    omega
theorem sizL_bdt (l : List Tbf) (h : ∀ f ∈ l, 0 ≤ f.siz ∧ f.siz ≤ 16777216) (i : Nat) (hi : i ≤ 1000000) : 0 ≤ sizL (l.take i) ∧ sizL (l.take i) ≤ 16777216000000 := by
  obtain ⟨h1, h2⟩ := sizL_bd (l.take i) fun f hf => h f (List.mem_of_mem_take hf)
  have : (l.take i).length ≤ i := by rw [List.length_take]; omega
  omega
def IntTo (w : World) (n : Int) (e : Ending) (w' : World) : Prop := e = .returned (.int .i64 n) ∧ Below w.heap.size w w'
set_option maxHeartbeats 4000000 in
theorem psize_raw (p : Value) (n : Int) (xs : List Tbf) (hl : xs.length ≤ 1000000) (hs : ∀ f ∈ xs, 0 ≤ f.siz ∧ f.siz ≤ 16777216) (w : World) (h : Calls Try.prog 17 #[p, .int .i64 n] w (FilsTo w xs)) :
    Calls Try.prog 7 #[p, .int .i64 n] w (IntTo w (sizL xs)) := by
  have HLV := Lib.hid h
  have HS := Lib.hid hs
  obtain ⟨N, hN⟩ : ∃ N, xs.length = N := ⟨_, rfl⟩
  have HN := Lib.hid hN
  rw [hN] at hl
  obtain ⟨R, hR⟩ : ∃ R, sizL xs = R := ⟨_, rfl⟩
  have HR := Lib.hid hR
  rw [hR]
  clear h hs hR
  unfold IntTo
  go_enter Try.func7, Try.ntmps7
  go_wp2_with fail
  refine HLV.out.mono ?_
  rintro e w1 ⟨u, rfl, ho, hb⟩
  obtain ⟨aL, cL, rfl⟩ := fil_form ho
  have HRD := Lib.hid (ho.rd encTbf_len)
  have HB1 := Lib.hid hb
  rw [hN]
  rw [hN] at HRD
  clear ho hb HLV hN
  go_wp2_with fail
  go_loopg [5, 7, 12] N (fun kk vs _ vi wr => ∃ (i : Nat) (s : Int), vi = .int .i64 (i : Int) ∧ vs = .int .i64 s ∧ i ≤ N ∧ N - i ≤ kk ∧ s = sizL (xs.take i) ∧ Hid (Below w1.heap.size w1 wr))
  case atStart => exact ⟨0, 0, rfl, rfl, by omega, by omega, rfl, Lib.hid (Below.refl _ _)⟩
  case round =>
    obtain ⟨i, s, rfl, rfl, hi, hik, hs, HB⟩ := hrel
    by_cases h1 : i < N
    · have hd1 : (i : Int) < (N : Int) := by omega
      have hd0 : (0 : Int) ≤ (i : Int) := by omega
      obtain ⟨g, hg⟩ : ∃ g, xs[i]? = some g := ⟨xs[i]'(by have := HN.out; omega), List.getElem?_eq_getElem _⟩
      obtain ⟨bb, off, rfl, -, e0, e1, e2, e3, e4⟩ := (HRD.out.below HB.out).atTbf i g hg
      have hst := sizL_take xs i g hg
      have hb1 := sizL_bdt xs HS.out (i + 1) (by omega)
      have hb0 := sizL_bdt xs HS.out i (by omega)
      rw [← hs] at hst hb0
      rw [hst] at hb1
      have HST := Lib.hid hst
      obtain ⟨wa, hwa⟩ : ∃ x, wr.alloc (.cells #[.int .i64 g.num, .int .i64 g.lvl, .int .i64 g.siz, .string g.lo, .string g.hi] 49) = x := ⟨_, rfl⟩
      have HBX : Hid (BlkAt wa wr.heap.size #[.int .i64 g.num, .int .i64 g.lvl, .int .i64 g.siz, .string g.lo, .string g.hi] 49) := Lib.hid (by rw [← hwa]; exact BlkAt.new _ _ _)
      have HBA : Hid (Below w1.heap.size w1 wa) := Lib.hid (by rw [← hwa]; exact HB.out.alloc HB.out.size _)
      clear hg hst hs
      obtain ⟨pp, hpp⟩ : ∃ x, wr.heap.size = x := ⟨_, rfl⟩
      rw [hpp] at HBX
      obtain ⟨k0, k1, k2, k3, k4⟩ := cell5_of HBX.out
      clear HBX HB
      go_wp2_with fail
      go_roundg (N - (i + 1))
      case measure => omega
      case rel => exact ⟨i + 1, s + g.siz, by go_num, by go_num, by omega, Nat.le_refl _, HST.out.symm, HBA⟩
    · have hd1 : ¬ (i : Int) < (N : Int) := by omega
      obtain rfl : s = R := by rw [hs, List.take_of_length_le (by have := HN.out; omega), HR.out]
      clear hs
      go_wp2_with fail
      go_ret
      exact ⟨rfl, HB1.out.trans (HB.out.mono HB1.out.size)⟩
set_option maxHeartbeats 4000000 in
theorem rsize_raw (p : Value) (n : Int) (xs : List Tbf) (hl : xs.length ≤ 1000000) (hs : ∀ f ∈ xs, 0 ≤ f.siz ∧ f.siz ≤ 16777216) (w : World) (h : Calls Try.prog 18 #[p, .int .i64 n] w (FilsTo w xs)) :
    Calls Try.prog 8 #[p, .int .i64 n] w (IntTo w (sizL xs)) := by
  have HLV := Lib.hid h
  have HS := Lib.hid hs
  obtain ⟨N, hN⟩ : ∃ N, xs.length = N := ⟨_, rfl⟩
  have HN := Lib.hid hN
  rw [hN] at hl
  obtain ⟨R, hR⟩ : ∃ R, sizL xs = R := ⟨_, rfl⟩
  have HR := Lib.hid hR
  rw [hR]
  clear h hs hR
  unfold IntTo
  go_enter Try.func8, Try.ntmps8
  go_wp2_with fail
  refine HLV.out.mono ?_
  rintro e w1 ⟨u, rfl, ho, hb⟩
  obtain ⟨aL, cL, rfl⟩ := fil_form ho
  have HRD := Lib.hid (ho.rd encTbf_len)
  have HB1 := Lib.hid hb
  rw [hN]
  rw [hN] at HRD
  clear ho hb HLV hN
  go_wp2_with fail
  go_loopg [5, 7] N (fun kk vs vi wr => ∃ (i : Nat) (s : Int), vi = .int .i64 (i : Int) ∧ vs = .int .i64 s ∧ i ≤ N ∧ N - i ≤ kk ∧ s = sizL (xs.take i) ∧ wr = w1)
  case atStart => exact ⟨0, 0, rfl, rfl, by omega, by omega, rfl, rfl⟩
  case round =>
    obtain ⟨i, s, rfl, rfl, hi, hik, hs, rfl⟩ := hrel
    by_cases h1 : i < N
    · have hd1 : (i : Int) < (N : Int) := by omega
      have hd0 : (0 : Int) ≤ (i : Int) := by omega
      obtain ⟨g, hg⟩ : ∃ g, xs[i]? = some g := ⟨xs[i]'(by have := HN.out; omega), List.getElem?_eq_getElem _⟩
      obtain ⟨bb, off, rfl, -, e0, e1, e2, e3, e4⟩ := HRD.out.atTbf i g hg
      have hst := sizL_take xs i g hg
      have hb1 := sizL_bdt xs HS.out (i + 1) (by omega)
      have hb0 := sizL_bdt xs HS.out i (by omega)
      rw [← hs] at hst hb0
      rw [hst] at hb1
      have HST := Lib.hid hst
      clear hg hst hs
      go_wp2_with fail
      go_roundg (N - (i + 1))
      case measure => omega
      case rel => exact ⟨i + 1, s + g.siz, by go_num, by go_num, by omega, Nat.le_refl _, HST.out.symm, rfl⟩
    · have hd1 : ¬ (i : Int) < (N : Int) := by omega
      obtain rfl : s = R := by rw [hs, List.take_of_length_le (by have := HN.out; omega), HR.out]
      clear hs
      go_wp2_with fail
      go_ret
      exact ⟨rfl, HB1.out⟩
theorem good_siz {V : Ver} (g : GoodV V) : ∀ f ∈ V.fs, 0 ≤ f.siz ∧ f.siz ≤ 16777216 := fun f hf => by
  have := g.right f hf
  unfold badTb at this
  omega
end Go.Proofs.Ytgdmmhdihgajkaa
/- The walk of the library's MinFunc at tables, with the function that pick.inputs hands over. -/
namespace Go.Proofs.Ytgdmmhdihgajkaa
set_option linter.unusedVariables false
set_option maxRecDepth 100000
open Go.RowKit
set_option maxHeartbeats 2000000 in
theorem minF_any (f g : Tbf) (w : World) : Calls Try.prog 39 #[f.v, g.v] w fun e w' => e = .returned (.int .i64 (vCmpI f.num g.num)) ∧ Below w.heap.size w w' := by
  obtain ⟨x0, x1, x2, x3, x4⟩ := f
  obtain ⟨y0, y1, y2, y3, y4⟩ := g
  have HC : Hid (∀ w, Calls Try.prog 40 #[.int .i64 x0, .int .i64 y0] w fun e w' => e = .returned (.int .i64 (vCmpI x0 y0)) ∧ w' = w) := Lib.hid fun w => cmp64_any x0 y0 w
  have HB : Hid (Below w.heap.size w ((w.alloc (.cells #[.int .i64 x0, .int .i64 x1, .int .i64 x2, .string x3, .string x4] 49)).alloc (.cells #[.int .i64 y0, .int .i64 y1, .int .i64 y2, .string y3, .string y4] 49))) := Lib.hid (((Below.refl _ w).alloc (Nat.le_refl _) _).alloc (by simp) _)
  unfold Tbf.v
  simp only
  go_enter Try.func39, Try.ntmps39
  go_wp2_with fail
  refine (HC.out _).mono ?_
  rintro e w' ⟨rfl, hw⟩
  rw [← hw] at HB
  clear hw HC
  go_wp2_with fail
  go_ret
  exact ⟨rfl, HB.out⟩
/-- The least of those that came so far. -/
def leastF (f : Tbf) (r : List Tbf) : Tbf := r.foldl (fun a g => if g.num < a.num then g else a) f
theorem leastF_take (f : Tbf) (r : List Tbf) (i : Nat) (g : Tbf) (h : r[i]? = some g) : leastF f (r.take (i + 1)) = if g.num < (leastF f (r.take i)).num then g else leastF f (r.take i) := by
  unfold leastF
  rw [List.take_add_one, h, Option.toList_some, List.foldl_append]; rfl
theorem AtTbf.below {w w' : World} {b o : Nat} {f : Tbf} (h : AtTbf w b o f) (hb : b < w.heap.size) (u : Below w.heap.size w w') : AtTbf w' b o f := by
  obtain ⟨h0, h1, h2, h3, h4⟩ := h
  exact ⟨(u.cell hb).trans h0, (u.cell hb).trans h1, (u.cell hb).trans h2, (u.cell hb).trans h3, (u.cell hb).trans h4⟩
/-- Block p holds the least so far; block c is there for what is told. -/
structure LstAt (w : World) (p c : Nat) (f : Tbf) : Prop where
  m : BlkAt w p (encTbf f).toArray 49
  c : BlkAt w c (encTbf ⟨0, 0, 0, ⟨#[]⟩, ⟨#[]⟩⟩).toArray 49
set_option maxHeartbeats 8000000 in
theorem fmin_any (v : Value) (f : Tbf) (r : List Tbf) (hl : r.length ≤ 1000000) (w : World) (h : RdK encTbf 5 w v (f :: r)) : Calls Try.prog 38 #[v, .func (.func 39) #[] #[]] w fun e w' => e = .returned (leastF f r).v ∧ Below w.heap.size w w' := by
  obtain ⟨a, cap, rfl, hcap⟩ := edFl_len h
  have HRD := Lib.hid h
  obtain ⟨bb, off, rfl, hblt, d0, d1, d2, d3, d4⟩ := h.atTbf 0 f rfl
  rw [List.length_cons] at HRD ⊢
  obtain ⟨N, hN⟩ : ∃ N, r.length = N := ⟨_, rfl⟩
  have HN := Lib.hid hN
  rw [hN] at HRD hl ⊢
  clear h hcap hN
  simp only [Nat.zero_mul, Nat.add_zero] at d0 d1 d2 d3 d4
  have hN0 : (0 : Int) < ((N + 1 : Nat) : Int) := by omega
  have hN1 : ¬ ((N + 1 : Nat) : Int) < 1 := by omega
  obtain ⟨x0, x1, x2, x3, x4⟩ := f
  simp only at d0 d1 d2 d3 d4
  obtain ⟨L, hL⟩ : ∃ L, leastF ⟨x0, x1, x2, x3, x4⟩ r = L := ⟨_, rfl⟩
  rw [hL]
  have HL := Lib.hid hL
  clear hL
  go_enter Try.func38, Try.ntmps38
  go_wp2_with fail
  obtain ⟨w2, hw2⟩ : ∃ x, (w.alloc (.cells #[.int .i64 0, .int .i64 0, .int .i64 0, .string ⟨#[]⟩, .string ⟨#[]⟩] 49)).alloc (.cells #[.int .i64 x0, .int .i64 x1, .int .i64 x2, .string x3, .string x4] 49) = x := ⟨_, rfl⟩
  have HM0 : Hid (LstAt w2 (w.heap.size + 1) w.heap.size ⟨x0, x1, x2, x3, x4⟩) := Lib.hid ⟨by
    have h := BlkAt.new (w.alloc (.cells #[.int .i64 0, .int .i64 0, .int .i64 0, .string ⟨#[]⟩, .string ⟨#[]⟩] 49)) (encTbf ⟨x0, x1, x2, x3, x4⟩).toArray 49
    rw [show (w.alloc (.cells #[.int .i64 0, .int .i64 0, .int .i64 0, .string ⟨#[]⟩, .string ⟨#[]⟩] 49)).heap.size = w.heap.size + 1 by simp] at h
    rw [← hw2]
    exact h, by rw [← hw2]; exact (BlkAt.new _ _ _).more _⟩
  have HB0 : Hid (Below w.heap.size w w2) := Lib.hid (by rw [← hw2]; exact ((Below.refl _ w).alloc (Nat.le_refl _) _).alloc (by simp) _)
  obtain ⟨p, hp⟩ : ∃ p, w.heap.size + 1 = p := ⟨_, rfl⟩
  obtain ⟨S, hS⟩ : ∃ S, w.heap.size = S := ⟨_, rfl⟩
  have HPS : Hid (w.heap.size + 1 = p ∧ w.heap.size = S) := Lib.hid ⟨hp, hS⟩
  rw [hw2, hp, hS]
  rw [hp, hS] at HM0
  clear hp hS hw2 d0 d1 d2 d3 d4 hN1
  go_loopg [6] N (fun kk vi wr => ∃ i : Nat, vi = .int .i64 ((i : Int) + 1) ∧ i ≤ N ∧ N - i ≤ kk ∧ Hid (LstAt wr p S (leastF ⟨x0, x1, x2, x3, x4⟩ (r.take i))) ∧ Hid (Below w.heap.size w wr))
  case atStart => exact ⟨0, rfl, by omega, by omega, HM0, HB0⟩
  case round =>
    clear HM0 HB0
    obtain ⟨i, rfl, hi, hik, HM, HB⟩ := hrel
    have hHS := HB.out.size
    by_cases h1 : i < N
    · have hd1 : (i : Int) + 1 < ((N + 1 : Nat) : Int) := by omega
      have hd0 : (0 : Int) ≤ (i : Int) + 1 := by omega
      obtain ⟨g, hg⟩ : ∃ g, r[i]? = some g := ⟨r[i]'(by have := HN.out; omega), List.getElem?_eq_getElem _⟩
      obtain ⟨b', off', e', hbl2, hat⟩ := (HRD.out.below HB.out).atTbf (i + 1) g (by rw [List.getElem?_cons_succ]; exact hg)
      simp only [Option.some.injEq, Addr.mk.injEq] at e'
      obtain ⟨rfl, rfl, -⟩ := e'
      have HST := Lib.hid (leastF_take ⟨x0, x1, x2, x3, x4⟩ r i g hg)
      generalize leastF ⟨x0, x1, x2, x3, x4⟩ (r.take i) = z at *
      have HCM : Hid (∀ w, Calls Try.prog 39 #[g.v, z.v] w fun e w' => e = .returned (.int .i64 (vCmpI g.num z.num)) ∧ Below w.heap.size w w') := Lib.hid fun w => minF_any g z w
      obtain ⟨C, hC⟩ : ∃ C, vCmpI g.num z.num = C := ⟨_, rfl⟩
      obtain ⟨K, hK⟩ : ∃ K, decide (C < 0) = K := ⟨_, rfl⟩
      have HKZ : Hid (K = decide (g.num < z.num)) := Lib.hid (by rw [← hK, ← hC, decide_eq_decide]; exact cmpI_neg _ _)
      have HK : Hid (decide (C < 0) = K) := Lib.hid hK
      have HC0 := Lib.hid hC
      rw [hC] at HCM
      have HAT := Lib.hid hat
      clear hg hat hC hK
      obtain ⟨y0, y1, y2, y3, y4⟩ := g
      obtain ⟨z0, z1, z2, z3, z4⟩ := z
      have HBM := Lib.hid HM.out.m
      unfold Tbf.v at HCM
      simp only at HCM HBM HAT HKZ
      have B : Below wr.heap.size wr wr := Below.refl _ _
      have hblt := hbl2
      go_upto_region 7 with fail
      refine wp_region_held_drew (S := Below wr.heap.size wr) (by kernel_rfl) (Below.refl _ _).drew (fun hHeld => ?_)
      generalize wr.drew = wd2 at hHeld ⊢
      refine wpAnyH_shift hHeld ?_
      replace B : Below wr.heap.size wr wd2 := B.trans (hHeld.mono B.size)
      clear hHeld
      refine takeYes (i := 0) (k := 20) (v := .func (.func 39) #[] #[]) rfl (by kernel_rfl) (by kernel_rfl) (by kernel_rfl) (by kernel_rfl) (fun _ _ _ h => h) (by kernel_rfl) ?_ (Below.refl _ _) ?_
      · intro W hSw; first | (go_simp; done) | go_simp
      try simp only [Act.put, List.setIfInBounds_toArray, List.set_cons_zero, List.set_cons_succ]
      refine takeYes (i := 1) (k := 21) (v := .slice (some ⟨bb, off, none⟩) (N + 1) cap) rfl (by kernel_rfl) (by kernel_rfl) (by kernel_rfl) (by kernel_rfl) (fun _ _ _ h => h) (by kernel_rfl) ?_ (Below.refl _ _) ?_
      · intro W hSw; first | (go_simp; done) | go_simp
      try simp only [Act.put, List.setIfInBounds_toArray, List.set_cons_zero, List.set_cons_succ]
      refine takeYes (i := 2) (k := 22) (v := .int .i64 ((i : Int) + 1)) rfl (by kernel_rfl) (by kernel_rfl) (by kernel_rfl) (by kernel_rfl) (fun _ _ _ h => h) (by kernel_rfl) ?_ (Below.refl _ _) ?_
      · intro W hSw; first | (go_simp; done) | go_simp
      try simp only [Act.put, List.setIfInBounds_toArray, List.set_cons_zero, List.set_cons_succ]
      refine takeYes (i := 3) (k := 23) (v := .pointer (some ⟨bb, off + (i + 1) * 5, none⟩)) rfl (by kernel_rfl) (by kernel_rfl) (by kernel_rfl) (by kernel_rfl) (fun _ _ _ h => h) (by kernel_rfl) ?_ (Below.refl _ _) ?_
      · intro W hSw; first | (go_simp; done) | go_simp
      try simp only [Act.put, List.setIfInBounds_toArray, List.set_cons_zero, List.set_cons_succ]
      refine takeYes (i := 4) (k := 24) (v := .agg #[.int .i64 y0, .int .i64 y1, .int .i64 y2, .string y3, .string y4]) rfl (by kernel_rfl) (by kernel_rfl) (by kernel_rfl) (by kernel_rfl) (fun _ _ _ h => h) (by kernel_rfl) ?_ (Below.refl _ _) ?_
      · intro W hSw; obtain ⟨k0, k1, k2, k3, k4⟩ := HAT.out.below hblt (B.trans (hSw.mono B.size)); first | (go_simp; done) | go_simp
      try simp only [Act.put, List.setIfInBounds_toArray, List.set_cons_zero, List.set_cons_succ]
      refine takeYes (i := 5) (k := 25) (v := .agg #[.int .i64 z0, .int .i64 z1, .int .i64 z2, .string z3, .string z4]) rfl (by kernel_rfl) (by kernel_rfl) (by kernel_rfl) (by kernel_rfl) (fun _ _ _ h => h) (by kernel_rfl) ?_ (Below.refl _ _) ?_
      · intro W hSw; obtain ⟨k0, k1, k2, k3, k4⟩ := cell5_of (HBM.out.below (B.trans (hSw.mono B.size))); first | (go_simp; done) | go_simp
      try simp only [Act.put, List.setIfInBounds_toArray, List.set_cons_zero, List.set_cons_succ]
      refine wpAnyH_ready (rs := [6]) (by kernel_rfl) (by simp) (AllReadyH.cons rfl (fun K hK => ?_) AllReadyH.nil)
      go_simp
      refine (HCM.out wd2).mono ?_
      rintro e wd3 ⟨rfl, hb3⟩
      refine hK.out _ _ hb3 (fun _ => wpAnyH_shift hb3 ?_)
      clear hK K
      replace B : Below wr.heap.size wr wd3 := B.trans (hb3.mono B.size)
      clear hb3
      try simp only [Act.put, List.setIfInBounds_toArray, List.set_cons_zero, List.set_cons_succ]
      refine takeYes (i := 7) (k := 27) (v := .bool K) rfl (by kernel_rfl) (by kernel_rfl) (by kernel_rfl) (by kernel_rfl) (fun _ _ _ h => h) (by kernel_rfl) ?_ (Below.refl _ _) ?_
      · intro W hSw; have hK0 := HK.out; first | (go_simp; done) | go_simp
      try simp only [Act.put, List.setIfInBounds_toArray, List.set_cons_zero, List.set_cons_succ]
      refine wpAnyH_done (by kernel_rfl) ?_ _
      have HB2 := Lib.hid (HB.out.trans (B.mono HB.out.size))
      have hm := HBM.out.below B
      have hc := HM.out.c.below B
      have hat := HAT.out.below hblt B
      have hpp : S < p := by have := HPS.out; omega
      clear HCM HM HBM HAT B HB HK HC0
      cases K with
      | true =>
        have hlt : y0 < z0 := of_decide_eq_true HKZ.out.symm
        have HT : Hid (leastF ⟨x0, x1, x2, x3, x4⟩ (r.take (i + 1)) = ⟨y0, y1, y2, y3, y4⟩) := Lib.hid (by rw [HST.out]; exact if_pos hlt)
        obtain ⟨k0, k1, k2, k3, k4⟩ := hat
        simp only at k0 k1 k2 k3 k4
        obtain ⟨j0, j1, j2, j3, j4⟩ := cell5_of hm
        have f0 := hm.free 0
        have f1 := hm.free 1
        have f2 := hm.free 2
        have f3 := hm.free 3
        have f4 := hm.free 4
        have hf := fill5 hm (.int .i64 y0) (.int .i64 y1) (.int .i64 y2) (.string y3) (.string y4)
        have HF := Lib.hid (And.intro hf ((hf.2.block S hc.lt (fun e => by have : S = p := e; omega)).trans hc))
        clear hf hm hc HST HKZ hlt
        go_wp2_with fail
        go_roundg (N - (i + 1))
        case measure => omega
        case rel => exact ⟨i + 1, by go_num, by omega, Nat.le_refl _, Lib.hid (by rw [HT.out]; exact ⟨HF.out.1.1, HF.out.2⟩), Lib.hid (by rw [← HPS.out.2] at hpp; exact HB2.out.trans (UpdF.below HF.out.1.2 HB2.out.size fun k hk e => by subst e; omega))⟩
      | false =>
        have hlt : ¬ y0 < z0 := of_decide_eq_false HKZ.out.symm
        have HT : Hid (leastF ⟨x0, x1, x2, x3, x4⟩ (r.take (i + 1)) = ⟨z0, z1, z2, z3, z4⟩) := Lib.hid (by rw [HST.out]; exact if_neg hlt)
        have HF := Lib.hid (And.intro hm hc)
        clear hm hc HST HKZ hlt hat
        go_wp2_with fail
        go_roundg (N - (i + 1))
        case measure => omega
        case rel => exact ⟨i + 1, by go_num, by omega, Nat.le_refl _, Lib.hid (by rw [HT.out]; exact ⟨HF.out.1, HF.out.2⟩), HB2⟩
    · have hd1 : ¬ (i : Int) + 1 < ((N + 1 : Nat) : Int) := by omega
      rw [List.take_of_length_le (by have := HN.out; omega), HL.out] at HM
      obtain ⟨z0, z1, z2, z3, z4⟩ := L
      obtain ⟨k0, k1, k2, k3, k4⟩ := cell5_of HM.out.m
      have f0 := HM.out.c.free 0
      have f1 := HM.out.c.free 1
      have f2 := HM.out.c.free 2
      have f3 := HM.out.c.free 3
      have f4 := HM.out.c.free 4
      have hf := fill5 HM.out.c (.int .i64 z0) (.int .i64 z1) (.int .i64 z2) (.string z3) (.string z4)
      have HF := Lib.hid hf.2
      obtain ⟨j0, j1, j2, j3, j4⟩ := cell5_of HM.out.c
      have HX := Lib.hid hf.1
      obtain ⟨r0, r1, r2, r3, r4⟩ := cell5_of hf.1
      have HBF : Hid (Below w.heap.size w _) := Lib.hid (HB.out.trans (UpdF.below hf.2 HB.out.size fun k hk e => by have : k = S := e; have := HPS.out; omega))
      clear hf HM HX HF
      go_wp2_with fail
      refine bodyPost_ret (v := .agg #[.int .i64 z0, .int .i64 z1, .int .i64 z2, .string z3, .string z4]) (by simp [results, Try.results38, go_sem, r0, r1, r2, r3, r4]) rfl ⟨rfl, ?_⟩
      exact HBF.out
end Go.Proofs.Ytgdmmhdihgajkaa
/- The walks of the library's Grow and Concat at slices of tables. -/
namespace Go.Proofs.Ytgdmmhdihgajkaa
set_option linter.unusedVariables false
set_option maxRecDepth 100000
open Go.RowKit
/-- No tables, with room. -/
theorem app_roomF {ty : Nat} (w : World) (n : Nat) (h0 : 0 < n) (hn : n ≤ 1000000000) :
    ∃ v c w', v = .slice (some ⟨w.heap.size, 0, none⟩) n c ∧ (Builtin.append_ #[30, 3] ty #[.slice none 0 0, .int .i64 (n : Int)]).run Try.prog w = .ok v w' ∧ n ≤ c ∧ OwnK encTbf 5 49 w.heap.size w' (.slice (some ⟨w.heap.size, 0, none⟩) 0 c) [] ∧ Below w.heap.size w w' := by
  obtain ⟨f1, f2, f3, f4⟩ := elem_tbf
  obtain ⟨i0, hi, hz0, hz1, hz2⟩ := info_parts f2
  refine ⟨_, _, _, rfl, Lib.run_append_nil_zeros w 30 3 ty 49 i0 _ .i64 .i64 f1 Try.underlying3 hi hz0 n h0 (by omega) (by omega) (by rw [hz2]; omega), grownCap_ge .., ?_, ?_⟩
  · refine ⟨rfl, .inr ⟨w.heap.size, grownCap w n 0 49, _, rfl, Nat.le_refl _, heap_alloc_new .., Nat.zero_le _, ?_, ?_, ?_⟩⟩
    · exact grownCap_le_maxLen w n 0 _ (by unfold maxLen; omega)
    · rw [Array.size_append, size_zeroCells, size_zeroCells]
      have := grownCap_ge w n 0 49
      show n * 5 + (grownCap w n 0 49 - n) * 5 = _
      omega
    · simp
  · exact ((DrN.below ⟨1, rfl⟩ w.heap.size : Below w.heap.size w w.drew)).alloc (Nat.le_refl _) _
set_option maxHeartbeats 2000000 in
theorem fgrow_any (n : Nat) (hn : n ≤ 1000000000) (w : World) : Calls Try.prog 43 #[.slice none 0 0, .int .i64 (n : Int)] w (FilsTo w []) := by
  unfold FilsTo
  rcases Nat.eq_zero_or_pos n with h0 | h0
  · subst h0
    go_enter Try.func43, Try.ntmps43
    go_wp2_with fail
    go_ret
    exact ⟨_, rfl, OwnK.nil _ _ _ _ _, Below.refl _ _⟩
  · have hz1 : (0 : Int) < (n : Int) := by omega
    have hz2 : ¬ (n : Int) < 0 := by omega
    obtain ⟨v1, c1, w1, hv1, hr, hc1, o1, b1⟩ := app_roomF (ty := 30) w n h0 hn
    have hsl2 : ∀ W, (Instr.sliceAt 30 (.slice (some ⟨w.heap.size, 0, none⟩) n c1) none (some (.int .i64 0)) none).run Try.prog W = .ok (.slice (some ⟨w.heap.size, 0, none⟩) 0 c1) W := fun W => sl_hF2 W _ n c1 0 (Nat.zero_le _)
    subst hv1
    have HO := Lib.hid o1
    have HRN := Lib.hid hr
    clear hr o1
    go_enter Try.func43, Try.ntmps43
    go_wp2_with (at_builtin; refine wp_appZ _ _ (by rfl) (by rfl) (by rfl) (by rfl) HRN.out ?_)
    go_ret
    exact ⟨_, rfl, HO.out, b1⟩
/-- A row of slices of tables. -/
structure RdFF (w : World) (b off : Nat) (l : List (List Tbf)) : Prop where
  lt : b < w.heap.size
  row : ∀ i x, l[i]? = some x → ∃ u, w.cell? ⟨b, off + i, none⟩ = some u ∧ RdK encTbf 5 w u x
theorem RdFF.below {w w' : World} {b off : Nat} {l : List (List Tbf)} (h : RdFF w b off l) (u : Below w.heap.size w w') : RdFF w' b off l :=
  ⟨Nat.lt_of_lt_of_le h.lt u.size, fun i x hx => by obtain ⟨v, h1, h2⟩ := h.row i x hx; exact ⟨v, (u.cell h.lt).trans h1, h2.below u⟩⟩
theorem sumF_take (l : List (List Tbf)) (i : Nat) (x : List Tbf) (h : l[i]? = some x) : ((l.take (i + 1)).flatMap id).length = ((l.take i).flatMap id).length + x.length ∧ (l.take (i + 1)).flatMap id = (l.take i).flatMap id ++ x := by
  rw [List.take_add_one, h, List.flatMap_append]
  simp
theorem fSum_le (l : List (List Tbf)) (i : Nat) : ((l.take i).flatMap id).length ≤ (l.flatMap id).length := by
  have e : (l.take i).flatMap id ++ (l.drop i).flatMap id = l.flatMap id := by rw [← List.flatMap_append, List.take_append_drop]
  rw [← e, List.length_append]; omega
set_option maxHeartbeats 4000000 in
theorem fconcat_any (b off cap : Nat) (bss : List (List Tbf)) (hb : (bss.flatMap id).length ≤ 1000000000 ∧ bss.length ≤ 1000000000) (w : World) (h : RdFF w b off bss) : Calls Try.prog 23 #[.slice (some ⟨b, off, none⟩) bss.length cap] w (FilsTo w (bss.flatMap id)) := by
  unfold FilsTo
  obtain ⟨R, hR⟩ : ∃ R, bss.flatMap id = R := ⟨_, rfl⟩
  have HR := Lib.hid hR
  have HRD := Lib.hid h
  obtain ⟨N, hN⟩ : ∃ N, bss.length = N := ⟨_, rfl⟩
  obtain ⟨S, hS⟩ : ∃ S, R.length = S := ⟨_, rfl⟩
  have HS := Lib.hid hS
  obtain ⟨hb1, hb2⟩ := hb
  rw [hR, hS] at hb1
  rw [hN] at hb2
  rw [hR, hN]
  have HN := Lib.hid hN.symm
  have HSL : Hid (∀ i, ((bss.take i).flatMap id).length ≤ S) := Lib.hid fun i => by rw [← hS, ← hR]; exact fSum_le bss i
  clear hR h hN hS
  have HG : Hid (∀ w, Calls Try.prog 43 #[.slice none 0 0, .int .i64 (S : Int)] w (FilsTo w [])) := Lib.hid (fgrow_any S hb1)
  go_enter Try.func23, Try.ntmps23
  go_wp2_with fail
  go_loopg [3, 11] N (fun kk vs vi wr => ∃ (i s : Nat), vi = .int .i64 (i : Int) ∧ vs = .int .i64 (s : Int) ∧ i ≤ N ∧ N - i ≤ kk ∧ s ≤ S ∧ w = wr ∧ Hid (s = ((bss.take i).flatMap id).length))
  case atStart => exact ⟨0, 0, rfl, rfl, by omega, by omega, by omega, rfl, Lib.hid rfl⟩
  case round =>
    obtain ⟨i, s, rfl, rfl, hi, hik, hs, rfl, HSS⟩ := hrel
    by_cases h1 : i < N
    · have hi1 : (i : Int) < (N : Int) := by omega
      have hi0 : (0 : Int) ≤ (i : Int) := by omega
      have hlx : i < bss.length := by have := HN.out; omega
      obtain ⟨x, hx⟩ : ∃ x, bss[i]? = some x := ⟨bss[i], List.getElem?_eq_getElem hlx⟩
      obtain ⟨u, hc, hu⟩ := HRD.out.row i x hx
      obtain ⟨au, cu, rfl, -⟩ := edFl_len hu
      obtain ⟨nu, hnu⟩ : ∃ nu, x.length = nu := ⟨_, rfl⟩
      rw [hnu] at hc
      have hsn : s + nu ≤ S := by
        have := HSL.out (i + 1)
        rw [(sumF_take bss i x hx).1, ← HSS.out] at this
        omega
      have HS2 : Hid (s + nu = ((bss.take (i + 1)).flatMap id).length) := Lib.hid (by rw [(sumF_take bss i x hx).1, ← HSS.out, hnu])
      clear hx hu hnu HSS hlx
      have hneg : ¬ (s : Int) + (nu : Int) < 0 := by omega
      go_wp2_with fail
      go_roundg (N - (i + 1))
      case measure => omega
      case rel => exact ⟨i + 1, s + nu, by go_num, by go_num, by omega, Nat.le_refl _, hsn, rfl, HS2⟩
    · obtain rfl : i = N := by omega
      obtain rfl : s = S := by
        rw [HSS.out, List.take_of_length_le (by have := HN.out; omega), HR.out, HS.out]
      have hi1 : ¬ (i : Int) < (i : Int) := by omega
      clear HSS
      go_wp2_with fail
      refine (HG.out _).mono ?_
      rintro e w1 ⟨v1, rfl, o1, b1⟩
      have HO1 := Lib.hid o1
      have HB1 := Lib.hid b1
      obtain ⟨a1, c1, rfl⟩ := fil_form o1
      clear o1 b1 HG
      go_wp2_with fail
      go_loopg [6, 27] i (fun kk vs vj wr => ∃ (j : Nat) (L : List Tbf) (a2 : Option Addr) (n2 c2 : Nat), vj = .int .i64 (j : Int) ∧ vs = .slice a2 n2 c2 ∧ j ≤ i ∧ i - j ≤ kk ∧ Hid (L = (bss.take j).flatMap id) ∧ Hid (OwnK encTbf 5 49 w.heap.size wr (.slice a2 n2 c2) L) ∧ Hid (Below w.heap.size w wr))
      case atStart => exact ⟨0, [], a1, 0, c1, rfl, rfl, by omega, by omega, Lib.hid rfl, HO1, HB1⟩
      case round =>
        clear HO1 HB1
        obtain ⟨j, L, a2, n2, c2, rfl, rfl, hj, hjk, HL, HO, HB⟩ := hrel
        by_cases h2 : j < i
        · have hj1 : (j : Int) < (i : Int) := by omega
          have hj0 : (0 : Int) ≤ (j : Int) := by omega
          have hlx : j < bss.length := by have := HN.out; omega
          obtain ⟨x, hx⟩ : ∃ x, bss[j]? = some x := ⟨bss[j], List.getElem?_eq_getElem hlx⟩
          obtain ⟨u, hc, hu⟩ := (HRD.out.below HB.out).row j x hx
          obtain ⟨au, cu, rfl, -⟩ := edFl_len hu
          have HU := Lib.hid hu
          have HT := Lib.hid (sumF_take bss j x hx).2
          have HLL : Hid (L.length + x.length ≤ 1000000000) := Lib.hid (by
            have := HSL.out (j + 1)
            rw [(sumF_take bss j x hx).1, ← HL.out] at this
            omega)
          clear hx hu hlx
          go_wp2_with (at_builtin; refine wp_appSK elem_tbf encTbf_len _ _ (by rfl) (by rfl) (by rfl) HO.out (by rfl) HU.out ?c1 ?c2 ?c3 HB.out.size ?_)
          case c1 => exact fun u hu => by obtain ⟨f, -, hf⟩ := List.mem_flatMap.1 hu; exact tbf_cells f u hf
          case c2 => have := HLL.out; omega
          case c3 => have := HLL.out; unfold maxLen; omega
          intro v3 w3 o3 b3
          have HB3 := Lib.hid (HB.out.trans b3)
          obtain ⟨a3, c3, rfl⟩ := fil_form o3
          have HO3 := Lib.hid o3
          clear o3 b3 HU HO HB
          go_wp2_with fail
          go_roundg (i - (j + 1))
          case measure => omega
          case rel => exact ⟨j + 1, _, a3, _, c3, by go_num, rfl, by omega, Nat.le_refl _, Lib.hid (by rw [HT.out, HL.out]), HO3, HB3⟩
        · obtain rfl : j = i := by omega
          have hj1 : ¬ (j : Int) < (j : Int) := by omega
          have HRL : Hid (R = L) := Lib.hid (by rw [← HR.out, HL.out, List.take_of_length_le (by have := HN.out; omega)])
          clear HL HR
          go_wp2_with fail
          go_ret
          exact ⟨_, rfl, by rw [HRL.out]; exact HO.out, HB.out⟩
end Go.Proofs.Ytgdmmhdihgajkaa
/- What a version tells of its levels, ours and the reference's. -/
namespace Go.Proofs.Ytgdmmhdihgajkaa
set_option linter.unusedVariables false
set_option maxRecDepth 100000
open Go.RowKit
/-- The functions fl and fo tell the levels of the tables F. -/
structure Lvs (fl fo : FuncId) (w : World) (p : Value) (F : List Tbf) : Prop where
  lv : ∀ W (n : Int), Below w.heap.size w W → 0 ≤ n → Calls Try.prog fl #[p, .int .i64 n] W (FilsTo W (levelV n F))
  ov : ∀ W (n : Int) (a b : ByteArray), Below w.heap.size w W → 0 ≤ n → n < 5 → Calls Try.prog fo #[p, .int .i64 n, .string a, .string b] W (FilsTo W (overV n a b F))
  len : ∀ n, (levelV n F).length ≤ 200
  siz : ∀ f ∈ F, 0 ≤ f.siz ∧ f.siz ≤ 16777216
theorem Lvs.below {fl fo : FuncId} {w w' : World} {p : Value} {F : List Tbf} (h : Lvs fl fo w p F) (u : Below w.heap.size w w') : Lvs fl fo w' p F :=
  ⟨fun W n hW => h.lv W n (u.trans (hW.mono u.size)), fun W n a b hW => h.ov W n a b (u.trans (hW.mono u.size)), h.len, h.siz⟩
theorem lvl_len {V : Ver} (g : GoodV V) (n : Int) : (levelV n V.fs).length ≤ 200 := by
  rw [(levelV_perm n V.fs).length_eq]
  exact Nat.le_trans (List.length_filter_le _ _) g.few
theorem vLvs {B : Nat} {w : World} {b : Nat} {V : Ver} (h : VerAt B w b V) : Lvs 17 22 w (.pointer (some ⟨b, 0, none⟩)) V.fs := by
  refine ⟨fun W n hW hn => ?_, fun W n x y hW hn h5 => ?_, lvl_len h.good, good_siz h.good⟩
  · have := vlevel_raw (h.below hW) n
    rwa [ver_level h.good h.srt (vSame.refl V) n hn] at this
  · have := vover_raw (h.below hW) n x y
    rwa [ver_over h.good h.srt (vSame.refl V) n x y, if_pos ⟨hn, h5⟩] at this
theorem rLvs {B : Nat} {w : World} {c : Nat} {V : Ver} (h : RefAt B w c V) : Lvs 18 26 w (.pointer (some ⟨c, 0, none⟩)) V.fs := by
  have hl : V.fs.length ≤ 1000 := by have := h.good.few; omega
  refine ⟨fun W n hW hn => ?_, fun W n x y hW hn h5 => ?_, lvl_len h.good, good_siz h.good⟩
  · obtain ⟨fv, h1, h2⟩ := (h.below hW).blk
    exact rlevel_any h1 (h2.rd encTbf_len) hl n hn
  · obtain ⟨fv, h1, h2⟩ := (h.below hW).blk
    exact rover_any h1 (h2.rd encTbf_len) hl n hn x y
theorem lvl_siz {fl fo : FuncId} {w : World} {p : Value} {F : List Tbf} (h : Lvs fl fo w p F) (n : Int) : ∀ f ∈ levelV n F, 0 ≤ f.siz ∧ f.siz ≤ 16777216 := fun f hf => h.siz f (level_mem.1 hf).1
theorem psize_any {fo : FuncId} {w : World} {p : Value} {F : List Tbf} (h : Lvs 17 fo w p F) (n : Int) (hn : 0 ≤ n) (W : World) (hW : Below w.heap.size w W) : Calls Try.prog 7 #[p, .int .i64 n] W (IntTo W (sizV n F)) :=
  psize_raw p n _ (Nat.le_trans (h.len n) (by decide)) (lvl_siz h n) W (h.lv W n hW hn)
theorem rsize_any {fo : FuncId} {w : World} {p : Value} {F : List Tbf} (h : Lvs 18 fo w p F) (n : Int) (hn : 0 ≤ n) (W : World) (hW : Below w.heap.size w W) : Calls Try.prog 8 #[p, .int .i64 n] W (IntTo W (sizV n F)) :=
  rsize_raw p n _ (Nat.le_trans (h.len n) (by decide)) (lvl_siz h n) W (h.lv W n hW hn)
theorem over_len {fl fo : FuncId} {w : World} {p : Value} {F : List Tbf} (h : Lvs fl fo w p F) (n : Int) (a b : ByteArray) : (overV n a b F).length ≤ 200 := Nat.le_trans (List.length_filter_le _ _) (h.len n)
theorem botV_true {F : List Tbf} {n : Int} {a b : ByteArray} (hn : 0 ≤ n) (h : ∀ m, n + 2 ≤ m → m < 5 → overV m a b F = []) : botV F n a b = true := by
  unfold botV
  rw [List.all_eq_true]
  intro m hm
  obtain ⟨hm, h2⟩ := List.mem_filter.1 hm
  have h2 := of_decide_eq_true h2
  rw [h m h2 (by simp at hm; omega)]; rfl
theorem botV_false {F : List Tbf} {n m : Int} {a b : ByteArray} (hn : 0 ≤ n) (h1 : n + 2 ≤ m) (h5 : m < 5) (h : overV m a b F ≠ []) : botV F n a b = false := by
  unfold botV
  rw [List.all_eq_false]
  refine ⟨m, List.mem_filter.2 ⟨by simp; omega, decide_eq_true h1⟩, ?_⟩
  rw [List.isEmpty_iff]; exact h
end Go.Proofs.Ytgdmmhdihgajkaa
/- The walk of pick.isBottom. -/
namespace Go.Proofs.Ytgdmmhdihgajkaa
set_option linter.unusedVariables false
set_option maxRecDepth 100000
open Go.RowKit
set_option maxHeartbeats 4000000 in
theorem pbot_any {fl : FuncId} {w0 : World} {p : Value} {F : List Tbf} (h : Lvs fl 22 w0 p F) (n : Int) (hn : 0 ≤ n) (hn3 : n ≤ 3) (a b : ByteArray) (w : World) (hw : Below w0.heap.size w0 w) :
    Calls Try.prog 24 #[p, .int .i64 (n + 1), .string a, .string b] w fun e w' => e = .returned (.bool (botV F n a b)) ∧ Below w.heap.size w w' := by
  have HV := Lib.hid (h.below hw)
  obtain ⟨R, hR⟩ : ∃ R, botV F n a b = R := ⟨_, rfl⟩
  have HR := Lib.hid hR
  rw [hR]
  clear h hw hR
  have e2 : n + 1 + 1 = n + 2 := by omega
  go_enter Try.func24, Try.ntmps24
  go_wp2_with fail
  go_loopg [9] 5 (fun kk vi wr => ∃ m : Int, vi = .int .i64 m ∧ n + 2 ≤ m ∧ m ≤ 5 ∧ (5 - m).toNat ≤ kk ∧ Hid (∀ k, n + 2 ≤ k → k < m → overV k a b F = []) ∧ Hid (Below w.heap.size w wr))
  case atStart => exact ⟨n + 2, by go_num, by omega, by omega, by omega, Lib.hid fun k h1 h2 => by omega, Lib.hid (Below.refl _ _)⟩
  case round =>
    obtain ⟨m, rfl, hm1, hm5, hk, HE, HB⟩ := hrel
    by_cases h5 : m < 5
    · have HO := Lib.hid (HV.out.ov wr m a b HB.out (by omega) h5)
      obtain ⟨ys, hys⟩ : ∃ ys, overV m a b F = ys := ⟨_, rfl⟩
      have HYS := Lib.hid hys
      rw [hys] at HO
      clear hys
      go_wp2_with fail
      refine HO.out.mono ?_
      rintro e w2 ⟨u, rfl, ho, hb⟩
      obtain ⟨aL, cL, rfl⟩ := fil_form ho
      have HB2 := Lib.hid (HB.out.trans (hb.mono HB.out.size))
      clear ho hb HO HB
      cases ys with
      | nil =>
        have HE2 : Hid (∀ k, n + 2 ≤ k → k < m + 1 → overV k a b F = []) := Lib.hid fun k h1 h2 => by
          by_cases hkm : k < m
          · exact HE.out k h1 hkm
          · obtain rfl : k = m := by omega
            exact HYS.out
        rw [List.length_nil]
        clear HE HYS
        go_wp2_with fail
        go_roundg ((5 - (m + 1)).toNat)
        case measure => omega
        case rel => exact ⟨m + 1, by go_num, by omega, by omega, Nat.le_refl _, HE2, HB2⟩
      | cons y ys =>
        obtain rfl : R = false := by rw [← HR.out]; exact botV_false hn hm1 h5 (by rw [HYS.out]; simp)
        rw [List.length_cons]
        have hpos : (0 : Int) < ((ys.length + 1 : Nat) : Int) := by omega
        generalize ys.length + 1 = L at *
        clear HE HYS
        go_wp2_with fail
        go_ret
        exact ⟨rfl, HB2.out⟩
    · obtain rfl : m = 5 := by omega
      obtain rfl : R = true := by rw [← HR.out]; exact botV_true hn fun k h1 h2 => HE.out k h1 h2
      clear HE
      go_wp2_with fail
      go_ret
      exact ⟨rfl, HB.out⟩
end Go.Proofs.Ytgdmmhdihgajkaa
/- The walks of pick.inputs and pick.fullLevel. -/
namespace Go.Proofs.Ytgdmmhdihgajkaa
set_option linter.unusedVariables false
set_option maxRecDepth 100000
open Go.RowKit
set_option maxHeartbeats 4000000 in
theorem pins_any {fo : FuncId} {w0 : World} {p : Value} {F : List Tbf} (h : Lvs 17 fo w0 p F) (n : Int) (hn : 0 ≤ n) (hne : insV F n ≠ []) (w : World) (hw : Below w0.heap.size w0 w) :
    Calls Try.prog 20 #[p, .int .i64 n] w (FilsTo w (insV F n)) := by
  have HLV := Lib.hid (h.lv w n hw hn)
  have HL := Lib.hid (h.len n)
  clear h hw
  unfold FilsTo
  by_cases h0 : n = 0
  · subst h0
    obtain ⟨R, hR⟩ : ∃ R, levelV 0 F = R := ⟨_, rfl⟩
    have e : insV F 0 = R := by rw [← hR]; exact if_pos rfl
    rw [e]
    rw [hR] at HLV
    clear hne e hR HL
    go_enter Try.func20, Try.ntmps20
    go_wp2_with fail
    refine HLV.out.mono ?_
    rintro e w1 ⟨u, rfl, ho, hb⟩
    have HB := Lib.hid (And.intro ho hb)
    clear ho hb HLV
    go_wp2_with fail
    go_ret
    exact ⟨_, rfl, HB.out.1, HB.out.2⟩
  · have hz : ((n : Int) == 0) = false := beq_false_of_ne h0
    have ei : insV F n = (leastV (levelV n F)).toList := if_neg h0
    rw [ei] at hne ⊢
    cases e : levelV n F with
    | nil => rw [e] at hne; exact absurd rfl hne
    | cons f r =>
      rw [e] at HLV HL
      have el : (leastV (f :: r)).toList = [leastF f r] := rfl
      obtain ⟨z, hz⟩ : ∃ z, leastF f r = z := ⟨_, rfl⟩
      have HZ := Lib.hid hz
      rw [el, hz]
      clear hz
      have hl : r.length ≤ 1000000 := by have := HL.out; rw [List.length_cons] at this; omega
      clear hne ei e el HL
      go_enter Try.func20, Try.ntmps20
      go_wp2_with fail
      refine HLV.out.mono ?_
      rintro e w1 ⟨u, rfl, ho, hb⟩
      have HB1 := Lib.hid hb
      have HMN := Lib.hid (fmin_any u f r hl w1 (ho.rd encTbf_len))
      obtain ⟨aL, cL, rfl⟩ := fil_form ho
      clear ho hb HLV hl
      generalize (f :: r).length = NL at *
      rw [HZ.out] at HMN
      clear HZ
      obtain ⟨z0, z1, z2, z3, z4⟩ := z
      unfold Tbf.v at HMN
      simp only at HMN
      go_wp2_with fail
      refine HMN.out.mono ?_
      rintro e w2 ⟨rfl, hb⟩
      have HB2 := Lib.hid (HB1.out.trans (hb.mono HB1.out.size))
      clear hb HMN HB1
      obtain ⟨wa, hwa⟩ : ∃ x, w2.alloc (.cells #[.int .i64 z0, .int .i64 z1, .int .i64 z2, .string z3, .string z4] 49) = x := ⟨_, rfl⟩
      have HBX : Hid (BlkAt wa w2.heap.size #[.int .i64 z0, .int .i64 z1, .int .i64 z2, .string z3, .string z4] 49) := Lib.hid (by rw [← hwa]; exact BlkAt.new _ _ _)
      have HBA : Hid (Below w.heap.size w wa) := Lib.hid (by rw [← hwa]; exact HB2.out.alloc HB2.out.size _)
      have HOW := Lib.hid (own_oneK (E := 49) encTbf_len wa ⟨z0, z1, z2, z3, z4⟩)
      have HBZ := Lib.hid (HBA.out.alloc HBA.out.size (.cells #[.int .i64 z0, .int .i64 z1, .int .i64 z2, .string z3, .string z4] 49))
      obtain ⟨pp, hpp⟩ : ∃ x, w2.heap.size = x := ⟨_, rfl⟩
      rw [hpp] at HBX
      obtain ⟨k0, k1, k2, k3, k4⟩ := cell5_of HBX.out
      have hBs := HBA.out.size
      clear HB2 HBX
      go_wp2_with fail
      go_ret
      exact ⟨_, rfl, HOW.out.base hBs, HBZ.out⟩
def fullTo (F : List Tbf) (w : World) (e : Ending) (w' : World) : Prop := e = .returned (.tuple #[.int .i64 ((pickL F).getD 0), .bool (pickL F).isSome]) ∧ Below w.heap.size w w'
/-- How far the levels have been gone through. -/
def FullAt (F : List Tbf) (m : Int) (i : Int) : Prop :=
  ¬ 4 ≤ (levelV 0 F).length ∧ ((i = 1 ∧ m = 2000) ∨ (i = 2 ∧ m = 8000 ∧ ¬ 2000 < sizV 1 F) ∨ (i = 3 ∧ m = 32000 ∧ ¬ 2000 < sizV 1 F ∧ ¬ 8000 < sizV 2 F) ∨ (i = 4 ∧ m = 128000 ∧ ¬ 2000 < sizV 1 F ∧ ¬ 8000 < sizV 2 F ∧ ¬ 32000 < sizV 3 F))
theorem FullAt.bd {F : List Tbf} {m i : Int} (h : FullAt F m i) : 1 ≤ i ∧ i ≤ 4 ∧ 2000 ≤ m ∧ m ≤ 128000 := by
  obtain ⟨-, h | h | h | h⟩ := h <;> omega
theorem FullAt.yes {F : List Tbf} {m i : Int} (h : FullAt F m i) (h4 : i < 4) (hs : m < sizV i F) : pickL F = some i := by
  obtain ⟨h0, ⟨rfl, rfl⟩ | ⟨rfl, rfl, h1⟩ | ⟨rfl, rfl, h1, h2⟩ | ⟨rfl, _⟩⟩ := h
  · unfold pickL; rw [if_neg h0, if_pos hs]
  · unfold pickL; rw [if_neg h0, if_neg h1, if_pos hs]
  · unfold pickL; rw [if_neg h0, if_neg h1, if_neg h2, if_pos hs]
  · omega
theorem FullAt.next {F : List Tbf} {m i : Int} (h : FullAt F m i) (h4 : i < 4) (hs : ¬ m < sizV i F) : FullAt F (m * 4) (i + 1) := by
  obtain ⟨h0, ⟨rfl, rfl⟩ | ⟨rfl, rfl, h1⟩ | ⟨rfl, rfl, h1, h2⟩ | ⟨rfl, _⟩⟩ := h
  · exact ⟨h0, .inr (.inl ⟨rfl, rfl, hs⟩)⟩
  · exact ⟨h0, .inr (.inr (.inl ⟨rfl, rfl, h1, hs⟩))⟩
  · exact ⟨h0, .inr (.inr (.inr ⟨rfl, rfl, h1, h2, hs⟩))⟩
  · omega
theorem FullAt.no {F : List Tbf} {m i : Int} (h : FullAt F m i) (h4 : ¬ i < 4) : pickL F = none := by
  obtain ⟨h0, ⟨rfl, rfl⟩ | ⟨rfl, rfl, h1⟩ | ⟨rfl, rfl, h1, h2⟩ | ⟨rfl, rfl, h1, h2, h3⟩⟩ := h
  · omega
  · omega
  · omega
  · unfold pickL; rw [if_neg h0, if_neg h1, if_neg h2, if_neg h3]
set_option maxHeartbeats 4000000 in
theorem pfull_any {fo : FuncId} {w0 : World} {p : Value} {F : List Tbf} (h : Lvs 17 fo w0 p F) (w : World) (hw : Below w0.heap.size w0 w) :
    Calls Try.prog 19 #[p] w (fullTo F w) := by
  have HV := Lib.hid (h.below hw)
  have HLV := Lib.hid (HV.out.lv w 0 (Below.refl _ _) (by decide))
  obtain ⟨R, hR⟩ : ∃ R, pickL F = R := ⟨_, rfl⟩
  have HR := Lib.hid hR
  unfold fullTo
  rw [hR]
  obtain ⟨L0, hL0⟩ : ∃ x, levelV 0 F = x := ⟨_, rfl⟩
  have HL0 := Lib.hid hL0
  rw [hL0] at HLV
  clear h hw hR hL0
  go_enter Try.func19, Try.ntmps19
  go_wp2_with fail
  refine HLV.out.mono ?_
  rintro e w1 ⟨u, rfl, ho, hb⟩
  obtain ⟨aL, cL, rfl⟩ := fil_form ho
  have HB1 := Lib.hid hb
  obtain ⟨N, hN⟩ : ∃ N, L0.length = N := ⟨_, rfl⟩
  have HN : Hid ((levelV 0 F).length = N) := Lib.hid (by rw [HL0.out, hN])
  rw [hN]
  clear ho hb HLV hN HL0
  by_cases h4 : 4 ≤ N
  · have hd : (4 : Int) ≤ (N : Int) := by omega
    obtain rfl : R = some 0 := by rw [← HR.out]; unfold pickL; rw [if_pos (by rw [HN.out]; exact h4)]
    go_wp2_with fail
    go_ret2
    exact ⟨rfl, HB1.out⟩
  · have hd : ¬ (4 : Int) ≤ (N : Int) := by omega
    have HF0 : Hid (FullAt F 2000 1) := Lib.hid ⟨by rw [HN.out]; exact h4, .inl ⟨rfl, rfl⟩⟩
    go_wp2_with fail
    go_loopg [4, 5] 5 (fun kk vm vi wr => ∃ m i : Int, vi = .int .i64 i ∧ vm = .int .i64 m ∧ (4 - i).toNat ≤ kk ∧ Hid (FullAt F m i) ∧ Hid (Below w.heap.size w wr))
    case atStart => exact ⟨2000, 1, rfl, rfl, by omega, HF0, HB1⟩
    case round =>
      clear HF0 HB1 hd
      obtain ⟨m, i, rfl, rfl, hk, HF, HB⟩ := hrel
      obtain ⟨hi1, hi4, hm1, hm2⟩ := HF.out.bd
      by_cases hlt : i < 4
      · have HS := Lib.hid (psize_any HV.out i (by omega) wr HB.out)
        unfold IntTo at HS
        obtain ⟨s, hs⟩ : ∃ s, sizV i F = s := ⟨_, rfl⟩
        rw [hs] at HS
        have HSS := Lib.hid hs
        clear hs
        go_wp2_with fail
        refine HS.out.mono ?_
        rintro e w2 ⟨rfl, hb⟩
        have HB2 := Lib.hid (HB.out.trans (hb.mono HB.out.size))
        clear hb HS HB
        by_cases hsm : m < s
        · obtain rfl : R = some i := by rw [← HR.out]; exact HF.out.yes hlt (by rw [HSS.out]; exact hsm)
          clear HF HSS
          go_wp2_with fail
          go_ret2
          exact ⟨rfl, HB2.out⟩
        · have HF2 := Lib.hid (HF.out.next hlt (by rw [HSS.out]; exact hsm))
          clear HF HSS
          go_wp2_with fail
          go_roundg ((4 - (i + 1)).toNat)
          case measure => omega
          case rel => exact ⟨m * 4, i + 1, by go_num, by go_num, Nat.le_refl _, HF2, HB2⟩
      · obtain rfl : R = none := by rw [← HR.out]; exact HF.out.no hlt
        clear HF
        go_wp2_with fail
        go_ret2
        exact ⟨rfl, HB.out⟩
end Go.Proofs.Ytgdmmhdihgajkaa
/- The walk of pick.Next. -/
namespace Go.Proofs.Ytgdmmhdihgajkaa
set_option linter.unusedVariables false
set_option maxRecDepth 100000
open Go.RowKit
/-- The job as a value: a zero one if there is none. -/
def jobN (F : List Tbf) : JobV := (pickV F).getD ⟨0, [], [], false⟩
def JobTo (F : List Tbf) (w : World) (e : Ending) (w' : World) : Prop := ∃ u1 u2 : Value, e = .returned (.tuple #[.agg #[.int .i64 (jobN F).lvl, u1, u2, .bool (jobN F).bot], .bool (pickV F).isSome]) ∧ OwnK encTbf 5 49 w.heap.size w' u1 (jobN F).ins ∧ OwnK encTbf 5 49 w.heap.size w' u2 (jobN F).below ∧ Below w.heap.size w w'
theorem job_none {F : List Tbf} (h : pickL F = none) : jobN F = ⟨0, [], [], false⟩ ∧ (pickV F).isSome = false := by
  have e : pickV F = none := by unfold pickV; rw [h]; rfl
  unfold jobN; rw [e]; exact ⟨rfl, rfl⟩
theorem job_some {F : List Tbf} {n : Int} (h : pickL F = some n) : jobN F = jobV F n ∧ (pickV F).isSome = true := by
  have e : pickV F = some (jobV F n) := by unfold pickV; rw [h]; rfl
  unfold jobN; rw [e]; exact ⟨rfl, rfl⟩
theorem ins_len {F : List Tbf} (h : ∀ n, (levelV n F).length ≤ 200) (n : Int) : (insV F n).length ≤ 200 := by
  unfold insV
  split
  · exact h 0
  · cases leastV (levelV n F) <;> simp
set_option maxHeartbeats 8000000 in
theorem pnext_any {w : World} {p : Value} {F : List Tbf} (h : Lvs 17 22 w p F) :
    Calls Try.prog 9 #[p] w (JobTo F w) := by
  have HV := Lib.hid h
  have HB1 : Hid (Below w.heap.size w (w.alloc (.cells #[.int .i64 0, .slice none 0 0, .slice none 0 0, .bool false] 32))) := Lib.hid ((Below.refl _ w).alloc (Nat.le_refl _) _)
  have HX := Lib.hid (BlkAt.new w #[.int .i64 0, .slice none 0 0, .slice none 0 0, .bool false] 32)
  obtain ⟨g, hg⟩ : ∃ g, w.heap.size = g := ⟨_, rfl⟩
  have HG := Lib.hid hg
  rw [hg] at HX
  clear h
  unfold JobTo
  go_enter Try.func9, Try.ntmps9
  go_wp2_with fail
  generalize w.alloc (.cells #[.int .i64 0, .slice none 0 0, .slice none 0 0, .bool false] 32) = w1 at *
  clear hg
  have HFU := Lib.hid (pfull_any HV.out w1 HB1.out)
  unfold fullTo at HFU
  refine HFU.out.mono ?_
  rintro e w2 ⟨rfl, hb⟩
  have HB2 := Lib.hid (HB1.out.trans (hb.mono HB1.out.size))
  have HX2 := Lib.hid (HX.out.below hb)
  clear hb HFU HB1 HX
  cases hp : pickL F with
  | none =>
    obtain ⟨ej, ek⟩ := job_none hp
    have HE : Hid (jobN F = ⟨0, [], [], false⟩ ∧ (pickV F).isSome = false) := Lib.hid ⟨ej, ek⟩
    clear ej ek hp
    obtain ⟨c0, c1, c2, c3⟩ := cell4_of HX2.out
    have f0 := HX2.out.free 0
    have f1 := HX2.out.free 1
    have f2 := HX2.out.free 2
    have f3 := HX2.out.free 3
    have HF := Lib.hid (fill4 HX2.out (.int .i64 0) (.slice none 0 0) (.slice none 0 0) (.bool false))
    obtain ⟨r0, r1, r2, r3⟩ := cell4_of HF.out.1
    have HBF := Lib.hid (HB2.out.trans (UpdF.below HF.out.2 HB2.out.size fun k hk e => by have := HG.out; omega))
    simp only [Option.getD_none, Option.isSome_none]
    clear HF HX2 HB2
    go_wp2_with fail
    refine bodyPost_ret (v := .tuple #[.agg #[.int .i64 0, .slice none 0 0, .slice none 0 0, .bool false], .bool false]) (by simp [results, Try.results9, go_sem, r0, r1, r2, r3]) rfl ⟨.slice none 0 0, .slice none 0 0, ?_, ?_, ?_, ?_⟩
    · rw [HE.out.1, HE.out.2]
    · rw [HE.out.1]; exact OwnK.nil _ _ _ _ _
    · rw [HE.out.1]; exact OwnK.nil _ _ _ _ _
    · exact HBF.out
  | some n =>
    obtain ⟨ej, ek⟩ := job_some hp
    obtain ⟨hn0, hn3⟩ := pickL_lv hp
    have HIN := Lib.hid (pins_any HV.out n hn0 (ins_some hp) w2 HB2.out)
    have HNE := Lib.hid (ins_some hp)
    have HNL := Lib.hid (ins_len HV.out.len n)
    have HE : Hid (jobN F = ⟨n, insV F n, overV (n + 1) (spanV (insV F n)).1 (spanV (insV F n)).2 F, botV F n (spanV (insV F n ++ overV (n + 1) (spanV (insV F n)).1 (spanV (insV F n)).2 F)).1 (spanV (insV F n ++ overV (n + 1) (spanV (insV F n)).1 (spanV (insV F n)).2 F)).2⟩ ∧ (pickV F).isSome = true) := Lib.hid ⟨ej, ek⟩
    clear ej ek hp
    obtain ⟨I, hI⟩ : ∃ I, insV F n = I := ⟨_, rfl⟩
    rw [hI] at HIN HE HNE HNL
    clear hI
    simp only [Option.getD_some, Option.isSome_some]
    go_wp2_with fail
    refine HIN.out.mono ?_
    rintro e w3 ⟨u1, rfl, ho, hb⟩
    have HB3 := Lib.hid (HB2.out.trans (hb.mono HB2.out.size))
    have HX3 := Lib.hid (HX2.out.below hb)
    have HR3 := Lib.hid (ho.base HB2.out.size)
    obtain ⟨a1, c1, rfl⟩ := fil_form ho
    clear ho hb HIN HB2 HX2
    cases I with
    | nil => exact absurd rfl HNE.out
    | cons f r =>
      have hrl : r.length ≤ 1000000 := by have := HNL.out; rw [List.length_cons] at this; omega
      have HSP := Lib.hid (pspan_any _ f r hrl w3 (HR3.out.rd encTbf_len))
      unfold SpanTo at HSP
      obtain ⟨s1, hs1⟩ : ∃ s, (spanV (f :: r)).1 = s := ⟨_, rfl⟩
      obtain ⟨s2, hs2⟩ : ∃ s, (spanV (f :: r)).2 = s := ⟨_, rfl⟩
      rw [hs1, hs2] at HSP HE
      clear hs1 hs2
      obtain ⟨N1, hN1⟩ : ∃ N, (f :: r).length = N := ⟨_, rfl⟩
      have HN1 := Lib.hid hN1
      rw [hN1]
      rw [hN1] at HSP HR3
      clear hN1
      go_wp2_with fail
      refine HSP.out.mono ?_
      rintro e w4 ⟨rfl, hb⟩
      have HB4 := Lib.hid (HB3.out.trans (hb.mono HB3.out.size))
      have HX4 := Lib.hid (HX3.out.below hb)
      have HR4 := Lib.hid (HR3.out.below hb)
      clear hb HSP HB3 HX3 HR3
      have HOV := Lib.hid (HV.out.ov w4 (n + 1) s1 s2 HB4.out (by omega) (by omega))
      have HOL := Lib.hid (over_len HV.out (n + 1) s1 s2)
      obtain ⟨ys, hys⟩ : ∃ ys, overV (n + 1) s1 s2 F = ys := ⟨_, rfl⟩
      rw [hys] at HOV HE HOL
      clear hys
      go_wp2_with fail
      refine HOV.out.mono ?_
      rintro e w5 ⟨u2, rfl, ho, hb⟩
      have HB5 := Lib.hid (HB4.out.trans (hb.mono HB4.out.size))
      have HX5 := Lib.hid (HX4.out.below hb)
      have HR5 := Lib.hid (HR4.out.below hb)
      have HY5 := Lib.hid (ho.base HB4.out.size)
      obtain ⟨a2, c2, rfl⟩ := fil_form ho
      clear ho hb HOV HB4 HX4 HR4
      obtain ⟨N2, hN2⟩ : ∃ N, ys.length = N := ⟨_, rfl⟩
      have HN2 := Lib.hid hN2
      rw [hN2]
      rw [hN2] at HY5
      clear hN2
      have HA6 : Hid (Below w5.heap.size w5 (w5.alloc (.cells #[.slice a1 N1 c1, .slice a2 N2 c2] 30))) := Lib.hid ((Below.refl _ _).alloc (Nat.le_refl _) _)
      have HRW : Hid (RdFF (w5.alloc (.cells #[.slice a1 N1 c1, .slice a2 N2 c2] 30)) w5.heap.size 0 [f :: r, ys]) := Lib.hid ⟨by simp, by
        have hnew := BlkAt.new w5 #[.slice a1 N1 c1, .slice a2 N2 c2] 30
        intro i x hx
        match i, hx with
        | 0, hx => obtain rfl := Option.some.inj hx; exact ⟨_, hnew.at 0, (HR5.out.below HA6.out).rd encTbf_len⟩
        | 1, hx => obtain rfl := Option.some.inj hx; exact ⟨_, hnew.at 1, (HY5.out.below HA6.out).rd encTbf_len⟩
        | i + 2, hx => simp at hx⟩
      have HCT := Lib.hid (fconcat_any w5.heap.size 0 2 [f :: r, ys] (by have h1 := HNL.out; have h2 := HOL.out; constructor <;> simp at h1 ⊢ <;> omega) _ HRW.out)
      unfold FilsTo at HCT
      have e22 : [f :: r, ys].length = 2 := rfl
      have e23 : [f :: r, ys].flatMap id = (f :: r) ++ ys := by simp
      rw [e22, e23] at HCT
      have HB6 := Lib.hid (HB5.out.trans (HA6.out.mono HB5.out.size))
      have HX6 := Lib.hid (HX5.out.below HA6.out)
      have HR6 := Lib.hid (HR5.out.below HA6.out)
      have HY6 := Lib.hid (HY5.out.below HA6.out)
      clear e22 e23 HRW HA6 HB5 HX5 HR5 HY5
      go_wp2_with fail
      refine HCT.out.mono ?_
      rintro e w7 ⟨u3, rfl, ho, hb⟩
      have HB7 := Lib.hid (HB6.out.trans (hb.mono HB6.out.size))
      have HX7 := Lib.hid (HX6.out.below hb)
      have HR7 := Lib.hid (HR6.out.below hb)
      have HY7 := Lib.hid (HY6.out.below hb)
      have HSP := Lib.hid (pspan_any u3 f (r ++ ys) (by have h1 := HNL.out; have h2 := HOL.out; rw [List.length_append]; rw [List.length_cons] at h1; omega) w7 (by have := ho.rd encTbf_len; rwa [List.cons_append] at this))
      unfold SpanTo at HSP
      rw [← List.cons_append] at HSP
      obtain ⟨a3, c3, rfl⟩ := fil_form ho
      obtain ⟨t1, ht1⟩ : ∃ s, (spanV (f :: r ++ ys)).1 = s := ⟨_, rfl⟩
      obtain ⟨t2, ht2⟩ : ∃ s, (spanV (f :: r ++ ys)).2 = s := ⟨_, rfl⟩
      rw [ht1, ht2] at HSP HE
      clear ht1 ht2 ho hb HCT HB6 HX6 HR6 HY6
      generalize (f :: r ++ ys).length = N3 at *
      go_wp2_with fail
      refine HSP.out.mono ?_
      rintro e w8 ⟨rfl, hb⟩
      have HB8 := Lib.hid (HB7.out.trans (hb.mono HB7.out.size))
      have HX8 := Lib.hid (HX7.out.below hb)
      have HR8 := Lib.hid (HR7.out.below hb)
      have HY8 := Lib.hid (HY7.out.below hb)
      clear hb HSP HB7 HX7 HR7 HY7
      have HBT := Lib.hid (pbot_any HV.out n hn0 hn3 t1 t2 w8 HB8.out)
      obtain ⟨bt, hbt⟩ : ∃ s, botV F n t1 t2 = s := ⟨_, rfl⟩
      rw [hbt] at HBT HE
      clear hbt
      go_wp2_with fail
      refine HBT.out.mono ?_
      rintro e w9 ⟨rfl, hb⟩
      have HB9 := Lib.hid (HB8.out.trans (hb.mono HB8.out.size))
      have HX9 := Lib.hid (HX8.out.below hb)
      have HR9 := Lib.hid (HR8.out.below hb)
      have HY9 := Lib.hid (HY8.out.below hb)
      clear hb HBT HB8 HX8 HR8 HY8
      obtain ⟨k0, k1, k2, k3⟩ := cell4_of HX9.out
      have f0 := HX9.out.free 0
      have f1 := HX9.out.free 1
      have f2 := HX9.out.free 2
      have f3 := HX9.out.free 3
      have HF := Lib.hid (fill4 HX9.out (.int .i64 n) (.slice a1 N1 c1) (.slice a2 N2 c2) (.bool bt))
      obtain ⟨r0, r1, r2, r3⟩ := cell4_of HF.out.1
      have HRF := Lib.hid (And.intro (HR9.out.asideT HF.out.2 HX9.out (by decide)) (HY9.out.asideT HF.out.2 HX9.out (by decide)))
      have HBF := Lib.hid (HB9.out.trans (UpdF.below HF.out.2 HB9.out.size fun k hk e => by have := HG.out; omega))
      clear HF HX9 HB9 HR9 HY9 HN1 HN2
      go_wp2_with fail
      refine bodyPost_ret (v := .tuple #[.agg #[.int .i64 n, .slice a1 N1 c1, .slice a2 N2 c2, .bool bt], .bool true]) (by simp [results, Try.results9, go_sem, r0, r1, r2, r3]) rfl ⟨.slice a1 N1 c1, .slice a2 N2 c2, ?_, ?_, ?_, ?_⟩
      · rw [HE.out.1, HE.out.2]
      · rw [HE.out.1]; exact HRF.out.1
      · rw [HE.out.1]; exact HRF.out.2
      · exact HBF.out
end Go.Proofs.Ytgdmmhdihgajkaa
