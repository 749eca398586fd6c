/- The walk of areApart: neighbours of tables in order. -/
import Derived.Test.YtjloaamaelcmaaaVerSort
import Derived.Test.YtjloaamaelcmaaaFilSl
import Derived.Deep.LoopGhost
import Derived.Deep.CutBlock
import Derived.Deep.DeepCutAuto
namespace Go.Proofs.Ytjloaamaelcmaaa
set_option linter.unusedVariables false
set_option maxRecDepth 100000
open Go.RowKit
/-- No two neighbours have a text in common. -/
def vAdj (l : List Tbf) : Prop := ∀ (m : Nat) (f g : Tbf), l[m]? = some f → l[m + 1]? = some g → ¬ vClash f g
/-- f stands wholly ahead of g, as far as their level asks it. -/
def vFar (f g : Tbf) : Prop := f.lvl < g.lvl ∨ f.lvl = g.lvl ∧ (f.lvl ≤ 0 ∨ bl f.hi g.lo)
theorem vFar_trans {f g h : Tbf} (hg : ¬ bl g.hi g.lo) (a : vFar f g) (b : vFar g h) : vFar f h := by
  rcases a with a | ⟨a1, a2⟩
  · rcases b with b | ⟨b1, -⟩ <;> exact .inl (by omega)
  · rcases b with b | ⟨b1, b2⟩
    · exact .inl (by omega)
    · refine .inr ⟨by omega, ?_⟩
      rcases a2 with a2 | a2
      · exact .inl a2
      · rcases b2 with b2 | b2
        · exact .inl (by omega)
        · refine .inr ?_
          rcases bl_tri g.lo g.hi with k | k | k
          · exact bl_trans (bl_trans a2 k) b2
          · rw [k] at a2; exact bl_trans a2 b2
          · exact absurd k hg
theorem vFar_not {f g : Tbf} (a : vFar f g) : ¬ vClash f g := by
  rintro ⟨h1, h2, -, h4⟩
  rcases a with a | ⟨-, a | a⟩
  · omega
  · omega
  · exact h4 a
theorem far_of {f g : Tbf} (hg : ¬ bl g.hi g.lo) (hs : ¬ vLt g f) (hc : ¬ vClash f g) : vFar f g := by
  rcases not_vLt hs with h | ⟨h1, h⟩
  · exact .inl h
  · refine .inr ⟨h1.symm, ?_⟩
    by_cases h0 : f.lvl ≤ 0
    · exact .inl h0
    · refine .inr (Decidable.byContradiction fun hn => hc ⟨h1.symm, by omega, fun k => ?_, hn⟩)
      rcases h with ⟨h2, -⟩ | ⟨-, h2⟩
      · omega
      · rcases bl_tri g.lo g.hi with q | q | q
        · exact h2 (bl_trans q k)
        · rw [← q] at k; exact h2 k
        · exact hg q
theorem far_all : ∀ {l : List Tbf}, (∀ f ∈ l, ¬ bl f.hi f.lo) → (∀ (m : Nat) (f g : Tbf), l[m]? = some f → l[m + 1]? = some g → vFar f g) → l.Pairwise vFar
  | [], _, _ => List.Pairwise.nil
  | [f], _, _ => List.pairwise_singleton _ _
  | f :: g :: r, ho, hf => by
    have ih := far_all (l := g :: r) (fun x hx => ho x (List.mem_cons_of_mem _ hx)) (fun m x y hx hy => hf (m + 1) x y hx hy)
    have hfg := hf 0 f g rfl rfl
    refine List.pairwise_cons.2 ⟨fun x hx => ?_, ih⟩
    rcases List.mem_cons.1 hx with rfl | hx
    · exact hfg
    · exact vFar_trans (ho g (by simp)) hfg ((List.pairwise_cons.1 ih).1 x hx)
/-- Of tables in order neighbours are enough. -/
theorem adj_apart {l : List Tbf} (hs : vSorted l) (ho : ∀ f ∈ l, ¬ bl f.hi f.lo) : vAdj l ↔ vApart l := by
  constructor
  · intro h
    refine (far_all ho fun m f g hf hg => far_of (ho g (List.mem_of_getElem? hg)) ?_ (h m f g hf hg)).imp fun {f g} => vFar_not
    obtain ⟨h1, e1⟩ := List.getElem?_eq_some_iff.1 hf
    obtain ⟨h2, e2⟩ := List.getElem?_eq_some_iff.1 hg
    have := List.pairwise_iff_getElem.1 hs m (m + 1) h1 h2 (by omega)
    rwa [e1, e2] at this
  · intro h m f g hf hg
    obtain ⟨h1, e1⟩ := List.getElem?_eq_some_iff.1 hf
    obtain ⟨h2, e2⟩ := List.getElem?_eq_some_iff.1 hg
    have := List.pairwise_iff_getElem.1 h m (m + 1) h1 h2 (by omega)
    rwa [e1, e2] at this
theorem meets_clash {f g : Tbf} (hg : ¬ bl g.hi g.lo) (h1 : f.lvl = g.lvl) (h2 : 0 < f.lvl) : vOverB g.lo g.hi f = decide (vClash f g) := by
  unfold vOverB vClash
  simp only [decide_eq_false hg, Bool.not_false, Bool.true_and, h1, true_and]
  have h3 : 0 < g.lvl := by omega
  by_cases a : bl g.hi f.lo <;> by_cases b : bl f.hi g.lo <;> simp [a, b, h3]
/-- Two tables in boxes of their own. -/
structure TwoF (w0 w : World) (f g : Tbf) (p q : Nat) : Prop where
  a : BlkAt w p #[.int .i64 f.num, .int .i64 f.lvl, .int .i64 f.siz, .string f.lo, .string f.hi] 43
  b : BlkAt w q #[.int .i64 g.num, .int .i64 g.lvl, .int .i64 g.siz, .string g.lo, .string g.hi] 43
  bel : Below w0.heap.size w0 w
def AptTo (xs : List Tbf) (w : World) (e : Ending) (w' : World) : Prop := ∃ b : Bool, e = .returned (.bool b) ∧ (b = true ↔ vAdj xs) ∧ Below w.heap.size w w'
theorem two_new (w : World) (u v : Array Value) (t : TypeId) : BlkAt ((w.alloc (.cells u t)).alloc (.cells v t)).drew w.heap.size u t ∧ BlkAt ((w.alloc (.cells u t)).alloc (.cells v t)).drew (w.heap.size + 1) v t ∧ Below w.heap.size w ((w.alloc (.cells u t)).alloc (.cells v t)).drew := by
  refine ⟨((BlkAt.new w u t).more _).drew, ?_, (((Below.refl _ w).alloc (Nat.le_refl _) _).alloc (by simp) _).drew⟩
  have := BlkAt.new (w.alloc (.cells u t)) v t
  rw [show (w.alloc (.cells u t)).heap.size = w.heap.size + 1 by simp] at this
  exact this.drew
set_option maxHeartbeats 8000000 in
theorem vapart_any (v : Value) (xs : List Tbf) (hl : xs.length ≤ 1000000) (ho : ∀ f ∈ xs, ¬ bl f.hi f.lo) (w : World) (h : RdK encTbf 5 w v xs) :
    Calls Try.prog 52 #[v] w (AptTo xs w) := by
  obtain ⟨a, cap, rfl, -⟩ := edFl_len h
  have HRD := Lib.hid h
  have HO := Lib.hid ho
  obtain ⟨N, hN⟩ : ∃ N, xs.length = N := ⟨_, rfl⟩
  have HN := Lib.hid hN
  rw [hN] at HRD hl ⊢
  have HM : Hid (∀ (f : Tbf) (a b : ByteArray) (w : World), Calls Try.prog 26 #[.agg #[.int .i64 f.num, .int .i64 f.lvl, .int .i64 f.siz, .string f.lo, .string f.hi], .string a, .string b] w fun e w' => e = .returned (.bool (vOverB a b f)) ∧ ∃ os, w' = w.alloc os) := Lib.hid fun f a b w => meets_raw f.num f.lvl f.siz f.lo f.hi a b w
  clear h hN ho
  go_enter Try.func52, Try.ntmps52
  go_wp2_with fail
  go_loopg [3, 4, 5] N (fun kk vi _ _ wr => ∃ i : Nat, vi = .int .i64 ((i : Int) + 1) ∧ (i + 1 ≤ N ∨ i = 0) ∧ N - i ≤ kk ∧ Hid (∀ (m : Nat) (f g : Tbf), m < i → xs[m]? = some f → xs[m + 1]? = some g → ¬ vClash f g) ∧ Hid (Below w.heap.size w wr))
  case atStart => exact ⟨0, rfl, by omega, by omega, Lib.hid (fun m f g hm => by omega), Lib.hid (Below.refl _ _)⟩
  case round =>
    obtain ⟨q, rfl, hq, hkk, HG, HB⟩ := hrel
    have hd0 : (0 : Int) ≤ (q : Int) := by omega
    by_cases h1 : q + 1 < N
    · have hd1 : (q : Int) + 1 < (N : Int) := by omega
      have hqb : (q : Int) ≤ 1000000 := by omega
      have hqs : IntKind.i64.wrap ((q : Int) + 1 - 1) = (q : Int) := by rw [show (q : Int) + 1 - 1 = (q : Int) by omega]; exact IntWalk.i64_in _ (by omega)
      obtain ⟨x, hx⟩ : ∃ x, xs[q]? = some x := ⟨xs[q]'(by have := HN.out; omega), List.getElem?_eq_getElem _⟩
      obtain ⟨y, hy⟩ : ∃ y, xs[q + 1]? = some y := ⟨xs[q + 1]'(by have := HN.out; omega), List.getElem?_eq_getElem _⟩
      obtain ⟨b, off, rfl, hblt, AX⟩ := (HRD.out.below HB.out).atTbf q x hx
      obtain ⟨b', off', e', -, AY⟩ := (HRD.out.below HB.out).atTbf (q + 1) y hy
      simp only [Option.some.injEq, Addr.mk.injEq] at e'
      obtain ⟨rfl, rfl, -⟩ := e'
      have HX := Lib.hid (And.intro hx hy)
      have HOY := Lib.hid (HO.out y (List.mem_of_getElem? hy))
      have HAX := Lib.hid AX
      have HAY := Lib.hid AY
      clear hx hy AX AY
      go_upto_region 4 with fail
      go_cut [4, 5] (fun v4 v5 wx => ∃ p4 p5 : Nat, v4 = .pointer (some ⟨p4, 0, none⟩) ∧ v5 = .pointer (some ⟨p5, 0, none⟩) ∧ Hid (TwoF w wx x y p4 p5))
      case first =>
        obtain ⟨d0, d1, d2, d3, d4⟩ := HAX.out
        obtain ⟨e0, e1, e2, e3, e4⟩ := HAY.out
        have hN0 : (q : Int) < (N : Int) := by omega
        go_region
        · go_wp2_with fail
          go_meet
          exact ⟨_, _, rfl, rfl, Lib.hid ⟨(two_new wr _ _ _).1, (two_new wr _ _ _).2.1, HB.out.trans ((two_new wr _ _ _).2.2.mono HB.out.size)⟩⟩
        · go_wp2_with fail
          go_meet
          exact ⟨_, _, rfl, rfl, Lib.hid ⟨(two_new wr _ _ _).2.1, (two_new wr _ _ _).1, HB.out.trans ((two_new wr _ _ _).2.2.mono HB.out.size)⟩⟩
      case rest =>
        obtain ⟨p4, p5, rfl, rfl, HT⟩ := hcut
        obtain ⟨d0, d1, d2, d3, d4⟩ := cell5_of HT.out.a
        obtain ⟨e0, e1, e2, e3, e4⟩ := cell5_of HT.out.b
        clear HAX HAY HB
        have HGO : Hid (¬ vClash x y → ∀ (m : Nat) (f g : Tbf), m < q + 1 → xs[m]? = some f → xs[m + 1]? = some g → ¬ vClash f g) := Lib.hid fun hc m f g hm hf hg => by
          rcases Nat.lt_or_ge m q with h | h
          · exact HG.out m f g h hf hg
          · obtain rfl : m = q := by omega
            rw [HX.out.1] at hf
            rw [HX.out.2] at hg
            obtain rfl := Option.some.inj hf
            obtain rfl := Option.some.inj hg
            exact hc
        obtain ⟨xn, xl, xs', xo, xh⟩ := x
        obtain ⟨yn, yl, ys', yo, yh⟩ := y
        simp only at d0 d1 d2 d3 d4 e0 e1 e2 e3 e4 HOY
        by_cases g1 : 0 < xl
        · by_cases g2 : xl = yl
          · subst g2
            obtain ⟨V, hV⟩ : ∃ V, vOverB yo yh ⟨xn, xl, xs', xo, xh⟩ = V := ⟨_, rfl⟩
            have HV := Lib.hid ((meets_clash (f := ⟨xn, xl, xs', xo, xh⟩) (g := ⟨yn, xl, ys', yo, yh⟩) HOY.out rfl g1).symm.trans hV)
            have HC : Hid (∀ w, Calls Try.prog 26 #[.agg #[.int .i64 xn, .int .i64 xl, .int .i64 xs', .string xo, .string xh], .string yo, .string yh] w fun e w' => e = .returned (.bool V) ∧ ∃ os, w' = w.alloc os) := Lib.hid fun w => by rw [← hV]; exact HM.out ⟨xn, xl, xs', xo, xh⟩ yo yh w
            clear hV HG HOY
            go_wp2_with fail
            refine (HC.out _).mono ?_
            rintro e w2 ⟨rfl, os, hw⟩
            have HB2 : Hid (Below w.heap.size w w2) := Lib.hid (by rw [hw]; exact HT.out.bel.alloc HT.out.bel.size _)
            clear hw HC d0 d1 d2 d3 d4 e0 e1 e2 e3 e4 HT
            cases V with
            | true =>
              have HF : Hid (¬ vAdj xs) := Lib.hid fun h => h q _ _ HX.out.1 HX.out.2 (of_decide_eq_true HV.out)
              clear HV HX HGO
              go_wp2_with fail
              go_ret
              exact ⟨false, rfl, ⟨fun h => (by cases h), fun h => absurd h HF.out⟩, HB2.out⟩
            | false =>
              have HG2 := Lib.hid (HGO.out (of_decide_eq_false HV.out))
              clear HV HX HGO
              go_wp2_with fail
              go_roundg (N - (q + 1))
              case measure => omega
              case rel => exact ⟨q + 1, by go_num, .inl (by omega), Nat.le_refl _, HG2, HB2⟩
          · have HG2 := Lib.hid (HGO.out fun h => g2 h.1)
            have HB2 := Lib.hid HT.out.bel
            clear HX HGO HG HOY HT
            go_wp2_with fail
            go_roundg (N - (q + 1))
            case measure => omega
            case rel => exact ⟨q + 1, by go_num, .inl (by omega), Nat.le_refl _, HG2, HB2⟩
        · have HG2 := Lib.hid (HGO.out fun h => g1 h.2.1)
          have HB2 := Lib.hid HT.out.bel
          clear HX HGO HG HOY HT
          go_wp2_with fail
          go_roundg (N - (q + 1))
          case measure => omega
          case rel => exact ⟨q + 1, by go_num, .inl (by omega), Nat.le_refl _, HG2, HB2⟩
    · have hd1 : ¬ (q : Int) + 1 < (N : Int) := by omega
      have HF : Hid (vAdj xs) := Lib.hid fun m f g hf hg => by
        have := (List.getElem?_eq_some_iff.1 hg).1
        have := HN.out
        exact HG.out m f g (by omega) hf hg
      clear HG
      go_wp2_with fail
      go_ret
      exact ⟨true, rfl, ⟨fun _ => HF.out, fun _ => rfl⟩, HB.out⟩
end Go.Proofs.Ytjloaamaelcmaaa
