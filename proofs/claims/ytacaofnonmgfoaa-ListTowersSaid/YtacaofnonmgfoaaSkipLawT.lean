/- The list's laws: ListTowers. -/
import Derived.Test.YtacaofnonmgfoaaSkipBegun
import Derived.Test.YtacaofnonmgfoaaEntSort
import Derived.Test.YtacaofnonmgfoaaByt
import Derived.Deep.DeepCutAuto
namespace Go.Proofs.Ytacaofnonmgfoaa
set_option linter.unusedVariables false
open Go.RowKit
/-- Two lists and a row of entries, apart, of the call's own. -/
structure TwoAt (w : World) (b c : Nat) (ρ σ : Nat → Option Rl) (H J : List Int) (l m : List Ent) (v : Value) (es : List Ent) (W : World) : Prop where
  fst : SkAt W b ρ H l
  snd : SkAt W c σ J m
  apart : ∀ k, ρ k ≠ none → σ k = none
  row : OwnK encEnt 5 30 w.heap.size W v es
  rest : ∀ k, v.ownBlock = some k → ρ k = none ∧ σ k = none
  new : ∀ k, ρ k ≠ none ∨ σ k ≠ none → w.heap.size ≤ k
  below : Below w.heap.size w W
theorem TwoAt.to {w : World} {b c : Nat} {ρ σ : Nat → Option Rl} {H J : List Int} {l m : List Ent} {v : Value} {es : List Ent} {W W' : World} (h : TwoAt w b c ρ σ H J l m v es W) (u : Below W.heap.size W W') : TwoAt w b c ρ σ H J l m v es W' :=
  ⟨h.fst.below u, h.snd.below u, h.apart, h.row.below u, h.rest, h.new, h.below.trans (u.mono h.below.size)⟩
theorem SkAt.top {w : World} {b : Nat} {ρ : Nat → Option Rl} {H : List Int} {l : List Ent} (h : SkAt w b ρ H l) : ∀ k, ρ k ≠ none → k < w.heap.size := by
  obtain ⟨_, _, h, _⟩ := h; exact h.top
theorem TwoAt.putL {w : World} {b c : Nat} {ρ σ : Nat → Option Rl} {H J : List Int} {l l' m : List Ent} {v : Value} {es : List Ent} {W W' : World} (h : TwoAt w b c ρ σ H J l m v es W) (t : SkTo W b ρ W' H l') : ∃ ρ', TwoAt w b c ρ' σ H J l' m v es W' := by
  obtain ⟨ρ', h1, h2, h3⟩ := t
  refine ⟨ρ', h1, h.snd.upd h2 h.apart, fun k hk => ?_, row_same h.row fun k hk => h2.block k (row_lt h.row k hk) fun f => f (h.rest k hk).1, fun k hk => ⟨?_, (h.rest k hk).2⟩, fun k hk => ?_, h.below.trans (h2.below h.below.size fun k hk f => by have := h.new k (.inl f); omega)⟩
  · rcases h3 k hk with h4 | h4
    · exact h.apart k h4
    · cases hs : σ k with
      | none => rfl
      | some r => have := h.snd.top k (by rw [hs]; simp); omega
  · cases hs : ρ' k with
    | none => rfl
    | some r =>
      rcases h3 k (by rw [hs]; simp) with h4 | h4
      · exact absurd (h.rest k hk).1 h4
      · have := row_lt h.row k hk; omega
  · rcases hk with hk | hk
    · rcases h3 k hk with h4 | h4
      · exact h.new k (.inl h4)
      · exact Nat.le_trans h.below.size h4
    · exact h.new k (.inr hk)
theorem TwoAt.flip {w : World} {b c : Nat} {ρ σ : Nat → Option Rl} {H J : List Int} {l m : List Ent} {v : Value} {es : List Ent} {W : World} (h : TwoAt w b c ρ σ H J l m v es W) : TwoAt w c b σ ρ J H m l v es W := by
  refine ⟨h.snd, h.fst, fun k hk => ?_, h.row, fun k hk => (h.rest k hk).symm, fun k hk => h.new k hk.symm, h.below⟩
  cases hs : ρ k with
  | none => rfl
  | some r => exact absurd (h.apart k (by rw [hs]; simp)) hk
theorem cut_small {es : List Ent} (h : ∀ e ∈ es, CutOk e) : ∀ e ∈ es, szE e ≤ 152 := fun e he => by
  obtain ⟨h1, h2, h3, -, -⟩ := h e he
  unfold szE; omega
theorem kind_small {e : Ent} (h : CutOk e) : e.kind ≤ 9223372036854775807 := by
  have := h.2.2.2.2
  simp [Lit.wf, IntKind.min, IntKind.max, IntKind.signed, IntKind.bits] at this
  omega
theorem take_rev {es : List Ent} {i : Nat} (h : i < es.length) (x : Ent) (hx : es[es.length - 1 - i]? = some x) : es.reverse.take (i + 1) = es.reverse.take i ++ [x] := by
  have hi : i < es.reverse.length := by rw [List.length_reverse]; exact h
  rw [List.take_succ_eq_append_getElem hi]
  congr 2
  have h2 : es.reverse[i]? = some x := by rw [List.getElem?_reverse h]; exact hx
  rw [List.getElem?_eq_getElem hi] at h2
  exact Option.some.inj h2
theorem putAll_take {es : List Ent} {i : Nat} {x : Ent} (hx : es[i]? = some x) : putE (putAll (es.take i)) x = putAll (es.take (i + 1)) := by
  obtain ⟨hi, rfl⟩ := List.getElem?_eq_some_iff.1 hx
  rw [List.take_succ_eq_append_getElem hi, putAll_snoc]
theorem take_small {es : List Ent} (h : ∀ e ∈ es, szE e ≤ 152) (i : Nat) : (putAll (es.take i)).length ≤ i ∧ szA (putAll (es.take i)) ≤ 152 * i := by
  have h1 := putAll_small (K := 152) (es := es.take i) fun e he => h e (List.mem_of_mem_take he)
  have h2 : (es.take i).length ≤ i := by rw [List.length_take]; omega
  have h3 := Nat.mul_le_mul_left 152 h2
  exact ⟨by omega, by omega⟩
set_option maxHeartbeats 8000000 in
set_option maxRecDepth 100000 in
theorem listTowers_walk (w : World) (a : Option Addr) (alen acap : Nat) (xs : List Int) (hxs : RdV w (.slice a alen acap) (xs.map (Value.int .i64))) (_wx : ∀ n ∈ xs, (Lit.int .i64 n).wf = true)
    (b : Option Addr) (blen bcap : Nat) (ys : List Int) (hys : RdV w (.slice b blen bcap) (ys.map (Value.int .i64))) (_wy : ∀ n ∈ ys, (Lit.int .i64 n).wf = true)
    (c : Option Addr) (clen ccap : Nat) (zs : List Ent) (hzs : RdK encEnt 5 w (.slice c clen ccap) zs) (hok : ∀ e ∈ zs, e.ok) :
    Calls Try.prog 3 #[.slice a alen acap, .slice b blen bcap, .slice c clen ccap] w fun e w' => e = .returned (.bool true) ∧ Below w.heap.size w w' := by
  have HX := Lib.hid hxs
  have HY := Lib.hid hys
  have HZ := Lib.hid (⟨hzs, hok⟩ : RdK encEnt 5 w (.slice c clen ccap) zs ∧ ∀ e ∈ zs, e.ok)
  have HB0 := Lib.hid (lbegun_any w)
  clear hxs hys hzs hok _wx _wy
  go_enter Try.func3, Try.ntmps3
  go_wp2_with fail
  refine HB0.out.mono ?_
  rintro e w1 ⟨rfl, hb⟩
  have HB1 := Lib.hid hb
  replace HX := Lib.hid (RdV.below HX.out hb)
  replace HY := Lib.hid (RdV.below HY.out hb)
  clear hb HB0
  go_upto_if 20 with fail
  go_cut [0] (fun l wx => ∃ (us : List Int) (au : Option Addr) (nu cu : Nat), l = .slice au nu cu ∧ Hid (RdI w1 l us) ∧ us.length ≤ 60 ∧ w1 = wx)
  case first =>
    by_cases h60 : 60 < alen
    · rcases RdI.cases HX.out with ⟨_, _, e, -⟩ | ⟨g, o, cap, e, h1, h2, h3, -⟩
      · simp only [Value.slice.injEq] at e; omega
      · simp only [Value.slice.injEq] at e
        obtain ⟨rfl, hl, rfl⟩ := e
        have HT : Hid (RdI w1 (.slice (some ⟨g, o, none⟩) 60 acap) (xs.take 60)) := Lib.hid (by
          have := rdV_take HX.out 60 (by omega)
          rwa [← List.map_take] at this)
        have hc60 : (60 : Int) ≤ (acap : Int) := by omega
        clear hl h1 h2 h3
        go_wp2_with fail
        go_meet
        exact ⟨xs.take 60, _, _, _, rfl, HT, by rw [List.length_take]; omega, rfl⟩
    · have hl : Hid (xs.length ≤ 60) := Lib.hid (by
        obtain ⟨_, _, e, -⟩ := rdI_form HX.out
        simp only [Value.slice.injEq] at e; omega)
      go_wp2_with fail
      go_meet
      exact ⟨xs, _, _, _, rfl, HX, hl.out, rfl⟩
  case rest =>
  obtain ⟨us, au, nu, cu, rfl, HU, hu60, rfl⟩ := hcut
  clear HX
  go_upto_if 25 with fail
  go_cut [1] (fun l wx => ∃ (us : List Int) (au : Option Addr) (nu cu : Nat), l = .slice au nu cu ∧ Hid (RdI w1 l us) ∧ us.length ≤ 60 ∧ w1 = wx)
  case first =>
    by_cases h60 : 60 < blen
    · rcases RdI.cases HY.out with ⟨_, _, e, -⟩ | ⟨g, o, cap, e, h1, h2, h3, -⟩
      · simp only [Value.slice.injEq] at e; omega
      · simp only [Value.slice.injEq] at e
        obtain ⟨rfl, hl, rfl⟩ := e
        have HT : Hid (RdI w1 (.slice (some ⟨g, o, none⟩) 60 bcap) (ys.take 60)) := Lib.hid (by
          have := rdV_take HY.out 60 (by omega)
          rwa [← List.map_take] at this)
        have hc60 : (60 : Int) ≤ (bcap : Int) := by omega
        clear hl h1 h2 h3
        go_wp2_with fail
        go_meet
        exact ⟨ys.take 60, _, _, _, rfl, HT, by rw [List.length_take]; omega, rfl⟩
    · have hl : Hid (ys.length ≤ 60) := Lib.hid (by
        obtain ⟨_, _, e, -⟩ := rdI_form HY.out
        simp only [Value.slice.injEq] at e; omega)
      go_wp2_with fail
      go_meet
      exact ⟨ys, _, _, _, rfl, HY, hl.out, rfl⟩
  case rest =>
  obtain ⟨vs, av, nv, cv, rfl, HV, hv60, rfl⟩ := hcut
  clear HY
  have HN1 := Lib.hid (sknew_any _ us w1 HU.out (by omega))
  go_wp2_with fail
  refine HN1.out.mono ?_
  rintro e w2 ⟨b1, ρ, rfl, h1, hb1, hn1⟩
  have HN2 := Lib.hid (sknew_any _ vs w2 (RdV.below HV.out hb1) (by omega))
  have HA1 := Lib.hid (⟨h1, hb1, hn1⟩ : SkAt w2 b1 ρ us [] ∧ Below w1.heap.size w1 w2 ∧ ∀ k, ρ k ≠ none → w1.heap.size ≤ k)
  clear h1 hb1 hn1 HN1 HU HV
  go_wp2_with fail
  refine HN2.out.mono ?_
  rintro e w3 ⟨b2, σ, rfl, h2, hb2, hn2⟩
  have HA2 := Lib.hid (⟨h2, hb2, hn2⟩ : SkAt w3 b2 σ vs [] ∧ Below w2.heap.size w2 w3 ∧ ∀ k, σ k ≠ none → w2.heap.size ≤ k)
  have HB3 : Hid (Below w.heap.size w w3) := Lib.hid (by
    have x1 := HB1.out.trans (HA1.out.2.1.mono HB1.out.size)
    exact x1.trans (hb2.mono x1.size))
  clear h2 hb2 hn2 HN2
  have HCA := Lib.hid (cutallN_any 40 (by omega) _ zs HZ.out.2 w3 (HZ.out.1.below HB3.out))
  go_wp2_with fail
  refine HCA.out.mono ?_
  rintro e w4 ⟨ve, es, rfl, he, hce, hle, hb4⟩
  have HT : Hid (TwoAt w b1 b2 ρ σ us vs [] [] ve es w4 ∧ es.length ≤ 40 ∧ ∀ e ∈ es, CutOk e) := Lib.hid (by
    obtain ⟨x1, x2, x3⟩ := HA1.out
    obtain ⟨y1, y2, y3⟩ := HA2.out
    refine ⟨⟨(x1.below y2).below hb4, y1.below hb4, fun k hk => ?_, he.base HB3.out.size, fun k hk => ?_, fun k hk => ?_, HB3.out.trans (hb4.mono HB3.out.size)⟩, hle, hce⟩
    · cases hs : σ k with
      | none => rfl
      | some r => have := y3 k (by rw [hs]; simp); have := x1.top k hk; omega
    · have hlo : w3.heap.size ≤ k := by
        rcases he.blk with ⟨e1, -⟩ | ⟨g, cap, cur, e1, h2, -⟩
        · rw [e1] at hk; cases hk
        · rw [e1] at hk; have : g = k := Option.some.inj hk; omega
      constructor
      · cases hs : ρ k with
        | none => rfl
        | some r => have := x1.top k (by rw [hs]; simp); have := y2.size; omega
      · cases hs : σ k with
        | none => rfl
        | some r => have := y1.top k (by rw [hs]; simp); omega
    · rcases hk with hk | hk
      · exact Nat.le_trans HB1.out.size (x3 k hk)
      · exact Nat.le_trans (HB1.out.trans (x2.mono HB1.out.size)).size (y3 k hk))
  obtain ⟨ae, n, ce, rfl, hn⟩ := rdK_len (he.rd encEnt_len)
  have HNL := Lib.hid hn
  have hn40 : n ≤ 40 := by omega
  clear he hce hle hb4 hn HCA HA1 HA2 HB3 HZ
  go_wp2_with fail
  go_loopg [10] n (fun kk v wr => ∃ (i : Nat) (ρ σ : Nat → Option Rl), v = .int .i64 (i : Int) ∧ i ≤ n ∧ n - i ≤ kk ∧ Hid (TwoAt w b1 b2 ρ σ us vs (putAll (es.take i)) (putAll (es.reverse.take i)) (.slice ae n ce) es wr))
  case atStart => exact ⟨0, ρ, σ, rfl, by omega, by omega, Lib.hid HT.out.1⟩
  case round =>
    have HC := Lib.hid HT.out.2.2
    clear HT
    obtain ⟨i, ρ, σ, rfl, hi, hk, HT⟩ := hrel
    have hi0 : (0 : Int) ≤ (i : Int) := by omega
    by_cases hin : i < n
    · obtain ⟨q, hq⟩ : ∃ q, n - 1 - i = q := ⟨_, rfl⟩
      have hqi : (n : Int) - 1 - (i : Int) = (q : Int) := by omega
      have hq0 : (0 : Int) ≤ (q : Int) := by omega
      have hqn : (q : Int) < (n : Int) := by omega
      have hini : (i : Int) < (n : Int) := by omega
      obtain ⟨x, hx⟩ : ∃ x, es[i]? = some x := ⟨es[i]'(by have := HNL.out; omega), List.getElem?_eq_getElem _⟩
      obtain ⟨y, hy⟩ : ∃ y, es[q]? = some y := ⟨es[q]'(by have := HNL.out; omega), List.getElem?_eq_getElem _⟩
      obtain ⟨g, o, rfl, hblt, d0, d1, d2, d3, d4⟩ := (HT.out.row.rd encEnt_len).at5 HNL.out i x hx
      have hcs := cut_small HC.out
      have hs1 := take_small hcs i
      have hs2 := take_small (es := es.reverse) (fun e he => hcs e (List.mem_reverse.1 he)) i
      have hcx := HC.out x (List.mem_of_getElem? hx)
      have hcy := HC.out y (List.mem_of_getElem? hy)
      have hzx := hcs x (List.mem_of_getElem? hx)
      have hzy := hcs y (List.mem_of_getElem? hy)
      have HP1 := Lib.hid (sput_any wr b1 ρ us _ HT.out.fst x (kind_small hcx) (by omega) (by omega))
      have e1 := putAll_take hx
      have e2 : putE (putAll (es.reverse.take i)) y = putAll (es.reverse.take (i + 1)) := by
        rw [take_rev (by have := HNL.out; omega) y (by have := HNL.out; rw [← this, hq]; exact hy), putAll_snoc]
      have HP2 : Hid (∀ W ρ', TwoAt w b1 b2 ρ' σ us vs (putAll (es.take (i + 1))) (putAll (es.reverse.take i)) (.slice (some ⟨g, o, none⟩) n ce) es W → Calls Try.prog 10 #[.pointer (some ⟨b2, 0, none⟩), y.v] W (SPut W b2 σ vs (putAll (es.reverse.take i)) y)) := Lib.hid fun W ρ' h =>
        sput_any W b2 σ vs _ h.snd y (kind_small hcy) (by omega) (by omega)
      have HE1 := Lib.hid e1
      have HE2 := Lib.hid e2
      have HYQ := Lib.hid hy
      obtain ⟨xn, xq, xk, xsp, xv⟩ := x
      obtain ⟨yn, yq, yk, ysp, yv⟩ := y
      simp only [] at d0 d1 d2 d3 d4
      clear hx hy hcs hs1 hs2 hcx hcy hzx hzy e1 e2 hq
      go_wp2_with fail
      refine HP1.out.mono ?_
      rintro e w5 ⟨rfl, ht⟩
      rw [HE1.out] at ht
      obtain ⟨ρ', h5⟩ := HT.out.putL ht
      have HT5 := Lib.hid h5
      clear h5 ht HP1 HT HE1 d0 d1 d2 d3 d4
      obtain ⟨g', o', hge, -, d0, d1, d2, d3, d4⟩ := (HT5.out.row.rd encEnt_len).at5 HNL.out q _ HYQ.out
      simp only [Option.some.injEq, Addr.mk.injEq] at hge
      obtain ⟨rfl, rfl, -⟩ := hge
      have HP3 := Lib.hid (HP2.out w5 ρ' HT5.out)
      simp only [] at d0 d1 d2 d3 d4
      clear HP2 HYQ
      go_wp2_with fail
      refine HP3.out.mono ?_
      rintro e w6 ⟨rfl, ht⟩
      rw [HE2.out] at ht
      obtain ⟨σ', h6⟩ := HT5.out.flip.putL ht
      have HT6 := Lib.hid h6.flip
      clear h6 ht HP3 HT5 HE2 d0 d1 d2 d3 d4
      go_wp2_with fail
      go_roundg (n - (i + 1))
      case measure => omega
      case rel => exact ⟨i + 1, ρ', σ', by go_num, by omega, Nat.le_refl _, HT6⟩
    · obtain rfl : i = n := by omega
      replace HT : Hid (TwoAt w b1 b2 ρ σ us vs (putAll es) (putAll es.reverse) (.slice ae i ce) es wr) := Lib.hid (by
        have h1 := HT.out
        rw [List.take_of_length_le (by rw [← HNL.out]; exact Nat.le_refl _), List.take_of_length_le (by rw [List.length_reverse, ← HNL.out]; exact Nat.le_refl _)] at h1
        exact h1)
      have HAL := Lib.hid (sall_any wr b1 ρ us _ HT.out.fst)
      clear hi hk hin
      go_wp2_with fail
      refine HAL.out.mono ?_
      rintro e w5 ⟨vx, rfl, hx5, hb5⟩
      have HT5 : Hid (TwoAt w b1 b2 ρ σ us vs (putAll es) (putAll es.reverse) (.slice ae i ce) es w5) := Lib.hid (HT.out.to hb5)
      obtain ⟨ax, nx_, cx, rfl, hnx⟩ := rdK_len (hx5.rd encEnt_len)
      have HX5 := Lib.hid (hx5.rd encEnt_len)
      clear hx5 hb5 hnx HAL HT
      go_wp2_with fail
      go_loopg [12] i (fun kk v wr => ∃ j : Nat, v = .int .i64 (j : Int) ∧ j ≤ i ∧ i - j ≤ kk ∧ Hid (TwoAt w b1 b2 ρ σ us vs (putAll es) (putAll es.reverse) (.slice ae i ce) es wr ∧ Below w5.heap.size w5 wr))
      case atStart => exact ⟨0, rfl, by omega, by omega, Lib.hid ⟨HT5.out, Below.refl _ _⟩⟩
      case round =>
        clear HT5
        obtain ⟨j, rfl, hj, hk, HT⟩ := hrel
        have hj0 : (0 : Int) ≤ (j : Int) := by omega
        by_cases hji : j < i
        · have hjii : (j : Int) < (i : Int) := by omega
          obtain ⟨x, hx⟩ : ∃ x, es[j]? = some x := ⟨es[j]'(by have := HNL.out; omega), List.getElem?_eq_getElem _⟩
          obtain ⟨g, o, rfl, hblt, c1⟩ := (HT.out.1.row.rd encEnt_len).at5 HNL.out j x hx
          have C1 := Lib.hid c1
          obtain ⟨y, hy, hyn⟩ := find_put (List.mem_of_getElem? hx)
          have HG0 : ∀ W, Below wr.heap.size wr W → Calls Try.prog 12 #[.pointer (some ⟨b1, 0, none⟩), .string x.norm, .int .i64 x.seq] W (GetRes W (findE (putAll es) x.norm x.seq)) := fun W hW => sget_any W b1 ρ us _ (HT.out.1.fst.below hW) x.norm x.seq
          rw [hy] at HG0
          obtain ⟨xn, xq, xk, xsp, xv⟩ := x
          obtain ⟨yn, yq, yk, ysp, yv⟩ := y
          obtain rfl : yn = xn := hyn
          have HG : Hid (∀ W, Below wr.heap.size wr W → Calls Try.prog 12 #[.pointer (some ⟨b1, 0, none⟩), .string yn, .int .i64 xq] W fun e w' => e = .returned (.tuple #[.agg #[.string yn, .int .i64 yq, .int .i64 yk, .string ysp, .string yv], .bool true]) ∧ Below W.heap.size W w') := Lib.hid HG0
          have B : Below wr.heap.size wr wr := Below.refl _ _
          clear hx hy HG0 c1
          go_upto_region 19 with fail
          go_cut [13, 14] (fun ev ov wx => ∃ v, ev = .pointer (some ⟨v, 0, none⟩) ∧ ov = .bool true ∧ Hid (BlkAt wx v #[.string yn, .int .i64 yq, .int .i64 yk, .string ysp, .string yv] 30 ∧ Below wr.heap.size wr wx))
          case first =>
            refine wp_region_held_drew (S := Below wr.heap.size wr) (by kernel_rfl) (Below.refl _ _).drew (fun hHeld => ?_)
            generalize wr.drew = wd at hHeld ⊢
            refine takeYes (i := 0) (k := 65) (v := .pointer (some ⟨b1, 0, none⟩)) rfl (by kernel_rfl) (by kernel_rfl) (by kernel_rfl) (by kernel_rfl) (fun _ _ _ h => h) (by kernel_rfl) ?_ (by assumption) ?_
            · intro W hSw; first | (go_simp; done) | go_simp
            try simp only [Act.put, List.setIfInBounds_toArray, List.set_cons_zero, List.set_cons_succ]
            refine takeYes (i := 1) (k := 66) (v := .slice (some ⟨g, o, none⟩) i ce) rfl (by kernel_rfl) (by kernel_rfl) (by kernel_rfl) (by kernel_rfl) (fun _ _ _ h => h) (by kernel_rfl) ?_ (by assumption) ?_
            · intro W hSw; first | (go_simp; done) | go_simp
            try simp only [Act.put, List.setIfInBounds_toArray, List.set_cons_zero, List.set_cons_succ]
            refine takeYes (i := 2) (k := 67) (v := .int .i64 (j : Int)) rfl (by kernel_rfl) (by kernel_rfl) (by kernel_rfl) (by kernel_rfl) (fun _ _ _ h => h) (by kernel_rfl) ?_ (by assumption) ?_
            · intro W hSw; first | (go_simp; done) | go_simp
            try simp only [Act.put, List.setIfInBounds_toArray, List.set_cons_zero, List.set_cons_succ]
            refine takeYes (i := 3) (k := 68) (v := .pointer (some ⟨g, o + j * 5, none⟩)) rfl (by kernel_rfl) (by kernel_rfl) (by kernel_rfl) (by kernel_rfl) (fun _ _ _ h => h) (by kernel_rfl) ?_ (by assumption) ?_
            · intro W hSw; first | (go_simp; done) | go_simp
            try simp only [Act.put, List.setIfInBounds_toArray, List.set_cons_zero, List.set_cons_succ]
            refine takeYes (i := 4) (k := 69) (v := .pointer (some ⟨g, o + j * 5, none⟩)) rfl (by kernel_rfl) (by kernel_rfl) (by kernel_rfl) (by kernel_rfl) (fun _ _ _ h => h) (by kernel_rfl) ?_ (by assumption) ?_
            · intro W hSw; first | (go_simp; done) | go_simp
            try simp only [Act.put, List.setIfInBounds_toArray, List.set_cons_zero, List.set_cons_succ]
            refine takeYes (i := 5) (k := 70) (v := .string yn) rfl (by kernel_rfl) (by kernel_rfl) (by kernel_rfl) (by kernel_rfl) (fun _ _ _ h => h) (by kernel_rfl) ?_ (by assumption) ?_
            · intro W hSw; obtain ⟨d0, d1, d2, d3, d4⟩ := C1.out.under hblt hSw; first | (go_simp; done) | go_simp
            try simp only [Act.put, List.setIfInBounds_toArray, List.set_cons_zero, List.set_cons_succ]
            refine takeYes (i := 6) (k := 71) (v := .slice (some ⟨g, o, none⟩) i ce) rfl (by kernel_rfl) (by kernel_rfl) (by kernel_rfl) (by kernel_rfl) (fun _ _ _ h => h) (by kernel_rfl) ?_ (by assumption) ?_
            · intro W hSw; first | (go_simp; done) | go_simp
            try simp only [Act.put, List.setIfInBounds_toArray, List.set_cons_zero, List.set_cons_succ]
            refine takeYes (i := 7) (k := 72) (v := .int .i64 (j : Int)) rfl (by kernel_rfl) (by kernel_rfl) (by kernel_rfl) (by kernel_rfl) (fun _ _ _ h => h) (by kernel_rfl) ?_ (by assumption) ?_
            · intro W hSw; first | (go_simp; done) | go_simp
            try simp only [Act.put, List.setIfInBounds_toArray, List.set_cons_zero, List.set_cons_succ]
            refine takeYes (i := 8) (k := 73) (v := .pointer (some ⟨g, o + j * 5, none⟩)) rfl (by kernel_rfl) (by kernel_rfl) (by kernel_rfl) (by kernel_rfl) (fun _ _ _ h => h) (by kernel_rfl) ?_ (by assumption) ?_
            · intro W hSw; first | (go_simp; done) | go_simp
            try simp only [Act.put, List.setIfInBounds_toArray, List.set_cons_zero, List.set_cons_succ]
            refine takeYes (i := 9) (k := 74) (v := .pointer (some ⟨g, o + j * 5 + 1, none⟩)) rfl (by kernel_rfl) (by kernel_rfl) (by kernel_rfl) (by kernel_rfl) (fun _ _ _ h => h) (by kernel_rfl) ?_ (by assumption) ?_
            · intro W hSw; first | (go_simp; done) | go_simp
            try simp only [Act.put, List.setIfInBounds_toArray, List.set_cons_zero, List.set_cons_succ]
            refine takeYes (i := 10) (k := 75) (v := .int .i64 xq) rfl (by kernel_rfl) (by kernel_rfl) (by kernel_rfl) (by kernel_rfl) (fun _ _ _ h => h) (by kernel_rfl) ?_ (by assumption) ?_
            · intro W hSw; obtain ⟨d0, d1, d2, d3, d4⟩ := C1.out.under hblt hSw; first | (go_simp; done) | go_simp
            try simp only [Act.put, List.setIfInBounds_toArray, List.set_cons_zero, List.set_cons_succ]
            refine wpAnyH_ready (rs := [11, 15]) (by kernel_rfl) (by simp) (AllReadyH.cons rfl (fun K hK => ?_) (AllReadyH.cons rfl (fun K hK => ?_) AllReadyH.nil))
            · go_simp
              refine (HG.out _ hHeld).mono ?_
              rintro e w2 ⟨rfl, hb⟩
              have h2 : Below wr.heap.size wr w2 := hHeld.trans (hb.mono hHeld.size)
              refine hK.out _ _ h2 (fun _ => ?_)
              clear hK K
              try simp only [Act.put, List.setIfInBounds_toArray, List.set_cons_zero, List.set_cons_succ]
              refine takeYes (i := 12) (k := 64) (v := .tuple #[.agg #[.string yn, .int .i64 yq, .int .i64 yk, .string ysp, .string yv], .bool true]) rfl (by kernel_rfl) (by kernel_rfl) (by kernel_rfl) (by kernel_rfl) (fun _ _ _ h => h) (by kernel_rfl) ?_ (by assumption) ?_
              · intro W hSw; first | (go_simp; done) | go_simp
              try simp only [Act.put, List.setIfInBounds_toArray, List.set_cons_zero, List.set_cons_succ]
              refine takeYes (i := 13) (k := 77) (v := .agg #[.string yn, .int .i64 yq, .int .i64 yk, .string ysp, .string yv]) rfl (by kernel_rfl) (by kernel_rfl) (by kernel_rfl) (by kernel_rfl) (fun _ _ _ h => h) (by kernel_rfl) ?_ (by assumption) ?_
              · intro W hSw; first | (go_simp; done) | go_simp
              try simp only [Act.put, List.setIfInBounds_toArray, List.set_cons_zero, List.set_cons_succ]
              refine takeYes (i := 14) (k := 78) (v := .bool true) rfl (by kernel_rfl) (by kernel_rfl) (by kernel_rfl) (by kernel_rfl) (fun _ _ _ h => h) (by kernel_rfl) ?_ (by assumption) ?_
              · intro W hSw; first | (go_simp; done) | go_simp
              try simp only [Act.put, List.setIfInBounds_toArray, List.set_cons_zero, List.set_cons_succ]
              refine wpAnyH_ready (rs := [15]) (by kernel_rfl) (by simp) (AllReadyH.cons rfl (fun K hK => ?_) AllReadyH.nil)
              go_simp
              refine hK.out _ _ (h2.alloc h2.size _) (fun h3 => ?_)
              clear hK K
              try simp only [Act.put, List.setIfInBounds_toArray, List.set_cons_zero, List.set_cons_succ]
              refine wpAnyH_ready (rs := [16]) (by kernel_rfl) (by simp) (AllReadyH.cons rfl (fun K hK => ?_) AllReadyH.nil)
              go_simp
              have h4 : Below wr.heap.size wr (w2.alloc (.cells #[.string yn, .int .i64 yq, .int .i64 yk, .string ysp, .string yv] 30)) := h2.alloc h2.size _
              refine hK.out _ _ h4 (fun _ => ?_)
              clear hK K h3
              try simp only [Act.put, List.setIfInBounds_toArray, List.set_cons_zero, List.set_cons_succ]
              refine takeYes (i := 17) (k := 14) (v := .bool true) rfl (by kernel_rfl) (by kernel_rfl) (by kernel_rfl) (by kernel_rfl) (fun _ _ _ h => h) (by kernel_rfl) ?_ (by assumption) ?_
              · intro W hSw; first | (go_simp; done) | go_simp
              try simp only [Act.put, List.setIfInBounds_toArray, List.set_cons_zero, List.set_cons_succ]
              refine wpAnyH_done (by kernel_rfl) ?_ _
              go_wp2_with fail
              go_meet
              exact ⟨w2.heap.size, rfl, rfl, Lib.hid ⟨BlkAt.new w2 #[.string yn, .int .i64 yq, .int .i64 yk, .string ysp, .string yv] _, h4⟩⟩
            · go_simp
              have h2 : Below wr.heap.size wr (wd.alloc (.cells #[.string ⟨#[]⟩, .int .i64 0, .int .i64 0, .string ⟨#[]⟩, .string ⟨#[]⟩] 30)) := hHeld.alloc hHeld.size _
              have hz := BlkAt.new wd #[.string ⟨#[]⟩, .int .i64 0, .int .i64 0, .string ⟨#[]⟩, .string ⟨#[]⟩] 30
              have hv0 : wr.heap.size ≤ wd.heap.size := hHeld.size
              obtain ⟨v, hv⟩ : ∃ v, wd.heap.size = v := ⟨_, rfl⟩
              rw [hv] at hz hv0 ⊢
              refine hK.out _ _ h2 (fun _ => ?_)
              clear hK K
              try simp only [Act.put, List.setIfInBounds_toArray, List.set_cons_zero, List.set_cons_succ]
              refine wpAnyH_ready (rs := [11]) (by kernel_rfl) (by simp) (AllReadyH.cons rfl (fun K hK => ?_) AllReadyH.nil)
              go_simp
              refine (HG.out _ h2).mono ?_
              rintro e w2 ⟨rfl, hb⟩
              have h3 : Below wr.heap.size wr w2 := h2.trans (hb.mono h2.size)
              replace hz := hz.below hb
              have z0 : w2.cell? ⟨v, 0, none⟩ = some (.string ⟨#[]⟩) := hz.at 0
              have z1 : w2.cell? ⟨v, 1, none⟩ = some (.int .i64 0) := hz.at 1
              have z2 : w2.cell? ⟨v, 2, none⟩ = some (.int .i64 0) := hz.at 2
              have z3 : w2.cell? ⟨v, 3, none⟩ = some (.string ⟨#[]⟩) := hz.at 3
              have z4 : w2.cell? ⟨v, 4, none⟩ = some (.string ⟨#[]⟩) := hz.at 4
              have g0 := hz.free 0
              have g1 := hz.free 1
              have g2 := hz.free 2
              have g3 := hz.free 3
              have g4 := hz.free 4
              refine hK.out _ _ h3 (fun _ => ?_)
              clear hK K h2 hb hv
              try simp only [Act.put, List.setIfInBounds_toArray, List.set_cons_zero, List.set_cons_succ]
              refine takeYes (i := 12) (k := 64) (v := .tuple #[.agg #[.string yn, .int .i64 yq, .int .i64 yk, .string ysp, .string yv], .bool true]) rfl (by kernel_rfl) (by kernel_rfl) (by kernel_rfl) (by kernel_rfl) (fun _ _ _ h => h) (by kernel_rfl) ?_ (by assumption) ?_
              · intro W hSw; first | (go_simp; done) | go_simp
              try simp only [Act.put, List.setIfInBounds_toArray, List.set_cons_zero, List.set_cons_succ]
              refine takeYes (i := 13) (k := 77) (v := .agg #[.string yn, .int .i64 yq, .int .i64 yk, .string ysp, .string yv]) rfl (by kernel_rfl) (by kernel_rfl) (by kernel_rfl) (by kernel_rfl) (fun _ _ _ h => h) (by kernel_rfl) ?_ (by assumption) ?_
              · intro W hSw; first | (go_simp; done) | go_simp
              try simp only [Act.put, List.setIfInBounds_toArray, List.set_cons_zero, List.set_cons_succ]
              refine takeYes (i := 14) (k := 78) (v := .bool true) rfl (by kernel_rfl) (by kernel_rfl) (by kernel_rfl) (by kernel_rfl) (fun _ _ _ h => h) (by kernel_rfl) ?_ (by assumption) ?_
              · intro W hSw; first | (go_simp; done) | go_simp
              try simp only [Act.put, List.setIfInBounds_toArray, List.set_cons_zero, List.set_cons_succ]
              refine wpAnyH_ready (rs := [16]) (by kernel_rfl) (by simp) (AllReadyH.cons rfl (fun K hK => ?_) AllReadyH.nil)
              go_simp
              have h4 := ((((h3.setCell (p := ⟨v, 0, none⟩) hv0 (.string yn)).setCell (p := ⟨v, 1, none⟩) hv0 (.int .i64 yq)).setCell (p := ⟨v, 2, none⟩) hv0 (.int .i64 yk)).setCell (p := ⟨v, 3, none⟩) hv0 (.string ysp)).setCell (p := ⟨v, 4, none⟩) hv0 (.string yv)
              have hr := ((((hz.set (o := 0) (.string yn)).set (o := 1) (.int .i64 yq)).set (o := 2) (.int .i64 yk)).set (o := 3) (.string ysp)).set (o := 4) (.string yv)
              refine hK.out _ _ h4 (fun _ => ?_)
              clear hK K
              try simp only [Act.put, List.setIfInBounds_toArray, List.set_cons_zero, List.set_cons_succ]
              refine takeYes (i := 17) (k := 14) (v := .bool true) rfl (by kernel_rfl) (by kernel_rfl) (by kernel_rfl) (by kernel_rfl) (fun _ _ _ h => h) (by kernel_rfl) ?_ (by assumption) ?_
              · intro W hSw; first | (go_simp; done) | go_simp
              try simp only [Act.put, List.setIfInBounds_toArray, List.set_cons_zero, List.set_cons_succ]
              refine wpAnyH_done (by kernel_rfl) ?_ _
              go_wp2_with fail
              go_meet
              exact ⟨v, rfl, rfl, Lib.hid ⟨hr, h4⟩⟩
          case rest =>
          obtain ⟨v, rfl, rfl, HV⟩ := hcut
          have HT2 : Hid (TwoAt w b1 b2 ρ σ us vs (putAll es) (putAll es.reverse) (.slice (some ⟨g, o, none⟩) i ce) es wc ∧ Below w5.heap.size w5 wc) := Lib.hid ⟨HT.out.1.to HV.out.2, HT.out.2.trans (HV.out.2.mono HT.out.2.size)⟩
          have e0 : wc.cell? ⟨v, 0, none⟩ = some (.string yn) := HV.out.1.at 0
          obtain ⟨d0, -, -, -, -⟩ := C1.out.under hblt HV.out.2
          simp only [] at d0
          clear HG HT C1 HV
          go_wp2_with fail
          go_quiet (fail)
          go_wp2_with fail
          go_roundg (i - (j + 1))
          case measure => omega
          case rel => exact ⟨j + 1, by go_num, by omega, Nat.le_refl _, Lib.hid ⟨HT2.out.1.to (DrN.below ⟨nq, rfl⟩ _), HT2.out.2.trans ((DrN.below ⟨nq, rfl⟩ _).mono HT2.out.2.size)⟩⟩
        · have hle : (putAll es).length ≤ 1000000 := by
            have h1 := (putAll_small (cut_small HC.out)).1
            have := HNL.out; omega
          have hs : srtB (putAll es) = true := (putAll_ord es).srt
          have HS : Hid (Calls Try.prog 13 #[.slice ax nx_ cx] wr fun e w' => e = .returned (.bool true) ∧ Below wr.heap.size wr w') := Lib.hid (by
            have h := rsorted_any _ (putAll es) hle wr (HX5.out.below HT.out.2)
            rw [hs] at h
            exact h)
          have hll : (putAll es.reverse).length = (putAll es).length := putAll_len fun x => List.mem_reverse
          have HL1 : Hid (∀ W, Below wr.heap.size wr W → Calls Try.prog 14 #[.pointer (some ⟨b1, 0, none⟩)] W fun e w' => e = .returned (.int .i64 ((putAll es).length : Int)) ∧ W = w') := Lib.hid fun W hW => slen_any W b1 ρ us _ (HT.out.1.fst.below hW)
          have HL2 : Hid (∀ W, Below wr.heap.size wr W → Calls Try.prog 14 #[.pointer (some ⟨b2, 0, none⟩)] W fun e w' => e = .returned (.int .i64 ((putAll es).length : Int)) ∧ W = w') := Lib.hid fun W hW => by
            have h := slen_any W b2 σ vs _ (HT.out.1.snd.below hW)
            rw [hll] at h
            exact h
          have HBW := Lib.hid HT.out.1.below
          generalize ((putAll es).length : Int) = ln at HL1 HL2
          clear HT hle hs hll HX5 HC
          go_wp2_with fail
          refine HS.out.mono ?_
          rintro e w6 ⟨rfl, hb6⟩
          go_wp2_with fail
          refine (HL1.out _ hb6).mono ?_
          rintro e w' ⟨rfl, rfl⟩
          go_wp2_with fail
          refine (HL2.out _ hb6).mono ?_
          rintro e w' ⟨rfl, rfl⟩
          go_wp2_with fail
          go_ret
          exact ⟨rfl, HBW.out.trans (hb6.mono HBW.out.size)⟩
end Go.Proofs.Ytacaofnonmgfoaa
