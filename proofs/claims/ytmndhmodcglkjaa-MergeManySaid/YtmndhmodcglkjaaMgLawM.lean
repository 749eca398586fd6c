/- The walk of the law MergeMany. -/
import Derived.Test.YtmndhmodcglkjaaMgDeal
import Derived.Test.YtmndhmodcglkjaaMgStep
import Derived.Deep.LoopGhost
import Derived.Deep.CutBlock
import Derived.Deep.DeepCutAuto
namespace Go.Proofs.Ytmndhmodcglkjaa
set_option linter.unusedVariables false
set_option maxRecDepth 100000
open Go.RowKit
set_option maxHeartbeats 32000000 in
theorem mergeMany_walk (w : World) (n : Int) (hwf : (Lit.int .i64 n).wf = true) (a : Option Addr) (len cap : Nat) (zs : List Int) (hr : RdV w (.slice a len cap) (zs.map (Value.int .i64))) (hz : ∀ x ∈ zs, (Lit.int .i64 x).wf = true) :
    Calls Try.prog 4 #[.int .i64 n, .slice a len cap] w fun e w' => e = .returned (.bool true) ∧ Below w.heap.size w w' := by
  have HBG := Lib.hid (mgBegun_any w)
  have hlz : len = zs.length := by
    rcases hr with ⟨a', cap', e, e2⟩ | ⟨b, off, cap', e, -⟩
    · simp only [Value.slice.injEq] at e
      rw [e.2.1, List.map_eq_nil_iff.1 e2]; rfl
    · simp only [Value.slice.injEq] at e
      rw [e.2.1, List.length_map]
  have hcm : len ≤ maxLen := by
    rcases hr with ⟨a', cap', e, e2⟩ | ⟨b, off, cap', e, -, h1, h2, -⟩
    · simp only [Value.slice.injEq] at e; omega
    · simp only [Value.slice.injEq] at e; omega
  have HR := Lib.hid hr
  have HLZ := Lib.hid hlz
  clear hr hlz
  unfold maxLen at hcm
  go_enter Try.func4, Try.ntmps4
  go_wp2_with fail
  refine HBG.out.mono ?_
  rintro e w1 ⟨rfl, hb1⟩
  have HB1 := Lib.hid hb1
  clear HBG hb1
  by_cases hn : n < 0
  · have hnd : decide (n < 0) = true := decide_eq_true hn
    go_wp2_with fail
    go_ret
    exact ⟨rfl, HB1.out⟩
  have hnd : decide (n < 0) = false := decide_eq_false hn
  by_cases hn2 : 120 < n
  · have hnd2 : decide (120 < n) = true := decide_eq_true hn2
    go_wp2_with fail
    go_ret
    exact ⟨rfl, HB1.out⟩
  have hnd2 : decide (120 < n) = false := decide_eq_false hn2
  by_cases hl0 : len = 0
  · subst hl0
    go_wp2_with fail
    go_ret
    exact ⟨rfl, HB1.out⟩
  have hlI : ¬ (len : Int) = 0 := by omega
  have hlb : ((len : Int) == 0) = false := by rw [beq_eq_false_iff_ne]; exact hlI
  obtain ⟨N, rfl⟩ : ∃ N : Nat, n = N := ⟨n.toNat, by omega⟩
  have hN : N ≤ 120 := by omega
  obtain ⟨d, hd⟩ : ∃ d : Nat → Nat, d = fun j => ((zs.getD (j % len) 0).tmod 6).natAbs := ⟨_, rfl⟩
  have hd6 : ∀ j, d j < 6 := fun j => by
    rw [hd]
    show ((zs.getD (j % len) 0).tmod 6).natAbs < 6
    have h1 := Int.natAbs_tmod (zs.getD (j % len) 0) 6
    rw [h1]
    exact Nat.mod_lt _ (by decide)
  obtain ⟨w0, hmk, hD0, hb0⟩ := deal_make w1
  obtain ⟨g, hg⟩ : ∃ g, w1.heap.size = g := ⟨_, rfl⟩
  have HD0 : Hid ((∃ vs, DealW w.heap.size w0 g vs (lsD d 0)) ∧ Below w.heap.size w w0) := Lib.hid ⟨⟨_, by
    rw [hg] at hD0
    have hwg : w.heap.size ≤ g := by rw [← hg]; exact HB1.out.size
    exact ⟨hD0.row.base hwg, hD0.vl, hD0.ll, fun i u l hu hl => (hD0.own i u l hu hl).base hwg, hD0.ap⟩⟩, HB1.out.trans (hb0.mono HB1.out.size)⟩
  rw [hg] at hmk
  clear hD0 hb0 HB1
  go_wp2_with fail
  go_loopg [7] N (fun kk vi wr => ∃ i : Nat, vi = .int .i64 i ∧ i ≤ N ∧ N - i ≤ kk ∧ Hid ((∃ vs, DealW w.heap.size wr g vs (lsD d i)) ∧ Below w.heap.size w wr))
  case atStart => exact ⟨0, rfl, by omega, by omega, HD0⟩
  case round =>
    obtain ⟨i, rfl, hi, hkk, HN⟩ := hrel
    have hi0 : (0 : Int) ≤ (i : Int) := by omega
    clear HD0 hmk hg
    have HDW := Lib.hid HN.out.1
    have HB := Lib.hid HN.out.2
    clear HN
    by_cases hiN : i < N
    · have hiI : (i : Int) < (N : Int) := by omega
      have hid : decide ((i : Int) < (N : Int)) = true := decide_eq_true hiI
      obtain ⟨c, hc⟩ : ∃ c, i % len = c := ⟨_, rfl⟩
      have hcl : c < len := by rw [← hc]; exact Nat.mod_lt _ (by omega)
      have hcT : (i : Int).tmod (len : Int) = (c : Int) := by rw [Int.tmod_eq_emod_of_nonneg hi0, ← hc, Int.natCast_emod]
      have hcE : (i : Int) % (len : Int) = (c : Int) := by rw [← hc, Int.natCast_emod]
      have hc0 : (0 : Int) ≤ (c : Int) := by omega
      have hcI : (c : Int) < (len : Int) := by omega
      obtain ⟨x, hx⟩ : ∃ x, zs[c]? = some x := ⟨zs[c]'(by have := HLZ.out; omega), List.getElem?_eq_getElem _⟩
      obtain ⟨ga, off, e, hga, hdc⟩ := rdV_one HR.out c (.int .i64 x) (by rw [List.getElem?_map, hx]; rfl)
      obtain rfl := e
      replace hdc := (HB.out.cell (p := ⟨ga, off + c, none⟩) hga).trans hdc
      have hdi : d i = (x.tmod 6).natAbs := by rw [hd]; show ((zs.getD (i % len) 0).tmod 6).natAbs = _; rw [hc, List.getD_eq_getElem?_getD, hx]; rfl
      obtain ⟨y, hy⟩ : ∃ y, x.tmod 6 = y := ⟨_, rfl⟩
      have hK6 := hd6 i
      rw [hy] at hdi
      obtain ⟨K, hdK⟩ : ∃ K, d i = K := ⟨_, rfl⟩
      rw [hdK] at hK6 hdi
      obtain ⟨A, hA⟩ : ∃ A, i / 26 = A := ⟨_, rfl⟩
      obtain ⟨C, hC⟩ : ∃ C, i % 26 = C := ⟨_, rfl⟩
      have hA9 : (A : Int) ≤ 5 := by omega
      have hC9 : (C : Int) < 26 := by omega
      have hAI : (i : Int) / 26 = (A : Int) := by omega
      have hCI : (i : Int) % 26 = (C : Int) := by omega
      have hAT : (i : Int).tdiv 26 = (A : Int) := by rw [Int.tdiv_eq_ediv_of_nonneg hi0]; exact hAI
      have hCT : (i : Int).tmod 26 = (C : Int) := by rw [Int.tmod_eq_emod_of_nonneg hi0]; exact hCI
      have hAw : IntKind.i64.wrap (A : Int) = (A : Int) := IntWalk.i64_in _ (by omega)
      have hAw2 : IntKind.i64.wrap (97 + (A : Int)) = 97 + (A : Int) := IntWalk.i64_in _ (by omega)
      have hAw3 : IntKind.u8.wrap (97 + (A : Int)) = 97 + (A : Int) := IntWalk.u8_in _ (by omega)
      have hCw2 : IntKind.i64.wrap (97 + (C : Int)) = 97 + (C : Int) := IntWalk.i64_in _ (by omega)
      have hCw3 : IntKind.u8.wrap (97 + (C : Int)) = 97 + (C : Int) := IntWalk.u8_in _ (by omega)
      have hK0 : (0 : Int) ≤ (K : Int) := by omega
      have hK6I : (K : Int) < 6 := by omega
      clear hA hC hc hx
      by_cases hyn : y < 0
      · obtain rfl : y = -(K : Int) := by omega
        have hneg : IntKind.i64.wrap (K : Int) = (K : Int) := IntWalk.i64_in _ (by omega)
        have hyd : decide (-(K : Int) < 0) = true := decide_eq_true hyn
        obtain ⟨vs, HD⟩ := HDW.out
        have hgl : g < wr.heap.size := by obtain ⟨-, cs, h⟩ := HD.rowBlk; exact h.lt
        have hgf : wr.frozen? ⟨g, K, none⟩ = false := by obtain ⟨-, cs, h⟩ := HD.rowBlk; exact h.free K
        obtain ⟨u, hu, hcell⟩ := HD.cell hK6
        obtain ⟨l, hl⟩ : ∃ l, (lsD d i)[K]? = some l := ⟨(lsD d i)[K]'(by rw [lsD_len]; exact hK6), List.getElem?_eq_getElem _⟩
        have ho := HD.own K u l hu hl
        have hln : l.length ≤ 120 := by
          have h1 : l.length ≤ (lsD d i).flatten.length := by
            exact (List.sublist_flatten_of_mem (List.mem_of_getElem? hl)).length_le
          rw [lsD_tot d hd6] at h1; omega
        obtain ⟨au, cu, rfl, -, -⟩ := ho.kform
        obtain ⟨w2, hw2⟩ : ∃ w2, wr.drew.alloc (.cells #[.int .u8 (97 + (A : Int)), .int .u8 (97 + (C : Int))] 5) = w2 := ⟨_, rfl⟩
        have b2 : Below wr.heap.size wr w2 := by rw [← hw2]; exact ((Below.refl _ wr).drew).alloc (Nat.le_refl _) _
        have hcv : (convert 43 9 (.slice (some ⟨wr.heap.size, 0, none⟩) 2 2)).run Try.prog w2 = .ok (.string (ltr2 i)) w2 := by
          have := ltr2_conv (w := wr.drew) (W := w2) (i := i) (by omega) (by rw [hAI, hCI, hw2]; exact Below.refl _ _)
          exact this
        have o2 := ho.below b2
        obtain ⟨v', wq, hrun, oq, bq, uq, nq⟩ := run_oneK (ty := 24) (w := w2) elem_ent encEnt_len o2 (eDl d i) (enc_cells _) (by omega) (by unfold maxLen; omega) (by have := HB.out.size; have := b2.size; omega)
        rw [show (encEnt (eDl d i)).toArray = #[.string (ltr2 i), .int .i64 (d i : Int), .int .i64 0, .string ⟨#[]⟩, .string ⟨#[]⟩] from rfl, hdK] at hrun
        obtain ⟨aq, cq, rfl, -, -⟩ := oq.kform
        have HR2 : Hid (w2.heap[g]? = wr.heap[g]?) := Lib.hid (b2.block g hgl)
        have HR3 : Hid ((w2.alloc (.cells #[.string (ltr2 i), .int .i64 (K : Int), .int .i64 0, .string ⟨#[]⟩, .string ⟨#[]⟩] 28)).heap[g]? = wr.heap[g]?) := Lib.hid ((((Below.refl _ w2).alloc (Nat.le_refl _) _).block g (Nat.lt_of_lt_of_le hgl b2.size)).trans HR2.out)
        have hgu : ∀ b, (Value.slice au l.length cu).ownBlock = some b → b ≠ g := by
          rintro b hb rfl
          obtain ⟨-, cs, h⟩ := HD.rowBlk
          rcases ho.blk with ⟨e, -⟩ | ⟨g1, cap, cur, e, -, -, k4, -⟩
          · rw [e] at hb; cases hb
          · rw [e] at hb
            obtain rfl : g1 = b := Option.some.inj hb
            unfold BlkAt at h; rw [k4] at h; cases h
        have HRQ : Hid (wq.heap[g]? = wr.heap[g]?) := Lib.hid ((uq.block g (Nat.lt_of_lt_of_le hgl b2.size) fun e => hgu g e rfl).trans HR2.out)
        have HFQ : Hid (wq.frozen? ⟨g, K, none⟩ = false) := Lib.hid (by
          unfold World.frozen? at hgf ⊢; rw [HRQ.out]; exact hgf)
        have hput := (HD.below b2).put hu hl oq (bq.mono (Nat.le_refl _)) uq nq
        have hnext : lsD d (i + 1) = (lsD d i).set K (l ++ [eDl d i]) := by
          rw [lsD, hdK, List.getD_eq_getElem?_getD, hl]; rfl
        rw [← hnext] at hput
        have HN2 : Hid ((∃ vs, DealW w.heap.size (wq.setCell ⟨g, K, none⟩ (.slice aq (l ++ [eDl d i]).length cq)) g vs (lsD d (i + 1))) ∧ Below w.heap.size w (wq.setCell ⟨g, K, none⟩ (.slice aq (l ++ [eDl d i]).length cq))) := Lib.hid ⟨⟨_, hput.1⟩, (HB.out.trans (b2.mono HB.out.size)).trans hput.2⟩
        generalize (l ++ [eDl d i]).length = nq' at hrun HN2
        generalize l.length = nu at *
        clear b2 o2 oq bq uq nq hput hnext hgu HD ho hl hu hln hgf hgl HDW HB hdK hdi
        clear hd hd6
        go_wp2_with fail
        have hS0 : wr.drew.heap[g]? = wr.heap[g]? := rfl
        refine beginK (fun W => W.heap[g]? = wr.heap[g]?) 21 (by kernel_rfl) hS0 (fun hHeld => ?_)
        refine takeK (i := 0) (k := 43) (v := .slice (some ⟨g, 0, none⟩) 6 6) rfl rfl (by kernel_rfl) (by kernel_rfl) (by kernel_rfl) [0] rfl (by decide) (by kernel_rfl) (fun _ _ _ h => h) (by kernel_rfl) ?_ (by assumption) ?_
        · intro W hSw; first | (go_simp; done) | go_simp
        try simp only [Act.put, List.setIfInBounds_toArray, List.set_cons_zero, List.set_cons_succ]
        refine takeK (i := 1) (k := 44) (v := .int .i64 (K : Int)) rfl rfl (by kernel_rfl) (by kernel_rfl) (by kernel_rfl) [1] rfl (by decide) (by kernel_rfl) (fun _ _ _ h => h) (by kernel_rfl) ?_ (by assumption) ?_
        · intro W hSw; first | (go_simp; done) | go_simp
        try simp only [Act.put, List.setIfInBounds_toArray, List.set_cons_zero, List.set_cons_succ]
        refine takeK (i := 2) (k := 45) (v := .slice (some ⟨g, 0, none⟩) 6 6) rfl rfl (by kernel_rfl) (by kernel_rfl) (by kernel_rfl) [2] rfl (by decide) (by kernel_rfl) (fun _ _ _ h => h) (by kernel_rfl) ?_ (by assumption) ?_
        · intro W hSw; first | (go_simp; done) | go_simp
        try simp only [Act.put, List.setIfInBounds_toArray, List.set_cons_zero, List.set_cons_succ]
        refine takeK (i := 3) (k := 46) (v := .int .i64 (K : Int)) rfl rfl (by kernel_rfl) (by kernel_rfl) (by kernel_rfl) [3] rfl (by decide) (by kernel_rfl) (fun _ _ _ h => h) (by kernel_rfl) ?_ (by assumption) ?_
        · intro W hSw; first | (go_simp; done) | go_simp
        try simp only [Act.put, List.setIfInBounds_toArray, List.set_cons_zero, List.set_cons_succ]
        refine takeK (i := 4) (k := 47) (v := .pointer (some ⟨g, K, none⟩)) rfl rfl (by kernel_rfl) (by kernel_rfl) (by kernel_rfl) [4] rfl (by decide) (by kernel_rfl) (fun _ _ _ h => h) (by kernel_rfl) ?_ (by assumption) ?_
        · intro W hSw; first | (go_simp; done) | go_simp
        try simp only [Act.put, List.setIfInBounds_toArray, List.set_cons_zero, List.set_cons_succ]
        refine takeK (i := 5) (k := 48) (v := .slice au nu cu) rfl rfl (by kernel_rfl) (by kernel_rfl) (by kernel_rfl) [5] rfl (by decide) (by kernel_rfl) (fun _ _ _ h => h) (by kernel_rfl) ?_ (by assumption) ?_
        · intro W hSw; have d0 := (World.cell?_of_block (a := ⟨g, K, none⟩) hSw).trans hcell; first | (go_simp; done) | go_simp
        try simp only [Act.put, List.setIfInBounds_toArray, List.set_cons_zero, List.set_cons_succ]
        refine takeK (i := 6) (k := 49) (v := .int .i64 (i : Int)) rfl rfl (by kernel_rfl) (by kernel_rfl) (by kernel_rfl) [6] rfl (by decide) (by kernel_rfl) (fun _ _ _ h => h) (by kernel_rfl) ?_ (by assumption) ?_
        · intro W hSw; first | (go_simp; done) | go_simp
        try simp only [Act.put, List.setIfInBounds_toArray, List.set_cons_zero, List.set_cons_succ]
        refine takeK (i := 7) (k := 50) (v := .int .i64 (A : Int)) rfl rfl (by kernel_rfl) (by kernel_rfl) (by kernel_rfl) [7] rfl (by decide) (by kernel_rfl) (fun _ _ _ h => h) (by kernel_rfl) ?_ (by assumption) ?_
        · intro W hSw; first | (go_simp; done) | go_simp
        try simp only [Act.put, List.setIfInBounds_toArray, List.set_cons_zero, List.set_cons_succ]
        refine takeK (i := 8) (k := 51) (v := .int .i64 (97 + (A : Int))) rfl rfl (by kernel_rfl) (by kernel_rfl) (by kernel_rfl) [8] rfl (by decide) (by kernel_rfl) (fun _ _ _ h => h) (by kernel_rfl) ?_ (by assumption) ?_
        · intro W hSw; first | (go_simp; done) | go_simp
        try simp only [Act.put, List.setIfInBounds_toArray, List.set_cons_zero, List.set_cons_succ]
        refine takeK (i := 9) (k := 52) (v := .int .u8 (97 + (A : Int))) rfl rfl (by kernel_rfl) (by kernel_rfl) (by kernel_rfl) [9] rfl (by decide) (by kernel_rfl) (fun _ _ _ h => h) (by kernel_rfl) ?_ (by assumption) ?_
        · intro W hSw; first | (go_simp; done) | go_simp
        try simp only [Act.put, List.setIfInBounds_toArray, List.set_cons_zero, List.set_cons_succ]
        refine takeK (i := 10) (k := 53) (v := .int .i64 (i : Int)) rfl rfl (by kernel_rfl) (by kernel_rfl) (by kernel_rfl) [10] rfl (by decide) (by kernel_rfl) (fun _ _ _ h => h) (by kernel_rfl) ?_ (by assumption) ?_
        · intro W hSw; first | (go_simp; done) | go_simp
        try simp only [Act.put, List.setIfInBounds_toArray, List.set_cons_zero, List.set_cons_succ]
        refine takeK (i := 11) (k := 54) (v := .int .i64 (C : Int)) rfl rfl (by kernel_rfl) (by kernel_rfl) (by kernel_rfl) [11] rfl (by decide) (by kernel_rfl) (fun _ _ _ h => h) (by kernel_rfl) ?_ (by assumption) ?_
        · intro W hSw; first | (go_simp; done) | go_simp
        try simp only [Act.put, List.setIfInBounds_toArray, List.set_cons_zero, List.set_cons_succ]
        refine takeK (i := 12) (k := 55) (v := .int .i64 (97 + (C : Int))) rfl rfl (by kernel_rfl) (by kernel_rfl) (by kernel_rfl) [12] rfl (by decide) (by kernel_rfl) (fun _ _ _ h => h) (by kernel_rfl) ?_ (by assumption) ?_
        · intro W hSw; first | (go_simp; done) | go_simp
        try simp only [Act.put, List.setIfInBounds_toArray, List.set_cons_zero, List.set_cons_succ]
        refine takeK (i := 13) (k := 56) (v := .int .u8 (97 + (C : Int))) rfl rfl (by kernel_rfl) (by kernel_rfl) (by kernel_rfl) [13] rfl (by decide) (by kernel_rfl) (fun _ _ _ h => h) (by kernel_rfl) ?_ (by assumption) ?_
        · intro W hSw; first | (go_simp; done) | go_simp
        try simp only [Act.put, List.setIfInBounds_toArray, List.set_cons_zero, List.set_cons_succ]
        refine takeK (i := 16) (k := 59) (v := .int .i64 (K : Int)) rfl rfl (by kernel_rfl) (by kernel_rfl) (by kernel_rfl) [16] rfl (by decide) (by kernel_rfl) (fun _ _ _ h => h) (by kernel_rfl) ?_ (by assumption) ?_
        · intro W hSw; first | (go_simp; done) | go_simp
        try simp only [Act.put, List.setIfInBounds_toArray, List.set_cons_zero, List.set_cons_succ]
        clear hHeld hS0
        refine oneK (i := 14) (by kernel_rfl) rfl (fun KK hK => ?_)
        refine one_bs 57 rfl (by kernel_rfl) _ _ _ #[(0, .int .u8 (97 + (A : Int))), (1, .int .u8 (97 + (C : Int)))] rfl (by kernel_rfl) (byt_bs (97 + (A : Int)) (97 + (C : Int)) _) ?_
        rw [hw2]
        refine hK.out _ _ (fun _ => HR2.out) (fun _ => ?_)
        clear hK KK
        try simp only [Act.put, List.setIfInBounds_toArray, List.set_cons_zero, List.set_cons_succ]
        refine oneK (i := 15) (by kernel_rfl) rfl (fun KK hK => ?_)
        go_simp
        refine hK.out _ _ (fun _ => HR2.out) (fun _ => ?_)
        clear hK KK
        try simp only [Act.put, List.setIfInBounds_toArray, List.set_cons_zero, List.set_cons_succ]
        refine oneK (i := 17) (by kernel_rfl) rfl (fun KK hK => ?_)
        refine one_bd 60 rfl (by kernel_rfl) _ _ #[(0, .string (ltr2 i)), (1, .int .i64 (K : Int))] rfl (by kernel_rfl) (ent_bd2 (ltr2 i) (K : Int) _) ?_
        refine hK.out _ _ (fun _ => HR2.out) (fun _ => ?_)
        clear hK KK
        try simp only [Act.put, List.setIfInBounds_toArray, List.set_cons_zero, List.set_cons_succ]
        refine oneK (i := 18) (by kernel_rfl) rfl (fun KK hK => ?_)
        refine one_bs 61 rfl (by kernel_rfl) _ _ _ #[(0, .agg #[.string (ltr2 i), .int .i64 (K : Int), .int .i64 0, .string ⟨#[]⟩, .string ⟨#[]⟩])] rfl (by kernel_rfl) (ent_bs (ltr2 i) ⟨#[]⟩ ⟨#[]⟩ (K : Int) 0 _) ?_
        refine hK.out _ _ (fun _ => HR3.out) (fun _ => ?_)
        clear hK KK
        try simp only [Act.put, List.setIfInBounds_toArray, List.set_cons_zero, List.set_cons_succ]
        refine oneK (i := 19) (by kernel_rfl) rfl (fun KK hK => ?_)
        refine step_appD 62 rfl (by kernel_rfl) (.tmp 48) (.tmp 61) 24 rfl rfl rfl hrun ?_
        refine hK.out _ _ (fun _ => HRQ.out) (fun _ => ?_)
        clear hK KK
        try simp only [Act.put, List.setIfInBounds_toArray, List.set_cons_zero, List.set_cons_succ]
        refine oneK (i := 20) (by kernel_rfl) rfl (fun KK hK => ?_)
        go_simp
        refine hK.out _ _ (fun _ => HRQ.out) (fun _ => ?_)
        clear hK KK
        try simp only [Act.put, List.setIfInBounds_toArray, List.set_cons_zero, List.set_cons_succ]
        have e0 := (World.cell?_of_block (a := ⟨g, K, none⟩) HRQ.out).trans hcell
        have f0 := HFQ.out
        refine oneK (i := 21) (by kernel_rfl) rfl (fun KK hK => ?_)
        go_simp
        refine hK.out _ _ (fun h => by have h' : true = false := h; cases h') (fun _ => ?_)
        clear hK KK
        try simp only [Act.put, List.setIfInBounds_toArray, List.set_cons_zero, List.set_cons_succ]
        refine doneK (by kernel_rfl) ?_ _
        clear e0 f0 hcell hcv hrun HR2 HR3 HRQ HFQ hw2
        go_wp2_with fail
        go_roundg (N - (i + 1))
        case measure => omega
        case rel => exact ⟨i + 1, by go_num, by omega, Nat.le_refl _, HN2⟩
      · obtain rfl : y = (K : Int) := by omega
        have hyd : decide ((K : Int) < 0) = false := decide_eq_false hyn
        obtain ⟨vs, HD⟩ := HDW.out
        have hgl : g < wr.heap.size := by obtain ⟨-, cs, h⟩ := HD.rowBlk; exact h.lt
        have hgf : wr.frozen? ⟨g, K, none⟩ = false := by obtain ⟨-, cs, h⟩ := HD.rowBlk; exact h.free K
        obtain ⟨u, hu, hcell⟩ := HD.cell hK6
        obtain ⟨l, hl⟩ : ∃ l, (lsD d i)[K]? = some l := ⟨(lsD d i)[K]'(by rw [lsD_len]; exact hK6), List.getElem?_eq_getElem _⟩
        have ho := HD.own K u l hu hl
        have hln : l.length ≤ 120 := by
          have h1 : l.length ≤ (lsD d i).flatten.length := by
            exact (List.sublist_flatten_of_mem (List.mem_of_getElem? hl)).length_le
          rw [lsD_tot d hd6] at h1; omega
        obtain ⟨au, cu, rfl, -, -⟩ := ho.kform
        obtain ⟨w2, hw2⟩ : ∃ w2, wr.drew.alloc (.cells #[.int .u8 (97 + (A : Int)), .int .u8 (97 + (C : Int))] 5) = w2 := ⟨_, rfl⟩
        have b2 : Below wr.heap.size wr w2 := by rw [← hw2]; exact ((Below.refl _ wr).drew).alloc (Nat.le_refl _) _
        have hcv : (convert 43 9 (.slice (some ⟨wr.heap.size, 0, none⟩) 2 2)).run Try.prog w2 = .ok (.string (ltr2 i)) w2 := by
          have := ltr2_conv (w := wr.drew) (W := w2) (i := i) (by omega) (by rw [hAI, hCI, hw2]; exact Below.refl _ _)
          exact this
        have o2 := ho.below b2
        obtain ⟨v', wq, hrun, oq, bq, uq, nq⟩ := run_oneK (ty := 24) (w := w2) elem_ent encEnt_len o2 (eDl d i) (enc_cells _) (by omega) (by unfold maxLen; omega) (by have := HB.out.size; have := b2.size; omega)
        rw [show (encEnt (eDl d i)).toArray = #[.string (ltr2 i), .int .i64 (d i : Int), .int .i64 0, .string ⟨#[]⟩, .string ⟨#[]⟩] from rfl, hdK] at hrun
        obtain ⟨aq, cq, rfl, -, -⟩ := oq.kform
        have HR2 : Hid (w2.heap[g]? = wr.heap[g]?) := Lib.hid (b2.block g hgl)
        have HR3 : Hid ((w2.alloc (.cells #[.string (ltr2 i), .int .i64 (K : Int), .int .i64 0, .string ⟨#[]⟩, .string ⟨#[]⟩] 28)).heap[g]? = wr.heap[g]?) := Lib.hid ((((Below.refl _ w2).alloc (Nat.le_refl _) _).block g (Nat.lt_of_lt_of_le hgl b2.size)).trans HR2.out)
        have hgu : ∀ b, (Value.slice au l.length cu).ownBlock = some b → b ≠ g := by
          rintro b hb rfl
          obtain ⟨-, cs, h⟩ := HD.rowBlk
          rcases ho.blk with ⟨e, -⟩ | ⟨g1, cap, cur, e, -, -, k4, -⟩
          · rw [e] at hb; cases hb
          · rw [e] at hb
            obtain rfl : g1 = b := Option.some.inj hb
            unfold BlkAt at h; rw [k4] at h; cases h
        have HRQ : Hid (wq.heap[g]? = wr.heap[g]?) := Lib.hid ((uq.block g (Nat.lt_of_lt_of_le hgl b2.size) fun e => hgu g e rfl).trans HR2.out)
        have HFQ : Hid (wq.frozen? ⟨g, K, none⟩ = false) := Lib.hid (by
          unfold World.frozen? at hgf ⊢; rw [HRQ.out]; exact hgf)
        have hput := (HD.below b2).put hu hl oq (bq.mono (Nat.le_refl _)) uq nq
        have hnext : lsD d (i + 1) = (lsD d i).set K (l ++ [eDl d i]) := by
          rw [lsD, hdK, List.getD_eq_getElem?_getD, hl]; rfl
        rw [← hnext] at hput
        have HN2 : Hid ((∃ vs, DealW w.heap.size (wq.setCell ⟨g, K, none⟩ (.slice aq (l ++ [eDl d i]).length cq)) g vs (lsD d (i + 1))) ∧ Below w.heap.size w (wq.setCell ⟨g, K, none⟩ (.slice aq (l ++ [eDl d i]).length cq))) := Lib.hid ⟨⟨_, hput.1⟩, (HB.out.trans (b2.mono HB.out.size)).trans hput.2⟩
        generalize (l ++ [eDl d i]).length = nq' at hrun HN2
        generalize l.length = nu at *
        clear b2 o2 oq bq uq nq hput hnext hgu HD ho hl hu hln hgf hgl HDW HB hdK hdi
        clear hd hd6
        go_wp2_with fail
        have hS0 : wr.drew.heap[g]? = wr.heap[g]? := rfl
        refine beginK (fun W => W.heap[g]? = wr.heap[g]?) 21 (by kernel_rfl) hS0 (fun hHeld => ?_)
        refine takeK (i := 0) (k := 43) (v := .slice (some ⟨g, 0, none⟩) 6 6) rfl rfl (by kernel_rfl) (by kernel_rfl) (by kernel_rfl) [0] rfl (by decide) (by kernel_rfl) (fun _ _ _ h => h) (by kernel_rfl) ?_ (by assumption) ?_
        · intro W hSw; first | (go_simp; done) | go_simp
        try simp only [Act.put, List.setIfInBounds_toArray, List.set_cons_zero, List.set_cons_succ]
        refine takeK (i := 1) (k := 44) (v := .int .i64 (K : Int)) rfl rfl (by kernel_rfl) (by kernel_rfl) (by kernel_rfl) [1] rfl (by decide) (by kernel_rfl) (fun _ _ _ h => h) (by kernel_rfl) ?_ (by assumption) ?_
        · intro W hSw; first | (go_simp; done) | go_simp
        try simp only [Act.put, List.setIfInBounds_toArray, List.set_cons_zero, List.set_cons_succ]
        refine takeK (i := 2) (k := 45) (v := .slice (some ⟨g, 0, none⟩) 6 6) rfl rfl (by kernel_rfl) (by kernel_rfl) (by kernel_rfl) [2] rfl (by decide) (by kernel_rfl) (fun _ _ _ h => h) (by kernel_rfl) ?_ (by assumption) ?_
        · intro W hSw; first | (go_simp; done) | go_simp
        try simp only [Act.put, List.setIfInBounds_toArray, List.set_cons_zero, List.set_cons_succ]
        refine takeK (i := 3) (k := 46) (v := .int .i64 (K : Int)) rfl rfl (by kernel_rfl) (by kernel_rfl) (by kernel_rfl) [3] rfl (by decide) (by kernel_rfl) (fun _ _ _ h => h) (by kernel_rfl) ?_ (by assumption) ?_
        · intro W hSw; first | (go_simp; done) | go_simp
        try simp only [Act.put, List.setIfInBounds_toArray, List.set_cons_zero, List.set_cons_succ]
        refine takeK (i := 4) (k := 47) (v := .pointer (some ⟨g, K, none⟩)) rfl rfl (by kernel_rfl) (by kernel_rfl) (by kernel_rfl) [4] rfl (by decide) (by kernel_rfl) (fun _ _ _ h => h) (by kernel_rfl) ?_ (by assumption) ?_
        · intro W hSw; first | (go_simp; done) | go_simp
        try simp only [Act.put, List.setIfInBounds_toArray, List.set_cons_zero, List.set_cons_succ]
        refine takeK (i := 5) (k := 48) (v := .slice au nu cu) rfl rfl (by kernel_rfl) (by kernel_rfl) (by kernel_rfl) [5] rfl (by decide) (by kernel_rfl) (fun _ _ _ h => h) (by kernel_rfl) ?_ (by assumption) ?_
        · intro W hSw; have d0 := (World.cell?_of_block (a := ⟨g, K, none⟩) hSw).trans hcell; first | (go_simp; done) | go_simp
        try simp only [Act.put, List.setIfInBounds_toArray, List.set_cons_zero, List.set_cons_succ]
        refine takeK (i := 6) (k := 49) (v := .int .i64 (i : Int)) rfl rfl (by kernel_rfl) (by kernel_rfl) (by kernel_rfl) [6] rfl (by decide) (by kernel_rfl) (fun _ _ _ h => h) (by kernel_rfl) ?_ (by assumption) ?_
        · intro W hSw; first | (go_simp; done) | go_simp
        try simp only [Act.put, List.setIfInBounds_toArray, List.set_cons_zero, List.set_cons_succ]
        refine takeK (i := 7) (k := 50) (v := .int .i64 (A : Int)) rfl rfl (by kernel_rfl) (by kernel_rfl) (by kernel_rfl) [7] rfl (by decide) (by kernel_rfl) (fun _ _ _ h => h) (by kernel_rfl) ?_ (by assumption) ?_
        · intro W hSw; first | (go_simp; done) | go_simp
        try simp only [Act.put, List.setIfInBounds_toArray, List.set_cons_zero, List.set_cons_succ]
        refine takeK (i := 8) (k := 51) (v := .int .i64 (97 + (A : Int))) rfl rfl (by kernel_rfl) (by kernel_rfl) (by kernel_rfl) [8] rfl (by decide) (by kernel_rfl) (fun _ _ _ h => h) (by kernel_rfl) ?_ (by assumption) ?_
        · intro W hSw; first | (go_simp; done) | go_simp
        try simp only [Act.put, List.setIfInBounds_toArray, List.set_cons_zero, List.set_cons_succ]
        refine takeK (i := 9) (k := 52) (v := .int .u8 (97 + (A : Int))) rfl rfl (by kernel_rfl) (by kernel_rfl) (by kernel_rfl) [9] rfl (by decide) (by kernel_rfl) (fun _ _ _ h => h) (by kernel_rfl) ?_ (by assumption) ?_
        · intro W hSw; first | (go_simp; done) | go_simp
        try simp only [Act.put, List.setIfInBounds_toArray, List.set_cons_zero, List.set_cons_succ]
        refine takeK (i := 10) (k := 53) (v := .int .i64 (i : Int)) rfl rfl (by kernel_rfl) (by kernel_rfl) (by kernel_rfl) [10] rfl (by decide) (by kernel_rfl) (fun _ _ _ h => h) (by kernel_rfl) ?_ (by assumption) ?_
        · intro W hSw; first | (go_simp; done) | go_simp
        try simp only [Act.put, List.setIfInBounds_toArray, List.set_cons_zero, List.set_cons_succ]
        refine takeK (i := 11) (k := 54) (v := .int .i64 (C : Int)) rfl rfl (by kernel_rfl) (by kernel_rfl) (by kernel_rfl) [11] rfl (by decide) (by kernel_rfl) (fun _ _ _ h => h) (by kernel_rfl) ?_ (by assumption) ?_
        · intro W hSw; first | (go_simp; done) | go_simp
        try simp only [Act.put, List.setIfInBounds_toArray, List.set_cons_zero, List.set_cons_succ]
        refine takeK (i := 12) (k := 55) (v := .int .i64 (97 + (C : Int))) rfl rfl (by kernel_rfl) (by kernel_rfl) (by kernel_rfl) [12] rfl (by decide) (by kernel_rfl) (fun _ _ _ h => h) (by kernel_rfl) ?_ (by assumption) ?_
        · intro W hSw; first | (go_simp; done) | go_simp
        try simp only [Act.put, List.setIfInBounds_toArray, List.set_cons_zero, List.set_cons_succ]
        refine takeK (i := 13) (k := 56) (v := .int .u8 (97 + (C : Int))) rfl rfl (by kernel_rfl) (by kernel_rfl) (by kernel_rfl) [13] rfl (by decide) (by kernel_rfl) (fun _ _ _ h => h) (by kernel_rfl) ?_ (by assumption) ?_
        · intro W hSw; first | (go_simp; done) | go_simp
        try simp only [Act.put, List.setIfInBounds_toArray, List.set_cons_zero, List.set_cons_succ]
        refine takeK (i := 16) (k := 59) (v := .int .i64 (K : Int)) rfl rfl (by kernel_rfl) (by kernel_rfl) (by kernel_rfl) [16] rfl (by decide) (by kernel_rfl) (fun _ _ _ h => h) (by kernel_rfl) ?_ (by assumption) ?_
        · intro W hSw; first | (go_simp; done) | go_simp
        try simp only [Act.put, List.setIfInBounds_toArray, List.set_cons_zero, List.set_cons_succ]
        clear hHeld hS0
        refine oneK (i := 14) (by kernel_rfl) rfl (fun KK hK => ?_)
        refine one_bs 57 rfl (by kernel_rfl) _ _ _ #[(0, .int .u8 (97 + (A : Int))), (1, .int .u8 (97 + (C : Int)))] rfl (by kernel_rfl) (byt_bs (97 + (A : Int)) (97 + (C : Int)) _) ?_
        rw [hw2]
        refine hK.out _ _ (fun _ => HR2.out) (fun _ => ?_)
        clear hK KK
        try simp only [Act.put, List.setIfInBounds_toArray, List.set_cons_zero, List.set_cons_succ]
        refine oneK (i := 15) (by kernel_rfl) rfl (fun KK hK => ?_)
        go_simp
        refine hK.out _ _ (fun _ => HR2.out) (fun _ => ?_)
        clear hK KK
        try simp only [Act.put, List.setIfInBounds_toArray, List.set_cons_zero, List.set_cons_succ]
        refine oneK (i := 17) (by kernel_rfl) rfl (fun KK hK => ?_)
        refine one_bd 60 rfl (by kernel_rfl) _ _ #[(0, .string (ltr2 i)), (1, .int .i64 (K : Int))] rfl (by kernel_rfl) (ent_bd2 (ltr2 i) (K : Int) _) ?_
        refine hK.out _ _ (fun _ => HR2.out) (fun _ => ?_)
        clear hK KK
        try simp only [Act.put, List.setIfInBounds_toArray, List.set_cons_zero, List.set_cons_succ]
        refine oneK (i := 18) (by kernel_rfl) rfl (fun KK hK => ?_)
        refine one_bs 61 rfl (by kernel_rfl) _ _ _ #[(0, .agg #[.string (ltr2 i), .int .i64 (K : Int), .int .i64 0, .string ⟨#[]⟩, .string ⟨#[]⟩])] rfl (by kernel_rfl) (ent_bs (ltr2 i) ⟨#[]⟩ ⟨#[]⟩ (K : Int) 0 _) ?_
        refine hK.out _ _ (fun _ => HR3.out) (fun _ => ?_)
        clear hK KK
        try simp only [Act.put, List.setIfInBounds_toArray, List.set_cons_zero, List.set_cons_succ]
        refine oneK (i := 19) (by kernel_rfl) rfl (fun KK hK => ?_)
        refine step_appD 62 rfl (by kernel_rfl) (.tmp 48) (.tmp 61) 24 rfl rfl rfl hrun ?_
        refine hK.out _ _ (fun _ => HRQ.out) (fun _ => ?_)
        clear hK KK
        try simp only [Act.put, List.setIfInBounds_toArray, List.set_cons_zero, List.set_cons_succ]
        refine oneK (i := 20) (by kernel_rfl) rfl (fun KK hK => ?_)
        go_simp
        refine hK.out _ _ (fun _ => HRQ.out) (fun _ => ?_)
        clear hK KK
        try simp only [Act.put, List.setIfInBounds_toArray, List.set_cons_zero, List.set_cons_succ]
        have e0 := (World.cell?_of_block (a := ⟨g, K, none⟩) HRQ.out).trans hcell
        have f0 := HFQ.out
        refine oneK (i := 21) (by kernel_rfl) rfl (fun KK hK => ?_)
        go_simp
        refine hK.out _ _ (fun h => by have h' : true = false := h; cases h') (fun _ => ?_)
        clear hK KK
        try simp only [Act.put, List.setIfInBounds_toArray, List.set_cons_zero, List.set_cons_succ]
        refine doneK (by kernel_rfl) ?_ _
        clear e0 f0 hcell hcv hrun HR2 HR3 HRQ HFQ hw2
        go_wp2_with fail
        go_roundg (N - (i + 1))
        case measure => omega
        case rel => exact ⟨i + 1, by go_num, by omega, Nat.le_refl _, HN2⟩
    · obtain rfl : i = N := by omega
      have hnI : ¬ (i : Int) < (i : Int) := by omega
      have hid : decide ((i : Int) < (i : Int)) = false := decide_eq_false hnI
      obtain ⟨vs, HD⟩ := HDW.out
      have HA := Lib.hid (mgAll_any (lsD d i) _ HD.rd (fun l hl => (lsD_srt d i (by omega) l hl).1) (by rw [lsD_len]; omega) (by rw [lsD_tot d hd6]; omega))
      have HMR := Lib.hid (mrg_dealt d hd6 i (by omega))
      clear HD HDW
      go_wp2_with fail
      refine HA.out.mono ?_
      rintro e w6 ⟨⟨vA, rfl, hA⟩, hb6⟩
      rw [HMR.out] at hA
      obtain ⟨aA, cA, rfl, -, -⟩ := hA.kform
      rw [allD_len] at hA ⊢
      have HO6 := Lib.hid (hA.base (B' := 0) (Nat.zero_le _))
      have HB6 : Hid (Below w.heap.size w w6) := Lib.hid (HB.out.trans (hb6.mono HB.out.size))
      clear hA hb6 HA HB HMR hd hd6
      clear hkk hiN hid hnI hi hi0
      obtain ⟨N, rfl⟩ : ∃ N, N = i := ⟨_, rfl⟩
      have hne : ((N : Int) != (N : Int)) = false := by simp
      go_wp2_with fail
      go_loopg [10] N (fun kk vi wr => ∃ i : Nat, vi = .int .i64 i ∧ i ≤ N ∧ N - i ≤ kk ∧ Hid (OwnK encEnt 5 28 0 wr (.slice aA N cA) (allD d N) ∧ Below w.heap.size w wr))
      case atStart => exact ⟨0, rfl, by omega, by omega, Lib.hid ⟨HO6.out, HB6.out⟩⟩
      case round =>
        obtain ⟨i, rfl, hi, hkk, HN⟩ := hrel
        have hi0 : (0 : Int) ≤ (i : Int) := by omega
        clear HO6 HB6
        by_cases hiN : i < N
        · have hiI : (i : Int) < (N : Int) := by omega
          have hid : decide ((i : Int) < (N : Int)) = true := decide_eq_true hiI
          obtain ⟨HO, HB⟩ := HN.out
          obtain ⟨ga, rfl⟩ : ∃ ga, aA = some ⟨ga, 0, none⟩ := by
            rcases HO.blk with ⟨e, e2⟩ | ⟨ga, ca, cur, e, -⟩
            · have := congrArg List.length e2; rw [allD_len] at this; simp at this; omega
            · simp only [Value.slice.injEq] at e; exact ⟨ga, e.1⟩
          obtain ⟨A, hA⟩ : ∃ A, i / 26 = A := ⟨_, rfl⟩
          obtain ⟨C, hC⟩ : ∃ C, i % 26 = C := ⟨_, rfl⟩
          have hA9 : (A : Int) ≤ 5 := by omega
          have hC9 : (C : Int) < 26 := by omega
          have hAI : (i : Int) / 26 = (A : Int) := by omega
          have hCI : (i : Int) % 26 = (C : Int) := by omega
          have hAT : (i : Int).tdiv 26 = (A : Int) := by rw [Int.tdiv_eq_ediv_of_nonneg hi0]; exact hAI
          have hCT : (i : Int).tmod 26 = (C : Int) := by rw [Int.tmod_eq_emod_of_nonneg hi0]; exact hCI
          have hAw : IntKind.i64.wrap (A : Int) = (A : Int) := IntWalk.i64_in _ (by omega)
          have hAw2 : IntKind.i64.wrap (97 + (A : Int)) = 97 + (A : Int) := IntWalk.i64_in _ (by omega)
          have hAw3 : IntKind.u8.wrap (97 + (A : Int)) = 97 + (A : Int) := IntWalk.u8_in _ (by omega)
          have hCw2 : IntKind.i64.wrap (97 + (C : Int)) = 97 + (C : Int) := IntWalk.i64_in _ (by omega)
          have hCw3 : IntKind.u8.wrap (97 + (C : Int)) = 97 + (C : Int) := IntWalk.u8_in _ (by omega)
          clear HN hA hC
          go_wp2_with fail
          refine wp_region_held_drew (S := Below wr.heap.size wr) (by kernel_rfl) (Below.refl _ _).drew (fun hHeld => ?_)
          generalize wr.drew = wd2 at hHeld ⊢
          refine wpAnyH_shift hHeld ?_
          replace HB : Below w.heap.size w wd2 := HB.trans (hHeld.mono HB.size)
          replace HO := HO.below hHeld
          clear hHeld
          refine takeYes (i := 0) (k := 75) (v := .slice (some ⟨ga, 0, none⟩) N cA) rfl (by kernel_rfl) (by kernel_rfl) (by kernel_rfl) (by kernel_rfl) (fun _ _ _ h => h) (by kernel_rfl) ?_ (Below.refl _ _) ?_
          · intro W hSw; first | (go_simp; done) | go_simp
          try simp only [Act.put, List.setIfInBounds_toArray, List.set_cons_zero, List.set_cons_succ]
          refine takeYes (i := 1) (k := 76) (v := .int .i64 (i : Int)) rfl (by kernel_rfl) (by kernel_rfl) (by kernel_rfl) (by kernel_rfl) (fun _ _ _ h => h) (by kernel_rfl) ?_ (Below.refl _ _) ?_
          · intro W hSw; first | (go_simp; done) | go_simp
          try simp only [Act.put, List.setIfInBounds_toArray, List.set_cons_zero, List.set_cons_succ]
          refine takeYes (i := 2) (k := 77) (v := .pointer (some ⟨ga, i * 5, none⟩)) rfl (by kernel_rfl) (by kernel_rfl) (by kernel_rfl) (by kernel_rfl) (fun _ _ _ h => h) (by kernel_rfl) ?_ (Below.refl _ _) ?_
          · intro W hSw; first | (go_simp; done) | go_simp
          try simp only [Act.put, List.setIfInBounds_toArray, List.set_cons_zero, List.set_cons_succ]
          refine takeYes (i := 3) (k := 78) (v := .pointer (some ⟨ga, i * 5, none⟩)) rfl (by kernel_rfl) (by kernel_rfl) (by kernel_rfl) (by kernel_rfl) (fun _ _ _ h => h) (by kernel_rfl) ?_ (Below.refl _ _) ?_
          · intro W hSw; first | (go_simp; done) | go_simp
          try simp only [Act.put, List.setIfInBounds_toArray, List.set_cons_zero, List.set_cons_succ]
          refine takeYes (i := 4) (k := 79) (v := .string (ltr2 i)) rfl (by kernel_rfl) (by kernel_rfl) (by kernel_rfl) (by kernel_rfl) (fun _ _ _ h => h) (by kernel_rfl) ?_ (Below.refl _ _) ?_
          · intro W hSw; have d0 : W.cell? ⟨ga, i * 5, none⟩ = some (.string (ltr2 i)) := (HO.below hSw).cell encEnt_len i 0 (eDl d i) (allD_at d hiN) (by omega); first | (go_simp; done) | go_simp
          try simp only [Act.put, List.setIfInBounds_toArray, List.set_cons_zero, List.set_cons_succ]
          refine takeYes (i := 5) (k := 80) (v := .int .i64 (i : Int)) rfl (by kernel_rfl) (by kernel_rfl) (by kernel_rfl) (by kernel_rfl) (fun _ _ _ h => h) (by kernel_rfl) ?_ (Below.refl _ _) ?_
          · intro W hSw; first | (go_simp; done) | go_simp
          try simp only [Act.put, List.setIfInBounds_toArray, List.set_cons_zero, List.set_cons_succ]
          refine takeYes (i := 6) (k := 81) (v := .int .i64 (A : Int)) rfl (by kernel_rfl) (by kernel_rfl) (by kernel_rfl) (by kernel_rfl) (fun _ _ _ h => h) (by kernel_rfl) ?_ (Below.refl _ _) ?_
          · intro W hSw; first | (go_simp; done) | go_simp
          try simp only [Act.put, List.setIfInBounds_toArray, List.set_cons_zero, List.set_cons_succ]
          refine takeYes (i := 7) (k := 82) (v := .int .i64 (97 + (A : Int))) rfl (by kernel_rfl) (by kernel_rfl) (by kernel_rfl) (by kernel_rfl) (fun _ _ _ h => h) (by kernel_rfl) ?_ (Below.refl _ _) ?_
          · intro W hSw; first | (go_simp; done) | go_simp
          try simp only [Act.put, List.setIfInBounds_toArray, List.set_cons_zero, List.set_cons_succ]
          refine takeYes (i := 8) (k := 83) (v := .int .u8 (97 + (A : Int))) rfl (by kernel_rfl) (by kernel_rfl) (by kernel_rfl) (by kernel_rfl) (fun _ _ _ h => h) (by kernel_rfl) ?_ (Below.refl _ _) ?_
          · intro W hSw; first | (go_simp; done) | go_simp
          try simp only [Act.put, List.setIfInBounds_toArray, List.set_cons_zero, List.set_cons_succ]
          refine takeYes (i := 9) (k := 84) (v := .int .i64 (i : Int)) rfl (by kernel_rfl) (by kernel_rfl) (by kernel_rfl) (by kernel_rfl) (fun _ _ _ h => h) (by kernel_rfl) ?_ (Below.refl _ _) ?_
          · intro W hSw; first | (go_simp; done) | go_simp
          try simp only [Act.put, List.setIfInBounds_toArray, List.set_cons_zero, List.set_cons_succ]
          refine takeYes (i := 10) (k := 85) (v := .int .i64 (C : Int)) rfl (by kernel_rfl) (by kernel_rfl) (by kernel_rfl) (by kernel_rfl) (fun _ _ _ h => h) (by kernel_rfl) ?_ (Below.refl _ _) ?_
          · intro W hSw; first | (go_simp; done) | go_simp
          try simp only [Act.put, List.setIfInBounds_toArray, List.set_cons_zero, List.set_cons_succ]
          refine takeYes (i := 11) (k := 86) (v := .int .i64 (97 + (C : Int))) rfl (by kernel_rfl) (by kernel_rfl) (by kernel_rfl) (by kernel_rfl) (fun _ _ _ h => h) (by kernel_rfl) ?_ (Below.refl _ _) ?_
          · intro W hSw; first | (go_simp; done) | go_simp
          try simp only [Act.put, List.setIfInBounds_toArray, List.set_cons_zero, List.set_cons_succ]
          refine takeYes (i := 12) (k := 87) (v := .int .u8 (97 + (C : Int))) rfl (by kernel_rfl) (by kernel_rfl) (by kernel_rfl) (by kernel_rfl) (fun _ _ _ h => h) (by kernel_rfl) ?_ (Below.refl _ _) ?_
          · intro W hSw; first | (go_simp; done) | go_simp
          try simp only [Act.put, List.setIfInBounds_toArray, List.set_cons_zero, List.set_cons_succ]
          refine wpAnyH_ready (rs := [13]) (by kernel_rfl) (by simp) (AllReadyH.cons rfl (fun K hK => ?_) AllReadyH.nil)
          refine one_bs 88 rfl (by kernel_rfl) _ _ _ #[(0, .int .u8 (97 + (A : Int))), (1, .int .u8 (97 + (C : Int)))] rfl (by kernel_rfl) (byt_bs (97 + (A : Int)) (97 + (C : Int)) _) ?_
          obtain ⟨wd3, hwx⟩ : ∃ x, wd2.alloc (.cells #[.int .u8 (97 + (A : Int)), .int .u8 (97 + (C : Int))] 5) = x := ⟨_, rfl⟩
          have hb3 : Below wd2.heap.size wd2 wd3 := by rw [← hwx]; exact (Below.refl _ _).alloc (Nat.le_refl _) _
          have HCV : Hid (∀ W, Below wd3.heap.size wd3 W → (convert 43 9 (.slice (some ⟨wd2.heap.size, 0, none⟩) 2 2)).run Try.prog W = .ok (.string (ltr2 i)) W) := Lib.hid fun W hW => ltr2_conv (by omega) (by rw [hAI, hCI, hwx]; exact hW)
          rw [hwx]
          clear hwx
          refine hK.out _ _ hb3 (fun _ => wpAnyH_shift hb3 ?_)
          clear hK K
          replace HB : Below w.heap.size w wd3 := HB.trans (hb3.mono HB.size)
          replace HO := HO.below hb3
          clear hb3
          try simp only [Act.put, List.setIfInBounds_toArray, List.set_cons_zero, List.set_cons_succ]
          refine takeYes (i := 14) (k := 89) (v := .string (ltr2 i)) rfl (by kernel_rfl) (by kernel_rfl) (by kernel_rfl) (by kernel_rfl) (fun _ _ _ h => h) (by kernel_rfl) ?_ (Below.refl _ _) ?_
          · intro W hSw; have hcv := HCV.out W hSw; first | (go_simp; done) | go_simp
          try simp only [Act.put, List.setIfInBounds_toArray, List.set_cons_zero, List.set_cons_succ]
          refine takeYes (i := 15) (k := 90) (v := .bool false) rfl (by kernel_rfl) (by kernel_rfl) (by kernel_rfl) (by kernel_rfl) (fun _ _ _ h => h) (by kernel_rfl) ?_ (Below.refl _ _) ?_
          · intro W hSw; first | (go_simp; done) | go_simp
          try simp only [Act.put, List.setIfInBounds_toArray, List.set_cons_zero, List.set_cons_succ]
          refine wpAnyH_done (by kernel_rfl) ?_ _
          have HN2 := Lib.hid (And.intro HO HB)
          clear HO HB
          go_wp2_with fail
          go_roundg (N - (i + 1))
          case measure => omega
          case rel => exact ⟨i + 1, by go_num, by omega, Nat.le_refl _, HN2⟩
        · obtain rfl : i = N := by omega
          have hnI : ¬ (i : Int) < (i : Int) := by omega
          have hid : decide ((i : Int) < (i : Int)) = false := decide_eq_false hnI
          have HB := Lib.hid HN.out.2
          clear HN
          go_wp2_with fail
          go_ret
          exact ⟨rfl, HB.out⟩
end Go.Proofs.Ytmndhmodcglkjaa
