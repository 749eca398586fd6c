/- The laws' Laid: records laid one behind the other by the reference. -/
import Derived.Test.YtdnohjhknhekhaaDoorRecRef
import Derived.Test.YtdnohjhknhekhaaDoorRecsP
import Derived.Test.YtdnohjhknhekhaaDoorByMake
import Derived.Test.YtdnohjhknhekhaaDoorByStore
namespace Go.Proofs.YtdnohjhknhekhaaDoor
set_option linter.unusedVariables false
open Go.RowKit
theorem tmod700 (z : Int) : -700 < z.tmod 700 ∧ z.tmod 700 < 700 := by
  rcases Int.le_total 0 z with h | h
  · rw [Int.tmod_eq_emod_of_nonneg h]; omega
  · have e : z.tmod 700 = -((-z).tmod 700) := by rw [Int.neg_tmod, Int.neg_neg]
    rw [e, Int.tmod_eq_emod_of_nonneg (by omega)]; omega
theorem all_len700 : ∀ (rs : List (List UInt8)) (a : Nat), (∀ r ∈ rs, r.length < 700) → (layAll smN a rs).length ≤ 5620 * rs.length
  | [], _, _ => by simp [layAll]
  | b :: rs, a, h => by
    have h1 := layB_len smN smN_len a b
    have h2 := all_len700 rs (a + (layB smN a b).length) fun r hr => h r (List.mem_cons_of_mem _ hr)
    have h3 := h b (List.mem_cons_self ..)
    rw [layAll, List.length_append, List.length_cons]; omega
/-- what Laid tells: some records, and their log -/
def LaidRes (N : Nat) (w : World) (e : Ending) (w' : World) : Prop :=
  ∃ (vl vr : Value) (rs : List (List UInt8)), e = .returned (.tuple #[vl, vr]) ∧ OwnB w.heap.size w' vl (layAll smN 0 rs) ∧ RecsAt w.heap.size w' vr rs ∧ rs.length ≤ N ∧ (∀ r ∈ rs, r.length < 700) ∧ Below w.heap.size w w'
def LaSt (w : World) (j : Nat) (vl vr : Value) (wr : World) : Prop :=
  ∃ (rs : List (List UInt8)), OwnB w.heap.size wr vl (layAll smN 0 rs) ∧ RecsP vl w.heap.size wr vr rs ∧ rs.length = j ∧ (∀ r ∈ rs, r.length < 700) ∧ Below w.heap.size w wr
set_option maxHeartbeats 8000000 in
set_option maxRecDepth 100000 in
theorem laid_any (N : Nat) (hN : N ≤ 10) (la : Option Addr) (len cap : Nat) (zs : List Int) (fa : Option Addr) (fl fc : Nat) (fs : List UInt8) (hf : fs.length ≤ 1000) (w : World) (hz : RdV w (.slice la len cap) (zs.map (Value.int .i64))) (hw : ∀ n ∈ zs, (Lit.int .i64 n).wf = true) (hrd : RdB w (.slice fa fl fc) fs) :
    Calls Tryd.prog 8 #[.slice la len cap, .slice fa fl fc, .int .i64 (N : Int)] w (LaidRes N w) := by
  have hlen : len = zs.length := by have := (rdV_len hz).1; rwa [List.length_map] at this
  have hm1 : len ≤ 9223372036854775807 := by
    rcases Nat.eq_zero_or_pos len with h | h
    · omega
    · rcases hz with ⟨_, _, e, _⟩ | ⟨_, _, _, e, _, h2, h3, _⟩
      · simp only [Value.slice.injEq] at e; omega
      · simp only [Value.slice.injEq] at e; unfold maxLen at h3; omega
  have hfl : fl = fs.length := by have := (rdV_len hrd).1; rwa [List.length_map] at this
  have HCZ : Hid (∀ i, i < len → ∃ g off, la = some ⟨g, off, none⟩ ∧ g < w.heap.size ∧ ∃ z, w.cell? ⟨g, off + i, none⟩ = some (.int .i64 z) ∧ -9223372036854775808 ≤ z ∧ z ≤ 9223372036854775807) := Lib.hid fun i hi => by
    obtain ⟨g, off, e1, e2, e3⟩ := rdV_cells hz (by rw [List.length_map]; omega)
    refine ⟨g, off, e1, e2, zs.getD i 0, ?_, ?_⟩
    · rw [e3 i (by rw [List.length_map]; omega), List.getD_eq_getElem?_getD, List.getD_eq_getElem?_getD, List.getElem?_map, List.getElem?_eq_getElem (by omega)]; rfl
    · have hmem : zs.getD i 0 ∈ zs := by rw [List.getD_eq_getElem?_getD, List.getElem?_eq_getElem (by omega)]; exact List.getElem_mem _
      have := hw _ hmem
      generalize zs.getD i 0 = z at this ⊢
      simp [Lit.wf, IntKind.min, IntKind.max, IntKind.bits, IntKind.signed] at this
      omega
  have HFR : Hid (RdB w (.slice fa fl fc) fs) := Lib.hid hrd
  have HFL : Hid (fl = fs.length) := Lib.hid hfl
  have hfl2 : fl ≤ 1000 := by omega
  have HS0 : Hid (LaSt w 0 (.slice none 0 0) (.slice none 0 0) w) := Lib.hid ⟨[], OwnB.nil _ _, RecsP.nil _ _ _, rfl, fun r h => by simp at h, Below.refl _ _⟩
  clear hz hw hlen hrd hf hfl
  go_enter Tryd.func8, Tryd.ntmps8
  go_wp2_with fail
  go_loopg [8, 9, 10] N (fun kk vl vr vi wr => ∃ (j : Nat), vi = .int .i64 (j : Int) ∧ j ≤ N ∧ N - j ≤ kk ∧ Hid (LaSt w j vl vr wr))
  case atStart => exact ⟨0, rfl, Nat.zero_le _, by omega, HS0⟩
  case round =>
    clear HS0
    obtain ⟨j, rfl, hj, hjk, HS⟩ := hrel
    by_cases hlt : j < len ∧ j < N
    · obtain ⟨h1, h2⟩ := hlt
      have hz1 : (j : Int) < (len : Int) := by omega
      have hz2 : (j : Int) < (N : Int) := by omega
      obtain ⟨g, off, rfl, hg, z, hcell, hz3, hz4⟩ := HCZ.out j h1
      have hb := (HS.out.choose_spec.2.2.2.2)
      have hc : wr.cell? ⟨g, off + j, none⟩ = some (.int .i64 z) := (hb.cell hg).trans hcell
      have hwr := hb.size
      have HB := Lib.hid hb
      clear hb hcell
      go_upto_if 31 with fail
      obtain ⟨t1, t2⟩ := tmod700 z
      generalize z.tmod 700 = t at t1 t2 ⊢
      go_cut [11] (fun vk wx => ∃ K : Nat, vk = .int .i64 (K : Int) ∧ K < 700 ∧ Hid (LaSt w j u8 u9 wx ∧ Below w.heap.size w wx))
      case first =>
        have HX := Lib.hid (And.intro HS.out HB.out)
        clear HS HB HCZ HFR HFL
        by_cases h0 : t < 0
        · obtain ⟨K, hK⟩ : ∃ K : Nat, -t = (K : Int) := ⟨(-t).toNat, by omega⟩
          go_wp2_with fail
          go_meet
          exact ⟨K, by rw [← hK], by omega, HX⟩
        · obtain ⟨K, rfl⟩ : ∃ K : Nat, t = (K : Int) := ⟨t.toNat, by omega⟩
          go_wp2_with fail
          go_meet
          exact ⟨K, rfl, by omega, HX⟩
      case rest =>
      clear HS HB hwr hc
      obtain ⟨K, rfl, hK, HSB⟩ := hcut
      have hwr := HSB.out.2.size
      have hmk := mkB_run K (by omega)
      have HROW := Lib.hid (mkB_own wc K (by omega))
      have HAL : Hid (Below wc.heap.size wc (wc.alloc (.cells (madeCells #[.int .u8 0] K) 5))) := Lib.hid ((Below.refl _ wc).alloc (Nat.le_refl _) _)
      go_upto_region 10 with fail
      clear hmk hz1 hz2 hz3 hz4 t1 t2
      generalize wc.alloc (.cells (madeCells #[.int .u8 0] K) 5) = w2 at HROW HAL ⊢
      obtain ⟨g2, hg2⟩ : ∃ g2, wc.heap.size = g2 := ⟨_, rfl⟩
      have HG := Lib.hid hg2
      rw [hg2] at HROW HAL
      simp only [hg2]
      have HS2 : Hid (∃ bs : List UInt8, bs.length = K ∧ OwnB g2 w2 (.slice (some ⟨g2, 0, none⟩) K K) bs ∧ Below g2 wc w2) := Lib.hid ⟨_, List.length_replicate, HROW.out, HAL.out⟩
      clear HROW HAL
      go_upto_block 2 with fail
      go_cut [] (fun wx => Hid (∃ bs : List UInt8, bs.length = K ∧ OwnB g2 wx (.slice (some ⟨g2, 0, none⟩) K K) bs ∧ Below g2 wc wx))
      case first =>
        have HBR : Hid (∀ wx, Below g2 wc wx → RdB wx (.slice fa fl fc) fs) := Lib.hid fun wx hx => HFR.out.below (HSB.out.2.trans (hx.mono (by rw [← hg2]; exact hwr)))
        clear HSB HCZ HFR
        go_wp2_with fail
        go_loopg [13] K (fun kk vt wx => ∃ (t : Nat), vt = .int .i64 (t : Int) ∧ t ≤ K ∧ K - t ≤ kk ∧ Hid (∃ bs : List UInt8, bs.length = K ∧ OwnB g2 wx (.slice (some ⟨g2, 0, none⟩) K K) bs ∧ Below g2 wc wx))
        case atStart => exact ⟨0, rfl, Nat.zero_le _, by omega, HS2⟩
        case round =>
          clear HS2
          obtain ⟨t, rfl, ht, htk, HI⟩ := hrel
          by_cases htK : t < K
          · have hz1 : (t : Int) < (K : Int) := by omega
            by_cases hf0 : 0 < fl
            · have hz2 : (0 : Int) < (fl : Int) := by omega
              obtain ⟨bs, hbs, hown, hbel⟩ := HI.out
              obtain ⟨q, hq⟩ : ∃ q, (j + t) % fl = q := ⟨_, rfl⟩
              have hqi : ((j : Int) + (t : Int)) % (fl : Int) = (q : Int) := by rw [← hq]; rfl
              have hqt : ((j : Int) + (t : Int)).tmod (fl : Int) = (q : Int) := by rw [Int.tmod_eq_emod_of_nonneg (by omega), hqi]
              have hql : q < fl := by rw [← hq]; exact Nat.mod_lt _ hf0
              obtain ⟨x, hx⟩ : ∃ x, fs[q]? = some x := ⟨_, List.getElem?_eq_getElem (by have := HFL.out; omega)⟩
              obtain ⟨gf, of, rfl, hgf, hcf⟩ := (HBR.out _ hbel).at q x hx
              obtain ⟨go, cap2, e, hgo, hgl, hcl, hcm, hcell⟩ := hown.place t (by omega)
              simp only [Value.slice.injEq, Option.some.injEq, Addr.mk.injEq, and_true] at e
              obtain ⟨rfl, -, -⟩ := e
              obtain ⟨hcell, hfr⟩ := hcell
              have HIN : Hid (∃ bs : List UInt8, bs.length = K ∧ OwnB g2 (wr.setCell ⟨g2, t, none⟩ (.int .u8 (x.toNat : Int))) (.slice (some ⟨g2, 0, none⟩) K K) bs ∧ Below g2 wc (wr.setCell ⟨g2, t, none⟩ (.int .u8 (x.toNat : Int)))) := Lib.hid
                ⟨bs.set t x, by rw [List.length_set]; exact hbs, hown.set t x, hbel.setCell (p := ⟨g2, t, none⟩) (Nat.le_refl _) _⟩
              clear hown hbel hbs hcl hcm hgo HI hq hx
              go_wp2_with fail
              go_roundg (K - (t + 1))
              case measure => omega
              case rel => exact ⟨t + 1, by go_num, htK, Nat.le_refl _, HIN⟩
            · obtain rfl : fl = 0 := by omega
              have hz2 : ¬ (0 : Int) < (0 : Int) := by omega
              go_wp2_with fail
              go_meet
              exact HI
          · have hz1 : ¬ (t : Int) < (K : Int) := by omega
            go_wp2_with fail
            go_meet
            exact HI
      case rest =>
      have hb2 : (∃ bs : List UInt8, bs.length = K ∧ OwnB g2 wc (.slice (some ⟨g2, 0, none⟩) K K) bs ∧ Below w.heap.size w wc ∧ LaSt w j u8 u9 wc ∧ g2 < wc.heap.size ∧ (∀ x, u8.ownBlock = some x → x < g2) ∧ w.heap.size ≤ g2) := by
        obtain ⟨bs, hbs, hown, hbel⟩ := hcut.out
        obtain ⟨⟨rs, o8, r9, hrl, hr7, hB⟩, hB2⟩ := HSB.out
        have hw8 := fun x hx => (o8.where x hx).2
        have hgw := hwr
        rw [hg2] at hw8 hgw
        rw [← hg2] at hbel
        have hB3 := hB.trans (hbel.mono hB.size)
        exact ⟨bs, hbs, hown, hB3, ⟨rs, o8.below hbel, r9.below hbel, hrl, hr7, hB3⟩, (hown.where g2 rfl).2, hw8, hgw⟩
      have HH := Lib.hid hb2
      clear hb2 hcut HSB hwr HS2 HG hg2
      obtain ⟨bs, hbs, hown, hB, ⟨rs, o8, r9, hrl, hr7, -⟩, hg2, hw8, hgw⟩ := HH.out
      have hrl10 : rs.length ≤ 9 := by omega
      have hLl := all_len700 rs 0 hr7
      have hsn := layAll_snoc smN rs 0 bs
      rw [Nat.zero_add] at hsn
      have hr7' : ∀ r ∈ rs ++ [bs], r.length < 700 := fun r hr => by
        rcases List.mem_append.1 hr with h | h
        · exact hr7 r h
        · rw [List.mem_singleton.1 h, hbs]; exact hK
      have HR := Lib.hid (And.intro hrl hr7')
      obtain ⟨av, lv, cv, rfl, hlv, -⟩ := o8.form
      have hRA := rappend_any lv (by omega) (.slice (some ⟨g2, 0, none⟩) K K) bs (by omega) wc hown.rd
      rw [← hlv] at hsn
      have hlb := layB_len smN smN_len lv bs
      obtain ⟨AL, hAL⟩ : ∃ AL, layAll smN 0 rs = AL := ⟨_, rfl⟩
      obtain ⟨LB, hLB⟩ : ∃ LB, layB smN lv bs = LB := ⟨_, rfl⟩
      rw [hLB] at hRA hlb
      rw [hAL, hLB] at hsn
      rw [hAL] at o8 hLl hlv
      have HSN := Lib.hid hsn
      have HRA := Lib.hid hRA
      have HO := Lib.hid (And.intro hown (And.intro o8 (And.intro r9 hw8)))
      have HB := Lib.hid hB
      have hws := hB.size
      have hlv2 : lv ≤ 100000 := by omega
      have HLV := Lib.hid hlv
      have hALl : AL.length ≤ 100000 := by omega
      have hLB2 : LB.length ≤ 100000 := by omega
      clear hlv hlb hLl hbs hRA hsn hAL hLB hr7 hr7' HH hown o8 r9 hw8 hB hrl
      go_wp2_with fail
      refine HRA.out.mono ?_
      rintro e w3 ⟨v3, rfl, o3, b3⟩
      have o8 := HO.out.2.1.below b3
      have hs3 : w.heap.size ≤ w3.heap.size := Nat.le_trans hws b3.size
      have HQ := Lib.hid (And.intro (HO.out.1.below b3) (And.intro (HO.out.2.2.1.below b3) (And.intro o8 b3)))
      clear HRA
      go_wp2_with (at_builtin; refine wp_appGB _ _ (by rfl) (by rfl) (by rfl) o8 (by rfl) o3.rd ?c1 hs3 ?_)
      case c1 => omega
      intro v4 w4 o4 b4 g4 l4
      have HP4 : Hid (RecsP v4 w.heap.size w4 u9 rs) := Lib.hid (HQ.out.2.1.log HQ.out.2.2.1 g4 l4)
      have HU4 : Hid (OwnB g2 w4 (.slice (some ⟨g2, 0, none⟩) K K) bs) := Lib.hid (HQ.out.1.kept g4 fun x hx e => by
        obtain rfl : g2 = x := Option.some.inj hx
        exact Nat.lt_irrefl _ (HO.out.2.2.2 g2 e))
      have HV4 : Hid (∀ x, (Value.slice (some ⟨g2, 0, none⟩) K K).ownBlock = some x → v4.ownBlock ≠ some x) := Lib.hid fun x hx e => by
        obtain rfl : g2 = x := Option.some.inj hx
        rcases l4 g2 e with h | h
        · exact Nat.lt_irrefl _ (HO.out.2.2.2 g2 h)
        · have := HQ.out.2.2.2.size; omega
      have HB4 : Hid (Below w.heap.size w w4) := Lib.hid ((HB.out.trans (HQ.out.2.2.2.mono hws)).trans b4)
      have HO4 := Lib.hid o4
      have hs4 := HB4.out.size
      have hrl12 : rs.length ≤ 1000000000000 := by omega
      clear o3 b3 o8 o4 b4 g4 l4 HQ HO HB
      go_wp2_with (at_builtin; refine wp_appP _ _ (by rfl) (by rfl) (by rfl) HP4.out (HU4.out.base hgw) HV4.out _ (by rfl) (by rfl) hrl12 hs4 ?_)
      intro v5 w5 p5 b5 k5
      have HST : Hid (LaSt w (j + 1) v4 v5 w5) := Lib.hid ⟨rs ++ [bs], by rw [HSN.out]; exact k5 _ _ _ HO4.out, p5, by rw [List.length_append, List.length_singleton, HR.out.1], HR.out.2, HB4.out.trans b5⟩
      clear p5 b5 k5 HP4 HU4 HV4 HB4 HO4 HR HSN
      go_wp2_with fail
      go_roundg (N - (j + 1))
      case measure => omega
      case rel => exact ⟨j + 1, by go_num, h2, Nat.le_refl _, HST⟩
    · have hz : ¬ ((j : Int) < (len : Int) ∧ (j : Int) < (N : Int)) := by omega
      obtain ⟨rs, o8, r9, hrl, hr7, hB⟩ := HS.out
      have HF : Hid (LaidRes N w (.returned (.tuple #[u8, u9])) wr) := Lib.hid ⟨u8, u9, rs, rfl, o8, r9.recs, by omega, hr7, hB⟩
      clear o8 r9 hr7 hB HS
      rcases Nat.lt_or_ge j len with h | h
      · have hz1 : (j : Int) < (len : Int) := by omega
        have hz2 : ¬ (j : Int) < (N : Int) := by omega
        clear hz
        go_wp2
        exact bodyPost_ret (v := .tuple #[u8, u9]) (by simp [results, Tryd.results8, go_sem]) rfl HF.out
      · have hz1 : ¬ (j : Int) < (len : Int) := by omega
        clear hz
        go_wp2
        exact bodyPost_ret (v := .tuple #[u8, u9]) (by simp [results, Tryd.results8, go_sem]) rfl HF.out
end Go.Proofs.YtdnohjhknhekhaaDoor
