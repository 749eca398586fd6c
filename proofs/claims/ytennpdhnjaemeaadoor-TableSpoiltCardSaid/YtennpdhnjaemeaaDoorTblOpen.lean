/- The walk of table's Open. -/
import Derived.Test.YtennpdhnjaemeaaDoorTblBuild
import Derived.Test.YtennpdhnjaemeaaDoorMTblA
import Derived.Test.YtennpdhnjaemeaaDoorBClone
import Derived.Test.YtennpdhnjaemeaaDoorMBase
namespace Go.Proofs.YtennpdhnjaemeaaDoor
set_option linter.unusedVariables false
set_option maxRecDepth 100000
open Go.RowKit
/-- Block g is an open table of these blocks, this filter. -/
def TbAt (w : World) (g : Nat) (bs F : List UInt8) (ps : List (List (List Ent))) : Prop :=
  ∃ vb vf vp, BlkAt w g #[vb, vf, vp, .int .i64 (((ps.map List.flatten).flatten.length : Nat) : Int)] 69 ∧ RdB w vb bs ∧ RdB w vf F ∧ RdK encPart 8 w vp (partsT ps)
theorem TbAt.below {w w' : World} {g : Nat} {bs F : List UInt8} {ps : List (List (List Ent))} (h : TbAt w g bs F ps) (hb : Below w.heap.size w w') : TbAt w' g bs F ps := by
  obtain ⟨vb, vf, vp, h1, h2, h3, h4⟩ := h
  exact ⟨vb, vf, vp, h1.below hb, h2.below hb, h3.below hb, h4.below hb⟩
theorem TbAt.lt {w : World} {g : Nat} {bs F : List UInt8} {ps : List (List (List Ent))} (h : TbAt w g bs F ps) : g < w.heap.size := by
  obtain ⟨vb, vf, vp, h1, -⟩ := h
  exact h1.lt
/-- Of other bytes there is no table. -/
theorem open_no (v : Value) (b : List UInt8) (hn : apartB b = none) (w : World) (ht : TabAt w) (hv : RdB w v b) : Calls Tryd.prog 12 #[v] w fun en w' => en = .returned (.tuple #[.pointer none, .int .i64 8]) ∧ Below w.heap.size w w' := by
  obtain ⟨a, len, cap, rfl, -⟩ := hv.form
  have HA := Lib.hid (apart_any _ b w ht hv)
  rw [hn] at HA
  clear hn hv ht
  go_enter Tryd.func12, Tryd.ntmps12
  go_wp2_with fail
  refine HA.out.mono ?_
  rintro e w1 ⟨rfl, b1⟩
  have HB := Lib.hid b1
  clear b1 HA
  go_wp2_with fail
  go_ret2
  exact ⟨rfl, HB.out⟩
/-- What Open tells of a table's bytes. -/
def OpenRes (bs F : List UInt8) (ps : List (List (List Ent))) (w : World) (en : Ending) (w' : World) : Prop := ∃ g, en = .returned (.tuple #[.pointer (some ⟨g, 0, none⟩), .int .i64 0]) ∧ TbAt w' g bs F ps ∧ w.heap.size ≤ g ∧ Below w.heap.size w w'
def cntP (l : List Part) : Nat := (l.map Part.count).sum
theorem cntP_take (l : List Part) (i : Nat) (p : Part) (h : l[i]? = some p) : cntP (l.take (i + 1)) = cntP (l.take i) + p.count := by
  unfold cntP
  rw [List.take_add_one, h, List.map_append, List.sum_append]; simp
theorem cntP_all : ∀ (ps : List (List (List Ent))) (o : Nat), cntP (partsFrom o ps) = (ps.map List.flatten).flatten.length
  | [], _ => rfl
  | gs :: r, o => by
    have h := cntP_all r (o + (pcB gs).length)
    unfold cntP at h ⊢
    rw [partsFrom, List.map_cons, List.sum_cons, h, List.map_cons, List.flatten_cons, List.length_append]
theorem RdK.at8 {w : World} {a : Option Addr} {len cap : Nat} {xs : List Part} (h : RdK encPart 8 w (.slice a len cap) xs) (q : Nat) (x : Part) (hx : xs[q]? = some x) :
    ∃ b off, a = some ⟨b, off, none⟩ ∧ b < w.heap.size ∧ w.cell? ⟨b, off + q * 8, none⟩ = some (.string x.norm) ∧ w.cell? ⟨b, off + q * 8 + 1, none⟩ = some (.int .i64 x.seq) ∧ w.cell? ⟨b, off + q * 8 + 2, none⟩ = some (.int .i64 0) ∧
      w.cell? ⟨b, off + q * 8 + 3, none⟩ = some (.string ⟨#[]⟩) ∧ w.cell? ⟨b, off + q * 8 + 4, none⟩ = some (.string ⟨#[]⟩) ∧ w.cell? ⟨b, off + q * 8 + 5, none⟩ = some (.int .i64 (x.at' : Int)) ∧ w.cell? ⟨b, off + q * 8 + 6, none⟩ = some (.int .i64 (x.size : Int)) ∧ w.cell? ⟨b, off + q * 8 + 7, none⟩ = some (.int .i64 (x.count : Int)) := by
  rcases h with ⟨_, _, _, rfl⟩ | ⟨b, off, c, e, h1, h2, h3, h4, h5⟩
  · simp at hx
  · simp only [Value.slice.injEq] at e
    obtain ⟨rfl, -, -⟩ := e
    have H := fun j hj => h5 q j x hx hj
    exact ⟨b, off, rfl, h4, H 0 (by decide), H 1 (by decide), H 2 (by decide), H 3 (by decide), H 4 (by decide), H 5 (by decide), H 6 (by decide), H 7 (by decide)⟩
set_option maxHeartbeats 16000000 in
theorem open_yes (v : Value) (b bs F : List UInt8) (ps : List (List (List Ent))) (ha : apartB b = some (bs, F, indexB ps)) (hbs : bs.length = (blocksB ps).length) (hne : ps ≠ []) (hok : ∀ gs ∈ ps, PcFit gs) (hi : (indexB ps).length ≤ 1000000000000) (hb : (blocksB ps).length ≤ 1000000000000) (hF : F.length ≤ 1000000000000) (w : World) (ht : TabAt w) (hv : RdB w v b) :
    Calls Tryd.prog 12 #[v] w (OpenRes bs F ps w) := by
  obtain ⟨a, len, cap, rfl, -⟩ := hv.form
  have HA := Lib.hid (apart_any _ b w ht hv)
  rw [ha] at HA
  have HPP := Lib.hid (fun (v : Value) W hW => getparts_any ps hne hok hi hb v W hW)
  have HBL : Hid (bs.length = (blocksB ps).length) := Lib.hid hbs
  have HB1 : Hid ((blocksB ps).length ≤ 1000000000000) := Lib.hid hb
  have HF1 : Hid (F.length ≤ 1000000000000) := Lib.hid hF
  have HCN : Hid (cntP (partsT ps) ≤ 1000000000000 ∧ (partsT ps).length ≤ 1000000000000) := Lib.hid (by
    have h1 : ∀ l : List (List (List Ent)), (∀ gs ∈ l, PcFit gs) → (l.map List.flatten).flatten.length ≤ (blocksB l).length := by
      intro l
      induction l with
      | nil => intro _; exact Nat.le_refl _
      | cons gs r ih =>
        intro h
        have h2 := ih fun x hx => h x (List.mem_cons_of_mem _ hx)
        have h3 : gs.flatten.length ≤ (pcB gs).length := (h gs (by simp)).count
        rw [blocksB_cons, List.map_cons, List.flatten_cons, List.length_append]
        omega
    have h4 : ∀ l : List Part, l.length ≤ (l.flatMap partB).length := by
      intro l
      induction l with
      | nil => exact Nat.le_refl _
      | cons p r ih => have := partB_pos p; rw [List.flatMap_cons, List.length_append, List.length_cons]; omega
    exact ⟨by rw [show partsT ps = partsFrom 0 ps from rfl, cntP_all]; exact Nat.le_trans (h1 ps hok) hb, Nat.le_trans (h4 _) hi⟩)
  clear ha hv ht hbs hne hok hi hb hF
  go_enter Tryd.func12, Tryd.ntmps12
  go_wp2_with fail
  refine HA.out.mono ?_
  rintro e w1 ⟨⟨v1, v2, v3, rfl, r1, r2, r3⟩, b1⟩
  simp only at r1 r2 r3
  obtain ⟨a1, n1, c1, rfl, hn1, -⟩ := r1.form
  obtain ⟨a2, n2, c2, rfl, -⟩ := r2.form
  obtain ⟨a3, n3, c3, rfl, -⟩ := r3.form
  obtain rfl : n1 = (blocksB ps).length := by rw [hn1]; exact HBL.out
  have HR1 := Lib.hid r1
  have HR2 := Lib.hid r2
  have HBB := Lib.hid b1
  have HP1 := Lib.hid (HPP.out _ w1 r3)
  clear r1 r2 r3 b1 hn1 HA HPP
  go_wp2_with fail
  refine HP1.out.mono ?_
  rintro e w2 ⟨v4, rfl, o4, b4⟩
  obtain ⟨a4, c4, rfl, -⟩ := o4.kform
  have HP4 := Lib.hid (o4.rd encPart_len)
  have HB4 := Lib.hid (HBB.out.trans (b4.mono HBB.out.size))
  have HR22 := Lib.hid (HR2.out.below b4)
  have HC1 := Lib.hid (bclone_any _ bs w2 (HR1.out.below b4) (by rw [HBL.out]; exact HB1.out))
  obtain ⟨n4, hn4⟩ : ∃ n, (partsT ps).length = n := ⟨_, rfl⟩
  rw [hn4] at HP4 HCN ⊢
  have HN4 := Lib.hid hn4
  clear o4 b4 hn4 HP1 HR1 HR2 HBB
  go_wp2_with fail
  refine HC1.out.mono ?_
  rintro e w3 ⟨v5, rfl, o5, b5⟩
  obtain ⟨a5, n5, c5, rfl, -⟩ := o5.form
  have HR5 := Lib.hid o5.rd
  have HP5 := Lib.hid (HP4.out.below b5)
  have HB5 := Lib.hid (HB4.out.trans (b5.mono HB4.out.size))
  have HC2 := Lib.hid (bclone_any _ F w3 (HR22.out.below b5) HF1.out)
  clear o5 b5 HC1 HP4 HB4 HR22
  go_wp2_with fail
  refine HC2.out.mono ?_
  rintro e w4 ⟨v6, rfl, o6, b6⟩
  obtain ⟨a6, n6, c6, rfl, -⟩ := o6.form
  have HR6 := Lib.hid o6.rd
  have HP6 := Lib.hid (HP5.out.below b6)
  have HR56 := Lib.hid (HR5.out.below b6)
  have HB6 := Lib.hid (HB5.out.trans (b6.mono HB5.out.size))
  clear o6 b6 HC2 HP5 HB5 HR5
  go_upto_region 8 with fail
  have hbk : BlkAt (w4.alloc (.cells #[.slice a5 n5 c5, .slice a6 n6 c6, .slice a4 n4 c4, .int .i64 0] 69)) w4.heap.size #[.slice a5 n5 c5, .slice a6 n6 c6, .slice a4 n4 c4, .int .i64 0] 69 := BlkAt.new _ _ _
  have hal : Below w4.heap.size w4 (w4.alloc (.cells #[.slice a5 n5 c5, .slice a6 n6 c6, .slice a4 n4 c4, .int .i64 0] 69)) := (Below.refl _ w4).alloc (Nat.le_refl _) _
  have hb7 := HB6.out.trans (hal.mono HB6.out.size)
  have hgw := HB6.out.size
  obtain ⟨gt, hgt⟩ : ∃ g, w4.heap.size = g := ⟨_, rfl⟩
  rw [hgt] at hbk hgw ⊢
  obtain ⟨w5, hw5⟩ : ∃ x, w4.alloc (.cells #[.slice a5 n5 c5, .slice a6 n6 c6, .slice a4 n4 c4, .int .i64 0] 69) = x := ⟨_, rfl⟩
  rw [hw5] at hbk hal hb7 ⊢
  rw [hgt] at hal
  have HBK := Lib.hid hbk
  have HB7 := Lib.hid hb7
  have HAL := Lib.hid hal
  clear hbk hal hb7 hw5 HB6
  go_wp2_with fail
  go_loopg [39] n4 (fun kk vi wr => ∃ (i cn : Nat), vi = .int .i64 (i : Int) ∧ i ≤ n4 ∧ n4 - i ≤ kk ∧ Hid (cn = cntP ((partsT ps).take i)) ∧ Hid (BlkAt wr gt #[.slice a5 n5 c5, .slice a6 n6 c6, .slice a4 n4 c4, .int .i64 (cn : Int)] 69) ∧ Hid (Below gt w4 wr) ∧ Hid (Below w.heap.size w wr))
  case atStart => exact ⟨0, 0, rfl, by omega, by omega, Lib.hid rfl, HBK, HAL, HB7⟩
  case round =>
    clear HBK HB7 HAL
    obtain ⟨i, cn, rfl, hi, hik, HCI, HBK, HAL, HB⟩ := hrel
    have hcn : cn ≤ 1000000000000 := by
      rw [HCI.out]
      refine Nat.le_trans ?_ HCN.out.1
      unfold cntP
      conv => rhs; rw [← List.take_append_drop i (partsT ps), List.map_append, List.sum_append]
      omega
    by_cases h1 : i < n4
    · have hi1 : (i : Int) < (n4 : Int) := by omega
      have hi0 : (0 : Int) ≤ (i : Int) := by omega
      obtain ⟨p, hp⟩ : ∃ p, (partsT ps)[i]? = some p := ⟨(partsT ps)[i]'(by have := HN4.out; omega), List.getElem?_eq_getElem _⟩
      have hal0 : Below w4.heap.size w4 wr := by rw [hgt]; exact HAL.out
      obtain ⟨bb, ox, rfl, hblt, d0, d1, d2, d3, d4, d5, d6, d7⟩ := (HP6.out.below hal0).at8 i p hp
      have HCI2 : Hid (cn + p.count = cntP ((partsT ps).take (i + 1))) := Lib.hid (by rw [cntP_take _ _ _ hp, HCI.out])
      have hcp : cn + p.count ≤ 1000000000000 := by
        rw [HCI2.out]
        refine Nat.le_trans ?_ HCN.out.1
        unfold cntP
        conv => rhs; rw [← List.take_append_drop (i + 1) (partsT ps), List.map_append, List.sum_append]
        omega
      obtain ⟨pn, hpn⟩ : ∃ x, p.norm = x := ⟨_, rfl⟩
      obtain ⟨pq, hpq⟩ : ∃ x, p.seq = x := ⟨_, rfl⟩
      obtain ⟨pa, hpa⟩ : ∃ x, p.at' = x := ⟨_, rfl⟩
      obtain ⟨pz, hpz⟩ : ∃ x, p.size = x := ⟨_, rfl⟩
      obtain ⟨pc, hpc⟩ : ∃ x, p.count = x := ⟨_, rfl⟩
      rw [hpn] at d0
      rw [hpq] at d1
      rw [hpa] at d5
      rw [hpz] at d6
      rw [hpc] at d7 hcp HCI2
      clear hp hal0 hpn hpq hpa hpz hpc
      go_upto_region 11 with fail
      have hpk : BlkAt (wr.alloc (.cells #[.string pn, .int .i64 pq, .int .i64 0, .string ⟨#[]⟩, .string ⟨#[]⟩, .int .i64 (pa : Int), .int .i64 (pz : Int), .int .i64 (pc : Int)] 58)) wr.heap.size #[.string pn, .int .i64 pq, .int .i64 0, .string ⟨#[]⟩, .string ⟨#[]⟩, .int .i64 (pa : Int), .int .i64 (pz : Int), .int .i64 (pc : Int)] 58 := BlkAt.new _ _ _
      have hb8 := HB.out.alloc HB.out.size (.cells #[.string pn, .int .i64 pq, .int .i64 0, .string ⟨#[]⟩, .string ⟨#[]⟩, .int .i64 (pa : Int), .int .i64 (pz : Int), .int .i64 (pc : Int)] 58)
      have hbk8 := HBK.out.more (.cells #[.string pn, .int .i64 pq, .int .i64 0, .string ⟨#[]⟩, .string ⟨#[]⟩, .int .i64 (pa : Int), .int .i64 (pz : Int), .int .i64 (pc : Int)] 58)
      have hal8 := HAL.out.alloc (by have := HAL.out.size; omega) (.cells #[.string pn, .int .i64 pq, .int .i64 0, .string ⟨#[]⟩, .string ⟨#[]⟩, .int .i64 (pa : Int), .int .i64 (pz : Int), .int .i64 (pc : Int)] 58)
      obtain ⟨gp, hgp⟩ : ∃ g, wr.heap.size = g := ⟨_, rfl⟩
      rw [hgp] at hpk ⊢
      obtain ⟨wa, hwa⟩ : ∃ x, wr.alloc (.cells #[.string pn, .int .i64 pq, .int .i64 0, .string ⟨#[]⟩, .string ⟨#[]⟩, .int .i64 (pa : Int), .int .i64 (pz : Int), .int .i64 (pc : Int)] 58) = x := ⟨_, rfl⟩
      rw [hwa] at hpk hb8 hbk8 hal8 ⊢
      have HSS : Hid (BlkAt wa gt #[.slice a5 n5 c5, .slice a6 n6 c6, .slice (some ⟨bb, ox, none⟩) n4 c4, .int .i64 (cn : Int)] 69 ∧ BlkAt wa gp #[.string pn, .int .i64 pq, .int .i64 0, .string ⟨#[]⟩, .string ⟨#[]⟩, .int .i64 (pa : Int), .int .i64 (pz : Int), .int .i64 (pc : Int)] 58) := Lib.hid ⟨hbk8, hpk⟩
      have HB8 := Lib.hid hb8
      have HAL8 := Lib.hid hal8
      obtain ⟨cn2, hcn2⟩ : ∃ n, cn + pc = n := ⟨_, rfl⟩
      have hadd : IntKind.i64.wrap ((cn : Int) + (pc : Int)) = (cn2 : Int) := by
        rw [IntWalk.i64_in _ (by omega)]; omega
      rw [hcn2] at HCI2
      clear hcn2 hcp hcn
      clear hpk hb8 hbk8 hal8 hwa hgp HBK HB HAL d0 d1 d2 d3 d4 d5 d6 d7 hblt
      refine beginK (fun W => BlkAt W gt #[.slice a5 n5 c5, .slice a6 n6 c6, .slice (some ⟨bb, ox, none⟩) n4 c4, .int .i64 (cn : Int)] 69 ∧ BlkAt W gp #[.string pn, .int .i64 pq, .int .i64 0, .string ⟨#[]⟩, .string ⟨#[]⟩, .int .i64 (pa : Int), .int .i64 (pz : Int), .int .i64 (pc : Int)] 58) 9 (by kernel_rfl) HSS.out (fun hHeld => ?_)
      refine takeK (i := 0) (k := 43) (v := .pointer (some ⟨gt, 0, none⟩)) rfl rfl (by kernel_rfl) (by kernel_rfl) (by kernel_rfl) [0] rfl (by decide) (by kernel_rfl) (fun _ _ _ h => h) (by kernel_rfl) ?_ (by assumption) ?_
      · intro W hSw; first | (go_simp; done) | go_simp
      try simp only [Act.put, List.setIfInBounds_toArray, List.set_cons_zero, List.set_cons_succ]
      refine takeK (i := 1) (k := 44) (v := .pointer (some ⟨gt, 0, none⟩)) rfl rfl (by kernel_rfl) (by kernel_rfl) (by kernel_rfl) [1] rfl (by decide) (by kernel_rfl) (fun _ _ _ h => h) (by kernel_rfl) ?_ (by assumption) ?_
      · intro W hSw; first | (go_simp; done) | go_simp
      try simp only [Act.put, List.setIfInBounds_toArray, List.set_cons_zero, List.set_cons_succ]
      refine takeK (i := 2) (k := 45) (v := .pointer (some ⟨gt, 3, none⟩)) rfl rfl (by kernel_rfl) (by kernel_rfl) (by kernel_rfl) [2] rfl (by decide) (by kernel_rfl) (fun _ _ _ h => h) (by kernel_rfl) ?_ (by assumption) ?_
      · intro W hSw; first | (go_simp; done) | go_simp
      try simp only [Act.put, List.setIfInBounds_toArray, List.set_cons_zero, List.set_cons_succ]
      refine takeK (i := 3) (k := 46) (v := .int .i64 (cn : Int)) rfl rfl (by kernel_rfl) (by kernel_rfl) (by kernel_rfl) [3] rfl (by decide) (by kernel_rfl) (fun _ _ _ h => h) (by kernel_rfl) ?_ (by assumption) ?_
      · intro W hSw; have x3 : W.cell? ⟨gt, 3, none⟩ = some (.int .i64 (cn : Int)) := hSw.1.at 3; first | (go_simp; done) | go_simp
      try simp only [Act.put, List.setIfInBounds_toArray, List.set_cons_zero, List.set_cons_succ]
      refine takeK (i := 4) (k := 47) (v := .pointer (some ⟨gp, 7, none⟩)) rfl rfl (by kernel_rfl) (by kernel_rfl) (by kernel_rfl) [4] rfl (by decide) (by kernel_rfl) (fun _ _ _ h => h) (by kernel_rfl) ?_ (by assumption) ?_
      · intro W hSw; first | (go_simp; done) | go_simp
      try simp only [Act.put, List.setIfInBounds_toArray, List.set_cons_zero, List.set_cons_succ]
      refine takeK (i := 5) (k := 48) (v := .int .i64 (pc : Int)) rfl rfl (by kernel_rfl) (by kernel_rfl) (by kernel_rfl) [5] rfl (by decide) (by kernel_rfl) (fun _ _ _ h => h) (by kernel_rfl) ?_ (by assumption) ?_
      · intro W hSw; have y7 : W.cell? ⟨gp, 7, none⟩ = some (.int .i64 (pc : Int)) := hSw.2.at 7; first | (go_simp; done) | go_simp
      try simp only [Act.put, List.setIfInBounds_toArray, List.set_cons_zero, List.set_cons_succ]
      refine takeK (i := 6) (k := 49) (v := .int .i64 (cn2 : Int)) rfl rfl (by kernel_rfl) (by kernel_rfl) (by kernel_rfl) [6] rfl (by decide) (by kernel_rfl) (fun _ _ _ h => h) (by kernel_rfl) ?_ (by assumption) ?_
      · intro W hSw; first | (go_simp; done) | go_simp
      try simp only [Act.put, List.setIfInBounds_toArray, List.set_cons_zero, List.set_cons_succ]
      refine takeK (i := 7) (k := 50) (v := .pointer (some ⟨gt, 0, none⟩)) rfl rfl (by kernel_rfl) (by kernel_rfl) (by kernel_rfl) [8, 7] rfl (by decide) (by kernel_rfl) (fun _ _ _ h => h) (by kernel_rfl) ?_ (by assumption) ?_
      · intro W hSw; first | (go_simp; done) | go_simp
      try simp only [Act.put, List.setIfInBounds_toArray, List.set_cons_zero, List.set_cons_succ]
      refine takeK (i := 8) (k := 51) (v := .pointer (some ⟨gt, 3, none⟩)) rfl rfl (by kernel_rfl) (by kernel_rfl) (by kernel_rfl) [8] rfl (by decide) (by kernel_rfl) (fun _ _ _ h => h) (by kernel_rfl) ?_ (by assumption) ?_
      · intro W hSw; first | (go_simp; done) | go_simp
      try simp only [Act.put, List.setIfInBounds_toArray, List.set_cons_zero, List.set_cons_succ]
      have x3 : wa.cell? ⟨gt, 3, none⟩ = some (.int .i64 (cn : Int)) := HSS.out.1.at 3
      have f3 := HSS.out.1.free 3
      have hgl := HSS.out.1.lt
      refine oneK (i := 9) (by kernel_rfl) rfl (fun K hK => ?_)
      go_simp
      refine hK.out _ _ (fun h => by have h' : true = false := h; cases h') (fun _ => ?_)
      clear hK K
      try simp only [Act.put, List.setIfInBounds_toArray, List.set_cons_zero, List.set_cons_succ]
      refine doneK (by kernel_rfl) ?_ _
      have hzk : BlkAt (wa.setCell ⟨gt, 3, none⟩ (.int .i64 (cn2 : Int))).drew gt #[.slice a5 n5 c5, .slice a6 n6 c6, .slice (some ⟨bb, ox, none⟩) n4 c4, .int .i64 (cn2 : Int)] 69 := HSS.out.1.set (o := 3) (.int .i64 (cn2 : Int))
      have hzb := (HB8.out.setCell (p := ⟨gt, 3, none⟩) hgw (.int .i64 (cn2 : Int))).drew
      have hza := (HAL8.out.setCell (p := ⟨gt, 3, none⟩) (Nat.le_refl _) (.int .i64 (cn2 : Int))).drew
      obtain ⟨wz, hwz⟩ : ∃ x, (wa.setCell ⟨gt, 3, none⟩ (.int .i64 (cn2 : Int))).drew = x := ⟨_, rfl⟩
      rw [hwz] at hzk hzb hza
      try rw [hwz]
      have HZK := Lib.hid hzk
      have HZB := Lib.hid hzb
      have HZA := Lib.hid hza
      clear hzk hzb hza hwz HSS HB8 HAL8 hHeld x3 f3 hgl hadd
      have hnb := HCN.out.2
      go_wp2_with fail
      go_roundg (n4 - (i + 1))
      case measure => omega
      case rel => exact ⟨i + 1, cn2, by go_num, by omega, Nat.le_refl _, HCI2, HZK, HZA, HZB⟩
    · obtain rfl : i = n4 := by omega
      have hi1 : ¬ (i : Int) < (i : Int) := by omega
      have HCE : Hid (cn = (ps.map List.flatten).flatten.length) := Lib.hid (by
        rw [HCI.out, ← HN4.out, List.take_length]; exact cntP_all ps 0)
      have hal0 : Below w4.heap.size w4 wr := by rw [hgt]; exact HAL.out
      have HTB : Hid (TbAt wr gt bs F ps) := Lib.hid ⟨_, _, _, by rw [← HCE.out]; exact HBK.out, HR56.out.below hal0, HR6.out.below hal0, HP6.out.below hal0⟩
      clear hal0 HBK HAL HCI HCE
      go_wp2_with fail
      go_ret2
      exact ⟨gt, rfl, HTB.out, hgw, HB.out⟩
end Go.Proofs.YtennpdhnjaemeaaDoor
