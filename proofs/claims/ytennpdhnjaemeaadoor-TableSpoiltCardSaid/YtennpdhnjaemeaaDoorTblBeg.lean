/- The laws' begun, gets, from. -/
import Derived.Test.YtennpdhnjaemeaaDoorTblMade
namespace Go.Proofs.YtennpdhnjaemeaaDoor
set_option linter.unusedVariables false
set_option maxRecDepth 100000
open Go.RowKit
def begE : Ent := ⟨⟨#[97]⟩, 2, 1, ⟨#[97]⟩, ⟨#[118]⟩⟩
theorem begE_ok : AreP [begE] := by
  refine ⟨by simp, rfl, fun i e hi => ?_⟩
  cases i with
  | zero =>
    obtain rfl : begE = e := by simpa using hi
    exact ⟨⟨by decide, by decide, .inl rfl⟩, fun j d hj => by omega⟩
  | succ i => simp at hi
theorem ps_one {l : List Ent} {ps : List (List (List Ent))} {ss : List ByteArray} (h : MadeT l ps ss) (h1 : l.length = 1) : ps.length = 1 := by
  have h2 := ps_le h.tb.pcs
  have h3 := h.tb.flat
  rw [h3, h1] at h2
  have h4 := List.length_pos_iff.2 h.psne
  omega
set_option maxHeartbeats 8000000 in
theorem tbegun_any (w : World) (ht : TabAt w) : Calls Tryd.prog 9 #[] w fun e w' => e = .returned (.bool true) ∧ Below w.heap.size w w' := by
  have hal : Below w.heap.size w (w.alloc (.cells #[.string ⟨#[97]⟩, .int .i64 2, .int .i64 1, .string ⟨#[97]⟩, .string ⟨#[118]⟩] 39)) := (Below.refl _ w).alloc (Nat.le_refl _) _
  have hone := own_oneK (E := 39) encEnt_len w begE
  have HA := Lib.hid hal
  have HT := Lib.hid ht
  have HBD : Hid (Calls Tryd.prog 11 #[.slice (some ⟨w.heap.size, 0, none⟩) 1 1] (w.alloc (.cells #[.string ⟨#[97]⟩, .int .i64 2, .int .i64 1, .string ⟨#[97]⟩, .string ⟨#[118]⟩] 39)) (BuildGd [begE] (w.alloc (.cells #[.string ⟨#[97]⟩, .int .i64 2, .int .i64 1, .string ⟨#[97]⟩, .string ⟨#[118]⟩] 39)))) :=
    Lib.hid (build_good [begE] (by simp) (by decide) begE_ok (fun e he => by
      rw [List.mem_singleton.1 he]; exact ⟨by decide, by decide, by decide⟩) _ _ (ht.below hal) (hone.rd encEnt_len))
  have HBN := Lib.hid (fun W => build_no (.slice none 0 0) [] (by decide) areP_nil W (.inl ⟨_, _, rfl, rfl⟩))
  clear hal hone ht
  go_enter Tryd.func9, Tryd.ntmps9
  go_wp2_with fail
  refine HBD.out.mono ?_
  rintro e w2 ⟨v2, ps, ss, rfl, hmd, o2, b2⟩
  obtain ⟨a2, n2, c2, rfl, -⟩ := o2.form
  have HB2 := Lib.hid (below_lit (Below.refl _ w) (Nat.le_refl _) b2)
  have HOP := Lib.hid (open_good hmd _ w2 (HT.out.below HB2.out) o2.rd)
  have HP1 : Hid (ps.length = 1) := Lib.hid (ps_one hmd rfl)
  clear hmd o2 b2 HBD HA
  go_wp2_with fail
  refine HOP.out.mono ?_
  rintro e w3 ⟨g, rfl, htk, b3⟩
  have HTK := Lib.hid htk
  have HB3 := Lib.hid (HB2.out.trans (b3.mono HB2.out.size))
  have HGT := Lib.hid (tget_any htk ⟨#[97]⟩ (by decide) 9)
  have hfe : findE [begE] ⟨#[97]⟩ 9 = some begE := by unfold findE; exact List.find?_cons_of_pos (by decide)
  rw [hfe] at HGT
  clear htk b3 HOP HB2 hfe
  go_wp2_with fail
  refine HGT.out.mono ?_
  rintro e w4 ⟨hr, b4⟩
  obtain rfl : e = .returned (.tuple #[.agg #[.string ⟨#[97]⟩, .int .i64 2, .int .i64 1, .string ⟨#[97]⟩, .string ⟨#[118]⟩], .bool true, .int .i64 0]) := by
    rcases hr with hr | ⟨hr, -⟩
    · exact hr
    · exact absurd rfl hr
  have HB4 := Lib.hid (HB3.out.trans (b4.mono HB3.out.size))
  have HT4 := Lib.hid (HTK.out.below b4)
  clear hr b4 HGT HTK HB3
  go_upto_region 6 with fail
  have hbk : BlkAt (w4.alloc (.cells #[.string ⟨#[97]⟩, .int .i64 2, .int .i64 1, .string ⟨#[97]⟩, .string ⟨#[118]⟩] 39)) w4.heap.size #[.string ⟨#[97]⟩, .int .i64 2, .int .i64 1, .string ⟨#[97]⟩, .string ⟨#[118]⟩] 39 := BlkAt.new _ _ _
  have ht5 := HT4.out.below ((Below.refl _ w4).alloc (Nat.le_refl _) (.cells #[.string ⟨#[97]⟩, .int .i64 2, .int .i64 1, .string ⟨#[97]⟩, .string ⟨#[118]⟩] 39))
  have hb5 := HB4.out.alloc HB4.out.size (.cells #[.string ⟨#[97]⟩, .int .i64 2, .int .i64 1, .string ⟨#[97]⟩, .string ⟨#[118]⟩] 39)
  obtain ⟨gx, hgx⟩ : ∃ x, w4.heap.size = x := ⟨_, rfl⟩
  rw [hgx] at hbk ⊢
  obtain ⟨w5, hw5⟩ : ∃ x, w4.alloc (.cells #[.string ⟨#[97]⟩, .int .i64 2, .int .i64 1, .string ⟨#[97]⟩, .string ⟨#[118]⟩] 39) = x := ⟨_, rfl⟩
  rw [hw5] at hbk ht5 hb5 ⊢
  have HBK := Lib.hid hbk
  have HT5 := Lib.hid ht5
  have HB5 := Lib.hid hb5
  clear hbk ht5 hb5 hw5 hgx HT4 HB4
  go_wp2_with fail
  refine (HBN.out _).mono ?_
  rintro e w6 ⟨rfl, b6⟩
  have HB6 := Lib.hid (HB5.out.trans (b6.mono HB5.out.size))
  have ht6 := HT5.out.below b6
  have hbk6 := HBK.out.below b6
  have y4 : w6.cell? ⟨gx, 4, none⟩ = some (.string ⟨#[118]⟩) := hbk6.at 4
  have hgl := hbk6.lt
  have HLE := Lib.hid (tlen_any ht6.at')
  have HBL := Lib.hid (tblocks_any ht6.at')
  have hfl : (flatP ps).length = 1 := by rw [ht6.flat]; rfl
  rw [hfl] at HLE
  rw [HP1.out] at HBL
  clear b6 ht6 hbk6 hfl HT5 HBK HB5 HBN HP1
  go_wp2_with fail
  refine HLE.out.mono ?_
  rintro e w' ⟨rfl, rfl⟩
  go_wp2_with fail
  refine HBL.out.mono ?_
  rintro e w' ⟨rfl, rfl⟩
  go_wp2_with fail
  go_ret
  exact ⟨rfl, HB6.out⟩
theorem eqB_self' (x : Ent) : eqB x x = true := by unfold eqB; simp
set_option maxHeartbeats 8000000 in
theorem gets_yes {K : Nat} {w : World} {g : Nat} {l : List Ent} {ps : List (List (List Ent))} {ss : List ByteArray} (h : TOk K w g l ps (ps.map pcB) ss) (v : Value) (hv : RdK encEnt 5 w v l) (n : ByteArray) (hn : n.size ≤ maxLen) (q : Int) :
    Calls Tryd.prog 18 #[.pointer (some ⟨g, 0, none⟩), v, .string n, .int .i64 q] w fun e w' => e = .returned (.bool true) ∧ Below w.heap.size w w' := by
  obtain ⟨a, len, cap, rfl, -⟩ := rdK_len hv
  have HG := Lib.hid (tget_any h n hn q)
  have HF := Lib.hid (fun W hW => rfind_any (.slice a len cap) l h.len n q W hW)
  have HV := Lib.hid hv
  obtain ⟨fb, hfb⟩ : ∃ x, (findE l n q).isSome = x := ⟨_, rfl⟩
  obtain ⟨fe, hfe⟩ : ∃ x, (findE l n q).getD Ent.none = x := ⟨_, rfl⟩
  unfold TGetRes at HG
  unfold findV at HF
  rw [hfe, hfb] at HF HG
  have HEQ := Lib.hid (fun W => req_any fe fe W)
  rw [eqB_self'] at HEQ
  obtain ⟨xn, xq, xk, xs, xv⟩ := fe
  unfold Ent.v at HF HEQ
  simp only at HF HEQ HG
  have HAG : Hid (AllGood ps (ps.map pcB)) := Lib.hid rfl
  clear hfb hfe hv h hn
  go_enter Tryd.func18, Tryd.ntmps18
  go_wp2_with fail
  refine HG.out.mono ?_
  rintro e w1 ⟨hr, b1⟩
  obtain rfl : e = .returned (.tuple #[.agg #[.string xn, .int .i64 xq, .int .i64 xk, .string xs, .string xv], .bool fb, .int .i64 0]) := by
    rcases hr with hr | ⟨hr, -⟩
    · exact hr
    · exact absurd HAG.out hr
  have HB1 := Lib.hid b1
  have HV1 := Lib.hid (HV.out.below b1)
  clear hr b1 HG HV HAG
  go_upto_region 2 with fail
  have hbk : BlkAt (w1.alloc (.cells #[.string xn, .int .i64 xq, .int .i64 xk, .string xs, .string xv] 39)) w1.heap.size #[.string xn, .int .i64 xq, .int .i64 xk, .string xs, .string xv] 39 := BlkAt.new _ _ _
  have hv2 := HV1.out.below ((Below.refl _ w1).alloc (Nat.le_refl _) (.cells #[.string xn, .int .i64 xq, .int .i64 xk, .string xs, .string xv] 39))
  have hb2 := HB1.out.alloc HB1.out.size (.cells #[.string xn, .int .i64 xq, .int .i64 xk, .string xs, .string xv] 39)
  obtain ⟨g1, hg1⟩ : ∃ x, w1.heap.size = x := ⟨_, rfl⟩
  rw [hg1] at hbk ⊢
  obtain ⟨w2, hw2⟩ : ∃ x, w1.alloc (.cells #[.string xn, .int .i64 xq, .int .i64 xk, .string xs, .string xv] 39) = x := ⟨_, rfl⟩
  rw [hw2] at hbk hv2 hb2 ⊢
  have HBK := Lib.hid hbk
  have HB2 := Lib.hid hb2
  have HF2 := Lib.hid (HF.out w2 hv2)
  clear hbk hv2 hb2 hw2 hg1 HF HV1 HB1
  go_wp2_with fail
  refine HF2.out.mono ?_
  rintro e w3 ⟨rfl, b3⟩
  have HB3 := Lib.hid (HB2.out.trans (b3.mono HB2.out.size))
  have HBK3 := Lib.hid (HBK.out.below b3)
  clear b3 HF2 HB2 HBK
  go_upto_region 3 with fail
  have hbk : BlkAt (w3.alloc (.cells #[.string xn, .int .i64 xq, .int .i64 xk, .string xs, .string xv] 39)) w3.heap.size #[.string xn, .int .i64 xq, .int .i64 xk, .string xs, .string xv] 39 := BlkAt.new _ _ _
  have hbk1 := HBK3.out.more (.cells #[.string xn, .int .i64 xq, .int .i64 xk, .string xs, .string xv] 39)
  have hb4 := HB3.out.alloc HB3.out.size (.cells #[.string xn, .int .i64 xq, .int .i64 xk, .string xs, .string xv] 39)
  obtain ⟨g3, hg3⟩ : ∃ x, w3.heap.size = x := ⟨_, rfl⟩
  rw [hg3] at hbk ⊢
  obtain ⟨w4, hw4⟩ : ∃ x, w3.alloc (.cells #[.string xn, .int .i64 xq, .int .i64 xk, .string xs, .string xv] 39) = x := ⟨_, rfl⟩
  rw [hw4] at hbk hbk1 hb4 ⊢
  obtain ⟨x0, x1, x2, x3, x4⟩ := blk5 hbk1
  obtain ⟨y0, y1, y2, y3, y4⟩ := blk5 hbk
  have HB4 := Lib.hid hb4
  have hbb : (fb == fb) = true := by simp
  clear hbk hbk1 hb4 hw4 hg3 HB3 HBK3
  go_wp2_with fail
  refine (HEQ.out _).mono ?_
  rintro e w5 ⟨rfl, b5⟩
  have HB5 := Lib.hid (HB4.out.trans (b5.mono HB4.out.size))
  clear b5 HEQ HB4 x0 x1 x2 x3 x4 y0 y1 y2 y3 y4
  go_wp2_with fail
  go_ret
  exact ⟨rfl, HB5.out⟩
end Go.Proofs.YtennpdhnjaemeaaDoor
