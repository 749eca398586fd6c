/- The walk of the law TableRaw. -/
import Derived.Test.YtennpdhnjaemeaaDoorTblBeg
import Derived.Test.YtennpdhnjaemeaaDoorMEnt
import Derived.Deep.LoopGhost
import Derived.Deep.CutBlock
namespace Go.Proofs.YtennpdhnjaemeaaDoor
set_option linter.unusedVariables false
set_option maxRecDepth 100000
open Go.RowKit
theorem q2_no {q2 : Bool} (h : q2 = true → False) : q2 = false := by
  cases q2 with
  | false => rfl
  | true => exact (h rfl).elim
/-- What the law's 'ok' says ahead of place i. -/
def QAt (ys : List Ent) (q0 : Bool) (i : Nat) (q : Bool) : Prop := q = true ↔ (q0 = true ∧ ∀ j e, j < i → ys[j]? = some e → StepOk ys j e)
theorem cutOk_fit {e : Ent} (h : CutOk e) : FitE 60 e := ⟨by have := h.1; omega, by have := h.2.1; omega, h.2.2.1⟩
set_option maxHeartbeats 32000000 in
theorem tableRaw_walk (w : World) (ht : TabAt w) (a0 : Option Addr) (len0 cap0 : Nat) (xs : List Ent) (hrd : RdK encEnt 5 w (.slice a0 len0 cap0) xs) (hok : ∀ e ∈ xs, e.ok) :
    Calls Tryd.prog 4 #[.slice a0 len0 cap0] w fun e w' => e = .returned (.bool true) ∧ Below w.heap.size w w' := by
  have HT := Lib.hid ht
  have HBG := Lib.hid (tbegun_any w ht)
  have HSO : Hid (∀ W, Below w.heap.size w W → Calls Tryd.prog 20 #[.slice a0 len0 cap0, .int .i64 20] W (SomeG 20 W)) := Lib.hid (fun W hW => cutallN_any 20 (by decide) _ xs hok W (hrd.below hW))
  clear ht hrd hok
  go_enter Tryd.func4, Tryd.ntmps4
  go_wp2_with fail
  refine HBG.out.mono ?_
  rintro e w1 ⟨rfl, b1⟩
  have HB1 := Lib.hid b1
  have HS1 := Lib.hid (HSO.out w1 b1)
  clear b1 HBG HSO
  go_wp2_with fail
  refine HS1.out.mono ?_
  rintro e w2 ⟨v, ys, rfl, hv, hco, hyl, b2⟩
  obtain ⟨a, cap, rfl, hcy, -⟩ := hv.kform
  have HB2 := Lib.hid (HB1.out.trans (b2.mono HB1.out.size))
  have HV2 := Lib.hid (hv.rd encEnt_len)
  have HCO := Lib.hid hco
  obtain ⟨len, hlen⟩ : ∃ x, ys.length = x := ⟨_, rfl⟩
  rw [hlen] at HV2 hyl hcy ⊢
  have HLN := Lib.hid hlen
  clear hv hco hlen b2 HS1 HB1
  obtain ⟨q0, hq0⟩ : ∃ q0 : Bool, q0 = true ↔ (ys ≠ [] ∧ srtB ys = true) := ⟨@decide (ys ≠ [] ∧ srtB ys = true) (Classical.propDecidable _), by simp⟩
  have HQ0 := Lib.hid hq0
  clear hq0
  go_upto_region 5 with fail
  go_cut [4] (fun c wx => c = .bool q0 ∧ Hid (Below w2.heap.size w2 wx))
  case first =>
    as_aux_lemma =>
    rcases Nat.eq_zero_or_pos len with h0 | h0
    · have hy : ys = [] := List.eq_nil_of_length_eq_zero (by rw [HLN.out]; exact h0)
      obtain rfl : q0 = false := q2_no fun h => (HQ0.out.1 h).1 hy
      subst h0
      clear hy HQ0
      go_wp2_with fail
      go_meet
      exact ⟨rfl, Lib.hid (Below.refl _ _)⟩
    · have hne : ys ≠ [] := by rintro rfl; have := HLN.out; rw [List.length_nil] at this; omega
      have HSR := Lib.hid (rsorted_any (.slice a len cap) ys (by rw [HLN.out]; omega) w2 HV2.out)
      have hqs : q0 = srtB ys := by
        cases hs : srtB ys with
        | true => exact HQ0.out.2 ⟨hne, hs⟩
        | false => exact q2_no fun h => by have := (HQ0.out.1 h).2; rw [hs] at this; cases this
      rw [← hqs] at HSR
      have hl0 : (0 : Int) < (len : Int) := by omega
      clear hne HQ0 hqs
      go_wp2_with fail
      refine HSR.out.mono ?_
      rintro e w3 ⟨rfl, b3⟩
      have HB3 := Lib.hid b3
      clear b3 HSR
      go_wp2_with fail
      go_meet
      exact ⟨rfl, HB3⟩
  case rest =>
  obtain ⟨rfl, HU⟩ := hcut
  generalize wc = wx at *
  have HBX := Lib.hid (HB2.out.trans (HU.out.mono HB2.out.size))
  have HVX := Lib.hid (HV2.out.below HU.out)
  clear HB2 HV2 HU
  go_wp2_with fail
  go_loopg [4, 5] len (fun kk vo vi wr => ∃ (i : Nat) (q : Bool), vi = .int .i64 (i : Int) ∧ vo = .bool q ∧ i ≤ len ∧ len - i ≤ kk ∧ Hid (QAt ys q0 i q) ∧ Hid (Below wx.heap.size wx wr))
  case atStart => exact ⟨0, q0, rfl, rfl, by omega, by omega, Lib.hid ⟨fun h => ⟨h, fun j e hj => by omega⟩, fun h => h.1⟩, Lib.hid (Below.refl _ _)⟩
  case round =>
    obtain ⟨i, q, rfl, rfl, hi, hik, HQ, HB⟩ := hrel
    by_cases h1 : i < len
    · have hi1 : (i : Int) < (len : Int) := by omega
      have hi0 : (0 : Int) ≤ (i : Int) := by omega
      obtain ⟨e, he⟩ : ∃ e, ys[i]? = some e := ⟨ys[i]'(by rw [HLN.out]; exact h1), List.getElem?_eq_getElem _⟩
      have HE := Lib.hid he
      obtain ⟨bb, ox, rfl, hblt, d0, d1, d2, d3, d4⟩ := (HVX.out.below HB.out).at5 HLN.out.symm i e he
      obtain ⟨xn, xq, xk, xs, xv⟩ := e
      simp only at d0 d1 d2 d3 d4
      clear he
      go_upto_region 10 with fail
      have hbk : BlkAt (wr.alloc (.cells #[.string xn, .int .i64 xq, .int .i64 xk, .string xs, .string xv] 39)) wr.heap.size #[.string xn, .int .i64 xq, .int .i64 xk, .string xs, .string xv] 39 := BlkAt.new _ _ _
      have hb3 := HB.out.alloc HB.out.size (.cells #[.string xn, .int .i64 xq, .int .i64 xk, .string xs, .string xv] 39)
      obtain ⟨g3, hg3⟩ : ∃ g3, wr.heap.size = g3 := ⟨_, rfl⟩
      rw [hg3] at hbk ⊢
      obtain ⟨wa, hwa⟩ : ∃ x, wr.alloc (.cells #[.string xn, .int .i64 xq, .int .i64 xk, .string xs, .string xv] 39) = x := ⟨_, rfl⟩
      rw [hwa] at hbk hb3 ⊢
      have HXB := Lib.hid hbk
      have HB3 := Lib.hid hb3
      clear hbk hb3 hwa hg3 d0 d1 d2 d3 d4 HB hblt
      obtain ⟨q2, hq2⟩ : ∃ q2 : Bool, q2 = true ↔ (q = true ∧ StepOk ys i ⟨xn, xq, xk, xs, xv⟩) := ⟨@decide (q = true ∧ StepOk ys i ⟨xn, xq, xk, xs, xv⟩) (Classical.propDecidable _), by simp⟩
      have HQ2 := Lib.hid hq2
      clear hq2
      have HQ3 : Hid (QAt ys q0 (i + 1) q2) := Lib.hid ⟨fun h => by
          obtain ⟨h1, h2⟩ := HQ2.out.1 h
          obtain ⟨h3, h4⟩ := HQ.out.1 h1
          refine ⟨h3, fun j x hj hx => ?_⟩
          rcases Nat.lt_or_ge j i with h5 | h5
          · exact h4 j x h5 hx
          · obtain rfl : j = i := by omega
            rw [HE.out] at hx
            cases hx
            exact h2, fun h => HQ2.out.2 ⟨HQ.out.2 ⟨h.1, fun j x hj hx => h.2 j x (by omega) hx⟩, h.2 i _ (by omega) HE.out⟩⟩
      clear HQ
      obtain ⟨x0, x1, x2, x3, x4⟩ := blk5 HXB.out
      clear x3
      cases q with
      | false =>
        obtain rfl : q2 = false := q2_no (fun h => by have k := HQ2.out.1 h; exact Bool.noConfusion k.1)
        clear HQ2
        go_quiet (fail)
        have HB4 := Lib.hid (HB3.out.trans ((DrN.below ⟨nq, rfl⟩ _ : Below wa.heap.size wa (wa.drewN nq)).mono HB3.out.size))
        clear HB3 HXB x0 x1 x2 x4
        generalize wa.drewN nq = wz at *
        go_wp2_with fail
        go_roundg (len - (i + 1))
        case measure => omega
        case rel => exact ⟨i + 1, false, by go_num, rfl, by omega, Nat.le_refl _, HQ3, HB4⟩
      | true =>
      by_cases k1 : xk = 1
      · subst k1
        by_cases s1 : xq < 1
        · have t1 : ¬ 1 ≤ xq := by omega
          obtain rfl : q2 = false := q2_no (fun h => by have k := HQ2.out.1 h; exact t1 k.2.1.seq1)
          clear HQ2
          go_quiet (fail)
          have HB4 := Lib.hid (HB3.out.trans ((DrN.below ⟨nq, rfl⟩ _ : Below wa.heap.size wa (wa.drewN nq)).mono HB3.out.size))
          clear HB3 HXB x0 x1 x2 x4
          generalize wa.drewN nq = wz at *
          go_wp2_with fail
          go_roundg (len - (i + 1))
          case measure => omega
          case rel => exact ⟨i + 1, false, by go_num, rfl, by omega, Nat.le_refl _, HQ3, HB4⟩
        have t1 : 1 ≤ xq := by omega
        by_cases s2 : 1125899906842624 < xq
        · have t2 : ¬ xq ≤ 1125899906842624 := by omega
          obtain rfl : q2 = false := q2_no (fun h => by have k := HQ2.out.1 h; exact t2 k.2.1.seq2)
          clear HQ2
          go_quiet (fail)
          have HB4 := Lib.hid (HB3.out.trans ((DrN.below ⟨nq, rfl⟩ _ : Below wa.heap.size wa (wa.drewN nq)).mono HB3.out.size))
          clear HB3 HXB x0 x1 x2 x4
          generalize wa.drewN nq = wz at *
          go_wp2_with fail
          go_roundg (len - (i + 1))
          case measure => omega
          case rel => exact ⟨i + 1, false, by go_num, rfl, by omega, Nat.le_refl _, HQ3, HB4⟩
        have t2 : xq ≤ 1125899906842624 := by omega
        have HRI : Hid (RightE ⟨xn, xq, 1, xs, xv⟩) := Lib.hid ⟨t1, t2, .inl rfl⟩
        rcases Nat.eq_zero_or_pos i with h0 | h0
        · subst h0
          clear s1 s2
          obtain rfl : q2 = true := HQ2.out.2 ⟨rfl, HRI.out, fun j d h => by omega⟩
          clear HQ2
          go_quiet (fail)
          have HB4 := Lib.hid (HB3.out.trans ((DrN.below ⟨nq, rfl⟩ _ : Below wa.heap.size wa (wa.drewN nq)).mono HB3.out.size))
          clear HB3 HXB x0 x1 x2 x4
          generalize wa.drewN nq = wz at *
          go_wp2_with fail
          go_roundg (len - (0 + 1))
          case measure => omega
          case rel => exact ⟨0 + 1, true, by go_num, rfl, by omega, Nat.le_refl _, HQ3, HB4⟩
        obtain ⟨j, hji⟩ : ∃ j, i = j + 1 := ⟨i - 1, by omega⟩
        obtain ⟨d, hd⟩ : ∃ d, ys[j]? = some d := ⟨ys[j]'(by have := HLN.out; omega), List.getElem?_eq_getElem _⟩
        obtain ⟨bx, oo, ebx, hblt2, p0, p1, p2, p3, p4⟩ := (HVX.out.below HB3.out).at5 HLN.out.symm j d hd
        cases ebx
        obtain ⟨pn, hpn⟩ : ∃ x, d.norm = x := ⟨_, rfl⟩
        obtain ⟨pq, hpq⟩ : ∃ x, d.seq = x := ⟨_, rfl⟩
        have HD := Lib.hid hd
        have HDN := Lib.hid hpn
        have HDQ := Lib.hid hpq
        have HJI := Lib.hid hji
        rw [hpn] at p0
        rw [hpq] at p1
        have hj : (i : Int) - 1 = (j : Int) := by omega
        have hj0 : (0 : Int) ≤ (j : Int) := by omega
        have hjl : (j : Int) < (len : Int) := by omega
        have hjz : ((i : Int) == 0) = false := by rw [beq_eq_false_iff_ne]; omega
        clear hd p2 p3 p4 hpn hpq hji h0 s1 s2
        by_cases hN : pn = xn
        · have hnn : (pn.toList == xn.toList) = true := by rw [hN]; exact bs_refl xn
          by_cases hQ : pq = xq
          · have hqq : (pq == xq) = true := by rw [beq_iff_eq]; exact hQ
            have hqn : (pq != xq) = false := by rw [bne, hqq]; rfl
            obtain rfl : q2 = false := q2_no (fun h => by have k := HQ2.out.1 h; exact k.2.2 j d HJI.out HD.out ⟨by rw [HDN.out]; exact hN.symm, by rw [HDQ.out]; exact hQ.symm⟩)
            clear HQ2
            go_quiet (fail)
            have HB4 := Lib.hid (HB3.out.trans ((DrN.below ⟨nq, rfl⟩ _ : Below wa.heap.size wa (wa.drewN nq)).mono HB3.out.size))
            clear HB3 HXB x0 x1 x2 x4
            generalize wa.drewN nq = wz at *
            go_wp2_with fail
            go_roundg (len - (i + 1))
            case measure => omega
            case rel => exact ⟨i + 1, false, by go_num, rfl, by omega, Nat.le_refl _, HQ3, HB4⟩
          · have hqq : (pq == xq) = false := by rw [beq_eq_false_iff_ne]; exact hQ
            have hqn : (pq != xq) = true := by rw [bne, hqq]; rfl
            have HOK := Lib.hid (HQ2.out.2 ⟨rfl, HRI.out, fun k x h hx hh => hQ (by
              obtain rfl : k = j := by have := HJI.out; omega
              rw [HD.out] at hx
              cases hx
              rw [← HDQ.out]; exact hh.2.symm)⟩)
            obtain rfl : q2 = true := HOK.out
            clear HQ2
            go_quiet (fail)
            have HB4 := Lib.hid (HB3.out.trans ((DrN.below ⟨nq, rfl⟩ _ : Below wa.heap.size wa (wa.drewN nq)).mono HB3.out.size))
            clear HB3 HXB x0 x1 x2 x4
            generalize wa.drewN nq = wz at *
            go_wp2_with fail
            go_roundg (len - (i + 1))
            case measure => omega
            case rel => exact ⟨i + 1, true, by go_num, rfl, by omega, Nat.le_refl _, HQ3, HB4⟩
        · have hnn := bs_ne hN
          have HOK := Lib.hid (HQ2.out.2 ⟨rfl, HRI.out, fun k x h hx hh => hN (by
            obtain rfl : k = j := by have := HJI.out; omega
            rw [HD.out] at hx
            cases hx
            rw [← HDN.out]; exact hh.1.symm)⟩)
          obtain rfl : q2 = true := HOK.out
          clear HQ2
          go_quiet (fail)
          have HB4 := Lib.hid (HB3.out.trans ((DrN.below ⟨nq, rfl⟩ _ : Below wa.heap.size wa (wa.drewN nq)).mono HB3.out.size))
          clear HB3 HXB x0 x1 x2 x4
          generalize wa.drewN nq = wz at *
          go_wp2_with fail
          go_roundg (len - (i + 1))
          case measure => omega
          case rel => exact ⟨i + 1, true, by go_num, rfl, by omega, Nat.le_refl _, HQ3, HB4⟩
      have z1 : (xk == 1) = false := by rw [beq_eq_false_iff_ne]; exact k1
      by_cases k0 : xk = 0
      · subst k0
        by_cases kv : xv = ⟨#[]⟩
        · subst kv
          by_cases s1 : xq < 1
          · have t1 : ¬ 1 ≤ xq := by omega
            obtain rfl : q2 = false := q2_no (fun h => by have k := HQ2.out.1 h; exact t1 k.2.1.seq1)
            clear HQ2
            go_quiet (fail)
            have HB4 := Lib.hid (HB3.out.trans ((DrN.below ⟨nq, rfl⟩ _ : Below wa.heap.size wa (wa.drewN nq)).mono HB3.out.size))
            clear HB3 HXB x0 x1 x2 x4
            generalize wa.drewN nq = wz at *
            go_wp2_with fail
            go_roundg (len - (i + 1))
            case measure => omega
            case rel => exact ⟨i + 1, false, by go_num, rfl, by omega, Nat.le_refl _, HQ3, HB4⟩
          have t1 : 1 ≤ xq := by omega
          by_cases s2 : 1125899906842624 < xq
          · have t2 : ¬ xq ≤ 1125899906842624 := by omega
            obtain rfl : q2 = false := q2_no (fun h => by have k := HQ2.out.1 h; exact t2 k.2.1.seq2)
            clear HQ2
            go_quiet (fail)
            have HB4 := Lib.hid (HB3.out.trans ((DrN.below ⟨nq, rfl⟩ _ : Below wa.heap.size wa (wa.drewN nq)).mono HB3.out.size))
            clear HB3 HXB x0 x1 x2 x4
            generalize wa.drewN nq = wz at *
            go_wp2_with fail
            go_roundg (len - (i + 1))
            case measure => omega
            case rel => exact ⟨i + 1, false, by go_num, rfl, by omega, Nat.le_refl _, HQ3, HB4⟩
          have t2 : xq ≤ 1125899906842624 := by omega
          have HRI : Hid (RightE ⟨xn, xq, 0, xs, ⟨#[]⟩⟩) := Lib.hid ⟨t1, t2, .inr ⟨rfl, rfl⟩⟩
          rcases Nat.eq_zero_or_pos i with h0 | h0
          · subst h0
            clear s1 s2
            obtain rfl : q2 = true := HQ2.out.2 ⟨rfl, HRI.out, fun j d h => by omega⟩
            clear HQ2
            go_quiet (fail)
            have HB4 := Lib.hid (HB3.out.trans ((DrN.below ⟨nq, rfl⟩ _ : Below wa.heap.size wa (wa.drewN nq)).mono HB3.out.size))
            clear HB3 HXB x0 x1 x2 x4
            generalize wa.drewN nq = wz at *
            go_wp2_with fail
            go_roundg (len - (0 + 1))
            case measure => omega
            case rel => exact ⟨0 + 1, true, by go_num, rfl, by omega, Nat.le_refl _, HQ3, HB4⟩
          obtain ⟨j, hji⟩ : ∃ j, i = j + 1 := ⟨i - 1, by omega⟩
          obtain ⟨d, hd⟩ : ∃ d, ys[j]? = some d := ⟨ys[j]'(by have := HLN.out; omega), List.getElem?_eq_getElem _⟩
          obtain ⟨bx, oo, ebx, hblt2, p0, p1, p2, p3, p4⟩ := (HVX.out.below HB3.out).at5 HLN.out.symm j d hd
          cases ebx
          obtain ⟨pn, hpn⟩ : ∃ x, d.norm = x := ⟨_, rfl⟩
          obtain ⟨pq, hpq⟩ : ∃ x, d.seq = x := ⟨_, rfl⟩
          have HD := Lib.hid hd
          have HDN := Lib.hid hpn
          have HDQ := Lib.hid hpq
          have HJI := Lib.hid hji
          rw [hpn] at p0
          rw [hpq] at p1
          have hj : (i : Int) - 1 = (j : Int) := by omega
          have hj0 : (0 : Int) ≤ (j : Int) := by omega
          have hjl : (j : Int) < (len : Int) := by omega
          have hjz : ((i : Int) == 0) = false := by rw [beq_eq_false_iff_ne]; omega
          clear hd p2 p3 p4 hpn hpq hji h0 s1 s2
          by_cases hN : pn = xn
          · have hnn : (pn.toList == xn.toList) = true := by rw [hN]; exact bs_refl xn
            by_cases hQ : pq = xq
            · have hqq : (pq == xq) = true := by rw [beq_iff_eq]; exact hQ
              have hqn : (pq != xq) = false := by rw [bne, hqq]; rfl
              obtain rfl : q2 = false := q2_no (fun h => by have k := HQ2.out.1 h; exact k.2.2 j d HJI.out HD.out ⟨by rw [HDN.out]; exact hN.symm, by rw [HDQ.out]; exact hQ.symm⟩)
              clear HQ2
              go_quiet (fail)
              have HB4 := Lib.hid (HB3.out.trans ((DrN.below ⟨nq, rfl⟩ _ : Below wa.heap.size wa (wa.drewN nq)).mono HB3.out.size))
              clear HB3 HXB x0 x1 x2 x4
              generalize wa.drewN nq = wz at *
              go_wp2_with fail
              go_roundg (len - (i + 1))
              case measure => omega
              case rel => exact ⟨i + 1, false, by go_num, rfl, by omega, Nat.le_refl _, HQ3, HB4⟩
            · have hqq : (pq == xq) = false := by rw [beq_eq_false_iff_ne]; exact hQ
              have hqn : (pq != xq) = true := by rw [bne, hqq]; rfl
              have HOK := Lib.hid (HQ2.out.2 ⟨rfl, HRI.out, fun k x h hx hh => hQ (by
                obtain rfl : k = j := by have := HJI.out; omega
                rw [HD.out] at hx
                cases hx
                rw [← HDQ.out]; exact hh.2.symm)⟩)
              obtain rfl : q2 = true := HOK.out
              clear HQ2
              go_quiet (fail)
              have HB4 := Lib.hid (HB3.out.trans ((DrN.below ⟨nq, rfl⟩ _ : Below wa.heap.size wa (wa.drewN nq)).mono HB3.out.size))
              clear HB3 HXB x0 x1 x2 x4
              generalize wa.drewN nq = wz at *
              go_wp2_with fail
              go_roundg (len - (i + 1))
              case measure => omega
              case rel => exact ⟨i + 1, true, by go_num, rfl, by omega, Nat.le_refl _, HQ3, HB4⟩
          · have hnn := bs_ne hN
            have HOK := Lib.hid (HQ2.out.2 ⟨rfl, HRI.out, fun k x h hx hh => hN (by
              obtain rfl : k = j := by have := HJI.out; omega
              rw [HD.out] at hx
              cases hx
              rw [← HDN.out]; exact hh.1.symm)⟩)
            obtain rfl : q2 = true := HOK.out
            clear HQ2
            go_quiet (fail)
            have HB4 := Lib.hid (HB3.out.trans ((DrN.below ⟨nq, rfl⟩ _ : Below wa.heap.size wa (wa.drewN nq)).mono HB3.out.size))
            clear HB3 HXB x0 x1 x2 x4
            generalize wa.drewN nq = wz at *
            go_wp2_with fail
            go_roundg (len - (i + 1))
            case measure => omega
            case rel => exact ⟨i + 1, true, by go_num, rfl, by omega, Nat.le_refl _, HQ3, HB4⟩
        · have hv := empty_no kv
          have hv2 := bs_ne kv
          obtain rfl : q2 = false := q2_no (fun h => by have k := HQ2.out.1 h; exact k.2.1.kind.elim (fun h => absurd (show (0 : Int) = 1 from h) (by decide)) (fun h => kv h.2))
          clear HQ2
          go_quiet (fail)
          have HB4 := Lib.hid (HB3.out.trans ((DrN.below ⟨nq, rfl⟩ _ : Below wa.heap.size wa (wa.drewN nq)).mono HB3.out.size))
          clear HB3 HXB x0 x1 x2 x4
          generalize wa.drewN nq = wz at *
          go_wp2_with fail
          go_roundg (len - (i + 1))
          case measure => omega
          case rel => exact ⟨i + 1, false, by go_num, rfl, by omega, Nat.le_refl _, HQ3, HB4⟩
      have z0 : (xk == 0) = false := by rw [beq_eq_false_iff_ne]; exact k0
      obtain rfl : q2 = false := q2_no (fun h => by have k := HQ2.out.1 h; exact k.2.1.kind.elim k1 (fun h => k0 h.1))
      clear HQ2
      go_quiet (fail)
      have HB4 := Lib.hid (HB3.out.trans ((DrN.below ⟨nq, rfl⟩ _ : Below wa.heap.size wa (wa.drewN nq)).mono HB3.out.size))
      clear HB3 HXB x0 x1 x2 x4
      generalize wa.drewN nq = wz at *
      go_wp2_with fail
      go_roundg (len - (i + 1))
      case measure => omega
      case rel => exact ⟨i + 1, false, by go_num, rfl, by omega, Nat.le_refl _, HQ3, HB4⟩
    · obtain rfl : i = len := by omega
      have hi1 : ¬ (i : Int) < (i : Int) := by omega
      have HQA : Hid (q = true ↔ AreP ys) := Lib.hid ⟨fun h => by
          obtain ⟨h1, h2⟩ := HQ.out.1 h
          obtain ⟨h3, h4⟩ := HQ0.out.1 h1
          exact ⟨h3, h4, fun j e hj => h2 j e (by rw [← HLN.out]; exact (List.getElem?_eq_some_iff.1 hj).1) hj⟩, fun h => HQ.out.2 ⟨HQ0.out.2 ⟨h.1, h.2.1⟩, fun j e _ hj => h.2.2 j e hj⟩⟩
      have HBR := Lib.hid (HBX.out.trans (HB.out.mono HBX.out.size))
      have HVR := Lib.hid (HVX.out.below HB.out)
      clear HQ HQ0 HBX HVX HB
      by_cases hA : AreP ys
      · obtain rfl : q = true := HQA.out.2 hA
        have HBD := Lib.hid (build_good ys hA.1 (by rw [HLN.out]; omega) hA (fun e he => cutOk_fit (HCO.out e he)) (.slice a i cap) wr (HT.out.below HBR.out) HVR.out)
        clear hA HQA
        go_wp2_with fail
        refine HBD.out.mono ?_
        rintro e w3 ⟨v3, ps, ss, rfl, hmd, o3, b3⟩
        obtain ⟨a3, n3, c3, rfl, hn3, -⟩ := o3.form
        have HB3 := Lib.hid (HBR.out.trans (b3.mono HBR.out.size))
        have hnp : 0 < n3 := by
          have h : (madeB ps ss).length = _ := togB_len _ _ _
          unfold sizeT at h
          omega
        have HNP := Lib.hid hnp
        clear hmd o3 b3 hn3 HBD HBR hnp
        go_wp2_with fail
        go_ret
        exact ⟨congrArg (fun b => Ending.returned (.bool b)) (by simp [HNP.out]), HB3.out⟩
      · obtain rfl : q = false := q2_no fun h => hA (HQA.out.1 h)
        have HBD := Lib.hid (build_no (.slice a i cap) ys (by rw [HLN.out]; omega) hA wr HVR.out)
        clear hA HQA
        go_wp2_with fail
        refine HBD.out.mono ?_
        rintro e w3 ⟨rfl, b3⟩
        have HB3 := Lib.hid (HBR.out.trans (b3.mono HBR.out.size))
        clear b3 HBD HBR
        go_wp2_with fail
        go_ret
        exact ⟨rfl, HB3.out⟩
end Go.Proofs.YtennpdhnjaemeaaDoor
