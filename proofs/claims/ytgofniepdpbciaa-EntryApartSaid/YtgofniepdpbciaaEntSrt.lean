/- The walk of the laws' Sort. -/
import Derived.Test.YtgofniepdpbciaaEntInto
import Derived.Deep.CutBlock
import Derived.Deep.QuietTactic
import Derived.BigQuiet
namespace Go.Proofs.Ytgofniepdpbciaa
set_option linter.unusedVariables false
open Go.RowKit
def SortRes (w : World) (e : Ending) (w' : World) : Prop := ∃ v ys, e = .returned v ∧ OwnK encEnt 5 23 w.heap.size w' v ys ∧ ys.length ≤ 30 ∧ srtB ys = true ∧ Below w.heap.size w w'
/-- Where a round stands: the list as it was in a world ahead of block g, and what came since leaves it. -/
def Stands (w wx : World) (g : Nat) (v : Value) (ys : List Ent) : Prop := ∃ w2, OwnK encEnt 5 23 w.heap.size w2 v ys ∧ Below w.heap.size w w2 ∧ Below w2.heap.size w2 wx ∧ w2.heap.size ≤ g
theorem Stands.own {w wx : World} {g : Nat} {v : Value} {ys : List Ent} (h : Stands w wx g v ys) : OwnK encEnt 5 23 w.heap.size wx v ys := by
  obtain ⟨w2, h1, h2, h3, h4⟩ := h
  exact h1.below h3
theorem Stands.bel {w wx : World} {g : Nat} {v : Value} {ys : List Ent} (h : Stands w wx g v ys) : Below w.heap.size w wx := by
  obtain ⟨w2, h1, h2, h3, h4⟩ := h
  exact h2.trans (h3.mono h2.size)
theorem Stands.set {w wx : World} {g o : Nat} {v u : Value} {ys : List Ent} (h : Stands w wx g v ys) : Stands w (wx.setCell ⟨g, o, none⟩ u) g v ys := by
  obtain ⟨w2, h1, h2, h3, h4⟩ := h
  exact ⟨w2, h1, h2, h3.setCell h4 _, h4⟩
theorem Stands.drew {w wx : World} {g : Nat} {v : Value} {ys : List Ent} (h : Stands w wx g v ys) (m : Nat) : Stands w (wx.drewN m) g v ys := by
  obtain ⟨w2, h1, h2, h3, h4⟩ := h
  exact ⟨w2, h1, h2, h3.trans (DrN.below ⟨m, rfl⟩ _), h4⟩
theorem Row5.set4 {w : World} {b : Nat} {v0 v1 v2 v3 v4 : Value} (h : Row5 w b v0 v1 v2 v3 v4) (u : Value) : Row5 (w.setCell ⟨b, 4, none⟩ u) b v0 v1 v2 v3 u := by
  obtain ⟨⟨c0, c1, c2, c3, c4⟩, ⟨f0, f1, f2, f3, f4⟩, h5⟩ := h
  refine ⟨⟨?_, ?_, ?_, ?_, ?_⟩, ⟨?_, ?_, ?_, ?_, ?_⟩, by simpa using h5⟩ <;> simp [go_sem, c0, c1, c2, c3, c4, f0, f1, f2, f3, f4]
theorem OwnK.form {w : World} {B : Nat} {v : Value} {ys : List Ent} (h : OwnK encEnt 5 23 B w v ys) : ∃ a len cap, v = .slice a len cap ∧ len = ys.length ∧ len ≤ cap ∧ cap ≤ maxLen := by
  rcases h.blk with ⟨rfl, rfl⟩ | ⟨g, cap, cur, e1, e2, e3, e4, e5, e6, -⟩
  · exact ⟨none, 0, 0, rfl, rfl, Nat.le_refl _, by unfold maxLen; omega⟩
  · exact ⟨_, _, cap, e1, rfl, e5, e6⟩
/-- somebody ahead of place k has that norm and that number -/
def Seen (ys : List Ent) (n : ByteArray) (q : Int) (k : Nat) (t : Bool) : Prop := t = true ↔ ∃ (m : Nat) (y : Ent), m < k ∧ ys[m]? = some y ∧ y.norm = n ∧ y.seq = q
theorem Seen.zero (ys : List Ent) (n : ByteArray) (q : Int) : Seen ys n q 0 false := by
  unfold Seen
  constructor
  · intro h; cases h
  · rintro ⟨m, y, h, -⟩; omega
theorem Seen.next {ys : List Ent} {n : ByteArray} {q : Int} {k : Nat} {t : Bool} (h : Seen ys n q k t) {y : Ent} (hy : ys[k]? = some y) (u : Bool) (hu : u = (t || (decide (y.norm = n) && decide (y.seq = q)))) : Seen ys n q (k + 1) u := by
  subst hu
  unfold Seen at h ⊢
  constructor
  · intro hh
    rcases Bool.or_eq_true_iff.1 hh with h1 | h1
    · obtain ⟨m, z, hm, hz, e⟩ := h.1 h1
      exact ⟨m, z, by omega, hz, e⟩
    · rw [Bool.and_eq_true, decide_eq_true_eq, decide_eq_true_eq] at h1
      exact ⟨k, y, by omega, hy, h1⟩
  · rintro ⟨m, z, hm, hz, e1, e2⟩
    rw [Bool.or_eq_true_iff]
    rcases Nat.lt_or_ge m k with h1 | h1
    · exact .inl (h.2 ⟨m, z, h1, hz, e1, e2⟩)
    · obtain rfl : m = k := by omega
      rw [hy] at hz
      obtain rfl := Option.some.inj hz
      right; simp [e1, e2]
theorem Seen.none {ys : List Ent} {n : ByteArray} {q : Int} {k : Nat} (h : Seen ys n q k false) (hk : ys.length ≤ k) : ∀ x ∈ ys, ¬ (x.norm = n ∧ x.seq = q) := by
  intro x hx hh
  obtain ⟨m, hm, rfl⟩ := List.mem_iff_getElem.1 hx
  have := h.2 ⟨m, _, by omega, List.getElem?_eq_getElem hm, hh⟩
  cases this
set_option maxHeartbeats 8000000 in
set_option maxRecDepth 100000 in
theorem sort_any (v : Value) (xs : List Ent) (hok : ∀ e ∈ xs, e.ok) (w : World) (hrd : RdK encEnt 5 w v xs) :
    Calls Try.prog 14 #[v, .int .i64 30] w (SortRes w) := by
  obtain ⟨a, len, cap, rfl, hlen⟩ := rdK_len hrd
  have HOK := Lib.hid hok
  have HRD := Lib.hid hrd
  have HN := Lib.hid hlen
  clear hrd hlen hok
  go_enter Try.func14, Try.ntmps14
  go_wp2_with fail
  go_loopg [5, 6, 7, 8, 9] len (fun kk vo vi _ _ _ wr => ∃ (i : Nat) (ys : List Ent), vi = .int .i64 i ∧ i ≤ len ∧ i ≤ 30 ∧ len - i ≤ kk ∧ ys.length ≤ i ∧ Hid (OwnK encEnt 5 23 w.heap.size wr vo ys ∧ Below w.heap.size w wr ∧ srtB ys = true))
  case atStart => exact ⟨0, [], rfl, by omega, by omega, by omega, by simp, Lib.hid ⟨OwnK.nil _ _ _ _ _, Below.refl _ _, rfl⟩⟩
  case round =>
    obtain ⟨i, ys, rfl, hi, hi30, hik, hys, HO⟩ := hrel
    have hi0 : (0 : Int) ≤ (i : Int) := by omega
    by_cases h1 : i < len
    · have hd1 : decide (i < len) = true := decide_eq_true h1
      by_cases h2 : i < 30
      · have h2i : (i : Int) < 30 := by omega
        have hil : (i : Int) < (len : Int) := by omega
        obtain ⟨x, hx⟩ : ∃ x, xs[i]? = some x := ⟨xs[i]'(by have := HN.out; omega), List.getElem?_eq_getElem _⟩
        obtain ⟨b, off, rfl, hblt, d0, d1, d2, d3, d4⟩ := (HRD.out.below HO.out.2.1).at5 HN.out i x hx
        have HC : Hid (∀ w, Calls Try.prog 8 #[x.v] w (CutE x w)) := Lib.hid (ecut_any x (HOK.out x (List.mem_of_getElem? hx)))
        obtain ⟨xn, xq, xk, xsp, xv⟩ := x
        simp only at d0 d1 d2 d3 d4
        clear hx
        obtain ⟨va, vlen, vcap, rfl, hvl, hvc, hvm⟩ := HO.out.1.form
        have HVL := Lib.hid hvl
        have hv30 : vlen ≤ 30 := by omega
        clear hvl
        unfold maxLen at hvm
        go_upto_region 5 with fail
        go_cut [7] (fun p wx => ∃ (g : Nat) (cn csp cv : ByteArray) (cq ck : Int), p = .pointer (some ⟨g, 0, none⟩) ∧ Hid (Row5 wx g (.string cn) (.int .i64 cq) (.int .i64 ck) (.string csp) (.string cv)) ∧ Hid (Stands w wx g (.slice va vlen vcap) ys))
        case first =>
          go_wp2_with fail
          refine (HC.out _).mono ?_
          rintro e w2 ⟨⟨cn, cq, ck, csp, cv⟩, rfl, -, -, -, -, -, hb⟩
          have HO2 : Hid (OwnK encEnt 5 23 w.heap.size w2 (.slice va vlen vcap) ys ∧ Below w.heap.size w w2) := Lib.hid ⟨HO.out.1.below hb, HO.out.2.1.trans (hb.mono HO.out.2.1.size)⟩
          clear hb d0 d1 d2 d3 d4 HC
          unfold Ent.v
          go_wp2_with fail
          go_meet
          exact ⟨w2.heap.size, cn, csp, cv, cq, ck, rfl, Lib.hid (Row5.new w2 _ _ _ _ _ _), Lib.hid ⟨w2, HO2.out.1, HO2.out.2, (Below.refl _ w2).alloc (Nat.le_refl _) _, Nat.le_refl _⟩⟩
        case rest =>
        obtain ⟨g, cn, csp, cv, cq, ck, rfl, HR5, HST⟩ := hcut
        clear d0 d1 d2 d3 d4 HC hblt
        have HOB : Hid (OwnK encEnt 5 23 w.heap.size wc (.slice va vlen vcap) ys ∧ Below w.heap.size w wc ∧ srtB ys = true) := Lib.hid ⟨HST.out.own, HST.out.bel, HO.out.2.2⟩
        have HSRT := Lib.hid HO.out.2.2
        clear HO
        obtain ⟨⟨c0, c1, c2, c3, c4⟩, ⟨f0, f1, f2, f3, f4⟩, hg⟩ := id HR5.out
        by_cases q1 : cq < 1
        · clear HR5 HST HSRT f0 f1 f2 f3 f4
          go_wp2_with fail
          go_roundg (len - (i + 1))
          case measure => omega
          case rel => exact ⟨i + 1, ys, by go_num, by omega, by omega, Nat.le_refl _, by have := HVL.out; omega, HOB⟩
        by_cases q2 : 1125899906842624 < cq
        · clear HR5 HST HSRT f0 f1 f2 f3 f4
          go_wp2_with fail
          go_roundg (len - (i + 1))
          case measure => omega
          case rel => exact ⟨i + 1, ys, by go_num, by omega, by omega, Nat.le_refl _, by have := HVL.out; omega, HOB⟩
        by_cases q3 : ck = 1 ∨ ck = 0
        · go_upto_region 6 with fail
          go_cut [43] (fun c wx => c = .bool false ∧ wc = wx)
          case first =>
            clear HR5 HST HSRT HOB
            rcases q3 with rfl | rfl
            · go_wp2_with fail
              go_meet
              exact ⟨rfl, rfl⟩
            · go_wp2_with fail
              go_meet
              exact ⟨rfl, rfl⟩
          case rest =>
          obtain ⟨rfl, rfl⟩ := hcut
          clear HOB
          go_upto_if 46 with fail
          go_cut [] (fun wx => ∃ cv' : ByteArray, Hid (Row5 wx g (.string cn) (.int .i64 cq) (.int .i64 ck) (.string csp) (.string cv')) ∧ Hid (Stands w wx g (.slice va vlen vcap) ys))
          case first =>
            rcases q3 with rfl | rfl
            · go_wp2_with fail
              go_meet
              exact ⟨cv, HR5, HST⟩
            · go_wp2_with fail
              go_meet
              exact ⟨⟨#[]⟩, Lib.hid (HR5.out.set4 _), Lib.hid HST.out.set⟩
          case rest =>
          clear HR5 HST c0 c1 c2 c3 c4 f0 f1 f2 f3 f4 hg
          obtain ⟨cv', HR5, HST⟩ := hcut
          go_wp2_with fail
          go_loopg [8, 9] vlen (fun kk vt vk wr => ∃ (k : Nat) (t : Bool), vt = .bool t ∧ vk = .int .i64 k ∧ k ≤ vlen ∧ vlen - k ≤ kk ∧ Hid (Seen ys cn cq k t) ∧ Hid (Stands w wr g (.slice va vlen vcap) ys) ∧ Hid (Row5 wr g (.string cn) (.int .i64 cq) (.int .i64 ck) (.string csp) (.string cv')))
          case atStart => exact ⟨0, false, rfl, rfl, by omega, by omega, Lib.hid (Seen.zero ..), HST, HR5⟩
          case round =>
            clear HR5 HST
            obtain ⟨k, t, rfl, rfl, hk1, hk2, HS, HST, HR5⟩ := hrel
            have hk0 : (0 : Int) ≤ (k : Int) := by omega
            obtain ⟨⟨c0, c1, c2, c3, c4⟩, -, hg⟩ := id HR5.out
            by_cases hk : k < vlen
            · have hkd : decide (k < vlen) = true := decide_eq_true hk
              have hki : (k : Int) < (vlen : Int) := by omega
              obtain ⟨y, hy⟩ : ∃ y, ys[k]? = some y := ⟨ys[k]'(by have := HVL.out; omega), List.getElem?_eq_getElem _⟩
              obtain ⟨bb, oo, rfl, hblt, e0, e1, e2, e3, e4⟩ := (HST.out.own.rd encEnt_len).at5 HVL.out k y hy
              have HSN : Hid (∀ u : Bool, u = (t || (decide (y.norm = cn) && decide (y.seq = cq))) → Seen ys cn cq (k + 1) u) := Lib.hid fun u hu => HS.out.next hy u hu
              obtain ⟨yn, yq, yk, ysp, yv⟩ := y
              simp only at e0 e1 e2 e3 e4
              clear hy HS
              cases t with
              | true =>
                have HS2 := Lib.hid (HSN.out true (by simp))
                go_wp2_with fail
                go_quiet (fail)
                go_wp2_with fail
                go_roundg (vlen - (k + 1))
                case measure => omega
                case rel => exact ⟨k + 1, true, rfl, by go_num, by omega, Nat.le_refl _, HS2, Lib.hid (HST.out.drew _), HR5⟩
              | false =>
                by_cases h3 : yn = cn
                · subst h3
                  have hnn := bs_refl yn
                  by_cases h4 : yq = cq
                  · subst h4
                    have hqq : (yq == yq) = true := by simp
                    have HS2 := Lib.hid (HSN.out true (by simp))
                    go_wp2_with fail
                    go_quiet (fail)
                    go_wp2_with fail
                    go_roundg (vlen - (k + 1))
                    case measure => omega
                    case rel => exact ⟨k + 1, true, rfl, by go_num, by omega, Nat.le_refl _, HS2, Lib.hid (HST.out.drew _), HR5⟩
                  · have hqq : (yq == cq) = false := by rw [beq_eq_false_iff_ne]; exact h4
                    have HS2 := Lib.hid (HSN.out false (by simp [h4]))
                    go_wp2_with fail
                    go_quiet (fail)
                    go_wp2_with fail
                    go_roundg (vlen - (k + 1))
                    case measure => omega
                    case rel => exact ⟨k + 1, false, rfl, by go_num, by omega, Nat.le_refl _, HS2, Lib.hid (HST.out.drew _), HR5⟩
                · have hnn := bs_ne h3
                  have HS2 := Lib.hid (HSN.out false (by simp [h3]))
                  go_wp2_with fail
                  go_quiet (fail)
                  go_wp2_with fail
                  go_roundg (vlen - (k + 1))
                  case measure => omega
                  case rel => exact ⟨k + 1, false, rfl, by go_num, by omega, Nat.le_refl _, HS2, Lib.hid (HST.out.drew _), HR5⟩
            · have hkd : decide (k < vlen) = false := decide_eq_false hk
              have hkv : ys.length ≤ k := by have := HVL.out; omega
              cases t with
              | true =>
                have HOB : Hid (OwnK encEnt 5 23 w.heap.size wr (.slice va vlen vcap) ys ∧ Below w.heap.size w wr ∧ srtB ys = true) := Lib.hid ⟨HST.out.own, HST.out.bel, HSRT.out⟩
                clear HST HR5 HS
                go_wp2_with fail
                go_roundg (len - (i + 1))
                case measure => omega
                case rel => exact ⟨i + 1, ys, by go_num, by omega, by omega, Nat.le_refl _, by have := HVL.out; omega, HOB⟩
              | false =>
                have HNO := Lib.hid (HS.out.none hkv)
                have HI := Lib.hid (into_any va vlen vcap ys (by have := HVL.out; omega) hvc (by unfold maxLen; omega) ⟨cn, cq, ck, csp, cv'⟩ wr (HST.out.own.rd encEnt_len))
                clear HS
                go_wp2_with fail
                refine HI.out.mono ?_
                rintro e w9 ⟨v9, rfl, o9, b9⟩
                have HO9 : Hid (OwnK encEnt 5 23 w.heap.size w9 v9 (intoE ⟨cn, cq, ck, csp, cv'⟩ ys) ∧ Below w.heap.size w w9 ∧ srtB (intoE ⟨cn, cq, ck, csp, cv'⟩ ys) = true) := Lib.hid
                  ⟨o9.base HST.out.bel.size, HST.out.bel.trans (b9.mono HST.out.bel.size), (srtB_pair _).2 (intoE_pair ((srtB_pair _).1 HSRT.out) HNO.out)⟩
                have HL9 : Hid ((intoE ⟨cn, cq, ck, csp, cv'⟩ ys).length ≤ i + 1) := Lib.hid (by rw [intoE_len]; omega)
                clear o9 b9 HI HST HR5 HNO HSRT
                go_wp2_with fail
                go_roundg (len - (i + 1))
                case measure => omega
                case rel => exact ⟨i + 1, _, by go_num, by omega, by omega, Nat.le_refl _, HL9.out, HO9⟩
        · have q4 : ¬ ck = 1 := fun h => q3 (.inl h)
          have q5 : ¬ ck = 0 := fun h => q3 (.inr h)
          have qb1 : (ck != 1) = true := by simp [q4]
          have qb2 : (ck != 0) = true := by simp [q5]
          clear HR5 HST HSRT f0 f1 f2 f3 f4 q3
          go_wp2_with fail
          go_roundg (len - (i + 1))
          case measure => omega
          case rel => exact ⟨i + 1, ys, by go_num, by omega, by omega, Nat.le_refl _, by have := HVL.out; omega, HOB⟩
      · have h2i : ¬ (i : Int) < 30 := by omega
        go_wp2_with fail
        go_ret
        exact ⟨_, _, rfl, HO.out.1, by omega, HO.out.2.2, HO.out.2.1⟩
    · have hd1 : decide (i < len) = false := decide_eq_false h1
      go_wp2_with fail
      go_ret
      exact ⟨_, _, rfl, HO.out.1, by omega, HO.out.2.2, HO.out.2.1⟩
end Go.Proofs.Ytgofniepdpbciaa
