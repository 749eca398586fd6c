/- The reference's Check: the same answer as the program's. -/
import Derived.Test.YtjhkfjbgdaomeaaGreatDoorMOp
import Derived.Test.YtjhkfjbgdaomeaaGreatDoorMKey
import Derived.Test.YtjhkfjbgdaomeaaGreatDoorMBase
import Derived.Deep.LoopGhost
import Derived.Deep.DeepCutAuto
namespace Go.Proofs.YtjhkfjbgdaomeaaGreatDoor
set_option linter.unusedVariables false
open Go.RowKit
/-- A change whose form is wrong. -/
def badF (x : Opn) : Prop := ¬ x.kind = 1 ∧ (¬ x.kind = 0 ∨ 0 < x.val.size)
theorem opErr_bad {x : Opn} (h : badF x) : opErr x = 12 := if_pos h
theorem opErr_good {x : Opn} (h : ¬ badF x) : opErr x = if keyP x.sp.data.toList = Option.none then 1 else if 1048576 < x.val.size then 2 else 0 := if_neg h
theorem badF_cases (x : Opn) : (x.kind = 1 ∧ ¬ badF x) ∨ (x.kind = 0 ∧ 0 < x.val.size ∧ badF x) ∨ (x.kind = 0 ∧ ¬ 0 < x.val.size ∧ ¬ badF x) ∨ (¬ x.kind = 1 ∧ ¬ x.kind = 0 ∧ badF x) := by
  unfold badF
  omega
set_option maxHeartbeats 8000000 in
set_option maxRecDepth 100000 in
theorem rcheck_any (v : Value) (l : List Opn) (hok : ∀ o ∈ l, o.ok) (hlm : l.length ≤ 1000000000000) (w : World) (hrd : RdK encOp 3 w v l) :
    Calls Tryz.prog 13 #[v] w fun e w' => e = .returned (.int .i64 (checkP l)) ∧ Below w.heap.size w w' := by
  obtain ⟨V, hV⟩ : ∃ V, checkP l = V := ⟨_, rfl⟩
  rw [hV]
  obtain ⟨a, len, cap, rfl, hlen⟩ := rdO_len hrd
  have HN := Lib.hid hlen
  have HRD := Lib.hid hrd
  have HOK := Lib.hid hok
  have hlb : len ≤ 1000000000000 := by omega
  by_cases hc1 : len < 1
  · obtain rfl : V = 12 := by rw [← hV]; unfold checkP; rw [if_pos (by omega)]
    have d1 : decide (len < 1) = true := decide_eq_true hc1
    clear hV hrd hlen hok hlm hlb
    go_enter Tryz.func13, Tryz.ntmps13
    go_wp2_with fail
    go_ret
    exact ⟨rfl, Below.refl _ _⟩
  have d1 : decide (len < 1) = false := decide_eq_false hc1
  by_cases hc2 : 50 < len
  · obtain rfl : V = 12 := by rw [← hV]; unfold checkP; rw [if_pos (by omega)]
    have d2 : decide (50 < len) = true := decide_eq_true hc2
    clear hV hrd hlen hok hlm hlb
    go_enter Tryz.func13, Tryz.ntmps13
    go_wp2_with fail
    go_ret
    exact ⟨rfl, Below.refl _ _⟩
  have d2 : decide (50 < len) = false := decide_eq_false hc2
  have HVF : Hid (V = firstErr l) := Lib.hid (by rw [← hV]; unfold checkP; rw [if_neg (by omega)])
  clear hV hrd hlen hok hlm
  go_enter Tryz.func13, Tryz.ntmps13
  go_wp2_with fail
  go_loopg [3] len (fun kk vi wr => ∃ i : Nat, vi = .int .i64 i ∧ i ≤ len ∧ len - i ≤ kk ∧ Hid (∀ j y, j < i → l[j]? = some y → opErr y = 0) ∧ Hid (Below w.heap.size w wr))
  case atStart => exact ⟨0, by go_num, by omega, by omega, Lib.hid (fun j y hj => by omega), Lib.hid (Below.refl _ _)⟩
  case round =>
    obtain ⟨q, rfl, hq, hkk, HG, HB⟩ := hrel
    by_cases h1 : q < len
    · have hd1 : decide (q < len) = true := decide_eq_true h1
      obtain ⟨x, hx⟩ : ∃ x, l[q]? = some x := ⟨l[q]'(by have := HN.out; omega), List.getElem?_eq_getElem _⟩
      obtain ⟨b, off, rfl, hblt, e0, e1, e2⟩ := (HRD.out.below HB.out).at3 q x hx
      have HX := Lib.hid hx
      obtain ⟨hx1, hx2⟩ := HOK.out x (List.mem_of_getElem? hx)
      have hal : Below w.heap.size w (wr.alloc (.cells #[.int .i64 x.kind, .string x.sp, .string x.val] 49)) := HB.out.alloc HB.out.size _
      have HR3 := Lib.hid (Row3.new wr (.int .i64 x.kind) (.string x.sp) (.string x.val) 49)
      have HAL := Lib.hid hal
      have HKY : Hid (∀ W, Calls Tryz.prog 30 #[.string x.sp] W (TextRes W (keyP x.sp.data.toList))) := Lib.hid fun W => rkey_any x.sp hx1 W
      have HV2 := Lib.hid hx2
      obtain ⟨Q, hQ⟩ : ∃ Q : Bool, (Q = true ↔ badF x) := by
        by_cases h : badF x
        · exact ⟨true, by simp [h]⟩
        · exact ⟨false, by simp [h]⟩
      have HQ := Lib.hid hQ
      have HE1 : Hid (badF x → opErr x = 12) := Lib.hid opErr_bad
      have HE2 : Hid (¬ badF x → opErr x = if keyP x.sp.data.toList = Option.none then 1 else if 1048576 < x.val.size then 2 else 0) := Lib.hid opErr_good
      have HBC := Lib.hid (badF_cases x)
      have HFE : Hid (∀ E, opErr x = E → ¬ E = 0 → V = E) := Lib.hid fun E h1 h2 => by rw [HVF.out, ← h1]; exact firstErr_at HG.out hx (by rw [h1]; exact h2)
      unfold maxLen at hx2
      generalize hXK : x.kind = kind at *
      generalize hXS : x.sp = sp at *
      generalize hXV : x.val = val at *
      clear hal hx hx1 hQ hXK hXS hXV
      go_upto_region 7 with fail
      obtain ⟨⟨c0, c1, c2⟩, ⟨f0, f1, f2⟩, hz3⟩ := HR3.out
      generalize hSZ : wr.heap.size = g at *
      generalize wr.alloc (.cells #[.int .i64 kind, .string sp, .string val] 49) = W1 at *
      clear e0 e1 e2 HB
      go_cut [42] (fun v wx => v = .bool Q ∧ W1 = wx)
      case first =>
        rcases HBC.out with ⟨k1, hb⟩ | ⟨k0, hv, hb⟩ | ⟨k0, hv, hb⟩ | ⟨k1, k0, hb⟩
        · obtain rfl : Q = false := by rw [← Bool.not_eq_true, HQ.out]; exact hb
          have n1 : (kind != 1) = false := by rw [k1]; rfl
          have n2 : (kind == 0) = false := by rw [k1]; rfl
          clear HBC HE1 HE2 HFE hb k1
          go_wp2_with fail
          go_meet
          exact ⟨rfl, rfl⟩
        · obtain rfl : Q = true := HQ.out.2 hb
          have n1 : (kind != 1) = true := by rw [k0]; rfl
          have n2 : (kind != 0) = false := by rw [k0]; rfl
          have n3 : (kind == 0) = true := by rw [k0]; rfl
          have n4 := isEmpty_no hv
          clear HBC HE1 HE2 HFE hb k0 hv
          go_wp2_with fail
          go_meet
          exact ⟨rfl, rfl⟩
        · obtain rfl : Q = false := by rw [← Bool.not_eq_true, HQ.out]; exact hb
          have n1 : (kind != 1) = true := by rw [k0]; rfl
          have n2 : (kind != 0) = false := by rw [k0]; rfl
          have n3 : (kind == 0) = true := by rw [k0]; rfl
          have n4 := isEmpty_yes hv
          clear HBC HE1 HE2 HFE hb k0 hv
          go_wp2_with fail
          go_meet
          exact ⟨rfl, rfl⟩
        · obtain rfl : Q = true := HQ.out.2 hb
          have n1 : (kind != 1) = true := by rw [bne_iff_ne]; exact k1
          have n2 : (kind != 0) = true := by rw [bne_iff_ne]; exact k0
          clear HBC HE1 HE2 HFE hb k0 k1
          go_wp2_with fail
          go_meet
          exact ⟨rfl, rfl⟩
      case rest =>
      obtain ⟨rfl, rfl⟩ := hcut
      clear HBC
      cases Q with
      | true =>
        obtain rfl : V = 12 := HFE.out 12 (HE1.out (HQ.out.1 rfl)) (by decide)
        go_wp2_with fail
        go_ret
        exact ⟨rfl, HAL.out⟩
      | false =>
      have HE3 := Lib.hid (HE2.out fun h => by cases HQ.out.2 h)
      clear HE1 HE2 HQ
      have HK := Lib.hid (HKY.out W1)
      cases hk : keyP sp.data.toList with
      | none =>
        obtain rfl : V = 1 := HFE.out 1 (HE3.out.trans (if_pos hk)) (by decide)
        rw [hk] at HK
        clear hk HE3 HKY
        go_wp2_with fail
        refine HK.out.mono ?_
        rintro e w2 ⟨rfl, hb⟩
        have HB2 := Lib.hid (HAL.out.trans (hb.mono HAL.out.size))
        clear hb HK
        go_wp2_with fail
        go_ret
        exact ⟨rfl, HB2.out⟩
      | some K =>
        rw [hk] at HK
        have HE4 : Hid (opErr x = if 1048576 < val.size then 2 else 0) := Lib.hid (HE3.out.trans (if_neg (by rw [hk]; simp)))
        clear hk HE3 HKY
        go_wp2_with fail
        refine HK.out.mono ?_
        rintro e w2 ⟨rfl, hb⟩
        have HB2 := Lib.hid (HAL.out.trans (hb.mono HAL.out.size))
        obtain ⟨⟨y0, y1, y2⟩, -, -⟩ := HR3.out.below hb hz3
        clear hb HK c0 c1 c2 f0 f1 f2
        by_cases hlong : 1048576 < val.size
        · obtain rfl : V = 2 := HFE.out 2 (HE4.out.trans (if_pos hlong)) (by decide)
          have hl1 : decide (1048576 < val.size) = true := decide_eq_true hlong
          have hl2 : (1048576 : Int) < (val.size : Int) := by omega
          go_wp2_with fail
          go_ret
          exact ⟨rfl, HB2.out⟩
        · have HX0 := Lib.hid (HE4.out.trans (if_neg hlong))
          have hl1 : decide (1048576 < val.size) = false := decide_eq_false hlong
          have hl2 : ¬ (1048576 : Int) < (val.size : Int) := by omega
          clear HE4 hlong
          go_wp2_with fail
          go_roundg (len - (q + 1))
          case measure => omega
          case rel =>
            refine ⟨q + 1, by go_num, by omega, Nat.le_refl _, Lib.hid (fun j y hj hy => ?_), HB2⟩
            rcases Nat.lt_or_ge j q with h | h
            · exact HG.out j y h hy
            · obtain rfl : j = q := by omega
              obtain rfl : x = y := Option.some.inj (HX.out.symm.trans hy)
              exact HX0.out
    · have hd1 : decide (q < len) = false := decide_eq_false h1
      obtain rfl : V = 0 := by rw [HVF.out]; exact firstErr_upto fun j y hj => HG.out j y (by have := HN.out; omega)
      go_wp2_with fail
      go_ret
      exact ⟨rfl, HB.out⟩
end Go.Proofs.YtjhkfjbgdaomeaaGreatDoor
