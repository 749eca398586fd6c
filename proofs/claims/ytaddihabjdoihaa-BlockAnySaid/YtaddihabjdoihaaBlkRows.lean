/- The walk of the reference's Rows. -/
import Derived.Test.YtaddihabjdoihaaBlkRMath
import Derived.Test.YtaddihabjdoihaaNumRGet
namespace Go.Proofs.Ytaddihabjdoihaa
set_option linter.unusedVariables false
set_option maxRecDepth 100000
open Go.RowKit
/-- The three numbers' cells, as far as they were read. -/
def xv (l : List UInt8) (i j : Nat) : Value := .int .u64 ((if j < i then vS l j else 0 : Nat) : Int)
def xc (l : List UInt8) (i : Nat) : Array Value := #[xv l i 0, xv l i 1, xv l i 2]
theorem xc_set (l : List UInt8) (i : Nat) (hi : i < 3) : (xc l i).setIfInBounds i (.int .u64 (vS l i : Int)) = xc l (i + 1) := by
  have hc : i = 0 ∨ i = 1 ∨ i = 2 := by omega
  rcases hc with rfl | rfl | rfl <;> simp [xc, xv]
theorem xc_at (l : List UInt8) (i : Nat) (hi : i < 3) : (xc l i)[i]? = some (.int .u64 0) := by
  have hc : i = 0 ∨ i = 1 ∨ i = 2 := by omega
  rcases hc with rfl | rfl | rfl <;> simp [xc, xv]
def RowsRes (r : Option (List Kv)) (w : World) (e : Ending) (w' : World) : Prop :=
  ∃ v, e = .returned (.tuple #[v, .bool r.isSome]) ∧ OwnK encKv 2 31 w.heap.size w' v (r.getD []) ∧ Below w.heap.size w w'
theorem unf_step {d : List UInt8} {j : Nat} {c : UInt8} (h : d[j]? = some c) : unfN (d.drop j) = c.toNat + 256 * unfN (d.drop (j + 1)) := by
  obtain ⟨hj, rfl⟩ := List.getElem?_eq_some_iff.1 h
  rw [List.drop_eq_getElem_cons hj, unfN]
theorem unf_small {d : List UInt8} (h : d.length ≤ 4) (j : Nat) : unfN (d.drop j) < 4294967296 := by
  have h1 := unfN_lt (d.drop j)
  refine Nat.lt_of_lt_of_le h1 ?_
  show _ ≤ 256 ^ 4
  exact Nat.pow_le_pow_right (by decide) (by rw [List.length_drop]; omega)
/-- slices by numbers of 64 bits -/
theorem sl_lU (W : World) (a : Option Addr) (n cap k : Nat) (h : k ≤ n) (hc : n ≤ cap) :
    (Instr.sliceAt 33 (.slice a n cap) (some (.int .u64 (k : Int))) none none).run Try.prog W = .ok (.slice (if cap = k then a else a.map (·.add k)) (n - k) (cap - k)) W := by
  have hT : Try.prog.underlying 33 = some (.slice (Try.prog.elem 33)) := by kernel_rfl
  have hS : (sizeOf (Try.prog.elem 33)).run Try.prog W = .ok 1 W := by kernel_rfl
  rw [run_sliceAt_slice (h := hT), run_slice_l (w := W) (t := 33) (a := a) (len := n) (cap := cap) (ht := hT) (kl := .u64) (l := k) (h0 := by omega) (h1 := by omega), hS]
  simp [Result.andThen, sliced]
theorem sl_hU (W : World) (a : Option Addr) (n cap k : Nat) (hc : k ≤ cap) :
    (Instr.sliceAt 33 (.slice a n cap) none (some (.int .u64 (k : Int))) none).run Try.prog W = .ok (.slice a k cap) W := by
  have hT : Try.prog.underlying 33 = some (.slice (Try.prog.elem 33)) := by kernel_rfl
  have hS : (sizeOf (Try.prog.elem 33)).run Try.prog W = .ok 1 W := by kernel_rfl
  rw [run_sliceAt_slice (h := hT), run_slice_h (w := W) (t := 33) (a := a) (len := n) (cap := cap) (ht := hT) (kh := .u64) (h := k) (h0 := by omega) (h2 := by omega), hS]
  simp [Result.andThen, sliced, map_add0]
theorem sl_lhU (W : World) (a : Option Addr) (n cap j k : Nat) (h : j ≤ k) (hc : k ≤ cap) :
    (Instr.sliceAt 33 (.slice a n cap) (some (.int .u64 (j : Int))) (some (.int .u64 (k : Int))) none).run Try.prog W = .ok (.slice (if cap = j then a else a.map (·.add j)) (k - j) (cap - j)) W := by
  have hT : Try.prog.underlying 33 = some (.slice (Try.prog.elem 33)) := by kernel_rfl
  have hS : (sizeOf (Try.prog.elem 33)).run Try.prog W = .ok 1 W := by kernel_rfl
  rw [run_sliceAt_slice (h := hT), run_slice_lh (w := W) (t := 33) (a := a) (len := n) (cap := cap) (ht := hT) (kl := .u64) (kh := .u64) (l := j) (h := k) (h0 := by omega) (h1 := by omega) (h2 := by omega), hS]
  simp [Result.andThen, sliced]
set_option maxHeartbeats 8000000 in
theorem rrows_any (v : Value) (b : List UInt8) (hb : b.length ≤ 10000) (w : World) (h : RdB w v b) : Calls Try.prog 19 #[v] w (RowsRes (readB b) w) := by
  obtain ⟨R, hR⟩ : ∃ R, readB b = R := ⟨_, rfl⟩
  rw [hR]
  have HR := Lib.hid hR
  obtain ⟨a, len, cap, rfl, hlen, hcap⟩ := h.form
  have HRD := Lib.hid h
  have HN := Lib.hid hlen
  have hlb : len ≤ 10000 := by omega
  by_cases h4 : b.length < 4
  · have HE : Hid (R = none) := Lib.hid (by rw [← hR]; exact readB_none (by unfold endC; rw [if_pos h4]))
    have hz : (len : Int) < 4 := by omega
    clear hR HR h hlen hcap hb h4 HRD
    go_enter Try.func19, Try.ntmps19
    go_wp2_with fail
    go_ret2
    rw [HE.out]
    exact ⟨_, rfl, OwnK.nil _ _ _ _ _, Below.refl _ _⟩
  · obtain ⟨m, hm⟩ : ∃ m, len - 4 = m := ⟨_, rfl⟩
    have hz : ¬ (len : Int) < 4 := by omega
    have hlm : (len : Int) - 4 = (m : Int) := by omega
    have hcl : len ≤ cap := (hcap (by omega)).1
    have hmb : m ≤ 10000 := by omega
    have HM4 : Hid (m + 4 = len) := Lib.hid (by omega)
    have HD : Hid ((b.drop m).length = 4) := Lib.hid (by rw [List.length_drop]; omega)
    clear hR h hlen hcap hb hm h4
    go_enter Try.func19, Try.ntmps19
    go_wp2_with fail
    go_loopg [4, 5] 4 (fun kk vn vi wr => ∃ (j n : Nat) (z : Int), vi = .int .i64 z ∧ z + 1 = (j : Int) ∧ vn = .int .i64 (n : Int) ∧ j ≤ 4 ∧ j ≤ kk ∧ n < 4294967296 ∧ w = wr ∧ Hid (n = unfN ((b.drop m).drop j)))
    case atStart => exact ⟨4, 0, 3, rfl, rfl, rfl, by omega, by omega, by omega, rfl, Lib.hid (by rw [List.drop_of_length_le (by rw [HD.out]; omega)]; rfl)⟩
    case round =>
      obtain ⟨j, n, z, rfl, hzj, rfl, hj, hjk, hn, rfl, HM⟩ := hrel
      by_cases h0 : 0 < j
      · obtain ⟨t, rfl⟩ : ∃ t : Nat, z = (t : Int) := ⟨z.toNat, by omega⟩
        have htj : j = t + 1 := by omega
        have ht0 : (0 : Int) ≤ (t : Int) := by omega
        obtain ⟨c, hc⟩ : ∃ c, (b.drop m)[t]? = some c := ⟨(b.drop m)[t]'(by rw [HD.out]; omega), List.getElem?_eq_getElem _⟩
        have hc2 : b[m + t]? = some c := by rwa [List.getElem?_drop] at hc
        obtain ⟨g, off, rfl, hg, hcell⟩ := HRD.out.at (m + t) c hc2
        have HM2 : Hid (c.toNat + 256 * n = unfN ((b.drop m).drop t)) := Lib.hid (by rw [unf_step hc, HM.out, htj])
        have hnn : c.toNat + 256 * n < 4294967296 := by rw [HM2.out]; exact unf_small (by rw [HD.out]; exact Nat.le_refl _) t
        have hcb : c.toNat < 256 := c.toNat_lt
        obtain ⟨k, hk⟩ : ∃ k, m + t = k := ⟨_, rfl⟩
        have hmt : (m : Int) + (t : Int) = (k : Int) := by omega
        have hmt2 : (k : Int) < (len : Int) := by have := HM4.out; omega
        have hk0 : (0 : Int) ≤ (k : Int) := by omega
        obtain ⟨n', hn'⟩ : ∃ n', c.toNat + 256 * n = n' := ⟨_, rfl⟩
        have hnc : (n : Int) * 256 + (c.toNat : Int) = (n' : Int) := by omega
        rw [hk] at hcell
        rw [hn'] at HM2 hnn
        have htb : t ≤ 3 := by omega
        have HTK : Hid (t < gk) := Lib.hid (by omega)
        clear hc hc2 HM hzj htj hj hjk h0 hk hn'
        go_wp2_with fail
        go_roundg t
        case measure => have := HTK.out; omega
        case rel => exact ⟨t, n', (t : Int) - 1, by go_num, by omega, rfl, by omega, Nat.le_refl _, hnn, rfl, HM2⟩
      · obtain rfl : j = 0 := by omega
        obtain rfl : z = -1 := by omega
        have HU : Hid (n = unfN (b.drop (b.length - 4))) := Lib.hid (by rw [HM.out, List.drop_zero]; congr 2; have := HM4.out; have := HN.out; omega)
        clear hzj HM
        by_cases h5 : m / 4 < n
        · have h6 : (m : Int) / 4 < (n : Int) := by omega
          have HE : Hid (R = none) := Lib.hid (by
            rw [← HR.out]
            refine readB_none ?_
            unfold endC
            rw [if_neg (by have := HM4.out; have := HN.out; omega), ← HU.out, if_pos (by have := HM4.out; have := HN.out; omega)])
          clear HR HU h5
          go_wp2_with fail
          go_ret2
          rw [HE.out]
          exact ⟨_, rfl, OwnK.nil _ _ _ _ _, Below.refl _ _⟩
        · have h6 : ¬ (m : Int) / 4 < (n : Int) := by omega
          obtain ⟨e0, he0⟩ : ∃ e0, m - 4 * n = e0 := ⟨_, rfl⟩
          have h7 : (m : Int) - 4 * (n : Int) = (e0 : Int) := by omega
          have HEE : Hid (endC b = some e0) := Lib.hid (by
            unfold endC
            rw [if_neg (by have := HM4.out; have := HN.out; omega), ← HU.out, if_neg (by have := HM4.out; have := HN.out; omega)]
            congr 1
            have := HM4.out; have := HN.out; omega)
          have hel : e0 ≤ len := by omega
          have hsl := fun W => sl_hB W a len cap e0 (by omega)
          have HRE : Hid (RdB w (.slice a e0 cap) ((b.take e0).drop 0)) := Lib.hid (by rw [List.drop_zero]; exact HRD.out.take e0 hel)
          have hcl2 : e0 ≤ cap := by omega
          have heb : e0 ≤ 10000 := by omega
          have hnb : n ≤ 10000 := by omega
          clear HU h5 he0
          go_wp2_with fail
          go_loopg [6, 7, 8] e0 (fun kk v6 v7 v8 wr => ∃ (rs : List Kv) (p : List UInt8) (o : Nat) (aT a7 : Option Addr) (nT cT n7 c7 : Nat), v6 = .slice aT nT cT ∧ v7 = .slice a7 n7 c7 ∧ v8 = .string ⟨p.toArray⟩ ∧ nT ≤ kk ∧ nT ≤ cT ∧ nT ≤ 10000 ∧ Hid (nT = e0 - o) ∧ n7 ≤ 10000 ∧ Hid (n7 = rs.length) ∧ Hid (RdB w (.slice aT nT cT) ((b.take e0).drop o)) ∧ Hid (QInv b e0 rs p o) ∧ Hid (OwnK encKv 2 31 w.heap.size wr (.slice a7 n7 c7) rs) ∧ Hid (Below w.heap.size w wr))
          case atStart => exact ⟨[], [], 0, a, none, e0, cap, 0, 0, rfl, rfl, rfl, by omega, hcl2, heb, Lib.hid rfl, by omega, Lib.hid rfl, HRE, Lib.hid (qinv_nil _ _), Lib.hid (OwnK.nil _ _ _ _ _), Lib.hid (Below.refl _ _)⟩
          case round =>
            clear HRE
            obtain ⟨rs, p, o, aT, a7, nT, cT, n7, c7, rfl, rfl, rfl, hTk, hTc, hTb, HNT, hn7, HN7, HRT, HI, HOR, HB⟩ := hrel
            generalize wr = w0 at *
            generalize gk = gk0 at *
            obtain ⟨P, hP⟩ : ∃ P : ByteArray, (⟨p.toArray⟩ : ByteArray) = P := ⟨_, rfl⟩
            have HP : Hid (P.data.toList = p) := Lib.hid (by rw [← hP])
            rw [hP]
            clear hP
            by_cases h8 : 0 < nT
            · have h81 : (0 : Int) < (nT : Int) := by omega
              obtain ⟨l, hl⟩ : ∃ l, (b.take e0).drop o = l := ⟨_, rfl⟩
              have HL := Lib.hid hl
              rw [hl] at HRT
              clear hl
              have HB1 : Hid (Below w.heap.size w (w0.alloc (.cells #[.int .u64 0, .int .u64 0, .int .u64 0] 68))) := Lib.hid (HB.out.alloc HB.out.size _)
              have HBK1 : Hid (BlkAt (w0.alloc (.cells #[.int .u64 0, .int .u64 0, .int .u64 0] 68)) w0.heap.size (xc l 0) 68) := Lib.hid (BlkAt.new _ _ _)
              have HOR1 : Hid (OwnK encKv 2 31 w.heap.size (w0.alloc (.cells #[.int .u64 0, .int .u64 0, .int .u64 0] 68)) (.slice a7 n7 c7) rs) := Lib.hid (HOR.out.below ((Below.refl _ w0).alloc (Nat.le_refl _) _))
              have hg : w.heap.size ≤ w0.heap.size := HB.out.size
              have HGR : Hid (∀ x, (Value.slice a7 n7 c7).ownBlock = some x → x < w0.heap.size) := Lib.hid fun x hx => row_lt HOR.out x hx
              go_wp2_with fail
              clear HB HOR
              generalize w0.alloc (.cells #[.int .u64 0, .int .u64 0, .int .u64 0] 68) = w1 at *
              generalize w0.heap.size = g at *
              go_loopg [6, 10] 3 (fun kk v6 vi wx => ∃ (i : Nat) (aX : Option Addr) (nX cX : Nat), vi = .int .i64 (i : Int) ∧ v6 = .slice aX nX cX ∧ i ≤ 3 ∧ 3 - i ≤ kk ∧ nX ≤ cX ∧ nX ≤ 10000 ∧ Hid (RdB w (.slice aX nX cX) (l.drop (oS l i))) ∧ Hid (∀ j, j < i → ¬ (gN (l.drop (oS l j))).2 = 0) ∧ Hid (BlkAt wx g (xc l i) 68) ∧ Hid (OwnK encKv 2 31 w.heap.size wx (.slice a7 n7 c7) rs) ∧ Hid (Below w.heap.size w wx))
              case atStart => exact ⟨0, aT, nT, cT, rfl, rfl, by omega, by omega, hTc, hTb, HRT, Lib.hid fun j hj => by omega, HBK1, HOR1, HB1⟩
              case round =>
                clear HBK1 HOR1 HB1
                obtain ⟨i, aX, nX, cX, rfl, rfl, hi3, hik, hXc, hXb, HRX, HNZ, HBK, HOR, HB⟩ := hrel
                generalize wr = w2 at *
                by_cases h9 : i < 3
                · have hi1 : (i : Int) < 3 := by omega
                  have hi0 : (0 : Int) ≤ (i : Int) := by omega
                  obtain ⟨nv, k, hnk⟩ : ∃ n k, gN (l.drop (oS l i)) = (n, k) := ⟨_, _, rfl⟩
                  have hnv : vS l i = nv := by unfold vS; rw [hnk]
                  have hok : oS l (i + 1) = oS l i + k := by show oS l i + _ = _; rw [hnk]
                  have hgl := gN_le (l.drop (oS l i))
                  rw [hnk] at hgl
                  obtain ⟨hk1, hk2, hk3⟩ := hgl
                  simp only at hk1 hk2 hk3
                  obtain ⟨aa, ll, cc, ee, hll, -⟩ := HRX.out.form
                  simp only [Value.slice.injEq] at ee
                  have hkX : k ≤ nX := by omega
                  have HG : Hid (Calls Try.prog 34 #[.slice aX nX cX] w2 fun e w' => e = .returned (.tuple #[.int .u64 (nv : Int), .int .i64 (k : Int)]) ∧ w2 = w') := Lib.hid (by
                    have := numRes_g (l.drop (oS l i))
                    rw [hnk] at this
                    refine (rget_any _ (l.drop (oS l i)) w2 (HRX.out.below HB.out)).mono ?_
                    rintro e w' ⟨rfl, rfl⟩
                    exact ⟨by rw [this], rfl⟩)
                  clear ee hll
                  by_cases hk0 : k = 0
                  · have hkz : ((k : Int) == 0) = true := by rw [beq_iff_eq]; omega
                    have HE : Hid (R = none) := Lib.hid (by
                      rw [← HR.out]
                      refine qinv_fail HEE.out HI.out (by have := HNT.out; omega) ?_
                      rw [HL.out, rowP_lens, lens_stop h9 (by rw [hnk]; exact hk0)]; rfl)
                    clear hnk hnv hok hk0 HNZ HRX HI
                    go_wp2_with fail
                    refine HG.out.mono ?_
                    rintro e w' ⟨rfl, rfl⟩
                    go_wp2_with fail
                    go_ret2
                    rw [HE.out]
                    exact ⟨_, rfl, OwnK.nil _ _ _ _ _, HB.out⟩
                  · have hkz : ((k : Int) == 0) = false := by rw [beq_eq_false_iff_ne]; omega
                    have HNZ2 : Hid (∀ j, j < i + 1 → ¬ (gN (l.drop (oS l j))).2 = 0) := Lib.hid fun j hj => by
                      rcases Nat.lt_or_ge j i with h | h
                      · exact HNZ.out j h
                      · obtain rfl : j = i := by omega
                        rw [hnk]; exact hk0
                    have hsl2 := fun W => sl_lB W aX nX cX k hkX hXc
                    have HR2 := HRX.out.drop k hkX
                    rw [List.drop_drop, ← hok] at HR2
                    generalize hT2 : (if cX = k then aX else aX.map (·.add k)) = T2 at hsl2 HR2
                    have HRX2 := Lib.hid HR2
                    have HSET : Hid ((xc l i).setIfInBounds i (.int .u64 (nv : Int)) = xc l (i + 1)) := Lib.hid (by rw [← hnv]; exact xc_set l i h9)
                    have hcell : w2.cell? ⟨g, i, none⟩ = some (.int .u64 0) := (HBK.out.at i).trans (xc_at l i h9)
                    have hfree := HBK.out.free i
                    have hQc : nX - k ≤ cX - k := by omega
                    have hQb : nX - k ≤ 10000 := by omega
                    generalize nX - k = Q2 at *
                    generalize cX - k = C2 at *
                    clear hnk hnv hok hk0 HNZ HRX HR2 hT2
                    go_wp2_with fail
                    refine HG.out.mono ?_
                    rintro e w' ⟨rfl, rfl⟩
                    go_wp2_with fail
                    have HBK2 : Hid (BlkAt (w2.setCell ⟨g, i, none⟩ (.int .u64 (nv : Int))) g (xc l (i + 1)) 68) := Lib.hid (by rw [← HSET.out]; exact HBK.out.set _)
                    have HOR2 : Hid (OwnK encKv 2 31 w.heap.size (w2.setCell ⟨g, i, none⟩ (.int .u64 (nv : Int))) (.slice a7 n7 c7) rs) := Lib.hid (row_same HOR.out fun x hx => Below.heap_setCell _ _ _ _ (by have := HGR.out x hx; show x ≠ g; omega))
                    have HB2 : Hid (Below w.heap.size w (w2.setCell ⟨g, i, none⟩ (.int .u64 (nv : Int)))) := Lib.hid (HB.out.setCell hg _)
                    go_roundg (3 - (i + 1))
                    case measure => omega
                    case rel => exact ⟨i + 1, T2, Q2, C2, by go_num, rfl, by omega, Nat.le_refl _, hQc, hQb, HRX2, HNZ2, HBK2, HOR2, HB2⟩
                · obtain rfl : i = 3 := by omega
                  have hi1 : ¬ (3 : Int) < 3 := by omega
                  have HQ : Hid (lensP l = some ((vS l 0, vS l 1, vS l 2), oS l 3)) := Lib.hid (lens_all HNZ.out)
                  have b0 := vS_lt l 0
                  have b1 := vS_lt l 1
                  have b2 := vS_lt l 2
                  have HOL := Lib.hid (oS_le l 3)
                  obtain ⟨aa, ll, cc, ee, hll, -⟩ := HRX.out.form
                  simp only [Value.slice.injEq] at ee
                  obtain ⟨-, rfl, -⟩ := ee
                  have HNX : Hid (nX = l.length - oS l 3) := Lib.hid (by rw [hll, List.length_drop])
                  have z0 : w2.cell? ⟨g, 0, none⟩ = some (.int .u64 (vS l 0 : Int)) := HBK.out.at 0
                  have z1 : w2.cell? ⟨g, 1, none⟩ = some (.int .u64 (vS l 1 : Int)) := HBK.out.at 1
                  have z2 : w2.cell? ⟨g, 2, none⟩ = some (.int .u64 (vS l 2 : Int)) := HBK.out.at 2
                  clear hll HNZ h9
                  generalize vS l 0 = s at *
                  generalize vS l 1 = t at *
                  generalize vS l 2 = v at *
                  generalize oS l 3 = k at *
                  have hPb : P.size ≤ 10000 := by
                    have h1 := HI.out.small
                    have h2 := HI.out.le
                    rw [← HP.out, size_toList] at h1
                    omega
                  have bad : (P.size < s ∨ nX < t ∨ nX - t < v) → R = none := fun hc => by
                    rw [← HR.out]
                    refine qinv_fail HEE.out HI.out (by have := HNT.out; omega) ?_
                    rw [HL.out, rowP_lens, HQ.out, Option.bind_some]
                    simp only
                    rw [if_pos (by rw [← HP.out, size_toList, ← HNX.out]; exact hc)]
                  have BAD := Lib.hid bad
                  clear bad
                  have hXb0 : (nX : Int) < 18446744073709551616 := by omega
                  by_cases c1 : P.size < s
                  · have HE : Hid (R = none) := Lib.hid (BAD.out (.inl c1))
                    have hc1 : (P.size : Int) < (s : Int) := by omega
                    clear BAD HI c1
                    go_wp2_with fail
                    go_ret2
                    rw [HE.out]
                    exact ⟨_, rfl, OwnK.nil _ _ _ _ _, HB.out⟩
                  · have hc1 : ¬ (P.size : Int) < (s : Int) := by omega
                    by_cases c2 : nX < t
                    · have HE : Hid (R = none) := Lib.hid (BAD.out (.inr (.inl c2)))
                      have hc2 : (nX : Int) < (t : Int) := by omega
                      clear BAD HI c2 c1
                      go_wp2_with fail
                      go_ret2
                      rw [HE.out]
                      exact ⟨_, rfl, OwnK.nil _ _ _ _ _, HB.out⟩
                    · have hc2 : ¬ (nX : Int) < (t : Int) := by omega
                      obtain ⟨M, hM⟩ : ∃ M, nX - t = M := ⟨_, rfl⟩
                      have hMo : (nX : Int) - (t : Int) = (M : Int) := by omega
                      by_cases c3 : M < v
                      · have HE : Hid (R = none) := Lib.hid (BAD.out (.inr (.inr (by rw [hM]; exact c3))))
                        have hc3 : (M : Int) < (v : Int) := by omega
                        clear BAD HI c3 c2 c1 hM
                        go_wp2_with fail
                        go_ret2
                        rw [HE.out]
                        exact ⟨_, rfl, OwnK.nil _ _ _ _ _, HB.out⟩
                      · have hc3 : ¬ (M : Int) < (v : Int) := by omega
                        have HRO : Hid (KvAt p l s t v k) := Lib.hid ⟨HQ.out, by rw [← HP.out, size_toList]; omega, by have := HNX.out; omega, by have := HNX.out; omega⟩
                        have htb : t ≤ 10000 := by omega
                        have hvb : v ≤ 10000 := by omega
                        have hsb : s ≤ 10000 := by omega
                        obtain ⟨tv, htv⟩ : ∃ tv, t + v = tv := ⟨_, rfl⟩
                        have htvi : (t : Int) + (v : Int) = (tv : Int) := by omega
                        have htvX : tv ≤ nX := by omega
                        have hslA := fun W => sl_hU W aX nX cX t (by omega)
                        have hslB := fun W => sl_lhU W aX nX cX t tv (by omega) (by omega)
                        have hslC := fun W => sl_lU W aX nX cX tv htvX hXc
                        have RA := HRX.out.take t (by omega)
                        have RBm := HRX.out.mid t tv (by omega) htvX
                        have RC := HRX.out.drop tv htvX
                        generalize hTB : (if cX = t then aX else aX.map (·.add t)) = TB at hslB RBm
                        generalize hTC : (if cX = tv then aX else aX.map (·.add tv)) = TC at hslC RC
                        have hval : ((l.drop k).take tv).drop t = ((l.drop k).drop t).take v := by rw [List.drop_take]; congr 1; omega
                        rw [hval] at RBm
                        rw [List.drop_drop] at RC
                        have HTV := Lib.hid htv
                        have HRC := Lib.hid RC
                        have HRB2 := Lib.hid RBm
                        have x1 : ∀ j, (convert 33 9 (.slice aX t cX)).run Try.prog (w2.drewN j) = .ok (.string ⟨((l.drop k).take t).toArray⟩) (w2.drewN j) := fun j => ((RA.below HB.out).below (DrN.below ⟨j, rfl⟩ _)).text
                        have hXs : ((⟨((l.drop k).take t).toArray⟩ : ByteArray)).size = t := by
                          show ((l.drop k).take t).toArray.size = t
                          rw [List.size_toArray, List.length_take, List.length_drop]
                          have := HNX.out; omega
                        have hXl : ((⟨((l.drop k).take t).toArray⟩ : ByteArray)).data.toList = (l.drop k).take t := rfl
                        have hpe : (P.extract 0 s).data.toList = P.data.toList.take s := by simp
                        generalize hX : (⟨((l.drop k).take t).toArray⟩ : ByteArray) = X at *
                        have hcat : ¬ 9223372036854775807 < min s P.size + X.size := by omega
                        have hKY : (P.extract 0 s ++ X).data.toList = p.take s ++ (l.drop k).take t := by
                          rw [ByteArray.data_append, Array.toList_append, hpe, hXl, HP.out]
                        clear RA RBm RC hval hM hXl hpe hX c1 c2 c3 htv
                        go_wp2_with fail
                        go_quiet (fail)
                        generalize P.extract 0 s ++ X = KY at *
                        have HKY := Lib.hid hKY
                        have HB3 : Hid (Below w.heap.size w (w2.drewN nq)) := Lib.hid (HB.out.trans ((DrN.below ⟨nq, rfl⟩ _ : Below w2.heap.size w2 (w2.drewN nq)).mono HB.out.size))
                        have HBK3 : Hid (BlkAt (w2.drewN nq) g (xc l 3) 68) := HBK
                        have HOR3 : Hid (OwnK encKv 2 31 w.heap.size (w2.drewN nq) (.slice a7 n7 c7) rs) := HOR
                        have z0' : (w2.drewN nq).cell? ⟨g, 0, none⟩ = some (.int .u64 (s : Int)) := z0
                        have z1' : (w2.drewN nq).cell? ⟨g, 1, none⟩ = some (.int .u64 (t : Int)) := z1
                        have z2' : (w2.drewN nq).cell? ⟨g, 2, none⟩ = some (.int .u64 (v : Int)) := z2
                        clear z0 z1 z2 HB HBK HOR x1 hcat hKY hXs hslA
                        generalize w2.drewN nq = w3 at *
                        have x2 := (HRB2.out.below HB3.out).text
                        have HCS : Hid ((encKv (⟨KY.data.toList, ((l.drop k).drop t).take v⟩ : Kv)).toArray = #[.string KY, .string ⟨(((l.drop k).drop t).take v).toArray⟩]) := Lib.hid rfl
                        obtain ⟨VV, hVV⟩ : ∃ VV, ((l.drop k).drop t).take v = VV := ⟨_, rfl⟩
                        have HVV := Lib.hid hVV
                        rw [hVV] at x2 HCS
                        clear hVV
                        go_wp2_with (at_builtin; refine wp_oneK elemK_kv encKv_len _ _ (by rfl) (by rfl) (by rfl) HOR3.out (⟨KY.data.toList, VV⟩ : Kv) _ HCS.out _ (by rfl) (by rfl) (encKv_one _) ?c1 ?c2 HB3.out.size ?_)
                        case c1 => have := HN7.out; omega
                        case c2 => have := HN7.out; unfold maxLen; omega
                        intro v5 w5 o5 b5 u5 n5
                        have HBK5 : Hid (BlkAt w5 g (xc l 3) 68) := Lib.hid ((u5.block g HBK3.out.lt (fun e => by have := HGR.out g e; omega)).trans HBK3.out)
                        have HB5 := Lib.hid (HB3.out.trans b5)
                        obtain ⟨a5, c5, rfl, -⟩ := o5.kform
                        obtain ⟨n9, hn9⟩ : ∃ n9, (rs ++ [(⟨KY.data.toList, VV⟩ : Kv)]).length = n9 := ⟨_, rfl⟩
                        have HN9 : Hid (n9 = (rs ++ [(⟨KY.data.toList, VV⟩ : Kv)]).length) := Lib.hid hn9.symm
                        have hn97 : n9 = n7 + 1 := by have := HN7.out; rw [← hn9, List.length_append, List.length_singleton]; omega
                        have HO5 := Lib.hid o5
                        rw [hn9] at HO5 ⊢
                        have y0 : w5.cell? ⟨g, 0, none⟩ = some (.int .u64 (s : Int)) := by have := HBK5.out.at 0; rw [this, ← HBK3.out.at 0]; exact z0'
                        have y1 : w5.cell? ⟨g, 1, none⟩ = some (.int .u64 (t : Int)) := by have := HBK5.out.at 1; rw [this, ← HBK3.out.at 1]; exact z1'
                        have y2 : w5.cell? ⟨g, 2, none⟩ = some (.int .u64 (v : Int)) := by have := HBK5.out.at 2; rw [this, ← HBK3.out.at 2]; exact z2'
                        have hQ2 : nX - tv ≤ cX - tv := by omega
                        have hQ3 : nX - tv ≤ 10000 := by omega
                        have HQ4 : Hid (nX - tv = e0 - (o + (k + (t + v))) ∧ nX - tv < gk0) := Lib.hid (by
                          have := HNX.out; have := HNT.out
                          have := HTV.out
                          have hk3 := (lens_is HQ.out).1
                          have hk4 := (lens_is HQ.out).2.1
                          have hl : l.length = e0 - o := by
                            rw [← HL.out, List.length_drop, List.length_take]
                            have := endC_le HEE.out; omega
                          omega)
                        have HRC2 : Hid (RdB w (.slice TC (nX - tv) (cX - tv)) ((b.take e0).drop (o + (k + (t + v))))) := Lib.hid (by
                          have := HRC.out
                          rw [← HL.out, List.drop_drop, ← HTV.out] at this
                          rw [← HTV.out]
                          exact this)
                        generalize nX - tv = Q9 at *
                        generalize cX - tv = C9 at *
                        clear o5 b5 u5 n5 hn9 z0' z1' z2' x2 HRC HRB2 hslB HCS HOR3 HB3 HBK3 HBK5
                        have hkeq := bs_eq KY P
                        have hles := less_eq KY P
                        by_cases hu : n7 = 0
                        · obtain rfl : n9 = 1 := by omega
                          have HSTEP := Lib.hid (qinv_step (endC_le HEE.out) HI.out (by rw [HL.out]; exact HRO.out) (.inl (by rw [← HN7.out]; exact hu)))
                          rw [HL.out, ← HKY.out, HVV.out] at HSTEP
                          clear hu hn97 hkeq hles HI
                          go_wp2_with fail
                          go_roundg Q9
                          case measure => exact HQ4.out.2
                          case rel => exact ⟨_, KY.data.toList, o + (k + (t + v)), TC, a5, Q9, C9, 1, c5, rfl, rfl, rfl, Nat.le_refl _, hQ2, hQ3, Lib.hid HQ4.out.1, by omega, HN9, HRC2, Lib.hid HSTEP.out.1, HO5, HB5⟩
                        · have hn91 : (1 : Int) < (n9 : Int) := by omega
                          have hn9b : n9 ≤ 10000 := by
                            have h1 := HI.out.rows
                            have h2 := HI.out.le
                            have h3 := (lens_is HQ.out).1
                            have h4 := (lens_is HQ.out).2.1
                            have h5 : l.length = e0 - o := by
                              rw [← HL.out, List.length_drop, List.length_take]
                              have := endC_le HEE.out; omega
                            have := HN7.out
                            omega
                          by_cases hup : bl P KY
                          · have HSTEP := Lib.hid (qinv_step (endC_le HEE.out) HI.out (by rw [HL.out]; exact HRO.out) (.inr (by
                              have h1 : P.data.toList < KY.data.toList := hup
                              rw [HP.out, HKY.out] at h1
                              rw [HL.out]; exact h1)))
                            rw [HL.out, ← HKY.out, HVV.out] at HSTEP
                            have f1 : Op.bytesLess KY.toList P.toList = false := bs_not KY P (fun k => bl_irr P (bl_trans hup k))
                            have f2 : (KY.toList == P.toList) = false := bs_ne (fun k => by subst k; exact bl_irr KY hup)
                            clear hu hn97 hkeq hles HI hup
                            go_wp2_with fail
                            go_roundg Q9
                            case measure => exact HQ4.out.2
                            case rel => exact ⟨_, KY.data.toList, o + (k + (t + v)), TC, a5, Q9, C9, n9, c5, rfl, rfl, rfl, Nat.le_refl _, hQ2, hQ3, Lib.hid HQ4.out.1, by omega, HN9, HRC2, Lib.hid HSTEP.out.1, HO5, HB5⟩
                          · have HE : Hid (R = none) := Lib.hid (by
                              rw [← HR.out]
                              have hrow := (show KvAt p ((b.take e0).drop o) s t v k from by rw [HL.out]; exact HRO.out).row
                              refine qinv_down HEE.out HI.out hrow ?_
                              rintro (h1 | h1)
                              · exact hu (by rw [HN7.out]; exact h1)
                              · refine hup ?_
                                show P.data.toList < KY.data.toList
                                rw [HP.out, HKY.out, ← HL.out]; exact h1)
                            clear HI
                            by_cases hdn : bl KY P
                            · have f1 : Op.bytesLess KY.toList P.toList = true := bs_less KY P hdn
                              clear hu hn97 hkeq hles hup hdn
                              go_wp2_with fail
                              go_ret2
                              rw [HE.out]
                              exact ⟨_, rfl, OwnK.nil _ _ _ _ _, HB5.out⟩
                            · have f1 : Op.bytesLess KY.toList P.toList = false := bs_not KY P hdn
                              obtain rfl : KY = P := by
                                rcases bl_tri KY P with h | h | h
                                · exact absurd h hdn
                                · exact h
                                · exact absurd h hup
                              have f2 := bs_refl KY
                              clear hu hn97 hkeq hles hup hdn
                              go_wp2_with fail
                              go_ret2
                              rw [HE.out]
                              exact ⟨_, rfl, OwnK.nil _ _ _ _ _, HB5.out⟩
            · obtain rfl : nT = 0 := by omega
              have h81 : ¬ (0 : Int) < 0 := by omega
              have hoe : o = e0 := by have := HNT.out; have := HI.out.le; omega
              have HE : Hid (R = if blockB rs = b then some rs else none) := Lib.hid (by rw [← HR.out]; exact qinv_end HEE.out (by rw [hoe] at HI; exact HI.out))
              have HBL : Hid (Calls Try.prog 15 #[.slice a7 n7 c7] w0.drew (MkB (blockB rs) w0.drew)) := Lib.hid (by
                refine rblock_any _ rs ?_ w0.drew (OwnK.rd (w := w0.drew) encKv_len HOR.out)
                have h1 := body_bd e0 rs 0 [] HI.out.few
                have h2 := HI.out.rows
                have h3 := HI.out.le
                have h4 : rs.length * (2 * e0 + 30) ≤ 10000 * 20030 := Nat.mul_le_mul (by omega) (by omega)
                omega)
              obtain ⟨BS, hBS⟩ : ∃ BS : ByteArray, (⟨b.toArray⟩ : ByteArray) = BS := ⟨_, rfl⟩
              obtain ⟨CS, hCS⟩ : ∃ CS : ByteArray, (⟨(blockB rs).toArray⟩ : ByteArray) = CS := ⟨_, rfl⟩
              have HBS := Lib.hid hBS
              have HCS := Lib.hid hCS
              obtain ⟨q, hq⟩ : ∃ q, decide (blockB rs = b) = q := ⟨_, rfl⟩
              have HQE : Hid ((CS.toList == BS.toList) = q) := Lib.hid (by rw [← hCS, ← hBS, arr_eq, hq])
              have HE2 : Hid (q = true → R = some rs) := Lib.hid fun h => by rw [HE.out, if_pos (of_decide_eq_true (by rw [hq]; exact h))]
              have HE3 : Hid (q = false → R = none) := Lib.hid fun h => by rw [HE.out, if_neg (of_decide_eq_false (by rw [hq]; exact h))]
              clear hoe HI HR HE hBS hCS hq HRT
              go_wp2_with fail
              refine wp_region_held_drew (S := Below w0.heap.size w0) (by kernel_rfl) (Below.refl _ _).drew (fun hHeld => ?_)
              refine takeYes (i := 0) (k := 133) (v := .slice a7 n7 c7) rfl (by kernel_rfl) (by kernel_rfl) (by kernel_rfl) (by kernel_rfl) (fun _ _ _ h => h) (by kernel_rfl) ?_ (by assumption) ?_
              · intro W hSw; first | (go_simp; done) | go_simp
              try simp only [Act.put, List.setIfInBounds_toArray, List.set_cons_zero, List.set_cons_succ]
              refine takeYes (i := 3) (k := 136) (v := .slice a len cap) rfl (by kernel_rfl) (by kernel_rfl) (by kernel_rfl) (by kernel_rfl) (fun _ _ _ h => h) (by kernel_rfl) ?_ (by assumption) ?_
              · intro W hSw; first | (go_simp; done) | go_simp
              try simp only [Act.put, List.setIfInBounds_toArray, List.set_cons_zero, List.set_cons_succ]
              refine takeYes (i := 4) (k := 137) (v := .string BS) rfl (by kernel_rfl) (by kernel_rfl) (by kernel_rfl) (by kernel_rfl) (fun _ _ _ h => h) (by kernel_rfl) ?_ (by assumption) ?_
              · intro W hSw; have x9 := ((HRD.out.below HB.out).below hSw).text; rw [HBS.out] at x9; first | (go_simp; done) | go_simp
              try simp only [Act.put, List.setIfInBounds_toArray, List.set_cons_zero, List.set_cons_succ]
              refine wpAnyH_ready (rs := [1]) (by kernel_rfl) (by simp) (AllReadyH.cons rfl (fun K hK => ?_) AllReadyH.nil)
              go_simp
              refine HBL.out.mono ?_
              rintro e q1 ⟨x1, rfl, ox, bx⟩
              have hb0 : Below w0.heap.size w0 q1 := ((Below.refl _ w0).drew).trans bx
              have HB5 := Lib.hid (HB.out.trans (hb0.mono HB.out.size))
              have HOR5 := Lib.hid (HOR.out.below hb0)
              have HX := Lib.hid ox.rd
              obtain ⟨ax, nx, cx, rfl, -⟩ := ox.form
              refine hK.out _ _ hb0 (fun _ => wpAnyH_shift hb0 ?_)
              clear hK K hHeld ox bx hb0 HB HOR HBL
              try simp only [Act.put, List.setIfInBounds_toArray, List.set_cons_zero, List.set_cons_succ]
              refine takeYes (i := 2) (k := 135) (v := .string CS) rfl (by kernel_rfl) (by kernel_rfl) (by kernel_rfl) (by kernel_rfl) (fun _ _ _ h => h) (by kernel_rfl) ?_ (Below.refl _ _) ?_
              · intro W hSw; have x9 := (HX.out.below hSw).text; rw [HCS.out] at x9; first | (go_simp; done) | go_simp
              try simp only [Act.put, List.setIfInBounds_toArray, List.set_cons_zero, List.set_cons_succ]
              refine takeYes (i := 5) (k := 138) (v := .bool (!q)) rfl (by kernel_rfl) (by kernel_rfl) (by kernel_rfl) (by kernel_rfl) (fun _ _ _ h => h) (by kernel_rfl) ?_ (Below.refl _ _) ?_
              · intro W hSw; have hqq := HQE.out; first | (go_simp; done) | go_simp
              try simp only [Act.put, List.setIfInBounds_toArray, List.set_cons_zero, List.set_cons_succ]
              refine wpAnyH_done (by kernel_rfl) ?_ _
              cases q with
              | true =>
                have HV := Lib.hid (HE2.out rfl)
                clear HE2 HE3
                go_wp2_with fail
                go_ret2
                rw [HV.out]
                exact ⟨_, rfl, HOR5.out, HB5.out⟩
              | false =>
                have HV := Lib.hid (HE3.out rfl)
                clear HE2 HE3
                go_wp2_with fail
                go_ret2
                rw [HV.out]
                exact ⟨_, rfl, OwnK.nil _ _ _ _ _, HB5.out⟩
end Go.Proofs.Ytaddihabjdoihaa
