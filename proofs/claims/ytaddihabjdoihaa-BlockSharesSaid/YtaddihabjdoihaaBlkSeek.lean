/- The walks of sort.Search over Seek's test, of Seek. -/
import Derived.Test.YtaddihabjdoihaaBlkRead
import Derived.RegionTactic
namespace Go.Proofs.Ytaddihabjdoihaa
set_option linter.unusedVariables false
set_option maxRecDepth 100000
open Go.RowKit
/-- where the search ends -/
def BCuts (p : Nat → Bool) (n k : Nat) : Prop := k ≤ n ∧ (∀ i, i < k → p i = false) ∧ ∀ i, k ≤ i → i < n → p i = true
def BSearch (p : Nat → Bool) (n : Nat) (w : World) (e : Ending) (w' : World) : Prop := ∃ k : Nat, BCuts p n k ∧ e = .returned (.int .i64 k) ∧ Below w.heap.size w w'
set_option maxHeartbeats 4000000 in
theorem bsearch_any (n : Nat) (hn : n ≤ 1000000000) (c0 c1 : Value) (p : Nat → Bool) (hp : ∀ i j, i < j → p i = true → p j = true) (w : World)
    (HCC : Hid (∀ W, Below w.heap.size w W → ∀ i, i < n → Calls Try.prog 31 #[.int .i64 i, c0, c1] W fun e w' => e = .returned (.bool (p i)) ∧ Below W.heap.size W w')) :
    Calls Try.prog 30 #[.int .i64 n, .func (.func 31) #[] #[c0, c1]] w (BSearch p n w) := by
  have HP := Lib.hid hp
  clear hp
  go_enter Try.func30, Try.ntmps30
  go_wp2_with fail
  go_loopg [5, 6] n (fun kk vi vj wr => ∃ i j : Nat, vi = .int .i64 i ∧ vj = .int .i64 j ∧ i ≤ j ∧ j ≤ n ∧ j - i ≤ kk ∧ Hid ((∀ m, m < i → p m = false) ∧ ∀ m, j ≤ m → m < n → p m = true) ∧ Hid (Below w.heap.size w wr))
  case atStart => exact ⟨0, n, rfl, rfl, by omega, by omega, by omega, Lib.hid ⟨fun m h => by omega, fun m h h2 => by omega⟩, Lib.hid (Below.refl _ _)⟩
  case round =>
    obtain ⟨i, j, rfl, rfl, hij, hjn, hk, HG, HB⟩ := hrel
    by_cases h : i < j
    · have hi0 : (0 : Int) ≤ (i : Int) := by omega
      have hj0 : (0 : Int) ≤ (j : Int) := by omega
      obtain ⟨m, hm⟩ : ∃ m, (i + j) / 2 = m := ⟨_, rfl⟩
      have em : ((i : Int) + (j : Int)) / 2 = (m : Int) := by omega
      have hm1 : i ≤ m ∧ m < j := by omega
      obtain ⟨r, hr⟩ : ∃ r, p m = r := ⟨_, rfl⟩
      have HR := Lib.hid hr
      have HC : Hid (Calls Try.prog 31 #[.int .i64 m, c0, c1] wr fun e w' => e = .returned (.bool r) ∧ Below wr.heap.size wr w') := Lib.hid (by rw [← hr]; exact HCC.out wr HB.out m (by omega))
      clear hr hm
      go_wp2_with fail
      refine HC.out.mono ?_
      rintro e w3 ⟨rfl, hb⟩
      have HB3 := Lib.hid (HB.out.trans (hb.mono HB.out.size))
      clear hb HB HC
      cases r
      · have HG2 : Hid ((∀ l, l < m + 1 → p l = false) ∧ ∀ l, j ≤ l → l < n → p l = true) := Lib.hid ⟨fun l hl => by
          cases hb : p l with
          | false => rfl
          | true =>
            rcases Nat.lt_or_ge l m with h1 | h1
            · have := HP.out l m h1 hb; rw [HR.out] at this; cases this
            · obtain rfl : l = m := by omega
              rw [HR.out] at hb; exact hb.symm, HG.out.2⟩
        clear HR HG
        go_wp2_with fail
        go_roundg (j - (m + 1))
        case measure => omega
        case rel => exact ⟨m + 1, j, by go_num, rfl, by omega, by omega, Nat.le_refl _, HG2, HB3⟩
      · have HG2 : Hid ((∀ l, l < i → p l = false) ∧ ∀ l, m ≤ l → l < n → p l = true) := Lib.hid ⟨HG.out.1, fun l hl hl2 => by
          rcases Nat.lt_or_ge m l with h1 | h1
          · exact HP.out m l h1 HR.out
          · obtain rfl : m = l := by omega
            exact HR.out⟩
        clear HR HG
        go_wp2_with fail
        go_roundg (m - i)
        case measure => omega
        case rel => exact ⟨i, m, rfl, rfl, by omega, by omega, Nat.le_refl _, HG2, HB3⟩
    · have hd : decide (i < j) = false := decide_eq_false h
      have hK : BCuts p n i := ⟨by omega, HG.out.1, fun l hl hl2 => HG.out.2 l (by omega) hl2⟩
      have HK := Lib.hid hK
      clear hK
      go_wp2_with fail
      go_ret
      exact ⟨i, HK.out, rfl, HB.out⟩
/-- The two cells of a key and its value. -/
def AtKv (w : World) (b o : Nat) (r : Kv) : Prop := w.cell? ⟨b, o, none⟩ = some (.string ⟨r.k.toArray⟩) ∧ w.cell? ⟨b, o + 1, none⟩ = some (.string ⟨r.v.toArray⟩)
theorem AtKv.under {w W : World} {b o B : Nat} {r : Kv} (h : AtKv w b o r) (hb : b < B) (hW : Below B w W) : AtKv W b o r := ⟨(hW.cell (p := ⟨b, o, none⟩) hb).trans h.1, (hW.cell (p := ⟨b, o + 1, none⟩) hb).trans h.2⟩
theorem rdKv_len {w : World} {v : Value} {xs : List Kv} (h : RdK encKv 2 w v xs) : ∃ a len cap, v = .slice a len cap ∧ len = xs.length := by
  rcases h with ⟨a, cap, h1, rfl⟩ | ⟨b, off, cap, h1, -⟩
  · exact ⟨a, 0, cap, h1, rfl⟩
  · exact ⟨_, _, cap, h1, rfl⟩
theorem RdK.at2 {w : World} {a : Option Addr} {len cap : Nat} {xs : List Kv} (h : RdK encKv 2 w (.slice a len cap) xs) (q : Nat) (x : Kv) (hx : xs[q]? = some x) :
    ∃ b off, a = some ⟨b, off, none⟩ ∧ b < w.heap.size ∧ AtKv w b (off + q * 2) x := by
  rcases h with ⟨_, _, _, rfl⟩ | ⟨b, off, c, e, h1, h2, h3, h4, h5⟩
  · simp at hx
  · simp only [Value.slice.injEq] at e
    exact ⟨b, off, e.1, h4, h5 q 0 x hx (by decide), h5 q 1 x hx (by decide)⟩
def bp (rs : List Kv) (k : List UInt8) (i : Nat) : Bool := match rs[i]? with
  | some r => !decide (r.k < k)
  | none => true
theorem bp_mono {rs : List Kv} (hs : RiseK rs) (k : List UInt8) : ∀ i j, i < j → bp rs k i = true → bp rs k j = true := by
  intro i j hij hi
  unfold bp at hi ⊢
  rcases Nat.lt_or_ge j rs.length with h | h
  · rw [List.getElem?_eq_getElem (by omega)] at hi
    rw [List.getElem?_eq_getElem h]
    simp only [Bool.not_eq_true', decide_eq_false_iff_not] at hi ⊢
    have hl := List.pairwise_iff_getElem.1 hs i j (by omega) h hij
    exact fun hj => hi (List.lt_trans hl hj)
  · rw [List.getElem?_eq_none h]
theorem bp_end {rs : List Kv} {k : List UInt8} {n : Nat} (hc : BCuts (bp rs k) rs.length n) : seekK rs k = n := by
  obtain ⟨h1, h2, h3⟩ := hc
  refine seekK_at (fun i r hi hr => ?_) (fun r hr => ?_) h1
  · have := h2 i hi
    unfold bp at this
    rw [hr] at this
    simpa using this
  · have := h3 n (Nat.le_refl _) (List.getElem?_eq_some_iff.1 hr).1
    unfold bp at this
    rw [hr] at this
    simpa using this
set_option maxHeartbeats 4000000 in
theorem seek1_any (rs : List Kv) (a : Option Addr) (len cap : Nat) (hn : len = rs.length) (hlm : len ≤ 1000000000) (key : ByteArray) (i : Nat) (hi : i < len) (b0 b1 : Nat) (w : World) (hrd : RdK encKv 2 w (.slice a len cap) rs)
    (h0 : w.cell? ⟨b0, 0, none⟩ = some (.slice a len cap)) (h1 : w.cell? ⟨b1, 0, none⟩ = some (.string key)) :
    Calls Try.prog 31 #[.int .i64 i, .pointer (some ⟨b0, 0, none⟩), .pointer (some ⟨b1, 0, none⟩)] w fun e w' => e = .returned (.bool (bp rs key.data.toList i)) ∧ Below w.heap.size w w' := by
  obtain ⟨x, hx⟩ : ∃ x, rs[i]? = some x := ⟨rs[i]'(by omega), List.getElem?_eq_getElem _⟩
  obtain ⟨r, hr⟩ : ∃ r, bp rs key.data.toList i = r := ⟨_, rfl⟩
  have hr2 : (!Op.bytesLess (⟨x.k.toArray⟩ : ByteArray).toList key.toList) = r := by
    rw [← hr, less_eq]; unfold bp; rw [hx]
  have hxe : (⟨x.k.toArray⟩ : ByteArray).toList = x.k := by rw [Lib.toList_data]
  rw [hxe] at hr2
  rw [hr]
  obtain ⟨b, off, rfl, hblt, d0, d1⟩ := hrd.at2 i x hx
  have hi0 : (0 : Int) ≤ (i : Int) := by omega
  have hil : (i : Int) < (len : Int) := by omega
  obtain ⟨xk, xv⟩ := x
  simp only at d0 d1 hr2
  clear hx hr hrd hn hxe
  go_enter Try.func31, Try.ntmps31
  go_wp2_with fail
  go_quiet (fail)
  generalize hw2 : w.drewN nq = w2
  have hb : Below w.heap.size w w2 := by rw [← hw2]; exact DrN.below ⟨nq, rfl⟩ _
  clear hw2
  go_wp2_with fail
  go_ret
  exact ⟨rfl, hb⟩
def SeekRes (r : Option (List Kv)) (k : List UInt8) (w : World) (e : Ending) (w' : World) : Prop :=
  e = .returned (.tuple #[.int .i64 (match r with | some rs => (seekK rs k : Int) | none => -1), .int .i64 (if r.isSome then 0 else 8)]) ∧ Below w.heap.size w w'
set_option maxHeartbeats 4000000 in
theorem seek_any (v : Value) (b : List UInt8) (hb : b.length ≤ 1000000000) (key : ByteArray) (w : World) (h : RdB w v b) : Calls Try.prog 14 #[v, .string key] w (SeekRes (readCk b) key.data.toList w) := by
  have HRE : Hid (∀ W, Below w.heap.size w W → Calls Try.prog 13 #[v] W (BkReadRes (readCk b) W)) := Lib.hid fun W hW => bkRead_any v b hb W (h.below hW)
  have HLEN : Hid (∀ rs, readCk b = some rs → RiseK rs ∧ rs.length ≤ 1000000000) := Lib.hid fun rs hrs => by
    obtain ⟨g1, g2⟩ := readC_some hrs
    have := body_len rs 0 []
    have := blockB_len rs
    rw [g2] at this
    exact ⟨g1, by omega⟩
  obtain ⟨a, len, cap, rfl, -⟩ := h.form
  clear h
  unfold BkReadRes at HRE
  cases hR : readCk b with
  | none =>
    rw [hR] at HRE
    simp only [Option.isSome_none, Option.getD_none, Bool.false_eq_true, if_false] at HRE
    go_enter Try.func14, Try.ntmps14
    go_wp2_with fail
    refine (HRE.out _ ((Below.refl _ _).alloc (Nat.le_refl _) _)).mono ?_
    rintro e w1 ⟨v1, rfl, o1, b1⟩
    obtain ⟨a1, c1, rfl, -⟩ := o1.kform
    have HB1 : Hid (Below w.heap.size w w1) := Lib.hid (((Below.refl _ w).alloc (Nat.le_refl _) _).trans (b1.mono (by simp)))
    clear o1 b1 HRE
    go_wp2_with fail
    go_ret2
    exact ⟨rfl, HB1.out.alloc HB1.out.size _⟩
  | some rs =>
    obtain ⟨hri, hrl⟩ := HLEN.out rs hR
    rw [hR] at HRE
    simp only [Option.isSome_some, Option.getD_some, if_true] at HRE
    go_enter Try.func14, Try.ntmps14
    go_wp2_with fail
    refine (HRE.out _ ((Below.refl _ _).alloc (Nat.le_refl _) _)).mono ?_
    rintro e w1 ⟨v1, rfl, o1, b1⟩
    obtain ⟨a1, c1, rfl, -⟩ := o1.kform
    obtain ⟨n1, hn1⟩ : ∃ n1, (rs.length) = n1 := ⟨_, rfl⟩
    have HB1 : Hid (Below w.heap.size w w1) := Lib.hid (((Below.refl _ w).alloc (Nat.le_refl _) _).trans (b1.mono (by simp)))
    have hkc : w1.cell? ⟨w.heap.size, 0, none⟩ = some (.string key) := (b1.cell (p := ⟨w.heap.size, 0, none⟩) (by simp)).trans (BlkAt.at (BlkAt.new w #[.string key] 9) 0)
    have hk1 : w.heap.size < w1.heap.size := Nat.lt_of_lt_of_le (by simp) b1.size
    rw [hn1] at o1
    have hal : Below w1.heap.size w1 (w1.alloc (.cells #[.slice a1 n1 c1] 22)) := (Below.refl _ w1).alloc (Nat.le_refl _) _
    have HK2 : Hid ((w1.alloc (.cells #[.slice a1 n1 c1] 22)).cell? ⟨w.heap.size, 0, none⟩ = some (.string key)) := Lib.hid ((hal.cell (p := ⟨w.heap.size, 0, none⟩) hk1).trans hkc)
    have HR2 : Hid ((w1.alloc (.cells #[.slice a1 n1 c1] 22)).cell? ⟨w1.heap.size, 0, none⟩ = some (.slice a1 n1 c1)) := Lib.hid (BlkAt.at (BlkAt.new w1 #[.slice a1 n1 c1] 22) 0)
    have HO2 := Lib.hid ((o1.below hal).rd encKv_len)
    have HB2 := Lib.hid (HB1.out.trans (hal.mono HB1.out.size))
    have hs2 : w1.heap.size < (w1.alloc (.cells #[.slice a1 n1 c1] 22)).heap.size := by simp
    have HN1 := Lib.hid hn1
    have HRI := Lib.hid hri
    have hn1b : n1 ≤ 1000000000 := by omega
    go_wp2_with fail
    clear hkc hal HB1 o1 b1 HRE hri hrl hn1
    generalize w1.alloc (.cells #[.slice a1 n1 c1] 22) = w2 at *
    have hr2 := HR2.out
    have HSE : Hid (Calls Try.prog 30 #[.int .i64 n1, .func (.func 31) #[] #[.pointer (some ⟨w1.heap.size, 0, none⟩), .pointer (some ⟨w.heap.size, 0, none⟩)]] w2 (BSearch (bp rs key.data.toList) n1 w2)) := Lib.hid
      (bsearch_any n1 hn1b _ _ (bp rs key.data.toList) (bp_mono HRI.out _) w2 (Lib.hid fun W hW i hi =>
        seek1_any rs a1 n1 c1 HN1.out.symm hn1b key i hi _ _ W (HO2.out.below hW) ((hW.cell (p := ⟨w1.heap.size, 0, none⟩) hs2).trans HR2.out) ((hW.cell (p := ⟨w.heap.size, 0, none⟩) (by show w.heap.size < w2.heap.size; omega)).trans HK2.out)))
    go_wp2_with fail
    refine HSE.out.mono ?_
    rintro e w3 ⟨q, hcut, rfl, hb3⟩
    have HQ := Lib.hid (bp_end (by rw [HN1.out]; exact hcut))
    have HB3 := Lib.hid (HB2.out.trans (hb3.mono HB2.out.size))
    clear hcut hb3 HSE
    go_wp2_with fail
    go_ret2
    refine ⟨?_, HB3.out⟩
    show _ = Ending.returned (.tuple #[.int .i64 (seekK rs key.data.toList : Int), .int .i64 0])
    rw [HQ.out]; rfl
end Go.Proofs.Ytaddihabjdoihaa
