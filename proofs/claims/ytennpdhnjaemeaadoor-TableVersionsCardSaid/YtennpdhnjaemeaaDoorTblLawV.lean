/- The walk of the law TableVersions. -/
import Derived.Test.YtennpdhnjaemeaaDoorTblBeg
import Derived.Deep.LoopGhost
import Derived.Deep.CutBlock
namespace Go.Proofs.YtennpdhnjaemeaaDoor
set_option linter.unusedVariables false
set_option maxRecDepth 100000
open Go.RowKit
theorem i64_bd {q : Int} (h : (Lit.int .i64 q).wf = true) : -9223372036854775808 ≤ q ∧ q ≤ 9223372036854775807 := by
  simp [Lit.wf, IntKind.min, IntKind.max, IntKind.signed, IntKind.bits] at h
  omega
def vE (i : Nat) : Ent := ⟨⟨#[107]⟩, ((2 * i : Nat) : Int), ((i % 2 : Nat) : Int), ⟨#[107]⟩, ⟨#[]⟩⟩
/-- The versions from n down, m of them. -/
def verL (n m : Nat) : List Ent := (List.range m).map fun j => vE (n - j)
theorem verL_len (n m : Nat) : (verL n m).length = m := by unfold verL; rw [List.length_map, List.length_range]
theorem verL_at {n m i : Nat} (h : i < m) : (verL n m)[i]? = some (vE (n - i)) := by
  unfold verL
  rw [List.getElem?_map, List.getElem?_range h]; rfl
theorem verL_snoc (n m : Nat) : verL n (m + 1) = verL n m ++ [vE (n - m)] := by
  unfold verL
  rw [List.range_succ, List.map_append]; rfl
theorem verL_lt {n m i j : Nat} {a b : Ent} (hm : m ≤ n) (hij : i < j) (ha : (verL n m)[i]? = some a) (hb : (verL n m)[j]? = some b) : a.norm = b.norm ∧ b.seq < a.seq := by
  have hj : j < m := by have := (List.getElem?_eq_some_iff.1 hb).1; rwa [verL_len] at this
  rw [verL_at (by omega)] at ha
  rw [verL_at hj] at hb
  cases ha
  cases hb
  refine ⟨rfl, ?_⟩
  show ((2 * (n - j) : Nat) : Int) < ((2 * (n - i) : Nat) : Int)
  omega
theorem verL_are {n : Nat} (h1 : 1 ≤ n) (h2 : n ≤ 60) : AreP (verL n n) := by
  refine ⟨fun h => ?_, (srtB_pair _).2 (List.pairwise_iff_getElem.2 fun i j hi hj hij => ?_), fun i e he => ⟨?_, fun j d hj hd hh => ?_⟩⟩
  · have := congrArg List.length h
    rw [verL_len] at this
    simp at this
    omega
  · have := verL_lt (Nat.le_refl n) hij (List.getElem?_eq_getElem hi) (List.getElem?_eq_getElem hj)
    exact .inr ⟨this.1, .inl this.2⟩
  · have hi : i < n := by have := (List.getElem?_eq_some_iff.1 he).1; rwa [verL_len] at this
    rw [verL_at hi] at he
    cases he
    refine ⟨?_, ?_, ?_⟩
    · show 1 ≤ ((2 * (n - i) : Nat) : Int); omega
    · show ((2 * (n - i) : Nat) : Int) ≤ _; omega
    · show (((n - i) % 2 : Nat) : Int) = 1 ∨ (((n - i) % 2 : Nat) : Int) = 0 ∧ _
      rcases Nat.mod_two_eq_zero_or_one (n - i) with h | h
      · exact .inr ⟨by rw [h]; rfl, rfl⟩
      · exact .inl (by rw [h]; rfl)
  · subst hj
    have := verL_lt (Nat.le_refl n) (Nat.lt_succ_self j) hd he
    omega
theorem verL_fit (n : Nat) : ∀ e ∈ verL n n, FitE 60 e := fun e he => by
  unfold verL at he
  obtain ⟨j, -, rfl⟩ := List.mem_map.1 he
  exact ⟨(by decide : (1 : Nat) ≤ 60), (by decide : (1 : Nat) ≤ 60), Nat.zero_le _⟩
theorem verL_none {n : Nat} {q : Int} (hq : q < 2) : findE (verL n n) ⟨#[107]⟩ q = none := find_none fun i x hx hh => by
  have hi : i < n := by have := (List.getElem?_eq_some_iff.1 hx).1; rwa [verL_len] at this
  rw [verL_at hi] at hx
  cases hx
  have h1 : ((2 * (n - i) : Nat) : Int) ≤ q := hh.2
  omega
theorem verL_some {n qn m : Nat} (hn : 1 ≤ n) (hq : 2 ≤ qn) (hm : m = min n (qn / 2)) : findE (verL n n) ⟨#[107]⟩ (qn : Int) = some (vE m) := by
  have hm1 : 1 ≤ m ∧ m ≤ n := by omega
  refine find_some (k := n - m) (by rw [verL_at (by omega), show n - (n - m) = m by omega]) ⟨rfl, ?_⟩ fun i y hi hy hh => ?_
  · show ((2 * m : Nat) : Int) ≤ (qn : Int); omega
  · rw [verL_at (by omega)] at hy
    cases hy
    have h1 : ((2 * (n - i) : Nat) : Int) ≤ (qn : Int) := hh.2
    omega
set_option maxHeartbeats 16000000 in
theorem tableVersions_walk (w : World) (ht : TabAt w) (z : Int) (hz : (Lit.int .i64 z).wf = true) (q : Int) (hq : (Lit.int .i64 q).wf = true) :
    Calls Tryd.prog 8 #[.int .i64 z, .int .i64 q] w fun e w' => e = .returned (.bool true) ∧ Below w.heap.size w w' := by
  have HT := Lib.hid ht
  have HBG := Lib.hid (tbegun_any w ht)
  have hqb := i64_bd hq
  clear ht hz
  go_enter Tryd.func8, Tryd.ntmps8
  go_wp2_with fail
  refine HBG.out.mono ?_
  rintro e w1 ⟨rfl, b1⟩
  have HB1 := Lib.hid b1
  clear b1 HBG
  by_cases h1 : z < 1
  · go_wp2_with fail
    go_ret
    exact ⟨rfl, HB1.out⟩
  by_cases h2 : 60 < z
  · go_wp2_with fail
    go_ret
    exact ⟨rfl, HB1.out⟩
  obtain ⟨n, rfl⟩ : ∃ n : Nat, z = (n : Int) := ⟨z.toNat, (Int.toNat_of_nonneg (by omega)).symm⟩
  have hn1 : 1 ≤ n := by omega
  have hn2 : n ≤ 60 := by omega
  go_upto_region 8 with fail
  go_loopg [6, 7] (n + 1) (fun kk v vi wr => ∃ (i m c6 : Nat) (a6 : Option Addr), vi = .int .i64 (i : Int) ∧ v = .slice a6 m c6 ∧ m + i = n ∧ i + 1 ≤ kk ∧ Hid (OwnK encEnt 5 39 w.heap.size wr (.slice a6 m c6) (verL n m)) ∧ Hid (Below w.heap.size w wr))
  case atStart => exact ⟨n, 0, 0, none, rfl, rfl, by omega, by omega, Lib.hid (OwnK.nil _ _ _ _ _), HB1⟩
  case round =>
    clear HB1
    obtain ⟨i, m, c6, a6, rfl, rfl, hmi, hik, HO, HB⟩ := hrel
    by_cases h0 : 1 ≤ i
    · have h0' : (1 : Int) ≤ (i : Int) := by omega
      have hi60 : i ≤ 60 := by omega
      have HEN : Hid ((encEnt (vE i)).toArray = #[.string ⟨#[107]⟩, .int .i64 (2 * (i : Int)), .int .i64 ((i : Int).tmod 2), .string ⟨#[107]⟩, .string ⟨#[]⟩]) := Lib.hid (by
        unfold encEnt vE
        simp only
        rw [show ((2 * i : Nat) : Int) = 2 * (i : Int) by omega, Int.tmod_eq_emod_of_nonneg (by omega), show ((i % 2 : Nat) : Int) = (i : Int) % 2 by omega])
      have HVS : Hid (verL n m ++ [vE i] = verL n (m + 1)) := Lib.hid (by rw [verL_snoc, show n - m = i by omega])
      have HLM : Hid ((verL n m).length = m) := Lib.hid (verL_len n m)
      have hms : m ≤ 60 := by omega
      go_wp2_with (at_builtin; refine wp_oneK elem_ent encEnt_len _ _ (by rfl) (by rfl) (by rfl) HO.out (vE i) _ HEN.out _ (by rfl) (by rfl) (fun u hu => encEnt_one [vE i] u (by simpa using hu)) ?c1 ?c2 HB.out.size ?_)
      case c1 => rw [HLM.out]; omega
      case c2 => rw [HLM.out]; unfold maxLen; omega
      intro v5 w5 o5 b5 u5 n5
      have HB5 := Lib.hid (HB.out.trans b5)
      rw [HVS.out] at o5
      obtain ⟨a5, c5, rfl, -⟩ := o5.kform
      have HO5 := Lib.hid o5
      rw [verL_len] at HO5 ⊢
      clear o5 b5 u5 n5 HO HB
      go_wp2_with fail
      go_roundg i
      case measure => omega
      case rel => exact ⟨i - 1, m + 1, c5, a5, by first | (go_num; done) | (congr 1; omega), rfl, by omega, by omega, HO5, HB5⟩
    · obtain rfl : i = 0 := by omega
      obtain rfl : m = n := by omega
      have HAR := Lib.hid (verL_are hn1 hn2)
      have hne : verL m m ≠ [] := HAR.out.1
      have HBD := Lib.hid (build_good (verL m m) hne (by rw [verL_len]; omega) HAR.out (verL_fit m) (.slice a6 m c6) wr (HT.out.below HB.out) (HO.out.rd encEnt_len))
      clear hne HO HAR
      go_wp2_with fail
      refine HBD.out.mono ?_
      rintro e w2 ⟨v2, ps, ss, rfl, hmd, o2, b2⟩
      obtain ⟨a2, n2, c2, rfl, -⟩ := o2.form
      have HB2 := Lib.hid (HB.out.trans (b2.mono HB.out.size))
      have HOP := Lib.hid (open_good hmd _ w2 (HT.out.below HB2.out) o2.rd)
      clear hmd o2 b2 HBD HB
      go_wp2_with fail
      refine HOP.out.mono ?_
      rintro e w3 ⟨g, rfl, htk, b3⟩
      have HB3 := Lib.hid (HB2.out.trans (b3.mono HB2.out.size))
      have HGT := Lib.hid (tget_any htk ⟨#[107]⟩ (by decide) q)
      clear htk b3 HOP HB2
      by_cases hq2 : q < 2
      · rw [verL_none hq2] at HGT
        go_wp2_with fail
        refine HGT.out.mono ?_
        rintro e w4 ⟨hr, b4⟩
        obtain rfl : e = .returned (.tuple #[.agg #[.string ⟨#[]⟩, .int .i64 0, .int .i64 0, .string ⟨#[]⟩, .string ⟨#[]⟩], .bool false, .int .i64 0]) := by
          rcases hr with hr | ⟨hr, -⟩
          · exact hr
          · exact absurd rfl hr
        have HB4 := Lib.hid (HB3.out.trans (b4.mono HB3.out.size))
        clear hr b4 HGT HB3
        go_upto_region 16 with fail
        have hb5 := HB4.out.alloc HB4.out.size (.cells #[.string ⟨#[]⟩, .int .i64 0, .int .i64 0, .string ⟨#[]⟩, .string ⟨#[]⟩] 39)
        obtain ⟨w5, hw5⟩ : ∃ x, w4.alloc (.cells #[.string ⟨#[]⟩, .int .i64 0, .int .i64 0, .string ⟨#[]⟩, .string ⟨#[]⟩] 39) = x := ⟨_, rfl⟩
        rw [hw5] at hb5 ⊢
        have HB5 := Lib.hid hb5
        clear hb5 hw5 HB4
        go_wp2_with fail
        go_ret
        exact ⟨rfl, HB5.out⟩
      · obtain ⟨qn, rfl⟩ : ∃ n : Nat, q = (n : Int) := ⟨q.toNat, (Int.toNat_of_nonneg (by omega)).symm⟩
        obtain ⟨k, hk⟩ : ∃ k, k = min m (qn / 2) := ⟨_, rfl⟩
        rw [verL_some hn1 (by omega) hk] at HGT
        have hkm : min (m : Int) ((qn : Int) / 2) = (k : Int) := by omega
        have hk60 : k ≤ 60 := by omega
        have hqt : wrap64 ((qn : Int) / 2) = (qn : Int) / 2 := IntWalk.wrap64_in _ (by omega)
        go_wp2_with fail
        refine HGT.out.mono ?_
        rintro e w4 ⟨hr, b4⟩
        obtain rfl : e = .returned (.tuple #[.agg #[.string ⟨#[107]⟩, .int .i64 ((2 * k : Nat) : Int), .int .i64 ((k % 2 : Nat) : Int), .string ⟨#[107]⟩, .string ⟨#[]⟩], .bool true, .int .i64 0]) := by
          rcases hr with hr | ⟨hr, -⟩
          · exact hr
          · exact absurd rfl hr
        have HB4 := Lib.hid (HB3.out.trans (b4.mono HB3.out.size))
        obtain ⟨k2, hk2⟩ : ∃ x, 2 * k = x := ⟨_, rfl⟩
        obtain ⟨kr, hkr⟩ : ∃ x, k % 2 = x := ⟨_, rfl⟩
        rw [hk2, hkr]
        have e1 : (2 : Int) * (k : Int) = (k2 : Int) := by omega
        have e2 : (k : Int).tmod 2 = (kr : Int) := by rw [Int.tmod_eq_emod_of_nonneg (by omega)]; omega
        clear hr b4 HGT HB3 hk hk2 hkr
        go_upto_region 16 with fail
        have hbk : BlkAt (w4.alloc (.cells #[.string ⟨#[107]⟩, .int .i64 (k2 : Int), .int .i64 (kr : Int), .string ⟨#[107]⟩, .string ⟨#[]⟩] 39)) w4.heap.size #[.string ⟨#[107]⟩, .int .i64 (k2 : Int), .int .i64 (kr : Int), .string ⟨#[107]⟩, .string ⟨#[]⟩] 39 := BlkAt.new _ _ _
        have hb5 := HB4.out.alloc HB4.out.size (.cells #[.string ⟨#[107]⟩, .int .i64 (k2 : Int), .int .i64 (kr : Int), .string ⟨#[107]⟩, .string ⟨#[]⟩] 39)
        obtain ⟨g5, hg5⟩ : ∃ x, w4.heap.size = x := ⟨_, rfl⟩
        rw [hg5] at hbk ⊢
        obtain ⟨w5, hw5⟩ : ∃ x, w4.alloc (.cells #[.string ⟨#[107]⟩, .int .i64 (k2 : Int), .int .i64 (kr : Int), .string ⟨#[107]⟩, .string ⟨#[]⟩] 39) = x := ⟨_, rfl⟩
        rw [hw5] at hb5 hbk ⊢
        have HB5 := Lib.hid hb5
        have y1 : w5.cell? ⟨g5, 1, none⟩ = some (.int .i64 (k2 : Int)) := hbk.at 1
        have y2 : w5.cell? ⟨g5, 2, none⟩ = some (.int .i64 (kr : Int)) := hbk.at 2
        have hgl := hbk.lt
        clear hbk hb5 hw5 hg5 HB4
        go_wp2_with fail
        go_ret
        exact ⟨rfl, HB5.out⟩
end Go.Proofs.YtennpdhnjaemeaaDoor
