/- The walk of the law EditEnds. -/
import Derived.Test.YtpaoabdjbdlalaaEdtBeg
import Derived.Test.YtpaoabdjbdlalaaEdtEqE
namespace Go.Proofs.Ytpaoabdjbdlalaa
set_option linter.unusedVariables false
set_option maxRecDepth 100000
open Go.RowKit
def endsEd (n l s k v z : Int) : Edt := ⟨n, l, s, [⟨k, v, z, ⟨#[97]⟩, ⟨#[97]⟩⟩], []⟩
def endsOk (n l s k v z : Int) : Prop := 0 ≤ n ∧ n ≤ 1125899906842624 ∧ 0 ≤ l ∧ l ≤ 1125899906842624 ∧ 0 ≤ s ∧ s ≤ 1125899906842624 ∧ 1 ≤ k ∧ k ≤ 1125899906842624 ∧ 0 ≤ v ∧ v ≤ 4 ∧ 0 ≤ z ∧ z ≤ 16777216
theorem ends_may (n l s k v z : Int) : mayE (endsEd n l s k v z) ↔ endsOk n l s k v z := by
  have hb : ¬ bl ⟨#[97]⟩ ⟨#[97]⟩ := bl_irr _
  constructor
  · rintro ⟨⟨⟨h1, h2⟩, ⟨h3, h4⟩, ⟨h5, h6⟩⟩, -, h7, -⟩
    obtain ⟨⟨a1, a2⟩, ⟨a3, a4⟩, ⟨a5, a6⟩, -⟩ := notBadTb (h7 _ (List.mem_singleton.2 rfl))
    simp only [endsEd] at h1 h2 h3 h4 h5 h6
    simp only at a1 a2 a3 a4 a5 a6
    unfold endsOk
    omega
  · rintro ⟨h1, h2, h3, h4, h5, h6, h7, h8, h9, h10, h11, h12⟩
    refine ⟨⟨⟨h1, h2⟩, ⟨h3, h4⟩, ⟨h5, h6⟩⟩, ⟨by show 1 ≤ 200; decide, by show 0 ≤ 200; decide⟩, fun f hf => ?_, fun n hn => by cases hn⟩
    rw [List.mem_singleton.1 hf]
    unfold badTb badTab
    simp only [not_or]
    exact ⟨⟨by omega, by omega⟩, by omega, by omega, by omega, by omega, by decide, by decide, hb⟩
theorem ends_ok (n l s k v z : Int) : (endsEd n l s k v z).ok := ⟨fun f hf => by rw [List.mem_singleton.1 hf]; constructor <;> (show 1 ≤ maxLen; unfold maxLen; omega), by show 1 ≤ 1000000000000; decide, by show 0 ≤ 1000000000000; decide⟩
theorem ends_bool {n l s k v z : Int} {Q : Bool} (h : Q = true ↔ endsOk n l s k v z) :
    (decide (0 ≤ n) && decide (n ≤ 1125899906842624) && decide (0 ≤ l) && decide (l ≤ 1125899906842624) && decide (0 ≤ s) && decide (s ≤ 1125899906842624) && decide (1 ≤ k) && decide (k ≤ 1125899906842624) && decide (0 ≤ v) && decide (v ≤ 4) && decide (0 ≤ z) && decide (z ≤ 16777216)) = Q := by
  rw [Bool.eq_iff_iff, h]
  unfold endsOk
  simp only [Bool.and_eq_true, decide_eq_true_eq]
  omega
set_option maxHeartbeats 8000000 in
theorem editEnds_walk (w : World) (n : Int) (hn : (Lit.int .i64 n).wf = true) (l : Int) (hl : (Lit.int .i64 l).wf = true) (s : Int) (hs : (Lit.int .i64 s).wf = true) (k : Int) (hk : (Lit.int .i64 k).wf = true) (v : Int) (hv : (Lit.int .i64 v).wf = true) (z : Int) (hz : (Lit.int .i64 z).wf = true) :
    Calls Try.prog 4 #[.int .i64 n, .int .i64 l, .int .i64 s, .int .i64 k, .int .i64 v, .int .i64 z] w fun e w' => e = .returned (.bool true) ∧ Below w.heap.size w w' := by
  clear hn hl hs hk hv hz
  have HBG := Lib.hid (edBegun_any w)
  go_enter Try.func4, Try.ntmps4
  go_wp2_with fail
  refine HBG.out.mono ?_
  rintro e w1 ⟨rfl, b1⟩
  have HB1 := Lib.hid b1
  clear b1 HBG
  obtain ⟨Q, hQ⟩ : ∃ Q : Bool, (Q = true ↔ endsOk n l s k v z) := by
    by_cases h : endsOk n l s k v z
    · exact ⟨true, by simp [h]⟩
    · exact ⟨false, by simp [h]⟩
  have HQB := Lib.hid (ends_bool hQ)
  have HQN : Hid (¬ endsOk n l s k v z → false = Q) := Lib.hid fun h => by cases Q with
    | true => exact absurd (hQ.1 rfl) h
    | false => rfl
  have HQZ : Hid (0 ≤ n ∧ n ≤ 1125899906842624 ∧ 0 ≤ l ∧ l ≤ 1125899906842624 ∧ 0 ≤ s ∧ s ≤ 1125899906842624 ∧ 1 ≤ k ∧ k ≤ 1125899906842624 ∧ 0 ≤ v ∧ v ≤ 4 ∧ 0 ≤ z → decide (z ≤ 16777216) = Q) := Lib.hid fun h => by
    rw [Bool.eq_iff_iff, hQ, decide_eq_true_iff]
    unfold endsOk
    omega
  have HQ := Lib.hid hQ
  clear hQ
  have hE : EdAt ((w1.alloc (.cells #[.int .i64 k, .int .i64 v, .int .i64 z, .string ⟨#[97]⟩, .string ⟨#[97]⟩] 39)).alloc (.cells #[.int .i64 n, .int .i64 l, .int .i64 s, .slice (some ⟨w1.heap.size, 0, none⟩) 1 1, .slice none 0 0] 25)) (.agg #[.int .i64 n, .int .i64 l, .int .i64 s, .slice (some ⟨w1.heap.size, 0, none⟩) 1 1, .slice none 0 0]) (endsEd n l s k v z) :=
    ⟨_, _, rfl, (tbf_one w1 ⟨k, v, z, ⟨#[97]⟩, ⟨#[97]⟩⟩).below ((Below.refl _ _).alloc (Nat.le_refl _) _), RdV.nil _ _ _⟩
  have HB2 := Lib.hid ((HB1.out.alloc HB1.out.size (.cells #[.int .i64 k, .int .i64 v, .int .i64 z, .string ⟨#[97]⟩, .string ⟨#[97]⟩] 39)).alloc (by have := HB1.out.size; simp; omega) (.cells #[.int .i64 n, .int .i64 l, .int .i64 s, .slice (some ⟨w1.heap.size, 0, none⟩) 1 1, .slice none 0 0] 25))
  have HX := Lib.hid (BlkAt.new (w1.alloc (.cells #[.int .i64 k, .int .i64 v, .int .i64 z, .string ⟨#[97]⟩, .string ⟨#[97]⟩] 39)) #[.int .i64 n, .int .i64 l, .int .i64 s, .slice (some ⟨w1.heap.size, 0, none⟩) 1 1, .slice none 0 0] 25)
  have HE := Lib.hid hE
  have hsz : (w1.alloc (.cells #[.int .i64 k, .int .i64 v, .int .i64 z, .string ⟨#[97]⟩, .string ⟨#[97]⟩] 39)).heap.size = w1.heap.size + 1 := by simp
  rw [hsz] at HX
  clear hE hsz HB1
  go_upto_region 5 with fail
  generalize hw2 : (w1.alloc (.cells #[.int .i64 k, .int .i64 v, .int .i64 z, .string ⟨#[97]⟩, .string ⟨#[97]⟩] 39)).alloc (.cells #[.int .i64 n, .int .i64 l, .int .i64 s, .slice (some ⟨w1.heap.size, 0, none⟩) 1 1, .slice none 0 0] 25) = w2 at *
  clear hw2
  generalize w1.heap.size = g at *
  go_cut [15] (fun c wx => c = .bool Q ∧ w2 = wx)
  case first =>
    as_aux_lemma =>
    clear HE HX HB2 HQ
    unfold endsOk at HQN
    go_wp2
    all_goals
      go_meet
      refine ⟨?_, rfl⟩
      first
        | exact congrArg Value.bool HQB.out
        | exact congrArg Value.bool (HQN.out (by omega))
        | exact congrArg Value.bool (HQZ.out (by omega))
  case rest =>
  obtain ⟨rfl, rfl⟩ := hcut
  clear HQB HQN HQZ
  have HEN := Lib.hid (edEncode_any _ _ (ends_ok n l s k v z) _ HE.out)
  obtain ⟨d0, d1, d2, d3, d4, -, -, -, -, -⟩ := HX.out.cells5
  unfold EncToE at HEN
  cases Q with
  | false =>
    have hno : ¬ mayE (endsEd n l s k v z) := fun h => by cases HQ.out.2 ((ends_may _ _ _ _ _ _).1 h)
    have hc : chkE (endsEd n l s k v z) = 12 := if_neg hno
    have HNO := Lib.hid hno
    rw [hc] at HEN
    have HCK : Hid (∀ W, Below w2.heap.size w2 W → Calls Try.prog 10 #[.agg #[.int .i64 n, .int .i64 l, .int .i64 s, .slice (some ⟨g, 0, none⟩) 1 1, .slice none 0 0]] W (ChkRes W 12)) := Lib.hid fun W hW => by rw [← hc]; exact edCheck_any _ _ (ends_ok n l s k v z) W (HE.out.below hW)
    clear hno hc HQ HE
    go_wp2_with fail
    refine HEN.out.mono ?_
    rintro e w3 ⟨v3, rfl, -, hv, hb⟩
    obtain rfl := hv HNO.out
    obtain ⟨e0, e1, e2, e3, e4, -, -, -, -, -⟩ := (HX.out.below hb).cells5
    have HC3 := Lib.hid (HCK.out _ hb)
    have HB3 := Lib.hid (HB2.out.trans (hb.mono HB2.out.size))
    clear hb HEN HCK HX HB2 d0 d1 d2 d3 d4 HNO
    go_wp2_with fail
    refine HC3.out.mono ?_
    rintro e w4 ⟨rfl, hb⟩
    have HB4 := Lib.hid (HB3.out.trans (hb.mono HB3.out.size))
    clear hb HC3 HB3 e0 e1 e2 e3 e4
    go_wp2_with fail
    go_ret
    exact ⟨rfl, HB4.out⟩
  | true =>
    have hyes : mayE (endsEd n l s k v z) := (ends_may _ _ _ _ _ _).2 (HQ.out.1 rfl)
    have hc : chkE (endsEd n l s k v z) = 0 := if_pos hyes
    have HY := Lib.hid hyes
    rw [hc] at HEN
    clear hyes hc HQ
    go_wp2_with fail
    refine HEN.out.mono ?_
    rintro e w3 ⟨v3, rfl, ho, -, hb⟩
    have HD := Lib.hid (edDecode_any _ _ w3 (ho HY.out).rd)
    have HB3 := Lib.hid (HB2.out.trans (hb.mono HB2.out.size))
    have HE3 := Lib.hid (HE.out.below hb)
    have HX3 := Lib.hid (HX.out.below hb)
    clear hb HEN HX HB2 HE d0 d1 d2 d3 d4 ho
    go_wp2_with fail
    refine HD.out.mono ?_
    rintro e w4 ⟨v4, c4, rfl, hd, hb⟩
    obtain ⟨rfl, ho2⟩ := hd.yes _ (decE_enc HY.out)
    have HE4 := Lib.hid (And.intro (HE3.out.below hb) ho2.at)
    have HX4 := Lib.hid (HX3.out.below hb)
    have HB4 := Lib.hid (HB3.out.trans (hb.mono HB3.out.size))
    obtain ⟨va, vd, rfl, oa, od⟩ := ho2
    obtain ⟨a4, k4, rfl⟩ := tbf_form oa
    obtain ⟨a5, n5, k5, rfl⟩ := od.slform
    simp only [endsEd] at HE4 ⊢
    clear oa od hb hd HD HE3 HX3 HB3
    have hal : Below w4.heap.size w4 (w4.alloc (.cells #[.int .i64 n, .int .i64 l, .int .i64 s, .slice a4 1 k4, .slice a5 n5 k5] 25)) := (Below.refl _ _).alloc (Nat.le_refl _) _
    have HX5 := Lib.hid (And.intro (HX4.out.below hal) (BlkAt.new w4 #[.int .i64 n, .int .i64 l, .int .i64 s, .slice a4 1 k4, .slice a5 n5 k5] 25))
    have HQE := Lib.hid (reqEd_any _ _ _ _ (ends_ok n l s k v z) (ends_ok n l s k v z) _ (HE4.out.2.below hal) (HE4.out.1.below hal))
    have HB5 := Lib.hid (HB4.out.trans (hal.mono HB4.out.size))
    clear hal HE4 HX4 HB4
    obtain ⟨w5, hw5⟩ : ∃ x, w4.alloc (.cells #[.int .i64 n, .int .i64 l, .int .i64 s, .slice a4 1 k4, .slice a5 n5 k5] 25) = x := ⟨_, rfl⟩
    rw [hw5] at HX5 HQE HB5
    obtain ⟨d0, d1, d2, d3, d4, -, -, -, -, -⟩ := HX5.out.1.cells5
    obtain ⟨e0, e1, e2, e3, e4, -, -, -, -, -⟩ := HX5.out.2.cells5
    go_wp2_with fail
    refine HQE.out.mono ?_
    rintro e w6 ⟨q, hq, rfl, hb⟩
    obtain rfl : q = true := hq.2 (by first | rfl | trivial)
    have HB6 := Lib.hid (HB5.out.trans (hb.mono HB5.out.size))
    clear hb hq HQE HX5 d0 d1 d2 d3 d4 e0 e1 e2 e3 e4 HB5
    go_wp2_with fail
    go_ret
    exact ⟨rfl, HB6.out⟩
end Go.Proofs.Ytpaoabdjbdlalaa
