/- The walk of incipitlaw22.PickAll. -/
import Derived.Test.YtgdmmhdihgajkaaPkPick
import Derived.Test.YtgdmmhdihgajkaaPkBegun
import Derived.Test.YtgdmmhdihgajkaaVerMade
import Derived.Test.YtgdmmhdihgajkaaMEdtR
import Derived.Deep.LoopGhost
namespace Go.Proofs.Ytgdmmhdihgajkaa
set_option linter.unusedVariables false
set_option maxRecDepth 100000
open Go.RowKit
theorem jobN_ok {V : Ver} (g : GoodV V) : (∀ f ∈ (jobN V.fs).ins, f.ok) ∧ (∀ f ∈ (jobN V.fs).below, f.ok) ∧ (jobN V.fs).ins.length ≤ 200 ∧ (jobN V.fs).below.length ≤ 200 := by
  cases h : pickL V.fs with
  | none => rw [(job_none h).1]; exact ⟨fun f hf => (nomatch hf), fun f hf => (nomatch hf), Nat.zero_le _, Nat.zero_le _⟩
  | some n =>
    rw [(job_some h).1]
    refine ⟨fun f hf => good_ok g f (ins_mem hf).1, fun f hf => ?_, ins_len (lvl_len g) n, Nat.le_trans (List.length_filter_le _ _) (lvl_len g (n + 1))⟩
    exact good_ok g f (level_mem.1 (List.mem_filter.1 hf).1).1
set_option maxHeartbeats 8000000 in
theorem pickAll_walk (w : World) (a : Option Addr) (len cap : Nat) (xs : List Edt) (hx : EdtsAt w (.slice a len cap) xs) (hok : ∀ x ∈ xs, ∀ f ∈ x.adds, f.ok) : Calls Try.prog 3 #[.slice a len cap] w fun e w' => e = .returned (.bool true) ∧ Below w.heap.size w w' := by
  have HBG := Lib.hid (pbegun_any w)
  have HMD : Hid (∀ W, Below w.heap.size w W → Calls Try.prog 6 #[.slice a len cap, .int .i64 20] W (MadeTo W)) := Lib.hid fun W hW => vmade_any _ xs hok 20 (by omega) W (hx.below hW)
  clear hx hok
  go_enter Try.func3, Try.ntmps3
  go_wp2_with fail
  refine HBG.out.mono ?_
  rintro e w1 ⟨rfl, hb⟩
  have HB1 := Lib.hid hb
  clear hb HBG
  go_wp2_with fail
  refine (HMD.out _ HB1.out).mono ?_
  rintro e w2 ⟨b, c, V, W, rfl, hT, -, hb⟩
  have HB2 := Lib.hid (HB1.out.trans (hb.mono HB1.out.size))
  have HLV := Lib.hid (vLvs hT.v)
  have HLW := Lib.hid (rLvs hT.r)
  have HJS := Lib.hid (jobN_same hT.s hT.v.good)
  have HSS : Hid (∀ n : Int, 0 ≤ n → sizV n W.fs = sizV n V.fs) := Lib.hid fun n hn => (siz_same hT.s hT.v.good n hn).symm
  have HOK := Lib.hid (jobN_ok hT.v.good)
  have HB0 := Lib.hid (Below.refl w2.heap.size w2)
  clear hT hb HMD HB1
  go_wp2_with fail
  go_loopg [7] 5 (fun kk vn wr => ∃ n : Nat, vn = .int .i64 (n : Int) ∧ n ≤ 5 ∧ 5 - n ≤ kk ∧ Hid (Below w2.heap.size w2 wr))
  case atStart => exact ⟨0, rfl, by omega, by omega, HB0⟩
  case round =>
    clear HB0
    obtain ⟨n, rfl, hn, hnk, HB⟩ := hrel
    by_cases h5 : n < 5
    · have hd1 : (n : Int) < 5 := by omega
      have HP := Lib.hid (psize_any HLV.out (n : Int) (by omega) wr HB.out)
      have HR : Hid (∀ W1, Below w2.heap.size w2 W1 → Calls Try.prog 8 #[.pointer (some ⟨c, 0, none⟩), .int .i64 (n : Int)] W1 (IntTo W1 (sizV (n : Int) V.fs))) := Lib.hid fun W1 hW => by
        rw [← HSS.out (n : Int) (by omega)]
        exact rsize_any HLW.out (n : Int) (by omega) W1 hW
      unfold IntTo at HP HR
      generalize sizV (n : Int) V.fs = s at *
      go_wp2_with fail
      refine HP.out.mono ?_
      rintro e w3 ⟨rfl, hb⟩
      have HB3 := Lib.hid (HB.out.trans (hb.mono HB.out.size))
      clear hb HP HB
      go_wp2_with fail
      refine (HR.out _ HB3.out).mono ?_
      rintro e w4 ⟨rfl, hb⟩
      have HB4 := Lib.hid (HB3.out.trans (hb.mono HB3.out.size))
      clear hb HR HB3
      go_wp2_with fail
      go_roundg (5 - (n + 1))
      case measure => omega
      case rel => exact ⟨n + 1, by go_num, by omega, Nat.le_refl _, HB4⟩
    · obtain rfl : n = 5 := by omega
      have HN := Lib.hid (pnext_any (HLV.out.below HB.out))
      have HBr := Lib.hid (HB2.out.trans (HB.out.mono HB2.out.size))
      unfold JobTo at HN
      have HPK : Hid (∀ W1, Below w2.heap.size w2 W1 → Calls Try.prog 10 #[.pointer (some ⟨c, 0, none⟩)] W1 (fun e w' => ∃ u1 u2 : Value, e = .returned (.tuple #[.agg #[.int .i64 (jobN V.fs).lvl, u1, u2, .bool (jobN V.fs).bot], .bool (pickV V.fs).isSome]) ∧ OwnK encTbf 5 49 W1.heap.size w' u1 (jobN V.fs).ins ∧ OwnK encTbf 5 49 W1.heap.size w' u2 (jobN V.fs).below ∧ Below W1.heap.size W1 w')) := Lib.hid fun W1 hW => by
        rw [HJS.out.1, HJS.out.2]
        exact rpick_any (HLW.out.below hW)
      clear HLV HLW HJS HSS HB2
      generalize (pickV V.fs).isSome = K at *
      generalize jobN V.fs = J at *
      obtain ⟨lv, is, bs, bt⟩ := J
      simp only at HN HPK HOK
      obtain ⟨N1, hN1⟩ : ∃ N, is.length = N := ⟨_, rfl⟩
      obtain ⟨N2, hN2⟩ : ∃ N, bs.length = N := ⟨_, rfl⟩
      have HNN := Lib.hid (And.intro hN1 hN2)
      go_wp2_with fail
      refine HN.out.mono ?_
      rintro e w3 ⟨u1, u2, rfl, ho1, ho2, hb⟩
      have HB3 := Lib.hid (HB.out.trans (hb.mono HB.out.size))
      have HBr3 := Lib.hid (HBr.out.trans (hb.mono HBr.out.size))
      have HR1 := Lib.hid (ho1.rd encTbf_len)
      have HR2 := Lib.hid (ho2.rd encTbf_len)
      obtain ⟨a1, c1, rfl⟩ := fil_form ho1
      obtain ⟨a2, c2, rfl⟩ := fil_form ho2
      rw [hN1] at HR1 ⊢
      rw [hN2] at HR2 ⊢
      clear ho1 ho2 hb HN HB HBr hN1 hN2
      have hA : Below w3.heap.size w3 (w3.alloc (.cells #[.int .i64 lv, .slice a1 N1 c1, .slice a2 N2 c2, .bool bt] 32)) := (Below.refl _ _).alloc (Nat.le_refl _) _
      have HP4 := Lib.hid (HPK.out _ (HB3.out.trans (hA.mono HB3.out.size)))
      have HX4 := Lib.hid (BlkAt.new w3 #[.int .i64 lv, .slice a1 N1 c1, .slice a2 N2 c2, .bool bt] 32)
      have HR14 := Lib.hid (HR1.out.below hA)
      have HR24 := Lib.hid (HR2.out.below hA)
      have HBr4 := Lib.hid (HBr3.out.trans (hA.mono HBr3.out.size))
      clear HPK HB3 HBr3 hA HR1 HR2
      go_wp2_with fail
      refine HP4.out.mono ?_
      rintro e w5 ⟨u1, u2, rfl, ho1, ho2, hb⟩
      have HBr5 := Lib.hid (HBr4.out.trans (hb.mono HBr4.out.size))
      have HX5 := Lib.hid (HX4.out.below hb)
      have HR15 := Lib.hid (HR14.out.below hb)
      have HR25 := Lib.hid (HR24.out.below hb)
      have HR3 := Lib.hid (ho1.rd encTbf_len)
      have HR4 := Lib.hid (ho2.rd encTbf_len)
      obtain ⟨a3, c3, rfl⟩ := fil_form ho1
      obtain ⟨a4, c4, rfl⟩ := fil_form ho2
      clear ho1 ho2 hb HP4 HX4 HR14 HR24 HBr4
      rw [HNN.out.1] at HR3 ⊢
      rw [HNN.out.2] at HR4 ⊢
      generalize w3.heap.size = p1 at *
      have hA : Below w5.heap.size w5 (w5.alloc (.cells #[.int .i64 lv, .slice a3 N1 c3, .slice a4 N2 c4, .bool bt] 35)) := (Below.refl _ _).alloc (Nat.le_refl _) _
      have hlb : is.length ≤ 1000000000000 ∧ bs.length ≤ 1000000000000 := by have := HOK.out.2.2; omega
      have HE1 := Lib.hid (reqF_any _ _ is is HOK.out.1 HOK.out.1 hlb.1 hlb.1 _ (HR15.out.below hA) (HR3.out.below hA))
      have HE2 : Hid (∀ W1, Below w5.heap.size w5 W1 → Calls Try.prog 11 #[.slice a2 N2 c2, .slice a4 N2 c4] W1 (EqRes (bs = bs) W1)) := Lib.hid fun W1 hW => reqF_any _ _ bs bs HOK.out.2.1 HOK.out.2.1 hlb.2 hlb.2 W1 (HR25.out.below hW) (HR4.out.below hW)
      have HX6 := Lib.hid (HX5.out.below hA)
      have HBA := Lib.hid hA
      have HBr6 := Lib.hid (HBr5.out.trans (hA.mono HBr5.out.size))
      have HK6 := Lib.hid (BlkAt.new w5 #[.int .i64 lv, .slice a3 N1 c3, .slice a4 N2 c4, .bool bt] 35)
      obtain ⟨k0, k1, k2, k3⟩ := cell4_of HX6.out
      obtain ⟨j0, j1, j2, j3⟩ := cell4_of HK6.out
      clear HX5 HR15 HR25 HR3 HR4 HBr5 HNN hA hlb
      go_wp2_with fail
      refine HE1.out.mono ?_
      rintro e w7 ⟨q, hq, rfl, hb⟩
      obtain rfl : q = true := hq.2 (by trivial)
      have HB7 := Lib.hid (HBA.out.trans (hb.mono HBA.out.size))
      have HBr7 := Lib.hid (HBr6.out.trans (hb.mono HBr6.out.size))
      have HX7 := Lib.hid (HX6.out.below hb)
      have HK7 := Lib.hid (HK6.out.below hb)
      clear hq hb HE1 HX6 HK6 HBr6 HBA k0 k1 k2 k3 j0 j1 j2 j3
      generalize w5.heap.size = p2 at *
      obtain ⟨k0, k1, k2, k3⟩ := cell4_of HX7.out
      obtain ⟨j0, j1, j2, j3⟩ := cell4_of HK7.out
      go_wp2_with fail
      refine (HE2.out w7 HB7.out).mono ?_
      rintro e w8 ⟨q, hq, rfl, hb⟩
      obtain rfl : q = true := hq.2 (by trivial)
      have HBr8 := Lib.hid (HBr7.out.trans (hb.mono HBr7.out.size))
      clear hq hb HE2 HB7 HBr7 HX7 HK7 k0 k1 k2 k3 j0 j1 j2 j3
      go_wp2_with fail
      go_ret
      exact ⟨rfl, HBr8.out⟩
end Go.Proofs.Ytgdmmhdihgajkaa
