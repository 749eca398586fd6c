/- The walk of incipitlaw20.VersionApart. -/
import Derived.Test.YtjloaamaelcmaaaVerMade
import Derived.Test.YtjloaamaelcmaaaVerBegun
import Derived.Test.YtjloaamaelcmaaaVerLvl
import Derived.Test.YtjloaamaelcmaaaVerROv
import Derived.Deep.QuietTactic
import Derived.BigQuiet
namespace Go.Proofs.Ytjloaamaelcmaaa
set_option linter.unusedVariables false
set_option maxRecDepth 100000
open Go.RowKit
/-- A level above 0 as a version tells it: each table ends ahead of the next. -/
theorem lvl_apart {V : Ver} (g : GoodV V) (hs : vSorted V.fs) (n : Int) (hn : 0 < n) : (V.fs.filter fun f => decide (f.lvl = n)).Pairwise (fun f h => bl f.hi h.lo) ∧ (V.fs.filter fun f => decide (f.lvl = n)).length ≤ 200 := by
  refine ⟨?_, Nat.le_trans (List.length_filter_le _ _) g.few⟩
  rw [ver_level g hs (vSame.refl V) n (by omega)]
  exact levelV_apart g n hn
set_option maxHeartbeats 8000000 in
theorem versionApart_walk (w : World) (a : Option Addr) (len cap : Nat) (xs : List Edt) (hx : EdtsAt w (.slice a len cap) xs) (hok : ∀ x ∈ xs, ∀ f ∈ x.adds, f.ok) : Calls Try.prog 4 #[.slice a len cap] w fun e w' => e = .returned (.bool true) ∧ Below w.heap.size w w' := by
  have HBG := Lib.hid (vbegun_any w)
  have HMD : Hid (∀ W, Below w.heap.size w W → Calls Try.prog 9 #[.slice a len cap, .int .i64 20] W (MadeTo W)) := Lib.hid fun W hW => vmade_any _ xs hok 20 (by omega) W (hx.below hW)
  clear hx hok
  go_enter Try.func4, Try.ntmps4
  go_wp2_with fail
  refine HBG.out.mono ?_
  rintro e w1 ⟨rfl, hb⟩
  have HB1 := Lib.hid hb
  clear hb HBG
  go_wp2_with fail
  refine (HMD.out _ HB1.out).mono ?_
  rintro e w2 ⟨b, c, V, W, rfl, hT, -, hb⟩
  have HB2 := Lib.hid (HB1.out.trans (hb.mono HB1.out.size))
  have HLV : Hid (∀ (W1 : World) (n : Int), Below w2.heap.size w2 W1 → Calls Try.prog 17 #[.pointer (some ⟨b, 0, none⟩), .int .i64 n] W1 (FilsTo W1 (V.fs.filter fun f => decide (f.lvl = n)))) := Lib.hid fun W1 n hW => vlevel_raw (hT.v.below hW) n
  have HAP : Hid (∀ n : Int, 0 < n → (V.fs.filter fun f => decide (f.lvl = n)).Pairwise (fun f h => bl f.hi h.lo) ∧ (V.fs.filter fun f => decide (f.lvl = n)).length ≤ 200) := Lib.hid fun n hn => lvl_apart hT.v.good hT.v.srt n hn
  have HB0 := Lib.hid (Below.refl w2.heap.size w2)
  clear hT hb HMD HB1
  generalize V.fs = fs at *
  go_wp2_with fail
  go_loopg [7, 8, 9] 4 (fun kk vn _ _ wr => ∃ n : Nat, vn = .int .i64 ((n : Int) + 1) ∧ n ≤ 4 ∧ 4 - n ≤ kk ∧ Hid (Below w2.heap.size w2 wr))
  case atStart => exact ⟨0, rfl, by omega, by omega, HB0⟩
  case round =>
    clear HB0
    obtain ⟨n, rfl, hn, hnk, HB⟩ := hrel
    by_cases h4 : n < 4
    · have hd1 : (n : Int) + 1 < 5 := by omega
      have HL := Lib.hid (HLV.out wr ((n : Int) + 1) HB.out)
      obtain ⟨hp, hl⟩ := HAP.out ((n : Int) + 1) (by omega)
      have HP := Lib.hid hp
      clear hp
      generalize (fs.filter fun f => decide (f.lvl = (n : Int) + 1)) = ys at *
      go_wp2_with fail
      refine HL.out.mono ?_
      rintro e w3 ⟨u, rfl, ho, hb⟩
      have HB3 := Lib.hid (HB.out.trans (hb.mono HB.out.size))
      obtain ⟨aL, cL, rfl⟩ := fil_form ho
      have HRD := Lib.hid (ho.rd encTbf_len)
      clear ho hb HL HB
      obtain ⟨N, hN⟩ : ∃ N, ys.length = N := ⟨_, rfl⟩
      rw [hN] at HRD hl
      have HN := Lib.hid hN
      rw [hN]
      clear hN
      go_wp2_with fail
      go_loopg [9] N (fun kk vi wq => ∃ i : Nat, vi = .int .i64 ((i : Int) + 1) ∧ (i + 1 ≤ N ∨ i = 0) ∧ N - i ≤ kk ∧ Hid (Below w3.heap.size w3 wq))
      case atStart => exact ⟨0, rfl, by omega, by omega, Lib.hid (Below.refl _ _)⟩
      case round =>
        obtain ⟨q, rfl, hq, hqk, HBq⟩ := hrel
        by_cases h1 : q + 1 < N
        · have hd2 : (q : Int) + 1 < (N : Int) := by omega
          obtain ⟨x, hx⟩ : ∃ x, ys[q]? = some x := ⟨ys[q]'(by have := HN.out; omega), List.getElem?_eq_getElem _⟩
          obtain ⟨y, hy⟩ : ∃ y, ys[q + 1]? = some y := ⟨ys[q + 1]'(by have := HN.out; omega), List.getElem?_eq_getElem _⟩
          obtain ⟨bb, off, rfl, hblt, d0, d1, d2, d3, d4⟩ := (HRD.out.below HBq.out).atTbf q x hx
          obtain ⟨b', off', e', -, e0, e1, e2, e3, e4⟩ := (HRD.out.below HBq.out).atTbf (q + 1) y hy
          simp only [Option.some.injEq, Addr.mk.injEq] at e'
          obtain ⟨rfl, rfl, -⟩ := e'
          have hbl : bl x.hi y.lo := by
            obtain ⟨p1, p2⟩ := List.getElem?_eq_some_iff.1 hx
            obtain ⟨p3, p4⟩ := List.getElem?_eq_some_iff.1 hy
            have := List.pairwise_iff_getElem.1 HP.out q (q + 1) p1 p3 (by omega)
            rwa [p2, p4] at this
          obtain ⟨hs1, hs2⟩ : Op.bytesLess y.lo.toList x.hi.toList = false ∧ (y.lo.toList == x.hi.toList) = false := by
            rcases le_three y.lo x.hi with ⟨-, h⟩ | ⟨-, -, h⟩ | ⟨h1, h2, -⟩
            · exact absurd hbl (of_decide_eq_false h)
            · exact absurd hbl (of_decide_eq_false h)
            · exact ⟨h1, h2⟩
          have hd0 : (0 : Int) ≤ (q : Int) := by omega
          have hqs : IntKind.i64.wrap ((q : Int) + 1 - 1) = (q : Int) := by rw [show (q : Int) + 1 - 1 = (q : Int) by omega]; exact IntWalk.i64_in _ (by omega)
          have hN0 : (q : Int) < (N : Int) := by omega
          have hqb : (q : Int) ≤ 1000 := by omega
          clear hx hy hbl
          go_upto_region 14 with fail
          go_quiet (fail)
          have HBq2 := Lib.hid (HBq.out.trans ((DrN.refl wr).more nq |>.below w3.heap.size))
          generalize wr.drewN nq = wz at *
          go_wp2_with fail
          go_roundg (N - (q + 1))
          case measure => omega
          case rel => exact ⟨q + 1, by go_num, .inl (by omega), Nat.le_refl _, HBq2⟩
        · have hd2 : ¬ (q : Int) + 1 < (N : Int) := by omega
          have HB4 := Lib.hid (HB3.out.trans (HBq.out.mono HB3.out.size))
          clear HB3 HBq HRD HP HN
          go_wp2_with fail
          go_roundg (4 - (n + 1))
          case measure => omega
          case rel => exact ⟨n + 1, by go_num, by omega, Nat.le_refl _, HB4⟩
    · obtain rfl : n = 4 := by omega
      go_wp2_with fail
      go_ret
      exact ⟨rfl, HB2.out.trans (HB.out.mono HB2.out.size)⟩
end Go.Proofs.Ytjloaamaelcmaaa
