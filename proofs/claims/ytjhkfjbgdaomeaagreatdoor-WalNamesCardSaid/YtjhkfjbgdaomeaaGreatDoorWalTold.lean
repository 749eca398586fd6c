/- The walk of the laws' told: a file tells a front of groups. -/
import Derived.Test.YtjhkfjbgdaomeaaGreatDoorWalRep
import Derived.Test.YtjhkfjbgdaomeaaGreatDoorEntEq
namespace Go.Proofs.YtjhkfjbgdaomeaaGreatDoor
set_option linter.unusedVariables false
open Go.RowKit Go.Maps
theorem flat_next {α : Type} {ls : List (List α)} {i : Nat} {l : List α} (h : ls[i]? = some l) : (ls.take (i + 1)).flatten = (ls.take i).flatten ++ l := by
  rw [List.take_add_one, h, List.flatten_append]; simp
set_option maxHeartbeats 8000000 in
set_option maxRecDepth 100000 in
theorem told_any (w : World) (b : Nat) (ρ : Nat → Option Role) (S : Fs) (h : FsAt w b ρ S) (wv : Value) (ls : List (List Ent)) (hw : RdLs encEnt 5 w wv ls) (bs : List UInt8) (hr : S.read (logName 5) = (bs, 0)) (hbl : bs.length ≤ 1000000000) (hE : ErrAt w) (hSp : SpAt w) (hT : TabAt w)
    (rs : List (List UInt8)) (N : Nat) (hrd : readC smN bs = (rs, N, true)) (hrl : rs.length ≤ 1000000) (hrb : ∀ r ∈ rs, r.length ≤ 1000000000) (es : List Ent) (hes : recsE rs = some es) (least most : Nat) (h1 : least ≤ rs.length) (h2 : rs.length ≤ most)
    (hk : rs.length ≤ ls.length) (hfl : (ls.take rs.length).flatten = es) (hel : es.length ≤ 1000000) :
    Calls Tryz.prog 18 #[.pointer (some ⟨b, 0, none⟩), wv, .int .i64 (least : Int), .int .i64 (most : Int)] w fun e w' => e = .returned (.bool true) ∧ Below w.heap.size w w' := by
  have HRP := Lib.hid (replay_any w b ρ S h 5 (logName 5) (walname_small 5 (by omega) w) (by decide +kernel) bs hr hbl hE hSp hT rs N true hrd hrl hrb)
  rw [if_pos rfl, hes] at HRP
  obtain ⟨n, hn⟩ : ∃ n, rs.length = n := ⟨_, rfl⟩
  rw [hn] at HRP h1 h2 hk hfl hrl
  have HLS := Lib.hid hw
  have HFL := Lib.hid hfl
  have HEL := Lib.hid hel
  obtain ⟨wa, wc, rfl⟩ := hw.form
  obtain ⟨m, hm⟩ : ∃ m, ls.length = m := ⟨_, rfl⟩
  rw [hm] at HLS hk ⊢
  have HM := Lib.hid hm
  have d1 : decide ((n : Int) < (least : Int)) = false := decide_eq_false (by omega)
  have d2 : decide ((most : Int) < (n : Int)) = false := decide_eq_false (by omega)
  have d3 : decide (n < least) = false := decide_eq_false (by omega)
  have d4 : decide (most < n) = false := decide_eq_false (by omega)
  clear h hw hr hbl hE hSp hT hrd hrb hes h1 h2 hfl hel hm hn
  go_enter Tryz.func18, Tryz.ntmps18
  go_wp2_with fail
  refine HRP.out.mono ?_
  rintro e w1 ⟨u, n1, c1, rfl, ⟨o1, rfl, rfl⟩, b1⟩
  have HO1 := Lib.hid o1
  have HB1 := Lib.hid b1
  obtain ⟨ua, uc, rfl⟩ := o1.form
  clear o1 b1 HRP
  go_wp2_with fail
  go_loopg [12, 13] n (fun kk vo vi wr => ∃ (i : Nat) (xs : List Ent), vi = .int .i64 i ∧ i ≤ n ∧ n - i ≤ kk ∧ Hid (xs = (ls.take i).flatten) ∧ Hid (OwnK encEnt 5 54 w1.heap.size wr vo xs) ∧ Hid (Below w1.heap.size w1 wr))
  case atStart => exact ⟨0, [], by go_num, by omega, by omega, Lib.hid (by simp), Lib.hid (OwnK.nil _ _ _ _ _), Lib.hid (Below.refl _ _)⟩
  case round =>
    obtain ⟨q, xs, rfl, hq, hkk, HXS, HOW, HB⟩ := hrel
    by_cases hj : q < n
    · have hd1 : decide (q < n) = true := decide_eq_true hj
      have hz1 : (q : Int) < (n : Int) := by omega
      have hz2 : (q : Int) < (m : Int) := by omega
      obtain ⟨l, hl⟩ : ∃ l, ls[q]? = some l := ⟨ls[q]'(by have := HM.out; omega), List.getElem?_eq_getElem _⟩
      obtain ⟨g, off, u, e1, hg, hc, hu⟩ := (HLS.out.below (HB1.out.trans (HB.out.mono HB1.out.size))).at q l hl
      obtain rfl := e1
      have HU := Lib.hid hu
      have HXN : Hid (xs ++ l = (ls.take (q + 1)).flatten) := Lib.hid (by rw [flat_next hl, HXS.out])
      have hle : xs.length + l.length ≤ 1000000 := by
        have e1 : (xs ++ l).length ≤ es.length := by
          rw [HXN.out, ← HFL.out]
          have e2 : ls.take n = ls.take (q + 1) ++ (ls.drop (q + 1)).take (n - (q + 1)) := by
            rw [show n = (q + 1) + (n - (q + 1)) by omega, List.take_add]
            simp
          rw [e2, List.flatten_append, List.length_append]; omega
        have := HEL.out
        rw [List.length_append] at e1
        omega
      obtain ⟨la, lc, rfl, -⟩ := hu.len
      clear hl hu
      go_wp2_with (at_builtin; refine wp_appSK elemK_ent encEnt_len _ _ (by rfl) (by rfl) (by rfl) HOW.out (by rfl) HU.out (encEnt_one _) ?c1 ?c2 ?c3 ?_)
      case c1 => omega
      case c2 => unfold maxLen; omega
      case c3 => exact HB.out.size
      intro v6 w6 o6 b6
      have HO6 := Lib.hid o6
      have HB6 := Lib.hid (HB.out.trans b6)
      clear o6 b6 HOW HB HU
      go_wp2_with fail
      go_roundg (n - (q + 1))
      case measure => omega
      case rel => exact ⟨q + 1, _, by go_num, by omega, Nat.le_refl _, HXN, HO6, HB6⟩
    · have hd1 : decide (q < n) = false := decide_eq_false hj
      have hz1 : ¬ (q : Int) < (n : Int) := by omega
      obtain rfl : q = n := by omega
      have hxe : xs = es := by rw [HXS.out, HFL.out]
      have HQ := Lib.hid (eqall_same _ _ es HEL.out wr ((HO1.out.below HB.out).rd encEnt_len) (by have := HOW.out.rd encEnt_len; rwa [hxe] at this))
      have HB2 := Lib.hid (HB1.out.trans (HB.out.mono HB1.out.size))
      clear hxe HO1 HOW HB HXS
      go_wp2_with fail
      refine HQ.out.mono ?_
      rintro e w2 ⟨rfl, b2⟩
      have HB3 := Lib.hid (HB2.out.trans (b2.mono HB2.out.size))
      clear b2 HQ
      go_wp2_with fail
      go_ret
      exact ⟨rfl, HB3.out⟩
end Go.Proofs.YtjhkfjbgdaomeaaGreatDoor
