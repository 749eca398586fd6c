/- manifest.replay: the version behind all whole edits of a log. -/
import Derived.Test.YtcppaflnhlmcbaaGreatDoorManCre
import Derived.Test.YtcppaflnhlmcbaaGreatDoorMEdt
import Derived.Test.YtcppaflnhlmcbaaGreatDoorMRec
namespace Go.Proofs.YtcppaflnhlmcbaaGreatDoor
set_option linter.unusedVariables false
open Go.RowKit Go.Maps
/-- What replay tells of a log that is right. -/
def RplTo (B : Nat) (w : World) (V : Ver) (N : Nat) (e : Ending) (w' : World) : Prop := ∃ a n c n0 V', e = .returned (.tuple #[.agg #[.slice a n c, .int .i64 n0, .int .i64 V'.lg, .int .i64 V'.ls], .int .i64 (N : Int), .int .i64 0]) ∧ VerP w.heap.size w' (.slice a n c) n0 V' ∧ vSame V V' ∧ Below w.heap.size w w'
theorem runV_take {V W : Ver} {es : List Edt} (h : runV V es = some W) : ∀ i, i ≤ es.length → ∃ X, runV V (es.take i) = some X ∧ ∀ x, es[i]? = some x → ∃ Y, applyV X x = some Y ∧ runV V (es.take (i + 1)) = some Y := by
  intro i hi
  have h1 := runV_app V (es.take i) (es.drop i)
  rw [List.take_append_drop, h] at h1
  cases hx : runV V (es.take i) with
  | none => rw [hx] at h1; cases h1
  | some X =>
    refine ⟨X, rfl, fun x hxe => ?_⟩
    rw [hx] at h1
    have h2 : runV X (es.drop i) = some W := h1.symm
    obtain ⟨hil, rfl⟩ := List.getElem?_eq_some_iff.1 hxe
    rw [List.drop_eq_getElem_cons hil, runV] at h2
    cases ha : applyV X es[i] with
    | none => rw [ha] at h2; cases h2
    | some Y =>
      refine ⟨Y, rfl, ?_⟩
      rw [List.take_add_one, List.getElem?_eq_getElem hil, Option.toList_some, runV_snoc hx]
      exact ha
set_option maxHeartbeats 16000000 in
set_option maxRecDepth 100000 in
theorem mreplay_any {w0 : World} (hG0 : GlobM w0) {w : World} (h0 : Below w0.heap.size w0 w) (s : Option Addr) (len cap : Nat) (log : List UInt8) (hl : RdB w (.slice s len cap) log) (hll : log.length ≤ 1000000000) (es : List Edt) (N : Nat) (hrd : readC smN log = (es.map edtB, N, true)) (hm : ∀ e ∈ es, mayE e) (V : Ver) (hV : manV es = some V) :
    Calls Tryz.prog 49 #[.slice s len cap] w (RplTo 0 w V N) := by
  have hne : es ≠ [] := fun e => by rw [e] at hV; cases hV
  have hrun : runV Ver.new es = some V := by
    unfold manV at hV
    rwa [if_neg hne] at hV
  have HRC : Hid (∀ W, Below w.heap.size w W → Calls Tryz.prog 85 #[.slice s len cap] W (RcRes (es.map edtB, N, true) W)) := Lib.hid fun W hW => by
    have := rcRead_any s len cap log (by omega) W ((hG0.below h0).1.below hW) (hl.below hW)
    rwa [hrd] at this
  have HNW := Lib.hid vnew_any
  have HRUN := Lib.hid (runV_take hrun)
  have HRV := Lib.hid hrun
  have HM := Lib.hid hm
  have hn0 : 0 < es.length := List.length_pos_iff.2 hne
  clear hl hll hrd hG0 h0 hm hV hne hrun
  obtain ⟨wa, hwa⟩ : ∃ wa, w.alloc (.cells #[.slice none 0 0, .int .i64 0, .int .i64 0, .int .i64 0] 73) = wa := ⟨_, rfl⟩
  have hba : Below w.heap.size w wa := by rw [← hwa]; exact (Below.refl _ w).alloc (Nat.le_refl _) _
  have hza : BlkAt wa w.heap.size #[.slice none 0 0, .int .i64 0, .int .i64 0, .int .i64 0] 73 := by rw [← hwa]; exact BlkAt.new _ _ _
  obtain ⟨r, hr⟩ : ∃ r, w.heap.size = r := ⟨_, rfl⟩
  have HRE := Lib.hid hr
  rw [hr] at hza
  have HA := Lib.hid hba
  have HZ := Lib.hid hza
  clear hba hza
  unfold RplTo
  go_enter Tryz.func49, Tryz.ntmps49
  go_wp2_with fail
  clear hwa
  refine (HRC.out wa (by have := HA.out; exact this)).mono ?_
  rintro e w2 ⟨v2, rfl, o2, b2⟩
  have HB2 := Lib.hid (HA.out.trans (b2.mono HA.out.size))
  have HZ2 := Lib.hid (HZ.out.below b2)
  obtain ⟨a2, c2, rfl, hl2, hm2⟩ := o2.form
  have HO2 := Lib.hid o2
  unfold maxLen at hm2
  rw [List.length_map] at hl2 HO2 ⊢
  obtain ⟨n, hn⟩ : ∃ n, es.length = n := ⟨_, rfl⟩
  have HNL := Lib.hid hn
  rw [hn] at hl2 hn0 HO2 ⊢
  have hn0' : ((n : Int) == 0) = false := by rw [beq_eq_false_iff_ne]; omega
  clear o2 b2 HRC HA HZ hn hr
  go_wp2_with fail
  refine (HNW.out w2).mono ?_
  rintro e w3 ⟨rfl, hw3⟩
  have hb3 : Below w2.heap.size w2 w3 := by rw [hw3]; exact (Below.refl _ w2).alloc (Nat.le_refl _) _
  have HV3 : Hid (VerAt r w3 w2.heap.size Ver.new) := Lib.hid (by rw [hw3]; exact vnew_at w2 r)
  obtain ⟨g, hg⟩ : ∃ g, w2.heap.size = g := ⟨_, rfl⟩
  have HGE := Lib.hid hg
  rw [hg] at HV3
  have HB3 := Lib.hid hb3
  clear hw3 hb3 HNW hn0 hn0'
  go_wp2_with fail
  clear hg
  go_loopg [30] n (fun kk vi wr => ∃ (i : Nat) (X Y : Ver), vi = .int .i64 i ∧ i ≤ n ∧ n - i ≤ kk ∧ Hid (runV Ver.new (es.take i) = some X) ∧ Hid (vSame X Y) ∧ Hid (VerAt r wr g Y) ∧ Hid (Below w2.heap.size w2 wr))
  case atStart => exact ⟨0, Ver.new, Ver.new, by go_num, by omega, by omega, Lib.hid rfl, Lib.hid (vSame.refl _), HV3, HB3⟩
  case round =>
    obtain ⟨q, X, Y, rfl, hq, hkk, HRX, HXY, HVY, HBW⟩ := hrel
    by_cases h1 : q < n
    · have hd1 : decide (q < n) = true := decide_eq_true h1
      have hz1 : (q : Int) < (n : Int) := by omega
      obtain ⟨x, hx⟩ : ∃ x, es[q]? = some x := ⟨es[q]'(by have := HNL.out; omega), List.getElem?_eq_getElem _⟩
      have hxm : mayE x := HM.out x (List.mem_of_getElem? hx)
      obtain ⟨g', u, e1, hg', hc, hu⟩ := (HO2.out.below HBW.out).at q (edtB x) (by rw [List.getElem?_map, hx]; rfl)
      obtain rfl := e1
      rw [Nat.zero_add] at hc
      have HDE := Lib.hid (edDecode_any u (edtB x) wr hu.rd)
      obtain ⟨ua, ul, uc, rfl, -⟩ := hu.form
      obtain ⟨X', hX', hXn⟩ := HRUN.out q (by have := HNL.out; omega)
      obtain rfl : X = X' := by have := HRX.out; rw [hX'] at this; exact (Option.some.inj this).symm
      obtain ⟨Z, hZ1, hZ2⟩ := hXn x hx
      have HZX := Lib.hid (And.intro hZ1 hZ2)
      have HXM := Lib.hid hxm
      clear hx hxm hu hX' hXn hZ1 hZ2 hg'
      go_wp2_with fail
      refine HDE.out.mono ?_
      rintro e w4 ⟨v4, c4, rfl, h4, b4⟩
      rw [decE_enc HXM.out] at h4
      obtain ⟨rfl, ho4⟩ := h4.yes x rfl
      have hea := ho4.at
      obtain ⟨aA, cA, aD, cD, rfl⟩ := edt_forms hea
      have HV4 := Lib.hid (HVY.out.below b4)
      have HB4 := Lib.hid (HBW.out.trans (b4.mono HBW.out.size))
      have HE4 := Lib.hid hea
      generalize hnA : x.adds.length = nA at *
      generalize hnD : x.dels.length = nD at *
      obtain ⟨w5, hw5⟩ : ∃ w5, w4.alloc (.cells #[.int .i64 x.nxt, .int .i64 x.lg, .int .i64 x.lst, .slice aA nA cA, .slice aD nD cD] 39) = w5 := ⟨_, rfl⟩
      have hb5 : Below w4.heap.size w4 w5 := by rw [← hw5]; exact (Below.refl _ w4).alloc (Nat.le_refl _) _
      have hx5 : BlkAt w5 w4.heap.size #[.int .i64 x.nxt, .int .i64 x.lg, .int .i64 x.lst, .slice aA nA cA, .slice aD nD cD] 39 := by rw [← hw5]; exact BlkAt.new _ _ _
      obtain ⟨x0, x1, x2, x3, x4⟩ := cell5_of hx5
      have HV5 := Lib.hid (HV4.out.below hb5)
      have HB5 := Lib.hid (HB4.out.trans (hb5.mono HB4.out.size))
      have hok : x.ok := by
        obtain ⟨-, ⟨k1, k2⟩, k3, -⟩ := HXM.out
        refine ⟨fun f hf => ?_, Nat.le_trans k1 (by decide), Nat.le_trans k2 (by decide)⟩
        obtain ⟨-, -, -, q1, q2, -⟩ := notBadTb (k3 f hf)
        constructor <;> (unfold maxLen; omega)
      have HAP := Lib.hid (vapply_new HV5.out (by have h1 := HB2.out.size; have h2 := HB5.out.size; have h3 := HRE.out; omega) _ x (HE4.out.below hb5) hok)
      clear hea ho4 b4 hb5 hx5 hok HDE hc HVY HBW
      go_wp2_with fail
      clear hw5
      refine HAP.out.mono ?_
      rintro e w6 ⟨c6, V', rfl, hv, hu6, hn, hs⟩
      rcases applyV_same HXY.out (runV_good new_good HRX.out) x with ⟨e1, -⟩ | ⟨m1, m2, e1, e2, e3⟩
      · rw [HZX.out.1] at e1; cases e1
      rw [HZX.out.1] at e1
      obtain rfl := Option.some.inj e1
      obtain ⟨rfl, hsm, -⟩ := hs _ e2
      have HV6 := Lib.hid hv
      have HS6 := Lib.hid (e3.trans hsm)
      have HB6 : Hid (Below w2.heap.size w2 w6) := Lib.hid (HB5.out.trans (hu6.below HB5.out.size fun k hk e => by have := HGE.out; omega))
      clear x0 x1 x2 x3 x4 hv hu6 hn hs e1 e2 e3 hsm HAP HV5 HB5 HV4 HB4 HE4
      go_wp2_with fail
      go_roundg (n - (q + 1))
      case measure => omega
      case rel => exact ⟨q + 1, Z, V', by go_num, by omega, Nat.le_refl _, Lib.hid HZX.out.2, HS6, HV6, HB6⟩
    · have hd1 : decide (q < n) = false := decide_eq_false h1
      have hz1 : ¬ (q : Int) < (n : Int) := by omega
      obtain rfl : q = n := by omega
      obtain rfl : X = V := by
        have h2 := HRX.out
        rw [← HNL.out, List.take_length, HRV.out] at h2
        exact (Option.some.inj h2).symm
      have HZW := Lib.hid (HZ2.out.below HBW.out)
      obtain ⟨tv, n0, hb, hp⟩ := HVY.out.p
      obtain ⟨aT, cT, rfl⟩ := fil_form hp.row
      have HP := Lib.hid hp
      obtain ⟨nT, hnT⟩ : ∃ nT, Y.fs.length = nT := ⟨_, rfl⟩
      rw [hnT] at hb HP
      obtain ⟨y0, y1, y2, y3⟩ := cell4_of hb
      obtain ⟨z0, z1, z2, z3⟩ := cell4_of HZW.out
      obtain ⟨f0, f1, f2, f3⟩ := free4_of HZW.out
      have hf := fill4 HZW.out (.slice aT nT cT) (.int .i64 n0) (.int .i64 Y.lg) (.int .i64 Y.ls)
      have HPF := Lib.hid (HP.out.aside hf.2 HZW.out (by decide))
      obtain ⟨r0, r1, r2, r3⟩ := cell4_of hf.1
      have HBF : Hid (Below w.heap.size w ((((wr.setCell ⟨r, 0, none⟩ (.slice aT nT cT)).setCell ⟨r, 1, none⟩ (.int .i64 n0)).setCell ⟨r, 2, none⟩ (.int .i64 Y.lg)).setCell ⟨r, 3, none⟩ (.int .i64 Y.ls))) := Lib.hid ((HB2.out.trans (HBW.out.mono HB2.out.size)).trans (hf.2.below (Nat.le_trans HB2.out.size HBW.out.size) fun k hk e => by have := HRE.out; omega))
      clear hb hp hnT hf
      go_wp2_with fail
      refine bodyPost_ret (v := .tuple #[.agg #[.slice aT nT cT, .int .i64 n0, .int .i64 Y.lg, .int .i64 Y.ls], .int .i64 (N : Int), .int .i64 0]) (by simp [results, Tryz.results49, go_sem, r0, r1, r2, r3]) rfl ⟨aT, nT, cT, n0, Y, rfl, ?_, HXY.out, HBF.out⟩
      rw [HRE.out]; exact HPF.out
end Go.Proofs.YtcppaflnhlmcbaaGreatDoor
