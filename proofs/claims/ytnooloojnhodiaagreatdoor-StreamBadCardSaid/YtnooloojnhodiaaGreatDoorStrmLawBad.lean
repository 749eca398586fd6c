/- The walk of the law StreamBad. -/
import Derived.Test.YtnooloojnhodiaaGreatDoorMStrmB
import Derived.Deep.DeepCutAuto
import Derived.Deep.CutBlock
import Derived.WalkLawsBesides
namespace Go.Proofs.YtnooloojnhodiaaGreatDoor
set_option linter.unusedVariables false
open Go.RowKit
/-- The six ends: four can begin no character, two can. -/
def BadEnd (k : Nat) (x : List UInt8) : Prop := (firstP x).2 = 0 ∧ x ≠ [] ∧ x.length ≤ 3 ∧ bgP x = decide (4 ≤ k)
theorem bad0 : BadEnd 0 [255] := ⟨by decide +kernel, by simp, by simp, by decide +kernel⟩
theorem bad1 : BadEnd 1 [192] := ⟨by decide +kernel, by simp, by simp, by decide +kernel⟩
theorem bad2 : BadEnd 2 [237, 160] := ⟨by decide +kernel, by simp, by simp, by decide +kernel⟩
theorem bad3 : BadEnd 3 [128] := ⟨by decide +kernel, by simp, by simp, by decide +kernel⟩
theorem bad4 : BadEnd 4 [226, 130] := ⟨by decide +kernel, by simp, by simp, by decide +kernel⟩
theorem bad5 : BadEnd 5 [240, 159, 152] := ⟨by decide +kernel, by simp, by simp, by decide +kernel⟩
theorem good_dec' {T x : List UInt8} {L : List Int} (g : Good T L) : Dec (T ++ x) L x := ⟨T, write_read T L g.1, rfl⟩
theorem bad_many {T x : List UInt8} {L : List Int} (g : Good T L) (hx : (firstP x).2 = 0) : ¬ TooMany (T ++ x) := by
  rintro ⟨l, r, h1, h2⟩
  obtain ⟨m, rfl⟩ := dec_front l _ _ _ _ h1 (good_dec' g) hx
  have := good_rk g.2
  rw [partsP_app] at this
  have := rk_app this
  have e := runH_rk (partsP l) [] []
  rw [h2] at e
  have e0 : mkN [] = 0 := rfl
  rw [e0, this] at e
  cases e
/-- What Write answers at a good text with such an end. -/
theorem bad_step {T x : List UInt8} {L : List Int} {k b : Nat} {w w' : World} {e : Ending} (g : Good T L) (hx : BadEnd k x) (h : StepRes w b [] [] (T ++ x) e w') :
    Upd b w w' ∧ ((k < 4 ∧ NilRes 1 e ∧ DeadAt w' b 1) ∨ (4 ≤ k ∧ ∃ v o, e = .returned (.tuple #[v, .int .i64 0]) ∧ OpenAt w' b (T ++ x) o)) := by
  obtain ⟨x1, x2, x3, x4⟩ := hx
  obtain ⟨hU, h⟩ := h
  rw [List.nil_append] at h
  refine ⟨hU, ?_⟩
  rcases h with ⟨h1, -⟩ | ⟨⟨l, r, h1, h2, h3, h4⟩, h5, h6⟩ | ⟨v, o, h1, h2, h3⟩
  · exact absurd h1 (bad_many g x1)
  · obtain ⟨-, rfl⟩ := dec_unique h1 (good_dec' g) h2 x1
    rw [h4] at x4
    have := of_decide_eq_false x4.symm
    exact .inl ⟨by omega, h5, h6⟩
  · have h3' := h3
    obtain ⟨l, cut, S, H, k1, k2, k3, k4, -⟩ := h3
    obtain ⟨-, e2⟩ := dec_unique k1 (good_dec' g) k3 x1
    rw [e2] at k4
    have hb : bgP x = true := by rcases k4 with h | h; exact absurd h x2; exact h
    rw [hb] at x4
    exact .inr ⟨of_decide_eq_true x4.symm, v, o, h1, by rwa [List.nil_append] at h3'⟩
theorem bad_close {T x out : List UInt8} {L : List Int} {k b : Nat} {w w' : World} {e : Ending} (g : Good T L) (hx : BadEnd k x) (h : EndRes w b (T ++ x) out e w') : Upd b w w' ∧ NilRes 1 e ∧ DeadAt w' b 1 := by
  have hr : readP (T ++ x) = none := by
    rw [read_app T x L g.1, none_read hx.1 hx.2.1]; rfl
  obtain ⟨hU, ⟨h1, h2, h3⟩ | ⟨L', v, bs, h1, -⟩⟩ := h
  · exact ⟨hU, h2, h3⟩
  · have := h1.1; rw [hr] at this; cases this
theorem kind_of (kd : Int) : ∃ k : Nat, k < 6 ∧ Int.tmod (Int.tmod kd 6 + 6) 6 = (k : Int) ∧ -6 < Int.tmod kd 6 ∧ Int.tmod kd 6 < 6 := by
  have h1 : -6 < Int.tmod kd 6 := by have := Int.lt_tmod_of_pos kd (show (0 : Int) < 6 by omega); omega
  have h2 : Int.tmod kd 6 < 6 := Int.tmod_lt_of_pos kd (by omega)
  have h3 : 0 ≤ Int.tmod (Int.tmod kd 6 + 6) 6 := Int.tmod_nonneg _ (by omega)
  have h4 : Int.tmod (Int.tmod kd 6 + 6) 6 < 6 := Int.tmod_lt_of_pos _ (by omega)
  exact ⟨(Int.tmod (Int.tmod kd 6 + 6) 6).toNat, by omega, by omega, h1, h2⟩
set_option maxHeartbeats 8000000 in
set_option maxRecDepth 100000 in
theorem streamBad_walk (w : World) (hE : ErrAt w) (hSp : SpAt w) (s : ByteArray) (hs : s.size ≤ maxLen) (kd : Int) (wk : (Lit.int .i64 kd).wf = true) :
    Calls Tryz.prog 5 #[.string s, .int .i64 kd] w fun e w' => e = .returned (.bool true) ∧ Below w.heap.size w w' := by
  have HES : Hid (ErrAt w ∧ SpAt w) := ⟨hE, hSp⟩
  have HB := Lib.hid (sbegun_any w hE hSp)
  have HC1 : Hid (∀ w, Calls Tryz.prog 7 #[.string s, .int .i64 40] w fun e w' => ∃ t : ByteArray, e = .returned (.string t) ∧ t.size ≤ 40 ∧ w = w') := Lib.hid (cut_any s 40 (by omega) hs)
  have HKD := Lib.hid (swf_bd wk)
  clear hE hSp hs wk
  go_enter Tryz.func5, Tryz.ntmps5
  go_wp2_with fail
  refine HB.out.mono ?_
  rintro e w1 ⟨rfl, hb1⟩
  clear HB
  go_wp2_with fail
  refine (HC1.out _).mono ?_
  rintro e w' ⟨t, rfl, ht, rfl⟩
  clear HC1
  have HRT := Lib.hid (rtext_any t w1 (short_of (by rw [size_toList]; omega)))
  obtain ⟨T, hT⟩ : ∃ T, t.data.toList = T := ⟨_, rfl⟩
  have hTl : T.length = t.size := by rw [← hT]; exact size_toList t
  rw [hT] at HRT
  have HT := Lib.hid hT
  clear hT
  have hRd : ∀ (f : List UInt8) (ls : List Int), f.length ≤ 8000 → readP f = some ls → ∀ w, Calls Tryz.prog 9 #[.string ⟨f.toArray⟩] w (ReadRes w (some ls)) := fun f ls h1 h2 w => by
    have := rread_any ⟨f.toArray⟩ (by show f.toArray.size ≤ 1000000; rw [List.size_toArray]; omega) w
    rwa [show (⟨f.toArray⟩ : ByteArray).data.toList = f from rfl, h2] at this
  have HRd := Lib.hid hRd
  clear hRd
  rcases text_case T with ⟨h1, h2⟩ | ⟨L, f, h1, h2, h3, h4, h5, h6, h7, h8⟩ | ⟨L, f, h1, h2, h3, h4, h6, h7, h8⟩
  · rw [h1] at HRT
    have HR2 := Lib.hid (HRd.out [] [] (by simp) rfl)
    clear h1 h2
    go_wp2_with fail
    refine HRT.out.mono ?_
    intro e w2 hr
    obtain ⟨rfl, hb2⟩ := hr.none
    have HB2 : Hid (Below w.heap.size w w2) := Lib.hid (hb1.trans (hb2.mono hb1.size))
    clear hb1 hb2 hr HRT
    go_wp2_with fail
    refine (HR2.out w2).mono ?_
    intro e w3 hr
    obtain ⟨lv, rfl, hlv, hb3⟩ := hr.cases
    have HB3 : Hid (Below w.heap.size w w3) := Lib.hid (HB2.out.trans (hb3.mono HB2.out.size))
    clear hr hlv hb3
    go_wp2_with fail
    go_ret
    exact ⟨rfl, HB3.out⟩
  · rw [h2] at HRT
    have HR2 := Lib.hid (HRd.out f _ (by omega) h3)
    have HMK : Hid (∀ w v, RdI w v (charsP L) → Calls Tryz.prog 10 #[v, .int .i64 30] w fun e w' => e = .returned (.bool true) ∧ Below w.heap.size w w') := Lib.hid fun w v hv => by
      have := marks_any w v _ hv h8 (by omega)
      rwa [h4] at this
    clear h1 h2 h3 h4 h5 h6 h7 h8
    go_wp2_with fail
    refine HRT.out.mono ?_
    intro e w2 hr
    obtain ⟨rfl, hb2⟩ := hr.some
    have HB2 : Hid (Below w.heap.size w w2) := Lib.hid (hb1.trans (hb2.mono hb1.size))
    clear hb1 hb2 hr HRT
    go_wp2_with fail
    refine (HR2.out w2).mono ?_
    intro e w3 hr
    obtain ⟨lv, rfl, hlv, hb3⟩ := hr.cases
    have HB3 : Hid (Below w.heap.size w w3) := Lib.hid (HB2.out.trans (hb3.mono HB2.out.size))
    have HMK3 := Lib.hid (HMK.out w3 lv hlv)
    clear hr hlv hb3 HMK
    go_wp2_with fail
    refine HMK3.out.mono ?_
    rintro e w4 ⟨rfl, hb4⟩
    have HB4 : Hid (Below w.heap.size w w4) := Lib.hid (HB3.out.trans (hb4.mono HB3.out.size))
    clear hb4
    go_wp2_with fail
    go_ret
    exact ⟨rfl, HB4.out⟩
  · rw [h2] at HRT
    have HR2 := Lib.hid (HRd.out f _ (by omega) h3)
    have HMK : Hid (∀ w v, RdI w v (charsP L) → Calls Tryz.prog 10 #[v, .int .i64 30] w fun e w' => e = .returned (.bool false) ∧ Below w.heap.size w w') := Lib.hid fun w v hv => by
      have := marks_any w v _ hv h8 (by omega)
      rwa [h4] at this
    have HGD : Hid (Good T L ∧ textP T = some f) := ⟨⟨h1, h4⟩, h2⟩
    have hfl : f.length ≤ 4800 := by omega
    clear h1 h2 h3 h4 h6 h7 h8
    go_wp2_with fail
    refine HRT.out.mono ?_
    intro e w2 hr
    obtain ⟨rfl, hb2⟩ := hr.some
    have HB2 : Hid (Below w.heap.size w w2) := Lib.hid (hb1.trans (hb2.mono hb1.size))
    clear hb1 hb2 hr HRT
    go_wp2_with fail
    refine (HR2.out w2).mono ?_
    intro e w3 hr
    obtain ⟨lv, rfl, hlv, hb3⟩ := hr.cases
    have HB3 : Hid (Below w.heap.size w w3) := Lib.hid (HB2.out.trans (hb3.mono HB2.out.size))
    have HMK3 := Lib.hid (HMK.out w3 lv hlv)
    clear hr hlv hb3 HMK
    go_wp2_with fail
    refine HMK3.out.mono ?_
    rintro e w4 ⟨rfl, hb4⟩
    have HB4 : Hid (Below w.heap.size w w4) := Lib.hid (HB3.out.trans (hb4.mono HB3.out.size))
    clear hb4 HMK3 HB3 HB2
    obtain ⟨k, hk6, hk, hm1, hm2⟩ := kind_of kd
    obtain ⟨m6, hm6⟩ : ∃ m, Int.tmod kd 6 = m := ⟨_, rfl⟩
    rw [hm6] at hk hm1 hm2
    have hk2 : (m6 + 6) % 6 = (k : Int) := by rw [← hk, Int.tmod_eq_emod_of_nonneg (by omega)]
    have HBD := HKD.out
    obtain ⟨hkd1, hkd2⟩ := HBD
    go_upto_region 10 with fail
    go_cut [11] (fun bv wx => ∃ x : ByteArray, bv = .string x ∧ Hid (BadEnd k x.data.toList) ∧ Hid (Below w.heap.size w wx))
    case first =>
      have h6 : k = 0 ∨ k = 1 ∨ k = 2 ∨ k = 3 ∨ k = 4 ∨ k = 5 := by omega
      clear hk hm6
      rcases h6 with rfl | rfl | rfl | rfl | rfl | rfl
      · have hk0 : (m6 + 6) % 6 = 0 := by omega
        go_wp2_with fail
        go_meet
        exact ⟨⟨#[255]⟩, rfl, Lib.hid bad0, Lib.hid (HB4.out.alloc HB4.out.size _)⟩
      · have hk0 : (m6 + 6) % 6 = 1 := by omega
        go_wp2_with fail
        go_meet
        exact ⟨⟨#[192]⟩, rfl, Lib.hid bad1, Lib.hid (HB4.out.alloc HB4.out.size _)⟩
      · have hk0 : (m6 + 6) % 6 = 2 := by omega
        go_wp2_with fail
        go_meet
        exact ⟨⟨#[237, 160]⟩, rfl, Lib.hid bad2, Lib.hid (HB4.out.alloc HB4.out.size _)⟩
      · have hk0 : (m6 + 6) % 6 = 3 := by omega
        go_wp2_with fail
        go_meet
        exact ⟨⟨#[128]⟩, rfl, Lib.hid bad3, Lib.hid (HB4.out.alloc HB4.out.size _)⟩
      · have hk0 : (m6 + 6) % 6 = 4 := by omega
        go_wp2_with fail
        go_meet
        exact ⟨⟨#[226, 130]⟩, rfl, Lib.hid bad4, Lib.hid (HB4.out.alloc HB4.out.size _)⟩
      · have hk0 : (m6 + 6) % 6 = 5 := by omega
        go_wp2_with fail
        go_meet
        exact ⟨⟨#[240, 159, 152]⟩, rfl, Lib.hid bad5, Lib.hid (HB4.out.alloc HB4.out.size _)⟩
    case rest =>
    obtain ⟨x, rfl, HX, HB5⟩ := hcut
    obtain ⟨w5, hw5⟩ : ∃ W, wc = W := ⟨_, rfl⟩
    rw [hw5] at HB5 ⊢
    clear hw5 HB4 hk hm6
    have hx3 : x.size ≤ 3 := by have := HX.out.2.2.1; rwa [size_toList] at this
    go_wp2_with fail
    refine (new_any w5).mono ?_
    rintro e w6 ⟨rfl, hb6, hz6, hst6⟩
    obtain ⟨b, hbb⟩ : ∃ b, w5.heap.size = b := ⟨_, rfl⟩
    rw [hbb] at hst6 hz6 ⊢
    have HUB : Hid (w.heap.size ≤ b) := Lib.hid (by rw [← hbb]; exact HB5.out.size)
    have HB6 : Hid (Below w.heap.size w w6) := Lib.hid (HB5.out.trans (hb6.mono HB5.out.size))
    have HSB : Hid (OpenAt w6 b [] []) := Lib.hid (open_new hst6)
    clear hb6 hz6 hst6 hbb HB5
    have hsum : t.size + x.size ≤ 9223372036854775807 := by omega
    have htx : (t ++ x).size ≤ 10000 := by rw [ByteArray.size_append]; omega
    have HTX : Hid ((t ++ x).data.toList = T ++ x.data.toList) := Lib.hid (by rw [← HT.out]; simp)
    obtain ⟨tx, etx⟩ : ∃ y, t ++ x = y := ⟨_, rfl⟩
    rw [etx] at htx HTX
    have hcv := Lib.run_convert_string_bytes (P := Tryz.prog) w6 9 32 5 tx (u := .string) Tryz.underlying9 Tryz.underlying32 Tryz.underlying5
    have hbcv := below_conv w6 5 tx
    have hby := conv_new_by w6 tx (Nat.zero_le _)
    obtain ⟨w7, e7⟩ : ∃ w7, Lib.bytesWorld w6 5 tx = w7 := ⟨_, rfl⟩
    obtain ⟨v7, ev7⟩ : ∃ v7, Value.slice (some ⟨w6.heap.size, 0, none⟩) tx.size (grownCap w6 tx.size 0 5) = v7 := ⟨_, rfl⟩
    rw [e7, ev7] at hcv hby
    rw [e7] at hbcv
    have HB7 : Hid (Below w.heap.size w w7) := Lib.hid (HB6.out.trans (hbcv.mono HB6.out.size))
    have HWr : Hid (Calls Tryz.prog 12 #[.pointer (some ⟨b, 0, none⟩), v7] w7 (StepRes w7 b [] [] (T ++ x.data.toList))) := Lib.hid (by
      have := write_step w w7 HES.out.1 HES.out.2 HB7.out b HUB.out [] [] (HSB.out.below hbcv) v7 0 tx hby htx
      rwa [HTX.out] at this)
    clear e7 ev7 hbcv hby HSB HB6
    go_wp2_with fail
    refine HWr.out.mono ?_
    intro e w8 hr
    obtain ⟨hU8, ⟨hk4, rfl, hd⟩ | ⟨hk4, v, o, rfl, hop⟩⟩ := bad_step HGD.out.1 HX.out hr
    · have HB8 : Hid (Below w.heap.size w w8) := Lib.hid (hU8.below HB7.out HUB.out HB7.out.size)
      have HCl := Lib.hid (close_dead w8 b 1 (by decide) hd)
      have HHD := Lib.hid (held_dead w8 b 1 hd)
      have hk4i : (k : Int) < 4 := by omega
      clear hr hU8 hd HWr hcv etx hsum
      go_wp2_with fail
      refine HCl.out.mono ?_
      rintro e w9 ⟨rfl, rfl⟩
      go_wp2_with fail
      refine HHD.out.mono ?_
      rintro e w9 ⟨rfl, rfl⟩
      go_wp2_with fail
      go_ret
      exact ⟨rfl, HB8.out⟩
    · have HB8 : Hid (Below w.heap.size w w8) := Lib.hid (hU8.below HB7.out HUB.out HB7.out.size)
      have HCl := Lib.hid (close_step w w8 HES.out.1 HES.out.2 HB8.out b HUB.out _ _ hop)
      have hk4i : ¬ (k : Int) < 4 := by omega
      clear hr hU8 hop HWr hcv etx hsum
      go_wp2_with fail
      refine HCl.out.mono ?_
      intro e w9 hr
      obtain ⟨hU9, rfl, hd⟩ := bad_close HGD.out.1 HX.out hr
      have HB9 : Hid (Below w.heap.size w w9) := Lib.hid (hU9.below HB8.out HUB.out HB8.out.size)
      have HHD := Lib.hid (held_dead w9 b 1 hd)
      clear hr hU9 hd HCl
      go_wp2_with fail
      refine HHD.out.mono ?_
      rintro e w9 ⟨rfl, rfl⟩
      go_wp2_with fail
      go_ret
      exact ⟨rfl, HB9.out⟩
end Go.Proofs.YtnooloojnhodiaaGreatDoor
