/- The walk of the law StreamBytes. -/
import Derived.Test.YtnooloojnhodiaaGreatDoorStrmLawAll
namespace Go.Proofs.YtnooloojnhodiaaGreatDoor
set_option linter.unusedVariables false
open Go.RowKit
theorem take_snoc_at (t : ByteArray) (i : Nat) (h : i < t.size) : (⟨#[t[i]]⟩ : ByteArray).data.toList = (t.data.toList.take (i + 1)).drop i := by
  rw [List.take_succ_eq_append_getElem (by rw [size_toList]; exact h), List.drop_left' (by rw [List.length_take, size_toList]; omega)]
  rfl
theorem DeadAt.upd {w w' : World} {b c : Nat} {n : Int} (h : DeadAt w b n) (k : Upd c w w') (hbc : b ≠ c) : DeadAt w' b n := by
  obtain ⟨x, hs, m, h1⟩ := h; exact ⟨x, hs, m, h1.upd k hbc⟩
theorem all_upd {T out : List UInt8} {b c at_ : Nat} {fell : Bool} {w w' : World} (h : AllSt T b at_ out fell w) (k : Upd c w w') (hbc : b ≠ c) : AllSt T b at_ out fell w' := by
  obtain ⟨h1, h2⟩ := h
  refine ⟨h1, ?_⟩
  cases fell with
  | true => rw [if_pos rfl] at h2 ⊢; obtain ⟨g, n, hn, hd⟩ := h2; exact ⟨g, n, hn, hd.upd k hbc⟩
  | false => rw [if_neg (by simp)] at h2 ⊢; exact h2.upd k hbc
set_option maxHeartbeats 8000000 in
set_option maxRecDepth 100000 in
theorem streamBytes_walk (w : World) (hE : ErrAt w) (hSp : SpAt w) (s : ByteArray) (hs : s.size ≤ maxLen) :
    Calls Tryz.prog 4 #[.string s] w fun e w' => e = .returned (.bool true) ∧ Below w.heap.size w w' := by
  have HES : Hid (ErrAt w ∧ SpAt w) := ⟨hE, hSp⟩
  have HB := Lib.hid (sbegun_any w hE hSp)
  have HC1 : Hid (∀ w, Calls Tryz.prog 7 #[.string s, .int .i64 120] w fun e w' => ∃ t : ByteArray, e = .returned (.string t) ∧ t.size ≤ 120 ∧ w = w') := Lib.hid (cut_any s 120 (by omega) hs)
  clear hE hSp hs
  go_enter Tryz.func4, Tryz.ntmps4
  go_wp2_with fail
  refine HB.out.mono ?_
  rintro e w1 ⟨rfl, hb1⟩
  clear HB
  go_wp2_with fail
  refine (HC1.out _).mono ?_
  rintro e w' ⟨t, rfl, ht, rfl⟩
  clear HC1
  have HRT := Lib.hid (rtext_any t w1 (short_of (by rw [size_toList]; omega)))
  obtain ⟨T, hT⟩ : ∃ T, t.data.toList = T := ⟨_, rfl⟩
  have hTl : T.length = t.size := by rw [← hT]; exact size_toList t
  rw [hT] at HRT
  have HT := Lib.hid hT
  clear hT
  have hRd : ∀ (f : List UInt8) (ls : List Int), f.length ≤ 8000 → readP f = some ls → ∀ w, Calls Tryz.prog 9 #[.string ⟨f.toArray⟩] w (ReadRes w (some ls)) := fun f ls h1 h2 w => by
    have := rread_any ⟨f.toArray⟩ (by show f.toArray.size ≤ 1000000; rw [List.size_toArray]; omega) w
    rwa [show (⟨f.toArray⟩ : ByteArray).data.toList = f from rfl, h2] at this
  have HRd := Lib.hid hRd
  clear hRd
  rcases text_case T with ⟨h1, h2⟩ | ⟨L, f, h1, h2, h3, h4, h5, h6, h7, h8⟩ | ⟨L, f, h1, h2, h3, h4, h6, h7, h8⟩
  · rw [h1] at HRT
    have HR2 := Lib.hid (HRd.out [] [] (by simp) rfl)
    clear h1 h2
    go_wp2_with fail
    refine HRT.out.mono ?_
    intro e w2 hr
    obtain ⟨rfl, hb2⟩ := hr.none
    have HB2 : Hid (Below w.heap.size w w2) := Lib.hid (hb1.trans (hb2.mono hb1.size))
    clear hb1 hb2 hr HRT
    go_wp2_with fail
    refine (HR2.out w2).mono ?_
    intro e w3 hr
    obtain ⟨lv, rfl, hlv, hb3⟩ := hr.cases
    have HB3 : Hid (Below w.heap.size w w3) := Lib.hid (HB2.out.trans (hb3.mono HB2.out.size))
    clear hr hlv hb3
    go_wp2_with fail
    go_ret
    exact ⟨rfl, HB3.out⟩
  · rw [h2] at HRT
    have HR2 := Lib.hid (HRd.out f _ (by omega) h3)
    have HMK : Hid (∀ w v, RdI w v (charsP L) → Calls Tryz.prog 10 #[v, .int .i64 30] w fun e w' => e = .returned (.bool true) ∧ Below w.heap.size w w') := Lib.hid fun w v hv => by
      have := marks_any w v _ hv h8 (by omega)
      rwa [h4] at this
    clear h1 h2 h3 h4 h5 h6 h7 h8
    go_wp2_with fail
    refine HRT.out.mono ?_
    intro e w2 hr
    obtain ⟨rfl, hb2⟩ := hr.some
    have HB2 : Hid (Below w.heap.size w w2) := Lib.hid (hb1.trans (hb2.mono hb1.size))
    clear hb1 hb2 hr HRT
    go_wp2_with fail
    refine (HR2.out w2).mono ?_
    intro e w3 hr
    obtain ⟨lv, rfl, hlv, hb3⟩ := hr.cases
    have HB3 : Hid (Below w.heap.size w w3) := Lib.hid (HB2.out.trans (hb3.mono HB2.out.size))
    have HMK3 := Lib.hid (HMK.out w3 lv hlv)
    clear hr hlv hb3 HMK
    go_wp2_with fail
    refine HMK3.out.mono ?_
    rintro e w4 ⟨rfl, hb4⟩
    have HB4 : Hid (Below w.heap.size w w4) := Lib.hid (HB3.out.trans (hb4.mono HB3.out.size))
    clear hb4
    go_wp2_with fail
    go_ret
    exact ⟨rfl, HB4.out⟩
  · rw [h2] at HRT
    have HR2 := Lib.hid (HRd.out f _ (by omega) h3)
    have HMK : Hid (∀ w v, RdI w v (charsP L) → Calls Tryz.prog 10 #[v, .int .i64 30] w fun e w' => e = .returned (.bool false) ∧ Below w.heap.size w w') := Lib.hid fun w v hv => by
      have := marks_any w v _ hv h8 (by omega)
      rwa [h4] at this
    have HGD : Hid (Good T L ∧ textP T = some f) := ⟨⟨h1, h4⟩, h2⟩
    have hfl : f.length ≤ 4800 := by omega
    clear h1 h2 h3 h4 h6 h7 h8
    go_wp2_with fail
    refine HRT.out.mono ?_
    intro e w2 hr
    obtain ⟨rfl, hb2⟩ := hr.some
    have HB2 : Hid (Below w.heap.size w w2) := Lib.hid (hb1.trans (hb2.mono hb1.size))
    clear hb1 hb2 hr HRT
    go_wp2_with fail
    refine (HR2.out w2).mono ?_
    intro e w3 hr
    obtain ⟨lv, rfl, hlv, hb3⟩ := hr.cases
    have HB3 : Hid (Below w.heap.size w w3) := Lib.hid (HB2.out.trans (hb3.mono HB2.out.size))
    have HMK3 := Lib.hid (HMK.out w3 lv hlv)
    clear hr hlv hb3 HMK
    go_wp2_with fail
    refine HMK3.out.mono ?_
    rintro e w4 ⟨rfl, hb4⟩
    have HB4 : Hid (Below w.heap.size w w4) := Lib.hid (HB3.out.trans (hb4.mono HB3.out.size))
    clear hb4 HMK3 HB3 HB2
    go_wp2_with fail
    refine (new_any w4).mono ?_
    rintro e w5 ⟨rfl, hb5, hz5, hst5⟩
    obtain ⟨b, hbb⟩ : ∃ b, w4.heap.size = b := ⟨_, rfl⟩
    rw [hbb] at hst5 hz5 ⊢
    have HUB : Hid (w.heap.size ≤ b) := Lib.hid (by rw [← hbb]; exact HB4.out.size)
    have HB5 : Hid (Below w.heap.size w w5) := Lib.hid (HB4.out.trans (hb5.mono HB4.out.size))
    have HS5 := Lib.hid hst5
    have HZ5 := Lib.hid hz5
    clear hb5 hz5 hst5 hbb HB4
    go_wp2_with fail
    refine (new_any w5).mono ?_
    rintro e w6 ⟨rfl, hb6, hz6, hst6⟩
    obtain ⟨c, hcc⟩ : ∃ b, w5.heap.size = b := ⟨_, rfl⟩
    rw [hcc] at hst6 hz6 ⊢
    have hbc : c ≠ b := by have := HZ5.out; omega
    have hUC : w.heap.size ≤ c := by rw [← hcc]; exact HB5.out.size
    have HB6 : Hid (Below w.heap.size w w6) := Lib.hid (HB5.out.trans (hb6.mono HB5.out.size))
    have HSB : Hid (OpenAt w6 b [] []) := Lib.hid (open_new (HS5.out.below hb6))
    have HSC : Hid (AllSt T c 0 [] false w6) := Lib.hid ⟨Nat.zero_le _, open_new hst6⟩
    clear hb6 hz6 hst6 hcc HB5 HS5 HZ5
    have hcv := Lib.run_convert_string_bytes (P := Tryz.prog) w6 9 32 5 t (u := .string) Tryz.underlying9 Tryz.underlying32 Tryz.underlying5
    have hbcv := below_conv w6 5 t
    have hby := conv_new_by w6 t (Nat.zero_le _)
    obtain ⟨w7, e7⟩ : ∃ w7, Lib.bytesWorld w6 5 t = w7 := ⟨_, rfl⟩
    obtain ⟨v7, ev7⟩ : ∃ v7, Value.slice (some ⟨w6.heap.size, 0, none⟩) t.size (grownCap w6 t.size 0 5) = v7 := ⟨_, rfl⟩
    rw [e7, ev7] at hcv hby
    rw [e7] at hbcv
    have HB7 : Hid (Below w.heap.size w w7) := Lib.hid (HB6.out.trans (hbcv.mono HB6.out.size))
    have HWr := Lib.hid (write_step w w7 HES.out.1 HES.out.2 HB7.out b HUB.out [] [] (HSB.out.below hbcv) v7 0 t hby (by omega))
    have HSC7 := Lib.hid (all_below HSC.out hbcv)
    have hbl7 : b < w7.heap.size := Nat.lt_of_lt_of_le HSB.out.lt hbcv.size
    clear e7 ev7 hbcv hby HSC HSB HB6
    go_wp2_with fail
    refine HWr.out.mono ?_
    intro e w8 hr
    have hTn : ([] ++ t.data.toList) ++ [] = T := by rw [HT.out]; simp
    obtain ⟨hU8, v8, o8, rfl, hby8, hop8⟩ := hr.ok (x := []) HGD.out.1 hTn
    have HB8 : Hid (Below w.heap.size w w8) := Lib.hid (hU8.below HB7.out HUB.out HB7.out.size)
    have hop9 : OpenAt w8 b T o8 := by have := hop8; rw [List.nil_append, List.nil_append, HT.out] at this; exact this
    have HCl := Lib.hid (close_step w w8 HES.out.1 HES.out.2 HB8.out b HUB.out T o8 hop9)
    have HV8 := Lib.hid hby8
    have HSC8 := Lib.hid (all_upd HSC7.out hU8 hbc)
    clear hr hU8 hby8 hop8 hop9 HWr HSC7 hcv
    go_wp2_with fail
    refine HCl.out.mono ?_
    intro e w9 hr
    obtain ⟨hU9, v9, o9, rfl, hby9, hf, -⟩ := hr.ok HGD.out.1.1 HGD.out.2
    have HB9 : Hid (Below w.heap.size w w9) := Lib.hid (hU9.below HB8.out HUB.out HB8.out.size)
    have HSC9 := Lib.hid (all_upd HSC8.out hU9 hbc)
    have hcv8 := conv_by (HV8.out.upd hU9 hbl7)
    have hcv9 := conv_by hby9
    have hof : (⟨o8.toArray⟩ : ByteArray) ++ ⟨o9.toArray⟩ = ⟨f.toArray⟩ := by rw [bytes_app, hf]
    have hsum : (⟨o8.toArray⟩ : ByteArray).size + (⟨o9.toArray⟩ : ByteArray).size ≤ 9223372036854775807 := by
      have := congrArg List.length hf
      rw [List.length_append] at this
      show o8.toArray.size + o9.toArray.size ≤ _
      rw [List.size_toArray, List.size_toArray]; omega
    have hlen2 : o8.length + o9.length ≤ 9223372036854775807 := by
      have := congrArg List.length hf
      rw [List.length_append] at this; omega
    have hff : (f != f) = false := by simp
    clear hr hU9 hby9 hf HSC8 HV8 HCl HB8
    go_wp2_with fail
    clear hof hsum hlen2 hcv8 hcv9 hff
    go_loopw [14, 15] (fun ov iv wr => ∃ (ob : ByteArray) (i : Nat), ov = .string ob ∧ iv = .int .i64 i ∧ i ≤ t.size ∧ ob.size ≤ 8000 ∧ Below w.heap.size w wr ∧ Hid (AllSt T c i ob.data.toList false wr)) (fun _ iv _ => t.size - (intOf iv).toNat)
    case atStart => exact ⟨⟨#[]⟩, 0, rfl, rfl, Nat.zero_le _, Nat.zero_le _, HB9.out, HSC9⟩
    case round =>
      clear HB9 HSC9
      obtain ⟨ob, i, rfl, rfl, hi, hob, hb, HSt⟩ := hrel
      by_cases hlt : i < t.size
      · have h0i : (0 : Int) ≤ (i : Int) := by omega
        have hil : (i : Int) < (t.size : Int) := by omega
        have hal : Below wr.heap.size wr (wr.alloc (.cells #[.int .u8 t[i].toNat] 5)) := (Below.refl _ _).alloc (Nat.le_refl _) _
        have HBA : Hid (Below w.heap.size w (wr.alloc (.cells #[.int .u8 t[i].toNat] 5))) := Lib.hid (hb.trans (hal.mono hb.size))
        have HWr := Lib.hid (all_write T w (wr.alloc (.cells #[.int .u8 t[i].toNat] 5)) HES.out.1 HES.out.2 HBA.out c hUC i (i + 1) (by omega) (by omega) ob.data.toList false (all_below HSt.out hal) (.slice (some ⟨wr.heap.size, 0, none⟩) 1 1) ⟨#[t[i]]⟩ (by rw [take_snoc_at t i hlt, HT.out]) (lit_by wr [t[i]] _ (0, 0) 1 0 rfl rfl (Nat.zero_le _)) (by omega))
        clear hal HSt hb
        go_wp2_with fail
        refine HWr.out.mono ?_
        rintro e wa ⟨va, o, n, rfl, hbya, hUa, hsta⟩
        have hq := all_good hsta HGD.out.1
        rw [hq] at hsta
        obtain ⟨-, rfl⟩ := bool_zero hq
        obtain ⟨so, eso⟩ : ∃ so : ByteArray, (⟨o.toArray⟩ : ByteArray) = so := ⟨_, rfl⟩
        have hcva := conv_by hbya
        rw [eso] at hcva
        have eo : o = so.data.toList := by rw [← eso]
        subst eo
        have HST7 : Hid (AllSt T c (i + 1) (ob ++ so).data.toList false wa) := Lib.hid (by rw [show (ob ++ so).data.toList = ob.data.toList ++ so.data.toList by simp]; exact hsta)
        have hsz : ob.size + so.size ≤ 8000 := by
          have := HST7.out.1
          rw [size_toList, ByteArray.size_append] at this
          omega
        have hsum : ob.size + so.size ≤ 9223372036854775807 := by omega
        have HBa : Hid (Below w.heap.size w wa) := Lib.hid (hUa.below HBA.out hUC HBA.out.size)
        clear eso hbya hUa hsta HWr HBA hq
        go_wp2_with fail
        go_roundw
        case rel => exact ⟨ob ++ so, i + 1, rfl, by go_num, hlt, by rw [ByteArray.size_append]; exact hsz, HBa.out, HST7⟩
        case measure => simp [intOf]; omega
      · obtain rfl : i = t.size := by omega
        have hil : ¬ (t.size : Int) < (t.size : Int) := by omega
        have HCLs := Lib.hid (all_close T f w wr HES.out.1 HES.out.2 hb c hUC ob.data.toList false true (by rw [hTl]; exact HSt.out) (by omega) (fun _ => ⟨L, HGD.out⟩) (fun h => by cases h))
        have HB0 := Lib.hid hb
        clear hb HSt
        go_wp2_with fail
        refine HCLs.out.mono ?_
        rintro e wz ⟨vz, o, n6, rfl, hbyz, hUz, hlz, hg1, -⟩
        obtain ⟨-, rfl, hf⟩ := hg1 rfl
        obtain ⟨so, eso⟩ : ∃ so : ByteArray, (⟨o.toArray⟩ : ByteArray) = so := ⟨_, rfl⟩
        have hcvz := conv_by hbyz
        rw [eso] at hcvz
        have eo : o = so.data.toList := by rw [← eso]
        subst eo
        have HBz : Hid (Below w.heap.size w wz) := Lib.hid (hUz.below HB0.out hUC HB0.out.size)
        have hsum : ob.size + so.size ≤ 9223372036854775807 := by
          rw [List.length_append, size_toList, size_toList] at hlz; omega
        have hof : ob ++ so = ⟨f.toArray⟩ := by
          apply ByteArray.ext
          rw [← hf]; simp
        have hff : (f == f) = true := by simp
        clear hg1 hbyz hUz hlz eso hf HCLs
        go_wp2_with fail
        go_ret
        exact ⟨rfl, HBz.out⟩
end Go.Proofs.YtnooloojnhodiaaGreatDoor
