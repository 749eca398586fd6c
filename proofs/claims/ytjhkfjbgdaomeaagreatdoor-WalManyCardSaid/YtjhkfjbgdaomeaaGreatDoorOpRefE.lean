/- The reference's Entries: the same entries as the program's. -/
import Derived.Test.YtjhkfjbgdaomeaaGreatDoorOpRef
import Derived.Test.YtjhkfjbgdaomeaaGreatDoorMOp
import Derived.Test.YtjhkfjbgdaomeaaGreatDoorMBase
namespace Go.Proofs.YtjhkfjbgdaomeaaGreatDoor
set_option linter.unusedVariables false
open Go.RowKit
theorem AtO.under {w W : World} {b o : Nat} {e : Opn} (h : AtO w b o e) (hb : b < w.heap.size) (hW : Below w.heap.size w W) : AtO W b o e := by
  obtain ⟨h0, h1, h2⟩ := h
  exact ⟨(hW.cell hb).trans h0, (hW.cell hb).trans h1, (hW.cell hb).trans h2⟩
set_option maxHeartbeats 8000000 in
set_option maxRecDepth 100000 in
theorem rentries_any (s : Int) (v : Value) (l : List Opn) (hok : ∀ o ∈ l, o.ok) (hlm : l.length ≤ 1000000000000) (w : World) (hrd : RdK encOp 3 w v l) :
    Calls Tryz.prog 14 #[.int .i64 s, v] w (EntsRes (entsP s l) w) := by
  obtain ⟨R, hR⟩ : ∃ R, entsP s l = R := ⟨_, rfl⟩
  rw [hR]
  unfold EntsRes
  have HCK := Lib.hid (rcheck_any v l hok hlm w hrd)
  obtain ⟨a, len, cap, rfl, hlen⟩ := rdO_len hrd
  have HN := Lib.hid hlen
  have HRD := Lib.hid hrd
  have HOK := Lib.hid hok
  by_cases hc : checkP l = 0
  · obtain ⟨g1, g2, g3⟩ := checkP_ok hc
    have hl50 : len ≤ 50 := by omega
    have HG3 := Lib.hid g3
    have HRF : Hid (R = entsF s l) := Lib.hid (by rw [← hR]; unfold entsP; rw [if_pos hc])
    rw [hc] at HCK
    clear hR hrd hlen hok hlm hc g1 g2 g3
    go_enter Tryz.func14, Tryz.ntmps14
    go_wp2_with fail
    refine HCK.out.mono ?_
    rintro e w1 ⟨rfl, hb1⟩
    have HB1 := Lib.hid hb1
    clear hb1 HCK
    go_wp2_with fail
    go_loopg [5, 6] len (fun kk vo vi wr => ∃ (i : Nat) (xs : List Ent), vi = .int .i64 i ∧ i ≤ len ∧ len - i ≤ kk ∧ Hid (xs = (entsF s l).take i) ∧ Hid (OwnK encEnt 5 54 w.heap.size wr vo xs) ∧ Hid (Below w.heap.size w wr))
    case atStart => exact ⟨0, [], by go_num, by omega, by omega, Lib.hid (by simp), Lib.hid (OwnK.nil _ _ _ _ _), HB1⟩
    case round =>
      clear HB1
      obtain ⟨q, xs, rfl, hq, hkk, HXS, HOW, HB⟩ := hrel
      by_cases h1 : q < len
      · have hd1 : decide (q < len) = true := decide_eq_true h1
        have hz1 : (q : Int) < (len : Int) := by omega
        obtain ⟨x, hx⟩ : ∃ x, l[q]? = some x := ⟨l[q]'(by have := HN.out; omega), List.getElem?_eq_getElem _⟩
        obtain ⟨b, off, rfl, hblt, hat⟩ := HRD.out.at3 q x hx
        have HAT := Lib.hid hat
        obtain ⟨hx1, -⟩ := HOK.out x (List.mem_of_getElem? hx)
        obtain ⟨K0, hK0⟩ := opErr_key (HG3.out x (List.mem_of_getElem? hx))
        have HKY : Hid (∀ W, Calls Tryz.prog 30 #[.string x.sp] W (TextRes W (some K0))) := Lib.hid fun W => by
          have := rkey_any x.sp hx1 W
          rwa [hK0] at this
        have HFO : Hid (formP x.sp = ⟨K0.toArray⟩) := Lib.hid (by unfold formP; rw [hK0]; rfl)
        have HXE0 : Hid ((entsF s l).take (q + 1) = xs ++ [⟨⟨K0.toArray⟩, IntKind.i64.wrap (s + q), x.kind, x.sp, x.val⟩]) := Lib.hid (by rw [entsF_take s l q x hx, HXS.out, entO, HFO.out])
        have hxl : xs.length ≤ 50 := by rw [HXS.out, List.length_take]; omega
        obtain ⟨kind, sp, val⟩ := x
        simp only at HKY HXE0 HAT
        obtain ⟨y0, y1, y2⟩ := HAT.out.under hblt HB.out
        simp only at y0 y1 y2
        clear hx hx1 hK0 HFO hat
        go_wp2_with fail
        refine (HKY.out _).mono ?_
        rintro e w2 ⟨rfl, hb⟩
        have hbw := HB.out.trans (hb.mono HB.out.size)
        have how := HOW.out.below hb
        clear hb HB HOW y0 y1 y2 HKY
        have hal : Below w.heap.size w (w2.alloc (.cells (encEnt ⟨⟨K0.toArray⟩, IntKind.i64.wrap (s + q), kind, sp, val⟩).toArray 54)).drew := (hbw.alloc hbw.size _).drew
        have hal2 : Below w2.heap.size w2 (w2.alloc (.cells (encEnt ⟨⟨K0.toArray⟩, IntKind.i64.wrap (s + q), kind, sp, val⟩).toArray 54)).drew := ((Below.refl _ w2).alloc (Nat.le_refl _) _).drew
        have hone : OwnK encEnt 5 54 w2.heap.size (w2.alloc (.cells (encEnt ⟨⟨K0.toArray⟩, IntKind.i64.wrap (s + q), kind, sp, val⟩).toArray 54)).drew (.slice (some ⟨w2.heap.size, 0, none⟩) 1 1) [⟨⟨K0.toArray⟩, IntKind.i64.wrap (s + q), kind, sp, val⟩] := own_oneK (E := 54) encEnt_len w2 _
        obtain ⟨v4, w4, r4, o4, b4⟩ := run_appK (ty := 36) elemK_ent encEnt_len (how.below hal2) (hone.rd encEnt_len) (encEnt_one _) (by simp; omega) (by simp [maxLen]; omega) (Nat.le_trans hbw.size hal2.size)
        have HRUN := Lib.hid r4
        have HO4 := Lib.hid o4
        have HB3 := Lib.hid hal
        have HB4 := Lib.hid (hal.trans b4)
        have HXE := Lib.hid HXE0.out.symm
        have HBW := Lib.hid hbw
        clear r4 o4 hal hal2 hone b4 how HXE0 hbw
        go_upto_region 8 with fail
        refine wp_region_held_drew (S := Below w.heap.size w) (by kernel_rfl) HBW.out.drew (fun hHeld => ?_)
        refine takeYes (i := 0) (k := 27) (v := u5) rfl (by kernel_rfl) (by kernel_rfl) (by kernel_rfl) (by kernel_rfl) (fun _ _ _ h => h) (by kernel_rfl) ?_ (by assumption) ?_
        · intro W hSw; first | (go_simp; done) | go_simp
        try simp only [Act.put, List.setIfInBounds_toArray, List.set_cons_zero, List.set_cons_succ]
        refine takeYes (i := 1) (k := 28) (v := .string ⟨K0.toArray⟩) rfl (by kernel_rfl) (by kernel_rfl) (by kernel_rfl) (by kernel_rfl) (fun _ _ _ h => h) (by kernel_rfl) ?_ (by assumption) ?_
        · intro W hSw; first | (go_simp; done) | go_simp
        try simp only [Act.put, List.setIfInBounds_toArray, List.set_cons_zero, List.set_cons_succ]
        refine takeYes (i := 2) (k := 29) (v := .int .i64 s) rfl (by kernel_rfl) (by kernel_rfl) (by kernel_rfl) (by kernel_rfl) (fun _ _ _ h => h) (by kernel_rfl) ?_ (by assumption) ?_
        · intro W hSw; first | (go_simp; done) | go_simp
        try simp only [Act.put, List.setIfInBounds_toArray, List.set_cons_zero, List.set_cons_succ]
        refine takeYes (i := 3) (k := 30) (v := .int .i64 (q : Int)) rfl (by kernel_rfl) (by kernel_rfl) (by kernel_rfl) (by kernel_rfl) (fun _ _ _ h => h) (by kernel_rfl) ?_ (by assumption) ?_
        · intro W hSw; first | (go_simp; done) | go_simp
        try simp only [Act.put, List.setIfInBounds_toArray, List.set_cons_zero, List.set_cons_succ]
        refine takeYes (i := 4) (k := 31) (v := .int .i64 (IntKind.i64.wrap (s + (q : Int)))) rfl (by kernel_rfl) (by kernel_rfl) (by kernel_rfl) (by kernel_rfl) (fun _ _ _ h => h) (by kernel_rfl) ?_ (by assumption) ?_
        · intro W hSw; first | (go_simp; done) | go_simp
        try simp only [Act.put, List.setIfInBounds_toArray, List.set_cons_zero, List.set_cons_succ]
        refine takeYes (i := 5) (k := 32) (v := .slice (some ⟨b, off, none⟩) len cap) rfl (by kernel_rfl) (by kernel_rfl) (by kernel_rfl) (by kernel_rfl) (fun _ _ _ h => h) (by kernel_rfl) ?_ (by assumption) ?_
        · intro W hSw; first | (go_simp; done) | go_simp
        try simp only [Act.put, List.setIfInBounds_toArray, List.set_cons_zero, List.set_cons_succ]
        refine takeYes (i := 6) (k := 33) (v := .int .i64 (q : Int)) rfl (by kernel_rfl) (by kernel_rfl) (by kernel_rfl) (by kernel_rfl) (fun _ _ _ h => h) (by kernel_rfl) ?_ (by assumption) ?_
        · intro W hSw; first | (go_simp; done) | go_simp
        try simp only [Act.put, List.setIfInBounds_toArray, List.set_cons_zero, List.set_cons_succ]
        refine takeYes (i := 7) (k := 34) (v := .pointer (some ⟨b, off + q * 3, none⟩)) rfl (by kernel_rfl) (by kernel_rfl) (by kernel_rfl) (by kernel_rfl) (fun _ _ _ h => h) (by kernel_rfl) ?_ (by assumption) ?_
        · intro W hSw; first | (go_simp; done) | go_simp
        try simp only [Act.put, List.setIfInBounds_toArray, List.set_cons_zero, List.set_cons_succ]
        refine takeYes (i := 8) (k := 35) (v := .pointer (some ⟨b, off + q * 3, none⟩)) rfl (by kernel_rfl) (by kernel_rfl) (by kernel_rfl) (by kernel_rfl) (fun _ _ _ h => h) (by kernel_rfl) ?_ (by assumption) ?_
        · intro W hSw; first | (go_simp; done) | go_simp
        try simp only [Act.put, List.setIfInBounds_toArray, List.set_cons_zero, List.set_cons_succ]
        refine takeYes (i := 9) (k := 36) (v := .int .i64 kind) rfl (by kernel_rfl) (by kernel_rfl) (by kernel_rfl) (by kernel_rfl) (fun _ _ _ h => h) (by kernel_rfl) ?_ (by assumption) ?_
        · intro W hSw; obtain ⟨d0, d1, d2⟩ := HAT.out.under hblt hSw; first | (go_simp; done) | go_simp
        try simp only [Act.put, List.setIfInBounds_toArray, List.set_cons_zero, List.set_cons_succ]
        refine takeYes (i := 10) (k := 37) (v := .slice (some ⟨b, off, none⟩) len cap) rfl (by kernel_rfl) (by kernel_rfl) (by kernel_rfl) (by kernel_rfl) (fun _ _ _ h => h) (by kernel_rfl) ?_ (by assumption) ?_
        · intro W hSw; first | (go_simp; done) | go_simp
        try simp only [Act.put, List.setIfInBounds_toArray, List.set_cons_zero, List.set_cons_succ]
        refine takeYes (i := 11) (k := 38) (v := .int .i64 (q : Int)) rfl (by kernel_rfl) (by kernel_rfl) (by kernel_rfl) (by kernel_rfl) (fun _ _ _ h => h) (by kernel_rfl) ?_ (by assumption) ?_
        · intro W hSw; first | (go_simp; done) | go_simp
        try simp only [Act.put, List.setIfInBounds_toArray, List.set_cons_zero, List.set_cons_succ]
        refine takeYes (i := 12) (k := 39) (v := .pointer (some ⟨b, off + q * 3, none⟩)) rfl (by kernel_rfl) (by kernel_rfl) (by kernel_rfl) (by kernel_rfl) (fun _ _ _ h => h) (by kernel_rfl) ?_ (by assumption) ?_
        · intro W hSw; first | (go_simp; done) | go_simp
        try simp only [Act.put, List.setIfInBounds_toArray, List.set_cons_zero, List.set_cons_succ]
        refine takeYes (i := 13) (k := 40) (v := .pointer (some ⟨b, off + q * 3 + 1, none⟩)) rfl (by kernel_rfl) (by kernel_rfl) (by kernel_rfl) (by kernel_rfl) (fun _ _ _ h => h) (by kernel_rfl) ?_ (by assumption) ?_
        · intro W hSw; first | (go_simp; done) | go_simp
        try simp only [Act.put, List.setIfInBounds_toArray, List.set_cons_zero, List.set_cons_succ]
        refine takeYes (i := 14) (k := 41) (v := .string sp) rfl (by kernel_rfl) (by kernel_rfl) (by kernel_rfl) (by kernel_rfl) (fun _ _ _ h => h) (by kernel_rfl) ?_ (by assumption) ?_
        · intro W hSw; obtain ⟨d0, d1, d2⟩ := HAT.out.under hblt hSw; first | (go_simp; done) | go_simp
        try simp only [Act.put, List.setIfInBounds_toArray, List.set_cons_zero, List.set_cons_succ]
        refine takeYes (i := 15) (k := 42) (v := .slice (some ⟨b, off, none⟩) len cap) rfl (by kernel_rfl) (by kernel_rfl) (by kernel_rfl) (by kernel_rfl) (fun _ _ _ h => h) (by kernel_rfl) ?_ (by assumption) ?_
        · intro W hSw; first | (go_simp; done) | go_simp
        try simp only [Act.put, List.setIfInBounds_toArray, List.set_cons_zero, List.set_cons_succ]
        refine takeYes (i := 16) (k := 43) (v := .int .i64 (q : Int)) rfl (by kernel_rfl) (by kernel_rfl) (by kernel_rfl) (by kernel_rfl) (fun _ _ _ h => h) (by kernel_rfl) ?_ (by assumption) ?_
        · intro W hSw; first | (go_simp; done) | go_simp
        try simp only [Act.put, List.setIfInBounds_toArray, List.set_cons_zero, List.set_cons_succ]
        refine takeYes (i := 17) (k := 44) (v := .pointer (some ⟨b, off + q * 3, none⟩)) rfl (by kernel_rfl) (by kernel_rfl) (by kernel_rfl) (by kernel_rfl) (fun _ _ _ h => h) (by kernel_rfl) ?_ (by assumption) ?_
        · intro W hSw; first | (go_simp; done) | go_simp
        try simp only [Act.put, List.setIfInBounds_toArray, List.set_cons_zero, List.set_cons_succ]
        refine takeYes (i := 18) (k := 45) (v := .pointer (some ⟨b, off + q * 3 + 2, none⟩)) rfl (by kernel_rfl) (by kernel_rfl) (by kernel_rfl) (by kernel_rfl) (fun _ _ _ h => h) (by kernel_rfl) ?_ (by assumption) ?_
        · intro W hSw; first | (go_simp; done) | go_simp
        try simp only [Act.put, List.setIfInBounds_toArray, List.set_cons_zero, List.set_cons_succ]
        refine takeYes (i := 19) (k := 46) (v := .string val) rfl (by kernel_rfl) (by kernel_rfl) (by kernel_rfl) (by kernel_rfl) (fun _ _ _ h => h) (by kernel_rfl) ?_ (by assumption) ?_
        · intro W hSw; obtain ⟨d0, d1, d2⟩ := HAT.out.under hblt hSw; first | (go_simp; done) | go_simp
        try simp only [Act.put, List.setIfInBounds_toArray, List.set_cons_zero, List.set_cons_succ]
        refine takeYes (i := 20) (k := 47) (v := .agg #[.string ⟨K0.toArray⟩, .int .i64 (IntKind.i64.wrap (s + (q : Int))), .int .i64 kind, .string sp, .string val]) rfl (by kernel_rfl) (by kernel_rfl) (by kernel_rfl) (by kernel_rfl) (fun _ _ _ h => h) (by kernel_rfl) ?_ (by assumption) ?_
        · intro W hSw; first | (go_simp; done) | go_simp
        try simp only [Act.put, List.setIfInBounds_toArray, List.set_cons_zero, List.set_cons_succ]
        refine wpAnyH_ready (rs := [21]) (by kernel_rfl) (by simp) (AllReadyH.cons rfl (fun K hK => ?_) AllReadyH.nil)
        go_simp
        refine hK.out _ _ HB3.out (fun hHeld2 => ?_)
        clear hK K hHeld
        try simp only [Act.put, List.setIfInBounds_toArray, List.set_cons_zero, List.set_cons_succ]
        refine wpAnyH_ready (rs := [22]) (by kernel_rfl) (by simp) (AllReadyH.cons rfl (fun K hK => ?_) AllReadyH.nil)
        refine step_appD 49 rfl (by kernel_rfl) (.tmp 27) (.tmp 48) 36 rfl rfl rfl HRUN.out ?_
        refine hK.out _ _ HB4.out (fun hHeld3 => ?_)
        clear hK K hHeld2
        try simp only [Act.put, List.setIfInBounds_toArray, List.set_cons_zero, List.set_cons_succ]
        refine takeYes (i := 23) (k := 5) (v := v4) rfl (by kernel_rfl) (by kernel_rfl) (by kernel_rfl) (by kernel_rfl) (fun _ _ _ h => h) (by kernel_rfl) ?_ (by assumption) ?_
        · intro W hSw; first | (go_simp; done) | go_simp
        try simp only [Act.put, List.setIfInBounds_toArray, List.set_cons_zero, List.set_cons_succ]
        refine wpAnyH_done (by kernel_rfl) ?_ _
        clear hHeld3
        go_wp2_with fail
        go_roundg (len - (q + 1))
        case measure => omega
        case rel => exact ⟨q + 1, _, by go_num, by omega, Nat.le_refl _, HXE, HO4, HB4⟩
      · have hd1 : decide (q < len) = false := decide_eq_false h1
        have hz1 : ¬ (q : Int) < (len : Int) := by omega
        obtain rfl : R = xs := by
          rw [HRF.out, HXS.out, List.take_of_length_le (by rw [entsF_len]; have := HN.out; omega)]
        go_wp2_with fail
        go_ret
        exact ⟨_, rfl, HOW.out, HB.out⟩
  · obtain rfl : R = [] := by rw [← hR, entsP_no hc]
    obtain ⟨E, hE⟩ : ∃ E, checkP l = E := ⟨_, rfl⟩
    rw [hE] at HCK hc
    have hne : (E != 0) = true := by rw [bne_iff_ne]; exact hc
    clear hR hrd hlen hok hlm hc hE
    go_enter Tryz.func14, Tryz.ntmps14
    go_wp2_with fail
    refine HCK.out.mono ?_
    rintro e w1 ⟨rfl, hb1⟩
    go_wp2_with fail
    go_ret
    exact ⟨_, rfl, OwnK.nil _ _ _ _ _, hb1⟩
end Go.Proofs.YtjhkfjbgdaomeaaGreatDoor
