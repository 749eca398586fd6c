/- The law FilesTail. -/
import Derived.Test.YtgeofgdhlbmciaaFsLawN
import Derived.Deep.CutBlock
import Derived.Deep.DeepCutAuto
import Derived.Laws.OwnMore
import Derived.Deep.OwnRows
namespace Go.Proofs.Ytgeofgdhlbmciaa
set_option linter.unusedVariables false
open Go.RowKit Go.Maps
/-- 'make([]byte, n)' -/
theorem mkB_row (w : World) (K : Nat) (hK : K ≤ 1000000) : (w.alloc (.cells (madeCells #[.int .u8 0] K) 5)).ownsRow w.heap.size 5 1 (.slice (some ⟨w.heap.size, 0, none⟩) K K) K ((List.replicate K (0 : UInt8)).map bv) := by
  have := World.ownsRow_lit (base := w.heap.size) (e := 5) (size := 1) w (madeCells #[.int .u8 0] K) K (Nat.le_refl _) (by unfold maxLen; omega) (by rw [size_madeCells]; omega)
  rw [toList_madeCells_one] at this
  rw [List.map_replicate]
  exact this
theorem row_B {w : World} {B : Nat} {v : Value} {n : Nat} {bs : List UInt8} (h : w.ownsRow B 5 1 v n (bs.map bv)) : OwnB B w v bs := by
  unfold OwnB OwnV
  have h1 := h.1
  rw [Nat.mul_one] at h1
  rw [h1]; exact h
/-- bytes that are filled, so far -/
def fill7 (m j : Nat) : List UInt8 := List.replicate j 7 ++ List.replicate (m - j) 0
theorem fill7_len (m j : Nat) (h : j ≤ m) : (fill7 m j).length = m := by unfold fill7; rw [List.length_append, List.length_replicate, List.length_replicate]; omega
theorem fill7_step (m j : Nat) (h : j < m) : ((fill7 m j).map bv).set j (.int .u8 7) = (fill7 m (j + 1)).map bv := by
  unfold fill7
  rw [show m - j = (m - (j + 1)) + 1 by omega, List.replicate_succ, List.map_append, List.set_append_right _ _ (by rw [List.length_map, List.length_replicate]; exact Nat.le_refl _), List.length_map, List.length_replicate, Nat.sub_self, List.map_cons, List.set_cons_zero, List.replicate_succ', List.map_append, List.map_append, List.append_assoc]
  rfl
/-- what is told behind the crash -/
def tailX (s m c : Nat) : List UInt8 := (List.replicate s (0 : UInt8) ++ List.replicate m (7 : UInt8)).take c
theorem tailX_at (s m c j : Nat) (hc : c ≤ s + m) (hj : j < c) : (tailX s m c)[j]? = some (if j < s then 0 else 7) := by
  unfold tailX
  rw [List.getElem?_take_of_lt hj]
  by_cases h : j < s
  · rw [List.getElem?_append_left (by rw [List.length_replicate]; exact h), List.getElem?_replicate, if_pos h, if_pos h]
  · rw [List.getElem?_append_right (by rw [List.length_replicate]; omega), List.length_replicate, List.getElem?_replicate, if_pos (by omega), if_neg h]
theorem tailX_len (s m c : Nat) (hc : c ≤ s + m) : (tailX s m c).length = c := by unfold tailX; rw [List.length_take, List.length_append, List.length_replicate, List.length_replicate]; omega
set_option maxHeartbeats 4000000 in
set_option maxRecDepth 100000 in
theorem filesTail_walk (w : World) (s : Int) (ws : (Lit.int .i64 s).wf = true) (m : Int) (wm : (Lit.int .i64 m).wf = true) (t : Int) (wt : (Lit.int .i64 t).wf = true) : Calls Try.prog 4 #[.int .i64 s, .int .i64 m, .int .i64 t] w fun e w' => e = .returned (.bool true) ∧ Below w.heap.size w w' := by
  clear ws wm wt
  go_enter Try.func4, Try.ntmps4
  go_wp2_with fail
  refine (fbegun_any _).mono ?_
  rintro e w1 ⟨rfl, hb⟩
  have HB := Lib.hid hb
  clear hb
  by_cases hbad : s < 0 ∨ 300 < s ∨ m < 0 ∨ 300 < m
  · go_wp2_with fail
    all_goals (go_ret; exact ⟨rfl, HB.out⟩)
  · have h1 : ¬ s < 0 := by omega
    have h2 : ¬ 300 < s := by omega
    have h3 : ¬ m < 0 := by omega
    have h4 : ¬ 300 < m := by omega
    clear hbad
    obtain ⟨s, rfl⟩ : ∃ k : Nat, s = (k : Int) := ⟨s.toNat, by omega⟩
    obtain ⟨m, rfl⟩ : ∃ k : Nat, m = (k : Int) := ⟨m.toNat, by omega⟩
    have hs : s ≤ 300 := by omega
    have hm : m ≤ 300 := by omega
    go_wp2_with fail
    refine (new_own 1000 w1).mono ?_
    rintro e w2 ⟨rfl, h1⟩
    obtain ⟨b, hb⟩ : ∃ b, w1.heap.size = b := ⟨_, rfl⟩
    have h1' : FsOwn w1 w2 b ⟨[], [], [], [], 1000, 0, none⟩ := by rw [← hb]; exact h1
    rw [hb]
    have HC := Lib.hid (create_own h1' nmA (by decide) (by simp))
    rw [one_create] at HC
    clear h1 h1' hb
    unfold nmA at HC
    go_wp2_with fail
    refine HC.out.mono ?_
    rintro e w3 ⟨rfl, h3⟩
    have H3 := Lib.hid h3
    clear HC h3
    have hmk := run_make_row' (P := Try.prog) 23 5 (.int .u8 0) 1 Try.underlying23 (by kernel_rfl) rfl .i64 .i64 s (by omega) (by omega)
    have HA := Lib.hid (append_own H3.out ((Below.refl _ w3).alloc (Nat.le_refl _) (.cells (madeCells #[.int .u8 0] s) 5)) nmA (by decide) _ (List.replicate s 0) (OwnB.rd (row_B (mkB_row w3 s (by omega)))) (fun k hk => by
      obtain rfl : w3.heap.size = k := Option.some.inj hk
      exact Nat.le_refl _) (by rw [List.length_replicate]; omega))
    rw [one_append _ _ _ _ _ _ _ (by rw [List.length_replicate]; simp; omega)] at HA
    unfold nmA at HA
    go_wp2_with fail
    refine HA.out.mono ?_
    rintro e w4 ⟨rfl, h4⟩
    have HS := Lib.hid (sync_own h4 nmA (by decide))
    rw [one_sync] at HS
    unfold nmA at HS
    clear HA h4 hmk H3
    go_wp2_with fail
    refine HS.out.mono ?_
    rintro e w5 ⟨rfl, h5⟩
    have H5 := Lib.hid h5
    clear HS h5
    simp only [List.nil_append, List.length_replicate] at H5
    have hmk := run_make_row' (P := Try.prog) 23 5 (.int .u8 0) 1 Try.underlying23 (by kernel_rfl) rfl .i64 .i64 m (by omega) (by omega)
    have HROW := Lib.hid (mkB_row w5 m (by omega))
    have HBW := Lib.hid ((Below.refl _ w5).alloc (Nat.le_refl _) (.cells (madeCells #[.int .u8 0] m) 5))
    obtain ⟨g, hg⟩ : ∃ g, w5.heap.size = g := ⟨_, rfl⟩
    have HG := Lib.hid hg
    rw [hg] at HROW HBW
    go_wp2_with fail
    clear hmk
    generalize w5.alloc (.cells (madeCells #[.int .u8 0] m) 5) = w6 at HROW HBW ⊢
    go_loopg [10] m (fun kk vi wr => ∃ j : Nat, vi = .int .i64 (j : Int) ∧ j ≤ m ∧ m - j ≤ kk ∧ Hid (wr.ownsRow g 5 1 (.slice (some ⟨g, 0, none⟩) m m) m ((fill7 m j).map bv) ∧ Below g w5 wr))
    case atStart => exact ⟨0, rfl, by omega, by omega, Lib.hid ⟨by unfold fill7; rw [List.replicate_zero, List.nil_append, Nat.sub_zero]; exact HROW.out, HBW.out⟩⟩
    case round =>
      clear HROW HBW
      obtain ⟨j, rfl, hj, hkk, HS⟩ := hrel
      by_cases hlt : j < m
      · have hz : (j : Int) < (m : Int) := by omega
        have c2 : wr.cell? ⟨g, j, none⟩ = some (.int .u8 0) := (HS.out.1.cellAt j (by omega)).trans (by
          unfold fill7
          rw [List.map_append, List.getElem?_append_right (by rw [List.length_map, List.length_replicate]; exact Nat.le_refl _), List.length_map, List.length_replicate, Nat.sub_self, List.map_replicate, List.getElem?_replicate, if_pos (by omega)]; rfl)
        have f2 := HS.out.1.frozenAt j
        have HSN : Hid ((wr.setCell ⟨g, j, none⟩ (.int .u8 7)).ownsRow g 5 1 (.slice (some ⟨g, 0, none⟩) m m) m ((fill7 m (j + 1)).map bv) ∧ Below g w5 (wr.setCell ⟨g, j, none⟩ (.int .u8 7))) := Lib.hid (by
          obtain ⟨s1, s2⟩ := HS.out
          have := (s1.stored j (.int .u8 7)).1
          rw [fill7_step m j hlt] at this
          exact ⟨this, s2.setCell (p := ⟨g, j, none⟩) (Nat.le_refl _) _⟩)
        clear HS hg
        go_wp2
        go_roundg (m - (j + 1))
        case measure => omega
        case rel => exact ⟨j + 1, by go_num, by omega, Nat.le_refl _, HSN⟩
      · obtain rfl : j = m := by omega
        have hz : ¬ (j : Int) < (j : Int) := by omega
        have hrow : OwnB g wr (.slice (some ⟨g, 0, none⟩) j j) (List.replicate j 7) := row_B (by
          have := HS.out.1
          unfold fill7 at this
          rwa [Nat.sub_self, List.replicate_zero, List.append_nil] at this)
        have HA := Lib.hid (append_own H5.out (by rw [hg]; exact HS.out.2) nmA (by decide) _ (List.replicate j 7) hrow.rd (fun k hk => by
          obtain rfl : g = k := Option.some.inj hk
          rw [hg]; exact Nat.le_refl _) (by rw [List.length_replicate]; omega))
        rw [one_append _ _ _ _ _ _ _ (by rw [List.length_replicate, List.length_replicate]; omega)] at HA
        unfold nmA at HA
        clear hrow HS H5 hg
        go_wp2_with fail
        refine HA.out.mono ?_
        rintro e w7 ⟨rfl, h7⟩
        have HS := Lib.hid (syncDir_own h7)
        rw [one_syncDir] at HS
        unfold nmA at HS
        clear HA h7
        go_wp2_with fail
        refine HS.out.mono ?_
        rintro e w8 ⟨rfl, h8⟩
        have H8 := Lib.hid h8
        clear HS h8
        go_wp2_with fail
        have HK := Lib.hid (crash_own H8.out ((Below.refl _ w8).alloc (Nat.le_refl _) (.cells #[.int .i64 t] 3)) 0 _ [t] (ints_one w8 t) (by simp) (by simp [oneF]))
        refine HK.out.mono ?_
        rintro e w9 ⟨b1, rfl, h9⟩
        have hrd := one_crash0 (List.replicate s 0 ++ List.replicate j 7) s [] 1000 (inc64 (inc64 (inc64 (inc64 (inc64 0))))) none [t] 0 (by omega)
        obtain ⟨c, hc⟩ : ∃ c, s + clampN t j = c := ⟨_, rfl⟩
        have hcl := clamp_le t j
        have hle : (List.replicate s (0 : UInt8) ++ List.replicate j (7 : UInt8)).length - s = j := by rw [List.length_append, List.length_replicate, List.length_replicate]; omega
        have hte : ([t] : List Int).getD 0 0 = t := rfl
        rw [hte, hle, hc] at hrd
        have HR := Lib.hid (read_own h9 nmA (by decide) (tailX s j c) 0 hrd)
        have HB9 := Lib.hid (HB.out.trans ((H8.out.blw.trans ((((Below.refl _ w8).alloc (Nat.le_refl _) (.cells #[.int .i64 t] 3)).trans (h9.blw.mono (by simp))).mono H8.out.blw.size)).mono HB.out.size))
        have HCC := Lib.hid hc
        have HCE : Hid (max 0 (min t (j : Int)) = ((clampN t j : Nat) : Int)) := Lib.hid (by unfold clampN; omega)
        unfold nmA at HR
        clear HK h9 H8 hrd hcl hc
        go_wp2_with fail
        refine HR.out.mono ?_
        rintro e w10 ⟨v10, rfl, o10, b10⟩
        have HB10 := Lib.hid (HB9.out.trans (b10.mono HB9.out.size))
        have HO := Lib.hid (OwnB.rd o10)
        obtain ⟨a10, l10, p10, rfl⟩ := row_form o10
        have hl10 : l10 = c := by
          have h1 := (rdV_len HO.out).1
          rw [List.length_map, tailX_len s j c (by rw [← HCC.out]; have := clamp_le t j; omega)] at h1
          exact h1
        subst hl10
        clear HR o10 b10 HB9
        have hsum : (s : Int) + max 0 (min t (j : Int)) = (l10 : Int) := by rw [HCE.out]; have := HCC.out; omega
        have hlb : l10 ≤ 600 := by have := HCC.out; have := clamp_le t j; omega
        obtain ⟨z, hz2⟩ : ∃ z, max 0 (min t (j : Int)) = z := ⟨_, rfl⟩
        have hz3 : (s : Int) + z = (l10 : Int) := by rw [← hz2]; exact hsum
        have hz4 : wrap64 ((s : Int) + z) = (l10 : Int) := by rw [hz3]; unfold wrap64; omega
        clear hsum hz hle hte
        go_wp2_with fail
        clear hz4 hz2 hz3
        go_loopg [14] l10 (fun kk vi wr2 => ∃ k : Nat, vi = .int .i64 (k : Int) ∧ k ≤ l10 ∧ l10 - k ≤ kk ∧ wr2 = w10)
        case atStart => exact ⟨0, rfl, Nat.zero_le _, by omega, rfl⟩
        case round =>
          obtain ⟨k, rfl, hk, hkk2, rfl⟩ := hrel
          by_cases hlt2 : k < l10
          · have hkz : (k : Int) < (l10 : Int) := by omega
            obtain ⟨g2, off, rfl, -, hcx⟩ : ∃ g2 off, a10 = some ⟨g2, off, none⟩ ∧ g2 < wr.heap.size ∧ wr.cell? ⟨g2, off + k, none⟩ = some (.int .u8 (((if k < s then 0 else 7 : UInt8)).toNat : Int)) := by
              have hc0 : l10 ≤ s + j := by have := HCC.out; have := clamp_le t j; omega
              obtain ⟨g2, off, e1, e2, e3⟩ := HO.out.at k _ (tailX_at s j l10 k hc0 hlt2)
              exact ⟨g2, off, e1, e2, e3⟩
            by_cases hks : k < s
            · have hx : wr.cell? ⟨g2, off + k, none⟩ = some (.int .u8 0) := by rw [hcx, if_pos hks]; rfl
              have hks2 : (k : Int) < (s : Int) := by omega
              clear hcx
              go_wp2
              go_roundg (l10 - (k + 1))
              case measure => omega
              case rel => exact ⟨k + 1, by go_num, by omega, Nat.le_refl _, rfl⟩
            · have hx : wr.cell? ⟨g2, off + k, none⟩ = some (.int .u8 7) := by rw [hcx, if_neg hks]; rfl
              have hks2 : ¬ (k : Int) < (s : Int) := by omega
              clear hcx
              go_wp2
              go_roundg (l10 - (k + 1))
              case measure => omega
              case rel => exact ⟨k + 1, by go_num, by omega, Nat.le_refl _, rfl⟩
          · obtain rfl : k = l10 := by omega
            have hkz : ¬ (k : Int) < (k : Int) := by omega
            go_wp2
            go_ret
            exact ⟨rfl, HB10.out⟩
end Go.Proofs.Ytgeofgdhlbmciaa
