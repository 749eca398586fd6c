/- The laws of records: their begun. -/
import Derived.Test.YtdnohjhknhekhaaDoorRecRead
import Derived.Test.YtdnohjhknhekhaaDoorRecApp
import Derived.Test.YtdnohjhknhekhaaDoorRecSame
import Derived.Test.YtdnohjhknhekhaaDoorByLit
namespace Go.Proofs.YtdnohjhknhekhaaDoor
set_option linter.unusedVariables false
open Go.RowKit
theorem one_lay (b : List UInt8) (h : b.length ≤ 249) : layB smN 0 b = pieceB smN 1 b := by
  have := layB_whole smN 0 b h
  rw [this]; rfl
theorem read_one (a : Nat) (b : List UInt8) : readC smN (layB smN 0 b) = ([b], (layB smN 0 b).length, true) := by
  have := readC_all smN_len [b]
  simp only [layAll, List.append_nil] at this
  exact this
set_option maxHeartbeats 2000000 in
set_option maxRecDepth 100000 in
theorem rbegun_any (w : World) (ht : TabAt w) : Calls Tryd.prog 7 #[] w fun e w' => e = .returned (.bool true) ∧ Below w.heap.size w w' := by
  have hcv := litW_run w [97, 98] #[.int .u8 97, .int .u8 98] 2 rfl
  have B := litW_below w [97, 98]
  have HA := Lib.hid (append_any 0 (by omega) _ [97, 98] (by decide) (litW w [97, 98]) (ht.below B) (litW_rd w [97, 98] 2 rfl (by decide)))
  generalize litW w [97, 98] = W at *
  obtain ⟨L, hL⟩ : ∃ L, layB smN 0 [97, 98] = L := ⟨_, rfl⟩
  have hLl : L.length = 9 := by rw [← hL, one_lay _ (by decide), piece_len smN_len]; rfl
  have hRd : readC smN L = ([[97, 98]], 9, true) := by rw [← hL, read_one 0, hL, hLl]
  rw [hL] at HA
  have HT := Lib.hid (ht.below B)
  have HRD := Lib.hid hRd
  have HLL := Lib.hid hLl
  have HB := Lib.hid B
  clear ht hL hLl hRd B
  go_enter Tryd.func7, Tryd.ntmps7
  go_wp2_with fail
  refine HA.out.mono ?_
  rintro e w2 ⟨v2, rfl, o2, b2⟩
  obtain ⟨a2, l2, c2, rfl, hl2, -⟩ := o2.form
  have HR := Lib.hid (read_any a2 l2 c2 L (by rw [HLL.out]; omega) w2 (HT.out.below b2) o2.rd)
  rw [HRD.out] at HR
  have hl9 : l2 = 9 := by rw [hl2]; exact HLL.out
  subst hl9
  have HB2 := Lib.hid (HB.out.trans (b2.mono HB.out.size))
  clear HA o2 b2 hl2 HRD HLL
  go_wp2_with fail
  refine HR.out.mono ?_
  rintro e w3 ⟨v3, rfl, r3, b3⟩
  obtain ⟨a3, c3, rfl, -, -⟩ := r3.form
  obtain ⟨g, u, e3, hg, hc, hu⟩ := r3.at 0 [97, 98] rfl
  obtain rfl := e3
  have htx := hu.rd.text
  have HB3 := Lib.hid (HB2.out.trans (b3.mono HB2.out.size))
  clear HR r3 b3 HB2 hu
  go_wp2_with fail
  go_ret
  exact ⟨rfl, HB3.out⟩
end Go.Proofs.YtdnohjhknhekhaaDoor
