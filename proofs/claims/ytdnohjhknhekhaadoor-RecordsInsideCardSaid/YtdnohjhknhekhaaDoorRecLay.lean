/- reclog.lay: a piece at the end of the log. -/
import Derived.Test.YtdnohjhknhekhaaDoorRecSmall
import Derived.Test.YtdnohjhknhekhaaDoorNumText
import Derived.Test.YtdnohjhknhekhaaDoorByLit
import Derived.Test.YtdnohjhknhekhaaDoorSrc
import Derived.Test.YtdnohjhknhekhaaDoorGrow
import Derived.Deep.DeepCutAuto
import Derived.Deep.CutBlock
namespace Go.Proofs.YtdnohjhknhekhaaDoor
set_option linter.unusedVariables false
open Go.RowKit
theorem hd_row (b : List UInt8) (n k : Nat) (hn : b.length = n) (h : n ≤ 249) (hk : k ≤ 4) : ((hdB k b).map bv).toArray = #[.int .u8 (n : Int), .int .u8 ((n : Int) / 256), .int .u8 (k : Int)] := by
  subst hn
  unfold hdB
  simp only [List.map_cons, List.map_nil, bv]
  rw [byte_of _ (by omega), byte_of _ (by omega), byte_of _ (by omega), Nat.mod_eq_of_lt (by omega)]
  rfl
set_option maxHeartbeats 1000000 in
set_option maxRecDepth 100000 in
theorem lay_any (w0 w : World) (hw0 : Below w0.heap.size w0 w) (ht : TabAt w0) (k : Nat) (hk : k ≤ 4) (b : List UInt8) (hb : b.length ≤ 249) (ab : Option Addr) (nb cb : Nat) (hrd : RdB w0 (.slice ab nb cb) b)
    (l : List UInt8) (hl : l.length ≤ 100000000000000) (vl : Value) (hown : OwnB w0.heap.size w vl l) :
    Calls Tryd.prog 15 #[vl, .int .u8 (k : Int), .slice ab nb cb] w fun e w' => ∃ v, e = .returned v ∧ OwnB w0.heap.size w' v (l ++ pieceB smN k b) ∧ Below w0.heap.size w w' := by
  have hnb : nb = b.length := by have := (rdV_len hrd).1; rwa [List.length_map] at this
  have HR : Hid (RdB w0 (.slice ab nb cb) b) := Lib.hid hrd
  have hrow := hd_row b nb k hnb.symm (by omega) hk
  have hn : nb ≤ 249 := by omega
  have HLIT : Hid (OwnB w0.heap.size (w.alloc (.cells #[.int .u8 (nb : Int), .int .u8 ((nb : Int) / 256), .int .u8 (k : Int)] 5)) (.slice (some ⟨w.heap.size, 0, none⟩) 3 3) (hdB k b)) := Lib.hid (OwnB.lit w (hdB k b) _ 3 w0.heap.size rfl (by decide) hrow hw0.size)
  have HB : Hid (Below w.heap.size w (w.alloc (.cells #[.int .u8 (nb : Int), .int .u8 ((nb : Int) / 256), .int .u8 (k : Int)] 5))) := Lib.hid ((Below.refl _ w).alloc (Nat.le_refl _) _)
  obtain ⟨H, hH⟩ : ∃ H, hdB k b = H := ⟨_, rfl⟩
  have HP : Hid (pieceB smN k b = fixN 4 (moreN 0 (H ++ b)) ++ (H ++ b)) := Lib.hid (by rw [← hH]; rfl)
  have hHl : H.length = 3 := by rw [← hH]; rfl
  rw [hH] at HLIT
  clear hrow hH hnb hrd
  go_enter Tryd.func15, Tryd.ntmps15
  go_upto_region 2 with fail
  generalize w.alloc (.cells #[.int .u8 (nb : Int), .int .u8 ((nb : Int) / 256), .int .u8 (k : Int)] 5) = w2 at HLIT HB ⊢
  have HB2 : Hid (Below w0.heap.size w w2) := Lib.hid (HB.out.mono hw0.size)
  have HB0 : Hid (Below w0.heap.size w0 w2) := Lib.hid (hw0.trans HB2.out)
  have HS := Lib.hid (sum_any _ _ w2 (ht.below HB0.out) HLIT.out.rd)
  have HM : Hid (Calls Tryd.prog 23 #[.int .u32 (moreN 0 H : Int), .slice ab nb cb] w2 (U32Res (moreN 0 (H ++ b)) w2)) := Lib.hid (by
    have := more_any (moreN 0 H) (moreN_lt (by decide) H) _ b w2 (ht.below HB0.out) (HR.out.below HB0.out)
    rwa [moreN_app] at this)
  have HF := Lib.hid (put32_any (moreN 0 (H ++ b)) (moreN_lt (by decide) _))
  generalize moreN 0 (H ++ b) = r at *
  generalize moreN 0 H = s at *
  have HLI := HLIT.out
  have HLT : Hid (∀ g, vl.ownBlock = some g → g < w.heap.size) := Lib.hid fun g hg => (hown.where g hg).2
  have HO := Lib.hid (hown.below HB.out)
  obtain ⟨F, hF⟩ : ∃ F, fixN 4 r = F := ⟨_, rfl⟩
  have hFl : F.length = 4 := by rw [← hF]; exact fixN_len _ _
  rw [hF] at HF HP
  clear HB hF hown
  go_wp2_with fail
  refine HS.out.mono ?_
  rintro e w' ⟨rfl, rfl⟩
  go_wp2_with fail
  refine HM.out.mono ?_
  rintro e w' ⟨rfl, rfl⟩
  go_wp2_with fail
  refine (HF.out _).mono ?_
  rintro e w3 ⟨v3, rfl, o3, b3⟩
  clear HS HM HF
  have HB3 := Lib.hid (HB2.out.trans (b3.mono HB0.out.size))
  have hs3 := (hw0.trans HB3.out).size
  have o4 := HO.out.below b3
  have HLI3 := HLI.below b3
  clear HO HLI HLIT HB2 HB0
  go_wp2_with (at_builtin; refine wp_appGB _ _ (by rfl) (by rfl) (by rfl) o4 (by rfl) o3.rd ?c1 hs3 ?_)
  case c1 => omega
  intro v5 w5 o5 b5 g5 l5
  have HB5 := Lib.hid (HB3.out.trans b5)
  have hs5 := (hw0.trans HB5.out).size
  have hl5 : (l ++ F).length ≤ 100000000000004 := by rw [List.length_append]; omega
  have HLI5 : OwnB w0.heap.size w5 (.slice (some ⟨w.heap.size, 0, none⟩) 3 3) H := HLI3.kept g5 fun g hg e => by
    obtain rfl : w.heap.size = g := Option.some.inj hg
    exact Nat.lt_irrefl _ (HLT.out _ e)
  clear o3 o4 b3 HB3 g5 l5 b5 HLI3 HLT
  go_wp2_with (at_builtin; refine wp_appSB _ _ (by rfl) (by rfl) (by rfl) o5 (by rfl) HLI5.rd ?c2 hs5 ?_)
  case c2 => omega
  intro v6 w6 o6 b6
  have HB6 := Lib.hid (HB5.out.trans b6)
  have hs6 := (hw0.trans HB6.out).size
  have hl6 : (l ++ F ++ H).length ≤ 100000000000007 := by rw [List.length_append]; omega
  have HR6 := HR.out.below (hw0.trans HB6.out)
  clear o5 HLI5 b6 HB5
  go_wp2_with (at_builtin; refine wp_appSB _ _ (by rfl) (by rfl) (by rfl) o6 (by rfl) HR6 ?c3 hs6 ?_)
  case c3 => simp only [List.length_append] at *; omega
  intro v7 w7 o7 b7
  have HB7 := Lib.hid (HB6.out.trans b7)
  clear o6 b7 HB6 HR6
  go_wp2_with fail
  go_ret
  refine ⟨v7, rfl, ?_, HB7.out⟩
  rw [HP.out]
  simpa only [List.append_assoc] using o7
end Go.Proofs.YtdnohjhknhekhaaDoor
