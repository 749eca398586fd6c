/- The laws' begun: one group in a log. -/
import Derived.Test.YtjhkfjbgdaomeaaGreatDoorWalOwn
namespace Go.Proofs.YtjhkfjbgdaomeaaGreatDoor
set_option linter.unusedVariables false
open Go.RowKit Go.Maps
theorem kvG_len : (grpB kvG).length ≤ 279 := by
  have := grp_short 200 (g := kvG) (fun o ho => by
    obtain rfl := List.mem_singleton.1 (show o ∈ [kvO] from ho)
    decide +kernel)
  exact this
theorem kvG_wal : (walB smN [kvG]).length ≤ 2300 := by
  have h1 := layB_len smN smN_len 0 (grpB kvG)
  have h2 := kvG_len
  have h3 : walB smN [kvG] = layB smN 0 (grpB kvG) := by
    unfold walB
    simp [layAll]
  rw [h3]; omega
theorem kvG_rec : recsE [grpB kvG] = some [⟨⟨#[107]⟩, 1, 1, ⟨#[107]⟩, ⟨#[118]⟩⟩] := by
  have h := recsE_groups (gs := [kvG]) (fun g hg => by obtain rfl := List.mem_singleton.1 hg; exact kvG_good)
  rw [List.map_cons, List.map_nil] at h
  rw [h, List.flatMap_cons, List.flatMap_nil, List.append_nil, show grpE kvG = entsF 1 [kvO] from rfl, kvG_ents]
theorem name3 : logName 3 = ⟨#[51, 46, 108, 111, 103]⟩ := by decide +kernel
theorem name3_ok : nameOk (logName 3) = true := by decide +kernel
theorem name5 : logName 5 = ⟨#[53, 46, 108, 111, 103]⟩ := by decide +kernel
theorem name5_ok : nameOk (logName 5) = true := by decide +kernel
/-- A new log in a new file system. -/
theorem walNew_any {w0 w : World} {b : Nat} {r : Nat} (h : FsOwn w0 w b (fsNew r)) (u : Nat) (h1 : 1 ≤ u) (h2 : u < 100) (hn : nameOk (logName u) = true) (hs : (logName u).size ≤ 1000000) :
    Calls Tryz.prog 9 #[.pointer (some ⟨b, 0, none⟩), .int .i64 (u : Int)] w fun e w' => ∃ lb, e = .returned (.tuple #[.pointer (some ⟨lb, 0, none⟩), .int .i64 0]) ∧ WalOwn w0 w' b lb (namF (logName u) (walB smN []) 0 [] [mkF (logName u)] r (inc64 0)) (logName u) (walB smN []).length := by
  obtain ⟨ρ, g1, g2, g3⟩ := h
  exact (walCreate_any w b ρ _ g1 u h1 (by omega) (logName u) (walname_small u h2 w) hs (Nat.zero_le _) _ (nam_new hn r)).mono fun e w' h => h.own g2 g3
set_option maxHeartbeats 4000000 in
set_option maxRecDepth 100000 in
theorem wbegun_any (w : World) (hG : GlobAt w) : Calls Tryz.prog 7 #[] w fun e w' => e = .returned (.bool true) ∧ Below w.heap.size w w' := by
  have HG : Hid (∀ W, Below w.heap.size w W → GlobAt W) := Lib.hid fun W hW => hG.below hW
  have HNW : Hid (Calls Tryz.prog 8 #[.int .i64 10000] w fun e w' => e = .returned (.pointer (some ⟨w.heap.size, 0, none⟩)) ∧ FsOwn w w' w.heap.size (fsNew 10000)) := Lib.hid (new_own 10000 w)
  clear hG
  go_enter Tryz.func7, Tryz.ntmps7
  go_wp2_with fail
  refine HNW.out.mono ?_
  rintro e w1 ⟨rfl, hf⟩
  have HCR : Hid (Calls Tryz.prog 9 #[.pointer (some ⟨w.heap.size, 0, none⟩), .int .i64 3] w1 fun e w' => ∃ lb, e = .returned (.tuple #[.pointer (some ⟨lb, 0, none⟩), .int .i64 0]) ∧ WalOwn w w' w.heap.size lb (namF (logName 3) (walB smN []) 0 [] [mkF (logName 3)] 10000 (inc64 0)) (logName 3) (walB smN []).length) := Lib.hid (walNew_any hf 3 (by omega) (by omega) name3_ok (by rw [name3]; decide))
  clear hf HNW
  go_wp2_with fail
  refine HCR.out.mono ?_
  rintro e w2 ⟨lb, rfl, ho⟩
  have hal : Below w2.heap.size w2 (w2.alloc (.cells #[.int .i64 1, .string ⟨#[107]⟩, .string ⟨#[118]⟩] 49)) := (Below.refl _ w2).alloc (Nat.le_refl _) _
  have ho3 := ho.below hal
  obtain ⟨ρ, g1, g2, g3⟩ := ho3
  have HST := Lib.hid (walStep_any _ _ lb ρ (logName 3) [] 0 [] [mkF (logName 3)] 10000 (inc64 0) g1 (by rw [name3]; decide) kvG kvG_good (.slice (some ⟨w2.heap.size, 0, none⟩) 1 1) (rdO_one w2 kvO)
    (fun o ho => by obtain rfl := List.mem_singleton.1 (show o ∈ [kvO] from ho); constructor <;> decide) (HG.out _ g2) (by have := kvG_len; omega) (by have := kvG_wal; rw [List.nil_append]; omega) (by omega))
  have HG2 := Lib.hid (And.intro g2 g3)
  clear ho g1 g2 g3 hal HCR
  rw [List.nil_append] at HST
  generalize hS : namF (logName 3) (walB smN [kvG]) 0 [] [mkF (logName 3)] 10000 (inc64 (inc64 0)) = S4 at HST
  have hrd : S4.read (logName 3) = (walB smN [kvG], 0) := by rw [← hS, nam_read]
  have HRD := Lib.hid hrd
  clear hS hrd
  go_wp2_with fail
  refine HST.out.mono ?_
  rintro e w4 ⟨rfl, ht⟩
  have hw4 := WalOwn.to HG2.out.1 HG2.out.2 ht
  clear ht HST HG2
  obtain ⟨ρ4, g1, g2, g3⟩ := hw4
  have hG4 := HG.out _ g2
  have hRP := replay_any w4 w.heap.size ρ4 S4 g1.fs 3 (logName 3) (walname_small 3 (by omega) w4) (by rw [name3]; decide) _ HRD.out (by have := kvG_wal; omega) hG4.1 hG4.2.1 hG4.2.2 [grpB kvG] _ true (readC_all smN_len [grpB kvG]) (by simp) (fun r hr => by
    obtain rfl := List.mem_singleton.1 hr
    have := kvG_len; omega)
  rw [if_pos rfl, kvG_rec] at hRP
  have HRP := Lib.hid hRP
  have HB4 := Lib.hid g2
  clear g1 g2 g3 hG4 hRP HRD HG
  go_wp2_with fail
  refine HRP.out.mono ?_
  rintro e w5 ⟨u, n5, c5, rfl, ⟨o5, rfl, rfl⟩, b5⟩
  have HB5 := Lib.hid (HB4.out.trans (b5.mono HB4.out.size))
  have HN3 := Lib.hid (walname_small 3 (by omega) w5)
  rw [name3] at HN3
  rcases o5.blk with ⟨-, e⟩ | ⟨g, cap, cur, rfl, -, -, -, -⟩
  · cases e
  have d0 : w5.cell? ⟨g, 0, none⟩ = some (.string ⟨#[107]⟩) := o5.cell encEnt_len 0 0 _ rfl (by decide)
  clear o5 b5 HRP HB4
  go_wp2_with fail
  refine HN3.out.mono ?_
  rintro e w6 ⟨rfl, b6⟩
  have HB6 := Lib.hid (HB5.out.trans (b6.mono HB5.out.size))
  clear b6 HN3
  go_wp2_with fail
  go_ret
  exact ⟨rfl, HB6.out⟩
end Go.Proofs.YtjhkfjbgdaomeaaGreatDoor
