/- The walk of begun: it answers true; and the law UtfFour. -/
import Derived.Test.YtcgknggmbfnpeaaUtfWrit3
import Derived.ProofKit
import Derived.OpenShut
import Derived.ShutString
import Derived.ChangeOld
import Derived.Below
import Derived.Deep.DeepCutAuto
namespace Go.Proofs.Ytcgknggmbfnpeaa
set_option linter.unusedVariables false
open Go.RowKit
theorem begun_r1 : readP [97, 195, 169, 226, 130, 172] = some [97, 233, 8364] := by decide +kernel
theorem begun_r2 : readP [192, 128] = none := by decide +kernel
theorem begun_w1 : writeP [128512] = some [240, 159, 152, 128] := by decide +kernel
theorem rd_new (w : World) (c : Int) : RdI (w.alloc (.cells #[.int .i64 c] 3)) (.slice (some ⟨w.heap.size, 0, none⟩) 1 1) [c] :=
  .inr ⟨w.heap.size, 0, 1, rfl, Nat.one_pos, Nat.le_refl _, by simp [maxLen], by simp, fun i hi => by
    have : i = 0 := by simpa using hi
    subst this
    unfold World.cell?
    rw [heap_alloc_new]; rfl⟩
set_option maxHeartbeats 1000000 in
set_option maxRecDepth 100000 in
theorem begun_any (w : World) :
    Calls Try.prog 9 #[] w fun e w' => e = .returned (.bool true) ∧ Below w.heap.size w w' := by
  have H1 : Hid (∀ w, Calls Try.prog 11 #[.string ⟨#[97, 195, 169, 226, 130, 172]⟩] w (ReadRes w (some [97, 233, 8364]))) := Lib.hid fun w => by
    have := read_any ⟨#[97, 195, 169, 226, 130, 172]⟩ (by show 6 ≤ 1000000; omega) w; rw [show ((⟨#[97, 195, 169, 226, 130, 172]⟩ : ByteArray).data.toList) = [97, 195, 169, 226, 130, 172] from rfl, begun_r1] at this; exact this
  have H2 : Hid (∀ w, Calls Try.prog 11 #[.string ⟨#[192, 128]⟩] w (ReadRes w none)) := Lib.hid fun w => by
    have := read_any ⟨#[192, 128]⟩ (by show 2 ≤ 1000000; omega) w; rw [show ((⟨#[192, 128]⟩ : ByteArray).data.toList) = [192, 128] from rfl, begun_r2] at this; exact this
  have H3 : Hid (∀ w : World, Calls Try.prog 16 #[.slice (some ⟨w.heap.size, 0, none⟩) 1 1] (w.alloc (.cells #[.int .i64 128512] 3)) (WriteRes (w.alloc (.cells #[.int .i64 128512] 3)) (some [240, 159, 152, 128]))) := Lib.hid fun w => by
    rw [← begun_w1]; exact write_any _ [128512] (by show 1 ≤ 10000; omega) _ (rd_new w 128512)
  go_enter Try.func9, Try.ntmps9
  go_wp2_with fail
  refine (H1.out _).mono ?_
  rintro e w1 ⟨hb1, v1, rfl, hown⟩
  have hrd := hown.rd
  obtain ⟨g, cap, rfl, hcap, hcell⟩ : ∃ g cap, v1 = .slice (some ⟨g, 0, none⟩) 3 cap ∧ 3 ≤ cap ∧ w1.cell? ⟨g, 2, none⟩ = some (.int .i64 8364) ∧ g < w1.heap.size := by
    rcases hrd with ⟨a, cap, -, e⟩ | ⟨b, off, cap, e, -, h2, h3, h4, h5⟩
    · simp at e
    · rcases hown.nilOr with ⟨-, e'⟩ | ⟨g, cap', e', -⟩
      · simp at e'
      · rw [e'] at e
        simp only [Value.slice.injEq, Option.some.injEq, Addr.mk.injEq] at e
        obtain ⟨⟨rfl, rfl, -⟩, -, rfl⟩ := e
        exact ⟨g, cap', e', h2, h5 2 (by simp), h4⟩
  obtain ⟨hcell, hg⟩ := hcell
  clear hrd hown
  go_wp2_with fail
  refine (H2.out _).mono ?_
  rintro e w2 ⟨hb2, rfl⟩
  have hc2 : w2.cell? ⟨g, 2, none⟩ = some (.int .i64 8364) := by rw [hb2.cell hg]; exact hcell
  have hg2 : g < w2.heap.size := Nat.lt_of_lt_of_le hg hb2.size
  go_wp2_with fail
  refine (H3.out _).mono ?_
  rintro e w3 ⟨hb3, rfl⟩
  have hbb : Below w.heap.size w w3 := ((hb1.trans (hb2.mono hb1.size)).alloc (Nat.le_trans hb1.size hb2.size) (.cells #[.int .i64 128512] 3)).trans (hb3.mono (by simp; have := Nat.le_trans hb1.size hb2.size; omega))
  have hc3 : w3.cell? ⟨g, 2, none⟩ = some (.int .i64 8364) := by
    rw [hb3.cell (by simp; omega), World.cell?_alloc_past _ _ _ hg2]; exact hc2
  clear H1 H2 H3 hb1 hb2 hb3 hc2 hcell hg hg2
  have hce : (3 : Int) ≤ (cap : Int) := by omega
  go_wp2
  go_ret
  exact ⟨rfl, hbb⟩
end Go.Proofs.Ytcgknggmbfnpeaa
