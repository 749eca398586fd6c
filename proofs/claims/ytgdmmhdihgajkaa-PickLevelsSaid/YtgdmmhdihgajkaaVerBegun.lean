/- What each law of versions begins with: one table goes in, one that meets it is refused. -/
import Derived.Test.YtgdmmhdihgajkaaMVerC
import Derived.Test.YtgdmmhdihgajkaaMVerB
namespace Go.Proofs.Ytgdmmhdihgajkaa
set_option linter.unusedVariables false
set_option maxRecDepth 100000
open Go.RowKit
def vT1 : Tbf := ⟨2, 1, 0, ⟨#[97]⟩, ⟨#[99]⟩⟩
def vT2 : Tbf := ⟨3, 1, 0, ⟨#[98]⟩, ⟨#[100]⟩⟩
def vE1 : Edt := ⟨3, 0, 0, [vT1], []⟩
def vE2 : Edt := ⟨4, 0, 0, [vT2], []⟩
def vV1 : Ver := ⟨[vT1], 3, 0, 0⟩
theorem vE1_is : applyV Ver.new vE1 = some vV1 := by kernel_rfl
theorem vE2_no : applyV vV1 vE2 = none := by kernel_rfl
theorem vE_ok (f : Tbf) (hf : f.ok) (n : Int) : (⟨n, 0, 0, [f], []⟩ : Edt).ok := ⟨fun g hg => by rw [List.mem_singleton.1 hg]; exact hf, by simp, by simp⟩
theorem vT1_ok : vT1.ok := by constructor <;> (unfold maxLen; decide)
theorem vT2_ok : vT2.ok := by constructor <;> (unfold maxLen; decide)
theorem vSame_one {V : Ver} (h : vSame vV1 V) : V = vV1 := by
  obtain ⟨fs, nx, lg, ls⟩ := V
  obtain ⟨h1, h2, h3, h4⟩ := h
  simp only [vV1] at h1 h2 h3 h4 ⊢
  rw [List.perm_singleton.1 h1.symm, ← h2, ← h3, ← h4]
/-- One table in a row that was just laid. -/
theorem tab_one (w : World) (f : Tbf) : RdK encTbf 5 (w.alloc (.cells (encTbf f).toArray 49)) (.slice (some ⟨w.heap.size, 0, none⟩) 1 1) [f] := (own_oneK (E := 49) encTbf_len w f).rd encTbf_len
theorem edt_one (w : World) (f : Tbf) (n : Int) : EdAt (w.alloc (.cells #[.int .i64 f.num, .int .i64 f.lvl, .int .i64 f.siz, .string f.lo, .string f.hi] 49)) (.agg #[.int .i64 n, .int .i64 0, .int .i64 0, .slice (some ⟨w.heap.size, 0, none⟩) 1 1, .slice none 0 0]) ⟨n, 0, 0, [f], []⟩ := ⟨_, _, rfl, tab_one w f, RdV.nil _ _ _⟩
theorem vLv1 : (vV1.fs.filter fun f => decide (f.lvl = 1)).length = 1 := by kernel_rfl
theorem vOv1 : (vV1.fs.filter fun f => decide (f.lvl = 1 ∧ vOverB ⟨#[99]⟩ ⟨#[122]⟩ f = true)).length = 1 := by kernel_rfl
theorem vOv2 : (vV1.fs.filter fun f => decide (f.lvl = 1 ∧ vOverB ⟨#[100]⟩ ⟨#[122]⟩ f = true)).length = 0 := by kernel_rfl
end Go.Proofs.Ytgdmmhdihgajkaa
