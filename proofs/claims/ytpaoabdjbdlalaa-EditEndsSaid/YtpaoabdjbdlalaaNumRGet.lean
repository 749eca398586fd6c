/- The walk of the reference's Get. -/
import Derived.Test.YtpaoabdjbdlalaaNumGet
namespace Go.Proofs.Ytpaoabdjbdlalaa
set_option linter.unusedVariables false
open Go.RowKit
theorem rget_step {p : List UInt8} {t m : Nat} {c : UInt8} (hc : p[t]? = some c) (H : Hid (m = valN (p.drop (t + 1)))) : Hid (m * 128 + c.toNat % 128 = valN (p.drop t)) := Lib.hid (by
  rw [valN_drop p t c hc, H.out, Nat.mul_comm, Nat.add_comm])
theorem rget_last {l : List UInt8} {j : Nat} {c : UInt8} {r : Option (Nat × Nat)} (HR : Hid (getN l = r)) (hc : l[j]? = some c) (h10 : j < 10) (h128 : c.toNat < 128)
    (HT : Hid (∀ (t : Nat) (c : UInt8), t < j → l[t]? = some c → 128 ≤ c.toNat)) :
    Hid (r = if 0 < j ∧ c.toNat = 0 then none else if valN (l.take (j + 1)) < 2 ^ 64 then some (valN (l.take (j + 1)), j + 1) else none) := Lib.hid (by
  have hz : c = 0 ↔ c.toNat = 0 := ⟨fun e => by rw [e]; rfl, fun e => UInt8.toNat_inj.1 (by rw [e]; rfl)⟩
  rw [← HR.out, getN_at HT.out h10 hc h128]
  simp only [hz])
end Go.Proofs.Ytpaoabdjbdlalaa
