/- What every law's frame needs: the program's closed facts, and a slice of integers that came in read as a list. -/
import Derived.Test.YtpaoabdjbdlalaaSlices
import Derived.ProofKit
import Derived.OpenShut
import Derived.ShutString
import Derived.ChangeOld
import Derived.Below
namespace Go.Proofs.Ytpaoabdjbdlalaa
open Go.ChangeShapes Go.WideShapes Go.ChangeAt Go.RowKit
theorem own : ownKnob Try.prog.godebug = none := by kernel_rfl
theorem laidOut : laidOutB Try.prog = true := by kernel_rfl
theorem rd_open {k : IntKind} {w : World} {x : Addr} {len cap : Nat} {zs : List Int} (hl : len ≤ cap) (hm : cap ≤ maxLen) (hz : zs.length = cap) (hc : ∀ i, i < zs.length → w.cell? (x.add i) = some (.int k (zs.getD i 0))) :
    RdV w (.slice (some x) len cap) ((zs.take len).map (Value.int k)) := by
  rcases Nat.eq_zero_or_pos len with h0 | h0
  · subst h0; exact .inl ⟨_, cap, rfl, by simp⟩
  · obtain ⟨b, off, rfl, hcc⟩ := ints_at hc (by omega)
    have hlen : ((zs.take len).map (Value.int k)).length = len := by rw [List.length_map, List.length_take]; omega
    refine .inr ⟨b, off, cap, by rw [hlen], by omega, by omega, hm, ?_, fun i hi => ?_⟩
    · exact World.block_lt_of_cell? w _ (hcc 0 (by omega))
    · rw [hlen] at hi
      rw [hcc i (by omega)]
      rw [List.getD_eq_getElem?_getD, List.getD_eq_getElem?_getD, List.getElem?_map, List.getElem?_take, if_pos hi, List.getElem?_eq_getElem (by omega)]
      rfl
theorem wf_take {k : IntKind} {zs : List Int} {len : Nat} (h : ∀ n ∈ zs, (Lit.int k n).wf = true) : ∀ n ∈ zs.take len, (Lit.int k n).wf = true := fun n hn => h n (List.mem_of_mem_take hn)
end Go.Proofs.Ytpaoabdjbdlalaa
