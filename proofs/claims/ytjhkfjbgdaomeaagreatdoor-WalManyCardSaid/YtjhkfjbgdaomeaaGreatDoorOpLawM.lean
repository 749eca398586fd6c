/- The walk of the law GroupMany. -/
import Derived.Test.YtjhkfjbgdaomeaaGreatDoorMOp
import Derived.Test.YtjhkfjbgdaomeaaGreatDoorMKey
import Derived.Test.YtjhkfjbgdaomeaaGreatDoorMNormB
import Derived.Test.YtjhkfjbgdaomeaaGreatDoorMBase
import Derived.Deep.RegionHeld3
namespace Go.Proofs.YtjhkfjbgdaomeaaGreatDoor
set_option linter.unusedVariables false
open Go.RowKit
/-- n zeros, as a text. -/
def zrs (n : Nat) : ByteArray := ⟨(List.replicate n (0 : UInt8)).toArray⟩
theorem zrs_size (n : Nat) : (zrs n).size = n := by show (List.replicate n (0 : UInt8)).toArray.size = n; simp
theorem zrs_list (n : Nat) : (zrs n).data.toList = List.replicate n 0 := rfl
theorem zrs_key {n : Nat} (h1 : 1 ≤ n) (h2 : n ≤ 4096) : keyP (zrs n).data.toList ≠ none := by
  rw [keyP_text (by rw [zrs_size]; omega) (by rw [zrs_size]; omega), zrs_list, text_plain]
  · simp
  · intro b hb
    rw [List.eq_of_mem_replicate hb]; decide
/-- 'string(make([]byte, n))'. -/
theorem zrs_conv (w W : World) (K : Nat) (hK : K ≤ 1000000000000) (hW : Below (w.heap.size + 1) (w.alloc (.cells (madeCells #[.int .u8 0] K) 5)) W) :
    (convert 38 9 (.slice (some ⟨w.heap.size, 0, none⟩) K K)).run Tryz.prog W = .ok (.string (zrs K)) W :=
  (((mkB_own w K hK).rd).below (by rw [World.size_alloc]; exact hW)).text
theorem zrs_at {w wa : World} {K : Nat} (h : w.alloc (.cells (madeCells #[.int .u8 0] K) 5) = wa) (W : World) (hK : K ≤ 1000000000000) (hW : Below wa.heap.size wa W) :
    (convert 38 9 (.slice (some ⟨w.heap.size, 0, none⟩) K K)).run Tryz.prog W = .ok (.string (zrs K)) W := by
  subst h
  rw [World.size_alloc] at hW
  exact zrs_conv w W K hK hW
def kO : Opn := ⟨1, ⟨#[107]⟩, ⟨#[]⟩⟩
theorem kO_ok : opErr kO = 0 := by decide +kernel
theorem many_chk (n : Nat) : checkP (List.replicate n kO) = if n < 1 ∨ 50 < n then 12 else 0 := by
  unfold checkP
  rw [List.length_replicate, firstErr_of fun o ho => by rw [List.eq_of_mem_replicate ho]; exact kO_ok]
def bigO (k v : Nat) : Opn := ⟨1, zrs k, zrs (1048571 + v)⟩
theorem big_chk (k v : Nat) : checkP [bigO k v] = if k < 1 ∨ 4096 < k then 1 else if 5 < v then 2 else 0 := by
  have h0 : checkP [bigO k v] = opErr (bigO k v) := by
    unfold checkP
    rw [if_neg (by simp), firstErr]
    split
    · rename_i h; rw [h]; rfl
    · rfl
  rw [h0]
  unfold opErr
  rw [if_neg (by rintro ⟨h, -⟩; exact h rfl)]
  by_cases hk : k < 1 ∨ 4096 < k
  · rw [if_pos hk, if_pos]
    rcases hk with h | h
    · exact keyP_nil (by show ¬ 0 < (zrs k).size; rw [zrs_size]; omega)
    · exact keyP_long (by show 4096 < (zrs k).size; rw [zrs_size]; exact h)
  · show (if keyP (zrs k).data.toList = none then (1 : Int) else if 1048576 < (zrs (1048571 + v)).size then 2 else 0) = _
    rw [if_neg hk, if_neg (zrs_key (by omega) (by omega)), zrs_size]
    by_cases hv : 5 < v
    · rw [if_pos hv, if_pos (by omega)]
    · rw [if_neg hv, if_neg (by omega)]
end Go.Proofs.YtjhkfjbgdaomeaaGreatDoor
