/- The bytes that are read as a number are those that it is written with. -/
import Derived.Test.YtpaoabdjbdlalaaNumMath
namespace Go.Proofs.Ytpaoabdjbdlalaa
set_option linter.unusedVariables false
theorem endN_take : ∀ l : List UInt8, endN l ≠ 0 → endN (l.take (endN l)) = endN l
  | [], h => by simp [endN] at h
  | b :: r, h => by
    by_cases hb : b.toNat < 128
    · have e : endN (b :: r) = 1 := by unfold endN; rw [if_pos hb]
      rw [e, List.take_succ_cons, List.take_zero]
      unfold endN; rw [if_pos hb]
    · have h2 : endN r ≠ 0 := fun e => h (by rw [endN, if_neg hb, if_pos e])
      have e : endN (b :: r) = endN r + 1 := by rw [endN, if_neg hb, if_neg h2]
      rw [e, List.take_succ_cons, endN, if_neg hb, endN_take r h2, if_neg h2]
theorem putF_get : ∀ (L : List UInt8) (f : Nat), L ≠ [] → endN L = L.length → L.length ≤ f + 1 → (1 < L.length → L.getLast? ≠ some 0) → putF f (valN L) = L ∧ (L.getLast? ≠ some 0 → 0 < valN L)
  | [], f, h, _, _, _ => absurd rfl h
  | [b], f, _, he, _, _ => by
    have hb : b.toNat < 128 := by
      by_cases h : b.toNat < 128
      · exact h
      · unfold endN at he; rw [if_neg h] at he; simp [endN] at he
    have hv : valN [b] = b.toNat := by simp [valN]; omega
    refine ⟨?_, fun h => ?_⟩
    · rw [hv]
      cases f with
      | zero => simp [putF]
      | succ f => unfold putF; rw [if_pos hb]; simp
    · rw [hv]
      rcases Nat.eq_zero_or_pos b.toNat with e | e
      · exact absurd (by rw [List.getLast?_singleton]; congr 1; exact UInt8.toNat_inj.1 (by simpa using e)) h
      · exact e
  | b :: c :: r, f, _, he, hl, hlast => by
    have hb : ¬ b.toNat < 128 := fun h => by
      unfold endN at he; rw [if_pos h] at he; simp at he
    have he2 : endN (c :: r) = (c :: r).length := by
      have h := he
      rw [endN, if_neg hb] at h
      split at h
      · simp at h
      · simp only [List.length_cons] at h ⊢; omega
    have hlast2 : (c :: r).getLast? ≠ some 0 := by
      have := hlast (by simp)
      rwa [List.getLast?_cons_cons] at this
    obtain ⟨g, rfl⟩ : ∃ g, f = g + 1 := ⟨f - 1, by simp only [List.length_cons] at hl; omega⟩
    obtain ⟨ih1, ih2⟩ := putF_get (c :: r) g (by simp) he2 (by simpa using hl) (fun _ => hlast2)
    have hp := ih2 hlast2
    have hv : valN (b :: c :: r) = b.toNat % 128 + 128 * valN (c :: r) := rfl
    have hbb := b.toNat_lt
    refine ⟨?_, fun _ => by rw [hv]; omega⟩
    unfold putF
    rw [if_neg (by rw [hv]; omega), hv, show (b.toNat % 128 + 128 * valN (c :: r)) / 128 = valN (c :: r) by omega, ih1, show (b.toNat % 128 + 128 * valN (c :: r)) % 128 + 128 = b.toNat by omega]
    simp
/-- The bytes that are read as a number are those that it is written with. -/
theorem put_get {l : List UInt8} {n k : Nat} (h : getN l = some (n, k)) : l.take k = putN n := by
  unfold getN at h
  split at h
  · cases h
  · rename_i h1
    split at h
    · cases h
    · rename_i h2
      split at h
      · rename_i h3
        have h4 := Option.some.inj h
        obtain ⟨rfl, rfl⟩ := Prod.mk.inj h4
        have hle := endN_le l
        have hlen : (l.take (endN l)).length = endN l := by rw [List.length_take]; omega
        refine ((putF_get (l.take (endN l)) 9 (fun e => ?_) ?_ (by omega) fun h5 => ?_).1).symm
        · rw [e] at hlen; simp at hlen; omega
        · rw [endN_take l (by omega), hlen]
        · rw [hlen] at h5
          rw [List.getLast?_eq_getElem?, hlen, List.getElem?_take, if_pos (by omega)]
          exact fun e => h2 ⟨h5, e⟩
      · cases h
end Go.Proofs.Ytpaoabdjbdlalaa
