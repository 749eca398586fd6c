/- Plain mathematics of strict UTF-8: what was written is read again; what is cut short or too long is none. -/
import Derived.Test.YtmglnpnkkidnnaaDoorUtfRead
import Derived.Test.YtmglnpnkkidnnaaDoorUtfWrit2
namespace Go.Proofs.YtmglnpnkkidnnaaDoor
set_option linter.unusedVariables false

theorem ofNat_nat (n : Nat) (h : n < 256) : (UInt8.ofNat n).toNat = n := byte_of n h
theorem B_nat (n : Int) (h0 : 0 ≤ n) (h1 : n < 256) : ((UInt8.ofNat n.toNat).toNat : Int) = n := by rw [byte_of _ (by omega)]; omega
theorem B_div (n : Int) (h0 : 128 ≤ n) (h1 : n < 192) : (UInt8.ofNat n.toNat).toNat / 64 = 2 := by rw [byte_of _ (by omega)]; omega

/-- the first character, of bytes that are given one by one -/
theorem first1 (b : UInt8) (r : List UInt8) (h : b.toNat < 128) : firstP (b :: r) = ((b.toNat : Int), 1) := by
  have e1 : ldn b.toNat = 1 := by unfold ldn; rw [if_pos (by omega)]
  have e2 : ldc b.toNat = b.toNat := by unfold ldc; rw [if_pos (by omega)]
  unfold firstP
  simp only [e1, e2]
  rw [if_neg (by omega)]
  simp only [Nat.sub_self, List.take_zero, tl]
  rw [if_pos]
  rw [vldB_iff]
  refine ⟨by omega, ?_⟩
  unfold szI; rw [if_pos (by omega)]
theorem firstN (n : Nat) (b : UInt8) (r : List UInt8) (c : Int) (hn : ldn b.toNat = n) (hc : tl (r.take (n - 1)) (ldc b.toNat) = some c) (hl : n ≤ r.length + 1) (h0 : n ≠ 0) :
    firstP (b :: r) = if vldB c = true ∧ szI c = n then (c, n) else (-1, 0) := by
  unfold firstP
  simp only [hn]
  rw [if_neg (by omega), hc]
theorem tl_cons (b : UInt8) (r : List UInt8) (c : Int) (h : b.toNat / 64 = 2) : tl (b :: r) c = tl r (c * 64 + (b.toNat : Int) % 64) := by
  rw [tl, if_pos h]

theorem first_two (n m c : Int) (r : List UInt8) (h1 : 192 ≤ n) (h2 : n < 224) (h3 : 128 ≤ m) (h4 : m < 192) (hc : (n - 192) * 64 + (m - 128) = c) :
    firstP (UInt8.ofNat n.toNat :: UInt8.ofNat m.toNat :: r) = if vldB c = true ∧ szI c = 2 then (c, 2) else (-1, 0) := by
  refine firstN 2 _ _ c ?_ ?_ (by simp) (by decide)
  · rw [B_nat n (by omega) (by omega)]; unfold ldn; rw [if_neg (by omega), if_neg (by omega), if_pos (by omega)]
  · rw [B_nat n (by omega) (by omega)]
    have : ldc n = n - 192 := by unfold ldc; rw [if_neg (by omega), if_neg (by omega), if_pos (by omega)]
    rw [this, show (2 : Nat) - 1 = 0 + 1 from rfl, List.take_succ_cons, List.take_zero, tl_cons _ _ _ (B_div m h3 h4), B_nat m (by omega) (by omega), tl]
    congr 1; omega
theorem first_three (n m k c : Int) (r : List UInt8) (h1 : 224 ≤ n) (h2 : n < 240) (h3 : 128 ≤ m) (h4 : m < 192) (h5 : 128 ≤ k) (h6 : k < 192) (hc : ((n - 224) * 64 + (m - 128)) * 64 + (k - 128) = c) :
    firstP (UInt8.ofNat n.toNat :: UInt8.ofNat m.toNat :: UInt8.ofNat k.toNat :: r) = if vldB c = true ∧ szI c = 3 then (c, 3) else (-1, 0) := by
  refine firstN 3 _ _ c ?_ ?_ (by simp) (by decide)
  · rw [B_nat n (by omega) (by omega)]; unfold ldn; rw [if_neg (by omega), if_neg (by omega), if_neg (by omega), if_pos (by omega)]
  · rw [B_nat n (by omega) (by omega)]
    have : ldc n = n - 224 := by unfold ldc; rw [if_neg (by omega), if_neg (by omega), if_neg (by omega), if_pos (by omega)]
    rw [this, show (3 : Nat) - 1 = 1 + 1 from rfl, List.take_succ_cons, show (1 : Nat) = 0 + 1 from rfl, List.take_succ_cons, List.take_zero, tl_cons _ _ _ (B_div m h3 h4), B_nat m (by omega) (by omega), tl_cons _ _ _ (B_div k h5 h6), B_nat k (by omega) (by omega), tl]
    congr 1; omega
theorem first_four (n m k j c : Int) (r : List UInt8) (h1 : 240 ≤ n) (h2 : n < 248) (h3 : 128 ≤ m) (h4 : m < 192) (h5 : 128 ≤ k) (h6 : k < 192) (h7 : 128 ≤ j) (h8 : j < 192) (hc : (((n - 240) * 64 + (m - 128)) * 64 + (k - 128)) * 64 + (j - 128) = c) :
    firstP (UInt8.ofNat n.toNat :: UInt8.ofNat m.toNat :: UInt8.ofNat k.toNat :: UInt8.ofNat j.toNat :: r) = if vldB c = true ∧ szI c = 4 then (c, 4) else (-1, 0) := by
  refine firstN 4 _ _ c ?_ ?_ (by simp) (by decide)
  · rw [B_nat n (by omega) (by omega)]; unfold ldn; rw [if_neg (by omega), if_neg (by omega), if_neg (by omega), if_neg (by omega), if_pos (by omega)]
  · rw [B_nat n (by omega) (by omega)]
    have : ldc n = n - 240 := by unfold ldc; rw [if_neg (by omega), if_neg (by omega), if_neg (by omega), if_neg (by omega), if_pos (by omega)]
    rw [this, show (4 : Nat) - 1 = 2 + 1 from rfl, List.take_succ_cons, show (2 : Nat) = 1 + 1 from rfl, List.take_succ_cons, show (1 : Nat) = 0 + 1 from rfl, List.take_succ_cons, List.take_zero, tl_cons _ _ _ (B_div m h3 h4), B_nat m (by omega) (by omega), tl_cons _ _ _ (B_div k h5 h6), B_nat k (by omega) (by omega), tl_cons _ _ _ (B_div j h7 h8), B_nat j (by omega) (by omega), tl]
    congr 1; omega

theorem first_enc (c : Int) (hv : vldB c = true) (r : List UInt8) : firstP (encP c ++ r) = (c, szI c) := by
  have h := (vldB_iff c).1 hv
  by_cases k1 : c < 128
  · have e : szI c = 1 := by unfold szI; rw [if_pos k1]
    unfold encP; rw [if_pos k1]
    show firstP (UInt8.ofNat c.toNat :: r) = _
    rw [first1 _ _ (by rw [byte_of _ (by omega)]; omega), B_nat c (by omega) (by omega), e]
  · by_cases k2 : c < 2048
    · have e : szI c = 2 := by unfold szI; rw [if_neg k1, if_pos k2]
      unfold encP; rw [if_neg k1, if_pos k2]
      show firstP (UInt8.ofNat (192 + c / 64).toNat :: UInt8.ofNat (128 + c % 64).toNat :: r) = _
      rw [first_two _ _ c r (by omega) (by omega) (by omega) (by omega) (by omega), if_pos ⟨hv, e⟩, e]
    · by_cases k3 : c < 65536
      · have e : szI c = 3 := by unfold szI; rw [if_neg k1, if_neg k2, if_pos k3]
        unfold encP; rw [if_neg k1, if_neg k2, if_pos k3]
        show firstP (UInt8.ofNat (224 + c / 4096).toNat :: UInt8.ofNat (128 + c / 64 % 64).toNat :: UInt8.ofNat (128 + c % 64).toNat :: r) = _
        rw [first_three _ _ _ c r (by omega) (by omega) (by omega) (by omega) (by omega) (by omega) (by omega), if_pos ⟨hv, e⟩, e]
      · have e : szI c = 4 := by unfold szI; rw [if_neg k1, if_neg k2, if_neg k3]
        unfold encP; rw [if_neg k1, if_neg k2, if_neg k3]
        show firstP (UInt8.ofNat (240 + c / 262144).toNat :: UInt8.ofNat (128 + c / 4096 % 64).toNat :: UInt8.ofNat (128 + c / 64 % 64).toNat :: UInt8.ofNat (128 + c % 64).toNat :: r) = _
        rw [first_four _ _ _ _ c r (by omega) (by omega) (by omega) (by omega) (by omega) (by omega) (by omega) (by omega) (by omega), if_pos ⟨hv, e⟩, e]
theorem szI_pos (c : Int) : 1 ≤ szI c := by unfold szI; (repeat' split) <;> omega
theorem read_enc (c : Int) (hv : vldB c = true) (r : List UInt8) : readP (encP c ++ r) = (readP r).map (c :: ·) := by
  have hl := encP_length c
  have hp := szI_pos c
  rw [readP_step (by rw [List.length_append]; omega), first_enc c hv r]
  simp only
  rw [if_neg (by omega), ← hl, List.drop_left]
/-- What was written is read again, whatever stands behind it. -/
theorem read_write (xs : List Int) : ∀ (bs r : List UInt8), writeP xs = some bs → readP (bs ++ r) = (readP r).map (xs ++ ·) := by
  induction xs with
  | nil => intro bs r h; simp [writeP] at h; subst h; simp
  | cons c xs ih =>
    intro bs r h
    unfold writeP at h
    split at h
    · obtain ⟨ys, hy, rfl⟩ := Option.map_eq_some_iff.1 h
      rw [List.append_assoc, read_enc c ‹_›, ih ys r hy, Option.map_map]
      congr 1
    · cases h
theorem read_write' (xs : List Int) (bs : List UInt8) (h : writeP xs = some bs) : readP bs = some xs := by
  have := read_write xs bs [] h
  rw [List.append_nil, readP_nil] at this
  simpa using this
/-- What is read was written. -/
theorem first_inv (l : List UInt8) (h : (firstP l).2 ≠ 0) : vldB (firstP l).1 = true ∧ encP (firstP l).1 = l.take (firstP l).2 := by
  rw [← first_eq] at h ⊢
  cases l with
  | nil => exact absurd rfl h
  | cons b r =>
    unfold firstR at h ⊢
    simp only at h ⊢
    split at h
    · exact absurd rfl h
    · rw [if_neg ‹_›]
      cases ht : tl (r.take (rdn b.toNat - 1)) (rdc b.toNat) with
      | none => rw [ht] at h; exact absurd rfl h
      | some c =>
        rw [ht] at h
        simp only at h ⊢
        split at h
        · rename_i hh; simp only [if_pos hh]; exact ⟨hh.1, hh.2⟩
        · exact absurd rfl h
theorem readF_inv (f : Nat) : ∀ (l : List UInt8) (xs : List Int), l.length ≤ f → readF f l = some xs → writeP xs = some l := by
  induction f with
  | zero =>
    intro l xs hl h
    have : l = [] := List.eq_nil_of_length_eq_zero (by omega)
    subst this
    simp [readF] at h; subst h; rfl
  | succ f ih =>
    intro l xs hl h
    unfold readF at h
    split at h
    · rename_i h0
      have : l = [] := List.eq_nil_of_length_eq_zero h0
      subst this; simp at h; subst h; rfl
    · split at h
      · cases h
      · rename_i h0 h1
        obtain ⟨ys, hy, rfl⟩ := Option.map_eq_some_iff.1 h
        obtain ⟨hv, he⟩ := first_inv l h1
        have := ih _ ys (by rw [List.length_drop]; omega) hy
        unfold writeP
        rw [if_pos hv, this, he]
        simp
theorem write_read (l : List UInt8) (xs : List Int) (h : readP l = some xs) : writeP xs = some l := readF_inv _ l xs (Nat.le_refl _) h
theorem read_app (l r : List UInt8) (xs : List Int) (h : readP l = some xs) : readP (l ++ r) = (readP r).map (xs ++ ·) := read_write xs l r (write_read l xs h)

theorem ldn_enc (c : Int) (hv : vldB c = true) : ∃ b r, encP c = b :: r ∧ ldn b.toNat = szI c := by
  have h := (vldB_iff c).1 hv
  by_cases k1 : c < 128
  · refine ⟨UInt8.ofNat c.toNat, [], by unfold encP; rw [if_pos k1], ?_⟩
    rw [B_nat c (by omega) (by omega)]; unfold ldn szI; rw [if_pos k1, if_pos k1]
  · by_cases k2 : c < 2048
    · refine ⟨UInt8.ofNat (192 + c / 64).toNat, _, by unfold encP; rw [if_neg k1, if_pos k2], ?_⟩
      rw [B_nat _ (by omega) (by omega)]; unfold ldn szI; rw [if_neg (by omega), if_neg (by omega), if_pos (by omega), if_neg k1, if_pos k2]
    · by_cases k3 : c < 65536
      · refine ⟨UInt8.ofNat (224 + c / 4096).toNat, _, by unfold encP; rw [if_neg k1, if_neg k2, if_pos k3], ?_⟩
        rw [B_nat _ (by omega) (by omega)]; unfold ldn szI; rw [if_neg (by omega), if_neg (by omega), if_neg (by omega), if_pos (by omega), if_neg k1, if_neg k2, if_pos k3]
      · refine ⟨UInt8.ofNat (240 + c / 262144).toNat, _, by unfold encP; rw [if_neg k1, if_neg k2, if_neg k3], ?_⟩
        rw [B_nat _ (by omega) (by omega)]; unfold ldn szI; rw [if_neg (by omega), if_neg (by omega), if_neg (by omega), if_neg (by omega), if_pos (by omega), if_neg k1, if_neg k2, if_neg k3]
/-- A character that is cut short is none. -/
theorem read_cut (c : Int) (hv : vldB c = true) (k : Nat) (h0 : 0 < k) (h1 : k < (encP c).length) : readP ((encP c).take k) = none := by
  obtain ⟨b, r, e, hn⟩ := ldn_enc c hv
  rw [encP_length] at h1
  rw [e]
  obtain ⟨k, rfl⟩ : ∃ j, k = j + 1 := ⟨k - 1, by omega⟩
  rw [List.take_succ_cons, readP_step (by simp)]
  have : firstP (b :: r.take k) = (-1, 0) := by
    unfold firstP
    simp only
    rw [if_pos (Or.inr (by rw [hn, List.length_take]; omega))]
  rw [this]; rfl
theorem read_bad (l r : List UInt8) (hl : 0 < l.length) (h : (firstP l).2 = 0) (b : UInt8) (hb : b.toNat < 128) : readP (b :: l) = none := by
  rw [readP_step (by simp), first1 b l hb]
  simp only
  rw [if_neg (by decide)]
  show (readP l).map _ = none
  rw [readP_step hl, if_pos h]; rfl
end Go.Proofs.YtmglnpnkkidnnaaDoor
