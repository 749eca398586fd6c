/- Texts in pieces, in lists: what is held back, what may go; plain Lean but for the classes. -/
import Derived.Test.YtnooloojnhodiaaGreatDoorMNormA
import Derived.Test.YtnooloojnhodiaaGreatDoorMBase
import Derived.Test.YtnooloojnhodiaaGreatDoorMNormB
import Derived.Test.YtnooloojnhodiaaGreatDoorMUtf
import Derived.Test.YtnooloojnhodiaaGreatDoorRows
import Derived.WalkKit
import Derived.Laws.Tables
import Derived.Laws.Rows
import Derived.Deep.RegionHeld3
import Derived.BigRegion
import Derived.LoopTactic
import Derived.Shelf.Strconv.Clone
import Derived.Lib.AppendStr
import Derived.Lib.ConvBytes
namespace Go.Proofs.YtnooloojnhodiaaGreatDoor
set_option linter.unusedVariables false
open Go.RowKit
/-! ### marks behind one another -/
def stB (c : Int) : Bool := decide (classP c = 0)
/-- No more than thirty, k of which have been. -/
def rkB : Nat → List Bool → Bool
  | _, [] => true
  | k, b :: L => if b = true then rkB 0 L else if k < 30 then rkB (k + 1) L else false
def rk (k : Nat) (L : List Int) : Bool := rkB k (L.map stB)
theorem cls_nn (c : Int) : 0 ≤ classP c := by unfold classP; exact Int.natCast_nonneg _
theorem stB_no {c : Int} : stB c = false ↔ 0 < classP c := by unfold stB; have := cls_nn c; simp; omega
theorem stB_yes {c : Int} : stB c = true ↔ classP c = 0 := by unfold stB; simp
theorem ins_map (X : List Int) (x : Int) : (ins classP X x).map stB = (X ++ [x]).map stB := by
  induction X using snoc_ind with
  | h0 => rfl
  | h1 X y ih =>
    rw [ins_snoc]
    split
    · rename_i h
      have h1 : stB x = false := stB_no.2 h.1
      have h2 : stB y = false := stB_no.2 (by omega)
      rw [List.map_append, ih]
      simp [h1, h2]
    · simp
theorem order_map (L : List Int) : (orderP classP L).map stB = L.map stB := by
  induction L using snoc_ind with
  | h0 => rfl
  | h1 L x ih => rw [orderP_snoc, ins_map, List.map_append, List.map_append, ih]
theorem order_rk (k : Nat) (L : List Int) : rk k (orderP classP L) = rk k L := by unfold rk; rw [order_map]
theorem rkB_app (L M : List Bool) : ∀ k, rkB k (L ++ M) = true → rkB k L = true := by
  induction L with
  | nil => intro k _; rfl
  | cons b L ih =>
    intro k h
    rw [List.cons_append, rkB] at h
    rw [rkB]
    split
    · rw [if_pos ‹_›] at h; exact ih _ h
    · rw [if_neg ‹_›] at h
      split
      · rw [if_pos ‹_›] at h; exact ih _ h
      · rw [if_neg ‹_›] at h; cases h
theorem rk_app {k : Nat} {L M : List Int} (h : rk k (L ++ M) = true) : rk k L = true := by
  unfold rk at h ⊢; rw [List.map_append] at h; exact rkB_app _ _ k h
/-! ### what is held back -/
def mkN (H : List Int) : Nat := (H.filter fun c => !stB c).length
/-- What goes, in order, and what is held, when parts come one behind the other; none: too many marks. -/
def runH : List Int → List Int → List Int → Option (List Int × List Int)
  | S, H, [] => some (S, H)
  | S, H, x :: X => if classP x = 0 then runH (S ++ orderP classP H) [x] X else if mkN H < 30 then runH S (H ++ [x]) X else none
theorem mkN_one (x : Int) (h : classP x = 0) : mkN [x] = 0 := by unfold mkN; simp [stB_yes.2 h]
theorem mkN_snoc (H : List Int) (x : Int) (h : classP x ≠ 0) : mkN (H ++ [x]) = mkN H + 1 := by
  have : stB x = false := by unfold stB; simpa using h
  unfold mkN; simp [List.filter_append, this]
theorem runH_app (X Y : List Int) : ∀ S H, runH S H (X ++ Y) = (runH S H X).bind fun q => runH q.1 q.2 Y := by
  induction X with
  | nil => intro S H; rfl
  | cons x X ih =>
    intro S H
    rw [List.cons_append, runH, runH]
    split
    · exact ih _ _
    · split
      · exact ih _ _
      · rfl
theorem runH_pre (X : List Int) : ∀ S S' H, runH (S ++ S') H X = (runH S' H X).map fun q => (S ++ q.1, q.2) := by
  induction X with
  | nil => intro S S' H; rfl
  | cons x X ih =>
    intro S S' H
    rw [runH, runH]
    split
    · rw [List.append_assoc]; exact ih _ _ _
    · split
      · exact ih _ _ _
      · rfl
theorem runH_rk (X : List Int) : ∀ S H, (runH S H X).isSome = rk (mkN H) X := by
  induction X with
  | nil => intro S H; rfl
  | cons x X ih =>
    intro S H
    unfold rk
    rw [runH, List.map_cons, rkB]
    by_cases h : classP x = 0
    · rw [if_pos h, if_pos (stB_yes.2 h), ih, mkN_one x h]; rfl
    · have hs : ¬ stB x = true := by rw [stB_yes]; exact h
      by_cases m : mkN H < 30
      · rw [if_neg h, if_pos m, if_neg hs, if_pos m, ih, mkN_snoc H x h]; rfl
      · rw [if_neg h, if_neg m, if_neg hs, if_neg m]; rfl
theorem runH_len (X : List Int) : ∀ S H S' H', runH S H X = some (S', H') → S'.length + H'.length = S.length + H.length + X.length := by
  induction X with
  | nil => intro S H S' H' h; simp only [runH, Option.some.injEq, Prod.mk.injEq] at h; obtain ⟨rfl, rfl⟩ := h; simp
  | cons x X ih =>
    intro S H S' H' h
    rw [runH] at h
    split at h
    · have := ih _ _ _ _ h; rw [this]; simp [orderP_len]; omega
    · split at h
      · have := ih _ _ _ _ h; rw [this]; simp; omega
      · cases h
/-- What may be held: a starter, or none, then marks. -/
def Shp (H : List Int) : Prop := (∀ x ∈ H.tail, classP x ≠ 0) ∧ mkN H ≤ 30
theorem shp_nil : Shp [] := ⟨fun x h => by simp at h, by decide⟩
theorem shp_one (x : Int) (h : classP x = 0) : Shp [x] := ⟨fun x h => by simp at h, by rw [mkN_one x h]; omega⟩
theorem shp_snoc {H : List Int} {x : Int} (hs : Shp H) (h : classP x ≠ 0) (hm : mkN H < 30) : Shp (H ++ [x]) := by
  refine ⟨fun y hy => ?_, by rw [mkN_snoc H x h]; omega⟩
  cases H with
  | nil => simp at hy
  | cons a H =>
    simp only [List.cons_append, List.tail_cons, List.mem_append, List.mem_singleton] at hy
    rcases hy with hy | rfl
    · exact hs.1 y (by simpa using hy)
    · exact h
theorem filter_all (L : List Int) (h : ∀ x ∈ L, classP x ≠ 0) : mkN L = L.length := by
  unfold mkN
  rw [List.filter_eq_self.2]
  intro a ha
  have := h a ha
  unfold stB; simpa using this
theorem shp_len {H : List Int} (h : Shp H) : H.length ≤ mkN H + 1 := by
  cases H with
  | nil => simp
  | cons a H =>
    have e := filter_all H (by simpa using h.1)
    have : mkN H ≤ mkN (a :: H) := by unfold mkN; rw [List.filter_cons]; split <;> simp
    simp; omega
theorem runH_shp (X : List Int) : ∀ S H, Shp H → ∀ q, runH S H X = some q → Shp q.2 := by
  induction X with
  | nil => intro S H hs q h; simp [runH] at h; subst h; exact hs
  | cons x X ih =>
    intro S H hs q h
    rw [runH] at h
    split at h
    · exact ih _ _ (shp_one x ‹_›) q h
    · split at h
      · exact ih _ _ (shp_snoc hs ‹_› ‹_›) q h
      · cases h
/-- All that came: what went, and what is held. -/
theorem runH_inv (X : List Int) : ∀ S H, runH [] [] X = some (S, H) → ∃ A, X = A ++ H ∧ S = orderP classP A ∧ (A = [] ∨ ∃ x M, H = x :: M ∧ classP x = 0) := by
  induction X using snoc_ind with
  | h0 => intro S H h; simp [runH] at h; obtain ⟨rfl, rfl⟩ := h; exact ⟨[], rfl, rfl, .inl rfl⟩
  | h1 X x ih =>
    intro S H h
    rw [runH_app] at h
    obtain ⟨⟨S1, H1⟩, h1, h2⟩ := Option.bind_eq_some_iff.1 h
    obtain ⟨A, e1, e2, e3⟩ := ih S1 H1 h1
    have hs := runH_shp X [] [] shp_nil _ h1
    simp only [runH] at h2
    split at h2
    · rename_i hx
      simp only [Option.some.injEq, Prod.mk.injEq] at h2
      obtain ⟨rfl, rfl⟩ := h2
      refine ⟨X, rfl, ?_, .inr ⟨x, [], rfl, hx⟩⟩
      rcases e3 with rfl | ⟨y, M, rfl, hy⟩
      · subst e2; rw [e1]; rfl
      · rw [e1, e2]
        have hM : ∀ z ∈ M, 0 < classP z := fun z hz => by have := hs.1 z (by simpa using hz); have := cls_nn z; omega
        have g1 : orderP classP (A ++ y :: M) = orderP classP A ++ [y] ++ orderP classP M := by
          have : A ++ y :: M = (A ++ [y]) ++ M := by simp
          rw [this]
          unfold orderP
          rw [ordF_app]
          have e : ordF classP [] (A ++ [y]) = ordF classP [] A ++ [y] := by rw [ordF_snoc, ins_starter (by omega)]
          rw [e, ordF_run (fun Y z hz => by
            have := List.append_inj_right' hz rfl
            simp at this; subst this; omega) M hM]
          rfl
        have g2 : orderP classP (y :: M) = [y] ++ orderP classP M := by
          have : y :: M = [y] ++ M := rfl
          rw [this]
          conv => lhs; unfold orderP
          rw [ordF_app]
          have e : ordF classP [] [y] = [y] := rfl
          rw [e, ordF_run (fun Y z hz => by
            have : [] ++ [y] = Y ++ [z] := by simpa using hz
            have := List.append_inj_right' this rfl
            simp at this; subst this; omega) M hM]
        rw [g1, g2, List.append_assoc]
    · rename_i hx
      split at h2
      · simp only [Option.some.injEq, Prod.mk.injEq] at h2
        obtain ⟨rfl, rfl⟩ := h2
        refine ⟨A, by rw [e1, List.append_assoc], e2, ?_⟩
        rcases e3 with rfl | ⟨y, M, rfl, hy⟩
        · exact .inl rfl
        · exact .inr ⟨y, M ++ [x], rfl, hy⟩
      · cases h2
theorem order_starter (A : List Int) (y : Int) (M : List Int) (hy : classP y = 0) (hM : ∀ z ∈ M, classP z ≠ 0) : orderP classP (A ++ y :: M) = orderP classP A ++ y :: orderP classP M := by
  have hM : ∀ z ∈ M, 0 < classP z := fun z hz => by have := hM z hz; have := cls_nn z; omega
  have : A ++ y :: M = (A ++ [y]) ++ M := by simp
  rw [this]
  unfold orderP
  rw [ordF_app]
  have e : ordF classP [] (A ++ [y]) = ordF classP [] A ++ [y] := by rw [ordF_snoc, ins_starter (by omega)]
  rw [e, ordF_run (fun Y z hz => by
    have := List.append_inj_right' hz rfl
    simp at this; subst this; omega) M hM]
  simp [orderP]
/-! ### parts of characters -/
def partsP (l : List Int) : List Int := l.flatMap fun c => charsP [c]
theorem partsP_app (l m : List Int) : partsP (l ++ m) = partsP l ++ partsP m := by unfold partsP; simp
theorem chars_one (c : Int) : charsP [c] = orderP classP (apartP c) := by unfold charsP; simp
theorem order_parts (l : List Int) : orderP classP (partsP l) = charsP l := by
  induction l with
  | nil => rfl
  | cons c l ih =>
    have e : partsP (c :: l) = charsP [c] ++ partsP l := by unfold partsP; simp
    have e2 : charsP (c :: l) = orderP classP (apartP c ++ l.flatMap apartP) := by unfold charsP; simp
    rw [e, e2, chars_one, ← orderP_app, orderP_idem, ih]
    unfold charsP
    rw [orderP_app]
theorem parts_mem (l : List Int) (x : Int) (h : x ∈ partsP l) : ∃ c ∈ l, x ∈ apartP c := by
  unfold partsP at h
  obtain ⟨c, hc, hx⟩ := List.mem_flatMap.1 h
  rw [chars_one, orderP_mem] at hx
  exact ⟨c, hc, hx⟩
theorem parts_end (l : List Int) (x : Int) (h : x ∈ partsP l) : apartP x = [x] := by
  obtain ⟨c, _, hx⟩ := parts_mem l x h; exact apart_end c x hx
theorem parts_valid (l : List Int) (h : ∀ c ∈ l, vldB c = true) : ∀ x ∈ partsP l, vldB x = true := fun x hx => by
  obtain ⟨c, hc, hx⟩ := parts_mem l x hx; exact apart_valid c x (h c hc) hx
theorem parts_len (l : List Int) : (partsP l).length ≤ 10 * l.length := by
  induction l with
  | nil => simp [partsP]
  | cons c l ih =>
    have e : partsP (c :: l) = charsP [c] ++ partsP l := by unfold partsP; simp
    rw [e, List.length_append, List.length_cons]
    have := (apart_len c).1
    rw [chars_one, orderP_len]; omega
/-! ### characters of bytes that may be cut -/
theorem wr_app (A B : List Int) : ∀ a b, writeP A = some a → writeP B = some b → writeP (A ++ B) = some (a ++ b) := by
  induction A with
  | nil => intro a b h k; simp [writeP] at h; subst h; simpa using k
  | cons c A ih =>
    intro a b h k
    unfold writeP at h
    split at h
    · obtain ⟨ys, hy, rfl⟩ := Option.map_eq_some_iff.1 h
      rw [List.cons_append, writeP, if_pos ‹_›, ih ys b hy k]
      simp
    · cases h
theorem wr_le (L : List Int) : ∀ bs, writeP L = some bs → bs.length ≤ 4 * L.length := by
  induction L with
  | nil => intro bs h; simp [writeP] at h; simp [h]
  | cons c L ih =>
    intro bs h
    unfold writeP at h
    split at h
    · obtain ⟨b', e, rfl⟩ := Option.map_eq_some_iff.1 h
      have := ih b' e
      have h4 : (encP c).length ≤ 4 := by rw [encP_length]; unfold szI; (repeat' split) <;> omega
      rw [List.length_append, List.length_cons]; omega
    · cases h
/-- p is the characters l, and rest behind them, which begins with no whole one. -/
def Dec (p : List UInt8) (l : List Int) (rest : List UInt8) : Prop := ∃ a, writeP l = some a ∧ p = a ++ rest
theorem first_stable (l r : List UInt8) (h : (firstP l).2 ≠ 0) : firstP (l ++ r) = firstP l := by
  obtain ⟨hv, he⟩ := first_inv l h
  have hl : l = encP (firstP l).1 ++ l.drop (firstP l).2 := by rw [he]; simp
  have h1 := first_enc _ hv (l.drop (firstP l).2)
  rw [← hl] at h1
  have h2 := first_enc _ hv (l.drop (firstP l).2 ++ r)
  rw [← List.append_assoc, ← hl] at h2
  rw [h2, h1]
theorem first_none_app (l r : List UInt8) (h : (firstP (l ++ r)).2 = 0) : (firstP l).2 = 0 := by
  rcases Nat.eq_zero_or_pos (firstP l).2 with h0 | h0
  · exact h0
  · rw [first_stable l r (by omega)] at h; omega
theorem dec_read {p : List UInt8} {l : List Int} {rest : List UInt8} (h : Dec p l rest) : readP p = (readP rest).map (l ++ ·) := by
  obtain ⟨a, h1, rfl⟩ := h; exact read_write l a rest h1
theorem dec_app {p : List UInt8} {l : List Int} {rest b : List UInt8} (h : Dec p l rest) {m : List Int} {r : List UInt8} (k : Dec (rest ++ b) m r) : Dec (p ++ b) (l ++ m) r := by
  obtain ⟨a, h1, rfl⟩ := h
  obtain ⟨a', k1, k2⟩ := k
  exact ⟨a ++ a', wr_app _ _ _ _ h1 k1, by rw [List.append_assoc, k2, List.append_assoc]⟩
theorem none_read {l : List UInt8} (h : (firstP l).2 = 0) (h0 : l ≠ []) : readP l = none := by
  rw [readP_step (List.length_pos_iff.2 h0), if_pos h]
/-- Whatever was read of a text's front is a front of what is read of it. -/
theorem dec_front (l : List Int) : ∀ (p : List UInt8) (L : List Int) (r R : List UInt8), Dec p l r → Dec p L R → (firstP R).2 = 0 → ∃ m, L = l ++ m := by
  induction l with
  | nil => intro p L r R _ _ _; exact ⟨L, rfl⟩
  | cons c l ih =>
    rintro p L r R ⟨a, h1, rfl⟩ ⟨A, H1, H2⟩ hR
    unfold writeP at h1
    split at h1
    case isFalse => cases h1
    rename_i hv
    obtain ⟨ys, hy, rfl⟩ := Option.map_eq_some_iff.1 h1
    have f1 := first_enc c hv (ys ++ r)
    rw [← List.append_assoc, H2] at f1
    cases L with
    | nil =>
      simp [writeP] at H1; subst H1
      rw [List.nil_append] at f1
      rw [f1] at hR
      have := szI_pos c
      simp at hR; omega
    | cons C L =>
      unfold writeP at H1
      split at H1
      case isFalse => cases H1
      rename_i hV
      obtain ⟨Ys, hY, rfl⟩ := Option.map_eq_some_iff.1 H1
      have f2 := first_enc C hV (Ys ++ R)
      rw [← List.append_assoc, f1] at f2
      simp only [Prod.mk.injEq] at f2
      obtain ⟨rfl, -⟩ := f2
      rw [List.append_assoc, List.append_assoc, List.append_cancel_left_eq] at H2
      obtain ⟨m, rfl⟩ := ih (ys ++ r) L r R ⟨ys, hy, rfl⟩ ⟨Ys, hY, H2⟩ hR
      exact ⟨m, rfl⟩
theorem dec_unique {p : List UInt8} {l L : List Int} {r R : List UInt8} (h : Dec p l r) (H : Dec p L R) (hr : (firstP r).2 = 0) (hR : (firstP R).2 = 0) : l = L ∧ r = R := by
  obtain ⟨m, hm⟩ := dec_front l p L r R h H hR
  obtain ⟨m', hm'⟩ := dec_front L p l R r H h hr
  have e : l = L := by
    have h1 := congrArg List.length hm
    have h2 := congrArg List.length hm'
    simp at h1 h2
    have : m = [] := List.eq_nil_of_length_eq_zero (by omega)
    subst this; simpa using hm.symm
  subst e
  obtain ⟨a, h1, rfl⟩ := h
  obtain ⟨A, H1, H2⟩ := H
  rw [h1] at H1; cases H1
  exact ⟨rfl, List.append_cancel_left H2⟩
/-! ### what can begin a character -/
def bgP (l : List UInt8) : Bool := decide (0 < (firstP (l ++ [128, 128, 128])).2) || decide (0 < (firstP (l ++ [191, 191, 191])).2)
theorem first_le4 (l : List UInt8) : (firstP l).2 ≤ 4 := by
  rcases Nat.eq_zero_or_pos (firstP l).2 with h | h
  · omega
  · obtain ⟨hv, he⟩ := first_inv l (by omega)
    have h1 := first_enc _ hv (l.drop (firstP l).2)
    have hl : l = encP (firstP l).1 ++ l.drop (firstP l).2 := by rw [he]; simp
    rw [← hl] at h1
    have : (firstP l).2 = szI (firstP l).1 := by conv => lhs; rw [h1]
    rw [this]; unfold szI; (repeat' split) <;> omega
theorem first_short (l r : List UInt8) (h : (firstP l).2 = 0) (h2 : 0 < (firstP (l ++ r)).2) : l.length < (firstP (l ++ r)).2 := by
  rcases Nat.lt_or_ge l.length (firstP (l ++ r)).2 with h3 | h3
  · exact h3
  · exfalso
    obtain ⟨hv, he⟩ := first_inv (l ++ r) (by omega)
    rw [List.take_append_of_le_length h3] at he
    have h1 := first_enc _ hv (l.drop (firstP (l ++ r)).2)
    rw [he, List.take_append_drop] at h1
    rw [h1] at h
    have := szI_pos (firstP (l ++ r)).1
    simp at h; omega
theorem bg_short {l : List UInt8} (h : (firstP l).2 = 0) (hb : bgP l = true) : l.length ≤ 3 := by
  unfold bgP at hb
  rw [Bool.or_eq_true, decide_eq_true_eq, decide_eq_true_eq] at hb
  rcases hb with hb | hb
  · have := first_short l _ h hb; have := first_le4 (l ++ [128, 128, 128]); omega
  · have := first_short l _ h hb; have := first_le4 (l ++ [191, 191, 191]); omega
theorem bg_of (l : List UInt8) (c : Int) (hv : vldB c = true) (n : Nat) (hn : szI c = n) (m : Int) (hm : vldB m = true ∧ szI m = n) (h : firstP (l ++ [128, 128, 128]) = (if vldB m = true ∧ szI m = n then (m, n) else (-1, 0))) : bgP l = true := by
  have h1 := szI_pos c
  unfold bgP
  rw [h, if_pos hm]
  simp; omega
theorem bg_of' (l : List UInt8) (c : Int) (hv : vldB c = true) (n : Nat) (hn : szI c = n) (m : Int) (hm : vldB m = true ∧ szI m = n) (h : firstP (l ++ [191, 191, 191]) = (if vldB m = true ∧ szI m = n then (m, n) else (-1, 0))) : bgP l = true := by
  have h1 := szI_pos c
  unfold bgP
  rw [h, if_pos hm]
  simp; omega
theorem b128 : UInt8.ofNat (128 : Int).toNat = 128 := rfl
theorem b191 : UInt8.ofNat (191 : Int).toNat = 191 := rfl
theorem sz3 {m : Int} (h1 : 2048 ≤ m) (h2 : m < 65536) : szI m = 3 := by unfold szI; rw [if_neg (by omega), if_neg (by omega), if_pos (by omega)]
theorem sz4 {m : Int} (h1 : 65536 ≤ m) : szI m = 4 := by unfold szI; rw [if_neg (by omega), if_neg (by omega), if_neg (by omega)]
/-- A character that is cut short begins one. -/
theorem bg_cut (c : Int) (hv : vldB c = true) (k : Nat) (h0 : 0 < k) (h1 : k < szI c) : bgP ((encP c).take k) = true := by
  have h := (vldB_iff c).1 hv
  by_cases k1 : c < 128
  · have e : szI c = 1 := by unfold szI; rw [if_pos k1]
    omega
  · by_cases k2 : c < 2048
    · have e : szI c = 2 := by unfold szI; rw [if_neg k1, if_pos k2]
      obtain rfl : k = 1 := by omega
      have e2 : (encP c).take 1 = [UInt8.ofNat (192 + c / 64).toNat] := by unfold encP; rw [if_neg k1, if_pos k2]; rfl
      rw [e2]
      refine bg_of _ c hv 2 e (c / 64 * 64) ⟨(vldB_iff _).2 (by omega), by unfold szI; rw [if_neg (by omega), if_pos (by omega)]⟩ ?_
      exact first_two (192 + c / 64) 128 _ [128, 128] (by omega) (by omega) (by omega) (by omega) (by omega)
    · by_cases k3 : c < 65536
      · have e : szI c = 3 := sz3 (by omega) k3
        have ee : encP c = [UInt8.ofNat (224 + c / 4096).toNat, UInt8.ofNat (128 + c / 64 % 64).toNat, UInt8.ofNat (128 + c % 64).toNat] := by unfold encP; rw [if_neg k1, if_neg k2, if_pos k3]
        have hk : k = 1 ∨ k = 2 := by omega
        rcases hk with rfl | rfl
        · rw [ee]
          by_cases g : c < 4096
          · refine bg_of' _ c hv 3 e 4095 ⟨by decide, by decide⟩ ?_
            exact first_three (224 + c / 4096) 191 191 _ [191] (by omega) (by omega) (by omega) (by omega) (by omega) (by omega) (by omega)
          · refine bg_of _ c hv 3 e (c / 4096 * 4096) ⟨(vldB_iff _).2 (by omega), sz3 (by omega) (by omega)⟩ ?_
            exact first_three (224 + c / 4096) 128 128 _ [128] (by omega) (by omega) (by omega) (by omega) (by omega) (by omega) (by omega)
        · rw [ee]
          refine bg_of _ c hv 3 e (c / 64 * 64) ⟨(vldB_iff _).2 (by omega), sz3 (by omega) (by omega)⟩ ?_
          exact first_three (224 + c / 4096) (128 + c / 64 % 64) 128 _ [128, 128] (by omega) (by omega) (by omega) (by omega) (by omega) (by omega) (by omega)
      · have e : szI c = 4 := sz4 (by omega)
        have ee : encP c = [UInt8.ofNat (240 + c / 262144).toNat, UInt8.ofNat (128 + c / 4096 % 64).toNat, UInt8.ofNat (128 + c / 64 % 64).toNat, UInt8.ofNat (128 + c % 64).toNat] := by unfold encP; rw [if_neg k1, if_neg k2, if_neg k3]
        have hk : k = 1 ∨ k = 2 ∨ k = 3 := by omega
        rcases hk with rfl | rfl | rfl
        · rw [ee]
          by_cases g : c < 262144
          · refine bg_of' _ c hv 4 e 262143 ⟨by decide, by decide⟩ ?_
            exact first_four (240 + c / 262144) 191 191 191 _ [] (by omega) (by omega) (by omega) (by omega) (by omega) (by omega) (by omega) (by omega) (by omega)
          · refine bg_of _ c hv 4 e (c / 262144 * 262144) ⟨(vldB_iff _).2 (by omega), sz4 (by omega)⟩ ?_
            exact first_four (240 + c / 262144) 128 128 128 _ [] (by omega) (by omega) (by omega) (by omega) (by omega) (by omega) (by omega) (by omega) (by omega)
        · rw [ee]
          refine bg_of _ c hv 4 e (c / 4096 * 4096) ⟨(vldB_iff _).2 (by omega), sz4 (by omega)⟩ ?_
          exact first_four (240 + c / 262144) (128 + c / 4096 % 64) 128 128 _ [128] (by omega) (by omega) (by omega) (by omega) (by omega) (by omega) (by omega) (by omega) (by omega)
        · rw [ee]
          refine bg_of _ c hv 4 e (c / 64 * 64) ⟨(vldB_iff _).2 (by omega), sz4 (by omega)⟩ ?_
          exact first_four (240 + c / 262144) (128 + c / 4096 % 64) (128 + c / 64 % 64) 128 _ [128, 128] (by omega) (by omega) (by omega) (by omega) (by omega) (by omega) (by omega) (by omega) (by omega)
/-- What stands ahead of the rest of a text begins a character. -/
theorem bg_text {cut r : List UInt8} {xs : List Int} (h : (firstP cut).2 = 0) (h0 : cut ≠ []) (hr : readP (cut ++ r) = some xs) : bgP cut = true := by
  have hp : 0 < (cut ++ r).length := by have := List.length_pos_iff.2 h0; rw [List.length_append]; omega
  have hn : 0 < (firstP (cut ++ r)).2 := by
    rcases Nat.eq_zero_or_pos (firstP (cut ++ r)).2 with g | g
    · rw [readP_step hp, if_pos g] at hr; cases hr
    · exact g
  have hlt := first_short cut r h hn
  obtain ⟨hv, he⟩ := first_inv (cut ++ r) (by omega)
  have e : cut = (encP (firstP (cut ++ r)).1).take cut.length := by
    rw [he, List.take_take, Nat.min_eq_left (by omega), List.take_left]
  have hl := congrArg List.length he
  rw [encP_length, List.length_take] at hl
  rw [e]
  exact bg_cut _ hv _ (List.length_pos_iff.2 h0) (by
    have : (firstP (cut ++ r)).2 ≤ (cut ++ r).length := by
      rcases Nat.lt_or_ge (cut ++ r).length (firstP (cut ++ r)).2 with g | g
      · have h1 := first_enc _ hv ((cut ++ r).drop (firstP (cut ++ r)).2)
        rw [he, List.take_append_drop] at h1
        have h2 : (firstP (cut ++ r)).2 = szI (firstP (cut ++ r)).1 := by conv => lhs; rw [h1]
        omega
      · exact g
    omega)
end Go.Proofs.YtnooloojnhodiaaGreatDoor
/- A Stream's cells, and the walks of New, Held, ended, stop. -/
namespace Go.Proofs.YtnooloojnhodiaaGreatDoor
set_option linter.unusedVariables false
open Go.RowKit
/-- A Stream's cells. -/
def strmL (cut : ByteArray) (hs : List Int) (n m e : Int) : List Value := .string cut :: (hs.map (Value.int .i64) ++ [.int .i64 n, .int .i64 m, .int .i64 e])
theorem strmL_len {cut : ByteArray} {hs : List Int} {n m e : Int} (h : hs.length = 31) : (strmL cut hs n m e).length = 35 := by simp [strmL, h]
def RowAt (w : World) (b : Nat) (cut : ByteArray) (hs : List Int) (n m e : Int) : Prop := w.heap[b]? = some (.cells (strmL cut hs n m e).toArray 50 (0, 0)) ∧ hs.length = 31
theorem RowAt.at {w : World} {b : Nat} {cut : ByteArray} {hs : List Int} {n m e : Int} (h : RowAt w b cut hs n m e) (i : Nat) : w.cell? ⟨b, i, none⟩ = (strmL cut hs n m e)[i]? := by
  unfold World.cell?; rw [h.1]; simp
theorem RowAt.c0 {w : World} {b : Nat} {cut : ByteArray} {hs : List Int} {n m e : Int} (h : RowAt w b cut hs n m e) : w.cell? ⟨b, 0, none⟩ = some (.string cut) := by rw [h.at]; rfl
theorem RowAt.held {w : World} {b : Nat} {cut : ByteArray} {hs : List Int} {n m e : Int} (h : RowAt w b cut hs n m e) (i : Nat) (hi : i < 31) : w.cell? ⟨b, 1 + i, none⟩ = some (.int .i64 (hs.getD i 0)) := by
  rw [h.at]; unfold strmL
  rw [Nat.add_comm, List.getElem?_cons_succ, List.getElem?_append_left (by rw [List.length_map, h.2]; exact hi), List.getElem?_map, List.getD_eq_getElem?_getD, List.getElem?_eq_getElem (by rw [h.2]; exact hi)]; rfl
theorem RowAt.back {w : World} {b : Nat} {cut : ByteArray} {hs : List Int} {n m e : Int} (h : RowAt w b cut hs n m e) (i : Nat) : w.cell? ⟨b, 32 + i, none⟩ = [Value.int .i64 n, .int .i64 m, .int .i64 e][i]? := by
  rw [h.at]; unfold strmL
  rw [show 32 + i = (31 + i) + 1 by omega, List.getElem?_cons_succ, List.getElem?_append_right (by rw [List.length_map, h.2]; omega), List.length_map, h.2]
  congr 1; omega
theorem RowAt.n {w : World} {b : Nat} {cut : ByteArray} {hs : List Int} {n m e : Int} (h : RowAt w b cut hs n m e) : w.cell? ⟨b, 32, none⟩ = some (.int .i64 n) := h.back 0
theorem RowAt.m {w : World} {b : Nat} {cut : ByteArray} {hs : List Int} {n m e : Int} (h : RowAt w b cut hs n m e) : w.cell? ⟨b, 33, none⟩ = some (.int .i64 m) := h.back 1
theorem RowAt.e {w : World} {b : Nat} {cut : ByteArray} {hs : List Int} {n m e : Int} (h : RowAt w b cut hs n m e) : w.cell? ⟨b, 34, none⟩ = some (.int .i64 e) := h.back 2
theorem RowAt.free {w : World} {b : Nat} {cut : ByteArray} {hs : List Int} {n m e : Int} (h : RowAt w b cut hs n m e) (i : Nat) : w.frozen? ⟨b, i, none⟩ = false := by
  unfold World.frozen?; rw [h.1]; simp
theorem RowAt.lt {w : World} {b : Nat} {cut : ByteArray} {hs : List Int} {n m e : Int} (h : RowAt w b cut hs n m e) : b < w.heap.size := (Array.getElem?_eq_some_iff.1 h.1).1
theorem set_row {w : World} {b o : Nat} {l : List Value} {t : TypeId} {fr : Nat × Nat} (h : w.heap[b]? = some (.cells l.toArray t fr)) (v : Value) : (w.setCell ⟨b, o, none⟩ v).heap[b]? = some (.cells (l.set o v).toArray t fr) := by
  unfold World.setCell
  simp only [Array.getElem?_modify, if_true, h, Option.map_some]
  simp
theorem RowAt.setCut {w : World} {b : Nat} {cut : ByteArray} {hs : List Int} {n m e : Int} (h : RowAt w b cut hs n m e) (c : ByteArray) : RowAt (w.setCell ⟨b, 0, none⟩ (.string c)) b c hs n m e := ⟨set_row h.1 _, h.2⟩
theorem RowAt.setHeld {w : World} {b : Nat} {cut : ByteArray} {hs : List Int} {n m e : Int} (h : RowAt w b cut hs n m e) (i : Nat) (hi : i < 31) (x : Int) : RowAt (w.setCell ⟨b, 1 + i, none⟩ (.int .i64 x)) b cut (hs.set i x) n m e := by
  refine ⟨?_, by rw [List.length_set]; exact h.2⟩
  rw [set_row h.1]
  unfold strmL
  rw [Nat.add_comm, List.set_cons_succ, List.set_append_left _ _ (by rw [List.length_map, h.2]; exact hi), List.map_set]
theorem RowAt.setBack {w : World} {b : Nat} {cut : ByteArray} {hs : List Int} {n m e : Int} (h : RowAt w b cut hs n m e) (i : Nat) (v : Value) : (w.setCell ⟨b, 32 + i, none⟩ v).heap[b]? = some (.cells (Value.string cut :: (hs.map (Value.int .i64) ++ ([Value.int .i64 n, .int .i64 m, .int .i64 e].set i v))).toArray 50 (0, 0)) := by
  rw [set_row h.1]
  unfold strmL
  rw [show 32 + i = (31 + i) + 1 by omega, List.set_cons_succ, List.set_append_right _ _ (by rw [List.length_map, h.2]; omega), List.length_map, h.2, Nat.add_sub_cancel_left]
theorem RowAt.setN {w : World} {b : Nat} {cut : ByteArray} {hs : List Int} {n m e : Int} (h : RowAt w b cut hs n m e) (x : Int) : RowAt (w.setCell ⟨b, 32, none⟩ (.int .i64 x)) b cut hs x m e := ⟨h.setBack 0 _, h.2⟩
theorem RowAt.setM {w : World} {b : Nat} {cut : ByteArray} {hs : List Int} {n m e : Int} (h : RowAt w b cut hs n m e) (x : Int) : RowAt (w.setCell ⟨b, 33, none⟩ (.int .i64 x)) b cut hs n x e := ⟨h.setBack 1 _, h.2⟩
theorem RowAt.drew {w : World} {b : Nat} {cut : ByteArray} {hs : List Int} {n m e : Int} (h : RowAt w b cut hs n m e) (k : Nat) : RowAt (w.drewN k) b cut hs n m e := h
/-- All but block b lies as it did. -/
structure Upd (b : Nat) (w w' : World) : Prop where
  os : w'.os = w.os
  tape : w'.tape = w.tape
  output : w'.output = w.output
  size : w.heap.size ≤ w'.heap.size
  block : ∀ k, k < w.heap.size → k ≠ b → w'.heap[k]? = w.heap[k]?
theorem Upd.refl (b : Nat) (w : World) : Upd b w w := ⟨rfl, rfl, rfl, Nat.le_refl _, fun _ _ _ => rfl⟩
theorem Upd.trans {b : Nat} {x y z : World} (h : Upd b x y) (k : Upd b y z) : Upd b x z :=
  ⟨k.os.trans h.os, k.tape.trans h.tape, k.output.trans h.output, Nat.le_trans h.size k.size, fun i hi hn => (k.block i (Nat.lt_of_lt_of_le hi h.size) hn).trans (h.block i hi hn)⟩
theorem Upd.of {b : Nat} {w w' : World} (h : Below w.heap.size w w') : Upd b w w' := ⟨h.os, h.tape, h.output, h.size, fun k hk _ => h.block k hk⟩
theorem Upd.set (b o : Nat) (w : World) (v : Value) : Upd b w (w.setCell ⟨b, o, none⟩ v) :=
  ⟨rfl, rfl, rfl, by simp [World.setCell], fun k _ hn => Below.heap_setCell _ _ _ _ hn⟩
theorem Upd.drewN {b : Nat} {w w' : World} (h : Upd b w w') (k : Nat) : Upd b w (w'.drewN k) := ⟨h.os, h.tape, h.output, h.size, h.block⟩
theorem Upd.below {b B : Nat} {u w w' : World} (hb : Below B u w) (h : Upd b w w') (hB : B ≤ b) (hs : B ≤ w.heap.size) : Below B u w' :=
  hb.trans ⟨h.os, h.tape, h.output, h.size, fun k hk => h.block k (by omega) (by omega)⟩
theorem RowAt.upd {w w' : World} {b c : Nat} {cut : ByteArray} {hs : List Int} {n m e : Int} (h : RowAt w b cut hs n m e) (k : Upd c w w') (hbc : b ≠ c) : RowAt w' b cut hs n m e := ⟨(k.block b h.lt hbc).trans h.1, h.2⟩
theorem RowAt.below {w w' : World} {b : Nat} {cut : ByteArray} {hs : List Int} {n m e : Int} (h : RowAt w b cut hs n m e) (k : Below w.heap.size w w') : RowAt w' b cut hs n m e := ⟨(k.block b h.lt).trans h.1, h.2⟩
/-- A Stream that is open: cut is the bytes of a character without an end, H what is held. -/
def StrmAt (w : World) (b : Nat) (cut : ByteArray) (H : List Int) : Prop := ∃ hs : List Int, RowAt w b cut hs H.length (mkN H) 0 ∧ hs.take H.length = H ∧ Shp H
/-- A Stream that has ended. -/
def DeadAt (w : World) (b : Nat) (e : Int) : Prop := ∃ (cut : ByteArray) (hs : List Int) (m : Int), RowAt w b cut hs 0 m e
theorem StrmAt.upd {w w' : World} {b c : Nat} {cut : ByteArray} {H : List Int} (h : StrmAt w b cut H) (k : Upd c w w') (hbc : b ≠ c) : StrmAt w' b cut H := by
  obtain ⟨hs, h1, h2⟩ := h; exact ⟨hs, h1.upd k hbc, h2⟩
theorem StrmAt.below {w w' : World} {b : Nat} {cut : ByteArray} {H : List Int} (h : StrmAt w b cut H) (k : Below w.heap.size w w') : StrmAt w' b cut H := by
  obtain ⟨hs, h1, h2⟩ := h; exact ⟨hs, h1.below k, h2⟩
theorem StrmAt.lt {w : World} {b : Nat} {cut : ByteArray} {H : List Int} (h : StrmAt w b cut H) : b < w.heap.size := by obtain ⟨hs, h1, h2⟩ := h; exact h1.lt
theorem DeadAt.below {w w' : World} {b : Nat} {e : Int} (h : DeadAt w b e) (k : Below w.heap.size w w') : DeadAt w' b e := by
  obtain ⟨c, hs, m, h1⟩ := h; exact ⟨c, hs, m, h1.below k⟩
theorem DeadAt.lt {w : World} {b : Nat} {e : Int} (h : DeadAt w b e) : b < w.heap.size := by obtain ⟨c, hs, m, h1⟩ := h; exact h1.lt
theorem StrmAt.len {w : World} {b : Nat} {cut : ByteArray} {H : List Int} (h : StrmAt w b cut H) : H.length ≤ 31 := by
  obtain ⟨hs, h1, h2, h3⟩ := h; have := shp_len h3; have := h3.2; omega
/-- What is held, as a slice. -/
theorem RowAt.rd {w : World} {b : Nat} {cut : ByteArray} {hs : List Int} {m e : Int} {H : List Int} (h : RowAt w b cut hs H.length m e) (ht : hs.take H.length = H) (hl : H.length ≤ 31) : RdI w (.slice (some ⟨b, 1, none⟩) H.length 31) H := by
  rcases Nat.eq_zero_or_pos H.length with h0 | h0
  · have : H = [] := List.eq_nil_of_length_eq_zero h0
    subst this; exact .inl ⟨_, 31, rfl, rfl⟩
  · refine .inr ⟨b, 1, 31, by rw [List.length_map], by rw [List.length_map]; exact h0, by rw [List.length_map]; exact hl, by unfold maxLen; omega, h.lt, fun i hi => ?_⟩
    rw [List.length_map] at hi
    rw [getD_map H i hi, h.held i (by omega)]
    congr 2
    conv => rhs; rw [← ht]
    rw [List.getD_eq_getElem?_getD, List.getD_eq_getElem?_getD, List.getElem?_take, if_pos hi]
/-! ### New, Held, ended, stop -/
def NewAt (w : World) (e : Ending) (w' : World) : Prop := e = .returned (.pointer (some ⟨w.heap.size, 0, none⟩)) ∧ Below w.heap.size w w' ∧ w'.heap.size = w.heap.size + 1 ∧ StrmAt w' w.heap.size ⟨#[]⟩ []
set_option maxHeartbeats 1000000 in
set_option maxRecDepth 100000 in
theorem new_any (w : World) : Calls Tryz.prog 11 #[] w (NewAt w) := by
  go_enter Tryz.func11, Tryz.ntmps11
  go_wp2
  go_ret
  refine ⟨rfl, (Below.refl _ _).alloc (Nat.le_refl _) _, by simp, List.replicate 31 0, ⟨?_, by simp⟩, rfl, shp_nil⟩
  rw [heap_alloc_new]; rfl
set_option maxHeartbeats 1000000 in
theorem held_any (w : World) (b : Nat) (n : Int) (h : w.cell? ⟨b, 32, none⟩ = some (.int .i64 n)) :
    Calls Tryz.prog 15 #[.pointer (some ⟨b, 0, none⟩)] w fun e w' => e = .returned (.int .i64 n) ∧ w = w' := by
  go_enter Tryz.func15, Tryz.ntmps15
  go_wp2
  go_ret
  exact ⟨rfl, rfl⟩
set_option maxHeartbeats 1000000 in
theorem ended_any (w : World) (b : Nat) (n : Int) (h : w.cell? ⟨b, 34, none⟩ = some (.int .i64 n)) :
    Calls Tryz.prog 20 #[.pointer (some ⟨b, 0, none⟩)] w fun e w' => e = .returned (.int .i64 n) ∧ w = w' := by
  go_enter Tryz.func20, Tryz.ntmps20
  go_wp2
  go_ret
  exact ⟨rfl, rfl⟩
set_option maxHeartbeats 2000000 in
set_option maxRecDepth 100000 in
theorem stop_any (w : World) (b : Nat) (cut : ByteArray) (hs : List Int) (n m e x : Int) (h : RowAt w b cut hs n m e) :
    Calls Tryz.prog 23 #[.pointer (some ⟨b, 0, none⟩), .int .i64 x] w fun e w' => e = .returned (.int .i64 x) ∧ Upd b w w' ∧ DeadAt w' b x := by
  have H := Lib.hid h
  have hr : ((strmL cut hs n m e).toArray).size = 35 := by simp [strmL_len h.2]
  clear h
  obtain ⟨old, ho⟩ : ∃ old, (strmL cut hs n m e).toArray = old := ⟨_, rfl⟩
  have HH : Hid (w.heap[b]? = some (.cells old 50 (0, 0))) := Lib.hid (by rw [← ho]; exact H.out.1)
  have HR : Hid (old.size = 35) := Lib.hid (by rw [← ho]; exact hr)
  clear ho hr H
  have hone : Hid ((strmL ⟨#[]⟩ (List.replicate 31 0) 0 0 x).toArray.all (·.oneCell') = true) := Lib.hid (by kernel_rfl)
  have hinfo : (Tryz.prog.info? 50).map (·.size) = some 35 := by kernel_rfl
  go_enter Tryz.func23, Tryz.ntmps23
  go_wp2_with (refine wpList_store_row rfl 50 (.tmp 8) (.tmp 7) rfl b (strmL ⟨#[]⟩ (List.replicate 31 0) 0 0 x).toArray rfl rfl _ old HH.out hinfo HR.out hone.out ?_)
  go_ret
  refine ⟨rfl, ⟨rfl, rfl, rfl, by simp, fun k _ hn => setRow_other _ _ _ _ hn⟩, ⟨#[]⟩, List.replicate 31 0, 0, ?_, rfl⟩
  rw [setRow_heap _ _ _ _ _ _ HH.out]; rfl
end Go.Proofs.YtnooloojnhodiaaGreatDoor
/- The walks of a Stream's release and take. -/
namespace Go.Proofs.YtnooloojnhodiaaGreatDoor
set_option linter.unusedVariables false
open Go.RowKit
/-- Characters' parts. -/
def PartsOk (H : List Int) : Prop := ∀ x ∈ H, vldB x = true ∧ apartP x = [x]
theorem chars_parts {H : List Int} (h : PartsOk H) : charsP H = orderP classP H := by
  unfold charsP; rw [flat_self _ fun x hx => (h x hx).2]
theorem parts_write {H : List Int} (h : PartsOk H) : ∃ bs, writeP (orderP classP H) = some bs := by
  rw [← chars_parts h]; exact (write_valid _).1 (chars_valid _ fun x hx => (h x hx).1)
def RelRes (w : World) (b : Nat) (cut : ByteArray) (H : List Int) (e : Ending) (w' : World) : Prop :=
  ∃ bs, writeP (orderP classP H) = some bs ∧ e = .returned (.string ⟨bs.toArray⟩) ∧ Upd b w w' ∧ StrmAt w' b cut []
set_option maxHeartbeats 4000000 in
set_option maxRecDepth 100000 in
theorem release_any (u w : World) (hE : ErrAt u) (hSp : SpAt u) (hu : Below u.heap.size u w) (b : Nat) (hub : u.heap.size ≤ b) (cut : ByteArray) (H : List Int) (h : StrmAt w b cut H) (hp : PartsOk H) :
    Calls Tryz.prog 26 #[.pointer (some ⟨b, 0, none⟩)] w (RelRes w b cut H) := by
  have hl31 := h.len
  obtain ⟨hs, hrow, htake, hshp⟩ := h
  obtain ⟨bs, hbs⟩ := parts_write hp
  have hrd := hrow.rd htake hl31
  have HCh : Hid (∀ W, Below w.heap.size w W → Calls Tryz.prog 36 #[.slice (some ⟨b, 1, none⟩) H.length 31] W (NewRes (charsP H) W)) := Lib.hid fun W hW => by
    have hb2 : Below u.heap.size u W := hu.trans (hW.mono hu.size)
    refine chars_any W _ H (hrd.below hW) (valid_range fun c hc => (hp c hc).1) (hE.below hb2) (hSp.below hb2 hSp.1) ?_ (by omega)
    rw [flat_self _ fun x hx => (hp x hx).2]; omega
  have HWr : Hid (∀ W v, RdI W v (charsP H) → Calls Tryz.prog 39 #[v] W (WriteRes W (some bs))) := Lib.hid fun W v hv => by
    have := write_any v (charsP H) (by rw [chars_parts hp, orderP_len]; omega) W hv
    rwa [chars_parts hp, hbs] at this
  have HBS := Lib.hid hbs
  have hlt := hrow.lt
  have hcn := hrow.n
  have hfn := hrow.free 32
  have hfm := hrow.free 33
  have hcm := hrow.m
  have HROW := Lib.hid hrow
  have HT := Lib.hid htake
  obtain ⟨n, hn⟩ : ∃ n, H.length = n := ⟨_, rfl⟩
  rw [hn] at HCh hcn hl31
  have HN := Lib.hid hn
  clear hE hSp hu hub hp hrd hbs hrow htake hshp hn
  have hsl : Hid (∀ W, (Instr.sliceAt 48 (.pointer (some ⟨b, 1, none⟩)) none (some (.int .i64 (n : Int))) none).run Tryz.prog W = .ok (.slice (some ⟨b, 1, none⟩) n 31) W) := Lib.hid fun W => by
    have := run_sliceAt_array_h (P := Tryz.prog) (w := W) (t := 48) (a := ⟨b, 1, none⟩) (by kernel_rfl) .i64 (n : Int) (by omega) (by show (n : Int) ≤ 31; omega)
    rw [this]; rfl
  go_enter Tryz.func26, Tryz.ntmps26
  go_wp2_with fail
  refine wp_region_held_drew (S := Below w.heap.size w) (by kernel_rfl) (Below.refl _ _).drew (fun hHeld => ?_)
  refine takeYes (i := 0) (k := 6) (v := .pointer (some ⟨b, 0, none⟩)) rfl (by kernel_rfl) (by kernel_rfl) (by kernel_rfl) (by kernel_rfl) (fun _ _ _ h => h) (by kernel_rfl) ?_ (by assumption) ?_
  · intro W hSw; first | (go_simp; done) | go_simp
  try simp only [Act.put, List.setIfInBounds_toArray, List.set_cons_zero, List.set_cons_succ]
  refine takeYes (i := 1) (k := 7) (v := .pointer (some ⟨b, 0, none⟩)) rfl (by kernel_rfl) (by kernel_rfl) (by kernel_rfl) (by kernel_rfl) (fun _ _ _ h => h) (by kernel_rfl) ?_ (by assumption) ?_
  · intro W hSw; first | (go_simp; done) | go_simp
  try simp only [Act.put, List.setIfInBounds_toArray, List.set_cons_zero, List.set_cons_succ]
  refine takeYes (i := 2) (k := 8) (v := .pointer (some ⟨b, 1, none⟩)) rfl (by kernel_rfl) (by kernel_rfl) (by kernel_rfl) (by kernel_rfl) (fun _ _ _ h => h) (by kernel_rfl) ?_ (by assumption) ?_
  · intro W hSw; first | (go_simp; done) | go_simp
  try simp only [Act.put, List.setIfInBounds_toArray, List.set_cons_zero, List.set_cons_succ]
  refine takeYes (i := 3) (k := 9) (v := .pointer (some ⟨b, 0, none⟩)) rfl (by kernel_rfl) (by kernel_rfl) (by kernel_rfl) (by kernel_rfl) (fun _ _ _ h => h) (by kernel_rfl) ?_ (by assumption) ?_
  · intro W hSw; first | (go_simp; done) | go_simp
  try simp only [Act.put, List.setIfInBounds_toArray, List.set_cons_zero, List.set_cons_succ]
  refine takeYes (i := 4) (k := 10) (v := .pointer (some ⟨b, 0, none⟩)) rfl (by kernel_rfl) (by kernel_rfl) (by kernel_rfl) (by kernel_rfl) (fun _ _ _ h => h) (by kernel_rfl) ?_ (by assumption) ?_
  · intro W hSw; first | (go_simp; done) | go_simp
  try simp only [Act.put, List.setIfInBounds_toArray, List.set_cons_zero, List.set_cons_succ]
  refine takeYes (i := 5) (k := 11) (v := .pointer (some ⟨b, 32, none⟩)) rfl (by kernel_rfl) (by kernel_rfl) (by kernel_rfl) (by kernel_rfl) (fun _ _ _ h => h) (by kernel_rfl) ?_ (by assumption) ?_
  · intro W hSw; first | (go_simp; done) | go_simp
  try simp only [Act.put, List.setIfInBounds_toArray, List.set_cons_zero, List.set_cons_succ]
  refine takeYes (i := 6) (k := 12) (v := .int .i64 n) rfl (by kernel_rfl) (by kernel_rfl) (by kernel_rfl) (by kernel_rfl) (fun _ _ _ h => h) (by kernel_rfl) ?_ (by assumption) ?_
  · intro W hSw; have hcc := (hSw.cell (p := ⟨b, 32, none⟩) hlt).trans hcn; first | (go_simp; done) | go_simp
  try simp only [Act.put, List.setIfInBounds_toArray, List.set_cons_zero, List.set_cons_succ]
  refine takeYes (i := 7) (k := 13) (v := .slice (some ⟨b, 1, none⟩) n 31) rfl (by kernel_rfl) (by kernel_rfl) (by kernel_rfl) (by kernel_rfl) (fun _ _ _ h => h) (by kernel_rfl) ?_ (by assumption) ?_
  · intro W hSw; have hsl2 := hsl.out W; first | (go_simp; done) | go_simp
  try simp only [Act.put, List.setIfInBounds_toArray, List.set_cons_zero, List.set_cons_succ]
  refine wpAnyH_ready (rs := [8]) (by kernel_rfl) (by simp) (AllReadyH.cons rfl (fun K hK => ?_) AllReadyH.nil)
  go_simp
  refine (HCh.out _ hHeld).mono ?_
  intro e w4 hr
  obtain ⟨v4, rfl, hv4, hb4⟩ := hr.rd
  refine hK.out _ _ (hHeld.trans (hb4.mono hHeld.size)) (fun hHeld2 => ?_)
  clear hK K hHeld hr
  have hHeld := hHeld2
  clear hHeld2
  try simp only [Act.put, List.setIfInBounds_toArray, List.set_cons_zero, List.set_cons_succ]
  refine wpAnyH_ready (rs := [9]) (by kernel_rfl) (by simp) (AllReadyH.cons rfl (fun K hK => ?_) AllReadyH.nil)
  go_simp
  refine (HWr.out _ _ hv4).mono ?_
  rintro e w5 ⟨hb5, rfl⟩
  refine hK.out _ _ (hHeld.trans (hb5.mono hHeld.size)) (fun hHeld2 => ?_)
  clear hK K hHeld
  have hHeld := hHeld2
  clear hHeld2
  try simp only [Act.put, List.setIfInBounds_toArray, List.set_cons_zero, List.set_cons_succ]
  refine takeYes (i := 10) (k := 5) (v := .tuple #[.string ⟨bs.toArray⟩, .bool true]) rfl (by kernel_rfl) (by kernel_rfl) (by kernel_rfl) (by kernel_rfl) (fun _ _ _ h => h) (by kernel_rfl) ?_ (by assumption) ?_
  · intro W hSw; first | (go_simp; done) | go_simp
  try simp only [Act.put, List.setIfInBounds_toArray, List.set_cons_zero, List.set_cons_succ]
  refine takeYes (i := 11) (k := 16) (v := .string ⟨bs.toArray⟩) rfl (by kernel_rfl) (by kernel_rfl) (by kernel_rfl) (by kernel_rfl) (fun _ _ _ h => h) (by kernel_rfl) ?_ (by assumption) ?_
  · intro W hSw; first | (go_simp; done) | go_simp
  try simp only [Act.put, List.setIfInBounds_toArray, List.set_cons_zero, List.set_cons_succ]
  refine takeYes (i := 12) (k := 17) (v := .bool true) rfl (by kernel_rfl) (by kernel_rfl) (by kernel_rfl) (by kernel_rfl) (fun _ _ _ h => h) (by kernel_rfl) ?_ (by assumption) ?_
  · intro W hSw; first | (go_simp; done) | go_simp
  try simp only [Act.put, List.setIfInBounds_toArray, List.set_cons_zero, List.set_cons_succ]
  refine takeYes (i := 13) (k := 3) (v := .string ⟨bs.toArray⟩) rfl (by kernel_rfl) (by kernel_rfl) (by kernel_rfl) (by kernel_rfl) (fun _ _ _ h => h) (by kernel_rfl) ?_ (by assumption) ?_
  · intro W hSw; first | (go_simp; done) | go_simp
  try simp only [Act.put, List.setIfInBounds_toArray, List.set_cons_zero, List.set_cons_succ]
  refine takeYes (i := 14) (k := 4) (v := .bool true) rfl (by kernel_rfl) (by kernel_rfl) (by kernel_rfl) (by kernel_rfl) (fun _ _ _ h => h) (by kernel_rfl) ?_ (by assumption) ?_
  · intro W hSw; first | (go_simp; done) | go_simp
  try simp only [Act.put, List.setIfInBounds_toArray, List.set_cons_zero, List.set_cons_succ]
  refine wpAnyH_done (by kernel_rfl) ?_ _
  have hcn5 := (hHeld.cell (p := ⟨b, 32, none⟩) hlt).trans hcn
  have hcm5 := (hHeld.cell (p := ⟨b, 33, none⟩) hlt).trans hcm
  have hfn5 := (hHeld.frozen (p := ⟨b, 32, none⟩) hlt).trans hfn
  have hfm5 := (hHeld.frozen (p := ⟨b, 33, none⟩) hlt).trans hfm
  have HH5 := Lib.hid hHeld
  clear hHeld hcn hcm hfn hfm hb4 hb5 hv4 HCh HWr
  go_wp2_with fail
  go_ret
  refine ⟨bs, HBS.out, rfl, ((Upd.of HH5.out).trans (Upd.set b 32 _ _)).trans (Upd.set b 33 _ _), hs, ?_, rfl, shp_nil⟩
  exact ((HROW.out.below HH5.out).setN _).setM _
end Go.Proofs.YtnooloojnhodiaaGreatDoor
/- The walk of a Stream's take. -/
namespace Go.Proofs.YtnooloojnhodiaaGreatDoor
set_option linter.unusedVariables false
open Go.RowKit
theorem bytes_app (a b : List UInt8) : (⟨a.toArray⟩ : ByteArray) ++ ⟨b.toArray⟩ = ⟨(a ++ b).toArray⟩ := by
  apply ByteArray.ext; simp
theorem runH_step {H P S H' : List Int} {k : Nat} {x : Int} (h : runH [] H (P.take k) = some (S, H')) (hk : k < P.length) (hx : P[k]! = x) : runH [] H (P.take (k + 1)) = runH S H' [x] := by
  rw [List.take_succ_eq_append_getElem hk, runH_app, h]
  rw [getElem!_pos P k hk] at hx
  rw [hx]; rfl
def TakeRes (w : World) (b : Nat) (cut : ByteArray) (r : Option (List Int × List Int)) (e : Ending) (w' : World) : Prop :=
  Upd b w w' ∧ match r with
  | none => e = .returned (.tuple #[.string ⟨#[]⟩, .bool false]) ∧ ∃ hs n m, RowAt w' b cut hs n m 0
  | some (S, H') => ∃ bs, writeP S = some bs ∧ e = .returned (.tuple #[.string ⟨bs.toArray⟩, .bool true]) ∧ StrmAt w' b cut H' ∧ PartsOk H'
def TkRel (w : World) (b : Nat) (cut : ByteArray) (H P : List Int) (k : Nat) (s : ByteArray) (wr : World) : Prop :=
  ∃ S H', runH [] H (P.take k) = some (S, H') ∧ writeP S = some s.data.toList ∧ StrmAt wr b cut H' ∧ PartsOk H' ∧ Upd b w wr
theorem tk_size {w wr : World} {b : Nat} {cut s : ByteArray} {H P : List Int} {k : Nat} (h : TkRel w b cut H P k s wr) (hH : H.length ≤ 31) (hk : k ≤ 10) : s.size ≤ 1000 := by
  obtain ⟨S, H', h1, h2, -⟩ := h
  have e1 := runH_len _ _ _ _ _ h1
  have e2 := wr_le _ _ h2
  rw [size_toList] at e2
  have e3 := List.length_take_le k P
  simp only [List.length_nil] at e1
  omega
theorem Upd.to {b : Nat} {w w1 w2 : World} (h : Upd b w1 w2) (hb : Below w.heap.size w w1) : Upd b w w2 := (Upd.of hb).trans h
/-- a part behind what is held. -/
theorem StrmAt.push {w' : World} {b : Nat} {cut : ByteArray} {hs H : List Int} {x : Int} (h : RowAt w' b cut hs (H.length + 1 : Nat) (mkN (H ++ [x])) 0) (ht : hs.take (H.length + 1) = H ++ [x]) (hs' : Shp (H ++ [x])) : StrmAt w' b cut (H ++ [x]) :=
  ⟨hs, by rw [List.length_append]; exact h, by rw [List.length_append]; exact ht, hs'⟩
theorem take_set {hs H : List Int} {x : Int} (h1 : hs.length = 31) (ht : hs.take H.length = H) (hl : H.length < 31) : (hs.set H.length x).take (H.length + 1) = H ++ [x] := by
  rw [List.take_succ_eq_append_getElem (by rw [List.length_set]; omega), List.getElem_set_self, List.take_set_of_le (Nat.le_refl _), ht]
set_option maxHeartbeats 4000000 in
set_option maxRecDepth 100000 in
theorem take_any (u w : World) (hE : ErrAt u) (hSp : SpAt u) (hu : Below u.heap.size u w) (b : Nat) (hub : u.heap.size ≤ b) (cut : ByteArray) (H : List Int) (h : StrmAt w b cut H) (hp : PartsOk H) (c : Int) (hc : vldB c = true) :
    Calls Tryz.prog 22 #[.pointer (some ⟨b, 0, none⟩), .int .i64 c] w (TakeRes w b cut (runH [] H (charsP [c]))) := by
  have hblt := h.lt
  have hal : Below w.heap.size w (w.alloc (.cells #[.int .i64 c] 3)) := (Below.refl _ _).alloc (Nat.le_refl _) _
  have hua : Below u.heap.size u (w.alloc (.cells #[.int .i64 c] 3)) := hu.trans (hal.mono hu.size)
  have HCh : Hid (Calls Tryz.prog 36 #[.slice (some ⟨w.heap.size, 0, none⟩) 1 1] (w.alloc (.cells #[.int .i64 c] 3)) (NewRes (charsP [c]) (w.alloc (.cells #[.int .i64 c] 3)))) := Lib.hid (by
    have hrd : RdI (w.alloc (.cells #[.int .i64 c] 3)) (.slice (some ⟨w.heap.size, 0, none⟩) 1 1) [c] := (own_fresh (E := 3) w [.int .i64 c] 1 rfl (by omega) (by unfold maxLen; omega)).rd
    exact chars_any _ _ [c] hrd (valid_range fun x hx => by rw [List.mem_singleton.1 hx]; exact hc) (hE.below hua) (hSp.below hua hSp.1) (by have := flat_len [c]; simp at this ⊢; omega) (by simp))
  have hPl : (charsP [c]).length ≤ 10 ∧ charsP [c] ≠ [] := by
    rw [chars_one]
    have := apart_len c
    exact ⟨by rw [orderP_len]; exact this.1, fun e => this.2 (List.eq_nil_of_length_eq_zero (by rw [← orderP_len (cl := classP), e]; rfl))⟩
  have hPv : PartsOk (charsP [c]) := fun x hx => ⟨chars_valid [c] (fun y hy => by rw [List.mem_singleton.1 hy]; exact hc) x hx, chars_end [c] x hx⟩
  obtain ⟨P, hP⟩ : ∃ P, charsP [c] = P := ⟨_, rfl⟩
  rw [hP] at HCh hPl hPv ⊢
  clear hP hc
  have HAL := Lib.hid hal
  have HUA := Lib.hid hua
  have HST := Lib.hid h
  have HPO := Lib.hid hp
  have HPV := Lib.hid hPv
  have HPN := Lib.hid hPl.2
  have HEE := Lib.hid hE
  have HSS := Lib.hid hSp
  have hPl10 := hPl.1
  have hH31 := h.len
  clear hal hua h hp hPv hPl hE hSp
  go_enter Tryz.func22, Tryz.ntmps22
  go_wp2_with fail
  refine HCh.out.mono ?_
  rintro e w1 ⟨v, rfl, ho, _, hb⟩
  obtain ⟨g, cap, rfl, hg, hcap⟩ := own_some ho HPN.out
  obtain ⟨n, hn⟩ : ∃ n, P.length = n := ⟨_, rfl⟩
  have HC : Hid (∀ i, i < n → w1.cell? ⟨g, i, none⟩ = some (.int .i64 P[i]!)) := Lib.hid fun i hi => by
    have := ho.cellI i (by omega)
    exact this
  have HN := Lib.hid hn
  have HB1 : Hid (Below w.heap.size w w1) := Lib.hid (HAL.out.trans (hb.mono (by simp)))
  have hgb : g ≠ b := by simp at hg; omega
  have hgl : g < w1.heap.size := by
    rcases ho.nilOr with ⟨h, _⟩ | ⟨g', cap', h, _, hl, _⟩
    · cases h
    · simp at h; omega
  rw [hn] at hPl10 hcap ⊢
  clear hn ho hb HCh hg HPN
  go_wp2_with fail
  go_loopw [6, 13] (fun sv iv wr => ∃ (k : Nat) (s : ByteArray), iv = .int .i64 k ∧ sv = .string s ∧ k ≤ n ∧ s.size ≤ 1000 ∧ Hid (TkRel w1 b cut H P k s wr)) (fun _ i _ => n - (intOf i).toNat)
  case atStart => exact ⟨0, ⟨#[]⟩, rfl, rfl, Nat.zero_le _, Nat.zero_le _, Lib.hid ⟨[], H, by rw [List.take_zero]; rfl, rfl, HST.out.below HB1.out, HPO.out, Upd.refl _ _⟩⟩
  case round =>
    obtain ⟨k, s, rfl, rfl, hk, hss, HR⟩ := hrel
    by_cases hlt : k < n
    · obtain ⟨x, hx⟩ : ∃ x, P[k]! = x := ⟨_, rfl⟩
      have hcx : wr.cell? ⟨g, k, none⟩ = some (.int .i64 x) := by
        obtain ⟨S, H', _, _, _, _, hU⟩ := HR.out
        rw [World.cell?_of_block (w := w1) (a := ⟨g, k, none⟩) (hU.block g hgl hgb), HC.out k hlt, hx]
      obtain ⟨S, H', r1, r2, r3, r4, r5⟩ := HR.out
      have HU1 : Hid (Below u.heap.size u wr) := Lib.hid (r5.below (hu.trans (HB1.out.mono hu.size)) hub (Nat.le_trans hu.size HB1.out.size))
      have hxm : x ∈ P := by rw [← hx, getElem!_pos P k (by rw [HN.out]; exact hlt)]; exact List.getElem_mem _
      have hxp := HPV.out x hxm
      have hxr := valid_range (l := [x]) (fun y hy => by rw [List.mem_singleton.1 hy]; exact hxp.1) x (by simp)
      have HK : Hid (Calls Tryz.prog 37 #[.int .i64 x] wr (IntRes (classP x) wr)) := Lib.hid (class_any x hxr.1 hxr.2 wr (HEE.out.below HU1.out))
      have HST1 := Lib.hid (runH_step r1 (by rw [HN.out]; exact hlt) hx)
      have HXP := Lib.hid hxp
      have H3 := Lib.hid r3
      have H4 := Lib.hid r4
      have H5 := Lib.hid r5
      have HS := Lib.hid r2
      have h0k : (0 : Int) ≤ (k : Int) := by omega
      have hkn : (k : Int) < (n : Int) := by omega
      obtain ⟨q, hq⟩ : ∃ q, classP x = q := ⟨_, rfl⟩
      rw [hq] at HK
      have HQ := Lib.hid hq
      clear hx hxm hxp hxr r1 r2 r3 r4 r5 hq HR
      go_wp2_with fail
      refine HK.out.mono ?_
      rintro e wr1 ⟨rfl, hb1⟩
      have HB2 := Lib.hid hb1
      have HU2 : Hid (Below u.heap.size u wr1) := Lib.hid (HU1.out.trans (hb1.mono HU1.out.size))
      clear HK hcx hb1
      by_cases h0 : q = 0
      · subst h0
        have HRel := Lib.hid (release_any u wr1 HEE.out HSS.out HU2.out b hub cut H' (H3.out.below HB2.out) H4.out)
        go_wp2_with fail
        refine HRel.out.mono ?_
        rintro e wr2 ⟨bs2, hbs2, rfl, hU2, hS2⟩
        obtain ⟨s2, es2⟩ : ∃ s2 : ByteArray, (⟨bs2.toArray⟩ : ByteArray) = s2 := ⟨_, rfl⟩
        have hs2 : s2.size ≤ 124 := by
          rw [← es2]
          have := wr_le _ _ hbs2
          rw [orderP_len] at this
          have := (H3.out).len
          show bs2.toArray.size ≤ 124
          rw [List.size_toArray]; omega
        have hsum : s.size + s2.size ≤ 9223372036854775807 := by omega
        have hbs3 : writeP (orderP classP H') = some s2.data.toList := by rw [hbs2, ← es2]
        rw [es2]
        obtain ⟨hs, hrow, -, -⟩ := hS2
        have c32 : wr2.cell? ⟨b, 32, none⟩ = some (.int .i64 0) := hrow.n
        have c1 : wr2.cell? ⟨b, 1, none⟩ = some (.int .i64 (hs.getD 0 0)) := hrow.held 0 (by omega)
        have f1 := hrow.free 1
        have f32 := hrow.free 32
        have HROW := Lib.hid hrow
        have HBS2 := Lib.hid hbs3
        have HU3 := Lib.hid hU2
        clear hrow hbs2 hbs3 es2 hU2 HRel
        go_wp2_with fail
        go_region
        go_wp2_with fail
        have HNEW : TkRel w1 b cut H P (k + 1) (s ++ s2) (((wr2.setCell ⟨b, 1, none⟩ (.int .i64 x)).setCell ⟨b, 32, none⟩ (.int .i64 1)).drew) := by
          refine ⟨S ++ orderP classP H', [x], ?_, ?_, ⟨hs.set 0 x, ?_, ?_, shp_one x HQ.out⟩, ?_, ?_⟩
          · rw [HST1.out]; simp only [runH]; rw [if_pos HQ.out]
          · rw [wr_app _ _ _ _ HS.out HBS2.out]; simp
          · have e0 : mkN [x] = 0 := mkN_one x HQ.out
            rw [e0]
            exact ((HROW.out.setHeld 0 (by omega) x).setN 1)
          · exact take_set (H := []) HROW.out.2 rfl (by simp)
          · intro y hy; rw [List.mem_singleton.1 hy]; exact HXP.out
          · exact ((((H5.out.trans (Upd.of HB2.out)).trans HU3.out).trans (Upd.set b 1 _ _)).trans (Upd.set b 32 _ _)).drewN 1
        refine ⟨⟨k + 1, s ++ s2, by go_num, rfl, by omega, tk_size HNEW hH31 (by omega), Lib.hid HNEW⟩, ?_⟩
        simp [intOf]; omega
      · have h0b : (q == 0) = false := by simpa using h0
        obtain ⟨hs, hrow, ht, hshp⟩ := H3.out.below HB2.out
        have hm30 := hshp.2
        have hl31 := shp_len hshp
        have hqx : classP x ≠ 0 := by rw [HQ.out]; exact h0
        have c33 := hrow.m
        have f33 := hrow.free 33
        have HROW := Lib.hid hrow
        have HT := Lib.hid ht
        have HSH := Lib.hid hshp
        have HQX := Lib.hid hqx
        by_cases hm : mkN H' < 30
        · have c32 := hrow.n
          have f32 := hrow.free 32
          have c1 := hrow.held H'.length (by omega)
          have f1 := hrow.free (1 + H'.length)
          have HMN : Hid (mkN (H' ++ [x]) = mkN H' + 1) := Lib.hid (mkN_snoc H' x hqx)
          have HM := Lib.hid hm
          have HSN : Hid (Shp (H' ++ [x])) := Lib.hid (shp_snoc hshp hqx hm)
          obtain ⟨m, em⟩ : ∃ m, mkN H' = m := ⟨_, rfl⟩
          obtain ⟨l, el⟩ : ∃ l, H'.length = l := ⟨_, rfl⟩
          obtain ⟨y0, ey⟩ : ∃ y, hs.getD H'.length 0 = y := ⟨_, rfl⟩
          rw [em] at c33 hm30 hm hl31
          rw [ey] at c1
          rw [el] at c32 hl31 c1 f1
          have HEM := Lib.hid em
          have HEL := Lib.hid el
          have hl30 : (l : Int) < 31 := by omega
          have hl0 : (0 : Int) ≤ (l : Int) := by omega
          have hm29 : ¬ (30 < (m : Int) + 1) := by omega
          have hne1 : ¬ (1 + l = 32) := by omega
          have hne2 : ¬ (1 + l = 33) := by omega
          have hne3 : ¬ (32 = 1 + l) := by omega
          have hne4 : ¬ (33 = 1 + l) := by omega
          clear hrow ht hshp hqx em el ey
          go_wp2_with fail
          go_region
          go_wp2_with fail
          have HNEW : TkRel w1 b cut H P (k + 1) s ((((wr1.setCell ⟨b, 33, none⟩ (.int .i64 ((m : Int) + 1))).setCell ⟨b, 1 + l, none⟩ (.int .i64 x)).setCell ⟨b, 32, none⟩ (.int .i64 ((l : Int) + 1))).drew) := by
            refine ⟨S, H' ++ [x], ?_, HS.out, StrmAt.push (hs := hs.set l x) ?_ ?_ HSN.out, ?_, ?_⟩
            · rw [HST1.out]; simp only [runH]; rw [if_neg HQX.out, if_pos HM.out]
            · rw [HMN.out, HEM.out, HEL.out]
              exact (((HROW.out.setM _).setHeld l (by omega) x).setN _)
            · rw [← HEL.out]; exact take_set HROW.out.2 HT.out (by have := HEL.out; omega)
            · intro y hy
              rcases List.mem_append.1 hy with hy | hy
              · exact H4.out y hy
              · rw [List.mem_singleton.1 hy]; exact HXP.out
            · exact ((((H5.out.trans (Upd.of HB2.out)).trans (Upd.set b 33 _ _)).trans (Upd.set b (1 + l) _ _)).trans (Upd.set b 32 _ _)).drewN 1
          refine ⟨⟨k + 1, s, by go_num, rfl, by omega, hss, Lib.hid HNEW⟩, ?_⟩
          simp [intOf]; omega
        · obtain ⟨m, em⟩ : ∃ m, mkN H' = m := ⟨_, rfl⟩
          rw [em] at c33 hm30 hm
          have HEM := Lib.hid em
          have hm31 : 30 < (m : Int) + 1 := by omega
          have HRUN : Hid (runH [] H P = none) := Lib.hid (by
            rw [← List.take_append_drop (k + 1) P, runH_app, HST1.out]
            simp only [runH]
            rw [if_neg hqx, if_neg (by rw [em]; omega)]; rfl)
          clear hrow ht hshp hqx em
          go_wp2_with fail
          go_ret2
          refine ⟨((H5.out.trans (Upd.of HB2.out)).trans (Upd.set b 33 _ _)).to HB1.out, ?_⟩
          rw [HRUN.out]
          exact ⟨rfl, hs, _, _, HROW.out.setM _⟩
    · obtain rfl : k = n := by omega
      obtain ⟨S, H', r1, r2, r3, r4, r5⟩ := HR.out
      have HRUN : Hid (runH [] H P = some (S, H')) := Lib.hid (by
        rw [List.take_of_length_le (by rw [HN.out]; exact Nat.le_refl _)] at r1; exact r1)
      have HF : Hid (writeP S = some s.data.toList ∧ StrmAt wr b cut H' ∧ PartsOk H' ∧ Upd b w1 wr) := ⟨r2, r3, r4, r5⟩
      clear r1 r2 r3 r4 r5 HR
      go_wp2_with fail
      go_ret2
      refine ⟨(HF.out.2.2.2).to HB1.out, ?_⟩
      rw [HRUN.out]
      exact ⟨s.data.toList, HF.out.1, rfl, HF.out.2.1, HF.out.2.2.1⟩
end Go.Proofs.YtnooloojnhodiaaGreatDoor
/- The walk of begins: may a character begin so. -/
namespace Go.Proofs.YtnooloojnhodiaaGreatDoor
set_option linter.unusedVariables false
open Go.RowKit
set_option maxHeartbeats 1000000 in
set_option maxRecDepth 100000 in
theorem begins_any (s : ByteArray) (hs : s.size ≤ 1000000) (w : World) :
    Calls Tryz.prog 24 #[.string s] w fun e w' => e = .returned (.bool (bgP s.data.toList)) ∧ w = w' := by
  have H1 : Hid (∀ w, Calls Tryz.prog 21 #[.string (s ++ ⟨#[128, 128, 128]⟩)] w fun e w' => e = .returned (.tuple #[.int .i64 (firstP (s.data.toList ++ [128, 128, 128])).1, .int .i64 ((firstP (s.data.toList ++ [128, 128, 128])).2 : Nat)]) ∧ w = w') := Lib.hid fun w => by
    have := first_any (s ++ ⟨#[128, 128, 128]⟩) (by rw [ByteArray.size_append]; show s.size + 3 ≤ maxLen; unfold maxLen; omega) w
    rwa [show (s ++ ⟨#[128, 128, 128]⟩ : ByteArray).data.toList = s.data.toList ++ [128, 128, 128] by simp] at this
  have H2 : Hid (∀ w, Calls Tryz.prog 21 #[.string (s ++ ⟨#[191, 191, 191]⟩)] w fun e w' => e = .returned (.tuple #[.int .i64 (firstP (s.data.toList ++ [191, 191, 191])).1, .int .i64 ((firstP (s.data.toList ++ [191, 191, 191])).2 : Nat)]) ∧ w = w') := Lib.hid fun w => by
    have := first_any (s ++ ⟨#[191, 191, 191]⟩) (by rw [ByteArray.size_append]; show s.size + 3 ≤ maxLen; unfold maxLen; omega) w
    rwa [show (s ++ ⟨#[191, 191, 191]⟩ : ByteArray).data.toList = s.data.toList ++ [191, 191, 191] by simp] at this
  have hsum : s.size + 3 ≤ 9223372036854775807 := by omega
  obtain ⟨r, hr⟩ : ∃ r, bgP s.data.toList = r := ⟨_, rfl⟩
  have HB : Hid ((decide (0 < (firstP (s.data.toList ++ [128, 128, 128])).2) || decide (0 < (firstP (s.data.toList ++ [191, 191, 191])).2)) = r) := hr
  rw [hr]
  clear hr
  generalize firstP (s.data.toList ++ [128, 128, 128]) = p at *
  generalize firstP (s.data.toList ++ [191, 191, 191]) = q at *
  obtain ⟨pc, pn⟩ := p
  obtain ⟨qc, qn⟩ := q
  simp only at H1 H2 HB
  have i0 : ∀ w, (Instr.index 63 (.agg #[.string ⟨#[128, 128, 128]⟩, .string ⟨#[191, 191, 191]⟩]) (.int .i64 0)).run Tryz.prog w = .ok (.string ⟨#[128, 128, 128]⟩) w := fun _ => by kernel_rfl
  have i1 : ∀ w, (Instr.index 63 (.agg #[.string ⟨#[128, 128, 128]⟩, .string ⟨#[191, 191, 191]⟩]) (.int .i64 1)).run Tryz.prog w = .ok (.string ⟨#[191, 191, 191]⟩) w := fun _ => by kernel_rfl
  go_enter Tryz.func24, Tryz.ntmps24
  go_wp2_with fail
  refine wp_loop_rounds 3 ?_
  rw [rounds_succ]
  go_wp2_with fail
  refine (H1.out _).mono ?_
  rintro e w' ⟨rfl, rfl⟩
  by_cases hp : 0 < pn
  · have hpi : (0 : Int) < (pn : Int) := by omega
    have hr : r = true := by rw [← HB.out]; simp [hp]
    subst hr
    clear HB
    go_wp2_with fail
    go_ret
    exact ⟨rfl, rfl⟩
  · have hpi : ¬ (0 : Int) < (pn : Int) := by omega
    go_wp2_with fail
    rw [rounds_succ]
    go_wp2_with fail
    refine (H2.out _).mono ?_
    rintro e w' ⟨rfl, rfl⟩
    by_cases hq : 0 < qn
    · have hqi : (0 : Int) < (qn : Int) := by omega
      have hr : r = true := by rw [← HB.out]; simp [hq]
      subst hr
      clear HB
      go_wp2_with fail
      go_ret
      exact ⟨rfl, rfl⟩
    · have hqi : ¬ (0 : Int) < (qn : Int) := by omega
      have hr : r = false := by rw [← HB.out]; simp [hp, hq]
      subst hr
      clear HB
      go_wp2_with fail
      rw [rounds_succ]
      go_wp2_with fail
      go_ret
      exact ⟨rfl, rfl⟩
end Go.Proofs.YtnooloojnhodiaaGreatDoor
/- strings.Clone: a copy of a text; the library's contract, laid at this program. -/
namespace Go.Proofs.YtnooloojnhodiaaGreatDoor
open Go.Shelf Go.RowKit
set_option linter.unusedVariables false
def cloneRen : Go.Shelf.Ren := ⟨fun | 316 => 38 | n => n, fun | 0 => 0 | 3 => 3 | 4 => 4 | 5 => 5 | 9 => 9 | 37 => 32 | 127 => 71 | n => n, fun | n => n⟩
theorem cloneLay : Go.Proofs.LaysM.n316 Tryz.prog cloneRen := {
  mixed := by kernel_rfl
  f316 := Tryz.func38.trans (congrArg some (by kernel_rfl))
  t0 := Tryz.underlying0
  a0 := Tryz.isAgg0
  z0 := Tryz.sizeOf0
  v0 := Tryz.zeroValue0
  t3 := Tryz.underlying3
  a3 := Tryz.isAgg3
  z3 := Tryz.sizeOf3
  v3 := Tryz.zeroValue3
  t4 := Tryz.underlying4
  a4 := Tryz.isAgg4
  z4 := Tryz.sizeOf4
  v4 := Tryz.zeroValue4
  t9 := Tryz.underlying9
  a9 := Tryz.isAgg9
  z9 := Tryz.sizeOf9
  v9 := Tryz.zeroValue9
  t37 := Tryz.underlying32
  a37 := Tryz.isAgg32
  z37 := Tryz.sizeOf32
  v37 := Tryz.zeroValue32
  t127 := Tryz.underlying71
  a127 := Tryz.isAgg71
  z127 := Tryz.sizeOf71
  v127 := Tryz.zeroValue71
  t5 := Tryz.underlying5
  a5 := Tryz.isAgg5
  z5 := Tryz.sizeOf5
  v5 := Tryz.zeroValue5
  i0 := by kernel_rfl
  i3 := by kernel_rfl
  i4 := by kernel_rfl
  i5 := by kernel_rfl
  i9 := by kernel_rfl
  i37 := by kernel_rfl
  i127 := by kernel_rfl }
set_option maxHeartbeats 1000000 in
theorem clone_any (s : ByteArray) (w : World) (hs : s.size ≤ 281474976710656) : Calls Tryz.prog 25 #[.string s] w fun e w' => e = .returned (.string s) ∧ Below w.heap.size w w' := by
  have H := Lib.hid (Any.stringslite_Clone cloneLay s w hs)
  clear hs
  go_enter Tryz.func25, Tryz.ntmps25
  go_wp2_with fail
  refine H.out.mono ?_
  rintro e w1 ⟨rfl, hb⟩
  go_wp2_with fail
  go_ret
  exact ⟨rfl, hb⟩
end Go.Proofs.YtnooloojnhodiaaGreatDoor
/- The walk of a Stream's Write. -/
namespace Go.Proofs.YtnooloojnhodiaaGreatDoor
set_option linter.unusedVariables false
open Go.RowKit
/-- v is a slice of bytes: none, or in blocks from B on. -/
def BySl (B : Nat) (w : World) (v : Value) (bs : List UInt8) : Prop := (v = .slice none 0 0 ∧ bs = []) ∨ ∃ g off cap, v = .slice (some ⟨g, off, none⟩) bs.length cap ∧ B ≤ g ∧ g < w.heap.size ∧ ∀ i, i < bs.length → w.cell? ⟨g, off + i, none⟩ = some (.int .u8 ((bs.getD i 0).toNat : Int))
theorem conv_by {B : Nat} {w : World} {v : Value} {bs : List UInt8} (h : BySl B w v bs) : (convert 32 9 v).run Tryz.prog w = .ok (.string ⟨bs.toArray⟩) w := by
  rcases h with ⟨rfl, rfl⟩ | ⟨g, off, cap, rfl, h1, h2, h3⟩
  · exact run_convert_bytes_nil w 32 5 Tryz.underlying32 Tryz.underlying5 0 0 9 Tryz.underlying9
  · rw [← strOf_bytes]
    refine run_convert_bytes_arg w 32 5 Tryz.underlying32 Tryz.underlying5 g off bs.length cap _ (List.length_map _) (fun i hi => ?_) 9 Tryz.underlying9
    rw [h3 i hi]
    simp [List.getD_eq_getElem?_getD, List.getElem?_eq_getElem hi]
theorem BySl.below {B : Nat} {w w' : World} {v : Value} {bs : List UInt8} (h : BySl B w v bs) (k : Below w.heap.size w w') : BySl B w' v bs := by
  rcases h with h | ⟨g, off, cap, e, h1, h2, h3⟩
  · exact .inl h
  · exact .inr ⟨g, off, cap, e, h1, Nat.lt_of_lt_of_le h2 k.size, fun i hi => (k.cell h2).trans (h3 i hi)⟩
theorem BySl.upd {B b : Nat} {w w' : World} {v : Value} {bs : List UInt8} (h : BySl B w v bs) (k : Upd b w w') (hb : b < B) : BySl B w' v bs := by
  rcases h with h | ⟨g, off, cap, e, h1, h2, h3⟩
  · exact .inl h
  · exact .inr ⟨g, off, cap, e, h1, Nat.lt_of_lt_of_le h2 k.size, fun i hi => (World.cell?_of_block (w := w) (a := ⟨g, off + i, none⟩) (k.block g h2 (by omega))).trans (h3 i hi)⟩
theorem BySl.len {B : Nat} {w : World} {v : Value} {bs : List UInt8} (h : BySl B w v bs) : ∃ a cap, v = .slice a bs.length cap := by
  rcases h with ⟨rfl, rfl⟩ | ⟨g, off, cap, e, _⟩
  · exact ⟨_, _, rfl⟩
  · exact ⟨_, _, e⟩
theorem BySl.own {B : Nat} {w : World} {v : Value} {bs : List UInt8} (h : OwnV 5 B w v (bs.map bv)) : BySl B w v bs := by
  rcases h.nilOr with ⟨h1, h2⟩ | ⟨g, cap, h1, h2, h3, h4, h5⟩
  · exact .inl ⟨h1, by simpa using h2⟩
  · rw [List.length_map] at h1
    refine .inr ⟨g, 0, cap, h1, h2, h3, fun i hi => ?_⟩
    rcases h.rd with ⟨a, c, e1, e2⟩ | ⟨g', off', c, e1, e2, e3, e4, e5, e6⟩
    · have : bs = [] := by simpa using e2
      subst this; simp at hi
    · rw [h1, List.length_map] at e1
      simp only [Value.slice.injEq, Option.some.injEq, Addr.mk.injEq] at e1
      obtain ⟨⟨rfl, rfl, -⟩, -, -⟩ := e1
      rw [e6 i (by rw [List.length_map]; exact hi)]
      simp [List.getD_eq_getElem?_getD, List.getElem?_eq_getElem hi, bv]
theorem OwnV.upd {E B b : Nat} {w w' : World} {v : Value} {vs : List Value} (h : OwnV E B w v vs) (k : Upd b w w') (hb : b < B) : OwnV E B w' v vs := by
  obtain ⟨h1, h2⟩ := h
  refine ⟨h1, ?_⟩
  rcases h2 with h2 | ⟨g, cap, cur, e1, e2, e3, e4⟩
  · exact .inl h2
  · exact .inr ⟨g, cap, cur, e1, e2, (k.block g (Array.getElem?_eq_some_iff.1 e3).1 (by omega)).trans e3, e4⟩
theorem Upd.more {b : Nat} {w x y : World} (h : Upd b w x) (k : Below w.heap.size x y) : Upd b w y :=
  ⟨k.os.trans h.os, k.tape.trans h.tape, k.output.trans h.output, Nat.le_trans h.size k.size, fun i hi hn => (k.block i hi).trans (h.block i hi hn)⟩
theorem StrmAt.keep {B b : Nat} {w w' : World} {cut : ByteArray} {H : List Int} (h : StrmAt w b cut H) (k : Below B w w') (hb : b < B) : StrmAt w' b cut H := by
  obtain ⟨hs, h1, h2⟩ := h; exact ⟨hs, ⟨(k.block b hb).trans h1.1, h1.2⟩, h2⟩
/-- What Write does. -/
def WriteOut (w : World) (b : Nat) (cut H : _root_.List UInt8 × List Int) (e : Ending) (w' : World) : Prop := True
def WrBig (w : World) (b : Nat) (whole : List UInt8) (H : List Int) (e : Ending) (w' : World) : Prop :=
  ∃ l r, Dec whole l r ∧ runH [] H (partsP l) = none ∧ e = .returned (.tuple #[.slice none 0 0, .int .i64 2]) ∧ DeadAt w' b 2
def WrBad (w : World) (b : Nat) (whole : List UInt8) (H : List Int) (e : Ending) (w' : World) : Prop :=
  ∃ l r, Dec whole l r ∧ (firstP r).2 = 0 ∧ r ≠ [] ∧ bgP r = false ∧ e = .returned (.tuple #[.slice none 0 0, .int .i64 1]) ∧ DeadAt w' b 1
def WrOk (w : World) (b : Nat) (whole : List UInt8) (H : List Int) (e : Ending) (w' : World) : Prop :=
  ∃ l r S H' out v, Dec whole l r ∧ runH [] H (partsP l) = some (S, H') ∧ (firstP r).2 = 0 ∧ (r = [] ∨ bgP r = true) ∧ writeP S = some out ∧ e = .returned (.tuple #[v, .int .i64 0]) ∧ OwnV 5 w.heap.size w' v (out.map bv) ∧ StrmAt w' b ⟨r.toArray⟩ H' ∧ PartsOk H'
def WrRes (w : World) (b : Nat) (whole : List UInt8) (H : List Int) (e : Ending) (w' : World) : Prop :=
  Upd b w w' ∧ (WrBig w b whole H e w' ∨ WrBad w b whole H e w' ∨ WrOk w b whole H e w')
def WrRel (w : World) (b : Nat) (cut : ByteArray) (H : List Int) (whole : List UInt8) (t : ByteArray) (v : Value) (wr : World) : Prop :=
  ∃ l S H' out, Dec whole l t.data.toList ∧ runH [] H (partsP l) = some (S, H') ∧ writeP S = some out ∧ OwnV 5 w.heap.size wr v (out.map bv) ∧ StrmAt wr b cut H' ∧ PartsOk H' ∧ Upd b w wr
theorem dec_step {whole : List UInt8} {l : List Int} {t : List UInt8} (h : Dec whole l t) (hn : (firstP t).2 ≠ 0) : Dec whole (l ++ [(firstP t).1]) (t.drop (firstP t).2) := by
  obtain ⟨hv, he⟩ := first_inv t hn
  obtain ⟨a, h1, rfl⟩ := h
  refine ⟨a ++ encP (firstP t).1, wr_app _ _ _ _ h1 (by simp [writeP, hv]), ?_⟩
  rw [he, List.append_assoc, List.take_append_drop]
theorem parts_snoc (l : List Int) (c : Int) : partsP (l ++ [c]) = partsP l ++ charsP [c] := by rw [partsP_app]; simp [partsP]
theorem run_snoc {H S H' l : List Int} (h : runH [] H (partsP l) = some (S, H')) (c : Int) : runH [] H (partsP (l ++ [c])) = (runH [] H' (charsP [c])).map fun q => (S ++ q.1, q.2) := by
  rw [parts_snoc, runH_app, h]
  show runH S H' (charsP [c]) = _
  have := runH_pre (charsP [c]) S [] H'
  rw [List.append_nil] at this
  exact this
theorem bv_str (s : ByteArray) : Lib.strCells s = s.data.toList.map bv := rfl
theorem rel_out {w wr : World} {b : Nat} {cut : ByteArray} {H : List Int} {whole : List UInt8} {l S H' : List Int} {out t : List UInt8} (h1 : Dec whole l t) (h2 : runH [] H (partsP l) = some (S, H')) (h3 : writeP S = some out) (hH : H.length ≤ 31) (hw : whole.length ≤ 100000) : out.length ≤ 5000000 := by
  have e1 := runH_len _ _ _ _ _ h2
  have e2 := wr_le _ _ h3
  have e3 := parts_len l
  obtain ⟨a, k1, k2⟩ := h1
  have e4 : l.length ≤ a.length := by
    have := read_len a l (by have := read_write' l a k1; exact this)
    exact this
  have e5 := congrArg List.length k2
  rw [List.length_append] at e5
  simp only [List.length_nil] at e1
  omega
theorem wr_ok {w wr w3 : World} {b : Nat} {cut : ByteArray} {H l S H' : List Int} {whole out : List UInt8} {t : ByteArray} {v : Value} (h : Dec whole l t.data.toList ∧ runH [] H (partsP l) = some (S, H') ∧ (firstP t.data.toList).2 = 0 ∧ writeP S = some out ∧ OwnV 5 w.heap.size wr v (out.map bv) ∧ StrmAt wr b cut H' ∧ PartsOk H' ∧ Upd b w wr)
    (hb : Below wr.heap.size wr w3) (hB : b < w.heap.size) (hr : t.data.toList = [] ∨ bgP t.data.toList = true) : WrRes w b whole H (.returned (.tuple #[v, .int .i64 0])) (w3.setCell ⟨b, 0, none⟩ (.string t)) := by
  obtain ⟨h1, h2, h3, h4, h5, h6, h7, h8⟩ := h
  obtain ⟨hs, k1, k2⟩ := h6.below hb
  exact ⟨(h8.trans (Upd.of hb)).trans (Upd.set b 0 _ _), .inr (.inr ⟨l, _, S, H', out, v, h1, h2, h3, hr, h4, rfl, (h5.below hb).upd (Upd.set b 0 _ _) hB, ⟨hs, k1.setCut _, k2⟩, h7⟩)⟩
set_option maxHeartbeats 8000000 in
set_option maxRecDepth 100000 in
theorem swrite_any (u w : World) (hE : ErrAt u) (hSp : SpAt u) (hu : Below u.heap.size u w) (b : Nat) (hub : u.heap.size ≤ b) (cut : ByteArray) (H : List Int) (h : StrmAt w b cut H) (hp : PartsOk H) (v : Value) (B : Nat) (s : ByteArray) (hv : BySl B w v s.data.toList) (hlen : cut.size + s.size ≤ 100000) :
    Calls Tryz.prog 12 #[.pointer (some ⟨b, 0, none⟩), v] w (WrRes w b (cut.data.toList ++ s.data.toList) H) := by
  have hH31 := h.len
  have hlt := h.lt
  have hsum : cut.size + s.size ≤ 9223372036854775807 := by omega
  have hcv : Hid (∀ W, Below w.heap.size w W → (convert 32 9 v).run Tryz.prog W = .ok (.string s) W) := Lib.hid fun W hW => conv_by (hv.below hW)
  have hc0 : w.cell? ⟨b, 0, none⟩ = some (.string cut) := by obtain ⟨hs, h1, _⟩ := h; exact h1.c0
  have hce : w.cell? ⟨b, 34, none⟩ = some (.int .i64 0) := by obtain ⟨hs, h1, _⟩ := h; exact h1.e
  have HEN := Lib.hid (ended_any w b 0 hce)
  have HST := Lib.hid h
  have HPO := Lib.hid hp
  have HEE := Lib.hid hE
  have HSS := Lib.hid hSp
  have ewhole : (cut ++ s).data.toList = cut.data.toList ++ s.data.toList := by simp
  have hts : (cut ++ s).size ≤ 100000 := by rw [ByteArray.size_append]; exact hlen
  obtain ⟨whole, hw⟩ : ∃ x, cut.data.toList ++ s.data.toList = x := ⟨_, rfl⟩
  rw [hw] at ewhole ⊢
  have hwl : whole.length ≤ 100000 := by rw [← ewhole, size_toList]; exact hts
  have HW := Lib.hid ewhole
  clear hv h hp hE hSp hw ewhole hce
  go_enter Tryz.func12, Tryz.ntmps12
  go_wp2_with fail
  refine HEN.out.mono ?_
  rintro e w' ⟨rfl, rfl⟩
  clear HEN
  go_wp2_with fail
  refine wp_region_held_drew (S := Below w.heap.size w) (by kernel_rfl) (Below.refl _ _).drew (fun hHeld => ?_)
  refine takeYes (i := 0) (k := 18) (v := .pointer (some ⟨b, 0, none⟩)) rfl (by kernel_rfl) (by kernel_rfl) (by kernel_rfl) (by kernel_rfl) (fun _ _ _ h => h) (by kernel_rfl) ?_ (by assumption) ?_
  · intro W hSw; first | (go_simp; done) | go_simp
  try simp only [Act.put, List.setIfInBounds_toArray, List.set_cons_zero, List.set_cons_succ]
  refine takeYes (i := 1) (k := 19) (v := .pointer (some ⟨b, 0, none⟩)) rfl (by kernel_rfl) (by kernel_rfl) (by kernel_rfl) (by kernel_rfl) (fun _ _ _ h => h) (by kernel_rfl) ?_ (by assumption) ?_
  · intro W hSw; first | (go_simp; done) | go_simp
  try simp only [Act.put, List.setIfInBounds_toArray, List.set_cons_zero, List.set_cons_succ]
  refine takeYes (i := 2) (k := 20) (v := .pointer (some ⟨b, 0, none⟩)) rfl (by kernel_rfl) (by kernel_rfl) (by kernel_rfl) (by kernel_rfl) (fun _ _ _ h => h) (by kernel_rfl) ?_ (by assumption) ?_
  · intro W hSw; first | (go_simp; done) | go_simp
  try simp only [Act.put, List.setIfInBounds_toArray, List.set_cons_zero, List.set_cons_succ]
  refine takeYes (i := 3) (k := 21) (v := .string cut) rfl (by kernel_rfl) (by kernel_rfl) (by kernel_rfl) (by kernel_rfl) (fun _ _ _ h => h) (by kernel_rfl) ?_ (by assumption) ?_
  · intro W hSw; have hcc := (hSw.cell (p := ⟨b, 0, none⟩) hlt).trans hc0; first | (go_simp; done) | go_simp
  try simp only [Act.put, List.setIfInBounds_toArray, List.set_cons_zero, List.set_cons_succ]
  refine takeYes (i := 4) (k := 22) (v := v) rfl (by kernel_rfl) (by kernel_rfl) (by kernel_rfl) (by kernel_rfl) (fun _ _ _ h => h) (by kernel_rfl) ?_ (by assumption) ?_
  · intro W hSw; first | (go_simp; done) | go_simp
  try simp only [Act.put, List.setIfInBounds_toArray, List.set_cons_zero, List.set_cons_succ]
  refine takeYes (i := 5) (k := 23) (v := .string s) rfl (by kernel_rfl) (by kernel_rfl) (by kernel_rfl) (by kernel_rfl) (fun _ _ _ h => h) (by kernel_rfl) ?_ (by assumption) ?_
  · intro W hSw; have hcv2 := hcv.out W hSw; first | (go_simp; done) | go_simp
  try simp only [Act.put, List.setIfInBounds_toArray, List.set_cons_zero, List.set_cons_succ]
  refine takeYes (i := 6) (k := 24) (v := .string (cut ++ s)) rfl (by kernel_rfl) (by kernel_rfl) (by kernel_rfl) (by kernel_rfl) (fun _ _ _ h => h) (by kernel_rfl) ?_ (by assumption) ?_
  · intro W hSw; have hsm := hsum; first | (go_simp; done) | go_simp
  try simp only [Act.put, List.setIfInBounds_toArray, List.set_cons_zero, List.set_cons_succ]
  refine takeYes (i := 7) (k := 8) (v := .string (cut ++ s)) rfl (by kernel_rfl) (by kernel_rfl) (by kernel_rfl) (by kernel_rfl) (fun _ _ _ h => h) (by kernel_rfl) ?_ (by assumption) ?_
  · intro W hSw; first | (go_simp; done) | go_simp
  try simp only [Act.put, List.setIfInBounds_toArray, List.set_cons_zero, List.set_cons_succ]
  refine wpAnyH_done (by kernel_rfl) ?_ _
  have HB1 := Lib.hid hHeld
  obtain ⟨w1, hw1⟩ : ∃ w1, w.drew = w1 := ⟨_, rfl⟩
  rw [hw1] at HB1 ⊢
  clear hHeld hcv hc0 hsum hw1
  obtain ⟨t0, ht0⟩ : ∃ t, cut ++ s = t := ⟨_, rfl⟩
  rw [ht0] at HW hts ⊢
  clear ht0
  have HR0 : Hid (WrRel w b cut H whole t0 (.slice none 0 0) w1) := Lib.hid ⟨[], [], H, [], ⟨[], rfl, by rw [HW.out]; rfl⟩, rfl, rfl, OwnV.nil _ _ _, HST.out.below HB1.out, HPO.out, Upd.of HB1.out⟩
  have HF0 := Lib.hid (first_any t0 (by unfold maxLen; omega) w1)
  obtain ⟨fc, efc⟩ : ∃ x, (firstP t0.data.toList).1 = x := ⟨_, rfl⟩
  obtain ⟨fn, efn⟩ : ∃ x, (firstP t0.data.toList).2 = x := ⟨_, rfl⟩
  rw [efc, efn] at HF0
  have HEF : Hid ((firstP t0.data.toList).1 = fc ∧ (firstP t0.data.toList).2 = fn) := ⟨efc, efn⟩
  clear efc efn
  go_wp2_with fail
  refine HF0.out.mono ?_
  rintro e w' ⟨rfl, rfl⟩
  clear HF0
  go_wp2_with fail
  go_loopw [7, 8, 9, 10] (fun vv tv cv nv wr => ∃ (t : ByteArray) (fc : Int) (fn : Nat), tv = .string t ∧ cv = .int .i64 fc ∧ nv = .int .i64 fn ∧ t.size ≤ 100000 ∧ Hid ((firstP t.data.toList).1 = fc ∧ (firstP t.data.toList).2 = fn) ∧ Hid (WrRel w b cut H whole t vv wr)) (fun _ tv _ _ _ => match tv with | .string t => t.size | _ => 0)
  case atStart => exact ⟨t0, fc, fn, rfl, rfl, rfl, hts, HEF, HR0⟩
  case round =>
    clear HR0 HEF hts HW
    obtain ⟨t, fc, fn, rfl, rfl, rfl, hts, HEF, HR⟩ := hrel
    obtain ⟨l, S, H', out, r1, r2, r3, r4, r5, r6, r7⟩ := HR.out
    have HU1 : Hid (Below u.heap.size u wr) := Lib.hid (r7.below hu hub hu.size)
    have hol := rel_out (w := w) (wr := wr) (b := b) (cut := cut) r1 r2 r3 hH31 hwl
    have hblr : b < wr.heap.size := r5.lt
    by_cases hn : fn = 0
    · subst hn
      have HD : Hid (Dec whole l t.data.toList ∧ runH [] H (partsP l) = some (S, H') ∧ (firstP t.data.toList).2 = 0 ∧ writeP S = some out ∧ OwnV 5 w.heap.size wr u7 (out.map bv) ∧ StrmAt wr b cut H' ∧ PartsOk H' ∧ Upd b w wr) := ⟨r1, r2, HEF.out.2, r3, r4, r5, r6, r7⟩
      have HROW : Hid (∃ hs, RowAt wr b cut hs H'.length (mkN H') 0) := Lib.hid (by obtain ⟨hs, h1, _⟩ := r5; exact ⟨hs, h1⟩)
      clear r1 r2 r3 r4 r5 r6 r7 HR HEF
      have HCL := Lib.hid (clone_any t wr (by omega))
      by_cases ht : 0 < t.size
      · have hemp := isEmpty_no ht
        have hemp2 : (!t.toList.isEmpty) = true := by rw [hemp]; rfl
        have HNE : Hid (t.data.toList ≠ []) := Lib.hid fun e => by have := size_toList t; rw [e] at this; simp at this; omega
        have HBG := Lib.hid (begins_any t (by omega) wr)
        obtain ⟨q, hq⟩ : ∃ q, bgP t.data.toList = q := ⟨_, rfl⟩
        rw [hq] at HBG
        have HQ := Lib.hid hq
        clear hq
        cases q with
        | false =>
          have HSTP : Hid (Calls Tryz.prog 23 #[.pointer (some ⟨b, 0, none⟩), .int .i64 1] wr fun e w' => e = .returned (.int .i64 1) ∧ Upd b wr w' ∧ DeadAt w' b 1) := Lib.hid (by obtain ⟨hs, h1⟩ := HROW.out; exact stop_any wr b cut hs _ _ _ 1 h1)
          go_wp2_with fail
          refine HBG.out.mono ?_
          rintro e w' ⟨rfl, rfl⟩
          go_wp2_with fail
          refine HSTP.out.mono ?_
          rintro e w3 ⟨rfl, hu3, hd3⟩
          go_wp2_with fail
          go_ret2
          exact ⟨HD.out.2.2.2.2.2.2.2.trans hu3, .inr (.inl ⟨l, _, HD.out.1, HD.out.2.2.1, HNE.out, HQ.out, rfl, hd3⟩)⟩
        | true =>
          go_wp2_with fail
          refine HBG.out.mono ?_
          rintro e w' ⟨rfl, rfl⟩
          go_wp2_with fail
          refine HCL.out.mono ?_
          rintro e w3 ⟨rfl, hb3⟩
          obtain ⟨hs, hrow⟩ := HROW.out
          have hrow3 := hrow.below hb3
          have c0 := hrow3.c0
          have f0 := hrow3.free 0
          have HR3 := Lib.hid hrow3
          have HB3 := Lib.hid hb3
          clear hrow hrow3 hb3
          go_wp2_with fail
          go_ret2
          exact wr_ok HD.out HB3.out hlt (.inr HQ.out)
      · have hemp := isEmpty_yes ht
        have hemp2 : (!t.toList.isEmpty) = false := by rw [hemp]; rfl
        have HNE : Hid (t.data.toList = []) := Lib.hid (toList_nil ht)
        go_wp2_with fail
        refine HCL.out.mono ?_
        rintro e w3 ⟨rfl, hb3⟩
        obtain ⟨hs, hrow⟩ := HROW.out
        have hrow3 := hrow.below hb3
        have c0 := hrow3.c0
        have f0 := hrow3.free 0
        have HR3 := Lib.hid hrow3
        have HB3 := Lib.hid hb3
        clear hrow hrow3 hb3
        go_wp2_with fail
        go_ret2
        exact wr_ok HD.out HB3.out hlt (.inl HNE.out)
    · have hn1 : (0 : Int) < (fn : Int) := by omega
      have hne : (firstP t.data.toList).2 ≠ 0 := by rw [HEF.out.2]; exact hn
      have hfv := (first_inv t.data.toList hne).1
      rw [HEF.out.1] at hfv
      have hdec := dec_step r1 hne
      rw [HEF.out.1, HEF.out.2] at hdec
      have hrun := run_snoc r2 fc
      have hle := firstP_le t.data.toList
      rw [HEF.out.2, size_toList] at hle
      have HTK := Lib.hid (take_any u wr HEE.out HSS.out HU1.out b hub cut H' r5 r6 fc hfv)
      have HDEC := Lib.hid hdec
      have H7 := Lib.hid r7
      have H4 := Lib.hid r4
      have H3 := Lib.hid r3
      have HPC : Hid (H'.length ≤ 31 ∧ (charsP [fc]).length ≤ 10) := ⟨r5.len, by rw [chars_one, orderP_len]; exact (apart_len fc).1⟩
      cases hr : runH [] H' (charsP [fc]) with
      | none =>
        rw [hr] at HTK hrun
        have HRUN := Lib.hid hrun
        clear r1 r2 r3 r4 r5 r6 r7 HR hne hfv hdec hrun hr
        go_wp2_with fail
        refine HTK.out.mono ?_
        rintro e w2 ⟨hu2, rfl, hs, n', m', hrow⟩
        have HSTP := Lib.hid (stop_any w2 b cut hs n' m' 0 2 hrow)
        have HU2 := Lib.hid hu2
        clear hu2 hrow
        go_wp2_with fail
        refine HSTP.out.mono ?_
        rintro e w3 ⟨rfl, hu3, hd3⟩
        go_wp2_with fail
        go_ret2
        exact ⟨(H7.out.trans HU2.out).trans hu3, .inl ⟨_, _, HDEC.out, HRUN.out, rfl, hd3⟩⟩
      | some q =>
        obtain ⟨S2, H2⟩ := q
        rw [hr] at HTK hrun
        have HRUN : Hid (runH [] H (partsP (l ++ [fc])) = some (S ++ S2, H2)) := Lib.hid hrun
        have HQ2 := Lib.hid hr
        clear r1 r2 r3 r4 r5 r6 r7 HR hne hfv hdec hrun hr
        go_wp2_with fail
        refine HTK.out.mono ?_
        rintro e w2 ⟨hu2, bs2, hbs2, rfl, hst2, hpo2⟩
        obtain ⟨s2, es2⟩ : ∃ s2 : ByteArray, (⟨bs2.toArray⟩ : ByteArray) = s2 := ⟨_, rfl⟩
        have hbs3 : writeP S2 = some s2.data.toList := by rw [hbs2, ← es2]
        rw [es2]
        have hs2 : s2.size ≤ 1000 := by
          have e1 := runH_len _ _ _ _ _ HQ2.out
          have e2 := wr_le _ _ hbs3
          rw [size_toList] at e2
          have e3 := HPC.out
          simp only [List.length_nil] at e1
          omega
        have HOWN := Lib.hid (H4.out.upd hu2 hlt)
        have HBS : Hid (writeP (S ++ S2) = some (out ++ s2.data.toList)) := Lib.hid (wr_app _ _ _ _ H3.out hbs3)
        have HU2 := Lib.hid hu2
        have HS2 := Lib.hid hst2
        have HP2 := Lib.hid hpo2
        have hA : (out.map bv).length + s2.size ≤ maxLen := by rw [List.length_map]; unfold maxLen; omega
        have hBy : (out.map bv).length + s2.size ≤ 140737488355328 := by rw [List.length_map]; omega
        have hBase : w.heap.size ≤ w2.heap.size := Nat.le_trans H7.out.size hu2.size
        obtain ⟨t2, et2⟩ : ∃ t2 : ByteArray, t.extract fn t.size = t2 := ⟨_, rfl⟩
        have ht2 : t2.size = t.size - fn := by rw [← et2, strLen hle]
        have HT2 : Hid (t2.data.toList = t.data.toList.drop fn) := Lib.hid (by rw [← et2, rest_data])
        have HF2 : Hid (∀ w, Calls Tryz.prog 21 #[.string t2] w fun e w' => e = .returned (.tuple #[.int .i64 (firstP t2.data.toList).1, .int .i64 ((firstP t2.data.toList).2 : Nat)]) ∧ w = w') := Lib.hid fun w => first_any t2 (by unfold maxLen; omega) w
        have HT2E := Lib.hid et2
        have ht2l : t2.size ≤ 100000 ∧ t2.size < t.size := by omega
        obtain ⟨i0, hi, hz0, hz1, hz2⟩ := info_parts elem_u8.2.1
        have HI := Lib.hid hi
        have HZ0 := Lib.hid hz0
        have HZ1 := Lib.hid hz1
        have HZ2 := Lib.hid hz2
        clear hu2 hbs2 hbs3 es2 hst2 hpo2 et2 ht2 hi hz0 hz1 hz2
        go_wp2_with (refine Lib.wpList_append_own_string _ rfl (.tmp 47) (.tmp 48) 32 9 rfl w.heap.size 5 i0 Tryz.underlying32 Tryz.underlying9 HI.out HZ0.out HZ1.out HZ2.out u7 (out.map bv).length (out.map bv) rfl HOWN.out s2 rfl hA hBy hBase ?_)
        intro v3 w3 g1 g2 _
        have HOW3 : Hid (OwnV 5 w.heap.size w3 v3 ((out ++ s2.data.toList).map bv)) := Lib.hid (by
          unfold OwnV
          rw [List.map_append, ← bv_str s2, List.length_append, Lib.strCells_length, List.length_map]
          exact g1)
        have HB3 : Hid (Below w.heap.size w2 w3) := Lib.hid ((Below.refl _ _).grown g2 hBase fun k hk => (World.ownsRow.lt HOWN.out k hk).1)
        clear g1 g2 hA hBy
        go_wp2_with fail
        rw [HT2E.out]
        refine (HF2.out _).mono ?_
        rintro e w' ⟨rfl, rfl⟩
        have HNEW : Hid (WrRel w b cut H whole t2 v3 w3) := Lib.hid ⟨l ++ [fc], S ++ S2, H2, _, by rw [HT2.out]; exact HDEC.out, HRUN.out, HBS.out, HOW3.out, HS2.out.keep HB3.out hlt, HP2.out, (H7.out.trans HU2.out).more HB3.out⟩
        obtain ⟨fc2, efc⟩ : ∃ x, (firstP t2.data.toList).1 = x := ⟨_, rfl⟩
        obtain ⟨fn2, efn⟩ : ∃ x, (firstP t2.data.toList).2 = x := ⟨_, rfl⟩
        rw [efc, efn]
        have HEF2 : Hid ((firstP t2.data.toList).1 = fc2 ∧ (firstP t2.data.toList).2 = fn2) := ⟨efc, efn⟩
        clear efc efn HF2
        go_wp2_with fail
        go_roundw
        case rel => exact ⟨t2, fc2, fn2, rfl, rfl, rfl, ht2l.1, HEF2, HNEW⟩
        case measure => exact ht2l.2
end Go.Proofs.YtnooloojnhodiaaGreatDoor
/- The walks of a Stream's Close, and of all calls behind its end. -/
namespace Go.Proofs.YtnooloojnhodiaaGreatDoor
set_option linter.unusedVariables false
open Go.RowKit
theorem below_conv (w : World) (e : TypeId) (s : ByteArray) : Below w.heap.size w (Lib.bytesWorld w e s) :=
  ⟨rfl, rfl, rfl, by rw [Lib.bytesWorld_size]; omega, fun k hk => Lib.bytesWorld_at_old w e s k hk⟩
theorem conv_new_by (w : World) (s : ByteArray) {B : Nat} (hB : B ≤ w.heap.size) : BySl B (Lib.bytesWorld w 5 s) (.slice (some ⟨w.heap.size, 0, none⟩) s.size (grownCap w s.size 0 5)) s.data.toList := by
  refine .inr ⟨w.heap.size, 0, _, by rw [size_toList], hB, by rw [Lib.bytesWorld_size]; omega, fun i hi => ?_⟩
  rw [size_toList] at hi
  rw [Nat.zero_add]
  exact Lib.bytesWorld_cell w _ s i hi
def NilRes (n : Int) (e : Ending) : Prop := e = .returned (.tuple #[.slice none 0 0, .int .i64 n])
def CloseOk (w : World) (b : Nat) (bs : List UInt8) (e : Ending) (w' : World) : Prop := ∃ v, e = .returned (.tuple #[v, .int .i64 0]) ∧ BySl w.heap.size w' v bs ∧ Upd b w w' ∧ DeadAt w' b 11
set_option maxHeartbeats 4000000 in
set_option maxRecDepth 100000 in
theorem close_cut (w : World) (b : Nat) (cut : ByteArray) (H : List Int) (h : StrmAt w b cut H) (hc : 0 < cut.size) :
    Calls Tryz.prog 14 #[.pointer (some ⟨b, 0, none⟩)] w fun e w' => NilRes 1 e ∧ Upd b w w' ∧ DeadAt w' b 1 := by
  obtain ⟨hs, hrow, -⟩ := h
  have HEN := Lib.hid (ended_any w b 0 hrow.e)
  have HSTP := Lib.hid (stop_any w b cut hs _ _ _ 1 hrow)
  have c0 := hrow.c0
  have hemp := isEmpty_no hc
  have hemp2 : (!cut.toList.isEmpty) = true := by rw [hemp]; rfl
  clear hrow
  go_enter Tryz.func14, Tryz.ntmps14
  go_wp2_with fail
  refine HEN.out.mono ?_
  rintro e w' ⟨rfl, rfl⟩
  go_wp2_with fail
  refine HSTP.out.mono ?_
  rintro e w3 ⟨rfl, hu3, hd3⟩
  go_wp2_with fail
  go_ret2
  exact ⟨rfl, hu3, hd3⟩
set_option maxHeartbeats 4000000 in
set_option maxRecDepth 100000 in
theorem close_ok (u w : World) (hE : ErrAt u) (hSp : SpAt u) (hu : Below u.heap.size u w) (b : Nat) (hub : u.heap.size ≤ b) (cut : ByteArray) (H : List Int) (h : StrmAt w b cut H) (hp : PartsOk H) (hc : ¬ 0 < cut.size) (bs : List UInt8) (hb : writeP (orderP classP H) = some bs) :
    Calls Tryz.prog 14 #[.pointer (some ⟨b, 0, none⟩)] w (CloseOk w b bs) := by
  have HRel := Lib.hid (release_any u w hE hSp hu b hub cut H h hp)
  obtain ⟨hs, hrow, -⟩ := h
  have HEN := Lib.hid (ended_any w b 0 hrow.e)
  have c0 := hrow.c0
  have hemp := isEmpty_yes hc
  have hemp2 : (!cut.toList.isEmpty) = false := by rw [hemp]; rfl
  have HB := Lib.hid hb
  clear hrow hE hSp hp hb
  go_enter Tryz.func14, Tryz.ntmps14
  go_wp2_with fail
  refine HEN.out.mono ?_
  rintro e w' ⟨rfl, rfl⟩
  go_wp2_with fail
  refine HRel.out.mono ?_
  rintro e w2 ⟨bs2, hbs2, rfl, hu2, hst2⟩
  have e2 : bs2 = bs := by rw [HB.out] at hbs2; exact (Option.some.inj hbs2).symm
  subst e2
  obtain ⟨hs2, hrow2, -⟩ := hst2
  have HSTP := Lib.hid (stop_any w2 b cut hs2 _ _ _ 11 hrow2)
  have HU2 := Lib.hid hu2
  clear hrow2 hbs2 hu2 HRel
  go_wp2_with fail
  refine HSTP.out.mono ?_
  rintro e w3 ⟨rfl, hu3, hd3⟩
  have hcv := Lib.run_convert_string_bytes (P := Tryz.prog) w3 9 32 5 ⟨bs2.toArray⟩ (u := .string) Tryz.underlying9 Tryz.underlying32 Tryz.underlying5
  have hB3 : w.heap.size ≤ w3.heap.size := Nat.le_trans HU2.out.size hu3.size
  have HBY : Hid (BySl w.heap.size (Lib.bytesWorld w3 5 ⟨bs2.toArray⟩) (.slice (some ⟨w3.heap.size, 0, none⟩) (⟨bs2.toArray⟩ : ByteArray).size (grownCap w3 (⟨bs2.toArray⟩ : ByteArray).size 0 5)) bs2) := Lib.hid (conv_new_by w3 ⟨bs2.toArray⟩ hB3)
  have HUP : Hid (Upd b w (Lib.bytesWorld w3 5 ⟨bs2.toArray⟩) ∧ DeadAt (Lib.bytesWorld w3 5 ⟨bs2.toArray⟩) b 11) := ⟨(HU2.out.trans hu3).more ((below_conv w3 _ _).mono hB3), hd3.below (below_conv w3 _ _)⟩
  obtain ⟨w4, e4⟩ : ∃ w4, Lib.bytesWorld w3 5 ⟨bs2.toArray⟩ = w4 := ⟨_, rfl⟩
  obtain ⟨v4, ev⟩ : ∃ v4, Value.slice (some ⟨w3.heap.size, 0, none⟩) (⟨bs2.toArray⟩ : ByteArray).size (grownCap w3 (⟨bs2.toArray⟩ : ByteArray).size 0 5) = v4 := ⟨_, rfl⟩
  rw [e4, ev] at hcv HBY
  rw [e4] at HUP
  clear e4 ev hu3 hd3 HSTP
  go_wp2_with fail
  go_ret2
  exact ⟨v4, rfl, HBY.out, HUP.out.1, HUP.out.2⟩
set_option maxHeartbeats 4000000 in
set_option maxRecDepth 100000 in
theorem close_dead (w : World) (b : Nat) (n : Int) (hn : n ≠ 0) (h : DeadAt w b n) :
    Calls Tryz.prog 14 #[.pointer (some ⟨b, 0, none⟩)] w fun e w' => NilRes n e ∧ w = w' := by
  obtain ⟨cut, hs, m, hrow⟩ := h
  have HEN := Lib.hid (ended_any w b n hrow.e)
  have hnb : (n != 0) = true := by simpa using hn
  clear hrow
  go_enter Tryz.func14, Tryz.ntmps14
  go_wp2_with fail
  refine HEN.out.mono ?_
  rintro e w' ⟨rfl, rfl⟩
  go_wp2_with fail
  go_ret2
  exact ⟨rfl, rfl⟩
set_option maxHeartbeats 4000000 in
set_option maxRecDepth 100000 in
theorem write_dead (w : World) (b : Nat) (n : Int) (hn : n ≠ 0) (h : DeadAt w b n) (v : Value) :
    Calls Tryz.prog 12 #[.pointer (some ⟨b, 0, none⟩), v] w fun e w' => NilRes n e ∧ w = w' := by
  obtain ⟨cut, hs, m, hrow⟩ := h
  have HEN := Lib.hid (ended_any w b n hrow.e)
  have hnb : (n != 0) = true := by simpa using hn
  clear hrow
  go_enter Tryz.func12, Tryz.ntmps12
  go_wp2_with fail
  refine HEN.out.mono ?_
  rintro e w' ⟨rfl, rfl⟩
  go_wp2_with fail
  go_ret2
  exact ⟨rfl, rfl⟩
theorem held_open (w : World) (b : Nat) (cut : ByteArray) (H : List Int) (h : StrmAt w b cut H) :
    Calls Tryz.prog 15 #[.pointer (some ⟨b, 0, none⟩)] w fun e w' => e = .returned (.int .i64 H.length) ∧ w = w' := by
  obtain ⟨hs, hrow, -⟩ := h; exact held_any w b _ hrow.n
theorem held_dead (w : World) (b : Nat) (n : Int) (h : DeadAt w b n) :
    Calls Tryz.prog 15 #[.pointer (some ⟨b, 0, none⟩)] w fun e w' => e = .returned (.int .i64 0) ∧ w = w' := by
  obtain ⟨cut, hs, m, hrow⟩ := h; exact held_any w b _ hrow.n
/-! ### what every law begins with -/
end Go.Proofs.YtnooloojnhodiaaGreatDoor
/- What a Stream gives for a text that comes in pieces: one call behind the other. -/
namespace Go.Proofs.YtnooloojnhodiaaGreatDoor
set_option linter.unusedVariables false
open Go.RowKit
/-- p was written, out has come, and the Stream is open. -/
def OpenAt (w : World) (b : Nat) (p out : List UInt8) : Prop :=
  ∃ l cut S H, Dec p l cut.data.toList ∧ runH [] [] (partsP l) = some (S, H) ∧ (firstP cut.data.toList).2 = 0 ∧ (cut.data.toList = [] ∨ bgP cut.data.toList = true) ∧ writeP S = some out ∧ StrmAt w b cut H ∧ PartsOk H
theorem OpenAt.upd {w w' : World} {b c : Nat} {p out : List UInt8} (h : OpenAt w b p out) (k : Upd c w w') (hbc : b ≠ c) : OpenAt w' b p out := by
  obtain ⟨l, cut, S, H, h1, h2, h3, h4, h5, h6, h7⟩ := h; exact ⟨l, cut, S, H, h1, h2, h3, h4, h5, h6.upd k hbc, h7⟩
theorem OpenAt.below {w w' : World} {b : Nat} {p out : List UInt8} (h : OpenAt w b p out) (k : Below w.heap.size w w') : OpenAt w' b p out := by
  obtain ⟨l, cut, S, H, h1, h2, h3, h4, h5, h6, h7⟩ := h; exact ⟨l, cut, S, H, h1, h2, h3, h4, h5, h6.below k, h7⟩
theorem OpenAt.lt {w : World} {b : Nat} {p out : List UInt8} (h : OpenAt w b p out) : b < w.heap.size := by
  obtain ⟨l, cut, S, H, h1, h2, h3, h4, h5, h6, h7⟩ := h; exact h6.lt
theorem open_new {w : World} {b : Nat} (h : StrmAt w b ⟨#[]⟩ []) : OpenAt w b [] [] :=
  ⟨[], ⟨#[]⟩, [], [], ⟨[], rfl, rfl⟩, rfl, rfl, .inl rfl, rfl, h, fun _ h => by cases h⟩
/-- Too many marks. -/
def TooMany (p : List UInt8) : Prop := ∃ l r, Dec p l r ∧ runH [] [] (partsP l) = none
/-- Bytes that can begin no character. -/
def NoBegin (p : List UInt8) : Prop := ∃ l r, Dec p l r ∧ (firstP r).2 = 0 ∧ r ≠ [] ∧ bgP r = false
def StepRes (w : World) (b : Nat) (p out s : List UInt8) (e : Ending) (w' : World) : Prop :=
  Upd b w w' ∧ ((TooMany (p ++ s) ∧ NilRes 2 e ∧ DeadAt w' b 2) ∨ (NoBegin (p ++ s) ∧ NilRes 1 e ∧ DeadAt w' b 1) ∨
    ∃ v o, e = .returned (.tuple #[v, .int .i64 0]) ∧ OwnV 5 w.heap.size w' v (o.map bv) ∧ OpenAt w' b (p ++ s) (out ++ o))
theorem run_more {l m S H : List Int} (h : runH [] [] (partsP l) = some (S, H)) : runH [] [] (partsP (l ++ m)) = (runH [] H (partsP m)).map fun q => (S ++ q.1, q.2) := by
  rw [partsP_app, runH_app, h]
  show runH S H (partsP m) = _
  have := runH_pre (partsP m) S [] H
  rw [List.append_nil] at this
  exact this
theorem cut_short {cut : ByteArray} (h : (firstP cut.data.toList).2 = 0) (hb : cut.data.toList = [] ∨ bgP cut.data.toList = true) : cut.size ≤ 3 := by
  rw [← size_toList]
  rcases hb with hb | hb
  · rw [hb]; simp
  · exact bg_short h hb
theorem write_step (u w : World) (hE : ErrAt u) (hSp : SpAt u) (hu : Below u.heap.size u w) (b : Nat) (hub : u.heap.size ≤ b) (p out : List UInt8) (h : OpenAt w b p out) (v : Value) (B : Nat) (s : ByteArray) (hv : BySl B w v s.data.toList) (hlen : s.size ≤ 10000) :
    Calls Tryz.prog 12 #[.pointer (some ⟨b, 0, none⟩), v] w (StepRes w b p out s.data.toList) := by
  obtain ⟨l, cut, S, H, h1, h2, h3, h4, h5, h6, h7⟩ := h
  have hc := cut_short h3 h4
  refine (swrite_any u w hE hSp hu b hub cut H h6 h7 v B s hv (by omega)).mono ?_
  rintro e w' ⟨hU, hr⟩
  refine ⟨hU, ?_⟩
  rcases hr with ⟨m, r, k1, k2, k3, k4⟩ | ⟨m, r, k1, k2, k3, k4, k5, k6⟩ | ⟨m, r, S', H', o, v', k1, k2, k3, k4, k5, k6, k7, k8, k9⟩
  · refine .inl ⟨⟨l ++ m, r, dec_app h1 k1, ?_⟩, k3, k4⟩
    rw [run_more h2, k2]; rfl
  · exact .inr (.inl ⟨⟨l ++ m, r, dec_app h1 k1, k2, k3, k4⟩, k5, k6⟩)
  · refine .inr (.inr ⟨v', o, k6, k7, l ++ m, ⟨r.toArray⟩, S ++ S', H', dec_app h1 k1, ?_, k3, k4, wr_app _ _ _ _ h5 k5, k8, k9⟩)
    rw [run_more h2, k2]; rfl
/-! ### texts that are good -/
/-- Characters, with no more than thirty marks behind one another. -/
def Good (T : List UInt8) (L : List Int) : Prop := readP T = some L ∧ rk 0 (charsP L) = true
theorem good_dec {T : List UInt8} {L : List Int} (h : readP T = some L) : Dec T L [] := ⟨T, write_read T L h, by simp⟩
theorem good_rk {L : List Int} (h : rk 0 (charsP L) = true) : rk 0 (partsP L) = true := by rw [← order_rk, order_parts]; exact h
theorem dec_more {p r x : List UInt8} {l : List Int} (h : Dec p l r) : Dec (p ++ x) l (r ++ x) := by
  obtain ⟨a, h1, rfl⟩ := h; exact ⟨a, h1, by simp⟩
theorem good_many {p x T : List UInt8} {L : List Int} (h : Good T L) (hp : p ++ x = T) : ¬ TooMany p := by
  rintro ⟨l, r, h1, h2⟩
  have d1 : Dec T l (r ++ x) := by rw [← hp]; exact dec_more h1
  obtain ⟨m, rfl⟩ := dec_front l T _ _ _ d1 (good_dec h.1) rfl
  have := good_rk h.2
  rw [partsP_app] at this
  have := rk_app this
  have e := runH_rk (partsP l) [] []
  rw [h2] at e
  have e0 : mkN [] = 0 := rfl
  rw [e0, this] at e
  cases e
theorem good_begin {p x T : List UInt8} {L : List Int} (h : Good T L) (hp : p ++ x = T) : ¬ NoBegin p := by
  rintro ⟨l, r, h1, h2, h3, h4⟩
  have d1 : Dec T l (r ++ x) := by rw [← hp]; exact dec_more h1
  have e := dec_read d1
  rw [h.1] at e
  obtain ⟨ys, hy, -⟩ := Option.map_eq_some_iff.1 e.symm
  rw [bg_text h2 h3 hy] at h4
  cases h4
theorem many_bad {p x T : List UInt8} {L : List Int} (h : TooMany p) (hp : p ++ x = T) : ¬ Good T L := fun g => good_many g hp h
/-- What a text that was written whole comes to. -/
theorem open_whole {w : World} {b : Nat} {p out : List UInt8} (h : OpenAt w b p out) {L : List Int} (hr : readP p = some L) : rk 0 (charsP L) = true ∧ ∃ cut H bs, StrmAt w b cut H ∧ PartsOk H ∧ ¬ 0 < cut.size ∧ writeP (orderP classP H) = some bs ∧ textP p = some (out ++ bs) := by
  obtain ⟨l, cut, S, H, h1, h2, h3, h4, h5, h6, h7⟩ := h
  obtain ⟨rfl, e2⟩ := dec_unique h1 (good_dec hr) h3 rfl
  have e := runH_rk (partsP l) [] []
  rw [h2] at e
  have hrk : rk 0 (partsP l) = true := by
    have e0 : mkN [] = 0 := rfl
    rw [e0] at e; exact e.symm
  refine ⟨by rw [← order_parts, order_rk]; exact hrk, cut, H, ?_⟩
  obtain ⟨bs, hb⟩ := parts_write h7
  refine ⟨bs, h6, h7, by rw [← size_toList, e2]; simp, hb, ?_⟩
  obtain ⟨A, a1, a2, a3⟩ := runH_inv _ _ _ h2
  have hs := runH_shp _ _ _ shp_nil _ h2
  have eo : charsP l = S ++ orderP classP H := by
    rw [← order_parts, a1, a2]
    rcases a3 with rfl | ⟨y, M, rfl, hy⟩
    · rfl
    · rw [order_starter A y M hy (by simpa using hs.1)]
      have := order_starter [] y M hy (by simpa using hs.1)
      rw [List.nil_append] at this
      rw [this]; rfl
  unfold textP
  rw [hr]
  show writeP (charsP l) = _
  rw [eo]
  exact wr_app _ _ _ _ h5 hb
theorem open_part {w : World} {b : Nat} {p out : List UInt8} (h : OpenAt w b p out) (hr : readP p = none) : ∃ cut H, StrmAt w b cut H ∧ 0 < cut.size := by
  obtain ⟨l, cut, S, H, h1, h2, h3, h4, h5, h6, h7⟩ := h
  refine ⟨cut, H, h6, ?_⟩
  rcases Nat.eq_zero_or_pos cut.size with g | g
  · exfalso
    have e := dec_read h1
    rw [toList_nil (by omega), readP_nil, hr] at e
    cases e
  · exact g
/-- Close at the end of a text. -/
def EndRes (w : World) (b : Nat) (p out : List UInt8) (e : Ending) (w' : World) : Prop :=
  Upd b w w' ∧ ((readP p = none ∧ NilRes 1 e ∧ DeadAt w' b 1) ∨ ∃ L v bs, Good p L ∧ textP p = some (out ++ bs) ∧ e = .returned (.tuple #[v, .int .i64 0]) ∧ BySl w.heap.size w' v bs ∧ DeadAt w' b 11)
theorem close_step (u w : World) (hE : ErrAt u) (hSp : SpAt u) (hu : Below u.heap.size u w) (b : Nat) (hub : u.heap.size ≤ b) (p out : List UInt8) (h : OpenAt w b p out) :
    Calls Tryz.prog 14 #[.pointer (some ⟨b, 0, none⟩)] w (EndRes w b p out) := by
  cases hr : readP p with
  | none =>
    obtain ⟨cut, H, h1, h2⟩ := open_part h hr
    exact (close_cut w b cut H h1 h2).mono fun e w' ⟨k1, k2, k3⟩ => ⟨k2, .inl ⟨hr, k1, k3⟩⟩
  | some L =>
    obtain ⟨g, cut, H, bs, h1, h2, h3, h4, h5⟩ := open_whole h hr
    exact (close_ok u w hE hSp hu b hub cut H h1 h2 h3 bs h4).mono fun e w' ⟨v, k1, k2, k3, k4⟩ => ⟨k3, .inr ⟨L, v, bs, ⟨hr, g⟩, h5, k1, k2, k4⟩⟩
end Go.Proofs.YtnooloojnhodiaaGreatDoor
