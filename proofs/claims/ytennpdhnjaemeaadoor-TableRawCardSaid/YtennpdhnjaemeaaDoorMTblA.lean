/- Plain mathematics of tables: sums behind bytes, pieces put together and taken apart; what one changed byte does to them. -/
import Derived.Test.YtennpdhnjaemeaaDoorMCrc
import Derived.Test.YtennpdhnjaemeaaDoorMNum
import Derived.Test.YtennpdhnjaemeaaDoorMBlk
import Derived.Deep.DeepCutAuto
import Derived.OwnWalk
import Derived.Deep.QuietTactic
import Derived.BigQuiet
namespace Go.Proofs.YtennpdhnjaemeaaDoor
set_option linter.unusedVariables false
/-- Bytes with their sum behind them. -/
def sealB (l : List UInt8) : List UInt8 := l ++ fixN 4 (moreN 0 l)
/-- What stands ahead of a right sum. -/
def unsealB (b : List UInt8) : Option (List UInt8) :=
  if b.length < 4 then none else if unfK 4 (b.drop (b.length - 4)) = moreN 0 (b.take (b.length - 4)) then some (b.take (b.length - 4)) else none
theorem sealB_len (l : List UInt8) : (sealB l).length = l.length + 4 := by
  unfold sealB; rw [List.length_append, fixN_len]
theorem sum_lt (l : List UInt8) : moreN 0 l < 2 ^ 32 := moreN_lt (by decide) l
theorem unfK_all {K : Nat} {l : List UInt8} (h : l.length = K) : unfK K l = unfN l := by
  unfold unfK; rw [if_pos (by omega), List.take_of_length_le (by omega)]
theorem unfK_fix (K n : Nat) (r : List UInt8) (h : n < 256 ^ K) : unfK K (fixN K n ++ r) = n := by
  unfold unfK
  rw [if_pos (by rw [List.length_append, fixN_len]; omega), List.take_append_of_le_length (by rw [fixN_len]; exact Nat.le_refl _), List.take_of_length_le (by rw [fixN_len]; exact Nat.le_refl _), unf_fix K n h]
theorem drop_fix (K n : Nat) (r : List UInt8) : (fixN K n ++ r).drop K = r := by
  have h := List.drop_left (l₁ := fixN K n) (l₂ := r)
  rwa [fixN_len] at h
theorem unfN_inj : ∀ {l m : List UInt8}, l.length = m.length → unfN l = unfN m → l = m
  | [], [], _, _ => rfl
  | [], _ :: _, h, _ => by simp at h
  | _ :: _, [], h, _ => by simp at h
  | a :: l, b :: m, h, e => by
    unfold unfN at e
    have ha := a.toNat_lt
    have hb := b.toNat_lt
    have h1 : a.toNat = b.toNat := by omega
    have h2 : unfN l = unfN m := by omega
    rw [UInt8.toNat.inj h1, unfN_inj (by simpa using h) h2]
theorem unseal_at (l s : List UInt8) (hs : s.length = 4) : unsealB (l ++ s) = if unfN s = moreN 0 l then some l else none := by
  unfold unsealB
  have e : (l ++ s).length - 4 = l.length := by rw [List.length_append]; omega
  rw [if_neg (by rw [List.length_append]; omega), e, List.drop_left, List.take_left, unfK_all hs]
theorem unseal_seal (l : List UInt8) : unsealB (sealB l) = some l := by
  unfold sealB
  rw [unseal_at _ _ (fixN_len _ _), unf_fix 4 _ (sum_lt l), if_pos rfl]
/-- One byte is another. -/
def Chg (X Y : List UInt8) : Prop := ∃ (p : Nat) (c : UInt8), p < X.length ∧ X.getD p 0 ≠ c ∧ Y = X.set p c
theorem Chg.len {X Y : List UInt8} (h : Chg X Y) : Y.length = X.length := by
  obtain ⟨p, c, -, -, rfl⟩ := h
  exact List.length_set
theorem Chg.ne {X Y : List UInt8} (h : Chg X Y) : X ≠ Y := by
  obtain ⟨p, c, h1, h2, rfl⟩ := h
  intro e
  have h3 : X[p]? = (X.set p c)[p]? := congrArg (·[p]?) e
  rw [List.getElem?_set_self h1, List.getElem?_eq_getElem h1] at h3
  rw [List.getD_eq_getElem?_getD, List.getElem?_eq_getElem h1, h3] at h2
  exact h2 rfl
theorem Chg.app {A B Z : List UInt8} (h : Chg (A ++ B) Z) : (∃ A', Chg A A' ∧ Z = A' ++ B) ∨ ∃ B', Chg B B' ∧ Z = A ++ B' := by
  obtain ⟨p, c, h1, h2, rfl⟩ := h
  rcases Nat.lt_or_ge p A.length with hp | hp
  · refine .inl ⟨A.set p c, ⟨p, c, hp, ?_, rfl⟩, List.set_append_left _ _ hp⟩
    rw [List.getD_eq_getElem?_getD, List.getElem?_append_left hp, ← List.getD_eq_getElem?_getD] at h2
    exact h2
  · refine .inr ⟨B.set (p - A.length) c, ⟨p - A.length, c, by rw [List.length_append] at h1; omega, ?_, rfl⟩, List.set_append_right _ _ hp⟩
    rw [List.getD_eq_getElem?_getD, List.getElem?_append_right hp, ← List.getD_eq_getElem?_getD] at h2
    exact h2
theorem Chg.sum {l m : List UInt8} (h : Chg l m) : moreN 0 l ≠ moreN 0 m := by
  obtain ⟨p, c, h1, h2, rfl⟩ := h
  obtain ⟨e1, e2⟩ := set_parts h1 c
  rw [e2]
  conv => lhs; rw [e1]
  exact moreN_burst (by decide) _ _ _ _ rfl (by simp) (by simpa using h2)
/-- Of bytes with a sum of which one was changed the sum is not right. -/
theorem unseal_chg {l Z : List UInt8} (h : Chg (sealB l) Z) : unsealB Z = none := by
  rcases Chg.app h with ⟨m, hm, rfl⟩ | ⟨s, hs, rfl⟩
  · rw [unseal_at _ _ (fixN_len _ _), unf_fix 4 _ (sum_lt l), if_neg hm.sum]
  · rw [unseal_at _ _ (by rw [hs.len, fixN_len]), if_neg]
    intro e
    refine hs.ne (unfN_inj (by rw [hs.len]) ?_)
    rw [e, unf_fix 4 _ (sum_lt l)]
/-- What stands ahead of the last size bytes, and these without their sum. -/
def cutB (b : List UInt8) (size : Nat) : Option (List UInt8 × List UInt8) :=
  if b.length < size then none else (unsealB (b.drop (b.length - size))).map fun l => (b.take (b.length - size), l)
theorem cutB_at (X Z : List UInt8) (n : Nat) (h : Z.length = n) : cutB (X ++ Z) n = (unsealB Z).map fun l => (X, l) := by
  unfold cutB
  have e : (X ++ Z).length - n = X.length := by rw [List.length_append]; omega
  rw [if_neg (by rw [List.length_append]; omega), e, List.drop_left, List.take_left]
def magicN : Nat := 1768842089
/-- Which blocks, filter and index bytes were put together of. -/
def apartB (b : List UInt8) : Option (List UInt8 × List UInt8 × List UInt8) :=
  if b.length < 8 ∨ unfK 8 b ≠ b.length then none else
  (cutB (b.drop 8) 24).bind fun q => if unfK 4 (q.2.drop 16) ≠ magicN then none else
  (cutB q.1 (unfK 8 (q.2.drop 8))).bind fun r => (cutB r.1 (unfK 8 q.2)).map fun s => (s.1, s.2, r.2)
def endB (F I : List UInt8) : List UInt8 := fixN 8 (sealB F).length ++ (fixN 8 (sealB I).length ++ fixN 4 magicN)
theorem endB_len (F I : List UInt8) : (endB F I).length = 20 := by
  unfold endB; simp only [List.length_append, fixN_len]
def sizeT (B F I : List UInt8) : Nat := 8 + B.length + (sealB F).length + (sealB I).length + (sealB (endB F I)).length
/-- A table's bytes. -/
def togB (B F I : List UInt8) : List UInt8 := fixN 8 (sizeT B F I) ++ (B ++ (sealB F ++ (sealB I ++ sealB (endB F I))))
theorem togB_len (B F I : List UInt8) : (togB B F I).length = sizeT B F I := by
  unfold togB sizeT; simp only [List.length_append, fixN_len]; omega
/-- What is taken apart, each piece as it stands. -/
theorem apart_at (B F I L B' SF SI SE : List UInt8) (hL : L.length = 8) (hB : B'.length = B.length) (hF : SF.length = (sealB F).length) (hI : SI.length = (sealB I).length) (hE : SE.length = (sealB (endB F I)).length) (hs : sizeT B F I < 2 ^ 63) :
    apartB (L ++ (B' ++ (SF ++ (SI ++ SE)))) = if unfN L ≠ sizeT B F I then none else
      (unsealB SE).bind fun e => if unfK 4 (e.drop 16) ≠ magicN then none else
      (cutB (B' ++ (SF ++ SI)) (unfK 8 (e.drop 8))).bind fun r => (cutB r.1 (unfK 8 e)).map fun s => (s.1, s.2, r.2) := by
  have hl : (L ++ (B' ++ (SF ++ (SI ++ SE)))).length = sizeT B F I := by
    unfold sizeT; simp only [List.length_append]; omega
  have hu : unfK 8 (L ++ (B' ++ (SF ++ (SI ++ SE)))) = unfN L := by
    unfold unfK
    rw [if_pos (by rw [List.length_append]; omega), List.take_append_of_le_length (by omega), List.take_of_length_le (by omega)]
  have h8 : ¬ sizeT B F I < 8 := by unfold sizeT; omega
  have hd : (L ++ (B' ++ (SF ++ (SI ++ SE)))).drop 8 = (B' ++ (SF ++ SI)) ++ SE := by
    rw [← hL, List.drop_left]; simp only [List.append_assoc]
  have he : SE.length = 24 := by rw [hE, sealB_len, endB_len]
  unfold apartB
  rw [hl, hu, hd, cutB_at _ _ _ he]
  by_cases h : unfN L = sizeT B F I
  · rw [if_neg (by simp [h, h8]), if_neg (by simp [h])]
    cases unsealB SE <;> rfl
  · rw [if_pos (.inr h), if_pos h]
theorem apart_sums (B F I L B' SF SI : List UInt8) (hL : unfN L = sizeT B F I) (hF : SF.length = (sealB F).length) (hI : SI.length = (sealB I).length) (hs : sizeT B F I < 2 ^ 63) :
    (if unfN L ≠ sizeT B F I then none else
      (unsealB (sealB (endB F I))).bind fun e => if unfK 4 (e.drop 16) ≠ magicN then none else
      (cutB (B' ++ (SF ++ SI)) (unfK 8 (e.drop 8))).bind fun r => (cutB r.1 (unfK 8 e)).map fun s => (s.1, s.2, r.2)) =
    (unsealB SI).bind fun i => (unsealB SF).map fun f => (B', f, i) := by
  have hz : (sealB F).length < 256 ^ 8 ∧ (sealB I).length < 256 ^ 8 := by unfold sizeT at hs; constructor <;> omega
  have e0 : unfK 8 (endB F I) = (sealB F).length := unfK_fix 8 _ _ hz.1
  have e1 : unfK 8 ((endB F I).drop 8) = (sealB I).length := by
    unfold endB
    rw [drop_fix]
    exact unfK_fix 8 _ _ hz.2
  have e2 : unfK 4 ((endB F I).drop 16) = magicN := by
    unfold endB
    rw [show (16 : Nat) = 8 + 8 from rfl, ← List.drop_drop, drop_fix, drop_fix, ← List.append_nil (fixN 4 magicN)]
    exact unfK_fix 4 _ _ (by unfold magicN; decide)
  rw [if_neg (by simp [hL]), unseal_seal, Option.bind_some, e2, if_neg (by simp), e1, e0, ← List.append_assoc, cutB_at _ _ _ hI]
  cases hi : unsealB SI with
  | none => rfl
  | some i =>
    rw [Option.map_some, Option.bind_some, Option.bind_some, cutB_at _ _ _ hF]
    cases unsealB SF <;> rfl
theorem apart_tog {B F I : List UInt8} (hs : sizeT B F I < 2 ^ 63) : apartB (togB B F I) = some (B, F, I) := by
  have h8 : unfN (fixN 8 (sizeT B F I)) = sizeT B F I := unf_fix 8 _ (by omega)
  unfold togB
  rw [apart_at B F I _ _ _ _ _ (fixN_len _ _) rfl rfl rfl rfl hs, apart_sums B F I _ _ _ _ h8 rfl rfl hs, unseal_seal, unseal_seal]
  rfl
/-- One byte was changed: it is told, or it was a byte of the blocks. -/
theorem apart_chg {B F I Z : List UInt8} (hs : sizeT B F I < 2 ^ 63) (h : Chg (togB B F I) Z) : apartB Z = none ∨ ∃ B', Chg B B' ∧ apartB Z = some (B', F, I) := by
  have h8 : unfN (fixN 8 (sizeT B F I)) = sizeT B F I := unf_fix 8 _ (by omega)
  unfold togB at h
  rcases h.app with ⟨L, hL, rfl⟩ | ⟨Z1, h1, rfl⟩
  · refine .inl ?_
    rw [apart_at B F I _ _ _ _ _ (by rw [hL.len, fixN_len]) rfl rfl rfl rfl hs, if_pos]
    intro e
    exact hL.ne (unfN_inj hL.len.symm (by rw [e, h8]))
  rcases h1.app with ⟨B', hB, rfl⟩ | ⟨Z2, h2, rfl⟩
  · refine .inr ⟨B', hB, ?_⟩
    rw [apart_at B F I _ _ _ _ _ (fixN_len _ _) hB.len rfl rfl rfl hs, apart_sums B F I _ _ _ _ h8 rfl rfl hs, unseal_seal, unseal_seal]
    rfl
  refine .inl ?_
  rcases h2.app with ⟨F', hF, rfl⟩ | ⟨Z3, h3, rfl⟩
  · rw [apart_at B F I _ _ _ _ _ (fixN_len _ _) rfl hF.len rfl rfl hs, apart_sums B F I _ _ _ _ h8 hF.len rfl hs, unseal_seal, unseal_chg hF]
    rfl
  rcases h3.app with ⟨I', hI, rfl⟩ | ⟨E', hE, rfl⟩
  · rw [apart_at B F I _ _ _ _ _ (fixN_len _ _) rfl rfl hI.len rfl hs, apart_sums B F I _ _ _ _ h8 rfl hI.len hs, unseal_chg hI]
    rfl
  · rw [apart_at B F I _ _ _ _ _ (fixN_len _ _) rfl rfl rfl hE.len hs, unseal_chg hE]
    by_cases e : unfN (fixN 8 (sizeT B F I)) = sizeT B F I
    · rw [if_neg (by simp [e])]; rfl
    · rw [if_pos e]
/-- A table that was cut is none. -/
theorem apart_cut {B F I : List UInt8} (hs : sizeT B F I < 2 ^ 63) {n : Nat} (hn : n < (togB B F I).length) : apartB ((togB B F I).take n) = none := by
  have hl : ((togB B F I).take n).length = n := by rw [List.length_take]; omega
  have h8 : unfN (fixN 8 (sizeT B F I)) = sizeT B F I := unf_fix 8 _ (by omega)
  unfold apartB
  refine if_pos ?_
  rw [hl]
  rcases Nat.lt_or_ge n 8 with h | h
  · exact .inl h
  · refine .inr ?_
    have e : unfK 8 ((togB B F I).take n) = sizeT B F I := by
      unfold unfK
      rw [if_pos (by omega), List.take_take, Nat.min_eq_left h]
      unfold togB
      rw [List.take_append_of_le_length (by rw [fixN_len]; exact Nat.le_refl _), List.take_of_length_le (by rw [fixN_len]; exact Nat.le_refl _), h8]
    rw [e]
    rw [togB_len] at hn
    omega
theorem apart_nil : apartB [] = none := rfl
end Go.Proofs.YtennpdhnjaemeaaDoor
/- The walks of table's seal, unseal, cut; slices of bytes in a row that was just laid. -/
namespace Go.Proofs.YtennpdhnjaemeaaDoor
set_option linter.unusedVariables false
set_option maxRecDepth 100000
open Go.RowKit
/-- These slices read as these bytes. -/
inductive SlsRd (w : World) : List Value → List (List UInt8) → Prop
  | nil : SlsRd w [] []
  | cons {u : Value} {x : List UInt8} {us : List Value} {xs : List (List UInt8)} : RdB w u x → SlsRd w us xs → SlsRd w (u :: us) (x :: xs)
theorem SlsRd.len {w : World} {us : List Value} {xs : List (List UInt8)} (h : SlsRd w us xs) : us.length = xs.length := by
  induction h with
  | nil => rfl
  | cons _ _ ih => simp [ih]
theorem SlsRd.at {w : World} {us : List Value} {xs : List (List UInt8)} (h : SlsRd w us xs) : ∀ (i : Nat) (u : Value) (x : List UInt8), us[i]? = some u → xs[i]? = some x → RdB w u x := by
  induction h with
  | nil => intro i u x h; simp at h
  | cons h1 _ ih =>
    intro i u x hu hx
    cases i with
    | zero => simp at hu hx; subst hu hx; exact h1
    | succ i => exact ih i u x (by simpa using hu) (by simpa using hx)
theorem SlsRd.under {w w' : World} {us : List Value} {xs : List (List UInt8)} (h : SlsRd w us xs) (hb : Below w.heap.size w w') : SlsRd w' us xs := by
  induction h with
  | nil => exact .nil
  | cons h1 _ ih => exact .cons (h1.below hb) ih
/-- Slices of bytes in a row that was just laid. -/
theorem rdRecs_row (w : World) (us : List Value) (xs : List (List UInt8)) (h : SlsRd w us xs) (cs : Array Value) (hc : us.toArray = cs) (n : Nat) (hn : us.length = n) (h0 : 0 < n) (hm : n ≤ maxLen) :
    RdRecs (w.alloc (.cells cs 25)) (.slice (some ⟨w.heap.size, 0, none⟩) n n) xs := by
  subst hc hn
  have hal : Below w.heap.size w (w.alloc (.cells us.toArray 25)) := (Below.refl _ w).alloc (Nat.le_refl _) _
  have hb := BlkAt.new w us.toArray 25
  refine ⟨us, .inr ⟨w.heap.size, 0, us.length, rfl, h0, Nat.le_refl _, hm, hb.lt, fun i hi => ?_⟩, h.len, fun i z bs hz hbs => (h.at i z bs hz hbs).below hal⟩
  rw [Nat.zero_add, hb.at i, List.getElem?_toArray, List.getElem?_eq_getElem hi, List.getD_eq_getElem?_getD, List.getElem?_eq_getElem hi, Option.getD_some]
theorem cat_len (xs : List (List UInt8)) (K n : Nat) (h : (xs.flatMap id).length ≤ K) (hn : xs.length = n) (hK : K ≤ 1000000000000) (hm : n ≤ 1000000000000) : (xs.flatMap id).length ≤ 1000000000000 ∧ xs.length ≤ 1000000000000 := ⟨by omega, by omega⟩
/-- What lies below, behind a block that was laid and a call. -/
theorem below_lit {B : Nat} {w w2 w3 : World} {o : Obj} (h : Below B w w2) (hB : B ≤ w2.heap.size) (k : Below (w2.alloc o).heap.size (w2.alloc o) w3) : Below B w w3 :=
  (h.alloc hB o).trans (k.mono (by simp; omega))
theorem size_lit {B : Nat} {w2 : World} (o : Obj) (hB : B ≤ w2.heap.size) : B ≤ (w2.alloc o).heap.size := by simp; omega
set_option maxHeartbeats 2000000 in
theorem seal_any (v : Value) (l : List UInt8) (hl : l.length ≤ 900000000000) (w : World) (ht : TabAt w) (h : RdB w v l) : Calls Tryd.prog 30 #[v] w (MkB (sealB l) w) := by
  obtain ⟨a, n, cap, rfl, hn, -⟩ := h.form
  have HS := Lib.hid (sum_any _ l w ht h)
  have HR := Lib.hid h
  have HP := Lib.hid (fun w => put32_any (moreN 0 l) (sum_lt l) w)
  have HE : Hid ([l, fixN 4 (moreN 0 l)].flatMap id = sealB l) := Lib.hid (by unfold sealB; simp)
  have HL : Hid (([l, fixN 4 (moreN 0 l)].flatMap id).length ≤ 1000000000000) := Lib.hid (by rw [HE.out, sealB_len]; omega)
  clear h ht hn hl
  generalize moreN 0 l = s at *
  go_enter Tryd.func30, Tryd.ntmps30
  go_wp2_with fail
  refine HS.out.mono ?_
  rintro e w1 ⟨rfl, rfl⟩
  go_wp2_with fail
  refine (HP.out _).mono ?_
  rintro e w2 ⟨v2, rfl, o2, b2⟩
  obtain ⟨a2, n2, c2, rfl, -⟩ := o2.form
  have HC := Lib.hid (concat_any _ [l, fixN 4 s] ⟨HL.out, by simp⟩ _ (rdRecs_row w2 [.slice a n cap, .slice a2 n2 c2] _ (.cons (HR.out.below b2) (.cons o2.rd .nil)) _ rfl 2 rfl (by decide) (by unfold maxLen; decide)))
  have HB := Lib.hid b2
  rw [HE.out] at HC
  clear o2 b2
  go_wp2_with fail
  refine HC.out.mono ?_
  rintro e w3 ⟨v3, rfl, o3, b3⟩
  obtain ⟨a3, n3, c3, rfl, -⟩ := id o3.form
  have HB3 := Lib.hid (below_lit HB.out HB.out.size b3)
  have HO3 := Lib.hid (OwnB.base (B' := w.heap.size) o3 (size_lit _ HB.out.size))
  clear o3 b3 HC
  go_wp2_with fail
  go_ret
  exact ⟨_, rfl, HO3.out, HB3.out⟩
/-- What unseal tells. -/
def UnRes (r : Option (List UInt8)) (w : World) (e : Ending) (w' : World) : Prop :=
  (match r with
    | none => e = .returned (.tuple #[.slice none 0 0, .bool false])
    | some x => ∃ v, e = .returned (.tuple #[v, .bool true]) ∧ RdB w' v x) ∧ Below w.heap.size w w'
set_option maxHeartbeats 4000000 in
theorem unseal_any (v : Value) (b : List UInt8) (w : World) (ht : TabAt w) (h : RdB w v b) : Calls Tryd.prog 84 #[v] w (UnRes (unsealB b) w) := by
  obtain ⟨a, n, cap, rfl, hn, hc⟩ := h.form
  have hlb : (n : Int) ≤ 9223372036854775807 := by
    rcases Nat.eq_zero_or_pos n with h0 | h0
    · omega
    · have := (hc h0).2; unfold maxLen at this; omega
  by_cases h4 : n < 4
  · have hu : unsealB b = none := by unfold unsealB; rw [if_pos (by omega)]
    have h4' : (n : Int) - 4 < 0 := by omega
    rw [hu]
    clear hu h ht hn hc
    go_enter Tryd.func84, Tryd.ntmps84
    go_wp2_with fail
    go_quiet (fail)
    go_wp2_with fail
    go_ret2
    exact ⟨rfl, DrN.below ⟨nq, rfl⟩ _⟩
  · obtain ⟨m, rfl⟩ : ∃ m, n = m + 4 := ⟨n - 4, by omega⟩
    have hm4 : ((m + 4 : Nat) : Int) - 4 = (m : Int) := by omega
    have hm0 : ¬ (m : Int) < 0 := by omega
    have hcap := (hc (by omega)).1
    have HU : Hid (unsealB b = if unfK 4 (b.drop m) = moreN 0 (b.take m) then some (b.take m) else none) := Lib.hid (by
      unfold unsealB; rw [if_neg (by omega), show b.length - 4 = m by omega])
    have hD := h.drop m (by omega)
    have HT := Lib.hid (h.take m (by omega))
    have hsl1 := fun W => sl_lB W a (m + 4) cap m (by omega) hcap
    have hsl2 := fun W => sl_hB W a (m + 4) cap m (by omega)
    generalize hT1 : (if cap = m then a else a.map (·.add m)) = T1 at hD hsl1
    generalize m + 4 - m = Q1 at *
    generalize cap - m = C1 at *
    have HG := Lib.hid (fun k => (get32_any _ (b.drop m) (w.drewN k) (hD.below (DrN.below ⟨k, rfl⟩ _))).mono fun e w' hh => And.intro hh.1 hh.2.symm)
    have HS := Lib.hid (fun k => (sum_any _ (b.take m) (w.drewN k) (ht.below (DrN.below ⟨k, rfl⟩ _)) (HT.out.below (DrN.below ⟨k, rfl⟩ _))).mono fun e w' hh => And.intro hh.1 hh.2.symm)
    generalize unfK 4 (b.drop m) = G at *
    generalize moreN 0 (b.take m) = S at *
    clear hD hT1 ht hc h4 hn h
    by_cases hE : G = S
    · have HU2 : Hid (unsealB b = some (b.take m)) := Lib.hid (by rw [HU.out, if_pos hE])
      subst hE
      clear HU
      go_enter Tryd.func84, Tryd.ntmps84
      go_wp2_with fail
      go_quiet ((first | (go_at_call 66; exact Calls.quiet_of_same (HG.out _)) | (go_at_call 57; exact Calls.quiet_of_same (HS.out _))))
      have HB := Lib.hid (DrN.below ⟨nq, rfl⟩ _ : Below w.heap.size w (w.drewN nq))
      clear HG HS hsl1 hlb hm4
      generalize w.drewN nq = w1 at *
      go_wp2_with fail
      go_ret2
      rw [HU2.out]
      exact ⟨⟨_, rfl, HT.out.below HB.out⟩, HB.out⟩
    · have hb : ((G : Int) != (S : Int)) = true := by simp; omega
      have HU2 : Hid (unsealB b = none) := Lib.hid (by rw [HU.out, if_neg hE])
      clear HU hE
      go_enter Tryd.func84, Tryd.ntmps84
      go_wp2_with fail
      go_quiet ((first | (go_at_call 66; exact Calls.quiet_of_same (HG.out _)) | (go_at_call 57; exact Calls.quiet_of_same (HS.out _))))
      go_wp2_with fail
      go_ret2
      rw [HU2.out]
      exact ⟨rfl, DrN.below ⟨nq, rfl⟩ _⟩
/-- What cut tells. -/
def CutRes (r : Option (List UInt8 × List UInt8)) (w : World) (e : Ending) (w' : World) : Prop :=
  (match r with
    | none => e = .returned (.tuple #[.slice none 0 0, .slice none 0 0, .bool false])
    | some x => ∃ u v, e = .returned (.tuple #[u, v, .bool true]) ∧ RdB w' u x.1 ∧ RdB w' v x.2) ∧ Below w.heap.size w w'
set_option maxHeartbeats 4000000 in
theorem cut_part (v : Value) (b : List UInt8) (n : Nat) (hn : n < 18446744073709551616) (w : World) (ht : TabAt w) (h : RdB w v b) : Calls Tryd.prog 65 #[v, .int .u64 (n : Int)] w (CutRes (cutB b n) w) := by
  obtain ⟨a, len, cap, rfl, hlen, hc⟩ := h.form
  have hlb : len ≤ 9223372036854775807 ∧ (0 < len → len ≤ cap) := by
    rcases Nat.eq_zero_or_pos len with h0 | h0
    · exact ⟨by omega, fun h => by omega⟩
    · have := hc h0; unfold maxLen at this; exact ⟨by omega, fun _ => this.1⟩
  obtain ⟨hlb, hlc⟩ := hlb
  have hw : ((len : Int) % 18446744073709551616) = (len : Int) := by omega
  have HR := Lib.hid h
  by_cases h1 : len < n
  · have hu : cutB b n = none := by unfold cutB; rw [if_pos (by omega)]
    have h1' : (len : Int) < (n : Int) := by omega
    rw [hu]
    clear hu h ht HR hlen hc
    go_enter Tryd.func65, Tryd.ntmps65
    go_wp2_with fail
    go_ret3
    exact ⟨rfl, Below.refl _ _⟩
  · obtain ⟨m, rfl⟩ : ∃ m, len = m + n := ⟨len - n, by omega⟩
    have h1' : ¬ ((m + n : Nat) : Int) < (n : Int) := by omega
    have hm : ((m + n : Nat) : Int) - (n : Int) = (m : Int) := by omega
    have hn2 : (n : Int) ≤ 9223372036854775807 := by omega
    have hcap : m + n ≤ cap := by
      rcases Nat.eq_zero_or_pos (m + n) with h0 | h0
      · omega
      · exact hlc h0
    have HU : Hid (cutB b n = (unsealB (b.drop m)).map fun l => (b.take m, l)) := Lib.hid (by
      unfold cutB; rw [if_neg (by omega), show b.length - n = m by omega])
    have hD := h.drop m (by omega)
    have HT := Lib.hid (h.take m (by omega))
    have hsl1 := fun W => sl_lB W a (m + n) cap m (by omega) hcap
    have hsl2 := fun W => sl_hB W a (m + n) cap m (by omega)
    generalize hT1 : (if cap = m then a else a.map (·.add m)) = T1 at hD hsl1
    generalize m + n - m = Q1 at *
    generalize cap - m = C1 at *
    have HN := Lib.hid (unseal_any _ (b.drop m) w ht hD)
    clear hD hT1 ht hc hlen h HR
    go_enter Tryd.func65, Tryd.ntmps65
    go_wp2_with fail
    refine HN.out.mono ?_
    rintro e w1 ⟨hr, hb⟩
    have HB := Lib.hid hb
    cases hu : unsealB (b.drop m) with
    | none =>
      rw [hu] at hr HU
      obtain rfl := hr
      clear hu HN hb
      go_wp2_with fail
      go_ret3
      rw [HU.out]
      exact ⟨rfl, HB.out⟩
    | some x =>
      rw [hu] at hr HU
      obtain ⟨v, rfl, hx⟩ := hr
      have HX := Lib.hid hx
      obtain ⟨ax, nx, cx, rfl, -⟩ := hx.form
      clear hu HN hb hx
      go_wp2_with fail
      go_ret3
      rw [HU.out]
      exact ⟨⟨_, _, rfl, HT.out.below HB.out, HX.out⟩, HB.out⟩
end Go.Proofs.YtennpdhnjaemeaaDoor
/- The walk of table's putTogether. -/
namespace Go.Proofs.YtennpdhnjaemeaaDoor
set_option linter.unusedVariables false
set_option maxRecDepth 100000
open Go.RowKit
set_option maxHeartbeats 8000000 in
theorem tog_any (vb vf vi : Value) (B F I : List UInt8) (hB : B.length ≤ 400000000000) (hF : F.length ≤ 100000000000) (hI : I.length ≤ 400000000000) (w : World) (ht : TabAt w) (h1 : RdB w vb B) (h2 : RdB w vf F) (h3 : RdB w vi I) :
    Calls Tryd.prog 32 #[vb, vf, vi] w (MkB (togB B F I) w) := by
  obtain ⟨ab, nb, cb, rfl, hnb, -⟩ := h1.form
  obtain ⟨af, nf, cf, rfl, -⟩ := h2.form
  obtain ⟨ai, ni, ci, rfl, -⟩ := h3.form
  have HT := Lib.hid ht
  have HRB := Lib.hid h1
  have HRI := Lib.hid h3
  have HS1 := Lib.hid (seal_any _ F (by omega) w ht h2)
  have HSI := Lib.hid (fun W hW => seal_any _ I (by omega) W (ht.below hW) (h3.below hW))
  have HSE := Lib.hid (fun v W (hW : Below w.heap.size w W) => seal_any v (endB F I) (by rw [endB_len]; decide) W (ht.below (hW.mono (Nat.le_refl _))))
  have hsf := sealB_len F
  have hsi := sealB_len I
  have hse : (sealB (endB F I)).length = 24 := by rw [sealB_len, endB_len]
  have hsz : sizeT B F I = 8 + nb + (sealB F).length + (sealB I).length + 24 := by unfold sizeT; rw [hse, hnb]
  have HE : Hid ([fixN 8 (sealB F).length, fixN 8 (sealB I).length, fixN 4 magicN].flatMap id = endB F I) := Lib.hid (by unfold endB; simp)
  have HG : Hid ([fixN 8 (sizeT B F I), B, sealB F, sealB I, sealB (endB F I)].flatMap id = togB B F I) := Lib.hid (by unfold togB; simp)
  have HGL : Hid (([fixN 8 (sizeT B F I), B, sealB F, sealB I, sealB (endB F I)].flatMap id).length ≤ 1000000000000) := Lib.hid (by
    rw [HG.out, togB_len, hsz]; omega)
  have HEL : Hid (([fixN 8 (sealB F).length, fixN 8 (sealB I).length, fixN 4 magicN].flatMap id).length ≤ 1000000000000) := Lib.hid (by
    rw [HE.out, endB_len]; decide)
  have hfl : (sealB F).length < 2000000000000 := by omega
  have hil : (sealB I).length < 2000000000000 := by omega
  have HP64 := Lib.hid (fun (n : Nat) (hn : n < 2000000000000) W => put64_any n (by omega) W)
  have HP32 : Hid (∀ W, Calls Tryd.prog 56 #[.int .u32 1768842089] W (MkB (fixN 4 magicN) W)) := Lib.hid (fun W => put32_any magicN (by decide) W)
  have hzl : sizeT B F I < 2000000000000 := by omega
  generalize sizeT B F I = Z at *
  generalize hQF : sealB F = QF at *
  generalize hQI : sealB I = QI at *
  have hnbl : nb ≤ 400000000000 := by omega
  obtain ⟨nF, hnF⟩ : ∃ n, QF.length = n := ⟨_, rfl⟩
  obtain ⟨nI, hnI⟩ : ∃ n, QI.length = n := ⟨_, rfl⟩
  rw [hnF] at hsz hfl HE HEL
  rw [hnI] at hsz hil HE HEL
  have HNF := Lib.hid hnF
  have HNI := Lib.hid hnI
  have HZ : Hid (Z < 2000000000000 ∧ nF < 2000000000000 ∧ nI < 2000000000000 ∧ nb ≤ 400000000000) := Lib.hid ⟨hzl, hfl, hil, hnbl⟩
  have hwf : ((nF : Int) % 18446744073709551616) = (nF : Int) := by omega
  have hwi : ((nI : Int) % 18446744073709551616) = (nI : Int) := by omega
  have hwz : ((Z : Int) % 18446744073709551616) = (Z : Int) := by omega
  have hs1 : (8 : Int) + (nb : Int) = ((8 + nb : Nat) : Int) := by omega
  have hsq : (8 : Int) + (nb : Int) + (nF : Int) + (nI : Int) + 24 = (Z : Int) := by omega
  have hov : (8 : Int) + (nb : Int) + (nF : Int) + (nI : Int) + 24 ≤ 9223372036854775807 := by omega
  clear hsf hsi hse hsz hnb hQF hQI hB hF hI h1 h2 h3 hfl hil hzl hnbl hnF hnI ht hs1
  go_enter Tryd.func32, Tryd.ntmps32
  go_wp2_with fail
  refine HS1.out.mono ?_
  rintro e w1 ⟨v1, rfl, o1, b1⟩
  obtain ⟨a1, n1, c1, rfl, hn1, -⟩ := id o1.form
  obtain rfl : n1 = nF := by rw [hn1]; exact HNF.out
  have HO1 := Lib.hid o1.rd
  have HB1 := Lib.hid b1
  have HS2 := Lib.hid (HSI.out w1 b1)
  clear o1 b1 hn1 HS1 HSI
  go_wp2_with fail
  refine HS2.out.mono ?_
  rintro e w2 ⟨v2, rfl, o2, b2⟩
  obtain ⟨a2, n2, c2, rfl, hn2, -⟩ := id o2.form
  obtain rfl : n2 = nI := by rw [hn2]; exact HNI.out
  have HO2 := Lib.hid o2.rd
  have HO12 := Lib.hid (HO1.out.below b2)
  have HB2 := Lib.hid (HB1.out.trans (b2.mono HB1.out.size))
  clear o2 b2 hn2 HS2 HO1 HB1
  go_wp2_with fail
  refine (HP64.out n1 HZ.out.2.1 w2).mono ?_
  rintro e w3 ⟨v3, rfl, o3, b3⟩
  obtain ⟨a3, n3, c3, rfl, -⟩ := id o3.form
  have HO3 := Lib.hid o3.rd
  have HB3 := Lib.hid b3
  clear o3 b3
  go_wp2_with fail
  refine (HP64.out n2 HZ.out.2.2.1 w3).mono ?_
  rintro e w4 ⟨v4, rfl, o4, b4⟩
  obtain ⟨a4, n4, c4, rfl, -⟩ := id o4.form
  have HO4 := Lib.hid o4.rd
  have HO34 := Lib.hid (HO3.out.below b4)
  have HB4 := Lib.hid (HB3.out.trans (b4.mono HB3.out.size))
  clear o4 b4 HO3 HB3
  go_wp2_with fail
  refine (HP32.out w4).mono ?_
  rintro e w5 ⟨v5, rfl, o5, b5⟩
  obtain ⟨a5, n5, c5, rfl, -⟩ := id o5.form
  have HC := Lib.hid (concat_any _ [fixN 8 n1, fixN 8 n2, fixN 4 magicN] ⟨HEL.out, by simp⟩ _ (rdRecs_row w5 [.slice a3 n3 c3, .slice a4 n4 c4, .slice a5 n5 c5] _ (.cons (HO34.out.below b5) (.cons (HO4.out.below b5) (.cons o5.rd .nil))) _ rfl 3 rfl (by decide) (by unfold maxLen; decide)))
  rw [HE.out] at HC
  have HB5 := Lib.hid (HB4.out.trans (b5.mono HB4.out.size))
  clear o5 b5 HO34 HO4 HB4 HP32 HEL HE
  go_wp2_with fail
  refine HC.out.mono ?_
  rintro e w6 ⟨v6, rfl, o6, b6⟩
  obtain ⟨a6, n6, c6, rfl, -⟩ := id o6.form
  have HB6 := Lib.hid (below_lit HB5.out HB5.out.size b6)
  have HB26 := Lib.hid (HB2.out.trans (HB6.out.mono HB2.out.size))
  have HS6 := Lib.hid (HSE.out _ w6 HB26.out o6.rd)
  clear o6 b6 HC HB5 HSE
  go_wp2_with fail
  refine HS6.out.mono ?_
  rintro e w7 ⟨v7, rfl, o7, b7⟩
  obtain ⟨a7, n7, c7, rfl, hn7, -⟩ := id o7.form
  obtain rfl : n7 = 24 := by rw [hn7, sealB_len, endB_len]
  have HO7 := Lib.hid o7.rd
  have HB7 := Lib.hid (HB26.out.trans (b7.mono HB26.out.size))
  have hb27 : Below w2.heap.size w2 w7 := HB6.out.trans (b7.mono HB6.out.size)
  have HF7 := Lib.hid (HO12.out.below hb27)
  have HI7 := Lib.hid (HO2.out.below hb27)
  have HB77 := Lib.hid (HRB.out.below HB7.out)
  clear o7 b7 hn7 hb27 HS6 HB26 HB6 HO12 HO2 HB2
  go_wp2_with fail
  refine (HP64.out Z HZ.out.1 w7).mono ?_
  rintro e w8 ⟨v8, rfl, o8, b8⟩
  obtain ⟨a8, n8, c8, rfl, -⟩ := id o8.form
  have HC := Lib.hid (concat_any _ [fixN 8 Z, B, QF, QI, sealB (endB F I)] ⟨HGL.out, by simp⟩ _ (rdRecs_row w8 [.slice a8 n8 c8, .slice ab nb cb, .slice a1 n1 c1, .slice a2 n2 c2, .slice a7 24 c7] _
    (.cons o8.rd (.cons (HB77.out.below b8) (.cons (HF7.out.below b8) (.cons (HI7.out.below b8) (.cons (HO7.out.below b8) .nil))))) _ rfl 5 rfl (by decide) (by unfold maxLen; decide)))
  rw [HG.out] at HC
  have HB8 := Lib.hid (HB7.out.trans (b8.mono HB7.out.size))
  clear o8 b8 HB7 HF7 HI7 HB77 HO7
  go_wp2_with fail
  refine HC.out.mono ?_
  rintro e w9 ⟨v9, rfl, o9, b9⟩
  obtain ⟨a9, n9, c9, rfl, -⟩ := id o9.form
  have HB9 := Lib.hid (below_lit HB8.out HB8.out.size b9)
  have HO9 := Lib.hid (OwnB.base (B' := w.heap.size) o9 (size_lit _ HB8.out.size))
  clear o9 b9 HC
  go_wp2_with fail
  go_ret
  exact ⟨_, rfl, HO9.out, HB9.out⟩
end Go.Proofs.YtennpdhnjaemeaaDoor
/- The walk of table's takeApart. -/
namespace Go.Proofs.YtennpdhnjaemeaaDoor
set_option linter.unusedVariables false
set_option maxRecDepth 100000
open Go.RowKit
theorem unseal_len {b l : List UInt8} (h : unsealB b = some l) : l.length + 4 = b.length := by
  unfold unsealB at h
  split at h
  · cases h
  · split at h
    · cases h
      rw [List.length_take]; omega
    · cases h
theorem cutB_len {b x y : List UInt8} {n : Nat} (h : cutB b n = some (x, y)) : x.length + n = b.length ∧ y.length + 4 = n := by
  unfold cutB at h
  split at h
  · cases h
  · cases hu : unsealB (b.drop (b.length - n)) with
    | none => rw [hu] at h; cases h
    | some l =>
      rw [hu] at h
      simp only [Option.map_some, Option.some.injEq, Prod.mk.injEq] at h
      obtain ⟨rfl, rfl⟩ := h
      have := unseal_len hu
      rw [List.length_drop] at this
      rw [List.length_take]
      omega
/-- What takeApart tells. -/
def ApRes (r : Option (List UInt8 × List UInt8 × List UInt8)) (w : World) (e : Ending) (w' : World) : Prop :=
  (match r with
    | none => e = .returned (.tuple #[.slice none 0 0, .slice none 0 0, .slice none 0 0, .bool false])
    | some x => ∃ u v t, e = .returned (.tuple #[u, v, t, .bool true]) ∧ RdB w' u x.1 ∧ RdB w' v x.2.1 ∧ RdB w' t x.2.2) ∧ Below w.heap.size w w'
theorem unfK_lt8 (l : List UInt8) : unfK 8 l < 18446744073709551616 := by
  unfold unfK
  split
  · have := unfN_lt (l.take 8)
    rw [List.length_take] at this
    have e : min 8 l.length = 8 := by omega
    rw [e] at this
    exact Nat.lt_of_lt_of_le this (by decide)
  · decide
theorem sl_lBi (W : World) (a : Option Addr) (n cap k : Nat) (z : Int) (hz : (k : Int) = z) (h : k ≤ n) (hc : n ≤ cap) :
    (Instr.sliceAt 25 (.slice a n cap) (some (.int .i64 z)) none none).run Tryd.prog W = .ok (.slice (if cap = k then a else a.map (·.add k)) (n - k) (cap - k)) W := by
  rw [← hz]; exact sl_lB W a n cap k h hc
set_option maxHeartbeats 8000000 in
theorem apart_any (v : Value) (b : List UInt8) (w : World) (ht : TabAt w) (h : RdB w v b) : Calls Tryd.prog 35 #[v] w (ApRes (apartB b) w) := by
  obtain ⟨a, n, cap, rfl, hn, hc⟩ := h.form
  have hlb : n ≤ 9223372036854775807 ∧ n ≤ cap := by
    rcases Nat.eq_zero_or_pos n with h0 | h0
    · omega
    · have := hc h0; unfold maxLen at this; omega
  obtain ⟨hlb, hcap⟩ := hlb
  have HR := Lib.hid h
  have HT := Lib.hid ht
  have hw : ((n : Int) % 18446744073709551616) = (n : Int) := by omega
  by_cases h8 : n < 8
  · have HU : Hid (apartB b = none) := Lib.hid (by unfold apartB; rw [if_pos (.inl (by omega))])
    have h8' : (n : Int) < 8 := by omega
    clear h ht HR HT hn hc hlb
    go_enter Tryd.func35, Tryd.ntmps35
    go_wp2_with fail
    refine bodyPost_ret (v := .tuple #[.slice none 0 0, .slice none 0 0, .slice none 0 0, .bool false]) (by simp [results, Tryd.results35, go_sem]) rfl ?_
    rw [HU.out]
    exact ⟨rfl, Below.refl _ _⟩
  have h8' : ¬ (n : Int) < 8 := by omega
  have HG := Lib.hid (get64_any _ b w h)
  by_cases hE : ¬ unfK 8 b = n
  · have HU : Hid (apartB b = none) := Lib.hid (by unfold apartB; rw [if_pos (.inr (by omega))])
    have hE' : ((unfK 8 b : Int) != (n : Int)) = true := by simp; omega
    generalize unfK 8 b = G at *
    clear h ht HR HT hn hc hE hlb
    go_enter Tryd.func35, Tryd.ntmps35
    go_wp2_with fail
    refine HG.out.mono ?_
    rintro e w' ⟨rfl, rfl⟩
    go_wp2_with fail
    refine bodyPost_ret (v := .tuple #[.slice none 0 0, .slice none 0 0, .slice none 0 0, .bool false]) (by simp [results, Tryd.results35, go_sem]) rfl ?_
    rw [HU.out]
    exact ⟨rfl, Below.refl _ _⟩
  rw [Decidable.not_not] at hE
  rw [hE] at HG
  have hbe : ((n : Int) != (n : Int)) = false := by simp
  have HU : Hid (apartB b = (cutB (b.drop 8) 24).bind fun q => if unfK 4 (q.2.drop 16) ≠ magicN then none else
    (cutB q.1 (unfK 8 (q.2.drop 8))).bind fun r => (cutB r.1 (unfK 8 q.2)).map fun s => (s.1, s.2, r.2)) := Lib.hid (by
      unfold apartB; rw [if_neg]; rintro (e | e) <;> omega)
  have hD := h.drop 8 (by omega)
  have hsl1 := fun W => sl_lBi W a n cap 8 8 rfl (by omega) hcap
  generalize hT1 : (if cap = 8 then a else a.map (·.add 8)) = T1 at hD hsl1
  generalize n - 8 = Q1 at *
  generalize cap - 8 = C1 at *
  have HC : Hid (Calls Tryd.prog 65 #[.slice T1 Q1 C1, .int .u64 24] w (CutRes (cutB (b.drop 8) 24) w)) := Lib.hid (cut_part _ (b.drop 8) 24 (by decide) w ht hD)
  generalize b.drop 8 = b1 at *
  have HB8 : Hid (n ≤ 9223372036854775807) := Lib.hid hlb
  clear h ht HR hn hc hE hD hT1 hcap hlb h8 HB8
  go_enter Tryd.func35, Tryd.ntmps35
  go_wp2_with fail
  refine HG.out.mono ?_
  rintro e w' ⟨rfl, rfl⟩
  go_wp2_with fail
  refine HC.out.mono ?_
  rintro e w1 ⟨hr, hb⟩
  have HB := Lib.hid hb
  have HT1 := Lib.hid (HT.out.below hb)
  clear hb HC HG HT
  cases hu : cutB b1 24 with
  | none =>
    rw [hu] at hr HU
    obtain rfl := hr
    clear hu HT1
    go_wp2_with fail
    refine bodyPost_ret (v := .tuple #[.slice none 0 0, .slice none 0 0, .slice none 0 0, .bool false]) (by simp [results, Tryd.results35, go_sem]) rfl ?_
    rw [HU.out]
    exact ⟨rfl, HB.out⟩
  | some q =>
    obtain ⟨q1, q2⟩ := q
    rw [hu, Option.bind_some] at HU
    rw [hu] at hr
    have hl2 := (cutB_len hu).2
    obtain ⟨v1, v2, rfl, r1, r2⟩ := hr
    simp only at r1 r2 HU
    obtain ⟨a1, n1, c1, rfl, hn1, -⟩ := r1.form
    obtain ⟨a2, n2, c2, rfl, hn2, hk2⟩ := r2.form
    have hn20 : n2 = 20 := by omega
    subst hn20
    have hc2 := (hk2 (by omega)).1
    have HR1 := Lib.hid r1
    have HR2 := Lib.hid r2
    have hD2 := r2.drop 16 (by omega)
    have hsl2 := fun W => sl_lBi W a2 20 c2 16 16 rfl (by omega) hc2
    generalize hT2 : (if c2 = 16 then a2 else a2.map (·.add 16)) = T2 at hD2 hsl2
    generalize c2 - 16 = C2 at *
    have hD3 := r2.drop 8 (by omega)
    have hsl3 := fun W => sl_lBi W a2 20 c2 8 8 rfl (by omega) hc2
    generalize hT3 : (if c2 = 8 then a2 else a2.map (·.add 8)) = T3 at hD3 hsl3
    generalize c2 - 8 = C3 at *
    have HG2 := Lib.hid (get32_any _ (q2.drop 16) w1 hD2)
    have HG3 := Lib.hid (get64_any _ (q2.drop 8) w1 hD3)
    have HG4 := Lib.hid (get64_any _ q2 w1 r2)
    clear hu hD2 hD3 hT2 hT3 hl2 hk2 hn1 hn2 r1
    have HQ2 := Lib.hid r2
    clear r2 HR2
    generalize q2.drop 16 = q3 at *
    by_cases hm : ¬ unfK 4 q3 = magicN
    · have hm' : ((unfK 4 q3 : Int) != 1768842089) = true := by unfold magicN at hm; simp; omega
      rw [if_pos hm] at HU
      generalize unfK 4 q3 = G at *
      clear hm HG3 HG4
      go_wp2_with fail
      refine HG2.out.mono ?_
      rintro e w' ⟨rfl, rfl⟩
      go_wp2_with fail
      refine bodyPost_ret (v := .tuple #[.slice none 0 0, .slice none 0 0, .slice none 0 0, .bool false]) (by simp [results, Tryd.results35, go_sem]) rfl ?_
      rw [HU.out]
      exact ⟨rfl, HB.out⟩
    rw [Decidable.not_not] at hm
    rw [if_neg (by simp [hm])] at HU
    rw [hm] at HG2
    obtain ⟨M, hM⟩ : ∃ M, magicN = M := ⟨_, rfl⟩
    have hm' : ((M : Int) != 1768842089) = false := by rw [← hM]; decide
    rw [hM] at HG2 hm
    clear hM
    generalize q2.drop 8 = q4 at *
    have HC2 := Lib.hid (cut_part _ q1 (unfK 8 q4) (unfK_lt8 _) w1 HT1.out HR1.out)
    generalize unfK 8 q4 = G4 at *
    have HG22 := Lib.hid (unfK_lt8 q2)
    have HR2 := Lib.hid (fun W (hW : Below w1.heap.size w1 W) => get64_any _ q2 W (HQ2.out.below hW))
    clear hm HG4
    generalize unfK 8 q2 = G2 at *
    go_wp2_with fail
    refine HG2.out.mono ?_
    rintro e w' ⟨rfl, rfl⟩
    go_wp2_with fail
    refine HG3.out.mono ?_
    rintro e w' ⟨rfl, rfl⟩
    go_wp2_with fail
    refine HC2.out.mono ?_
    rintro e w2 ⟨hr, hb2⟩
    have HB2 := Lib.hid (HB.out.trans (hb2.mono HB.out.size))
    have HT2 := Lib.hid (HT1.out.below hb2)
    have HG6 := Lib.hid (HR2.out w2 hb2)
    clear hb2 HC2 HG2 HG3 HT1 HR2 HQ2
    cases hu : cutB q1 G4 with
    | none =>
      rw [hu] at hr HU
      obtain rfl := hr
      clear hu HG6
      go_wp2_with fail
      refine bodyPost_ret (v := .tuple #[.slice none 0 0, .slice none 0 0, .slice none 0 0, .bool false]) (by simp [results, Tryd.results35, go_sem]) rfl ?_
      rw [HU.out]
      exact ⟨rfl, HB2.out⟩
    | some p =>
      obtain ⟨p1, p2⟩ := p
      rw [hu, Option.bind_some] at HU
      rw [hu] at hr
      obtain ⟨v3, v4, rfl, r3, r4⟩ := hr
      simp only at r3 r4 HU
      have HR3 := Lib.hid r3
      have HR4 := Lib.hid r4
      obtain ⟨a3, n3, c3, rfl, -⟩ := r3.form
      obtain ⟨a4, n4, c4, rfl, -⟩ := r4.form
      have HC3 := Lib.hid (cut_part _ p1 G2 HG22.out w2 HT2.out HR3.out)
      clear hu r3 r4 HG22
      go_wp2_with fail
      refine HG6.out.mono ?_
      rintro e w' ⟨rfl, rfl⟩
      go_wp2_with fail
      refine HC3.out.mono ?_
      rintro e w3 ⟨hr, hb3⟩
      have HB3 := Lib.hid (HB2.out.trans (hb3.mono HB2.out.size))
      have HR5 := Lib.hid (HR4.out.below hb3)
      clear hb3 HC3 HG6
      cases hu : cutB p1 G2 with
      | none =>
        rw [hu] at hr HU
        obtain rfl := hr
        clear hu
        go_wp2_with fail
        refine bodyPost_ret (v := .tuple #[.slice none 0 0, .slice none 0 0, .slice none 0 0, .bool false]) (by simp [results, Tryd.results35, go_sem]) rfl ?_
        rw [HU.out]
        exact ⟨rfl, HB3.out⟩
      | some s =>
        obtain ⟨s1, s2⟩ := s
        rw [hu] at hr HU
        obtain ⟨v5, v6, rfl, r5, r6⟩ := hr
        simp only at r5 r6
        have HR7 := Lib.hid r5
        have HR8 := Lib.hid r6
        obtain ⟨a5, n5, c5, rfl, -⟩ := r5.form
        obtain ⟨a6, n6, c6, rfl, -⟩ := r6.form
        clear hu r5 r6
        go_wp2_with fail
        refine bodyPost_ret (v := .tuple #[.slice a5 n5 c5, .slice a6 n6 c6, .slice a4 n4 c4, .bool true]) (by simp [results, Tryd.results35, go_sem]) rfl ?_
        rw [HU.out]
        exact ⟨⟨_, _, _, rfl, HR7.out, HR8.out, HR5.out⟩, HB3.out⟩
end Go.Proofs.YtennpdhnjaemeaaDoor
