/- Plain mathematics of keys: texts compared by bytes are compared by characters; the text between two; the sum of a text's bytes. -/
import Derived.Test.YtjhkfjbgdaomeaaGreatDoorMUtf
import Derived.Test.YtjhkfjbgdaomeaaGreatDoorMBase
import Derived.Test.YtjhkfjbgdaomeaaGreatDoorMNormB
import Derived.Lib.Bytealg
import Derived.Sort.Walk0
import Derived.Deep.QuietTactic
import Derived.BigQuiet
import Derived.RegionTactic
import Derived.Deep.OwnRows
namespace Go.Proofs.YtjhkfjbgdaomeaaGreatDoor
set_option linter.unusedVariables false
open Go.RowKit
open Go.Lib (compareBytes)
/-- Characters compared one by one. -/
def cmpI : List Int → List Int → Int
  | [], [] => 0
  | [], _ :: _ => -1
  | _ :: _, [] => 1
  | a :: aa, b :: bs => if a < b then -1 else if b < a then 1 else cmpI aa bs
theorem cmpI_self : ∀ a : List Int, cmpI a a = 0
  | [] => rfl
  | a :: aa => by simp only [cmpI, Int.lt_irrefl, if_false]; exact cmpI_self aa
theorem cmpI_anti : ∀ a b : List Int, cmpI b a = - cmpI a b
  | [], [] => rfl
  | [], _ :: _ => rfl
  | _ :: _, [] => rfl
  | a :: aa, b :: bs => by
    unfold cmpI
    by_cases h1 : a < b
    · rw [if_neg (by omega), if_pos h1, if_pos h1]; rfl
    · by_cases h2 : b < a
      · rw [if_pos h2, if_neg h1, if_pos h2]
      · rw [if_neg h2, if_neg h1, if_neg h1, if_neg h2]; exact cmpI_anti aa bs
theorem cmpI_pre (p u v : List Int) : cmpI (p ++ u) (p ++ v) = cmpI u v := by
  induction p with
  | nil => rfl
  | cons a p ih =>
    rw [List.cons_append, List.cons_append, cmpI, if_neg (Int.lt_irrefl a), if_neg (Int.lt_irrefl a)]
    exact ih
theorem cmpI_split {xs ys : List Int} {k : Nat} (h : xs.take k = ys.take k) : cmpI xs ys = cmpI (xs.drop k) (ys.drop k) := by
  conv => lhs; rw [← List.take_append_drop k xs, ← List.take_append_drop k ys, h]
  exact cmpI_pre _ _ _
/-- What the law's loop knows behind k steps. -/
def Wrel (xs ys : List Int) (k : Nat) (W : Int) : Prop := (W = 0 ∧ k ≤ xs.length ∧ k ≤ ys.length ∧ xs.take k = ys.take k) ∨ (W = -1 ∧ cmpI xs ys = -1) ∨ (W = 1 ∧ cmpI xs ys = 1)
theorem wrel_lt {xs ys : List Int} {k : Nat} (h1 : k < xs.length) (h2 : k < ys.length) (h : xs.take k = ys.take k) (hl : xs.getD k 0 < ys.getD k 0) : cmpI xs ys = -1 := by
  rw [cmpI_split h, List.drop_eq_getElem_cons h1, List.drop_eq_getElem_cons h2, cmpI]
  rw [List.getD_eq_getElem?_getD, List.getD_eq_getElem?_getD, List.getElem?_eq_getElem h1, List.getElem?_eq_getElem h2] at hl
  simp only [Option.getD_some] at hl
  rw [if_pos hl]
theorem wrel_gt {xs ys : List Int} {k : Nat} (h1 : k < xs.length) (h2 : k < ys.length) (h : xs.take k = ys.take k) (hl : ys.getD k 0 < xs.getD k 0) : cmpI xs ys = 1 := by
  rw [cmpI_split h, List.drop_eq_getElem_cons h1, List.drop_eq_getElem_cons h2, cmpI]
  rw [List.getD_eq_getElem?_getD, List.getD_eq_getElem?_getD, List.getElem?_eq_getElem h1, List.getElem?_eq_getElem h2] at hl
  simp only [Option.getD_some] at hl
  rw [if_neg (by omega), if_pos hl]
theorem wrel_eq {xs ys : List Int} {k : Nat} (h1 : k < xs.length) (h2 : k < ys.length) (h : xs.take k = ys.take k) (hl : xs.getD k 0 = ys.getD k 0) : xs.take (k + 1) = ys.take (k + 1) := by
  rw [List.getD_eq_getElem?_getD, List.getD_eq_getElem?_getD, List.getElem?_eq_getElem h1, List.getElem?_eq_getElem h2] at hl
  simp only [Option.getD_some] at hl
  rw [List.take_succ_eq_append_getElem h1, List.take_succ_eq_append_getElem h2, h, hl]
theorem wrel_end {xs ys : List Int} {k : Nat} (hk1 : k ≤ xs.length) (hk2 : k ≤ ys.length) (h : xs.take k = ys.take k) (he : k = xs.length ∨ k = ys.length) :
    (xs.length = ys.length → cmpI xs ys = 0) ∧ (xs.length < ys.length → cmpI xs ys = -1) ∧ (ys.length < xs.length → cmpI xs ys = 1) := by
  rw [cmpI_split h]
  refine ⟨fun e => ?_, fun e => ?_, fun e => ?_⟩
  · rw [List.drop_of_length_le (by omega), List.drop_of_length_le (by omega)]; rfl
  · obtain ⟨y, r, hy⟩ : ∃ y r, ys.drop k = y :: r := ⟨_, _, List.drop_eq_getElem_cons (by omega)⟩
    rw [List.drop_of_length_le (by omega), hy]; rfl
  · obtain ⟨y, r, hy⟩ : ∃ y r, xs.drop k = y :: r := ⟨_, _, List.drop_eq_getElem_cons (by omega)⟩
    rw [List.drop_of_length_le (l := ys) (by omega), hy]; rfl
theorem u8_lt {a b : UInt8} : a < b ↔ a.toNat < b.toNat := UInt8.lt_iff_toNat_lt
theorem cmpB_self : ∀ a : List UInt8, compareBytes a a = 0
  | [] => rfl
  | a :: aa => by unfold compareBytes; rw [if_neg (UInt8.lt_irrefl a), if_neg (UInt8.lt_irrefl a)]; exact cmpB_self aa
theorem cmpB_anti : ∀ a b : List UInt8, compareBytes b a = - compareBytes a b
  | [], [] => rfl
  | [], _ :: _ => rfl
  | _ :: _, [] => rfl
  | a :: aa, b :: bs => by
    unfold compareBytes
    by_cases h1 : a < b
    · have h2 : ¬ b < a := by rw [u8_lt] at h1 ⊢; omega
      rw [if_neg h2, if_pos h1, if_pos h1]; rfl
    · by_cases h2 : b < a
      · rw [if_pos h2, if_neg h1, if_pos h2]
      · rw [if_neg h2, if_neg h1, if_neg h1, if_neg h2]; exact cmpB_anti aa bs
theorem cmpB_pre (p u v : List UInt8) : compareBytes (p ++ u) (p ++ v) = compareBytes u v := by
  induction p with
  | nil => rfl
  | cons a p ih =>
    rw [List.cons_append, List.cons_append, compareBytes, if_neg (UInt8.lt_irrefl a), if_neg (UInt8.lt_irrefl a)]
    exact ih
theorem cmpB_head {a b : UInt8} {u v : List UInt8} (h : a.toNat < b.toNat) : compareBytes (a :: u) (b :: v) = -1 := by
  unfold compareBytes; rw [if_pos (u8_lt.2 h)]
theorem cmpB_next {a b : UInt8} {u v : List UInt8} (h : a.toNat = b.toNat) : compareBytes (a :: u) (b :: v) = compareBytes u v := by
  obtain rfl : a = b := UInt8.toNat_inj.1 h
  exact cmpB_pre [a] u v
theorem B_lt {m n : Int} (h0 : 0 ≤ m) (h : m < n) (h1 : n < 256) : (UInt8.ofNat m.toNat).toNat < (UInt8.ofNat n.toNat).toNat := by rw [byte_of _ (by omega), byte_of _ (by omega)]; omega
theorem B_same {m n : Int} (h : m = n) : (UInt8.ofNat m.toNat).toNat = (UInt8.ofNat n.toNat).toNat := by rw [h]
/-- Of two characters the lesser one's bytes come first. -/
theorem enc_lt {x y : Int} (h0 : 0 ≤ x) (h : x < y) (h1 : y ≤ 1114111) (u v : List UInt8) : compareBytes (encP x ++ u) (encP y ++ v) = -1 := by
  unfold encP
  by_cases x1 : x < 128
  · simp only [if_pos x1]
    by_cases y1 : y < 128
    · simp only [if_pos y1]; exact cmpB_head (B_lt (by omega) (by omega) (by omega))
    · by_cases y2 : y < 2048
      · simp only [if_neg y1, if_pos y2]; exact cmpB_head (B_lt (by omega) (by omega) (by omega))
      · by_cases y3 : y < 65536
        · simp only [if_neg y1, if_neg y2, if_pos y3]; exact cmpB_head (B_lt (by omega) (by omega) (by omega))
        · simp only [if_neg y1, if_neg y2, if_neg y3]; exact cmpB_head (B_lt (by omega) (by omega) (by omega))
  · by_cases x2 : x < 2048
    · simp only [if_neg x1, if_pos x2, if_neg (show ¬ y < 128 by omega)]
      by_cases y2 : y < 2048
      · simp only [if_pos y2, List.cons_append, List.nil_append]
        by_cases e : x / 64 < y / 64
        · exact cmpB_head (B_lt (by omega) (by omega) (by omega))
        · rw [cmpB_next (B_same (by omega))]; exact cmpB_head (B_lt (by omega) (by omega) (by omega))
      · by_cases y3 : y < 65536
        · simp only [if_neg y2, if_pos y3]; exact cmpB_head (B_lt (by omega) (by omega) (by omega))
        · simp only [if_neg y2, if_neg y3]; exact cmpB_head (B_lt (by omega) (by omega) (by omega))
    · by_cases x3 : x < 65536
      · simp only [if_neg x1, if_neg x2, if_pos x3, if_neg (show ¬ y < 128 by omega), if_neg (show ¬ y < 2048 by omega)]
        by_cases y3 : y < 65536
        · simp only [if_pos y3, List.cons_append, List.nil_append]
          by_cases e : x / 4096 < y / 4096
          · exact cmpB_head (B_lt (by omega) (by omega) (by omega))
          · rw [cmpB_next (B_same (by omega))]
            by_cases e2 : x / 64 % 64 < y / 64 % 64
            · exact cmpB_head (B_lt (by omega) (by omega) (by omega))
            · rw [cmpB_next (B_same (by omega))]; exact cmpB_head (B_lt (by omega) (by omega) (by omega))
        · simp only [if_neg y3]; exact cmpB_head (B_lt (by omega) (by omega) (by omega))
      · simp only [if_neg x1, if_neg x2, if_neg x3, if_neg (show ¬ y < 128 by omega), if_neg (show ¬ y < 2048 by omega), if_neg (show ¬ y < 65536 by omega), List.cons_append, List.nil_append]
        by_cases e : x / 262144 < y / 262144
        · exact cmpB_head (B_lt (by omega) (by omega) (by omega))
        · rw [cmpB_next (B_same (by omega))]
          by_cases e2 : x / 4096 % 64 < y / 4096 % 64
          · exact cmpB_head (B_lt (by omega) (by omega) (by omega))
          · rw [cmpB_next (B_same (by omega))]
            by_cases e3 : x / 64 % 64 < y / 64 % 64
            · exact cmpB_head (B_lt (by omega) (by omega) (by omega))
            · rw [cmpB_next (B_same (by omega))]; exact cmpB_head (B_lt (by omega) (by omega) (by omega))
theorem enc_ne (c : Int) : ∃ a r, encP c = a :: r := by
  cases h : encP c with
  | nil => have := congrArg List.length h; rw [encP_length] at this; unfold szI at this; simp at this; (repeat' split at this) <;> omega
  | cons a r => exact ⟨a, r, rfl⟩
/-- By bytes is by characters. -/
theorem cmp_write : ∀ (xs ys : List Int) (s t : List UInt8), writeP xs = some s → writeP ys = some t → compareBytes s t = cmpI xs ys
  | [], [], s, t, h1, h2 => by simp [writeP] at h1 h2; subst h1 h2; rfl
  | [], y :: ys, s, t, h1, h2 => by
    simp [writeP] at h1; subst h1
    unfold writeP at h2
    split at h2
    · obtain ⟨b, _, rfl⟩ := Option.map_eq_some_iff.1 h2
      obtain ⟨a, r, e⟩ := enc_ne y
      rw [e]; rfl
    · cases h2
  | x :: xs, [], s, t, h1, h2 => by
    simp [writeP] at h2; subst h2
    unfold writeP at h1
    split at h1
    · obtain ⟨b, _, rfl⟩ := Option.map_eq_some_iff.1 h1
      obtain ⟨a, r, e⟩ := enc_ne x
      rw [e]; rfl
    · cases h1
  | x :: xs, y :: ys, s, t, h1, h2 => by
    unfold writeP at h1 h2
    split at h1
    · rename_i vx
      split at h2
      · rename_i vy
        obtain ⟨u, eu, rfl⟩ := Option.map_eq_some_iff.1 h1
        obtain ⟨v, ev, rfl⟩ := Option.map_eq_some_iff.1 h2
        have ax := (vldB_iff x).1 vx
        have ay := (vldB_iff y).1 vy
        unfold cmpI
        by_cases l1 : x < y
        · rw [if_pos l1]; exact enc_lt (by omega) l1 (by omega) u v
        · by_cases l2 : y < x
          · rw [if_neg l1, if_pos l2, cmpB_anti (encP y ++ v) (encP x ++ u), enc_lt (by omega) l2 (by omega) v u]; rfl
          · obtain rfl : x = y := by omega
            rw [if_neg l1, if_neg l2, cmpB_pre]
            exact cmp_write xs ys u v eu ev
      · cases h2
    · cases h1
/-- How many bytes two texts begin with alike. -/
def dif : List UInt8 → List UInt8 → Nat
  | a :: aa, b :: bs => if a = b then dif aa bs + 1 else 0
  | _, _ => 0
/-- A text not below a, but below b, of a below b. -/
def btw : List UInt8 → List UInt8 → List UInt8
  | a :: aa, b :: bs => if a = b then a :: btw aa bs else if a.toNat + 1 < b.toNat then [UInt8.ofNat (a.toNat + 1)] else a :: aa
  | a, _ => a
def btwP (a b : List UInt8) : List UInt8 := if a < b then btw a b else a
theorem dif_le : ∀ a b, dif a b ≤ a.length ∧ dif a b ≤ b.length
  | [], _ => by simp [dif]
  | _ :: _, [] => by simp [dif]
  | a :: aa, b :: bs => by
    unfold dif
    have := dif_le aa bs
    split <;> simp <;> omega
theorem dif_lt : ∀ a b k, k < dif a b → a[k]? = b[k]?
  | [], _, k, h => by simp [dif] at h
  | _ :: _, [], k, h => by simp [dif] at h
  | a :: aa, b :: bs, k, h => by
    unfold dif at h
    split at h
    · rename_i e
      subst e
      cases k with
      | zero => rfl
      | succ k => simp; exact dif_lt aa bs k (by omega)
    · omega
theorem dif_at : ∀ a b, ∀ (h1 : dif a b < a.length) (h2 : dif a b < b.length), a[dif a b] ≠ b[dif a b]
  | [], _, h, _ => by simp at h
  | _ :: _, [], _, h => by simp at h
  | a :: aa, b :: bs, h1, h2 => by
    by_cases e : a = b
    · have e' : dif (a :: aa) (b :: bs) = dif aa bs + 1 := by rw [dif, if_pos e]
      simp only [e', List.getElem_cons_succ]
      exact dif_at aa bs (by rw [e'] at h1; simp at h1; omega) (by rw [e'] at h2; simp at h2; omega)
    · have e' : dif (a :: aa) (b :: bs) = 0 := by rw [dif, if_neg e]
      simp only [e', List.getElem_cons_zero]
      exact e
theorem dif_ord : ∀ a b : List UInt8, a < b → ∀ (h1 : dif a b < a.length), ∃ h2 : dif a b < b.length, a[dif a b] < b[dif a b]
  | [], _, _, h => by simp at h
  | _ :: _, [], h, _ => by simp at h
  | a :: aa, b :: bs, h, h1 => by
    by_cases e : a = b
    · have e' : dif (a :: aa) (b :: bs) = dif aa bs + 1 := by rw [dif, if_pos e]
      subst e
      have h' : aa < bs := by
        rcases List.cons_lt_cons_iff.1 h with h | ⟨_, h⟩
        · exact absurd h (UInt8.lt_irrefl a)
        · exact h
      simp only [e', List.getElem_cons_succ]
      obtain ⟨h2, h3⟩ := dif_ord aa bs h' (by rw [e'] at h1; simp at h1; omega)
      exact ⟨by simp; omega, h3⟩
    · have e' : dif (a :: aa) (b :: bs) = 0 := by rw [dif, if_neg e]
      simp only [e', List.getElem_cons_zero]
      refine ⟨by simp, ?_⟩
      rcases List.cons_lt_cons_iff.1 h with h | ⟨h, _⟩
      · exact h
      · exact absurd h e
theorem btw_at : ∀ a b : List UInt8, ∀ (h1 : dif a b < a.length) (h2 : dif a b < b.length), btw a b = if (a[dif a b]).toNat + 1 < (b[dif a b]).toNat then a.take (dif a b) ++ [UInt8.ofNat ((a[dif a b]).toNat + 1)] else a
  | [], _, h, _ => by simp at h
  | _ :: _, [], _, h => by simp at h
  | a :: aa, b :: bs, h1, h2 => by
    by_cases e : a = b
    · have e' : dif (a :: aa) (b :: bs) = dif aa bs + 1 := by rw [dif, if_pos e]
      simp only [e', List.getElem_cons_succ]
      rw [btw, if_pos e, btw_at aa bs (by rw [e'] at h1; simp at h1; omega) (by rw [e'] at h2; simp at h2; omega)]
      split <;> simp
    · have e' : dif (a :: aa) (b :: bs) = 0 := by rw [dif, if_neg e]
      simp only [e', List.getElem_cons_zero]
      rw [btw, if_neg e]
      split <;> simp
theorem btw_end : ∀ a b : List UInt8, dif a b = a.length → btw a b = a
  | [], _, _ => by simp [btw]
  | _ :: _, [], h => by simp [btw]
  | a :: aa, b :: bs, h => by
    by_cases e : a = b
    · rw [btw, if_pos e, btw_end aa bs (by rw [dif, if_pos e] at h; simp at h; omega)]
    · rw [dif, if_neg e] at h; simp at h
theorem btw_len : ∀ a b : List UInt8, (btw a b).length ≤ a.length
  | [], _ => by simp [btw]
  | _ :: _, [] => by simp [btw]
  | a :: aa, b :: bs => by
    unfold btw
    have := btw_len aa bs
    split
    · simp; omega
    · split <;> simp
theorem btw_lt : ∀ a b : List UInt8, a < b → btw a b < b
  | [], b, h => by simpa [btw] using h
  | _ :: _, [], h => by simp at h
  | a :: aa, b :: bs, h => by
    unfold btw
    split
    · rename_i e
      subst e
      refine List.cons_lt_cons_iff.2 (.inr ⟨rfl, btw_lt aa bs ?_⟩)
      rcases List.cons_lt_cons_iff.1 h with h | ⟨_, h⟩
      · exact absurd h (UInt8.lt_irrefl a)
      · exact h
    · split
      · rename_i hn
        have := b.toNat_lt
        exact List.cons_lt_cons_iff.2 (.inl (u8_lt.2 (by rw [byte_of _ (by omega)]; exact hn)))
      · exact h
theorem btw_le : ∀ a b : List UInt8, ¬ btw a b < a
  | [], b => by simp
  | a :: aa, [] => by simp only [btw]; exact List.lt_irrefl _
  | a :: aa, b :: bs => by
    unfold btw
    split
    · intro h
      rcases List.cons_lt_cons_iff.1 h with h | ⟨_, h⟩
      · exact UInt8.lt_irrefl a h
      · exact btw_le aa bs h
    · split
      · rename_i hn
        have := b.toNat_lt
        intro h
        rcases List.cons_lt_cons_iff.1 h with h | ⟨h, _⟩
        · rw [u8_lt, byte_of _ (by omega)] at h; omega
        · have := congrArg UInt8.toNat h; rw [byte_of _ (by omega)] at this; omega
      · exact List.lt_irrefl _
/-- The sum of a text's bytes, a byte further. -/
def hstep (h : Int) (b : UInt8) : Int := IntKind.u64.wrap (bits .xor .u64 h (IntKind.u64.wrap b.toNat) * 1099511628211)
def hashL (l : List UInt8) : Int := l.foldl hstep 14695981039346656037
theorem hashL_take (l : List UInt8) (k : Nat) (h : k < l.length) : hashL (l.take (k + 1)) = hstep (hashL (l.take k)) l[k] := by
  unfold hashL; rw [List.take_succ_eq_append_getElem h, List.foldl_append]; rfl
end Go.Proofs.YtjhkfjbgdaomeaaGreatDoor
/- The walks of ckey.Compare, Hash, Between and the reference's Hash, Between. -/
namespace Go.Proofs.YtjhkfjbgdaomeaaGreatDoor
set_option linter.unusedVariables false
open Go.RowKit
open Go.Lib (compareBytes)
theorem hashS_take (s : ByteArray) (k : Nat) (h : k < s.size) : hashL (s.data.toList.take (k + 1)) = hstep (hashL (s.data.toList.take k)) (s[k]'h) :=
  hashL_take s.data.toList k (by rw [size_toList]; exact h)
theorem hash_all (s : ByteArray) : hashL (s.data.toList.take s.size) = hashL s.data.toList := by rw [List.take_of_length_le (by rw [size_toList]; omega)]
theorem get_s (s : ByteArray) (k : Nat) (h : k < s.size) : s.data.toList[k]? = some (s[k]'h) := by rw [List.getElem?_eq_getElem (by rw [size_toList]; exact h)]; rfl
theorem difS_lt {s t : ByteArray} {k : Nat} (h : k < dif s.data.toList t.data.toList) : ∃ (h1 : k < s.size) (h2 : k < t.size), s[k]'h1 = t[k]'h2 := by
  have hl := dif_le s.data.toList t.data.toList
  rw [size_toList, size_toList] at hl
  refine ⟨by omega, by omega, ?_⟩
  have := dif_lt _ _ _ h
  rw [get_s s k (by omega), get_s t k (by omega)] at this
  exact Option.some.inj this
theorem difS_at {s t : ByteArray} (h1 : dif s.data.toList t.data.toList < s.size) (h2 : dif s.data.toList t.data.toList < t.size) : s[dif s.data.toList t.data.toList]'h1 ≠ t[dif s.data.toList t.data.toList]'h2 :=
  dif_at s.data.toList t.data.toList (by rw [size_toList]; exact h1) (by rw [size_toList]; exact h2)
theorem btwP_no {a b : List UInt8} (h : ¬ a < b) : btwP a b = a := by unfold btwP; rw [if_neg h]
theorem btwP_end {a b : List UInt8} (h : a < b) (hd : dif a b = a.length) : btwP a b = a := by unfold btwP; rw [if_pos h, btw_end a b hd]
theorem ord_lt (a b : ByteArray) (h : a.data.toList < b.data.toList) (h1 : dif a.data.toList b.data.toList < a.size) : ∃ h2 : dif a.data.toList b.data.toList < b.size, (a[dif a.data.toList b.data.toList]'h1).toNat < (b[dif a.data.toList b.data.toList]'h2).toNat := by
  obtain ⟨g1, g2⟩ := dif_ord _ _ h (by rw [size_toList]; exact h1)
  exact ⟨by rw [size_toList] at g1; exact g1, u8_lt.1 g2⟩
theorem btwP_at (a b : ByteArray) (h : a.data.toList < b.data.toList) (h1 : dif a.data.toList b.data.toList < a.size) (h2 : dif a.data.toList b.data.toList < b.size) :
    btwP a.data.toList b.data.toList = if (a[dif a.data.toList b.data.toList]'h1).toNat + 1 < (b[dif a.data.toList b.data.toList]'h2).toNat then a.data.toList.take (dif a.data.toList b.data.toList) ++ [UInt8.ofNat ((a[dif a.data.toList b.data.toList]'h1).toNat + 1)] else a.data.toList := by
  unfold btwP; rw [if_pos h]
  exact btw_at _ _ (by rw [size_toList]; exact h1) (by rw [size_toList]; exact h2)
theorem str_made (a : ByteArray) (d : Nat) (x : UInt8) (hx : x.toNat < 255) : a.extract 0 d ++ strOfNums [(x.toNat : Int) + 1] = ⟨(a.data.toList.take d ++ [UInt8.ofNat (x.toNat + 1)]).toArray⟩ := by
  apply ByteArray.ext
  apply Array.ext'
  have e : ((x.toNat : Int) + 1).toNat = x.toNat + 1 := by omega
  simp [strOfNums, ByteArray.data_append, ByteArray.data_extract, e]
theorem conv1d (w : World) (n : Nat) (a : Int) : (convert 38 9 (.slice (some ⟨w.heap.size, 0, none⟩) 1 1)).run Tryz.prog ((w.drewN n).alloc (.cells #[.int .u8 a] 5)) = .ok (.string (strOfNums [a])) ((w.drewN n).alloc (.cells #[.int .u8 a] 5)) := conv1 (w.drewN n) a
theorem drAl (w : World) (n : Nat) (o : Obj) : Below w.heap.size w ((w.drewN n).alloc o) := Below.alloc (a := w) (w := w.drewN n) ⟨rfl, rfl, rfl, Nat.le_refl _, fun _ _ => rfl⟩ (Nat.le_refl _) o
def DifAt (a b : ByteArray) (d : Nat) : Prop :=
  d ≤ a.size ∧ d ≤ b.size ∧ (∀ k, k < d → ∃ (h1 : k < a.size) (h2 : k < b.size), a[k]'h1 = b[k]'h2) ∧
    (∀ h1 : d < a.size, ∃ h2 : d < b.size, (a[d]'h1).toNat < (b[d]'h2).toNat ∧ btwP a.data.toList b.data.toList = if (a[d]'h1).toNat + 1 < (b[d]'h2).toNat then a.data.toList.take d ++ [UInt8.ofNat ((a[d]'h1).toNat + 1)] else a.data.toList) ∧
    (d = a.size → btwP a.data.toList b.data.toList = a.data.toList)
end Go.Proofs.YtjhkfjbgdaomeaaGreatDoor
/- The walks of ckey.Make and of the reference's Key; a text's key, in plain words. -/
namespace Go.Proofs.YtjhkfjbgdaomeaaGreatDoor
set_option linter.unusedVariables false
open Go.RowKit
/-- The form of the key that a text spells, if it spells one. -/
def keyP (l : List UInt8) : Option (List UInt8) := if l = [] ∨ 4096 < l.length then none else textP l
def MakeRes (s : ByteArray) (r : Option (List UInt8)) (w : World) (e : Ending) (w' : World) : Prop :=
  e = .returned (match r with
    | none => .tuple #[.agg #[.string ⟨#[]⟩, .string ⟨#[]⟩], .int .i64 1]
    | some A => .tuple #[.agg #[.string ⟨A.toArray⟩, .string s], .int .i64 0]) ∧ Below w.heap.size w w'
theorem blk2 {w w4 : World} {T : TypeId} {a b : Value} (h : Below (w.heap.size + 1) (w.alloc (.cells #[a, b] T)) w4) :
    (w4.cell? ⟨w.heap.size, 0, none⟩ = some a ∧ w4.cell? ⟨w.heap.size, 1, none⟩ = some b) ∧
    (w4.frozen? ⟨w.heap.size, 0, none⟩ = false ∧ w4.frozen? ⟨w.heap.size, 1, none⟩ = false) ∧ w.heap.size < w4.heap.size := by
  have hb := h.block w.heap.size (by omega)
  have hs := h.size
  rw [World.size_alloc] at hs
  rw [heap_alloc_new] at hb
  refine ⟨⟨?_, ?_⟩, ⟨?_, ?_⟩, by omega⟩
  all_goals first | (unfold World.cell?; rw [hb]; rfl) | (unfold World.frozen?; rw [hb]; rfl)
theorem keyP_nil {s : ByteArray} (h : ¬ 0 < s.size) : keyP s.data.toList = none := by unfold keyP; rw [if_pos (.inl (toList_nil h))]
theorem keyP_long {s : ByteArray} (h : 4096 < s.size) : keyP s.data.toList = none := by unfold keyP; rw [if_pos (.inr (by rw [size_toList]; exact h))]
theorem keyP_text {s : ByteArray} (h : 0 < s.size) (h2 : ¬ 4096 < s.size) : keyP s.data.toList = textP s.data.toList := by
  unfold keyP
  rw [if_neg]
  rintro (e | e)
  · have := congrArg List.length e; rw [size_toList, List.length_nil] at this; omega
  · rw [size_toList] at e; exact h2 e
set_option maxHeartbeats 1000000 in
set_option maxRecDepth 100000 in
theorem make_any (s : ByteArray) (hs : s.size ≤ maxLen) (w : World) (hE : ErrAt w) (hSp : SpAt w) :
    Calls Tryz.prog 86 #[.string s] w (MakeRes s (keyP s.data.toList) w) := by
  have hal : Below w.heap.size w (w.alloc (.cells #[.string ⟨#[]⟩, .string ⟨#[]⟩] 115)) := (Below.refl _ _).alloc (Nat.le_refl _) _
  by_cases h : 0 < s.size
  · have hemp := isEmpty_no h
    by_cases h2 : 4096 < s.size
    · have hd : decide (4096 < s.size) = true := decide_eq_true h2
      have HK := Lib.hid (keyP_long h2)
      unfold maxLen at hs
      clear hal
      go_enter Tryz.func86, Tryz.ntmps86
      go_wp2
      refine bodyPost_ret (v := .tuple #[.agg #[.string ⟨#[]⟩, .string ⟨#[]⟩], .int .i64 1]) (by simp [results, Tryz.results86, go_sem]) rfl ⟨by rw [HK.out], ?_⟩
      exact (Below.refl _ _).alloc (Nat.le_refl _) _
    · have hd : decide (4096 < s.size) = false := decide_eq_false h2
      have HT := Lib.hid (text_any s (w.alloc (.cells #[.string ⟨#[]⟩, .string ⟨#[]⟩] 115)) (short_of (by rw [size_toList]; omega)) (hE.below hal) (hSp.below hal hSp.1))
      rw [keyP_text h h2]
      unfold maxLen at hs
      generalize textP s.data.toList = r at *
      go_enter Tryz.func86, Tryz.ntmps86
      go_wp2_with fail
      refine HT.out.mono ?_
      rintro e w1 ⟨rfl, hb⟩
      have hb' : Below (w.heap.size + 1) (w.alloc (.cells #[.string ⟨#[]⟩, .string ⟨#[]⟩] 115)) w1 := hb.mono (by simp)
      have HB := Lib.hid (hal.trans (hb.mono hal.size))
      obtain ⟨⟨c0, c1⟩, ⟨f0, f1⟩, hz⟩ := blk2 hb'
      clear hb hb' hal HT
      cases r with
      | none =>
        go_wp2_with fail
        refine bodyPost_ret (v := .tuple #[.agg #[.string ⟨#[]⟩, .string ⟨#[]⟩], .int .i64 1]) (by simp [results, Tryz.results86, go_sem, c0, c1]) rfl ⟨rfl, ?_⟩
        exact (HB.out.setCell (Nat.le_refl _) _).setCell (Nat.le_refl _) _
      | some A =>
        go_wp2_with fail
        refine bodyPost_ret (v := .tuple #[.agg #[.string ⟨A.toArray⟩, .string s], .int .i64 0]) (by simp [results, Tryz.results86, go_sem, c0, c1]) rfl ⟨rfl, ?_⟩
        exact (HB.out.setCell (Nat.le_refl _) _).setCell (Nat.le_refl _) _
  · have hemp := isEmpty_yes h
    have HK := Lib.hid (keyP_nil h)
    unfold maxLen at hs
    clear hal
    go_enter Tryz.func86, Tryz.ntmps86
    go_wp2
    refine bodyPost_ret (v := .tuple #[.agg #[.string ⟨#[]⟩, .string ⟨#[]⟩], .int .i64 1]) (by simp [results, Tryz.results86, go_sem]) rfl ⟨by rw [HK.out], ?_⟩
    exact (Below.refl _ _).alloc (Nat.le_refl _) _
theorem make_no (s : ByteArray) (hs : s.size ≤ maxLen) (w : World) (hE : ErrAt w) (hSp : SpAt w) (h : keyP s.data.toList = none) :
    Calls Tryz.prog 86 #[.string s] w fun e w' => e = .returned (.tuple #[.agg #[.string ⟨#[]⟩, .string ⟨#[]⟩], .int .i64 1]) ∧ Below w.heap.size w w' := by
  have := make_any s hs w hE hSp
  rw [h] at this; exact this
theorem make_yes (s : ByteArray) (hs : s.size ≤ maxLen) (w : World) (hE : ErrAt w) (hSp : SpAt w) (A : List UInt8) (h : keyP s.data.toList = some A) :
    Calls Tryz.prog 86 #[.string s] w fun e w' => e = .returned (.tuple #[.agg #[.string ⟨A.toArray⟩, .string s], .int .i64 0]) ∧ Below w.heap.size w w' := by
  have := make_any s hs w hE hSp
  rw [h] at this; exact this
theorem kb1 : keyP [195, 169] = some [101, 204, 129] := by decide +kernel
theorem kb2 : keyP [] = none := rfl
theorem kb3 : btwP [97, 98, 99] [97, 122] = [97, 99] := by decide +kernel
end Go.Proofs.YtjhkfjbgdaomeaaGreatDoor
/- The walk of the reference's Key; a key's form is not too long. -/
namespace Go.Proofs.YtjhkfjbgdaomeaaGreatDoor
set_option linter.unusedVariables false
open Go.RowKit
set_option maxHeartbeats 1000000 in
theorem rkey_any (s : ByteArray) (hs : s.size ≤ maxLen) (w : World) :
    Calls Tryz.prog 30 #[.string s] w (TextRes w (keyP s.data.toList)) := by
  by_cases h : 0 < s.size
  · have hemp := isEmpty_no h
    by_cases h2 : 4096 < s.size
    · have hd : decide (4096 < s.size) = true := decide_eq_true h2
      have HK := Lib.hid (keyP_long h2)
      unfold maxLen at hs
      go_enter Tryz.func30, Tryz.ntmps30
      go_wp2
      go_ret2
      exact ⟨by rw [HK.out]; rfl, Below.refl _ _⟩
    · have hd : decide (4096 < s.size) = false := decide_eq_false h2
      have HT : Hid (∀ w, Calls Tryz.prog 54 #[.string s] w (TextRes w (textP s.data.toList))) := Lib.hid fun w => rtext_any s w (short_of (by rw [size_toList]; omega))
      rw [keyP_text h h2]
      unfold maxLen at hs
      generalize textP s.data.toList = r at *
      go_enter Tryz.func30, Tryz.ntmps30
      go_wp2_with fail
      refine (HT.out _).mono ?_
      rintro e w1 ⟨rfl, hb⟩
      go_wp2_with fail
      go_ret2
      exact ⟨rfl, hb⟩
  · have hemp := isEmpty_yes h
    have HK := Lib.hid (keyP_nil h)
    unfold maxLen at hs
    go_enter Tryz.func30, Tryz.ntmps30
    go_wp2
    go_ret2
    exact ⟨by rw [HK.out]; rfl, Below.refl _ _⟩
theorem keyP_len {l A : List UInt8} (h : keyP l = some A) : A.length ≤ maxLen := by
  unfold keyP at h
  split at h
  · cases h
  · rename_i hn
    cases hr : readP l with
    | none => rw [text_none l hr] at h; cases h
    | some xs =>
      obtain ⟨bs, e1, e2, e3⟩ := text_some l xs hr
      rw [h] at e2; cases e2
      have h1 := read_len l xs hr
      have h2 := flat_len xs
      have h5 := chars_len xs
      have h3 : ∀ (L : List Int) (bs : List UInt8), writeP L = some bs → bs.length ≤ 4 * L.length := by
        intro L
        induction L with
        | nil => intro bs h; simp [writeP] at h; simp [h]
        | cons c L ih =>
          intro bs h
          unfold writeP at h
          split at h
          · obtain ⟨b', e, rfl⟩ := Option.map_eq_some_iff.1 h
            have := ih b' e
            have := enc_le c
            rw [List.length_append, List.length_cons]; omega
          · cases h
      have := h3 _ _ e1
      unfold maxLen; omega
/-- 'string(make([]byte, n))'. -/
theorem conv_zeros (w : World) (n : Nat) (hn : 0 < n) : (convert 38 9 (.slice (some ⟨w.heap.size, 0, none⟩) n n)).run Tryz.prog (w.alloc (.cells (madeCells #[.int .u8 0] n) 5)) = .ok (.string (strOfNums (List.replicate n 0))) (w.alloc (.cells (madeCells #[.int .u8 0] n) 5)) := by
  refine run_convert_bytes_arg _ 38 5 Tryz.underlying38 Tryz.underlying5 w.heap.size 0 n n (List.replicate n 0) (by simp) ?_ 9 Tryz.underlying9
  intro i hi
  unfold World.cell?
  rw [heap_alloc_new]
  have e : (madeCells #[.int .u8 0] n)[i]? = some (Value.int .u8 0) := by
    rw [← Array.getElem?_toList, toList_madeCells_one]; simp [hi]
  simp [e, hi, List.getD_eq_getElem?_getD]
theorem zeros_size (n : Nat) : (strOfNums (List.replicate n 0)).size = n := by
  unfold strOfNums; show (List.map _ _).toArray.size = n; simp
end Go.Proofs.YtjhkfjbgdaomeaaGreatDoor
