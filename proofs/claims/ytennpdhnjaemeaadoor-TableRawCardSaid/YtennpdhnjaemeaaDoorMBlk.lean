/- Plain mathematics of blocks of rows: what keys share, rows as bytes, the places behind them; what is laid is read again. -/
import Derived.Test.YtennpdhnjaemeaaDoorMNum
import Derived.Test.YtennpdhnjaemeaaDoorMBase
import Derived.RegionTactic
import Derived.Deep.QuietTactic
import Derived.Deep.LoopGhost
import Derived.Deep.DeepCutAuto
import Derived.Deep.CutBlock
import Derived.BigQuiet
namespace Go.Proofs.YtennpdhnjaemeaaDoor
set_option linter.unusedVariables false
/-- A row: its key's bytes, its value's. -/
structure Kv where
  k : List UInt8
  v : List UInt8
/-- How many bytes two keys share. -/
def shareN : List UInt8 → List UInt8 → Nat
  | a :: x, b :: y => if a = b then shareN x y + 1 else 0
  | _, _ => 0
theorem shareN_le : ∀ x y : List UInt8, shareN x y ≤ x.length ∧ shareN x y ≤ y.length
  | [], y => by simp [shareN]
  | a :: x, [] => by simp [shareN]
  | a :: x, b :: y => by
    unfold shareN
    split
    · have := shareN_le x y; simp; omega
    · simp
theorem shareN_take : ∀ x y : List UInt8, x.take (shareN x y) = y.take (shareN x y)
  | [], y => by simp [shareN]
  | a :: x, [] => by simp [shareN]
  | a :: x, b :: y => by
    unfold shareN
    split
    · rename_i h; subst h; rw [List.take_succ_cons, List.take_succ_cons, shareN_take x y]
    · simp
/-- Where a walk over both ends. -/
theorem shareN_at : ∀ {x y : List UInt8} {s : Nat}, x.take s = y.take s → s ≤ x.length → s ≤ y.length → (∀ a b, x[s]? = some a → y[s]? = some b → a ≠ b) → shareN x y = s
  | [], y, s, _, h, _, _ => by have : s = 0 := by simpa using h
                               subst this; simp [shareN]
  | a :: x, [], s, _, _, h, _ => by have : s = 0 := by simpa using h
                                    subst this; simp [shareN]
  | a :: x, b :: y, 0, _, _, _, h => by unfold shareN; rw [if_neg (h a b rfl rfl)]
  | a :: x, b :: y, s + 1, h1, h2, h3, h4 => by
    rw [List.take_succ_cons, List.take_succ_cons] at h1
    obtain ⟨rfl, h5⟩ := List.cons.inj h1
    unfold shareN
    rw [if_pos rfl, shareN_at h5 (by simpa using h2) (by simpa using h3) fun c d hc hd => h4 c d (by simpa using hc) (by simpa using hd)]
def shB (i : Nat) (p k : List UInt8) : Nat := if i % 4 = 0 then 0 else shareN p k
theorem shB_le (i : Nat) (p k : List UInt8) : shB i p k ≤ p.length ∧ shB i p k ≤ k.length := by
  unfold shB
  split
  · exact ⟨Nat.zero_le _, Nat.zero_le _⟩
  · exact shareN_le p k
theorem shB_take (i : Nat) (p k : List UInt8) : p.take (shB i p k) = k.take (shB i p k) := by
  unfold shB
  split
  · simp
  · exact shareN_take p k
/-- The i-th row's bytes, p the key ahead. -/
def rowB (i : Nat) (p : List UInt8) (r : Kv) : List UInt8 := putN (shB i p r.k) ++ (putN (r.k.length - shB i p r.k) ++ (putN r.v.length ++ (r.k.drop (shB i p r.k) ++ r.v)))
def bodyB : Nat → List UInt8 → List Kv → List UInt8
  | _, _, [] => []
  | i, p, r :: rs => rowB i p r ++ bodyB (i + 1) r.k rs
/-- The places of the rows whose number is a multiple of four. -/
def endsB : Nat → Nat → List UInt8 → List Kv → List Nat
  | _, _, _, [] => []
  | i, o, p, r :: rs => (if i % 4 = 0 then [o] else []) ++ endsB (i + 1) (o + (rowB i p r).length) r.k rs
def lastK (p : List UInt8) : List Kv → List UInt8
  | [] => p
  | r :: rs => lastK r.k rs
theorem lastK_snoc : ∀ (rs : List Kv) (p : List UInt8) (r : Kv), lastK p (rs ++ [r]) = r.k
  | [], _, _ => rfl
  | x :: rs, p, r => lastK_snoc rs x.k r
theorem bodyB_snoc : ∀ (rs : List Kv) (i : Nat) (p : List UInt8) (r : Kv), bodyB i p (rs ++ [r]) = bodyB i p rs ++ rowB (i + rs.length) (lastK p rs) r
  | [], i, p, r => by simp [bodyB, lastK]
  | x :: rs, i, p, r => by
    rw [List.cons_append, bodyB, bodyB_snoc rs, bodyB, lastK, List.append_assoc, List.length_cons, show i + 1 + rs.length = i + (rs.length + 1) by omega]
theorem endsB_snoc : ∀ (rs : List Kv) (i o : Nat) (p : List UInt8) (r : Kv), endsB i o p (rs ++ [r]) = endsB i o p rs ++ if (i + rs.length) % 4 = 0 then [o + (bodyB i p rs).length] else []
  | [], i, o, p, r => by simp [endsB, bodyB]
  | x :: rs, i, o, p, r => by
    rw [List.cons_append, endsB, endsB_snoc rs, endsB, List.append_assoc, bodyB, List.length_append, List.length_cons, show i + 1 + rs.length = i + (rs.length + 1) by omega, Nat.add_assoc]
theorem endsB_len : ∀ (rs : List Kv) (i o : Nat) (p : List UInt8), (endsB i o p rs).length = (i + rs.length + 3) / 4 - (i + 3) / 4
  | [], i, o, p => by simp [endsB]
  | x :: rs, i, o, p => by
    rw [endsB, List.length_append, endsB_len rs, List.length_cons]
    by_cases h : i % 4 = 0
    · rw [if_pos h, List.length_singleton]; omega
    · rw [if_neg h, List.length_nil]; omega
def bkEnds (rs : List Kv) : List Nat := endsB 0 0 [] rs
theorem bkEnds_len (rs : List Kv) : (bkEnds rs).length = (rs.length + 3) / 4 := by
  unfold bkEnds
  rw [endsB_len]; omega
def blockB (rs : List Kv) : List UInt8 := bodyB 0 [] rs ++ ((bkEnds rs).flatMap (fixN 4) ++ fixN 4 (bkEnds rs).length)
/-- Keys rise. -/
def RiseK (rs : List Kv) : Prop := rs.Pairwise fun a b => a.k < b.k
/-- No text is too long for a number. -/
def SmallK (rs : List Kv) : Prop := ∀ r ∈ rs, r.k.length < 2 ^ 64 ∧ r.v.length < 2 ^ 64
/-- A row is read. -/
def rowP (p l : List UInt8) : Option (Kv × List UInt8) :=
  (getN l).bind fun a => (getN (l.drop a.2)).bind fun b => (getN (l.drop (a.2 + b.2))).bind fun c =>
    if p.length < a.1 ∨ (l.drop (a.2 + b.2 + c.2)).length < b.1 ∨ (l.drop (a.2 + b.2 + c.2)).length - b.1 < c.1 then none
    else some (⟨p.take a.1 ++ (l.drop (a.2 + b.2 + c.2)).take b.1, ((l.drop (a.2 + b.2 + c.2)).drop b.1).take c.1⟩, (l.drop (a.2 + b.2 + c.2)).drop (b.1 + c.1))
theorem drop_put (n : Nat) (r : List UInt8) : (putN n ++ r).drop (putN n).length = r := List.drop_left
theorem rowP_lay (i : Nat) (p : List UInt8) (r : Kv) (rest : List UInt8) (hk : r.k.length < 2 ^ 64) (hv : r.v.length < 2 ^ 64) : rowP p (rowB i p r ++ rest) = some (r, rest) := by
  obtain ⟨s1, s2⟩ := shB_le i p r.k
  have st := shB_take i p r.k
  unfold rowP rowB
  generalize shB i p r.k = s at *
  simp only [List.append_assoc]
  rw [get_put (by omega)]
  simp only [Option.bind_some]
  rw [drop_put, get_put (by omega)]
  simp only [Option.bind_some]
  rw [← List.drop_drop, drop_put, drop_put, get_put hv]
  simp only [Option.bind_some]
  rw [← List.drop_drop, ← List.drop_drop, drop_put, drop_put, drop_put]
  have hl : (r.k.drop s).length = r.k.length - s := List.length_drop
  rw [if_neg (by simp only [List.length_append, hl]; omega)]
  have e1 : (r.k.drop s ++ (r.v ++ rest)).take (r.k.length - s) = r.k.drop s := by rw [← hl]; exact List.take_left
  have e2 : (r.k.drop s ++ (r.v ++ rest)).drop (r.k.length - s) = r.v ++ rest := by rw [← hl]; exact List.drop_left
  rw [e1, e2, ← List.drop_drop, e2, st, List.take_append_drop, List.take_left, List.drop_left]
theorem rowP_len {p l : List UInt8} {r : Kv} {l' : List UInt8} (h : rowP p l = some (r, l')) : l'.length + 3 ≤ l.length := by
  unfold rowP at h
  obtain ⟨a, ha, h⟩ := Option.bind_eq_some_iff.1 h
  obtain ⟨b, hb, h⟩ := Option.bind_eq_some_iff.1 h
  obtain ⟨c, hc, h⟩ := Option.bind_eq_some_iff.1 h
  have h1 := getN_le (n := a.1) (k := a.2) ha
  have h2 := getN_le (n := b.1) (k := b.2) hb
  have h3 := getN_le (n := c.1) (k := c.2) hc
  split at h
  · cases h
  · have e := congrArg (fun x => (Option.getD x (r, [])).2.length) h
    simp only [Option.getD_some, List.length_drop] at e h1 h2 h3
    omega
/-- Rows one behind the other, p the key ahead. -/
def rowsP : Nat → List UInt8 → List UInt8 → Option (List Kv)
  | _, _, [] => some []
  | 0, _, _ :: _ => none
  | f + 1, p, x :: l => (rowP p (x :: l)).bind fun q => (rowsP f q.1.k q.2).map (q.1 :: ·)
theorem rowB_ne (i : Nat) (p : List UInt8) (r : Kv) (l : List UInt8) : ∃ x m, rowB i p r ++ l = x :: m := by
  have h := (putN_len (shB i p r.k)).1
  cases hc : rowB i p r ++ l with
  | nil =>
    have := congrArg List.length hc
    unfold rowB at this
    simp only [List.length_append, List.length_nil] at this
    omega
  | cons x m => exact ⟨x, m, rfl⟩
theorem rowsP_lay : ∀ (rs : List Kv) (f i : Nat) (p : List UInt8), rs.length ≤ f → SmallK rs → rowsP f p (bodyB i p rs) = some rs
  | [], f, i, p, _, _ => by cases f <;> rfl
  | r :: rs, 0, i, p, h, _ => by simp at h
  | r :: rs, f + 1, i, p, h, hs => by
    obtain ⟨x, m, e⟩ := rowB_ne i p r (bodyB (i + 1) r.k rs)
    obtain ⟨h1, h2⟩ := hs r (List.mem_cons_self ..)
    rw [bodyB, e, rowsP, ← e, rowP_lay i p r _ h1 h2, Option.bind_some]
    simp only []
    rw [rowsP_lay rs f (i + 1) r.k (by simpa using h) fun y hy => hs y (List.mem_cons_of_mem _ hy)]
    rfl
theorem rowsP_more : ∀ (f g : Nat) (p l : List UInt8), l.length ≤ f → l.length ≤ g → rowsP f p l = rowsP g p l
  | f, g, p, [], _, _ => by cases f <;> cases g <;> rfl
  | 0, g, p, x :: l, h, _ => by simp at h
  | f + 1, 0, p, x :: l, _, h => by simp at h
  | f + 1, g + 1, p, x :: l, h1, h2 => by
    rw [rowsP, rowsP]
    cases hr : rowP p (x :: l) with
    | none => rfl
    | some q =>
      have := rowP_len hr
      rw [Option.bind_some, Option.bind_some, rowsP_more f g q.1.k q.2 (by simp at this h1; omega) (by simp at this h2; omega)]
/-- What bytes are a block of. -/
def BlockOf (b : List UInt8) (rs : List Kv) : Prop := RiseK rs ∧ SmallK rs ∧ blockB rs = b
theorem fix_flat : ∀ l : List Nat, (l.flatMap (fixN 4)).length = l.length * 4
  | [] => rfl
  | x :: l => by rw [List.flatMap_cons, List.length_append, fix_flat l, fixN_len, List.length_cons]; omega
theorem blockB_len (rs : List Kv) : (blockB rs).length = (bodyB 0 [] rs).length + (rs.length + 3) / 4 * 4 + 4 := by
  unfold blockB
  rw [List.length_append, List.length_append, fix_flat, fixN_len, bkEnds_len]; omega
/-- The count at the end. -/
theorem blockB_count (rs : List Kv) : (blockB rs).drop ((blockB rs).length - 4) = fixN 4 ((rs.length + 3) / 4) := by
  have h := blockB_len rs
  rw [h]
  unfold blockB
  rw [← List.append_assoc, List.drop_append_of_le_length (by simp only [List.length_append, fix_flat, bkEnds_len]; omega)]
  rw [List.drop_of_length_le (by simp only [List.length_append, fix_flat, bkEnds_len]; omega), List.nil_append, bkEnds_len]
/-- What is ahead of the places. -/
theorem blockB_body (rs : List Kv) : (blockB rs).take ((blockB rs).length - 4 - 4 * ((rs.length + 3) / 4)) = bodyB 0 [] rs := by
  have h := blockB_len rs
  have e : (blockB rs).length - 4 - 4 * ((rs.length + 3) / 4) = (bodyB 0 [] rs).length := by omega
  rw [e]
  unfold blockB
  exact List.take_left
/-- A block has one row of rows. -/
theorem blockOf_uniq {b : List UInt8} {rs qs : List Kv} (h : BlockOf b rs) (k : BlockOf b qs) (hr : rs.length < 2 ^ 32) (hq : qs.length < 2 ^ 32) : rs = qs := by
  obtain ⟨-, h2, h3⟩ := h
  obtain ⟨-, k2, k3⟩ := k
  have e : blockB rs = blockB qs := h3.trans k3.symm
  have e1 : fixN 4 ((rs.length + 3) / 4) = fixN 4 ((qs.length + 3) / 4) := by rw [← blockB_count, ← blockB_count, e]
  have e2 : (rs.length + 3) / 4 = (qs.length + 3) / 4 := by
    have h1 := congrArg (unfN) e1
    rwa [unf_fix 4 _ (by omega), unf_fix 4 _ (by omega)] at h1
  have e3 : bodyB 0 [] rs = bodyB 0 [] qs := by rw [← blockB_body, ← blockB_body, e, e2]
  have f1 := rowsP_lay rs (rs.length + qs.length) 0 [] (by omega) h2
  have f2 := rowsP_lay qs (rs.length + qs.length) 0 [] (by omega) k2
  rw [e3] at f1
  exact Option.some.inj (f1.symm.trans f2)
instance (rs : List Kv) : Decidable (RiseK rs) := inferInstanceAs (Decidable (List.Pairwise _ _))
/-- The rows of bytes, as the document's words have it. -/
def readB (b : List UInt8) : Option (List Kv) :=
  if b.length < 4 then none else
  if (b.length - 4) / 4 < unfN (b.drop (b.length - 4)) then none else
  (rowsP b.length [] (b.take (b.length - 4 - 4 * unfN (b.drop (b.length - 4))))).bind fun rs => if RiseK rs ∧ blockB rs = b then some rs else none
theorem readB_some {b : List UInt8} {rs : List Kv} (h : readB b = some rs) : RiseK rs ∧ blockB rs = b := by
  unfold readB at h
  split at h
  · cases h
  · split at h
    · cases h
    · obtain ⟨qs, -, h⟩ := Option.bind_eq_some_iff.1 h
      split at h
      · rename_i hq
        obtain rfl := Option.some.inj h
        exact hq
      · cases h
theorem body_len : ∀ (rs : List Kv) (i : Nat) (p : List UInt8), rs.length ≤ (bodyB i p rs).length
  | [], _, _ => Nat.zero_le _
  | r :: rs, i, p => by
    have h1 := body_len rs (i + 1) r.k
    have h2 := (putN_len (shB i p r.k)).1
    rw [bodyB, List.length_append, List.length_cons]
    unfold rowB
    simp only [List.length_append]
    omega
theorem readB_of {b : List UInt8} {rs : List Kv} (h : BlockOf b rs) (hr : rs.length < 2 ^ 32) : readB b = some rs := by
  obtain ⟨h1, h2, rfl⟩ := h
  have hl := blockB_len rs
  have hb := body_len rs 0 []
  have hc : unfN ((blockB rs).drop ((blockB rs).length - 4)) = (rs.length + 3) / 4 := by rw [blockB_count, unf_fix 4 _ (by omega)]
  unfold readB
  rw [hc, if_neg (by omega), if_neg (by omega), blockB_body, rowsP_lay rs _ 0 [] (by omega) h2, Option.bind_some, if_pos ⟨h1, rfl⟩]
/-- The place of the first row whose key is not below k. -/
def seekK (rs : List Kv) (k : List UInt8) : Nat := (rs.takeWhile fun r => decide (r.k < k)).length
theorem seekK_le (rs : List Kv) (k : List UInt8) : seekK rs k ≤ rs.length := (List.takeWhile_sublist _).length_le
theorem seekK_at {rs : List Kv} {k : List UInt8} {n : Nat} (h1 : ∀ (i : Nat) (r : Kv), i < n → rs[i]? = some r → r.k < k) (h2 : ∀ r, rs[n]? = some r → ¬ r.k < k) (hn : n ≤ rs.length) : seekK rs k = n := by
  unfold seekK
  have e : rs = rs.take n ++ rs.drop n := (List.take_append_drop n rs).symm
  have ht : ∀ a ∈ rs.take n, decide (a.k < k) = true := fun a ha => by
    obtain ⟨i, hi, rfl⟩ := List.mem_iff_getElem.1 ha
    rw [List.length_take] at hi
    refine decide_eq_true (h1 i _ (by omega) ?_)
    rw [List.getElem_take, List.getElem?_eq_getElem (by omega)]
  rw [e, List.takeWhile_append_of_pos ht]
  cases hd : rs.drop n with
  | nil => rw [List.takeWhile_nil, List.append_nil, List.length_take]; omega
  | cons r t =>
    have hr : rs[n]? = some r := by
      have := congrArg (fun l : List Kv => l[0]?) hd
      rwa [List.getElem?_drop, Nat.add_zero] at this
    rw [List.takeWhile_cons_of_neg (by simpa using h2 r hr), List.append_nil, List.length_take]; omega
end Go.Proofs.YtennpdhnjaemeaaDoor
/- Plain mathematics of blocks, read row by row: a row is just such bytes, and so are the rows of a block. -/
namespace Go.Proofs.YtennpdhnjaemeaaDoor
set_option linter.unusedVariables false
theorem endN_take : ∀ l : List UInt8, endN l ≠ 0 → endN (l.take (endN l)) = endN l
  | [], h => by simp [endN] at h
  | b :: r, h => by
    by_cases hb : b.toNat < 128
    · have e : endN (b :: r) = 1 := by unfold endN; rw [if_pos hb]
      rw [e, List.take_succ_cons, List.take_zero]
      unfold endN; rw [if_pos hb]
    · have h2 : endN r ≠ 0 := fun e => h (by rw [endN, if_neg hb, if_pos e])
      have e : endN (b :: r) = endN r + 1 := by rw [endN, if_neg hb, if_neg h2]
      rw [e, List.take_succ_cons, endN, if_neg hb, endN_take r h2, if_neg h2]
theorem putF_get : ∀ (L : List UInt8) (f : Nat), L ≠ [] → endN L = L.length → L.length ≤ f + 1 → (1 < L.length → L.getLast? ≠ some 0) → putF f (valN L) = L ∧ (L.getLast? ≠ some 0 → 0 < valN L)
  | [], f, h, _, _, _ => absurd rfl h
  | [b], f, _, he, _, _ => by
    have hb : b.toNat < 128 := by
      by_cases h : b.toNat < 128
      · exact h
      · unfold endN at he; rw [if_neg h] at he; simp [endN] at he
    have hv : valN [b] = b.toNat := by simp [valN]; omega
    refine ⟨?_, fun h => ?_⟩
    · rw [hv]
      cases f with
      | zero => simp [putF]
      | succ f => unfold putF; rw [if_pos hb]; simp
    · rw [hv]
      rcases Nat.eq_zero_or_pos b.toNat with e | e
      · exact absurd (by rw [List.getLast?_singleton]; congr 1; exact UInt8.toNat_inj.1 (by simpa using e)) h
      · exact e
  | b :: c :: r, f, _, he, hl, hlast => by
    have hb : ¬ b.toNat < 128 := fun h => by
      unfold endN at he; rw [if_pos h] at he; simp at he
    have he2 : endN (c :: r) = (c :: r).length := by
      have h := he
      rw [endN, if_neg hb] at h
      split at h
      · simp at h
      · simp only [List.length_cons] at h ⊢; omega
    have hlast2 : (c :: r).getLast? ≠ some 0 := by
      have := hlast (by simp)
      rwa [List.getLast?_cons_cons] at this
    obtain ⟨g, rfl⟩ : ∃ g, f = g + 1 := ⟨f - 1, by simp only [List.length_cons] at hl; omega⟩
    obtain ⟨ih1, ih2⟩ := putF_get (c :: r) g (by simp) he2 (by simpa using hl) (fun _ => hlast2)
    have hp := ih2 hlast2
    have hv : valN (b :: c :: r) = b.toNat % 128 + 128 * valN (c :: r) := rfl
    have hbb := b.toNat_lt
    refine ⟨?_, fun _ => by rw [hv]; omega⟩
    unfold putF
    rw [if_neg (by rw [hv]; omega), hv, show (b.toNat % 128 + 128 * valN (c :: r)) / 128 = valN (c :: r) by omega, ih1, show (b.toNat % 128 + 128 * valN (c :: r)) % 128 + 128 = b.toNat by omega]
    simp
/-- The bytes that are read as a number are those that it is written with. -/
theorem put_get {l : List UInt8} {n k : Nat} (h : getN l = some (n, k)) : l.take k = putN n := by
  unfold getN at h
  split at h
  · cases h
  · rename_i h1
    split at h
    · cases h
    · rename_i h2
      split at h
      · rename_i h3
        have h4 := Option.some.inj h
        obtain ⟨rfl, rfl⟩ := Prod.mk.inj h4
        have hle := endN_le l
        have hlen : (l.take (endN l)).length = endN l := by rw [List.length_take]; omega
        refine ((putF_get (l.take (endN l)) 9 (fun e => ?_) ?_ (by omega) fun h5 => ?_).1).symm
        · rw [e] at hlen; simp at hlen; omega
        · rw [endN_take l (by omega), hlen]
        · rw [hlen] at h5
          rw [List.getLast?_eq_getElem?, hlen, List.getElem?_take, if_pos (by omega)]
          exact fun e => h2 ⟨h5, e⟩
      · cases h
/-- Three numbers, one behind the other. -/
def lensP (l : List UInt8) : Option ((Nat × Nat × Nat) × Nat) :=
  (getN l).bind fun a => (getN (l.drop a.2)).bind fun b => (getN (l.drop (a.2 + b.2))).map fun c => ((a.1, b.1, c.1), a.2 + b.2 + c.2)
theorem lens_is {l : List UInt8} {s o v k : Nat} (h : lensP l = some ((s, o, v), k)) : 3 ≤ k ∧ k ≤ l.length ∧ s < 2 ^ 64 ∧ o < 2 ^ 64 ∧ v < 2 ^ 64 ∧ l.take k = putN s ++ (putN o ++ putN v) := by
  unfold lensP at h
  obtain ⟨⟨a1, a2⟩, ha, h⟩ := Option.bind_eq_some_iff.1 h
  obtain ⟨⟨b1, b2⟩, hb, h⟩ := Option.bind_eq_some_iff.1 h
  obtain ⟨⟨c1, c2⟩, hc, h⟩ := Option.map_eq_some_iff.1 h
  simp only [Prod.mk.injEq] at h hb hc
  obtain ⟨⟨rfl, rfl, rfl⟩, rfl⟩ := h
  have h1 := getN_le ha
  have h2 := getN_le hb
  have h3 := getN_le hc
  rw [List.length_drop] at h2 h3
  refine ⟨by omega, by omega, h1.2.2.2, h2.2.2.2, h3.2.2.2, ?_⟩
  rw [← put_get ha, ← put_get hb, ← put_get hc, List.take_add, List.take_add, List.append_assoc]
theorem lens_lay (s o v : Nat) (hs : s < 2 ^ 64) (ho : o < 2 ^ 64) (hv : v < 2 ^ 64) (r : List UInt8) : lensP (putN s ++ (putN o ++ (putN v ++ r))) = some ((s, o, v), (putN s).length + (putN o).length + (putN v).length) := by
  unfold lensP
  rw [get_put hs]
  simp only [Option.bind_some]
  rw [drop_put, get_put ho]
  simp only [Option.bind_some]
  rw [← List.drop_drop, drop_put, drop_put, get_put hv]
  rfl
/-- The row that bytes begin with, the n-th, behind the key p; how many bytes it takes. -/
def rowCk (n : Nat) (p l : List UInt8) : Option (Kv × Nat) :=
  (lensP l).bind fun q =>
    if p.length < q.1.1 ∨ l.length - q.2 < q.1.2.1 ∨ l.length - q.2 - q.1.2.1 < q.1.2.2 then none else
    if (n = 0 ∨ p < p.take q.1.1 ++ (l.drop q.2).take q.1.2.1) ∧ q.1.1 = shB n p (p.take q.1.1 ++ (l.drop q.2).take q.1.2.1) then some (⟨p.take q.1.1 ++ (l.drop q.2).take q.1.2.1, (l.drop (q.2 + q.1.2.1)).take q.1.2.2⟩, q.2 + q.1.2.1 + q.1.2.2) else none
theorem rowC_some {n : Nat} {p l : List UInt8} {r : Kv} {k : Nat} (h : rowCk n p l = some (r, k)) :
    (n = 0 ∨ p < r.k) ∧ r.k.length + (l.drop k).length ≤ p.length + l.length ∧ r.v.length ≤ l.length ∧ 3 ≤ k ∧ k ≤ l.length ∧ l.take k = rowB n p r := by
  unfold rowCk at h
  obtain ⟨⟨⟨s, o, v⟩, a⟩, hq, h⟩ := Option.bind_eq_some_iff.1 h
  simp only at h
  obtain ⟨h1, h2, h3, h4, h5, h6⟩ := lens_is hq
  split at h
  · cases h
  · rename_i hn
    split at h
    · rename_i hy
      obtain ⟨rfl, rfl⟩ := Prod.mk.inj (Option.some.inj h)
      obtain ⟨hy1, hy2⟩ := hy
      have hlt : (p.take s).length = s := by rw [List.length_take]; omega
      have hlo : ((l.drop a).take o).length = o := by rw [List.length_take, List.length_drop]; omega
      have hlv : ((l.drop (a + o)).take v).length = v := by rw [List.length_take, List.length_drop]; omega
      refine ⟨hy1, ?_, ?_, by omega, by omega, ?_⟩
      · simp only [List.length_append, hlt, hlo, List.length_drop]; omega
      · rw [hlv]; omega
      · unfold rowB
        simp only
        rw [← hy2, List.length_append, hlt, hlo, Nat.add_sub_cancel_left, hlv]
        have e : (p.take s ++ (l.drop a).take o).drop s = (l.drop a).take o := by
          conv => lhs; rw [← hlt]
          rw [hlt]
          exact List.drop_left' hlt
        rw [e, List.take_add, List.take_add, h6]
        simp only [List.append_assoc]
    · cases h
theorem rowB_len (i : Nat) (p : List UInt8) (r : Kv) : (rowB i p r).length = (putN (shB i p r.k)).length + (putN (r.k.length - shB i p r.k)).length + (putN r.v.length).length + (r.k.length - shB i p r.k) + r.v.length := by
  unfold rowB
  simp only [List.length_append, List.length_drop]; omega
theorem rowC_lay (n : Nat) (p : List UInt8) (r : Kv) (rest : List UInt8) (hn : n = 0 ∨ p < r.k) (hk : r.k.length < 2 ^ 64) (hv : r.v.length < 2 ^ 64) : rowCk n p (rowB n p r ++ rest) = some (r, (rowB n p r).length) := by
  obtain ⟨s1, s2⟩ := shB_le n p r.k
  have st := shB_take n p r.k
  have hl := rowB_len n p r
  obtain ⟨kk, vv⟩ := r
  simp only at *
  obtain ⟨s, hs⟩ : ∃ s, shB n p kk = s := ⟨_, rfl⟩
  have e0 : rowB n p ⟨kk, vv⟩ ++ rest = putN s ++ (putN (kk.length - s) ++ (putN vv.length ++ (kk.drop s ++ (vv ++ rest)))) := by
    unfold rowB; simp only [hs, List.append_assoc]
  have hd : (rowB n p ⟨kk, vv⟩ ++ rest).drop ((putN s).length + (putN (kk.length - s)).length + (putN vv.length).length) = kk.drop s ++ (vv ++ rest) := by
    rw [e0, ← List.drop_drop, ← List.drop_drop, drop_put, drop_put, drop_put]
  have hll : (rowB n p ⟨kk, vv⟩ ++ rest).length = (rowB n p ⟨kk, vv⟩).length + rest.length := List.length_append
  have hdl : (kk.drop s).length = kk.length - s := List.length_drop
  have hlen : lensP (rowB n p ⟨kk, vv⟩ ++ rest) = some ((s, kk.length - s, vv.length), (putN s).length + (putN (kk.length - s)).length + (putN vv.length).length) := by
    rw [e0]; exact lens_lay _ _ _ (by omega) (by omega) hv _
  unfold rowCk
  rw [hlen, Option.bind_some]
  simp only
  rw [if_neg (by rw [hll, hl, hs]; omega), hd]
  have e1 : (kk.drop s ++ (vv ++ rest)).take (kk.length - s) = kk.drop s := List.take_left' hdl
  have e2 : (rowB n p ⟨kk, vv⟩ ++ rest).drop ((putN s).length + (putN (kk.length - s)).length + (putN vv.length).length + (kk.length - s)) = vv ++ rest := by
    rw [← List.drop_drop, hd]; exact List.drop_left' hdl
  rw [e1, e2, ← hs, st, List.take_append_drop, if_pos ⟨hn, rfl⟩, List.take_left, hl]
/-- Rows one behind the other, the first of them the n-th, p the key ahead. -/
def rowsC : Nat → Nat → List UInt8 → List UInt8 → Option (List Kv)
  | _, _, _, [] => some []
  | 0, _, _, _ :: _ => none
  | f + 1, n, p, x :: l => (rowCk n p (x :: l)).bind fun q => (rowsC f (n + 1) q.1.k ((x :: l).drop q.2)).map (q.1 :: ·)
theorem rowsC_none {f n : Nat} {p l : List UInt8} (h : rowCk n p l = none) (hl : l ≠ []) : rowsC f n p l = none := by
  cases l with
  | nil => exact absurd rfl hl
  | cons x l =>
    cases f with
    | zero => rfl
    | succ f => rw [rowsC, h]; rfl
theorem rowsC_row {f n k : Nat} {p l : List UInt8} {r : Kv} (h : rowCk n p l = some (r, k)) : rowsC (f + 1) n p l = (rowsC f (n + 1) r.k (l.drop k)).map (r :: ·) := by
  cases l with
  | nil =>
    have := (rowC_some h).2.2.2
    simp at this; omega
  | cons x l => rw [rowsC, h]; rfl
theorem rowsC_more : ∀ (f g n : Nat) (p l : List UInt8), l.length ≤ f → l.length ≤ g → rowsC f n p l = rowsC g n p l
  | f, g, n, p, [], _, _ => by cases f <;> cases g <;> rfl
  | 0, g, n, p, x :: l, h, _ => by simp at h
  | f + 1, 0, n, p, x :: l, _, h => by simp at h
  | f + 1, g + 1, n, p, x :: l, h1, h2 => by
    cases hr : rowCk n p (x :: l) with
    | none => rw [rowsC_none hr (by simp), rowsC_none hr (by simp)]
    | some q =>
      obtain ⟨r, k⟩ := q
      have := rowC_some hr
      rw [rowsC_row hr, rowsC_row hr, rowsC_more f g (n + 1) r.k ((x :: l).drop k) (by rw [List.length_drop]; omega) (by rw [List.length_drop]; omega)]
theorem rowsC_len {b : List UInt8} {e : Nat} (h : e ≤ b.length) : rowsC b.length 0 [] (b.take e) = rowsC e 0 [] (b.take e) := rowsC_more _ _ _ _ _ (by rw [List.length_take]; omega) (by rw [List.length_take]; omega)
def RiseF : Nat → List UInt8 → List Kv → Prop
  | _, _, [] => True
  | n, p, r :: rs => (n = 0 ∨ p < r.k) ∧ RiseF (n + 1) r.k rs
theorem riseF_pair : ∀ (rs : List Kv) (n : Nat) (p : List UInt8), RiseF (n + 1) p rs ↔ (∀ r ∈ rs, p < r.k) ∧ RiseK rs
  | [], n, p => by simp [RiseF, RiseK]
  | r :: rs, n, p => by
    rw [RiseF, riseF_pair rs]
    unfold RiseK
    rw [List.pairwise_cons]
    constructor
    · rintro ⟨h1, h2, h3⟩
      have h1' : p < r.k := by rcases h1 with h | h; · omega
                               · exact h
      refine ⟨fun x hx => ?_, h2, h3⟩
      rcases List.mem_cons.1 hx with rfl | hx
      · exact h1'
      · exact List.lt_trans h1' (h2 x hx)
    · rintro ⟨h1, h2, h3⟩
      exact ⟨.inr (h1 r (List.mem_cons_self ..)), h2, h3⟩
theorem riseF_iff (rs : List Kv) (p : List UInt8) : RiseF 0 p rs ↔ RiseK rs := by
  cases rs with
  | nil => simp [RiseF, RiseK]
  | cons r rs =>
    rw [RiseF, riseF_pair]
    unfold RiseK
    rw [List.pairwise_cons]
    exact ⟨fun h => h.2, fun h => ⟨.inl rfl, h⟩⟩
theorem rowsC_some : ∀ (f n : Nat) (p l : List UInt8) (rs : List Kv), rowsC f n p l = some rs → l = bodyB n p rs ∧ RiseF n p rs
  | f, n, p, [], rs, h => by
    have e : rs = [] := by cases f <;> exact (Option.some.inj h).symm
    subst e; exact ⟨rfl, trivial⟩
  | 0, n, p, x :: l, rs, h => by cases h
  | f + 1, n, p, x :: l, rs, h => by
    rw [rowsC] at h
    obtain ⟨⟨r, k⟩, hq, h⟩ := Option.bind_eq_some_iff.1 h
    obtain ⟨qs, hr, rfl⟩ := Option.map_eq_some_iff.1 h
    obtain ⟨h1, -, -, -, -, h6⟩ := rowC_some hq
    obtain ⟨i1, i2⟩ := rowsC_some f (n + 1) r.k _ qs hr
    refine ⟨?_, h1, i2⟩
    rw [bodyB, ← h6, ← i1, List.take_append_drop]
theorem rowsC_lay : ∀ (rs : List Kv) (f n : Nat) (p : List UInt8), rs.length ≤ f → RiseF n p rs → SmallK rs → rowsC f n p (bodyB n p rs) = some rs
  | [], f, n, p, _, _, _ => by cases f <;> rfl
  | r :: rs, 0, n, p, h, _, _ => by simp at h
  | r :: rs, f + 1, n, p, h, hr, hs => by
    obtain ⟨h1, h2⟩ := hs r (List.mem_cons_self ..)
    rw [bodyB, rowsC_row (rowC_lay n p r _ hr.1 h1 h2), List.drop_left, rowsC_lay rs f (n + 1) r.k (by simpa using h) hr.2 fun y hy => hs y (List.mem_cons_of_mem _ hy)]
    rfl
theorem body_small : ∀ (rs : List Kv) (n : Nat) (p : List UInt8), ∀ r ∈ rs, r.k.length ≤ p.length + (bodyB n p rs).length ∧ r.v.length ≤ (bodyB n p rs).length
  | [], n, p, r, h => by simp at h
  | x :: rs, n, p, r, h => by
    have hl := rowB_len n p x
    have hs := shB_le n p x.k
    rw [bodyB, List.length_append]
    rcases List.mem_cons.1 h with rfl | h
    · omega
    · have := body_small rs (n + 1) x.k r h
      omega
theorem ends_bd (rs : List Kv) : ∀ x ∈ bkEnds rs, x ≤ (bodyB 0 [] rs).length := by
  unfold bkEnds
  have : ∀ (rs : List Kv) (i o : Nat) (p : List UInt8), ∀ x ∈ endsB i o p rs, x ≤ o + (bodyB i p rs).length := by
    intro rs
    induction rs with
    | nil => intro i o p x hx; simp [endsB] at hx
    | cons r rs ih =>
      intro i o p x hx
      rw [endsB] at hx
      rw [bodyB, List.length_append]
      rcases List.mem_append.1 hx with hx | hx
      · split at hx
        · obtain rfl : x = o := by simpa using hx
          omega
        · cases hx
      · have := ih _ _ _ x hx
        omega
  intro x hx
  have := this rs 0 0 [] x hx
  omega
def placesB (es : List Nat) : List UInt8 := es.flatMap (fixN 4) ++ fixN 4 es.length
theorem blockB_is (rs : List Kv) : blockB rs = bodyB 0 [] rs ++ placesB (bkEnds rs) := rfl
/-- Where the rows end. -/
def endC (b : List UInt8) : Option Nat :=
  if b.length < 4 then none else if (b.length - 4) / 4 < unfN (b.drop (b.length - 4)) then none else some (b.length - 4 - 4 * unfN (b.drop (b.length - 4)))
theorem endC_le {b : List UInt8} {e : Nat} (h : endC b = some e) : e ≤ b.length := by
  unfold endC at h
  split at h
  · cases h
  · split at h
    · cases h
    · have := Option.some.inj h; omega
/-- The rows of bytes, row by row. -/
def readCk (b : List UInt8) : Option (List Kv) :=
  (endC b).bind fun e => (rowsC b.length 0 [] (b.take e)).bind fun rs => if b.drop e = placesB (bkEnds rs) then some rs else none
theorem readC_some {b : List UInt8} {rs : List Kv} (h : readCk b = some rs) : RiseK rs ∧ blockB rs = b := by
  unfold readCk at h
  obtain ⟨e, he, h⟩ := Option.bind_eq_some_iff.1 h
  obtain ⟨qs, hq, h⟩ := Option.bind_eq_some_iff.1 h
  split at h
  · rename_i hd
    obtain rfl := Option.some.inj h
    obtain ⟨h1, h2⟩ := rowsC_some _ _ _ _ _ hq
    refine ⟨(riseF_iff _ _).1 h2, ?_⟩
    rw [blockB_is, ← h1, ← hd, List.take_append_drop]
  · cases h
theorem block_small {b : List UInt8} {rs : List Kv} (h : blockB rs = b) (hb : b.length < 2 ^ 32) : SmallK rs ∧ rs.length < 2 ^ 32 := by
  have hl := blockB_len rs
  rw [h] at hl
  refine ⟨fun r hr => ?_, ?_⟩
  · have := body_small rs 0 [] r hr
    simp only [List.length_nil] at this
    omega
  · have := body_len rs 0 []
    omega
theorem readC_of {b : List UInt8} {rs : List Kv} (h1 : RiseK rs) (h2 : blockB rs = b) (hb : b.length < 2 ^ 32) : readCk b = some rs := by
  obtain ⟨h3, h4⟩ := block_small h2 hb
  subst h2
  have hl := blockB_len rs
  have hbl := body_len rs 0 []
  have hc : unfN ((blockB rs).drop ((blockB rs).length - 4)) = (rs.length + 3) / 4 := by rw [blockB_count, unf_fix 4 _ (by omega)]
  have he : endC (blockB rs) = some (bodyB 0 [] rs).length := by
    unfold endC
    rw [hc, if_neg (by omega), if_neg (by omega)]
    congr 1; omega
  unfold readCk
  rw [he, Option.bind_some]
  have e1 : (blockB rs).take (bodyB 0 [] rs).length = bodyB 0 [] rs := by rw [blockB_is]; exact List.take_left
  have e2 : (blockB rs).drop (bodyB 0 [] rs).length = placesB (bkEnds rs) := by rw [blockB_is]; exact List.drop_left
  rw [e1, e2, rowsC_lay rs _ 0 [] (by omega) ((riseF_iff _ _).2 h1) h3, Option.bind_some, if_pos rfl]
/-- Read row by row, or by making the block again: the same. -/
theorem readC_eq {b : List UInt8} (hb : b.length < 2 ^ 32) : readCk b = readB b := by
  apply Option.ext
  intro rs
  constructor
  · intro h
    obtain ⟨h1, h2⟩ := readC_some h
    obtain ⟨h3, h4⟩ := block_small h2 hb
    exact readB_of ⟨h1, h3, h2⟩ h4
  · intro h
    obtain ⟨h1, h2⟩ := readB_some h
    exact readC_of h1 h2 hb
theorem readC_lay {rs : List Kv} (h1 : RiseK rs) (hb : (blockB rs).length < 2 ^ 32) : readCk (blockB rs) = some rs := readC_of h1 rfl hb
end Go.Proofs.YtennpdhnjaemeaaDoor
/- Rows of keys and values, rows of places; append of one, with what else holds. -/
namespace Go.Proofs.YtennpdhnjaemeaaDoor
set_option linter.unusedVariables false
open Go.RowKit
def encKv (r : Kv) : List Value := [.string ⟨r.k.toArray⟩, .string ⟨r.v.toArray⟩]
theorem encKv_len : EncK encKv 2 := fun _ => rfl
theorem encKv_one (r : Kv) : ∀ u ∈ encKv r, u.oneCell' = true := by
  intro u hu
  unfold encKv at hu
  rcases List.mem_cons.1 hu with rfl | hu
  · rfl
  · rcases List.mem_cons.1 hu with rfl | hu
    · rfl
    · cases hu
def natV (n : Nat) : Value := .int .i64 (n : Int)
def encN (n : Nat) : List Value := [natV n]
theorem encN_len : EncK encN 1 := fun _ => rfl
theorem encN_one (n : Nat) : ∀ u ∈ encN n, u.oneCell' = true := by
  intro u hu
  rcases List.mem_cons.1 hu with rfl | hu
  · rfl
  · cases hu
theorem flat_encN : ∀ l : List Nat, l.flatMap encN = l.map natV
  | [] => rfl
  | n :: l => by rw [List.flatMap_cons, flat_encN l]; rfl
theorem elemK_row : ElemK Tryd.prog 124 128 2 32 (.agg #[.string ⟨#[]⟩, .string ⟨#[]⟩]) := ⟨Tryd.underlying124, by kernel_rfl, rfl, by decide⟩
theorem elemK_n : ElemK Tryd.prog 104 3 1 8 (.int .i64 0) := ⟨Tryd.underlying104, by kernel_rfl, rfl, by decide⟩
/-- A row of places, read as one of cells. -/
theorem OwnK.places {B : Nat} {w : World} {v : Value} {l : List Nat} (h : OwnK encN 1 3 B w v l) : OwnV 3 B w v (l.map natV) := by
  unfold OwnK at h
  rw [flat_encN] at h
  unfold OwnV
  rw [List.length_map]; exact h
/-- Rows whose cells are of unlike types lie in unlike blocks. -/
theorem type_apart {E E' B B' k k' n n' : Nat} {w : World} {u v : Value} {xs ys : List Value} (h : w.ownsRow B E k v n xs) (h' : w.ownsRow B' E' k' u n' ys) (hne : E ≠ E') : ∀ g, u.ownBlock = some g → v.ownBlock ≠ some g := by
  intro g hg hv
  rcases h.2 with ⟨rfl, -⟩ | ⟨g1, c1, cur1, rfl, -, k1, -⟩
  · cases hv
  · rcases h'.2 with ⟨rfl, -⟩ | ⟨g2, c2, cur2, rfl, -, k2, -⟩
    · cases hg
    · obtain rfl : g1 = g := Option.some.inj hv
      obtain rfl : g2 = g1 := Option.some.inj hg
      rw [k1] at k2
      simp only [Option.some.injEq, Obj.cells.injEq] at k2
      exact hne k2.2.1
/-- 'append(s, x)', x in a row that was just laid: the row, what lies below, what else was written. -/
theorem run_oneK {α : Type} {enc : α → List Value} {P : Program} {t E k bytes ty : Nat} {z : Value} (F : ElemK P t E k bytes z) (hk : EncK enc k) {B : Nat} {w : World} {v : Value} {xs : List α} (h : OwnK enc k E B w v xs) (y : α)
    (h1 : ∀ u ∈ enc y, u.oneCell' = true) (hlen : (xs.length + 1) * bytes ≤ 140737488355328) (hm : xs.length + 1 ≤ maxLen) (hB : B ≤ w.heap.size) :
    ∃ v' w', (Builtin.append_ #[t, t] ty #[v, .slice (some ⟨w.heap.size, 0, none⟩) 1 1]).run P (w.alloc (.cells (enc y).toArray E)) = .ok v' w' ∧ OwnK enc k E B w' v' (xs ++ [y]) ∧ Below B w w' ∧ UpdF (fun g => v.ownBlock = some g) w w' ∧ ∀ g, v'.ownBlock = some g → v.ownBlock = some g ∨ w.heap.size ≤ g := by
  have hal : Below w.heap.size w (w.alloc (.cells (enc y).toArray E)) := (Below.refl _ w).alloc (Nat.le_refl _) _
  have hown : (w.alloc (.cells (enc y).toArray E)).ownsRow 0 E k v xs.length (xs.flatMap enc) := (h.below hal).base (Nat.zero_le _)
  have hcell : ∀ j u, (enc y)[j]? = some u → (w.alloc (.cells (enc y).toArray E)).cell? ((⟨w.heap.size, 0, none⟩ : Addr).add j) = some u := fun j u hj => by
    rw [add_at, Nat.zero_add]
    unfold World.cell?
    rw [heap_alloc_new]
    simpa using hj
  obtain ⟨v', w', g0, g1, g2, g3⟩ := run_appG (ty := ty) F hown ⟨w.heap.size, 0, none⟩ 1 1 (enc y) (by rw [hk y, Nat.one_mul]) hcell h1 hm hlen
  have hwh : ∀ g, v.ownBlock = some g → B ≤ g ∧ g < w.heap.size := fun g hg => by
    rcases h.2 with ⟨rfl, -⟩ | ⟨g1, c1, cur1, rfl, k0, k1, -⟩
    · cases hg
    · obtain rfl : g1 = g := Option.some.inj hg
      exact ⟨k0, (Array.getElem?_eq_some_iff.1 k1).1⟩
  have hup : UpdF (fun g => v.ownBlock = some g) w w' := (UpdF.of hal).then (UpdF.grown (F := fun g => v.ownBlock = some g) g2 fun k hk => hk) fun i hi => .inl hi
  have hnew : ∀ g, v'.ownBlock = some g → v.ownBlock = some g ∨ w.heap.size ≤ g := fun g hg => by
    rcases g3 g hg with h5 | h5
    · exact .inl h5
    · rw [World.size_alloc] at h5; exact .inr (by omega)
  refine ⟨v', w', g0, ?_, hup.below hB fun k hk hv => by have := (hwh k hv).1; omega, hup, hnew⟩
  have g1' : w'.ownsRow 0 E k v' (xs ++ [y]).length ((xs ++ [y]).flatMap enc) := by
    rw [List.length_append, List.flatMap_append]; simpa using g1
  obtain ⟨e1, e2⟩ := g1'
  refine ⟨e1, ?_⟩
  rcases e2 with e2 | ⟨g, cap, cur, e3, e4, e5⟩
  · exact .inl e2
  · refine .inr ⟨g, cap, cur, e3, ?_, e5⟩
    rcases hnew g (by rw [e3]; rfl) with h5 | h5
    · exact (hwh g h5).1
    · omega
/-- 'append(s, x)', x in a row that was just laid (cs: its cells as the walk spells them; H: its block). -/
theorem wp_oneK {α : Type} {enc : α → List Value} {P : Program} {ops : Array Oper} {rest : List Oper} {o : Oper} {a : Act} {w : World} {Q : Exit → Act → World → Prop} {t E k bytes : Nat} {z : Value} (F : ElemK P t E k bytes z) (hk : EncK enc k)
    (s x : Operand) (ho : o.op = .call { callee := .builtin .append, args := #[s, x], argTypes := #[t, t] }) (hw : Region.wanted o (yielded ops a.tmps) = true)
    {B : Nat} {v : Value} {xs : List α} (hs : a.eval s = v) (hown : OwnK enc k E B w v xs) (y : α) (cs : Array Value) (hcs : (enc y).toArray = cs) (H : Nat) (hx : a.eval x = .slice (some ⟨H, 0, none⟩) 1 1)
    (hH : w.heap.size = H) (h1 : ∀ u ∈ enc y, u.oneCell' = true) (hlen : (xs.length + 1) * bytes ≤ 140737488355328) (hm : xs.length + 1 ≤ maxLen) (hB : B ≤ w.heap.size)
    (h : ∀ v' w', OwnK enc k E B w' v' (xs ++ [y]) → Below B w w' → UpdF (fun g => v.ownBlock = some g) w w' → (∀ g, v'.ownBlock = some g → v.ownBlock = some g ∨ w.heap.size ≤ g) → wpList P ops Q rest (a.put o.dst v') w') : wpList P ops Q (o :: rest) a (w.alloc (.cells cs E)) := by
  subst hH hcs
  refine wpList_step fun K hK => ?_
  rw [if_pos hw]
  obtain ⟨v', w', hr, h2, h3, h4, h5⟩ := run_oneK (ty := o.type) F hk hown y h1 hlen hm hB
  unfold Oper.wp execOp
  simp only [ho, resolve, invoke, builtin, Sem.run_bind, Sem.run_pure, Result.andThen_ok, List.map_toArray, List.map_cons, List.map_nil, hs, hx, hr]
  exact hK _ _ (h v' w' h2 h3 h4 h5)
theorem OwnK.kform {α : Type} {enc : α → List Value} {k E B : Nat} {w : World} {v : Value} {xs : List α} (h : OwnK enc k E B w v xs) : ∃ a c, v = .slice a xs.length c ∧ xs.length ≤ c ∧ c ≤ maxLen := by
  rcases h.2 with ⟨e1, e2⟩ | ⟨g, cap, cur, e1, e2, e3, e4, e5, -⟩
  · exact ⟨none, 0, by rw [e1, e2], by omega, by unfold maxLen; omega⟩
  · exact ⟨_, cap, e1, e4, e5⟩
/-- A row of another type holds while one is written. -/
theorem OwnK.beside {α β : Type} {enc : α → List Value} {enc' : β → List Value} {k k' E E' B B' : Nat} {w w' : World} {u v : Value} {xs : List α} {ys : List β} (h : OwnK enc k E B w v xs) (h' : OwnK enc' k' E' B' w u ys) (hne : E ≠ E') (hu : UpdF (fun g => v.ownBlock = some g) w w') : OwnK enc' k' E' B' w' u ys :=
  row_same h' fun g hg => hu.block g (row_lt h' g hg) (type_apart h h' hne g hg)
theorem strCells_bv (s : ByteArray) : Lib.strCells s = s.data.toList.map bv := rfl
/-- 'append(b, s...)', s a text, with the block the new slice lies in. -/
theorem run_appTG {ty : Nat} {w : World} {v : Value} {bs : List UInt8} (hown : OwnB 0 w v bs) (s : ByteArray) (hlen : bs.length + s.size ≤ 140737488355328) :
    ∃ v' w', (Builtin.append_ #[25, 9] ty #[v, .string s]).run Tryd.prog w = .ok v' w' ∧ OwnB 0 w' v' (bs ++ s.data.toList) ∧ w.grownBy w' v.ownBlock ∧ ∀ g, v'.ownBlock = some g → v.ownBlock = some g ∨ w.heap.size ≤ g := by
  obtain ⟨f1, f2, f3⟩ := elem_u8
  obtain ⟨i0, hi, hz0, hz1, hz2⟩ := info_parts f2
  have hl : (bs.map bv).length = bs.length := List.length_map _
  have fin : ∀ {B : Nat} {v' : Value} {w' : World}, w'.ownsRow B 5 1 v' ((bs.map bv).length + s.size) (bs.map bv ++ Lib.strCells s) → OwnB B w' v' (bs ++ s.data.toList) := fun {B v' w'} h => by
    have e : ((bs ++ s.data.toList).map bv).length = (bs.map bv).length + s.size := by rw [List.length_map, List.length_append, List.length_map, size_toList]
    unfold OwnB OwnV
    rw [e, List.map_append]
    exact h
  have hm : (bs.map bv).length + s.size ≤ maxLen := by unfold maxLen; omega
  rcases hown.2 with ⟨rfl, e2⟩ | ⟨g, cap, cur, rfl, hbg, hg, hnc, hcm, hcs, htake⟩
  · have hn : w.ownsRow w.heap.size 5 1 (.slice none 0 0) (bs.map bv).length (bs.map bv) := ⟨hown.1, .inl ⟨rfl, e2⟩⟩
    obtain ⟨v', w', g0, g1, g2, g3⟩ := Lib.run_append_own_string w w.heap.size 25 9 ty 5 i0 f1 Tryd.underlying9 hi hz0 hz1 hz2 _ _ _ hn s hm (by omega) (Nat.le_refl _)
    have o := fin g1
    exact ⟨v', w', g0, o.base (Nat.zero_le _), g2, fun x hx => .inr (o.where x hx).1⟩
  · obtain ⟨v', w', g0, g1, g2, g3⟩ := Lib.run_append_own_string w 0 25 9 ty 5 i0 f1 Tryd.underlying9 hi hz0 hz1 hz2 _ _ _ hown s hm (by omega) (Nat.zero_le _)
    refine ⟨v', w', g0, fin g1, g2, ?_⟩
    by_cases hroom : (bs.map bv).length + s.size ≤ cap
    · have hr := Lib.run_append_room_string (P := Tryd.prog) w 25 9 ty 5 i0 f1 Tryd.underlying9 hi hz1 g _ cap cur hg s hroom (by omega)
      rw [hr] at g0
      injection g0 with g0 _
      rw [← g0]
      exact fun x hx => .inl hx
    · have holds : ∀ j u, (bs.map bv)[j]? = some u → w.cell? ((⟨g, 0, none⟩ : Addr).add j) = some u := World.ownsRow.cells hown (g := g) rfl
      have hr := Lib.run_append_grow_string (P := Tryd.prog) w 25 9 ty 5 i0 _ f1 Tryd.underlying9 hi hz0 ⟨g, 0, none⟩ (bs.map bv).length cap (bs.map bv) (by rw [hz1]; omega) holds s (by omega) (by omega) (by rw [hz2]; exact growslice_fits (by omega : cap < (bs.map bv).length + s.size) (by omega))
      rw [hr] at g0
      injection g0 with g0 _
      rw [← g0]
      intro x hx
      obtain rfl : w.heap.size = x := Option.some.inj hx
      exact .inr (Nat.le_refl _)
end Go.Proofs.YtennpdhnjaemeaaDoor
/- block's small functions: which rows may follow, whose keys are laid whole, what is shared, the places, where the rows end; bytes.Equal. -/
namespace Go.Proofs.YtennpdhnjaemeaaDoor
set_option linter.unusedVariables false
set_option maxRecDepth 100000
open Go.RowKit
theorem gt_eq (a b : ByteArray) : (!Op.bytesLess a.toList b.toList && !(a.toList == b.toList)) = decide (bl b a) := by
  rw [less_eq, bs_eq]
  rcases bl_tri a b with h | rfl | h
  · rw [decide_eq_true (show a.data.toList < b.data.toList from h), decide_eq_false (fun k => bl_irr a (bl_trans h k))]; rfl
  · rw [decide_eq_false (show ¬ a.data.toList < a.data.toList from bl_irr a), decide_eq_false (bl_irr a)]; simp
  · have h1 : ¬ a.data.toList < b.data.toList := fun k => bl_irr a (bl_trans k h)
    have h2 : ¬ a = b := fun k => by subst k; exact bl_irr a h
    rw [decide_eq_false h1, decide_eq_false h2, decide_eq_true h]; rfl
set_option maxHeartbeats 400000 in
theorem isNext_any (n : Nat) (hn : n ≤ 1000000000000) (a b : ByteArray) (w : World) : Calls Tryd.prog 73 #[.int .i64 (n : Int), .string a, .string b] w fun e w' => e = .returned (.bool (decide (n = 0 ∨ bl a b))) ∧ w' = w := by
  by_cases h : n = 0
  · subst h
    rw [decide_eq_true (Or.inl rfl)]
    go_enter Tryd.func73, Tryd.ntmps73
    go_wp2
    go_ret
    exact ⟨rfl, rfl⟩
  · have h1 : ((n : Int) == 0) = false := by rw [beq_eq_false_iff_ne]; omega
    have h2 := gt_eq b a
    have e : decide (n = 0 ∨ bl a b) = decide (bl a b) := by
      by_cases hb : bl a b
      · rw [decide_eq_true (Or.inr hb), decide_eq_true hb]
      · rw [decide_eq_false hb, decide_eq_false (fun k => k.elim h hb)]
    rw [e]
    generalize decide (bl a b) = r at *
    go_enter Tryd.func73, Tryd.ntmps73
    go_wp2
    go_ret
    exact ⟨rfl, rfl⟩
set_option maxHeartbeats 400000 in
theorem isWhole_any (n : Nat) (hn : n ≤ 1000000000000) (w : World) : Calls Tryd.prog 74 #[.int .i64 (n : Int)] w fun e w' => e = .returned (.bool (decide (n % 4 = 0))) ∧ w' = w := by
  have e : (((n : Int) % 4) == 0) = decide (n % 4 = 0) := by
    by_cases h : n % 4 = 0
    · rw [decide_eq_true h, beq_iff_eq]; omega
    · rw [decide_eq_false h, beq_eq_false_iff_ne]; omega
  generalize decide (n % 4 = 0) = r at *
  go_enter Tryd.func74, Tryd.ntmps74
  go_wp2
  go_ret
  exact ⟨rfl, rfl⟩
set_option maxHeartbeats 2000000 in
theorem shared_any (n : Nat) (hn : n ≤ 1000000000000) (a b : ByteArray) (ha : a.size ≤ 1000000000000) (hb : b.size ≤ 1000000000000) (w : World) :
    Calls Tryd.prog 75 #[.int .i64 (n : Int), .string a, .string b] w fun e w' => e = .returned (.int .i64 (shB n a.data.toList b.data.toList : Nat)) ∧ DrN w w' := by
  have HW : Hid (∀ w, Calls Tryd.prog 74 #[.int .i64 (n : Int)] w fun e w' => e = .returned (.bool (decide (n % 4 = 0))) ∧ w' = w) := Lib.hid (isWhole_any n hn)
  obtain ⟨r, hr⟩ : ∃ r, shB n a.data.toList b.data.toList = r := ⟨_, rfl⟩
  have HR := Lib.hid hr
  rw [hr]
  clear hr
  by_cases h : n % 4 = 0
  · rw [decide_eq_true h] at HW
    obtain rfl : r = 0 := by rw [← HR.out]; unfold shB; rw [if_pos h]
    clear HR
    go_enter Tryd.func75, Tryd.ntmps75
    go_wp2_with fail
    refine (HW.out _).mono ?_
    rintro e w' ⟨rfl, rfl⟩
    go_wp2_with fail
    go_ret
    exact ⟨rfl, DrN.refl _⟩
  · rw [decide_eq_false h] at HW
    have HR2 : Hid (shareN a.data.toList b.data.toList = r) := Lib.hid (by rw [← HR.out]; unfold shB; rw [if_neg h])
    clear HR
    obtain ⟨m, hm⟩ : ∃ m, min a.size b.size = m := ⟨_, rfl⟩
    have HM : Hid (m ≤ a.size ∧ m ≤ b.size ∧ (m = a.size ∨ m = b.size)) := Lib.hid (by omega)
    have hmi : min (a.size : Int) (b.size : Int) = (m : Int) := by omega
    have hmb : m ≤ 1000000000000 := by omega
    clear hm
    go_enter Tryd.func75, Tryd.ntmps75
    go_wp2_with fail
    refine (HW.out _).mono ?_
    rintro e w' ⟨rfl, rfl⟩
    go_wp2_with fail
    go_loopg [8] m (fun kk vi wr => ∃ i : Nat, vi = .int .i64 (i : Int) ∧ i ≤ m ∧ m - i ≤ kk ∧ Hid (DrN w' wr) ∧ Hid (a.data.toList.take i = b.data.toList.take i))
    case atStart => exact ⟨0, rfl, by omega, by omega, Lib.hid (DrN.refl _), Lib.hid (by simp)⟩
    case round =>
      obtain ⟨i, rfl, him, hik, HD, HT⟩ := hrel
      by_cases h1 : i < m
      · have hi1 : (i : Int) < (m : Int) := by omega
        have hia : i < a.size := by have := HM.out; omega
        have hib : i < b.size := by have := HM.out; omega
        obtain ⟨x, hx⟩ : ∃ x, a[i] = x := ⟨_, rfl⟩
        obtain ⟨y, hy⟩ : ∃ y, b[i] = y := ⟨_, rfl⟩
        have HX : Hid (a.data.toList[i]? = some x) := Lib.hid (by rw [List.getElem?_eq_getElem (by rw [size_toList]; exact hia), at_toList a i hia, hx])
        have HY : Hid (b.data.toList[i]? = some y) := Lib.hid (by rw [List.getElem?_eq_getElem (by rw [size_toList]; exact hib), at_toList b i hib, hy])
        by_cases hxy : x = y
        · have HT2 : Hid (a.data.toList.take (i + 1) = b.data.toList.take (i + 1)) := Lib.hid (by rw [List.take_add_one, List.take_add_one, HT.out, HX.out, HY.out, hxy])
          have hE : ((x.toNat : Int) == (y.toNat : Int)) = true := by rw [hxy]; exact beq_self_eq_true _
          clear hxy HT HX HY
          go_wp2_with fail
          go_quiet (fail)
          have HD2 := Lib.hid (HD.out.more nq)
          generalize wr.drewN nq = wq at *
          clear HD
          go_wp2_with fail
          go_roundg (m - (i + 1))
          case measure => omega
          case rel => exact ⟨i + 1, by go_num, by omega, Nat.le_refl _, HD2, HT2⟩
        · have HE : Hid (r = i) := Lib.hid (by
            rw [← HR2.out]
            exact shareN_at HT.out (by rw [size_toList]; omega) (by rw [size_toList]; omega) fun c d hc hd => by
              rw [HX.out] at hc; rw [HY.out] at hd
              rw [← Option.some.inj hc, ← Option.some.inj hd]; exact hxy)
          have hE : ((x.toNat : Int) == (y.toNat : Int)) = false := by rw [beq_eq_false_iff_ne]; exact fun e => hxy (byte_ext e)
          clear hxy HT HX HY HR2
          go_wp2_with fail
          go_quiet (fail)
          have HD2 := Lib.hid (HD.out.more nq)
          generalize wr.drewN nq = wq at *
          go_wp2_with fail
          go_ret
          exact ⟨by rw [HE.out]; rfl, HD2.out⟩
      · have HE : Hid (r = i) := Lib.hid (by
          rw [← HR2.out]
          have hm := HM.out
          refine shareN_at HT.out (by rw [size_toList]; omega) (by rw [size_toList]; omega) fun c d hc hd => ?_
          have e1 := (List.getElem?_eq_some_iff.1 hc).1
          have e2 := (List.getElem?_eq_some_iff.1 hd).1
          rw [size_toList] at e1 e2
          omega)
        have hd1 : ¬ (i : Int) < (m : Int) := by omega
        clear HT HR2
        go_wp2_with fail
        go_quiet (fail)
        have HD2 := Lib.hid (HD.out.more nq)
        generalize wr.drewN nq = wq at *
        go_wp2_with fail
        go_ret
        exact ⟨by rw [HE.out]; rfl, HD2.out⟩
set_option maxHeartbeats 400000 in
theorem endOf_any (v : Value) (l : List UInt8) (hl : l.length ≤ 1000000000000) (w : World) (h : RdB w v l) :
    Calls Tryd.prog 93 #[v] w fun e w' => e = .returned (.tuple #[.int .i64 (((endC l).getD 0 : Nat) : Int), .bool (endC l).isSome]) ∧ w' = w := by
  obtain ⟨a, len, cap, rfl, hlen, hcap⟩ := h.form
  have HRD := Lib.hid h
  by_cases h4 : l.length < 4
  · have e : endC l = none := by unfold endC; rw [if_pos h4]
    rw [e]
    have hz : ((len : Int) - 4) < 0 := by omega
    have hz2 : len ≤ 3 := by omega
    clear h HRD
    go_enter Tryd.func93, Tryd.ntmps93
    go_wp2_with fail
    go_ret2
    exact ⟨rfl, rfl⟩
  · obtain ⟨m, rfl⟩ : ∃ m, len = m + 4 := ⟨len - 4, by omega⟩
    have HLL : Hid (m + 4 = l.length) := Lib.hid hlen
    have hlm : ((m + 4 : Nat) : Int) - 4 = (m : Int) := by omega
    have hc2 := hcap (by omega)
    have hc3 := hc2.1
    have hlb : m ≤ 1000000000000 := by omega
    have HD : Hid (RdB w (.slice (if cap = m then a else a.map (·.add m)) (m + 4 - m) (cap - m)) (l.drop m)) := Lib.hid (h.drop m (by omega))
    have hsl := sl_lB w a (m + 4) cap m (by omega) hc2.1
    rw [Nat.add_sub_cancel_left] at HD hsl
    generalize hT : (if cap = m then a else a.map (·.add m)) = T at HD hsl
    have HG : Hid (∀ w', w' = w → Calls Tryd.prog 66 #[.slice T 4 (cap - m)] w' fun e w'' => e = .returned (.int .u32 (unfK 4 (l.drop m) : Int)) ∧ w' = w'') := Lib.hid fun w' e => by subst e; exact get32_any _ _ _ HD.out
    have hu : unfK 4 (l.drop m) = unfN (l.drop (l.length - 4)) := by
      have e : (l.drop m).length = 4 := by rw [List.length_drop]; omega
      unfold unfK
      rw [if_pos (by omega), List.take_of_length_le (by omega), show l.length - 4 = m by omega]
    have hub := unfK_lt4 (l.drop m)
    rw [hu] at HG hub
    have HE : Hid (endC l = if m / 4 < unfN (l.drop (l.length - 4)) then none else some (m - 4 * unfN (l.drop (l.length - 4)))) := Lib.hid (by
      unfold endC
      rw [if_neg h4, show l.length - 4 = m by omega])
    generalize unfN (l.drop (l.length - 4)) = u at *
    clear hu h HD hlen hl h4 hcap hc2
    by_cases h5 : m / 4 < u
    · rw [if_pos h5] at HE
      have h6 : (m : Int) / 4 < (u : Int) := by omega
      rw [HE.out]
      go_enter Tryd.func93, Tryd.ntmps93
      go_wp2_with fail
      refine (HG.out _ rfl).mono ?_
      rintro e w' ⟨rfl, rfl⟩
      go_wp2_with fail
      go_ret2
      exact ⟨rfl, rfl⟩
    · rw [if_neg h5] at HE
      have h6 : ¬ (m : Int) / 4 < (u : Int) := by omega
      have h7 : ((m : Int) - (u : Int) * 4) = ((m - 4 * u : Nat) : Int) := by omega
      rw [HE.out]
      go_enter Tryd.func93, Tryd.ntmps93
      go_wp2_with fail
      refine (HG.out _ rfl).mono ?_
      rintro e w' ⟨rfl, rfl⟩
      go_wp2_with fail
      go_ret2
      exact ⟨rfl, rfl⟩
theorem bequal_any (u v : Value) (x y : List UInt8) (w : World) (hx : RdB w u x) (hy : RdB w v y) :
    Calls Tryd.prog 95 #[u, v] w fun e w' => e = .returned (.bool (decide (x = y))) ∧ DrN w w' := by
  have x1 : ∀ j, (convert 25 9 u).run Tryd.prog (w.drewN j) = .ok (.string ⟨x.toArray⟩) (w.drewN j) := fun j => (hx.below (DrN.below ⟨j, rfl⟩ _)).text
  have x2 : ∀ j, (convert 25 9 v).run Tryd.prog (w.drewN j) = .ok (.string ⟨y.toArray⟩) (w.drewN j) := fun j => (hy.below (DrN.below ⟨j, rfl⟩ _)).text
  have x3 := hx.text
  have x4 := hy.text
  have hE : (x == y) = decide (x = y) := by rw [Bool.eq_iff_iff, beq_iff_eq, decide_eq_true_eq]
  obtain ⟨a1, n1, c1, rfl, -⟩ := hx.form
  obtain ⟨a2, n2, c2, rfl, -⟩ := hy.form
  generalize decide (x = y) = r at *
  clear hx hy
  go_enter Tryd.func95, Tryd.ntmps95
  go_wp2_with fail
  go_ret
  exact ⟨rfl, DrN.refl _⟩
/-- 'append' of the places, four bytes each. -/
theorem places_snoc (l : List Nat) (i x : Nat) (h : l[i]? = some x) : (l.take (i + 1)).flatMap (fixN 4) = (l.take i).flatMap (fixN 4) ++ fixN 4 x := by
  rw [List.take_add_one, h, List.flatMap_append]; simp
set_option maxHeartbeats 2000000 in
theorem putPlaces_any (v : Value) (l : List Nat) (hl : l.length ≤ 1000000000) (hs : ∀ x ∈ l, x < 2 ^ 32) (w : World) (h : RdV w v (l.map natV)) :
    Calls Tryd.prog 77 #[v] w (MkB (placesB l) w) := by
  obtain ⟨R, hR⟩ : ∃ R, placesB l = R := ⟨_, rfl⟩
  have HR := Lib.hid hR
  rw [hR]
  clear hR
  have HS := Lib.hid hs
  have HRD := Lib.hid h
  obtain ⟨a, len, cap, rfl, hlen⟩ : ∃ a len cap, v = .slice a len cap ∧ len = l.length := by
    rcases h with ⟨a, cap, rfl, e⟩ | ⟨b, off, cap, rfl, -⟩
    · exact ⟨a, 0, cap, rfl, by have := congrArg List.length e; simpa using this.symm⟩
    · exact ⟨_, _, cap, rfl, List.length_map _⟩
  have HN := Lib.hid hlen
  have hlb : len ≤ 1000000000 := by omega
  clear hs h hl hlen
  go_enter Tryd.func77, Tryd.ntmps77
  go_wp2_with fail
  go_loopg [3, 8] len (fun kk vb vi wr => ∃ (i : Nat) (L : List UInt8) (ab : Option Addr) (nb cb : Nat), vi = .int .i64 (i : Int) ∧ vb = .slice ab nb cb ∧ i ≤ len ∧ len - i ≤ kk ∧ L.length = i * 4 ∧ Hid (L = (l.take i).flatMap (fixN 4)) ∧ Hid (OwnB w.heap.size wr (.slice ab nb cb) L) ∧ Hid (Below w.heap.size w wr))
  case atStart => exact ⟨0, [], none, 0, 0, rfl, rfl, by omega, by omega, rfl, Lib.hid rfl, Lib.hid (OwnB.nil _ _), Lib.hid (Below.refl _ _)⟩
  case round =>
    obtain ⟨i, L, ab, nb, cb, rfl, rfl, hi, hik, hLl, HL, HO, HB⟩ := hrel
    by_cases h1 : i < len
    · have hi1 : (i : Int) < (len : Int) := by omega
      have hi0 : (0 : Int) ≤ (i : Int) := by omega
      have hlx : i < l.length := by have := HN.out; omega
      obtain ⟨x, hx⟩ : ∃ x, l[i]? = some x := ⟨l[i], List.getElem?_eq_getElem hlx⟩
      have hxs := HS.out x (List.mem_of_getElem? hx)
      have hxb : x < 4294967296 := hxs
      obtain ⟨g, off, rfl, hg, hc⟩ := rdV_cells (HRD.out.below HB.out) (by rw [List.length_map]; omega)
      have hci := hc i (by rw [List.length_map]; omega)
      rw [List.getD_eq_getElem?_getD, List.getElem?_map, hx] at hci
      have hci2 : wr.cell? ⟨g, off + i, none⟩ = some (.int .i64 (x : Int)) := hci
      have HP : Hid (∀ w, Calls Tryd.prog 56 #[.int .u32 (x : Int)] w (MkB (fixN 4 x) w)) := Lib.hid (put32_any x hxs)
      have HTK := Lib.hid (places_snoc l i x hx)
      clear hx hc hci hxs hlx
      go_wp2_with fail
      refine (HP.out _).mono ?_
      rintro e w2 ⟨v2, rfl, o2, b2⟩
      have HB2 := Lib.hid (HB.out.trans (b2.mono HB.out.size))
      have HO2 := Lib.hid (HO.out.below b2)
      have HV2 := Lib.hid o2.rd
      clear o2 b2 HP HB HO
      go_wp2_with (at_builtin; refine wp_appSB _ _ (by rfl) (by rfl) (by rfl) HO2.out (by rfl) HV2.out ?c1 HB2.out.size ?_)
      case c1 => rw [fixN_len]; omega
      intro v3 w3 o3 b3
      have HB3 := Lib.hid (HB2.out.trans b3)
      obtain ⟨a3, n3, c3, rfl, -⟩ := o3.form
      have HO3 := Lib.hid o3
      clear o3 b3 HV2 HO2 HB2
      go_wp2_with fail
      go_roundg (len - (i + 1))
      case measure => omega
      case rel => exact ⟨i + 1, _, a3, n3, c3, by go_num, rfl, by omega, Nat.le_refl _, by rw [List.length_append, fixN_len, hLl]; omega, Lib.hid (by rw [HTK.out, HL.out]), HO3, HB3⟩
    · obtain rfl : i = len := by omega
      have hi1 : ¬ (i : Int) < (i : Int) := by omega
      have HL2 : Hid (R = L ++ fixN 4 i) := Lib.hid (by rw [← HR.out, HL.out, List.take_of_length_le (by have := HN.out; omega)]; unfold placesB; rw [← HN.out])
      have HP : Hid (∀ w, Calls Tryd.prog 56 #[.int .u32 (i : Int)] w (MkB (fixN 4 i) w)) := Lib.hid (put32_any i (by omega))
      clear HL HR hik h1
      go_wp2_with fail
      refine (HP.out _).mono ?_
      rintro e w2 ⟨v2, rfl, o2, b2⟩
      have HB2 := Lib.hid (HB.out.trans (b2.mono HB.out.size))
      have HO2 := Lib.hid (HO.out.below b2)
      have HV2 := Lib.hid o2.rd
      clear o2 b2 HP HB HO
      go_wp2_with (at_builtin; refine wp_appSB _ _ (by rfl) (by rfl) (by rfl) HO2.out (by rfl) HV2.out ?c1 HB2.out.size ?_)
      case c1 => rw [fixN_len]; omega
      intro v3 w3 o3 b3
      go_wp2_with fail
      go_ret
      exact ⟨_, rfl, by rw [HL2.out]; exact o3, HB2.out.trans b3⟩
end Go.Proofs.YtennpdhnjaemeaaDoor
/- A whole block of memory, by its cells. -/
namespace Go.Proofs.YtennpdhnjaemeaaDoor
set_option linter.unusedVariables false
open Go.RowKit
def BlkAt (w : World) (b : Nat) (vs : Array Value) (t : TypeId) : Prop := w.heap[b]? = some (.cells vs t (0, 0))
theorem BlkAt.lt {w : World} {b : Nat} {vs : Array Value} {t : TypeId} (h : BlkAt w b vs t) : b < w.heap.size := (Array.getElem?_eq_some_iff.1 h).1
theorem BlkAt.below {w w' : World} {b : Nat} {vs : Array Value} {t : TypeId} (h : BlkAt w b vs t) (u : Below w.heap.size w w') : BlkAt w' b vs t := (u.block b h.lt).trans h
theorem BlkAt.at {w : World} {b : Nat} {vs : Array Value} {t : TypeId} (h : BlkAt w b vs t) (i : Nat) : w.cell? ⟨b, i, none⟩ = vs[i]? := cells_at h i
theorem BlkAt.free {w : World} {b : Nat} {vs : Array Value} {t : TypeId} (h : BlkAt w b vs t) (i : Nat) : w.frozen? ⟨b, i, none⟩ = false := cells_free h i
theorem BlkAt.set {w : World} {b o : Nat} {vs : Array Value} {t : TypeId} (h : BlkAt w b vs t) (v : Value) : BlkAt (w.setCell ⟨b, o, none⟩ v) b (vs.setIfInBounds o v) t := cells_set h v
theorem BlkAt.other {w : World} {b c o : Nat} {vs : Array Value} {t : TypeId} (h : BlkAt w b vs t) (v : Value) (hn : b ≠ c) : BlkAt (w.setCell ⟨c, o, none⟩ v) b vs t := (Below.heap_setCell _ _ _ _ hn).trans h
theorem BlkAt.new (w : World) (vs : Array Value) (t : TypeId) : BlkAt (w.alloc (.cells vs t)) w.heap.size vs t := heap_alloc_new w (.cells vs t)
theorem BlkAt.more {w : World} {b : Nat} {vs : Array Value} {t : TypeId} (h : BlkAt w b vs t) (o : Obj) : BlkAt (w.alloc o) b vs t := h.below ((Below.refl _ w).alloc (Nat.le_refl _) o)
end Go.Proofs.YtennpdhnjaemeaaDoor
/- A builder of a block in memory: its four cells, its rows' bytes, its places; what an append to either and a store do. -/
namespace Go.Proofs.YtennpdhnjaemeaaDoor
set_option linter.unusedVariables false
open Go.RowKit
/-- On the way: since w just what F names (or what is new) was written; the builder b holds these. -/
structure BdL (F : Nat → Prop) (w wk : World) (b : Nat) (vr vp : Value) (n : Nat) (l : ByteArray) (R : List UInt8) (P : List Nat) : Prop where
  blk : BlkAt wk b #[vr, vp, .int .i64 (n : Int), .string l] 106
  rows : OwnB 0 wk vr R
  places : OwnK encN 1 3 0 wk vp P
  rin : ∀ g, vr.ownBlock = some g → F g ∨ w.heap.size ≤ g
  pin : ∀ g, vp.ownBlock = some g → F g ∨ w.heap.size ≤ g
  bin : F b ∨ w.heap.size ≤ b
  upd : UpdF F w wk
/-- The builder b holds the rows rs; F names its blocks. -/
def BdAt (w : World) (b : Nat) (F : Nat → Prop) (rs : List Kv) : Prop :=
  RiseK rs ∧ ∃ vr vp, BdL F w w b vr vp rs.length ⟨(lastK [] rs).toArray⟩ (bodyB 0 [] rs) (bkEnds rs)
/-- A call: the builder holds rs behind it; its blocks are the old ones, or new. -/
def BdTo (w : World) (b : Nat) (F : Nat → Prop) (w' : World) (rs : List Kv) : Prop :=
  BdAt w' b (fun g => F g ∨ w.heap.size ≤ g ∧ g < w'.heap.size) rs ∧ UpdF F w w'
variable {F : Nat → Prop} {w wk wl : World} {b : Nat} {vr vp : Value} {n : Nat} {l : ByteArray} {R : List UInt8} {P : List Nat}
theorem BdL.lt (h : BdL F w wk b vr vp n l R P) : b < wk.heap.size := h.blk.lt
theorem BdL.below (h : BdL F w wk b vr vp n l R P) (u : Below wk.heap.size wk wl) : BdL F w wl b vr vp n l R P :=
  ⟨h.blk.below u, h.rows.below u, h.places.below u, h.rin, h.pin, h.bin, h.upd.trans (UpdF.of u)⟩
theorem BdL.drew (h : BdL F w wk b vr vp n l R P) : BdL F w wk.drew b vr vp n l R P := ⟨h.blk, h.rows, h.places, h.rin, h.pin, h.bin, h.upd.drew⟩
theorem own_ne_blk {E B k n' : Nat} {u : Value} {xs : List Value} {vs : Array Value} {t : TypeId} (h : BlkAt wk b vs t) (hr : wk.ownsRow B E k u n' xs) (hne : E ≠ t) : ∀ g, u.ownBlock = some g → g ≠ b := by
  rintro g hg rfl
  rcases hr.2 with ⟨rfl, -⟩ | ⟨g1, c1, cur1, rfl, -, k1, -⟩
  · cases hg
  · obtain rfl : g1 = g := Option.some.inj hg
    unfold BlkAt at h
    rw [h] at k1
    simp only [Option.some.injEq, Obj.cells.injEq] at k1
    exact hne k1.2.1.symm
theorem BdL.rne (h : BdL F w wk b vr vp n l R P) : ∀ g, vr.ownBlock = some g → g ≠ b := own_ne_blk h.blk h.rows (by decide)
theorem BdL.pne (h : BdL F w wk b vr vp n l R P) : ∀ g, vp.ownBlock = some g → g ≠ b := own_ne_blk h.blk h.places (by decide)
/-- Bytes were put behind the rows, and the slice is stored. -/
theorem BdL.putRows (h : BdL F w wk b vr vp n l R P) {v' : Value} {cs : List UInt8} (o : OwnB 0 wl v' (R ++ cs)) (g : wk.grownBy wl vr.ownBlock) (hn : ∀ g, v'.ownBlock = some g → vr.ownBlock = some g ∨ wk.heap.size ≤ g) :
    BdL F w (wl.setCell ⟨b, 0, none⟩ v') b v' vp n l (R ++ cs) P := by
  have hb := h.lt
  have hs := h.upd.size
  have eb : wl.heap[b]? = wk.heap[b]? := g.block b hb fun e => h.rne b e.symm rfl
  have hbl : BlkAt wl b #[vr, vp, .int .i64 (n : Int), .string l] 106 := eb.trans h.blk
  have hvn : ∀ x, v'.ownBlock = some x → x ≠ b := own_ne_blk hbl o (by decide)
  refine ⟨hbl.set v', ?_, ?_, fun x hx => ?_, h.pin, h.bin, ?_⟩
  · exact row_same o fun x hx => Below.heap_setCell _ _ _ _ (hvn x hx)
  · refine row_same h.places fun x hx => (Below.heap_setCell _ _ _ _ (h.pne x hx)).trans (g.block x (row_lt h.places x hx) fun e => ?_)
    exact type_apart h.rows h.places (by decide) x hx e.symm
  · rcases hn x hx with e | e
    · exact h.rin x e
    · exact .inr (by omega)
  · refine h.upd.then (G := fun x => vr.ownBlock = some x ∨ x = b) ((UpdF.grown g fun k hk => .inl hk).set b 0 v' (.inr rfl)) fun x hx => ?_
    rcases hx with e | rfl
    · exact h.rin x e
    · exact h.bin
/-- A place was put behind the places, and the slice is stored. -/
theorem BdL.putPlace (h : BdL F w wk b vr vp n l R P) {v' : Value} {o' : Nat} (o : OwnK encN 1 3 0 wl v' (P ++ [o'])) (g : UpdF (fun x => vp.ownBlock = some x) wk wl) (hn : ∀ g, v'.ownBlock = some g → vp.ownBlock = some g ∨ wk.heap.size ≤ g) :
    BdL F w (wl.setCell ⟨b, 1, none⟩ v') b vr v' n l R (P ++ [o']) := by
  have hb := h.lt
  have hs := h.upd.size
  have eb : wl.heap[b]? = wk.heap[b]? := g.block b hb fun e => h.pne b e rfl
  have hbl : BlkAt wl b #[vr, vp, .int .i64 (n : Int), .string l] 106 := eb.trans h.blk
  have hvn : ∀ x, v'.ownBlock = some x → x ≠ b := own_ne_blk hbl o (by decide)
  refine ⟨hbl.set v', ?_, ?_, h.rin, fun x hx => ?_, h.bin, ?_⟩
  · refine row_same h.rows fun x hx => (Below.heap_setCell _ _ _ _ (h.rne x hx)).trans (g.block x (row_lt h.rows x hx) fun e => ?_)
    exact type_apart h.places h.rows (by decide) x hx e
  · exact row_same o fun x hx => Below.heap_setCell _ _ _ _ (hvn x hx)
  · rcases hn x hx with e | e
    · exact h.pin x e
    · exact .inr (by omega)
  · refine h.upd.then (G := fun x => vp.ownBlock = some x ∨ x = b) ((g.mono fun k _ hk => .inl hk).set b 1 v' (.inr rfl)) fun x hx => ?_
    rcases hx with e | rfl
    · exact h.pin x e
    · exact h.bin
theorem BdL.setAt (h : BdL F w wk b vr vp n l R P) (o : Nat) (v : Value) (n' : Nat) (l' : ByteArray) (he : (#[vr, vp, .int .i64 (n : Int), .string l] : Array Value).setIfInBounds o v = #[vr, vp, .int .i64 (n' : Int), .string l']) : BdL F w (wk.setCell ⟨b, o, none⟩ v) b vr vp n' l' R P := by
  refine ⟨?_, row_same h.rows fun x hx => Below.heap_setCell _ _ _ _ (h.rne x hx), row_same h.places fun x hx => Below.heap_setCell _ _ _ _ (h.pne x hx), h.rin, h.pin, h.bin, ?_⟩
  · rw [← he]; exact h.blk.set v
  · exact h.upd.then (G := fun x => x = b) ((UpdF.refl _ _).set b o v rfl) fun x hx => by subst hx; exact h.bin
theorem BdL.to (h : BdL F w wk b vr vp n l R P) {rs : List Kv} (hr : RiseK rs) (h1 : n = rs.length) (h2 : l = ⟨(lastK [] rs).toArray⟩) (h3 : R = bodyB 0 [] rs) (h4 : P = bkEnds rs) : BdTo w b F wk rs := by
  subst h1 h2 h3 h4
  refine ⟨⟨hr, vr, vp, h.blk, h.rows, h.places, fun g hg => .inl ?_, fun g hg => .inl ?_, .inl ?_, UpdF.refl _ _⟩, h.upd⟩
  · have := row_lt h.rows g hg
    rcases h.rin g hg with e | e
    · exact .inl e
    · exact .inr ⟨e, this⟩
  · have := row_lt h.places g hg
    rcases h.pin g hg with e | e
    · exact .inl e
    · exact .inr ⟨e, this⟩
  · have := h.lt
    rcases h.bin with e | e
    · exact .inl e
    · exact .inr ⟨e, this⟩
theorem BdAt.below {rs : List Kv} {w' : World} (h : BdAt w b F rs) (u : Below w.heap.size w w') : BdAt w' b F rs := by
  obtain ⟨h0, vr, vp, h1, h2, h3, h4, h5, h6, h7⟩ := h
  have lift : ∀ g, g < w.heap.size → F g ∨ w.heap.size ≤ g → F g ∨ w'.heap.size ≤ g := fun g hg e => by
    rcases e with e | e
    · exact .inl e
    · omega
  exact ⟨h0, vr, vp, h1.below u, h2.below u, h3.below u, fun g hg => lift g (row_lt h2 g hg) (h4 g hg), fun g hg => lift g (row_lt h3 g hg) (h5 g hg), lift b h1.lt h6, UpdF.refl _ _⟩
/-- What writes none of its blocks leaves it. -/
theorem BdAt.upd {rs : List Kv} {w' : World} {G : Nat → Prop} (h : BdAt w b F rs) (u : UpdF G w w') (hd : ∀ g, F g → ¬ G g) : BdAt w' b F rs := by
  obtain ⟨h0, vr, vp, h1, h2, h3, h4, h5, h6, h7⟩ := h
  have inF : ∀ g, g < w.heap.size → F g ∨ w.heap.size ≤ g → F g := fun g hg e => by
    rcases e with e | e
    · exact e
    · omega
  have fr := fun g hg => inF g (row_lt h2 g hg) (h4 g hg)
  have fp := fun g hg => inF g (row_lt h3 g hg) (h5 g hg)
  have fb := inF b h1.lt h6
  exact ⟨h0, vr, vp, (u.block b h1.lt (hd b fb)).trans h1, row_same h2 fun g hg => u.block g (row_lt h2 g hg) (hd g (fr g hg)), row_same h3 fun g hg => u.block g (row_lt h3 g hg) (hd g (fp g hg)), fun g hg => .inl (fr g hg), fun g hg => .inl (fp g hg), .inl fb, UpdF.refl _ _⟩
theorem BdL.cells (h : BdL F w wk b vr vp n l R P) : (wk.cell? ⟨b, 0, none⟩ = some vr ∧ wk.cell? ⟨b, 1, none⟩ = some vp ∧ wk.cell? ⟨b, 2, none⟩ = some (.int .i64 (n : Int)) ∧ wk.cell? ⟨b, 3, none⟩ = some (.string l)) ∧ ∀ o, wk.frozen? ⟨b, o, none⟩ = false :=
  ⟨⟨h.blk.at 0, h.blk.at 1, h.blk.at 2, h.blk.at 3⟩, h.blk.free⟩
end Go.Proofs.YtennpdhnjaemeaaDoor
/- The walk of a builder's Add. -/
namespace Go.Proofs.YtennpdhnjaemeaaDoor
set_option linter.unusedVariables false
set_option maxRecDepth 100000
open Go.RowKit
/-- 'append(b, s...)' as one step of a region, the slot that it writes named. -/
theorem step_appT {P : Program} {ops : Array Oper} {o : Oper} {a : Act} {w : World} {K : Act → World → Prop} {Q : Exit → Act → World → Prop} {E : Prop} (d : Nat) (hd : o.dst = some d) (hw : Region.wanted o (yielded ops a.tmps) = true)
    (s x : Operand) (t u : TypeId) (ho : o.op = Op.call { callee := Callee.builtin Builtin.append, args := #[s, x], argTypes := #[t, u] }) {v src v' : Value} {w' : World} (hs : a.eval s = v) (hx : a.eval x = src)
    (hr : (Builtin.append_ #[t, u] o.type #[v, src]).run P w = .ok v' w') (hK : K (a.put (some d) v') w') : if Region.wanted o (yielded ops a.tmps) = true then Oper.wp P o a w K Q else E := by
  rw [if_pos hw]
  unfold Oper.wp execOp
  simp only [ho, resolve, invoke, builtin, Sem.run_bind, Sem.run_pure, Result.andThen_ok, List.map_toArray, List.map_cons, List.map_nil, hs, hx, hr]
  have hK' : K (a.put o.dst v') w' := by rw [hd]; exact hK
  exact hK'
theorem wp_appTG {ops : Array Oper} {rest : List Oper} {o : Oper} {a : Act} {w : World} {Q : Exit → Act → World → Prop} (sl x : Operand) (ho : o.op = .call { callee := .builtin .append, args := #[sl, x], argTypes := #[25, 9] }) (hw : Region.wanted o (yielded ops a.tmps) = true)
    {v : Value} {bs : List UInt8} (hs : a.eval sl = v) (hown : OwnB 0 w v bs) (s : ByteArray) (hx : a.eval x = .string s) (hlen : bs.length + s.size ≤ 140737488355328)
    (h : ∀ v' w', OwnB 0 w' v' (bs ++ s.data.toList) → w.grownBy w' v.ownBlock → (∀ g, v'.ownBlock = some g → v.ownBlock = some g ∨ w.heap.size ≤ g) → wpList Tryd.prog ops Q rest (a.put o.dst v') w') : wpList Tryd.prog ops Q (o :: rest) a w := by
  refine wpList_step fun K hK => ?_
  rw [if_pos hw]
  obtain ⟨v', w', hr, h2, h3, h4⟩ := run_appTG (ty := o.type) hown s hlen
  unfold Oper.wp execOp
  simp only [ho, resolve, invoke, builtin, Sem.run_bind, Sem.run_pure, Result.andThen_ok, List.map_toArray, List.map_cons, List.map_nil, hs, hx, hr]
  exact hK _ _ (h v' w' h2 h3 h4)
/-- 'append', by what it gives. -/
theorem wp_appZ {P : Program} {ops : Array Oper} {rest : List Oper} {o : Oper} {a : Act} {w w' : World} {Q : Exit → Act → World → Prop} {v src v' : Value} {t u : TypeId} (s x : Operand) (ho : o.op = .call { callee := .builtin .append, args := #[s, x], argTypes := #[t, u] }) (hw : Region.wanted o (yielded ops a.tmps) = true)
    (hs : a.eval s = v) (hx : a.eval x = src) (hr : (Builtin.append_ #[t, u] o.type #[v, src]).run P w = .ok v' w') (h : wpList P ops Q rest (a.put o.dst v') w') : wpList P ops Q (o :: rest) a w := by
  refine wpList_step fun K hK => ?_
  rw [if_pos hw]
  unfold Oper.wp execOp
  simp only [ho, resolve, invoke, builtin, Sem.run_bind, Sem.run_pure, Result.andThen_ok, List.map_toArray, List.map_cons, List.map_nil, hs, hx, hr]
  exact hK _ _ h
def addOk (rs : List Kv) (k : List UInt8) : Prop := rs.length = 0 ∨ lastK [] rs < k
instance (rs : List Kv) (k : List UInt8) : Decidable (addOk rs k) := inferInstanceAs (Decidable (_ ∨ _))
def addK (rs : List Kv) (r : Kv) : List Kv := if addOk rs r.k then rs ++ [r] else rs
theorem rise_snoc {rs : List Kv} {r : Kv} (h : RiseK rs) (hk : addOk rs r.k) : RiseK (rs ++ [r]) := by
  unfold RiseK at h ⊢
  rw [List.pairwise_append]
  refine ⟨h, List.pairwise_singleton _ _, fun x hx y hy => ?_⟩
  obtain rfl : y = r := by simpa using hy
  rcases hk with hk | hk
  · rw [List.eq_nil_of_length_eq_zero hk] at hx; cases hx
  · rcases List.eq_nil_or_concat rs with rfl | ⟨ys, z, rfl⟩
    · cases hx
    · rw [List.concat_eq_append] at *
      rw [lastK_snoc] at hk
      rcases List.mem_append.1 hx with hx | hx
      · exact List.lt_trans ((List.pairwise_append.1 h).2.2 x hx z (List.mem_singleton_self _)) hk
      · obtain rfl : x = z := by simpa using hx
        exact hk
theorem last_le (rs : List Kv) : (lastK [] rs).length ≤ (bodyB 0 [] rs).length := by
  rcases List.eq_nil_or_concat rs with rfl | ⟨ys, z, rfl⟩
  · exact Nat.le_refl _
  · rw [List.concat_eq_append, lastK_snoc]
    have := (body_small (ys ++ [z]) 0 [] z (by simp)).1
    simpa using this
set_option maxHeartbeats 8000000 in
theorem add_any (b : Nat) (F : Nat → Prop) (rs : List Kv) (key val : ByteArray) (w : World) (h : BdAt w b F rs) (hsz : (bodyB 0 [] rs).length + key.size + val.size ≤ 1000000000) :
    Calls Tryd.prog 53 #[.pointer (some ⟨b, 0, none⟩), .string key, .string val] w fun e w' => e = .returned (.bool (decide (addOk rs key.data.toList))) ∧ BdTo w b F w' (addK rs ⟨key.data.toList, val.data.toList⟩) := by
  obtain ⟨hri, vr, vp, hL⟩ := h
  have hll := last_le rs
  have hbl := body_len rs 0 []
  obtain ⟨l, hl⟩ : ∃ l : ByteArray, (⟨(lastK [] rs).toArray⟩ : ByteArray) = l := ⟨_, rfl⟩
  have hld : l.data.toList = lastK [] rs := by rw [← hl]
  have hls : l.size = (lastK [] rs).length := by rw [← size_toList, hld]
  rw [hl] at hL
  have HRI := Lib.hid hri
  have HLD := Lib.hid hld
  have HLL := Lib.hid hl
  have hlb : l.size ≤ 1000000000 := by omega
  have hkb : key.size ≤ 1000000000 := by omega
  have hvb : val.size ≤ 1000000000 := by omega
  have hnb : rs.length ≤ 1000000000 := by omega
  obtain ⟨A0, N0, K0, rfl, hN0, -⟩ := hL.rows.form
  obtain ⟨ap, kp, rfl, -⟩ := hL.places.kform
  have L0 := Lib.hid hL
  have hN0b : N0 ≤ 1000000000 := by omega
  obtain ⟨np, hnp⟩ : ∃ np, (bkEnds rs).length = np := ⟨_, rfl⟩
  rw [hnp] at L0
  have HN0 := Lib.hid hN0
  have HSZ := Lib.hid hsz
  by_cases hA : addOk rs key.data.toList
  · have HA := Lib.hid hA
    have hA1 : decide (rs.length = 0 ∨ bl l key) = true := decide_eq_true (by unfold bl; rw [hld]; exact hA)
    have HI : Hid (∀ w, Calls Tryd.prog 73 #[.int .i64 (rs.length : Int), .string l, .string key] w fun e w' => e = .returned (.bool true) ∧ w' = w) := Lib.hid (by rw [← hA1]; exact isNext_any rs.length (by omega) l key)
    obtain ⟨s, hs⟩ : ∃ s, shB rs.length l.data.toList key.data.toList = s := ⟨_, rfl⟩
    have hsk := (shB_le rs.length l.data.toList key.data.toList).2
    rw [hs, size_toList] at hsk
    have HSH : Hid (∀ w, Calls Tryd.prog 75 #[.int .i64 (rs.length : Int), .string l, .string key] w fun e w' => e = .returned (.int .i64 (s : Int)) ∧ DrN w w') := Lib.hid (by rw [← hs]; exact shared_any rs.length (by omega) l key (by omega) (by omega))
    obtain ⟨q4, hq4⟩ : ∃ q, decide (rs.length % 4 = 0) = q := ⟨_, rfl⟩
    have HQ4 := Lib.hid hq4
    have HW : Hid (∀ w, Calls Tryd.prog 74 #[.int .i64 (rs.length : Int)] w fun e w' => e = .returned (.bool q4) ∧ w' = w) := Lib.hid (by rw [← hq4]; exact isWhole_any rs.length (by omega))
    obtain ⟨oth, ho⟩ : ∃ oth, key.size - s = oth := ⟨_, rfl⟩
    have hoi : (key.size : Int) - (s : Int) = (oth : Int) := by omega
    have HP1 : Hid (∀ w, Calls Tryd.prog 59 #[.int .u64 (s : Int)] w (MkB (putN s) w)) := Lib.hid (put_any s (by omega))
    have HP2 : Hid (∀ w, Calls Tryd.prog 59 #[.int .u64 (oth : Int)] w (MkB (putN oth) w)) := Lib.hid (put_any oth (by omega))
    have HP3 : Hid (∀ w, Calls Tryd.prog 59 #[.int .u64 (val.size : Int)] w (MkB (putN val.size) w)) := Lib.hid (put_any val.size (by omega))
    have HCL : Hid (∀ w, Calls Tryd.prog 76 #[.string key] w fun e w' => e = .returned (.string key) ∧ Below w.heap.size w w') := Lib.hid (fun w => clone_any key w (by omega))
    obtain ⟨KD, hKD⟩ : ∃ KD, key.extract s key.size = KD := ⟨_, rfl⟩
    have hKDl : KD.data.toList = key.data.toList.drop s := by rw [← hKD]; simp [List.take_of_length_le]
    have hKDs : KD.size = oth := by rw [← size_toList, hKDl, List.length_drop, size_toList]; omega
    obtain ⟨R, hR⟩ : ∃ R, bodyB 0 [] rs = R := ⟨_, rfl⟩
    have HLE : Hid (R.length + key.size + val.size ≤ 1000000000 ∧ rs.length ≤ 1000000000 ∧ (putN s).length ≤ 10 ∧ (putN oth).length ≤ 10 ∧ (putN val.size).length ≤ 10 ∧ KD.size ≤ key.size) := Lib.hid ⟨by rw [← hR]; exact hsz, hnb, (putN_len _).2, (putN_len _).2, (putN_len _).2, by omega⟩
    have HRR : Hid (bodyB 0 [] (rs ++ [⟨key.data.toList, val.data.toList⟩]) = R ++ putN s ++ putN oth ++ putN val.size ++ KD.data.toList ++ val.data.toList) := Lib.hid (by
      rw [bodyB_snoc, Nat.zero_add, hR]
      unfold rowB
      simp only
      rw [← hld, hs, hKDl, size_toList, size_toList, ho]
      simp only [List.append_assoc])
    have HPL : Hid (bkEnds (rs ++ [⟨key.data.toList, val.data.toList⟩]) = bkEnds rs ++ if rs.length % 4 = 0 then [N0] else []) := Lib.hid (by
      unfold bkEnds
      rw [endsB_snoc, Nat.zero_add, Nat.zero_add, hN0])
    rw [hR] at L0 hN0 HN0
    clear hL hri hld hl hll hbl hls hsz hA hA1 hs hq4 ho hKDl hR hnp hN0
    have hs0 : (0 : Int) ≤ (s : Int) := by omega
    have hsk2 : (s : Int) ≤ (key.size : Int) := by omega
    rw [decide_eq_true HA.out]
    unfold addK
    rw [if_pos (show addOk rs (⟨key.data.toList, val.data.toList⟩ : Kv).k from HA.out)]
    obtain ⟨⟨c0, c1, c2, c3⟩, cf⟩ := L0.out.cells
    go_enter Tryd.func53, Tryd.ntmps53
    go_wp2_with fail
    go_quiet ((go_at_call 73; exact Calls.quiet_of_same (HI.out _)))
    have L1 : Hid (BdL F w (w.drewN nq) b (.slice A0 N0 K0) (.slice ap np kp) rs.length l R (bkEnds rs)) := Lib.hid (L0.out.below (DrN.below ⟨nq, rfl⟩ _))
    clear c0 c1 c2 c3 cf L0 HI
    generalize w.drewN nq = w1 at *
    obtain ⟨⟨c0, c1, c2, c3⟩, cf⟩ := L1.out.cells
    go_wp2_with fail
    refine (HW.out _).mono ?_
    rintro e w1' ⟨rfl, hw1⟩
    subst hw1
    clear HW
    go_upto_if 27 with fail
    clear c0 c1 c2 c3 cf
    go_cut [] (fun wx => ∃ (av : Option Addr) (nv kv : Nat), Hid (BdL F w wx b (.slice A0 N0 K0) (.slice av nv kv) rs.length l R (bkEnds (rs ++ [⟨key.data.toList, val.data.toList⟩]))))
    case first =>
      as_aux_lemma =>
      cases q4 with
      | true =>
        have HE : Hid (bkEnds (rs ++ [⟨key.data.toList, val.data.toList⟩]) = bkEnds rs ++ [N0]) := Lib.hid (by rw [HPL.out, if_pos (of_decide_eq_true HQ4.out)])
        go_wp2_with fail
        generalize w1' = w0 at *
        have L0 := L1
        clear L1
        have hS0 : w0.drew.heap[b]? = w0.heap[b]? := rfl
        obtain ⟨⟨c0, c1, c2, c3⟩, cf⟩ := L0.out.cells
        refine beginK (fun W => W.heap[b]? = w0.heap[b]?) 14 (by kernel_rfl) hS0 (fun hHeld => ?_)
        refine takeK (i := 0) (k := 28) (v := .pointer (some ⟨b, 0, none⟩)) rfl rfl (by kernel_rfl) (by kernel_rfl) (by kernel_rfl) [0] rfl (by decide) (by kernel_rfl) (fun _ _ _ h => h) (by kernel_rfl) ?_ (by assumption) ?_
        · intro W hSw; first | (go_simp; done) | (go_simp; first | exact IntWalk.u64_in _ (by omega) | exact IntWalk.i64_in _ (by omega) | (rw [IntWalk.i64_in _ (by omega)]; omega) | skip)
        try simp only [Act.put, List.setIfInBounds_toArray, List.set_cons_zero, List.set_cons_succ]
        refine takeK (i := 1) (k := 29) (v := .pointer (some ⟨b, 0, none⟩)) rfl rfl (by kernel_rfl) (by kernel_rfl) (by kernel_rfl) [1] rfl (by decide) (by kernel_rfl) (fun _ _ _ h => h) (by kernel_rfl) ?_ (by assumption) ?_
        · intro W hSw; first | (go_simp; done) | (go_simp; first | exact IntWalk.u64_in _ (by omega) | exact IntWalk.i64_in _ (by omega) | (rw [IntWalk.i64_in _ (by omega)]; omega) | skip)
        try simp only [Act.put, List.setIfInBounds_toArray, List.set_cons_zero, List.set_cons_succ]
        refine takeK (i := 2) (k := 30) (v := .pointer (some ⟨b, 0, none⟩)) rfl rfl (by kernel_rfl) (by kernel_rfl) (by kernel_rfl) [2] rfl (by decide) (by kernel_rfl) (fun _ _ _ h => h) (by kernel_rfl) ?_ (by assumption) ?_
        · intro W hSw; first | (go_simp; done) | (go_simp; first | exact IntWalk.u64_in _ (by omega) | exact IntWalk.i64_in _ (by omega) | (rw [IntWalk.i64_in _ (by omega)]; omega) | skip)
        try simp only [Act.put, List.setIfInBounds_toArray, List.set_cons_zero, List.set_cons_succ]
        refine takeK (i := 3) (k := 31) (v := .pointer (some ⟨b, 1, none⟩)) rfl rfl (by kernel_rfl) (by kernel_rfl) (by kernel_rfl) [3] rfl (by decide) (by kernel_rfl) (fun _ _ _ h => h) (by kernel_rfl) ?_ (by assumption) ?_
        · intro W hSw; first | (go_simp; done) | (go_simp; first | exact IntWalk.u64_in _ (by omega) | exact IntWalk.i64_in _ (by omega) | (rw [IntWalk.i64_in _ (by omega)]; omega) | skip)
        try simp only [Act.put, List.setIfInBounds_toArray, List.set_cons_zero, List.set_cons_succ]
        refine takeK (i := 4) (k := 32) (v := .slice ap np kp) rfl rfl (by kernel_rfl) (by kernel_rfl) (by kernel_rfl) [4] rfl (by decide) (by kernel_rfl) (fun _ _ _ h => h) (by kernel_rfl) ?_ (by assumption) ?_
        · intro W hSw; have d1 := (World.cell?_of_block (a := ⟨b, 1, none⟩) hSw).trans c1; first | (go_simp; done) | (go_simp; first | exact IntWalk.u64_in _ (by omega) | exact IntWalk.i64_in _ (by omega) | (rw [IntWalk.i64_in _ (by omega)]; omega) | skip)
        try simp only [Act.put, List.setIfInBounds_toArray, List.set_cons_zero, List.set_cons_succ]
        refine takeK (i := 5) (k := 33) (v := .pointer (some ⟨b, 0, none⟩)) rfl rfl (by kernel_rfl) (by kernel_rfl) (by kernel_rfl) [5] rfl (by decide) (by kernel_rfl) (fun _ _ _ h => h) (by kernel_rfl) ?_ (by assumption) ?_
        · intro W hSw; first | (go_simp; done) | (go_simp; first | exact IntWalk.u64_in _ (by omega) | exact IntWalk.i64_in _ (by omega) | (rw [IntWalk.i64_in _ (by omega)]; omega) | skip)
        try simp only [Act.put, List.setIfInBounds_toArray, List.set_cons_zero, List.set_cons_succ]
        refine takeK (i := 6) (k := 34) (v := .pointer (some ⟨b, 0, none⟩)) rfl rfl (by kernel_rfl) (by kernel_rfl) (by kernel_rfl) [6] rfl (by decide) (by kernel_rfl) (fun _ _ _ h => h) (by kernel_rfl) ?_ (by assumption) ?_
        · intro W hSw; first | (go_simp; done) | (go_simp; first | exact IntWalk.u64_in _ (by omega) | exact IntWalk.i64_in _ (by omega) | (rw [IntWalk.i64_in _ (by omega)]; omega) | skip)
        try simp only [Act.put, List.setIfInBounds_toArray, List.set_cons_zero, List.set_cons_succ]
        refine takeK (i := 7) (k := 35) (v := .pointer (some ⟨b, 0, none⟩)) rfl rfl (by kernel_rfl) (by kernel_rfl) (by kernel_rfl) [7] rfl (by decide) (by kernel_rfl) (fun _ _ _ h => h) (by kernel_rfl) ?_ (by assumption) ?_
        · intro W hSw; first | (go_simp; done) | (go_simp; first | exact IntWalk.u64_in _ (by omega) | exact IntWalk.i64_in _ (by omega) | (rw [IntWalk.i64_in _ (by omega)]; omega) | skip)
        try simp only [Act.put, List.setIfInBounds_toArray, List.set_cons_zero, List.set_cons_succ]
        refine takeK (i := 8) (k := 36) (v := .slice A0 N0 K0) rfl rfl (by kernel_rfl) (by kernel_rfl) (by kernel_rfl) [8] rfl (by decide) (by kernel_rfl) (fun _ _ _ h => h) (by kernel_rfl) ?_ (by assumption) ?_
        · intro W hSw; have d0 := (World.cell?_of_block (a := ⟨b, 0, none⟩) hSw).trans c0; first | (go_simp; done) | (go_simp; first | exact IntWalk.u64_in _ (by omega) | exact IntWalk.i64_in _ (by omega) | (rw [IntWalk.i64_in _ (by omega)]; omega) | skip)
        try simp only [Act.put, List.setIfInBounds_toArray, List.set_cons_zero, List.set_cons_succ]
        refine takeK (i := 9) (k := 37) (v := .int .i64 (N0 : Int)) rfl rfl (by kernel_rfl) (by kernel_rfl) (by kernel_rfl) [9] rfl (by decide) (by kernel_rfl) (fun _ _ _ h => h) (by kernel_rfl) ?_ (by assumption) ?_
        · intro W hSw; first | (go_simp; done) | (go_simp; first | exact IntWalk.u64_in _ (by omega) | exact IntWalk.i64_in _ (by omega) | (rw [IntWalk.i64_in _ (by omega)]; omega) | skip)
        try simp only [Act.put, List.setIfInBounds_toArray, List.set_cons_zero, List.set_cons_succ]
        clear hHeld c0 c1 c2 c3 cf
        obtain ⟨vq, rq, hrun, oq, bq, uq, nq⟩ := run_oneK (ty := 104) elemK_n encN_len (w := w0.drew) L0.out.places N0 (encN_one _) (by rw [bkEnds_len]; have := HLE.out; omega) (by rw [bkEnds_len]; have := HLE.out; unfold maxLen; omega) (Nat.zero_le _)
        have HSA : Hid ((w0.drew.alloc (.cells (encN N0).toArray 3)).heap[b]? = w0.heap[b]?) := Lib.hid (((Below.refl _ w0.drew).alloc (Nat.le_refl _) _).block b L0.out.lt)
        have HSR : Hid (rq.heap[b]? = w0.heap[b]?) := Lib.hid (uq.block b L0.out.lt (fun e => L0.out.pne b e rfl))
        have LP := Lib.hid (L0.out.drew.putPlace oq uq nq)
        obtain ⟨aq, cq, rfl, -⟩ := oq.kform
        generalize (bkEnds rs ++ [N0]).length = lq at *
        clear oq bq uq nq
        refine oneK (i := 10) (by kernel_rfl) rfl (fun K hK => ?_)
        go_simp
        refine hK.out _ _ (fun _ => HSA.out) (fun _ => ?_)
        clear hK K
        try simp only [Act.put, List.setIfInBounds_toArray, List.set_cons_zero, List.set_cons_succ]
        refine oneK (i := 11) (by kernel_rfl) rfl (fun K hK => ?_)
        refine step_appD 39 rfl (by kernel_rfl) (.tmp 32) (.tmp 38) 104 rfl rfl rfl hrun ?_
        refine hK.out _ _ (fun _ => HSR.out) (fun _ => ?_)
        clear hK K hrun HSA
        try simp only [Act.put, List.setIfInBounds_toArray, List.set_cons_zero, List.set_cons_succ]
        refine oneK (i := 12) (by kernel_rfl) rfl (fun K hK => ?_)
        go_simp
        refine hK.out _ _ (fun _ => HSR.out) (fun _ => ?_)
        clear hK K
        try simp only [Act.put, List.setIfInBounds_toArray, List.set_cons_zero, List.set_cons_succ]
        refine oneK (i := 13) (by kernel_rfl) rfl (fun K hK => ?_)
        go_simp
        refine hK.out _ _ (fun _ => HSR.out) (fun _ => ?_)
        clear hK K
        try simp only [Act.put, List.setIfInBounds_toArray, List.set_cons_zero, List.set_cons_succ]
        have hbq : BlkAt rq b #[.slice A0 N0 K0, .slice ap np kp, .int .i64 (rs.length : Int), .string l] 106 := HSR.out.trans L0.out.blk
        have e0 := hbq.at 1
        have f0 := hbq.free 1
        clear hbq
        refine oneK (i := 14) (by kernel_rfl) rfl (fun K hK => ?_)
        go_simp
        refine hK.out _ _ (fun h => by have h' : true = false := h; cases h') (fun _ => ?_)
        clear hK K
        try simp only [Act.put, List.setIfInBounds_toArray, List.set_cons_zero, List.set_cons_succ]
        refine doneK (by kernel_rfl) ?_ _
        clear e0 f0 HSR
        generalize rq.setCell ⟨b, 1, none⟩ (.slice aq lq cq) = wq at *
        rw [← HE.out] at LP
        go_wp2_with fail
        go_meet
        exact ⟨_, _, _, LP⟩
      | false =>
        have HE : Hid (bkEnds (rs ++ [⟨key.data.toList, val.data.toList⟩]) = bkEnds rs) := Lib.hid (by rw [HPL.out, if_neg (of_decide_eq_false HQ4.out), List.append_nil])
        rw [← HE.out] at L1
        go_wp2_with fail
        go_meet
        exact ⟨_, _, _, L1⟩
    case rest =>
    clear L1 HPL HQ4
    obtain ⟨av, nv, kv, LX⟩ := hcut
    obtain ⟨vp, hvp⟩ : ∃ vp, (Value.slice av nv kv) = vp := ⟨_, rfl⟩
    obtain ⟨⟨c0, c1, c2, c3⟩, cf⟩ := LX.out.cells
    go_wp2_with fail
    go_quiet ((go_at_call 75; exact Calls.quiet_of (HSH.out _)))
    have LY : Hid (BdL F w (wc.drewN nq) b (.slice A0 N0 K0) (.slice av nv kv) rs.length l R (bkEnds (rs ++ [⟨key.data.toList, val.data.toList⟩]))) := Lib.hid (LX.out.below (DrN.below ⟨nq, rfl⟩ _))
    rw [hvp] at LY
    clear c0 c1 c2 c3 cf LX HSH hvp
    generalize wc.drewN nq = w0 at *
    have L0 := LY
    clear LY
    obtain ⟨PL, hPL⟩ : ∃ PL, bkEnds (rs ++ [⟨key.data.toList, val.data.toList⟩]) = PL := ⟨_, rfl⟩
    have HPL := Lib.hid hPL.symm
    rw [hPL] at L0
    clear hPL
    go_wp2_with fail
    have hS0 : w0.drew.heap[b]? = w0.heap[b]? := rfl
    obtain ⟨⟨c0, c1, c2, c3⟩, cf⟩ := L0.out.cells
    refine beginK (fun W => W.heap[b]? = w0.heap[b]?) 11 (by kernel_rfl) hS0 (fun hHeld => ?_)
    refine takeK (i := 0) (k := 52) (v := .pointer (some ⟨b, 0, none⟩)) rfl rfl (by kernel_rfl) (by kernel_rfl) (by kernel_rfl) [0] rfl (by decide) (by kernel_rfl) (fun _ _ _ h => h) (by kernel_rfl) ?_ (by assumption) ?_
    · intro W hSw; first | (go_simp; done) | (go_simp; first | exact IntWalk.u64_in _ (by omega) | exact IntWalk.i64_in _ (by omega) | (rw [IntWalk.i64_in _ (by omega)]; omega) | skip)
    try simp only [Act.put, List.setIfInBounds_toArray, List.set_cons_zero, List.set_cons_succ]
    refine takeK (i := 1) (k := 53) (v := .pointer (some ⟨b, 0, none⟩)) rfl rfl (by kernel_rfl) (by kernel_rfl) (by kernel_rfl) [1] rfl (by decide) (by kernel_rfl) (fun _ _ _ h => h) (by kernel_rfl) ?_ (by assumption) ?_
    · intro W hSw; first | (go_simp; done) | (go_simp; first | exact IntWalk.u64_in _ (by omega) | exact IntWalk.i64_in _ (by omega) | (rw [IntWalk.i64_in _ (by omega)]; omega) | skip)
    try simp only [Act.put, List.setIfInBounds_toArray, List.set_cons_zero, List.set_cons_succ]
    refine takeK (i := 2) (k := 54) (v := .pointer (some ⟨b, 0, none⟩)) rfl rfl (by kernel_rfl) (by kernel_rfl) (by kernel_rfl) [2] rfl (by decide) (by kernel_rfl) (fun _ _ _ h => h) (by kernel_rfl) ?_ (by assumption) ?_
    · intro W hSw; first | (go_simp; done) | (go_simp; first | exact IntWalk.u64_in _ (by omega) | exact IntWalk.i64_in _ (by omega) | (rw [IntWalk.i64_in _ (by omega)]; omega) | skip)
    try simp only [Act.put, List.setIfInBounds_toArray, List.set_cons_zero, List.set_cons_succ]
    refine takeK (i := 3) (k := 55) (v := .pointer (some ⟨b, 0, none⟩)) rfl rfl (by kernel_rfl) (by kernel_rfl) (by kernel_rfl) [3] rfl (by decide) (by kernel_rfl) (fun _ _ _ h => h) (by kernel_rfl) ?_ (by assumption) ?_
    · intro W hSw; first | (go_simp; done) | (go_simp; first | exact IntWalk.u64_in _ (by omega) | exact IntWalk.i64_in _ (by omega) | (rw [IntWalk.i64_in _ (by omega)]; omega) | skip)
    try simp only [Act.put, List.setIfInBounds_toArray, List.set_cons_zero, List.set_cons_succ]
    refine takeK (i := 4) (k := 56) (v := .slice A0 N0 K0) rfl rfl (by kernel_rfl) (by kernel_rfl) (by kernel_rfl) [4] rfl (by decide) (by kernel_rfl) (fun _ _ _ h => h) (by kernel_rfl) ?_ (by assumption) ?_
    · intro W hSw; have d0 := (World.cell?_of_block (a := ⟨b, 0, none⟩) hSw).trans c0; first | (go_simp; done) | (go_simp; first | exact IntWalk.u64_in _ (by omega) | exact IntWalk.i64_in _ (by omega) | (rw [IntWalk.i64_in _ (by omega)]; omega) | skip)
    try simp only [Act.put, List.setIfInBounds_toArray, List.set_cons_zero, List.set_cons_succ]
    refine takeK (i := 5) (k := 57) (v := .int .i64 (s : Int)) rfl rfl (by kernel_rfl) (by kernel_rfl) (by kernel_rfl) [5] rfl (by decide) (by kernel_rfl) (fun _ _ _ h => h) (by kernel_rfl) ?_ (by assumption) ?_
    · intro W hSw; first | (go_simp; done) | (go_simp; first | exact IntWalk.u64_in _ (by omega) | exact IntWalk.i64_in _ (by omega) | (rw [IntWalk.i64_in _ (by omega)]; omega) | skip)
    try simp only [Act.put, List.setIfInBounds_toArray, List.set_cons_zero, List.set_cons_succ]
    refine takeK (i := 6) (k := 58) (v := .int .u64 (s : Int)) rfl rfl (by kernel_rfl) (by kernel_rfl) (by kernel_rfl) [6] rfl (by decide) (by kernel_rfl) (fun _ _ _ h => h) (by kernel_rfl) ?_ (by assumption) ?_
    · intro W hSw; first | (go_simp; done) | (go_simp; first | exact IntWalk.u64_in _ (by omega) | exact IntWalk.i64_in _ (by omega) | (rw [IntWalk.i64_in _ (by omega)]; omega) | skip)
    try simp only [Act.put, List.setIfInBounds_toArray, List.set_cons_zero, List.set_cons_succ]
    clear hHeld c0 c1 c2 c3 cf
    refine oneK (i := 7) (by kernel_rfl) rfl (fun K hK => ?_)
    go_simp
    refine (HP1.out _).mono ?_
    rintro e q0 ⟨x0, rfl, ox, bx⟩
    have LQ0 := Lib.hid ((L0.out.drew).below bx)
    have HX0 := Lib.hid ox.rd
    have HS0 : Hid (q0.heap[b]? = w0.heap[b]?) := Lib.hid (bx.block b L0.out.lt)
    clear ox bx HP1
    refine hK.out _ _ (fun _ => HS0.out) (fun _ => ?_)
    clear hK K
    try simp only [Act.put, List.setIfInBounds_toArray, List.set_cons_zero, List.set_cons_succ]
    obtain ⟨v0, r0, hrun, o0, g0, n0⟩ := run_appGB (ty := 25) LQ0.out.rows HX0.out (by (try simp only [List.length_append]); have := HLE.out; omega)
    have HSR0 : Hid (r0.heap[b]? = w0.heap[b]?) := Lib.hid ((g0.block b LQ0.out.lt (fun e => LQ0.out.rne b e.symm rfl)).trans HS0.out)
    have L1 := Lib.hid (LQ0.out.putRows o0 g0 n0)
    obtain ⟨A1, N1, K1, rfl, hm0, -⟩ := o0.form
    clear o0 g0 n0 LQ0 HX0 HS0 hm0
    refine oneK (i := 8) (by kernel_rfl) rfl (fun K hK => ?_)
    refine step_appD 60 rfl (by kernel_rfl) (.tmp 56) (.tmp 59) 25 rfl rfl rfl hrun ?_
    refine hK.out _ _ (fun _ => HSR0.out) (fun _ => ?_)
    clear hK K hrun
    try simp only [Act.put, List.setIfInBounds_toArray, List.set_cons_zero, List.set_cons_succ]
    refine oneK (i := 9) (by kernel_rfl) rfl (fun K hK => ?_)
    go_simp
    refine hK.out _ _ (fun _ => HSR0.out) (fun _ => ?_)
    clear hK K
    try simp only [Act.put, List.setIfInBounds_toArray, List.set_cons_zero, List.set_cons_succ]
    refine oneK (i := 10) (by kernel_rfl) rfl (fun K hK => ?_)
    go_simp
    refine hK.out _ _ (fun _ => HSR0.out) (fun _ => ?_)
    clear hK K
    try simp only [Act.put, List.setIfInBounds_toArray, List.set_cons_zero, List.set_cons_succ]
    have hb0 : BlkAt r0 b #[.slice A0 N0 K0, vp, .int .i64 (rs.length : Int), .string l] 106 := HSR0.out.trans L0.out.blk
    have e0 := hb0.at 0
    have f0 := hb0.free 0
    clear hb0
    refine oneK (i := 11) (by kernel_rfl) rfl (fun K hK => ?_)
    go_simp
    refine hK.out _ _ (fun h => by have h' : true = false := h; cases h') (fun _ => ?_)
    clear hK K
    try simp only [Act.put, List.setIfInBounds_toArray, List.set_cons_zero, List.set_cons_succ]
    refine doneK (by kernel_rfl) ?_ _
    clear e0 f0 L0 HSR0 hS0
    generalize r0.setCell ⟨b, 0, none⟩ (.slice A1 N1 K1) = w1 at *
    go_wp2_with fail
    have hS1 : w1.drew.heap[b]? = w1.heap[b]? := rfl
    obtain ⟨⟨c0, c1, c2, c3⟩, cf⟩ := L1.out.cells
    refine beginK (fun W => W.heap[b]? = w1.heap[b]?) 14 (by kernel_rfl) hS1 (fun hHeld => ?_)
    refine takeK (i := 0) (k := 63) (v := .pointer (some ⟨b, 0, none⟩)) rfl rfl (by kernel_rfl) (by kernel_rfl) (by kernel_rfl) [0] rfl (by decide) (by kernel_rfl) (fun _ _ _ h => h) (by kernel_rfl) ?_ (by assumption) ?_
    · intro W hSw; first | (go_simp; done) | (go_simp; first | exact IntWalk.u64_in _ (by omega) | exact IntWalk.i64_in _ (by omega) | (rw [IntWalk.i64_in _ (by omega)]; omega) | skip)
    try simp only [Act.put, List.setIfInBounds_toArray, List.set_cons_zero, List.set_cons_succ]
    refine takeK (i := 1) (k := 64) (v := .pointer (some ⟨b, 0, none⟩)) rfl rfl (by kernel_rfl) (by kernel_rfl) (by kernel_rfl) [1] rfl (by decide) (by kernel_rfl) (fun _ _ _ h => h) (by kernel_rfl) ?_ (by assumption) ?_
    · intro W hSw; first | (go_simp; done) | (go_simp; first | exact IntWalk.u64_in _ (by omega) | exact IntWalk.i64_in _ (by omega) | (rw [IntWalk.i64_in _ (by omega)]; omega) | skip)
    try simp only [Act.put, List.setIfInBounds_toArray, List.set_cons_zero, List.set_cons_succ]
    refine takeK (i := 2) (k := 65) (v := .pointer (some ⟨b, 0, none⟩)) rfl rfl (by kernel_rfl) (by kernel_rfl) (by kernel_rfl) [2] rfl (by decide) (by kernel_rfl) (fun _ _ _ h => h) (by kernel_rfl) ?_ (by assumption) ?_
    · intro W hSw; first | (go_simp; done) | (go_simp; first | exact IntWalk.u64_in _ (by omega) | exact IntWalk.i64_in _ (by omega) | (rw [IntWalk.i64_in _ (by omega)]; omega) | skip)
    try simp only [Act.put, List.setIfInBounds_toArray, List.set_cons_zero, List.set_cons_succ]
    refine takeK (i := 3) (k := 66) (v := .pointer (some ⟨b, 0, none⟩)) rfl rfl (by kernel_rfl) (by kernel_rfl) (by kernel_rfl) [3] rfl (by decide) (by kernel_rfl) (fun _ _ _ h => h) (by kernel_rfl) ?_ (by assumption) ?_
    · intro W hSw; first | (go_simp; done) | (go_simp; first | exact IntWalk.u64_in _ (by omega) | exact IntWalk.i64_in _ (by omega) | (rw [IntWalk.i64_in _ (by omega)]; omega) | skip)
    try simp only [Act.put, List.setIfInBounds_toArray, List.set_cons_zero, List.set_cons_succ]
    refine takeK (i := 4) (k := 67) (v := .slice A1 N1 K1) rfl rfl (by kernel_rfl) (by kernel_rfl) (by kernel_rfl) [4] rfl (by decide) (by kernel_rfl) (fun _ _ _ h => h) (by kernel_rfl) ?_ (by assumption) ?_
    · intro W hSw; have d0 := (World.cell?_of_block (a := ⟨b, 0, none⟩) hSw).trans c0; first | (go_simp; done) | (go_simp; first | exact IntWalk.u64_in _ (by omega) | exact IntWalk.i64_in _ (by omega) | (rw [IntWalk.i64_in _ (by omega)]; omega) | skip)
    try simp only [Act.put, List.setIfInBounds_toArray, List.set_cons_zero, List.set_cons_succ]
    refine takeK (i := 5) (k := 68) (v := .string key) rfl rfl (by kernel_rfl) (by kernel_rfl) (by kernel_rfl) [5] rfl (by decide) (by kernel_rfl) (fun _ _ _ h => h) (by kernel_rfl) ?_ (by assumption) ?_
    · intro W hSw; first | (go_simp; done) | (go_simp; first | exact IntWalk.u64_in _ (by omega) | exact IntWalk.i64_in _ (by omega) | (rw [IntWalk.i64_in _ (by omega)]; omega) | skip)
    try simp only [Act.put, List.setIfInBounds_toArray, List.set_cons_zero, List.set_cons_succ]
    refine takeK (i := 6) (k := 69) (v := .int .i64 (key.size : Int)) rfl rfl (by kernel_rfl) (by kernel_rfl) (by kernel_rfl) [6] rfl (by decide) (by kernel_rfl) (fun _ _ _ h => h) (by kernel_rfl) ?_ (by assumption) ?_
    · intro W hSw; first | (go_simp; done) | (go_simp; first | exact IntWalk.u64_in _ (by omega) | exact IntWalk.i64_in _ (by omega) | (rw [IntWalk.i64_in _ (by omega)]; omega) | skip)
    try simp only [Act.put, List.setIfInBounds_toArray, List.set_cons_zero, List.set_cons_succ]
    refine takeK (i := 7) (k := 70) (v := .int .i64 (s : Int)) rfl rfl (by kernel_rfl) (by kernel_rfl) (by kernel_rfl) [7] rfl (by decide) (by kernel_rfl) (fun _ _ _ h => h) (by kernel_rfl) ?_ (by assumption) ?_
    · intro W hSw; first | (go_simp; done) | (go_simp; first | exact IntWalk.u64_in _ (by omega) | exact IntWalk.i64_in _ (by omega) | (rw [IntWalk.i64_in _ (by omega)]; omega) | skip)
    try simp only [Act.put, List.setIfInBounds_toArray, List.set_cons_zero, List.set_cons_succ]
    refine takeK (i := 8) (k := 71) (v := .int .i64 (oth : Int)) rfl rfl (by kernel_rfl) (by kernel_rfl) (by kernel_rfl) [8] rfl (by decide) (by kernel_rfl) (fun _ _ _ h => h) (by kernel_rfl) ?_ (by assumption) ?_
    · intro W hSw; first | (go_simp; done) | (go_simp; first | exact IntWalk.u64_in _ (by omega) | exact IntWalk.i64_in _ (by omega) | (rw [IntWalk.i64_in _ (by omega)]; omega) | skip)
    try simp only [Act.put, List.setIfInBounds_toArray, List.set_cons_zero, List.set_cons_succ]
    refine takeK (i := 9) (k := 72) (v := .int .u64 (oth : Int)) rfl rfl (by kernel_rfl) (by kernel_rfl) (by kernel_rfl) [9] rfl (by decide) (by kernel_rfl) (fun _ _ _ h => h) (by kernel_rfl) ?_ (by assumption) ?_
    · intro W hSw; first | (go_simp; done) | (go_simp; first | exact IntWalk.u64_in _ (by omega) | exact IntWalk.i64_in _ (by omega) | (rw [IntWalk.i64_in _ (by omega)]; omega) | skip)
    try simp only [Act.put, List.setIfInBounds_toArray, List.set_cons_zero, List.set_cons_succ]
    clear hHeld c0 c1 c2 c3 cf
    refine oneK (i := 10) (by kernel_rfl) rfl (fun K hK => ?_)
    go_simp
    refine (HP2.out _).mono ?_
    rintro e q1 ⟨x1, rfl, ox, bx⟩
    have LQ1 := Lib.hid ((L1.out.drew).below bx)
    have HX1 := Lib.hid ox.rd
    have HS1 : Hid (q1.heap[b]? = w1.heap[b]?) := Lib.hid (bx.block b L1.out.lt)
    clear ox bx HP2
    refine hK.out _ _ (fun _ => HS1.out) (fun _ => ?_)
    clear hK K
    try simp only [Act.put, List.setIfInBounds_toArray, List.set_cons_zero, List.set_cons_succ]
    obtain ⟨v1, r1, hrun, o1, g1, n1⟩ := run_appGB (ty := 25) LQ1.out.rows HX1.out (by (try simp only [List.length_append]); have := HLE.out; omega)
    have HSR1 : Hid (r1.heap[b]? = w1.heap[b]?) := Lib.hid ((g1.block b LQ1.out.lt (fun e => LQ1.out.rne b e.symm rfl)).trans HS1.out)
    have L2 := Lib.hid (LQ1.out.putRows o1 g1 n1)
    obtain ⟨A2, N2, K2, rfl, hm1, -⟩ := o1.form
    clear o1 g1 n1 LQ1 HX1 HS1 hm1
    refine oneK (i := 11) (by kernel_rfl) rfl (fun K hK => ?_)
    refine step_appD 74 rfl (by kernel_rfl) (.tmp 67) (.tmp 73) 25 rfl rfl rfl hrun ?_
    refine hK.out _ _ (fun _ => HSR1.out) (fun _ => ?_)
    clear hK K hrun
    try simp only [Act.put, List.setIfInBounds_toArray, List.set_cons_zero, List.set_cons_succ]
    refine oneK (i := 12) (by kernel_rfl) rfl (fun K hK => ?_)
    go_simp
    refine hK.out _ _ (fun _ => HSR1.out) (fun _ => ?_)
    clear hK K
    try simp only [Act.put, List.setIfInBounds_toArray, List.set_cons_zero, List.set_cons_succ]
    refine oneK (i := 13) (by kernel_rfl) rfl (fun K hK => ?_)
    go_simp
    refine hK.out _ _ (fun _ => HSR1.out) (fun _ => ?_)
    clear hK K
    try simp only [Act.put, List.setIfInBounds_toArray, List.set_cons_zero, List.set_cons_succ]
    have hb1 : BlkAt r1 b #[.slice A1 N1 K1, vp, .int .i64 (rs.length : Int), .string l] 106 := HSR1.out.trans L1.out.blk
    have e0 := hb1.at 0
    have f0 := hb1.free 0
    clear hb1
    refine oneK (i := 14) (by kernel_rfl) rfl (fun K hK => ?_)
    go_simp
    refine hK.out _ _ (fun h => by have h' : true = false := h; cases h') (fun _ => ?_)
    clear hK K
    try simp only [Act.put, List.setIfInBounds_toArray, List.set_cons_zero, List.set_cons_succ]
    refine doneK (by kernel_rfl) ?_ _
    clear e0 f0 L1 HSR1 hS1
    generalize r1.setCell ⟨b, 0, none⟩ (.slice A2 N2 K2) = w2 at *
    go_wp2_with fail
    have hS2 : w2.drew.heap[b]? = w2.heap[b]? := rfl
    obtain ⟨⟨c0, c1, c2, c3⟩, cf⟩ := L2.out.cells
    refine beginK (fun W => W.heap[b]? = w2.heap[b]?) 12 (by kernel_rfl) hS2 (fun hHeld => ?_)
    refine takeK (i := 0) (k := 77) (v := .pointer (some ⟨b, 0, none⟩)) rfl rfl (by kernel_rfl) (by kernel_rfl) (by kernel_rfl) [0] rfl (by decide) (by kernel_rfl) (fun _ _ _ h => h) (by kernel_rfl) ?_ (by assumption) ?_
    · intro W hSw; first | (go_simp; done) | (go_simp; first | exact IntWalk.u64_in _ (by omega) | exact IntWalk.i64_in _ (by omega) | (rw [IntWalk.i64_in _ (by omega)]; omega) | skip)
    try simp only [Act.put, List.setIfInBounds_toArray, List.set_cons_zero, List.set_cons_succ]
    refine takeK (i := 1) (k := 78) (v := .pointer (some ⟨b, 0, none⟩)) rfl rfl (by kernel_rfl) (by kernel_rfl) (by kernel_rfl) [1] rfl (by decide) (by kernel_rfl) (fun _ _ _ h => h) (by kernel_rfl) ?_ (by assumption) ?_
    · intro W hSw; first | (go_simp; done) | (go_simp; first | exact IntWalk.u64_in _ (by omega) | exact IntWalk.i64_in _ (by omega) | (rw [IntWalk.i64_in _ (by omega)]; omega) | skip)
    try simp only [Act.put, List.setIfInBounds_toArray, List.set_cons_zero, List.set_cons_succ]
    refine takeK (i := 2) (k := 79) (v := .pointer (some ⟨b, 0, none⟩)) rfl rfl (by kernel_rfl) (by kernel_rfl) (by kernel_rfl) [2] rfl (by decide) (by kernel_rfl) (fun _ _ _ h => h) (by kernel_rfl) ?_ (by assumption) ?_
    · intro W hSw; first | (go_simp; done) | (go_simp; first | exact IntWalk.u64_in _ (by omega) | exact IntWalk.i64_in _ (by omega) | (rw [IntWalk.i64_in _ (by omega)]; omega) | skip)
    try simp only [Act.put, List.setIfInBounds_toArray, List.set_cons_zero, List.set_cons_succ]
    refine takeK (i := 3) (k := 80) (v := .pointer (some ⟨b, 0, none⟩)) rfl rfl (by kernel_rfl) (by kernel_rfl) (by kernel_rfl) [3] rfl (by decide) (by kernel_rfl) (fun _ _ _ h => h) (by kernel_rfl) ?_ (by assumption) ?_
    · intro W hSw; first | (go_simp; done) | (go_simp; first | exact IntWalk.u64_in _ (by omega) | exact IntWalk.i64_in _ (by omega) | (rw [IntWalk.i64_in _ (by omega)]; omega) | skip)
    try simp only [Act.put, List.setIfInBounds_toArray, List.set_cons_zero, List.set_cons_succ]
    refine takeK (i := 4) (k := 81) (v := .slice A2 N2 K2) rfl rfl (by kernel_rfl) (by kernel_rfl) (by kernel_rfl) [4] rfl (by decide) (by kernel_rfl) (fun _ _ _ h => h) (by kernel_rfl) ?_ (by assumption) ?_
    · intro W hSw; have d0 := (World.cell?_of_block (a := ⟨b, 0, none⟩) hSw).trans c0; first | (go_simp; done) | (go_simp; first | exact IntWalk.u64_in _ (by omega) | exact IntWalk.i64_in _ (by omega) | (rw [IntWalk.i64_in _ (by omega)]; omega) | skip)
    try simp only [Act.put, List.setIfInBounds_toArray, List.set_cons_zero, List.set_cons_succ]
    refine takeK (i := 5) (k := 82) (v := .string val) rfl rfl (by kernel_rfl) (by kernel_rfl) (by kernel_rfl) [5] rfl (by decide) (by kernel_rfl) (fun _ _ _ h => h) (by kernel_rfl) ?_ (by assumption) ?_
    · intro W hSw; first | (go_simp; done) | (go_simp; first | exact IntWalk.u64_in _ (by omega) | exact IntWalk.i64_in _ (by omega) | (rw [IntWalk.i64_in _ (by omega)]; omega) | skip)
    try simp only [Act.put, List.setIfInBounds_toArray, List.set_cons_zero, List.set_cons_succ]
    refine takeK (i := 6) (k := 83) (v := .int .i64 (val.size : Int)) rfl rfl (by kernel_rfl) (by kernel_rfl) (by kernel_rfl) [6] rfl (by decide) (by kernel_rfl) (fun _ _ _ h => h) (by kernel_rfl) ?_ (by assumption) ?_
    · intro W hSw; first | (go_simp; done) | (go_simp; first | exact IntWalk.u64_in _ (by omega) | exact IntWalk.i64_in _ (by omega) | (rw [IntWalk.i64_in _ (by omega)]; omega) | skip)
    try simp only [Act.put, List.setIfInBounds_toArray, List.set_cons_zero, List.set_cons_succ]
    refine takeK (i := 7) (k := 84) (v := .int .u64 (val.size : Int)) rfl rfl (by kernel_rfl) (by kernel_rfl) (by kernel_rfl) [7] rfl (by decide) (by kernel_rfl) (fun _ _ _ h => h) (by kernel_rfl) ?_ (by assumption) ?_
    · intro W hSw; first | (go_simp; done) | (go_simp; first | exact IntWalk.u64_in _ (by omega) | exact IntWalk.i64_in _ (by omega) | (rw [IntWalk.i64_in _ (by omega)]; omega) | skip)
    try simp only [Act.put, List.setIfInBounds_toArray, List.set_cons_zero, List.set_cons_succ]
    clear hHeld c0 c1 c2 c3 cf
    refine oneK (i := 8) (by kernel_rfl) rfl (fun K hK => ?_)
    go_simp
    refine (HP3.out _).mono ?_
    rintro e q2 ⟨x2, rfl, ox, bx⟩
    have LQ2 := Lib.hid ((L2.out.drew).below bx)
    have HX2 := Lib.hid ox.rd
    have HS2 : Hid (q2.heap[b]? = w2.heap[b]?) := Lib.hid (bx.block b L2.out.lt)
    clear ox bx HP3
    refine hK.out _ _ (fun _ => HS2.out) (fun _ => ?_)
    clear hK K
    try simp only [Act.put, List.setIfInBounds_toArray, List.set_cons_zero, List.set_cons_succ]
    obtain ⟨v2, r2, hrun, o2, g2, n2⟩ := run_appGB (ty := 25) LQ2.out.rows HX2.out (by (try simp only [List.length_append]); have := HLE.out; omega)
    have HSR2 : Hid (r2.heap[b]? = w2.heap[b]?) := Lib.hid ((g2.block b LQ2.out.lt (fun e => LQ2.out.rne b e.symm rfl)).trans HS2.out)
    have L3 := Lib.hid (LQ2.out.putRows o2 g2 n2)
    obtain ⟨A3, N3, K3, rfl, hm2, -⟩ := o2.form
    clear o2 g2 n2 LQ2 HX2 HS2 hm2
    refine oneK (i := 9) (by kernel_rfl) rfl (fun K hK => ?_)
    refine step_appD 86 rfl (by kernel_rfl) (.tmp 81) (.tmp 85) 25 rfl rfl rfl hrun ?_
    refine hK.out _ _ (fun _ => HSR2.out) (fun _ => ?_)
    clear hK K hrun
    try simp only [Act.put, List.setIfInBounds_toArray, List.set_cons_zero, List.set_cons_succ]
    refine oneK (i := 10) (by kernel_rfl) rfl (fun K hK => ?_)
    go_simp
    refine hK.out _ _ (fun _ => HSR2.out) (fun _ => ?_)
    clear hK K
    try simp only [Act.put, List.setIfInBounds_toArray, List.set_cons_zero, List.set_cons_succ]
    refine oneK (i := 11) (by kernel_rfl) rfl (fun K hK => ?_)
    go_simp
    refine hK.out _ _ (fun _ => HSR2.out) (fun _ => ?_)
    clear hK K
    try simp only [Act.put, List.setIfInBounds_toArray, List.set_cons_zero, List.set_cons_succ]
    have hb2 : BlkAt r2 b #[.slice A2 N2 K2, vp, .int .i64 (rs.length : Int), .string l] 106 := HSR2.out.trans L2.out.blk
    have e0 := hb2.at 0
    have f0 := hb2.free 0
    clear hb2
    refine oneK (i := 12) (by kernel_rfl) rfl (fun K hK => ?_)
    go_simp
    refine hK.out _ _ (fun h => by have h' : true = false := h; cases h') (fun _ => ?_)
    clear hK K
    try simp only [Act.put, List.setIfInBounds_toArray, List.set_cons_zero, List.set_cons_succ]
    refine doneK (by kernel_rfl) ?_ _
    clear e0 f0 L2 HSR2 hS2
    generalize r2.setCell ⟨b, 0, none⟩ (.slice A3 N3 K3) = w3 at *
    go_wp2_with fail
    have hS3 : w3.drew.heap[b]? = w3.heap[b]? := rfl
    obtain ⟨⟨c0, c1, c2, c3⟩, cf⟩ := L3.out.cells
    refine beginK (fun W => W.heap[b]? = w3.heap[b]?) 11 (by kernel_rfl) hS3 (fun hHeld => ?_)
    refine takeK (i := 0) (k := 89) (v := .pointer (some ⟨b, 0, none⟩)) rfl rfl (by kernel_rfl) (by kernel_rfl) (by kernel_rfl) [0] rfl (by decide) (by kernel_rfl) (fun _ _ _ h => h) (by kernel_rfl) ?_ (by assumption) ?_
    · intro W hSw; first | (go_simp; done) | (go_simp; first | exact IntWalk.u64_in _ (by omega) | exact IntWalk.i64_in _ (by omega) | (rw [IntWalk.i64_in _ (by omega)]; omega) | skip)
    try simp only [Act.put, List.setIfInBounds_toArray, List.set_cons_zero, List.set_cons_succ]
    refine takeK (i := 1) (k := 90) (v := .pointer (some ⟨b, 0, none⟩)) rfl rfl (by kernel_rfl) (by kernel_rfl) (by kernel_rfl) [1] rfl (by decide) (by kernel_rfl) (fun _ _ _ h => h) (by kernel_rfl) ?_ (by assumption) ?_
    · intro W hSw; first | (go_simp; done) | (go_simp; first | exact IntWalk.u64_in _ (by omega) | exact IntWalk.i64_in _ (by omega) | (rw [IntWalk.i64_in _ (by omega)]; omega) | skip)
    try simp only [Act.put, List.setIfInBounds_toArray, List.set_cons_zero, List.set_cons_succ]
    refine takeK (i := 2) (k := 91) (v := .pointer (some ⟨b, 0, none⟩)) rfl rfl (by kernel_rfl) (by kernel_rfl) (by kernel_rfl) [2] rfl (by decide) (by kernel_rfl) (fun _ _ _ h => h) (by kernel_rfl) ?_ (by assumption) ?_
    · intro W hSw; first | (go_simp; done) | (go_simp; first | exact IntWalk.u64_in _ (by omega) | exact IntWalk.i64_in _ (by omega) | (rw [IntWalk.i64_in _ (by omega)]; omega) | skip)
    try simp only [Act.put, List.setIfInBounds_toArray, List.set_cons_zero, List.set_cons_succ]
    refine takeK (i := 3) (k := 92) (v := .pointer (some ⟨b, 0, none⟩)) rfl rfl (by kernel_rfl) (by kernel_rfl) (by kernel_rfl) [3] rfl (by decide) (by kernel_rfl) (fun _ _ _ h => h) (by kernel_rfl) ?_ (by assumption) ?_
    · intro W hSw; first | (go_simp; done) | (go_simp; first | exact IntWalk.u64_in _ (by omega) | exact IntWalk.i64_in _ (by omega) | (rw [IntWalk.i64_in _ (by omega)]; omega) | skip)
    try simp only [Act.put, List.setIfInBounds_toArray, List.set_cons_zero, List.set_cons_succ]
    refine takeK (i := 4) (k := 93) (v := .slice A3 N3 K3) rfl rfl (by kernel_rfl) (by kernel_rfl) (by kernel_rfl) [4] rfl (by decide) (by kernel_rfl) (fun _ _ _ h => h) (by kernel_rfl) ?_ (by assumption) ?_
    · intro W hSw; have d0 := (World.cell?_of_block (a := ⟨b, 0, none⟩) hSw).trans c0; first | (go_simp; done) | (go_simp; first | exact IntWalk.u64_in _ (by omega) | exact IntWalk.i64_in _ (by omega) | (rw [IntWalk.i64_in _ (by omega)]; omega) | skip)
    try simp only [Act.put, List.setIfInBounds_toArray, List.set_cons_zero, List.set_cons_succ]
    refine takeK (i := 5) (k := 94) (v := .string key) rfl rfl (by kernel_rfl) (by kernel_rfl) (by kernel_rfl) [5] rfl (by decide) (by kernel_rfl) (fun _ _ _ h => h) (by kernel_rfl) ?_ (by assumption) ?_
    · intro W hSw; first | (go_simp; done) | (go_simp; first | exact IntWalk.u64_in _ (by omega) | exact IntWalk.i64_in _ (by omega) | (rw [IntWalk.i64_in _ (by omega)]; omega) | skip)
    try simp only [Act.put, List.setIfInBounds_toArray, List.set_cons_zero, List.set_cons_succ]
    refine takeK (i := 6) (k := 95) (v := .int .i64 (s : Int)) rfl rfl (by kernel_rfl) (by kernel_rfl) (by kernel_rfl) [6] rfl (by decide) (by kernel_rfl) (fun _ _ _ h => h) (by kernel_rfl) ?_ (by assumption) ?_
    · intro W hSw; first | (go_simp; done) | (go_simp; first | exact IntWalk.u64_in _ (by omega) | exact IntWalk.i64_in _ (by omega) | (rw [IntWalk.i64_in _ (by omega)]; omega) | skip)
    try simp only [Act.put, List.setIfInBounds_toArray, List.set_cons_zero, List.set_cons_succ]
    refine takeK (i := 7) (k := 96) (v := .string KD) rfl rfl (by kernel_rfl) (by kernel_rfl) (by kernel_rfl) [7] rfl (by decide) (by kernel_rfl) (fun _ _ _ h => h) (by kernel_rfl) ?_ (by assumption) ?_
    · intro W hSw; first | (go_simp; done) | (go_simp; first | done | rw [hKD])
    try simp only [Act.put, List.setIfInBounds_toArray, List.set_cons_zero, List.set_cons_succ]
    clear hHeld c0 c1 c2 c3 cf
    obtain ⟨v3, r3, hrun, o3, g3, n3⟩ := run_appTG (ty := 25) (w := w3.drew) L3.out.rows KD (by (try simp only [List.length_append]); have := HLE.out; omega)
    have HSR3 : Hid (r3.heap[b]? = w3.heap[b]?) := Lib.hid (g3.block b L3.out.lt (fun e => L3.out.rne b e.symm rfl))
    have L4 := Lib.hid (L3.out.drew.putRows o3 g3 n3)
    obtain ⟨A4, N4, K4, rfl, hm3, -⟩ := o3.form
    clear o3 g3 n3 hm3
    refine oneK (i := 8) (by kernel_rfl) rfl (fun K hK => ?_)
    refine step_appT 97 rfl (by kernel_rfl) (.tmp 93) (.tmp 96) 25 9 rfl rfl rfl hrun ?_
    refine hK.out _ _ (fun _ => HSR3.out) (fun _ => ?_)
    clear hK K hrun
    try simp only [Act.put, List.setIfInBounds_toArray, List.set_cons_zero, List.set_cons_succ]
    refine oneK (i := 9) (by kernel_rfl) rfl (fun K hK => ?_)
    go_simp
    refine hK.out _ _ (fun _ => HSR3.out) (fun _ => ?_)
    clear hK K
    try simp only [Act.put, List.setIfInBounds_toArray, List.set_cons_zero, List.set_cons_succ]
    refine oneK (i := 10) (by kernel_rfl) rfl (fun K hK => ?_)
    go_simp
    refine hK.out _ _ (fun _ => HSR3.out) (fun _ => ?_)
    clear hK K
    try simp only [Act.put, List.setIfInBounds_toArray, List.set_cons_zero, List.set_cons_succ]
    have hb3 : BlkAt r3 b #[.slice A3 N3 K3, vp, .int .i64 (rs.length : Int), .string l] 106 := HSR3.out.trans L3.out.blk
    have e0 := hb3.at 0
    have f0 := hb3.free 0
    clear hb3
    refine oneK (i := 11) (by kernel_rfl) rfl (fun K hK => ?_)
    go_simp
    refine hK.out _ _ (fun h => by have h' : true = false := h; cases h') (fun _ => ?_)
    clear hK K
    try simp only [Act.put, List.setIfInBounds_toArray, List.set_cons_zero, List.set_cons_succ]
    refine doneK (by kernel_rfl) ?_ _
    clear e0 f0 L3 HSR3 hS3
    generalize r3.setCell ⟨b, 0, none⟩ (.slice A4 N4 K4) = w4 at *
    obtain ⟨⟨c0, c1, c2, c3⟩, cf⟩ := L4.out.cells
    go_wp2_with (at_builtin; refine wp_appTG _ _ (by rfl) (by rfl) (by rfl) L4.out.rows val (by rfl) ?c1 ?_)
    case c1 => (try simp only [List.length_append]); have := HLE.out; have := size_toList KD; omega
    intro v5 w5 o5' g5 n5
    have o5 : OwnB 0 w5 v5 (R ++ putN s ++ putN oth ++ putN val.size ++ KD.data.toList ++ val.data.toList) := by simpa only [List.append_assoc] using o5'
    clear o5'
    have hb5 : BlkAt w5 b #[.slice A4 N4 K4, vp, .int .i64 (rs.length : Int), .string l] 106 := (g5.block b L4.out.lt (fun e => L4.out.rne b e.symm rfl)).trans L4.out.blk
    have L5 := Lib.hid (L4.out.putRows o5 g5 n5)
    obtain ⟨A5, N5, K5, rfl, -⟩ := o5.form
    clear o5 g5 n5 c0 c1 c2 c3 cf L4
    have e0 := hb5.at 0
    have e2 := hb5.at 2
    have e3 := hb5.at 3
    have ef := hb5.free
    have e0' : w5.cell? ⟨b, 0, none⟩ = some (.slice A4 N4 K4) := e0
    have e2' : w5.cell? ⟨b, 2, none⟩ = some (.int .i64 (rs.length : Int)) := e2
    have f0 := ef 0
    have f2 := ef 2
    clear e0 e2 e3 ef hb5
    go_wp2_with fail
    have L6 := Lib.hid (L5.out.setAt 2 (.int .i64 ((rs.length : Int) + 1)) (rs.length + 1) l rfl)
    clear e0' e2' f0 f2 L5
    generalize (w5.setCell ⟨b, 0, none⟩ (.slice A5 N5 K5)).setCell ⟨b, 2, none⟩ (.int .i64 ((rs.length : Int) + 1)) = w6 at *
    refine (HCL.out _).mono ?_
    rintro e w7 ⟨rfl, b7⟩
    have L7 := Lib.hid (L6.out.below b7)
    clear b7 L6 HCL
    obtain ⟨⟨c0, c1, c2, c3⟩, cf⟩ := L7.out.cells
    have f3 := cf 3
    go_wp2_with fail
    go_ret
    refine ⟨rfl, (L7.out.setAt 3 (.string key) (rs.length + 1) key rfl).to (rise_snoc HRI.out HA.out) (by rw [List.length_append, List.length_singleton]) ?_ HRR.out.symm HPL.out⟩
    rw [lastK_snoc]
  · have HA := Lib.hid hA
    have hA1 : decide (rs.length = 0 ∨ bl l key) = false := decide_eq_false (by unfold bl; rw [hld]; exact hA)
    have HI : Hid (∀ w, Calls Tryd.prog 73 #[.int .i64 (rs.length : Int), .string l, .string key] w fun e w' => e = .returned (.bool false) ∧ w' = w) := Lib.hid (by rw [← hA1]; exact isNext_any rs.length (by omega) l key)
    rw [hnp.symm] at L0
    clear hL hri hld hl hll hbl hls hsz hA1 hnp hN0 hA
    rw [decide_eq_false HA.out]
    unfold addK
    rw [if_neg (show ¬ addOk rs (⟨key.data.toList, val.data.toList⟩ : Kv).k from HA.out)]
    obtain ⟨⟨c0, c1, c2, c3⟩, cf⟩ := L0.out.cells
    go_enter Tryd.func53, Tryd.ntmps53
    go_wp2_with fail
    go_quiet ((go_at_call 73; exact Calls.quiet_of_same (HI.out _)))
    have L1 : Hid (BdL F w (w.drewN nq) b (.slice A0 N0 K0) (.slice ap (bkEnds rs).length kp) rs.length l (bodyB 0 [] rs) (bkEnds rs)) := Lib.hid (L0.out.below (DrN.below ⟨nq, rfl⟩ _))
    clear c0 c1 c2 c3 cf L0 HI
    generalize w.drewN nq = w1 at *
    go_wp2_with fail
    go_ret
    exact ⟨rfl, L1.out.to HRI.out rfl HLL.out.symm rfl rfl⟩
end Go.Proofs.YtennpdhnjaemeaaDoor
/- Slices of slices of bytes that read as these. -/
namespace Go.Proofs.YtennpdhnjaemeaaDoor
set_option linter.unusedVariables false
open Go.RowKit
/-- v is a row of slices that read as these. -/
def RdRecs (w : World) (v : Value) (bss : List (List UInt8)) : Prop :=
  ∃ vs : List Value, RdV w v vs ∧ vs.length = bss.length ∧ ∀ (i : Nat) (u : Value) (bs : List UInt8), vs[i]? = some u → bss[i]? = some bs → RdB w u bs
theorem RdRecs.below {w w' : World} {v : Value} {bss : List (List UInt8)} (h : RdRecs w v bss) (hb : Below w.heap.size w w') : RdRecs w' v bss := by
  obtain ⟨vs, h1, h2, h3⟩ := h
  exact ⟨vs, h1.below hb, h2, fun i u bs hu hb' => (h3 i u bs hu hb').below hb⟩
theorem RdRecs.len {w : World} {a : Option Addr} {n cap : Nat} {bss : List (List UInt8)} (h : RdRecs w (.slice a n cap) bss) : n = bss.length := by
  obtain ⟨vs, h1, h2, -⟩ := h
  rw [← h2]; exact (rdV_len h1).1
theorem RdRecs.form {w : World} {v : Value} {bss : List (List UInt8)} (h : RdRecs w v bss) : ∃ a cap, v = .slice a bss.length cap := by
  obtain ⟨vs, h1, h2, -⟩ := h
  rcases h1 with ⟨a, cap, rfl, e⟩ | ⟨b, off, cap, rfl, -⟩
  · exact ⟨a, cap, by rw [← h2, e]; rfl⟩
  · exact ⟨_, cap, by rw [← h2]⟩
/-- the first j of them, as 's[:j]' tells them. -/
theorem RdRecs.take {w : World} {a : Option Addr} {n cap : Nat} {bss : List (List UInt8)} (h : RdRecs w (.slice a n cap) bss) (j : Nat) (hj : j ≤ n) : RdRecs w (.slice a j cap) (bss.take j) := by
  have hn := h.len
  obtain ⟨vs, h1, h2, h3⟩ := h
  refine ⟨vs.take j, ?_, by rw [List.length_take, List.length_take, h2], fun i u bs hu hb => ?_⟩
  · rcases Nat.eq_zero_or_pos j with h0 | h0
    · subst h0; exact .inl ⟨a, cap, rfl, by simp⟩
    · rcases id h1 with ⟨_, _, e, e2⟩ | ⟨b, off, c, e, _⟩
      · simp only [Value.slice.injEq] at e; omega
      · simp only [Value.slice.injEq] at e
        obtain ⟨rfl, -, rfl⟩ := e
        exact rdV_take h1 j hj
  · rw [List.getElem?_take] at hu hb
    split at hu
    · rename_i hij
      rw [if_pos hij] at hb
      exact h3 i u bs hu hb
    · cases hu
/-- One of them. -/
theorem RdRecs.at {w : World} {a : Option Addr} {n cap : Nat} {bss : List (List UInt8)} (h : RdRecs w (.slice a n cap) bss) (i : Nat) (bs : List UInt8) (hi : bss[i]? = some bs) :
    ∃ g off u, a = some ⟨g, off, none⟩ ∧ g < w.heap.size ∧ w.cell? ⟨g, off + i, none⟩ = some u ∧ RdB w u bs := by
  obtain ⟨vs, h1, h2, h3⟩ := h
  have hlt : i < vs.length := by rw [h2]; exact (List.getElem?_eq_some_iff.1 hi).1
  have hu : vs[i]? = some vs[i] := List.getElem?_eq_getElem hlt
  obtain ⟨g, off, rfl, hg, hc⟩ := rdV_cells h1 (by omega)
  refine ⟨g, off, vs[i], rfl, hg, ?_, h3 i _ _ hu hi⟩
  rw [hc i hlt, List.getD_eq_getElem?_getD, hu]; rfl
end Go.Proofs.YtennpdhnjaemeaaDoor
/- The walks of New, Size, Bytes; of the library's Grow and Concat. -/
namespace Go.Proofs.YtennpdhnjaemeaaDoor
set_option linter.unusedVariables false
set_option maxRecDepth 100000
open Go.RowKit
/-- No bytes, with room. -/
theorem OwnB.none' {B : Nat} {w : World} {a : Option Addr} {n cap : Nat} {bs : List UInt8} (h : OwnB B w (.slice a n cap) bs) (hn : 0 < n) : OwnB B w (.slice a 0 cap) [] := by
  obtain ⟨h1, h2⟩ := h
  refine ⟨rfl, ?_⟩
  rcases h2 with ⟨e, e2⟩ | ⟨g, c, cur, e1, e2, e3, e4, e5, e6, e7⟩
  · simp only [Value.slice.injEq] at e; omega
  · simp only [Value.slice.injEq] at e1
    obtain ⟨rfl, rfl, rfl⟩ := e1
    exact .inr ⟨g, cap, cur, rfl, e2, e3, Nat.zero_le _, e5, e6, by simp⟩
set_option maxHeartbeats 2000000 in
theorem grow_any (n : Nat) (hn : n ≤ 1000000000000) (w : World) : Calls Tryd.prog 78 #[.slice none 0 0, .int .i64 (n : Int)] w (MkB [] w) := by
  rcases Nat.eq_zero_or_pos n with h0 | h0
  · subst h0
    go_enter Tryd.func78, Tryd.ntmps78
    go_wp2_with fail
    go_ret
    exact ⟨_, rfl, OwnB.nil _ _, Below.refl _ _⟩
  · have hz1 : (0 : Int) < (n : Int) := by omega
    have hz2 : ¬ (n : Int) < 0 := by omega
    obtain ⟨v1, w1, hr, o1, b1⟩ := app_zeros (ty := 25) w n h0 hn
    obtain ⟨a1, n1, c1, rfl, hn1, hc1, -⟩ := o1.form
    rw [List.length_replicate] at hn1
    subst hn1
    have hsl := fun W => sl_hB W a1 n1 c1 0 (Nat.zero_le _)
    have hsl2 : ∀ W, (Instr.sliceAt 25 (.slice a1 n1 c1) none (some (.int .i64 0)) none).run Tryd.prog W = .ok (.slice a1 0 c1) W := hsl
    have HO := Lib.hid (o1.none' h0)
    clear hsl o1
    have HRN := Lib.hid hr
    clear hr
    go_enter Tryd.func78, Tryd.ntmps78
    go_wp2_with (at_builtin; refine wp_appZ _ _ (by rfl) (by rfl) (by rfl) (by rfl) HRN.out ?_)
    go_ret
    exact ⟨_, rfl, HO.out, b1⟩
theorem sum_take (l : List (List UInt8)) (i : Nat) (x : List UInt8) (h : l[i]? = some x) : ((l.take (i + 1)).flatMap id).length = ((l.take i).flatMap id).length + x.length ∧ (l.take (i + 1)).flatMap id = (l.take i).flatMap id ++ x := by
  rw [List.take_add_one, h, List.flatMap_append]
  simp
theorem bkSum_le (l : List (List UInt8)) (i : Nat) : ((l.take i).flatMap id).length ≤ (l.flatMap id).length := by
  have e : (l.take i).flatMap id ++ (l.drop i).flatMap id = l.flatMap id := by rw [← List.flatMap_append, List.take_append_drop]
  rw [← e, List.length_append]; omega
set_option maxHeartbeats 4000000 in
theorem concat_any (v : Value) (bss : List (List UInt8)) (hb : (bss.flatMap id).length ≤ 1000000000000 ∧ bss.length ≤ 1000000000000) (w : World) (h : RdRecs w v bss) : Calls Tryd.prog 55 #[v] w (MkB (bss.flatMap id) w) := by
  obtain ⟨a, cap, rfl⟩ := h.form
  obtain ⟨R, hR⟩ : ∃ R, bss.flatMap id = R := ⟨_, rfl⟩
  have HR := Lib.hid hR
  have HRD := Lib.hid h
  obtain ⟨N, hN⟩ : ∃ N, bss.length = N := ⟨_, rfl⟩
  obtain ⟨S, hS⟩ : ∃ S, R.length = S := ⟨_, rfl⟩
  have HS := Lib.hid hS
  obtain ⟨hb1, hb2⟩ := hb
  rw [hR, hS] at hb1
  rw [hN] at hb2 HRD
  rw [hR, hN]
  have HN := Lib.hid hN.symm
  have HSL : Hid (∀ i, ((bss.take i).flatMap id).length ≤ S) := Lib.hid fun i => by rw [← hS, ← hR]; exact bkSum_le bss i
  clear hR h hN hS
  have HG : Hid (∀ w, Calls Tryd.prog 78 #[.slice none 0 0, .int .i64 (S : Int)] w (MkB [] w)) := Lib.hid (grow_any S hb1)
  go_enter Tryd.func55, Tryd.ntmps55
  go_wp2_with fail
  go_loopg [3, 11] N (fun kk vs vi wr => ∃ (i s : Nat), vi = .int .i64 (i : Int) ∧ vs = .int .i64 (s : Int) ∧ i ≤ N ∧ N - i ≤ kk ∧ s ≤ S ∧ w = wr ∧ Hid (s = ((bss.take i).flatMap id).length))
  case atStart => exact ⟨0, 0, rfl, rfl, by omega, by omega, by omega, rfl, Lib.hid rfl⟩
  case round =>
    obtain ⟨i, s, rfl, rfl, hi, hik, hs, rfl, HSS⟩ := hrel
    by_cases h1 : i < N
    · have hi1 : (i : Int) < (N : Int) := by omega
      have hi0 : (0 : Int) ≤ (i : Int) := by omega
      have hlx : i < bss.length := by have := HN.out; omega
      obtain ⟨x, hx⟩ : ∃ x, bss[i]? = some x := ⟨bss[i], List.getElem?_eq_getElem hlx⟩
      obtain ⟨g, off, u, rfl, hg, hc, hu⟩ := HRD.out.at i x hx
      obtain ⟨au, nu, cu, rfl, hnu, -⟩ := hu.form
      have hsn : s + nu ≤ S := by
        have := HSL.out (i + 1)
        rw [(sum_take bss i x hx).1, ← HSS.out] at this
        omega
      have HS2 : Hid (s + nu = ((bss.take (i + 1)).flatMap id).length) := Lib.hid (by rw [(sum_take bss i x hx).1, ← HSS.out, hnu])
      clear hx hu hnu HSS hlx
      have hneg : ¬ (s : Int) + (nu : Int) < 0 := by omega
      go_wp2_with fail
      go_roundg (N - (i + 1))
      case measure => omega
      case rel => exact ⟨i + 1, s + nu, by go_num, by go_num, by omega, Nat.le_refl _, hsn, rfl, HS2⟩
    · obtain rfl : i = N := by omega
      obtain rfl : s = S := by
        rw [HSS.out, List.take_of_length_le (by have := HN.out; omega), HR.out, HS.out]
      have hi1 : ¬ (i : Int) < (i : Int) := by omega
      clear HSS
      go_wp2_with fail
      refine (HG.out _).mono ?_
      rintro e w1 ⟨v1, rfl, o1, b1⟩
      have HO1 := Lib.hid o1
      have HB1 := Lib.hid b1
      obtain ⟨a1, n1, c1, rfl, -⟩ := o1.form
      clear o1 b1 HG
      go_wp2_with fail
      go_loopg [6, 27] i (fun kk vs vj wr => ∃ (j : Nat) (L : List UInt8) (a2 : Option Addr) (n2 c2 : Nat), vj = .int .i64 (j : Int) ∧ vs = .slice a2 n2 c2 ∧ j ≤ i ∧ i - j ≤ kk ∧ Hid (L = (bss.take j).flatMap id) ∧ Hid (OwnB w.heap.size wr (.slice a2 n2 c2) L) ∧ Hid (Below w.heap.size w wr))
      case atStart => exact ⟨0, [], a1, n1, c1, rfl, rfl, by omega, by omega, Lib.hid rfl, HO1, HB1⟩
      case round =>
        clear HO1 HB1
        obtain ⟨j, L, a2, n2, c2, rfl, rfl, hj, hjk, HL, HO, HB⟩ := hrel
        by_cases h2 : j < i
        · have hj1 : (j : Int) < (i : Int) := by omega
          have hj0 : (0 : Int) ≤ (j : Int) := by omega
          have hlx : j < bss.length := by have := HN.out; omega
          obtain ⟨x, hx⟩ : ∃ x, bss[j]? = some x := ⟨bss[j], List.getElem?_eq_getElem hlx⟩
          obtain ⟨g, off, u, rfl, hg, hc, hu⟩ := (HRD.out.below HB.out).at j x hx
          obtain ⟨au, nu, cu, rfl, hnu, -⟩ := id hu.form
          have HU := Lib.hid hu
          have HT := Lib.hid (sum_take bss j x hx).2
          have HLL : Hid (L.length + x.length ≤ 1000000000000) := Lib.hid (by
            have := HSL.out (j + 1)
            rw [(sum_take bss j x hx).1, ← HL.out] at this
            omega)
          clear hx hu hnu hlx
          go_wp2_with (at_builtin; refine wp_appSB _ _ (by rfl) (by rfl) (by rfl) HO.out (by rfl) HU.out ?c1 HB.out.size ?_)
          case c1 => have := HLL.out; omega
          intro v3 w3 o3 b3
          have HB3 := Lib.hid (HB.out.trans b3)
          obtain ⟨a3, n3, c3, rfl, -⟩ := o3.form
          have HO3 := Lib.hid o3
          clear o3 b3 HU HO HB
          go_wp2_with fail
          go_roundg (i - (j + 1))
          case measure => omega
          case rel => exact ⟨j + 1, _, a3, n3, c3, by go_num, rfl, by omega, Nat.le_refl _, Lib.hid (by rw [HT.out, HL.out]), HO3, HB3⟩
        · obtain rfl : j = i := by omega
          have hj1 : ¬ (j : Int) < (j : Int) := by omega
          have HRL : Hid (R = L) := Lib.hid (by rw [← HR.out, HL.out, List.take_of_length_le (by have := HN.out; omega)])
          clear HL HR
          go_wp2_with fail
          go_ret
          exact ⟨_, rfl, by rw [HRL.out]; exact HO.out, HB.out⟩
/-- TwoB slices in a row that was just laid. -/
theorem rdRecs_two (w : World) (u v : Value) (x y : List UInt8) (hu : RdB w u x) (hv : RdB w v y) : RdRecs (w.alloc (.cells #[u, v] 25)) (.slice (some ⟨w.heap.size, 0, none⟩) 2 2) [x, y] := by
  have hal : Below w.heap.size w (w.alloc (.cells #[u, v] 25)) := (Below.refl _ w).alloc (Nat.le_refl _) _
  have hb := BlkAt.new w #[u, v] 25
  refine ⟨[u, v], .inr ⟨w.heap.size, 0, 2, rfl, by simp, by simp, by unfold maxLen; omega, hb.lt, fun i hi => ?_⟩, rfl, fun i z bs hz hbs => ?_⟩
  · rw [Nat.zero_add, hb.at i]
    match i, hi with
    | 0, _ => rfl
    | 1, _ => rfl
  · match i, hz, hbs with
    | 0, hz, hbs =>
      obtain rfl := Option.some.inj hz
      obtain rfl := Option.some.inj hbs
      exact hu.below hal
    | 1, hz, hbs =>
      obtain rfl := Option.some.inj hz
      obtain rfl := Option.some.inj hbs
      exact hv.below hal
theorem bkNew_any (w : World) : Calls Tryd.prog 50 #[] w fun e w' => e = .returned (.pointer (some ⟨w.heap.size, 0, none⟩)) ∧ BdAt w' w.heap.size (fun g => g = w.heap.size) [] ∧ Below w.heap.size w w' ∧ w.heap.size < w'.heap.size := by
  go_enter Tryd.func50, Tryd.ntmps50
  go_wp2_with fail
  go_ret
  refine ⟨rfl, ⟨List.Pairwise.nil, .slice none 0 0, .slice none 0 0, BlkAt.new _ _ _, OwnB.nil _ _, OwnK.nil _ _ _ _ _, (fun g h => by cases h), (fun g h => by cases h), .inl rfl, UpdF.refl _ _⟩, (Below.refl _ _).alloc (Nat.le_refl _) _, by simp⟩
set_option maxHeartbeats 2000000 in
theorem bkSize_any (b : Nat) (F : Nat → Prop) (rs : List Kv) (w : World) (h : BdAt w b F rs) (hsz : (bodyB 0 [] rs).length ≤ 1000000000) : Calls Tryd.prog 51 #[.pointer (some ⟨b, 0, none⟩)] w fun e w' => e = .returned (.int .i64 ((blockB rs).length : Int)) ∧ DrN w w' := by
  obtain ⟨-, vr, vp, hL⟩ := h
  obtain ⟨A0, N0, K0, rfl, hN0, -⟩ := hL.rows.form
  obtain ⟨ap, kp, rfl, -⟩ := hL.places.kform
  obtain ⟨⟨c0, c1, c2, c3⟩, cf⟩ := hL.cells
  obtain ⟨M, hM⟩ : ∃ M, (blockB rs).length = M := ⟨_, rfl⟩
  have hbl := body_len rs 0 []
  have he := bkEnds_len rs
  have hm := blockB_len rs
  generalize (bkEnds rs).length = np at *
  have HM : Hid ((N0 : Int) + ((np : Int) + 1) * 4 = (M : Int)) := Lib.hid (by omega)
  have hnb : N0 ≤ 1000000000 := by omega
  have hpb : np ≤ 1000000000 := by omega
  rw [hM]
  clear hL hN0 hM hbl he hm hsz
  go_enter Tryd.func51, Tryd.ntmps51
  go_wp2_with fail
  have w1 : IntKind.i64.wrap ((np : Int) + 1) = (np : Int) + 1 := IntWalk.i64_in _ (by omega)
  have w2 : IntKind.i64.wrap (((np : Int) + 1) * 4) = ((np : Int) + 1) * 4 := IntWalk.i64_in _ (by omega)
  have w3 : IntKind.i64.wrap ((N0 : Int) + ((np : Int) + 1) * 4) = (M : Int) := by rw [← HM.out]; exact IntWalk.i64_in _ (by omega)
  go_quiet (fail)
  generalize hw2 : w.drewN nq = w2
  have hd : DrN w w2 := ⟨nq, hw2.symm⟩
  go_wp2_with fail
  go_ret
  exact ⟨rfl, hd⟩
set_option maxHeartbeats 4000000 in
theorem bytes_any (b : Nat) (F : Nat → Prop) (rs : List Kv) (w : World) (h : BdAt w b F rs) (hsz : (bodyB 0 [] rs).length ≤ 1000000000) : Calls Tryd.prog 54 #[.pointer (some ⟨b, 0, none⟩)] w (MkB (blockB rs) w) := by
  obtain ⟨-, vr, vp, hL⟩ := h
  obtain ⟨A0, N0, K0, rfl, hN0, -⟩ := hL.rows.form
  obtain ⟨ap, kp, rfl, -⟩ := hL.places.kform
  obtain ⟨⟨c0, c1, -, -⟩, -⟩ := hL.cells
  have hlt := hL.lt
  have hbl := body_len rs 0 []
  have he := bkEnds_len rs
  have hcl : ([bodyB 0 [] rs, placesB (bkEnds rs)].flatMap id).length ≤ 1000000000000 ∧ [bodyB 0 [] rs, placesB (bkEnds rs)].length ≤ 1000000000000 := by
    have hm := blockB_len rs
    have e : [bodyB 0 [] rs, placesB (bkEnds rs)].flatMap id = blockB rs := by rw [blockB_is]; simp
    rw [e]
    exact ⟨by omega, by simp⟩
  have HFM : Hid ([bodyB 0 [] rs, placesB (bkEnds rs)].flatMap id = blockB rs) := Lib.hid (by rw [blockB_is]; simp)
  have HPP : Hid (Calls Tryd.prog 77 #[.slice ap (bkEnds rs).length kp] w.drew (MkB (placesB (bkEnds rs)) w.drew)) := Lib.hid (by
    refine putPlaces_any _ (bkEnds rs) (by omega) ?_ w.drew (OwnV.rd (w := w.drew) hL.places.places)
    intro x hx
    have := ends_bd rs x hx
    omega)
  have HRW := Lib.hid (hL.rows.base (B' := 0) (Nat.zero_le _))
  generalize (bkEnds rs).length = np at *
  clear hL hN0 hbl he hsz
  go_enter Tryd.func54, Tryd.ntmps54
  go_wp2_with fail
  have hS0 : w.drew.heap[b]? = w.heap[b]? := rfl
  refine wp_region_held_drew (S := fun W => W.heap[b]? = w.heap[b]?) (by kernel_rfl) hS0 (fun hHeld => ?_)
  refine takeYes (i := 0) (k := 5) (v := .pointer (some ⟨b, 0, none⟩)) rfl (by kernel_rfl) (by kernel_rfl) (by kernel_rfl) (by kernel_rfl) (fun _ _ _ h => h) (by kernel_rfl) ?_ (by assumption) ?_
  · intro W hSw; first | (go_simp; done) | go_simp
  try simp only [Act.put, List.setIfInBounds_toArray, List.set_cons_zero, List.set_cons_succ]
  refine takeYes (i := 1) (k := 6) (v := .pointer (some ⟨b, 0, none⟩)) rfl (by kernel_rfl) (by kernel_rfl) (by kernel_rfl) (by kernel_rfl) (fun _ _ _ h => h) (by kernel_rfl) ?_ (by assumption) ?_
  · intro W hSw; first | (go_simp; done) | go_simp
  try simp only [Act.put, List.setIfInBounds_toArray, List.set_cons_zero, List.set_cons_succ]
  refine takeYes (i := 2) (k := 7) (v := .pointer (some ⟨b, 0, none⟩)) rfl (by kernel_rfl) (by kernel_rfl) (by kernel_rfl) (by kernel_rfl) (fun _ _ _ h => h) (by kernel_rfl) ?_ (by assumption) ?_
  · intro W hSw; first | (go_simp; done) | go_simp
  try simp only [Act.put, List.setIfInBounds_toArray, List.set_cons_zero, List.set_cons_succ]
  refine takeYes (i := 3) (k := 8) (v := .slice A0 N0 K0) rfl (by kernel_rfl) (by kernel_rfl) (by kernel_rfl) (by kernel_rfl) (fun _ _ _ h => h) (by kernel_rfl) ?_ (by assumption) ?_
  · intro W hSw; have d0 := (World.cell?_of_block (a := ⟨b, 0, none⟩) hSw).trans c0; first | (go_simp; done) | go_simp
  try simp only [Act.put, List.setIfInBounds_toArray, List.set_cons_zero, List.set_cons_succ]
  refine takeYes (i := 4) (k := 9) (v := .pointer (some ⟨b, 0, none⟩)) rfl (by kernel_rfl) (by kernel_rfl) (by kernel_rfl) (by kernel_rfl) (fun _ _ _ h => h) (by kernel_rfl) ?_ (by assumption) ?_
  · intro W hSw; first | (go_simp; done) | go_simp
  try simp only [Act.put, List.setIfInBounds_toArray, List.set_cons_zero, List.set_cons_succ]
  refine takeYes (i := 5) (k := 10) (v := .pointer (some ⟨b, 0, none⟩)) rfl (by kernel_rfl) (by kernel_rfl) (by kernel_rfl) (by kernel_rfl) (fun _ _ _ h => h) (by kernel_rfl) ?_ (by assumption) ?_
  · intro W hSw; first | (go_simp; done) | go_simp
  try simp only [Act.put, List.setIfInBounds_toArray, List.set_cons_zero, List.set_cons_succ]
  refine takeYes (i := 6) (k := 11) (v := .pointer (some ⟨b, 1, none⟩)) rfl (by kernel_rfl) (by kernel_rfl) (by kernel_rfl) (by kernel_rfl) (fun _ _ _ h => h) (by kernel_rfl) ?_ (by assumption) ?_
  · intro W hSw; first | (go_simp; done) | go_simp
  try simp only [Act.put, List.setIfInBounds_toArray, List.set_cons_zero, List.set_cons_succ]
  refine takeYes (i := 7) (k := 12) (v := .slice ap np kp) rfl (by kernel_rfl) (by kernel_rfl) (by kernel_rfl) (by kernel_rfl) (fun _ _ _ h => h) (by kernel_rfl) ?_ (by assumption) ?_
  · intro W hSw; have d1 := (World.cell?_of_block (a := ⟨b, 1, none⟩) hSw).trans c1; first | (go_simp; done) | go_simp
  try simp only [Act.put, List.setIfInBounds_toArray, List.set_cons_zero, List.set_cons_succ]
  refine wpAnyH_ready (rs := [8]) (by kernel_rfl) (by simp) (AllReadyH.cons rfl (fun K hK => ?_) AllReadyH.nil)
  go_simp
  refine HPP.out.mono ?_
  rintro e w1 ⟨v1, rfl, o1, b1⟩
  obtain ⟨a1, n1, c1, rfl, -⟩ := id o1.form
  have hS1 : w1.heap[b]? = w.heap[b]? := b1.block b hlt
  refine hK.out _ _ hS1 (fun hHeld2 => ?_)
  clear hK K hHeld
  try simp only [Act.put, List.setIfInBounds_toArray, List.set_cons_zero, List.set_cons_succ]
  have HR1 := Lib.hid (OwnB.rd (OwnB.below (w := w.drew) HRW.out b1))
  have HV1 := Lib.hid o1.rd
  have HB1 := Lib.hid ((show Below w.heap.size w w1 from ((Below.refl _ w).drew).trans b1))
  have hlt1 : b < w1.heap.size := Nat.lt_of_lt_of_le hlt HB1.out.size
  clear o1 b1 HPP HRW
  refine wpAnyH_ready (rs := [9]) (by kernel_rfl) (by simp) (AllReadyH.cons rfl (fun K hK => ?_) AllReadyH.nil)
  go_simp
  have hal : Below w1.heap.size w1 (w1.alloc (.cells #[.slice A0 N0 K0, .slice a1 n1 c1] 25)) := (Below.refl _ w1).alloc (Nat.le_refl _) _
  have hS2 : (w1.alloc (.cells #[.slice A0 N0 K0, .slice a1 n1 c1] 25)).heap[b]? = w.heap[b]? := (hal.block b hlt1).trans hS1
  have HB2 := Lib.hid (HB1.out.trans (hal.mono HB1.out.size))
  have HRB : Hid (RdRecs (w1.alloc (.cells #[.slice A0 N0 K0, .slice a1 n1 c1] 25)) (.slice (some ⟨w1.heap.size, 0, none⟩) 2 2) [bodyB 0 [] rs, placesB (bkEnds rs)]) := Lib.hid (rdRecs_two w1 _ _ _ _ (HR1.out) (HV1.out))
  refine hK.out _ _ hS2 (fun hHeld3 => ?_)
  clear hK K hHeld2 hal HR1 HV1 HB1
  try simp only [Act.put, List.setIfInBounds_toArray, List.set_cons_zero, List.set_cons_succ]
  have hlt2 : b < (w1.alloc (.cells #[.slice A0 N0 K0, .slice a1 n1 c1] 25)).heap.size := by simp; omega
  generalize w1.alloc (.cells #[.slice A0 N0 K0, .slice a1 n1 c1] 25) = w2 at *
  generalize w1.heap.size = g1 at *
  have HCC := Lib.hid (concat_any _ _ hcl w2 HRB.out)
  refine wpAnyH_ready (rs := [10]) (by kernel_rfl) (by simp) (AllReadyH.cons rfl (fun K hK => ?_) AllReadyH.nil)
  go_simp
  refine HCC.out.mono ?_
  rintro e w3 ⟨v3, rfl, o3, b3⟩
  have hS3 : w3.heap[b]? = w.heap[b]? := (b3.block b hlt2).trans hS2
  refine hK.out _ _ hS3 (fun hHeld4 => ?_)
  clear hK K hHeld3
  try simp only [Act.put, List.setIfInBounds_toArray, List.set_cons_zero, List.set_cons_succ]
  refine takeYes (i := 11) (k := 2) (v := v3) rfl (by kernel_rfl) (by kernel_rfl) (by kernel_rfl) (by kernel_rfl) (fun _ _ _ h => h) (by kernel_rfl) ?_ (by assumption) ?_
  · intro W hSw; first | (go_simp; done) | go_simp
  try simp only [Act.put, List.setIfInBounds_toArray, List.set_cons_zero, List.set_cons_succ]
  refine wpAnyH_done (by kernel_rfl) ?_ _
  clear hHeld4
  go_wp2_with fail
  go_ret
  rw [HFM.out] at o3
  exact ⟨_, rfl, o3.base HB2.out.size, HB2.out.trans (b3.mono HB2.out.size)⟩
theorem bytes_nil (w : World) : Calls Tryd.prog 54 #[.pointer none] w fun e w' => e = .returned (.slice none 0 0) ∧ w' = w := by
  go_enter Tryd.func54, Tryd.ntmps54
  go_wp2_with fail
  go_ret
  exact ⟨rfl, rfl⟩
theorem size_nil (w : World) : Calls Tryd.prog 51 #[.pointer none] w fun e w' => e = .returned (.int .i64 0) ∧ w' = w := by
  go_enter Tryd.func51, Tryd.ntmps51
  go_wp2_with fail
  go_ret
  exact ⟨rfl, rfl⟩
end Go.Proofs.YtennpdhnjaemeaaDoor
/- The walks of block's getLengths and getRow. -/
namespace Go.Proofs.YtennpdhnjaemeaaDoor
set_option linter.unusedVariables false
set_option maxRecDepth 100000
open Go.RowKit
def gN (l : List UInt8) : Nat × Nat := (getN l).getD (0, 0)
theorem numRes_g (l : List UInt8) : numRes (getN l) = .tuple #[.int .u64 ((gN l).1 : Int), .int .i64 ((gN l).2 : Int)] := by
  unfold gN
  cases getN l with
  | none => rfl
  | some q => rfl
theorem gN_le (l : List UInt8) : (gN l).2 ≤ l.length ∧ (gN l).2 ≤ 10 ∧ (gN l).1 < 18446744073709551616 := by
  unfold gN
  cases h : getN l with
  | none => simp
  | some q =>
    have := getN_le (n := q.1) (k := q.2) h
    exact ⟨this.2.1, this.2.2.1, this.2.2.2⟩
theorem gN_zero (l : List UInt8) : (gN l).2 = 0 ↔ getN l = none := by
  unfold gN
  cases h : getN l with
  | none => simp
  | some q =>
    have := getN_le (n := q.1) (k := q.2) h
    simp only [Option.getD_some, reduceCtorEq, iff_false]; omega
theorem gN_some (l : List UInt8) (h : ¬ (gN l).2 = 0) : getN l = some (gN l) := by
  unfold gN at h ⊢
  cases hg : getN l with
  | none => rw [hg] at h; simp at h
  | some q => rfl
theorem lens_none {l : List UInt8} (h : (gN l).2 = 0 ∨ (gN (l.drop (gN l).2)).2 = 0 ∨ (gN (l.drop ((gN l).2 + (gN (l.drop (gN l).2)).2))).2 = 0) : lensP l = none := by
  unfold lensP
  by_cases h1 : (gN l).2 = 0
  · rw [(gN_zero l).1 h1]; rfl
  · rw [gN_some l h1, Option.bind_some]
    by_cases h2 : (gN (l.drop (gN l).2)).2 = 0
    · rw [(gN_zero _).1 h2]; rfl
    · rw [gN_some _ h2, Option.bind_some]
      have h3 := (h.resolve_left h1).resolve_left h2
      rw [(gN_zero _).1 h3]; rfl
theorem lens_some {l : List UInt8} (h1 : ¬ (gN l).2 = 0) (h2 : ¬ (gN (l.drop (gN l).2)).2 = 0) (h3 : ¬ (gN (l.drop ((gN l).2 + (gN (l.drop (gN l).2)).2))).2 = 0) :
    lensP l = some (((gN l).1, (gN (l.drop (gN l).2)).1, (gN (l.drop ((gN l).2 + (gN (l.drop (gN l).2)).2))).1), (gN l).2 + (gN (l.drop (gN l).2)).2 + (gN (l.drop ((gN l).2 + (gN (l.drop (gN l).2)).2))).2) := by
  unfold lensP
  rw [gN_some l h1, Option.bind_some, gN_some _ h2, Option.bind_some, gN_some _ h3]
  rfl
/-- What getLengths answers. -/
def lensV : Option ((Nat × Nat × Nat) × Nat) → Value
  | none => .tuple #[.agg #[.int .u64 0, .int .u64 0, .int .u64 0], .int .i64 0]
  | some ((s, o, v), k) => .tuple #[.agg #[.int .u64 (s : Int), .int .u64 (o : Int), .int .u64 (v : Int)], .int .i64 (k : Int)]
set_option maxHeartbeats 2000000 in
theorem getLens_any (v : Value) (l : List UInt8) (hl : l.length ≤ 1000000000000) (w : World) (h : RdB w v l) :
    Calls Tryd.prog 99 #[v] w fun e w' => e = .returned (lensV (lensP l)) ∧ Below w.heap.size w w' := by
  obtain ⟨a, len, cap, rfl, hlen, hcap⟩ := h.form
  obtain ⟨V, hV⟩ : ∃ V, lensP l = V := ⟨_, rfl⟩
  rw [hV]
  have HV := Lib.hid hV
  obtain ⟨n1, i, e1⟩ : ∃ n i, gN l = (n, i) := ⟨_, _, rfl⟩
  obtain ⟨n2, j, e2⟩ : ∃ n i', gN (l.drop i) = (n, i') := ⟨_, _, rfl⟩
  obtain ⟨n3, k, e3⟩ : ∃ n i', gN (l.drop (i + j)) = (n, i') := ⟨_, _, rfl⟩
  have b1 := gN_le l
  have b2 := gN_le (l.drop i)
  have b3 := gN_le (l.drop (i + j))
  rw [e1] at b1; rw [e2] at b2; rw [e3] at b3
  rw [List.length_drop] at b2 b3
  obtain ⟨b1, b1', b1''⟩ := b1
  obtain ⟨b2, b2', b2''⟩ := b2
  obtain ⟨b3, b3', b3''⟩ := b3
  simp only at b1 b1' b1'' b2 b2' b2'' b3 b3' b3''
  have HN : Hid (i = 0 ∨ j = 0 ∨ k = 0 → V = none) := Lib.hid fun h => by
    rw [← HV.out]; exact lens_none (by rw [e1]; simp only; rw [e2]; simp only; rw [e3]; exact h)
  have HS : Hid (¬ i = 0 → ¬ j = 0 → ¬ k = 0 → V = some ((n1, n2, n3), i + j + k)) := Lib.hid fun h1 h2 h3 => by
    rw [← HV.out]
    have := lens_some (l := l) (by rw [e1]; exact h1) (by rw [e1]; simp only; rw [e2]; exact h2) (by rw [e1]; simp only; rw [e2]; simp only; rw [e3]; exact h3)
    rw [this, e1]; simp only; rw [e2]; simp only; rw [e3]
  have hil : i ≤ len := by omega
  have hijl : i + j ≤ len := by omega
  have hcl : len ≤ cap := by
    rcases Nat.eq_zero_or_pos len with e | e
    · omega
    · exact (hcap e).1
  have hlb : len ≤ 1000000000000 := by omega
  have hsl1 := fun W => sl_lB W a len cap i hil hcl
  have hsl2 := fun W => sl_lB W a len cap (i + j) hijl hcl
  have R1 := h.drop i hil
  have R2 := h.drop (i + j) hijl
  generalize hT1 : (if cap = i then a else a.map (·.add i)) = T1 at hsl1 R1
  generalize hT2 : (if cap = i + j then a else a.map (·.add (i + j))) = T2 at hsl2 R2
  have G1 : Hid (∀ W, Below w.heap.size w W → Calls Tryd.prog 86 #[.slice a len cap] W fun e w' => e = .returned (.tuple #[.int .u64 (n1 : Int), .int .i64 (i : Int)]) ∧ w' = W) := Lib.hid fun W hW => by
    have := numRes_g l
    rw [e1] at this
    refine (get_any _ l W (h.below hW)).mono ?_
    rintro e w' ⟨rfl, rfl⟩
    exact ⟨by rw [this], rfl⟩
  have G2 : Hid (∀ W, Below w.heap.size w W → Calls Tryd.prog 86 #[.slice T1 (len - i) (cap - i)] W fun e w' => e = .returned (.tuple #[.int .u64 (n2 : Int), .int .i64 (j : Int)]) ∧ w' = W) := Lib.hid fun W hW => by
    have := numRes_g (l.drop i)
    rw [e2] at this
    refine (get_any _ (l.drop i) W (R1.below hW)).mono ?_
    rintro e w' ⟨rfl, rfl⟩
    exact ⟨by rw [this], rfl⟩
  have G3 : Hid (∀ W, Below w.heap.size w W → Calls Tryd.prog 86 #[.slice T2 (len - (i + j)) (cap - (i + j))] W fun e w' => e = .returned (.tuple #[.int .u64 (n3 : Int), .int .i64 (k : Int)]) ∧ w' = W) := Lib.hid fun W hW => by
    have := numRes_g (l.drop (i + j))
    rw [e3] at this
    refine (get_any _ (l.drop (i + j)) W (R2.below hW)).mono ?_
    rintro e w' ⟨rfl, rfl⟩
    exact ⟨by rw [this], rfl⟩
  obtain ⟨Q1, hQ1⟩ : ∃ Q, len - i = Q := ⟨_, rfl⟩
  obtain ⟨C1, hC1⟩ : ∃ Q, cap - i = Q := ⟨_, rfl⟩
  obtain ⟨Q2, hQ2⟩ : ∃ Q, len - (i + j) = Q := ⟨_, rfl⟩
  obtain ⟨C2, hC2⟩ : ∃ Q, cap - (i + j) = Q := ⟨_, rfl⟩
  rw [hQ1, hC1] at G2
  rw [hQ2, hC2] at G3
  simp only [hQ1, hC1] at hsl1
  simp only [hQ2, hC2] at hsl2
  obtain ⟨IJ, hIJ⟩ : ∃ Q, i + j = Q := ⟨_, rfl⟩
  have hIJ2 : (i : Int) + (j : Int) = (IJ : Int) := by omega
  rw [hIJ] at hsl2 hijl HS
  clear hV h R1 R2 hlen hcap hl b1 b2 b3 e1 e2 e3 hQ1 hC1 hQ2 hC2 hT1 hT2 hIJ
  go_enter Tryd.func99, Tryd.ntmps99
  go_wp2_with fail
  refine (G1.out _ ?_).mono ?_
  · exact (Below.refl _ _).alloc (Nat.le_refl _) _
  rintro e w' ⟨rfl, rfl⟩
  go_wp2_with fail
  refine (G2.out _ ?_).mono ?_
  · exact (Below.refl _ _).alloc (Nat.le_refl _) _
  rintro e w' ⟨rfl, rfl⟩
  go_wp2_with fail
  refine (G3.out _ ?_).mono ?_
  · exact (Below.refl _ _).alloc (Nat.le_refl _) _
  rintro e w' ⟨rfl, rfl⟩
  obtain ⟨w1, hw1⟩ : ∃ w1, w.alloc (.cells #[.int .u64 0, .int .u64 0, .int .u64 0] 144) = w1 := ⟨_, rfl⟩
  have HR3 : Hid (Row3 w1 w.heap.size (.int .u64 0) (.int .u64 0) (.int .u64 0)) := Lib.hid (by rw [← hw1]; exact Row3.new w _ _ _ _)
  have HB1 : Hid (Below w.heap.size w w1) := Lib.hid (by rw [← hw1]; exact (Below.refl _ w).alloc (Nat.le_refl _) _)
  rw [hw1]
  obtain ⟨⟨z0, z1, z2⟩, ⟨f0, f1, f2⟩, hz⟩ := id HR3.out
  clear hw1 G1 G2 G3
  by_cases hA0 : i = 0
  · have HE := Lib.hid (HN.out (.inl hA0))
    have hi : ((i : Int) == 0) = true := by rw [beq_iff_eq]; omega
    clear HN HS hA0
    go_wp2_with fail
    refine bodyPost_ret (v := lensV none) (by simp [results, Tryd.results99, go_sem, lensV, z0, z1, z2]) rfl ⟨by rw [HE.out], ?_⟩
    iterate 3 refine Below.setCell ?_ (by simp) _
    exact HB1.out
  by_cases hA1 : j = 0
  · have HE := Lib.hid (HN.out (.inr (.inl hA1)))
    have hi : ((i : Int) == 0) = false := by rw [beq_eq_false_iff_ne]; omega
    have hj : ((j : Int) == 0) = true := by rw [beq_iff_eq]; omega
    clear HN HS hA0 hA1
    go_wp2_with fail
    refine bodyPost_ret (v := lensV none) (by simp [results, Tryd.results99, go_sem, lensV, z0, z1, z2]) rfl ⟨by rw [HE.out], ?_⟩
    iterate 3 refine Below.setCell ?_ (by simp) _
    exact HB1.out
  by_cases hA2 : k = 0
  · have HE := Lib.hid (HN.out (.inr (.inr hA2)))
    have hi : ((i : Int) == 0) = false := by rw [beq_eq_false_iff_ne]; omega
    have hj : ((j : Int) == 0) = false := by rw [beq_eq_false_iff_ne]; omega
    have hk : ((k : Int) == 0) = true := by rw [beq_iff_eq]; omega
    clear HN HS hA0 hA1 hA2
    go_wp2_with fail
    refine bodyPost_ret (v := lensV none) (by simp [results, Tryd.results99, go_sem, lensV, z0, z1, z2]) rfl ⟨by rw [HE.out], ?_⟩
    iterate 3 refine Below.setCell ?_ (by simp) _
    exact HB1.out
  · have HE := Lib.hid (HS.out hA0 hA1 hA2)
    have hA3 : ((i : Int) == 0) = false := by rw [beq_eq_false_iff_ne]; omega
    have hA4 : ((j : Int) == 0) = false := by rw [beq_eq_false_iff_ne]; omega
    have hA5 : ((k : Int) == 0) = false := by rw [beq_eq_false_iff_ne]; omega
    have hIJb : (IJ : Int) ≤ 20 := by omega
    have hkb : (k : Int) ≤ 10 := by omega
    have hk0 : (0 : Int) ≤ (k : Int) := by omega
    have hIJ0 : (0 : Int) ≤ (IJ : Int) := by omega
    clear HN HS hA0 hA1 hA2
    go_wp2_with fail
    refine bodyPost_ret (v := lensV (some ((n1, n2, n3), IJ + k))) (by simp [results, Tryd.results99, go_sem, lensV, z0, z1, z2]) rfl ⟨by rw [HE.out], ?_⟩
    iterate 3 refine Below.setCell ?_ (by simp) _
    exact HB1.out
/-- What getRow answers. -/
def bkRowV : Option (Kv × Nat) → Value
  | none => .tuple #[.agg #[.string ⟨#[]⟩, .string ⟨#[]⟩], .int .i64 0]
  | some (r, k) => .tuple #[.agg #[.string ⟨r.k.toArray⟩, .string ⟨r.v.toArray⟩], .int .i64 (k : Int)]
/-- Behind getLengths: the row's two cells, the lengths' three. -/
theorem getRow_w2 {w w1 : World} (s o v : Nat) (h : Row2 w1 w.heap.size (.string ⟨#[]⟩) (.string ⟨#[]⟩)) (hb : Below w.heap.size w w1) :
    Row2 (w1.alloc (.cells #[.int .u64 (s : Int), .int .u64 (o : Int), .int .u64 (v : Int)] 144)) w.heap.size (.string ⟨#[]⟩) (.string ⟨#[]⟩) ∧
    Row3 (w1.alloc (.cells #[.int .u64 (s : Int), .int .u64 (o : Int), .int .u64 (v : Int)] 144)) w1.heap.size (.int .u64 (s : Int)) (.int .u64 (o : Int)) (.int .u64 (v : Int)) ∧
    Below w.heap.size w (w1.alloc (.cells #[.int .u64 (s : Int), .int .u64 (o : Int), .int .u64 (v : Int)] 144)) :=
  ⟨h.below ((Below.refl _ _).alloc (Nat.le_refl _) _) h.2.2, Row3.new w1 _ _ _ _, hb.alloc hb.size _⟩
set_option maxHeartbeats 4000000 in
theorem getRow_any (v : Value) (l : List UInt8) (hl : l.length ≤ 1000000000000) (n : Nat) (hn : n ≤ 1000000000000) (p : ByteArray) (hpl : p.size + l.length ≤ 1000000000000) (w : World) (h : RdB w v l) :
    Calls Tryd.prog 94 #[v, .int .i64 (n : Int), .string p] w fun e w' => e = .returned (bkRowV (rowCk n p.data.toList l)) ∧ Below w.heap.size w w' := by
  obtain ⟨a, len, cap, rfl, hlen, hcap⟩ := h.form
  obtain ⟨V, hV⟩ : ∃ V, rowCk n p.data.toList l = V := ⟨_, rfl⟩
  rw [hV]
  have HV := Lib.hid hV
  have HG : Hid (∀ W, Below w.heap.size w W → Calls Tryd.prog 99 #[.slice a len cap] W fun e w' => e = .returned (lensV (lensP l)) ∧ Below W.heap.size W w') := Lib.hid fun W hW => getLens_any _ l hl W (h.below hW)
  have hcl : len ≤ cap := by
    rcases Nat.eq_zero_or_pos len with e | e
    · omega
    · exact (hcap e).1
  have hlb : len ≤ 1000000000000 := by omega
  have hp : p.size ≤ 1000000000000 := by omega
  have HPL := Lib.hid hpl
  clear hpl
  have HRD := Lib.hid h
  have HLL := Lib.hid hlen
  clear hV h hcap
  obtain ⟨s, o, v, k, hq, HK0, HK1⟩ : ∃ s o v k : Nat, lensV (lensP l) = .tuple #[.agg #[.int .u64 (s : Int), .int .u64 (o : Int), .int .u64 (v : Int)], .int .i64 (k : Int)] ∧ Hid (k = 0 → lensP l = none) ∧ Hid (¬ k = 0 → lensP l = some ((s, o, v), k) ∧ k ≤ l.length ∧ s < 2 ^ 64 ∧ o < 2 ^ 64 ∧ v < 2 ^ 64) := by
    cases hq : lensP l with
    | none => exact ⟨0, 0, 0, 0, rfl, Lib.hid fun _ => rfl, Lib.hid fun h => absurd rfl h⟩
    | some q =>
      obtain ⟨⟨s, o, v⟩, k⟩ := q
      have := lens_is hq
      exact ⟨s, o, v, k, rfl, Lib.hid fun h => by omega, Lib.hid fun _ => ⟨rfl, this.2.1, this.2.2.1, this.2.2.2.1, this.2.2.2.2.1⟩⟩
  rw [hq] at HG
  clear hq hlen hl
  by_cases hk0 : k = 0
  · have HE : Hid (V = none) := Lib.hid (by rw [← HV.out]; unfold rowCk; rw [HK0.out hk0]; rfl)
    subst hk0
    clear HK0 HK1 HV
    go_enter Tryd.func94, Tryd.ntmps94
    go_wp2_with fail
    refine (HG.out _ ?_).mono ?_
    · exact (Below.refl _ _).alloc (Nat.le_refl _) _
    rintro e w1 ⟨rfl, b1⟩
    have HR2 : Hid (Row2 w1 w.heap.size (.string ⟨#[]⟩) (.string ⟨#[]⟩)) := Lib.hid ((Row2.new w _ _ _).below b1 (by simp))
    have HB1 : Hid (Below w.heap.size w w1) := Lib.hid (((Below.refl _ w).alloc (Nat.le_refl _) _).trans (b1.mono (by simp)))
    clear b1 HG
    obtain ⟨⟨⟨y0, y1⟩, ⟨g0, g1⟩, hy⟩, ⟨⟨z0, z1, z2⟩, ⟨f0, f1, f2⟩, hz⟩, HB2⟩ := id (getRow_w2 s o v HR2.out HB1.out)
    have HB2 := Lib.hid HB2
    go_wp2_with fail
    refine bodyPost_ret (v := bkRowV none) (by simp [results, Tryd.results94, go_sem, bkRowV, y0, y1]) rfl ⟨by rw [HE.out], ?_⟩
    iterate 2 refine Below.setCell ?_ (by simp) _
    exact HB2.out
  · obtain ⟨hq1, hkl, hsb, hob, hvb⟩ := HK1.out hk0
    have HQ := Lib.hid hq1
    have hlen := HLL.out
    obtain ⟨L, hL⟩ : ∃ L, l.length - k = L := ⟨_, rfl⟩
    have hLk : (len : Int) - (k : Int) = (L : Int) := by omega
    have hkb : (k : Int) ≤ (len : Int) := by omega
    have hk1 : ((k : Int) == 0) = false := by rw [beq_eq_false_iff_ne]; omega
    have hLb : (L : Int) ≤ 1000000000000 := by omega
    have hob2 : (o : Int) < 18446744073709551616 := by omega
    have hvb2 : (v : Int) < 18446744073709551616 := by omega
    have hsb2 : (s : Int) < 18446744073709551616 := by omega
    clear hq1 HK0 HK1
    by_cases c1 : p.size < s
    · have HE : Hid (V = none) := Lib.hid (by rw [← HV.out]; unfold rowCk; rw [HQ.out, Option.bind_some]; simp only; rw [if_pos (by rw [size_toList]; omega)])
      have hc1 : (p.size : Int) < (s : Int) := by omega
      clear hL hlen HV hk0
      go_enter Tryd.func94, Tryd.ntmps94
      go_wp2_with fail
      refine (HG.out _ ?_).mono ?_
      · exact (Below.refl _ _).alloc (Nat.le_refl _) _
      rintro e w1 ⟨rfl, b1⟩
      have HR2 : Hid (Row2 w1 w.heap.size (.string ⟨#[]⟩) (.string ⟨#[]⟩)) := Lib.hid ((Row2.new w _ _ _).below b1 (by simp))
      have HB1 : Hid (Below w.heap.size w w1) := Lib.hid (((Below.refl _ w).alloc (Nat.le_refl _) _).trans (b1.mono (by simp)))
      clear b1 HG
      obtain ⟨⟨⟨y0, y1⟩, ⟨g0, g1⟩, hy⟩, ⟨⟨z0, z1, z2⟩, ⟨f0, f1, f2⟩, hz⟩, HB2⟩ := id (getRow_w2 s o v HR2.out HB1.out)
      have HB2 := Lib.hid HB2
      go_wp2_with fail
      refine bodyPost_ret (v := bkRowV none) (by simp [results, Tryd.results94, go_sem, bkRowV, y0, y1]) rfl ⟨by rw [HE.out], ?_⟩
      iterate 2 refine Below.setCell ?_ (by simp) _
      exact HB2.out
    have hc1 : ¬ (p.size : Int) < (s : Int) := by omega
    by_cases c2 : L < o
    · have HE : Hid (V = none) := Lib.hid (by rw [← HV.out]; unfold rowCk; rw [HQ.out, Option.bind_some]; simp only; rw [if_pos (by rw [size_toList]; omega)])
      have hc2 : (L : Int) < (o : Int) := by omega
      clear hL hlen HV hk0
      go_enter Tryd.func94, Tryd.ntmps94
      go_wp2_with fail
      refine (HG.out _ ?_).mono ?_
      · exact (Below.refl _ _).alloc (Nat.le_refl _) _
      rintro e w1 ⟨rfl, b1⟩
      have HR2 : Hid (Row2 w1 w.heap.size (.string ⟨#[]⟩) (.string ⟨#[]⟩)) := Lib.hid ((Row2.new w _ _ _).below b1 (by simp))
      have HB1 : Hid (Below w.heap.size w w1) := Lib.hid (((Below.refl _ w).alloc (Nat.le_refl _) _).trans (b1.mono (by simp)))
      clear b1 HG
      obtain ⟨⟨⟨y0, y1⟩, ⟨g0, g1⟩, hy⟩, ⟨⟨z0, z1, z2⟩, ⟨f0, f1, f2⟩, hz⟩, HB2⟩ := id (getRow_w2 s o v HR2.out HB1.out)
      have HB2 := Lib.hid HB2
      go_wp2_with fail
      refine bodyPost_ret (v := bkRowV none) (by simp [results, Tryd.results94, go_sem, bkRowV, y0, y1]) rfl ⟨by rw [HE.out], ?_⟩
      iterate 2 refine Below.setCell ?_ (by simp) _
      exact HB2.out
    have hc2 : ¬ (L : Int) < (o : Int) := by omega
    obtain ⟨M, hM⟩ : ∃ M, L - o = M := ⟨_, rfl⟩
    have hMo : (L : Int) - (o : Int) = (M : Int) := by omega
    by_cases c3 : M < v
    · have HE : Hid (V = none) := Lib.hid (by rw [← HV.out]; unfold rowCk; rw [HQ.out, Option.bind_some]; simp only; rw [if_pos (by rw [size_toList]; omega)])
      have hc3 : (M : Int) < (v : Int) := by omega
      clear hL hlen HV hk0 hM
      go_enter Tryd.func94, Tryd.ntmps94
      go_wp2_with fail
      refine (HG.out _ ?_).mono ?_
      · exact (Below.refl _ _).alloc (Nat.le_refl _) _
      rintro e w1 ⟨rfl, b1⟩
      have HR2 : Hid (Row2 w1 w.heap.size (.string ⟨#[]⟩) (.string ⟨#[]⟩)) := Lib.hid ((Row2.new w _ _ _).below b1 (by simp))
      have HB1 : Hid (Below w.heap.size w w1) := Lib.hid (((Below.refl _ w).alloc (Nat.le_refl _) _).trans (b1.mono (by simp)))
      clear b1 HG
      obtain ⟨⟨⟨y0, y1⟩, ⟨g0, g1⟩, hy⟩, ⟨⟨z0, z1, z2⟩, ⟨f0, f1, f2⟩, hz⟩, HB2⟩ := id (getRow_w2 s o v HR2.out HB1.out)
      have HB2 := Lib.hid HB2
      go_wp2_with fail
      refine bodyPost_ret (v := bkRowV none) (by simp [results, Tryd.results94, go_sem, bkRowV, y0, y1]) rfl ⟨by rw [HE.out], ?_⟩
      iterate 2 refine Below.setCell ?_ (by simp) _
      exact HB2.out
    have hc3 : ¬ (M : Int) < (v : Int) := by omega
    have hoL : o ≤ 1000000000000 := by omega
    have hvL : v ≤ 1000000000000 := by omega
    have hsL : s ≤ 1000000000000 := by omega
    have hko : (k : Int) + (o : Int) = ((k + o : Nat) : Int) := by omega
    have hkov : (((k + o : Nat) : Int)) + (v : Int) = ((k + o + v : Nat) : Int) := by omega
    generalize hA : k + o = A at hko hkov
    generalize hE : A + v = E at hkov
    have hAl : A ≤ len := by omega
    have hEl : E ≤ len := by omega
    have hkA : k ≤ A := by omega
    have hAE : A ≤ E := by omega
    have hkl2 : k ≤ len := by omega
    clear hL hlen hk0 hM
    go_enter Tryd.func94, Tryd.ntmps94
    go_wp2_with fail
    refine (HG.out _ ?_).mono ?_
    · exact (Below.refl _ _).alloc (Nat.le_refl _) _
    rintro e w1 ⟨rfl, b1⟩
    have HR2 : Hid (Row2 w1 w.heap.size (.string ⟨#[]⟩) (.string ⟨#[]⟩)) := Lib.hid ((Row2.new w _ _ _).below b1 (by simp))
    have HB1 : Hid (Below w.heap.size w w1) := Lib.hid (((Below.refl _ w).alloc (Nat.le_refl _) _).trans (b1.mono (by simp)))
    clear b1 HG
    obtain ⟨⟨⟨y0, y1⟩, ⟨g0, g1⟩, hy⟩, ⟨⟨z0, z1, z2⟩, ⟨f0, f1, f2⟩, hz⟩, HB2⟩ := id (getRow_w2 s o v HR2.out HB1.out)
    have HB2 := Lib.hid HB2
    go_wp2_with fail
    have HR2b : Hid (Row2 (w1.alloc (.cells #[.int .u64 (s : Int), .int .u64 (o : Int), .int .u64 (v : Int)] 144)) w.heap.size (.string ⟨#[]⟩) (.string ⟨#[]⟩)) := Lib.hid (getRow_w2 s o v HR2.out HB1.out).1
    have HR3b : Hid (Row3 (w1.alloc (.cells #[.int .u64 (s : Int), .int .u64 (o : Int), .int .u64 (v : Int)] 144)) w1.heap.size (.int .u64 (s : Int)) (.int .u64 (o : Int)) (.int .u64 (v : Int))) := Lib.hid (getRow_w2 s o v HR2.out HB1.out).2.1
    clear y0 y1 hy g0 g1 z0 z1 z2 hz f0 f1 f2 HR2
    generalize w1.alloc (.cells #[.int .u64 (s : Int), .int .u64 (o : Int), .int .u64 (v : Int)] 144) = w2 at *
    obtain ⟨-, -, hy⟩ := id HR2b.out
    obtain ⟨⟨z0, z1, z2⟩, ⟨f0, f1, f2⟩, hz⟩ := id HR3b.out
    have hsl1 := fun W => sl_lhB W a len cap k A hkA (by omega)
    have HM1 := (HRD.out.below HB2.out).mid k A hkA hAl
    generalize hT1 : (if cap = k then a else a.map (·.add k)) = T1 at hsl1 HM1
    have x1 : ∀ j, (convert 25 9 (.slice T1 (A - k) (cap - k))).run Tryd.prog (w2.drewN j) = .ok (.string ⟨((l.take A).drop k).toArray⟩) (w2.drewN j) := fun j => (HM1.below (DrN.below ⟨j, rfl⟩ _)).text
    have hAk : A - k = o := by omega
    generalize hK1 : A - k = Q1 at hsl1 x1
    generalize hC1 : cap - k = C1 at hsl1 x1
    have hXs : ((⟨((l.take A).drop k).toArray⟩ : ByteArray)).size = o := by
      show ((l.take A).drop k).toArray.size = o
      have := HLL.out
      rw [List.size_toArray, List.length_drop, List.length_take]; omega
    have hXl : ((⟨((l.take A).drop k).toArray⟩ : ByteArray)).data.toList = (l.drop k).take o := by
      show ((l.take A).drop k).toArray.toList = _
      rw [List.drop_take, hAk]
    have hpe : (p.extract 0 s).data.toList = p.data.toList.take s := by simp
    generalize hX : (⟨((l.take A).drop k).toArray⟩ : ByteArray) = X at *
    have hcat : ¬ 9223372036854775807 < min s p.size + X.size := by omega
    have hKY : (p.extract 0 s ++ X).data.toList = p.data.toList.take s ++ (l.drop k).take o := by
      rw [ByteArray.data_append, Array.toList_append, hpe, hXl]
    have hKYs : (p.extract 0 s ++ X).size ≤ 1000000000000 := by
      have e := congrArg List.length hKY
      rw [size_toList, List.length_append, List.length_take, List.length_take, List.length_drop, size_toList] at e
      have := HPL.out
      have := HLL.out
      omega
    clear HM1 hpe hX hXl hXs
    go_quiet (fail)
    generalize p.extract 0 s ++ X = KY at *
    have HKY := Lib.hid hKY
    have HB3 := Lib.hid (HB2.out.trans ((DrN.below ⟨nq, rfl⟩ _ : Below w2.heap.size w2 (w2.drewN nq)).mono HB2.out.size))
    have HR2c : Hid (Row2 (w2.drewN nq) w.heap.size (.string ⟨#[]⟩) (.string ⟨#[]⟩)) := HR2b
    have HR3c : Hid (Row3 (w2.drewN nq) w1.heap.size (.int .u64 (s : Int)) (.int .u64 (o : Int)) (.int .u64 (v : Int))) := HR3b
    clear HR2b HR3b HB2 HB1 x1 hcat hKY hy z0 z1 z2 f0 f1 f2 hz hsl1 hT1
    generalize w2.drewN nq = w3 at *
    obtain ⟨⟨z0, z1, z2⟩, ⟨f0, f1, f2⟩, hz⟩ := id HR3c.out
    have HI : Hid (∀ w, Calls Tryd.prog 73 #[.int .i64 (n : Int), .string p, .string KY] w fun e w' => e = .returned (.bool (decide (n = 0 ∨ bl p KY))) ∧ w' = w) := Lib.hid (isNext_any n hn p KY)
    have HS : Hid (∀ w, Calls Tryd.prog 75 #[.int .i64 (n : Int), .string p, .string KY] w fun e w' => e = .returned (.int .i64 (shB n p.data.toList KY.data.toList : Nat)) ∧ DrN w w') := Lib.hid (shared_any n hn p KY hp hKYs)
    by_cases h1 : n = 0 ∨ bl p KY
    · rw [decide_eq_true h1] at HI
      by_cases h2 : s = shB n p.data.toList KY.data.toList
      · rw [← h2] at HS
        have HE : Hid (V = some (⟨KY.data.toList, (l.drop A).take v⟩, E)) := Lib.hid (by
          rw [← HV.out]; unfold rowCk
          rw [HQ.out, Option.bind_some]; simp only
          rw [if_neg (by rw [size_toList]; have := HLL.out; omega), ← HKY.out, if_pos ⟨h1, h2⟩, hA, hE])
        clear HV h1 h2 HQ
        go_wp2_with fail
        go_quiet ((first | (go_at_call 73; exact Calls.quiet_of_same (HI.out _)) | (go_at_call 75; exact Calls.quiet_of (HS.out _))))
        have HB4 := Lib.hid (HB3.out.trans ((DrN.below ⟨nq, rfl⟩ _ : Below w3.heap.size w3 (w3.drewN nq)).mono HB3.out.size))
        have HR2d : Hid (Row2 (w3.drewN nq) w.heap.size (.string ⟨#[]⟩) (.string ⟨#[]⟩)) := HR2c
        clear HR2c HR3c HB3 HI HS z0 z1 z2 f0 f1 f2 hz
        generalize w3.drewN nq = w4 at *
        have hsl2 := fun W => sl_lhB W a len cap A E hAE (by omega)
        have HM2 := (HRD.out.below HB4.out).mid A E hAE hEl
        generalize hT2 : (if cap = A then a else a.map (·.add A)) = T2 at hsl2 HM2
        have x2 := HM2.text
        have hY : (l.take E).drop A = (l.drop A).take v := by rw [List.drop_take]; congr 1; omega
        rw [hY] at x2
        generalize E - A = Q2 at *
        generalize cap - A = C2 at *
        obtain ⟨⟨y0, y1⟩, ⟨g0, g1⟩, hy⟩ := id HR2d.out
        clear HM2 hT2 hY HRD
        go_wp2_with fail
        refine bodyPost_ret (v := bkRowV (some (⟨KY.data.toList, (l.drop A).take v⟩, E))) (by simp [results, Tryd.results94, go_sem, bkRowV, y0, y1]) rfl ⟨by rw [HE.out], ?_⟩
        iterate 2 refine Below.setCell ?_ (by simp) _
        exact HB4.out
      · have h3 : ((s : Int) == (shB n p.data.toList KY.data.toList : Nat)) = false := by rw [beq_eq_false_iff_ne]; omega
        have h4 : ((s : Int) != (shB n p.data.toList KY.data.toList : Nat)) = true := by rw [bne, h3]; rfl
        have hsb := (shB_le n p.data.toList KY.data.toList).1
        rw [size_toList] at hsb
        have HE : Hid (V = none) := Lib.hid (by
          rw [← HV.out]; unfold rowCk
          rw [HQ.out, Option.bind_some]; simp only
          rw [if_neg (by rw [size_toList]; have := HLL.out; omega), ← HKY.out, if_neg (fun h => h2 h.2)])
        clear HV h1 h2 HQ HKY
        generalize shB n p.data.toList KY.data.toList = S at *
        go_wp2_with fail
        go_quiet ((first | (go_at_call 73; exact Calls.quiet_of_same (HI.out _)) | (go_at_call 75; exact Calls.quiet_of (HS.out _))))
        have HB4 := Lib.hid (HB3.out.trans ((DrN.below ⟨nq, rfl⟩ _ : Below w3.heap.size w3 (w3.drewN nq)).mono HB3.out.size))
        have HR2d : Hid (Row2 (w3.drewN nq) w.heap.size (.string ⟨#[]⟩) (.string ⟨#[]⟩)) := HR2c
        clear HR2c HR3c HB3 HI HS z0 z1 z2 f0 f1 f2 hz
        generalize w3.drewN nq = w4 at *
        obtain ⟨⟨y0, y1⟩, ⟨g0, g1⟩, hy⟩ := id HR2d.out
        go_wp2_with fail
        refine bodyPost_ret (v := bkRowV none) (by simp [results, Tryd.results94, go_sem, bkRowV, y0, y1]) rfl ⟨by rw [HE.out], ?_⟩
        iterate 2 refine Below.setCell ?_ (by simp) _
        exact HB4.out
    · rw [decide_eq_false h1] at HI
      have HE : Hid (V = none) := Lib.hid (by
        rw [← HV.out]; unfold rowCk
        rw [HQ.out, Option.bind_some]; simp only
        rw [if_neg (by rw [size_toList]; have := HLL.out; omega), ← HKY.out, if_neg (fun h => h1 h.1)])
      clear HV h1 HQ HKY
      go_wp2_with fail
      go_quiet ((first | (go_at_call 73; exact Calls.quiet_of_same (HI.out _)) | (go_at_call 75; exact Calls.quiet_of (HS.out _))))
      have HB4 := Lib.hid (HB3.out.trans ((DrN.below ⟨nq, rfl⟩ _ : Below w3.heap.size w3 (w3.drewN nq)).mono HB3.out.size))
      have HR2d : Hid (Row2 (w3.drewN nq) w.heap.size (.string ⟨#[]⟩) (.string ⟨#[]⟩)) := HR2c
      clear HR2c HR3c HB3 HI HS z0 z1 z2 f0 f1 f2 hz
      generalize w3.drewN nq = w4 at *
      obtain ⟨⟨y0, y1⟩, ⟨g0, g1⟩, hy⟩ := id HR2d.out
      go_wp2_with fail
      refine bodyPost_ret (v := bkRowV none) (by simp [results, Tryd.results94, go_sem, bkRowV, y0, y1]) rfl ⟨by rw [HE.out], ?_⟩
      iterate 2 refine Below.setCell ?_ (by simp) _
      exact HB4.out
end Go.Proofs.YtennpdhnjaemeaaDoor
/- The walk of block.Read: the rows of just such bytes, or none. -/
namespace Go.Proofs.YtennpdhnjaemeaaDoor
set_option linter.unusedVariables false
set_option maxRecDepth 100000
open Go.RowKit
/-- How far a block is read: e is where its rows end. -/
structure RInv (b : List UInt8) (e : Nat) (rs : List Kv) (p : List UInt8) (at' : Nat) : Prop where
  le : at' ≤ e
  at_len : at' = (bodyB 0 [] rs).length
  last : p = lastK [] rs
  small : p.length + (e - at') ≤ e
  rows : rs.length ≤ at'
  more : rowsC e 0 [] (b.take e) = (rowsC (e - rs.length) rs.length p ((b.take e).drop at')).map (rs ++ ·)
theorem rinv_nil (b : List UInt8) (e : Nat) : RInv b e [] [] 0 := ⟨Nat.zero_le _, rfl, rfl, by simp, Nat.zero_le _, by simp⟩
theorem rinv_step {b : List UInt8} {e : Nat} (he : e ≤ b.length) {rs : List Kv} {p : List UInt8} {o : Nat} (h : RInv b e rs p o) {r : Kv} {k : Nat} (hr : rowCk rs.length p ((b.take e).drop o) = some (r, k)) :
    RInv b e (rs ++ [r]) r.k (o + k) ∧ 3 ≤ k ∧ o + k ≤ e ∧ bkEnds (rs ++ [r]) = bkEnds rs ++ if rs.length % 4 = 0 then [o] else [] := by
  obtain ⟨h1, h2, h3, h4, h5, h6⟩ := rowC_some hr
  obtain ⟨g1, g2, g3, g4, g5, g6⟩ := h
  have hl : ((b.take e).drop o).length = e - o := by rw [List.length_drop, List.length_take]; omega
  rw [hl] at h2 h5
  rw [List.length_drop, hl] at h2
  have hk : k = (rowB rs.length p r).length := by
    rw [← h6, List.length_take, hl]; omega
  refine ⟨⟨by omega, ?_, (lastK_snoc rs [] r).symm, by omega, by rw [List.length_append, List.length_singleton]; omega, ?_⟩, h4, by omega, ?_⟩
  · rw [bodyB_snoc, List.length_append, ← g2, Nat.zero_add, ← g3, ← hk]
  · rw [g6, show e - rs.length = (e - (rs ++ [r]).length) + 1 by rw [List.length_append, List.length_singleton]; omega, rowsC_row hr, List.drop_drop]
    rw [List.length_append, List.length_singleton, Option.map_map]
    congr 1
    funext x
    simp
  · unfold bkEnds
    rw [endsB_snoc, Nat.zero_add, Nat.zero_add, ← g2]
theorem rinv_fail {b : List UInt8} {e : Nat} (hE : endC b = some e) {rs : List Kv} {p : List UInt8} {o : Nat} (h : RInv b e rs p o) (ho : o < e) (hr : rowCk rs.length p ((b.take e).drop o) = none) : readCk b = none := by
  have he := endC_le hE
  have hn : (b.take e).drop o ≠ [] := fun c => by
    have := congrArg List.length c
    rw [List.length_drop, List.length_take, List.length_nil] at this; omega
  have hm := h.more
  rw [rowsC_none hr hn, Option.map_none] at hm
  unfold readCk
  rw [hE, Option.bind_some, rowsC_len he, hm, Option.bind_none]
theorem rinv_end {b : List UInt8} {e : Nat} (hE : endC b = some e) {rs : List Kv} {p : List UInt8} (h : RInv b e rs p e) : readCk b = if b.drop e = placesB (bkEnds rs) then some rs else none := by
  have he := endC_le hE
  have hn : (b.take e).drop e = [] := List.drop_of_length_le (by rw [List.length_take]; omega)
  have hm := h.more
  have h0 : rowsC (e - rs.length) rs.length p [] = some [] := by cases e - rs.length <;> rfl
  rw [hn, h0, Option.map_some, List.append_nil] at hm
  unfold readCk
  rw [hE, Option.bind_some, rowsC_len he, hm, Option.bind_some]
def BkReadRes (r : Option (List Kv)) (w : World) (e : Ending) (w' : World) : Prop :=
  ∃ v, e = .returned (.tuple #[v, .int .i64 (if r.isSome then 0 else 8)]) ∧ OwnK encKv 2 128 w.heap.size w' v (r.getD []) ∧ Below w.heap.size w w'
theorem endsOf_bd {b : List UInt8} {e : Nat} {rs : List Kv} {p : List UInt8} {o : Nat} (h : RInv b e rs p o) : ∀ x ∈ bkEnds rs, x ≤ o := by
  rw [h.at_len]
  exact ends_bd rs
theorem bkBlk2 {W : World} {g : Nat} {x y : Value} {t : TypeId} (h : BlkAt W g #[x, y] t) : W.cell? ⟨g, 0, none⟩ = some x ∧ W.cell? ⟨g, 1, none⟩ = some y := ⟨h.at 0, h.at 1⟩
set_option maxHeartbeats 8000000 in
theorem bkRead_any (v : Value) (b : List UInt8) (hb : b.length ≤ 1000000000) (w : World) (h : RdB w v b) : Calls Tryd.prog 87 #[v] w (BkReadRes (readCk b) w) := by
  obtain ⟨a, len, cap, rfl, hlen, hcap⟩ := h.form
  obtain ⟨R, hR⟩ : ∃ R, readCk b = R := ⟨_, rfl⟩
  rw [hR]
  have HR := Lib.hid hR
  have HEO : Hid (∀ W, Below w.heap.size w W → Calls Tryd.prog 93 #[.slice a len cap] W fun e w' => e = .returned (.tuple #[.int .i64 (((endC b).getD 0 : Nat) : Int), .bool (endC b).isSome]) ∧ W = w') := Lib.hid fun W hW => (endOf_any _ b (by omega) W (h.below hW)).mono fun e w' hh => ⟨hh.1, hh.2.symm⟩
  have hcl : len ≤ cap := by
    rcases Nat.eq_zero_or_pos len with e | e
    · omega
    · exact (hcap e).1
  have hlb : len ≤ 1000000000 := by omega
  have HRD := Lib.hid h
  have HLL := Lib.hid hlen
  clear hR h hcap
  cases hE : endC b with
  | none =>
    rw [hE] at HEO
    have HE : Hid (R = none) := Lib.hid (by rw [← HR.out]; unfold readCk; rw [hE]; rfl)
    clear hlen hb hE HR
    go_enter Tryd.func87, Tryd.ntmps87
    go_wp2_with fail
    refine (HEO.out _ (Below.refl _ _)).mono ?_
    rintro e w' ⟨rfl, rfl⟩
    go_wp2_with fail
    go_ret2
    rw [HE.out]
    exact ⟨_, rfl, OwnK.nil _ _ _ _ _, Below.refl _ _⟩
  | some e0 =>
    rw [hE] at HEO
    have he := endC_le hE
    have he0 : e0 ≤ len := by omega
    have HEE := Lib.hid hE
    clear hlen hb hE he
    go_enter Tryd.func87, Tryd.ntmps87
    go_wp2_with fail
    refine (HEO.out _ (Below.refl _ _)).mono ?_
    rintro e w' ⟨rfl, rfl⟩
    go_wp2_with fail
    go_loopg [6, 7, 8, 9] e0 (fun kk vr vp vl va wr => ∃ (rs : List Kv) (p : List UInt8) (o : Nat) (a6 a7 : Option Addr) (n6 c6 n7 c7 : Nat), vr = .slice a6 n6 c6 ∧ vp = .slice a7 n7 c7 ∧ vl = .string ⟨p.toArray⟩ ∧ va = .int .i64 (o : Int) ∧ o ≤ e0 ∧ e0 - o ≤ kk ∧ n6 ≤ o ∧ Hid (n6 = rs.length) ∧ Hid (RInv b e0 rs p o) ∧ Hid (OwnK encKv 2 128 w.heap.size wr (.slice a6 n6 c6) rs) ∧ Hid (OwnK encN 1 3 w.heap.size wr (.slice a7 n7 c7) (bkEnds rs)) ∧ Hid (Below w.heap.size w wr))
    case atStart => exact ⟨[], [], 0, none, none, 0, 0, 0, 0, rfl, rfl, rfl, rfl, by omega, by omega, by omega, Lib.hid rfl, Lib.hid (rinv_nil _ _), Lib.hid (OwnK.nil _ _ _ _ _), Lib.hid (OwnK.nil _ _ _ _ _), Lib.hid (Below.refl _ _)⟩
    case round =>
      clear HEO
      obtain ⟨rs, p, o, a6, a7, n6, c6, n7, c7, rfl, rfl, rfl, rfl, ho, hkk, hn6, HN6, HI, HOR, HOP, HB⟩ := hrel
      have hwr := HB.out.size
      by_cases h1 : o < e0
      · have hz1 : (o : Int) < (e0 : Int) := by omega
        have hsl := fun W => sl_lhB W a len cap o e0 (by omega) (by omega)
        have HM := (HRD.out.below HB.out).mid o e0 (by omega) he0
        generalize hT : (if cap = o then a else a.map (·.add o)) = T at hsl HM
        have HG : Hid (Calls Tryd.prog 94 #[.slice T (e0 - o) (cap - o), .int .i64 (n6 : Int), .string ⟨p.toArray⟩] wr fun e w' => e = .returned (bkRowV (rowCk rs.length p ((b.take e0).drop o))) ∧ Below wr.heap.size wr w') := Lib.hid (by
          have hs := HI.out.small
          have hbl : ((b.take e0).drop o).length = e0 - o := by rw [List.length_drop, List.length_take]; have := HLL.out; omega
          have hps : ((⟨p.toArray⟩ : ByteArray)).size = p.length := List.size_toArray
          rw [HN6.out]
          exact getRow_any _ ((b.take e0).drop o) (by omega) rs.length (by have := HN6.out; omega) ⟨p.toArray⟩ (by rw [hps, hbl]; omega) wr HM)
        obtain ⟨Q, hQ⟩ : ∃ Q, e0 - o = Q := ⟨_, rfl⟩
        obtain ⟨C, hC⟩ : ∃ C, cap - o = C := ⟨_, rfl⟩
        rw [hQ, hC] at HG
        simp only [hQ, hC] at hsl
        clear HM hT hQ hC
        cases hrow : rowCk rs.length p ((b.take e0).drop o) with
        | none =>
          have HE : Hid (R = none) := Lib.hid (by rw [← HR.out]; exact rinv_fail HEE.out HI.out h1 hrow)
          rw [hrow] at HG
          unfold bkRowV at HG
          clear hrow HI HR
          go_wp2_with fail
          refine HG.out.mono ?_
          rintro e w2 ⟨rfl, b2⟩
          have HB2 := Lib.hid (HB.out.trans (b2.mono hwr))
          clear b2 HG
          go_wp2_with fail
          go_ret2
          rw [HE.out]
          exact ⟨_, rfl, OwnK.nil _ _ _ _ _, HB2.out.alloc HB2.out.size _⟩
        | some q =>
          obtain ⟨r, k⟩ := q
          obtain ⟨s1, s2, s3, s4⟩ := rinv_step (by have := endC_le HEE.out; exact this) HI.out hrow
          have HI2 := Lib.hid s1
          have HEN := Lib.hid s4
          rw [hrow] at HG
          unfold bkRowV at HG
          clear hrow HI HR s1 s4
          have hk0 : ((k : Int) == 0) = false := by rw [beq_eq_false_iff_ne]; omega
          have hkb : k ≤ 1000000000 := by omega
          have hob : o ≤ 1000000000 := by omega
          have hn6b : n6 ≤ 1000000000 := by omega
          obtain ⟨q4, hq4⟩ : ∃ q, decide (n6 % 4 = 0) = q := ⟨_, rfl⟩
          have HQ4 := Lib.hid hq4
          have HW : Hid (∀ w, Calls Tryd.prog 74 #[.int .i64 (n6 : Int)] w fun e w' => e = .returned (.bool q4) ∧ w' = w) := Lib.hid (by rw [← hq4]; exact isWhole_any n6 (by omega))
          clear hq4
          go_wp2_with fail
          refine HG.out.mono ?_
          rintro e w2 ⟨rfl, b2⟩
          have HB2 := Lib.hid (HB.out.trans (b2.mono hwr))
          have HOR2 := Lib.hid (HOR.out.below b2)
          have HOP2 := Lib.hid (HOP.out.below b2)
          clear b2 HG HOR HOP HB hsl
          go_wp2_with fail
          have HBK : Hid (BlkAt (w2.alloc (.cells #[.string ⟨r.k.toArray⟩, .string ⟨r.v.toArray⟩] 128)) w2.heap.size #[.string ⟨r.k.toArray⟩, .string ⟨r.v.toArray⟩] 128) := Lib.hid (BlkAt.new _ _ _)
          have hal : Below w2.heap.size w2 (w2.alloc (.cells #[.string ⟨r.k.toArray⟩, .string ⟨r.v.toArray⟩] 128)) := (Below.refl _ w2).alloc (Nat.le_refl _) _
          have HB3 := Lib.hid (HB2.out.trans (hal.mono HB2.out.size))
          have HOR3 := Lib.hid (HOR2.out.below hal)
          have HOP3 := Lib.hid (HOP2.out.below hal)
          have hgr : Hid (∀ g, (Value.slice a6 n6 c6).ownBlock = some g → g < w2.heap.size) := Lib.hid fun g hg => row_lt HOR2.out g hg
          have hgp : Hid (∀ g, (Value.slice a7 n7 c7).ownBlock = some g → g < w2.heap.size) := Lib.hid fun g hg => row_lt HOP2.out g hg
          have hw2 := HB2.out.size
          clear hal HB2 HOR2 HOP2
          generalize w2.heap.size = g at *
          generalize w2.alloc (.cells #[.string ⟨r.k.toArray⟩, .string ⟨r.v.toArray⟩] 128) = w3 at *
          refine (HW.out _).mono ?_
          rintro e w3' ⟨rfl, hw3⟩
          subst hw3
          clear HW
          go_upto_if 37 with fail
          go_cut [7] (fun vp wx => ∃ (a8 : Option Addr) (n8 c8 : Nat), vp = .slice a8 n8 c8 ∧ Hid (OwnK encKv 2 128 w.heap.size wx (.slice a6 n6 c6) rs) ∧ Hid (OwnK encN 1 3 w.heap.size wx (.slice a8 n8 c8) (bkEnds (rs ++ [r]))) ∧ Hid (Below w.heap.size w wx) ∧ Hid (BlkAt wx g #[.string ⟨r.k.toArray⟩, .string ⟨r.v.toArray⟩] 128))
          case first =>
            as_aux_lemma =>
            cases q4 with
            | true =>
              have HEN2 : Hid (bkEnds (rs ++ [r]) = bkEnds rs ++ [o]) := Lib.hid (by rw [HEN.out, if_pos (by rw [← HN6.out]; exact of_decide_eq_true HQ4.out)])
              have hel : Hid ((bkEnds rs).length ≤ 1000000000) := Lib.hid (by rw [bkEnds_len]; have := HN6.out; omega)
              go_wp2_with (at_builtin; refine wp_oneK elemK_n encN_len _ _ (by rfl) (by rfl) (by rfl) HOP3.out o _ (by rfl) _ (by rfl) (by rfl) (encN_one _) ?c1 ?c2 HB3.out.size ?_)
              case c1 => have := hel.out; omega
              case c2 => have := hel.out; unfold maxLen; omega
              intro v5 w5 o5 b5 u5 n5
              have HOR5 := Lib.hid (HOP3.out.beside HOR3.out (by decide) u5)
              have HBK5 : Hid (BlkAt w5 g #[.string ⟨r.k.toArray⟩, .string ⟨r.v.toArray⟩] 128) := Lib.hid ((u5.block g HBK.out.lt (fun e => by have := hgp.out g e; omega)).trans HBK.out)
              have HB5 := Lib.hid (HB3.out.trans b5)
              rw [← HEN2.out] at o5
              obtain ⟨a5, c5, rfl, -⟩ := o5.kform
              have HO5 := Lib.hid o5
              clear o5 b5 u5 n5
              go_wp2_with fail
              go_meet
              exact ⟨_, _, _, rfl, HOR5, HO5, HB5, HBK5⟩
            | false =>
              have HEN2 : Hid (bkEnds (rs ++ [r]) = bkEnds rs) := Lib.hid (by rw [HEN.out, if_neg (by rw [← HN6.out]; exact of_decide_eq_false HQ4.out), List.append_nil])
              rw [← HEN2.out] at HOP3
              go_wp2_with fail
              go_meet
              exact ⟨_, _, _, rfl, HOR3, HOP3, HB3, HBK⟩
          case rest =>
          clear HBK HB3 HOR3 HOP3 hgp HEN
          obtain ⟨a8, n8, c8, rfl, HOR, HOP, HB, HBK⟩ := hcut
          have hwc := HB.out.size
          have hgl := HBK.out.lt
          obtain ⟨v4, w4, hrun, o4, b4, u4, -⟩ := run_oneK (ty := 124) elemK_row encKv_len (w := wc.drew) HOR.out r (encKv_one r) (by have := HN6.out; omega) (by have := HN6.out; unfold maxLen; omega) hwc
          have HRUN := Lib.hid hrun
          have HOP4 := Lib.hid (HOR.out.beside (w := wc.drew) HOP.out (by decide) u4)
          have HB4 := Lib.hid (HB.out.drew.trans b4)
          have HBK2 : Hid (BlkAt (wc.drew.alloc (.cells (encKv r).toArray 128)) g #[.string ⟨r.k.toArray⟩, .string ⟨r.v.toArray⟩] 128) := Lib.hid (BlkAt.more (w := wc.drew) HBK.out _)
          have HBK4 : Hid (BlkAt w4 g #[.string ⟨r.k.toArray⟩, .string ⟨r.v.toArray⟩] 128) := Lib.hid ((u4.block g hgl (fun e => by have := hgr.out g e; omega)).trans HBK.out)
          obtain ⟨a9, c9, rfl, -⟩ := o4.kform
          obtain ⟨n9, hn9⟩ : ∃ n9, (rs ++ [r]).length = n9 := ⟨_, rfl⟩
          have HN9 : Hid (n9 = (rs ++ [r]).length) := Lib.hid hn9.symm
          have hn9b : n9 ≤ o + k := by have := HN6.out; rw [← hn9, List.length_append, List.length_singleton]; omega
          have HO4 := Lib.hid o4
          rw [hn9] at HO4 HRUN
          clear hrun o4 b4 u4 hn9 HOR HOP
          go_wp2_with fail
          refine wp_region_held_drew (S := fun W => BlkAt W g #[.string ⟨r.k.toArray⟩, .string ⟨r.v.toArray⟩] 128) (by kernel_rfl) HBK.out (fun hHeld => ?_)
          refine takeYes (i := 0) (k := 42) (v := .slice a6 n6 c6) rfl (by kernel_rfl) (by kernel_rfl) (by kernel_rfl) (by kernel_rfl) (fun _ _ _ h => h) (by kernel_rfl) ?_ (by assumption) ?_
          · intro W hSw; first | (go_simp; done) | go_simp
          try simp only [Act.put, List.setIfInBounds_toArray, List.set_cons_zero, List.set_cons_succ]
          refine takeYes (i := 1) (k := 43) (v := .agg #[.string ⟨r.k.toArray⟩, .string ⟨r.v.toArray⟩]) rfl (by kernel_rfl) (by kernel_rfl) (by kernel_rfl) (by kernel_rfl) (fun _ _ _ h => h) (by kernel_rfl) ?_ (by assumption) ?_
          · intro W hSw; obtain ⟨d0, d1⟩ := bkBlk2 hSw; first | (go_simp; done) | go_simp
          try simp only [Act.put, List.setIfInBounds_toArray, List.set_cons_zero, List.set_cons_succ]
          refine takeYes (i := 4) (k := 46) (v := .pointer (some ⟨g, 0, none⟩)) rfl (by kernel_rfl) (by kernel_rfl) (by kernel_rfl) (by kernel_rfl) (fun _ _ _ h => h) (by kernel_rfl) ?_ (by assumption) ?_
          · intro W hSw; first | (go_simp; done) | go_simp
          try simp only [Act.put, List.setIfInBounds_toArray, List.set_cons_zero, List.set_cons_succ]
          refine takeYes (i := 5) (k := 47) (v := .string ⟨r.k.toArray⟩) rfl (by kernel_rfl) (by kernel_rfl) (by kernel_rfl) (by kernel_rfl) (fun _ _ _ h => h) (by kernel_rfl) ?_ (by assumption) ?_
          · intro W hSw; obtain ⟨d0, d1⟩ := bkBlk2 hSw; first | (go_simp; done) | go_simp
          try simp only [Act.put, List.setIfInBounds_toArray, List.set_cons_zero, List.set_cons_succ]
          refine takeYes (i := 6) (k := 48) (v := .int .i64 (o : Int)) rfl (by kernel_rfl) (by kernel_rfl) (by kernel_rfl) (by kernel_rfl) (fun _ _ _ h => h) (by kernel_rfl) ?_ (by assumption) ?_
          · intro W hSw; first | (go_simp; done) | go_simp
          try simp only [Act.put, List.setIfInBounds_toArray, List.set_cons_zero, List.set_cons_succ]
          refine takeYes (i := 7) (k := 49) (v := .int .i64 (k : Int)) rfl (by kernel_rfl) (by kernel_rfl) (by kernel_rfl) (by kernel_rfl) (fun _ _ _ h => h) (by kernel_rfl) ?_ (by assumption) ?_
          · intro W hSw; first | (go_simp; done) | go_simp
          try simp only [Act.put, List.setIfInBounds_toArray, List.set_cons_zero, List.set_cons_succ]
          refine takeYes (i := 8) (k := 50) (v := .int .i64 ((o : Int) + (k : Int))) rfl (by kernel_rfl) (by kernel_rfl) (by kernel_rfl) (by kernel_rfl) (fun _ _ _ h => h) (by kernel_rfl) ?_ (by assumption) ?_
          · intro W hSw; have hwp : IntKind.i64.wrap ((o : Int) + (k : Int)) = (o : Int) + (k : Int) := IntWalk.i64_in _ (by omega)
            first | (go_simp; done) | (go_simp; first | done | rw [hwp])
          try simp only [Act.put, List.setIfInBounds_toArray, List.set_cons_zero, List.set_cons_succ]
          refine wpAnyH_ready (rs := [2]) (by kernel_rfl) (by simp) (AllReadyH.cons rfl (fun K hK => ?_) AllReadyH.nil)
          go_simp
          refine hK.out _ _ HBK2.out (fun hHeld2 => ?_)
          clear hK K hHeld
          try simp only [Act.put, List.setIfInBounds_toArray, List.set_cons_zero, List.set_cons_succ]
          refine wpAnyH_ready (rs := [3]) (by kernel_rfl) (by simp) (AllReadyH.cons rfl (fun K hK => ?_) AllReadyH.nil)
          refine step_appD 45 rfl (by kernel_rfl) (.tmp 42) (.tmp 44) 124 rfl rfl rfl HRUN.out ?_
          refine hK.out _ _ HBK4.out (fun hHeld3 => ?_)
          clear hK K hHeld2
          try simp only [Act.put, List.setIfInBounds_toArray, List.set_cons_zero, List.set_cons_succ]
          refine takeYes (i := 9) (k := 6) (v := .slice a9 n9 c9) rfl (by kernel_rfl) (by kernel_rfl) (by kernel_rfl) (by kernel_rfl) (fun _ _ _ h => h) (by kernel_rfl) ?_ (by assumption) ?_
          · intro W hSw; first | (go_simp; done) | go_simp
          try simp only [Act.put, List.setIfInBounds_toArray, List.set_cons_zero, List.set_cons_succ]
          refine takeYes (i := 10) (k := 8) (v := .string ⟨r.k.toArray⟩) rfl (by kernel_rfl) (by kernel_rfl) (by kernel_rfl) (by kernel_rfl) (fun _ _ _ h => h) (by kernel_rfl) ?_ (by assumption) ?_
          · intro W hSw; first | (go_simp; done) | go_simp
          try simp only [Act.put, List.setIfInBounds_toArray, List.set_cons_zero, List.set_cons_succ]
          refine takeYes (i := 11) (k := 9) (v := .int .i64 ((o : Int) + (k : Int))) rfl (by kernel_rfl) (by kernel_rfl) (by kernel_rfl) (by kernel_rfl) (fun _ _ _ h => h) (by kernel_rfl) ?_ (by assumption) ?_
          · intro W hSw; first | (go_simp; done) | go_simp
          try simp only [Act.put, List.setIfInBounds_toArray, List.set_cons_zero, List.set_cons_succ]
          refine wpAnyH_done (by kernel_rfl) ?_ _
          clear hHeld3
          go_wp2_with fail
          go_roundg (e0 - (o + k))
          case measure => omega
          case rel => exact ⟨rs ++ [r], r.k, o + k, a9, a8, n9, c9, n8, c8, rfl, rfl, rfl, by go_num, by omega, by omega, hn9b, HN9, HI2, HO4, HOP4, HB4⟩
      · obtain rfl : o = e0 := by omega
        have hz1 : ¬ (o : Int) < (o : Int) := by omega
        have HE : Hid (R = if b.drop o = placesB (bkEnds rs) then some rs else none) := Lib.hid (by rw [← HR.out]; exact rinv_end HEE.out HI.out)
        have hsl := fun W => sl_lB W a len cap o (by omega) (by omega)
        have HM := (HRD.out.below HB.out).drop o (by omega)
        generalize hT : (if cap = o then a else a.map (·.add o)) = T at hsl HM
        obtain ⟨Q, hQ⟩ : ∃ Q, len - o = Q := ⟨_, rfl⟩
        obtain ⟨C, hC⟩ : ∃ C, cap - o = C := ⟨_, rfl⟩
        rw [hQ, hC] at HM
        simp only [hQ, hC] at hsl
        obtain ⟨q, hq⟩ : ∃ q, decide (b.drop o = placesB (bkEnds rs)) = q := ⟨_, rfl⟩
        have HE2 : Hid (q = true → R = some rs) := Lib.hid fun h => by rw [HE.out, if_pos (of_decide_eq_true (by rw [hq]; exact h))]
        have HE3 : Hid (q = false → R = none) := Lib.hid fun h => by rw [HE.out, if_neg (of_decide_eq_false (by rw [hq]; exact h))]
        have HMM := Lib.hid (show RdB wr.drew (.slice T Q C) (b.drop o) from HM)
        have HPP : Hid (Calls Tryd.prog 77 #[.slice a7 n7 c7] wr.drew (MkB (placesB (bkEnds rs)) wr.drew)) := Lib.hid (by
          refine putPlaces_any _ (bkEnds rs) ?_ ?_ wr.drew (OwnV.rd (w := wr.drew) HOP.out.places)
          · rw [bkEnds_len]; have := HN6.out; omega
          · intro x hx
            have := endsOf_bd HI.out x hx
            omega)
        clear hT hQ hC HM HE HR HI HOP
        go_wp2_with fail
        refine wp_region_held_drew (S := fun _ => True) (by kernel_rfl) trivial (fun hHeld => ?_)
        refine takeYes (i := 0) (k := 51) (v := .slice a len cap) rfl (by kernel_rfl) (by kernel_rfl) (by kernel_rfl) (by kernel_rfl) (fun _ _ _ h => h) (by kernel_rfl) ?_ (by assumption) ?_
        · intro W hSw; first | (go_simp; done) | go_simp
        try simp only [Act.put, List.setIfInBounds_toArray, List.set_cons_zero, List.set_cons_succ]
        refine takeYes (i := 1) (k := 52) (v := .int .i64 (o : Int)) rfl (by kernel_rfl) (by kernel_rfl) (by kernel_rfl) (by kernel_rfl) (fun _ _ _ h => h) (by kernel_rfl) ?_ (by assumption) ?_
        · intro W hSw; first | (go_simp; done) | go_simp
        try simp only [Act.put, List.setIfInBounds_toArray, List.set_cons_zero, List.set_cons_succ]
        refine takeYes (i := 2) (k := 53) (v := .slice T Q C) rfl (by kernel_rfl) (by kernel_rfl) (by kernel_rfl) (by kernel_rfl) (fun _ _ _ h => h) (by kernel_rfl) ?_ (by assumption) ?_
        · intro W hSw; have hsl2 := hsl W; first | (go_simp; done) | go_simp
        try simp only [Act.put, List.setIfInBounds_toArray, List.set_cons_zero, List.set_cons_succ]
        refine takeYes (i := 3) (k := 54) (v := .slice a7 n7 c7) rfl (by kernel_rfl) (by kernel_rfl) (by kernel_rfl) (by kernel_rfl) (fun _ _ _ h => h) (by kernel_rfl) ?_ (by assumption) ?_
        · intro W hSw; first | (go_simp; done) | go_simp
        try simp only [Act.put, List.setIfInBounds_toArray, List.set_cons_zero, List.set_cons_succ]
        refine wpAnyH_ready (rs := [4]) (by kernel_rfl) (by simp) (AllReadyH.cons rfl (fun K hK => ?_) AllReadyH.nil)
        go_simp
        refine HPP.out.mono ?_
        rintro e w5 ⟨v5, rfl, o5, b5⟩
        refine hK.out _ _ trivial (fun hHeld2 => ?_)
        clear hK K hHeld
        try simp only [Act.put, List.setIfInBounds_toArray, List.set_cons_zero, List.set_cons_succ]
        obtain ⟨a5, n5, c5, rfl, -⟩ := o5.form
        have HBE : Hid (Calls Tryd.prog 95 #[.slice T Q C, .slice a5 n5 c5] w5 fun e w' => e = .returned (.bool q) ∧ DrN w5 w') := Lib.hid (by rw [← hq]; exact bequal_any _ _ _ _ _ (HMM.out.below b5) o5.rd)
        have HB5 := Lib.hid (HB.out.drew.trans (b5.mono hwr))
        have HOR5 := Lib.hid (OwnK.below (w := wr.drew) HOR.out b5)
        clear o5 b5 HPP HB HOR
        refine wpAnyH_ready (rs := [5]) (by kernel_rfl) (by simp) (AllReadyH.cons rfl (fun K hK => ?_) AllReadyH.nil)
        go_simp
        refine HBE.out.mono ?_
        rintro e w6 ⟨rfl, d6⟩
        refine hK.out _ _ trivial (fun hHeld3 => ?_)
        clear hK K hHeld2
        try simp only [Act.put, List.setIfInBounds_toArray, List.set_cons_zero, List.set_cons_succ]
        refine takeYes (i := 6) (k := 57) (v := .bool (!q)) rfl (by kernel_rfl) (by kernel_rfl) (by kernel_rfl) (by kernel_rfl) (fun _ _ _ h => h) (by kernel_rfl) ?_ (by assumption) ?_
        · intro W hSw; first | (go_simp; done) | go_simp
        try simp only [Act.put, List.setIfInBounds_toArray, List.set_cons_zero, List.set_cons_succ]
        refine wpAnyH_done (by kernel_rfl) ?_ _
        have b6 := d6.below w5.heap.size
        have HB6 := Lib.hid (HB5.out.trans (b6.mono HB5.out.size))
        have HOR6 := Lib.hid (HOR5.out.below b6)
        clear hHeld3 HB5 HOR5 d6 b6 HBE
        cases q with
        | true =>
          have HV := Lib.hid (HE2.out rfl)
          clear HE2 HE3
          go_wp2_with fail
          go_ret2
          rw [HV.out]
          exact ⟨_, rfl, HOR6.out, HB6.out⟩
        | false =>
          have HV := Lib.hid (HE3.out rfl)
          clear HE2 HE3
          go_wp2_with fail
          go_ret2
          rw [HV.out]
          exact ⟨_, rfl, OwnK.nil _ _ _ _ _, HB6.out⟩
end Go.Proofs.YtennpdhnjaemeaaDoor
/- The walks of sort.Search over Seek's test, of Seek. -/
namespace Go.Proofs.YtennpdhnjaemeaaDoor
set_option linter.unusedVariables false
set_option maxRecDepth 100000
open Go.RowKit
/-- where the search ends -/
def BCuts (p : Nat → Bool) (n k : Nat) : Prop := k ≤ n ∧ (∀ i, i < k → p i = false) ∧ ∀ i, k ≤ i → i < n → p i = true
def BSearch (p : Nat → Bool) (n : Nat) (w : World) (e : Ending) (w' : World) : Prop := ∃ k : Nat, BCuts p n k ∧ e = .returned (.int .i64 k) ∧ Below w.heap.size w w'
/-- The two cells of a key and its value. -/
def AtKv (w : World) (b o : Nat) (r : Kv) : Prop := w.cell? ⟨b, o, none⟩ = some (.string ⟨r.k.toArray⟩) ∧ w.cell? ⟨b, o + 1, none⟩ = some (.string ⟨r.v.toArray⟩)
theorem AtKv.under {w W : World} {b o B : Nat} {r : Kv} (h : AtKv w b o r) (hb : b < B) (hW : Below B w W) : AtKv W b o r := ⟨(hW.cell (p := ⟨b, o, none⟩) hb).trans h.1, (hW.cell (p := ⟨b, o + 1, none⟩) hb).trans h.2⟩
theorem rdKv_len {w : World} {v : Value} {xs : List Kv} (h : RdK encKv 2 w v xs) : ∃ a len cap, v = .slice a len cap ∧ len = xs.length := by
  rcases h with ⟨a, cap, h1, rfl⟩ | ⟨b, off, cap, h1, -⟩
  · exact ⟨a, 0, cap, h1, rfl⟩
  · exact ⟨_, _, cap, h1, rfl⟩
theorem RdK.at2 {w : World} {a : Option Addr} {len cap : Nat} {xs : List Kv} (h : RdK encKv 2 w (.slice a len cap) xs) (q : Nat) (x : Kv) (hx : xs[q]? = some x) :
    ∃ b off, a = some ⟨b, off, none⟩ ∧ b < w.heap.size ∧ AtKv w b (off + q * 2) x := by
  rcases h with ⟨_, _, _, rfl⟩ | ⟨b, off, c, e, h1, h2, h3, h4, h5⟩
  · simp at hx
  · simp only [Value.slice.injEq] at e
    exact ⟨b, off, e.1, h4, h5 q 0 x hx (by decide), h5 q 1 x hx (by decide)⟩
def bp (rs : List Kv) (k : List UInt8) (i : Nat) : Bool := match rs[i]? with
  | some r => !decide (r.k < k)
  | none => true
theorem bp_mono {rs : List Kv} (hs : RiseK rs) (k : List UInt8) : ∀ i j, i < j → bp rs k i = true → bp rs k j = true := by
  intro i j hij hi
  unfold bp at hi ⊢
  rcases Nat.lt_or_ge j rs.length with h | h
  · rw [List.getElem?_eq_getElem (by omega)] at hi
    rw [List.getElem?_eq_getElem h]
    simp only [Bool.not_eq_true', decide_eq_false_iff_not] at hi ⊢
    have hl := List.pairwise_iff_getElem.1 hs i j (by omega) h hij
    exact fun hj => hi (List.lt_trans hl hj)
  · rw [List.getElem?_eq_none h]
theorem bp_end {rs : List Kv} {k : List UInt8} {n : Nat} (hc : BCuts (bp rs k) rs.length n) : seekK rs k = n := by
  obtain ⟨h1, h2, h3⟩ := hc
  refine seekK_at (fun i r hi hr => ?_) (fun r hr => ?_) h1
  · have := h2 i hi
    unfold bp at this
    rw [hr] at this
    simpa using this
  · have := h3 n (Nat.le_refl _) (List.getElem?_eq_some_iff.1 hr).1
    unfold bp at this
    rw [hr] at this
    simpa using this
def SeekRes (r : Option (List Kv)) (k : List UInt8) (w : World) (e : Ending) (w' : World) : Prop :=
  e = .returned (.tuple #[.int .i64 (match r with | some rs => (seekK rs k : Int) | none => -1), .int .i64 (if r.isSome then 0 else 8)]) ∧ Below w.heap.size w w'
end Go.Proofs.YtennpdhnjaemeaaDoor
/- How many bytes the rows of a block have. -/
namespace Go.Proofs.YtennpdhnjaemeaaDoor
set_option linter.unusedVariables false
theorem body_bd (K : Nat) : ∀ (rs : List Kv) (n : Nat) (p : List UInt8), (∀ r ∈ rs, r.k.length ≤ K ∧ r.v.length ≤ K) → (bodyB n p rs).length ≤ rs.length * (2 * K + 30)
  | [], n, p, _ => Nat.zero_le _
  | r :: rs, n, p, h => by
    have h1 := body_bd K rs (n + 1) r.k fun x hx => h x (List.mem_cons_of_mem _ hx)
    have h2 := rowB_len n p r
    obtain ⟨h3, h4⟩ := h r (List.mem_cons_self ..)
    have h5 := (putN_len (shB n p r.k)).2
    have h6 := (putN_len (r.k.length - shB n p r.k)).2
    have h7 := (putN_len r.v.length).2
    rw [bodyB, List.length_append, List.length_cons, Nat.succ_mul]
    omega
end Go.Proofs.YtennpdhnjaemeaaDoor
/- A builder of the call's own: its calls, and what else holds beside them. The laws' same. -/
namespace Go.Proofs.YtennpdhnjaemeaaDoor
set_option linter.unusedVariables false
set_option maxRecDepth 100000
open Go.RowKit
/-- The types of a builder's blocks. -/
def BdT (t : Nat) : Prop := t = 106 ∨ t = 5 ∨ t = 3
/-- F names blocks of a builder alone. -/
def TyF (w : World) (F : Nat → Prop) : Prop := ∀ g, F g → ∃ vs t, w.heap[g]? = some (.cells vs t (0, 0)) ∧ BdT t
/-- A builder of the call's own. -/
def BdOwn (w0 w : World) (b : Nat) (rs : List Kv) : Prop := Below w0.heap.size w0 w ∧ ∃ F, BdAt w b F rs ∧ (∀ g, F g → w0.heap.size ≤ g) ∧ TyF w F
variable {w0 w w' : World} {b : Nat} {rs : List Kv}
theorem row_ty {E B k n : Nat} {u : Value} {xs : List Value} (h : w.ownsRow B E k u n xs) (hE : BdT E) : ∀ g, u.ownBlock = some g → ∃ vs t, w.heap[g]? = some (.cells vs t (0, 0)) ∧ BdT t := by
  intro g hg
  rcases h.2 with ⟨rfl, -⟩ | ⟨g1, c1, cur1, rfl, -, k1, -⟩
  · cases hg
  · obtain rfl : g1 = g := Option.some.inj hg
    exact ⟨_, _, k1, hE⟩
/-- What a builder holds, its blocks named by themselves. -/
theorem BdAt.mini {F : Nat → Prop} (h : BdAt w b F rs) : ∃ F0, BdAt w b F0 rs ∧ (∀ g, F0 g → F g) ∧ TyF w F0 := by
  obtain ⟨h0, vr, vp, h1, h2, h3, h4, h5, h6, h7⟩ := h
  have inF : ∀ g, g < w.heap.size → F g ∨ w.heap.size ≤ g → F g := fun g hg e => by
    rcases e with e | e
    · exact e
    · omega
  refine ⟨fun g => g = b ∨ vr.ownBlock = some g ∨ vp.ownBlock = some g, ⟨h0, vr, vp, h1, h2, h3, fun g hg => .inl (.inr (.inl hg)), fun g hg => .inl (.inr (.inr hg)), .inl (.inl rfl), UpdF.refl _ _⟩, fun g hg => ?_, fun g hg => ?_⟩
  · rcases hg with rfl | hg | hg
    · exact inF g h1.lt h6
    · exact inF g (row_lt h2 g hg) (h4 g hg)
    · exact inF g (row_lt h3 g hg) (h5 g hg)
  · rcases hg with rfl | hg | hg
    · exact ⟨_, _, h1, .inl rfl⟩
    · exact row_ty h2 (.inr (.inl rfl)) g hg
    · exact row_ty h3 (.inr (.inr rfl)) g hg
/-- What a call of a builder leaves: all rows of other types. -/
def Beside (w w' : World) : Prop := ∀ (E B k n : Nat) (u : Value) (xs : List Value), ¬ BdT E → w.ownsRow B E k u n xs → w'.ownsRow B E k u n xs
theorem row_upd {F : Nat → Prop} (ht : TyF w F) (hu : UpdF F w w') : Beside w w' := fun E B k n u xs hE hr => by
  refine row_same hr fun g hg => hu.block g (row_lt hr g hg) fun hf => ?_
  obtain ⟨vs, t, h1, h2⟩ := ht g hf
  rcases hr.2 with ⟨rfl, -⟩ | ⟨g1, c1, cur1, rfl, -, k1, -⟩
  · cases hg
  · obtain rfl : g1 = g := Option.some.inj hg
    rw [k1] at h1
    simp only [Option.some.injEq, Obj.cells.injEq] at h1
    exact hE (h1.2.1 ▸ h2)
theorem BdOwn.below (h : BdOwn w0 w b rs) (u : Below w.heap.size w w') : BdOwn w0 w' b rs := by
  obtain ⟨h1, F, h2, h3, h4⟩ := h
  refine ⟨h1.trans (u.mono h1.size), F, h2.below u, h3, fun g hg => ?_⟩
  obtain ⟨vs, t, h5, h6⟩ := h4 g hg
  exact ⟨vs, t, (u.block g (Array.getElem?_eq_some_iff.1 h5).1).trans h5, h6⟩
/-- A row of another type was written. -/
theorem BdOwn.beside (h : BdOwn w0 w b rs) {E B k n : Nat} {u : Value} {xs : List Value} (hr : w.ownsRow B E k u n xs) (hE : ¬ BdT E) (hu : UpdF (fun g => u.ownBlock = some g) w w') (hb : Below w0.heap.size w0 w') : BdOwn w0 w' b rs := by
  obtain ⟨h1, F, h2, h3, h4⟩ := h
  have hd : ∀ g, F g → ¬ u.ownBlock = some g := fun g hg hug => by
    obtain ⟨vs, t, h5, h6⟩ := h4 g hg
    rcases hr.2 with ⟨rfl, -⟩ | ⟨g1, c1, cur1, rfl, -, k1, -⟩
    · cases hug
    · obtain rfl : g1 = g := Option.some.inj hug
      rw [k1] at h5
      simp only [Option.some.injEq, Obj.cells.injEq] at h5
      exact hE (h5.2.1 ▸ h6)
  refine ⟨hb, F, h2.upd hu hd, h3, fun g hg => ?_⟩
  obtain ⟨vs, t, h5, h6⟩ := h4 g hg
  exact ⟨vs, t, (hu.block g (Array.getElem?_eq_some_iff.1 h5).1 (hd g hg)).trans h5, h6⟩
theorem BdOwn.lt (h : BdOwn w0 w b rs) : b < w.heap.size := by
  obtain ⟨-, F, ⟨-, vr, vp, hL⟩, -⟩ := h
  exact hL.lt
theorem bkNew_own (h : Below w0.heap.size w0 w) : Calls Tryd.prog 50 #[] w fun e w' => e = .returned (.pointer (some ⟨w.heap.size, 0, none⟩)) ∧ BdOwn w0 w' w.heap.size [] ∧ Below w.heap.size w w' := by
  refine (bkNew_any w).mono ?_
  rintro e w' ⟨rfl, h1, h2, h3⟩
  obtain ⟨F, g1, g2, g3⟩ := h1.mini
  exact ⟨rfl, ⟨h.trans (h2.mono h.size), F, g1, fun g hg => by rw [g2 g hg]; exact h.size, g3⟩, h2⟩
theorem add_own (h : BdOwn w0 w b rs) (key val : ByteArray) (hsz : (bodyB 0 [] rs).length + key.size + val.size ≤ 1000000000) :
    Calls Tryd.prog 53 #[.pointer (some ⟨b, 0, none⟩), .string key, .string val] w fun e w' => e = .returned (.bool (decide (addOk rs key.data.toList))) ∧ BdOwn w0 w' b (addK rs ⟨key.data.toList, val.data.toList⟩) ∧ Beside w w' := by
  obtain ⟨h1, F, h2, h3, h4⟩ := h
  refine (add_any b F rs key val w h2 hsz).mono ?_
  rintro e w' ⟨rfl, g1, g2⟩
  obtain ⟨F', k1, k2, k3⟩ := g1.mini
  refine ⟨rfl, ⟨h1.trans (g2.below h1.size fun k hk hf => by have := h3 k hf; omega), F', k1, fun g hg => ?_, k3⟩, row_upd h4 g2⟩
  rcases k2 g hg with e | e
  · exact h3 g e
  · exact Nat.le_trans h1.size e.1
theorem size_own (h : BdOwn w0 w b rs) (hsz : (bodyB 0 [] rs).length ≤ 1000000000) : Calls Tryd.prog 51 #[.pointer (some ⟨b, 0, none⟩)] w fun e w' => e = .returned (.int .i64 ((blockB rs).length : Int)) ∧ DrN w w' := by
  obtain ⟨h1, F, h2, h3, h4⟩ := h
  exact bkSize_any b F rs w h2 hsz
theorem bytes_own (h : BdOwn w0 w b rs) (hsz : (bodyB 0 [] rs).length ≤ 1000000000) : Calls Tryd.prog 54 #[.pointer (some ⟨b, 0, none⟩)] w (MkB (blockB rs) w) := by
  obtain ⟨h1, F, h2, h3, h4⟩ := h
  exact bytes_any b F rs w h2 hsz
theorem nobd_row : ¬ BdT 128 := by unfold BdT; decide
end Go.Proofs.YtennpdhnjaemeaaDoor
/- Two rows of bytes that grow side by side. -/
namespace Go.Proofs.YtennpdhnjaemeaaDoor
set_option linter.unusedVariables false
open Go.RowKit
/-- TwoB rows of bytes that grow side by side. -/
structure TwoB (w wr : World) (vb : Value) (L : List UInt8) (ve : Value) (E : List UInt8) : Prop where
  fst : OwnB w.heap.size wr vb L
  snd : OwnB w.heap.size wr ve E
  dj : ∀ g, vb.ownBlock = some g → ve.ownBlock ≠ some g
  bel : Below w.heap.size w wr
variable {w wr wl : World} {vb ve v' : Value} {L E cs : List UInt8}
theorem TwoB.swap (h : TwoB w wr vb L ve E) : TwoB w wr ve E vb L := ⟨h.snd, h.fst, fun g h1 h2 => h.dj g h2 h1, h.bel⟩
theorem TwoB.below (h : TwoB w wr vb L ve E) (u : Below wr.heap.size wr wl) : TwoB w wl vb L ve E := ⟨h.fst.below u, h.snd.below u, h.dj, h.bel.trans (u.mono h.bel.size)⟩
theorem TwoB.app (h : TwoB w wr vb L ve E) (o : OwnB 0 wl v' (L ++ cs)) (g : wr.grownBy wl vb.ownBlock) (n : ∀ g, v'.ownBlock = some g → vb.ownBlock = some g ∨ wr.heap.size ≤ g) : TwoB w wl v' (L ++ cs) ve E := by
  have hs := h.bel.size
  refine ⟨OwnV.rebase o fun x hx => ?_, h.snd.kept g fun x hx e => h.dj x e hx, fun x hx hx' => ?_, h.bel.grown g hs fun k hk => (h.fst.where k hk).1⟩
  · rcases n x hx with e | e
    · exact (h.fst.where x e).1
    · omega
  · have := (h.snd.where x hx').2
    rcases n x hx with e | e
    · exact h.dj x e hx'
    · omega
end Go.Proofs.YtennpdhnjaemeaaDoor
