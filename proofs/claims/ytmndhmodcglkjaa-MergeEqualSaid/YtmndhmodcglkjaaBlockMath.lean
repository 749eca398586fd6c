/- Plain mathematics of blocks of rows: what keys share, rows as bytes, the places behind them; what is laid is read again. -/
import Derived.Test.YtmndhmodcglkjaaNumMath
namespace Go.Proofs.Ytmndhmodcglkjaa
set_option linter.unusedVariables false
/-- A row: its key's bytes, its value's. -/
structure Kv where
  k : List UInt8
  v : List UInt8
/-- How many bytes two keys share. -/
def shareN : List UInt8 → List UInt8 → Nat
  | a :: x, b :: y => if a = b then shareN x y + 1 else 0
  | _, _ => 0
theorem shareN_le : ∀ x y : List UInt8, shareN x y ≤ x.length ∧ shareN x y ≤ y.length
  | [], y => by simp [shareN]
  | a :: x, [] => by simp [shareN]
  | a :: x, b :: y => by
    unfold shareN
    split
    · have := shareN_le x y; simp; omega
    · simp
theorem shareN_take : ∀ x y : List UInt8, x.take (shareN x y) = y.take (shareN x y)
  | [], y => by simp [shareN]
  | a :: x, [] => by simp [shareN]
  | a :: x, b :: y => by
    unfold shareN
    split
    · rename_i h; subst h; rw [List.take_succ_cons, List.take_succ_cons, shareN_take x y]
    · simp
/-- Where a walk over both ends. -/
theorem shareN_at : ∀ {x y : List UInt8} {s : Nat}, x.take s = y.take s → s ≤ x.length → s ≤ y.length → (∀ a b, x[s]? = some a → y[s]? = some b → a ≠ b) → shareN x y = s
  | [], y, s, _, h, _, _ => by have : s = 0 := by simpa using h
                               subst this; simp [shareN]
  | a :: x, [], s, _, _, h, _ => by have : s = 0 := by simpa using h
                                    subst this; simp [shareN]
  | a :: x, b :: y, 0, _, _, _, h => by unfold shareN; rw [if_neg (h a b rfl rfl)]
  | a :: x, b :: y, s + 1, h1, h2, h3, h4 => by
    rw [List.take_succ_cons, List.take_succ_cons] at h1
    obtain ⟨rfl, h5⟩ := List.cons.inj h1
    unfold shareN
    rw [if_pos rfl, shareN_at h5 (by simpa using h2) (by simpa using h3) fun c d hc hd => h4 c d (by simpa using hc) (by simpa using hd)]
def shB (i : Nat) (p k : List UInt8) : Nat := if i % 4 = 0 then 0 else shareN p k
theorem shB_le (i : Nat) (p k : List UInt8) : shB i p k ≤ p.length ∧ shB i p k ≤ k.length := by
  unfold shB
  split
  · exact ⟨Nat.zero_le _, Nat.zero_le _⟩
  · exact shareN_le p k
theorem shB_take (i : Nat) (p k : List UInt8) : p.take (shB i p k) = k.take (shB i p k) := by
  unfold shB
  split
  · simp
  · exact shareN_take p k
/-- The i-th row's bytes, p the key ahead. -/
def rowB (i : Nat) (p : List UInt8) (r : Kv) : List UInt8 := putN (shB i p r.k) ++ (putN (r.k.length - shB i p r.k) ++ (putN r.v.length ++ (r.k.drop (shB i p r.k) ++ r.v)))
def bodyB : Nat → List UInt8 → List Kv → List UInt8
  | _, _, [] => []
  | i, p, r :: rs => rowB i p r ++ bodyB (i + 1) r.k rs
/-- The places of the rows whose number is a multiple of four. -/
def endsB : Nat → Nat → List UInt8 → List Kv → List Nat
  | _, _, _, [] => []
  | i, o, p, r :: rs => (if i % 4 = 0 then [o] else []) ++ endsB (i + 1) (o + (rowB i p r).length) r.k rs
def lastK (p : List UInt8) : List Kv → List UInt8
  | [] => p
  | r :: rs => lastK r.k rs
theorem lastK_snoc : ∀ (rs : List Kv) (p : List UInt8) (r : Kv), lastK p (rs ++ [r]) = r.k
  | [], _, _ => rfl
  | x :: rs, p, r => lastK_snoc rs x.k r
theorem bodyB_snoc : ∀ (rs : List Kv) (i : Nat) (p : List UInt8) (r : Kv), bodyB i p (rs ++ [r]) = bodyB i p rs ++ rowB (i + rs.length) (lastK p rs) r
  | [], i, p, r => by simp [bodyB, lastK]
  | x :: rs, i, p, r => by
    rw [List.cons_append, bodyB, bodyB_snoc rs, bodyB, lastK, List.append_assoc, List.length_cons, show i + 1 + rs.length = i + (rs.length + 1) by omega]
theorem endsB_snoc : ∀ (rs : List Kv) (i o : Nat) (p : List UInt8) (r : Kv), endsB i o p (rs ++ [r]) = endsB i o p rs ++ if (i + rs.length) % 4 = 0 then [o + (bodyB i p rs).length] else []
  | [], i, o, p, r => by simp [endsB, bodyB]
  | x :: rs, i, o, p, r => by
    rw [List.cons_append, endsB, endsB_snoc rs, endsB, List.append_assoc, bodyB, List.length_append, List.length_cons, show i + 1 + rs.length = i + (rs.length + 1) by omega, Nat.add_assoc]
theorem endsB_len : ∀ (rs : List Kv) (i o : Nat) (p : List UInt8), (endsB i o p rs).length = (i + rs.length + 3) / 4 - (i + 3) / 4
  | [], i, o, p => by simp [endsB]
  | x :: rs, i, o, p => by
    rw [endsB, List.length_append, endsB_len rs, List.length_cons]
    by_cases h : i % 4 = 0
    · rw [if_pos h, List.length_singleton]; omega
    · rw [if_neg h, List.length_nil]; omega
def bkEnds (rs : List Kv) : List Nat := endsB 0 0 [] rs
theorem bkEnds_len (rs : List Kv) : (bkEnds rs).length = (rs.length + 3) / 4 := by
  unfold bkEnds
  rw [endsB_len]; omega
def blockB (rs : List Kv) : List UInt8 := bodyB 0 [] rs ++ ((bkEnds rs).flatMap (fixN 4) ++ fixN 4 (bkEnds rs).length)
/-- Keys rise. -/
def RiseK (rs : List Kv) : Prop := rs.Pairwise fun a b => a.k < b.k
/-- No text is too long for a number. -/
def SmallK (rs : List Kv) : Prop := ∀ r ∈ rs, r.k.length < 2 ^ 64 ∧ r.v.length < 2 ^ 64
/-- A row is read. -/
def rowP (p l : List UInt8) : Option (Kv × List UInt8) :=
  (getN l).bind fun a => (getN (l.drop a.2)).bind fun b => (getN (l.drop (a.2 + b.2))).bind fun c =>
    if p.length < a.1 ∨ (l.drop (a.2 + b.2 + c.2)).length < b.1 ∨ (l.drop (a.2 + b.2 + c.2)).length - b.1 < c.1 then none
    else some (⟨p.take a.1 ++ (l.drop (a.2 + b.2 + c.2)).take b.1, ((l.drop (a.2 + b.2 + c.2)).drop b.1).take c.1⟩, (l.drop (a.2 + b.2 + c.2)).drop (b.1 + c.1))
theorem drop_put (n : Nat) (r : List UInt8) : (putN n ++ r).drop (putN n).length = r := List.drop_left
theorem rowP_lay (i : Nat) (p : List UInt8) (r : Kv) (rest : List UInt8) (hk : r.k.length < 2 ^ 64) (hv : r.v.length < 2 ^ 64) : rowP p (rowB i p r ++ rest) = some (r, rest) := by
  obtain ⟨s1, s2⟩ := shB_le i p r.k
  have st := shB_take i p r.k
  unfold rowP rowB
  generalize shB i p r.k = s at *
  simp only [List.append_assoc]
  rw [get_put (by omega)]
  simp only [Option.bind_some]
  rw [drop_put, get_put (by omega)]
  simp only [Option.bind_some]
  rw [← List.drop_drop, drop_put, drop_put, get_put hv]
  simp only [Option.bind_some]
  rw [← List.drop_drop, ← List.drop_drop, drop_put, drop_put, drop_put]
  have hl : (r.k.drop s).length = r.k.length - s := List.length_drop
  rw [if_neg (by simp only [List.length_append, hl]; omega)]
  have e1 : (r.k.drop s ++ (r.v ++ rest)).take (r.k.length - s) = r.k.drop s := by rw [← hl]; exact List.take_left
  have e2 : (r.k.drop s ++ (r.v ++ rest)).drop (r.k.length - s) = r.v ++ rest := by rw [← hl]; exact List.drop_left
  rw [e1, e2, ← List.drop_drop, e2, st, List.take_append_drop, List.take_left, List.drop_left]
theorem rowP_len {p l : List UInt8} {r : Kv} {l' : List UInt8} (h : rowP p l = some (r, l')) : l'.length + 3 ≤ l.length := by
  unfold rowP at h
  obtain ⟨a, ha, h⟩ := Option.bind_eq_some_iff.1 h
  obtain ⟨b, hb, h⟩ := Option.bind_eq_some_iff.1 h
  obtain ⟨c, hc, h⟩ := Option.bind_eq_some_iff.1 h
  have h1 := getN_le (n := a.1) (k := a.2) ha
  have h2 := getN_le (n := b.1) (k := b.2) hb
  have h3 := getN_le (n := c.1) (k := c.2) hc
  split at h
  · cases h
  · have e := congrArg (fun x => (Option.getD x (r, [])).2.length) h
    simp only [Option.getD_some, List.length_drop] at e h1 h2 h3
    omega
/-- Rows one behind the other, p the key ahead. -/
def rowsP : Nat → List UInt8 → List UInt8 → Option (List Kv)
  | _, _, [] => some []
  | 0, _, _ :: _ => none
  | f + 1, p, x :: l => (rowP p (x :: l)).bind fun q => (rowsP f q.1.k q.2).map (q.1 :: ·)
theorem rowB_ne (i : Nat) (p : List UInt8) (r : Kv) (l : List UInt8) : ∃ x m, rowB i p r ++ l = x :: m := by
  have h := (putN_len (shB i p r.k)).1
  cases hc : rowB i p r ++ l with
  | nil =>
    have := congrArg List.length hc
    unfold rowB at this
    simp only [List.length_append, List.length_nil] at this
    omega
  | cons x m => exact ⟨x, m, rfl⟩
theorem rowsP_lay : ∀ (rs : List Kv) (f i : Nat) (p : List UInt8), rs.length ≤ f → SmallK rs → rowsP f p (bodyB i p rs) = some rs
  | [], f, i, p, _, _ => by cases f <;> rfl
  | r :: rs, 0, i, p, h, _ => by simp at h
  | r :: rs, f + 1, i, p, h, hs => by
    obtain ⟨x, m, e⟩ := rowB_ne i p r (bodyB (i + 1) r.k rs)
    obtain ⟨h1, h2⟩ := hs r (List.mem_cons_self ..)
    rw [bodyB, e, rowsP, ← e, rowP_lay i p r _ h1 h2, Option.bind_some]
    simp only []
    rw [rowsP_lay rs f (i + 1) r.k (by simpa using h) fun y hy => hs y (List.mem_cons_of_mem _ hy)]
    rfl
theorem rowsP_more : ∀ (f g : Nat) (p l : List UInt8), l.length ≤ f → l.length ≤ g → rowsP f p l = rowsP g p l
  | f, g, p, [], _, _ => by cases f <;> cases g <;> rfl
  | 0, g, p, x :: l, h, _ => by simp at h
  | f + 1, 0, p, x :: l, _, h => by simp at h
  | f + 1, g + 1, p, x :: l, h1, h2 => by
    rw [rowsP, rowsP]
    cases hr : rowP p (x :: l) with
    | none => rfl
    | some q =>
      have := rowP_len hr
      rw [Option.bind_some, Option.bind_some, rowsP_more f g q.1.k q.2 (by simp at this h1; omega) (by simp at this h2; omega)]
/-- What bytes are a block of. -/
def BlockOf (b : List UInt8) (rs : List Kv) : Prop := RiseK rs ∧ SmallK rs ∧ blockB rs = b
theorem fix_flat : ∀ l : List Nat, (l.flatMap (fixN 4)).length = l.length * 4
  | [] => rfl
  | x :: l => by rw [List.flatMap_cons, List.length_append, fix_flat l, fixN_len, List.length_cons]; omega
theorem blockB_len (rs : List Kv) : (blockB rs).length = (bodyB 0 [] rs).length + (rs.length + 3) / 4 * 4 + 4 := by
  unfold blockB
  rw [List.length_append, List.length_append, fix_flat, fixN_len, bkEnds_len]; omega
/-- The count at the end. -/
theorem blockB_count (rs : List Kv) : (blockB rs).drop ((blockB rs).length - 4) = fixN 4 ((rs.length + 3) / 4) := by
  have h := blockB_len rs
  rw [h]
  unfold blockB
  rw [← List.append_assoc, List.drop_append_of_le_length (by simp only [List.length_append, fix_flat, bkEnds_len]; omega)]
  rw [List.drop_of_length_le (by simp only [List.length_append, fix_flat, bkEnds_len]; omega), List.nil_append, bkEnds_len]
/-- What is ahead of the places. -/
theorem blockB_body (rs : List Kv) : (blockB rs).take ((blockB rs).length - 4 - 4 * ((rs.length + 3) / 4)) = bodyB 0 [] rs := by
  have h := blockB_len rs
  have e : (blockB rs).length - 4 - 4 * ((rs.length + 3) / 4) = (bodyB 0 [] rs).length := by omega
  rw [e]
  unfold blockB
  exact List.take_left
/-- A block has one row of rows. -/
theorem blockOf_uniq {b : List UInt8} {rs qs : List Kv} (h : BlockOf b rs) (k : BlockOf b qs) (hr : rs.length < 2 ^ 32) (hq : qs.length < 2 ^ 32) : rs = qs := by
  obtain ⟨-, h2, h3⟩ := h
  obtain ⟨-, k2, k3⟩ := k
  have e : blockB rs = blockB qs := h3.trans k3.symm
  have e1 : fixN 4 ((rs.length + 3) / 4) = fixN 4 ((qs.length + 3) / 4) := by rw [← blockB_count, ← blockB_count, e]
  have e2 : (rs.length + 3) / 4 = (qs.length + 3) / 4 := by
    have h1 := congrArg (unfN) e1
    rwa [unf_fix 4 _ (by omega), unf_fix 4 _ (by omega)] at h1
  have e3 : bodyB 0 [] rs = bodyB 0 [] qs := by rw [← blockB_body, ← blockB_body, e, e2]
  have f1 := rowsP_lay rs (rs.length + qs.length) 0 [] (by omega) h2
  have f2 := rowsP_lay qs (rs.length + qs.length) 0 [] (by omega) k2
  rw [e3] at f1
  exact Option.some.inj (f1.symm.trans f2)
instance (rs : List Kv) : Decidable (RiseK rs) := inferInstanceAs (Decidable (List.Pairwise _ _))
/-- The rows of bytes, as the document's words have it. -/
def readB (b : List UInt8) : Option (List Kv) :=
  if b.length < 4 then none else
  if (b.length - 4) / 4 < unfN (b.drop (b.length - 4)) then none else
  (rowsP b.length [] (b.take (b.length - 4 - 4 * unfN (b.drop (b.length - 4))))).bind fun rs => if RiseK rs ∧ blockB rs = b then some rs else none
theorem readB_some {b : List UInt8} {rs : List Kv} (h : readB b = some rs) : RiseK rs ∧ blockB rs = b := by
  unfold readB at h
  split at h
  · cases h
  · split at h
    · cases h
    · obtain ⟨qs, -, h⟩ := Option.bind_eq_some_iff.1 h
      split at h
      · rename_i hq
        obtain rfl := Option.some.inj h
        exact hq
      · cases h
theorem body_len : ∀ (rs : List Kv) (i : Nat) (p : List UInt8), rs.length ≤ (bodyB i p rs).length
  | [], _, _ => Nat.zero_le _
  | r :: rs, i, p => by
    have h1 := body_len rs (i + 1) r.k
    have h2 := (putN_len (shB i p r.k)).1
    rw [bodyB, List.length_append, List.length_cons]
    unfold rowB
    simp only [List.length_append]
    omega
theorem readB_of {b : List UInt8} {rs : List Kv} (h : BlockOf b rs) (hr : rs.length < 2 ^ 32) : readB b = some rs := by
  obtain ⟨h1, h2, rfl⟩ := h
  have hl := blockB_len rs
  have hb := body_len rs 0 []
  have hc : unfN ((blockB rs).drop ((blockB rs).length - 4)) = (rs.length + 3) / 4 := by rw [blockB_count, unf_fix 4 _ (by omega)]
  unfold readB
  rw [hc, if_neg (by omega), if_neg (by omega), blockB_body, rowsP_lay rs _ 0 [] (by omega) h2, Option.bind_some, if_pos ⟨h1, rfl⟩]
/-- The place of the first row whose key is not below k. -/
def seekK (rs : List Kv) (k : List UInt8) : Nat := (rs.takeWhile fun r => decide (r.k < k)).length
theorem seekK_le (rs : List Kv) (k : List UInt8) : seekK rs k ≤ rs.length := (List.takeWhile_sublist _).length_le
theorem seekK_at {rs : List Kv} {k : List UInt8} {n : Nat} (h1 : ∀ (i : Nat) (r : Kv), i < n → rs[i]? = some r → r.k < k) (h2 : ∀ r, rs[n]? = some r → ¬ r.k < k) (hn : n ≤ rs.length) : seekK rs k = n := by
  unfold seekK
  have e : rs = rs.take n ++ rs.drop n := (List.take_append_drop n rs).symm
  have ht : ∀ a ∈ rs.take n, decide (a.k < k) = true := fun a ha => by
    obtain ⟨i, hi, rfl⟩ := List.mem_iff_getElem.1 ha
    rw [List.length_take] at hi
    refine decide_eq_true (h1 i _ (by omega) ?_)
    rw [List.getElem_take, List.getElem?_eq_getElem (by omega)]
  rw [e, List.takeWhile_append_of_pos ht]
  cases hd : rs.drop n with
  | nil => rw [List.takeWhile_nil, List.append_nil, List.length_take]; omega
  | cons r t =>
    have hr : rs[n]? = some r := by
      have := congrArg (fun l : List Kv => l[0]?) hd
      rwa [List.getElem?_drop, Nat.add_zero] at this
    rw [List.takeWhile_cons_of_neg (by simpa using h2 r hr), List.append_nil, List.length_take]; omega
end Go.Proofs.Ytmndhmodcglkjaa
