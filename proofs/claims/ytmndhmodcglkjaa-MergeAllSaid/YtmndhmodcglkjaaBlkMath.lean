/- Plain mathematics of blocks, read row by row: a row is just such bytes, and so are the rows of a block. -/
import Derived.Test.YtmndhmodcglkjaaBlockMath
namespace Go.Proofs.Ytmndhmodcglkjaa
set_option linter.unusedVariables false
theorem endN_take : ∀ l : List UInt8, endN l ≠ 0 → endN (l.take (endN l)) = endN l
  | [], h => by simp [endN] at h
  | b :: r, h => by
    by_cases hb : b.toNat < 128
    · have e : endN (b :: r) = 1 := by unfold endN; rw [if_pos hb]
      rw [e, List.take_succ_cons, List.take_zero]
      unfold endN; rw [if_pos hb]
    · have h2 : endN r ≠ 0 := fun e => h (by rw [endN, if_neg hb, if_pos e])
      have e : endN (b :: r) = endN r + 1 := by rw [endN, if_neg hb, if_neg h2]
      rw [e, List.take_succ_cons, endN, if_neg hb, endN_take r h2, if_neg h2]
theorem putF_get : ∀ (L : List UInt8) (f : Nat), L ≠ [] → endN L = L.length → L.length ≤ f + 1 → (1 < L.length → L.getLast? ≠ some 0) → putF f (valN L) = L ∧ (L.getLast? ≠ some 0 → 0 < valN L)
  | [], f, h, _, _, _ => absurd rfl h
  | [b], f, _, he, _, _ => by
    have hb : b.toNat < 128 := by
      by_cases h : b.toNat < 128
      · exact h
      · unfold endN at he; rw [if_neg h] at he; simp [endN] at he
    have hv : valN [b] = b.toNat := by simp [valN]; omega
    refine ⟨?_, fun h => ?_⟩
    · rw [hv]
      cases f with
      | zero => simp [putF]
      | succ f => unfold putF; rw [if_pos hb]; simp
    · rw [hv]
      rcases Nat.eq_zero_or_pos b.toNat with e | e
      · exact absurd (by rw [List.getLast?_singleton]; congr 1; exact UInt8.toNat_inj.1 (by simpa using e)) h
      · exact e
  | b :: c :: r, f, _, he, hl, hlast => by
    have hb : ¬ b.toNat < 128 := fun h => by
      unfold endN at he; rw [if_pos h] at he; simp at he
    have he2 : endN (c :: r) = (c :: r).length := by
      have h := he
      rw [endN, if_neg hb] at h
      split at h
      · simp at h
      · simp only [List.length_cons] at h ⊢; omega
    have hlast2 : (c :: r).getLast? ≠ some 0 := by
      have := hlast (by simp)
      rwa [List.getLast?_cons_cons] at this
    obtain ⟨g, rfl⟩ : ∃ g, f = g + 1 := ⟨f - 1, by simp only [List.length_cons] at hl; omega⟩
    obtain ⟨ih1, ih2⟩ := putF_get (c :: r) g (by simp) he2 (by simpa using hl) (fun _ => hlast2)
    have hp := ih2 hlast2
    have hv : valN (b :: c :: r) = b.toNat % 128 + 128 * valN (c :: r) := rfl
    have hbb := b.toNat_lt
    refine ⟨?_, fun _ => by rw [hv]; omega⟩
    unfold putF
    rw [if_neg (by rw [hv]; omega), hv, show (b.toNat % 128 + 128 * valN (c :: r)) / 128 = valN (c :: r) by omega, ih1, show (b.toNat % 128 + 128 * valN (c :: r)) % 128 + 128 = b.toNat by omega]
    simp
/-- The bytes that are read as a number are those that it is written with. -/
theorem put_get {l : List UInt8} {n k : Nat} (h : getN l = some (n, k)) : l.take k = putN n := by
  unfold getN at h
  split at h
  · cases h
  · rename_i h1
    split at h
    · cases h
    · rename_i h2
      split at h
      · rename_i h3
        have h4 := Option.some.inj h
        obtain ⟨rfl, rfl⟩ := Prod.mk.inj h4
        have hle := endN_le l
        have hlen : (l.take (endN l)).length = endN l := by rw [List.length_take]; omega
        refine ((putF_get (l.take (endN l)) 9 (fun e => ?_) ?_ (by omega) fun h5 => ?_).1).symm
        · rw [e] at hlen; simp at hlen; omega
        · rw [endN_take l (by omega), hlen]
        · rw [hlen] at h5
          rw [List.getLast?_eq_getElem?, hlen, List.getElem?_take, if_pos (by omega)]
          exact fun e => h2 ⟨h5, e⟩
      · cases h
/-- Three numbers, one behind the other. -/
def lensP (l : List UInt8) : Option ((Nat × Nat × Nat) × Nat) :=
  (getN l).bind fun a => (getN (l.drop a.2)).bind fun b => (getN (l.drop (a.2 + b.2))).map fun c => ((a.1, b.1, c.1), a.2 + b.2 + c.2)
theorem lens_is {l : List UInt8} {s o v k : Nat} (h : lensP l = some ((s, o, v), k)) : 3 ≤ k ∧ k ≤ l.length ∧ s < 2 ^ 64 ∧ o < 2 ^ 64 ∧ v < 2 ^ 64 ∧ l.take k = putN s ++ (putN o ++ putN v) := by
  unfold lensP at h
  obtain ⟨⟨a1, a2⟩, ha, h⟩ := Option.bind_eq_some_iff.1 h
  obtain ⟨⟨b1, b2⟩, hb, h⟩ := Option.bind_eq_some_iff.1 h
  obtain ⟨⟨c1, c2⟩, hc, h⟩ := Option.map_eq_some_iff.1 h
  simp only [Prod.mk.injEq] at h hb hc
  obtain ⟨⟨rfl, rfl, rfl⟩, rfl⟩ := h
  have h1 := getN_le ha
  have h2 := getN_le hb
  have h3 := getN_le hc
  rw [List.length_drop] at h2 h3
  refine ⟨by omega, by omega, h1.2.2.2, h2.2.2.2, h3.2.2.2, ?_⟩
  rw [← put_get ha, ← put_get hb, ← put_get hc, List.take_add, List.take_add, List.append_assoc]
theorem lens_lay (s o v : Nat) (hs : s < 2 ^ 64) (ho : o < 2 ^ 64) (hv : v < 2 ^ 64) (r : List UInt8) : lensP (putN s ++ (putN o ++ (putN v ++ r))) = some ((s, o, v), (putN s).length + (putN o).length + (putN v).length) := by
  unfold lensP
  rw [get_put hs]
  simp only [Option.bind_some]
  rw [drop_put, get_put ho]
  simp only [Option.bind_some]
  rw [← List.drop_drop, drop_put, drop_put, get_put hv]
  rfl
/-- The row that bytes begin with, the n-th, behind the key p; how many bytes it takes. -/
def rowCk (n : Nat) (p l : List UInt8) : Option (Kv × Nat) :=
  (lensP l).bind fun q =>
    if p.length < q.1.1 ∨ l.length - q.2 < q.1.2.1 ∨ l.length - q.2 - q.1.2.1 < q.1.2.2 then none else
    if (n = 0 ∨ p < p.take q.1.1 ++ (l.drop q.2).take q.1.2.1) ∧ q.1.1 = shB n p (p.take q.1.1 ++ (l.drop q.2).take q.1.2.1) then some (⟨p.take q.1.1 ++ (l.drop q.2).take q.1.2.1, (l.drop (q.2 + q.1.2.1)).take q.1.2.2⟩, q.2 + q.1.2.1 + q.1.2.2) else none
theorem rowC_some {n : Nat} {p l : List UInt8} {r : Kv} {k : Nat} (h : rowCk n p l = some (r, k)) :
    (n = 0 ∨ p < r.k) ∧ r.k.length + (l.drop k).length ≤ p.length + l.length ∧ r.v.length ≤ l.length ∧ 3 ≤ k ∧ k ≤ l.length ∧ l.take k = rowB n p r := by
  unfold rowCk at h
  obtain ⟨⟨⟨s, o, v⟩, a⟩, hq, h⟩ := Option.bind_eq_some_iff.1 h
  simp only at h
  obtain ⟨h1, h2, h3, h4, h5, h6⟩ := lens_is hq
  split at h
  · cases h
  · rename_i hn
    split at h
    · rename_i hy
      obtain ⟨rfl, rfl⟩ := Prod.mk.inj (Option.some.inj h)
      obtain ⟨hy1, hy2⟩ := hy
      have hlt : (p.take s).length = s := by rw [List.length_take]; omega
      have hlo : ((l.drop a).take o).length = o := by rw [List.length_take, List.length_drop]; omega
      have hlv : ((l.drop (a + o)).take v).length = v := by rw [List.length_take, List.length_drop]; omega
      refine ⟨hy1, ?_, ?_, by omega, by omega, ?_⟩
      · simp only [List.length_append, hlt, hlo, List.length_drop]; omega
      · rw [hlv]; omega
      · unfold rowB
        simp only
        rw [← hy2, List.length_append, hlt, hlo, Nat.add_sub_cancel_left, hlv]
        have e : (p.take s ++ (l.drop a).take o).drop s = (l.drop a).take o := by
          conv => lhs; rw [← hlt]
          rw [hlt]
          exact List.drop_left' hlt
        rw [e, List.take_add, List.take_add, h6]
        simp only [List.append_assoc]
    · cases h
theorem rowB_len (i : Nat) (p : List UInt8) (r : Kv) : (rowB i p r).length = (putN (shB i p r.k)).length + (putN (r.k.length - shB i p r.k)).length + (putN r.v.length).length + (r.k.length - shB i p r.k) + r.v.length := by
  unfold rowB
  simp only [List.length_append, List.length_drop]; omega
theorem rowC_lay (n : Nat) (p : List UInt8) (r : Kv) (rest : List UInt8) (hn : n = 0 ∨ p < r.k) (hk : r.k.length < 2 ^ 64) (hv : r.v.length < 2 ^ 64) : rowCk n p (rowB n p r ++ rest) = some (r, (rowB n p r).length) := by
  obtain ⟨s1, s2⟩ := shB_le n p r.k
  have st := shB_take n p r.k
  have hl := rowB_len n p r
  obtain ⟨kk, vv⟩ := r
  simp only at *
  obtain ⟨s, hs⟩ : ∃ s, shB n p kk = s := ⟨_, rfl⟩
  have e0 : rowB n p ⟨kk, vv⟩ ++ rest = putN s ++ (putN (kk.length - s) ++ (putN vv.length ++ (kk.drop s ++ (vv ++ rest)))) := by
    unfold rowB; simp only [hs, List.append_assoc]
  have hd : (rowB n p ⟨kk, vv⟩ ++ rest).drop ((putN s).length + (putN (kk.length - s)).length + (putN vv.length).length) = kk.drop s ++ (vv ++ rest) := by
    rw [e0, ← List.drop_drop, ← List.drop_drop, drop_put, drop_put, drop_put]
  have hll : (rowB n p ⟨kk, vv⟩ ++ rest).length = (rowB n p ⟨kk, vv⟩).length + rest.length := List.length_append
  have hdl : (kk.drop s).length = kk.length - s := List.length_drop
  have hlen : lensP (rowB n p ⟨kk, vv⟩ ++ rest) = some ((s, kk.length - s, vv.length), (putN s).length + (putN (kk.length - s)).length + (putN vv.length).length) := by
    rw [e0]; exact lens_lay _ _ _ (by omega) (by omega) hv _
  unfold rowCk
  rw [hlen, Option.bind_some]
  simp only
  rw [if_neg (by rw [hll, hl, hs]; omega), hd]
  have e1 : (kk.drop s ++ (vv ++ rest)).take (kk.length - s) = kk.drop s := List.take_left' hdl
  have e2 : (rowB n p ⟨kk, vv⟩ ++ rest).drop ((putN s).length + (putN (kk.length - s)).length + (putN vv.length).length + (kk.length - s)) = vv ++ rest := by
    rw [← List.drop_drop, hd]; exact List.drop_left' hdl
  rw [e1, e2, ← hs, st, List.take_append_drop, if_pos ⟨hn, rfl⟩, List.take_left, hl]
/-- Rows one behind the other, the first of them the n-th, p the key ahead. -/
def rowsC : Nat → Nat → List UInt8 → List UInt8 → Option (List Kv)
  | _, _, _, [] => some []
  | 0, _, _, _ :: _ => none
  | f + 1, n, p, x :: l => (rowCk n p (x :: l)).bind fun q => (rowsC f (n + 1) q.1.k ((x :: l).drop q.2)).map (q.1 :: ·)
theorem rowsC_none {f n : Nat} {p l : List UInt8} (h : rowCk n p l = none) (hl : l ≠ []) : rowsC f n p l = none := by
  cases l with
  | nil => exact absurd rfl hl
  | cons x l =>
    cases f with
    | zero => rfl
    | succ f => rw [rowsC, h]; rfl
theorem rowsC_row {f n k : Nat} {p l : List UInt8} {r : Kv} (h : rowCk n p l = some (r, k)) : rowsC (f + 1) n p l = (rowsC f (n + 1) r.k (l.drop k)).map (r :: ·) := by
  cases l with
  | nil =>
    have := (rowC_some h).2.2.2
    simp at this; omega
  | cons x l => rw [rowsC, h]; rfl
theorem rowsC_more : ∀ (f g n : Nat) (p l : List UInt8), l.length ≤ f → l.length ≤ g → rowsC f n p l = rowsC g n p l
  | f, g, n, p, [], _, _ => by cases f <;> cases g <;> rfl
  | 0, g, n, p, x :: l, h, _ => by simp at h
  | f + 1, 0, n, p, x :: l, _, h => by simp at h
  | f + 1, g + 1, n, p, x :: l, h1, h2 => by
    cases hr : rowCk n p (x :: l) with
    | none => rw [rowsC_none hr (by simp), rowsC_none hr (by simp)]
    | some q =>
      obtain ⟨r, k⟩ := q
      have := rowC_some hr
      rw [rowsC_row hr, rowsC_row hr, rowsC_more f g (n + 1) r.k ((x :: l).drop k) (by rw [List.length_drop]; omega) (by rw [List.length_drop]; omega)]
theorem rowsC_len {b : List UInt8} {e : Nat} (h : e ≤ b.length) : rowsC b.length 0 [] (b.take e) = rowsC e 0 [] (b.take e) := rowsC_more _ _ _ _ _ (by rw [List.length_take]; omega) (by rw [List.length_take]; omega)
def RiseF : Nat → List UInt8 → List Kv → Prop
  | _, _, [] => True
  | n, p, r :: rs => (n = 0 ∨ p < r.k) ∧ RiseF (n + 1) r.k rs
theorem riseF_pair : ∀ (rs : List Kv) (n : Nat) (p : List UInt8), RiseF (n + 1) p rs ↔ (∀ r ∈ rs, p < r.k) ∧ RiseK rs
  | [], n, p => by simp [RiseF, RiseK]
  | r :: rs, n, p => by
    rw [RiseF, riseF_pair rs]
    unfold RiseK
    rw [List.pairwise_cons]
    constructor
    · rintro ⟨h1, h2, h3⟩
      have h1' : p < r.k := by rcases h1 with h | h; · omega
                               · exact h
      refine ⟨fun x hx => ?_, h2, h3⟩
      rcases List.mem_cons.1 hx with rfl | hx
      · exact h1'
      · exact List.lt_trans h1' (h2 x hx)
    · rintro ⟨h1, h2, h3⟩
      exact ⟨.inr (h1 r (List.mem_cons_self ..)), h2, h3⟩
theorem riseF_iff (rs : List Kv) (p : List UInt8) : RiseF 0 p rs ↔ RiseK rs := by
  cases rs with
  | nil => simp [RiseF, RiseK]
  | cons r rs =>
    rw [RiseF, riseF_pair]
    unfold RiseK
    rw [List.pairwise_cons]
    exact ⟨fun h => h.2, fun h => ⟨.inl rfl, h⟩⟩
theorem rowsC_some : ∀ (f n : Nat) (p l : List UInt8) (rs : List Kv), rowsC f n p l = some rs → l = bodyB n p rs ∧ RiseF n p rs
  | f, n, p, [], rs, h => by
    have e : rs = [] := by cases f <;> exact (Option.some.inj h).symm
    subst e; exact ⟨rfl, trivial⟩
  | 0, n, p, x :: l, rs, h => by cases h
  | f + 1, n, p, x :: l, rs, h => by
    rw [rowsC] at h
    obtain ⟨⟨r, k⟩, hq, h⟩ := Option.bind_eq_some_iff.1 h
    obtain ⟨qs, hr, rfl⟩ := Option.map_eq_some_iff.1 h
    obtain ⟨h1, -, -, -, -, h6⟩ := rowC_some hq
    obtain ⟨i1, i2⟩ := rowsC_some f (n + 1) r.k _ qs hr
    refine ⟨?_, h1, i2⟩
    rw [bodyB, ← h6, ← i1, List.take_append_drop]
theorem rowsC_lay : ∀ (rs : List Kv) (f n : Nat) (p : List UInt8), rs.length ≤ f → RiseF n p rs → SmallK rs → rowsC f n p (bodyB n p rs) = some rs
  | [], f, n, p, _, _, _ => by cases f <;> rfl
  | r :: rs, 0, n, p, h, _, _ => by simp at h
  | r :: rs, f + 1, n, p, h, hr, hs => by
    obtain ⟨h1, h2⟩ := hs r (List.mem_cons_self ..)
    rw [bodyB, rowsC_row (rowC_lay n p r _ hr.1 h1 h2), List.drop_left, rowsC_lay rs f (n + 1) r.k (by simpa using h) hr.2 fun y hy => hs y (List.mem_cons_of_mem _ hy)]
    rfl
theorem body_small : ∀ (rs : List Kv) (n : Nat) (p : List UInt8), ∀ r ∈ rs, r.k.length ≤ p.length + (bodyB n p rs).length ∧ r.v.length ≤ (bodyB n p rs).length
  | [], n, p, r, h => by simp at h
  | x :: rs, n, p, r, h => by
    have hl := rowB_len n p x
    have hs := shB_le n p x.k
    rw [bodyB, List.length_append]
    rcases List.mem_cons.1 h with rfl | h
    · omega
    · have := body_small rs (n + 1) x.k r h
      omega
theorem ends_bd (rs : List Kv) : ∀ x ∈ bkEnds rs, x ≤ (bodyB 0 [] rs).length := by
  unfold bkEnds
  have : ∀ (rs : List Kv) (i o : Nat) (p : List UInt8), ∀ x ∈ endsB i o p rs, x ≤ o + (bodyB i p rs).length := by
    intro rs
    induction rs with
    | nil => intro i o p x hx; simp [endsB] at hx
    | cons r rs ih =>
      intro i o p x hx
      rw [endsB] at hx
      rw [bodyB, List.length_append]
      rcases List.mem_append.1 hx with hx | hx
      · split at hx
        · obtain rfl : x = o := by simpa using hx
          omega
        · cases hx
      · have := ih _ _ _ x hx
        omega
  intro x hx
  have := this rs 0 0 [] x hx
  omega
def placesB (es : List Nat) : List UInt8 := es.flatMap (fixN 4) ++ fixN 4 es.length
theorem blockB_is (rs : List Kv) : blockB rs = bodyB 0 [] rs ++ placesB (bkEnds rs) := rfl
/-- Where the rows end. -/
def endC (b : List UInt8) : Option Nat :=
  if b.length < 4 then none else if (b.length - 4) / 4 < unfN (b.drop (b.length - 4)) then none else some (b.length - 4 - 4 * unfN (b.drop (b.length - 4)))
theorem endC_le {b : List UInt8} {e : Nat} (h : endC b = some e) : e ≤ b.length := by
  unfold endC at h
  split at h
  · cases h
  · split at h
    · cases h
    · have := Option.some.inj h; omega
/-- The rows of bytes, row by row. -/
def readCk (b : List UInt8) : Option (List Kv) :=
  (endC b).bind fun e => (rowsC b.length 0 [] (b.take e)).bind fun rs => if b.drop e = placesB (bkEnds rs) then some rs else none
theorem readC_some {b : List UInt8} {rs : List Kv} (h : readCk b = some rs) : RiseK rs ∧ blockB rs = b := by
  unfold readCk at h
  obtain ⟨e, he, h⟩ := Option.bind_eq_some_iff.1 h
  obtain ⟨qs, hq, h⟩ := Option.bind_eq_some_iff.1 h
  split at h
  · rename_i hd
    obtain rfl := Option.some.inj h
    obtain ⟨h1, h2⟩ := rowsC_some _ _ _ _ _ hq
    refine ⟨(riseF_iff _ _).1 h2, ?_⟩
    rw [blockB_is, ← h1, ← hd, List.take_append_drop]
  · cases h
theorem block_small {b : List UInt8} {rs : List Kv} (h : blockB rs = b) (hb : b.length < 2 ^ 32) : SmallK rs ∧ rs.length < 2 ^ 32 := by
  have hl := blockB_len rs
  rw [h] at hl
  refine ⟨fun r hr => ?_, ?_⟩
  · have := body_small rs 0 [] r hr
    simp only [List.length_nil] at this
    omega
  · have := body_len rs 0 []
    omega
theorem readC_of {b : List UInt8} {rs : List Kv} (h1 : RiseK rs) (h2 : blockB rs = b) (hb : b.length < 2 ^ 32) : readCk b = some rs := by
  obtain ⟨h3, h4⟩ := block_small h2 hb
  subst h2
  have hl := blockB_len rs
  have hbl := body_len rs 0 []
  have hc : unfN ((blockB rs).drop ((blockB rs).length - 4)) = (rs.length + 3) / 4 := by rw [blockB_count, unf_fix 4 _ (by omega)]
  have he : endC (blockB rs) = some (bodyB 0 [] rs).length := by
    unfold endC
    rw [hc, if_neg (by omega), if_neg (by omega)]
    congr 1; omega
  unfold readCk
  rw [he, Option.bind_some]
  have e1 : (blockB rs).take (bodyB 0 [] rs).length = bodyB 0 [] rs := by rw [blockB_is]; exact List.take_left
  have e2 : (blockB rs).drop (bodyB 0 [] rs).length = placesB (bkEnds rs) := by rw [blockB_is]; exact List.drop_left
  rw [e1, e2, rowsC_lay rs _ 0 [] (by omega) ((riseF_iff _ _).2 h1) h3, Option.bind_some, if_pos rfl]
/-- Read row by row, or by making the block again: the same. -/
theorem readC_eq {b : List UInt8} (hb : b.length < 2 ^ 32) : readCk b = readB b := by
  apply Option.ext
  intro rs
  constructor
  · intro h
    obtain ⟨h1, h2⟩ := readC_some h
    obtain ⟨h3, h4⟩ := block_small h2 hb
    exact readB_of ⟨h1, h3, h2⟩ h4
  · intro h
    obtain ⟨h1, h2⟩ := readB_some h
    exact readC_of h1 h2 hb
theorem readC_lay {rs : List Kv} (h1 : RiseK rs) (hb : (blockB rs).length < 2 ^ 32) : readCk (blockB rs) = some rs := readC_of h1 rfl hb
end Go.Proofs.Ytmndhmodcglkjaa
