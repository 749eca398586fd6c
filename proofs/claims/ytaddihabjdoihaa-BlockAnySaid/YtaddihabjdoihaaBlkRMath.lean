/- Plain mathematics of the reference's Rows: three numbers one by one, rows one by one, what is left. -/
import Derived.Test.YtaddihabjdoihaaBlkGet
import Derived.Test.YtaddihabjdoihaaBlkRef
namespace Go.Proofs.Ytaddihabjdoihaa
set_option linter.unusedVariables false
/-- Where the i-th number begins, and what it is. -/
def oS (l : List UInt8) : Nat → Nat
  | 0 => 0
  | i + 1 => oS l i + (gN (l.drop (oS l i))).2
def vS (l : List UInt8) (i : Nat) : Nat := (gN (l.drop (oS l i))).1
theorem oS_le (l : List UInt8) : ∀ i, oS l i ≤ l.length
  | 0 => Nat.zero_le _
  | i + 1 => by
    have h1 := oS_le l i
    have h2 := (gN_le (l.drop (oS l i))).1
    rw [List.length_drop] at h2
    show oS l i + _ ≤ _
    omega
theorem vS_lt (l : List UInt8) (i : Nat) : vS l i < 18446744073709551616 := (gN_le _).2.2
theorem lens_stop {l : List UInt8} {i : Nat} (hi : i < 3) (h : (gN (l.drop (oS l i))).2 = 0) : lensP l = none := by
  apply lens_none
  have e0 : oS l 0 = 0 := rfl
  have e1 : oS l 1 = (gN l).2 := by show oS l 0 + _ = _; rw [e0, List.drop_zero, Nat.zero_add]
  have e2 : oS l 2 = (gN l).2 + (gN (l.drop (gN l).2)).2 := by show oS l 1 + _ = _; rw [e1]
  have hc : i = 0 ∨ i = 1 ∨ i = 2 := by omega
  rcases hc with rfl | rfl | rfl
  · left; rwa [e0, List.drop_zero] at h
  · right; left; rwa [e1] at h
  · right; right; rwa [e2] at h
theorem lens_all {l : List UInt8} (h : ∀ i, i < 3 → ¬ (gN (l.drop (oS l i))).2 = 0) : lensP l = some ((vS l 0, vS l 1, vS l 2), oS l 3) := by
  have e0 : oS l 0 = 0 := rfl
  have e1 : oS l 1 = (gN l).2 := by show oS l 0 + _ = _; rw [e0, List.drop_zero, Nat.zero_add]
  have e2 : oS l 2 = (gN l).2 + (gN (l.drop (gN l).2)).2 := by show oS l 1 + _ = _; rw [e1]
  have e3 : oS l 3 = (gN l).2 + (gN (l.drop (gN l).2)).2 + (gN (l.drop ((gN l).2 + (gN (l.drop (gN l).2)).2))).2 := by show oS l 2 + _ = _; rw [e2]
  have h0 := h 0 (by omega)
  have h1 := h 1 (by omega)
  have h2 := h 2 (by omega)
  rw [e0, List.drop_zero] at h0
  rw [e1] at h1
  rw [e2] at h2
  rw [lens_some h0 h1 h2, e3]
  unfold vS
  rw [e0, List.drop_zero, e1, e2]
theorem rowP_lens (p l : List UInt8) : rowP p l = (lensP l).bind fun q =>
    if p.length < q.1.1 ∨ l.length - q.2 < q.1.2.1 ∨ l.length - q.2 - q.1.2.1 < q.1.2.2 then none
    else some (⟨p.take q.1.1 ++ (l.drop q.2).take q.1.2.1, ((l.drop q.2).drop q.1.2.1).take q.1.2.2⟩, l.drop (q.2 + (q.1.2.1 + q.1.2.2))) := by
  unfold rowP lensP
  cases getN l with
  | none => rfl
  | some a =>
    simp only [Option.bind_some]
    cases getN (l.drop a.2) with
    | none => rfl
    | some b =>
      simp only [Option.bind_some]
      cases getN (l.drop (a.2 + b.2)) with
      | none => rfl
      | some c => simp only [Option.bind_some, Option.map_some, List.length_drop, List.drop_drop]
theorem body_bd (K : Nat) : ∀ (rs : List Kv) (n : Nat) (p : List UInt8), (∀ r ∈ rs, r.k.length ≤ K ∧ r.v.length ≤ K) → (bodyB n p rs).length ≤ rs.length * (2 * K + 30)
  | [], n, p, _ => Nat.zero_le _
  | r :: rs, n, p, h => by
    have h1 := body_bd K rs (n + 1) r.k fun x hx => h x (List.mem_cons_of_mem _ hx)
    have h2 := rowB_len n p r
    obtain ⟨h3, h4⟩ := h r (List.mem_cons_self ..)
    have h5 := (putN_len (shB n p r.k)).2
    have h6 := (putN_len (r.k.length - shB n p r.k)).2
    have h7 := (putN_len r.v.length).2
    rw [bodyB, List.length_append, List.length_cons, Nat.succ_mul]
    omega
/-- How far the reference is. -/
structure QInv (b : List UInt8) (e : Nat) (rs : List Kv) (p : List UInt8) (o : Nat) : Prop where
  le : o ≤ e
  last : p = lastK [] rs
  rise : RiseK rs
  few : ∀ r ∈ rs, r.k.length ≤ e ∧ r.v.length ≤ e
  small : p.length + (e - o) ≤ e
  rows : rs.length ≤ o
  more : rowsP e [] (b.take e) = (rowsP (e - rs.length) p ((b.take e).drop o)).map (rs ++ ·)
theorem qinv_nil (b : List UInt8) (e : Nat) : QInv b e [] [] 0 := ⟨Nat.zero_le _, rfl, List.Pairwise.nil, (fun r h => by cases h), by simp, Nat.zero_le _, by simp⟩
/-- A row that is read. -/
structure KvAt (p l : List UInt8) (s o v k : Nat) : Prop where
  lens : lensP l = some ((s, o, v), k)
  hs : s ≤ p.length
  ho : o ≤ l.length - k
  hv : v ≤ l.length - k - o
theorem KvAt.row {p l : List UInt8} {s o v k : Nat} (h : KvAt p l s o v k) : rowP p l = some (⟨p.take s ++ (l.drop k).take o, ((l.drop k).drop o).take v⟩, l.drop (k + (o + v))) := by
  obtain ⟨h1, h2, h3, h4⟩ := h
  rw [rowP_lens, h1, Option.bind_some]
  simp only
  rw [if_neg (by omega)]
theorem rowsP_row {f : Nat} {p l l' : List UInt8} {r : Kv} (h : rowP p l = some (r, l')) : rowsP (f + 1) p l = (rowsP f r.k l').map (r :: ·) := by
  cases l with
  | nil =>
    have := rowP_len h
    simp at this
  | cons x l => rw [rowsP, h]; rfl
theorem qinv_step {b : List UInt8} {e : Nat} (he : e ≤ b.length) {rs : List Kv} {p : List UInt8} {o s t v k : Nat} (h : QInv b e rs p o) (hr : KvAt p ((b.take e).drop o) s t v k) (hu : rs.length = 0 ∨ p < p.take s ++ (((b.take e).drop o).drop k).take t) :
    QInv b e (rs ++ [⟨p.take s ++ (((b.take e).drop o).drop k).take t, ((((b.take e).drop o).drop k).drop t).take v⟩]) (p.take s ++ (((b.take e).drop o).drop k).take t) (o + (k + (t + v))) ∧ 3 ≤ k ∧ o + (k + (t + v)) ≤ e := by
  have hl : ((b.take e).drop o).length = e - o := by rw [List.length_drop, List.length_take]; omega
  obtain ⟨g1, g2, g3, g4, g5, g6, g7⟩ := h
  obtain ⟨k3, kl, -⟩ := lens_is hr.lens
  have hrow := hr.row
  obtain ⟨-, r2, r3, r4⟩ := hr
  rw [hl] at kl r3 r4
  have hkl : (p.take s ++ (((b.take e).drop o).drop k).take t).length = s + t := by
    rw [List.length_append, List.length_take, List.length_take, List.length_drop, hl]; omega
  have hvl : (((((b.take e).drop o).drop k).drop t).take v).length = v := by
    rw [List.length_take, List.length_drop, List.length_drop, hl]; omega
  generalize p.take s ++ (((b.take e).drop o).drop k).take t = key at *
  generalize ((((b.take e).drop o).drop k).drop t).take v = val at *
  refine ⟨⟨by omega, (lastK_snoc rs [] ⟨key, val⟩).symm, ?_, fun r hr => ?_, by omega, by rw [List.length_append, List.length_singleton]; omega, ?_⟩, k3, by omega⟩
  · refine rise_snoc (r := ⟨key, val⟩) g3 ?_
    rcases hu with hu | hu
    · exact .inl hu
    · exact .inr (by rw [← g2]; exact hu)
  · rcases List.mem_append.1 hr with hr | hr
    · exact g4 r hr
    · obtain rfl : r = ⟨key, val⟩ := by simpa using hr
      exact ⟨by simp only; omega, by simp only; omega⟩
  · rw [g7, show e - rs.length = (e - (rs ++ [(⟨key, val⟩ : Kv)]).length) + 1 by rw [List.length_append, List.length_singleton]; omega, rowsP_row hrow, List.drop_drop, Option.map_map]
    congr 1
    funext x
    simp
theorem readB_rows {b : List UInt8} {e : Nat} (hE : endC b = some e) : readB b = (rowsP e [] (b.take e)).bind fun rs => if RiseK rs ∧ blockB rs = b then some rs else none := by
  have he := endC_le hE
  unfold endC at hE
  split at hE
  · cases hE
  · rename_i h1
    split at hE
    · cases hE
    · rename_i h2
      have h3 := Option.some.inj hE
      unfold readB
      rw [if_neg h1, if_neg h2, h3, rowsP_more b.length e [] (b.take e) (by rw [List.length_take]; omega) (by rw [List.length_take]; omega)]
theorem readB_none {b : List UInt8} (hE : endC b = none) : readB b = none := by
  unfold endC at hE
  unfold readB
  split at hE
  · rw [if_pos (by assumption)]
  · rw [if_neg (by assumption)]
    split at hE
    · rw [if_pos (by assumption)]
    · cases hE
theorem qinv_fail {b : List UInt8} {e : Nat} (hE : endC b = some e) {rs : List Kv} {p : List UInt8} {o : Nat} (h : QInv b e rs p o) (ho : o < e) (hr : rowP p ((b.take e).drop o) = none) : readB b = none := by
  have he := endC_le hE
  have hm := h.more
  have h0 : rowsP (e - rs.length) p ((b.take e).drop o) = none := by
    cases hl : (b.take e).drop o with
    | nil =>
      have := congrArg List.length hl
      rw [List.length_drop, List.length_take, List.length_nil] at this; omega
    | cons x l =>
      rw [hl] at hr
      cases e - rs.length with
      | zero => rfl
      | succ f => rw [rowsP, hr]; rfl
  rw [h0, Option.map_none] at hm
  rw [readB_rows hE, hm, Option.bind_none]
theorem qinv_down {b : List UInt8} {e : Nat} (hE : endC b = some e) {rs : List Kv} {p : List UInt8} {o : Nat} (h : QInv b e rs p o) {r : Kv} {l' : List UInt8} (hr : rowP p ((b.take e).drop o) = some (r, l')) (hn : ¬ (rs.length = 0 ∨ p < r.k)) : readB b = none := by
  have he := endC_le hE
  have hm := h.more
  have hl := rowP_len hr
  rw [List.length_drop, List.length_take] at hl
  have hrows := h.rows
  rw [show e - rs.length = (e - rs.length - 1) + 1 by omega, rowsP_row hr, Option.map_map] at hm
  rw [readB_rows hE, hm]
  cases hq : rowsP (e - rs.length - 1) r.k l' with
  | none => rfl
  | some qs =>
    rw [Option.map_some, Option.bind_some, if_neg]
    rintro ⟨h1, -⟩
    have h2 : RiseK (rs ++ r :: qs) := h1
    unfold RiseK at h2
    rcases List.eq_nil_or_concat rs with e0 | ⟨ys, z, e0⟩
    · exact hn (.inl (by rw [e0]; rfl))
    · rw [List.concat_eq_append] at e0
      have hz : z ∈ rs := by rw [e0]; simp
      have hlt := (List.pairwise_append.1 h2).2.2 z hz r (List.mem_cons_self ..)
      refine hn (.inr ?_)
      rw [h.last, e0, lastK_snoc]
      exact hlt
theorem qinv_end {b : List UInt8} {e : Nat} (hE : endC b = some e) {rs : List Kv} {p : List UInt8} (h : QInv b e rs p e) : readB b = if blockB rs = b then some rs else none := by
  have he := endC_le hE
  have hn : (b.take e).drop e = [] := List.drop_of_length_le (by rw [List.length_take]; omega)
  have hm := h.more
  have h0 : rowsP (e - rs.length) p [] = some [] := by cases e - rs.length <;> rfl
  rw [hn, h0, Option.map_some, List.append_nil] at hm
  rw [readB_rows hE, hm, Option.bind_some]
  by_cases hb : blockB rs = b
  · rw [if_pos ⟨h.rise, hb⟩, if_pos hb]
  · rw [if_neg (fun k => hb k.2), if_neg hb]
end Go.Proofs.Ytaddihabjdoihaa
