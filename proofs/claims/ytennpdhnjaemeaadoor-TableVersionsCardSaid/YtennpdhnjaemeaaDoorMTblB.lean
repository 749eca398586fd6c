/- Plain mathematics of tables: entries as the bytes of rows, rows of one norm, blocks of such rows, what an index tells of them. -/
import Derived.Test.YtennpdhnjaemeaaDoorMTblA
import Derived.Test.YtennpdhnjaemeaaDoorMBlk
import Derived.Test.YtennpdhnjaemeaaDoorMEnt
import Derived.Test.YtennpdhnjaemeaaDoorMBase
import Derived.Test.YtennpdhnjaemeaaDoorAppSK
import Derived.Deep.LoopGhost
import Derived.Deep.CutBlock
import Derived.Deep.RegionHeld3
namespace Go.Proofs.YtennpdhnjaemeaaDoor
set_option linter.unusedVariables false
/-- An entry's bytes, but for its norm. -/
def verB (e : Ent) : List UInt8 := putN e.seq.toNat ++ (putN e.kind.toNat ++ (textE e.spell.data.toList ++ textE e.val.data.toList))
def ent (n : ByteArray) (q k : Nat) (s v : List UInt8) : Ent := ⟨n, q, k, ⟨s.toArray⟩, ⟨v.toArray⟩⟩
/-- The entry of a norm that bytes begin with. -/
def verP (n : ByteArray) (b : List UInt8) : Option (Ent × Nat) :=
  (getN b).bind fun q => (getN (b.drop q.2)).bind fun k => (getT (b.drop (q.2 + k.2))).bind fun s => (getT (b.drop (q.2 + k.2 + s.2))).map fun v =>
    (ent n q.1 k.1 s.1 v.1, q.2 + k.2 + s.2 + v.2)
theorem textE_len (s : List UInt8) : (textE s).length = (putN s.length).length + s.length := by unfold textE; rw [List.length_append]
theorem verB_len (e : Ent) : (verB e).length = (putN e.seq.toNat).length + (putN e.kind.toNat).length + (textE e.spell.data.toList).length + (textE e.val.data.toList).length := by
  unfold verB; simp only [List.length_append]; omega
theorem verB_pos (e : Ent) : 4 ≤ (verB e).length := by
  have h1 := putN_len e.seq.toNat
  have h2 := putN_len e.kind.toNat
  have h3 := putN_len e.spell.data.toList.length
  have h4 := putN_len e.val.data.toList.length
  rw [verB_len, textE_len, textE_len]; omega
theorem verB_ne (e : Ent) (r : List UInt8) : ∃ x m, verB e ++ r = x :: m := by
  have h := verB_pos e
  cases hb : verB e with
  | nil => rw [hb] at h; simp at h
  | cons x m => exact ⟨x, m ++ r, rfl⟩
theorem ver_read {e : Ent} {K : Nat} (h : RightE e) (hf : FitE K e) (hK : K < 2 ^ 63) (r : List UInt8) : getN (verB e ++ r) = some (e.seq.toNat, (putN e.seq.toNat).length) ∧
    getN ((verB e ++ r).drop (putN e.seq.toNat).length) = some (e.kind.toNat, (putN e.kind.toNat).length) ∧
    getT ((verB e ++ r).drop ((putN e.seq.toNat).length + (putN e.kind.toNat).length)) = some (e.spell.data.toList, (textE e.spell.data.toList).length) ∧
    getT ((verB e ++ r).drop ((putN e.seq.toNat).length + (putN e.kind.toNat).length + (textE e.spell.data.toList).length)) = some (e.val.data.toList, (textE e.val.data.toList).length) := by
  obtain ⟨h1, h2, h3⟩ := h
  obtain ⟨f1, f2, f3⟩ := hf
  rw [← size_toList] at f2 f3
  have q1 : e.seq.toNat < 2 ^ 64 := by omega
  have q2 : e.kind.toNat < 2 ^ 64 := by rcases h3 with h | ⟨h, -⟩ <;> rw [h] <;> decide
  have e0 : verB e ++ r = putN e.seq.toNat ++ (putN e.kind.toNat ++ (textE e.spell.data.toList ++ (textE e.val.data.toList ++ r))) := by
    unfold verB; simp only [List.append_assoc]
  have e1 : (verB e ++ r).drop (putN e.seq.toNat).length = putN e.kind.toNat ++ (textE e.spell.data.toList ++ (textE e.val.data.toList ++ r)) := by rw [e0, List.drop_left]
  have e2 : (verB e ++ r).drop ((putN e.seq.toNat).length + (putN e.kind.toNat).length) = textE e.spell.data.toList ++ (textE e.val.data.toList ++ r) := by rw [← List.drop_drop, e1, List.drop_left]
  have e3 : (verB e ++ r).drop ((putN e.seq.toNat).length + (putN e.kind.toNat).length + (textE e.spell.data.toList).length) = textE e.val.data.toList ++ r := by rw [← List.drop_drop, e2, List.drop_left]
  refine ⟨?_, ?_, ?_, ?_⟩
  · rw [e0, get_put q1]
  · rw [e1, get_put q2]
  · rw [e2, getT_text _ _ (by omega)]
  · rw [e3, getT_text _ _ (by omega)]
theorem ent_is {e : Ent} (h : RightE e) : ent e.norm e.seq.toNat e.kind.toNat e.spell.data.toList e.val.data.toList = e := by
  obtain ⟨h1, h2, h3⟩ := h
  obtain ⟨n, q, k, s, v⟩ := e
  unfold ent
  simp only at h1 h2 h3 ⊢
  have hk : (k.toNat : Int) = k := by rcases h3 with h | ⟨h, -⟩ <;> rw [h] <;> rfl
  rw [hk, Int.toNat_of_nonneg (by omega)]
theorem verP_lay {e : Ent} {K : Nat} (h : RightE e) (hf : FitE K e) (hK : K < 2 ^ 63) (r : List UInt8) : verP e.norm (verB e ++ r) = some (e, (verB e).length) := by
  obtain ⟨a, b, c, d⟩ := ver_read h hf hK r
  unfold verP
  rw [a]
  show (getN ((verB e ++ r).drop (putN e.seq.toNat).length)).bind _ = _
  rw [b]
  show (getT ((verB e ++ r).drop ((putN e.seq.toNat).length + (putN e.kind.toNat).length))).bind _ = _
  rw [c]
  show (getT ((verB e ++ r).drop ((putN e.seq.toNat).length + (putN e.kind.toNat).length + (textE e.spell.data.toList).length))).map _ = _
  rw [d, verB_len]
  show some (ent e.norm e.seq.toNat e.kind.toNat e.spell.data.toList e.val.data.toList, _) = _
  rw [ent_is h]
/-- The norm of a row of entries. -/
def normG (g : List Ent) : ByteArray := match g with | [] => ⟨#[]⟩ | e :: _ => e.norm
def verG (g : List Ent) : List UInt8 := g.flatMap verB
/-- A row of entries of one norm, as a row of a block. -/
def rowE (g : List Ent) : Kv := ⟨(normG g).data.toList, verG g⟩
/-- Entries of one norm. -/
def OneN (g : List Ent) : Prop := g ≠ [] ∧ ∀ e ∈ g, e.norm = normG g
/-- A block's rows of entries. -/
structure PcOk (gs : List (List Ent)) : Prop where
  ne : gs ≠ []
  one : ∀ g ∈ gs, OneN g
  rise : RiseK (gs.map rowE)
/-- A block's bytes, with their sum. -/
def pcB (gs : List (List Ent)) : List UInt8 := sealB (blockB (gs.map rowE))
/-- What an index tells of a block. -/
structure Part where
  norm : ByteArray
  seq : Int
  at' : Nat
  size : Nat
  count : Nat
/-- A part's bytes. -/
def partB (p : Part) : List UInt8 := textE p.norm.data.toList ++ (putN p.seq.toNat ++ (putN p.size ++ putN p.count))
def lastE (gs : List (List Ent)) : Ent := gs.flatten.getLast?.getD Ent.none
/-- The parts of blocks that begin at a place. -/
def partsFrom : Nat → List (List (List Ent)) → List Part
  | _, [] => []
  | o, gs :: r => ⟨(lastE gs).norm, (lastE gs).seq, o, (pcB gs).length, gs.flatten.length⟩ :: partsFrom (o + (pcB gs).length) r
def partsT (ps : List (List (List Ent))) : List Part := partsFrom 0 ps
/-- An index. -/
def indexB (ps : List (List (List Ent))) : List UInt8 := (partsT ps).flatMap partB
/-- The blocks' bytes. -/
def blocksB (ps : List (List (List Ent))) : List UInt8 := (ps.map pcB).flatten
theorem partsFrom_len : ∀ (ps : List (List (List Ent))) (o : Nat), (partsFrom o ps).length = ps.length
  | [], _ => rfl
  | gs :: r, o => by rw [partsFrom, List.length_cons, List.length_cons, partsFrom_len r]
theorem partsFrom_app : ∀ (ps qs : List (List (List Ent))) (o : Nat), partsFrom o (ps ++ qs) = partsFrom o ps ++ partsFrom (o + (blocksB ps).length) qs
  | [], qs, o => rfl
  | gs :: r, qs, o => by
    rw [List.cons_append, partsFrom, partsFrom, partsFrom_app r qs, List.cons_append]
    have : o + (pcB gs).length + (blocksB r).length = o + (blocksB (gs :: r)).length := by
      unfold blocksB; rw [List.map_cons, List.flatten_cons, List.length_append]; omega
    rw [this]
theorem partsFrom_at : ∀ (ps : List (List (List Ent))) (o i : Nat) (gs : List (List Ent)), ps[i]? = some gs → (partsFrom o ps)[i]? = some ⟨(lastE gs).norm, (lastE gs).seq, o + (blocksB (ps.take i)).length, (pcB gs).length, gs.flatten.length⟩
  | [], _, i, gs, h => by simp at h
  | x :: r, o, 0, gs, h => by
    obtain rfl : x = gs := by simpa using h
    rfl
  | x :: r, o, i + 1, gs, h => by
    rw [partsFrom, List.getElem?_cons_succ, partsFrom_at r _ i gs (by simpa using h), List.take_succ_cons]
    unfold blocksB
    rw [List.map_cons, List.flatten_cons, List.length_append, Nat.add_assoc]
theorem lastE_mem {gs : List (List Ent)} (h : gs.flatten ≠ []) : lastE gs ∈ gs.flatten := by
  unfold lastE
  rw [List.getLast?_eq_some_getLast h]
  exact List.getLast_mem h
theorem pc_ne {gs : List (List Ent)} (h : PcOk gs) : gs.flatten ≠ [] := by
  obtain ⟨h1, h2, -⟩ := h
  cases gs with
  | nil => exact absurd rfl h1
  | cons g r =>
    have := (h2 g (by simp)).1
    simp [this]
/-- A part is read. -/
theorem part_read {p : Part} (h1 : 0 ≤ p.seq) (h2 : p.seq < 2 ^ 63) (hn : p.norm.size < 2 ^ 63) (hs : p.size < 2 ^ 63) (hc : p.count < 2 ^ 63) (r : List UInt8) : getT (partB p ++ r) = some (p.norm.data.toList, (textE p.norm.data.toList).length) ∧
    getN ((partB p ++ r).drop (textE p.norm.data.toList).length) = some (p.seq.toNat, (putN p.seq.toNat).length) ∧
    getN ((partB p ++ r).drop ((textE p.norm.data.toList).length + (putN p.seq.toNat).length)) = some (p.size, (putN p.size).length) ∧
    getN ((partB p ++ r).drop ((textE p.norm.data.toList).length + (putN p.seq.toNat).length + (putN p.size).length)) = some (p.count, (putN p.count).length) := by
  rw [← size_toList] at hn
  have e0 : partB p ++ r = textE p.norm.data.toList ++ (putN p.seq.toNat ++ (putN p.size ++ (putN p.count ++ r))) := by
    unfold partB; simp only [List.append_assoc]
  have e1 : (partB p ++ r).drop (textE p.norm.data.toList).length = putN p.seq.toNat ++ (putN p.size ++ (putN p.count ++ r)) := by rw [e0, List.drop_left]
  have e2 : (partB p ++ r).drop ((textE p.norm.data.toList).length + (putN p.seq.toNat).length) = putN p.size ++ (putN p.count ++ r) := by rw [← List.drop_drop, e1, List.drop_left]
  have e3 : (partB p ++ r).drop ((textE p.norm.data.toList).length + (putN p.seq.toNat).length + (putN p.size).length) = putN p.count ++ r := by rw [← List.drop_drop, e2, List.drop_left]
  refine ⟨?_, ?_, ?_, ?_⟩
  · rw [e0, getT_text _ _ (by omega)]
  · rw [e1, get_put (by omega)]
  · rw [e2, get_put (by omega)]
  · rw [e3, get_put (by omega)]
theorem partB_len (p : Part) : (partB p).length = (textE p.norm.data.toList).length + (putN p.seq.toNat).length + (putN p.size).length + (putN p.count).length := by
  unfold partB; simp only [List.length_append]; omega
theorem putN_lt {n : Nat} : ∀ k, 0 < k → k ≤ 10 → n < 128 ^ k → (putN n).length ≤ k := by
  have H : ∀ (f k m : Nat), 0 < k → k ≤ f + 1 → m < 128 ^ k → (putF f m).length ≤ k := by
    intro f
    induction f with
    | zero => intro k m h0 hk _; rw [putF]; simp; omega
    | succ f ih =>
      intro k m h0 hk hm
      rw [putF]
      split
      · simp; omega
      · rename_i hn
        cases k with
        | zero => omega
        | succ k =>
          cases k with
          | zero => simp at hm; omega
          | succ k =>
            have := ih (k + 1) (m / 128) (by omega) (by omega) (Nat.div_lt_of_lt_mul (by rw [Nat.pow_succ] at hm; omega))
            rw [List.length_cons]; omega
  exact fun k h0 h1 h2 => H 9 k n h0 (by omega) h2
end Go.Proofs.YtennpdhnjaemeaaDoor
/- The walks of table's getVersion and getPart, of what was laid. -/
namespace Go.Proofs.YtennpdhnjaemeaaDoor
set_option linter.unusedVariables false
set_option maxRecDepth 100000
open Go.RowKit
theorem getT_le {l s : List UInt8} {k : Nat} (h : getT l = some (s, k)) : 1 ≤ k ∧ k ≤ l.length := by
  unfold getT at h
  cases hg : getN l with
  | none => rw [hg] at h; cases h
  | some q =>
    obtain ⟨n, j⟩ := q
    rw [hg] at h
    have := getN_le hg
    simp only at h
    split at h
    · cases h; omega
    · cases h
theorem rdB_sl {w : World} {a : Option Addr} {n cap : Nat} {b : List UInt8} (h : RdB w (.slice a n cap) b) : n = b.length ∧ n ≤ cap := by
  obtain ⟨a', n', c', e, h1, h2⟩ := h.form
  simp only [Value.slice.injEq] at e
  obtain ⟨rfl, rfl, rfl⟩ := e
  refine ⟨h1, ?_⟩
  rcases Nat.eq_zero_or_pos n with h0 | h0
  · omega
  · exact (h2 h0).1
theorem wrap_i64n (n : Nat) (h : n < 2 ^ 63) : wrap64 (n : Int) = (n : Int) := IntWalk.wrap64_in _ (by omega)
theorem mod_u64n (n : Nat) (h : n < 2 ^ 63) : (n : Int) % 18446744073709551616 = (n : Int) := by omega
set_option maxHeartbeats 8000000 in
theorem getver_raw (nm : ByteArray) (v : Value) (b : List UInt8) (hb : b.length ≤ 1000000000000) (q : Nat) (kd : Nat) (s : List UInt8) (t : List UInt8) (i j x y : Nat) (h0 : getN b = some (q, i)) (h1 : getN (b.drop i) = some (kd, j)) (h2 : getT (b.drop (i + j)) = some (s, x)) (h3 : getT (b.drop (i + j + x)) = some (t, y))
    (hq : q < 2 ^ 63) (hk : kd < 2 ^ 63) (w : World) (hv : RdB w v b) :
    Calls Tryd.prog 96 #[.string nm, v] w fun e w' => e = .returned (.tuple #[.agg #[.string nm, .int .i64 (q : Int), .int .i64 (kd : Int), .string ⟨s.toArray⟩, .string ⟨t.toArray⟩], .int .i64 ((i + j + x + y : Nat) : Int)]) ∧ Below w.heap.size w w' := by
  obtain ⟨a, len, cap, rfl, -⟩ := hv.form
  obtain ⟨hn, hcap⟩ := rdB_sl hv
  obtain ⟨i1, i2, -, -⟩ := getN_le h0
  obtain ⟨j1, j2, -, -⟩ := getN_le h1
  obtain ⟨x1, x2⟩ := getT_le h2
  obtain ⟨y1, y2⟩ := getT_le h3
  rw [List.length_drop] at j2 x2 y2
  have hil : i ≤ len := by omega
  have hijl : i + j ≤ len := by omega
  have hijx : i + j + x ≤ len := by omega
  have hlb : len ≤ 1000000000000 := by omega
  have hye : i + j + x + y ≤ 1000000000000 := by omega
  have hsl1 := fun W => sl_lB W a len cap i hil hcap
  have hsl2 := fun W => sl_lB W a len cap (i + j) hijl hcap
  have hsl3 := fun W => sl_lB W a len cap (i + j + x) hijx hcap
  have R1 := hv.drop i hil
  have R2 := hv.drop (i + j) hijl
  have R3 := hv.drop (i + j + x) hijx
  generalize hT1 : (if cap = i then a else a.map (·.add i)) = T1 at hsl1 R1
  generalize hT2 : (if cap = i + j then a else a.map (·.add (i + j))) = T2 at hsl2 R2
  generalize hT3 : (if cap = i + j + x then a else a.map (·.add (i + j + x))) = T3 at hsl3 R3
  have G0 : Hid (∀ W, Below w.heap.size w W → Calls Tryd.prog 86 #[.slice a len cap] W fun e w' => e = .returned (.tuple #[.int .u64 (q : Int), .int .i64 (i : Int)]) ∧ W = w') := Lib.hid fun W hW => by
    have := get_any _ b W (hv.below hW)
    rwa [h0] at this
  have G1 : Hid (∀ W, Below w.heap.size w W → Calls Tryd.prog 86 #[.slice T1 (len - i) (cap - i)] W fun e w' => e = .returned (.tuple #[.int .u64 (kd : Int), .int .i64 (j : Int)]) ∧ W = w') := Lib.hid fun W hW => by
    have := get_any _ (b.drop i) W (R1.below hW)
    rwa [h1] at this
  have G2 : Hid (∀ W, Below w.heap.size w W → Calls Tryd.prog 85 #[.slice T2 (len - (i + j)) (cap - (i + j))] W fun e w' => e = .returned (.tuple #[.string ⟨s.toArray⟩, .int .i64 (x : Int)]) ∧ W = w') := Lib.hid fun W hW => by
    have := gettext_any _ (b.drop (i + j)) W (R2.below hW)
    rwa [h2] at this
  have G3 : Hid (∀ W, Below w.heap.size w W → Calls Tryd.prog 85 #[.slice T3 (len - (i + j + x)) (cap - (i + j + x))] W fun e w' => e = .returned (.tuple #[.string ⟨t.toArray⟩, .int .i64 (y : Int)]) ∧ W = w') := Lib.hid fun W hW => by
    have := gettext_any _ (b.drop (i + j + x)) W (R3.below hW)
    rwa [h3] at this
  generalize len - i = N1 at *
  generalize len - (i + j) = N2 at *
  generalize len - (i + j + x) = N3 at *
  generalize cap - i = C1 at *
  generalize cap - (i + j) = C2 at *
  generalize cap - (i + j + x) = C3 at *
  generalize (⟨s.toArray⟩ : ByteArray) = S at *
  generalize (⟨t.toArray⟩ : ByteArray) = T at *
  obtain ⟨IJ, hIJ⟩ : ∃ Q, i + j = Q := ⟨_, rfl⟩
  rw [hIJ] at hsl2 hsl3 hijl hijx hye ⊢
  obtain ⟨IX, hIX⟩ : ∃ Q, IJ + x = Q := ⟨_, rfl⟩
  rw [hIX] at hsl3 hijx hye ⊢
  obtain ⟨IY, hIY⟩ : ∃ Q, IX + y = Q := ⟨_, rfl⟩
  rw [hIY] at hye ⊢
  have e1 : (i : Int) + (j : Int) = (IJ : Int) := by omega
  have e2 : (IJ : Int) + (x : Int) = (IX : Int) := by omega
  have e3 : (IX : Int) + (y : Int) = (IY : Int) := by omega
  have z0 : ((i : Int) == 0) = false := by rw [beq_eq_false_iff_ne]; omega
  have z1 : ((j : Int) == 0) = false := by rw [beq_eq_false_iff_ne]; omega
  have z2 : ((x : Int) == 0) = false := by rw [beq_eq_false_iff_ne]; omega
  have z3 : ((y : Int) == 0) = false := by rw [beq_eq_false_iff_ne]; omega
  have wq : wrap64 (q : Int) = (q : Int) := IntWalk.wrap64_in _ (by omega)
  have wk : wrap64 (kd : Int) = (kd : Int) := IntWalk.wrap64_in _ (by omega)
  clear hq hk
  clear hT1 hT2 hT3 R1 R2 R3 h0 h1 h2 h3 hv hn hcap hb hIJ hIX hIY i1 i2 j1 j2 x1 x2 y1 y2
  go_enter Tryd.func96, Tryd.ntmps96
  go_wp2_with fail
  refine (G0.out _ ?_).mono ?_
  · exact (Below.refl _ _).alloc (Nat.le_refl _) _
  rintro e w' ⟨rfl, rfl⟩
  go_wp2_with fail
  refine (G1.out _ ?_).mono ?_
  · exact (Below.refl _ _).alloc (Nat.le_refl _) _
  rintro e w' ⟨rfl, rfl⟩
  go_wp2_with fail
  refine (G2.out _ ?_).mono ?_
  · exact (Below.refl _ _).alloc (Nat.le_refl _) _
  rintro e w' ⟨rfl, rfl⟩
  go_wp2_with fail
  refine (G3.out _ ?_).mono ?_
  · exact (Below.refl _ _).alloc (Nat.le_refl _) _
  rintro e w' ⟨rfl, rfl⟩
  clear G0 G1 G2 G3 hsl1 hsl2 hsl3
  obtain ⟨w1, hw1⟩ : ∃ w1, w.alloc (.cells #[.string ⟨#[]⟩, .int .i64 0, .int .i64 0, .string ⟨#[]⟩, .string ⟨#[]⟩] 39) = w1 := ⟨_, rfl⟩
  have HR5 : Hid (Row5 w1 w.heap.size (.string ⟨#[]⟩) (.int .i64 0) (.int .i64 0) (.string ⟨#[]⟩) (.string ⟨#[]⟩)) := Lib.hid (by rw [← hw1]; exact Row5.new w _ _ _ _ _ _)
  have HB1 : Hid (Below w.heap.size w w1) := Lib.hid (by rw [← hw1]; exact (Below.refl _ w).alloc (Nat.le_refl _) _)
  rw [hw1]
  obtain ⟨⟨y0, y1, y2, y3, y4⟩, ⟨f0, f1, f2, f3, f4⟩, hz⟩ := id HR5.out
  clear hw1
  go_wp2_with fail
  refine bodyPost_ret (v := .tuple #[.agg #[.string nm, .int .i64 (q : Int), .int .i64 (kd : Int), .string S, .string T], .int .i64 (IY : Int)]) (by simp [results, Tryd.results96, go_sem, y0, y1, y2, y3, y4]) rfl ⟨rfl, ?_⟩
  iterate 5 refine Below.setCell ?_ (by simp) _
  exact HB1.out
set_option maxHeartbeats 8000000 in
theorem getpart_raw (v : Value) (most : Nat) (b : List UInt8) (hb : b.length ≤ 1000000000000) (s : List UInt8) (q : Nat) (sz : Nat) (ct : Nat) (i j x y : Nat) (h0 : getT b = some (s, i)) (h1 : getN (b.drop i) = some (q, j)) (h2 : getN (b.drop (i + j)) = some (sz, x)) (h3 : getN (b.drop (i + j + x)) = some (ct, y))
    (hq : q < 2 ^ 63) (hm : most < 2 ^ 63) (hs : sz ≤ most) (hc : ct ≤ sz) (w : World) (hv : RdB w v b) :
    Calls Tryd.prog 67 #[v, .int .i64 (most : Int)] w fun e w' => e = .returned (.tuple #[.agg #[.string ⟨s.toArray⟩, .int .i64 (q : Int), .int .i64 0, .string ⟨#[]⟩, .string ⟨#[]⟩, .int .i64 0, .int .i64 (sz : Int), .int .i64 (ct : Int)], .int .i64 ((i + j + x + y : Nat) : Int)]) ∧ Below w.heap.size w w' := by
  obtain ⟨a, len, cap, rfl, -⟩ := hv.form
  obtain ⟨hn, hcap⟩ := rdB_sl hv
  obtain ⟨i1, i2⟩ := getT_le h0
  obtain ⟨j1, j2, -, -⟩ := getN_le h1
  obtain ⟨x1, x2, -, -⟩ := getN_le h2
  obtain ⟨y1, y2, -, -⟩ := getN_le h3
  rw [List.length_drop] at j2 x2 y2
  have hil : i ≤ len := by omega
  have hijl : i + j ≤ len := by omega
  have hijx : i + j + x ≤ len := by omega
  have hlb : len ≤ 1000000000000 := by omega
  have hye : i + j + x + y ≤ 1000000000000 := by omega
  have hsl1 := fun W => sl_lB W a len cap i hil hcap
  have hsl2 := fun W => sl_lB W a len cap (i + j) hijl hcap
  have hsl3 := fun W => sl_lB W a len cap (i + j + x) hijx hcap
  have R1 := hv.drop i hil
  have R2 := hv.drop (i + j) hijl
  have R3 := hv.drop (i + j + x) hijx
  generalize hT1 : (if cap = i then a else a.map (·.add i)) = T1 at hsl1 R1
  generalize hT2 : (if cap = i + j then a else a.map (·.add (i + j))) = T2 at hsl2 R2
  generalize hT3 : (if cap = i + j + x then a else a.map (·.add (i + j + x))) = T3 at hsl3 R3
  have G0 : Hid (∀ W, Below w.heap.size w W → Calls Tryd.prog 85 #[.slice a len cap] W fun e w' => e = .returned (.tuple #[.string ⟨s.toArray⟩, .int .i64 (i : Int)]) ∧ W = w') := Lib.hid fun W hW => by
    have := gettext_any _ b W (hv.below hW)
    rwa [h0] at this
  have G1 : Hid (∀ W, Below w.heap.size w W → Calls Tryd.prog 86 #[.slice T1 (len - i) (cap - i)] W fun e w' => e = .returned (.tuple #[.int .u64 (q : Int), .int .i64 (j : Int)]) ∧ W = w') := Lib.hid fun W hW => by
    have := get_any _ (b.drop i) W (R1.below hW)
    rwa [h1] at this
  have G2 : Hid (∀ W, Below w.heap.size w W → Calls Tryd.prog 86 #[.slice T2 (len - (i + j)) (cap - (i + j))] W fun e w' => e = .returned (.tuple #[.int .u64 (sz : Int), .int .i64 (x : Int)]) ∧ W = w') := Lib.hid fun W hW => by
    have := get_any _ (b.drop (i + j)) W (R2.below hW)
    rwa [h2] at this
  have G3 : Hid (∀ W, Below w.heap.size w W → Calls Tryd.prog 86 #[.slice T3 (len - (i + j + x)) (cap - (i + j + x))] W fun e w' => e = .returned (.tuple #[.int .u64 (ct : Int), .int .i64 (y : Int)]) ∧ W = w') := Lib.hid fun W hW => by
    have := get_any _ (b.drop (i + j + x)) W (R3.below hW)
    rwa [h3] at this
  generalize len - i = N1 at *
  generalize len - (i + j) = N2 at *
  generalize len - (i + j + x) = N3 at *
  generalize cap - i = C1 at *
  generalize cap - (i + j) = C2 at *
  generalize cap - (i + j + x) = C3 at *
  generalize (⟨s.toArray⟩ : ByteArray) = S at *
  obtain ⟨IJ, hIJ⟩ : ∃ Q, i + j = Q := ⟨_, rfl⟩
  rw [hIJ] at hsl2 hsl3 hijl hijx hye ⊢
  obtain ⟨IX, hIX⟩ : ∃ Q, IJ + x = Q := ⟨_, rfl⟩
  rw [hIX] at hsl3 hijx hye ⊢
  obtain ⟨IY, hIY⟩ : ∃ Q, IX + y = Q := ⟨_, rfl⟩
  rw [hIY] at hye ⊢
  have e1 : (i : Int) + (j : Int) = (IJ : Int) := by omega
  have e2 : (IJ : Int) + (x : Int) = (IX : Int) := by omega
  have e3 : (IX : Int) + (y : Int) = (IY : Int) := by omega
  have z0 : ((i : Int) == 0) = false := by rw [beq_eq_false_iff_ne]; omega
  have z1 : ((j : Int) == 0) = false := by rw [beq_eq_false_iff_ne]; omega
  have z2 : ((x : Int) == 0) = false := by rw [beq_eq_false_iff_ne]; omega
  have z3 : ((y : Int) == 0) = false := by rw [beq_eq_false_iff_ne]; omega
  have wq := wrap_i64n q hq
  have wz := wrap_i64n sz (Nat.lt_of_le_of_lt hs hm)
  have wc := wrap_i64n ct (Nat.lt_of_le_of_lt hc (Nat.lt_of_le_of_lt hs hm))
  have wm := mod_u64n most hm
  have g1 : ¬ (most : Int) < (sz : Int) := Int.not_lt.2 (Int.ofNat_le.2 hs)
  have g2 : ¬ (sz : Int) < (ct : Int) := Int.not_lt.2 (Int.ofNat_le.2 hc)
  clear hq hm hs hc
  clear hT1 hT2 hT3 R1 R2 R3 h0 h1 h2 h3 hv hn hcap hb hIJ hIX hIY i1 i2 j1 j2 x1 x2 y1 y2
  go_enter Tryd.func67, Tryd.ntmps67
  go_wp2_with fail
  refine (G0.out _ ?_).mono ?_
  · exact (Below.refl _ _).alloc (Nat.le_refl _) _
  rintro e w' ⟨rfl, rfl⟩
  go_wp2_with fail
  refine (G1.out _ ?_).mono ?_
  · exact (Below.refl _ _).alloc (Nat.le_refl _) _
  rintro e w' ⟨rfl, rfl⟩
  go_wp2_with fail
  refine (G2.out _ ?_).mono ?_
  · exact (Below.refl _ _).alloc (Nat.le_refl _) _
  rintro e w' ⟨rfl, rfl⟩
  go_wp2_with fail
  refine (G3.out _ ?_).mono ?_
  · exact (Below.refl _ _).alloc (Nat.le_refl _) _
  rintro e w' ⟨rfl, rfl⟩
  clear G0 G1 G2 G3 hsl1 hsl2 hsl3
  obtain ⟨w1, hw1⟩ : ∃ w1, w.alloc (.cells #[.string ⟨#[]⟩, .int .i64 0, .int .i64 0, .string ⟨#[]⟩, .string ⟨#[]⟩, .int .i64 0, .int .i64 0, .int .i64 0] 58) = w1 := ⟨_, rfl⟩
  have HBK : Hid (BlkAt w1 w.heap.size #[.string ⟨#[]⟩, .int .i64 0, .int .i64 0, .string ⟨#[]⟩, .string ⟨#[]⟩, .int .i64 0, .int .i64 0, .int .i64 0] 58) := Lib.hid (by rw [← hw1]; exact BlkAt.new w _ _)
  have HB1 : Hid (Below w.heap.size w w1) := Lib.hid (by rw [← hw1]; exact (Below.refl _ w).alloc (Nat.le_refl _) _)
  rw [hw1]
  clear hw1
  go_upto_region 10 with fail
  obtain ⟨w2, hw2⟩ : ∃ w2, w1.alloc (.cells #[.string S, .int .i64 (q : Int), .int .i64 0, .string ⟨#[]⟩, .string ⟨#[]⟩] 39) = w2 := ⟨_, rfl⟩
  have HEK : Hid (BlkAt w2 w1.heap.size #[.string S, .int .i64 (q : Int), .int .i64 0, .string ⟨#[]⟩, .string ⟨#[]⟩] 39) := Lib.hid (by rw [← hw2]; exact BlkAt.new w1 _ _)
  have HBK2 : Hid (BlkAt w2 w.heap.size #[.string ⟨#[]⟩, .int .i64 0, .int .i64 0, .string ⟨#[]⟩, .string ⟨#[]⟩, .int .i64 0, .int .i64 0, .int .i64 0] 58) := Lib.hid (by rw [← hw2]; exact HBK.out.more _)
  have HB2 : Hid (Below w.heap.size w w2) := Lib.hid (by rw [← hw2]; exact HB1.out.alloc HB1.out.size _)
  rw [hw2]
  clear hw2 HBK HB1
  generalize w1.heap.size = g1' at *
  have c0 : w2.cell? ⟨g1', 0, none⟩ = some (.string S) := HEK.out.at 0
  have c1 : w2.cell? ⟨g1', 1, none⟩ = some (.int .i64 (q : Int)) := HEK.out.at 1
  have c2 : w2.cell? ⟨g1', 2, none⟩ = some (.int .i64 0) := HEK.out.at 2
  have c3 : w2.cell? ⟨g1', 3, none⟩ = some (.string ⟨#[]⟩) := HEK.out.at 3
  have c4 : w2.cell? ⟨g1', 4, none⟩ = some (.string ⟨#[]⟩) := HEK.out.at 4
  have y0 : w2.cell? ⟨w.heap.size, 0, none⟩ = some (.string ⟨#[]⟩) := HBK2.out.at 0
  have y1 : w2.cell? ⟨w.heap.size, 1, none⟩ = some (.int .i64 0) := HBK2.out.at 1
  have y2 : w2.cell? ⟨w.heap.size, 2, none⟩ = some (.int .i64 0) := HBK2.out.at 2
  have y3 : w2.cell? ⟨w.heap.size, 3, none⟩ = some (.string ⟨#[]⟩) := HBK2.out.at 3
  have y4 : w2.cell? ⟨w.heap.size, 4, none⟩ = some (.string ⟨#[]⟩) := HBK2.out.at 4
  have y5 : w2.cell? ⟨w.heap.size, 5, none⟩ = some (.int .i64 0) := HBK2.out.at 5
  have y6 : w2.cell? ⟨w.heap.size, 6, none⟩ = some (.int .i64 0) := HBK2.out.at 6
  have y7 : w2.cell? ⟨w.heap.size, 7, none⟩ = some (.int .i64 0) := HBK2.out.at 7
  have f0 := HBK2.out.free 0
  have f1 := HBK2.out.free 1
  have f2 := HBK2.out.free 2
  have f3 := HBK2.out.free 3
  have f4 := HBK2.out.free 4
  have f5 := HBK2.out.free 5
  have f6 := HBK2.out.free 6
  have f7 := HBK2.out.free 7
  have hz := HBK2.out.lt
  go_wp2_with fail
  refine bodyPost_ret (v := .tuple #[.agg #[.string S, .int .i64 (q : Int), .int .i64 0, .string ⟨#[]⟩, .string ⟨#[]⟩, .int .i64 0, .int .i64 (sz : Int), .int .i64 (ct : Int)], .int .i64 (IY : Int)]) (by simp [results, Tryd.results67, go_sem, y0, y1, y2, y3, y4, y5, y6, y7]) rfl ⟨rfl, ?_⟩
  iterate 8 refine Below.setCell ?_ (by simp) _
  exact HB2.out
end Go.Proofs.YtennpdhnjaemeaaDoor
/- The walks of table's getVersions and getBlock. -/
namespace Go.Proofs.YtennpdhnjaemeaaDoor
set_option linter.unusedVariables false
set_option maxRecDepth 100000
open Go.RowKit
theorem getver_any {K : Nat} (e : Ent) (h : RightE e) (hf : FitE K e) (hK : K < 2 ^ 63) (r : List UInt8) (hb : (verB e ++ r).length ≤ 1000000000000) (v : Value) (w : World) (hv : RdB w v (verB e ++ r)) :
    Calls Tryd.prog 96 #[.string e.norm, v] w fun en w' => en = .returned (.tuple #[.agg #[.string e.norm, .int .i64 e.seq, .int .i64 e.kind, .string e.spell, .string e.val], .int .i64 ((verB e).length : Int)]) ∧ Below w.heap.size w w' := by
  obtain ⟨a, b, c, d⟩ := ver_read h hf hK r
  have H := getver_raw e.norm v _ hb _ _ _ _ _ _ _ _ a b c d (by have := h.seq2; omega) (by rcases h.kind with k | ⟨k, -⟩ <;> rw [k] <;> decide) w hv
  refine H.mono ?_
  rintro en w' ⟨rfl, h1⟩
  refine ⟨?_, h1⟩
  have h2 := ent_is h
  have h3 : (e.seq.toNat : Int) = e.seq := Int.toNat_of_nonneg (by have := h.seq1; omega)
  have h4 : (e.kind.toNat : Int) = e.kind := by rcases h.kind with k | ⟨k, -⟩ <;> rw [k] <;> rfl
  rw [h3, h4, verB_len]
/-- The five cells of an entry's block. -/
theorem blk5 {W : World} {g : Nat} {a b c d x : Value} {t : TypeId} (h : BlkAt W g #[a, b, c, d, x] t) : W.cell? ⟨g, 0, none⟩ = some a ∧ W.cell? ⟨g, 1, none⟩ = some b ∧ W.cell? ⟨g, 2, none⟩ = some c ∧ W.cell? ⟨g, 3, none⟩ = some d ∧ W.cell? ⟨g, 4, none⟩ = some x := ⟨h.at 0, h.at 1, h.at 2, h.at 3, h.at 4⟩
theorem verG_cons (e : Ent) (g : List Ent) : verG (e :: g) = verB e ++ verG g := rfl
theorem verG_pos {g : List Ent} (h : g ≠ []) : 0 < (verG g).length := by
  cases g with
  | nil => exact absurd rfl h
  | cons e r => have := verB_pos e; rw [verG_cons, List.length_append]; omega
theorem verG_ge : ∀ g : List Ent, 4 * g.length ≤ (verG g).length
  | [] => Nat.zero_le _
  | e :: r => by have := verB_pos e; have := verG_ge r; rw [verG_cons, List.length_append, List.length_cons]; omega
set_option maxHeartbeats 16000000 in
theorem getvers_any {K : Nat} (nm : ByteArray) (g : List Ent) (hn : ∀ e ∈ g, e.norm = nm) (hr : ∀ e ∈ g, RightE e ∧ FitE K e) (hK : K < 2 ^ 63) (hl : (verG g).length ≤ 1000000000) (w : World) :
    Calls Tryd.prog 88 #[.agg #[.string nm, .string ⟨(verG g).toArray⟩]] w fun en w' => ∃ v, en = .returned (.tuple #[v, .bool true]) ∧ OwnK encEnt 5 39 w.heap.size w' v g ∧ Below w.heap.size w w' := by
  have HG := Lib.hid hr
  have HNM := Lib.hid hn
  have HVL : Hid ((verG g).length ≤ 1000000000) := Lib.hid hl
  obtain ⟨vb, hvb⟩ : ∃ vb : ByteArray, (⟨(verG g).toArray⟩ : ByteArray) = vb := ⟨_, rfl⟩
  have hvd : vb.data.toList = verG g := by rw [← hvb]
  have hvs : vb.size ≤ 1000000000 := by rw [← size_toList, hvd]; exact hl
  have hvm : vb.size ≤ maxLen := by unfold maxLen; omega
  have hrow : BlkAt (w.alloc (.cells #[.string nm, .string vb] 128)) w.heap.size #[.string nm, .string vb] 128 := BlkAt.new _ _ _
  have hcv := Lib.run_convert_string_bytes (P := Tryd.prog) (w.alloc (.cells #[.string nm, .string vb] 128)) 9 25 5 vb (u := .string) Tryd.underlying9 Tryd.underlying25 Tryd.underlying5
  have hbw := RdB.conv (w.alloc (.cells #[.string nm, .string vb] 128)) vb hvm
  have hbb : Below w.heap.size w (Lib.bytesWorld (w.alloc (.cells #[.string nm, .string vb] 128)) 5 vb) := ((Below.refl _ w).alloc (Nat.le_refl _) _).trans ((below_conv _ _ _).mono (by simp))
  have hrw := hrow.below (below_conv (w.alloc (.cells #[.string nm, .string vb] 128)) 5 vb)
  rw [hvb]
  rw [hvd] at hbw
  go_enter Tryd.func88, Tryd.ntmps88
  go_upto_region 1 with fail
  obtain ⟨w1, hw1⟩ : ∃ w1, w.alloc (.cells #[.string nm, .string vb] 128) = w1 := ⟨_, rfl⟩
  rw [hw1] at hrow hcv hbw hbb hrw ⊢
  have r0 : w1.cell? ⟨w.heap.size, 1, none⟩ = some (.string vb) := hrow.at 1
  obtain ⟨w2, hw2⟩ : ∃ w2, Lib.bytesWorld w1 5 vb = w2 := ⟨_, rfl⟩
  rw [hw2] at hcv hbw hbb hrw
  obtain ⟨hc, hhc⟩ : ∃ c, grownCap w1 vb.size 0 5 = c := ⟨_, rfl⟩
  rw [hhc] at hcv hbw
  obtain ⟨b1, hb1⟩ : ∃ b1, w1.heap.size = b1 := ⟨_, rfl⟩
  rw [hb1] at hcv hbw
  obtain ⟨b0, hb0⟩ : ∃ b0, w.heap.size = b0 := ⟨_, rfl⟩
  rw [hb0] at hrow hrw r0 ⊢
  have HBW := Lib.hid hbw
  have HBB := Lib.hid hbb
  have HRW := Lib.hid hrw
  obtain ⟨N0, hN0⟩ : ∃ n, vb.size = n := ⟨_, rfl⟩
  rw [hN0] at hcv HBW hvs
  clear hbw hbb hrw hw1 hw2 hhc hb1 hb0 hrow hvb hvd hvm hn hr hl hN0
  go_wp2_with fail
  clear r0 hcv
  go_loopg [4, 5] N0 (fun kk vl vbs wr => ∃ (pre post : List Ent) (a4 : Option Addr) (n4 c4 : Nat) (a5 : Option Addr) (n5 c5 : Nat), vl = .slice a4 n4 c4 ∧ vbs = .slice a5 n5 c5 ∧ n5 ≤ kk ∧ n5 ≤ 1000000000 ∧ Hid (g = pre ++ post) ∧ Hid (n5 = (verG post).length) ∧ Hid (n4 = pre.length) ∧ Hid (OwnK encEnt 5 39 w2.heap.size wr (.slice a4 n4 c4) pre) ∧ Hid (RdB w2 (.slice a5 n5 c5) (verG post)) ∧ Hid (Below w2.heap.size w2 wr))
  case atStart =>
    refine ⟨[], g, none, 0, 0, _, _, _, rfl, rfl, Nat.le_refl _, hvs, Lib.hid rfl, Lib.hid (rdB_sl HBW.out).1, Lib.hid rfl, Lib.hid (OwnK.nil _ _ _ _ _), HBW, Lib.hid (Below.refl _ _)⟩
  case round =>
    obtain ⟨pre, post, a4, n4, c4, a5, n5, c5, rfl, rfl, hkk, hn5, HGQ, HN5, HN4, HO, HRB, HB⟩ := hrel
    cases post with
    | nil =>
      obtain rfl : n5 = 0 := HN5.out
      have HGP : Hid (pre = g) := Lib.hid (by have := HGQ.out; rw [List.append_nil] at this; exact this.symm)
      rw [HGP.out] at HO
      have HB3 := Lib.hid (HBB.out.trans (HB.out.mono HBB.out.size))
      have HO3 := Lib.hid (HO.out.base (B' := w.heap.size) HBB.out.size)
      clear HGQ HN5 HN4 HO HRB HB HGP
      go_wp2_with fail
      go_ret2
      exact ⟨_, rfl, HO3.out, HB3.out⟩
    | cons e r =>
      have hmem : e ∈ g := by rw [HGQ.out]; simp
      have HVV := HRB.out.below HB.out
      have hpos : 0 < n5 := by rw [HN5.out]; exact verG_pos (by simp)
      rw [verG_cons] at HVV HN5
      have hvl := verB_pos e
      have HGV := Lib.hid (getver_any e (HG.out e hmem).1 (HG.out e hmem).2 hK (verG r) (by rw [← HN5.out]; omega) _ wr HVV)
      have hEN : e.norm = nm := HNM.out e hmem
      have r1 : wr.cell? ⟨b0, 0, none⟩ = some (.string e.norm) := by rw [hEN]; exact (HRW.out.below HB.out).at 0
      obtain ⟨k, hk⟩ : ∃ k, (verB e).length = k := ⟨_, rfl⟩
      have hkl : k + (verG r).length = n5 := by rw [HN5.out, List.length_append, hk]
      have hkn : k ≤ n5 := by omega
      have HD := HRB.out.drop k hkn
      rw [verG_cons, ← hk, List.drop_left, hk] at HD
      have hc5 := (rdB_sl HRB.out).2
      have hsl := fun W => sl_lB W a5 n5 c5 k hkn hc5
      generalize hT : (if c5 = k then a5 else a5.map (·.add k)) = T at HD hsl
      obtain ⟨Q, hQ⟩ : ∃ Q, n5 - k = Q := ⟨_, rfl⟩
      obtain ⟨C, hC⟩ : ∃ C, c5 - k = C := ⟨_, rfl⟩
      rw [hQ, hC] at HD
      simp only [hQ, hC] at hsl
      have HRD := Lib.hid HD
      rw [hk] at HGV
      have HQN : Hid (Q = (verG r).length) := Lib.hid (by omega)
      have hQk : Q < n5 := by omega
      have hk0 : ((k : Int) == 0) = false := by rw [beq_eq_false_iff_ne]; omega
      have hn0 : (0 : Int) < (n5 : Int) := by omega
      have HPS : Hid (g = (pre ++ [e]) ++ r) := Lib.hid (by rw [HGQ.out]; simp)
      have hgl : g.length ≤ 1000000000 := by have := verG_ge g; have := HVL.out; omega
      have hpl : pre.length + 1 ≤ 1000000000 := by have h := congrArg List.length HPS.out; rw [List.length_append, List.length_append, List.length_singleton] at h; omega
      clear HD HVV hT hQ hC hk hkl HRB hmem HN5 HGQ hvl hgl hEN
      go_wp2_with fail
      refine HGV.out.mono ?_
      rintro en w3 ⟨rfl, b3⟩
      have HB3 := Lib.hid (HB.out.trans (b3.mono HB.out.size))
      have HO3 := Lib.hid (HO.out.below b3)
      clear b3 HGV HB HO r1
      go_upto_region 7 with fail
      have hbk : BlkAt (w3.alloc (.cells #[.string e.norm, .int .i64 e.seq, .int .i64 e.kind, .string e.spell, .string e.val] 39)) w3.heap.size #[.string e.norm, .int .i64 e.seq, .int .i64 e.kind, .string e.spell, .string e.val] 39 := BlkAt.new _ _ _
      have hb3 := HB3.out.alloc HB3.out.size (.cells #[.string e.norm, .int .i64 e.seq, .int .i64 e.kind, .string e.spell, .string e.val] 39)
      have ho3 := HO3.out.below ((Below.refl _ w3).alloc (Nat.le_refl _) (.cells #[.string e.norm, .int .i64 e.seq, .int .i64 e.kind, .string e.spell, .string e.val] 39))
      have hgp : ∀ x, (Value.slice a4 n4 c4).ownBlock = some x → w3.heap.size ≠ x := fun x hx => by have := row_lt HO3.out x hx; omega
      obtain ⟨g3, hg3⟩ : ∃ g3, w3.heap.size = g3 := ⟨_, rfl⟩
      rw [hg3] at hbk hgp ⊢
      obtain ⟨wc, hwc⟩ : ∃ wc, w3.alloc (.cells #[.string e.norm, .int .i64 e.seq, .int .i64 e.kind, .string e.spell, .string e.val] 39) = wc := ⟨_, rfl⟩
      rw [hwc] at hbk hb3 ho3 ⊢
      have hwz := hb3.size
      obtain ⟨v4, w4, hrun, o4, b4, u4, -⟩ := run_oneK (ty := 22) elem_ent encEnt_len (w := wc.drew) ho3 e (fun u hu => encEnt_one [e] u (by simpa using hu)) (by have := HN4.out; omega) (by have := HN4.out; unfold maxLen; omega) hwz
      have HRUN := Lib.hid hrun
      have HBK := Lib.hid hbk
      have HB4 := Lib.hid (hb3.drew.trans b4)
      have HBK2 : Hid (BlkAt (wc.drew.alloc (.cells (encEnt e).toArray 39)) g3 #[.string e.norm, .int .i64 e.seq, .int .i64 e.kind, .string e.spell, .string e.val] 39) := Lib.hid (BlkAt.more (w := wc.drew) hbk _)
      have HBK4 : Hid (BlkAt w4 g3 #[.string e.norm, .int .i64 e.seq, .int .i64 e.kind, .string e.spell, .string e.val] 39) := Lib.hid ((u4.block g3 hbk.lt (fun e => hgp _ e rfl)).trans hbk)
      obtain ⟨a9, c9, rfl, -⟩ := o4.kform
      obtain ⟨n9, hn9⟩ : ∃ n9, (pre ++ [e]).length = n9 := ⟨_, rfl⟩
      have HN9 : Hid (n9 = (pre ++ [e]).length) := Lib.hid hn9.symm
      have HO4 := Lib.hid o4
      rw [hn9] at HO4 HRUN
      clear hrun o4 b4 u4 hn9 HO3 HB3 hbk hb3 ho3 hwc hg3 hwz hgp hpl
      go_wp2_with fail
      refine wp_region_held_drew (S := fun W => BlkAt W g3 #[.string e.norm, .int .i64 e.seq, .int .i64 e.kind, .string e.spell, .string e.val] 39) (by kernel_rfl) HBK.out (fun hHeld => ?_)
      refine takeYes (i := 0) (k := 23) (v := .slice a4 n4 c4) rfl (by kernel_rfl) (by kernel_rfl) (by kernel_rfl) (by kernel_rfl) (fun _ _ _ h => h) (by kernel_rfl) ?_ (by assumption) ?_
      · intro W hSw; first | (go_simp; done) | go_simp
      try simp only [Act.put, List.setIfInBounds_toArray, List.set_cons_zero, List.set_cons_succ]
      refine takeYes (i := 1) (k := 24) (v := .agg #[.string e.norm, .int .i64 e.seq, .int .i64 e.kind, .string e.spell, .string e.val]) rfl (by kernel_rfl) (by kernel_rfl) (by kernel_rfl) (by kernel_rfl) (fun _ _ _ h => h) (by kernel_rfl) ?_ (by assumption) ?_
      · intro W hSw; obtain ⟨d0, d1, d2, d3, d4⟩ := blk5 hSw; first | (go_simp; done) | go_simp
      try simp only [Act.put, List.setIfInBounds_toArray, List.set_cons_zero, List.set_cons_succ]
      refine takeYes (i := 4) (k := 27) (v := .slice a5 n5 c5) rfl (by kernel_rfl) (by kernel_rfl) (by kernel_rfl) (by kernel_rfl) (fun _ _ _ h => h) (by kernel_rfl) ?_ (by assumption) ?_
      · intro W hSw; first | (go_simp; done) | go_simp
      try simp only [Act.put, List.setIfInBounds_toArray, List.set_cons_zero, List.set_cons_succ]
      refine takeYes (i := 5) (k := 28) (v := .int .i64 (k : Int)) rfl (by kernel_rfl) (by kernel_rfl) (by kernel_rfl) (by kernel_rfl) (fun _ _ _ h => h) (by kernel_rfl) ?_ (by assumption) ?_
      · intro W hSw; first | (go_simp; done) | go_simp
      try simp only [Act.put, List.setIfInBounds_toArray, List.set_cons_zero, List.set_cons_succ]
      refine takeYes (i := 6) (k := 29) (v := .slice T Q C) rfl (by kernel_rfl) (by kernel_rfl) (by kernel_rfl) (by kernel_rfl) (fun _ _ _ h => h) (by kernel_rfl) ?_ (by assumption) ?_
      · intro W hSw; have hsl2 := hsl W; first | (go_simp; done) | go_simp
      try simp only [Act.put, List.setIfInBounds_toArray, List.set_cons_zero, List.set_cons_succ]
      refine wpAnyH_ready (rs := [2]) (by kernel_rfl) (by simp) (AllReadyH.cons rfl (fun K hK => ?_) AllReadyH.nil)
      go_simp
      refine hK.out _ _ HBK2.out (fun hHeld2 => ?_)
      clear hK K hHeld
      try simp only [Act.put, List.setIfInBounds_toArray, List.set_cons_zero, List.set_cons_succ]
      refine wpAnyH_ready (rs := [3]) (by kernel_rfl) (by simp) (AllReadyH.cons rfl (fun K hK => ?_) AllReadyH.nil)
      refine step_appD 26 rfl (by kernel_rfl) (.tmp 23) (.tmp 25) 22 rfl rfl rfl HRUN.out ?_
      refine hK.out _ _ HBK4.out (fun hHeld3 => ?_)
      clear hK K hHeld2
      try simp only [Act.put, List.setIfInBounds_toArray, List.set_cons_zero, List.set_cons_succ]
      refine takeYes (i := 7) (k := 4) (v := .slice a9 n9 c9) rfl (by kernel_rfl) (by kernel_rfl) (by kernel_rfl) (by kernel_rfl) (fun _ _ _ h => h) (by kernel_rfl) ?_ (by assumption) ?_
      · intro W hSw; first | (go_simp; done) | go_simp
      try simp only [Act.put, List.setIfInBounds_toArray, List.set_cons_zero, List.set_cons_succ]
      refine takeYes (i := 8) (k := 5) (v := .slice T Q C) rfl (by kernel_rfl) (by kernel_rfl) (by kernel_rfl) (by kernel_rfl) (fun _ _ _ h => h) (by kernel_rfl) ?_ (by assumption) ?_
      · intro W hSw; first | (go_simp; done) | go_simp
      try simp only [Act.put, List.setIfInBounds_toArray, List.set_cons_zero, List.set_cons_succ]
      refine wpAnyH_done (by kernel_rfl) ?_ _
      clear hHeld3 hsl
      go_wp2_with fail
      go_roundg Q
      case measure => omega
      case rel => exact ⟨pre ++ [e], r, _, _, _, _, _, _, rfl, rfl, Nat.le_refl _, by omega, HPS, HQN, HN9, HO4, HRD, HB4⟩
end Go.Proofs.YtennpdhnjaemeaaDoor
/- The walk of table's getBlock: of a block that was laid, and of one that was changed. -/
namespace Go.Proofs.YtennpdhnjaemeaaDoor
set_option linter.unusedVariables false
set_option maxRecDepth 100000
open Go.RowKit
/-- A changed block is told. -/
theorem getblk_bad (v : Value) (b : List UInt8) (hu : unsealB b = none) (w : World) (ht : TabAt w) (h : RdB w v b) :
    Calls Tryd.prog 68 #[v] w fun en w' => en = .returned (.tuple #[.slice none 0 0, .bool false]) ∧ Below w.heap.size w w' := by
  obtain ⟨a, n, cap, rfl, -⟩ := h.form
  have HU := Lib.hid (unseal_any _ b w ht h)
  rw [hu] at HU
  clear hu h ht
  go_enter Tryd.func68, Tryd.ntmps68
  go_wp2_with fail
  refine HU.out.mono ?_
  rintro e w1 ⟨rfl, hb⟩
  have HB := Lib.hid hb
  clear hb HU
  go_wp2_with fail
  go_ret2
  exact ⟨rfl, HB.out⟩
theorem flat_take (gs : List (List Ent)) (i : Nat) (g : List Ent) (h : gs[i]? = some g) : (gs.take (i + 1)).flatten = (gs.take i).flatten ++ g := by
  rw [List.take_add_one, h, List.flatten_append]; simp
theorem flat_len_le : ∀ (gs : List (List Ent)) (i : Nat), (gs.take i).flatten.length ≤ gs.flatten.length := fun gs i => by
  conv => rhs; rw [← List.take_append_drop i gs, List.flatten_append, List.length_append]
  omega
/-- How many entries a block has, by its bytes. -/
theorem body_ge : ∀ (gs : List (List Ent)) (n : Nat) (p : List UInt8), 4 * gs.flatten.length ≤ (bodyB n p (gs.map rowE)).length ∧ ∀ g ∈ gs, (verG g).length ≤ (bodyB n p (gs.map rowE)).length
  | [], n, p => ⟨Nat.zero_le _, fun g h => (List.not_mem_nil h).elim⟩
  | g :: r, n, p => by
    obtain ⟨h1, h2⟩ := body_ge r (n + 1) (rowE g).k
    have h3 := verG_ge g
    have h4 : (verG g).length ≤ (rowB n p (rowE g)).length := by
      rw [rowB_len]
      show _ ≤ _ + (verG g).length
      omega
    rw [List.map_cons, bodyB, List.flatten_cons, List.length_append, List.length_append]
    refine ⟨by omega, fun x hx => ?_⟩
    rcases List.mem_cons.1 hx with rfl | hx
    · omega
    · have := h2 x hx; omega
theorem block_ge (gs : List (List Ent)) : 4 * gs.flatten.length ≤ (blockB (gs.map rowE)).length ∧ ∀ g ∈ gs, (verG g).length ≤ (blockB (gs.map rowE)).length := by
  obtain ⟨h1, h2⟩ := body_ge gs 0 []
  have h3 := blockB_len (gs.map rowE)
  exact ⟨by omega, fun g hg => by have := h2 g hg; omega⟩
theorem one_len : ∀ gs : List (List Ent), (∀ g ∈ gs, OneN g) → gs.length ≤ gs.flatten.length
  | [], _ => Nat.zero_le _
  | g :: r, H => by
    have h1 := (H g (by simp)).1
    have h2 := one_len r fun x hx => H x (List.mem_cons_of_mem _ hx)
    rw [List.flatten_cons, List.length_append, List.length_cons]
    cases g with
    | nil => exact absurd rfl h1
    | cons e t => rw [List.length_cons]; omega
theorem ba_back (n : ByteArray) : (⟨n.data.toList.toArray⟩ : ByteArray) = n := rfl
set_option maxHeartbeats 16000000 in
theorem getblk_any {K : Nat} (v : Value) (gs : List (List Ent)) (hp : PcOk gs) (hr : ∀ g ∈ gs, ∀ e ∈ g, RightE e ∧ FitE K e) (hK : K < 2 ^ 63) (hl : (blockB (gs.map rowE)).length ≤ 1000000000) (w : World) (ht : TabAt w) (h : RdB w v (pcB gs)) :
    Calls Tryd.prog 68 #[v] w fun en w' => ∃ u, en = .returned (.tuple #[u, .bool true]) ∧ OwnK encEnt 5 39 w.heap.size w' u gs.flatten ∧ Below w.heap.size w w' := by
  obtain ⟨a, n, cap, rfl, -⟩ := h.form
  have HU := Lib.hid (unseal_any _ (pcB gs) w ht h)
  unfold pcB at HU
  rw [unseal_seal] at HU
  obtain ⟨hb1, hb2⟩ := block_ge gs
  have HVL : Hid (∀ g ∈ gs, (verG g).length ≤ 1000000000) := Lib.hid fun g hg => Nat.le_trans (hb2 g hg) hl
  have HFL : Hid (gs.flatten.length ≤ 1000000000) := Lib.hid (by omega)
  have HBL : Hid ((blockB (gs.map rowE)).length ≤ 1000000000) := Lib.hid hl
  have HRC : Hid (readCk (blockB (gs.map rowE)) = some (gs.map rowE)) := Lib.hid (readC_lay hp.rise (by omega))
  have HON := Lib.hid hp.one
  have HRI := Lib.hid hr
  clear hp hr hl hb1 hb2 h ht
  go_enter Tryd.func68, Tryd.ntmps68
  go_wp2_with fail
  refine HU.out.mono ?_
  rintro e w1 ⟨⟨v1, rfl, x1⟩, b1⟩
  obtain ⟨a1, n1, c1, rfl, -⟩ := x1.form
  have HR := Lib.hid (bkRead_any (.slice a1 n1 c1) (blockB (gs.map rowE)) (by have := HBL.out; omega) w1 x1)
  rw [HRC.out] at HR
  unfold BkReadRes at HR
  simp only [Option.isSome_some, Option.getD_some, if_true] at HR
  have HB1 := Lib.hid b1
  clear x1 b1 HU HRC HBL
  go_wp2_with fail
  refine HR.out.mono ?_
  rintro e w2 ⟨v2, rfl, x2, b2⟩
  obtain ⟨a2, c2, rfl, -⟩ := x2.kform
  have HL2 := Lib.hid (x2.rd encKv_len)
  have HB2 := Lib.hid (HB1.out.trans (b2.mono HB1.out.size))
  rw [List.length_map] at HL2 ⊢
  clear x2 b2 HR HB1
  obtain ⟨N, hN⟩ : ∃ N, gs.length = N := ⟨_, rfl⟩
  have hNl : N ≤ 1000000000 := by
    rw [← hN]
    have := one_len gs HON.out
    have := HFL.out
    omega
  rw [hN] at HL2 ⊢
  have HNN := Lib.hid hN
  clear hN
  go_wp2_with fail
  go_loopg [7, 28] N (fun kk vl vi wr => ∃ (i : Nat) (a7 : Option Addr) (n7 c7 : Nat), vi = .int .i64 (i : Int) ∧ vl = .slice a7 n7 c7 ∧ i ≤ N ∧ N - i ≤ kk ∧ Hid (n7 = (gs.take i).flatten.length) ∧ Hid (OwnK encEnt 5 39 w2.heap.size wr (.slice a7 n7 c7) (gs.take i).flatten) ∧ Hid (Below w2.heap.size w2 wr))
  case atStart => exact ⟨0, none, 0, 0, rfl, rfl, by omega, by omega, Lib.hid rfl, Lib.hid (OwnK.nil _ _ _ _ _), Lib.hid (Below.refl _ _)⟩
  case round =>
    obtain ⟨i, a7, n7, c7, rfl, rfl, hi, hik, HN7, HO, HB⟩ := hrel
    have HL := Lib.hid (HL2.out.below HB.out)
    by_cases h1 : i < N
    · have hi1 : (i : Int) < (N : Int) := by omega
      have hi0 : (0 : Int) ≤ (i : Int) := by omega
      obtain ⟨g, hg⟩ : ∃ g, gs[i]? = some g := ⟨gs[i]'(by have := HNN.out; omega), List.getElem?_eq_getElem _⟩
      have hgm := List.mem_of_getElem? hg
      obtain ⟨bb, oo, rfl, hblt, d0, d1⟩ := HL.out.at2 i (rowE g) (by rw [List.getElem?_map, hg]; rfl)
      have HG := Lib.hid (fun W => getvers_any (K := K) (normG g) g (HON.out g hgm).2 (HRI.out g hgm) hK (HVL.out g hgm) W)
      have HFT : Hid ((gs.take (i + 1)).flatten = (gs.take i).flatten ++ g) := Lib.hid (flat_take gs i g hg)
      have HLN : Hid ((gs.take i).flatten.length + g.length ≤ 1000000000) := Lib.hid (by rw [← List.length_append, ← HFT.out]; exact Nat.le_trans (flat_len_le _ _) HFL.out)
      change _ = some (Value.string (normG g)) at d0
      change _ = some (Value.string ⟨(verG g).toArray⟩) at d1
      obtain ⟨vs, hvs⟩ : ∃ vs : ByteArray, (⟨(verG g).toArray⟩ : ByteArray) = vs := ⟨_, rfl⟩
      rw [hvs] at d1 HG
      generalize normG g = nm at *
      clear hvs hg hgm
      go_wp2_with fail
      refine (HG.out _).mono ?_
      rintro e w5 ⟨v5, rfl, o5, b5⟩
      obtain ⟨a5, c5, rfl, -⟩ := o5.kform
      have hb5 := below_lit HB.out HB.out.size b5
      have hbw : Below wr.heap.size wr w5 := below_lit (Below.refl _ wr) (Nat.le_refl _) b5
      have HB5 := Lib.hid hb5
      have HO5 := Lib.hid (HO.out.below hbw)
      have HS5 := Lib.hid (o5.rd encEnt_len)
      clear o5 b5 hb5 hbw HG HL HO HB d0 d1
      go_wp2_with (at_builtin; refine wp_appSK elem_ent encEnt_len _ _ (by rfl) (by rfl) (by rfl) HO5.out (by rfl) HS5.out (encEnt_one _) ?c1 ?c2 HB5.out.size ?_)
      case c1 => have := HLN.out; omega
      case c2 => have := HLN.out; unfold maxLen; omega
      intro v6 w6 o6 b6
      have HB6 := Lib.hid (HB5.out.trans b6)
      rw [← HFT.out] at o6
      obtain ⟨a6, c6, rfl, -⟩ := o6.kform
      have HO6 := Lib.hid o6
      clear o6 b6 HO5 HS5 HB5
      go_wp2_with fail
      go_roundg (N - (i + 1))
      case measure => omega
      case rel => exact ⟨i + 1, _, _, _, by go_num, rfl, by omega, Nat.le_refl _, Lib.hid rfl, HO6, HB6⟩
    · obtain rfl : i = N := by omega
      have hi1 : ¬ (i : Int) < (i : Int) := by omega
      have HFE : Hid ((gs.take i).flatten = gs.flatten) := Lib.hid (by rw [List.take_of_length_le (by rw [HNN.out]; exact Nat.le_refl _)])
      rw [HFE.out] at HO
      go_wp2_with fail
      go_ret2
      exact ⟨_, rfl, HO.out.base HB2.out.size, HB2.out.trans (HB.out.mono HB2.out.size)⟩
end Go.Proofs.YtennpdhnjaemeaaDoor
/- Plain mathematics of a block that is being filled. -/
namespace Go.Proofs.YtennpdhnjaemeaaDoor
set_option linter.unusedVariables false
theorem verG_app (g h : List Ent) : verG (g ++ h) = verG g ++ verG h := by unfold verG; rw [List.flatMap_append]
theorem verG_flat : ∀ (gs : List (List Ent)) (n : Nat) (p : List UInt8), (verG gs.flatten).length ≤ (bodyB n p (gs.map rowE)).length
  | [], n, p => Nat.zero_le _
  | g :: r, n, p => by
    have h1 := verG_flat r (n + 1) (rowE g).k
    have h4 : (verG g).length ≤ (rowB n p (rowE g)).length := by
      rw [rowB_len]
      show _ ≤ _ + (verG g).length
      omega
    rw [List.map_cons, bodyB, List.flatten_cons, List.length_append, verG_app, List.length_append]
    omega
/-- What is full is full behind one row more. -/
theorem block_grow (rs : List Kv) (r : Kv) : (blockB rs).length + r.v.length ≤ (blockB (rs ++ [r])).length := by
  rw [blockB_len, blockB_len, bodyB_snoc, List.length_append, List.length_append, List.length_singleton, rowB_len]
  omega
theorem verB_bd {e : Ent} {K : Nat} (hf : FitE K e) : (verB e).length ≤ 2 * K + 40 := by
  obtain ⟨f1, f2, f3⟩ := hf
  rw [← size_toList] at f2 f3
  have h1 := (putN_len e.seq.toNat).2
  have h2 := (putN_len e.kind.toNat).2
  have h3 := (putN_len e.spell.data.toList.length).2
  have h4 := (putN_len e.val.data.toList.length).2
  rw [verB_len, textE_len, textE_len]; omega
/-- All but the last entry are few bytes. -/
def FewB (es : List Ent) : Prop := (verG es.dropLast).length < 200
theorem fewB_len {es : List Ent} (h : FewB es) : es.length ≤ 50 := by
  have h1 := verG_ge es.dropLast
  unfold FewB at h
  rw [List.length_dropLast] at h1
  omega
theorem verG_last (es : List Ent) {K : Nat} (hf : ∀ e ∈ es, FitE K e) : (verG es).length ≤ (verG es.dropLast).length + (2 * K + 40) := by
  rcases List.eq_nil_or_concat es with rfl | ⟨ys, z, rfl⟩
  · exact Nat.zero_le _
  · rw [List.concat_eq_append] at hf ⊢
    rw [List.dropLast_concat, verG_app, List.length_append]
    have := verB_bd (hf z (by simp))
    have e : verG [z] = verB z := by unfold verG; simp
    rw [e]; omega
theorem mem_verG {g : List Ent} {gs : List (List Ent)} (h : g ∈ gs) : (verG g).length ≤ (verG gs.flatten).length := by
  obtain ⟨a, b, rfl⟩ := List.append_of_mem h
  rw [List.flatten_append, List.flatten_cons, verG_app, verG_app, List.length_append, List.length_append]
  omega
/-- A block that is being filled is not great. -/
theorem body_fit {gs : List (List Ent)} (h1 : ∀ g ∈ gs, OneN g) (h2 : FewB gs.flatten) (hf : ∀ e ∈ gs.flatten, FitE 1000000 e) : (bodyB 0 [] (gs.map rowE)).length ≤ 400000000 := by
  have h3 := body_bd 2000240 (gs.map rowE) 0 [] (fun r hr => by
    obtain ⟨g, hg, rfl⟩ := List.mem_map.1 hr
    have hv := verG_last gs.flatten hf
    have hm := mem_verG hg
    unfold FewB at h2
    refine ⟨?_, ?_⟩
    · show (normG g).data.toList.length ≤ _
      rw [size_toList]
      cases g with
      | nil => exact absurd rfl (h1 _ hg).1
      | cons e t =>
        have := (hf e (List.mem_flatten.2 ⟨_, hg, by simp⟩)).norm
        show e.norm.size ≤ _
        omega
    · show (verG g).length ≤ _
      omega)
  have h4 := fewB_len h2
  have h5 := one_len gs h1
  rw [List.length_map] at h3
  have h6 : gs.length * (2 * 2000240 + 30) ≤ 50 * (2 * 2000240 + 30) := Nat.mul_le_mul_right _ (by omega)
  omega
/-- The entry behind those of one norm has a greater one. -/
theorem norm_next {l : List Ent} (hs : srtB l = true) {n : Nat} {a b : Ent} (ha : l[n]? = some a) (hb : l[n + 1]? = some b) (hne : b.norm ≠ a.norm) : bl a.norm b.norm := by
  have hp := (srtB_pair l).1 hs
  obtain ⟨h1, e1⟩ := List.getElem?_eq_some_iff.1 ha
  obtain ⟨h2, e2⟩ := List.getElem?_eq_some_iff.1 hb
  have := List.pairwise_iff_getElem.1 hp n (n + 1) h1 h2 (by omega)
  rw [e1, e2] at this
  rcases this with h | ⟨h, -⟩
  · exact h
  · exact absurd h.symm hne
theorem lastK_map : ∀ (gs : List (List Ent)) (g : List Ent), lastK [] ((gs ++ [g]).map rowE) = (normG g).data.toList := fun gs g => by
  rw [List.map_append, List.map_singleton, lastK_snoc]; rfl
theorem oneN_snoc {g : List Ent} {e : Ent} (h : ∀ x ∈ g, x.norm = e.norm) : OneN (g ++ [e]) ∧ normG (g ++ [e]) = e.norm := by
  have hn : normG (g ++ [e]) = e.norm := by
    cases g with
    | nil => rfl
    | cons x t => exact h x (by simp)
  refine ⟨⟨by simp, fun x hx => ?_⟩, hn⟩
  rw [hn]
  rcases List.mem_append.1 hx with hx | hx
  · exact h x hx
  · rw [List.mem_singleton.1 hx]
theorem take_snoc {l : List Ent} {n : Nat} {e : Ent} {es : List Ent} (h : es = l.take n) (he : l[n]? = some e) : es ++ [e] = l.take (n + 1) := by
  rw [h, List.take_add_one, he]; rfl
theorem few_step {gs : List (List Ent)} {g : List Ent} (h : (blockB (gs.map rowE)).length + (verG g).length < 200) (e : Ent) : FewB (gs.flatten ++ (g ++ [e])) := by
  unfold FewB
  rw [← List.append_assoc, List.dropLast_concat, verG_app, List.length_append]
  have h1 := verG_flat gs 0 []
  have h2 := blockB_len (gs.map rowE)
  omega
theorem put_step {l : List Ent} (hs : srtB l = true) {gs : List (List Ent)} {g : List Ent} {nm : ByteArray} {n S V : Nat} (hT : gs.flatten ++ g = l.take n) (hn : n = gs.flatten.length + g.length) (hnl : n ≤ l.length) (hg : ∀ x ∈ g, x.norm = nm) (hne : g ≠ [])
    (hS : S = (blockB (gs.map rowE)).length) (hV : V = (verG g).length) (hex : ∀ e, l[n]? = some e → e.norm = nm → 200 ≤ S + V) :
    ∀ e, l[n]? = some e → (blockB ((gs ++ [g]).map rowE)).length < 200 → addOk ((gs ++ [g]).map rowE) e.norm.data.toList := by
  intro e he hb
  right
  rw [lastK_map]
  rcases List.eq_nil_or_concat g with rfl | ⟨ys, z, rfl⟩
  · exact absurd rfl hne
  rw [List.concat_eq_append] at *
  have hz : z.norm = nm := hg z (by simp)
  have hnz : normG (ys ++ [z]) = nm := by
    rw [(oneN_snoc (g := ys) (e := z) fun x hx => by rw [hz]; exact hg x (by simp [hx])).2, hz]
  rw [hnz]
  rw [List.length_append, List.length_singleton] at hn
  obtain ⟨m, rfl⟩ : ∃ m, n = m + 1 := ⟨n - 1, by omega⟩
  have hlz : l[m]? = some z := by
    have h1 : (gs.flatten ++ (ys ++ [z]))[m]? = (l.take (m + 1))[m]? := by rw [hT]
    rw [List.getElem?_take_of_lt (by omega), ← List.append_assoc, List.getElem?_append_right (by rw [List.length_append]; omega)] at h1
    rw [← h1, List.length_append, show m - (gs.flatten.length + ys.length) = 0 by omega]
    rfl
  by_cases hq : e.norm = nm
  · have h1 := hex e he hq
    have h2 := block_grow (gs.map rowE) (rowE (ys ++ [z]))
    have h3 : (rowE (ys ++ [z])).v.length = V := hV.symm
    rw [List.map_append, List.map_singleton] at hb
    omega
  · have := norm_next hs hlz he (by rw [hz]; exact hq)
    rw [hz] at this
    exact this
/-- Of a full row, or of one that has come to its end, a block is whole. -/
theorem pc_done {gs : List (List Ent)} (h1 : ∀ g ∈ gs, OneN g) (h2 : RiseK (gs.map rowE)) {len : Nat} (h0 : 0 < len) (h3 : ¬ (gs.flatten.length < len ∧ (blockB (gs.map rowE)).length < 200)) : PcOk gs := by
  refine ⟨?_, h1, h2⟩
  rintro rfl
  exact h3 ⟨h0, by show (blockB []).length < 200; rw [blockB_len]; decide⟩
end Go.Proofs.YtennpdhnjaemeaaDoor
/- The walk of table's getParts, of an index that was laid. -/
namespace Go.Proofs.YtennpdhnjaemeaaDoor
set_option linter.unusedVariables false
set_option maxRecDepth 100000
open Go.RowKit
def encPart (p : Part) : List Value := [.string p.norm, .int .i64 p.seq, .int .i64 0, .string ⟨#[]⟩, .string ⟨#[]⟩, .int .i64 (p.at' : Int), .int .i64 (p.size : Int), .int .i64 (p.count : Int)]
theorem encPart_len : EncK encPart 8 := fun _ => rfl
theorem encPart_one (p : Part) : ∀ u ∈ encPart p, u.oneCell' = true := by
  intro u hu
  simp only [encPart, List.mem_cons, List.not_mem_nil, or_false] at hu
  rcases hu with rfl | rfl | rfl | rfl | rfl | rfl | rfl | rfl <;> rfl
theorem elem_part : ElemK Tryd.prog 65 58 8 88 (.agg #[.string ⟨#[]⟩, .int .i64 0, .int .i64 0, .string ⟨#[]⟩, .string ⟨#[]⟩, .int .i64 0, .int .i64 0, .int .i64 0]) := ⟨Tryd.underlying65, by kernel_rfl, rfl, by decide⟩
theorem blk8 {W : World} {g : Nat} {a b c d x y z u : Value} {t : TypeId} (h : BlkAt W g #[a, b, c, d, x, y, z, u] t) : W.cell? ⟨g, 0, none⟩ = some a ∧ W.cell? ⟨g, 1, none⟩ = some b ∧ W.cell? ⟨g, 2, none⟩ = some c ∧ W.cell? ⟨g, 3, none⟩ = some d ∧ W.cell? ⟨g, 4, none⟩ = some x ∧ W.cell? ⟨g, 5, none⟩ = some y ∧ W.cell? ⟨g, 6, none⟩ = some z ∧ W.cell? ⟨g, 7, none⟩ = some u := ⟨h.at 0, h.at 1, h.at 2, h.at 3, h.at 4, h.at 5, h.at 6, h.at 7⟩
/-- A part that may be read. -/
structure PartOk (p : Part) : Prop where
  seq0 : 0 ≤ p.seq
  seq1 : p.seq < 2 ^ 63
  norm : p.norm.size < 2 ^ 63
  size : p.size < 2 ^ 63
  count : p.count ≤ p.size
theorem getpart_any (p : Part) (h : PartOk p) (r : List UInt8) (hb : (partB p ++ r).length ≤ 1000000000000) (most : Nat) (hm : most < 2 ^ 63) (hs : p.size ≤ most) (v : Value) (w : World) (hv : RdB w v (partB p ++ r)) :
    Calls Tryd.prog 67 #[v, .int .i64 (most : Int)] w fun en w' => en = .returned (.tuple #[.agg #[.string p.norm, .int .i64 p.seq, .int .i64 0, .string ⟨#[]⟩, .string ⟨#[]⟩, .int .i64 0, .int .i64 (p.size : Int), .int .i64 (p.count : Int)], .int .i64 ((partB p).length : Int)]) ∧ Below w.heap.size w w' := by
  obtain ⟨a, b, c, d⟩ := part_read h.seq0 h.seq1 h.norm h.size (Nat.lt_of_le_of_lt h.count h.size) r
  have H := getpart_raw v most _ hb _ _ _ _ _ _ _ _ a b c d (by have := h.seq0; have := h.seq1; omega) hm hs h.count w hv
  refine H.mono ?_
  rintro en w' ⟨rfl, h1⟩
  refine ⟨?_, h1⟩
  have h3 : (p.seq.toNat : Int) = p.seq := Int.toNat_of_nonneg h.seq0
  rw [h3, partB_len, ba_back]
theorem partB_pos (p : Part) : 0 < (partB p).length := by
  have := putN_len p.count
  rw [partB_len]; omega
theorem partsFrom_snoc (qs : List (List (List Ent))) (gs : List (List Ent)) (rs : List (List (List Ent))) : partsFrom 0 (qs ++ [gs]) = partsFrom 0 qs ++ [⟨(lastE gs).norm, (lastE gs).seq, (blocksB qs).length, (pcB gs).length, gs.flatten.length⟩] := by
  rw [partsFrom_app, Nat.zero_add]; rfl
theorem blocksB_app (qs rs : List (List (List Ent))) : (blocksB (qs ++ rs)).length = (blocksB qs).length + (blocksB rs).length := by
  unfold blocksB; rw [List.map_append, List.flatten_append, List.length_append]
theorem blocksB_cons (gs : List (List Ent)) (rs : List (List (List Ent))) : (blocksB (gs :: rs)).length = (pcB gs).length + (blocksB rs).length := by
  unfold blocksB; rw [List.map_cons, List.flatten_cons, List.length_append]
/-- What an index tells of a block may be read. -/
def PcFit (gs : List (List Ent)) : Prop := PartOk ⟨(lastE gs).norm, (lastE gs).seq, 0, (pcB gs).length, gs.flatten.length⟩
set_option maxHeartbeats 16000000 in
theorem getparts_any (ps : List (List (List Ent))) (hne : ps ≠ []) (hok : ∀ gs ∈ ps, PcFit gs) (hl : (indexB ps).length ≤ 1000000000000) (hb : (blocksB ps).length ≤ 1000000000000) (v : Value) (w : World) (hv : RdB w v (indexB ps)) :
    Calls Tryd.prog 36 #[v, .int .i64 ((blocksB ps).length : Int)] w fun en w' => ∃ u, en = .returned (.tuple #[u, .bool true]) ∧ OwnK encPart 8 58 w.heap.size w' u (partsT ps) ∧ Below w.heap.size w w' := by
  have HOK := Lib.hid hok
  obtain ⟨a0, N0, k0, rfl, hN0, -⟩ := hv.form
  have hvs : N0 ≤ 1000000000000 := by omega
  obtain ⟨BL, hBL⟩ : ∃ n, (blocksB ps).length = n := ⟨_, rfl⟩
  rw [hBL] at hb ⊢
  have HBL := Lib.hid hBL
  have HL : Hid ((indexB ps).length ≤ 1000000000000) := Lib.hid hl
  have HV := Lib.hid hv
  have HN0 := Lib.hid hN0
  have HNE : Hid (ps ≠ []) := Lib.hid hne
  have HPL : Hid ((partsT ps).length ≤ 1000000000000) := Lib.hid (by
    have H : ∀ l : List Part, l.length ≤ (l.flatMap partB).length := by
      intro l
      induction l with
      | nil => exact Nat.le_refl _
      | cons p r ih => have := partB_pos p; rw [List.flatMap_cons, List.length_append, List.length_cons]; omega
    exact Nat.le_trans (H _) hl)
  clear hok hv hBL hl hN0 hne
  go_enter Tryd.func36, Tryd.ntmps36
  go_wp2_with fail
  go_loopg [0, 6, 7] N0 (fun kk vbs vl vat wr => ∃ (qs rs : List (List (List Ent))) (at0 : Nat) (a4 : Option Addr) (n4 c4 : Nat) (a5 : Option Addr) (n5 c5 : Nat), vl = .slice a4 n4 c4 ∧ vbs = .slice a5 n5 c5 ∧ vat = .int .i64 (at0 : Int) ∧ n5 ≤ kk ∧ n5 ≤ 1000000000000 ∧ at0 ≤ BL ∧ Hid (ps = qs ++ rs) ∧ Hid (at0 = (blocksB qs).length) ∧ Hid (n5 = ((partsFrom at0 rs).flatMap partB).length) ∧ Hid (n4 = (partsFrom 0 qs).length) ∧ Hid (OwnK encPart 8 58 w.heap.size wr (.slice a4 n4 c4) (partsFrom 0 qs)) ∧ Hid (RdB w (.slice a5 n5 c5) ((partsFrom at0 rs).flatMap partB)) ∧ Hid (Below w.heap.size w wr))
  case atStart =>
    refine ⟨[], ps, 0, none, 0, 0, _, _, _, rfl, rfl, rfl, Nat.le_refl _, hvs, Nat.zero_le _, Lib.hid rfl, Lib.hid rfl, HN0, Lib.hid rfl, Lib.hid (OwnK.nil _ _ _ _ _), HV, Lib.hid (Below.refl _ _)⟩
  case round =>
    clear HV HN0
    obtain ⟨qs, rs, at0, a4, n4, c4, a5, n5, c5, rfl, rfl, rfl, hkk, hn5, hat, HGQ, HAT, HN5, HN4, HO, HRB, HB⟩ := hrel
    cases rs with
    | nil =>
      obtain rfl : n5 = 0 := HN5.out
      have HGP : Hid (qs = ps) := Lib.hid (by have := HGQ.out; rw [List.append_nil] at this; exact this.symm)
      rw [HGP.out] at HO HAT HN4
      obtain rfl : at0 = BL := by rw [HAT.out]; exact HBL.out
      have hn4 : (0 : Int) < (n4 : Int) := by
        have h1 := HNE.out
        have h2 := HN4.out
        rw [partsFrom_len] at h2
        cases ps with
        | nil => exact absurd rfl h1
        | cons x y => rw [List.length_cons] at h2; omega
      clear HGQ HN5 HN4 HRB HGP HAT
      go_wp2_with fail
      go_ret2
      exact ⟨_, rfl, HO.out, HB.out⟩
    | cons gs r =>
      have hmem : gs ∈ ps := by rw [HGQ.out]; simp
      have HVV := HRB.out.below HB.out
      rw [partsFrom, List.flatMap_cons] at HVV HN5
      have hok := HOK.out gs hmem
      obtain ⟨p, hp⟩ : ∃ p : Part, (⟨(lastE gs).norm, (lastE gs).seq, at0, (pcB gs).length, gs.flatten.length⟩ : Part) = p := ⟨_, rfl⟩
      have hpok : PartOk p := by rw [← hp]; exact ⟨hok.seq0, hok.seq1, hok.norm, hok.size, hok.count⟩
      have hpa : p.at' = at0 := by rw [← hp]
      have hpz : p.size = (pcB gs).length := by rw [← hp]
      rw [hp] at HVV HN5
      have hbl : at0 + p.size + (blocksB r).length = BL := by
        have h1 := HBL.out
        rw [HGQ.out, blocksB_app, blocksB_cons, ← HAT.out, ← hpz] at h1
        omega
      have hpos := partB_pos p
      have hnl : (partB p ++ (partsFrom (at0 + p.size) r).flatMap partB).length = n5 := by rw [hpz]; exact HN5.out.symm
      rw [← hpz] at HVV
      have HGV := Lib.hid (getpart_any p hpok _ (by rw [hnl]; exact hn5) (BL - at0) (by omega) (by omega) _ wr HVV)
      have hsub : (BL : Int) - (at0 : Int) = ((BL - at0 : Nat) : Int) := by omega
      obtain ⟨k, hk⟩ : ∃ k, (partB p).length = k := ⟨_, rfl⟩
      have hkl : k + ((partsFrom (at0 + p.size) r).flatMap partB).length = n5 := by rw [← hnl, List.length_append, hk]
      have hkn : k ≤ n5 := by omega
      have HD := HRB.out.drop k hkn
      rw [partsFrom, List.flatMap_cons, hp, ← hk, List.drop_left, hk, ← hpz] at HD
      have hc5 := (rdB_sl HRB.out).2
      have hsl := fun W => sl_lB W a5 n5 c5 k hkn hc5
      generalize hT : (if c5 = k then a5 else a5.map (·.add k)) = T at HD hsl
      obtain ⟨Q, hQ⟩ : ∃ Q, n5 - k = Q := ⟨_, rfl⟩
      obtain ⟨C, hC⟩ : ∃ C, c5 - k = C := ⟨_, rfl⟩
      rw [hQ, hC] at HD
      simp only [hQ, hC] at hsl
      have HRD := Lib.hid HD
      rw [hk] at HGV
      have HQN : Hid (Q = ((partsFrom (at0 + p.size) r).flatMap partB).length) := Lib.hid (by omega)
      have hQk : Q < n5 := by omega
      have hk0 : ((k : Int) == 0) = false := by rw [beq_eq_false_iff_ne]; omega
      have hn0 : (0 : Int) < (n5 : Int) := by omega
      have HPS : Hid (ps = (qs ++ [gs]) ++ r) := Lib.hid (by rw [HGQ.out]; simp)
      have HPF : Hid (partsFrom 0 (qs ++ [gs]) = partsFrom 0 qs ++ [p]) := Lib.hid (by rw [partsFrom_snoc qs gs r, ← HAT.out, hp])
      have HAT2 : Hid (at0 + p.size = (blocksB (qs ++ [gs])).length) := Lib.hid (by rw [blocksB_app, ← HAT.out, hpz]; congr 1; unfold blocksB; simp)
      have hal2 : at0 + p.size ≤ BL := by omega
      have hpl : (partsFrom 0 qs).length + 1 ≤ 1000000000000 := by
        have h := HPL.out
        unfold partsT at h
        rw [HPS.out, partsFrom_app, HPF.out, List.length_append, List.length_append, List.length_singleton] at h
        omega
      have HENC : Hid (encPart p = [.string p.norm, .int .i64 p.seq, .int .i64 0, .string ⟨#[]⟩, .string ⟨#[]⟩, .int .i64 (at0 : Int), .int .i64 (p.size : Int), .int .i64 (p.count : Int)]) := Lib.hid (by unfold encPart; rw [hpa])
      have hwa : (at0 : Int) + (p.size : Int) = ((at0 + p.size : Nat) : Int) := by omega
      generalize BL - at0 = M at *
      clear HD HVV hT hQ hC hk hkl HRB hmem HN5 HGQ hp hok hpok hpa hpz hbl hnl hpos HAT
      obtain ⟨A2, hA2⟩ : ∃ A, at0 + p.size = A := ⟨_, rfl⟩
      rw [hA2] at HRD HQN HAT2 hal2 hwa
      obtain ⟨PN, hPN⟩ : ∃ x, p.norm = x := ⟨_, rfl⟩
      obtain ⟨PQ, hPQ⟩ : ∃ x, p.seq = x := ⟨_, rfl⟩
      obtain ⟨PZ, hPZ⟩ : ∃ x, p.size = x := ⟨_, rfl⟩
      obtain ⟨PC, hPC⟩ : ∃ x, p.count = x := ⟨_, rfl⟩
      rw [hPN, hPQ, hPZ, hPC] at HENC HGV
      rw [hPZ] at hwa
      clear hA2 hPN hPQ hPZ hPC
      go_wp2_with fail
      refine HGV.out.mono ?_
      rintro en w3 ⟨rfl, b3⟩
      have HB3 := Lib.hid (HB.out.trans (b3.mono HB.out.size))
      have HO3 := Lib.hid (HO.out.below b3)
      clear b3 HGV HB HO
      go_upto_region 7 with fail
      have hbk : BlkAt (w3.alloc (.cells #[.string PN, .int .i64 PQ, .int .i64 0, .string ⟨#[]⟩, .string ⟨#[]⟩, .int .i64 0, .int .i64 (PZ : Int), .int .i64 (PC : Int)] 58)) w3.heap.size #[.string PN, .int .i64 PQ, .int .i64 0, .string ⟨#[]⟩, .string ⟨#[]⟩, .int .i64 0, .int .i64 (PZ : Int), .int .i64 (PC : Int)] 58 := BlkAt.new _ _ _
      have hb3 := HB3.out.alloc HB3.out.size (.cells #[.string PN, .int .i64 PQ, .int .i64 0, .string ⟨#[]⟩, .string ⟨#[]⟩, .int .i64 0, .int .i64 (PZ : Int), .int .i64 (PC : Int)] 58)
      have ho3 := HO3.out.below ((Below.refl _ w3).alloc (Nat.le_refl _) (.cells #[.string PN, .int .i64 PQ, .int .i64 0, .string ⟨#[]⟩, .string ⟨#[]⟩, .int .i64 0, .int .i64 (PZ : Int), .int .i64 (PC : Int)] 58))
      have hgp : ∀ x, (Value.slice a4 n4 c4).ownBlock = some x → w3.heap.size ≠ x := fun x hx => by have := row_lt HO3.out x hx; omega
      have hgw := HB3.out.size
      obtain ⟨g3, hg3⟩ : ∃ g3, w3.heap.size = g3 := ⟨_, rfl⟩
      rw [hg3] at hbk hgp hgw ⊢
      obtain ⟨wa, hwa2⟩ : ∃ wa, w3.alloc (.cells #[.string PN, .int .i64 PQ, .int .i64 0, .string ⟨#[]⟩, .string ⟨#[]⟩, .int .i64 0, .int .i64 (PZ : Int), .int .i64 (PC : Int)] 58) = wa := ⟨_, rfl⟩
      rw [hwa2] at hbk hb3 ho3 ⊢
      have HBK0 := Lib.hid hbk
      have HBA := Lib.hid hb3
      have HOA := Lib.hid ho3
      have HGP := Lib.hid hgp
      have c6 : wa.cell? ⟨g3, 6, none⟩ = some (.int .i64 (PZ : Int)) := hbk.at 6
      have c5' : wa.cell? ⟨g3, 5, none⟩ = some (.int .i64 0) := hbk.at 5
      have f5 := hbk.free 5
      have hgl := hbk.lt
      clear hbk hb3 ho3 hwa2 hg3 HO3 HB3 hgp
      go_upto_region 9 with fail
      have hbs : BlkAt (wa.setCell ⟨g3, 5, none⟩ (.int .i64 (at0 : Int))) g3 #[.string PN, .int .i64 PQ, .int .i64 0, .string ⟨#[]⟩, .string ⟨#[]⟩, .int .i64 (at0 : Int), .int .i64 (PZ : Int), .int .i64 (PC : Int)] 58 := HBK0.out.set (o := 5) (.int .i64 (at0 : Int))
      have hb3 := HBA.out.setCell (p := ⟨g3, 5, none⟩) hgw (.int .i64 (at0 : Int))
      have ho3 : OwnK encPart 8 58 w.heap.size (wa.setCell ⟨g3, 5, none⟩ (.int .i64 (at0 : Int))) (.slice a4 n4 c4) (partsFrom 0 qs) := row_same HOA.out fun x hx => Below.heap_setCell _ _ _ _ fun h => HGP.out x hx h.symm
      obtain ⟨wc, hwc⟩ : ∃ wc, wa.setCell ⟨g3, 5, none⟩ (.int .i64 (at0 : Int)) = wc := ⟨_, rfl⟩
      rw [hwc] at hbs hb3 ho3 ⊢
      have hgp := HGP.out
      clear hwc HBK0 HBA HOA c6 c5' f5 hgl hgw HGP
      have hwz := hb3.size
      obtain ⟨v4, w4, hrun, o4, b4, u4, -⟩ := run_oneK (ty := 65) elem_part encPart_len (w := wc.drew) ho3 p (encPart_one p) (by have := HN4.out; omega) (by have := HN4.out; unfold maxLen; omega) hwz
      have hrun2 := hrun
      rw [HENC.out] at hrun2
      have HRUN := Lib.hid hrun2
      have HBK := Lib.hid hbs
      have HB4 := Lib.hid (hb3.drew.trans b4)
      have HBK2 : Hid (BlkAt (wc.drew.alloc (.cells #[.string PN, .int .i64 PQ, .int .i64 0, .string ⟨#[]⟩, .string ⟨#[]⟩, .int .i64 (at0 : Int), .int .i64 (PZ : Int), .int .i64 (PC : Int)] 58)) g3 #[.string PN, .int .i64 PQ, .int .i64 0, .string ⟨#[]⟩, .string ⟨#[]⟩, .int .i64 (at0 : Int), .int .i64 (PZ : Int), .int .i64 (PC : Int)] 58) := Lib.hid (BlkAt.more (w := wc.drew) hbs _)
      have HBK4 : Hid (BlkAt w4 g3 #[.string PN, .int .i64 PQ, .int .i64 0, .string ⟨#[]⟩, .string ⟨#[]⟩, .int .i64 (at0 : Int), .int .i64 (PZ : Int), .int .i64 (PC : Int)] 58) := Lib.hid ((u4.block g3 hbs.lt (fun e => hgp _ e rfl)).trans hbs)
      rw [← HPF.out] at o4
      obtain ⟨a9, c9, rfl, -⟩ := o4.kform
      obtain ⟨n9, hn9⟩ : ∃ n9, (partsFrom 0 (qs ++ [gs])).length = n9 := ⟨_, rfl⟩
      have HN9 : Hid (n9 = (partsFrom 0 (qs ++ [gs])).length) := Lib.hid hn9.symm
      have HO4 := Lib.hid o4
      rw [hn9] at HO4 HRUN
      clear hrun hrun2 o4 b4 u4 hn9 hbs hb3 ho3 hwz hgp hpl HPF HENC
      go_wp2_with fail
      refine wp_region_held_drew (S := fun W => BlkAt W g3 #[.string PN, .int .i64 PQ, .int .i64 0, .string ⟨#[]⟩, .string ⟨#[]⟩, .int .i64 (at0 : Int), .int .i64 (PZ : Int), .int .i64 (PC : Int)] 58) (by kernel_rfl) HBK.out (fun hHeld => ?_)
      refine takeYes (i := 0) (k := 29) (v := .slice a4 n4 c4) rfl (by kernel_rfl) (by kernel_rfl) (by kernel_rfl) (by kernel_rfl) (fun _ _ _ h => h) (by kernel_rfl) ?_ (by assumption) ?_
      · intro W hSw; first | (go_simp; done) | go_simp
      try simp only [Act.put, List.setIfInBounds_toArray, List.set_cons_zero, List.set_cons_succ]
      refine takeYes (i := 1) (k := 30) (v := .agg #[.string PN, .int .i64 PQ, .int .i64 0, .string ⟨#[]⟩, .string ⟨#[]⟩, .int .i64 (at0 : Int), .int .i64 (PZ : Int), .int .i64 (PC : Int)]) rfl (by kernel_rfl) (by kernel_rfl) (by kernel_rfl) (by kernel_rfl) (fun _ _ _ h => h) (by kernel_rfl) ?_ (by assumption) ?_
      · intro W hSw; obtain ⟨d0, d1, d2, d3, d4, d5, d6, d7⟩ := blk8 hSw; first | (go_simp; done) | go_simp
      try simp only [Act.put, List.setIfInBounds_toArray, List.set_cons_zero, List.set_cons_succ]
      refine takeYes (i := 4) (k := 33) (v := .slice a5 n5 c5) rfl (by kernel_rfl) (by kernel_rfl) (by kernel_rfl) (by kernel_rfl) (fun _ _ _ h => h) (by kernel_rfl) ?_ (by assumption) ?_
      · intro W hSw; first | (go_simp; done) | go_simp
      try simp only [Act.put, List.setIfInBounds_toArray, List.set_cons_zero, List.set_cons_succ]
      refine takeYes (i := 5) (k := 34) (v := .int .i64 (k : Int)) rfl (by kernel_rfl) (by kernel_rfl) (by kernel_rfl) (by kernel_rfl) (fun _ _ _ h => h) (by kernel_rfl) ?_ (by assumption) ?_
      · intro W hSw; first | (go_simp; done) | go_simp
      try simp only [Act.put, List.setIfInBounds_toArray, List.set_cons_zero, List.set_cons_succ]
      refine takeYes (i := 6) (k := 35) (v := .slice T Q C) rfl (by kernel_rfl) (by kernel_rfl) (by kernel_rfl) (by kernel_rfl) (fun _ _ _ h => h) (by kernel_rfl) ?_ (by assumption) ?_
      · intro W hSw; have hsl2 := hsl W; first | (go_simp; done) | go_simp
      try simp only [Act.put, List.setIfInBounds_toArray, List.set_cons_zero, List.set_cons_succ]
      refine wpAnyH_ready (rs := [2]) (by kernel_rfl) (by simp) (AllReadyH.cons rfl (fun K hK => ?_) AllReadyH.nil)
      go_simp
      refine hK.out _ _ HBK2.out (fun hHeld2 => ?_)
      clear hK K hHeld
      try simp only [Act.put, List.setIfInBounds_toArray, List.set_cons_zero, List.set_cons_succ]
      refine wpAnyH_ready (rs := [3]) (by kernel_rfl) (by simp) (AllReadyH.cons rfl (fun K hK => ?_) AllReadyH.nil)
      refine step_appD 32 rfl (by kernel_rfl) (.tmp 29) (.tmp 31) 65 rfl rfl rfl HRUN.out ?_
      refine hK.out _ _ HBK4.out (fun hHeld3 => ?_)
      clear hK K hHeld2
      try simp only [Act.put, List.setIfInBounds_toArray, List.set_cons_zero, List.set_cons_succ]
      refine takeYes (i := 7) (k := 6) (v := .slice a9 n9 c9) rfl (by kernel_rfl) (by kernel_rfl) (by kernel_rfl) (by kernel_rfl) (fun _ _ _ h => h) (by kernel_rfl) ?_ (by assumption) ?_
      · intro W hSw; first | (go_simp; done) | go_simp
      try simp only [Act.put, List.setIfInBounds_toArray, List.set_cons_zero, List.set_cons_succ]
      refine takeYes (i := 8) (k := 0) (v := .slice T Q C) rfl (by kernel_rfl) (by kernel_rfl) (by kernel_rfl) (by kernel_rfl) (fun _ _ _ h => h) (by kernel_rfl) ?_ (by assumption) ?_
      · intro W hSw; first | (go_simp; done) | go_simp
      try simp only [Act.put, List.setIfInBounds_toArray, List.set_cons_zero]
      refine wpAnyH_done (by kernel_rfl) ?_ _
      clear hHeld3 hsl
      go_wp2_with fail
      go_roundg Q
      case measure => omega
      case rel => exact ⟨qs ++ [gs], r, A2, _, _, _, _, _, _, rfl, rfl, rfl, Nat.le_refl _, by omega, hal2, HPS, HAT2, HQN, HN9, HO4, HRD, HB4⟩
end Go.Proofs.YtennpdhnjaemeaaDoor
/- Plain mathematics of tables: how great they are; what a table's blocks are of. -/
namespace Go.Proofs.YtennpdhnjaemeaaDoor
set_option linter.unusedVariables false
/-- What one block of a table is. -/
structure Pc (K : Nat) (gs : List (List Ent)) : Prop where
  ok : PcOk gs
  few : FewB gs.flatten
  fit : ∀ e ∈ gs.flatten, RightE e ∧ FitE K e
/-- Blocks of these entries. -/
structure TbOk (K : Nat) (l : List Ent) (ps : List (List (List Ent))) : Prop where
  pcs : ∀ gs ∈ ps, Pc K gs
  flat : (ps.map List.flatten).flatten = l
theorem body_le (K : Nat) : ∀ (gs : List (List Ent)) (n : Nat) (p : List UInt8), (∀ g ∈ gs, (normG g).size ≤ K) → (bodyB n p (gs.map rowE)).length ≤ gs.length * (K + 30) + (verG gs.flatten).length
  | [], n, p, _ => Nat.zero_le _
  | g :: r, n, p, h => by
    have h1 := body_le K r (n + 1) (rowE g).k fun x hx => h x (List.mem_cons_of_mem _ hx)
    have h2 := rowB_len n p (rowE g)
    have h3 : (rowE g).k.length ≤ K := by show (normG g).data.toList.length ≤ K; rw [size_toList]; exact h g (by simp)
    have h4 : (rowE g).v.length = (verG g).length := rfl
    have h5 := (putN_len (shB n p (rowE g).k)).2
    have h6 := (putN_len ((rowE g).k.length - shB n p (rowE g).k)).2
    have h7 := (putN_len (rowE g).v.length).2
    rw [List.map_cons, bodyB, List.length_append, List.length_cons, Nat.succ_mul, List.flatten_cons, verG_app, List.length_append]
    omega
theorem norm_fit {K : Nat} {gs : List (List Ent)} (h : Pc K gs) : ∀ g ∈ gs, (normG g).size ≤ K := fun g hg => by
  have h1 := (h.ok.one g hg).1
  cases g with
  | nil => exact absurd rfl h1
  | cons e t => exact (h.fit e (List.mem_flatten.2 ⟨_, hg, by simp⟩)).2.norm
theorem pcB_le {K : Nat} {gs : List (List Ent)} (h : Pc K gs) : (blockB (gs.map rowE)).length ≤ 52 * K + 1900 ∧ (pcB gs).length ≤ 52 * K + 2000 := by
  have h1 := body_le K gs 0 [] (norm_fit h)
  have h2 := verG_last gs.flatten fun e he => (h.fit e he).2
  have h3 := h.few
  have h4 := fewB_len h.few
  have h5 := one_len gs h.ok.one
  have h6 := blockB_len (gs.map rowE)
  have h7 := sealB_len (blockB (gs.map rowE))
  have h8 : gs.length * (K + 30) ≤ 50 * (K + 30) := Nat.mul_le_mul_right _ (by omega)
  unfold FewB at h3
  unfold pcB
  rw [List.length_map] at h6
  omega
theorem partB_le {K : Nat} {gs : List (List Ent)} (h : Pc K gs) (o : Nat) : (partB ⟨(lastE gs).norm, (lastE gs).seq, o, (pcB gs).length, gs.flatten.length⟩).length ≤ K + 40 := by
  have h1 := (h.fit _ (lastE_mem (pc_ne h.ok))).2.norm
  rw [← size_toList] at h1
  have h2 := (putN_len (lastE gs).norm.data.toList.length).2
  have h3 := (putN_len (lastE gs).seq.toNat).2
  have h4 := (putN_len (pcB gs).length).2
  have h5 := (putN_len gs.flatten.length).2
  rw [partB_len, textE_len]
  simp only
  omega
theorem blocks_le {K : Nat} : ∀ {ps : List (List (List Ent))}, (∀ gs ∈ ps, Pc K gs) → (blocksB ps).length ≤ ps.length * (52 * K + 2000)
  | [], _ => Nat.zero_le _
  | gs :: r, h => by
    have h1 := blocks_le fun x hx => h x (List.mem_cons_of_mem _ hx)
    have h2 := (pcB_le (h gs (by simp))).2
    rw [blocksB_cons, List.length_cons, Nat.succ_mul]
    omega
theorem index_le {K : Nat} : ∀ {ps : List (List (List Ent))} (o : Nat), (∀ gs ∈ ps, Pc K gs) → ((partsFrom o ps).flatMap partB).length ≤ ps.length * (K + 40)
  | [], _, _ => Nat.zero_le _
  | gs :: r, o, h => by
    have h1 := index_le (o + (pcB gs).length) fun x hx => h x (List.mem_cons_of_mem _ hx)
    have h2 := partB_le (h gs (by simp)) o
    rw [partsFrom, List.flatMap_cons, List.length_append, List.length_cons, Nat.succ_mul]
    omega
theorem ps_le {K : Nat} : ∀ {ps : List (List (List Ent))}, (∀ gs ∈ ps, Pc K gs) → ps.length ≤ (ps.map List.flatten).flatten.length
  | [], _ => Nat.zero_le _
  | gs :: r, h => by
    have h1 := ps_le fun x hx => h x (List.mem_cons_of_mem _ hx)
    have h2 := List.length_pos_iff.2 (pc_ne (h gs (by simp)).ok)
    rw [List.map_cons, List.flatten_cons, List.length_append, List.length_cons]
    omega
theorem tb_size {K len : Nat} {ps : List (List (List Ent))} (h : ∀ gs ∈ ps, Pc K gs) (hl : (ps.map List.flatten).flatten.length ≤ len) (hk : len * (53 * K + 2040) ≤ 100000000000) : (blocksB ps).length ≤ 100000000000 ∧ (indexB ps).length ≤ 100000000000 := by
  have h1 := blocks_le h
  have h2 : (indexB ps).length ≤ ps.length * (K + 40) := index_le 0 h
  have h3 := ps_le h
  have h4 : ps.length * (52 * K + 2000) ≤ len * (53 * K + 2040) := Nat.mul_le_mul (by omega) (by omega)
  have h5 : ps.length * (K + 40) ≤ len * (53 * K + 2040) := Nat.mul_le_mul (by omega) (by omega)
  omega
theorem indexB_snoc (ps : List (List (List Ent))) (gs : List (List Ent)) : indexB (ps ++ [gs]) = indexB ps ++ partB ⟨(lastE gs).norm, (lastE gs).seq, (blocksB ps).length, (pcB gs).length, gs.flatten.length⟩ := by
  unfold indexB partsT
  rw [partsFrom_snoc ps gs [], List.flatMap_append]; simp
theorem blocksB_snoc (ps : List (List (List Ent))) (gs : List (List Ent)) : blocksB (ps ++ [gs]) = blocksB ps ++ pcB gs := by
  unfold blocksB
  rw [List.map_append, List.flatten_append]; simp
theorem flat_snoc (ps : List (List (List Ent))) (gs : List (List Ent)) : ((ps ++ [gs]).map List.flatten).flatten = (ps.map List.flatten).flatten ++ gs.flatten := by
  rw [List.map_append, List.flatten_append]; simp
/-- The last entry of a block, where it stands. -/
theorem last_at {gs : List (List Ent)} {m : List Ent} (h : gs.flatten = m.take gs.flatten.length) (hne : gs.flatten ≠ []) : m[gs.flatten.length - 1]? = some (lastE gs) := by
  have h0 := List.length_pos_iff.2 hne
  unfold lastE
  have h1 : gs.flatten[gs.flatten.length - 1]? = (m.take gs.flatten.length)[gs.flatten.length - 1]? := by rw [← h]
  rw [List.getElem?_take_of_lt (by omega)] at h1
  rw [← h1, List.getLast?_eq_getElem?, List.getElem?_eq_getElem (by omega)]
  rfl
theorem pcfit_of {K : Nat} {gs : List (List Ent)} (hK : K ≤ 1000000) (h : Pc K gs) : PcFit gs := by
  have h1 := h.fit _ (lastE_mem (pc_ne h.ok))
  have h2 := (pcB_le h).2
  have h3 := (block_ge gs).1
  have h4 := sealB_len (blockB (gs.map rowE))
  refine ⟨?_, ?_, ?_, ?_, ?_⟩
  · have := h1.1.seq1; show 0 ≤ (lastE gs).seq; omega
  · have := h1.1.seq2; show (lastE gs).seq < 2 ^ 63; omega
  · have := h1.2.norm; show (lastE gs).norm.size < 2 ^ 63; omega
  · show (pcB gs).length < 2 ^ 63; omega
  · show gs.flatten.length ≤ (pcB gs).length
    unfold pcB; omega
end Go.Proofs.YtennpdhnjaemeaaDoor
/- The walks of table's putVersion and putPart. -/
namespace Go.Proofs.YtennpdhnjaemeaaDoor
set_option linter.unusedVariables false
set_option maxRecDepth 100000
open Go.RowKit
theorem wrap_u64 (n : Nat) (h : n < 2 ^ 64) : IntKind.u64.wrap (n : Int) = (n : Int) := by
  show ((n : Int) % 18446744073709551616) = _
  omega
/-- Block b holds an entry. -/
def BoxE (w : World) (b : Nat) (e : Ent) : Prop := AtE w b 0 e ∧ b < w.heap.size
theorem BoxE.below {w w' : World} {b : Nat} {e : Ent} (h : BoxE w b e) (hb : Below w.heap.size w w') : BoxE w' b e := ⟨h.1.under h.2 hb, Nat.lt_of_lt_of_le h.2 hb.size⟩
theorem BoxE.cells {w : World} {b : Nat} {e : Ent} (h : BoxE w b e) : w.cell? ⟨b, 0, none⟩ = some (.string e.norm) ∧ w.cell? ⟨b, 1, none⟩ = some (.int .i64 e.seq) ∧ w.cell? ⟨b, 2, none⟩ = some (.int .i64 e.kind) ∧ w.cell? ⟨b, 3, none⟩ = some (.string e.spell) ∧ w.cell? ⟨b, 4, none⟩ = some (.string e.val) := by
  obtain ⟨⟨h0, h1, h2, h3, h4⟩, -⟩ := h
  simp only [Nat.zero_add] at h1 h2 h3 h4
  exact ⟨h0, h1, h2, h3, h4⟩
theorem BoxE.new (w : World) (e : Ent) (T : TypeId) : BoxE (w.alloc (.cells #[.string e.norm, .int .i64 e.seq, .int .i64 e.kind, .string e.spell, .string e.val] T)) w.heap.size e := by
  obtain ⟨⟨h0, h1, h2, h3, h4⟩, -, hg⟩ := Row5.new w (.string e.norm) (.int .i64 e.seq) (.int .i64 e.kind) (.string e.spell) (.string e.val) T
  exact ⟨⟨h0, by rw [Nat.zero_add]; exact h1, by rw [Nat.zero_add]; exact h2, by rw [Nat.zero_add]; exact h3, by rw [Nat.zero_add]; exact h4⟩, hg⟩

set_option maxHeartbeats 8000000 in
theorem putver_raw (n : ByteArray) (sq kd : Nat) (sp vl : ByteArray) (hsq : sq < 2 ^ 63) (hkd : kd < 2 ^ 63) (hsp : sp.size ≤ 100000000000) (hvl : vl.size ≤ 100000000000) (w : World) :
    Calls Tryd.prog 52 #[.agg #[.string n, .int .i64 (sq : Int), .int .i64 (kd : Int), .string sp, .string vl]] w (MkB (putN sq ++ (putN kd ++ (textE sp.data.toList ++ textE vl.data.toList))) w) := by
  have HPS := Lib.hid (fun W => put_any sq (by omega) W)
  have HPK := Lib.hid (fun W => put_any kd (by omega) W)
  have HTS := Lib.hid (fun W => text_putL sp (by omega) W)
  have HTV := Lib.hid (fun W => text_putL vl (by omega) W)
  have hl1 := putN_len sq
  have hl2 := putN_len kd
  have hl3 := putN_len sp.data.toList.length
  have hl4 := putN_len vl.data.toList.length
  have HE : Hid ([putN sq, putN kd, textE sp.data.toList, textE vl.data.toList].flatMap id = putN sq ++ (putN kd ++ (textE sp.data.toList ++ textE vl.data.toList))) := Lib.hid (by simp)
  have HEL : Hid (([putN sq, putN kd, textE sp.data.toList, textE vl.data.toList].flatMap id).length ≤ 1000000000000) := Lib.hid (by
    rw [HE.out]; simp only [List.length_append, textE_len]
    rw [size_toList, size_toList] at *; omega)
  have hws : IntKind.u64.wrap (sq : Int) = (sq : Int) := wrap_u64 sq (by omega)
  have hwk : IntKind.u64.wrap (kd : Int) = (kd : Int) := wrap_u64 kd (by omega)
  generalize putN sq = PS at *
  generalize putN kd = PK at *
  generalize textE sp.data.toList = TS at *
  generalize textE vl.data.toList = TV at *
  clear hl1 hl2 hl3 hl4 hsq hkd hsp hvl
  go_enter Tryd.func52, Tryd.ntmps52
  go_wp2_with fail
  have HX := BoxE.new w ⟨n, (sq : Int), (kd : Int), sp, vl⟩ 39
  have B : Below w.heap.size w (w.alloc (.cells #[.string n, .int .i64 (sq : Int), .int .i64 (kd : Int), .string sp, .string vl] 39)) := (Below.refl _ w).alloc (Nat.le_refl _) _
  simp only at HX
  obtain ⟨b, hbq⟩ : ∃ b, w.heap.size = b := ⟨_, rfl⟩
  rw [hbq] at HX B ⊢
  generalize w.alloc (.cells #[.string n, .int .i64 (sq : Int), .int .i64 (kd : Int), .string sp, .string vl] 39) = w1 at *
  rw [← hbq] at B

  refine wp_region_held_drew (S := Below w1.heap.size w1) (by kernel_rfl) (Below.refl _ _).drew (fun hHeld => ?_)
  generalize w1.drew = wd2 at hHeld ⊢
  refine wpAnyH_shift hHeld ?_
  replace B : Below w.heap.size w wd2 := B.trans (hHeld.mono B.size)
  replace HX := HX.below hHeld
  clear hHeld
  refine takeYes (i := 0) (k := 3) (v := .pointer (some ⟨b, 1, none⟩)) rfl (by kernel_rfl) (by kernel_rfl) (by kernel_rfl) (by kernel_rfl) (fun _ _ _ h => h) (by kernel_rfl) ?_ (Below.refl _ _) ?_
  · intro W hSw; first | (go_simp; done) | go_simp
  try simp only [Act.put, List.setIfInBounds_toArray, List.set_cons_zero, List.set_cons_succ]
  refine takeYes (i := 1) (k := 4) (v := .int .i64 (sq : Int)) rfl (by kernel_rfl) (by kernel_rfl) (by kernel_rfl) (by kernel_rfl) (fun _ _ _ h => h) (by kernel_rfl) ?_ (Below.refl _ _) ?_
  · intro W hSw; obtain ⟨d0, d1, d2, d3, d4⟩ := (HX.below hSw).cells; simp only at d0 d1 d2 d3 d4; first | (go_simp; done) | go_simp
  try simp only [Act.put, List.setIfInBounds_toArray, List.set_cons_zero, List.set_cons_succ]
  refine takeYes (i := 2) (k := 5) (v := .int .u64 (sq : Int)) rfl (by kernel_rfl) (by kernel_rfl) (by kernel_rfl) (by kernel_rfl) (fun _ _ _ h => h) (by kernel_rfl) ?_ (Below.refl _ _) ?_
  · intro W hSw; first | (go_simp; done) | go_simp
  try simp only [Act.put, List.setIfInBounds_toArray, List.set_cons_zero, List.set_cons_succ]
  refine takeYes (i := 4) (k := 7) (v := .pointer (some ⟨b, 2, none⟩)) rfl (by kernel_rfl) (by kernel_rfl) (by kernel_rfl) (by kernel_rfl) (fun _ _ _ h => h) (by kernel_rfl) ?_ (Below.refl _ _) ?_
  · intro W hSw; first | (go_simp; done) | go_simp
  try simp only [Act.put, List.setIfInBounds_toArray, List.set_cons_zero, List.set_cons_succ]
  refine takeYes (i := 5) (k := 8) (v := .int .i64 (kd : Int)) rfl (by kernel_rfl) (by kernel_rfl) (by kernel_rfl) (by kernel_rfl) (fun _ _ _ h => h) (by kernel_rfl) ?_ (Below.refl _ _) ?_
  · intro W hSw; obtain ⟨d0, d1, d2, d3, d4⟩ := (HX.below hSw).cells; simp only at d0 d1 d2 d3 d4; first | (go_simp; done) | go_simp
  try simp only [Act.put, List.setIfInBounds_toArray, List.set_cons_zero, List.set_cons_succ]
  refine takeYes (i := 6) (k := 9) (v := .int .u64 (kd : Int)) rfl (by kernel_rfl) (by kernel_rfl) (by kernel_rfl) (by kernel_rfl) (fun _ _ _ h => h) (by kernel_rfl) ?_ (Below.refl _ _) ?_
  · intro W hSw; first | (go_simp; done) | go_simp
  try simp only [Act.put, List.setIfInBounds_toArray, List.set_cons_zero, List.set_cons_succ]
  refine takeYes (i := 8) (k := 11) (v := .pointer (some ⟨b, 3, none⟩)) rfl (by kernel_rfl) (by kernel_rfl) (by kernel_rfl) (by kernel_rfl) (fun _ _ _ h => h) (by kernel_rfl) ?_ (Below.refl _ _) ?_
  · intro W hSw; first | (go_simp; done) | go_simp
  try simp only [Act.put, List.setIfInBounds_toArray, List.set_cons_zero, List.set_cons_succ]
  refine takeYes (i := 9) (k := 12) (v := .string sp) rfl (by kernel_rfl) (by kernel_rfl) (by kernel_rfl) (by kernel_rfl) (fun _ _ _ h => h) (by kernel_rfl) ?_ (Below.refl _ _) ?_
  · intro W hSw; obtain ⟨d0, d1, d2, d3, d4⟩ := (HX.below hSw).cells; simp only at d0 d1 d2 d3 d4; first | (go_simp; done) | go_simp
  try simp only [Act.put, List.setIfInBounds_toArray, List.set_cons_zero, List.set_cons_succ]
  refine takeYes (i := 11) (k := 14) (v := .pointer (some ⟨b, 4, none⟩)) rfl (by kernel_rfl) (by kernel_rfl) (by kernel_rfl) (by kernel_rfl) (fun _ _ _ h => h) (by kernel_rfl) ?_ (Below.refl _ _) ?_
  · intro W hSw; first | (go_simp; done) | go_simp
  try simp only [Act.put, List.setIfInBounds_toArray, List.set_cons_zero, List.set_cons_succ]
  refine takeYes (i := 12) (k := 15) (v := .string vl) rfl (by kernel_rfl) (by kernel_rfl) (by kernel_rfl) (by kernel_rfl) (fun _ _ _ h => h) (by kernel_rfl) ?_ (Below.refl _ _) ?_
  · intro W hSw; obtain ⟨d0, d1, d2, d3, d4⟩ := (HX.below hSw).cells; simp only at d0 d1 d2 d3 d4; first | (go_simp; done) | go_simp
  try simp only [Act.put, List.setIfInBounds_toArray, List.set_cons_zero, List.set_cons_succ]
  refine wpAnyH_ready (rs := [3]) (by kernel_rfl) (by simp) (AllReadyH.cons rfl (fun K hK => ?_) AllReadyH.nil)
  go_simp
  refine (HPS.out _).mono ?_
  rintro e wd3 ⟨v6, rfl, o6, hb3⟩
  obtain ⟨a6, n6, c6, rfl, -⟩ := id o6.form
  have R6 := OwnB.rd o6
  clear o6
  refine hK.out _ _ hb3 (fun _ => wpAnyH_shift hb3 ?_)
  clear hK K
  replace B : Below w.heap.size w wd3 := B.trans (hb3.mono B.size)
  replace HX := HX.below hb3
  clear hb3
  try simp only [Act.put, List.setIfInBounds_toArray, List.set_cons_zero, List.set_cons_succ]
  refine wpAnyH_ready (rs := [7]) (by kernel_rfl) (by simp) (AllReadyH.cons rfl (fun K hK => ?_) AllReadyH.nil)
  go_simp
  refine (HPK.out _).mono ?_
  rintro e wd4 ⟨v10, rfl, o10, hb4⟩
  obtain ⟨a10, n10, c10, rfl, -⟩ := id o10.form
  have R10 := OwnB.rd o10
  clear o10
  refine hK.out _ _ hb4 (fun _ => wpAnyH_shift hb4 ?_)
  clear hK K
  replace B : Below w.heap.size w wd4 := B.trans (hb4.mono B.size)
  replace HX := HX.below hb4
  replace R6 := R6.below hb4
  clear hb4
  try simp only [Act.put, List.setIfInBounds_toArray, List.set_cons_zero, List.set_cons_succ]
  refine wpAnyH_ready (rs := [10]) (by kernel_rfl) (by simp) (AllReadyH.cons rfl (fun K hK => ?_) AllReadyH.nil)
  go_simp
  refine (HTS.out _).mono ?_
  rintro e wd5 ⟨v13, rfl, o13, hb5⟩
  obtain ⟨a13, n13, c13, rfl, -⟩ := id o13.form
  have R13 := OwnB.rd o13
  clear o13
  refine hK.out _ _ hb5 (fun _ => wpAnyH_shift hb5 ?_)
  clear hK K
  replace B : Below w.heap.size w wd5 := B.trans (hb5.mono B.size)
  replace HX := HX.below hb5
  replace R6 := R6.below hb5
  replace R10 := R10.below hb5
  clear hb5
  try simp only [Act.put, List.setIfInBounds_toArray, List.set_cons_zero, List.set_cons_succ]
  refine wpAnyH_ready (rs := [13]) (by kernel_rfl) (by simp) (AllReadyH.cons rfl (fun K hK => ?_) AllReadyH.nil)
  go_simp
  refine (HTV.out _).mono ?_
  rintro e wd6 ⟨v16, rfl, o16, hb6⟩
  obtain ⟨a16, n16, c16, rfl, -⟩ := id o16.form
  have R16 := OwnB.rd o16
  clear o16
  refine hK.out _ _ hb6 (fun _ => wpAnyH_shift hb6 ?_)
  clear hK K
  replace B : Below w.heap.size w wd6 := B.trans (hb6.mono B.size)
  replace HX := HX.below hb6
  replace R6 := R6.below hb6
  replace R10 := R10.below hb6
  replace R13 := R13.below hb6
  clear hb6
  try simp only [Act.put, List.setIfInBounds_toArray, List.set_cons_zero, List.set_cons_succ]
  refine wpAnyH_ready (rs := [14]) (by kernel_rfl) (by simp) (AllReadyH.cons rfl (fun K hK => ?_) AllReadyH.nil)
  go_simp
  have HC := Lib.hid (concat_any _ [PS, PK, TS, TV] ⟨HEL.out, by simp⟩ _ (rdRecs_row wd6 [.slice a6 n6 c6, .slice a10 n10 c10, .slice a13 n13 c13, .slice a16 n16 c16] _ (.cons R6 (.cons R10 (.cons R13 (.cons R16 .nil)))) _ rfl 4 rfl (by decide) (by unfold maxLen; decide)))
  rw [HE.out] at HC
  obtain ⟨hh17, hh17q⟩ : ∃ x, wd6.heap.size = x := ⟨_, rfl⟩
  obtain ⟨wd7, hwx⟩ : ∃ x, wd6.alloc (.cells #[.slice a6 n6 c6, .slice a10 n10 c10, .slice a13 n13 c13, .slice a16 n16 c16] 25) = x := ⟨_, rfl⟩
  rw [hwx] at HC ⊢
  rw [hh17q] at HC ⊢
  have hb7 : Below wd6.heap.size wd6 wd7 := by rw [← hwx]; exact (Below.refl _ _).alloc (Nat.le_refl _) _
  clear hwx hh17q
  refine hK.out _ _ hb7 (fun _ => wpAnyH_shift hb7 ?_)
  clear hK K
  replace B : Below w.heap.size w wd7 := B.trans (hb7.mono B.size)
  replace HX := HX.below hb7
  replace R6 := R6.below hb7
  replace R10 := R10.below hb7
  replace R13 := R13.below hb7
  replace R16 := R16.below hb7
  clear hb7
  try simp only [Act.put, List.setIfInBounds_toArray, List.set_cons_zero, List.set_cons_succ]
  refine wpAnyH_ready (rs := [15]) (by kernel_rfl) (by simp) (AllReadyH.cons rfl (fun K hK => ?_) AllReadyH.nil)
  go_simp
  refine (HC.out).mono ?_
  rintro e wd8 ⟨v18, rfl, o18, hb8⟩
  obtain ⟨a18, n18, c18, rfl, -⟩ := id o18.form
  have OO := OwnB.base (B' := w.heap.size) o18 B.size
  clear HC
  refine hK.out _ _ hb8 (fun _ => wpAnyH_shift hb8 ?_)
  clear hK K
  replace B : Below w.heap.size w wd8 := B.trans (hb8.mono B.size)
  replace HX := HX.below hb8
  replace R6 := R6.below hb8
  replace R10 := R10.below hb8
  replace R13 := R13.below hb8
  replace R16 := R16.below hb8
  clear hb8
  try simp only [Act.put, List.setIfInBounds_toArray, List.set_cons_zero, List.set_cons_succ]
  refine takeYes (i := 16) (k := 2) (v := .slice a18 n18 c18) rfl (by kernel_rfl) (by kernel_rfl) (by kernel_rfl) (by kernel_rfl) (fun _ _ _ h => h) (by kernel_rfl) ?_ (Below.refl _ _) ?_
  · intro W hSw; first | (go_simp; done) | go_simp
  try simp only [Act.put, List.setIfInBounds_toArray, List.set_cons_zero, List.set_cons_succ]
  refine wpAnyH_done (by kernel_rfl) ?_ _
  go_wp2_with fail
  go_ret
  exact ⟨_, rfl, OO, B⟩

set_option maxHeartbeats 8000000 in
theorem putpart_raw (n : ByteArray) (sq : Nat) (kd : Int) (sp vl : ByteArray) (at0 : Int) (sz ct : Nat) (hn : n.size ≤ 100000000000) (hsq : sq < 2 ^ 63) (hsz : sz < 2 ^ 63) (hct : ct < 2 ^ 63) (w : World) :
    Calls Tryd.prog 31 #[.agg #[.string n, .int .i64 (sq : Int), .int .i64 kd, .string sp, .string vl, .int .i64 at0, .int .i64 (sz : Int), .int .i64 (ct : Int)]] w (MkB (textE n.data.toList ++ (putN sq ++ (putN sz ++ putN ct))) w) := by
  have HTN := Lib.hid (fun W => text_putL n (by omega) W)
  have HPS := Lib.hid (fun W => put_any sq (by omega) W)
  have HPZ := Lib.hid (fun W => put_any sz (by omega) W)
  have HPC := Lib.hid (fun W => put_any ct (by omega) W)
  have hl1 := putN_len sq
  have hl2 := putN_len sz
  have hl3 := putN_len ct
  have hl4 := putN_len n.data.toList.length
  have HE : Hid ([textE n.data.toList, putN sq, putN sz, putN ct].flatMap id = textE n.data.toList ++ (putN sq ++ (putN sz ++ putN ct))) := Lib.hid (by simp)
  have HEL : Hid (([textE n.data.toList, putN sq, putN sz, putN ct].flatMap id).length ≤ 1000000000000) := Lib.hid (by
    rw [HE.out]; simp only [List.length_append, textE_len]
    rw [size_toList] at *; omega)
  have hws : IntKind.u64.wrap (sq : Int) = (sq : Int) := wrap_u64 sq (by omega)
  have hwz : IntKind.u64.wrap (sz : Int) = (sz : Int) := wrap_u64 sz (by omega)
  have hwc : IntKind.u64.wrap (ct : Int) = (ct : Int) := wrap_u64 ct (by omega)
  generalize textE n.data.toList = TN at *
  generalize putN sq = PS at *
  generalize putN sz = PZ at *
  generalize putN ct = PC at *
  clear hl1 hl2 hl3 hl4 hsq hsz hct hn
  go_enter Tryd.func31, Tryd.ntmps31
  go_wp2_with fail
  have HX := BlkAt.new w #[.string n, .int .i64 (sq : Int), .int .i64 kd, .string sp, .string vl, .int .i64 at0, .int .i64 (sz : Int), .int .i64 (ct : Int)] 58
  have B : Below w.heap.size w (w.alloc (.cells #[.string n, .int .i64 (sq : Int), .int .i64 kd, .string sp, .string vl, .int .i64 at0, .int .i64 (sz : Int), .int .i64 (ct : Int)] 58)) := (Below.refl _ w).alloc (Nat.le_refl _) _
  obtain ⟨b, hbq⟩ : ∃ b, w.heap.size = b := ⟨_, rfl⟩
  rw [hbq] at HX B ⊢
  generalize w.alloc (.cells #[.string n, .int .i64 (sq : Int), .int .i64 kd, .string sp, .string vl, .int .i64 at0, .int .i64 (sz : Int), .int .i64 (ct : Int)] 58) = w1 at *
  rw [← hbq] at B

  refine wp_region_held_drew (S := Below w1.heap.size w1) (by kernel_rfl) (Below.refl _ _).drew (fun hHeld => ?_)
  generalize w1.drew = wd2 at hHeld ⊢
  refine wpAnyH_shift hHeld ?_
  replace B : Below w.heap.size w wd2 := B.trans (hHeld.mono B.size)
  replace HX := HX.below hHeld
  clear hHeld
  refine takeYes (i := 0) (k := 3) (v := .pointer (some ⟨b, 0, none⟩)) rfl (by kernel_rfl) (by kernel_rfl) (by kernel_rfl) (by kernel_rfl) (fun _ _ _ h => h) (by kernel_rfl) ?_ (Below.refl _ _) ?_
  · intro W hSw; first | (go_simp; done) | go_simp
  try simp only [Act.put, List.setIfInBounds_toArray, List.set_cons_zero, List.set_cons_succ]
  refine takeYes (i := 1) (k := 4) (v := .pointer (some ⟨b, 0, none⟩)) rfl (by kernel_rfl) (by kernel_rfl) (by kernel_rfl) (by kernel_rfl) (fun _ _ _ h => h) (by kernel_rfl) ?_ (Below.refl _ _) ?_
  · intro W hSw; first | (go_simp; done) | go_simp
  try simp only [Act.put, List.setIfInBounds_toArray, List.set_cons_zero, List.set_cons_succ]
  refine takeYes (i := 2) (k := 5) (v := .string n) rfl (by kernel_rfl) (by kernel_rfl) (by kernel_rfl) (by kernel_rfl) (fun _ _ _ h => h) (by kernel_rfl) ?_ (Below.refl _ _) ?_
  · intro W hSw; have d0 : W.cell? ⟨b, 0, none⟩ = some (.string n) := (HX.below hSw).at 0; first | (go_simp; done) | go_simp
  try simp only [Act.put, List.setIfInBounds_toArray, List.set_cons_zero, List.set_cons_succ]
  refine takeYes (i := 4) (k := 7) (v := .pointer (some ⟨b, 0, none⟩)) rfl (by kernel_rfl) (by kernel_rfl) (by kernel_rfl) (by kernel_rfl) (fun _ _ _ h => h) (by kernel_rfl) ?_ (Below.refl _ _) ?_
  · intro W hSw; first | (go_simp; done) | go_simp
  try simp only [Act.put, List.setIfInBounds_toArray, List.set_cons_zero, List.set_cons_succ]
  refine takeYes (i := 5) (k := 8) (v := .pointer (some ⟨b, 1, none⟩)) rfl (by kernel_rfl) (by kernel_rfl) (by kernel_rfl) (by kernel_rfl) (fun _ _ _ h => h) (by kernel_rfl) ?_ (Below.refl _ _) ?_
  · intro W hSw; first | (go_simp; done) | go_simp
  try simp only [Act.put, List.setIfInBounds_toArray, List.set_cons_zero, List.set_cons_succ]
  refine takeYes (i := 6) (k := 9) (v := .int .i64 (sq : Int)) rfl (by kernel_rfl) (by kernel_rfl) (by kernel_rfl) (by kernel_rfl) (fun _ _ _ h => h) (by kernel_rfl) ?_ (Below.refl _ _) ?_
  · intro W hSw; have d1 : W.cell? ⟨b, 1, none⟩ = some (.int .i64 (sq : Int)) := (HX.below hSw).at 1; first | (go_simp; done) | go_simp
  try simp only [Act.put, List.setIfInBounds_toArray, List.set_cons_zero, List.set_cons_succ]
  refine takeYes (i := 7) (k := 10) (v := .int .u64 (sq : Int)) rfl (by kernel_rfl) (by kernel_rfl) (by kernel_rfl) (by kernel_rfl) (fun _ _ _ h => h) (by kernel_rfl) ?_ (Below.refl _ _) ?_
  · intro W hSw; first | (go_simp; done) | go_simp
  try simp only [Act.put, List.setIfInBounds_toArray, List.set_cons_zero, List.set_cons_succ]
  refine takeYes (i := 9) (k := 12) (v := .pointer (some ⟨b, 6, none⟩)) rfl (by kernel_rfl) (by kernel_rfl) (by kernel_rfl) (by kernel_rfl) (fun _ _ _ h => h) (by kernel_rfl) ?_ (Below.refl _ _) ?_
  · intro W hSw; first | (go_simp; done) | go_simp
  try simp only [Act.put, List.setIfInBounds_toArray, List.set_cons_zero, List.set_cons_succ]
  refine takeYes (i := 10) (k := 13) (v := .int .i64 (sz : Int)) rfl (by kernel_rfl) (by kernel_rfl) (by kernel_rfl) (by kernel_rfl) (fun _ _ _ h => h) (by kernel_rfl) ?_ (Below.refl _ _) ?_
  · intro W hSw; have d6 : W.cell? ⟨b, 6, none⟩ = some (.int .i64 (sz : Int)) := (HX.below hSw).at 6; first | (go_simp; done) | go_simp
  try simp only [Act.put, List.setIfInBounds_toArray, List.set_cons_zero, List.set_cons_succ]
  refine takeYes (i := 11) (k := 14) (v := .int .u64 (sz : Int)) rfl (by kernel_rfl) (by kernel_rfl) (by kernel_rfl) (by kernel_rfl) (fun _ _ _ h => h) (by kernel_rfl) ?_ (Below.refl _ _) ?_
  · intro W hSw; first | (go_simp; done) | go_simp
  try simp only [Act.put, List.setIfInBounds_toArray, List.set_cons_zero, List.set_cons_succ]
  refine takeYes (i := 13) (k := 16) (v := .pointer (some ⟨b, 7, none⟩)) rfl (by kernel_rfl) (by kernel_rfl) (by kernel_rfl) (by kernel_rfl) (fun _ _ _ h => h) (by kernel_rfl) ?_ (Below.refl _ _) ?_
  · intro W hSw; first | (go_simp; done) | go_simp
  try simp only [Act.put, List.setIfInBounds_toArray, List.set_cons_zero, List.set_cons_succ]
  refine takeYes (i := 14) (k := 17) (v := .int .i64 (ct : Int)) rfl (by kernel_rfl) (by kernel_rfl) (by kernel_rfl) (by kernel_rfl) (fun _ _ _ h => h) (by kernel_rfl) ?_ (Below.refl _ _) ?_
  · intro W hSw; have d7 : W.cell? ⟨b, 7, none⟩ = some (.int .i64 (ct : Int)) := (HX.below hSw).at 7; first | (go_simp; done) | go_simp
  try simp only [Act.put, List.setIfInBounds_toArray, List.set_cons_zero, List.set_cons_succ]
  refine takeYes (i := 15) (k := 18) (v := .int .u64 (ct : Int)) rfl (by kernel_rfl) (by kernel_rfl) (by kernel_rfl) (by kernel_rfl) (fun _ _ _ h => h) (by kernel_rfl) ?_ (Below.refl _ _) ?_
  · intro W hSw; first | (go_simp; done) | go_simp
  try simp only [Act.put, List.setIfInBounds_toArray, List.set_cons_zero, List.set_cons_succ]
  refine wpAnyH_ready (rs := [3]) (by kernel_rfl) (by simp) (AllReadyH.cons rfl (fun K hK => ?_) AllReadyH.nil)
  go_simp
  refine (HTN.out _).mono ?_
  rintro e wd3 ⟨v6, rfl, o6, hb3⟩
  obtain ⟨a6, n6, c6, rfl, -⟩ := id o6.form
  have R6 := OwnB.rd o6
  clear o6
  refine hK.out _ _ hb3 (fun _ => wpAnyH_shift hb3 ?_)
  clear hK K
  replace B : Below w.heap.size w wd3 := B.trans (hb3.mono B.size)
  replace HX := HX.below hb3
  clear hb3
  try simp only [Act.put, List.setIfInBounds_toArray, List.set_cons_zero, List.set_cons_succ]
  refine wpAnyH_ready (rs := [8]) (by kernel_rfl) (by simp) (AllReadyH.cons rfl (fun K hK => ?_) AllReadyH.nil)
  go_simp
  refine (HPS.out _).mono ?_
  rintro e wd4 ⟨v11, rfl, o11, hb4⟩
  obtain ⟨a11, n11, c11, rfl, -⟩ := id o11.form
  have R11 := OwnB.rd o11
  clear o11
  refine hK.out _ _ hb4 (fun _ => wpAnyH_shift hb4 ?_)
  clear hK K
  replace B : Below w.heap.size w wd4 := B.trans (hb4.mono B.size)
  replace HX := HX.below hb4
  replace R6 := R6.below hb4
  clear hb4
  try simp only [Act.put, List.setIfInBounds_toArray, List.set_cons_zero, List.set_cons_succ]
  refine wpAnyH_ready (rs := [12]) (by kernel_rfl) (by simp) (AllReadyH.cons rfl (fun K hK => ?_) AllReadyH.nil)
  go_simp
  refine (HPZ.out _).mono ?_
  rintro e wd5 ⟨v15, rfl, o15, hb5⟩
  obtain ⟨a15, n15, c15, rfl, -⟩ := id o15.form
  have R15 := OwnB.rd o15
  clear o15
  refine hK.out _ _ hb5 (fun _ => wpAnyH_shift hb5 ?_)
  clear hK K
  replace B : Below w.heap.size w wd5 := B.trans (hb5.mono B.size)
  replace HX := HX.below hb5
  replace R6 := R6.below hb5
  replace R11 := R11.below hb5
  clear hb5
  try simp only [Act.put, List.setIfInBounds_toArray, List.set_cons_zero, List.set_cons_succ]
  refine wpAnyH_ready (rs := [16]) (by kernel_rfl) (by simp) (AllReadyH.cons rfl (fun K hK => ?_) AllReadyH.nil)
  go_simp
  refine (HPC.out _).mono ?_
  rintro e wd6 ⟨v19, rfl, o19, hb6⟩
  obtain ⟨a19, n19, c19, rfl, -⟩ := id o19.form
  have R19 := OwnB.rd o19
  clear o19
  refine hK.out _ _ hb6 (fun _ => wpAnyH_shift hb6 ?_)
  clear hK K
  replace B : Below w.heap.size w wd6 := B.trans (hb6.mono B.size)
  replace HX := HX.below hb6
  replace R6 := R6.below hb6
  replace R11 := R11.below hb6
  replace R15 := R15.below hb6
  clear hb6
  try simp only [Act.put, List.setIfInBounds_toArray, List.set_cons_zero, List.set_cons_succ]
  refine wpAnyH_ready (rs := [17]) (by kernel_rfl) (by simp) (AllReadyH.cons rfl (fun K hK => ?_) AllReadyH.nil)
  go_simp
  have HC := Lib.hid (concat_any _ [TN, PS, PZ, PC] ⟨HEL.out, by simp⟩ _ (rdRecs_row wd6 [.slice a6 n6 c6, .slice a11 n11 c11, .slice a15 n15 c15, .slice a19 n19 c19] _ (.cons R6 (.cons R11 (.cons R15 (.cons R19 .nil)))) _ rfl 4 rfl (by decide) (by unfold maxLen; decide)))
  rw [HE.out] at HC
  obtain ⟨hh17, hh17q⟩ : ∃ x, wd6.heap.size = x := ⟨_, rfl⟩
  obtain ⟨wd7, hwx⟩ : ∃ x, wd6.alloc (.cells #[.slice a6 n6 c6, .slice a11 n11 c11, .slice a15 n15 c15, .slice a19 n19 c19] 25) = x := ⟨_, rfl⟩
  rw [hwx] at HC ⊢
  rw [hh17q] at HC ⊢
  have hb7 : Below wd6.heap.size wd6 wd7 := by rw [← hwx]; exact (Below.refl _ _).alloc (Nat.le_refl _) _
  clear hwx hh17q
  refine hK.out _ _ hb7 (fun _ => wpAnyH_shift hb7 ?_)
  clear hK K
  replace B : Below w.heap.size w wd7 := B.trans (hb7.mono B.size)
  replace HX := HX.below hb7
  replace R6 := R6.below hb7
  replace R11 := R11.below hb7
  replace R15 := R15.below hb7
  replace R19 := R19.below hb7
  clear hb7
  try simp only [Act.put, List.setIfInBounds_toArray, List.set_cons_zero, List.set_cons_succ]
  refine wpAnyH_ready (rs := [18]) (by kernel_rfl) (by simp) (AllReadyH.cons rfl (fun K hK => ?_) AllReadyH.nil)
  go_simp
  refine (HC.out).mono ?_
  rintro e wd8 ⟨v21, rfl, o21, hb8⟩
  obtain ⟨a21, n21, c21, rfl, -⟩ := id o21.form
  have OO := OwnB.base (B' := w.heap.size) o21 B.size
  clear HC
  refine hK.out _ _ hb8 (fun _ => wpAnyH_shift hb8 ?_)
  clear hK K
  replace B : Below w.heap.size w wd8 := B.trans (hb8.mono B.size)
  replace HX := HX.below hb8
  replace R6 := R6.below hb8
  replace R11 := R11.below hb8
  replace R15 := R15.below hb8
  replace R19 := R19.below hb8
  clear hb8
  try simp only [Act.put, List.setIfInBounds_toArray, List.set_cons_zero, List.set_cons_succ]
  refine takeYes (i := 19) (k := 2) (v := .slice a21 n21 c21) rfl (by kernel_rfl) (by kernel_rfl) (by kernel_rfl) (by kernel_rfl) (fun _ _ _ h => h) (by kernel_rfl) ?_ (Below.refl _ _) ?_
  · intro W hSw; first | (go_simp; done) | go_simp
  try simp only [Act.put, List.setIfInBounds_toArray, List.set_cons_zero, List.set_cons_succ]
  refine wpAnyH_done (by kernel_rfl) ?_ _
  go_wp2_with fail
  go_ret
  exact ⟨_, rfl, OO, B⟩
end Go.Proofs.YtennpdhnjaemeaaDoor
