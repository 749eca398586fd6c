/- Plain facts on bytes, bits of int, strings as lists and endings; no program is named here. -/
import Derived.Test.YtgcchkjoggmdiaaDoorRows
import Derived.Lib.Strings
import Derived.Lib.Hide
import Derived.Laws.BitsAllLaws
import Derived.WalkKit
import Derived.WalkSpells
import Derived.WalkLawsBesides
import Derived.OwnWalk
import Derived.Deep.QuietTactic
import Derived.Laws.AppendOwn
import Derived.Laws.AppendOwnNone
import Derived.ProofKit
import Derived.OpenShut
import Derived.ShutString
import Derived.ChangeOld
import Derived.Below
import Derived.BigQuiet
import Derived.Deep.DeepCutAuto
import Derived.Deep.RegionHeld3
namespace Go.Proofs.YtgcchkjoggmdiaaDoor
set_option linter.unusedVariables false
open Go.RowKit

theorem byte_bd (b : UInt8) : 0 ≤ (b.toNat : Int) ∧ (b.toNat : Int) < 256 := by have := b.toNat_lt; omega
theorem byte_nat (b : UInt8) : b.toNat < 256 := b.toNat_lt
theorem byte_of (n : Nat) (h : n < 256) : (UInt8.ofNat n).toNat = n := by rw [UInt8.toNat_ofNat']; exact Nat.mod_eq_of_lt h
theorem byte_ext {a b : UInt8} (h : (a.toNat : Int) = b.toNat) : a = b := UInt8.toNat_inj.1 (by omega)

theorem i64_small (n : Nat) (h : n < 9223372036854775808) : IntKind.i64.wrap (n : Int) = (n : Int) := by
  rw [IntKind.wrap_i64]; omega
theorem or_i64_nat (a b : Nat) (ha : a < 9223372036854775808) (hb : b < 9223372036854775808) : bits .or .i64 (a : Int) (b : Int) = ((a ||| b : Nat) : Int) := by
  have hx : a ||| b < 2 ^ 63 := Nat.or_lt_two_pow (by omega) (by omega)
  show IntKind.i64.wrap ((BitVec.ofInt 64 (a : Int) ||| BitVec.ofInt 64 (b : Int)).toNat : Int) = _
  rw [BitVec.toNat_or, ofInt_u64 a (by omega), ofInt_u64 b (by omega)]
  exact i64_small _ (by omega)
theorem and_i64_nat (a b : Nat) (ha : a < 9223372036854775808) (hb : b < 9223372036854775808) : bits .and .i64 (a : Int) (b : Int) = ((a &&& b : Nat) : Int) := by
  have hx : a &&& b < 2 ^ 63 := Nat.and_lt_two_pow _ (by omega)
  show IntKind.i64.wrap ((BitVec.ofInt 64 (a : Int) &&& BitVec.ofInt 64 (b : Int)).toNat : Int) = _
  rw [BitVec.toNat_and, ofInt_u64 a (by omega), ofInt_u64 b (by omega)]
  exact i64_small _ (by omega)

/-- 'c << 6 | y', y below 64: a sum. -/
theorem or6 (x y : Int) (h0 : 0 ≤ x) (h1 : x < 1000000000) (h2 : 0 ≤ y) (h3 : y < 64) : bits .or .i64 (x * 64) y = x * 64 + y := by
  obtain ⟨X, rfl⟩ := Int.eq_ofNat_of_zero_le h0
  obtain ⟨Y, rfl⟩ := Int.eq_ofNat_of_zero_le h2
  have e : ((X : Int) * 64) = ((X * 64 : Nat) : Int) := by omega
  rw [e, or_i64_nat _ _ (by omega) (by omega), nat_join 6 (X * 64) Y (by omega) (by omega)]
  omega
theorem and192 : ∀ n : Fin 256, bits .and .u8 (n.val : Int) 192 = (n.val / 64 * 64 : Nat) := by decide +kernel
theorem and63 : ∀ n : Fin 256, bits .and .u8 (n.val : Int) 63 = (n.val % 64 : Nat) := by decide +kernel
theorem byte_and192 (b : UInt8) : bits .and .u8 (b.toNat : Int) 192 = (b.toNat / 64 * 64 : Nat) := and192 ⟨b.toNat, b.toNat_lt⟩
theorem byte_and63 (b : UInt8) : bits .and .u8 (b.toNat : Int) 63 = (b.toNat % 64 : Nat) := and63 ⟨b.toNat, b.toNat_lt⟩
theorem wrap64_nat (n : Nat) (h : n < 4294967296) : wrap64 (n : Int) = n := IntWalk.wrap64_in _ (by omega)

theorem size_toList (s : ByteArray) : s.data.toList.length = s.size := by rw [Array.length_toList]; rfl
theorem toList_nil {s : ByteArray} (h : ¬ 0 < s.size) : s.data.toList = [] := List.eq_nil_of_length_eq_zero (by rw [size_toList]; omega)
theorem isEmpty_no {s : ByteArray} (h : 0 < s.size) : s.toList.isEmpty = false := by
  rw [Lib.toList_data]
  cases e : s.data.toList with
  | nil => have := size_toList s; rw [e] at this; rw [← this] at h; exact absurd h (Nat.lt_irrefl 0)
  | cons => rfl
theorem isEmpty_yes {s : ByteArray} (h : ¬ 0 < s.size) : s.toList.isEmpty = true := by
  rw [Lib.toList_data, toList_nil h]; rfl
theorem at_toList (s : ByteArray) (k : Nat) (h : k < s.size) : s.data.toList[k]'(by rw [size_toList]; exact h) = s[k] := rfl
theorem drop_cons (s : ByteArray) (k : Nat) (h : k < s.size) : s.data.toList.drop k = s[k] :: s.data.toList.drop (k + 1) := by
  rw [List.drop_eq_getElem_cons (by rw [size_toList]; exact h)]; rfl

theorem ret_bool {a b : Bool} (h : b = a) : Ending.returned (.bool a) = .returned (.bool b) := by rw [h]
theorem ret_int {k : IntKind} {a b : Int} (h : a = b) : Ending.returned (.int k a) = .returned (.int k b) := by rw [h]
theorem ret2_int {a b c d : Int} (h : a = c) (h2 : b = d) : Ending.returned (.tuple #[.int .i64 a, .int .i64 b]) = .returned (.tuple #[.int .i64 c, .int .i64 d]) := by rw [h, h2]
end Go.Proofs.YtgcchkjoggmdiaaDoor
/- Slices of one-cell values: what a slice that may be read says of the world, what a slice of the call's own says, and append's law in these words. -/
namespace Go.Proofs.YtgcchkjoggmdiaaDoor
set_option linter.unusedVariables false
open Go.RowKit

/-- v is a slice of the call's own (blocks from B on) that holds vs. -/
def OwnV (E B : Nat) (w : World) (v : Value) (vs : List Value) : Prop := w.ownsRow B E 1 v vs.length vs
/-- v is a slice that reads as vs. -/
def RdV (w : World) (v : Value) (vs : List Value) : Prop :=
  (∃ a cap, v = .slice a 0 cap ∧ vs = []) ∨
  ∃ b off cap, v = .slice (some ⟨b, off, none⟩) vs.length cap ∧ 0 < vs.length ∧ vs.length ≤ cap ∧ cap ≤ maxLen ∧ b < w.heap.size ∧ ∀ i, i < vs.length → w.cell? ⟨b, off + i, none⟩ = some (vs.getD i undef)

theorem RdV.below {w w' : World} {v : Value} {vs : List Value} (h : RdV w v vs) (hb : Below w.heap.size w w') : RdV w' v vs := by
  rcases h with h | ⟨b, off, cap, h1, h2, h3, h4, h5, h6⟩
  · exact .inl h
  · exact .inr ⟨b, off, cap, h1, h2, h3, h4, Nat.lt_of_lt_of_le h5 hb.size, fun i hi => by rw [hb.cell h5]; exact h6 i hi⟩
theorem RdV.nil (w : World) (a : Option Addr) (cap : Nat) : RdV w (.slice a 0 cap) [] := .inl ⟨a, cap, rfl, rfl⟩

theorem OwnV.nil (E B : Nat) (w : World) : OwnV E B w (.slice none 0 0) [] := World.ownsRow_nil w B E 1
theorem OwnV.below {E B : Nat} {w w' : World} {v : Value} {vs : List Value} (h : OwnV E B w v vs) (hb : Below w.heap.size w w') : OwnV E B w' v vs := by
  obtain ⟨h1, h2⟩ := h
  refine ⟨h1, ?_⟩
  rcases h2 with h2 | ⟨g, cap, cur, e1, e2, e3, e4⟩
  · exact .inl h2
  · refine .inr ⟨g, cap, cur, e1, e2, ?_, e4⟩
    have hg : g < w.heap.size := by
      rcases Nat.lt_or_ge g w.heap.size with h | h
      · exact h
      · rw [Array.getElem?_eq_none h] at e3; cases e3
    rw [hb.block g hg]; exact e3
theorem OwnV.drew {E B : Nat} {w : World} {v : Value} {vs : List Value} (h : OwnV E B w v vs) : OwnV E B w.drew v vs := h
theorem OwnV.base {E B B' : Nat} {w : World} {v : Value} {vs : List Value} (h : OwnV E B w v vs) (hB : B' ≤ B) : OwnV E B' w v vs := by
  obtain ⟨h1, h2⟩ := h
  refine ⟨h1, ?_⟩
  rcases h2 with h2 | ⟨g, cap, cur, e1, e2, e3⟩
  · exact .inl h2
  · exact .inr ⟨g, cap, cur, e1, Nat.le_trans hB e2, e3⟩
theorem OwnV.rd {E B : Nat} {w : World} {v : Value} {vs : List Value} (h : OwnV E B w v vs) : RdV w v vs := by
  obtain ⟨h1, h2⟩ := h
  rcases h2 with ⟨e1, e2⟩ | ⟨g, cap, cur, e1, e2, e3, e4, e5, e6, e7⟩
  · exact .inl ⟨none, 0, by rw [e1], List.eq_nil_of_length_eq_zero e2⟩
  · rcases Nat.eq_zero_or_pos vs.length with h0 | h0
    · exact .inl ⟨_, cap, by rw [e1, h0], List.eq_nil_of_length_eq_zero h0⟩
    · have hg : g < w.heap.size := by
        rcases Nat.lt_or_ge g w.heap.size with h | h
        · exact h
        · rw [Array.getElem?_eq_none h] at e3; cases e3
      refine .inr ⟨g, 0, cap, e1, h0, e4, e5, hg, fun i hi => ?_⟩
      have hc : cur[i]? = some (vs.getD i undef) := by
        have h7 : cur.toList[i]? = vs[i]? := by
          conv => rhs; rw [← e7]
          rw [List.getElem?_take, if_pos (by omega)]
        rw [Array.getElem?_toList] at h7
        rw [h7, List.getD_eq_getElem?_getD, List.getElem?_eq_getElem hi]; rfl
      unfold World.cell?
      simp only [e3, Nat.zero_add, Option.isSome_none, Bool.false_eq_true, if_false]
      exact hc
theorem OwnV.nilOr {E B : Nat} {w : World} {v : Value} {vs : List Value} (h : OwnV E B w v vs) : (v = .slice none 0 0 ∧ vs = []) ∨ ∃ g cap, v = .slice (some ⟨g, 0, none⟩) vs.length cap ∧ B ≤ g ∧ g < w.heap.size ∧ vs.length ≤ cap ∧ cap ≤ maxLen := by
  obtain ⟨h1, h2⟩ := h
  rcases h2 with ⟨e1, e2⟩ | ⟨g, cap, cur, e1, e2, e3, e4, e5, e6, e7⟩
  · exact .inl ⟨e1, List.eq_nil_of_length_eq_zero e2⟩
  · refine .inr ⟨g, cap, e1, e2, ?_, e4, e5⟩
    rcases Nat.lt_or_ge g w.heap.size with h | h
    · exact h
    · rw [Array.getElem?_eq_none h] at e3; cases e3

/-- What the walk is told of an element type: its number, the slice type's, the zero, the bytes. -/
def ElemOk (P : Program) (t E bytes : Nat) (z : Value) : Prop := P.underlying t = some (.slice E) ∧ (P.info? E).map (fun i => (i.zero, i.size, i.bytes)) = some (some z, 1, bytes) ∧ z.cells.size = 1

theorem elem_int : ElemOk Tryd.prog 22 3 8 (.int .i64 0) := ⟨Tryd.underlying22, by kernel_rfl, rfl⟩
/-- 'append(s, news..)' onto a slice of the call's own; the news lie in a block that was just laid. -/
theorem wp_app {P : Program} {ops : Array Oper} {rest : List Oper} {o : Oper} {a : Act} {Q : Exit → Act → World → Prop} {t E bytes : Nat} {z : Value} (F : ElemOk P t E bytes z)
    (s x : Operand) (ho : o.op = .call { callee := .builtin .append, args := #[s, x], argTypes := #[t, t] }) (hgd : o.guard = none)
    {B : Nat} {w : World} {v : Value} {vs : List Value} (hs : a.eval s = v) (hown : OwnV E B w v vs) (news : List Value) (n : Nat) (hn : news.length = n) (hx : a.eval x = .slice (some ⟨w.heap.size, 0, none⟩) n n)
    (h1 : ∀ u ∈ news, u.oneCell' = true) (hlen : (vs.length + news.length) * bytes ≤ 140737488355328) (hm : vs.length + news.length ≤ maxLen) (hB : B ≤ w.heap.size) (h0 : 0 < n)
    (h : ∀ v' w', OwnV E B w' v' (vs ++ news) → Below B w w' → v' ≠ .slice none 0 0 → wpList P ops Q rest (a.put o.dst v') w') : wpList P ops Q (o :: rest) a (w.alloc (.cells news.toArray E)) := by
  obtain ⟨f1, f2, f3⟩ := F
  obtain ⟨i0, hi, hz0, hz1, hz2⟩ := info_parts f2
  have hown2 : (w.alloc (.cells news.toArray E)).ownsRow B E 1 v vs.length vs := World.ownsRow.alloc hown _
  refine wpList_append_own _ hgd s x t ho B E i0 z 1 bytes f1 hi hz0 hz1 hz2 f3 (by decide) v vs.length vs hs hown2 ⟨w.heap.size, 0, none⟩ n n news hx (by omega) ?_ h1 (by omega) (by subst hn; exact hlen) (by simp; omega) ?_
  · intro j u hj
    have e : (⟨w.heap.size, 0, none⟩ : Addr).add j = ⟨w.heap.size, j, none⟩ := by unfold Addr.add; split <;> simp_all
    rw [e]
    unfold World.cell?
    rw [heap_alloc_new]
    simpa using hj
  · intro v' w' g1 g2 g3
    refine h v' w' ?_ ?_ ?_
    · unfold OwnV; rw [List.length_append, hn]; exact g1
    · refine ((Below.refl B w).alloc hB _).grown g2 (by simp; omega) fun k hk => ?_
      exact (World.ownsRow.lt hown k hk).1
    · intro e; have := (g3.1 e).2; omega
/-- w' is w behind some draws. -/
def DrN (w w' : World) : Prop := ∃ m, w' = w.drewN m
theorem DrN.refl (w : World) : DrN w w := ⟨0, rfl⟩
theorem DrN.more {w w' : World} (h : DrN w w') (n : Nat) : DrN w (w'.drewN n) := by obtain ⟨m, rfl⟩ := h; exact ⟨m + n, by rw [World.drewN_drewN]⟩
theorem DrN.cell {w w' : World} (h : DrN w w') (a : Addr) : w'.cell? a = w.cell? a := by obtain ⟨m, rfl⟩ := h; rfl
theorem DrN.below {w w' : World} (h : DrN w w') (B : Nat) : Below B w w' := by obtain ⟨m, rfl⟩ := h; exact ⟨rfl, rfl, rfl, Nat.le_refl _, fun _ _ => rfl⟩
theorem DrN.trans {w w' w'' : World} (h : DrN w w') (k : DrN w' w'') : DrN w w'' := by obtain ⟨m, rfl⟩ := k; exact h.more m
end Go.Proofs.YtgcchkjoggmdiaaDoor
/- 'append(s, us...)' onto a slice of the call's own, from whatever slice that may be read: nil, empty or not; guarded or not. -/
namespace Go.Proofs.YtgcchkjoggmdiaaDoor
set_option linter.unusedVariables false
open Go.RowKit
theorem run_app_nil {P : Program} {t ty E : Nat} {i : TypeInfo} (ht : P.underlying t = some (.slice E)) (hi : P.info? E = some i) {B : Nat} {w : World} {v : Value} {vs : List Value} (h : OwnV E B w v vs) (c : Nat) :
    (Builtin.append_ #[t, t] ty #[v, .slice none 0 c]).run P w = .ok v w := by
  rcases h.nilOr with ⟨rfl, -⟩ | ⟨g, cap, rfl, -, -, hc, -⟩
  · simp [Builtin.append_, run_underlying ht, sizeOf, typeInfo, hi, Builtin.lenOf, Builtin.firstCells]
  · simp [Builtin.append_, run_underlying ht, sizeOf, typeInfo, hi, Builtin.lenOf, Builtin.firstCells, hc, storeCells]
theorem run_appS {P : Program} {t E bytes ty : Nat} {z : Value} (F : ElemOk P t E bytes z) {B : Nat} {w : World} {v : Value} {vs : List Value} (hown : OwnV E B w v vs) {src : Value} {us : List Value} (hs : RdV w src us)
    (h1 : ∀ u ∈ us, u.oneCell' = true) (hlen : (vs.length + us.length) * bytes ≤ 140737488355328) (hm : vs.length + us.length ≤ maxLen) (hB : B ≤ w.heap.size) :
    ∃ v' w', (Builtin.append_ #[t, t] ty #[v, src]).run P w = .ok v' w' ∧ OwnV E B w' v' (vs ++ us) ∧ Below B w w' := by
  obtain ⟨f1, f2, f3⟩ := F
  obtain ⟨i0, hi, hz0, hz1, hz2⟩ := info_parts f2
  have hsome : ∀ (ad : Addr) (m c : Nat), m = us.length → (∀ j u, us[j]? = some u → w.cell? (ad.add j) = some u) →
      ∃ v' w', (Builtin.append_ #[t, t] ty #[v, .slice (some ad) m c]).run P w = .ok v' w' ∧ OwnV E B w' v' (vs ++ us) ∧ Below B w w' := by
    intro ad m c e hc
    obtain ⟨v', w', g0, g1, g2, -⟩ := run_append_own w B t ty E i0 z 1 bytes f1 hi hz0 hz1 hz2 f3 (by decide) v vs.length vs hown ad m c us (by omega) hc h1 (by omega) (by subst e; exact hlen) hB
    refine ⟨v', w', g0, ?_, ?_⟩
    · unfold OwnV; rw [List.length_append, ← e]; exact g1
    · exact (Below.refl B w).grown g2 hB fun k hk => (World.ownsRow.lt hown k hk).1
  rcases hs with ⟨a, cap, rfl, rfl⟩ | ⟨b, off, cap, rfl, h2, h3, h4, h5, h6⟩
  · cases a with
    | none => exact ⟨v, w, run_app_nil f1 hi hown cap, by rw [List.append_nil]; exact hown, Below.refl _ _⟩
    | some ad => exact hsome ad 0 cap rfl (fun j u h => by simp at h)
  · refine hsome ⟨b, off, none⟩ us.length cap rfl fun j u hj => ?_
    have e : (⟨b, off, none⟩ : Addr).add j = ⟨b, off + j, none⟩ := by unfold Addr.add; split <;> simp_all
    obtain ⟨hlt, hget⟩ := List.getElem?_eq_some_iff.1 hj
    rw [e, h6 j hlt, List.getD_eq_getElem?_getD, hj]; rfl
theorem wp_appS {P : Program} {ops : Array Oper} {rest : List Oper} {o : Oper} {a : Act} {w : World} {Q : Exit → Act → World → Prop} {t E bytes : Nat} {z : Value} (F : ElemOk P t E bytes z)
    (s x : Operand) (ho : o.op = .call { callee := .builtin .append, args := #[s, x], argTypes := #[t, t] }) (hw : Region.wanted o (yielded ops a.tmps) = true)
    {B : Nat} {v : Value} {vs : List Value} (hs : a.eval s = v) (hown : OwnV E B w v vs) {src : Value} {us : List Value} (hx : a.eval x = src) (hrd : RdV w src us)
    (h1 : ∀ u ∈ us, u.oneCell' = true) (hlen : (vs.length + us.length) * bytes ≤ 140737488355328) (hm : vs.length + us.length ≤ maxLen) (hB : B ≤ w.heap.size)
    (h : ∀ v' w', OwnV E B w' v' (vs ++ us) → Below B w w' → wpList P ops Q rest (a.put o.dst v') w') : wpList P ops Q (o :: rest) a w := by
  refine wpList_step fun K hK => ?_
  rw [if_pos hw]
  obtain ⟨v', w', hr, h2, h3⟩ := run_appS (ty := o.type) F hown hrd h1 hlen hm hB
  unfold Oper.wp execOp
  simp only [ho, resolve, invoke, builtin, Sem.run_bind, Sem.run_pure, Result.andThen_ok, List.map_toArray, List.map_cons, List.map_nil, hs, hx, hr]
  exact hK _ _ (h v' w' h2 h3)
/-- 'append(s, news..)', the news in a block that was just laid; H: that block's number as the walk spells it; guarded or not. -/
theorem wp_appH {P : Program} {ops : Array Oper} {rest : List Oper} {o : Oper} {a : Act} {w : World} {Q : Exit → Act → World → Prop} {t E bytes : Nat} {z : Value} (F : ElemOk P t E bytes z)
    (s x : Operand) (ho : o.op = .call { callee := .builtin .append, args := #[s, x], argTypes := #[t, t] }) (hw : Region.wanted o (yielded ops a.tmps) = true)
    {B : Nat} {v : Value} {vs : List Value} (hs : a.eval s = v) (hown : OwnV E B w v vs) (news : List Value) (n H : Nat) (hn : news.length = n) (hx : a.eval x = .slice (some ⟨H, 0, none⟩) n n)
    (hH : w.heap.size = H) (h0 : 0 < n) (h1 : ∀ u ∈ news, u.oneCell' = true) (hlen : (vs.length + n) * bytes ≤ 140737488355328) (hm : vs.length + n ≤ maxLen) (hB : B ≤ w.heap.size)
    (h : ∀ v' w', OwnV E B w' v' (vs ++ news) → Below B w w' → wpList P ops Q rest (a.put o.dst v') w') : wpList P ops Q (o :: rest) a (w.alloc (.cells news.toArray E)) := by
  subst hH hn
  refine wp_appS F s x ho hw hs (OwnV.below hown ((Below.refl _ w).alloc (Nat.le_refl _) (.cells news.toArray E))) hx ?_ h1 hlen hm (by simp; omega) fun v' w' g1 g2 => h v' w' g1 (((Below.refl B w).alloc hB _).trans g2)
  refine .inr ⟨w.heap.size, 0, news.length, rfl, h0, Nat.le_refl _, by omega, by simp, fun i hi => ?_⟩
  unfold World.cell?
  rw [heap_alloc_new]
  rw [List.getD_eq_getElem?_getD, List.getElem?_eq_getElem hi]
  simp [List.getElem?_eq_getElem hi]
end Go.Proofs.YtgcchkjoggmdiaaDoor
/- What every law's frame needs: the program's closed facts, and a slice of integers that came in read as a list. -/
namespace Go.Proofs.YtgcchkjoggmdiaaDoor
open Go.ChangeShapes Go.WideShapes Go.ChangeAt Go.RowKit
theorem own : ownKnob Tryd.prog.godebug = none := by kernel_rfl
theorem laidOut : laidOutB Tryd.prog = true := by kernel_rfl
theorem rd_open {k : IntKind} {w : World} {x : Addr} {len cap : Nat} {zs : List Int} (hl : len ≤ cap) (hm : cap ≤ maxLen) (hz : zs.length = cap) (hc : ∀ i, i < zs.length → w.cell? (x.add i) = some (.int k (zs.getD i 0))) :
    RdV w (.slice (some x) len cap) ((zs.take len).map (Value.int k)) := by
  rcases Nat.eq_zero_or_pos len with h0 | h0
  · subst h0; exact .inl ⟨_, cap, rfl, by simp⟩
  · obtain ⟨b, off, rfl, hcc⟩ := ints_at hc (by omega)
    have hlen : ((zs.take len).map (Value.int k)).length = len := by rw [List.length_map, List.length_take]; omega
    refine .inr ⟨b, off, cap, by rw [hlen], by omega, by omega, hm, ?_, fun i hi => ?_⟩
    · exact World.block_lt_of_cell? w _ (hcc 0 (by omega))
    · rw [hlen] at hi
      rw [hcc i (by omega)]
      rw [List.getD_eq_getElem?_getD, List.getD_eq_getElem?_getD, List.getElem?_map, List.getElem?_take, if_pos hi, List.getElem?_eq_getElem (by omega)]
      rfl
theorem wf_take {k : IntKind} {zs : List Int} {len : Nat} (h : ∀ n ∈ zs, (Lit.int k n).wf = true) : ∀ n ∈ zs.take len, (Lit.int k n).wf = true := fun n hn => h n (List.mem_of_mem_take hn)
end Go.Proofs.YtgcchkjoggmdiaaDoor
/- What a slice of integers holds, and the walk of incipitlaw1.Ints: are two of them the same. -/
namespace Go.Proofs.YtgcchkjoggmdiaaDoor
set_option linter.unusedVariables false
open Go.RowKit
/-- what a slice of integers holds -/
def RdI (w : World) (v : Value) (xs : List Int) : Prop := RdV w v (xs.map (Value.int .i64))
theorem getD_map (xs : List Int) (k : Nat) (hk : k < xs.length) : (xs.map (Value.int .i64)).getD k undef = .int .i64 (xs.getD k 0) := by
  rw [List.getD_eq_getElem?_getD, List.getD_eq_getElem?_getD, List.getElem?_map, List.getElem?_eq_getElem hk]; rfl
theorem RdI.cases {w : World} {v : Value} {xs : List Int} (h : RdI w v xs) : (∃ a cap, v = .slice a 0 cap ∧ xs = []) ∨
    ∃ b off cap, v = .slice (some ⟨b, off, none⟩) xs.length cap ∧ 0 < xs.length ∧ xs.length ≤ cap ∧ cap ≤ maxLen ∧ b < w.heap.size ∧ ∀ i, i < xs.length → w.cell? ⟨b, off + i, none⟩ = some (.int .i64 (xs.getD i 0)) := by
  rcases h with ⟨a, cap, h1, h2⟩ | ⟨b, off, cap, h1, h2, h3, h4, h5, h6⟩
  · exact .inl ⟨a, cap, h1, by simpa using h2⟩
  · rw [List.length_map] at h1 h2 h3 h6
    exact .inr ⟨b, off, cap, h1, h2, h3, h4, h5, fun i hi => by rw [h6 i hi, getD_map xs i hi]⟩
theorem ne_of_at {xs ys : List Int} {k : Nat} (h1 : k < xs.length) (h2 : k < ys.length) (h : (xs.getD k 0 != ys.getD k 0) = true) : xs ≠ ys := by
  rintro rfl; simp at h
theorem take_more {xs ys : List Int} {k : Nat} (h1 : k < xs.length) (h2 : k < ys.length) (h : (xs.getD k 0 != ys.getD k 0) = false) (ht : xs.take k = ys.take k) : xs.take (k + 1) = ys.take (k + 1) := by
  rw [List.take_succ_eq_append_getElem h1, List.take_succ_eq_append_getElem h2, ht]
  rw [bne_eq_false_iff_eq, List.getD_eq_getElem?_getD, List.getD_eq_getElem?_getD, List.getElem?_eq_getElem h1, List.getElem?_eq_getElem h2] at h
  simp only [Option.getD_some] at h
  rw [h]
def IntsRes (w : World) (q : Bool) (e : Ending) (w' : World) : Prop := e = .returned (.bool q) ∧ ∃ m, w' = w.drewN m
end Go.Proofs.YtgcchkjoggmdiaaDoor
/- Steps of a region that draws its order, taken one by one in the text's order. -/
namespace Go.Proofs.YtgcchkjoggmdiaaDoor
set_option linter.unusedVariables false
open Go.RowKit
theorem takeYes {P : Program} {md : Region.Mode} {ops : Array Oper} {Q : Exit → Act → World → Prop} {S : World → Prop} {i k : Nat} {oi : Oper} {v : Value} {fuel : Nat} {listed : Array Bool} {a : Act} {w : World} (ho : ops[i]? = some oi) (hd : oi.dst = some k)
    (hs : Region.noSelect ops = true) (hf : Region.free md ops listed i = true) (hr : (Region.ready md ops listed).contains i = true) (hQ : ∀ c a w, Q (.panic c) (a.put (some k) v) w → Q (.panic c) a w)
    (hw : Region.wanted oi (yielded ops a.tmps) = true) (hy : ∀ w, S w → (execOp a.eval oi).run P w = .ok (.value v) w) (hS : S w)
    (h : wpAnyH P md ops Q S fuel (listed.setIfInBounds i true) (a.put (some k) v) w) : wpAnyH P md ops Q S (fuel + 1) listed a w :=
  wpAnyH_take ho hs hf hr (by rw [hd]; exact hQ) (Or.inl ⟨hw, hy⟩) hS (by rw [hd]; exact h)
/-- an operation whose guard is shut, taken first. -/
theorem takeNot {P : Program} {md : Region.Mode} {ops : Array Oper} {Q : Exit → Act → World → Prop} {S : World → Prop} {i k : Nat} {fuel : Nat} {listed : Array Bool} {a : Act} {w : World} (hd : (ops[i]?).map Oper.dst = some (some k))
    (hs : Region.noSelect ops = true) (hf : Region.free md ops listed i = true) (hr : (Region.ready md ops listed).contains i = true) (hQ : ∀ c a w, Q (.panic c) (a.put (some k) undef) w → Q (.panic c) a w)
    (hw : (ops[i]?).map (fun o => Region.wanted o (yielded ops a.tmps)) = some false) (hS : S w)
    (h : wpAnyH P md ops Q S fuel (listed.setIfInBounds i true) (a.put (some k) undef) w) : wpAnyH P md ops Q S (fuel + 1) listed a w := by
  obtain ⟨o, ho, hdo⟩ := Option.map_eq_some_iff.1 hd
  obtain ⟨o', ho', hwo⟩ := Option.map_eq_some_iff.1 hw
  obtain rfl : o = o' := Option.some.inj (ho.symm.trans ho')
  exact wpAnyH_take ho hs hf hr (by rw [hdo]; exact hQ) (Or.inr ⟨hwo, rfl⟩) hS (by rw [hdo]; exact h)
end Go.Proofs.YtgcchkjoggmdiaaDoor
/- 'append(s, us...)' where s has no room ('s[:k:k]'): always a new row; a slice cut in two as slices that may be read. -/
namespace Go.Proofs.YtgcchkjoggmdiaaDoor
set_option linter.unusedVariables false
open Go.RowKit
theorem add_at (b off j : Nat) : (⟨b, off, none⟩ : Addr).add j = ⟨b, off + j, none⟩ := by unfold Addr.add; split <;> simp_all
theorem run_appF {P : Program} {t E bytes ty : Nat} {z : Value} (F : ElemOk P t E bytes z) {B : Nat} {w : World} {v : Value} {vs : List Value} (hv : RdV w v vs) {a : Option Addr} (hfull : v = .slice a vs.length vs.length) (hnil : a = none → vs = [])
    {src : Value} {us : List Value} (hs : RdV w src us) (h0 : us ≠ []) (hlen : (vs.length + us.length) * bytes ≤ 140737488355328) (hm : vs.length + us.length ≤ maxLen) (hB : B ≤ w.heap.size) :
    ∃ v' w', (Builtin.append_ #[t, t] ty #[v, src]).run P w = .ok v' w' ∧ OwnV E B w' v' (vs ++ us) ∧ Below w.heap.size w w' := by
  obtain ⟨f1, f2, f3⟩ := F
  obtain ⟨i0, hi, hz0, hz1, hz2⟩ := info_parts f2
  have hup := List.length_pos_iff.2 h0
  obtain ⟨b, off, cap, rfl, s2, s3, s4, s5, s6⟩ : ∃ b off cap, src = .slice (some ⟨b, off, none⟩) us.length cap ∧ 0 < us.length ∧ us.length ≤ cap ∧ cap ≤ maxLen ∧ b < w.heap.size ∧ ∀ i, i < us.length → w.cell? ⟨b, off + i, none⟩ = some (us.getD i undef) := by
    rcases hs with ⟨_, _, _, e⟩ | h
    · exact absurd e h0
    · exact h
  have hnews : ∀ j u, us[j]? = some u → w.cell? ((⟨b, off, none⟩ : Addr).add j) = some u := fun j u hj => by
    obtain ⟨hlt, hget⟩ := List.getElem?_eq_some_iff.1 hj
    rw [add_at, s6 j hlt, List.getD_eq_getElem?_getD, hj]; rfl
  have hmm : vs.length + us.length ≤ 9223372036854775807 := by simp only [maxLen] at hm; omega
  have grown : ∀ (need old : Nat), need = vs.length + us.length → OwnV E B (w.drew.alloc (.cells (vs.toArray ++ us.toArray ++ Builtin.zeroCells z.cells (grownCap w need old E - need)) E)) (.slice (some ⟨w.heap.size, 0, none⟩) need (grownCap w need old E)) (vs ++ us) ∧
      Below w.heap.size w (w.drew.alloc (.cells (vs.toArray ++ us.toArray ++ Builtin.zeroCells z.cells (grownCap w need old E - need)) E)) := by
    intro need old e
    have hge := grownCap_ge w need old E
    have hcm : grownCap w need old E ≤ maxLen := grownCap_le_maxLen w need old E (by omega)
    refine ⟨⟨(Nat.mul_one _).symm, .inr ⟨w.heap.size, grownCap w need old E, _, by rw [List.length_append, ← e], hB, heap_alloc_new w.drew _, by rw [List.length_append]; omega, hcm, ?_, ?_⟩⟩, (Below.refl _ w).drew.alloc (Nat.le_refl _) _⟩
    · simp only [Array.size_append, List.size_toArray, size_zeroCells, f3]; omega
    · simp only [Array.toList_append, Nat.mul_one]
      rw [List.take_left' rfl]
  cases a with
  | none =>
    obtain rfl := hnil rfl
    subst hfull
    have hr := run_append_nil (P := P) w t ty E i0 z f1 hi hz0 ⟨b, off, none⟩ us.length cap us (by rw [hz1, Nat.mul_one]) hnews (by omega) (by omega) (by rw [hz2]; simp only [List.length_nil, Nat.zero_add] at hlen; omega)
    obtain ⟨g1, g2⟩ := grown us.length 0 (by simp)
    refine ⟨_, _, hr, ?_, ?_⟩
    · simpa using g1
    · simpa using g2
  | some ad =>
    subst hfull
    have hold : ∀ j u, vs[j]? = some u → w.cell? (ad.add j) = some u := fun j u hj => by
      obtain ⟨hlt, hget⟩ := List.getElem?_eq_some_iff.1 hj
      rcases hv with ⟨_, _, _, e⟩ | ⟨b', off', cap', e1, _, _, _, _, e6⟩
      · subst e; simp at hlt
      · simp only [Value.slice.injEq, Option.some.injEq] at e1
        obtain ⟨rfl, -⟩ := e1
        rw [add_at, e6 j hlt, List.getD_eq_getElem?_getD, hj]; rfl
    have hr := run_append_grow (P := P) w t ty E i0 z f1 hi hz0 ad vs.length vs.length vs (by rw [hz1, Nat.mul_one]) hold ⟨b, off, none⟩ us.length cap us (by rw [hz1, Nat.mul_one]) hnews (by omega) (by omega) (by rw [hz2]; exact growslice_fits (by omega) hlen)
    obtain ⟨g1, g2⟩ := grown (vs.length + us.length) vs.length rfl
    exact ⟨_, _, hr, g1, g2⟩
/-- the first k of a slice of the call's own, as 's[:k:k]' tells them. -/
theorem OwnV.front {E B : Nat} {w : World} {a : Option Addr} {n cap : Nat} {vs : List Value} (h : OwnV E B w (.slice a n cap) vs) (k : Nat) (hk : k ≤ n) :
    RdV w (.slice a k k) (vs.take k) ∧ (vs.take k).length = k ∧ (a = none → vs.take k = []) := by
  have hn : n = vs.length := by
    rcases h.rd with ⟨_, _, e, rfl⟩ | ⟨_, _, _, e, _⟩ <;> simp only [Value.slice.injEq] at e <;> exact e.2.1
  have hl : (vs.take k).length = k := by rw [List.length_take]; omega
  rcases Nat.eq_zero_or_pos k with h0 | h0
  · subst h0; exact ⟨.inl ⟨a, 0, rfl, by simp⟩, hl, fun _ => by simp⟩
  · rcases h.rd with ⟨_, _, e, rfl⟩ | ⟨b, off, c, e, h1, h2, h3, h4, h5⟩
    · simp at hn; omega
    · simp only [Value.slice.injEq] at e
      obtain ⟨rfl, rfl, rfl⟩ := e
      refine ⟨.inr ⟨b, off, k, by rw [hl], by omega, by omega, by omega, h4, fun i hi => ?_⟩, hl, fun h => by cases h⟩
      rw [hl] at hi
      rw [h5 i (by omega), List.getD_eq_getElem?_getD, List.getD_eq_getElem?_getD, List.getElem?_take_of_lt hi]
/-- what is behind the first k, as 's[k:]' tells it. -/
theorem OwnV.rest {E B : Nat} {w : World} {a : Option Addr} {n cap : Nat} {vs : List Value} (h : OwnV E B w (.slice a n cap) vs) (k : Nat) (hk : k ≤ n) :
    RdV w (.slice (if cap = k then a else a.map (·.add k)) (n - k) (cap - k)) (vs.drop k) := by
  have hn : n = vs.length := by
    rcases h.rd with ⟨_, _, e, rfl⟩ | ⟨_, _, _, e, _⟩ <;> simp only [Value.slice.injEq] at e <;> exact e.2.1
  rcases Nat.lt_or_ge k n with h0 | h0
  · rcases h.rd with ⟨_, _, e, rfl⟩ | ⟨b, off, c, e, h1, h2, h3, h4, h5⟩
    · simp at hn; omega
    · simp only [Value.slice.injEq] at e
      obtain ⟨rfl, -, rfl⟩ := e
      rw [if_neg (by omega)]
      refine .inr ⟨b, off + k, cap - k, ?_, by rw [List.length_drop]; omega, by rw [List.length_drop]; omega, by omega, h4, fun i hi => ?_⟩
      · rw [List.length_drop, ← hn]; simp [add_at]
      · rw [List.length_drop] at hi
        rw [Nat.add_assoc, h5 (k + i) (by omega), List.getD_eq_getElem?_getD, List.getD_eq_getElem?_getD, List.getElem?_drop]
  · obtain rfl : k = n := by omega
    rw [Nat.sub_self]
    exact .inl ⟨_, _, rfl, List.drop_of_length_le (by omega)⟩
/-- 'append' as one step of a region, by what it gives. -/
theorem step_app {P : Program} {ops : Array Oper} {o : Oper} {a : Act} {w : World} {K : Act → World → Prop} {Q : Exit → Act → World → Prop} {E : Prop} (hw : Region.wanted o (yielded ops a.tmps) = true)
    (s x : Operand) (t : TypeId) (ho : o.op = Op.call { callee := Callee.builtin Builtin.append, args := #[s, x], argTypes := #[t, t] }) {v src v' : Value} {w' : World} (hs : a.eval s = v) (hx : a.eval x = src)
    (hr : (Builtin.append_ #[t, t] o.type #[v, src]).run P w = .ok v' w') (hK : K (a.put o.dst v') w') : if Region.wanted o (yielded ops a.tmps) = true then Oper.wp P o a w K Q else E := by
  rw [if_pos hw]
  unfold Oper.wp execOp
  simp only [ho, resolve, invoke, builtin, Sem.run_bind, Sem.run_pure, Result.andThen_ok, List.map_toArray, List.map_cons, List.map_nil, hs, hx, hr]
  exact hK
theorem getD_strs (ls : List ByteArray) (k : Nat) (hk : k < ls.length) : (ls.map Value.string).getD k undef = .string (ls.getD k ByteArray.empty) := by
  rw [List.getD_eq_getElem?_getD, List.getD_eq_getElem?_getD, List.getElem?_map, List.getElem?_eq_getElem hk]; rfl
/-- A slice of strings that came in, read as a list. -/
theorem rd_opens {w : World} {x : Addr} {len cap : Nat} {ss : List ByteArray} (hl : len ≤ cap) (hm : cap ≤ maxLen) (hz : ss.length = cap) (hc : ∀ i, i < ss.length → w.cell? (x.add i) = some (.string (ss.getD i ByteArray.empty))) :
    RdV w (.slice (some x) len cap) ((ss.take len).map Value.string) := by
  rcases Nat.eq_zero_or_pos len with h0 | h0
  · subst h0; exact .inl ⟨_, cap, rfl, by simp⟩
  · obtain ⟨b, off, spot⟩ := x
    have hspot : spot = none := by simpa [Addr.add] using World.cell?_spot (hc 0 (by omega))
    subst hspot
    have hlen : ((ss.take len).map Value.string).length = len := by rw [List.length_map, List.length_take]; omega
    refine .inr ⟨b, off, cap, by rw [hlen], by omega, by omega, hm, ?_, fun i hi => ?_⟩
    · have := hc 0 (by omega)
      rw [add_at] at this
      exact World.block_lt_of_cell? w _ this
    · rw [hlen] at hi
      have := hc i (by omega)
      rw [add_at] at this
      rw [this, getD_strs _ i (by rw [List.length_take]; omega)]
      rw [List.getD_eq_getElem?_getD, List.getD_eq_getElem?_getD, List.getElem?_take_of_lt hi]
end Go.Proofs.YtgcchkjoggmdiaaDoor
