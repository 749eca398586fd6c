/- Plain facts on bytes, bits of int, strings as lists and endings; no program is named here. -/
import Derived.Test.YtgdmmhdihgajkaaRows
import Derived.Lib.Strings
import Derived.Lib.Hide
import Derived.Laws.BitsAllLaws
import Derived.WalkKit
import Derived.WalkSpells
import Derived.WalkLawsBesides
import Derived.Sort.Walk0
import Derived.OwnWalk
import Derived.Deep.QuietTactic
import Derived.Laws.AppendOwn
import Derived.Laws.AppendOwnNone
import Derived.ProofKit
import Derived.OpenShut
import Derived.ShutString
import Derived.ChangeOld
import Derived.Below
import Derived.Deep.RegionHeld3
import Derived.Laws.BytesArg
import Derived.Lib.ConvBytes
import Derived.Lib.AppendStr
import Derived.Lib.Bytealg
import Derived.RegionTactic
import Derived.BigQuiet
import Derived.Shelf.Strconv.Clone
import Derived.Lib.AppendZeros
import Derived.Deep.LoopGhost
namespace Go.Proofs.Ytgdmmhdihgajkaa
set_option linter.unusedVariables false
open Go.RowKit

theorem byte_bd (b : UInt8) : 0 ≤ (b.toNat : Int) ∧ (b.toNat : Int) < 256 := by have := b.toNat_lt; omega
theorem byte_nat (b : UInt8) : b.toNat < 256 := b.toNat_lt
theorem byte_of (n : Nat) (h : n < 256) : (UInt8.ofNat n).toNat = n := by rw [UInt8.toNat_ofNat']; exact Nat.mod_eq_of_lt h
theorem byte_ext {a b : UInt8} (h : (a.toNat : Int) = b.toNat) : a = b := UInt8.toNat_inj.1 (by omega)

theorem i64_small (n : Nat) (h : n < 9223372036854775808) : IntKind.i64.wrap (n : Int) = (n : Int) := by
  rw [IntKind.wrap_i64]; omega
theorem or_i64_nat (a b : Nat) (ha : a < 9223372036854775808) (hb : b < 9223372036854775808) : bits .or .i64 (a : Int) (b : Int) = ((a ||| b : Nat) : Int) := by
  have hx : a ||| b < 2 ^ 63 := Nat.or_lt_two_pow (by omega) (by omega)
  show IntKind.i64.wrap ((BitVec.ofInt 64 (a : Int) ||| BitVec.ofInt 64 (b : Int)).toNat : Int) = _
  rw [BitVec.toNat_or, ofInt_u64 a (by omega), ofInt_u64 b (by omega)]
  exact i64_small _ (by omega)
theorem and_i64_nat (a b : Nat) (ha : a < 9223372036854775808) (hb : b < 9223372036854775808) : bits .and .i64 (a : Int) (b : Int) = ((a &&& b : Nat) : Int) := by
  have hx : a &&& b < 2 ^ 63 := Nat.and_lt_two_pow _ (by omega)
  show IntKind.i64.wrap ((BitVec.ofInt 64 (a : Int) &&& BitVec.ofInt 64 (b : Int)).toNat : Int) = _
  rw [BitVec.toNat_and, ofInt_u64 a (by omega), ofInt_u64 b (by omega)]
  exact i64_small _ (by omega)

/-- 'c << 6 | y', y below 64: a sum. -/
theorem or6 (x y : Int) (h0 : 0 ≤ x) (h1 : x < 1000000000) (h2 : 0 ≤ y) (h3 : y < 64) : bits .or .i64 (x * 64) y = x * 64 + y := by
  obtain ⟨X, rfl⟩ := Int.eq_ofNat_of_zero_le h0
  obtain ⟨Y, rfl⟩ := Int.eq_ofNat_of_zero_le h2
  have e : ((X : Int) * 64) = ((X * 64 : Nat) : Int) := by omega
  rw [e, or_i64_nat _ _ (by omega) (by omega), nat_join 6 (X * 64) Y (by omega) (by omega)]
  omega
theorem and192 : ∀ n : Fin 256, bits .and .u8 (n.val : Int) 192 = (n.val / 64 * 64 : Nat) := by decide +kernel
theorem and63 : ∀ n : Fin 256, bits .and .u8 (n.val : Int) 63 = (n.val % 64 : Nat) := by decide +kernel
theorem byte_and192 (b : UInt8) : bits .and .u8 (b.toNat : Int) 192 = (b.toNat / 64 * 64 : Nat) := and192 ⟨b.toNat, b.toNat_lt⟩
theorem byte_and63 (b : UInt8) : bits .and .u8 (b.toNat : Int) 63 = (b.toNat % 64 : Nat) := and63 ⟨b.toNat, b.toNat_lt⟩
theorem wrap64_nat (n : Nat) (h : n < 4294967296) : wrap64 (n : Int) = n := IntWalk.wrap64_in _ (by omega)

theorem size_toList (s : ByteArray) : s.data.toList.length = s.size := by rw [Array.length_toList]; rfl
theorem toList_nil {s : ByteArray} (h : ¬ 0 < s.size) : s.data.toList = [] := List.eq_nil_of_length_eq_zero (by rw [size_toList]; omega)
theorem isEmpty_no {s : ByteArray} (h : 0 < s.size) : s.toList.isEmpty = false := by
  rw [Lib.toList_data]
  cases e : s.data.toList with
  | nil => have := size_toList s; rw [e] at this; rw [← this] at h; exact absurd h (Nat.lt_irrefl 0)
  | cons => rfl
theorem isEmpty_yes {s : ByteArray} (h : ¬ 0 < s.size) : s.toList.isEmpty = true := by
  rw [Lib.toList_data, toList_nil h]; rfl
theorem at_toList (s : ByteArray) (k : Nat) (h : k < s.size) : s.data.toList[k]'(by rw [size_toList]; exact h) = s[k] := rfl
theorem drop_cons (s : ByteArray) (k : Nat) (h : k < s.size) : s.data.toList.drop k = s[k] :: s.data.toList.drop (k + 1) := by
  rw [List.drop_eq_getElem_cons (by rw [size_toList]; exact h)]; rfl

theorem ret_bool {a b : Bool} (h : b = a) : Ending.returned (.bool a) = .returned (.bool b) := by rw [h]
theorem ret_int {k : IntKind} {a b : Int} (h : a = b) : Ending.returned (.int k a) = .returned (.int k b) := by rw [h]
theorem ret2_int {a b c d : Int} (h : a = c) (h2 : b = d) : Ending.returned (.tuple #[.int .i64 a, .int .i64 b]) = .returned (.tuple #[.int .i64 c, .int .i64 d]) := by rw [h, h2]
end Go.Proofs.Ytgdmmhdihgajkaa
/- Texts ordered by bytes: what the walk spells, as an order of byte arrays. -/
namespace Go.Proofs.Ytgdmmhdihgajkaa
set_option linter.unusedVariables false
open Go.RowKit
theorem less_eq (a b : ByteArray) : Op.bytesLess a.toList b.toList = decide (a.data.toList < b.data.toList) := by rw [bytesLess_eq, Lib.toList_data, Lib.toList_data]
def bl (a b : ByteArray) : Prop := a.data.toList < b.data.toList
theorem bl_trans {a b c : ByteArray} (h : bl a b) (k : bl b c) : bl a c := List.lt_trans h k
theorem bl_tri (a b : ByteArray) : bl a b ∨ a = b ∨ bl b a := by
  by_cases h : a.data.toList < b.data.toList
  · exact .inl h
  · by_cases h2 : b.data.toList < a.data.toList
    · exact .inr (.inr h2)
    · refine .inr (.inl ?_)
      have := List.le_antisymm (List.not_lt.1 h2) (List.not_lt.1 h)
      exact ByteArray.ext (Array.toList_inj.1 this)
theorem bs_less (a b : ByteArray) (h : bl a b) : Op.bytesLess a.toList b.toList = true := by rw [less_eq]; exact decide_eq_true h
theorem bs_not (a b : ByteArray) (h : ¬ bl a b) : Op.bytesLess a.toList b.toList = false := by rw [less_eq]; exact decide_eq_false h
theorem bl_irr (a : ByteArray) : ¬ bl a a := List.lt_irrefl _
theorem bs_eq (a b : ByteArray) : (a.toList == b.toList) = decide (a = b) := by
  rw [Lib.toList_data, Lib.toList_data, Bool.eq_iff_iff, beq_iff_eq, decide_eq_true_eq]
  constructor
  · intro h; exact ByteArray.ext (Array.toList_inj.1 h)
  · rintro rfl; rfl
theorem bs_ne {a b : ByteArray} (h : a ≠ b) : (a.toList == b.toList) = false := by rw [bs_eq]; exact decide_eq_false h
theorem bs_refl (a : ByteArray) : (a.toList == a.toList) = true := by simp
instance (a b : ByteArray) : Decidable (bl a b) := inferInstanceAs (Decidable (a.data.toList < b.data.toList))
end Go.Proofs.Ytgdmmhdihgajkaa
/- Slices of one-cell values: what a slice that may be read says of the world, what a slice of the call's own says, and append's law in these words. -/
namespace Go.Proofs.Ytgdmmhdihgajkaa
set_option linter.unusedVariables false
open Go.RowKit

/-- v is a slice of the call's own (blocks from B on) that holds vs. -/
def OwnV (E B : Nat) (w : World) (v : Value) (vs : List Value) : Prop := w.ownsRow B E 1 v vs.length vs
/-- v is a slice that reads as vs. -/
def RdV (w : World) (v : Value) (vs : List Value) : Prop :=
  (∃ a cap, v = .slice a 0 cap ∧ vs = []) ∨
  ∃ b off cap, v = .slice (some ⟨b, off, none⟩) vs.length cap ∧ 0 < vs.length ∧ vs.length ≤ cap ∧ cap ≤ maxLen ∧ b < w.heap.size ∧ ∀ i, i < vs.length → w.cell? ⟨b, off + i, none⟩ = some (vs.getD i undef)

theorem RdV.below {w w' : World} {v : Value} {vs : List Value} (h : RdV w v vs) (hb : Below w.heap.size w w') : RdV w' v vs := by
  rcases h with h | ⟨b, off, cap, h1, h2, h3, h4, h5, h6⟩
  · exact .inl h
  · exact .inr ⟨b, off, cap, h1, h2, h3, h4, Nat.lt_of_lt_of_le h5 hb.size, fun i hi => by rw [hb.cell h5]; exact h6 i hi⟩
theorem RdV.nil (w : World) (a : Option Addr) (cap : Nat) : RdV w (.slice a 0 cap) [] := .inl ⟨a, cap, rfl, rfl⟩

theorem OwnV.nil (E B : Nat) (w : World) : OwnV E B w (.slice none 0 0) [] := World.ownsRow_nil w B E 1
theorem OwnV.below {E B : Nat} {w w' : World} {v : Value} {vs : List Value} (h : OwnV E B w v vs) (hb : Below w.heap.size w w') : OwnV E B w' v vs := by
  obtain ⟨h1, h2⟩ := h
  refine ⟨h1, ?_⟩
  rcases h2 with h2 | ⟨g, cap, cur, e1, e2, e3, e4⟩
  · exact .inl h2
  · refine .inr ⟨g, cap, cur, e1, e2, ?_, e4⟩
    have hg : g < w.heap.size := by
      rcases Nat.lt_or_ge g w.heap.size with h | h
      · exact h
      · rw [Array.getElem?_eq_none h] at e3; cases e3
    rw [hb.block g hg]; exact e3
theorem OwnV.drew {E B : Nat} {w : World} {v : Value} {vs : List Value} (h : OwnV E B w v vs) : OwnV E B w.drew v vs := h
theorem OwnV.base {E B B' : Nat} {w : World} {v : Value} {vs : List Value} (h : OwnV E B w v vs) (hB : B' ≤ B) : OwnV E B' w v vs := by
  obtain ⟨h1, h2⟩ := h
  refine ⟨h1, ?_⟩
  rcases h2 with h2 | ⟨g, cap, cur, e1, e2, e3⟩
  · exact .inl h2
  · exact .inr ⟨g, cap, cur, e1, Nat.le_trans hB e2, e3⟩
theorem OwnV.rd {E B : Nat} {w : World} {v : Value} {vs : List Value} (h : OwnV E B w v vs) : RdV w v vs := by
  obtain ⟨h1, h2⟩ := h
  rcases h2 with ⟨e1, e2⟩ | ⟨g, cap, cur, e1, e2, e3, e4, e5, e6, e7⟩
  · exact .inl ⟨none, 0, by rw [e1], List.eq_nil_of_length_eq_zero e2⟩
  · rcases Nat.eq_zero_or_pos vs.length with h0 | h0
    · exact .inl ⟨_, cap, by rw [e1, h0], List.eq_nil_of_length_eq_zero h0⟩
    · have hg : g < w.heap.size := by
        rcases Nat.lt_or_ge g w.heap.size with h | h
        · exact h
        · rw [Array.getElem?_eq_none h] at e3; cases e3
      refine .inr ⟨g, 0, cap, e1, h0, e4, e5, hg, fun i hi => ?_⟩
      have hc : cur[i]? = some (vs.getD i undef) := by
        have h7 : cur.toList[i]? = vs[i]? := by
          conv => rhs; rw [← e7]
          rw [List.getElem?_take, if_pos (by omega)]
        rw [Array.getElem?_toList] at h7
        rw [h7, List.getD_eq_getElem?_getD, List.getElem?_eq_getElem hi]; rfl
      unfold World.cell?
      simp only [e3, Nat.zero_add, Option.isSome_none, Bool.false_eq_true, if_false]
      exact hc
theorem OwnV.nilOr {E B : Nat} {w : World} {v : Value} {vs : List Value} (h : OwnV E B w v vs) : (v = .slice none 0 0 ∧ vs = []) ∨ ∃ g cap, v = .slice (some ⟨g, 0, none⟩) vs.length cap ∧ B ≤ g ∧ g < w.heap.size ∧ vs.length ≤ cap ∧ cap ≤ maxLen := by
  obtain ⟨h1, h2⟩ := h
  rcases h2 with ⟨e1, e2⟩ | ⟨g, cap, cur, e1, e2, e3, e4, e5, e6, e7⟩
  · exact .inl ⟨e1, List.eq_nil_of_length_eq_zero e2⟩
  · refine .inr ⟨g, cap, e1, e2, ?_, e4, e5⟩
    rcases Nat.lt_or_ge g w.heap.size with h | h
    · exact h
    · rw [Array.getElem?_eq_none h] at e3; cases e3

/-- What the walk is told of an element type: its number, the slice type's, the zero, the bytes. -/
def ElemOk (P : Program) (t E bytes : Nat) (z : Value) : Prop := P.underlying t = some (.slice E) ∧ (P.info? E).map (fun i => (i.zero, i.size, i.bytes)) = some (some z, 1, bytes) ∧ z.cells.size = 1

theorem elem_int : ElemOk Try.prog 40 3 8 (.int .i64 0) := ⟨Try.underlying40, by kernel_rfl, rfl⟩
/-- 'append(s, news..)' onto a slice of the call's own; the news lie in a block that was just laid. -/
theorem wp_app {P : Program} {ops : Array Oper} {rest : List Oper} {o : Oper} {a : Act} {Q : Exit → Act → World → Prop} {t E bytes : Nat} {z : Value} (F : ElemOk P t E bytes z)
    (s x : Operand) (ho : o.op = .call { callee := .builtin .append, args := #[s, x], argTypes := #[t, t] }) (hgd : o.guard = none)
    {B : Nat} {w : World} {v : Value} {vs : List Value} (hs : a.eval s = v) (hown : OwnV E B w v vs) (news : List Value) (n : Nat) (hn : news.length = n) (hx : a.eval x = .slice (some ⟨w.heap.size, 0, none⟩) n n)
    (h1 : ∀ u ∈ news, u.oneCell' = true) (hlen : (vs.length + news.length) * bytes ≤ 140737488355328) (hm : vs.length + news.length ≤ maxLen) (hB : B ≤ w.heap.size) (h0 : 0 < n)
    (h : ∀ v' w', OwnV E B w' v' (vs ++ news) → Below B w w' → v' ≠ .slice none 0 0 → wpList P ops Q rest (a.put o.dst v') w') : wpList P ops Q (o :: rest) a (w.alloc (.cells news.toArray E)) := by
  obtain ⟨f1, f2, f3⟩ := F
  obtain ⟨i0, hi, hz0, hz1, hz2⟩ := info_parts f2
  have hown2 : (w.alloc (.cells news.toArray E)).ownsRow B E 1 v vs.length vs := World.ownsRow.alloc hown _
  refine wpList_append_own _ hgd s x t ho B E i0 z 1 bytes f1 hi hz0 hz1 hz2 f3 (by decide) v vs.length vs hs hown2 ⟨w.heap.size, 0, none⟩ n n news hx (by omega) ?_ h1 (by omega) (by subst hn; exact hlen) (by simp; omega) ?_
  · intro j u hj
    have e : (⟨w.heap.size, 0, none⟩ : Addr).add j = ⟨w.heap.size, j, none⟩ := by unfold Addr.add; split <;> simp_all
    rw [e]
    unfold World.cell?
    rw [heap_alloc_new]
    simpa using hj
  · intro v' w' g1 g2 g3
    refine h v' w' ?_ ?_ ?_
    · unfold OwnV; rw [List.length_append, hn]; exact g1
    · refine ((Below.refl B w).alloc hB _).grown g2 (by simp; omega) fun k hk => ?_
      exact (World.ownsRow.lt hown k hk).1
    · intro e; have := (g3.1 e).2; omega
/-- w' is w behind some draws. -/
def DrN (w w' : World) : Prop := ∃ m, w' = w.drewN m
theorem DrN.refl (w : World) : DrN w w := ⟨0, rfl⟩
theorem DrN.more {w w' : World} (h : DrN w w') (n : Nat) : DrN w (w'.drewN n) := by obtain ⟨m, rfl⟩ := h; exact ⟨m + n, by rw [World.drewN_drewN]⟩
theorem DrN.cell {w w' : World} (h : DrN w w') (a : Addr) : w'.cell? a = w.cell? a := by obtain ⟨m, rfl⟩ := h; rfl
theorem DrN.below {w w' : World} (h : DrN w w') (B : Nat) : Below B w w' := by obtain ⟨m, rfl⟩ := h; exact ⟨rfl, rfl, rfl, Nat.le_refl _, fun _ _ => rfl⟩
theorem DrN.trans {w w' w'' : World} (h : DrN w w') (k : DrN w' w'') : DrN w w'' := by obtain ⟨m, rfl⟩ := k; exact h.more m
end Go.Proofs.Ytgdmmhdihgajkaa
/- 'append(s, us...)' onto a slice of the call's own, from whatever slice that may be read: nil, empty or not; guarded or not. -/
namespace Go.Proofs.Ytgdmmhdihgajkaa
set_option linter.unusedVariables false
open Go.RowKit
theorem run_app_nil {P : Program} {t ty E : Nat} {i : TypeInfo} (ht : P.underlying t = some (.slice E)) (hi : P.info? E = some i) {B : Nat} {w : World} {v : Value} {vs : List Value} (h : OwnV E B w v vs) (c : Nat) :
    (Builtin.append_ #[t, t] ty #[v, .slice none 0 c]).run P w = .ok v w := by
  rcases h.nilOr with ⟨rfl, -⟩ | ⟨g, cap, rfl, -, -, hc, -⟩
  · simp [Builtin.append_, run_underlying ht, sizeOf, typeInfo, hi, Builtin.lenOf, Builtin.firstCells]
  · simp [Builtin.append_, run_underlying ht, sizeOf, typeInfo, hi, Builtin.lenOf, Builtin.firstCells, hc, storeCells]
theorem run_appS {P : Program} {t E bytes ty : Nat} {z : Value} (F : ElemOk P t E bytes z) {B : Nat} {w : World} {v : Value} {vs : List Value} (hown : OwnV E B w v vs) {src : Value} {us : List Value} (hs : RdV w src us)
    (h1 : ∀ u ∈ us, u.oneCell' = true) (hlen : (vs.length + us.length) * bytes ≤ 140737488355328) (hm : vs.length + us.length ≤ maxLen) (hB : B ≤ w.heap.size) :
    ∃ v' w', (Builtin.append_ #[t, t] ty #[v, src]).run P w = .ok v' w' ∧ OwnV E B w' v' (vs ++ us) ∧ Below B w w' := by
  obtain ⟨f1, f2, f3⟩ := F
  obtain ⟨i0, hi, hz0, hz1, hz2⟩ := info_parts f2
  have hsome : ∀ (ad : Addr) (m c : Nat), m = us.length → (∀ j u, us[j]? = some u → w.cell? (ad.add j) = some u) →
      ∃ v' w', (Builtin.append_ #[t, t] ty #[v, .slice (some ad) m c]).run P w = .ok v' w' ∧ OwnV E B w' v' (vs ++ us) ∧ Below B w w' := by
    intro ad m c e hc
    obtain ⟨v', w', g0, g1, g2, -⟩ := run_append_own w B t ty E i0 z 1 bytes f1 hi hz0 hz1 hz2 f3 (by decide) v vs.length vs hown ad m c us (by omega) hc h1 (by omega) (by subst e; exact hlen) hB
    refine ⟨v', w', g0, ?_, ?_⟩
    · unfold OwnV; rw [List.length_append, ← e]; exact g1
    · exact (Below.refl B w).grown g2 hB fun k hk => (World.ownsRow.lt hown k hk).1
  rcases hs with ⟨a, cap, rfl, rfl⟩ | ⟨b, off, cap, rfl, h2, h3, h4, h5, h6⟩
  · cases a with
    | none => exact ⟨v, w, run_app_nil f1 hi hown cap, by rw [List.append_nil]; exact hown, Below.refl _ _⟩
    | some ad => exact hsome ad 0 cap rfl (fun j u h => by simp at h)
  · refine hsome ⟨b, off, none⟩ us.length cap rfl fun j u hj => ?_
    have e : (⟨b, off, none⟩ : Addr).add j = ⟨b, off + j, none⟩ := by unfold Addr.add; split <;> simp_all
    obtain ⟨hlt, hget⟩ := List.getElem?_eq_some_iff.1 hj
    rw [e, h6 j hlt, List.getD_eq_getElem?_getD, hj]; rfl
theorem wp_appS {P : Program} {ops : Array Oper} {rest : List Oper} {o : Oper} {a : Act} {w : World} {Q : Exit → Act → World → Prop} {t E bytes : Nat} {z : Value} (F : ElemOk P t E bytes z)
    (s x : Operand) (ho : o.op = .call { callee := .builtin .append, args := #[s, x], argTypes := #[t, t] }) (hw : Region.wanted o (yielded ops a.tmps) = true)
    {B : Nat} {v : Value} {vs : List Value} (hs : a.eval s = v) (hown : OwnV E B w v vs) {src : Value} {us : List Value} (hx : a.eval x = src) (hrd : RdV w src us)
    (h1 : ∀ u ∈ us, u.oneCell' = true) (hlen : (vs.length + us.length) * bytes ≤ 140737488355328) (hm : vs.length + us.length ≤ maxLen) (hB : B ≤ w.heap.size)
    (h : ∀ v' w', OwnV E B w' v' (vs ++ us) → Below B w w' → wpList P ops Q rest (a.put o.dst v') w') : wpList P ops Q (o :: rest) a w := by
  refine wpList_step fun K hK => ?_
  rw [if_pos hw]
  obtain ⟨v', w', hr, h2, h3⟩ := run_appS (ty := o.type) F hown hrd h1 hlen hm hB
  unfold Oper.wp execOp
  simp only [ho, resolve, invoke, builtin, Sem.run_bind, Sem.run_pure, Result.andThen_ok, List.map_toArray, List.map_cons, List.map_nil, hs, hx, hr]
  exact hK _ _ (h v' w' h2 h3)
/-- 'append(s, news..)', the news in a block that was just laid; H: that block's number as the walk spells it; guarded or not. -/
theorem wp_appH {P : Program} {ops : Array Oper} {rest : List Oper} {o : Oper} {a : Act} {w : World} {Q : Exit → Act → World → Prop} {t E bytes : Nat} {z : Value} (F : ElemOk P t E bytes z)
    (s x : Operand) (ho : o.op = .call { callee := .builtin .append, args := #[s, x], argTypes := #[t, t] }) (hw : Region.wanted o (yielded ops a.tmps) = true)
    {B : Nat} {v : Value} {vs : List Value} (hs : a.eval s = v) (hown : OwnV E B w v vs) (news : List Value) (n H : Nat) (hn : news.length = n) (hx : a.eval x = .slice (some ⟨H, 0, none⟩) n n)
    (hH : w.heap.size = H) (h0 : 0 < n) (h1 : ∀ u ∈ news, u.oneCell' = true) (hlen : (vs.length + n) * bytes ≤ 140737488355328) (hm : vs.length + n ≤ maxLen) (hB : B ≤ w.heap.size)
    (h : ∀ v' w', OwnV E B w' v' (vs ++ news) → Below B w w' → wpList P ops Q rest (a.put o.dst v') w') : wpList P ops Q (o :: rest) a (w.alloc (.cells news.toArray E)) := by
  subst hH hn
  refine wp_appS F s x ho hw hs (OwnV.below hown ((Below.refl _ w).alloc (Nat.le_refl _) (.cells news.toArray E))) hx ?_ h1 hlen hm (by simp; omega) fun v' w' g1 g2 => h v' w' g1 (((Below.refl B w).alloc hB _).trans g2)
  refine .inr ⟨w.heap.size, 0, news.length, rfl, h0, Nat.le_refl _, by omega, by simp, fun i hi => ?_⟩
  unfold World.cell?
  rw [heap_alloc_new]
  rw [List.getD_eq_getElem?_getD, List.getElem?_eq_getElem hi]
  simp [List.getElem?_eq_getElem hi]
end Go.Proofs.Ytgdmmhdihgajkaa
/- What every law's frame needs: the program's closed facts, and a slice of integers that came in read as a list. -/
namespace Go.Proofs.Ytgdmmhdihgajkaa
open Go.ChangeShapes Go.WideShapes Go.ChangeAt Go.RowKit
theorem own : ownKnob Try.prog.godebug = none := by kernel_rfl
theorem laidOut : laidOutB Try.prog = true := by kernel_rfl
theorem rd_open {k : IntKind} {w : World} {x : Addr} {len cap : Nat} {zs : List Int} (hl : len ≤ cap) (hm : cap ≤ maxLen) (hz : zs.length = cap) (hc : ∀ i, i < zs.length → w.cell? (x.add i) = some (.int k (zs.getD i 0))) :
    RdV w (.slice (some x) len cap) ((zs.take len).map (Value.int k)) := by
  rcases Nat.eq_zero_or_pos len with h0 | h0
  · subst h0; exact .inl ⟨_, cap, rfl, by simp⟩
  · obtain ⟨b, off, rfl, hcc⟩ := ints_at hc (by omega)
    have hlen : ((zs.take len).map (Value.int k)).length = len := by rw [List.length_map, List.length_take]; omega
    refine .inr ⟨b, off, cap, by rw [hlen], by omega, by omega, hm, ?_, fun i hi => ?_⟩
    · exact World.block_lt_of_cell? w _ (hcc 0 (by omega))
    · rw [hlen] at hi
      rw [hcc i (by omega)]
      rw [List.getD_eq_getElem?_getD, List.getD_eq_getElem?_getD, List.getElem?_map, List.getElem?_take, if_pos hi, List.getElem?_eq_getElem (by omega)]
      rfl
theorem wf_take {k : IntKind} {zs : List Int} {len : Nat} (h : ∀ n ∈ zs, (Lit.int k n).wf = true) : ∀ n ∈ zs.take len, (Lit.int k n).wf = true := fun n hn => h n (List.mem_of_mem_take hn)
end Go.Proofs.Ytgdmmhdihgajkaa
/- Steps of a region that draws its order, taken one by one in the text's order. -/
namespace Go.Proofs.Ytgdmmhdihgajkaa
set_option linter.unusedVariables false
open Go.RowKit
theorem takeYes {P : Program} {md : Region.Mode} {ops : Array Oper} {Q : Exit → Act → World → Prop} {S : World → Prop} {i k : Nat} {oi : Oper} {v : Value} {fuel : Nat} {listed : Array Bool} {a : Act} {w : World} (ho : ops[i]? = some oi) (hd : oi.dst = some k)
    (hs : Region.noSelect ops = true) (hf : Region.free md ops listed i = true) (hr : (Region.ready md ops listed).contains i = true) (hQ : ∀ c a w, Q (.panic c) (a.put (some k) v) w → Q (.panic c) a w)
    (hw : Region.wanted oi (yielded ops a.tmps) = true) (hy : ∀ w, S w → (execOp a.eval oi).run P w = .ok (.value v) w) (hS : S w)
    (h : wpAnyH P md ops Q S fuel (listed.setIfInBounds i true) (a.put (some k) v) w) : wpAnyH P md ops Q S (fuel + 1) listed a w :=
  wpAnyH_take ho hs hf hr (by rw [hd]; exact hQ) (Or.inl ⟨hw, hy⟩) hS (by rw [hd]; exact h)
/-- an operation whose guard is shut, taken first. -/
theorem takeNot {P : Program} {md : Region.Mode} {ops : Array Oper} {Q : Exit → Act → World → Prop} {S : World → Prop} {i k : Nat} {fuel : Nat} {listed : Array Bool} {a : Act} {w : World} (hd : (ops[i]?).map Oper.dst = some (some k))
    (hs : Region.noSelect ops = true) (hf : Region.free md ops listed i = true) (hr : (Region.ready md ops listed).contains i = true) (hQ : ∀ c a w, Q (.panic c) (a.put (some k) undef) w → Q (.panic c) a w)
    (hw : (ops[i]?).map (fun o => Region.wanted o (yielded ops a.tmps)) = some false) (hS : S w)
    (h : wpAnyH P md ops Q S fuel (listed.setIfInBounds i true) (a.put (some k) undef) w) : wpAnyH P md ops Q S (fuel + 1) listed a w := by
  obtain ⟨o, ho, hdo⟩ := Option.map_eq_some_iff.1 hd
  obtain ⟨o', ho', hwo⟩ := Option.map_eq_some_iff.1 hw
  obtain rfl : o = o' := Option.some.inj (ho.symm.trans ho')
  exact wpAnyH_take ho hs hf hr (by rw [hdo]; exact hQ) (Or.inr ⟨hwo, rfl⟩) hS (by rw [hdo]; exact h)
/-- what holds behind each operation may be more than is asked. -/
theorem wpAnyH_mono {P : Program} {md : Region.Mode} {ops : Array Oper} {Q : Exit → Act → World → Prop} {S S' : World → Prop} (h : ∀ w, S' w → S w) :
    ∀ (fuel : Nat) (listed : Array Bool) (a : Act) (w : World), wpAnyH P md ops Q S' fuel listed a w → wpAnyH P md ops Q S fuel listed a w
  | 0, _, _, _, hh => hh
  | fuel + 1, _, _, _, hh => ⟨hh.1, fun i hi => wpOp_mono (fun a' w' h' => ⟨h _ h'.1, wpAnyH_mono h fuel _ a' w' h'.2⟩) (hh.2 i hi)⟩
/-- from here on: all that lies below is as it is in w2. -/
theorem wpAnyH_shift {P : Program} {md : Region.Mode} {ops : Array Oper} {Q : Exit → Act → World → Prop} {w1 w2 : World} (h : Below w1.heap.size w1 w2) {fuel : Nat} {listed : Array Bool} {a : Act} {w : World}
    (hh : wpAnyH P md ops Q (Below w2.heap.size w2) fuel listed a w) : wpAnyH P md ops Q (Below w1.heap.size w1) fuel listed a w :=
  wpAnyH_mono (fun _ h' => h.trans (h'.mono h.size)) fuel listed a w hh
end Go.Proofs.Ytgdmmhdihgajkaa
/- 'append(s, us...)' where s has no room ('s[:k:k]'): always a new row; a slice cut in two as slices that may be read. -/
namespace Go.Proofs.Ytgdmmhdihgajkaa
set_option linter.unusedVariables false
open Go.RowKit
theorem add_at (b off j : Nat) : (⟨b, off, none⟩ : Addr).add j = ⟨b, off + j, none⟩ := by unfold Addr.add; split <;> simp_all
theorem run_appF {P : Program} {t E bytes ty : Nat} {z : Value} (F : ElemOk P t E bytes z) {B : Nat} {w : World} {v : Value} {vs : List Value} (hv : RdV w v vs) {a : Option Addr} (hfull : v = .slice a vs.length vs.length) (hnil : a = none → vs = [])
    {src : Value} {us : List Value} (hs : RdV w src us) (h0 : us ≠ []) (hlen : (vs.length + us.length) * bytes ≤ 140737488355328) (hm : vs.length + us.length ≤ maxLen) (hB : B ≤ w.heap.size) :
    ∃ v' w', (Builtin.append_ #[t, t] ty #[v, src]).run P w = .ok v' w' ∧ OwnV E B w' v' (vs ++ us) ∧ Below w.heap.size w w' := by
  obtain ⟨f1, f2, f3⟩ := F
  obtain ⟨i0, hi, hz0, hz1, hz2⟩ := info_parts f2
  have hup := List.length_pos_iff.2 h0
  obtain ⟨b, off, cap, rfl, s2, s3, s4, s5, s6⟩ : ∃ b off cap, src = .slice (some ⟨b, off, none⟩) us.length cap ∧ 0 < us.length ∧ us.length ≤ cap ∧ cap ≤ maxLen ∧ b < w.heap.size ∧ ∀ i, i < us.length → w.cell? ⟨b, off + i, none⟩ = some (us.getD i undef) := by
    rcases hs with ⟨_, _, _, e⟩ | h
    · exact absurd e h0
    · exact h
  have hnews : ∀ j u, us[j]? = some u → w.cell? ((⟨b, off, none⟩ : Addr).add j) = some u := fun j u hj => by
    obtain ⟨hlt, hget⟩ := List.getElem?_eq_some_iff.1 hj
    rw [add_at, s6 j hlt, List.getD_eq_getElem?_getD, hj]; rfl
  have hmm : vs.length + us.length ≤ 9223372036854775807 := by simp only [maxLen] at hm; omega
  have grown : ∀ (need old : Nat), need = vs.length + us.length → OwnV E B (w.drew.alloc (.cells (vs.toArray ++ us.toArray ++ Builtin.zeroCells z.cells (grownCap w need old E - need)) E)) (.slice (some ⟨w.heap.size, 0, none⟩) need (grownCap w need old E)) (vs ++ us) ∧
      Below w.heap.size w (w.drew.alloc (.cells (vs.toArray ++ us.toArray ++ Builtin.zeroCells z.cells (grownCap w need old E - need)) E)) := by
    intro need old e
    have hge := grownCap_ge w need old E
    have hcm : grownCap w need old E ≤ maxLen := grownCap_le_maxLen w need old E (by omega)
    refine ⟨⟨(Nat.mul_one _).symm, .inr ⟨w.heap.size, grownCap w need old E, _, by rw [List.length_append, ← e], hB, heap_alloc_new w.drew _, by rw [List.length_append]; omega, hcm, ?_, ?_⟩⟩, (Below.refl _ w).drew.alloc (Nat.le_refl _) _⟩
    · simp only [Array.size_append, List.size_toArray, size_zeroCells, f3]; omega
    · simp only [Array.toList_append, Nat.mul_one]
      rw [List.take_left' rfl]
  cases a with
  | none =>
    obtain rfl := hnil rfl
    subst hfull
    have hr := run_append_nil (P := P) w t ty E i0 z f1 hi hz0 ⟨b, off, none⟩ us.length cap us (by rw [hz1, Nat.mul_one]) hnews (by omega) (by omega) (by rw [hz2]; simp only [List.length_nil, Nat.zero_add] at hlen; omega)
    obtain ⟨g1, g2⟩ := grown us.length 0 (by simp)
    refine ⟨_, _, hr, ?_, ?_⟩
    · simpa using g1
    · simpa using g2
  | some ad =>
    subst hfull
    have hold : ∀ j u, vs[j]? = some u → w.cell? (ad.add j) = some u := fun j u hj => by
      obtain ⟨hlt, hget⟩ := List.getElem?_eq_some_iff.1 hj
      rcases hv with ⟨_, _, _, e⟩ | ⟨b', off', cap', e1, _, _, _, _, e6⟩
      · subst e; simp at hlt
      · simp only [Value.slice.injEq, Option.some.injEq] at e1
        obtain ⟨rfl, -⟩ := e1
        rw [add_at, e6 j hlt, List.getD_eq_getElem?_getD, hj]; rfl
    have hr := run_append_grow (P := P) w t ty E i0 z f1 hi hz0 ad vs.length vs.length vs (by rw [hz1, Nat.mul_one]) hold ⟨b, off, none⟩ us.length cap us (by rw [hz1, Nat.mul_one]) hnews (by omega) (by omega) (by rw [hz2]; exact growslice_fits (by omega) hlen)
    obtain ⟨g1, g2⟩ := grown (vs.length + us.length) vs.length rfl
    exact ⟨_, _, hr, g1, g2⟩
/-- the first k of a slice of the call's own, as 's[:k:k]' tells them. -/
theorem OwnV.front {E B : Nat} {w : World} {a : Option Addr} {n cap : Nat} {vs : List Value} (h : OwnV E B w (.slice a n cap) vs) (k : Nat) (hk : k ≤ n) :
    RdV w (.slice a k k) (vs.take k) ∧ (vs.take k).length = k ∧ (a = none → vs.take k = []) := by
  have hn : n = vs.length := by
    rcases h.rd with ⟨_, _, e, rfl⟩ | ⟨_, _, _, e, _⟩ <;> simp only [Value.slice.injEq] at e <;> exact e.2.1
  have hl : (vs.take k).length = k := by rw [List.length_take]; omega
  rcases Nat.eq_zero_or_pos k with h0 | h0
  · subst h0; exact ⟨.inl ⟨a, 0, rfl, by simp⟩, hl, fun _ => by simp⟩
  · rcases h.rd with ⟨_, _, e, rfl⟩ | ⟨b, off, c, e, h1, h2, h3, h4, h5⟩
    · simp at hn; omega
    · simp only [Value.slice.injEq] at e
      obtain ⟨rfl, rfl, rfl⟩ := e
      refine ⟨.inr ⟨b, off, k, by rw [hl], by omega, by omega, by omega, h4, fun i hi => ?_⟩, hl, fun h => by cases h⟩
      rw [hl] at hi
      rw [h5 i (by omega), List.getD_eq_getElem?_getD, List.getD_eq_getElem?_getD, List.getElem?_take_of_lt hi]
/-- what is behind the first k, as 's[k:]' tells it. -/
theorem OwnV.rest {E B : Nat} {w : World} {a : Option Addr} {n cap : Nat} {vs : List Value} (h : OwnV E B w (.slice a n cap) vs) (k : Nat) (hk : k ≤ n) :
    RdV w (.slice (if cap = k then a else a.map (·.add k)) (n - k) (cap - k)) (vs.drop k) := by
  have hn : n = vs.length := by
    rcases h.rd with ⟨_, _, e, rfl⟩ | ⟨_, _, _, e, _⟩ <;> simp only [Value.slice.injEq] at e <;> exact e.2.1
  rcases Nat.lt_or_ge k n with h0 | h0
  · rcases h.rd with ⟨_, _, e, rfl⟩ | ⟨b, off, c, e, h1, h2, h3, h4, h5⟩
    · simp at hn; omega
    · simp only [Value.slice.injEq] at e
      obtain ⟨rfl, -, rfl⟩ := e
      rw [if_neg (by omega)]
      refine .inr ⟨b, off + k, cap - k, ?_, by rw [List.length_drop]; omega, by rw [List.length_drop]; omega, by omega, h4, fun i hi => ?_⟩
      · rw [List.length_drop, ← hn]; simp [add_at]
      · rw [List.length_drop] at hi
        rw [Nat.add_assoc, h5 (k + i) (by omega), List.getD_eq_getElem?_getD, List.getD_eq_getElem?_getD, List.getElem?_drop]
  · obtain rfl : k = n := by omega
    rw [Nat.sub_self]
    exact .inl ⟨_, _, rfl, List.drop_of_length_le (by omega)⟩
/-- 'append' as one step of a region, by what it gives. -/
theorem step_app {P : Program} {ops : Array Oper} {o : Oper} {a : Act} {w : World} {K : Act → World → Prop} {Q : Exit → Act → World → Prop} {E : Prop} (hw : Region.wanted o (yielded ops a.tmps) = true)
    (s x : Operand) (t : TypeId) (ho : o.op = Op.call { callee := Callee.builtin Builtin.append, args := #[s, x], argTypes := #[t, t] }) {v src v' : Value} {w' : World} (hs : a.eval s = v) (hx : a.eval x = src)
    (hr : (Builtin.append_ #[t, t] o.type #[v, src]).run P w = .ok v' w') (hK : K (a.put o.dst v') w') : if Region.wanted o (yielded ops a.tmps) = true then Oper.wp P o a w K Q else E := by
  rw [if_pos hw]
  unfold Oper.wp execOp
  simp only [ho, resolve, invoke, builtin, Sem.run_bind, Sem.run_pure, Result.andThen_ok, List.map_toArray, List.map_cons, List.map_nil, hs, hx, hr]
  exact hK
/-- the same, the slot that it writes named. -/
theorem step_appD {P : Program} {ops : Array Oper} {o : Oper} {a : Act} {w : World} {K : Act → World → Prop} {Q : Exit → Act → World → Prop} {E : Prop} (d : Nat) (hd : o.dst = some d) (hw : Region.wanted o (yielded ops a.tmps) = true)
    (s x : Operand) (t : TypeId) (ho : o.op = Op.call { callee := Callee.builtin Builtin.append, args := #[s, x], argTypes := #[t, t] }) {v src v' : Value} {w' : World} (hs : a.eval s = v) (hx : a.eval x = src)
    (hr : (Builtin.append_ #[t, t] o.type #[v, src]).run P w = .ok v' w') (hK : K (a.put (some d) v') w') : if Region.wanted o (yielded ops a.tmps) = true then Oper.wp P o a w K Q else E :=
  step_app hw s x t ho hs hx hr (by rw [hd]; exact hK)
theorem getD_strs (ls : List ByteArray) (k : Nat) (hk : k < ls.length) : (ls.map Value.string).getD k undef = .string (ls.getD k ByteArray.empty) := by
  rw [List.getD_eq_getElem?_getD, List.getD_eq_getElem?_getD, List.getElem?_map, List.getElem?_eq_getElem hk]; rfl
/-- A slice of strings that came in, read as a list. -/
theorem rd_opens {w : World} {x : Addr} {len cap : Nat} {ss : List ByteArray} (hl : len ≤ cap) (hm : cap ≤ maxLen) (hz : ss.length = cap) (hc : ∀ i, i < ss.length → w.cell? (x.add i) = some (.string (ss.getD i ByteArray.empty))) :
    RdV w (.slice (some x) len cap) ((ss.take len).map Value.string) := by
  rcases Nat.eq_zero_or_pos len with h0 | h0
  · subst h0; exact .inl ⟨_, cap, rfl, by simp⟩
  · obtain ⟨b, off, spot⟩ := x
    have hspot : spot = none := by simpa [Addr.add] using World.cell?_spot (hc 0 (by omega))
    subst hspot
    have hlen : ((ss.take len).map Value.string).length = len := by rw [List.length_map, List.length_take]; omega
    refine .inr ⟨b, off, cap, by rw [hlen], by omega, by omega, hm, ?_, fun i hi => ?_⟩
    · have := hc 0 (by omega)
      rw [add_at] at this
      exact World.block_lt_of_cell? w _ this
    · rw [hlen] at hi
      have := hc i (by omega)
      rw [add_at] at this
      rw [this, getD_strs _ i (by rw [List.length_take]; omega)]
      rw [List.getD_eq_getElem?_getD, List.getD_eq_getElem?_getD, List.getElem?_take_of_lt hi]
end Go.Proofs.Ytgdmmhdihgajkaa
/- Slices whose elements are structs (k cells each): what may be read, what is the call's own, and append in these words. -/
namespace Go.Proofs.Ytgdmmhdihgajkaa
set_option linter.unusedVariables false
open Go.RowKit
/-- Each x is laid in k cells. -/
def EncK {α : Type} (enc : α → List Value) (k : Nat) : Prop := ∀ x, (enc x).length = k
/-- v is a slice that reads as xs, k cells each. -/
def RdK {α : Type} (enc : α → List Value) (k : Nat) (w : World) (v : Value) (xs : List α) : Prop :=
  (∃ a cap, v = .slice a 0 cap ∧ xs = []) ∨
  ∃ b off cap, v = .slice (some ⟨b, off, none⟩) xs.length cap ∧ 0 < xs.length ∧ xs.length ≤ cap ∧ cap ≤ maxLen ∧ b < w.heap.size ∧
    ∀ i j x, xs[i]? = some x → j < k → w.cell? ⟨b, off + i * k + j, none⟩ = some ((enc x).getD j undef)
/-- v is a slice of the call's own (blocks from B on) that holds xs. -/
def OwnK {α : Type} (enc : α → List Value) (k E B : Nat) (w : World) (v : Value) (xs : List α) : Prop := w.ownsRow B E k v xs.length (xs.flatMap enc)
theorem flat_lenK {α : Type} {enc : α → List Value} {k : Nat} (hk : EncK enc k) : ∀ xs : List α, (xs.flatMap enc).length = xs.length * k
  | [] => by simp
  | x :: xs => by rw [List.flatMap_cons, List.length_append, hk x, flat_lenK hk xs, List.length_cons, Nat.add_mul]; omega
theorem flat_at {α : Type} {enc : α → List Value} {k : Nat} (hk : EncK enc k) : ∀ (xs : List α) (i j : Nat) (x : α), xs[i]? = some x → j < k → (xs.flatMap enc)[i * k + j]? = (enc x)[j]?
  | [], i, j, x, h, _ => by simp at h
  | y :: xs, 0, j, x, h, hj => by
    simp at h; subst h
    rw [List.flatMap_cons, Nat.zero_mul, Nat.zero_add, List.getElem?_append_left (by rw [hk]; exact hj)]
  | y :: xs, i + 1, j, x, h, hj => by
    rw [List.flatMap_cons, List.getElem?_append_right (by rw [hk, Nat.add_mul]; omega), hk, show (i + 1) * k + j - k = i * k + j by rw [Nat.add_mul]; omega]
    exact flat_at hk xs i j x (by simpa using h) hj
theorem RdK.below {α : Type} {enc : α → List Value} {k : Nat} {w w' : World} {v : Value} {xs : List α} (h : RdK enc k w v xs) (hb : Below w.heap.size w w') : RdK enc k w' v xs := by
  rcases h with h | ⟨b, off, cap, h1, h2, h3, h4, h5, h6⟩
  · exact .inl h
  · exact .inr ⟨b, off, cap, h1, h2, h3, h4, Nat.lt_of_lt_of_le h5 hb.size, fun i j x hx hj => by rw [hb.cell h5]; exact h6 i j x hx hj⟩
theorem OwnK.nil {α : Type} (enc : α → List Value) (k E B : Nat) (w : World) : OwnK enc k E B w (.slice none 0 0) [] := World.ownsRow_nil w B E k
theorem OwnK.blk {α : Type} {enc : α → List Value} {k E B : Nat} {w : World} {v : Value} {xs : List α} (h : OwnK enc k E B w v xs) : (v = .slice none 0 0 ∧ xs = []) ∨
    ∃ g cap cur, v = .slice (some ⟨g, 0, none⟩) xs.length cap ∧ B ≤ g ∧ g < w.heap.size ∧ w.heap[g]? = some (.cells cur E (0, 0)) ∧ xs.length ≤ cap ∧ cap ≤ maxLen ∧ cur.size = cap * k ∧ cur.toList.take (xs.length * k) = xs.flatMap enc := by
  obtain ⟨h1, h2⟩ := h
  rcases h2 with ⟨e1, e2⟩ | ⟨g, cap, cur, e1, e2, e3, e4⟩
  · exact .inl ⟨e1, List.eq_nil_of_length_eq_zero e2⟩
  · refine .inr ⟨g, cap, cur, e1, e2, ?_, e3, e4⟩
    rcases Nat.lt_or_ge g w.heap.size with h | h
    · exact h
    · rw [Array.getElem?_eq_none h] at e3; cases e3
theorem OwnK.below {α : Type} {enc : α → List Value} {k E B : Nat} {w w' : World} {v : Value} {xs : List α} (h : OwnK enc k E B w v xs) (hb : Below w.heap.size w w') : OwnK enc k E B w' v xs := by
  refine ⟨h.1, ?_⟩
  rcases h.blk with ⟨rfl, rfl⟩ | ⟨g, cap, cur, e1, e2, e3, e4, e5⟩
  · exact .inl ⟨rfl, rfl⟩
  · exact .inr ⟨g, cap, cur, e1, e2, by rw [hb.block g e3]; exact e4, e5⟩
theorem OwnK.base {α : Type} {enc : α → List Value} {k E B B' : Nat} {w : World} {v : Value} {xs : List α} (h : OwnK enc k E B w v xs) (hB : B' ≤ B) : OwnK enc k E B' w v xs := by
  refine ⟨h.1, ?_⟩
  rcases h.2 with h2 | ⟨g, cap, cur, e1, e2, e3⟩
  · exact .inl h2
  · exact .inr ⟨g, cap, cur, e1, Nat.le_trans hB e2, e3⟩
theorem OwnK.cell {α : Type} {enc : α → List Value} {k E B : Nat} {w : World} {g n cap : Nat} {xs : List α} (hk : EncK enc k) (h : OwnK enc k E B w (.slice (some ⟨g, 0, none⟩) n cap) xs) (i j : Nat) (x : α) (hx : xs[i]? = some x) (hj : j < k) :
    w.cell? ⟨g, i * k + j, none⟩ = some ((enc x).getD j undef) := by
  rcases h.blk with ⟨e, rfl⟩ | ⟨g', cap', cur, e1, e2, e3, e4, e5, e6, e7, e8⟩
  · simp at hx
  · simp only [Value.slice.injEq, Option.some.injEq, Addr.mk.injEq] at e1
    obtain ⟨⟨rfl, -⟩, -⟩ := e1
    have hi := (List.getElem?_eq_some_iff.1 hx).1
    have hlt : i * k + j < xs.length * k := by
      have : (i + 1) * k ≤ xs.length * k := Nat.mul_le_mul_right k hi
      rw [Nat.add_mul] at this; omega
    have hc : cur[i * k + j]? = some ((enc x).getD j undef) := by
      have h7 : cur.toList[i * k + j]? = (xs.flatMap enc)[i * k + j]? := by
        conv => rhs; rw [← e8]
        rw [List.getElem?_take, if_pos hlt]
      rw [Array.getElem?_toList] at h7
      rw [h7, flat_at hk xs i j x hx hj, List.getD_eq_getElem?_getD, List.getElem?_eq_getElem (by rw [hk]; exact hj)]; rfl
    unfold World.cell?
    simp only [e4, Option.isSome_none, Bool.false_eq_true, if_false]
    exact hc
theorem OwnK.rd {α : Type} {enc : α → List Value} {k E B : Nat} {w : World} {v : Value} {xs : List α} (hk : EncK enc k) (h : OwnK enc k E B w v xs) : RdK enc k w v xs := by
  rcases h.blk with ⟨e1, e2⟩ | ⟨g, cap, cur, e1, e2, e3, e4, e5, e6, e7, e8⟩
  · exact .inl ⟨none, 0, by rw [e1], e2⟩
  · rcases Nat.eq_zero_or_pos xs.length with h0 | h0
    · exact .inl ⟨_, cap, by rw [e1, h0], List.eq_nil_of_length_eq_zero h0⟩
    · refine .inr ⟨g, 0, cap, e1, h0, e5, e6, e3, fun i j x hx hj => ?_⟩
      subst e1
      rw [Nat.zero_add]
      exact h.cell hk i j x hx hj
/-- An element type of k cells. -/
def ElemK (P : Program) (t E k bytes : Nat) (z : Value) : Prop := P.underlying t = some (.slice E) ∧ (P.info? E).map (fun i => (i.zero, i.size, i.bytes)) = some (some z, k, bytes) ∧ z.cells.size = k ∧ 0 < k
theorem RdK.cells {α : Type} {enc : α → List Value} {k : Nat} {w : World} {b off n cap : Nat} {xs : List α} (hk : EncK enc k) (h : RdK enc k w (.slice (some ⟨b, off, none⟩) n cap) xs) : ∀ j u, (xs.flatMap enc)[j]? = some u → w.cell? ((⟨b, off, none⟩ : Addr).add j) = some u := by
  intro j u hj
  rcases h with ⟨_, _, _, rfl⟩ | ⟨b', off', cap', e1, _, _, _, _, e6⟩
  · simp at hj
  · simp only [Value.slice.injEq, Option.some.injEq, Addr.mk.injEq] at e1
    obtain ⟨⟨rfl, rfl, -⟩, -⟩ := e1
    have hlt := (List.getElem?_eq_some_iff.1 hj).1
    rw [flat_lenK hk] at hlt
    have hk0 : 0 < k := by rcases Nat.eq_zero_or_pos k with h | h; · subst h; simp at hlt
                           · exact h
    have hm : j % k < k := Nat.mod_lt j hk0
    have hd : j / k < xs.length := (Nat.div_lt_iff_lt_mul hk0).2 hlt
    have hx : xs[j / k]? = some xs[j / k] := List.getElem?_eq_getElem hd
    have hjk : j / k * k + j % k = j := by rw [Nat.mul_comm]; exact Nat.div_add_mod j k
    have h1 := e6 (j / k) (j % k) _ hx hm
    have h2 := flat_at hk xs (j / k) (j % k) _ hx hm
    rw [hjk, hj] at h2
    rw [add_at, ← hjk, ← Nat.add_assoc, h1, List.getD_eq_getElem?_getD, ← h2]; rfl
theorem ElemK.parts {P : Program} {t E k bytes : Nat} {z : Value} (F : ElemK P t E k bytes z) : P.underlying t = some (.slice E) ∧ z.cells.size = k ∧ 0 < k ∧ ∃ i0, P.info? E = some i0 ∧ i0.zero = some z ∧ i0.size = k ∧ i0.bytes = bytes := by
  obtain ⟨f1, f2, f3, f4⟩ := F
  obtain ⟨i0, hi, hz0, hz1, hz2⟩ := info_parts f2
  exact ⟨f1, f3, f4, i0, hi, hz0, hz1, hz2⟩
/-- 'append(s, us...)' onto a slice of the call's own, from whatever slice that may be read. -/
theorem run_appK {α : Type} {enc : α → List Value} {P : Program} {t E k bytes ty : Nat} {z : Value} (F : ElemK P t E k bytes z) (hk : EncK enc k) {B : Nat} {w : World} {v : Value} {xs : List α} (hown : OwnK enc k E B w v xs) {src : Value} {us : List α} (hs : RdK enc k w src us)
    (h1 : ∀ u ∈ us.flatMap enc, u.oneCell' = true) (hlen : (xs.length + us.length) * bytes ≤ 140737488355328) (hm : xs.length + us.length ≤ maxLen) (hB : B ≤ w.heap.size) :
    ∃ v' w', (Builtin.append_ #[t, t] ty #[v, src]).run P w = .ok v' w' ∧ OwnK enc k E B w' v' (xs ++ us) ∧ Below B w w' := by
  obtain ⟨f1, f3, f4, i0, hi, hz0, hz1, hz2⟩ := F.parts
  have hsome : ∀ (b off m c : Nat), src = .slice (some ⟨b, off, none⟩) m c → m = us.length →
      ∃ v' w', (Builtin.append_ #[t, t] ty #[v, src]).run P w = .ok v' w' ∧ OwnK enc k E B w' v' (xs ++ us) ∧ Below B w w' := by
    rintro b off m c rfl e
    obtain ⟨v', w', g0, g1, g2, -⟩ := run_append_own w B t ty E i0 z k bytes f1 hi hz0 hz1 hz2 f3 f4 v xs.length (xs.flatMap enc) hown ⟨b, off, none⟩ m c (us.flatMap enc) (by rw [flat_lenK hk, e]) (hs.cells hk) h1 (by omega) (by subst e; exact hlen) hB
    refine ⟨v', w', g0, ?_, ?_⟩
    · unfold OwnK; rw [List.length_append, ← e, List.flatMap_append]; exact g1
    · exact (Below.refl B w).grown g2 hB fun k hk => (World.ownsRow.lt hown k hk).1
  have hnone : ∀ c, src = .slice none 0 c → us = [] → ∃ v' w', (Builtin.append_ #[t, t] ty #[v, src]).run P w = .ok v' w' ∧ OwnK enc k E B w' v' (xs ++ us) ∧ Below B w w' := by
    rintro c rfl rfl
    refine ⟨v, w, ?_, by rw [List.append_nil]; exact hown, Below.refl _ _⟩
    rcases hown.blk with ⟨rfl, -⟩ | ⟨g, cap, cur, rfl, -, -, -, hc, -⟩
    · simp [Builtin.append_, run_underlying f1, sizeOf, typeInfo, hi, Builtin.lenOf, Builtin.firstCells]
    · simp [Builtin.append_, run_underlying f1, sizeOf, typeInfo, hi, Builtin.lenOf, Builtin.firstCells, hc, storeCells]
  rcases id hs with ⟨a, cap, e, rfl⟩ | ⟨b, off, cap, e, -⟩
  · cases a with
    | none => exact hnone cap e rfl
    | some ad =>
      subst e
      obtain ⟨v', w', g0, g1, g2, -⟩ := run_append_own w B t ty E i0 z k bytes f1 hi hz0 hz1 hz2 f3 f4 v xs.length (xs.flatMap enc) hown ad 0 cap [] (by simp) (by simp) (by simp) (by simpa using hm) (by simpa using hlen) hB
      refine ⟨v', w', g0, ?_, (Below.refl B w).grown g2 hB fun k hk => (World.ownsRow.lt hown k hk).1⟩
      unfold OwnK; simpa using g1
  · exact hsome b off _ cap e rfl
/-- One element that was just laid as a row of its own. -/
theorem own_oneK {α : Type} {enc : α → List Value} {k E : Nat} (hk : EncK enc k) (w : World) (x : α) : OwnK enc k E w.heap.size (w.alloc (.cells (enc x).toArray E)) (.slice (some ⟨w.heap.size, 0, none⟩) 1 1) [x] := by
  refine ⟨by simp [hk x], .inr ⟨w.heap.size, 1, (enc x).toArray, rfl, Nat.le_refl _, heap_alloc_new .., Nat.le_refl _, by unfold maxLen; omega, by simp [hk x], ?_⟩⟩
  simp only [List.length_singleton, Nat.one_mul, List.flatMap_cons, List.flatMap_nil, List.append_nil]
  exact List.take_of_length_le (by rw [hk x]; exact Nat.le_refl _)
/-- 'append(s, us...)' where s has no room. -/
theorem run_appFK {α : Type} {enc : α → List Value} {P : Program} {t E k bytes ty : Nat} {z : Value} (F : ElemK P t E k bytes z) (hk : EncK enc k) {B : Nat} {w : World} {v : Value} {xs : List α} (hv : RdK enc k w v xs) {a : Option Addr} (hfull : v = .slice a xs.length xs.length) (hnil : a = none → xs = [])
    {src : Value} {us : List α} (hs : RdK enc k w src us) (h0 : us ≠ []) (hlen : (xs.length + us.length) * bytes ≤ 140737488355328) (hm : xs.length + us.length ≤ maxLen) (hB : B ≤ w.heap.size) :
    ∃ v' w', (Builtin.append_ #[t, t] ty #[v, src]).run P w = .ok v' w' ∧ OwnK enc k E B w' v' (xs ++ us) ∧ Below w.heap.size w w' := by
  obtain ⟨f1, f3, f4, i0, hi, hz0, hz1, hz2⟩ := F.parts
  have hup := List.length_pos_iff.2 h0
  obtain ⟨b, off, cap, rfl⟩ : ∃ b off cap, src = .slice (some ⟨b, off, none⟩) us.length cap := by
    rcases hs with ⟨_, _, _, e⟩ | ⟨b, off, cap, e, -⟩
    · exact absurd e h0
    · exact ⟨b, off, cap, e⟩
  have hnews := hs.cells hk
  have hmm : xs.length + us.length ≤ 9223372036854775807 := by simp only [maxLen] at hm; omega
  have lx := flat_lenK hk xs
  have lu := flat_lenK hk us
  have grown : ∀ (need old : Nat), need = xs.length + us.length → OwnK enc k E B (w.drew.alloc (.cells ((xs.flatMap enc).toArray ++ (us.flatMap enc).toArray ++ Builtin.zeroCells z.cells (grownCap w need old E - need)) E)) (.slice (some ⟨w.heap.size, 0, none⟩) need (grownCap w need old E)) (xs ++ us) ∧
      Below w.heap.size w (w.drew.alloc (.cells ((xs.flatMap enc).toArray ++ (us.flatMap enc).toArray ++ Builtin.zeroCells z.cells (grownCap w need old E - need)) E)) := by
    intro need old e
    have hge := grownCap_ge w need old E
    have hcm : grownCap w need old E ≤ maxLen := grownCap_le_maxLen w need old E (by omega)
    refine ⟨⟨flat_lenK hk _, .inr ⟨w.heap.size, grownCap w need old E, _, by rw [List.length_append, ← e], hB, heap_alloc_new w.drew _, by rw [List.length_append]; omega, hcm, ?_, ?_⟩⟩, (Below.refl _ w).drew.alloc (Nat.le_refl _) _⟩
    · simp only [Array.size_append, List.size_toArray, size_zeroCells, f3, lx, lu, ← Nat.add_mul]
      congr 1; omega
    · simp only [Array.toList_append, List.flatMap_append]
      exact List.take_left' (by rw [List.length_append, lx, lu, ← Nat.add_mul, List.length_append])
  cases a with
  | none =>
    obtain rfl := hnil rfl
    subst hfull
    have hr := run_append_nil (P := P) w t ty E i0 z f1 hi hz0 ⟨b, off, none⟩ us.length cap (us.flatMap enc) (by rw [hz1, lu]) hnews (by omega) (by omega) (by rw [hz2]; simp only [List.length_nil, Nat.zero_add] at hlen; omega)
    obtain ⟨g1, g2⟩ := grown us.length 0 (by simp)
    refine ⟨_, _, hr, ?_, ?_⟩
    · simpa using g1
    · simpa using g2
  | some ad =>
    subst hfull
    have hold : ∀ j u, (xs.flatMap enc)[j]? = some u → w.cell? (ad.add j) = some u := by
      rcases id hv with ⟨_, _, _, e⟩ | ⟨b', off', cap', e1, -⟩
      · subst e; intro j u hj; simp at hj
      · simp only [Value.slice.injEq, Option.some.injEq] at e1
        obtain ⟨rfl, -⟩ := e1
        exact hv.cells hk
    have hr := run_append_grow (P := P) w t ty E i0 z f1 hi hz0 ad xs.length xs.length (xs.flatMap enc) (by rw [hz1, lx]) hold ⟨b, off, none⟩ us.length cap (us.flatMap enc) (by rw [hz1, lu]) hnews (by omega) (by omega) (by rw [hz2]; exact growslice_fits (by omega) hlen)
    obtain ⟨g1, g2⟩ := grown (xs.length + us.length) xs.length rfl
    exact ⟨_, _, hr, g1, g2⟩
end Go.Proofs.Ytgdmmhdihgajkaa
/- Rows whose elements are structs: a slice cut in two; 'append(s, x)' of one element that was just laid. -/
namespace Go.Proofs.Ytgdmmhdihgajkaa
set_option linter.unusedVariables false
open Go.RowKit
theorem RdK.len {α : Type} {enc : α → List Value} {k : Nat} {w : World} {v : Value} {xs : List α} (h : RdK enc k w v xs) : ∃ a cap, v = .slice a xs.length cap ∧ (xs = [] ∨ xs.length ≤ cap ∧ cap ≤ maxLen ∧ a ≠ none) := by
  rcases h with ⟨a, cap, h1, rfl⟩ | ⟨b, off, cap, h1, h2, h3, h4, -⟩
  · exact ⟨a, cap, h1, .inl rfl⟩
  · exact ⟨_, cap, h1, .inr ⟨h3, h4, by simp⟩⟩
/-- the first j of a slice, as 's[:j:j]' tells them. -/
theorem RdK.front {α : Type} {enc : α → List Value} {k : Nat} {w : World} {a : Option Addr} {n cap : Nat} {xs : List α} (h : RdK enc k w (.slice a n cap) xs) (j : Nat) (hj : j ≤ n) :
    RdK enc k w (.slice a j j) (xs.take j) ∧ (xs.take j).length = j ∧ (a = none → xs.take j = []) := by
  have hn : n = xs.length := by
    rcases h with ⟨_, _, e, rfl⟩ | ⟨_, _, _, e, _⟩ <;> simp only [Value.slice.injEq] at e <;> exact e.2.1
  have hl : (xs.take j).length = j := by rw [List.length_take]; omega
  rcases Nat.eq_zero_or_pos j with h0 | h0
  · subst h0; exact ⟨.inl ⟨a, 0, rfl, by simp⟩, hl, fun _ => by simp⟩
  · rcases h with ⟨_, _, e, rfl⟩ | ⟨b, off, c, e, h1, h2, h3, h4, h5⟩
    · simp at hn; omega
    · simp only [Value.slice.injEq] at e
      obtain ⟨rfl, rfl, rfl⟩ := e
      refine ⟨.inr ⟨b, off, j, by rw [hl], by omega, by omega, by omega, h4, fun i m x hx hm => ?_⟩, hl, fun h => by cases h⟩
      rw [List.getElem?_take] at hx
      split at hx
      · exact h5 i m x hx hm
      · cases hx
/-- what is behind the first j, as 's[j:]' tells it. -/
theorem RdK.rest {α : Type} {enc : α → List Value} {k : Nat} {w : World} {a : Option Addr} {n cap : Nat} {xs : List α} (h : RdK enc k w (.slice a n cap) xs) (j : Nat) (hj : j ≤ n) :
    RdK enc k w (.slice (if cap = j then a else a.map (·.add (j * k))) (n - j) (cap - j)) (xs.drop j) := by
  have hn : n = xs.length := by
    rcases h with ⟨_, _, e, rfl⟩ | ⟨_, _, _, e, _⟩ <;> simp only [Value.slice.injEq] at e <;> exact e.2.1
  rcases Nat.lt_or_ge j n with h0 | h0
  · rcases h with ⟨_, _, e, rfl⟩ | ⟨b, off, c, e, h1, h2, h3, h4, h5⟩
    · simp at hn; omega
    · simp only [Value.slice.injEq] at e
      obtain ⟨rfl, -, rfl⟩ := e
      rw [if_neg (by omega)]
      refine .inr ⟨b, off + j * k, cap - j, ?_, by rw [List.length_drop]; omega, by rw [List.length_drop]; omega, by omega, h4, fun i m x hx hm => ?_⟩
      · rw [List.length_drop, ← hn]; simp [add_at]
      · rw [List.getElem?_drop] at hx
        have := h5 (j + i) m x hx hm
        rwa [Nat.add_mul, ← Nat.add_assoc] at this
  · obtain rfl : j = n := by omega
    rw [Nat.sub_self]
    exact .inl ⟨_, _, rfl, List.drop_of_length_le (by omega)⟩
/-- the first j of a slice, as 's[:j]' tells them. -/
theorem RdK.takeC {α : Type} {enc : α → List Value} {k : Nat} {w : World} {a : Option Addr} {n cap : Nat} {xs : List α} (h : RdK enc k w (.slice a n cap) xs) (j : Nat) (hj : j ≤ n) : RdK enc k w (.slice a j cap) (xs.take j) := by
  rcases Nat.eq_zero_or_pos j with rfl | h0
  · exact .inl ⟨_, _, rfl, by simp⟩
  · rcases h with ⟨_, _, e, rfl⟩ | ⟨b, off, c, e, h1, h2, h3, h4, h5⟩
    · simp only [Value.slice.injEq] at e; omega
    · simp only [Value.slice.injEq] at e
      obtain ⟨rfl, rfl, rfl⟩ := e
      have hl : (xs.take j).length = j := by rw [List.length_take]; omega
      refine .inr ⟨b, off, cap, by rw [hl], by omega, by omega, h3, h4, fun i m x hx hm => h5 i m x ?_ hm⟩
      rw [List.getElem?_take] at hx
      split at hx
      · exact hx
      · cases hx
/-- 'append(s, x)', x in a block that was just laid; H: that block's number as the walk spells it; guarded or not. -/
theorem wp_appHK {α : Type} {enc : α → List Value} {P : Program} {ops : Array Oper} {rest : List Oper} {o : Oper} {a : Act} {w : World} {Q : Exit → Act → World → Prop} {t E k bytes : Nat} {z : Value} (F : ElemK P t E k bytes z) (hk : EncK enc k)
    (s x : Operand) (ho : o.op = .call { callee := .builtin .append, args := #[s, x], argTypes := #[t, t] }) (hw : Region.wanted o (yielded ops a.tmps) = true)
    {B : Nat} {v : Value} {xs : List α} (hs : a.eval s = v) (hown : OwnK enc k E B w v xs) (y : α) (H : Nat) (hx : a.eval x = .slice (some ⟨H, 0, none⟩) 1 1)
    (hH : w.heap.size = H) (h1 : ∀ u ∈ enc y, u.oneCell' = true) (hlen : (xs.length + 1) * bytes ≤ 140737488355328) (hm : xs.length + 1 ≤ maxLen) (hB : B ≤ w.heap.size)
    (h : ∀ v' w', OwnK enc k E B w' v' (xs ++ [y]) → Below B w w' → wpList P ops Q rest (a.put o.dst v') w') : wpList P ops Q (o :: rest) a (w.alloc (.cells (enc y).toArray E)) := by
  subst hH
  refine wpList_step fun K hK => ?_
  rw [if_pos hw]
  obtain ⟨v', w', hr, h2, h3⟩ := run_appK (ty := o.type) (w := w.alloc (.cells (enc y).toArray E)) F hk (hown.below ((Below.refl _ w).alloc (Nat.le_refl _) _)) ((own_oneK (E := E) hk w y).rd hk) (by simpa using h1) (by simpa using hlen) (by simpa using hm) (by simp; omega)
  unfold Oper.wp execOp
  simp only [ho, resolve, invoke, builtin, Sem.run_bind, Sem.run_pure, Result.andThen_ok, List.map_toArray, List.map_cons, List.map_nil, hs, hx, hr]
  exact hK _ _ (h v' w' h2 (((Below.refl B w).alloc hB _).trans h3))
end Go.Proofs.Ytgdmmhdihgajkaa
/- A region that draws its order, whose loads stand ahead of its first store (number k): what a load reads is asked only as long as that store has not come up. Calls may make memory; the stores come behind. -/
namespace Go.Proofs.Ytgdmmhdihgajkaa
set_option linter.unusedVariables false
open Go.RowKit
/-- Whatever order is picked; behind each operation S holds, as long as number k has not come up. -/
def wpAnyK (P : Program) (md : Region.Mode) (ops : Array Oper) (Q : Exit → Act → World → Prop) (S : World → Prop) (k : Nat) : Nat → Array Bool → Act → World → Prop
  | 0, listed, a, w => Region.ready md ops listed = [] ∧ Q .normal a w
  | fuel + 1, listed, a, w => (Region.ready md ops listed = [] → Q .normal a w) ∧
      ∀ i ∈ Region.ready md ops listed, wpOp P ops Q i (fun a' w' => ((listed.setIfInBounds i true).getD k true = false → S w') ∧ wpAnyK P md ops Q S k fuel (listed.setIfInBounds i true) a' w') a w
theorem wpAny_of_K {P : Program} {md : Region.Mode} {ops : Array Oper} {Q : Exit → Act → World → Prop} {S : World → Prop} {k : Nat} :
    ∀ (fuel : Nat) (listed : Array Bool) (a : Act) (w : World), wpAnyK P md ops Q S k fuel listed a w → wpAny P md ops Q fuel listed a w
  | 0, _, _, _, h => h
  | fuel + 1, _, _, _, h => ⟨h.1, fun i hi => wpOp_mono (fun a' w' h' => wpAny_of_K fuel _ a' w' h'.2) (h.2 i hi)⟩
/-- number k waits for number i -/
def waitsB (md : Region.Mode) (ops : Array Oper) (k i : Nat) : Bool := match ops[k]? with
  | some o => o.after.any fun e => Region.binds md e && e.on == i
  | none => false
/-- c has not come up, and waits for the next of the way, and so on to its end. -/
def pathB (md : Region.Mode) (ops : Array Oper) (listed : Array Bool) : Nat → List Nat → Bool
  | c, [] => !listed.getD c true
  | c, d :: r => !listed.getD c true && waitsB md ops c d && pathB md ops listed d r
def pathEnd : Nat → List Nat → Nat
  | c, [] => c
  | _, d :: r => pathEnd d r
theorem pathB_un {md : Region.Mode} {ops : Array Oper} {listed : Array Bool} : ∀ {c : Nat} {r : List Nat}, pathB md ops listed c r = true → listed.getD c true = false
  | c, [], h => by simpa [pathB] using h
  | c, d :: r, h => by simp only [pathB, Bool.and_eq_true] at h; simpa using h.1.1
/-- whoever waits for one that has not come up cannot come up -/
theorem waits_un {md : Region.Mode} {ops : Array Oper} {k i : Nat} {listed : Array Bool} (h : waitsB md ops k i = true) (h0 : listed.getD i true = false) : k ∉ Region.ready md ops listed := by
  intro hk
  obtain ⟨-, ok, hok, hall⟩ := mem_ready.1 hk
  unfold waitsB at h
  rw [hok] at h
  obtain ⟨e, he, hb⟩ := Array.any_eq_true'.1 h
  simp only [Bool.and_eq_true, beq_iff_eq] at hb
  have h1 := hall e he hb.1
  rw [hb.2] at h1
  rcases Nat.lt_or_ge i listed.size with h' | h'
  · simp [h'] at h0 h1; rw [h0] at h1; cases h1
  · simp [Array.getElem?_eq_none h'] at h1
theorem pathB_next {md : Region.Mode} {ops : Array Oper} {listed : Array Bool} {m : Nat} (hm : m ∈ Region.ready md ops listed) : ∀ {c : Nat} {r : List Nat}, pathB md ops listed c r = true → m ≠ pathEnd c r → pathB md ops (listed.setIfInBounds m true) c r = true ∧ m ≠ c
  | c, [], h, hne => by
    refine ⟨?_, hne⟩
    unfold pathB at h ⊢
    rw [getD_set_ne true (show m ≠ c from hne)]; exact h
  | c, d :: r, h, hne => by
    simp only [pathB, Bool.and_eq_true] at h
    obtain ⟨h1, h2⟩ := pathB_next hm h.2 hne
    have h3 : m ≠ c := by
      rintro rfl
      exact waits_un h.1.2 (pathB_un h.2) hm
    refine ⟨?_, h3⟩
    simp only [pathB, Bool.and_eq_true]
    exact ⟨⟨by rw [getD_set_ne true h3]; exact h.1.1, h.1.2⟩, h1⟩
theorem wpAnyK_first {P : Program} {md : Region.Mode} {ops : Array Oper} {Q : Exit → Act → World → Prop} {S : World → Prop} {k i : Nat} {oi : Oper} {v : Value} (hi : ops[i]? = some oi)
    (hsel : ∀ (j : Nat) (o : Oper) cs b, ops[j]? = some o → o.op ≠ .select cs b) (hQ : ∀ c a w, Q (.panic c) (a.put oi.dst v) w → Q (.panic c) a w) (path : List Nat) (hend : pathEnd k path = i) (hki : k ≠ i) :
    ∀ (fuel : Nat) (listed : Array Bool) (a : Act) (w : World),
      (∀ j oj, ops[j]? = some oj → j ≠ i → listed.getD j true = false → (∀ e ∈ oj.after, Region.binds md e = true → e.on ≠ i) → oi.apart ops oj = true) →
      i ∈ Region.ready md ops listed → YieldsIf P ops S oi v a → S w → pathB md ops listed k path = true →
      wpAnyK P md ops Q S k fuel (listed.setIfInBounds i true) (a.put oi.dst v) w → wpAnyK P md ops Q S k (fuel + 1) listed a w := by
  intro fuel
  induction fuel with
  | zero =>
    intro listed a w _ hr hy hS hkun H
    refine ⟨fun h => (by rw [h] at hr; cases hr), fun j hj => ?_⟩
    by_cases hji : j = i
    · subst hji; exact hy.wpOp hi hS ⟨fun _ => hS, H⟩
    · have := ready_mono hj hji
      rw [H.1] at this
      cases this
  | succ fuel ih =>
    intro listed a w hfree hr hy hS hkun H
    refine ⟨fun h => (by rw [h] at hr; cases hr), fun j hj => ?_⟩
    by_cases hji : j = i
    · subst hji; exact hy.wpOp hi hS ⟨fun _ => hS, H⟩
    · obtain ⟨hpath, hjk⟩ := pathB_next hj hkun (by rw [hend]; exact hji)
      have h1 := H.2 j (ready_mono hj hji)
      obtain ⟨hjun, oj, hoj, hall⟩ := mem_ready.1 hj
      have h0 := (mem_ready.1 hr).1
      have hnot : ∀ e ∈ oj.after, Region.binds md e = true → e.on ≠ i := fun e he hb heq => by
        have h1 := hall e he hb
        rw [heq] at h1
        rcases Nat.lt_or_ge i listed.size with h' | h'
        · simp [h'] at h0 h1; rw [h0] at h1; cases h1
        · simp [Array.getElem?_eq_none h'] at h1
      have h2 := wpOp_putIf hoj (hfree j oj hoj hji hjun hnot) (fun cs b => hsel i oi cs b hi) (fun cs b => hsel j oj cs b hoj) hQ hy h1
      have hfree' : ∀ m om, ops[m]? = some om → m ≠ i → (listed.setIfInBounds j true).getD m true = false →
          (∀ e ∈ om.after, Region.binds md e = true → e.on ≠ i) → oi.apart ops om = true := fun m om hm hmi hun hno => by
        refine hfree m om hm hmi ?_ hno
        by_cases hjm : j = m
        · subst hjm; exact hjun
        · rw [getD_set_ne true hjm] at hun; exact hun
      refine wpOp_mono (fun a' w' h3 => ?_) h2
      have hS' : S w' := h3.2.1 (by rw [getD_set_ne true hjk, getD_set_ne true (Ne.symm hki)]; exact pathB_un hkun)
      refine ⟨fun _ => hS', ih (listed.setIfInBounds j true) a' w' hfree' (ready_mono hr (Ne.symm hji)) h3.1 hS' hpath ?_⟩
      rw [Array.setIfInBounds_comm _ _ hji]
      exact h3.2.2
theorem takeK {P : Program} {md : Region.Mode} {ops : Array Oper} {Q : Exit → Act → World → Prop} {S : World → Prop} {n i k : Nat} {oi : Oper} {v : Value} {fuel : Nat} {listed : Array Bool} {a : Act} {w : World} (ho : ops[i]? = some oi) (hd : oi.dst = some k)
    (hs : Region.noSelect ops = true) (hf : Region.free md ops listed i = true) (hr : (Region.ready md ops listed).contains i = true) (path : List Nat) (hend : pathEnd n path = i) (hni : n ≠ i) (hu : pathB md ops listed n path = true) (hQ : ∀ c a w, Q (.panic c) (a.put (some k) v) w → Q (.panic c) a w)
    (hw : Region.wanted oi (yielded ops a.tmps) = true) (hy : ∀ w, S w → (execOp a.eval oi).run P w = .ok (.value v) w) (hS : S w)
    (h : wpAnyK P md ops Q S n fuel (listed.setIfInBounds i true) (a.put (some k) v) w) : wpAnyK P md ops Q S n (fuel + 1) listed a w :=
  wpAnyK_first ho (Region.noSelect_spec hs) (by rw [hd]; exact hQ) path hend hni fuel listed a w (Region.free_spec ho hf) (by simpa using hr) (Or.inl ⟨hw, hy⟩) hS hu (by rw [hd]; exact h)
/-- Just one may come up. -/
theorem oneK {P : Program} {md : Region.Mode} {ops : Array Oper} {Q : Exit → Act → World → Prop} {S : World → Prop} {n i : Nat} {oi : Oper} {fuel : Nat} {listed : Array Bool} {a : Act} {w : World} (hr : Region.ready md ops listed = [i]) (ho : ops[i]? = some oi)
    (h : ∀ K : Act → World → Prop, Shut (∀ a w, ((listed.setIfInBounds i true).getD n true = false → S w) → (S w ∨ (listed.setIfInBounds i true).getD n true = true → wpAnyK P md ops Q S n fuel (listed.setIfInBounds i true) a w) → K a w) → if Region.wanted oi (yielded ops a.tmps) = true then Oper.wp P oi a w K Q else K (a.put oi.dst undef) w) :
    wpAnyK P md ops Q S n (fuel + 1) listed a w := by
  refine ⟨fun h0 => (by rw [hr] at h0; cases h0), fun j hj => ?_⟩
  rw [hr] at hj
  obtain rfl : j = i := by simpa using hj
  refine wpOp_step ho (fun K hK => h K (fun a w hS hW => hK a w ⟨hS, hW ?_⟩))
  cases hb : (listed.setIfInBounds j true).getD n true with
  | false => exact .inl (hS hb)
  | true => exact .inr rfl
theorem doneK {P : Program} {md : Region.Mode} {ops : Array Oper} {Q : Exit → Act → World → Prop} {S : World → Prop} {n : Nat} {listed : Array Bool} {a : Act} {w : World} (hr : Region.ready md ops listed = []) (h : Q .normal a w) : ∀ fuel, wpAnyK P md ops Q S n fuel listed a w
  | 0 => ⟨hr, h⟩
  | _ + 1 => ⟨fun _ => h, by rw [hr]; simp⟩
theorem beginK {P : Program} {ops : Array Oper} {Q : Exit → Act → World → Prop} (S : World → Prop) (n : Nat) {id : Nat} {a : Act} {w : World} (hm : P.follows .mixedOrders = true) (hS : S w.drew)
    (h : S w.drew → wpAnyK P .any ops Q S n ops.size (Array.replicate ops.size false) a w.drew) : (Code.region id ops true).wp P Q a w :=
  wp_region_any hm (wpAny_of_K _ _ _ _ (h hS))
end Go.Proofs.Ytgdmmhdihgajkaa
/- Slices of bytes: what may be read, what is the call's own, a slice cut, a text made of one. -/
namespace Go.Proofs.Ytgdmmhdihgajkaa
set_option linter.unusedVariables false
open Go.RowKit
def bv (b : UInt8) : Value := .int .u8 (b.toNat : Int)
theorem bv_of (n : Int) (h0 : 0 ≤ n) (h1 : n < 256) : bv (UInt8.ofNat n.toNat) = .int .u8 n := by
  unfold bv; rw [byte_of _ (by omega)]; congr 1; omega
theorem elem_u8 : ElemOk Try.prog 47 5 1 (.int .u8 0) := ⟨Try.underlying47, by kernel_rfl, rfl⟩
theorem one_cells (k : IntKind) (l : List Int) : ∀ u ∈ l.map (Value.int k), u.oneCell' = true := by
  intro u hu; obtain ⟨x, -, rfl⟩ := List.mem_map.1 hu; rfl
theorem strOf_bytes (bs : List UInt8) : strOfNums (bs.map fun b => (b.toNat : Int)) = ⟨bs.toArray⟩ := by
  unfold strOfNums
  rw [List.map_map]
  have : (List.map ((fun n : Int => UInt8.ofNat n.toNat) ∘ fun b : UInt8 => (b.toNat : Int)) bs) = bs := by
    conv => rhs; rw [← List.map_id bs]
    apply List.map_congr_left
    intro b _
    simp
  rw [this]
theorem u8_bd {c : Int} (wf : (Lit.int .u8 c).wf = true) : 0 ≤ c ∧ c ≤ 255 := by
  simp [Lit.wf, IntKind.min, IntKind.max, IntKind.signed, IntKind.bits] at wf; omega
theorem rdV_take {w : World} {b off len cap : Nat} {vs : List Value} (h : RdV w (.slice (some ⟨b, off, none⟩) len cap) vs) (n : Nat) (hn : n ≤ len) : RdV w (.slice (some ⟨b, off, none⟩) n cap) (vs.take n) := by
  rcases h with ⟨a, c, h1, h2⟩ | ⟨b', off', c, h1, h2, h3, h4, h5, h6⟩
  · simp only [Value.slice.injEq] at h1
    obtain ⟨-, h1, -⟩ := h1
    subst h1
    obtain rfl : n = 0 := by omega
    exact .inl ⟨_, cap, rfl, by simp⟩
  · simp only [Value.slice.injEq, Option.some.injEq, Addr.mk.injEq, and_true] at h1
    obtain ⟨⟨rfl, rfl⟩, rfl, rfl⟩ := h1
    rcases Nat.eq_zero_or_pos n with h0 | h0
    · subst h0; exact .inl ⟨_, cap, rfl, by simp⟩
    · have hl : (vs.take n).length = n := by rw [List.length_take]; omega
      refine .inr ⟨b, off, cap, by rw [hl], by rw [hl]; exact h0, by rw [hl]; omega, h4, h5, fun i hi => ?_⟩
      rw [hl] at hi
      rw [h6 i (by omega), List.getD_eq_getElem?_getD, List.getD_eq_getElem?_getD, List.getElem?_take_of_lt hi]
theorem rdV_len {w : World} {a : Option Addr} {len cap : Nat} {vs : List Value} (h : RdV w (.slice a len cap) vs) : len = vs.length ∧ (0 < len → (∃ b off, a = some ⟨b, off, none⟩) ∧ len ≤ cap) := by
  rcases h with ⟨a, c, h1, h2⟩ | ⟨b', off', c, h1, h2, h3, h4, h5, h6⟩
  · simp only [Value.slice.injEq] at h1; subst h2; exact ⟨h1.2.1, fun h => by omega⟩
  · simp only [Value.slice.injEq] at h1; exact ⟨h1.2.1, fun _ => ⟨⟨_, _, h1.1⟩, by omega⟩⟩
theorem rdV_cells {w : World} {a : Option Addr} {n cap : Nat} {vs : List Value} (h : RdV w (.slice a n cap) vs) (h0 : 0 < vs.length) : ∃ g off, a = some ⟨g, off, none⟩ ∧ g < w.heap.size ∧ ∀ i, i < vs.length → w.cell? ⟨g, off + i, none⟩ = some (vs.getD i undef) := by
  rcases h with ⟨a, c, h1, h2⟩ | ⟨b', off', c, h1, h2, h3, h4, h5, h6⟩
  · subst h2; simp at h0
  · simp only [Value.slice.injEq] at h1
    exact ⟨b', off', h1.1, h5, h6⟩
theorem bv_cells (bs : List UInt8) : ∀ u ∈ bs.map bv, u.oneCell' = true := by
  intro u hu; obtain ⟨x, -, rfl⟩ := List.mem_map.1 hu; rfl
/-- v is a slice that reads as these bytes. -/
def RdB (w : World) (v : Value) (bs : List UInt8) : Prop := RdV w v (bs.map bv)
/-- v is a slice of the call's own (blocks from B on) that holds these bytes. -/
def OwnB (B : Nat) (w : World) (v : Value) (bs : List UInt8) : Prop := OwnV 5 B w v (bs.map bv)
/-- What is told is a new slice of the call's own that holds bs. -/
def MkB (bs : List UInt8) (w : World) (e : Ending) (w' : World) : Prop := ∃ v, e = .returned v ∧ OwnB w.heap.size w' v bs ∧ Below w.heap.size w w'
theorem RdB.below {w w' : World} {v : Value} {bs : List UInt8} (h : RdB w v bs) (hb : Below w.heap.size w w') : RdB w' v bs := RdV.below h hb
theorem OwnB.below {B : Nat} {w w' : World} {v : Value} {bs : List UInt8} (h : OwnB B w v bs) (hb : Below w.heap.size w w') : OwnB B w' v bs := OwnV.below h hb
theorem OwnB.base {B B' : Nat} {w : World} {v : Value} {bs : List UInt8} (h : OwnB B w v bs) (hB : B' ≤ B) : OwnB B' w v bs := OwnV.base h hB
theorem OwnB.rd {B : Nat} {w : World} {v : Value} {bs : List UInt8} (h : OwnB B w v bs) : RdB w v bs := OwnV.rd h
theorem OwnB.nil (B : Nat) (w : World) : OwnB B w (.slice none 0 0) [] := OwnV.nil _ _ _
theorem RdB.nil (w : World) (a : Option Addr) (cap : Nat) : RdB w (.slice a 0 cap) [] := RdV.nil w a cap
theorem OwnB.form {B : Nat} {w : World} {v : Value} {bs : List UInt8} (h : OwnB B w v bs) : ∃ a len cap, v = .slice a len cap ∧ len = bs.length ∧ len ≤ cap ∧ cap ≤ maxLen := by
  rcases OwnV.nilOr h with ⟨rfl, e⟩ | ⟨g, cap, rfl, h2, h3, h4, h5⟩
  · exact ⟨none, 0, 0, rfl, by have := congrArg List.length e; simpa using this.symm, Nat.le_refl _, by unfold maxLen; omega⟩
  · rw [List.length_map] at h4 ⊢
    exact ⟨_, _, cap, rfl, rfl, h4, h5⟩
theorem RdB.form {w : World} {v : Value} {bs : List UInt8} (h : RdB w v bs) : ∃ a len cap, v = .slice a len cap ∧ len = bs.length ∧ (0 < len → len ≤ cap ∧ cap ≤ maxLen) := by
  rcases h with ⟨a, cap, rfl, e⟩ | ⟨b, off, cap, rfl, h1, h2, h3, -⟩
  · exact ⟨a, 0, cap, rfl, by have := congrArg List.length e; simpa using this.symm, fun h => by omega⟩
  · rw [List.length_map] at h2 ⊢
    exact ⟨_, _, cap, rfl, rfl, fun _ => ⟨h2, h3⟩⟩
/-- The byte at a place, in its cell. -/
theorem RdB.at {w : World} {a : Option Addr} {len cap : Nat} {bs : List UInt8} (h : RdB w (.slice a len cap) bs) (i : Nat) (x : UInt8) (hx : bs[i]? = some x) :
    ∃ b off, a = some ⟨b, off, none⟩ ∧ b < w.heap.size ∧ w.cell? ⟨b, off + i, none⟩ = some (.int .u8 (x.toNat : Int)) := by
  obtain ⟨hi, rfl⟩ := List.getElem?_eq_some_iff.1 hx
  rcases h with ⟨_, _, _, e⟩ | ⟨b, off, c, e, h1, h2, h3, h4, h5⟩
  · have : bs = [] := by simpa using e
    subst this; simp at hi
  · simp only [Value.slice.injEq] at e
    refine ⟨b, off, e.1, h4, ?_⟩
    rw [h5 i (by rw [List.length_map]; exact hi), List.getD_eq_getElem?_getD, List.getElem?_map, List.getElem?_eq_getElem hi]; rfl
/-- the first j of a slice, as 's[:j]' tells them (c: what is left of its room). -/
theorem RdB.take {w : World} {a : Option Addr} {n cap : Nat} {bs : List UInt8} (h : RdB w (.slice a n cap) bs) (j : Nat) (hj : j ≤ n) : RdB w (.slice a j cap) (bs.take j) := by
  unfold RdB at h ⊢
  rw [List.map_take]
  rcases Nat.eq_zero_or_pos j with h0 | h0
  · subst h0; exact .inl ⟨a, cap, rfl, by simp⟩
  · rcases id h with ⟨_, _, e, e2⟩ | ⟨b, off, c, e, _⟩
    · simp only [Value.slice.injEq] at e; omega
    · simp only [Value.slice.injEq] at e
      obtain ⟨rfl, -, rfl⟩ := e
      exact rdV_take h j hj
/-- what is behind the first j, as 's[j:]' tells it. -/
theorem RdB.drop {w : World} {a : Option Addr} {n cap : Nat} {bs : List UInt8} (h : RdB w (.slice a n cap) bs) (j : Nat) (hj : j ≤ n) : RdB w (.slice (if cap = j then a else a.map (·.add j)) (n - j) (cap - j)) (bs.drop j) := by
  unfold RdB at h ⊢
  have hn := (rdV_len h).1
  rw [List.length_map] at hn
  rw [List.map_drop]
  rcases Nat.lt_or_ge j n with h0 | h0
  · rcases h with ⟨_, _, e, e2⟩ | ⟨b, off, c, e, h1, h2, h3, h4, h5⟩
    · have : bs = [] := by simpa using e2
      subst this; simp at hn; omega
    · simp only [Value.slice.injEq] at e
      obtain ⟨rfl, -, rfl⟩ := e
      rw [List.length_map] at h1 h2
      rw [if_neg (by omega)]
      refine .inr ⟨b, off + j, cap - j, ?_, by rw [List.length_drop, List.length_map]; omega, by rw [List.length_drop, List.length_map]; omega, by omega, h4, fun i hi => ?_⟩
      · rw [List.length_drop, List.length_map, ← hn]; simp [add_at]
      · rw [List.length_drop, List.length_map] at hi
        rw [Nat.add_assoc, h5 (j + i) (by rw [List.length_map]; omega), List.getD_eq_getElem?_getD, List.getD_eq_getElem?_getD, List.getElem?_drop]
  · obtain rfl : j = n := by omega
    rw [Nat.sub_self]
    exact .inl ⟨_, _, rfl, List.drop_of_length_le (by rw [List.length_map]; omega)⟩
/-- 'string(b)'. -/
theorem RdB.text {w : World} {v : Value} {bs : List UInt8} (h : RdB w v bs) : (convert 47 9 v).run Try.prog w = .ok (.string ⟨bs.toArray⟩) w := by
  rcases h with ⟨a, cap, rfl, e⟩ | ⟨b, off, cap, rfl, h1, h2, h3, h4, h5⟩
  · have : bs = [] := by simpa using e
    subst this
    cases a with
    | none => exact run_convert_bytes_nil w 47 5 Try.underlying47 Try.underlying5 0 cap 9 Try.underlying9
    | some x =>
      rw [run_convert_bytes_string w 47 9 5 _ 0 cap Try.underlying47 Try.underlying5 Try.underlying9]
      have hl : (loadCells x 0).run Try.prog w = .ok #[] w := by
        have := run_loadCells_list (P := Try.prog) w x [] (fun j v hj => by simp at hj)
        simpa using this
      simp only [Conv.bytesToString]
      simp [hl]
      rfl
  · rw [List.length_map] at h1 h2 h5 ⊢
    rw [← strOf_bytes]
    refine run_convert_bytes_arg w 47 5 Try.underlying47 Try.underlying5 b off bs.length cap _ (List.length_map _) (fun i hi => ?_) 9 Try.underlying9
    rw [h5 i hi]
    simp [List.getD_eq_getElem?_getD, List.getElem?_eq_getElem hi, bv]
/-- '[]byte(s)'. -/
theorem RdB.conv (w : World) (s : ByteArray) (hs : s.size ≤ maxLen) : RdB (Lib.bytesWorld w 5 s) (.slice (some ⟨w.heap.size, 0, none⟩) s.size (grownCap w s.size 0 5)) s.data.toList := by
  rcases Nat.eq_zero_or_pos s.size with h0 | h0
  · rw [h0]
    have : s.data.toList = [] := List.eq_nil_of_length_eq_zero (by rw [size_toList]; exact h0)
    rw [this]
    exact RdB.nil _ _ _
  · refine .inr ⟨w.heap.size, 0, _, by rw [List.length_map, size_toList], by rw [List.length_map, size_toList]; exact h0, by rw [List.length_map, size_toList]; exact grownCap_ge .., grownCap_le_maxLen w s.size 0 _ hs, by rw [Lib.bytesWorld_size]; omega, fun i hi => ?_⟩
    rw [List.length_map, size_toList] at hi
    rw [Nat.zero_add, Lib.bytesWorld_cell w _ s i hi, List.getD_eq_getElem?_getD, List.getD_eq_getElem?_getD, List.getElem?_map, List.getElem?_eq_getElem (by rw [size_toList]; exact hi)]; rfl
/-- A row of bytes that was just laid. -/
theorem OwnB.lit (w : World) (bs : List UInt8) (cs : Array Value) (n B : Nat) (hn : bs.length = n) (hm : n ≤ maxLen) (hc : (bs.map bv).toArray = cs) (hB : B ≤ w.heap.size) : OwnB B (w.alloc (.cells cs 5)) (.slice (some ⟨w.heap.size, 0, none⟩) n n) bs := by
  subst hn hc
  refine ⟨(Nat.mul_one _).symm, .inr ⟨w.heap.size, bs.length, (bs.map bv).toArray, by rw [List.length_map], hB, heap_alloc_new .., by rw [List.length_map]; exact Nat.le_refl _, hm, by simp, ?_⟩⟩
  rw [Nat.mul_one]
  exact List.take_of_length_le (by simp)
theorem map_add0 (a : Option Addr) : a.map (·.add 0) = a := by
  cases a with
  | none => rfl
  | some a => obtain ⟨b, o, x⟩ := a; simp only [Option.map_some]; unfold Addr.add; split <;> simp_all
/-- 's[k:]' of bytes, run. -/
theorem sl_lB (W : World) (a : Option Addr) (n cap k : Nat) (h : k ≤ n) (hc : n ≤ cap) :
    (Instr.sliceAt 47 (.slice a n cap) (some (.int .i64 (k : Int))) none none).run Try.prog W = .ok (.slice (if cap = k then a else a.map (·.add k)) (n - k) (cap - k)) W := by
  have hT : Try.prog.underlying 47 = some (.slice (Try.prog.elem 47)) := by kernel_rfl
  have hS : (sizeOf (Try.prog.elem 47)).run Try.prog W = .ok 1 W := by kernel_rfl
  rw [run_sliceAt_slice (h := hT), run_slice_l (w := W) (t := 47) (a := a) (len := n) (cap := cap) (ht := hT) (kl := .i64) (l := k) (h0 := by omega) (h1 := by omega), hS]
  simp [Result.andThen, sliced]
/-- 's[:k]' of bytes, run. -/
theorem sl_hB (W : World) (a : Option Addr) (n cap k : Nat) (hc : k ≤ cap) :
    (Instr.sliceAt 47 (.slice a n cap) none (some (.int .i64 (k : Int))) none).run Try.prog W = .ok (.slice a k cap) W := by
  have hT : Try.prog.underlying 47 = some (.slice (Try.prog.elem 47)) := by kernel_rfl
  have hS : (sizeOf (Try.prog.elem 47)).run Try.prog W = .ok 1 W := by kernel_rfl
  rw [run_sliceAt_slice (h := hT), run_slice_h (w := W) (t := 47) (a := a) (len := n) (cap := cap) (ht := hT) (kh := .i64) (h := k) (h0 := by omega) (h2 := by omega), hS]
  simp [Result.andThen, sliced, map_add0]
/-- 's[j:k]' of bytes, run. -/
theorem sl_lhB (W : World) (a : Option Addr) (n cap j k : Nat) (h : j ≤ k) (hc : k ≤ cap) :
    (Instr.sliceAt 47 (.slice a n cap) (some (.int .i64 (j : Int))) (some (.int .i64 (k : Int))) none).run Try.prog W = .ok (.slice (if cap = j then a else a.map (·.add j)) (k - j) (cap - j)) W := by
  have hT : Try.prog.underlying 47 = some (.slice (Try.prog.elem 47)) := by kernel_rfl
  have hS : (sizeOf (Try.prog.elem 47)).run Try.prog W = .ok 1 W := by kernel_rfl
  rw [run_sliceAt_slice (h := hT), run_slice_lh (w := W) (t := 47) (a := a) (len := n) (cap := cap) (ht := hT) (kl := .i64) (kh := .i64) (l := j) (h := k) (h0 := by omega) (h1 := by omega) (h2 := by omega), hS]
  simp [Result.andThen, sliced]
theorem RdB.mid {w : World} {a : Option Addr} {n cap : Nat} {bs : List UInt8} (h : RdB w (.slice a n cap) bs) (j k : Nat) (hj : j ≤ k) (hk : k ≤ n) : RdB w (.slice (if cap = j then a else a.map (·.add j)) (k - j) (cap - j)) ((bs.take k).drop j) := (h.take k hk).drop j hj
/-- 'append(b, c)', c in a block that was just laid; H: that block's number as the walk spells it; guarded or not. -/
theorem wp_app1B {ops : Array Oper} {rest : List Oper} {o : Oper} {a : Act} {w : World} {Q : Exit → Act → World → Prop} (s x : Operand) (ho : o.op = .call { callee := .builtin .append, args := #[s, x], argTypes := #[47, 47] }) (hw : Region.wanted o (yielded ops a.tmps) = true)
    {B : Nat} {v : Value} {bs : List UInt8} (hs : a.eval s = v) (hown : OwnB B w v bs) (c : UInt8) (u : Value) (hu : u = bv c) (H : Nat) (hx : a.eval x = .slice (some ⟨H, 0, none⟩) 1 1) (hH : w.heap.size = H) (hlen : bs.length + 1 ≤ 140737488355328) (hB : B ≤ w.heap.size)
    (h : ∀ v' w', OwnB B w' v' (bs ++ [c]) → Below B w w' → wpList Try.prog ops Q rest (a.put o.dst v') w') : wpList Try.prog ops Q (o :: rest) a (w.alloc (.cells #[u] 5)) := by
  subst hu
  refine wp_appH elem_u8 s x ho hw hs hown [bv c] 1 H rfl hx hH (by decide) (by simp [bv, Value.oneCell']) (by rw [List.length_map]; omega) (by rw [List.length_map]; unfold maxLen; omega) hB fun v' w' h1 h2 => h v' w' ?_ h2
  unfold OwnB
  rw [List.map_append]
  exact h1
/-- 'append(b, c...)'. -/
theorem wp_appSB {ops : Array Oper} {rest : List Oper} {o : Oper} {a : Act} {w : World} {Q : Exit → Act → World → Prop} (s x : Operand) (ho : o.op = .call { callee := .builtin .append, args := #[s, x], argTypes := #[47, 47] }) (hw : Region.wanted o (yielded ops a.tmps) = true)
    {B : Nat} {v : Value} {bs : List UInt8} (hs : a.eval s = v) (hown : OwnB B w v bs) {src : Value} {cs : List UInt8} (hx : a.eval x = src) (hr : RdB w src cs) (hlen : bs.length + cs.length ≤ 140737488355328) (hB : B ≤ w.heap.size)
    (h : ∀ v' w', OwnB B w' v' (bs ++ cs) → Below B w w' → wpList Try.prog ops Q rest (a.put o.dst v') w') : wpList Try.prog ops Q (o :: rest) a w := by
  refine wp_appS elem_u8 s x ho hw hs hown hx hr (bv_cells cs) (by rw [List.length_map, List.length_map]; omega) (by rw [List.length_map, List.length_map]; unfold maxLen; omega) hB fun v' w' h1 h2 => h v' w' ?_ h2
  unfold OwnB
  rw [List.map_append]
  exact h1
/-- 'append(b, s...)', s a text. -/
theorem wp_appTB {ops : Array Oper} {rest : List Oper} {o : Oper} {a : Act} {w : World} {Q : Exit → Act → World → Prop} (hgd : o.guard = none) (sl x : Operand) (ho : o.op = .call { callee := .builtin .append, args := #[sl, x], argTypes := #[47, 9] })
    {B : Nat} {v : Value} {bs : List UInt8} (hs : a.eval sl = v) (hown : OwnB B w v bs) (s : ByteArray) (hx : a.eval x = .string s) (hlen : bs.length + s.size ≤ 140737488355328) (hB : B ≤ w.heap.size)
    (h : ∀ v' w', OwnB B w' v' (bs ++ s.data.toList) → Below B w w' → wpList Try.prog ops Q rest (a.put o.dst v') w') : wpList Try.prog ops Q (o :: rest) a w := by
  obtain ⟨f1, f2, f3⟩ := elem_u8
  obtain ⟨i0, hi, hz0, hz1, hz2⟩ := info_parts f2
  refine Lib.wpList_append_own_string w hgd sl x 47 9 ho B 5 i0 f1 Try.underlying9 hi hz0 hz1 hz2 v (bs.map bv).length (bs.map bv) hs hown s hx (by rw [List.length_map]; unfold maxLen; omega) (by rw [List.length_map]; omega) hB fun v' w' h1 h2 h3 => h v' w' ?_ ?_
  · unfold OwnB OwnV
    have e : ((bs ++ s.data.toList).map bv).length = (bs.map bv).length + s.size := by rw [List.length_map, List.length_append, List.length_map, size_toList]
    rw [e, List.map_append]
    exact h1
  · exact (Below.refl B w).grown h2 hB fun k hk => (World.ownsRow.lt hown k hk).1
/-- Bytes that came in as numbers. -/
theorem bytes_of : ∀ (zs : List Int), (∀ n ∈ zs, (Lit.int .u8 n).wf = true) → ∃ bs : List UInt8, zs.map (Value.int .u8) = bs.map bv
  | [], _ => ⟨[], rfl⟩
  | z :: zs, h => by
    obtain ⟨bs, hb⟩ := bytes_of zs fun n hn => h n (List.mem_cons_of_mem _ hn)
    obtain ⟨h0, h1⟩ := u8_bd (h z (List.mem_cons_self ..))
    exact ⟨UInt8.ofNat z.toNat :: bs, by rw [List.map_cons, List.map_cons, hb, bv_of z h0 (by omega)]⟩
theorem arr_eq (xs ys : List UInt8) : ((⟨xs.toArray⟩ : ByteArray).toList == (⟨ys.toArray⟩ : ByteArray).toList) = decide (xs = ys) := by
  rw [Lib.toList_data, Lib.toList_data]
  show (xs == ys) = _
  rw [Bool.eq_iff_iff, beq_iff_eq, decide_eq_true_eq]
end Go.Proofs.Ytgdmmhdihgajkaa
/- All but some blocks lies as it did; a block's cells by its whole. -/
namespace Go.Proofs.Ytgdmmhdihgajkaa
set_option linter.unusedVariables false
open Go.RowKit
/-- A pointer to a block, or none. -/
def ptrO : Option Nat → Value
  | none => .pointer none
  | some k => .pointer (some ⟨k, 0, none⟩)
theorem ptrO_map (o : Option Nat) : ptrO o = .pointer (o.map fun k => ⟨k, 0, none⟩) := by cases o <;> rfl
/-- All but the blocks of F lies as it did; blocks may be new. -/
structure UpdF (F : Nat → Prop) (w w' : World) : Prop where
  os : w'.os = w.os
  tape : w'.tape = w.tape
  output : w'.output = w.output
  size : w.heap.size ≤ w'.heap.size
  block : ∀ k, k < w.heap.size → ¬ F k → w'.heap[k]? = w.heap[k]?
theorem UpdF.refl (F : Nat → Prop) (w : World) : UpdF F w w := ⟨rfl, rfl, rfl, Nat.le_refl _, fun _ _ _ => rfl⟩
theorem UpdF.trans {F : Nat → Prop} {x y z : World} (h : UpdF F x y) (k : UpdF F y z) : UpdF F x z :=
  ⟨k.os.trans h.os, k.tape.trans h.tape, k.output.trans h.output, Nat.le_trans h.size k.size, fun i hi hn => (k.block i (Nat.lt_of_lt_of_le hi h.size) hn).trans (h.block i hi hn)⟩
/-- What comes behind may write what is new, too. -/
theorem UpdF.then {F G : Nat → Prop} {x y z : World} (h : UpdF F x y) (k : UpdF G y z) (hG : ∀ i, G i → F i ∨ x.heap.size ≤ i) : UpdF F x z :=
  ⟨k.os.trans h.os, k.tape.trans h.tape, k.output.trans h.output, Nat.le_trans h.size k.size, fun i hi hn => (k.block i (Nat.lt_of_lt_of_le hi h.size) fun g => by
    rcases hG i g with g | g
    · exact hn g
    · omega).trans (h.block i hi hn)⟩
theorem UpdF.of {F : Nat → Prop} {w w' : World} (h : Below w.heap.size w w') : UpdF F w w' := ⟨h.os, h.tape, h.output, h.size, fun k hk _ => h.block k hk⟩
theorem UpdF.drew {F : Nat → Prop} {w w' : World} (h : UpdF F w w') : UpdF F w w'.drew := ⟨h.os, h.tape, h.output, h.size, h.block⟩
theorem UpdF.set {F : Nat → Prop} {w w' : World} (h : UpdF F w w') (b o : Nat) (v : Value) (hb : F b) : UpdF F w (w'.setCell ⟨b, o, none⟩ v) :=
  ⟨h.os, h.tape, h.output, by simpa [World.setCell] using h.size, fun k hk hn => (Below.heap_setCell _ _ _ _ (fun e => hn (by rw [show k = b from e]; exact hb))).trans (h.block k hk hn)⟩
theorem UpdF.grown {F : Nat → Prop} {w w' : World} {row : Option Nat} (h : w.grownBy w' row) (hF : ∀ k, row = some k → F k) : UpdF F w w' :=
  ⟨h.os, h.tape, h.output, h.size, fun k hk hn => h.block k hk (fun e => hn (hF k e.symm))⟩
theorem UpdF.below {F : Nat → Prop} {B : Nat} {w w' : World} (h : UpdF F w w') (hB : B ≤ w.heap.size) (hF : ∀ k, k < B → ¬ F k) : Below B w w' := ⟨h.os, h.tape, h.output, h.size, fun k hk => h.block k (by omega) (hF k hk)⟩
theorem UpdF.mono {F G : Nat → Prop} {w w' : World} (h : UpdF F w w') (hF : ∀ k, k < w.heap.size → F k → G k) : UpdF G w w' := ⟨h.os, h.tape, h.output, h.size, fun k hk hn => h.block k hk fun f => hn (hF k hk f)⟩
theorem row_same {w w' : World} {B E size : Nat} {v : Value} {n : Nat} {xs : List Value} (h : w.ownsRow B E size v n xs) (hk : ∀ k, v.ownBlock = some k → w'.heap[k]? = w.heap[k]?) : w'.ownsRow B E size v n xs := by
  obtain ⟨h1, h2⟩ := h
  refine ⟨h1, ?_⟩
  rcases h2 with h2 | ⟨g, cap, cur, e1, e2, e3, e4⟩
  · exact .inl h2
  · refine .inr ⟨g, cap, cur, e1, e2, ?_, e4⟩
    rw [hk g (by rw [e1]; rfl)]; exact e3
theorem row_lt {w : World} {B E size : Nat} {v : Value} {n : Nat} {xs : List Value} (h : w.ownsRow B E size v n xs) : ∀ k, v.ownBlock = some k → k < w.heap.size := by
  intro k hk
  rcases h.2 with ⟨e, _⟩ | ⟨g, cap, cur, e1, e2, e3, e4⟩
  · rw [e] at hk; cases hk
  · rw [e1] at hk
    obtain rfl : g = k := Option.some.inj hk
    exact (Array.getElem?_eq_some_iff.1 e3).1
theorem rdV_upd {F : Nat → Prop} {w w' : World} {v : Value} {vs : List Value} (h : RdV w v vs) (u : UpdF F w w') (hd : ∀ k, v.ownBlock = some k → ¬ F k) : RdV w' v vs := by
  rcases h with h | ⟨b, off, cap, h1, h2, h3, h4, h5, h6⟩
  · exact .inl h
  · refine .inr ⟨b, off, cap, h1, h2, h3, h4, Nat.lt_of_lt_of_le h5 u.size, fun i hi => ?_⟩
    rw [← h6 i hi]
    exact World.cell?_of_block (u.block b h5 (hd b (by rw [h1]; rfl)))
theorem cells_at {w : World} {b : Nat} {vs : Array Value} {t : TypeId} (h : w.heap[b]? = some (.cells vs t (0, 0))) (i : Nat) : w.cell? ⟨b, i, none⟩ = vs[i]? := by
  unfold World.cell?; rw [h]; simp
theorem cells_free {w : World} {b : Nat} {vs : Array Value} {t : TypeId} (h : w.heap[b]? = some (.cells vs t (0, 0))) (i : Nat) : w.frozen? ⟨b, i, none⟩ = false := by
  unfold World.frozen?; rw [h]; simp
theorem cells_set {w : World} {b o : Nat} {vs : Array Value} {t : TypeId} (h : w.heap[b]? = some (.cells vs t (0, 0))) (v : Value) : (w.setCell ⟨b, o, none⟩ v).heap[b]? = some (.cells (vs.setIfInBounds o v) t (0, 0)) := by
  unfold World.setCell
  simp only [Array.getElem?_modify, if_true, h, Option.map_some]
  simp
end Go.Proofs.Ytgdmmhdihgajkaa
/- The walks of strings.Compare and ckey.Compare; what they tell of the order by bytes. -/
namespace Go.Proofs.Ytgdmmhdihgajkaa
set_option linter.unusedVariables false
open Go.RowKit
open Go.Lib (compareBytes)
theorem cmpL_lt : ∀ a b : List UInt8, a < b → compareBytes a b = -1 ∧ compareBytes b a = 1
  | [], [], h => absurd h (List.lt_irrefl _)
  | [], _ :: _, _ => ⟨rfl, rfl⟩
  | _ :: _, [], h => by cases h
  | a :: aa, b :: bs, h => by
    unfold compareBytes
    rcases List.cons_lt_cons_iff.1 h with h1 | ⟨rfl, h1⟩
    · have h2 : ¬ b < a := fun k => absurd (UInt8.lt_trans h1 k) (UInt8.lt_irrefl _)
      rw [if_pos h1, if_neg h2, if_pos h1]; exact ⟨rfl, rfl⟩
    · simp only [if_neg (UInt8.lt_irrefl a)]; exact cmpL_lt aa bs h1
theorem cmpL_self : ∀ a : List UInt8, compareBytes a a = 0
  | [] => rfl
  | a :: aa => by unfold compareBytes; rw [if_neg (UInt8.lt_irrefl a), if_neg (UInt8.lt_irrefl a)]; exact cmpL_self aa
set_option maxHeartbeats 1000000 in
set_option maxRecDepth 100000 in
theorem bcmp_any (a b : ByteArray) (w : World) :
    Calls Try.prog 82 #[.string a, .string b] w fun e w' => e = .returned (.int .i64 (compareBytes a.data.toList b.data.toList)) ∧ w = w' := by
  go_enter Try.func82, Try.ntmps82
  go_wp2
  rw [run_callFunc_extern Try.func88 (by kernel_rfl) (by kernel_rfl) (by kernel_rfl) (e := Extern.BytealgCompare.compare) (by kernel_rfl), Lib.run_compareString]
  simp only [Result.andThen]
  rw [Oper.upon_value]
  go_wp2
  go_ret
  exact ⟨rfl, rfl⟩
set_option maxHeartbeats 1000000 in
theorem scmp_any (a b : ByteArray) (w : World) :
    Calls Try.prog 70 #[.string a, .string b] w fun e w' => e = .returned (.int .i64 (compareBytes a.data.toList b.data.toList)) ∧ w = w' := by
  go_enter Try.func70, Try.ntmps70
  go_wp2_with (go_at_call 82; refine (bcmp_any _ _ _).mono ?_; rintro e w' ⟨rfl, rfl⟩)
  go_ret
  exact ⟨rfl, rfl⟩
end Go.Proofs.Ytgdmmhdihgajkaa
/- The walk of the laws' Cut. -/
namespace Go.Proofs.Ytgdmmhdihgajkaa
set_option linter.unusedVariables false
open Go.RowKit
set_option maxHeartbeats 400000 in
theorem cut_any (s : ByteArray) (n : Nat) (hn : n ≤ 1000000) (hs : s.size ≤ maxLen) (w : World) :
    Calls Try.prog 29 #[.string s, .int .i64 n] w fun e w' => ∃ t : ByteArray, e = .returned (.string t) ∧ t.size ≤ n ∧ w = w' := by
  go_enter Try.func29, Try.ntmps29
  go_wp2
  · go_ret
    exact ⟨_, rfl, by rw [ByteArray.size_extract]; omega, rfl⟩
  · go_ret
    exact ⟨_, rfl, by omega, rfl⟩
set_option maxHeartbeats 400000 in
/-- the same text at each call -/
theorem cut_fix (s : ByteArray) (n : Nat) (hn : n ≤ 1000000) (hs : s.size ≤ maxLen) :
    ∃ t : ByteArray, t.size ≤ n ∧ ∀ w, Calls Try.prog 29 #[.string s, .int .i64 n] w fun e w' => e = .returned (.string t) ∧ w' = w := by
  by_cases h : n < s.size
  · refine ⟨s.extract 0 n, by rw [ByteArray.size_extract]; omega, fun w => ?_⟩
    have hi : (n : Int) < (s.size : Int) := by omega
    go_enter Try.func29, Try.ntmps29
    go_wp2
    go_ret
    exact ⟨rfl, rfl⟩
  · refine ⟨s, by omega, fun w => ?_⟩
    have hi : ¬ (n : Int) < (s.size : Int) := by omega
    go_enter Try.func29, Try.ntmps29
    go_wp2
    go_ret
    exact ⟨rfl, rfl⟩
end Go.Proofs.Ytgdmmhdihgajkaa
/- strings.Clone: a copy of a text; the library's contract, laid at this program. -/
namespace Go.Proofs.Ytgdmmhdihgajkaa
open Go.Shelf Go.RowKit
set_option linter.unusedVariables false
def cloneRen : Go.Shelf.Ren := ⟨fun | 316 => 65 | n => n, fun | 0 => 0 | 3 => 3 | 4 => 4 | 5 => 5 | 9 => 9 | 37 => 47 | 127 => 104 | n => n, fun | n => n⟩
theorem cloneLay : Go.Proofs.LaysM.n316 Try.prog cloneRen := {
  mixed := by kernel_rfl
  f316 := Try.func65.trans (congrArg some (by kernel_rfl))
  t0 := Try.underlying0
  a0 := Try.isAgg0
  z0 := Try.sizeOf0
  v0 := Try.zeroValue0
  t3 := Try.underlying3
  a3 := Try.isAgg3
  z3 := Try.sizeOf3
  v3 := Try.zeroValue3
  t4 := Try.underlying4
  a4 := Try.isAgg4
  z4 := Try.sizeOf4
  v4 := Try.zeroValue4
  t9 := Try.underlying9
  a9 := Try.isAgg9
  z9 := Try.sizeOf9
  v9 := Try.zeroValue9
  t37 := Try.underlying47
  a37 := Try.isAgg47
  z37 := Try.sizeOf47
  v37 := Try.zeroValue47
  t127 := Try.underlying104
  a127 := Try.isAgg104
  z127 := Try.sizeOf104
  v127 := Try.zeroValue104
  t5 := Try.underlying5
  a5 := Try.isAgg5
  z5 := Try.sizeOf5
  v5 := Try.zeroValue5
  i0 := by kernel_rfl
  i3 := by kernel_rfl
  i4 := by kernel_rfl
  i5 := by kernel_rfl
  i9 := by kernel_rfl
  i37 := by kernel_rfl
  i127 := by kernel_rfl }
set_option maxHeartbeats 1000000 in
theorem clone_any (s : ByteArray) (w : World) (hs : s.size ≤ 281474976710656) : Calls Try.prog 59 #[.string s] w fun e w' => e = .returned (.string s) ∧ Below w.heap.size w w' := by
  have H := Lib.hid (Any.stringslite_Clone cloneLay s w hs)
  clear hs
  go_enter Try.func59, Try.ntmps59
  go_wp2_with fail
  refine H.out.mono ?_
  rintro e w1 ⟨rfl, hb⟩
  go_wp2_with fail
  go_ret
  exact ⟨rfl, hb⟩
end Go.Proofs.Ytgdmmhdihgajkaa
/- append onto a slice of bytes that others may hold, too: what block the new slice lies in, and that nothing else was written. -/
namespace Go.Proofs.Ytgdmmhdihgajkaa
set_option linter.unusedVariables false
open Go.RowKit
theorem grown_refl (w : World) (row : Option Nat) : w.grownBy w row := ⟨rfl, rfl, rfl, Nat.le_refl _, fun _ _ _ => rfl⟩
theorem run_appG {P : Program} {t E k bytes ty : Nat} {z : Value} (F : ElemK P t E k bytes z) {w : World} {v : Value} {n : Nat} {xs : List Value} (hown : w.ownsRow 0 E k v n xs) (ad : Addr) (m c : Nat) (us : List Value)
    (hl : us.length = m * k) (hc : ∀ j u, us[j]? = some u → w.cell? (ad.add j) = some u) (h1 : ∀ u ∈ us, u.oneCell' = true) (hm : n + m ≤ maxLen) (hb : (n + m) * bytes ≤ 140737488355328) :
    ∃ v' w', (Builtin.append_ #[t, t] ty #[v, .slice (some ad) m c]).run P w = .ok v' w' ∧ w'.ownsRow 0 E k v' (n + m) (xs ++ us) ∧ w.grownBy w' v.ownBlock ∧ ∀ g, v'.ownBlock = some g → v.ownBlock = some g ∨ w.heap.size ≤ g := by
  obtain ⟨f1, f3, f4, i0, hi, hz0, hz1, hz2⟩ := F.parts
  obtain ⟨v', w', g0, g1, g2, g3⟩ := run_append_own w 0 t ty E i0 z k bytes f1 hi hz0 hz1 hz2 f3 f4 v n xs hown ad m c us hl hc h1 hm hb (Nat.zero_le _)
  refine ⟨v', w', g0, g1, g2, ?_⟩
  have hmm : n + m ≤ 9223372036854775807 := by simp only [maxLen] at hm; omega
  rcases hown.2 with ⟨rfl, rfl⟩ | ⟨g, cap, cur, rfl, hbg, hg, hnc, hcm, hcs, htake⟩
  · by_cases h0 : m = 0
    · rw [g3.2 ⟨rfl, h0⟩]; intro g hg; cases hg
    · have hr := run_append_nil (P := P) w t ty E i0 z f1 hi hz0 ad m c us (by rw [hz1]; exact hl) hc (by omega) (by omega) (by rw [hz2]; have hb' := hb; simp only [Nat.zero_add] at hb'; omega)
      rw [hr] at g0
      injection g0 with g0 _
      rw [← g0]
      intro g hg
      obtain rfl : w.heap.size = g := Option.some.inj hg
      exact .inr (Nat.le_refl _)
  · by_cases hroom : n + m ≤ cap
    · have hr := run_append_room (P := P) w t ty E i0 f1 hi g n cap cur hg ad m c us (by rw [hz1]; exact hl) hc h1 hroom (by rw [hz1, hl, hcs, ← Nat.add_mul]; exact Nat.mul_le_mul_right _ hroom)
      rw [hr] at g0
      injection g0 with g0 _
      rw [← g0]
      intro g' hg'
      exact .inl hg'
    · have holds : ∀ j u, xs[j]? = some u → w.cell? ((⟨g, 0, none⟩ : Addr).add j) = some u := hown.cells (g := g) rfl
      have hr := run_append_grow (P := P) w t ty E i0 z f1 hi hz0 ⟨g, 0, none⟩ n cap xs (by rw [hz1]; exact hown.1) holds ad m c us (by rw [hz1]; exact hl) hc (by omega) (by omega) (by rw [hz2]; exact growslice_fits (by omega) hb)
      rw [hr] at g0
      injection g0 with g0 _
      rw [← g0]
      intro g' hg'
      obtain rfl : w.heap.size = g' := Option.some.inj hg'
      exact .inr (Nat.le_refl _)
theorem elemK_u8 : ElemK Try.prog 47 5 1 1 (.int .u8 0) := ⟨elem_u8.1, elem_u8.2.1, rfl, by decide⟩
/-- 'append(b, c...)', b a file's bytes. -/
theorem run_appGB {ty : Nat} {w : World} {v src : Value} {bs cs : List UInt8} (hown : OwnB 0 w v bs) (hs : RdB w src cs) (hlen : bs.length + cs.length ≤ 140737488355328) :
    ∃ v' w', (Builtin.append_ #[47, 47] ty #[v, src]).run Try.prog w = .ok v' w' ∧ OwnB 0 w' v' (bs ++ cs) ∧ w.grownBy w' v.ownBlock ∧ ∀ g, v'.ownBlock = some g → v.ownBlock = some g ∨ w.heap.size ≤ g := by
  have hown' : w.ownsRow 0 5 1 v bs.length (bs.map bv) := by have := hown; unfold OwnB OwnV at this; rwa [List.length_map] at this
  have hm : bs.length + cs.length ≤ maxLen := by unfold maxLen; omega
  have fin : ∀ (ad : Addr) (m c : Nat), src = .slice (some ad) m c → cs.length = m → (∀ j u, (cs.map bv)[j]? = some u → w.cell? (ad.add j) = some u) → ∃ v' w', (Builtin.append_ #[47, 47] ty #[v, src]).run Try.prog w = .ok v' w' ∧ OwnB 0 w' v' (bs ++ cs) ∧ w.grownBy w' v.ownBlock ∧ ∀ g, v'.ownBlock = some g → v.ownBlock = some g ∨ w.heap.size ≤ g := by
    rintro ad m c rfl rfl hc
    obtain ⟨v', w', g0, g1, g2, g3⟩ := run_appG (ty := ty) elemK_u8 hown' ad cs.length c (cs.map bv) (by rw [List.length_map, Nat.mul_one]) hc (bv_cells cs) hm (by omega)
    refine ⟨v', w', g0, ?_, g2, g3⟩
    unfold OwnB OwnV
    rw [List.length_map, List.length_append, List.map_append]; exact g1
  rcases hs with ⟨a, cap, rfl, e⟩ | ⟨b, off, cap, rfl, h1, h2, h3, h4, h5⟩
  · have hcs : cs = [] := by simpa using e
    subst hcs
    cases a with
    | some ad => exact fin ad 0 cap rfl rfl (fun j u hj => by simp at hj)
    | none =>
      refine ⟨v, w, ?_, by rw [List.append_nil]; exact hown, grown_refl _ _, fun g hg => .inl hg⟩
      obtain ⟨f1, f3, f4, i0, hi, hz0, hz1, hz2⟩ := elemK_u8.parts
      rcases OwnV.nilOr hown with ⟨rfl, e⟩ | ⟨g, c, rfl, -, -, hlc, -⟩
      · simp [Builtin.append_, run_underlying f1, sizeOf, typeInfo, hi, Builtin.lenOf, Builtin.firstCells]
      · rw [List.length_map] at hlc
        simp [Builtin.append_, run_underlying f1, sizeOf, typeInfo, hi, Builtin.lenOf, Builtin.firstCells, hlc, storeCells]
  · rw [List.length_map] at h1 h2 h5
    have hc : ∀ j u, (cs.map bv)[j]? = some u → w.cell? ((⟨b, off, none⟩ : Addr).add j) = some u := fun j u hj => by
      obtain ⟨hlt, hget⟩ := List.getElem?_eq_some_iff.1 hj
      rw [List.length_map] at hlt
      rw [add_at, h5 j hlt, List.getD_eq_getElem?_getD, hj]; rfl
    exact fin ⟨b, off, none⟩ cs.length cap (by rw [List.length_map]) rfl hc
/-- A row in one block holds while another is written. -/
theorem OwnV.kept {E B : Nat} {w w' : World} {row : Option Nat} {v : Value} {vs : List Value} (h : OwnV E B w v vs) (hg : w.grownBy w' row) (hne : ∀ g, v.ownBlock = some g → row ≠ some g) : OwnV E B w' v vs := by
  refine World.ownsRow.kept h hg ?_
  cases hv : v.ownBlock with
  | none => exact .inl rfl
  | some g => exact .inr fun e => hne g hv e.symm
theorem OwnB.kept {B : Nat} {w w' : World} {row : Option Nat} {v : Value} {bs : List UInt8} (h : OwnB B w v bs) (hg : w.grownBy w' row) (hne : ∀ g, v.ownBlock = some g → row ≠ some g) : OwnB B w' v bs := OwnV.kept h hg hne
/-- Where a slice of the call's own lies. -/
theorem OwnV.where {E B : Nat} {w : World} {v : Value} {vs : List Value} (h : OwnV E B w v vs) (g : Nat) (hg : v.ownBlock = some g) : B ≤ g ∧ g < w.heap.size := by
  rcases h.nilOr with ⟨rfl, -⟩ | ⟨g', cap, rfl, h1, h2, -⟩
  · cases hg
  · obtain rfl : g' = g := Option.some.inj hg
    exact ⟨h1, h2⟩
theorem OwnB.where {B : Nat} {w : World} {v : Value} {bs : List UInt8} (h : OwnB B w v bs) (g : Nat) (hg : v.ownBlock = some g) : B ≤ g ∧ g < w.heap.size := OwnV.where h g hg
theorem OwnV.rebase {E B B' : Nat} {w : World} {v : Value} {vs : List Value} (h : OwnV E B w v vs) (hb : ∀ g, v.ownBlock = some g → B' ≤ g) : OwnV E B' w v vs := by
  obtain ⟨h1, h2⟩ := h
  refine ⟨h1, ?_⟩
  rcases h2 with h2 | ⟨g, cap, cur, e1, e2, e3⟩
  · exact .inl h2
  · exact .inr ⟨g, cap, cur, e1, hb g (by rw [e1]; rfl), e3⟩
/-- 'append(b, c...)', with the block the new slice lies in. -/
theorem wp_appGB {ops : Array Oper} {rest : List Oper} {o : Oper} {a : Act} {w : World} {Q : Exit → Act → World → Prop} (s x : Operand) (ho : o.op = .call { callee := .builtin .append, args := #[s, x], argTypes := #[47, 47] }) (hw : Region.wanted o (yielded ops a.tmps) = true)
    {B : Nat} {v : Value} {bs : List UInt8} (hs : a.eval s = v) (hown : OwnB B w v bs) {src : Value} {cs : List UInt8} (hx : a.eval x = src) (hr : RdB w src cs) (hlen : bs.length + cs.length ≤ 140737488355328) (hB : B ≤ w.heap.size)
    (h : ∀ v' w', OwnB B w' v' (bs ++ cs) → Below B w w' → w.grownBy w' v.ownBlock → (∀ g, v'.ownBlock = some g → v.ownBlock = some g ∨ w.heap.size ≤ g) → wpList Try.prog ops Q rest (a.put o.dst v') w') : wpList Try.prog ops Q (o :: rest) a w := by
  refine wpList_step fun K hK => ?_
  rw [if_pos hw]
  obtain ⟨v', w', hr, h2, h3, h4⟩ := run_appGB (ty := o.type) (hown.base (Nat.zero_le _)) hr hlen
  unfold Oper.wp execOp
  simp only [ho, resolve, invoke, builtin, Sem.run_bind, Sem.run_pure, Result.andThen_ok, List.map_toArray, List.map_cons, List.map_nil, hs, hx, hr]
  refine hK _ _ (h v' w' (OwnV.rebase h2 fun g hg => ?_) ((Below.refl B w).grown h3 hB fun k hk => (hown.where k hk).1) h3 h4)
  rcases h4 g hg with h5 | h5
  · exact (hown.where g h5).1
  · omega
end Go.Proofs.Ytgdmmhdihgajkaa
/- 'append([]byte(nil), make([]byte, n)...)'. -/
namespace Go.Proofs.Ytgdmmhdihgajkaa
set_option linter.unusedVariables false
open Go.RowKit
theorem zero_list (n : Nat) : (Builtin.zeroCells (Value.int .u8 0).cells n).toList = List.replicate n (.int .u8 0) := by
  have e : (Value.int .u8 0).cells = #[.int .u8 0] := rfl
  rw [e]
  unfold Builtin.zeroCells
  simp only [Array.toList_map, Array.toList_range]
  have : ∀ i, (#[Value.int .u8 0] : Array Value)[i % (#[Value.int .u8 0] : Array Value).size]! = Value.int .u8 0 := fun i => by
    show (#[Value.int .u8 0] : Array Value)[i % 1]! = _
    rw [Nat.mod_one]; rfl
  simp only [this]
  rw [List.map_const', List.length_range]
  show List.replicate (n * 1) _ = _
  rw [Nat.mul_one]
theorem app_zeros {ty : Nat} (w : World) (n : Nat) (h0 : 0 < n) (hn : n ≤ 1000000000000) :
    ∃ v' w', (Builtin.append_ #[47, 3] ty #[.slice none 0 0, .int .i64 (n : Int)]).run Try.prog w = .ok v' w' ∧ OwnB w.heap.size w' v' (List.replicate n 0) ∧ Below w.heap.size w w' := by
  obtain ⟨f1, f2, f3⟩ := elem_u8
  obtain ⟨i0, hi, hz0, hz1, hz2⟩ := info_parts f2
  refine ⟨_, _, Lib.run_append_nil_zeros w 47 3 ty 5 i0 (.int .u8 0) .i64 .i64 f1 Try.underlying3 hi hz0 n h0 (by omega) (by omega) (by rw [hz2]; omega), ?_, ?_⟩
  · refine ⟨by rw [List.length_map, List.length_replicate]; omega, .inr ⟨w.heap.size, grownCap w n 0 5, _, ?_, Nat.le_refl _, heap_alloc_new .., ?_, ?_, ?_, ?_⟩⟩
    · rw [List.length_map, List.length_replicate]
    · rw [List.length_map, List.length_replicate]; exact grownCap_ge ..
    · exact grownCap_le_maxLen w n 0 _ (by unfold maxLen; omega)
    · rw [Array.size_append, size_zeroCells, size_zeroCells]
      have := grownCap_ge w n 0 5
      show n * 1 + (grownCap w n 0 5 - n) * 1 = _
      omega
    · rw [Array.toList_append, zero_list, List.length_map, List.length_replicate, Nat.mul_one, List.take_append_of_le_length (by rw [List.length_replicate]; exact Nat.le_refl _), List.take_of_length_le (by rw [List.length_replicate]; exact Nat.le_refl _), List.map_replicate]
      rfl
  · exact ((DrN.below ⟨1, rfl⟩ w.heap.size : Below w.heap.size w w.drew)).alloc (Nat.le_refl _) _
end Go.Proofs.Ytgdmmhdihgajkaa
/- A whole block of memory, by its cells. -/
namespace Go.Proofs.Ytgdmmhdihgajkaa
set_option linter.unusedVariables false
open Go.RowKit
def BlkAt (w : World) (b : Nat) (vs : Array Value) (t : TypeId) : Prop := w.heap[b]? = some (.cells vs t (0, 0))
theorem BlkAt.lt {w : World} {b : Nat} {vs : Array Value} {t : TypeId} (h : BlkAt w b vs t) : b < w.heap.size := (Array.getElem?_eq_some_iff.1 h).1
theorem BlkAt.below {w w' : World} {b : Nat} {vs : Array Value} {t : TypeId} (h : BlkAt w b vs t) (u : Below w.heap.size w w') : BlkAt w' b vs t := (u.block b h.lt).trans h
theorem BlkAt.at {w : World} {b : Nat} {vs : Array Value} {t : TypeId} (h : BlkAt w b vs t) (i : Nat) : w.cell? ⟨b, i, none⟩ = vs[i]? := cells_at h i
theorem BlkAt.free {w : World} {b : Nat} {vs : Array Value} {t : TypeId} (h : BlkAt w b vs t) (i : Nat) : w.frozen? ⟨b, i, none⟩ = false := cells_free h i
theorem BlkAt.set {w : World} {b o : Nat} {vs : Array Value} {t : TypeId} (h : BlkAt w b vs t) (v : Value) : BlkAt (w.setCell ⟨b, o, none⟩ v) b (vs.setIfInBounds o v) t := cells_set h v
theorem BlkAt.other {w : World} {b c o : Nat} {vs : Array Value} {t : TypeId} (h : BlkAt w b vs t) (v : Value) (hn : b ≠ c) : BlkAt (w.setCell ⟨c, o, none⟩ v) b vs t := (Below.heap_setCell _ _ _ _ hn).trans h
theorem BlkAt.new (w : World) (vs : Array Value) (t : TypeId) : BlkAt (w.alloc (.cells vs t)) w.heap.size vs t := heap_alloc_new w (.cells vs t)
theorem BlkAt.more {w : World} {b : Nat} {vs : Array Value} {t : TypeId} (h : BlkAt w b vs t) (o : Obj) : BlkAt (w.alloc o) b vs t := h.below ((Below.refl _ w).alloc (Nat.le_refl _) o)
end Go.Proofs.Ytgdmmhdihgajkaa
/- Slices of slices of bytes that read as these. -/
namespace Go.Proofs.Ytgdmmhdihgajkaa
set_option linter.unusedVariables false
open Go.RowKit
/-- v is a row of slices that read as these. -/
def RdRecs (w : World) (v : Value) (bss : List (List UInt8)) : Prop :=
  ∃ vs : List Value, RdV w v vs ∧ vs.length = bss.length ∧ ∀ (i : Nat) (u : Value) (bs : List UInt8), vs[i]? = some u → bss[i]? = some bs → RdB w u bs
theorem RdRecs.below {w w' : World} {v : Value} {bss : List (List UInt8)} (h : RdRecs w v bss) (hb : Below w.heap.size w w') : RdRecs w' v bss := by
  obtain ⟨vs, h1, h2, h3⟩ := h
  exact ⟨vs, h1.below hb, h2, fun i u bs hu hb' => (h3 i u bs hu hb').below hb⟩
theorem RdRecs.len {w : World} {a : Option Addr} {n cap : Nat} {bss : List (List UInt8)} (h : RdRecs w (.slice a n cap) bss) : n = bss.length := by
  obtain ⟨vs, h1, h2, -⟩ := h
  rw [← h2]; exact (rdV_len h1).1
theorem RdRecs.form {w : World} {v : Value} {bss : List (List UInt8)} (h : RdRecs w v bss) : ∃ a cap, v = .slice a bss.length cap := by
  obtain ⟨vs, h1, h2, -⟩ := h
  rcases h1 with ⟨a, cap, rfl, e⟩ | ⟨b, off, cap, rfl, -⟩
  · exact ⟨a, cap, by rw [← h2, e]; rfl⟩
  · exact ⟨_, cap, by rw [← h2]⟩
/-- the first j of them, as 's[:j]' tells them. -/
theorem RdRecs.take {w : World} {a : Option Addr} {n cap : Nat} {bss : List (List UInt8)} (h : RdRecs w (.slice a n cap) bss) (j : Nat) (hj : j ≤ n) : RdRecs w (.slice a j cap) (bss.take j) := by
  have hn := h.len
  obtain ⟨vs, h1, h2, h3⟩ := h
  refine ⟨vs.take j, ?_, by rw [List.length_take, List.length_take, h2], fun i u bs hu hb => ?_⟩
  · rcases Nat.eq_zero_or_pos j with h0 | h0
    · subst h0; exact .inl ⟨a, cap, rfl, by simp⟩
    · rcases id h1 with ⟨_, _, e, e2⟩ | ⟨b, off, c, e, _⟩
      · simp only [Value.slice.injEq] at e; omega
      · simp only [Value.slice.injEq] at e
        obtain ⟨rfl, -, rfl⟩ := e
        exact rdV_take h1 j hj
  · rw [List.getElem?_take] at hu hb
    split at hu
    · rename_i hij
      rw [if_pos hij] at hb
      exact h3 i u bs hu hb
    · cases hu
/-- One of them. -/
theorem RdRecs.at {w : World} {a : Option Addr} {n cap : Nat} {bss : List (List UInt8)} (h : RdRecs w (.slice a n cap) bss) (i : Nat) (bs : List UInt8) (hi : bss[i]? = some bs) :
    ∃ g off u, a = some ⟨g, off, none⟩ ∧ g < w.heap.size ∧ w.cell? ⟨g, off + i, none⟩ = some u ∧ RdB w u bs := by
  obtain ⟨vs, h1, h2, h3⟩ := h
  have hlt : i < vs.length := by rw [h2]; exact (List.getElem?_eq_some_iff.1 hi).1
  have hu : vs[i]? = some vs[i] := List.getElem?_eq_getElem hlt
  obtain ⟨g, off, rfl, hg, hc⟩ := rdV_cells h1 (by omega)
  refine ⟨g, off, vs[i], rfl, hg, ?_, h3 i _ _ hu hi⟩
  rw [hc i hlt, List.getD_eq_getElem?_getD, hu]; rfl
end Go.Proofs.Ytgdmmhdihgajkaa
/- The walks of the library's Grow and Concat at slices of bytes. -/
namespace Go.Proofs.Ytgdmmhdihgajkaa
set_option linter.unusedVariables false
set_option maxRecDepth 100000
open Go.RowKit
/-- 'append', by what it gives. -/
theorem wp_appZ {P : Program} {ops : Array Oper} {rest : List Oper} {o : Oper} {a : Act} {w w' : World} {Q : Exit → Act → World → Prop} {v src v' : Value} {t u : TypeId} (s x : Operand) (ho : o.op = .call { callee := .builtin .append, args := #[s, x], argTypes := #[t, u] }) (hw : Region.wanted o (yielded ops a.tmps) = true)
    (hs : a.eval s = v) (hx : a.eval x = src) (hr : (Builtin.append_ #[t, u] o.type #[v, src]).run P w = .ok v' w') (h : wpList P ops Q rest (a.put o.dst v') w') : wpList P ops Q (o :: rest) a w := by
  refine wpList_step fun K hK => ?_
  rw [if_pos hw]
  unfold Oper.wp execOp
  simp only [ho, resolve, invoke, builtin, Sem.run_bind, Sem.run_pure, Result.andThen_ok, List.map_toArray, List.map_cons, List.map_nil, hs, hx, hr]
  exact hK _ _ h
/-- No bytes, with room. -/
theorem OwnB.none' {B : Nat} {w : World} {a : Option Addr} {n cap : Nat} {bs : List UInt8} (h : OwnB B w (.slice a n cap) bs) (hn : 0 < n) : OwnB B w (.slice a 0 cap) [] := by
  obtain ⟨h1, h2⟩ := h
  refine ⟨rfl, ?_⟩
  rcases h2 with ⟨e, e2⟩ | ⟨g, c, cur, e1, e2, e3, e4, e5, e6, e7⟩
  · simp only [Value.slice.injEq] at e; omega
  · simp only [Value.slice.injEq] at e1
    obtain ⟨rfl, rfl, rfl⟩ := e1
    exact .inr ⟨g, cap, cur, rfl, e2, e3, Nat.zero_le _, e5, e6, by simp⟩
theorem sum_take (l : List (List UInt8)) (i : Nat) (x : List UInt8) (h : l[i]? = some x) : ((l.take (i + 1)).flatMap id).length = ((l.take i).flatMap id).length + x.length ∧ (l.take (i + 1)).flatMap id = (l.take i).flatMap id ++ x := by
  rw [List.take_add_one, h, List.flatMap_append]
  simp
theorem bkSum_le (l : List (List UInt8)) (i : Nat) : ((l.take i).flatMap id).length ≤ (l.flatMap id).length := by
  have e : (l.take i).flatMap id ++ (l.drop i).flatMap id = l.flatMap id := by rw [← List.flatMap_append, List.take_append_drop]
  rw [← e, List.length_append]; omega
end Go.Proofs.Ytgdmmhdihgajkaa
/- A list made place by place. -/
namespace Go.Proofs.Ytgdmmhdihgajkaa
set_option linter.unusedVariables false
theorem listOf_each {α : Type} {P : Nat → α → Prop} : ∀ (n : Nat), (∀ i, i < n → ∃ e, P i e) → ∃ l : List α, l.length = n ∧ ∀ i e, l[i]? = some e → P i e
  | 0, _ => ⟨[], rfl, fun i e h => by simp at h⟩
  | n + 1, h => by
    obtain ⟨l, hl, hp⟩ := listOf_each n fun i hi => h i (by omega)
    obtain ⟨e, he⟩ := h n (by omega)
    refine ⟨l ++ [e], by simp [hl], fun i x hx => ?_⟩
    rcases Nat.lt_or_ge i n with h1 | h1
    · rw [List.getElem?_append_left (by omega)] at hx
      exact hp i x hx
    · rw [List.getElem?_append_right (by omega)] at hx
      have h2 : i - l.length = 0 := by
        have := (List.getElem?_eq_some_iff.1 hx).1
        simp at this; omega
      rw [h2] at hx
      obtain rfl : e = x := by simpa using hx
      obtain rfl : i = n := by omega
      exact he
end Go.Proofs.Ytgdmmhdihgajkaa
