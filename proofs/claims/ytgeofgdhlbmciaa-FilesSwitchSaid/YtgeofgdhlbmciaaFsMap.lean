/- A directory as a map in memory: names to files' blocks. Look-up, delete, store, count, in plain words. -/
import Derived.Test.YtgeofgdhlbmciaaFsMath
import Derived.Test.YtgeofgdhlbmciaaRows
import Derived.Maps.OwnSet
import Derived.Sort.KeysCollected
import Derived.WalkKit
namespace Go.Proofs.Ytgeofgdhlbmciaa
set_option linter.unusedVariables false
open Go.RowKit Go.Maps Go.WideMaps
def litS (n : ByteArray) : Lit := .string n.data.toList
theorem litS_inj {a b : ByteArray} (h : litS a = litS b) : a = b := by
  unfold litS at h
  injection h with h
  exact ByteArray.ext (Array.toList_inj.1 h)
theorem litS_same (a b : ByteArray) : (litS a).sameKey (litS b) = decide (a = b) := by
  unfold litS Lit.sameKey
  rw [Bool.eq_iff_iff, beq_iff_eq, decide_eq_true_eq]
  exact ⟨fun h => ByteArray.ext (Array.toList_inj.1 h), fun h => by rw [h]⟩
theorem before_lt : ∀ (a b : List UInt8), bytesBefore a b = decide (a < b)
  | [], [] => rfl
  | [], _ :: _ => by simp [bytesBefore]
  | _ :: _, [] => by simp [bytesBefore]
  | a :: r, b :: s => by
    unfold bytesBefore
    rw [before_lt r s, Bool.eq_iff_iff]
    simp only [Bool.or_eq_true, decide_eq_true_eq, Bool.and_eq_true, beq_iff_eq, List.cons_lt_cons_iff]
theorem litS_before (a b : ByteArray) : (litS a).before (litS b) = decide (bl a b) := before_lt _ _
/-- The entry of a file's block. -/
def rawE (x : ByteArray × Nat) : Lit × DataW Unit := (litS x.1, .lit (.int .i64 (x.2 : Int)))
def rawD (l : Dir) : DataW Unit := .map (l.map rawE)
theorem ddel_cons (n : ByteArray) (y : ByteArray × Nat) (r : Dir) : ddel n (y :: r) = if y.1 = n then ddel n r else y :: ddel n r := rfl
theorem dget_cons (n : ByteArray) (y : ByteArray × Nat) (r : Dir) : dget n (y :: r) = if y.1 = n then some y.2 else dget n r := rfl
theorem dins_cons (x y : ByteArray × Nat) (r : Dir) : dins x (y :: r) = if bl x.1 y.1 then x :: y :: r else y :: dins x r := rfl
theorem raw_filter (n : ByteArray) : ∀ l : Dir, (l.map rawE).filter (fun p => !p.1.sameKey (litS n)) = (ddel n l).map rawE
  | [] => rfl
  | y :: r => by
    rw [List.map_cons, List.filter_cons]
    have : (rawE y).1.sameKey (litS n) = decide (y.1 = n) := litS_same _ _
    rw [this, raw_filter n r, ddel_cons]
    by_cases h : y.1 = n
    · rw [if_pos h, decide_eq_true h]; rfl
    · rw [if_neg h, decide_eq_false h]; rfl
theorem raw_del (n : ByteArray) (l : Dir) : (rawD l).del (litS n) = rawD (ddel n l) := congrArg DataW.map (raw_filter n l)
theorem raw_ins (x : ByteArray × Nat) : ∀ l : Dir, DataW.insert (rawE x) (l.map rawE) = (dins x l).map rawE
  | [] => rfl
  | y :: r => by
    rw [List.map_cons, dins_cons]
    unfold DataW.insert
    have : (rawE x).1.before (rawE y).1 = decide (bl x.1 y.1) := litS_before _ _
    rw [this]
    by_cases h : bl x.1 y.1
    · rw [if_pos h, decide_eq_true h]; rfl
    · rw [if_neg h, decide_eq_false h, raw_ins x r]; rfl
theorem raw_put (n : ByteArray) (i : Nat) (l : Dir) : (rawD l).put (litS n) (.lit (.int .i64 (i : Int))) = rawD (dput n i l) := by
  show DataW.map (DataW.insert (rawE (n, i)) ((l.map rawE).filter fun p => !p.1.sameKey (litS n))) = _
  rw [raw_filter, raw_ins]; rfl
theorem raw_find (n : ByteArray) : ∀ l : Dir, ((l.map rawE).find? fun p => p.1.sameKey (litS n)) = (dget n l).map fun i => (litS n, .lit (.int .i64 (i : Int)))
  | [] => rfl
  | y :: r => by
    have : (rawE y).1.sameKey (litS n) = decide (y.1 = n) := litS_same _ _
    rw [List.map_cons, List.find?_cons, this, dget_cons, raw_find n r]
    by_cases h : y.1 = n
    · rw [if_pos h, decide_eq_true h, ← h]; rfl
    · rw [if_neg h, decide_eq_false h]
theorem raw_at (n : ByteArray) (z : DataW Unit) (l : Dir) : (rawD l).atKey (litS n) z = match dget n l with | none => z | some i => .lit (.int .i64 (i : Int)) := by
  unfold rawD DataW.atKey
  simp only [raw_find n l]
  cases dget n l <;> rfl
theorem raw_size (l : Dir) : Maps.size (rawD l) = l.length := List.length_map _
theorem raw_keys (l : Dir) : strKeys (rawD l) = l.map fun x => x.1.data.toList := by
  show (l.map rawE).map (fun p => strOf p.1) = _
  rw [List.map_map]; rfl
/-- How a pointer to a file reads. -/
def ptrR : Value → Option (DataW Unit × List MemPlace)
  | .pointer none => some (.nil, [])
  | .pointer (some ⟨k, 0, none⟩) => some (.lit (.int .i64 (k : Int)), [])
  | _ => none
def ptrO : Option Nat → Value
  | none => .pointer none
  | some k => .pointer (some ⟨k, 0, none⟩)
theorem ptrR_some (k : Nat) : ptrR (ptrO (some k)) = some (.lit (.int .i64 (k : Int)), []) := rfl
theorem ptrR_inv {v : Value} {y : DataW Unit × List MemPlace} (h : ptrR v = some y) : ∃ o : Option Nat, v = ptrO o ∧ y = (match o with | none => .nil | some k => .lit (.int .i64 (k : Int)), []) := by
  unfold ptrR at h
  split at h
  · exact ⟨none, rfl, (Option.some.inj h).symm⟩
  · exact ⟨some _, rfl, (Option.some.inj h).symm⟩
  · cases h
theorem keyedN : Keyed Try.prog 9 := string_keyed Try.underlying9
theorem key_str {n : ByteArray} (h : n.size ≤ maxLen) : keyOf Try.prog 9 (.string n) = some (litS n) := keyOf_string_mk Try.underlying9 h
/-- Block k is a map that reads as l. -/
def MapAt (w : World) (k : Nat) (l : Dir) : Prop := w.ownsMap Try.prog 9 ptrR k l.length (rawD l)
theorem own_norm {w : World} {k n : Nat} {l : Dir} (h : w.ownsMap Try.prog 9 ptrR k n (rawD l)) : MapAt w k l := by
  obtain ⟨es, clock, hb, F, hs, hD⟩ := h
  refine ⟨es, clock, hb, F, ?_, hD⟩
  have h1 : Maps.size (rawD l) = es.size := by rw [hD]; exact length_read es
  rw [raw_size] at h1
  omega
theorem MapAt.lt {w : World} {k : Nat} {l : Dir} (h : MapAt w k l) : k < w.heap.size := World.ownsMap.lt h
theorem MapAt.same {w w' : World} {k : Nat} {l : Dir} (h : MapAt w k l) (hk : w'.heap[k]? = w.heap[k]?) : MapAt w' k l := by
  obtain ⟨es, clock, hb, F, hs, hD⟩ := h
  exact ⟨es, clock, hk.trans hb, F, hs, hD⟩
/-- A map, or nil. -/
def MB (w : World) (mb : Option Nat) (l : Dir) : Prop := match mb with
  | none => l = []
  | some k => MapAt w k l
theorem MB.same {w w' : World} {mb : Option Nat} {l : Dir} (h : MB w mb l) (hk : ∀ k, mb = some k → w'.heap[k]? = w.heap[k]?) : MB w' mb l := by
  cases mb with
  | none => exact h
  | some k => exact MapAt.same h (hk k rfl)
theorem MB.lt {w : World} {mb : Option Nat} {l : Dir} (h : MB w mb l) : ∀ k, mb = some k → k < w.heap.size := by
  rintro k rfl; exact MapAt.lt h
theorem MB.look {w : World} {mb : Option Nat} {l : Dir} (h : MB w mb l) (n : ByteArray) (hn : n.size ≤ maxLen) : (Instr.lookup 49 (.map mb) (.string n) false).run Try.prog w = .ok (ptrO (dget n l)) w := by
  cases mb with
  | none =>
    obtain rfl : l = [] := h
    exact look_nil false keyedN Try.underlying49 (Try.zeroValue43 w) (key_str hn)
  | some k =>
    obtain ⟨v, ps, hr, hv⟩ := World.ownsMap.lookup h keyedN Try.underlying49 (Try.zeroValue43 w) (zd := .nil) (zp := []) rfl (key_str hn)
    rw [raw_at] at hv
    obtain ⟨o, rfl, e⟩ := ptrR_inv hv
    rw [hr]
    congr 1
    cases hg : dget n l with
    | none =>
      rw [hg] at e
      cases o with
      | none => rfl
      | some j => simp at e
    | some i =>
      rw [hg] at e
      cases o with
      | none => simp at e
      | some j =>
        simp only [Prod.mk.injEq, DataW.lit.injEq, Lit.int.injEq, true_and] at e
        have : i = j := by have := e.1; omega
        rw [this]
theorem MB.len {w : World} {mb : Option Nat} {l : Dir} (h : MB w mb l) (ty : TypeId) : (Builtin.len_ #[49] ty #[.map mb]).run Try.prog w = .ok (.int .i64 (l.length : Int)) w := by
  cases mb with
  | none =>
    obtain rfl : l = [] := h
    exact len_nil Try.underlying49 ty
  | some k =>
    rw [World.ownsMap.len h Try.underlying49 ty, raw_size]
theorem grown_refl (w : World) (row : Option Nat) : w.grownBy w row := ⟨rfl, rfl, rfl, Nat.le_refl _, fun _ _ _ => rfl⟩
theorem MB.drop {w : World} {mb : Option Nat} {l : Dir} (h : MB w mb l) (n : ByteArray) (hn : n.size ≤ maxLen) (ty : TypeId) :
    ∃ w', (Builtin.delete_ #[49, 9] ty #[.map mb, .string n]).run Try.prog w = .ok (.tuple #[]) w' ∧ MB w' mb (ddel n l) ∧ w.grownBy w' mb ∧ w'.heap.size = w.heap.size := by
  cases mb with
  | none =>
    obtain rfl : l = [] := h
    exact ⟨w, drop_nil keyedN Try.underlying49 (key_str hn) ty, rfl, grown_refl _ _, rfl⟩
  | some k =>
    obtain ⟨w', h1, h2, h3⟩ := World.ownsMap.drop h keyedN Try.underlying49 (key_str hn) ty
    rw [raw_del] at h2
    refine ⟨w', h1, own_norm h2, h3.grown, ?_⟩
    obtain ⟨es, clock, es', clock', hb, rfl⟩ := h3
    simp [ChangeMaps.setBlock]
theorem MB.store {w : World} {k : Nat} {l : Dir} (h : MB w (some k) l) (hl : l.length < maxLen) (n : ByteArray) (hn : n.size ≤ maxLen) (i : Nat) :
    ∃ w', (Instr.mapUpdate 49 (.map (some k)) (.string n) (.pointer (some ⟨i, 0, none⟩))).run Try.prog w = .ok () w' ∧ MB w' (some k) (dput n i l) ∧ w.grownBy w' (some k) ∧ w'.heap.size = w.heap.size := by
  obtain ⟨w', h1, h2, h3⟩ := World.ownsMap.store h keyedN Try.underlying49 hl (key_str hn) (ptrR_some i)
  rw [raw_put] at h2
  refine ⟨w', h1, own_norm h2, h3.grown, ?_⟩
  obtain ⟨es, clock, es', clock', hb, rfl⟩ := h3
  simp [ChangeMaps.setBlock]
theorem MB.made (w : World) : MB (w.alloc (.map #[] 0)) (some w.heap.size) [] := World.ownsMap_made w Try.prog 9 ptrR
theorem MB.names {w : World} {mb : Option Nat} {l : Dir} (h : MB w mb l) : ∀ x ∈ l, x.1.size ≤ maxLen := by
  cases mb with
  | none =>
    obtain rfl : l = [] := h
    intro x hx; exact absurd hx (List.not_mem_nil)
  | some k =>
    intro x hx
    obtain ⟨es, e, hk⟩ := World.ownsMap.keysOf h
    obtain rfl : es = l.map rawE := by injection e with e; exact e.symm
    obtain ⟨v, hv⟩ := hk (rawE x) (List.mem_map_of_mem hx)
    obtain ⟨y, rfl, e, hy⟩ := keyOf_str Try.underlying9 hv
    have : x.1.data.toList = y := by
      have h1 : litS x.1 = .string y := e
      unfold litS at h1
      injection h1
    rw [← this, Array.length_toList] at hy
    exact hy
end Go.Proofs.Ytgeofgdhlbmciaa
