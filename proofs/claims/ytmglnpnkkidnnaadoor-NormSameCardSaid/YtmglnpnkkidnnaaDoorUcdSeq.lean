/- The walk of strings.FieldsSeq's function at a text of digits and blanks: it hands on the text's fields, in their order. -/
import Derived.Test.YtmglnpnkkidnnaaDoorUcdFind
import Derived.RangeFuncNested
import Derived.RangeFuncBound
import Derived.RangeFuncCalls
import Derived.RangeFuncBox
import Derived.RangeFuncLeaves
import Derived.Shelf.Abstract
import Derived.Shelf.RegionOpen
import Derived.OwnWalkIn
import Derived.TacticsInMore
import Derived.LoopNIn
import Derived.LoopIn
import Derived.Maps.AppendAt
namespace Go.Proofs.YtmglnpnkkidnnaaDoor
set_option linter.unusedVariables false
open Go.RowKit Go.Shelf

def fieldsF : Option (List UInt8) → List UInt8 → List (List UInt8)
  | none, [] => []
  | some w, [] => [w]
  | none, c :: r => if c = 32 then fieldsF none r else fieldsF (some [c]) r
  | some w, c :: r => if c = 32 then w :: fieldsF none r else fieldsF (some (w ++ [c])) r
/-- the fields of a text: what stands between blanks. -/
def fieldsP (l : List UInt8) : List (List UInt8) := fieldsF none l
/-- a field of digits. -/
abbrev Fld := { l : List UInt8 // digsB 16 l = true }
def fldE (x : Fld) : Array Value := #[.string (bs x.1)]
/-- what is still to come when the text has been read up to i, a field having begun at cur. -/
def toCome (l : List UInt8) (cur : Option Nat) (i : Nat) : List (List UInt8) := fieldsF (cur.map fun j => (l.drop j).take (i - j)) (l.drop i)
theorem come_space {l : List UInt8} {i : Nat} (h : i < l.length) (hc : l[i] = 32) : toCome l none i = toCome l none (i + 1) := by
  unfold toCome; rw [List.drop_eq_getElem_cons h, hc]; rfl
theorem come_field {l : List UInt8} {i j : Nat} (h : i < l.length) (hc : l[i] = 32) : toCome l (some j) i = (l.drop j).take (i - j) :: toCome l none (i + 1) := by
  unfold toCome; rw [List.drop_eq_getElem_cons h, hc]; rfl
theorem come_first {l : List UInt8} {i : Nat} (h : i < l.length) (hc : l[i] ≠ 32) : toCome l none i = toCome l (some i) (i + 1) := by
  unfold toCome
  have e : (l.drop i).take (i + 1 - i) = [l[i]] := by rw [Nat.add_sub_cancel_left, List.drop_eq_getElem_cons h]; rfl
  conv => lhs; rw [List.drop_eq_getElem_cons h]
  simp only [Option.map_none, Option.map_some, fieldsF, if_neg hc, e]
theorem come_more {l : List UInt8} {i j : Nat} (h : i < l.length) (hj : j ≤ i) (hc : l[i] ≠ 32) : toCome l (some j) i = toCome l (some j) (i + 1) := by
  unfold toCome
  have e : (l.drop j).take (i + 1 - j) = (l.drop j).take (i - j) ++ [l[i]] := by
    have : i + 1 - j = (i - j) + 1 := by omega
    rw [this, List.take_succ_eq_append_getElem (by rw [List.length_drop]; omega), List.getElem_drop]
    congr 3; omega
  conv => lhs; rw [List.drop_eq_getElem_cons h]
  simp only [Option.map_some, fieldsF, if_neg hc, e]
theorem come_end (l : List UInt8) : toCome l none l.length = [] := by unfold toCome; rw [List.drop_length]; rfl
theorem come_last (l : List UInt8) (j : Nat) : toCome l (some j) l.length = [l.drop j] := by
  unfold toCome; rw [List.drop_length]; simp only [Option.map_some, fieldsF]
  rw [List.take_of_length_le (by rw [List.length_drop]; omega)]

/-- what is read of strings.asciiSpace. -/
def SpAt (w : World) : Prop := 0 < w.heap.size ∧ ∀ i : Nat, i < 256 → w.cell? ⟨0, i, none⟩ = some (.int .u8 (if 9 ≤ i ∧ i ≤ 13 ∨ i = 32 then 1 else 0))
theorem SpAt.below {w w' : World} {n : Nat} (h : SpAt w) (hb : Below n w w') (hn : 0 < n) : SpAt w' :=
  ⟨Nat.lt_of_lt_of_le h.1 hb.size, fun i hi => by rw [hb.cell (p := ⟨_, i, none⟩) hn]; exact h.2 i hi⟩
theorem SpAt.blank {w : World} (h : SpAt w) : w.cell? ⟨0, 32, none⟩ = some (.int .u8 1) := h.2 32 (by omega)
theorem SpAt.digit {w : World} (h : SpAt w) {c : UInt8} (hc : digOk 16 c = true) : w.cell? ⟨0, c.toNat, none⟩ = some (.int .u8 0) := by
  have := of_decide_eq_true hc
  rw [h.2 c.toNat c.toNat_lt, if_neg (by omega)]
theorem ext_bs (s : ByteArray) (j i : Nat) : s.extract j i = bs ((s.data.toList.drop j).take (i - j)) := bs_ext (Lib.extract_data _ _ _)
theorem ext_bs' (s : ByteArray) (j : Nat) : s.extract j s.size = bs (s.data.toList.drop j) := bs_ext (rest_data' _ _)
/-- what a round keeps: the blocks below n, but for one. -/
def KpB (X n : Nat) (A B : World) : Prop := A.heap.size ≤ B.heap.size ∧ ∀ b, b < n → b ≠ X → B.heap[b]? = A.heap[b]?
theorem KpB.refl (X n : Nat) (A : World) : KpB X n A A := ⟨Nat.le_refl _, fun _ _ _ => rfl⟩
theorem KpB.trans {X n : Nat} {A B C : World} (h : KpB X n A B) (k : KpB X n B C) : KpB X n A C := ⟨Nat.le_trans h.1 k.1, fun b h1 h2 => (k.2 b h1 h2).trans (h.2 b h1 h2)⟩
theorem KpB.cell {X n : Nat} {A B : World} (h : KpB X n A B) {p : Addr} (h1 : p.block < n) (h2 : p.block ≠ X) : B.cell? p = A.cell? p := World.cell?_of_block (w := A) (h.2 p.block h1 h2)
theorem KpB.of {X n : Nat} {A B : World} (h : Below n A B) : KpB X n A B := ⟨h.size, fun b hb _ => h.block b hb⟩
theorem KpB.set {X n : Nat} (A : World) (v : Value) : KpB X n A (A.setCell ⟨X, 0, none⟩ v) := ⟨by simp, fun b _ h2 => Below.heap_setCell A ⟨X, 0, none⟩ v b h2⟩
theorem KpB.put {X n : Nat} {w : World} (hn : n ≤ w.heap.size) (W : World) (l : Nat) (o o' : Obj) (hl : w.heap.size ≤ l) (h : W.heap[l]? = some o) (h1 : o.isCells = false) (h2 : o.isWalk = false) : KpB X n W (W.putObj l o') := .of (belowK_b hn W l o o' hl h h1 h2)
theorem SpAt.kept {w w' : World} {X n : Nat} (h : SpAt w) (hb : KpB X n w w') (hn : 0 < n) (hX : 0 ≠ X) : SpAt w' :=
  ⟨Nat.lt_of_lt_of_le h.1 hb.1, fun i hi => by rw [hb.cell (p := ⟨_, i, none⟩) hn hX]; exact h.2 i hi⟩
def stV : Option Nat → Value
  | none => .int .i64 (-1)
  | some j => .int .i64 j
/-- the ends of a walk over the fields. -/
def SeqEnd (fs : List Fld) (J Jx : List Fld → World → Prop) (e : Ending) (W' : World) : Prop := (∃ v, e = .returned v) ∧ ((∃ ys, ys = fs ∧ J ys W') ∨ (∃ pre, pre <+: fs ∧ Jx pre W'))
attribute [local go_sem] Oper.semAt_some
set_option maxRecDepth 100000 in
set_option maxHeartbeats 4000000 in
theorem fields1_in (n : Nat) (hn : 1 ≤ n) (l Bs X n₀ : Nat) (hXs : Bs ≠ X) (hXg : 0 ≠ X) (s : ByteArray) (hs : s.size ≤ 1000000) (hd : ∀ c ∈ s.data.toList, c = 32 ∨ digOk 16 c = true) (fs : List Fld) (hfs : fieldsP s.data.toList = fs.map (·.1)) (J Jx : List Fld → World → Prop)
    (hY : ∀ pre x W, J pre W → pre.length < fs.length → YieldAt Fence.wide (n - 1) Tryd.prog l (fldE x) W fun e W' =>
      (e = .returned (.bool true) ∧ J (pre ++ [x]) W' ∧ KpB X n₀ W W') ∨ (e = .returned (.bool false) ∧ Jx (pre ++ [x]) W'))
    (W : World) (hBn : Bs < n₀) (hBs : W.cell? ⟨Bs, 0, none⟩ = some (.string s)) (hg : 0 < n₀) (hSp : SpAt W) (h0 : J [] W) :
    CallsIn Fence.wide n Tryd.prog 60 #[.func (.yield l) #[] #[], .pointer (some ⟨Bs, 0, none⟩)] W (SeqEnd fs J Jx) := by
  have HD := Lib.hid hd
  have HF0 : Hid (toCome s.data.toList none 0 = fs.map (·.1)) := Lib.hid hfs
  have hll := size_toList s
  have HS := Lib.hid hSp
  clear hd hfs hSp
  refine callsIn_of_wp Tryd.func60 rfl trivial ?_ rfl
  simp only [Tryd.ntmps60, List.size_toArray, List.length_cons, List.length_nil, Nat.reduceAdd, Nat.reduceSub, Array.replicate_succ, Array.replicate_zero, List.push_toArray, List.append_toArray, List.nil_append, List.cons_append]
  gi_wp2
  gi_loopw [3, 4] (fun st iv wr => ∃ (i : Nat) (cur : Option Nat) (pre rest : List Fld), iv = .int .i64 i ∧ i ≤ s.size ∧ st = stV cur ∧ (∀ j, cur = some j → j ≤ i) ∧ fs = pre ++ rest ∧ Hid (toCome s.data.toList cur i = rest.map (·.1)) ∧ J pre wr ∧ KpB X n₀ W wr)
    (fun _ i _ => s.size - (intOf i).toNat)
  case atStart => exact ⟨0, none, [], fs, rfl, Nat.zero_le _, rfl, fun _ h => (by cases h), rfl, HF0, h0, KpB.refl _ _ _⟩
  case round =>
    obtain ⟨i, cur, pre, rest, rfl, hi, rfl, hcur, hx, HF, hJs, hnx⟩ := hrel
    have hsw : wr.cell? ⟨Bs, 0, none⟩ = some (.string s) := (hnx.cell (p := ⟨Bs, 0, none⟩) hBn hXs).trans hBs
    have hSpw : SpAt wr := HS.out.kept hnx hg hXg
    by_cases hlt : i < s.size
    · have hget : s.data.toList[i]'(by omega) = s[i] := at_toList s i hlt
      have hdc : s[i] = 32 ∨ digOk 16 s[i] = true := HD.out _ (by rw [← hget]; exact List.getElem_mem _)
      by_cases hc : s[i] = 32
      · have hct : (s[i].toNat) = 32 := by rw [hc]; rfl
        have hsp := hSpw.blank
        cases cur with
        | none =>
          have HF2 : Hid (toCome s.data.toList none (i + 1) = rest.map (·.1)) := Lib.hid (by rw [← come_space (by omega) (by rw [hget]; exact hc)]; exact HF.out)
          clear HF hdc hSpw hget hc
          unfold stV
          gi_wp2
          go_roundw
          case rel => exact ⟨i + 1, none, pre, rest, by go_num, by omega, rfl, fun _ h => (by cases h), hx, HF2, hJs, hnx⟩
          case measure => simp [intOf]; omega
        | some j =>
          have hji := hcur j rfl
          obtain ⟨x, rest, rfl⟩ : ∃ x r, rest = x :: r := by
            cases rest with
            | nil => have := HF.out; rw [come_field (by omega) (by rw [hget]; exact hc)] at this; simp at this
            | cons x r => exact ⟨x, r, rfl⟩
          have hcf := HF.out
          rw [come_field (by omega) (by rw [hget]; exact hc), List.map_cons, List.cons.injEq] at hcf
          have HX : Hid (s.extract j i = bs x.1) := Lib.hid (by rw [ext_bs, hcf.1])
          have HF2 : Hid (toCome s.data.toList none (i + 1) = rest.map (·.1)) := Lib.hid hcf.2
          obtain ⟨fn, tmps, assign, body, hy, hR⟩ := hY pre x wr hJs (by rw [hx]; simp)
          have hx2 : fs = (pre ++ [x]) ++ rest := by rw [hx]; simp
          have hpx : pre ++ [x] <+: fs := ⟨rest, hx2.symm⟩
          unfold fldE at hy
          rw [← HX.out] at hy
          clear HF hdc hSpw hget hc hcf hx HX
          unfold stV
          gi_wp2
          refine hR.mono ?_
          rintro e W3 (⟨rfl, hJ3, hk3⟩ | ⟨rfl, hJx3⟩)
          · gi_wp2
            go_roundw
            case rel => exact ⟨i + 1, none, pre ++ [x], rest, by go_num, by omega, rfl, fun _ h => (by cases h), hx2, HF2, hJ3, hnx.trans hk3⟩
            case measure => simp [intOf]; omega
          · gi_wp2
            refine bodyPost_ret (results_none rfl _ _ _) rfl ?_
            exact ⟨⟨_, rfl⟩, .inr ⟨pre ++ [x], hpx, hJx3⟩⟩
      · have hdg : digOk 16 s[i] = true := by rcases hdc with h | h
                                              · exact absurd h hc
                                              · exact h
        have hsp := hSpw.digit hdg
        have hdg2 := of_decide_eq_true hdg
        have hlt2 : s[i].toNat < 128 := by omega
        cases cur with
        | none =>
          have HF2 : Hid (toCome s.data.toList (some i) (i + 1) = rest.map (·.1)) := Lib.hid (by rw [← come_first (by omega) (by rw [hget]; exact hc)]; exact HF.out)
          clear HF hdc hSpw hget hc hdg hdg2
          unfold stV
          gi_wp2
          go_roundw
          case rel => exact ⟨i + 1, some i, pre, rest, by go_num, by omega, rfl, fun _ h => by cases h; omega, hx, HF2, hJs, hnx⟩
          case measure => simp [intOf]; omega
        | some j =>
          have hji := hcur j rfl
          have HF2 : Hid (toCome s.data.toList (some j) (i + 1) = rest.map (·.1)) := Lib.hid (by rw [← come_more (by omega) hji (by rw [hget]; exact hc)]; exact HF.out)
          clear HF hdc hSpw hget hc hdg hdg2
          unfold stV
          gi_wp2
          go_roundw
          case rel => exact ⟨i + 1, some j, pre, rest, by go_num, by omega, rfl, fun _ h => by cases h; omega, hx, HF2, hJs, hnx⟩
          case measure => simp [intOf]; omega
    · obtain rfl : i = s.size := by omega
      cases cur with
      | none =>
        have hr : rest = [] := by
          have := HF.out; rw [← hll, come_end] at this; exact List.map_eq_nil_iff.1 this.symm
        subst hr
        have hx2 : pre = fs := by rw [hx]; simp
        clear HF hSpw hx
        unfold stV
        gi_wp2
        go_end0
        exact ⟨⟨_, rfl⟩, .inl ⟨pre, hx2, hJs⟩⟩
      | some j =>
        have hji := hcur j rfl
        have hcf := HF.out
        rw [← hll, come_last] at hcf
        obtain ⟨x, rfl⟩ : ∃ x, rest = [x] := by
          cases rest with
          | nil => simp at hcf
          | cons x r =>
            simp only [List.map_cons, List.cons.injEq] at hcf
            rw [List.map_eq_nil_iff.1 hcf.2.symm]; exact ⟨x, rfl⟩
        simp only [List.map_cons, List.cons.injEq] at hcf
        have HX : Hid (s.extract j s.size = bs x.1) := Lib.hid (by rw [ext_bs', hcf.1])
        obtain ⟨fn, tmps, assign, body, hy, hR⟩ := hY pre x wr hJs (by rw [hx]; simp)
        have hpx : pre ++ [x] <+: fs := ⟨[], by rw [hx]; simp⟩
        unfold fldE at hy
        rw [← HX.out] at hy
        clear HF hSpw hcf HX
        unfold stV
        gi_wp2
        refine hR.mono ?_
        rintro e W3 (⟨rfl, hJ3, hk3⟩ | ⟨rfl, hJx3⟩)
        · gi_wp2
          go_end0
          exact ⟨⟨_, rfl⟩, .inl ⟨pre ++ [x], hx.symm, hJ3⟩⟩
        · gi_wp2
          go_end0
          exact ⟨⟨_, rfl⟩, .inr ⟨pre ++ [x], hpx, hJx3⟩⟩
set_option maxHeartbeats 1000000 in
theorem fieldsSeq_in (n : Nat) (s : ByteArray) (w : World) :
    CallsIn Fence.wide n Tryd.prog 50 #[.string s] w fun e w' => e = .returned (.func (.func 60) #[] #[.pointer (some ⟨w.heap.size, 0, none⟩)]) ∧ w' = w.alloc (.cells #[.string s] 9) := by
  refine callsIn_of_wp Tryd.func50 rfl trivial ?_ rfl
  simp only [Tryd.ntmps50, List.size_toArray, List.length_cons, List.length_nil, Nat.reduceAdd, Nat.reduceSub, Array.replicate_succ, Array.replicate_zero, List.push_toArray, List.append_toArray, List.nil_append, List.cons_append]
  gi_wp2
  go_ret
  exact ⟨rfl, rfl⟩
theorem fields_stops (n : Nat) (hn : 1 ≤ n) (Bs X n₀ : Nat) (hXs : Bs ≠ X) (hXg : 0 ≠ X) (s : ByteArray) (hs : s.size ≤ 1000000) (hd : ∀ c ∈ s.data.toList, c = 32 ∨ digOk 16 c = true) (fs : List Fld) (hfs : fieldsP s.data.toList = fs.map (·.1)) (w : World) (hBn : Bs < n₀) (hn₀ : n₀ ≤ w.heap.size)
    (hc : w.cell? ⟨Bs, 0, none⟩ = some (.string s)) (hg : 0 < n₀) (hSp : SpAt w) :
    SeqStopsK Fence.wide n Tryd.prog 60 #[.pointer (some ⟨Bs, 0, none⟩)] fldE (KpB X n₀) (fun ys => ys = fs) (fun pre => pre <+: fs) fs.length w := fun l J Jx W hW _ _ hY h0 =>
  fields1_in n hn l Bs X n₀ hXs hXg s hs hd fs hfs J Jx hY W hBn ((hW.cell (p := ⟨Bs, 0, none⟩) (Nat.lt_of_lt_of_le hBn hn₀)).trans hc) hg (hSp.below (hW.mono hn₀) hg) h0
end Go.Proofs.YtmglnpnkkidnnaaDoor
