/- Slices of bytes: what may be read, what is the call's own, a slice cut, a text made of one. -/
import Derived.Test.YtpaoabdjbdlalaaSlices
import Derived.Test.YtpaoabdjbdlalaaSrc
import Derived.Test.YtpaoabdjbdlalaaFullApp
import Derived.Laws.BytesArg
import Derived.Lib.ConvBytes
import Derived.Lib.AppendStr
namespace Go.Proofs.Ytpaoabdjbdlalaa
set_option linter.unusedVariables false
open Go.RowKit
def bv (b : UInt8) : Value := .int .u8 (b.toNat : Int)
theorem bv_of (n : Int) (h0 : 0 ≤ n) (h1 : n < 256) : bv (UInt8.ofNat n.toNat) = .int .u8 n := by
  unfold bv; rw [byte_of _ (by omega)]; congr 1; omega
theorem elem_u8 : ElemOk Try.prog 28 5 1 (.int .u8 0) := ⟨Try.underlying28, by kernel_rfl, rfl⟩
theorem one_cells (k : IntKind) (l : List Int) : ∀ u ∈ l.map (Value.int k), u.oneCell' = true := by
  intro u hu; obtain ⟨x, -, rfl⟩ := List.mem_map.1 hu; rfl
theorem strOf_bytes (bs : List UInt8) : strOfNums (bs.map fun b => (b.toNat : Int)) = ⟨bs.toArray⟩ := by
  unfold strOfNums
  rw [List.map_map]
  have : (List.map ((fun n : Int => UInt8.ofNat n.toNat) ∘ fun b : UInt8 => (b.toNat : Int)) bs) = bs := by
    conv => rhs; rw [← List.map_id bs]
    apply List.map_congr_left
    intro b _
    simp
  rw [this]
theorem u8_bd {c : Int} (wf : (Lit.int .u8 c).wf = true) : 0 ≤ c ∧ c ≤ 255 := by
  simp [Lit.wf, IntKind.min, IntKind.max, IntKind.signed, IntKind.bits] at wf; omega
theorem rdV_take {w : World} {b off len cap : Nat} {vs : List Value} (h : RdV w (.slice (some ⟨b, off, none⟩) len cap) vs) (n : Nat) (hn : n ≤ len) : RdV w (.slice (some ⟨b, off, none⟩) n cap) (vs.take n) := by
  rcases h with ⟨a, c, h1, h2⟩ | ⟨b', off', c, h1, h2, h3, h4, h5, h6⟩
  · simp only [Value.slice.injEq] at h1
    obtain ⟨-, h1, -⟩ := h1
    subst h1
    obtain rfl : n = 0 := by omega
    exact .inl ⟨_, cap, rfl, by simp⟩
  · simp only [Value.slice.injEq, Option.some.injEq, Addr.mk.injEq, and_true] at h1
    obtain ⟨⟨rfl, rfl⟩, rfl, rfl⟩ := h1
    rcases Nat.eq_zero_or_pos n with h0 | h0
    · subst h0; exact .inl ⟨_, cap, rfl, by simp⟩
    · have hl : (vs.take n).length = n := by rw [List.length_take]; omega
      refine .inr ⟨b, off, cap, by rw [hl], by rw [hl]; exact h0, by rw [hl]; omega, h4, h5, fun i hi => ?_⟩
      rw [hl] at hi
      rw [h6 i (by omega), List.getD_eq_getElem?_getD, List.getD_eq_getElem?_getD, List.getElem?_take_of_lt hi]
theorem rdV_len {w : World} {a : Option Addr} {len cap : Nat} {vs : List Value} (h : RdV w (.slice a len cap) vs) : len = vs.length ∧ (0 < len → (∃ b off, a = some ⟨b, off, none⟩) ∧ len ≤ cap) := by
  rcases h with ⟨a, c, h1, h2⟩ | ⟨b', off', c, h1, h2, h3, h4, h5, h6⟩
  · simp only [Value.slice.injEq] at h1; subst h2; exact ⟨h1.2.1, fun h => by omega⟩
  · simp only [Value.slice.injEq] at h1; exact ⟨h1.2.1, fun _ => ⟨⟨_, _, h1.1⟩, by omega⟩⟩
theorem rdV_cells {w : World} {a : Option Addr} {n cap : Nat} {vs : List Value} (h : RdV w (.slice a n cap) vs) (h0 : 0 < vs.length) : ∃ g off, a = some ⟨g, off, none⟩ ∧ g < w.heap.size ∧ ∀ i, i < vs.length → w.cell? ⟨g, off + i, none⟩ = some (vs.getD i undef) := by
  rcases h with ⟨a, c, h1, h2⟩ | ⟨b', off', c, h1, h2, h3, h4, h5, h6⟩
  · subst h2; simp at h0
  · simp only [Value.slice.injEq] at h1
    exact ⟨b', off', h1.1, h5, h6⟩
theorem bv_cells (bs : List UInt8) : ∀ u ∈ bs.map bv, u.oneCell' = true := by
  intro u hu; obtain ⟨x, -, rfl⟩ := List.mem_map.1 hu; rfl
/-- v is a slice that reads as these bytes. -/
def RdB (w : World) (v : Value) (bs : List UInt8) : Prop := RdV w v (bs.map bv)
/-- v is a slice of the call's own (blocks from B on) that holds these bytes. -/
def OwnB (B : Nat) (w : World) (v : Value) (bs : List UInt8) : Prop := OwnV 5 B w v (bs.map bv)
/-- What is told is a new slice of the call's own that holds bs. -/
def MkB (bs : List UInt8) (w : World) (e : Ending) (w' : World) : Prop := ∃ v, e = .returned v ∧ OwnB w.heap.size w' v bs ∧ Below w.heap.size w w'
theorem RdB.below {w w' : World} {v : Value} {bs : List UInt8} (h : RdB w v bs) (hb : Below w.heap.size w w') : RdB w' v bs := RdV.below h hb
theorem OwnB.below {B : Nat} {w w' : World} {v : Value} {bs : List UInt8} (h : OwnB B w v bs) (hb : Below w.heap.size w w') : OwnB B w' v bs := OwnV.below h hb
theorem OwnB.base {B B' : Nat} {w : World} {v : Value} {bs : List UInt8} (h : OwnB B w v bs) (hB : B' ≤ B) : OwnB B' w v bs := OwnV.base h hB
theorem OwnB.rd {B : Nat} {w : World} {v : Value} {bs : List UInt8} (h : OwnB B w v bs) : RdB w v bs := OwnV.rd h
theorem OwnB.nil (B : Nat) (w : World) : OwnB B w (.slice none 0 0) [] := OwnV.nil _ _ _
theorem RdB.nil (w : World) (a : Option Addr) (cap : Nat) : RdB w (.slice a 0 cap) [] := RdV.nil w a cap
theorem OwnB.form {B : Nat} {w : World} {v : Value} {bs : List UInt8} (h : OwnB B w v bs) : ∃ a len cap, v = .slice a len cap ∧ len = bs.length ∧ len ≤ cap ∧ cap ≤ maxLen := by
  rcases OwnV.nilOr h with ⟨rfl, e⟩ | ⟨g, cap, rfl, h2, h3, h4, h5⟩
  · exact ⟨none, 0, 0, rfl, by have := congrArg List.length e; simpa using this.symm, Nat.le_refl _, by unfold maxLen; omega⟩
  · rw [List.length_map] at h4 ⊢
    exact ⟨_, _, cap, rfl, rfl, h4, h5⟩
theorem RdB.form {w : World} {v : Value} {bs : List UInt8} (h : RdB w v bs) : ∃ a len cap, v = .slice a len cap ∧ len = bs.length ∧ (0 < len → len ≤ cap ∧ cap ≤ maxLen) := by
  rcases h with ⟨a, cap, rfl, e⟩ | ⟨b, off, cap, rfl, h1, h2, h3, -⟩
  · exact ⟨a, 0, cap, rfl, by have := congrArg List.length e; simpa using this.symm, fun h => by omega⟩
  · rw [List.length_map] at h2 ⊢
    exact ⟨_, _, cap, rfl, rfl, fun _ => ⟨h2, h3⟩⟩
/-- The byte at a place, in its cell. -/
theorem RdB.at {w : World} {a : Option Addr} {len cap : Nat} {bs : List UInt8} (h : RdB w (.slice a len cap) bs) (i : Nat) (x : UInt8) (hx : bs[i]? = some x) :
    ∃ b off, a = some ⟨b, off, none⟩ ∧ b < w.heap.size ∧ w.cell? ⟨b, off + i, none⟩ = some (.int .u8 (x.toNat : Int)) := by
  obtain ⟨hi, rfl⟩ := List.getElem?_eq_some_iff.1 hx
  rcases h with ⟨_, _, _, e⟩ | ⟨b, off, c, e, h1, h2, h3, h4, h5⟩
  · have : bs = [] := by simpa using e
    subst this; simp at hi
  · simp only [Value.slice.injEq] at e
    refine ⟨b, off, e.1, h4, ?_⟩
    rw [h5 i (by rw [List.length_map]; exact hi), List.getD_eq_getElem?_getD, List.getElem?_map, List.getElem?_eq_getElem hi]; rfl
/-- the first j of a slice, as 's[:j]' tells them (c: what is left of its room). -/
theorem RdB.take {w : World} {a : Option Addr} {n cap : Nat} {bs : List UInt8} (h : RdB w (.slice a n cap) bs) (j : Nat) (hj : j ≤ n) : RdB w (.slice a j cap) (bs.take j) := by
  unfold RdB at h ⊢
  rw [List.map_take]
  rcases Nat.eq_zero_or_pos j with h0 | h0
  · subst h0; exact .inl ⟨a, cap, rfl, by simp⟩
  · rcases id h with ⟨_, _, e, e2⟩ | ⟨b, off, c, e, _⟩
    · simp only [Value.slice.injEq] at e; omega
    · simp only [Value.slice.injEq] at e
      obtain ⟨rfl, -, rfl⟩ := e
      exact rdV_take h j hj
/-- what is behind the first j, as 's[j:]' tells it. -/
theorem RdB.drop {w : World} {a : Option Addr} {n cap : Nat} {bs : List UInt8} (h : RdB w (.slice a n cap) bs) (j : Nat) (hj : j ≤ n) : RdB w (.slice (if cap = j then a else a.map (·.add j)) (n - j) (cap - j)) (bs.drop j) := by
  unfold RdB at h ⊢
  have hn := (rdV_len h).1
  rw [List.length_map] at hn
  rw [List.map_drop]
  rcases Nat.lt_or_ge j n with h0 | h0
  · rcases h with ⟨_, _, e, e2⟩ | ⟨b, off, c, e, h1, h2, h3, h4, h5⟩
    · have : bs = [] := by simpa using e2
      subst this; simp at hn; omega
    · simp only [Value.slice.injEq] at e
      obtain ⟨rfl, -, rfl⟩ := e
      rw [List.length_map] at h1 h2
      rw [if_neg (by omega)]
      refine .inr ⟨b, off + j, cap - j, ?_, by rw [List.length_drop, List.length_map]; omega, by rw [List.length_drop, List.length_map]; omega, by omega, h4, fun i hi => ?_⟩
      · rw [List.length_drop, List.length_map, ← hn]; simp [add_at]
      · rw [List.length_drop, List.length_map] at hi
        rw [Nat.add_assoc, h5 (j + i) (by rw [List.length_map]; omega), List.getD_eq_getElem?_getD, List.getD_eq_getElem?_getD, List.getElem?_drop]
  · obtain rfl : j = n := by omega
    rw [Nat.sub_self]
    exact .inl ⟨_, _, rfl, List.drop_of_length_le (by rw [List.length_map]; omega)⟩
/-- 'string(b)'. -/
theorem RdB.text {w : World} {v : Value} {bs : List UInt8} (h : RdB w v bs) : (convert 28 9 v).run Try.prog w = .ok (.string ⟨bs.toArray⟩) w := by
  rcases h with ⟨a, cap, rfl, e⟩ | ⟨b, off, cap, rfl, h1, h2, h3, h4, h5⟩
  · have : bs = [] := by simpa using e
    subst this
    cases a with
    | none => exact run_convert_bytes_nil w 28 5 Try.underlying28 Try.underlying5 0 cap 9 Try.underlying9
    | some x =>
      rw [run_convert_bytes_string w 28 9 5 _ 0 cap Try.underlying28 Try.underlying5 Try.underlying9]
      have hl : (loadCells x 0).run Try.prog w = .ok #[] w := by
        have := run_loadCells_list (P := Try.prog) w x [] (fun j v hj => by simp at hj)
        simpa using this
      simp only [Conv.bytesToString]
      simp [hl]
      rfl
  · rw [List.length_map] at h1 h2 h5 ⊢
    rw [← strOf_bytes]
    refine run_convert_bytes_arg w 28 5 Try.underlying28 Try.underlying5 b off bs.length cap _ (List.length_map _) (fun i hi => ?_) 9 Try.underlying9
    rw [h5 i hi]
    simp [List.getD_eq_getElem?_getD, List.getElem?_eq_getElem hi, bv]
/-- '[]byte(s)'. -/
theorem RdB.conv (w : World) (s : ByteArray) (hs : s.size ≤ maxLen) : RdB (Lib.bytesWorld w 5 s) (.slice (some ⟨w.heap.size, 0, none⟩) s.size (grownCap w s.size 0 5)) s.data.toList := by
  rcases Nat.eq_zero_or_pos s.size with h0 | h0
  · rw [h0]
    have : s.data.toList = [] := List.eq_nil_of_length_eq_zero (by rw [size_toList]; exact h0)
    rw [this]
    exact RdB.nil _ _ _
  · refine .inr ⟨w.heap.size, 0, _, by rw [List.length_map, size_toList], by rw [List.length_map, size_toList]; exact h0, by rw [List.length_map, size_toList]; exact grownCap_ge .., grownCap_le_maxLen w s.size 0 _ hs, by rw [Lib.bytesWorld_size]; omega, fun i hi => ?_⟩
    rw [List.length_map, size_toList] at hi
    rw [Nat.zero_add, Lib.bytesWorld_cell w _ s i hi, List.getD_eq_getElem?_getD, List.getD_eq_getElem?_getD, List.getElem?_map, List.getElem?_eq_getElem (by rw [size_toList]; exact hi)]; rfl
/-- A row of bytes that was just laid. -/
theorem OwnB.lit (w : World) (bs : List UInt8) (cs : Array Value) (n B : Nat) (hn : bs.length = n) (hm : n ≤ maxLen) (hc : (bs.map bv).toArray = cs) (hB : B ≤ w.heap.size) : OwnB B (w.alloc (.cells cs 5)) (.slice (some ⟨w.heap.size, 0, none⟩) n n) bs := by
  subst hn hc
  refine ⟨(Nat.mul_one _).symm, .inr ⟨w.heap.size, bs.length, (bs.map bv).toArray, by rw [List.length_map], hB, heap_alloc_new .., by rw [List.length_map]; exact Nat.le_refl _, hm, by simp, ?_⟩⟩
  rw [Nat.mul_one]
  exact List.take_of_length_le (by simp)
theorem map_add0 (a : Option Addr) : a.map (·.add 0) = a := by
  cases a with
  | none => rfl
  | some a => obtain ⟨b, o, x⟩ := a; simp only [Option.map_some]; unfold Addr.add; split <;> simp_all
/-- 's[k:]' of bytes, run. -/
theorem sl_lB (W : World) (a : Option Addr) (n cap k : Nat) (h : k ≤ n) (hc : n ≤ cap) :
    (Instr.sliceAt 28 (.slice a n cap) (some (.int .i64 (k : Int))) none none).run Try.prog W = .ok (.slice (if cap = k then a else a.map (·.add k)) (n - k) (cap - k)) W := by
  have hT : Try.prog.underlying 28 = some (.slice (Try.prog.elem 28)) := by kernel_rfl
  have hS : (sizeOf (Try.prog.elem 28)).run Try.prog W = .ok 1 W := by kernel_rfl
  rw [run_sliceAt_slice (h := hT), run_slice_l (w := W) (t := 28) (a := a) (len := n) (cap := cap) (ht := hT) (kl := .i64) (l := k) (h0 := by omega) (h1 := by omega), hS]
  simp [Result.andThen, sliced]
/-- 's[:k]' of bytes, run. -/
theorem sl_hB (W : World) (a : Option Addr) (n cap k : Nat) (hc : k ≤ cap) :
    (Instr.sliceAt 28 (.slice a n cap) none (some (.int .i64 (k : Int))) none).run Try.prog W = .ok (.slice a k cap) W := by
  have hT : Try.prog.underlying 28 = some (.slice (Try.prog.elem 28)) := by kernel_rfl
  have hS : (sizeOf (Try.prog.elem 28)).run Try.prog W = .ok 1 W := by kernel_rfl
  rw [run_sliceAt_slice (h := hT), run_slice_h (w := W) (t := 28) (a := a) (len := n) (cap := cap) (ht := hT) (kh := .i64) (h := k) (h0 := by omega) (h2 := by omega), hS]
  simp [Result.andThen, sliced, map_add0]
/-- 's[j:k]' of bytes, run. -/
theorem sl_lhB (W : World) (a : Option Addr) (n cap j k : Nat) (h : j ≤ k) (hc : k ≤ cap) :
    (Instr.sliceAt 28 (.slice a n cap) (some (.int .i64 (j : Int))) (some (.int .i64 (k : Int))) none).run Try.prog W = .ok (.slice (if cap = j then a else a.map (·.add j)) (k - j) (cap - j)) W := by
  have hT : Try.prog.underlying 28 = some (.slice (Try.prog.elem 28)) := by kernel_rfl
  have hS : (sizeOf (Try.prog.elem 28)).run Try.prog W = .ok 1 W := by kernel_rfl
  rw [run_sliceAt_slice (h := hT), run_slice_lh (w := W) (t := 28) (a := a) (len := n) (cap := cap) (ht := hT) (kl := .i64) (kh := .i64) (l := j) (h := k) (h0 := by omega) (h1 := by omega) (h2 := by omega), hS]
  simp [Result.andThen, sliced]
theorem RdB.mid {w : World} {a : Option Addr} {n cap : Nat} {bs : List UInt8} (h : RdB w (.slice a n cap) bs) (j k : Nat) (hj : j ≤ k) (hk : k ≤ n) : RdB w (.slice (if cap = j then a else a.map (·.add j)) (k - j) (cap - j)) ((bs.take k).drop j) := (h.take k hk).drop j hj
/-- 'append(b, c)', c in a block that was just laid; H: that block's number as the walk spells it; guarded or not. -/
theorem wp_app1B {ops : Array Oper} {rest : List Oper} {o : Oper} {a : Act} {w : World} {Q : Exit → Act → World → Prop} (s x : Operand) (ho : o.op = .call { callee := .builtin .append, args := #[s, x], argTypes := #[28, 28] }) (hw : Region.wanted o (yielded ops a.tmps) = true)
    {B : Nat} {v : Value} {bs : List UInt8} (hs : a.eval s = v) (hown : OwnB B w v bs) (c : UInt8) (u : Value) (hu : u = bv c) (H : Nat) (hx : a.eval x = .slice (some ⟨H, 0, none⟩) 1 1) (hH : w.heap.size = H) (hlen : bs.length + 1 ≤ 140737488355328) (hB : B ≤ w.heap.size)
    (h : ∀ v' w', OwnB B w' v' (bs ++ [c]) → Below B w w' → wpList Try.prog ops Q rest (a.put o.dst v') w') : wpList Try.prog ops Q (o :: rest) a (w.alloc (.cells #[u] 5)) := by
  subst hu
  refine wp_appH elem_u8 s x ho hw hs hown [bv c] 1 H rfl hx hH (by decide) (by simp [bv, Value.oneCell']) (by rw [List.length_map]; omega) (by rw [List.length_map]; unfold maxLen; omega) hB fun v' w' h1 h2 => h v' w' ?_ h2
  unfold OwnB
  rw [List.map_append]
  exact h1
/-- 'append(b, c...)'. -/
theorem wp_appSB {ops : Array Oper} {rest : List Oper} {o : Oper} {a : Act} {w : World} {Q : Exit → Act → World → Prop} (s x : Operand) (ho : o.op = .call { callee := .builtin .append, args := #[s, x], argTypes := #[28, 28] }) (hw : Region.wanted o (yielded ops a.tmps) = true)
    {B : Nat} {v : Value} {bs : List UInt8} (hs : a.eval s = v) (hown : OwnB B w v bs) {src : Value} {cs : List UInt8} (hx : a.eval x = src) (hr : RdB w src cs) (hlen : bs.length + cs.length ≤ 140737488355328) (hB : B ≤ w.heap.size)
    (h : ∀ v' w', OwnB B w' v' (bs ++ cs) → Below B w w' → wpList Try.prog ops Q rest (a.put o.dst v') w') : wpList Try.prog ops Q (o :: rest) a w := by
  refine wp_appS elem_u8 s x ho hw hs hown hx hr (bv_cells cs) (by rw [List.length_map, List.length_map]; omega) (by rw [List.length_map, List.length_map]; unfold maxLen; omega) hB fun v' w' h1 h2 => h v' w' ?_ h2
  unfold OwnB
  rw [List.map_append]
  exact h1
/-- 'append(b, s...)', s a text. -/
theorem wp_appTB {ops : Array Oper} {rest : List Oper} {o : Oper} {a : Act} {w : World} {Q : Exit → Act → World → Prop} (hgd : o.guard = none) (sl x : Operand) (ho : o.op = .call { callee := .builtin .append, args := #[sl, x], argTypes := #[28, 9] })
    {B : Nat} {v : Value} {bs : List UInt8} (hs : a.eval sl = v) (hown : OwnB B w v bs) (s : ByteArray) (hx : a.eval x = .string s) (hlen : bs.length + s.size ≤ 140737488355328) (hB : B ≤ w.heap.size)
    (h : ∀ v' w', OwnB B w' v' (bs ++ s.data.toList) → Below B w w' → wpList Try.prog ops Q rest (a.put o.dst v') w') : wpList Try.prog ops Q (o :: rest) a w := by
  obtain ⟨f1, f2, f3⟩ := elem_u8
  obtain ⟨i0, hi, hz0, hz1, hz2⟩ := info_parts f2
  refine Lib.wpList_append_own_string w hgd sl x 28 9 ho B 5 i0 f1 Try.underlying9 hi hz0 hz1 hz2 v (bs.map bv).length (bs.map bv) hs hown s hx (by rw [List.length_map]; unfold maxLen; omega) (by rw [List.length_map]; omega) hB fun v' w' h1 h2 h3 => h v' w' ?_ ?_
  · unfold OwnB OwnV
    have e : ((bs ++ s.data.toList).map bv).length = (bs.map bv).length + s.size := by rw [List.length_map, List.length_append, List.length_map, size_toList]
    rw [e, List.map_append]
    exact h1
  · exact (Below.refl B w).grown h2 hB fun k hk => (World.ownsRow.lt hown k hk).1
/-- Bytes that came in as numbers. -/
theorem bytes_of : ∀ (zs : List Int), (∀ n ∈ zs, (Lit.int .u8 n).wf = true) → ∃ bs : List UInt8, zs.map (Value.int .u8) = bs.map bv
  | [], _ => ⟨[], rfl⟩
  | z :: zs, h => by
    obtain ⟨bs, hb⟩ := bytes_of zs fun n hn => h n (List.mem_cons_of_mem _ hn)
    obtain ⟨h0, h1⟩ := u8_bd (h z (List.mem_cons_self ..))
    exact ⟨UInt8.ofNat z.toNat :: bs, by rw [List.map_cons, List.map_cons, hb, bv_of z h0 (by omega)]⟩
theorem arr_eq (xs ys : List UInt8) : ((⟨xs.toArray⟩ : ByteArray).toList == (⟨ys.toArray⟩ : ByteArray).toList) = decide (xs = ys) := by
  rw [Lib.toList_data, Lib.toList_data]
  show (xs == ys) = _
  rw [Bool.eq_iff_iff, beq_iff_eq, decide_eq_true_eq]
end Go.Proofs.Ytpaoabdjbdlalaa
