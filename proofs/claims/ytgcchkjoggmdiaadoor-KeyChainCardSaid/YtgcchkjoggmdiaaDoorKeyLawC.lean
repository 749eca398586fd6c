/- The walk of the law KeyChain. -/
import Derived.Test.YtgcchkjoggmdiaaDoorKeyLaws
import Derived.Test.YtgcchkjoggmdiaaDoorMBase
import Derived.Test.YtgcchkjoggmdiaaDoorMNormA
namespace Go.Proofs.YtgcchkjoggmdiaaDoor
set_option linter.unusedVariables false
open Go.RowKit
def bl (a b : ByteArray) : Prop := a.data.toList < b.data.toList
theorem bl_trans {a b c : ByteArray} (h : bl a b) (k : bl b c) : bl a c := List.lt_trans h k
theorem bl_tri (a b : ByteArray) : bl a b ∨ a = b ∨ bl b a := by
  by_cases h : a.data.toList < b.data.toList
  · exact .inl h
  · by_cases h2 : b.data.toList < a.data.toList
    · exact .inr (.inr h2)
    · refine .inr (.inl ?_)
      have := List.le_antisymm (List.not_lt.1 h2) (List.not_lt.1 h)
      exact ByteArray.ext (Array.toList_inj.1 this)
/-- What stands in the law's list: texts in order, each short. -/
def ChS (B : Nat) (w wr : World) (v : Value) (ls : List ByteArray) : Prop :=
  OwnV 9 B wr v (ls.map Value.string) ∧ ls.Pairwise bl ∧ (∀ x ∈ ls, x.size ≤ 30) ∧ Below B w wr
theorem ChS.form {B : Nat} {w wr : World} {v : Value} {ls : List ByteArray} (h : ChS B w wr v ls) : ∃ a n cap, v = .slice a n cap ∧ n = ls.length ∧ n ≤ cap ∧ cap ≤ maxLen ∧
    ∀ k, k < n → ∃ g, a = some ⟨g, 0, none⟩ ∧ wr.cell? ⟨g, k, none⟩ = some (.string (ls.getD k ByteArray.empty)) := by
  obtain ⟨h1, -⟩ := h
  rcases h1.nilOr with ⟨rfl, e⟩ | ⟨g, cap, rfl, h2, h3, h4, h5⟩
  · exact ⟨none, 0, 0, rfl, by have := congrArg List.length e; simpa using this.symm, Nat.le_refl _, by unfold maxLen; omega, fun k hk => by omega⟩
  · rw [List.length_map] at h4 ⊢
    refine ⟨_, _, cap, rfl, rfl, h4, h5, fun k hk => ⟨g, rfl, ?_⟩⟩
    rcases h1.rd with ⟨_, _, e, e2⟩ | ⟨b, off, c, e, _, _, _, _, h6⟩
    · have := congrArg List.length e2; rw [List.length_map, List.length_nil] at this; omega
    · simp only [Value.slice.injEq, Option.some.injEq, Addr.mk.injEq] at e
      obtain ⟨⟨rfl, rfl, -⟩, -⟩ := e
      have := h6 k (by rw [List.length_map]; exact hk)
      rwa [Nat.zero_add, getD_strs ls k hk] at this
theorem ChS.cells {B : Nat} {w wr : World} {a : Option Addr} {n cap : Nat} {ls : List ByteArray} (h : ChS B w wr (.slice a n cap) ls) (hn : n = ls.length) (k : Nat) (hk : k < n) :
    ∃ g, a = some ⟨g, 0, none⟩ ∧ wr.cell? ⟨g, k, none⟩ = some (.string (ls.getD k ByteArray.empty)) := by
  obtain ⟨a', n', cap', e, _, _, _, hc⟩ := h.form
  simp only [Value.slice.injEq] at e
  obtain ⟨rfl, rfl, rfl⟩ := e
  exact hc k hk
theorem ChS.below {B : Nat} {w wr w2 : World} {v : Value} {ls : List ByteArray} (h : ChS B w wr v ls) (hb : Below wr.heap.size wr w2) (hB : B ≤ wr.heap.size) : ChS B w w2 v ls :=
  ⟨h.1.below hb, h.2.1, h.2.2.1, h.2.2.2.trans (hb.mono hB)⟩
theorem getD_in {ls : List ByteArray} {k : Nat} (hk : k < ls.length) : ls.getD k ByteArray.empty = ls[k] := by rw [List.getD_eq_getElem?_getD, List.getElem?_eq_getElem hk]; rfl
theorem ChS.less {B : Nat} {w wr : World} {a : Option Addr} {n cap : Nat} {ls : List ByteArray} (h : ChS B w wr (.slice a n cap) ls) (hn : n = ls.length) (q : Nat) (hq : q + 1 < n) :
    bl (ls.getD q ByteArray.empty) (ls.getD (q + 1) ByteArray.empty) := by
  rw [getD_in (by omega), getD_in (by omega)]
  exact List.pairwise_iff_getElem.1 h.2.1 q (q + 1) (by omega) (by omega) (by omega)
theorem ChS.small {B : Nat} {w wr : World} {a : Option Addr} {n cap : Nat} {ls : List ByteArray} (h : ChS B w wr (.slice a n cap) ls) (hn : n = ls.length) (q : Nat) (hq : q + 1 < n) :
    (ls.getD q ByteArray.empty).size ≤ maxLen ∧ (ls.getD (q + 1) ByteArray.empty).size ≤ maxLen := by
  rw [getD_in (by omega), getD_in (by omega)]
  have h1 := h.2.2.1 _ (List.getElem_mem (show q < ls.length by omega))
  have h2 := h.2.2.1 _ (List.getElem_mem (show q + 1 < ls.length by omega))
  unfold maxLen; omega
theorem chain_less (p y c : ByteArray) (h : bl p y) (hc : (⟨(btwP p.data.toList y.data.toList).toArray⟩ : ByteArray) = c) : Op.bytesLess c.toList p.toList = false ∧ Op.bytesLess c.toList y.toList = true := by
  rcases (btw_facts p y c hc).2 with ⟨h1, -⟩ | ⟨-, h2, h3, -⟩
  · rw [less_eq, decide_eq_false_iff_not] at h1; exact absurd h h1
  · exact ⟨h3, h2⟩
/-- Where x belongs: the texts below it are the first k. -/
def AtP (ls : List ByteArray) (x : ByteArray) (k : Nat) : Prop := k ≤ ls.length ∧ ∀ j, j < k → bl (ls.getD j ByteArray.empty) x
theorem AtP.next {ls : List ByteArray} {x : ByteArray} {k : Nat} (h : AtP ls x k) (hk : k < ls.length) (hb : bl (ls.getD k ByteArray.empty) x) : AtP ls x (k + 1) := by
  refine ⟨hk, fun j hj => ?_⟩
  rcases Nat.lt_or_eq_of_le (Nat.le_of_lt_succ hj) with h1 | rfl
  · exact h.2 j h1
  · exact hb
theorem mem_getD {ls : List ByteArray} {a : ByteArray} {k : Nat} (h : a ∈ ls.take k) : ∃ j, j < k ∧ j < ls.length ∧ a = ls.getD j ByteArray.empty := by
  obtain ⟨j, hj, rfl⟩ := List.mem_iff_getElem.1 h
  rw [List.length_take] at hj
  refine ⟨j, by omega, by omega, ?_⟩
  rw [List.getElem_take, List.getD_eq_getElem?_getD, List.getElem?_eq_getElem (by omega)]; rfl
theorem ins_ok {ls : List ByteArray} {x : ByteArray} {k : Nat} (h : AtP ls x k) (hs : ls.Pairwise bl) (he : k = ls.length ∨ k < ls.length ∧ bl x (ls.getD k ByteArray.empty)) (h30 : ∀ y ∈ ls, y.size ≤ 30) (hx : x.size ≤ 30) :
    (ls.take k ++ x :: ls.drop k).Pairwise bl ∧ ∀ y ∈ ls.take k ++ x :: ls.drop k, y.size ≤ 30 := by
  have h1 : ∀ a ∈ ls.take k, bl a x := fun a ha => by obtain ⟨j, hj, -, rfl⟩ := mem_getD ha; exact h.2 j hj
  have h2 : ∀ b ∈ ls.drop k, bl x b := fun b hb => by
    rcases he with e | ⟨e, hb2⟩
    · rw [List.drop_of_length_le (by omega)] at hb; simp at hb
    · have hd := List.drop_eq_getElem_cons e
      have hp : (ls.drop k).Pairwise bl := hs.sublist (List.drop_sublist k ls)
      rw [hd] at hb hp
      have hg : ls.getD k ByteArray.empty = ls[k] := by rw [List.getD_eq_getElem?_getD, List.getElem?_eq_getElem e]; rfl
      rw [hg] at hb2
      rcases List.mem_cons.1 hb with rfl | hb
      · exact hb2
      · exact bl_trans hb2 ((List.pairwise_cons.1 hp).1 b hb)
  refine ⟨List.pairwise_append.2 ⟨hs.sublist (List.take_sublist k ls), List.pairwise_cons.2 ⟨h2, hs.sublist (List.drop_sublist k ls)⟩, fun a ha b hb => ?_⟩, fun y hy => ?_⟩
  · rcases List.mem_cons.1 hb with rfl | hb
    · exact h1 a ha
    · exact bl_trans (h1 a ha) (h2 b hb)
  · rcases List.mem_append.1 hy with hy | hy
    · exact h30 y (List.mem_of_mem_take hy)
    · rcases List.mem_cons.1 hy with rfl | hy
      · exact hx
      · exact h30 y (List.mem_of_mem_drop hy)
theorem ins_len (ls : List ByteArray) (x : ByteArray) (k : Nat) : (ls.take k ++ x :: ls.drop k).length = ls.length + 1 := by
  rw [List.length_append, List.length_cons, List.length_take, List.length_drop]; omega
theorem str_cells (l : List ByteArray) : ∀ u ∈ l.map Value.string, u.oneCell' = true := by
  intro u hu; obtain ⟨x, -, rfl⟩ := List.mem_map.1 hu; rfl
/-- The two appends that lay x between the first k texts and the others. -/
theorem chIns_run {B : Nat} {w wr : World} {a : Option Addr} {n cap : Nat} {ls : List ByteArray} (h : ChS B w wr (.slice a n cap) ls) (hn : n = ls.length) (hB : B ≤ wr.heap.size) (k : Nat) (hk : k ≤ n) (h12 : ls.length ≤ 12) (x : ByteArray)
    (W : World) (hW : Below wr.heap.size wr W) :
    ∃ v1 w1, (Builtin.append_ #[39, 39] 39 #[.slice (some ⟨W.heap.size, 0, none⟩) 1 1, .slice (if cap = k then a else a.map (·.add k)) (n - k) (cap - k)]).run Tryd.prog (W.alloc (.cells #[.string x] 9)) = .ok v1 w1 ∧ Below wr.heap.size wr w1 ∧
      ∃ v2 w2, (Builtin.append_ #[39, 39] 39 #[.slice a k k, v1]).run Tryd.prog w1 = .ok v2 w2 ∧ Below wr.heap.size wr w2 ∧ OwnV 9 B w2 v2 ((ls.take k ++ x :: ls.drop k).map Value.string) := by
  obtain ⟨h1, -, -, hb⟩ := h
  have hsz := hW.size
  have hal : Below wr.heap.size wr (W.alloc (.cells #[.string x] 9)) := hW.alloc hsz _
  have hT := (h1.rest k hk).below hal
  have hO := own_fresh (E := 9) W [.string x] 1 rfl (by decide) (by unfold maxLen; omega)
  obtain ⟨v1, w1, r1, o1, b1⟩ := run_appS (ty := 39) elem_str hO hT (by rw [← List.map_drop]; exact str_cells _) (by rw [← List.map_drop, List.length_map, List.length_drop]; simp; omega) (by rw [← List.map_drop, List.length_map, List.length_drop]; simp [maxLen]; omega) (by simp)
  have B1 : Below wr.heap.size wr w1 := hal.trans (b1.mono hsz)
  obtain ⟨f1, f2, f3⟩ := h1.front k hk
  have hF := f1.below B1
  obtain ⟨v2, w2, r2, o2, b2⟩ := run_appF (ty := 39) elem_str (B := B) hF (a := a) (by rw [f2]) f3 o1.rd (by simp) (by rw [f2]; simp; omega) (by rw [f2]; simp [maxLen]; omega) (Nat.le_trans hB B1.size)
  refine ⟨v1, w1, r1, B1, v2, w2, r2, B1.trans (b2.mono B1.size), ?_⟩
  rw [List.map_append, List.map_cons, List.map_take, List.map_drop]
  exact o2
theorem chIns_at {B : Nat} {w wr : World} {a : Option Addr} {n cap : Nat} {ls : List ByteArray} (h : ChS B w wr (.slice a n cap) ls) (hn : n = ls.length) (hB : B ≤ wr.heap.size) (k : Nat) (hk : k ≤ n) (h12 : ls.length ≤ 12) (x : ByteArray) :
    ∃ v1 w1, (Builtin.append_ #[39, 39] 39 #[.slice (some ⟨wr.heap.size, 0, none⟩) 1 1, .slice (if cap = k then a else a.map (·.add k)) (n - k) (cap - k)]).run Tryd.prog (wr.alloc (.cells #[.string x] 9)).drew = .ok v1 w1 ∧ Below wr.heap.size wr w1 ∧
      ∃ v2 w2, (Builtin.append_ #[39, 39] 39 #[.slice a k k, v1]).run Tryd.prog w1 = .ok v2 w2 ∧ Below wr.heap.size wr w2 ∧ OwnV 9 B w2 v2 ((ls.take k ++ x :: ls.drop k).map Value.string) :=
  chIns_run h hn hB k hk h12 x wr.drew (Below.refl _ _).drew
theorem add_none (a : Addr) : a.add 0 = a := by obtain ⟨b, o, e⟩ := a; unfold Addr.add; split <;> simp_all
theorem map_add_none (a : Option Addr) : a.map (·.add 0) = a := by cases a <;> simp [add_none]
theorem sl_hm (W : World) (a : Option Addr) (n cap k : Nat) (h : k ≤ n) (hc : n ≤ cap) :
    (Instr.sliceAt 39 (.slice a n cap) none (some (.int .i64 (k : Int))) (some (.int .i64 (k : Int)))).run Tryd.prog W = .ok (.slice a k k) W := by
  have hT : Tryd.prog.underlying 39 = some (.slice (Tryd.prog.elem 39)) := by kernel_rfl
  have hS : (sizeOf (Tryd.prog.elem 39)).run Tryd.prog W = .ok 1 W := by kernel_rfl
  rw [run_sliceAt_slice (h := hT), run_slice_hm (w := W) (t := 39) (a := a) (len := n) (cap := cap) (ht := hT) (kh := .i64) (km := .i64) (h := k) (m := k) (h0 := by omega) (h2 := by omega) (h3 := by omega), hS]
  simp [Result.andThen, sliced, map_add_none]
theorem sl_l (W : World) (a : Option Addr) (n cap k : Nat) (h : k ≤ n) (hc : n ≤ cap) :
    (Instr.sliceAt 39 (.slice a n cap) (some (.int .i64 (k : Int))) none none).run Tryd.prog W = .ok (.slice (if cap = k then a else a.map (·.add k)) (n - k) (cap - k)) W := by
  have hT : Tryd.prog.underlying 39 = some (.slice (Tryd.prog.elem 39)) := by kernel_rfl
  have hS : (sizeOf (Tryd.prog.elem 39)).run Tryd.prog W = .ok 1 W := by kernel_rfl
  rw [run_sliceAt_slice (h := hT), run_slice_l (w := W) (t := 39) (a := a) (len := n) (cap := cap) (ht := hT) (kl := .i64) (l := k) (h0 := by omega) (h1 := by omega), hS]
  simp [Result.andThen, sliced]
theorem bs_less (a b : ByteArray) (h : bl a b) : Op.bytesLess a.toList b.toList = true := by rw [less_eq]; exact decide_eq_true h
theorem bs_not (a b : ByteArray) (h : ¬ bl a b) : Op.bytesLess a.toList b.toList = false := by rw [less_eq]; exact decide_eq_false h
theorem bl_irr (a : ByteArray) : ¬ bl a a := List.lt_irrefl _
theorem bs_eq (a b : ByteArray) : (a.toList == b.toList) = decide (a = b) := by
  rw [Lib.toList_data, Lib.toList_data, Bool.eq_iff_iff, beq_iff_eq, decide_eq_true_eq]
  constructor
  · intro h; exact ByteArray.ext (Array.toList_inj.1 h)
  · rintro rfl; rfl
set_option maxHeartbeats 4000000 in
set_option maxRecDepth 100000 in
theorem keyChain_walk (w : World) (hE : ErrAt w) (hSp : SpAt w) (la : Option Addr) (len lc : Nat) (ss : List ByteArray) (hz : RdV w (.slice la len lc) (ss.map Value.string)) (hw : ∀ s ∈ ss, s.size ≤ maxLen) :
    Calls Tryd.prog 6 #[.slice la len lc] w fun e w' => e = .returned (.bool true) ∧ Below w.heap.size w w' := by
  have HB := Lib.hid (kbegun_any w hE hSp)
  have HZ := Lib.hid hz
  have HCut : Hid (∀ i, i < ss.length → ∀ w, Calls Tryd.prog 10 #[.string (ss.getD i ByteArray.empty), .int .i64 30] w fun e w' => ∃ t : ByteArray, e = .returned (.string t) ∧ t.size ≤ 30 ∧ w = w') := Lib.hid fun i hi w => by
    rw [List.getD_eq_getElem?_getD, List.getElem?_eq_getElem hi]
    exact cut_any _ 30 (by omega) (hw _ (List.getElem_mem hi)) w
  clear hE hSp hz hw
  go_enter Tryd.func6, Tryd.ntmps6
  go_wp2_with fail
  refine HB.out.mono ?_
  rintro e w1 ⟨rfl, hb1⟩
  have HC0 : Hid (ChS w.heap.size w w1 (.slice none 0 0) []) := Lib.hid ⟨OwnV.nil _ _ _, List.Pairwise.nil, by simp, hb1⟩
  clear hb1 HB
  go_wp2_with fail
  go_loopg [4, 5, 6, 7] len (fun kk v vi _ _ wr => ∃ (i : Nat) (ls : List ByteArray), vi = .int .i64 i ∧ i ≤ len ∧ i ≤ 12 ∧ len - i ≤ kk ∧ ls.length ≤ i ∧ Hid (ChS w.heap.size w wr v ls))
  case atStart => exact ⟨0, [], rfl, by omega, by omega, by omega, by simp, HC0⟩
  case round =>
    clear HC0
    obtain ⟨i, ls, rfl, hi, hi12, hikk, hls, HC⟩ := hrel
    obtain ⟨a, n, cap, rfl, hn, hncap, hcapm, hcells⟩ := HC.out.form
    have HCELL := Lib.hid hcells
    have HN := Lib.hid hn
    have hn12 : n ≤ 12 := by omega
    have hni : n ≤ i := by omega
    unfold maxLen at hcapm
    clear hcells hn hls
    by_cases h1 : i < len
    · by_cases h2 : i < 12
      · have hd1 : decide (i < len) = true := decide_eq_true h1
        have hz2 : (i : Int) < 12 := by omega
        have hsl : len = ss.length := by
          rcases HZ.out with ⟨_, _, e, e2⟩ | ⟨b, off, c, e, _⟩
          · simp only [Value.slice.injEq] at e; omega
          · simp only [Value.slice.injEq] at e; rw [e.2.1, List.length_map]
        obtain ⟨b, off, rfl, hc⟩ : ∃ b off, la = some ⟨b, off, none⟩ ∧ wr.cell? ⟨b, off + i, none⟩ = some (.string (ss.getD i ByteArray.empty)) := by
          rcases RdV.below HZ.out HC.out.2.2.2 with ⟨_, _, e, e2⟩ | ⟨b, off, c, e, _, _, _, _, h6⟩
          · simp only [Value.slice.injEq] at e; omega
          · simp only [Value.slice.injEq] at e
            refine ⟨b, off, e.1, ?_⟩
            rw [h6 i (by rw [List.length_map]; omega), getD_strs ss i (by omega)]
        have HCi := Lib.hid (HCut.out i (by omega))
        generalize ss.getD i ByteArray.empty = si at *
        have h0i : (0 : Int) ≤ (i : Int) := by omega
        have hil : (i : Int) < (len : Int) := by omega
        clear hsl
        go_wp2_with fail
        refine (HCi.out _).mono ?_
        rintro e w' ⟨x, rfl, hx30, rfl⟩
        clear hc HCi
        have HAT0 : Hid (AtP ls x 0) := Lib.hid ⟨Nat.zero_le _, fun j hj => absurd hj (by omega)⟩
        go_wp2_with fail
        go_loopg [7] n (fun kk vk wr2 => ∃ k : Nat, vk = .int .i64 k ∧ k ≤ n ∧ n - k ≤ kk ∧ wr2 = wr ∧ Hid (AtP ls x k))
        case atStart => exact ⟨0, rfl, by omega, by omega, rfl, HAT0⟩
        case round =>
          clear HAT0
          obtain ⟨k, rfl, hk, hkk, rfl, HAT⟩ := hrel
          have HS1 : Hid (∀ W, (Instr.sliceAt 39 (.slice a n cap) none (some (.int .i64 (k : Int))) (some (.int .i64 (k : Int)))).run Tryd.prog W = .ok (.slice a k k) W) := Lib.hid fun W => sl_hm W a n cap k hk hncap
          have HS2 : Hid (∀ W, (Instr.sliceAt 39 (.slice a n cap) (some (.int .i64 (k : Int))) none none).run Tryd.prog W = .ok (.slice (if cap = k then a else a.map (·.add k)) (n - k) (cap - k)) W) := Lib.hid fun W => sl_l W a n cap k hk hncap
          have HIN := Lib.hid (chIns_at HC.out HN.out HC.out.2.2.2.size k hk (by have := HN.out; omega) x)
          obtain ⟨T, hT⟩ : ∃ T : Value, Value.slice (if cap = k then a else a.map (·.add k)) (n - k) (cap - k) = T := ⟨_, rfl⟩
          rw [hT] at HS2 HIN
          clear hT
          by_cases hkn : k < n
          · obtain ⟨g, rfl, hc⟩ := HCELL.out k hkn
            have hd2 : decide (k < n) = true := decide_eq_true hkn
            have heq : ((k : Int) == (n : Int)) = false := by rw [beq_eq_false_iff_ne]; omega
            have h0k : (0 : Int) ≤ (k : Int) := by omega
            have hkn2 : (k : Int) < (n : Int) := by omega
            have hkl : k < ls.length := by have := HN.out; omega
            have HNX : Hid (bl (ls.getD k ByteArray.empty) x → AtP ls x (k + 1)) := Lib.hid fun h => HAT.out.next hkl h
            have HIN2 : Hid (bl x (ls.getD k ByteArray.empty) → (ls.take k ++ x :: ls.drop k).Pairwise bl ∧ ∀ y ∈ ls.take k ++ x :: ls.drop k, y.size ≤ 30) := Lib.hid fun h => ins_ok HAT.out HC.out.2.1 (.inr ⟨hkl, h⟩) HC.out.2.2.1 hx30
            clear HCELL hkl
            generalize ls.getD k ByteArray.empty = y at *
            rcases bl_tri y x with h3 | h3 | h3
            · have hl := bs_less y x h3
              have HA2 := Lib.hid (HNX.out h3)
              clear h3 HNX HIN2 HS1 HS2 HIN
              go_wp2_with fail
              go_roundg (n - (k + 1))
              case measure => omega
              case rel => exact ⟨k + 1, by go_num, by omega, Nat.le_refl _, rfl, HA2⟩
            · have hl : Op.bytesLess y.toList x.toList = false := bs_not y x (by rw [h3]; exact bl_irr x)
              have he : (y.toList == x.toList) = true := by rw [bs_eq]; exact decide_eq_true h3
              clear h3 HNX HIN2 HS1 HS2 HIN
              go_wp2_with fail
              go_roundg (len - (i + 1))
              case measure => omega
              case rel => exact ⟨i + 1, _, by go_num, by omega, by omega, Nat.le_refl _, by have := HN.out; omega, HC⟩
            · have hl : Op.bytesLess y.toList x.toList = false := bs_not y x (fun h => bl_irr _ (bl_trans h h3))
              have he : (y.toList == x.toList) = false := by rw [bs_eq]; exact decide_eq_false (fun h => by rw [h] at h3; exact bl_irr _ h3)
              have HQQ := Lib.hid (HIN2.out h3)
              clear h3 HNX HIN2
              go_wp2_with fail
              refine wp_region_held_drew (S := Below wr.heap.size wr) (by kernel_rfl) (Below.refl _ _).drew (fun hHeld => ?_)
              refine takeYes (i := 0) (k := 54) (v := .slice (some ⟨g, 0, none⟩) n cap) rfl (by kernel_rfl) (by kernel_rfl) (by kernel_rfl) (by kernel_rfl) (fun _ _ _ h => h) (by kernel_rfl) ?_ (by assumption) ?_
              · intro W hSw; first | (go_simp; done) | go_simp
              try simp only [Act.put, List.setIfInBounds_toArray, List.set_cons_zero, List.set_cons_succ]
              refine takeYes (i := 1) (k := 55) (v := .int .i64 (k : Int)) rfl (by kernel_rfl) (by kernel_rfl) (by kernel_rfl) (by kernel_rfl) (fun _ _ _ h => h) (by kernel_rfl) ?_ (by assumption) ?_
              · intro W hSw; first | (go_simp; done) | go_simp
              try simp only [Act.put, List.setIfInBounds_toArray, List.set_cons_zero, List.set_cons_succ]
              refine takeYes (i := 2) (k := 56) (v := .int .i64 (k : Int)) rfl (by kernel_rfl) (by kernel_rfl) (by kernel_rfl) (by kernel_rfl) (fun _ _ _ h => h) (by kernel_rfl) ?_ (by assumption) ?_
              · intro W hSw; first | (go_simp; done) | go_simp
              try simp only [Act.put, List.setIfInBounds_toArray, List.set_cons_zero, List.set_cons_succ]
              refine takeYes (i := 3) (k := 57) (v := .slice (some ⟨g, 0, none⟩) k k) rfl (by kernel_rfl) (by kernel_rfl) (by kernel_rfl) (by kernel_rfl) (fun _ _ _ h => h) (by kernel_rfl) ?_ (by assumption) ?_
              · intro W hSw; have hsl := HS1.out W; first | (go_simp; done) | go_simp
              try simp only [Act.put, List.setIfInBounds_toArray, List.set_cons_zero, List.set_cons_succ]
              refine takeYes (i := 4) (k := 58) (v := .string x) rfl (by kernel_rfl) (by kernel_rfl) (by kernel_rfl) (by kernel_rfl) (fun _ _ _ h => h) (by kernel_rfl) ?_ (by assumption) ?_
              · intro W hSw; first | (go_simp; done) | go_simp
              try simp only [Act.put, List.setIfInBounds_toArray, List.set_cons_zero, List.set_cons_succ]
              refine takeYes (i := 6) (k := 60) (v := .slice (some ⟨g, 0, none⟩) n cap) rfl (by kernel_rfl) (by kernel_rfl) (by kernel_rfl) (by kernel_rfl) (fun _ _ _ h => h) (by kernel_rfl) ?_ (by assumption) ?_
              · intro W hSw; first | (go_simp; done) | go_simp
              try simp only [Act.put, List.setIfInBounds_toArray, List.set_cons_zero, List.set_cons_succ]
              refine takeYes (i := 7) (k := 61) (v := .int .i64 (k : Int)) rfl (by kernel_rfl) (by kernel_rfl) (by kernel_rfl) (by kernel_rfl) (fun _ _ _ h => h) (by kernel_rfl) ?_ (by assumption) ?_
              · intro W hSw; first | (go_simp; done) | go_simp
              try simp only [Act.put, List.setIfInBounds_toArray, List.set_cons_zero, List.set_cons_succ]
              refine takeYes (i := 8) (k := 62) (v := T) rfl (by kernel_rfl) (by kernel_rfl) (by kernel_rfl) (by kernel_rfl) (fun _ _ _ h => h) (by kernel_rfl) ?_ (by assumption) ?_
              · intro W hSw; have hsl := HS2.out W; first | (go_simp; done) | go_simp
              try simp only [Act.put, List.setIfInBounds_toArray, List.set_cons_zero, List.set_cons_succ]
              obtain ⟨v1, w3, r1, b1, v2, w4, r2, b2, o2⟩ := HIN.out
              refine wpAnyH_ready (rs := [5]) (by kernel_rfl) (by simp) (AllReadyH.cons rfl (fun K hK => ?_) AllReadyH.nil)
              go_simp
              refine hK.out _ _ ((Below.refl _ wr).alloc (Nat.le_refl _) _).drew (fun hHeld2 => ?_)
              clear hK K hHeld
              try simp only [Act.put, List.setIfInBounds_toArray, List.set_cons_zero, List.set_cons_succ]
              refine wpAnyH_ready (rs := [9]) (by kernel_rfl) (by simp) (AllReadyH.cons rfl (fun K hK => ?_) AllReadyH.nil)
              refine step_app (by kernel_rfl) (.tmp 59) (.tmp 62) 39 rfl rfl rfl r1 ?_
              refine hK.out _ _ b1 (fun hHeld2 => ?_)
              clear hK K
              try simp only [Act.put, List.setIfInBounds_toArray]
              refine wpAnyH_ready (rs := [10]) (by kernel_rfl) (by simp) (AllReadyH.cons rfl (fun K hK => ?_) AllReadyH.nil)
              refine step_app (by kernel_rfl) (.tmp 57) (.tmp 63) 39 rfl rfl rfl r2 ?_
              refine hK.out _ _ b2 (fun hHeld2 => ?_)
              clear hK K
              try simp only [Act.put]
              refine takeYes (i := 11) (k := 4) (v := v2) rfl (by kernel_rfl) (by kernel_rfl) (by kernel_rfl) (by kernel_rfl) (fun _ _ _ h => h) (by kernel_rfl) ?_ (by assumption) ?_
              · intro W hSw; first | (go_simp; done) | go_simp
              try simp only [Act.put]
              refine wpAnyH_done (by kernel_rfl) ?_ _
              have HC2 : Hid (ChS w.heap.size w w4 v2 (ls.take k ++ x :: ls.drop k)) := Lib.hid (by
                obtain ⟨q1, q2⟩ := HQQ.out
                exact ⟨o2, q1, q2, HC.out.2.2.2.trans (b2.mono HC.out.2.2.2.size)⟩)
              have HL2 : Hid ((ls.take k ++ x :: ls.drop k).length ≤ i + 1) := Lib.hid (by rw [ins_len]; have := HN.out; omega)
              clear r1 r2 b1 b2 o2 HS1 HS2 HIN
              go_wp2_with fail
              go_roundg (len - (i + 1))
              case measure => omega
              case rel => exact ⟨i + 1, _, by go_num, by omega, by omega, Nat.le_refl _, HL2.out, HC2⟩
          · have heq : ((k : Int) == (n : Int)) = true := by rw [beq_iff_eq]; omega
            go_wp2_with fail
            refine wp_region_held_drew (S := Below wr.heap.size wr) (by kernel_rfl) (Below.refl _ _).drew (fun hHeld => ?_)
            refine takeYes (i := 0) (k := 54) (v := .slice a n cap) rfl (by kernel_rfl) (by kernel_rfl) (by kernel_rfl) (by kernel_rfl) (fun _ _ _ h => h) (by kernel_rfl) ?_ (by assumption) ?_
            · intro W hSw; first | (go_simp; done) | go_simp
            try simp only [Act.put, List.setIfInBounds_toArray, List.set_cons_zero, List.set_cons_succ]
            refine takeYes (i := 1) (k := 55) (v := .int .i64 (k : Int)) rfl (by kernel_rfl) (by kernel_rfl) (by kernel_rfl) (by kernel_rfl) (fun _ _ _ h => h) (by kernel_rfl) ?_ (by assumption) ?_
            · intro W hSw; first | (go_simp; done) | go_simp
            try simp only [Act.put, List.setIfInBounds_toArray, List.set_cons_zero, List.set_cons_succ]
            refine takeYes (i := 2) (k := 56) (v := .int .i64 (k : Int)) rfl (by kernel_rfl) (by kernel_rfl) (by kernel_rfl) (by kernel_rfl) (fun _ _ _ h => h) (by kernel_rfl) ?_ (by assumption) ?_
            · intro W hSw; first | (go_simp; done) | go_simp
            try simp only [Act.put, List.setIfInBounds_toArray, List.set_cons_zero, List.set_cons_succ]
            refine takeYes (i := 3) (k := 57) (v := .slice a k k) rfl (by kernel_rfl) (by kernel_rfl) (by kernel_rfl) (by kernel_rfl) (fun _ _ _ h => h) (by kernel_rfl) ?_ (by assumption) ?_
            · intro W hSw; have hsl := HS1.out W; first | (go_simp; done) | go_simp
            try simp only [Act.put, List.setIfInBounds_toArray, List.set_cons_zero, List.set_cons_succ]
            refine takeYes (i := 4) (k := 58) (v := .string x) rfl (by kernel_rfl) (by kernel_rfl) (by kernel_rfl) (by kernel_rfl) (fun _ _ _ h => h) (by kernel_rfl) ?_ (by assumption) ?_
            · intro W hSw; first | (go_simp; done) | go_simp
            try simp only [Act.put, List.setIfInBounds_toArray, List.set_cons_zero, List.set_cons_succ]
            refine takeYes (i := 6) (k := 60) (v := .slice a n cap) rfl (by kernel_rfl) (by kernel_rfl) (by kernel_rfl) (by kernel_rfl) (fun _ _ _ h => h) (by kernel_rfl) ?_ (by assumption) ?_
            · intro W hSw; first | (go_simp; done) | go_simp
            try simp only [Act.put, List.setIfInBounds_toArray, List.set_cons_zero, List.set_cons_succ]
            refine takeYes (i := 7) (k := 61) (v := .int .i64 (k : Int)) rfl (by kernel_rfl) (by kernel_rfl) (by kernel_rfl) (by kernel_rfl) (fun _ _ _ h => h) (by kernel_rfl) ?_ (by assumption) ?_
            · intro W hSw; first | (go_simp; done) | go_simp
            try simp only [Act.put, List.setIfInBounds_toArray, List.set_cons_zero, List.set_cons_succ]
            refine takeYes (i := 8) (k := 62) (v := T) rfl (by kernel_rfl) (by kernel_rfl) (by kernel_rfl) (by kernel_rfl) (fun _ _ _ h => h) (by kernel_rfl) ?_ (by assumption) ?_
            · intro W hSw; have hsl := HS2.out W; first | (go_simp; done) | go_simp
            try simp only [Act.put, List.setIfInBounds_toArray, List.set_cons_zero, List.set_cons_succ]
            obtain ⟨v1, w3, r1, b1, v2, w4, r2, b2, o2⟩ := HIN.out
            refine wpAnyH_ready (rs := [5]) (by kernel_rfl) (by simp) (AllReadyH.cons rfl (fun K hK => ?_) AllReadyH.nil)
            go_simp
            refine hK.out _ _ ((Below.refl _ wr).alloc (Nat.le_refl _) _).drew (fun hHeld2 => ?_)
            clear hK K hHeld
            try simp only [Act.put, List.setIfInBounds_toArray, List.set_cons_zero, List.set_cons_succ]
            refine wpAnyH_ready (rs := [9]) (by kernel_rfl) (by simp) (AllReadyH.cons rfl (fun K hK => ?_) AllReadyH.nil)
            refine step_app (by kernel_rfl) (.tmp 59) (.tmp 62) 39 rfl rfl rfl r1 ?_
            refine hK.out _ _ b1 (fun hHeld2 => ?_)
            clear hK K
            try simp only [Act.put, List.setIfInBounds_toArray]
            refine wpAnyH_ready (rs := [10]) (by kernel_rfl) (by simp) (AllReadyH.cons rfl (fun K hK => ?_) AllReadyH.nil)
            refine step_app (by kernel_rfl) (.tmp 57) (.tmp 63) 39 rfl rfl rfl r2 ?_
            refine hK.out _ _ b2 (fun hHeld2 => ?_)
            clear hK K
            try simp only [Act.put]
            refine takeYes (i := 11) (k := 4) (v := v2) rfl (by kernel_rfl) (by kernel_rfl) (by kernel_rfl) (by kernel_rfl) (fun _ _ _ h => h) (by kernel_rfl) ?_ (by assumption) ?_
            · intro W hSw; first | (go_simp; done) | go_simp
            try simp only [Act.put]
            refine wpAnyH_done (by kernel_rfl) ?_ _
            have HC2 : Hid (ChS w.heap.size w w4 v2 (ls.take k ++ x :: ls.drop k)) := Lib.hid (by
              obtain ⟨q1, q2⟩ := ins_ok HAT.out HC.out.2.1 (.inl (by have := HN.out; omega)) HC.out.2.2.1 hx30
              exact ⟨o2, q1, q2, HC.out.2.2.2.trans (b2.mono HC.out.2.2.2.size)⟩)
            have HL2 : Hid ((ls.take k ++ x :: ls.drop k).length ≤ i + 1) := Lib.hid (by rw [ins_len]; have := HN.out; omega)
            clear r1 r2 b1 b2 o2 HS1 HS2 HIN
            go_wp2_with fail
            go_roundg (len - (i + 1))
            case measure => omega
            case rel => exact ⟨i + 1, _, by go_num, by omega, by omega, Nat.le_refl _, HL2.out, HC2⟩
      · have hd1 : decide (i < len) = true := decide_eq_true h1
        have hz2 : ¬ (i : Int) < 12 := by omega
        go_wp2_with fail
        go_loopg [8, 9] n (fun kk vi _ wr2 => ∃ j : Nat, vi = .int .i64 j ∧ 1 ≤ j ∧ j ≤ n + 1 ∧ n - j ≤ kk ∧ Hid (ChS w.heap.size w wr2 (.slice a n cap) ls))
        case atStart => exact ⟨1, by go_num, by omega, by omega, by omega, HC⟩
        case round =>
          clear HC HCELL
          obtain ⟨j, rfl, hj1, hjn, hjk, HC⟩ := hrel
          by_cases hj : j < n
          · obtain ⟨q, rfl⟩ : ∃ q, j = q + 1 := ⟨j - 1, by omega⟩
            obtain ⟨g, hg, c1⟩ := HC.out.cells HN.out q (by omega)
            obtain ⟨g2, hg2, c2⟩ := HC.out.cells HN.out (q + 1) hj
            subst hg
            obtain rfl : g = g2 := by simpa using hg2
            clear hg2
            have hglt := World.block_lt_of_cell? wr _ c1
            have hpy := HC.out.less HN.out q hj
            obtain ⟨s1, s2⟩ := HC.out.small HN.out q hj
            generalize ls.getD q ByteArray.empty = p at *
            generalize ls.getD (q + 1) ByteArray.empty = y at *
            obtain ⟨c, hc⟩ : ∃ c : ByteArray, (⟨(btwP p.data.toList y.data.toList).toArray⟩ : ByteArray) = c := ⟨_, rfl⟩
            have HK1 : Hid (∀ w, Calls Tryd.prog 11 #[.string p, .string y] w fun e w' => e = .returned (.string c) ∧ Below w.heap.size w w') := Lib.hid fun w => by
              have := kbtw_any p y s1 s2 w
              rwa [hc] at this
            have HK2 : Hid (∀ w, Calls Tryd.prog 12 #[.string p, .string y] w fun e w' => e = .returned (.string c) ∧ Below w.heap.size w w') := Lib.hid fun w => by
              have := krbtw_any p y s1 s2 w
              rwa [hc] at this
            obtain ⟨hl1, hl2⟩ := chain_less p y c hpy hc
            have eq1 : ((q + 1 : Nat) : Int) - 1 = (q : Int) := by omega
            have eq2 : ((q + 1 : Nat) : Int) = (q : Int) + 1 := by omega
            have eq3 : (q : Int) + 1 - 1 = (q : Int) := by omega
            have wq : IntKind.i64.wrap (q : Int) = (q : Int) := by rw [IntKind.wrap_i64]; omega
            have bq0 : (0 : Int) ≤ (q : Int) := by omega
            have bq1 : (q : Int) + 1 < (n : Int) := by omega
            have bq3 : (0 : Int) ≤ (q : Int) + 1 := by omega
            have bq4 : ¬ (q : Int) + 1 < 0 := by omega
            have bq2 : (q : Int) < (n : Int) := by omega
            have tq : ((q : Int) + 1).toNat = q + 1 := by omega
            have hzj : ((q + 1 : Nat) : Int) < (n : Int) := by omega
            clear hc hpy s1 s2 hj1 hjn
            go_wp2_with fail
            refine wp_region_held_drew (S := Below wr.heap.size wr) (by kernel_rfl) (Below.refl _ _).drew (fun hHeld => ?_)
            refine takeYes (i := 0) (k := 71) (v := .slice (some ⟨g, 0, none⟩) n cap) rfl (by kernel_rfl) (by kernel_rfl) (by kernel_rfl) (by kernel_rfl) (fun _ _ _ h => h) (by kernel_rfl) ?_ (by assumption) ?_
            · intro W hSw; first | (go_simp; done) | go_simp
            try simp only [Act.put, List.setIfInBounds_toArray, List.set_cons_zero, List.set_cons_succ]
            refine takeYes (i := 1) (k := 72) (v := .int .i64 ((q : Int) + 1)) rfl (by kernel_rfl) (by kernel_rfl) (by kernel_rfl) (by kernel_rfl) (fun _ _ _ h => h) (by kernel_rfl) ?_ (by assumption) ?_
            · intro W hSw; first | (go_simp; done) | go_simp
            try simp only [Act.put, List.setIfInBounds_toArray, List.set_cons_zero, List.set_cons_succ]
            refine takeYes (i := 2) (k := 73) (v := .int .i64 (q : Int)) rfl (by kernel_rfl) (by kernel_rfl) (by kernel_rfl) (by kernel_rfl) (fun _ _ _ h => h) (by kernel_rfl) ?_ (by assumption) ?_
            · intro W hSw; first | (go_simp; done) | go_simp
            try simp only [Act.put, List.setIfInBounds_toArray, List.set_cons_zero, List.set_cons_succ]
            refine takeYes (i := 3) (k := 74) (v := .pointer (some ⟨g, q, none⟩)) rfl (by kernel_rfl) (by kernel_rfl) (by kernel_rfl) (by kernel_rfl) (fun _ _ _ h => h) (by kernel_rfl) ?_ (by assumption) ?_
            · intro W hSw; first | (go_simp; done) | go_simp
            try simp only [Act.put, List.setIfInBounds_toArray, List.set_cons_zero, List.set_cons_succ]
            refine takeYes (i := 4) (k := 75) (v := .string p) rfl (by kernel_rfl) (by kernel_rfl) (by kernel_rfl) (by kernel_rfl) (fun _ _ _ h => h) (by kernel_rfl) ?_ (by assumption) ?_
            · intro W hSw; have hcc := (hSw.cell (p := ⟨g, q, none⟩) hglt).trans c1; first | (go_simp; done) | go_simp
            try simp only [Act.put, List.setIfInBounds_toArray, List.set_cons_zero, List.set_cons_succ]
            refine takeYes (i := 5) (k := 76) (v := .slice (some ⟨g, 0, none⟩) n cap) rfl (by kernel_rfl) (by kernel_rfl) (by kernel_rfl) (by kernel_rfl) (fun _ _ _ h => h) (by kernel_rfl) ?_ (by assumption) ?_
            · intro W hSw; first | (go_simp; done) | go_simp
            try simp only [Act.put, List.setIfInBounds_toArray, List.set_cons_zero, List.set_cons_succ]
            refine takeYes (i := 6) (k := 77) (v := .int .i64 ((q : Int) + 1)) rfl (by kernel_rfl) (by kernel_rfl) (by kernel_rfl) (by kernel_rfl) (fun _ _ _ h => h) (by kernel_rfl) ?_ (by assumption) ?_
            · intro W hSw; first | (go_simp; done) | go_simp
            try simp only [Act.put, List.setIfInBounds_toArray, List.set_cons_zero, List.set_cons_succ]
            refine takeYes (i := 7) (k := 78) (v := .pointer (some ⟨g, q + 1, none⟩)) rfl (by kernel_rfl) (by kernel_rfl) (by kernel_rfl) (by kernel_rfl) (fun _ _ _ h => h) (by kernel_rfl) ?_ (by assumption) ?_
            · intro W hSw; first | (go_simp; done) | go_simp
            try simp only [Act.put, List.setIfInBounds_toArray, List.set_cons_zero, List.set_cons_succ]
            refine takeYes (i := 8) (k := 79) (v := .string y) rfl (by kernel_rfl) (by kernel_rfl) (by kernel_rfl) (by kernel_rfl) (fun _ _ _ h => h) (by kernel_rfl) ?_ (by assumption) ?_
            · intro W hSw; have hcc := (hSw.cell (p := ⟨g, q + 1, none⟩) hglt).trans c2; first | (go_simp; done) | go_simp
            try simp only [Act.put, List.setIfInBounds_toArray, List.set_cons_zero, List.set_cons_succ]
            refine wpAnyH_ready (rs := [9]) (by kernel_rfl) (by simp) (AllReadyH.cons rfl (fun K hK => ?_) AllReadyH.nil)
            go_simp
            refine (HK1.out _).mono ?_
            rintro e w4 ⟨rfl, hb4⟩
            refine hK.out _ _ (hHeld.trans (hb4.mono hHeld.size)) (fun hHeld2 => ?_)
            clear hK K
            try simp only [Act.put, List.setIfInBounds_toArray, List.set_cons_zero, List.set_cons_succ]
            refine takeYes (i := 10) (k := 9) (v := .string c) rfl (by kernel_rfl) (by kernel_rfl) (by kernel_rfl) (by kernel_rfl) (fun _ _ _ h => h) (by kernel_rfl) ?_ (by assumption) ?_
            · intro W hSw; first | (go_simp; done) | go_simp
            try simp only [Act.put, List.setIfInBounds_toArray, List.set_cons_zero, List.set_cons_succ]
            refine wpAnyH_done (by kernel_rfl) ?_ _
            have c3 := (hHeld2.cell (p := ⟨g, q, none⟩) hglt).trans c1
            have c4 := (hHeld2.cell (p := ⟨g, q + 1, none⟩) hglt).trans c2
            have HC4 : Hid (ChS w.heap.size w w4 (.slice (some ⟨g, 0, none⟩) n cap) ls) := Lib.hid (HC.out.below hHeld2 HC.out.2.2.2.size)
            have hglt4 : g < w4.heap.size := Nat.lt_of_lt_of_le hglt hHeld2.size
            clear c1 c2 HC hHeld hHeld2 hb4 HK1 hglt
            go_wp2_with fail
            refine wp_region_held_drew (S := Below w4.heap.size w4) (by kernel_rfl) (Below.refl _ _).drew (fun hHeld => ?_)
            refine takeYes (i := 0) (k := 81) (v := .string c) rfl (by kernel_rfl) (by kernel_rfl) (by kernel_rfl) (by kernel_rfl) (fun _ _ _ h => h) (by kernel_rfl) ?_ (by assumption) ?_
            · intro W hSw; first | (go_simp; done) | go_simp
            try simp only [Act.put, List.setIfInBounds_toArray, List.set_cons_zero, List.set_cons_succ]
            refine takeYes (i := 1) (k := 82) (v := .slice (some ⟨g, 0, none⟩) n cap) rfl (by kernel_rfl) (by kernel_rfl) (by kernel_rfl) (by kernel_rfl) (fun _ _ _ h => h) (by kernel_rfl) ?_ (by assumption) ?_
            · intro W hSw; first | (go_simp; done) | go_simp
            try simp only [Act.put, List.setIfInBounds_toArray, List.set_cons_zero, List.set_cons_succ]
            refine takeYes (i := 2) (k := 83) (v := .int .i64 ((q : Int) + 1)) rfl (by kernel_rfl) (by kernel_rfl) (by kernel_rfl) (by kernel_rfl) (fun _ _ _ h => h) (by kernel_rfl) ?_ (by assumption) ?_
            · intro W hSw; first | (go_simp; done) | go_simp
            try simp only [Act.put, List.setIfInBounds_toArray, List.set_cons_zero, List.set_cons_succ]
            refine takeYes (i := 3) (k := 84) (v := .int .i64 (q : Int)) rfl (by kernel_rfl) (by kernel_rfl) (by kernel_rfl) (by kernel_rfl) (fun _ _ _ h => h) (by kernel_rfl) ?_ (by assumption) ?_
            · intro W hSw; first | (go_simp; done) | go_simp
            try simp only [Act.put, List.setIfInBounds_toArray, List.set_cons_zero, List.set_cons_succ]
            refine takeYes (i := 4) (k := 85) (v := .pointer (some ⟨g, q, none⟩)) rfl (by kernel_rfl) (by kernel_rfl) (by kernel_rfl) (by kernel_rfl) (fun _ _ _ h => h) (by kernel_rfl) ?_ (by assumption) ?_
            · intro W hSw; first | (go_simp; done) | go_simp
            try simp only [Act.put, List.setIfInBounds_toArray, List.set_cons_zero, List.set_cons_succ]
            refine takeYes (i := 5) (k := 86) (v := .string p) rfl (by kernel_rfl) (by kernel_rfl) (by kernel_rfl) (by kernel_rfl) (fun _ _ _ h => h) (by kernel_rfl) ?_ (by assumption) ?_
            · intro W hSw; have hcc := (hSw.cell (p := ⟨g, q, none⟩) hglt4).trans c3; first | (go_simp; done) | go_simp
            try simp only [Act.put, List.setIfInBounds_toArray, List.set_cons_zero, List.set_cons_succ]
            refine takeYes (i := 6) (k := 87) (v := .bool false) rfl (by kernel_rfl) (by kernel_rfl) (by kernel_rfl) (by kernel_rfl) (fun _ _ _ h => h) (by kernel_rfl) ?_ (by assumption) ?_
            · intro W hSw; first | (go_simp; done) | go_simp
            try simp only [Act.put, List.setIfInBounds_toArray, List.set_cons_zero, List.set_cons_succ]
            refine takeYes (i := 7) (k := 88) (v := .bool false) rfl (by kernel_rfl) (by kernel_rfl) (by kernel_rfl) (by kernel_rfl) (fun _ _ _ h => h) (by kernel_rfl) ?_ (by assumption) ?_
            · intro W hSw; first | (go_simp; done) | go_simp
            try simp only [Act.put, List.setIfInBounds_toArray, List.set_cons_zero, List.set_cons_succ]
            refine takeYes (i := 8) (k := 89) (v := .string c) rfl (by kernel_rfl) (by kernel_rfl) (by kernel_rfl) (by kernel_rfl) (fun _ _ _ h => h) (by kernel_rfl) ?_ (by assumption) ?_
            · intro W hSw; first | (go_simp; done) | go_simp
            try simp only [Act.put, List.setIfInBounds_toArray, List.set_cons_zero, List.set_cons_succ]
            refine takeYes (i := 9) (k := 90) (v := .slice (some ⟨g, 0, none⟩) n cap) rfl (by kernel_rfl) (by kernel_rfl) (by kernel_rfl) (by kernel_rfl) (fun _ _ _ h => h) (by kernel_rfl) ?_ (by assumption) ?_
            · intro W hSw; first | (go_simp; done) | go_simp
            try simp only [Act.put, List.setIfInBounds_toArray, List.set_cons_zero, List.set_cons_succ]
            refine takeYes (i := 10) (k := 91) (v := .int .i64 ((q : Int) + 1)) rfl (by kernel_rfl) (by kernel_rfl) (by kernel_rfl) (by kernel_rfl) (fun _ _ _ h => h) (by kernel_rfl) ?_ (by assumption) ?_
            · intro W hSw; first | (go_simp; done) | go_simp
            try simp only [Act.put, List.setIfInBounds_toArray, List.set_cons_zero, List.set_cons_succ]
            refine takeYes (i := 11) (k := 92) (v := .pointer (some ⟨g, q + 1, none⟩)) rfl (by kernel_rfl) (by kernel_rfl) (by kernel_rfl) (by kernel_rfl) (fun _ _ _ h => h) (by kernel_rfl) ?_ (by assumption) ?_
            · intro W hSw; first | (go_simp; done) | go_simp
            try simp only [Act.put, List.setIfInBounds_toArray, List.set_cons_zero, List.set_cons_succ]
            refine takeYes (i := 12) (k := 93) (v := .string y) rfl (by kernel_rfl) (by kernel_rfl) (by kernel_rfl) (by kernel_rfl) (fun _ _ _ h => h) (by kernel_rfl) ?_ (by assumption) ?_
            · intro W hSw; have hcc := (hSw.cell (p := ⟨g, q + 1, none⟩) hglt4).trans c4; first | (go_simp; done) | go_simp
            try simp only [Act.put, List.setIfInBounds_toArray, List.set_cons_zero, List.set_cons_succ]
            refine takeYes (i := 13) (k := 94) (v := .bool false) rfl (by kernel_rfl) (by kernel_rfl) (by kernel_rfl) (by kernel_rfl) (fun _ _ _ h => h) (by kernel_rfl) ?_ (by assumption) ?_
            · intro W hSw; first | (go_simp; done) | go_simp
            try simp only [Act.put, List.setIfInBounds_toArray, List.set_cons_zero, List.set_cons_succ]
            refine takeYes (i := 14) (k := 95) (v := .bool false) rfl (by kernel_rfl) (by kernel_rfl) (by kernel_rfl) (by kernel_rfl) (fun _ _ _ h => h) (by kernel_rfl) ?_ (by assumption) ?_
            · intro W hSw; first | (go_simp; done) | go_simp
            try simp only [Act.put, List.setIfInBounds_toArray, List.set_cons_zero, List.set_cons_succ]
            refine takeYes (i := 15) (k := 96) (v := .bool false) rfl (by kernel_rfl) (by kernel_rfl) (by kernel_rfl) (by kernel_rfl) (fun _ _ _ h => h) (by kernel_rfl) ?_ (by assumption) ?_
            · intro W hSw; first | (go_simp; done) | go_simp
            try simp only [Act.put, List.setIfInBounds_toArray, List.set_cons_zero, List.set_cons_succ]
            refine takeYes (i := 16) (k := 97) (v := .string c) rfl (by kernel_rfl) (by kernel_rfl) (by kernel_rfl) (by kernel_rfl) (fun _ _ _ h => h) (by kernel_rfl) ?_ (by assumption) ?_
            · intro W hSw; first | (go_simp; done) | go_simp
            try simp only [Act.put, List.setIfInBounds_toArray, List.set_cons_zero, List.set_cons_succ]
            refine takeYes (i := 17) (k := 98) (v := .slice (some ⟨g, 0, none⟩) n cap) rfl (by kernel_rfl) (by kernel_rfl) (by kernel_rfl) (by kernel_rfl) (fun _ _ _ h => h) (by kernel_rfl) ?_ (by assumption) ?_
            · intro W hSw; first | (go_simp; done) | go_simp
            try simp only [Act.put, List.setIfInBounds_toArray, List.set_cons_zero, List.set_cons_succ]
            refine takeYes (i := 18) (k := 99) (v := .int .i64 ((q : Int) + 1)) rfl (by kernel_rfl) (by kernel_rfl) (by kernel_rfl) (by kernel_rfl) (fun _ _ _ h => h) (by kernel_rfl) ?_ (by assumption) ?_
            · intro W hSw; first | (go_simp; done) | go_simp
            try simp only [Act.put, List.setIfInBounds_toArray, List.set_cons_zero, List.set_cons_succ]
            refine takeYes (i := 19) (k := 100) (v := .int .i64 (q : Int)) rfl (by kernel_rfl) (by kernel_rfl) (by kernel_rfl) (by kernel_rfl) (fun _ _ _ h => h) (by kernel_rfl) ?_ (by assumption) ?_
            · intro W hSw; first | (go_simp; done) | go_simp
            try simp only [Act.put, List.setIfInBounds_toArray, List.set_cons_zero, List.set_cons_succ]
            refine takeYes (i := 20) (k := 101) (v := .pointer (some ⟨g, q, none⟩)) rfl (by kernel_rfl) (by kernel_rfl) (by kernel_rfl) (by kernel_rfl) (fun _ _ _ h => h) (by kernel_rfl) ?_ (by assumption) ?_
            · intro W hSw; first | (go_simp; done) | go_simp
            try simp only [Act.put, List.setIfInBounds_toArray, List.set_cons_zero, List.set_cons_succ]
            refine takeYes (i := 21) (k := 102) (v := .string p) rfl (by kernel_rfl) (by kernel_rfl) (by kernel_rfl) (by kernel_rfl) (fun _ _ _ h => h) (by kernel_rfl) ?_ (by assumption) ?_
            · intro W hSw; have hcc := (hSw.cell (p := ⟨g, q, none⟩) hglt4).trans c3; first | (go_simp; done) | go_simp
            try simp only [Act.put, List.setIfInBounds_toArray, List.set_cons_zero, List.set_cons_succ]
            refine takeYes (i := 22) (k := 103) (v := .slice (some ⟨g, 0, none⟩) n cap) rfl (by kernel_rfl) (by kernel_rfl) (by kernel_rfl) (by kernel_rfl) (fun _ _ _ h => h) (by kernel_rfl) ?_ (by assumption) ?_
            · intro W hSw; first | (go_simp; done) | go_simp
            try simp only [Act.put, List.setIfInBounds_toArray, List.set_cons_zero, List.set_cons_succ]
            refine takeYes (i := 23) (k := 104) (v := .int .i64 ((q : Int) + 1)) rfl (by kernel_rfl) (by kernel_rfl) (by kernel_rfl) (by kernel_rfl) (fun _ _ _ h => h) (by kernel_rfl) ?_ (by assumption) ?_
            · intro W hSw; first | (go_simp; done) | go_simp
            try simp only [Act.put, List.setIfInBounds_toArray, List.set_cons_zero, List.set_cons_succ]
            refine takeYes (i := 24) (k := 105) (v := .pointer (some ⟨g, q + 1, none⟩)) rfl (by kernel_rfl) (by kernel_rfl) (by kernel_rfl) (by kernel_rfl) (fun _ _ _ h => h) (by kernel_rfl) ?_ (by assumption) ?_
            · intro W hSw; first | (go_simp; done) | go_simp
            try simp only [Act.put, List.setIfInBounds_toArray, List.set_cons_zero, List.set_cons_succ]
            refine takeYes (i := 25) (k := 106) (v := .string y) rfl (by kernel_rfl) (by kernel_rfl) (by kernel_rfl) (by kernel_rfl) (fun _ _ _ h => h) (by kernel_rfl) ?_ (by assumption) ?_
            · intro W hSw; have hcc := (hSw.cell (p := ⟨g, q + 1, none⟩) hglt4).trans c4; first | (go_simp; done) | go_simp
            try simp only [Act.put, List.setIfInBounds_toArray, List.set_cons_zero, List.set_cons_succ]
            refine wpAnyH_ready (rs := [26]) (by kernel_rfl) (by simp) (AllReadyH.cons rfl (fun K hK => ?_) AllReadyH.nil)
            go_simp
            refine (HK2.out _).mono ?_
            rintro e w5 ⟨rfl, hb5⟩
            refine hK.out _ _ (hHeld.trans (hb5.mono hHeld.size)) (fun hHeld2 => ?_)
            clear hK K
            try simp only [Act.put, List.setIfInBounds_toArray, List.set_cons_zero, List.set_cons_succ]
            refine takeYes (i := 27) (k := 108) (v := .bool false) rfl (by kernel_rfl) (by kernel_rfl) (by kernel_rfl) (by kernel_rfl) (fun _ _ _ h => h) (by kernel_rfl) ?_ (by assumption) ?_
            · intro W hSw; first | (go_simp; done) | go_simp
            try simp only [Act.put, List.setIfInBounds_toArray, List.set_cons_zero, List.set_cons_succ]
            refine takeYes (i := 28) (k := 109) (v := .bool false) rfl (by kernel_rfl) (by kernel_rfl) (by kernel_rfl) (by kernel_rfl) (fun _ _ _ h => h) (by kernel_rfl) ?_ (by assumption) ?_
            · intro W hSw; first | (go_simp; done) | go_simp
            try simp only [Act.put, List.setIfInBounds_toArray, List.set_cons_zero, List.set_cons_succ]
            refine wpAnyH_done (by kernel_rfl) ?_ _
            have HC5 : Hid (ChS w.heap.size w w5 (.slice (some ⟨g, 0, none⟩) n cap) ls) := Lib.hid (HC4.out.below hHeld2 HC4.out.2.2.2.size)
            clear c3 c4 HC4 hHeld hHeld2 hb5 HK2 hglt4
            go_wp2_with fail
            go_roundg (n - (q + 1 + 1))
            case measure => omega
            case rel => exact ⟨q + 1 + 1, by go_num, by omega, by omega, Nat.le_refl _, HC5⟩
          · have hz3 : ¬ (j : Int) < (n : Int) := by omega
            go_wp2_with fail
            go_ret
            exact ⟨rfl, HC.out.2.2.2⟩
    · have hd1 : decide (i < len) = false := decide_eq_false h1
      go_wp2_with fail
      go_loopg [8, 9] n (fun kk vi _ wr2 => ∃ j : Nat, vi = .int .i64 j ∧ 1 ≤ j ∧ j ≤ n + 1 ∧ n - j ≤ kk ∧ Hid (ChS w.heap.size w wr2 (.slice a n cap) ls))
      case atStart => exact ⟨1, by go_num, by omega, by omega, by omega, HC⟩
      case round =>
        clear HC HCELL
        obtain ⟨j, rfl, hj1, hjn, hjk, HC⟩ := hrel
        by_cases hj : j < n
        · obtain ⟨q, rfl⟩ : ∃ q, j = q + 1 := ⟨j - 1, by omega⟩
          obtain ⟨g, hg, c1⟩ := HC.out.cells HN.out q (by omega)
          obtain ⟨g2, hg2, c2⟩ := HC.out.cells HN.out (q + 1) hj
          subst hg
          obtain rfl : g = g2 := by simpa using hg2
          clear hg2
          have hglt := World.block_lt_of_cell? wr _ c1
          have hpy := HC.out.less HN.out q hj
          obtain ⟨s1, s2⟩ := HC.out.small HN.out q hj
          generalize ls.getD q ByteArray.empty = p at *
          generalize ls.getD (q + 1) ByteArray.empty = y at *
          obtain ⟨c, hc⟩ : ∃ c : ByteArray, (⟨(btwP p.data.toList y.data.toList).toArray⟩ : ByteArray) = c := ⟨_, rfl⟩
          have HK1 : Hid (∀ w, Calls Tryd.prog 11 #[.string p, .string y] w fun e w' => e = .returned (.string c) ∧ Below w.heap.size w w') := Lib.hid fun w => by
            have := kbtw_any p y s1 s2 w
            rwa [hc] at this
          have HK2 : Hid (∀ w, Calls Tryd.prog 12 #[.string p, .string y] w fun e w' => e = .returned (.string c) ∧ Below w.heap.size w w') := Lib.hid fun w => by
            have := krbtw_any p y s1 s2 w
            rwa [hc] at this
          obtain ⟨hl1, hl2⟩ := chain_less p y c hpy hc
          have eq1 : ((q + 1 : Nat) : Int) - 1 = (q : Int) := by omega
          have eq2 : ((q + 1 : Nat) : Int) = (q : Int) + 1 := by omega
          have eq3 : (q : Int) + 1 - 1 = (q : Int) := by omega
          have wq : IntKind.i64.wrap (q : Int) = (q : Int) := by rw [IntKind.wrap_i64]; omega
          have bq0 : (0 : Int) ≤ (q : Int) := by omega
          have bq1 : (q : Int) + 1 < (n : Int) := by omega
          have bq3 : (0 : Int) ≤ (q : Int) + 1 := by omega
          have bq4 : ¬ (q : Int) + 1 < 0 := by omega
          have bq2 : (q : Int) < (n : Int) := by omega
          have tq : ((q : Int) + 1).toNat = q + 1 := by omega
          have hzj : ((q + 1 : Nat) : Int) < (n : Int) := by omega
          clear hc hpy s1 s2 hj1 hjn
          go_wp2_with fail
          refine wp_region_held_drew (S := Below wr.heap.size wr) (by kernel_rfl) (Below.refl _ _).drew (fun hHeld => ?_)
          refine takeYes (i := 0) (k := 71) (v := .slice (some ⟨g, 0, none⟩) n cap) rfl (by kernel_rfl) (by kernel_rfl) (by kernel_rfl) (by kernel_rfl) (fun _ _ _ h => h) (by kernel_rfl) ?_ (by assumption) ?_
          · intro W hSw; first | (go_simp; done) | go_simp
          try simp only [Act.put, List.setIfInBounds_toArray, List.set_cons_zero, List.set_cons_succ]
          refine takeYes (i := 1) (k := 72) (v := .int .i64 ((q : Int) + 1)) rfl (by kernel_rfl) (by kernel_rfl) (by kernel_rfl) (by kernel_rfl) (fun _ _ _ h => h) (by kernel_rfl) ?_ (by assumption) ?_
          · intro W hSw; first | (go_simp; done) | go_simp
          try simp only [Act.put, List.setIfInBounds_toArray, List.set_cons_zero, List.set_cons_succ]
          refine takeYes (i := 2) (k := 73) (v := .int .i64 (q : Int)) rfl (by kernel_rfl) (by kernel_rfl) (by kernel_rfl) (by kernel_rfl) (fun _ _ _ h => h) (by kernel_rfl) ?_ (by assumption) ?_
          · intro W hSw; first | (go_simp; done) | go_simp
          try simp only [Act.put, List.setIfInBounds_toArray, List.set_cons_zero, List.set_cons_succ]
          refine takeYes (i := 3) (k := 74) (v := .pointer (some ⟨g, q, none⟩)) rfl (by kernel_rfl) (by kernel_rfl) (by kernel_rfl) (by kernel_rfl) (fun _ _ _ h => h) (by kernel_rfl) ?_ (by assumption) ?_
          · intro W hSw; first | (go_simp; done) | go_simp
          try simp only [Act.put, List.setIfInBounds_toArray, List.set_cons_zero, List.set_cons_succ]
          refine takeYes (i := 4) (k := 75) (v := .string p) rfl (by kernel_rfl) (by kernel_rfl) (by kernel_rfl) (by kernel_rfl) (fun _ _ _ h => h) (by kernel_rfl) ?_ (by assumption) ?_
          · intro W hSw; have hcc := (hSw.cell (p := ⟨g, q, none⟩) hglt).trans c1; first | (go_simp; done) | go_simp
          try simp only [Act.put, List.setIfInBounds_toArray, List.set_cons_zero, List.set_cons_succ]
          refine takeYes (i := 5) (k := 76) (v := .slice (some ⟨g, 0, none⟩) n cap) rfl (by kernel_rfl) (by kernel_rfl) (by kernel_rfl) (by kernel_rfl) (fun _ _ _ h => h) (by kernel_rfl) ?_ (by assumption) ?_
          · intro W hSw; first | (go_simp; done) | go_simp
          try simp only [Act.put, List.setIfInBounds_toArray, List.set_cons_zero, List.set_cons_succ]
          refine takeYes (i := 6) (k := 77) (v := .int .i64 ((q : Int) + 1)) rfl (by kernel_rfl) (by kernel_rfl) (by kernel_rfl) (by kernel_rfl) (fun _ _ _ h => h) (by kernel_rfl) ?_ (by assumption) ?_
          · intro W hSw; first | (go_simp; done) | go_simp
          try simp only [Act.put, List.setIfInBounds_toArray, List.set_cons_zero, List.set_cons_succ]
          refine takeYes (i := 7) (k := 78) (v := .pointer (some ⟨g, q + 1, none⟩)) rfl (by kernel_rfl) (by kernel_rfl) (by kernel_rfl) (by kernel_rfl) (fun _ _ _ h => h) (by kernel_rfl) ?_ (by assumption) ?_
          · intro W hSw; first | (go_simp; done) | go_simp
          try simp only [Act.put, List.setIfInBounds_toArray, List.set_cons_zero, List.set_cons_succ]
          refine takeYes (i := 8) (k := 79) (v := .string y) rfl (by kernel_rfl) (by kernel_rfl) (by kernel_rfl) (by kernel_rfl) (fun _ _ _ h => h) (by kernel_rfl) ?_ (by assumption) ?_
          · intro W hSw; have hcc := (hSw.cell (p := ⟨g, q + 1, none⟩) hglt).trans c2; first | (go_simp; done) | go_simp
          try simp only [Act.put, List.setIfInBounds_toArray, List.set_cons_zero, List.set_cons_succ]
          refine wpAnyH_ready (rs := [9]) (by kernel_rfl) (by simp) (AllReadyH.cons rfl (fun K hK => ?_) AllReadyH.nil)
          go_simp
          refine (HK1.out _).mono ?_
          rintro e w4 ⟨rfl, hb4⟩
          refine hK.out _ _ (hHeld.trans (hb4.mono hHeld.size)) (fun hHeld2 => ?_)
          clear hK K
          try simp only [Act.put, List.setIfInBounds_toArray, List.set_cons_zero, List.set_cons_succ]
          refine takeYes (i := 10) (k := 9) (v := .string c) rfl (by kernel_rfl) (by kernel_rfl) (by kernel_rfl) (by kernel_rfl) (fun _ _ _ h => h) (by kernel_rfl) ?_ (by assumption) ?_
          · intro W hSw; first | (go_simp; done) | go_simp
          try simp only [Act.put, List.setIfInBounds_toArray, List.set_cons_zero, List.set_cons_succ]
          refine wpAnyH_done (by kernel_rfl) ?_ _
          have c3 := (hHeld2.cell (p := ⟨g, q, none⟩) hglt).trans c1
          have c4 := (hHeld2.cell (p := ⟨g, q + 1, none⟩) hglt).trans c2
          have HC4 : Hid (ChS w.heap.size w w4 (.slice (some ⟨g, 0, none⟩) n cap) ls) := Lib.hid (HC.out.below hHeld2 HC.out.2.2.2.size)
          have hglt4 : g < w4.heap.size := Nat.lt_of_lt_of_le hglt hHeld2.size
          clear c1 c2 HC hHeld hHeld2 hb4 HK1 hglt
          go_wp2_with fail
          refine wp_region_held_drew (S := Below w4.heap.size w4) (by kernel_rfl) (Below.refl _ _).drew (fun hHeld => ?_)
          refine takeYes (i := 0) (k := 81) (v := .string c) rfl (by kernel_rfl) (by kernel_rfl) (by kernel_rfl) (by kernel_rfl) (fun _ _ _ h => h) (by kernel_rfl) ?_ (by assumption) ?_
          · intro W hSw; first | (go_simp; done) | go_simp
          try simp only [Act.put, List.setIfInBounds_toArray, List.set_cons_zero, List.set_cons_succ]
          refine takeYes (i := 1) (k := 82) (v := .slice (some ⟨g, 0, none⟩) n cap) rfl (by kernel_rfl) (by kernel_rfl) (by kernel_rfl) (by kernel_rfl) (fun _ _ _ h => h) (by kernel_rfl) ?_ (by assumption) ?_
          · intro W hSw; first | (go_simp; done) | go_simp
          try simp only [Act.put, List.setIfInBounds_toArray, List.set_cons_zero, List.set_cons_succ]
          refine takeYes (i := 2) (k := 83) (v := .int .i64 ((q : Int) + 1)) rfl (by kernel_rfl) (by kernel_rfl) (by kernel_rfl) (by kernel_rfl) (fun _ _ _ h => h) (by kernel_rfl) ?_ (by assumption) ?_
          · intro W hSw; first | (go_simp; done) | go_simp
          try simp only [Act.put, List.setIfInBounds_toArray, List.set_cons_zero, List.set_cons_succ]
          refine takeYes (i := 3) (k := 84) (v := .int .i64 (q : Int)) rfl (by kernel_rfl) (by kernel_rfl) (by kernel_rfl) (by kernel_rfl) (fun _ _ _ h => h) (by kernel_rfl) ?_ (by assumption) ?_
          · intro W hSw; first | (go_simp; done) | go_simp
          try simp only [Act.put, List.setIfInBounds_toArray, List.set_cons_zero, List.set_cons_succ]
          refine takeYes (i := 4) (k := 85) (v := .pointer (some ⟨g, q, none⟩)) rfl (by kernel_rfl) (by kernel_rfl) (by kernel_rfl) (by kernel_rfl) (fun _ _ _ h => h) (by kernel_rfl) ?_ (by assumption) ?_
          · intro W hSw; first | (go_simp; done) | go_simp
          try simp only [Act.put, List.setIfInBounds_toArray, List.set_cons_zero, List.set_cons_succ]
          refine takeYes (i := 5) (k := 86) (v := .string p) rfl (by kernel_rfl) (by kernel_rfl) (by kernel_rfl) (by kernel_rfl) (fun _ _ _ h => h) (by kernel_rfl) ?_ (by assumption) ?_
          · intro W hSw; have hcc := (hSw.cell (p := ⟨g, q, none⟩) hglt4).trans c3; first | (go_simp; done) | go_simp
          try simp only [Act.put, List.setIfInBounds_toArray, List.set_cons_zero, List.set_cons_succ]
          refine takeYes (i := 6) (k := 87) (v := .bool false) rfl (by kernel_rfl) (by kernel_rfl) (by kernel_rfl) (by kernel_rfl) (fun _ _ _ h => h) (by kernel_rfl) ?_ (by assumption) ?_
          · intro W hSw; first | (go_simp; done) | go_simp
          try simp only [Act.put, List.setIfInBounds_toArray, List.set_cons_zero, List.set_cons_succ]
          refine takeYes (i := 7) (k := 88) (v := .bool false) rfl (by kernel_rfl) (by kernel_rfl) (by kernel_rfl) (by kernel_rfl) (fun _ _ _ h => h) (by kernel_rfl) ?_ (by assumption) ?_
          · intro W hSw; first | (go_simp; done) | go_simp
          try simp only [Act.put, List.setIfInBounds_toArray, List.set_cons_zero, List.set_cons_succ]
          refine takeYes (i := 8) (k := 89) (v := .string c) rfl (by kernel_rfl) (by kernel_rfl) (by kernel_rfl) (by kernel_rfl) (fun _ _ _ h => h) (by kernel_rfl) ?_ (by assumption) ?_
          · intro W hSw; first | (go_simp; done) | go_simp
          try simp only [Act.put, List.setIfInBounds_toArray, List.set_cons_zero, List.set_cons_succ]
          refine takeYes (i := 9) (k := 90) (v := .slice (some ⟨g, 0, none⟩) n cap) rfl (by kernel_rfl) (by kernel_rfl) (by kernel_rfl) (by kernel_rfl) (fun _ _ _ h => h) (by kernel_rfl) ?_ (by assumption) ?_
          · intro W hSw; first | (go_simp; done) | go_simp
          try simp only [Act.put, List.setIfInBounds_toArray, List.set_cons_zero, List.set_cons_succ]
          refine takeYes (i := 10) (k := 91) (v := .int .i64 ((q : Int) + 1)) rfl (by kernel_rfl) (by kernel_rfl) (by kernel_rfl) (by kernel_rfl) (fun _ _ _ h => h) (by kernel_rfl) ?_ (by assumption) ?_
          · intro W hSw; first | (go_simp; done) | go_simp
          try simp only [Act.put, List.setIfInBounds_toArray, List.set_cons_zero, List.set_cons_succ]
          refine takeYes (i := 11) (k := 92) (v := .pointer (some ⟨g, q + 1, none⟩)) rfl (by kernel_rfl) (by kernel_rfl) (by kernel_rfl) (by kernel_rfl) (fun _ _ _ h => h) (by kernel_rfl) ?_ (by assumption) ?_
          · intro W hSw; first | (go_simp; done) | go_simp
          try simp only [Act.put, List.setIfInBounds_toArray, List.set_cons_zero, List.set_cons_succ]
          refine takeYes (i := 12) (k := 93) (v := .string y) rfl (by kernel_rfl) (by kernel_rfl) (by kernel_rfl) (by kernel_rfl) (fun _ _ _ h => h) (by kernel_rfl) ?_ (by assumption) ?_
          · intro W hSw; have hcc := (hSw.cell (p := ⟨g, q + 1, none⟩) hglt4).trans c4; first | (go_simp; done) | go_simp
          try simp only [Act.put, List.setIfInBounds_toArray, List.set_cons_zero, List.set_cons_succ]
          refine takeYes (i := 13) (k := 94) (v := .bool false) rfl (by kernel_rfl) (by kernel_rfl) (by kernel_rfl) (by kernel_rfl) (fun _ _ _ h => h) (by kernel_rfl) ?_ (by assumption) ?_
          · intro W hSw; first | (go_simp; done) | go_simp
          try simp only [Act.put, List.setIfInBounds_toArray, List.set_cons_zero, List.set_cons_succ]
          refine takeYes (i := 14) (k := 95) (v := .bool false) rfl (by kernel_rfl) (by kernel_rfl) (by kernel_rfl) (by kernel_rfl) (fun _ _ _ h => h) (by kernel_rfl) ?_ (by assumption) ?_
          · intro W hSw; first | (go_simp; done) | go_simp
          try simp only [Act.put, List.setIfInBounds_toArray, List.set_cons_zero, List.set_cons_succ]
          refine takeYes (i := 15) (k := 96) (v := .bool false) rfl (by kernel_rfl) (by kernel_rfl) (by kernel_rfl) (by kernel_rfl) (fun _ _ _ h => h) (by kernel_rfl) ?_ (by assumption) ?_
          · intro W hSw; first | (go_simp; done) | go_simp
          try simp only [Act.put, List.setIfInBounds_toArray, List.set_cons_zero, List.set_cons_succ]
          refine takeYes (i := 16) (k := 97) (v := .string c) rfl (by kernel_rfl) (by kernel_rfl) (by kernel_rfl) (by kernel_rfl) (fun _ _ _ h => h) (by kernel_rfl) ?_ (by assumption) ?_
          · intro W hSw; first | (go_simp; done) | go_simp
          try simp only [Act.put, List.setIfInBounds_toArray, List.set_cons_zero, List.set_cons_succ]
          refine takeYes (i := 17) (k := 98) (v := .slice (some ⟨g, 0, none⟩) n cap) rfl (by kernel_rfl) (by kernel_rfl) (by kernel_rfl) (by kernel_rfl) (fun _ _ _ h => h) (by kernel_rfl) ?_ (by assumption) ?_
          · intro W hSw; first | (go_simp; done) | go_simp
          try simp only [Act.put, List.setIfInBounds_toArray, List.set_cons_zero, List.set_cons_succ]
          refine takeYes (i := 18) (k := 99) (v := .int .i64 ((q : Int) + 1)) rfl (by kernel_rfl) (by kernel_rfl) (by kernel_rfl) (by kernel_rfl) (fun _ _ _ h => h) (by kernel_rfl) ?_ (by assumption) ?_
          · intro W hSw; first | (go_simp; done) | go_simp
          try simp only [Act.put, List.setIfInBounds_toArray, List.set_cons_zero, List.set_cons_succ]
          refine takeYes (i := 19) (k := 100) (v := .int .i64 (q : Int)) rfl (by kernel_rfl) (by kernel_rfl) (by kernel_rfl) (by kernel_rfl) (fun _ _ _ h => h) (by kernel_rfl) ?_ (by assumption) ?_
          · intro W hSw; first | (go_simp; done) | go_simp
          try simp only [Act.put, List.setIfInBounds_toArray, List.set_cons_zero, List.set_cons_succ]
          refine takeYes (i := 20) (k := 101) (v := .pointer (some ⟨g, q, none⟩)) rfl (by kernel_rfl) (by kernel_rfl) (by kernel_rfl) (by kernel_rfl) (fun _ _ _ h => h) (by kernel_rfl) ?_ (by assumption) ?_
          · intro W hSw; first | (go_simp; done) | go_simp
          try simp only [Act.put, List.setIfInBounds_toArray, List.set_cons_zero, List.set_cons_succ]
          refine takeYes (i := 21) (k := 102) (v := .string p) rfl (by kernel_rfl) (by kernel_rfl) (by kernel_rfl) (by kernel_rfl) (fun _ _ _ h => h) (by kernel_rfl) ?_ (by assumption) ?_
          · intro W hSw; have hcc := (hSw.cell (p := ⟨g, q, none⟩) hglt4).trans c3; first | (go_simp; done) | go_simp
          try simp only [Act.put, List.setIfInBounds_toArray, List.set_cons_zero, List.set_cons_succ]
          refine takeYes (i := 22) (k := 103) (v := .slice (some ⟨g, 0, none⟩) n cap) rfl (by kernel_rfl) (by kernel_rfl) (by kernel_rfl) (by kernel_rfl) (fun _ _ _ h => h) (by kernel_rfl) ?_ (by assumption) ?_
          · intro W hSw; first | (go_simp; done) | go_simp
          try simp only [Act.put, List.setIfInBounds_toArray, List.set_cons_zero, List.set_cons_succ]
          refine takeYes (i := 23) (k := 104) (v := .int .i64 ((q : Int) + 1)) rfl (by kernel_rfl) (by kernel_rfl) (by kernel_rfl) (by kernel_rfl) (fun _ _ _ h => h) (by kernel_rfl) ?_ (by assumption) ?_
          · intro W hSw; first | (go_simp; done) | go_simp
          try simp only [Act.put, List.setIfInBounds_toArray, List.set_cons_zero, List.set_cons_succ]
          refine takeYes (i := 24) (k := 105) (v := .pointer (some ⟨g, q + 1, none⟩)) rfl (by kernel_rfl) (by kernel_rfl) (by kernel_rfl) (by kernel_rfl) (fun _ _ _ h => h) (by kernel_rfl) ?_ (by assumption) ?_
          · intro W hSw; first | (go_simp; done) | go_simp
          try simp only [Act.put, List.setIfInBounds_toArray, List.set_cons_zero, List.set_cons_succ]
          refine takeYes (i := 25) (k := 106) (v := .string y) rfl (by kernel_rfl) (by kernel_rfl) (by kernel_rfl) (by kernel_rfl) (fun _ _ _ h => h) (by kernel_rfl) ?_ (by assumption) ?_
          · intro W hSw; have hcc := (hSw.cell (p := ⟨g, q + 1, none⟩) hglt4).trans c4; first | (go_simp; done) | go_simp
          try simp only [Act.put, List.setIfInBounds_toArray, List.set_cons_zero, List.set_cons_succ]
          refine wpAnyH_ready (rs := [26]) (by kernel_rfl) (by simp) (AllReadyH.cons rfl (fun K hK => ?_) AllReadyH.nil)
          go_simp
          refine (HK2.out _).mono ?_
          rintro e w5 ⟨rfl, hb5⟩
          refine hK.out _ _ (hHeld.trans (hb5.mono hHeld.size)) (fun hHeld2 => ?_)
          clear hK K
          try simp only [Act.put, List.setIfInBounds_toArray, List.set_cons_zero, List.set_cons_succ]
          refine takeYes (i := 27) (k := 108) (v := .bool false) rfl (by kernel_rfl) (by kernel_rfl) (by kernel_rfl) (by kernel_rfl) (fun _ _ _ h => h) (by kernel_rfl) ?_ (by assumption) ?_
          · intro W hSw; first | (go_simp; done) | go_simp
          try simp only [Act.put, List.setIfInBounds_toArray, List.set_cons_zero, List.set_cons_succ]
          refine takeYes (i := 28) (k := 109) (v := .bool false) rfl (by kernel_rfl) (by kernel_rfl) (by kernel_rfl) (by kernel_rfl) (fun _ _ _ h => h) (by kernel_rfl) ?_ (by assumption) ?_
          · intro W hSw; first | (go_simp; done) | go_simp
          try simp only [Act.put, List.setIfInBounds_toArray, List.set_cons_zero, List.set_cons_succ]
          refine wpAnyH_done (by kernel_rfl) ?_ _
          have HC5 : Hid (ChS w.heap.size w w5 (.slice (some ⟨g, 0, none⟩) n cap) ls) := Lib.hid (HC4.out.below hHeld2 HC4.out.2.2.2.size)
          clear c3 c4 HC4 hHeld hHeld2 hb5 HK2 hglt4
          go_wp2_with fail
          go_roundg (n - (q + 1 + 1))
          case measure => omega
          case rel => exact ⟨q + 1 + 1, by go_num, by omega, by omega, Nat.le_refl _, HC5⟩
        · have hz3 : ¬ (j : Int) < (n : Int) := by omega
          go_wp2_with fail
          go_ret
          exact ⟨rfl, HC.out.2.2.2⟩

end Go.Proofs.YtgcchkjoggmdiaaDoor
