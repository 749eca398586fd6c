/- Slices of tables: cut, cloned, one taken out. -/
import Derived.Test.YtjloaamaelcmaaaMEdt
import Derived.Test.YtjloaamaelcmaaaMBase
import Derived.Test.YtjloaamaelcmaaaAppSK
import Derived.Test.YtjloaamaelcmaaaOwnSort
import Derived.Lib.SliceRun
import Derived.RegionTactic
import Derived.Deep.RegionHeld3
namespace Go.Proofs.Ytjloaamaelcmaaa
set_option linter.unusedVariables false
set_option maxRecDepth 100000
open Go.RowKit
theorem fil_form {B : Nat} {w : World} {v : Value} {xs : List Tbf} (h : OwnK encTbf 5 43 B w v xs) : ∃ a c, v = .slice a xs.length c := by
  rcases h.blk with ⟨rfl, rfl⟩ | ⟨g, cap, cur, rfl, -⟩
  · exact ⟨none, 0, rfl⟩
  · exact ⟨_, cap, rfl⟩
theorem u_fils : Try.prog.underlying 29 = some (.slice (Try.prog.elem 29)) := by kernel_rfl
theorem s_fil (W : World) : (sizeOf (Try.prog.elem 29)).run Try.prog W = .ok 5 W := by kernel_rfl
theorem sl_hmF (W : World) (a : Option Addr) (n cap k : Nat) (h : k ≤ n) (hc : n ≤ cap) :
    (Instr.sliceAt 29 (.slice a n cap) none (some (.int .i64 (k : Int))) (some (.int .i64 (k : Int)))).run Try.prog W = .ok (.slice a k k) W := by
  rw [run_sliceAt_slice (h := u_fils), run_slice_hm (w := W) (t := 29) (a := a) (len := n) (cap := cap) (ht := u_fils) (kh := .i64) (km := .i64) (h := k) (m := k) (h0 := by omega) (h2 := by omega) (h3 := by omega), s_fil]
  have e : a.map (·.add 0) = a := by
    cases a with
    | none => rfl
    | some a => obtain ⟨b, o, x⟩ := a; simp only [Option.map_some]; unfold Addr.add; split <;> simp_all
  simp [Result.andThen, sliced, e]
theorem sl_hF2 (W : World) (a : Option Addr) (n cap k : Nat) (h : k ≤ cap) :
    (Instr.sliceAt 29 (.slice a n cap) none (some (.int .i64 (k : Int))) none).run Try.prog W = .ok (.slice a k cap) W := by
  rw [run_sliceAt_slice (h := u_fils), run_slice_h (w := W) (t := 29) (a := a) (len := n) (cap := cap) (ht := u_fils) (kh := .i64) (h := k) (h0 := by omega) (h2 := by omega), s_fil]
  have e : a.map (·.add 0) = a := by
    cases a with
    | none => rfl
    | some a => obtain ⟨b, o, x⟩ := a; simp only [Option.map_some]; unfold Addr.add; split <;> simp_all
  simp [Result.andThen, sliced, e]
theorem sl_lF (W : World) (a : Option Addr) (n cap k : Nat) (h : k ≤ n) (hc : n ≤ cap) :
    (Instr.sliceAt 29 (.slice a n cap) (some (.int .i64 (k : Int))) none none).run Try.prog W = .ok (.slice (if cap = k then a else a.map (·.add (k * 5))) (n - k) (cap - k)) W := by
  rw [run_sliceAt_slice (h := u_fils), run_slice_l (w := W) (t := 29) (a := a) (len := n) (cap := cap) (ht := u_fils) (kl := .i64) (l := k) (h0 := by omega) (h1 := by omega), s_fil]
  simp [Result.andThen, sliced]
theorem sl_lhF (W : World) (a : Option Addr) (n cap k m : Nat) (h : k ≤ m) (hc : m ≤ cap) :
    (Instr.sliceAt 29 (.slice a n cap) (some (.int .i64 (k : Int))) (some (.int .i64 (m : Int))) none).run Try.prog W = .ok (.slice (if cap = k then a else a.map (·.add (k * 5))) (m - k) (cap - k)) W := by
  rw [run_sliceAt_slice (h := u_fils), run_slice_lh (w := W) (t := 29) (a := a) (len := n) (cap := cap) (ht := u_fils) (kl := .i64) (kh := .i64) (l := k) (h := m) (h0 := by omega) (h1 := by omega) (h2 := by omega), s_fil]
  simp [Result.andThen, sliced]
theorem sl_lhmF (W : World) (a : Option Addr) (n cap k m c : Nat) (h : k ≤ m) (hm : m ≤ c) (hc : c ≤ cap) :
    (Instr.sliceAt 29 (.slice a n cap) (some (.int .i64 (k : Int))) (some (.int .i64 (m : Int))) (some (.int .i64 (c : Int)))).run Try.prog W = .ok (.slice (if c = k then a else a.map (·.add (k * 5))) (m - k) (c - k)) W := by
  rw [run_sliceAt_slice (h := u_fils), run_slice_lhm (w := W) (t := 29) (a := a) (len := n) (cap := cap) (ht := u_fils) (kl := .i64) (kh := .i64) (km := .i64) (l := k) (h := m) (m := c) (h0 := by omega) (h1 := by omega) (h2 := by omega) (h3 := by omega), s_fil]
  simp [Result.andThen, sliced]
set_option maxHeartbeats 2000000 in
theorem fclone_any (v : Value) (xs : List Tbf) (w : World) (h : RdK encTbf 5 w v xs) (hl : xs.length ≤ 1000000000) :
    Calls Try.prog 32 #[v] w fun e w' => ∃ u, e = .returned u ∧ OwnK encTbf 5 43 w.heap.size w' u xs ∧ Below w.heap.size w w' := by
  obtain ⟨a, cap, rfl, -⟩ := edFl_len h
  have H := Lib.hid h
  have hlb := Lib.hid hl
  clear hl
  cases a with
  | none =>
    obtain rfl : xs = [] := by
      rcases h with ⟨_, _, -, e⟩ | ⟨b, off, c, e, -⟩
      · exact e
      · simp at e
    have hq1 : ∀ w, (binOp .eql 29 (.slice none ([] : List Tbf).length cap) (.slice none 0 0)).run Try.prog w = .ok (.bool true) w := fun w => Lib.run_eql_slice_nil w 29 43 none 0 cap 0 0 Try.underlying29
    simp only [List.length_nil] at hq1 ⊢
    clear h
    go_enter Try.func32, Try.ntmps32
    go_wp2_with fail
    go_ret
    exact ⟨_, rfl, OwnK.nil _ _ _ _ _, Below.refl _ _⟩
  | some ad =>
    generalize hn : xs.length = n at *
    clear h hn
    have hq1 : ∀ w, (binOp .eql 29 (.slice (some ad) n cap) (.slice none 0 0)).run Try.prog w = .ok (.bool false) w := fun w => Lib.run_eql_slice_nil w 29 43 (some ad) n cap 0 0 Try.underlying29
    go_enter Try.func32, Try.ntmps32
    have HZ : OwnK encTbf 5 43 w.heap.size (w.alloc (.cells #[] 43)) (.slice (some ⟨w.heap.size, 0, none⟩) 0 0) [] := World.ownsRow_lit (base := w.heap.size) (e := 43) (size := 5) w #[] 0 (Nat.le_refl _) (by unfold maxLen; omega) rfl
    have HR1 := H.out.below ((Below.refl w.heap.size w).alloc (Nat.le_refl _) (.cells #[] 43))
    have hxl : xs.length ≤ 1000000000 := by obtain ⟨a, c, e, -⟩ := edFl_len H.out; simp only [Value.slice.injEq] at e; have := hlb.out; omega
    go_wp2_with (at_builtin; refine wp_appSK elem_tbf encTbf_len _ _ (by rfl) (by rfl) (by rfl) HZ (by rfl) HR1 (encTbf_one xs) ?c1 ?c2 (by simp) ?_)
    case c1 => simp; omega
    case c2 => unfold maxLen; simp; omega
    intro v' w' h1 h2
    go_wp2_with fail
    go_ret
    exact ⟨v', rfl, by simpa using h1, ((Below.refl _ _).alloc (Nat.le_refl _) _).trans h2⟩
/-- A cell behind the row's end. -/
theorem OwnK.spare {α : Type} {enc : α → List Value} {k E B : Nat} {w : World} {g n cap : Nat} {xs : List α} (h : OwnK enc k E B w (.slice (some ⟨g, 0, none⟩) n cap) xs) (o : Nat) (v : Value) (ho : xs.length * k ≤ o) : OwnK enc k E B (w.setCell ⟨g, o, none⟩ v) (.slice (some ⟨g, 0, none⟩) n cap) xs := by
  refine ⟨h.1, ?_⟩
  rcases h.blk with ⟨e1, -⟩ | ⟨g', cap', cur, e1, e2, e3, e4, e5, e6, e7, e8⟩
  · simp at e1
  · simp only [Value.slice.injEq, Option.some.injEq, Addr.mk.injEq] at e1
    obtain ⟨⟨rfl, -⟩, rfl, rfl⟩ := e1
    refine .inr ⟨g, cap, _, rfl, e2, cells_set e4 v, e5, e6, by simp [e7], ?_⟩
    rw [← e8]
    apply List.ext_getElem?
    intro i
    by_cases hi : i < xs.length * k
    · rw [List.getElem?_take_of_lt hi, List.getElem?_take_of_lt hi, Array.getElem?_toList, Array.getElem?_toList, Array.getElem?_setIfInBounds, if_neg (by omega)]
    · rw [List.getElem?_eq_none (by rw [List.length_take]; omega), List.getElem?_eq_none (by rw [List.length_take]; omega)]
theorem OwnK.spares {α : Type} {enc : α → List Value} {k E B : Nat} {g n cap : Nat} {xs : List α} : ∀ (vs : List Value) (w : World) (o : Nat), OwnK enc k E B w (.slice (some ⟨g, 0, none⟩) n cap) xs → xs.length * k ≤ o → OwnK enc k E B (w.setCells g o vs) (.slice (some ⟨g, 0, none⟩) n cap) xs ∧ UpdF (fun j => j = g) w (w.setCells g o vs)
  | [], w, o, h, _ => ⟨h, UpdF.refl _ _⟩
  | v :: r, w, o, h, ho => by
    obtain ⟨h1, h2⟩ := OwnK.spares r _ (o + 1) (h.spare o v ho) (by omega)
    exact ⟨h1, ((UpdF.refl (fun j => j = g) w).set g o v rfl).trans h2⟩
/-- 'clear(s)' of one table. -/
theorem clear_one (w : World) (ty : TypeId) (b o c : Nat) (hc : ∀ j, j < 5 → (w.cell? ⟨b, o + j, none⟩).isSome = true) (hf : ∀ j, j < 5 → w.frozen? ⟨b, o + j, none⟩ = false) :
    (Builtin.clear_ #[29] ty #[.slice (some ⟨b, o, none⟩) 1 c]).run Try.prog w = .ok (.tuple #[]) (w.setCells b o [.int .i64 0, .int .i64 0, .int .i64 0, .string ⟨#[]⟩, .string ⟨#[]⟩]) := by
  have hz : ∀ w, (zeroValue 43).run Try.prog w = .ok (.agg #[.int .i64 0, .int .i64 0, .int .i64 0, .string ⟨#[]⟩, .string ⟨#[]⟩]) w := fun w => by kernel_rfl
  have hst := run_storeCells_cells (P := Try.prog) b o [.int .i64 0, .int .i64 0, .int .i64 0, .string ⟨#[]⟩, .string ⟨#[]⟩] 0 w (by simpa using hc) (by simpa using hf) (by intro v hv; exact encTbf_one [Tbf.none] v (by simpa [encTbf, Tbf.none] using hv))
  simp only [Nat.add_zero] at hst
  have hzc : (Builtin.zeroCells (Value.agg #[.int .i64 0, .int .i64 0, .int .i64 0, .string ⟨#[]⟩, .string ⟨#[]⟩]).cells 1).toList = [.int .i64 0, .int .i64 0, .int .i64 0, .string ⟨#[]⟩, .string ⟨#[]⟩] := by kernel_rfl
  simp [Builtin.clear_, run_underlying Try.underlying29, hz, hzc, hst]
end Go.Proofs.Ytjloaamaelcmaaa
