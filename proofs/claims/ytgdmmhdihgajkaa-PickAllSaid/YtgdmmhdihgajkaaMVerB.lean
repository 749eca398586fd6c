/- 'append(s, t...)' of rows whose elements are structs. -/
import Derived.Test.YtgdmmhdihgajkaaMBase
import Derived.Test.YtgdmmhdihgajkaaMEdt
import Derived.Test.YtgdmmhdihgajkaaMVerA
import Derived.Lib.SliceRun
import Derived.RegionTactic
import Derived.Deep.RegionHeld3
import Derived.Shelf.Abstract
import Derived.Deep.LoopGhost
import Derived.Deep.DeepCutAuto
import Derived.Deep.CutBlock
namespace Go.Proofs.Ytgdmmhdihgajkaa
set_option linter.unusedVariables false
open Go.RowKit
/-- 'append(s, t...)' of rows of the call's own. -/
theorem wp_appSK {α : Type} {enc : α → List Value} {ops : Array Oper} {rest : List Oper} {o : Oper} {a : Act} {w : World} {Q : Exit → Act → World → Prop} {t E k bytes : Nat} {z : Value} (F : ElemK Try.prog t E k bytes z) (hk : EncK enc k)
    (s x : Operand) (ho : o.op = .call { callee := .builtin .append, args := #[s, x], argTypes := #[t, t] }) (hw : Region.wanted o (yielded ops a.tmps) = true)
    {B : Nat} {v src : Value} {xs us : List α} (hs : a.eval s = v) (hown : OwnK enc k E B w v xs) (hx : a.eval x = src) (hr : RdK enc k w src us) (h1 : ∀ u ∈ us.flatMap enc, u.oneCell' = true) (hlen : (xs.length + us.length) * bytes ≤ 140737488355328) (hm : xs.length + us.length ≤ maxLen) (hB : B ≤ w.heap.size)
    (h : ∀ v' w', OwnK enc k E B w' v' (xs ++ us) → Below B w w' → wpList Try.prog ops Q rest (a.put o.dst v') w') : wpList Try.prog ops Q (o :: rest) a w := by
  refine wpList_step fun K hK => ?_
  rw [if_pos hw]
  obtain ⟨v', w', hrun, h2, h3⟩ := run_appK (ty := o.type) F hk hown hr h1 hlen hm hB
  unfold Oper.wp execOp
  simp only [ho, resolve, invoke, builtin, Sem.run_bind, Sem.run_pure, Result.andThen_ok, List.map_toArray, List.map_cons, List.map_nil, hs, hx, hrun]
  exact hK _ _ (h v' w' h2 h3)
end Go.Proofs.Ytgdmmhdihgajkaa
/- Slices of tables: cut, cloned, one taken out. -/
namespace Go.Proofs.Ytgdmmhdihgajkaa
set_option linter.unusedVariables false
set_option maxRecDepth 100000
open Go.RowKit
theorem fil_form {B : Nat} {w : World} {v : Value} {xs : List Tbf} (h : OwnK encTbf 5 49 B w v xs) : ∃ a c, v = .slice a xs.length c := by
  rcases h.blk with ⟨rfl, rfl⟩ | ⟨g, cap, cur, rfl, -⟩
  · exact ⟨none, 0, rfl⟩
  · exact ⟨_, cap, rfl⟩
theorem u_fils : Try.prog.underlying 30 = some (.slice (Try.prog.elem 30)) := by kernel_rfl
theorem s_fil (W : World) : (sizeOf (Try.prog.elem 30)).run Try.prog W = .ok 5 W := by kernel_rfl
theorem sl_hmF (W : World) (a : Option Addr) (n cap k : Nat) (h : k ≤ n) (hc : n ≤ cap) :
    (Instr.sliceAt 30 (.slice a n cap) none (some (.int .i64 (k : Int))) (some (.int .i64 (k : Int)))).run Try.prog W = .ok (.slice a k k) W := by
  rw [run_sliceAt_slice (h := u_fils), run_slice_hm (w := W) (t := 30) (a := a) (len := n) (cap := cap) (ht := u_fils) (kh := .i64) (km := .i64) (h := k) (m := k) (h0 := by omega) (h2 := by omega) (h3 := by omega), s_fil]
  have e : a.map (·.add 0) = a := by
    cases a with
    | none => rfl
    | some a => obtain ⟨b, o, x⟩ := a; simp only [Option.map_some]; unfold Addr.add; split <;> simp_all
  simp [Result.andThen, sliced, e]
theorem sl_hF2 (W : World) (a : Option Addr) (n cap k : Nat) (h : k ≤ cap) :
    (Instr.sliceAt 30 (.slice a n cap) none (some (.int .i64 (k : Int))) none).run Try.prog W = .ok (.slice a k cap) W := by
  rw [run_sliceAt_slice (h := u_fils), run_slice_h (w := W) (t := 30) (a := a) (len := n) (cap := cap) (ht := u_fils) (kh := .i64) (h := k) (h0 := by omega) (h2 := by omega), s_fil]
  have e : a.map (·.add 0) = a := by
    cases a with
    | none => rfl
    | some a => obtain ⟨b, o, x⟩ := a; simp only [Option.map_some]; unfold Addr.add; split <;> simp_all
  simp [Result.andThen, sliced, e]
theorem sl_lF (W : World) (a : Option Addr) (n cap k : Nat) (h : k ≤ n) (hc : n ≤ cap) :
    (Instr.sliceAt 30 (.slice a n cap) (some (.int .i64 (k : Int))) none none).run Try.prog W = .ok (.slice (if cap = k then a else a.map (·.add (k * 5))) (n - k) (cap - k)) W := by
  rw [run_sliceAt_slice (h := u_fils), run_slice_l (w := W) (t := 30) (a := a) (len := n) (cap := cap) (ht := u_fils) (kl := .i64) (l := k) (h0 := by omega) (h1 := by omega), s_fil]
  simp [Result.andThen, sliced]
theorem sl_lhF (W : World) (a : Option Addr) (n cap k m : Nat) (h : k ≤ m) (hc : m ≤ cap) :
    (Instr.sliceAt 30 (.slice a n cap) (some (.int .i64 (k : Int))) (some (.int .i64 (m : Int))) none).run Try.prog W = .ok (.slice (if cap = k then a else a.map (·.add (k * 5))) (m - k) (cap - k)) W := by
  rw [run_sliceAt_slice (h := u_fils), run_slice_lh (w := W) (t := 30) (a := a) (len := n) (cap := cap) (ht := u_fils) (kl := .i64) (kh := .i64) (l := k) (h := m) (h0 := by omega) (h1 := by omega) (h2 := by omega), s_fil]
  simp [Result.andThen, sliced]
theorem sl_lhmF (W : World) (a : Option Addr) (n cap k m c : Nat) (h : k ≤ m) (hm : m ≤ c) (hc : c ≤ cap) :
    (Instr.sliceAt 30 (.slice a n cap) (some (.int .i64 (k : Int))) (some (.int .i64 (m : Int))) (some (.int .i64 (c : Int)))).run Try.prog W = .ok (.slice (if c = k then a else a.map (·.add (k * 5))) (m - k) (c - k)) W := by
  rw [run_sliceAt_slice (h := u_fils), run_slice_lhm (w := W) (t := 30) (a := a) (len := n) (cap := cap) (ht := u_fils) (kl := .i64) (kh := .i64) (km := .i64) (l := k) (h := m) (m := c) (h0 := by omega) (h1 := by omega) (h2 := by omega) (h3 := by omega), s_fil]
  simp [Result.andThen, sliced]
set_option maxHeartbeats 2000000 in
theorem fclone_any (v : Value) (xs : List Tbf) (w : World) (h : RdK encTbf 5 w v xs) (hl : xs.length ≤ 1000000000) :
    Calls Try.prog 53 #[v] w fun e w' => ∃ u, e = .returned u ∧ OwnK encTbf 5 49 w.heap.size w' u xs ∧ Below w.heap.size w w' := by
  obtain ⟨a, cap, rfl, -⟩ := edFl_len h
  have H := Lib.hid h
  have hlb := Lib.hid hl
  clear hl
  cases a with
  | none =>
    obtain rfl : xs = [] := by
      rcases h with ⟨_, _, -, e⟩ | ⟨b, off, c, e, -⟩
      · exact e
      · simp at e
    have hq1 : ∀ w, (binOp .eql 30 (.slice none ([] : List Tbf).length cap) (.slice none 0 0)).run Try.prog w = .ok (.bool true) w := fun w => Lib.run_eql_slice_nil w 30 49 none 0 cap 0 0 Try.underlying30
    simp only [List.length_nil] at hq1 ⊢
    clear h
    go_enter Try.func53, Try.ntmps53
    go_wp2_with fail
    go_ret
    exact ⟨_, rfl, OwnK.nil _ _ _ _ _, Below.refl _ _⟩
  | some ad =>
    generalize hn : xs.length = n at *
    clear h hn
    have hq1 : ∀ w, (binOp .eql 30 (.slice (some ad) n cap) (.slice none 0 0)).run Try.prog w = .ok (.bool false) w := fun w => Lib.run_eql_slice_nil w 30 49 (some ad) n cap 0 0 Try.underlying30
    go_enter Try.func53, Try.ntmps53
    have HZ : OwnK encTbf 5 49 w.heap.size (w.alloc (.cells #[] 49)) (.slice (some ⟨w.heap.size, 0, none⟩) 0 0) [] := World.ownsRow_lit (base := w.heap.size) (e := 49) (size := 5) w #[] 0 (Nat.le_refl _) (by unfold maxLen; omega) rfl
    have HR1 := H.out.below ((Below.refl w.heap.size w).alloc (Nat.le_refl _) (.cells #[] 49))
    have hxl : xs.length ≤ 1000000000 := by obtain ⟨a, c, e, -⟩ := edFl_len H.out; simp only [Value.slice.injEq] at e; have := hlb.out; omega
    go_wp2_with (at_builtin; refine wp_appSK elem_tbf encTbf_len _ _ (by rfl) (by rfl) (by rfl) HZ (by rfl) HR1 (encTbf_one xs) ?c1 ?c2 (by simp) ?_)
    case c1 => simp; omega
    case c2 => unfold maxLen; simp; omega
    intro v' w' h1 h2
    go_wp2_with fail
    go_ret
    exact ⟨v', rfl, by simpa using h1, ((Below.refl _ _).alloc (Nat.le_refl _) _).trans h2⟩
/-- A cell behind the row's end. -/
theorem OwnK.spare {α : Type} {enc : α → List Value} {k E B : Nat} {w : World} {g n cap : Nat} {xs : List α} (h : OwnK enc k E B w (.slice (some ⟨g, 0, none⟩) n cap) xs) (o : Nat) (v : Value) (ho : xs.length * k ≤ o) : OwnK enc k E B (w.setCell ⟨g, o, none⟩ v) (.slice (some ⟨g, 0, none⟩) n cap) xs := by
  refine ⟨h.1, ?_⟩
  rcases h.blk with ⟨e1, -⟩ | ⟨g', cap', cur, e1, e2, e3, e4, e5, e6, e7, e8⟩
  · simp at e1
  · simp only [Value.slice.injEq, Option.some.injEq, Addr.mk.injEq] at e1
    obtain ⟨⟨rfl, -⟩, rfl, rfl⟩ := e1
    refine .inr ⟨g, cap, _, rfl, e2, cells_set e4 v, e5, e6, by simp [e7], ?_⟩
    rw [← e8]
    apply List.ext_getElem?
    intro i
    by_cases hi : i < xs.length * k
    · rw [List.getElem?_take_of_lt hi, List.getElem?_take_of_lt hi, Array.getElem?_toList, Array.getElem?_toList, Array.getElem?_setIfInBounds, if_neg (by omega)]
    · rw [List.getElem?_eq_none (by rw [List.length_take]; omega), List.getElem?_eq_none (by rw [List.length_take]; omega)]
theorem OwnK.spares {α : Type} {enc : α → List Value} {k E B : Nat} {g n cap : Nat} {xs : List α} : ∀ (vs : List Value) (w : World) (o : Nat), OwnK enc k E B w (.slice (some ⟨g, 0, none⟩) n cap) xs → xs.length * k ≤ o → OwnK enc k E B (w.setCells g o vs) (.slice (some ⟨g, 0, none⟩) n cap) xs ∧ UpdF (fun j => j = g) w (w.setCells g o vs)
  | [], w, o, h, _ => ⟨h, UpdF.refl _ _⟩
  | v :: r, w, o, h, ho => by
    obtain ⟨h1, h2⟩ := OwnK.spares r _ (o + 1) (h.spare o v ho) (by omega)
    exact ⟨h1, ((UpdF.refl (fun j => j = g) w).set g o v rfl).trans h2⟩
/-- 'clear(s)' of one table. -/
theorem clear_one (w : World) (ty : TypeId) (b o c : Nat) (hc : ∀ j, j < 5 → (w.cell? ⟨b, o + j, none⟩).isSome = true) (hf : ∀ j, j < 5 → w.frozen? ⟨b, o + j, none⟩ = false) :
    (Builtin.clear_ #[30] ty #[.slice (some ⟨b, o, none⟩) 1 c]).run Try.prog w = .ok (.tuple #[]) (w.setCells b o [.int .i64 0, .int .i64 0, .int .i64 0, .string ⟨#[]⟩, .string ⟨#[]⟩]) := by
  have hz : ∀ w, (zeroValue 49).run Try.prog w = .ok (.agg #[.int .i64 0, .int .i64 0, .int .i64 0, .string ⟨#[]⟩, .string ⟨#[]⟩]) w := fun w => by kernel_rfl
  have hst := run_storeCells_cells (P := Try.prog) b o [.int .i64 0, .int .i64 0, .int .i64 0, .string ⟨#[]⟩, .string ⟨#[]⟩] 0 w (by simpa using hc) (by simpa using hf) (by intro v hv; exact encTbf_one [Tbf.none] v (by simpa [encTbf, Tbf.none] using hv))
  simp only [Nat.add_zero] at hst
  have hzc : (Builtin.zeroCells (Value.agg #[.int .i64 0, .int .i64 0, .int .i64 0, .string ⟨#[]⟩, .string ⟨#[]⟩]).cells 1).toList = [.int .i64 0, .int .i64 0, .int .i64 0, .string ⟨#[]⟩, .string ⟨#[]⟩] := by kernel_rfl
  simp [Builtin.clear_, run_underlying Try.underlying30, hz, hzc, hst]
end Go.Proofs.Ytgdmmhdihgajkaa
/- A version in memory, and its small methods: New, Next, Log, Last, All. -/
namespace Go.Proofs.Ytgdmmhdihgajkaa
set_option linter.unusedVariables false
set_option maxRecDepth 100000
open Go.RowKit
/-- Block b holds the version V; its tables stand in a row from block B on. -/
structure VerAt (B : Nat) (w : World) (b : Nat) (V : Ver) : Prop where
  blk : ∃ (tv : Value) (n0 : Int), BlkAt w b #[tv, .int .i64 n0, .int .i64 V.lg, .int .i64 V.ls] 67 ∧ OwnK encTbf 5 49 B w tv V.fs ∧ V.nx = vOr n0 1
  srt : vSorted V.fs
  good : GoodV V
/-- A row's block is one of its type. -/
theorem OwnK.typed {α : Type} {enc : α → List Value} {k E B : Nat} {w : World} {v : Value} {xs : List α} (h : OwnK enc k E B w v xs) {g : Nat} (hg : v.ownBlock = some g) : g < w.heap.size ∧ ∃ cur, w.heap[g]? = some (.cells cur E (0, 0)) := by
  rcases h.blk with ⟨rfl, -⟩ | ⟨g', cap, cur, rfl, e2, e3, e4, -⟩
  · simp [Value.ownBlock] at hg
  · simp only [Value.ownBlock, Option.some.injEq] at hg
    subst hg
    exact ⟨e3, cur, e4⟩
/-- A row holds where one block of another type is written. -/
theorem OwnK.asideT {α : Type} {enc : α → List Value} {k E B c : Nat} {w w' : World} {v : Value} {xs : List α} {vs : Array Value} {t : TypeId} (h : OwnK enc k E B w v xs) (u : UpdF (fun j => j = c) w w') (hc : BlkAt w c vs t) (ht : t ≠ E) : OwnK enc k E B w' v xs :=
  row_same h fun g hg => by
    obtain ⟨h1, cur, h2⟩ := h.typed hg
    refine u.block g h1 fun e => ?_
    subst e
    unfold BlkAt at hc
    rw [hc] at h2
    simp only [Option.some.injEq, Obj.cells.injEq] at h2
    exact ht h2.2.1
theorem VerAt.lt {B : Nat} {w : World} {b : Nat} {V : Ver} (h : VerAt B w b V) : b < w.heap.size := by obtain ⟨tv, n0, h, -⟩ := h.blk; exact h.lt
theorem VerAt.below {B : Nat} {w w' : World} {b : Nat} {V : Ver} (h : VerAt B w b V) (u : Below w.heap.size w w') : VerAt B w' b V := by
  obtain ⟨⟨tv, n0, h1, h2, h3⟩, h4, h5⟩ := h
  exact ⟨⟨tv, n0, h1.below u, h2.below u, h3⟩, h4, h5⟩
/-- .. and where one block of another type is written. -/
theorem VerAt.aside {B : Nat} {w w' : World} {b c : Nat} {V : Ver} {vs : Array Value} {t : TypeId} (h : VerAt B w b V) (u : UpdF (fun j => j = c) w w') (hc : BlkAt w c vs t) (ht : t ≠ 49) (ht2 : t ≠ 67) : VerAt B w' b V := by
  obtain ⟨⟨tv, n0, h1, h2, h3⟩, h4, h5⟩ := h
  refine ⟨⟨tv, n0, (u.block b h1.lt fun e => ?_).trans h1, h2.asideT u hc ht, h3⟩, h4, h5⟩
  subst e
  unfold BlkAt at h1 hc
  rw [h1] at hc
  simp only [Option.some.injEq, Obj.cells.injEq] at hc
  exact ht2 hc.2.1.symm
theorem VerAt.base {B B' : Nat} {w : World} {b : Nat} {V : Ver} (h : VerAt B w b V) (hB : B' ≤ B) : VerAt B' w b V := by
  obtain ⟨⟨tv, n0, h1, h2, h3⟩, h4, h5⟩ := h
  exact ⟨⟨tv, n0, h1, h2.base hB, h3⟩, h4, h5⟩
/-- The four cells. -/
structure Cell4 (w : World) (b : Nat) (v0 v1 v2 v3 : Value) : Prop where
  c0 : w.cell? ⟨b, 0, none⟩ = some v0
  c1 : w.cell? ⟨b, 1, none⟩ = some v1
  c2 : w.cell? ⟨b, 2, none⟩ = some v2
  c3 : w.cell? ⟨b, 3, none⟩ = some v3
theorem cell4_of {w : World} {b : Nat} {v0 v1 v2 v3 : Value} {t : TypeId} (h : BlkAt w b #[v0, v1, v2, v3] t) : Cell4 w b v0 v1 v2 v3 := ⟨h.at 0, h.at 1, h.at 2, h.at 3⟩
theorem vnew_any (w : World) : Calls Try.prog 12 #[] w fun e w' => e = .returned (.pointer (some ⟨w.heap.size, 0, none⟩)) ∧ w' = w.alloc (.cells #[.slice none 0 0, .int .i64 0, .int .i64 0, .int .i64 0] 67) := by
  go_enter Try.func12, Try.ntmps12
  go_wp2_with fail
  go_ret
  exact ⟨rfl, rfl⟩
theorem vnew_at (w : World) (B : Nat) : VerAt B (w.alloc (.cells #[.slice none 0 0, .int .i64 0, .int .i64 0, .int .i64 0] 67)) w.heap.size Ver.new :=
  ⟨⟨_, 0, BlkAt.new _ _ _, OwnK.nil _ _ _ _ _, rfl⟩, List.Pairwise.nil, new_good⟩
set_option maxHeartbeats 1000000 in
/-- Of any block of this make: the number, or 1. -/
theorem vnext_raw {w : World} {b : Nat} {tv : Value} {n0 l0 s0 : Int} (h : BlkAt w b #[tv, .int .i64 n0, .int .i64 l0, .int .i64 s0] 67) :
    Calls Try.prog 32 #[.pointer (some ⟨b, 0, none⟩)] w fun e w' => e = .returned (.int .i64 (vOr n0 1)) ∧ Below w.heap.size w w' := by
  obtain ⟨c0, c1, c2, c3⟩ := cell4_of h
  have HC := Lib.hid (vor64_any w.heap.size n0 1 _ (BlkAt.new w #[.int .i64 n0, .int .i64 1] 2))
  have HB := Lib.hid ((Below.refl w.heap.size w).alloc (Nat.le_refl _) (.cells #[.int .i64 n0, .int .i64 1] 2))
  generalize vOr n0 1 = V at *
  clear h
  go_enter Try.func32, Try.ntmps32
  go_wp2_with fail
  refine HC.out.mono ?_
  rintro e w' ⟨rfl, rfl⟩
  clear HC
  go_wp2_with fail
  go_ret
  exact ⟨rfl, HB.out⟩
theorem vlog_raw {w : World} {b : Nat} {tv : Value} {n0 l0 s0 : Int} (h : BlkAt w b #[tv, .int .i64 n0, .int .i64 l0, .int .i64 s0] 67) :
    Calls Try.prog 33 #[.pointer (some ⟨b, 0, none⟩)] w fun e w' => e = .returned (.int .i64 l0) ∧ w' = w := by
  obtain ⟨c0, c1, c2, c3⟩ := cell4_of h
  clear h
  go_enter Try.func33, Try.ntmps33
  go_wp2_with fail
  go_ret
  exact ⟨rfl, rfl⟩
theorem vlast_raw {w : World} {b : Nat} {tv : Value} {n0 l0 s0 : Int} (h : BlkAt w b #[tv, .int .i64 n0, .int .i64 l0, .int .i64 s0] 67) :
    Calls Try.prog 34 #[.pointer (some ⟨b, 0, none⟩)] w fun e w' => e = .returned (.int .i64 s0) ∧ w' = w := by
  obtain ⟨c0, c1, c2, c3⟩ := cell4_of h
  clear h
  go_enter Try.func34, Try.ntmps34
  go_wp2_with fail
  go_ret
  exact ⟨rfl, rfl⟩
theorem vnext_any {B : Nat} {w : World} {b : Nat} {V : Ver} (h : VerAt B w b V) : Calls Try.prog 32 #[.pointer (some ⟨b, 0, none⟩)] w fun e w' => e = .returned (.int .i64 V.nx) ∧ Below w.heap.size w w' := by
  obtain ⟨tv, n0, h1, -, h3⟩ := h.blk
  rw [h3]; exact vnext_raw h1
theorem vlog_any {B : Nat} {w : World} {b : Nat} {V : Ver} (h : VerAt B w b V) : Calls Try.prog 33 #[.pointer (some ⟨b, 0, none⟩)] w fun e w' => e = .returned (.int .i64 V.lg) ∧ w' = w := by
  obtain ⟨tv, n0, h1, -, h3⟩ := h.blk
  exact vlog_raw h1
theorem vlast_any {B : Nat} {w : World} {b : Nat} {V : Ver} (h : VerAt B w b V) : Calls Try.prog 34 #[.pointer (some ⟨b, 0, none⟩)] w fun e w' => e = .returned (.int .i64 V.ls) ∧ w' = w := by
  obtain ⟨tv, n0, h1, -, h3⟩ := h.blk
  exact vlast_raw h1
/-- What tells tables: a new row of those. -/
def FilsTo (w : World) (l : List Tbf) (e : Ending) (w' : World) : Prop := ∃ u, e = .returned u ∧ OwnK encTbf 5 49 w.heap.size w' u l ∧ Below w.heap.size w w'
set_option maxHeartbeats 1000000 in
theorem vall_any {B : Nat} {w : World} {b : Nat} {V : Ver} (h : VerAt B w b V) : Calls Try.prog 35 #[.pointer (some ⟨b, 0, none⟩)] w (FilsTo w V.fs) := by
  obtain ⟨tv, n0, h1, h2, h3⟩ := h.blk
  obtain ⟨c0, c1, c2, c3⟩ := cell4_of h1
  have HC := Lib.hid (fclone_any tv V.fs w (h2.rd encTbf_len) (by have := h.good.few; omega))
  obtain ⟨a, cap, rfl⟩ := fil_form h2
  clear h h1 h2 h3
  generalize V.fs = l at *
  generalize l.length = n at *
  unfold FilsTo
  go_enter Try.func35, Try.ntmps35
  go_wp2_with fail
  refine HC.out.mono ?_
  rintro e w' ⟨u, rfl, ho, hb⟩
  have HO := Lib.hid (And.intro ho hb)
  clear ho hb HC
  go_wp2_with fail
  go_ret
  exact ⟨_, rfl, HO.out.1, HO.out.2⟩
/-- On no version. -/
theorem vnil_any (w : World) : Calls Try.prog 32 #[.pointer none] w (fun e w' => e = .returned (.int .i64 0) ∧ w' = w) ∧ Calls Try.prog 33 #[.pointer none] w (fun e w' => e = .returned (.int .i64 0) ∧ w' = w) ∧ Calls Try.prog 34 #[.pointer none] w (fun e w' => e = .returned (.int .i64 0) ∧ w' = w) ∧
    Calls Try.prog 35 #[.pointer none] w (fun e w' => e = .returned (.slice none 0 0) ∧ w' = w) := by
  refine ⟨?_, ?_, ?_, ?_⟩
  · go_enter Try.func32, Try.ntmps32
    go_wp2_with fail
    go_ret
    exact ⟨rfl, rfl⟩
  · go_enter Try.func33, Try.ntmps33
    go_wp2_with fail
    go_ret
    exact ⟨rfl, rfl⟩
  · go_enter Try.func34, Try.ntmps34
    go_wp2_with fail
    go_ret
    exact ⟨rfl, rfl⟩
  · go_enter Try.func35, Try.ntmps35
    go_wp2_with fail
    go_ret
    exact ⟨rfl, rfl⟩
end Go.Proofs.Ytgdmmhdihgajkaa
/- Searches among tables with a function that holds a number: find, and the one that looks for a number too great. -/
namespace Go.Proofs.Ytgdmmhdihgajkaa
set_option linter.unusedVariables false
set_option maxRecDepth 100000
open Go.RowKit
/-- The first place of which p holds, or -1. -/
def IdxAt (p : Tbf → Prop) (xs : List Tbf) (i : Int) : Prop :=
  (∃ (j : Nat) (x : Tbf), i = (j : Int) ∧ xs[j]? = some x ∧ p x ∧ ∀ (m : Nat) (y : Tbf), m < j → xs[m]? = some y → ¬ p y) ∨ i = -1 ∧ ∀ x ∈ xs, ¬ p x
theorem IdxAt.bd {p : Tbf → Prop} {xs : List Tbf} {i : Int} (h : IdxAt p xs i) : -1 ≤ i ∧ i < xs.length ∧ (0 ≤ i ↔ ∃ x ∈ xs, p x) := by
  rcases h with ⟨j, x, rfl, hx, hp, -⟩ | ⟨rfl, h⟩
  · have := (List.getElem?_eq_some_iff.1 hx).1
    exact ⟨by omega, by omega, fun _ => ⟨x, List.mem_of_getElem? hx, hp⟩, fun _ => by omega⟩
  · exact ⟨by omega, by omega, fun h0 => by omega, fun ⟨x, hx, hp⟩ => absurd hp (h x hx)⟩
set_option maxHeartbeats 4000000 in
theorem idxP_any (p : Tbf → Prop) [DecidablePred p] (G : Nat) (cb v : Value) (xs : List Tbf) (hl : xs.length ≤ 1000000000000) (w : World) (h : RdK encTbf 5 w v xs)
    (hen : ∀ args w, (callFunc G args).run Try.prog w = .ok (.enter G args) w)
    (hP : ∀ (f : Tbf) (W : World), Below w.heap.size w W → Calls Try.prog G #[f.v, cb] W fun e w' => e = .returned (.bool (decide (p f))) ∧ Below W.heap.size W w') :
    Calls Try.prog 55 #[v, .func (.func G) #[] #[cb]] w fun e w' => ∃ i : Int, e = .returned (.int .i64 i) ∧ IdxAt p xs i ∧ Below w.heap.size w w' := by
  obtain ⟨a, cap, rfl, -⟩ := edFl_len h
  have HRD := Lib.hid h
  obtain ⟨N, hN⟩ : ∃ N, xs.length = N := ⟨_, rfl⟩
  have HN := Lib.hid hN
  rw [hN] at HRD hl ⊢
  have HP := Lib.hid hP
  clear h hN hP
  go_enter Try.func55, Try.ntmps55
  go_wp2_with fail
  go_loopg [5, 8] N (fun kk _ vi wr => ∃ i : Nat, vi = .int .i64 (i : Int) ∧ i ≤ N ∧ N - i ≤ kk ∧ Hid (∀ j x, j < i → xs[j]? = some x → ¬ p x) ∧ Hid (Below w.heap.size w wr))
  case atStart => exact ⟨0, rfl, by omega, by omega, Lib.hid (fun j x hj => by omega), Lib.hid (Below.refl _ _)⟩
  case round =>
    obtain ⟨q, rfl, hq, hkk, HG, HB⟩ := hrel
    by_cases h1 : q < N
    · have hd1 : (q : Int) < (N : Int) := by omega
      have hd0 : (0 : Int) ≤ (q : Int) := by omega
      obtain ⟨x, hx⟩ : ∃ x, xs[q]? = some x := ⟨xs[q]'(by have := HN.out; omega), List.getElem?_eq_getElem _⟩
      obtain ⟨b, off, rfl, hblt, d0, d1, d2, d3, d4⟩ := (HRD.out.below HB.out).atTbf q x hx
      have HX := Lib.hid hx
      have HC := Lib.hid (HP.out x wr HB.out)
      clear hx
      obtain ⟨V, hV⟩ : ∃ V, decide (p x) = V := ⟨_, rfl⟩
      rw [hV] at HC
      have HV := Lib.hid hV
      clear hV
      obtain ⟨x0, x1, x2, x3, x4⟩ := x
      unfold Tbf.v at HC
      simp only at d0 d1 d2 d3 d4 HC
      go_wp2_with fail
      refine HC.out.mono ?_
      rintro e w2 ⟨rfl, hb⟩
      have HB2 := Lib.hid (HB.out.trans (hb.mono HB.out.size))
      clear hb HC HB d0 d1 d2 d3 d4
      cases V with
      | true =>
        have HF : Hid (IdxAt p xs (q : Int)) := Lib.hid (.inl ⟨q, _, rfl, HX.out, of_decide_eq_true HV.out, HG.out⟩)
        clear HV HX HG
        go_wp2_with fail
        go_ret
        exact ⟨_, rfl, HF.out, HB2.out⟩
      | false =>
        have HG2 : Hid (∀ j x, j < q + 1 → xs[j]? = some x → ¬ p x) := Lib.hid fun j y hj hy => by
          rcases Nat.lt_or_ge j q with h | h
          · exact HG.out j y h hy
          · obtain rfl : j = q := by omega
            rw [HX.out] at hy
            obtain rfl := Option.some.inj hy
            exact of_decide_eq_false HV.out
        clear HV HX HG
        go_wp2_with fail
        go_roundg (N - (q + 1))
        case measure => omega
        case rel => exact ⟨q + 1, by go_num, by omega, Nat.le_refl _, HG2, HB2⟩
    · have hd1 : ¬ (q : Int) < (N : Int) := by omega
      have HF : Hid (IdxAt p xs (-1)) := Lib.hid (.inr ⟨rfl, fun x hx hb => by
        obtain ⟨j, hj, rfl⟩ := List.getElem_of_mem hx
        exact absurd hb (HG.out j _ (by have := HN.out; omega) (List.getElem?_eq_getElem hj))⟩)
      clear HG
      go_wp2_with fail
      go_ret
      exact ⟨_, rfl, HF.out, HB.out⟩
set_option maxHeartbeats 4000000 in
theorem conP_any (p : Tbf → Prop) [DecidablePred p] (G : Nat) (cb v : Value) (xs : List Tbf) (hl : xs.length ≤ 1000000000000) (w : World) (h : RdK encTbf 5 w v xs)
    (hen : ∀ args w, (callFunc G args).run Try.prog w = .ok (.enter G args) w)
    (hP : ∀ (f : Tbf) (W : World), Below w.heap.size w W → Calls Try.prog G #[f.v, cb] W fun e w' => e = .returned (.bool (decide (p f))) ∧ Below W.heap.size W w') :
    Calls Try.prog 45 #[v, .func (.func G) #[] #[cb]] w fun e w' => e = .returned (.bool (decide (∃ f ∈ xs, p f))) ∧ Below w.heap.size w w' := by
  have HI := Lib.hid (idxP_any p G cb v xs hl w h hen hP)
  clear h hP hen
  go_enter Try.func45, Try.ntmps45
  go_wp2_with fail
  refine HI.out.mono ?_
  rintro e w2 ⟨i, rfl, hi, hb⟩
  have HF := Lib.hid (And.intro hi hb)
  clear hi hb HI
  go_wp2_with fail
  go_ret
  exact ⟨congrArg (fun b => Ending.returned (Value.bool b)) (by rw [decide_eq_decide]; exact HF.out.1.bd.2.2), HF.out.2⟩
/-- The function that find hands over: it holds a number in a box. -/
theorem findF_any (bx : Nat) (k : Int) (f : Tbf) (w : World) (h : w.cell? ⟨bx, 0, none⟩ = some (.int .i64 k)) (hb : bx < w.heap.size) :
    Calls Try.prog 64 #[f.v, .pointer (some ⟨bx, 0, none⟩)] w fun e w' => e = .returned (.bool (decide (f.num = k))) ∧ Below w.heap.size w w' := by
  obtain ⟨x0, x1, x2, x3, x4⟩ := f
  unfold Tbf.v
  obtain ⟨V, hV⟩ : ∃ V, decide (x0 = k) = V := ⟨_, rfl⟩
  have h' : (w.alloc (.cells #[.int .i64 x0, .int .i64 x1, .int .i64 x2, .string x3, .string x4] 49)).cell? ⟨bx, 0, none⟩ = some (.int .i64 k) := (((Below.refl _ w).alloc (Nat.le_refl _) _).cell hb).trans h
  clear h
  simp only
  have e : ((x0 : Int) == k) = V := by rw [← hV]; rfl
  rw [hV]
  clear hV
  go_enter Try.func64, Try.ntmps64
  go_wp2_with fail
  go_ret
  exact ⟨rfl, (Below.refl _ w).alloc (Nat.le_refl _) _⟩
theorem mayF_any (bx : Nat) (k : Int) (f : Tbf) (w : World) (h : w.cell? ⟨bx, 0, none⟩ = some (.int .i64 k)) (hb : bx < w.heap.size) :
    Calls Try.prog 63 #[f.v, .pointer (some ⟨bx, 0, none⟩)] w fun e w' => e = .returned (.bool (decide (k ≤ f.num))) ∧ Below w.heap.size w w' := by
  obtain ⟨x0, x1, x2, x3, x4⟩ := f
  unfold Tbf.v
  have h' : (w.alloc (.cells #[.int .i64 x0, .int .i64 x1, .int .i64 x2, .string x3, .string x4] 49)).cell? ⟨bx, 0, none⟩ = some (.int .i64 k) := (((Below.refl _ w).alloc (Nat.le_refl _) _).cell hb).trans h
  clear h
  simp only
  go_enter Try.func63, Try.ntmps63
  go_wp2_with fail
  go_ret
  exact ⟨rfl, (Below.refl _ w).alloc (Nat.le_refl _) _⟩
set_option maxHeartbeats 2000000 in
theorem vfind_any (v : Value) (k : Int) (xs : List Tbf) (hl : xs.length ≤ 1000000000000) (w : World) (h : RdK encTbf 5 w v xs) :
    Calls Try.prog 57 #[v, .int .i64 k] w fun e w' => ∃ i : Int, e = .returned (.int .i64 i) ∧ IdxAt (fun f => f.num = k) xs i ∧ Below w.heap.size w w' := by
  have b1 : Below w.heap.size w (w.alloc (.cells #[.int .i64 k] 2)) := (Below.refl _ w).alloc (Nat.le_refl _) _
  have hx := BlkAt.new w #[.int .i64 k] 2
  have HI := Lib.hid (idxP_any (fun f => f.num = k) 64 (.pointer (some ⟨w.heap.size, 0, none⟩)) v xs hl _ (h.below b1) (enters_of Try.func64 (by kernel_rfl) rfl)
    (fun f W hW => findF_any _ k f W ((hx.below hW).at 0) (hx.below hW).lt))
  have HB := Lib.hid b1
  obtain ⟨a, cap, rfl, -⟩ := edFl_len h
  clear h b1 hx
  go_enter Try.func57, Try.ntmps57
  go_wp2_with fail
  refine HI.out.mono ?_
  rintro e w2 ⟨i, rfl, hi, hb⟩
  have HF := Lib.hid (And.intro hi (HB.out.trans (hb.mono HB.out.size)))
  clear hi hb HI
  go_wp2_with fail
  go_ret
  exact ⟨_, rfl, HF.out.1, HF.out.2⟩
end Go.Proofs.Ytgdmmhdihgajkaa
/- The walks of those, Level, Over and Edit: which tables are told. -/
namespace Go.Proofs.Ytgdmmhdihgajkaa
set_option linter.unusedVariables false
set_option maxRecDepth 100000
open Go.RowKit
theorem lvlF_any (bx : Nat) (k : Int) (f : Tbf) (w : World) (h : w.cell? ⟨bx, 0, none⟩ = some (.int .i64 k)) (hb : bx < w.heap.size) :
    Calls Try.prog 37 #[f.v, .pointer (some ⟨bx, 0, none⟩)] w fun e w' => e = .returned (.bool (decide (f.lvl = k))) ∧ Below w.heap.size w w' := by
  obtain ⟨x0, x1, x2, x3, x4⟩ := f
  unfold Tbf.v
  obtain ⟨V, hV⟩ : ∃ V, decide (x1 = k) = V := ⟨_, rfl⟩
  have h' : (w.alloc (.cells #[.int .i64 x0, .int .i64 x1, .int .i64 x2, .string x3, .string x4] 49)).cell? ⟨bx, 0, none⟩ = some (.int .i64 k) := (((Below.refl _ w).alloc (Nat.le_refl _) _).cell hb).trans h
  clear h
  simp only
  have e : ((x1 : Int) == k) = V := by rw [← hV]; rfl
  rw [hV]
  clear hV
  go_enter Try.func37, Try.ntmps37
  go_wp2_with fail
  go_ret
  exact ⟨rfl, (Below.refl _ w).alloc (Nat.le_refl _) _⟩
/-- Three boxes. -/
structure Box3 (w : World) (b0 b1 b2 : Nat) (k : Int) (a c : ByteArray) : Prop where
  x0 : BlkAt w b0 #[.int .i64 k] 3
  x1 : BlkAt w b1 #[.string a] 9
  x2 : BlkAt w b2 #[.string c] 9
theorem Box3.below {w w' : World} {b0 b1 b2 : Nat} {k : Int} {a c : ByteArray} (h : Box3 w b0 b1 b2 k a c) (u : Below w.heap.size w w') : Box3 w' b0 b1 b2 k a c := ⟨h.x0.below u, h.x1.below u, h.x2.below u⟩
set_option maxHeartbeats 2000000 in
theorem overF_any (b0 b1 b2 : Nat) (k : Int) (a c : ByteArray) (f : Tbf) (w : World) (h : Box3 w b0 b1 b2 k a c) :
    Calls Try.prog 41 #[f.v, .pointer (some ⟨b0, 0, none⟩), .pointer (some ⟨b1, 0, none⟩), .pointer (some ⟨b2, 0, none⟩)] w fun e w' => e = .returned (.bool (decide (f.lvl = k ∧ vOverB a c f = true))) ∧ Below w.heap.size w w' := by
  have h2 := h.below ((Below.refl w.heap.size w).alloc (Nat.le_refl _) (.cells #[.int .i64 f.num, .int .i64 f.lvl, .int .i64 f.siz, .string f.lo, .string f.hi] 49))
  have HB := Lib.hid ((Below.refl w.heap.size w).alloc (Nat.le_refl _) (.cells #[.int .i64 f.num, .int .i64 f.lvl, .int .i64 f.siz, .string f.lo, .string f.hi] 49))
  have c0 := h2.x0.at 0
  have c1 := h2.x1.at 0
  have c2 := h2.x2.at 0
  simp only [List.getElem?_toArray, List.getElem?_cons_zero] at c0 c1 c2
  clear h h2
  obtain ⟨x0, x1, x2, x3, x4⟩ := f
  unfold Tbf.v
  simp only at c0 c1 c2 HB ⊢
  by_cases hl : x1 = k
  · subst hl
    obtain ⟨V, hV⟩ : ∃ V, vOverB a c ⟨x0, x1, x2, x3, x4⟩ = V := ⟨_, rfl⟩
    have HM : Hid (∀ w, Calls Try.prog 42 #[.agg #[.int .i64 x0, .int .i64 x1, .int .i64 x2, .string x3, .string x4], .string a, .string c] w fun e w' => e = .returned (.bool V) ∧ ∃ os, w' = w.alloc os) := Lib.hid fun w => by rw [← hV]; exact meets_raw x0 x1 x2 x3 x4 a c w
    have e : decide (x1 = x1 ∧ vOverB a c ⟨x0, x1, x2, x3, x4⟩ = true) = V := by rw [hV]; cases V <;> simp
    rw [e]
    clear e hV
    go_enter Try.func41, Try.ntmps41
    go_wp2_with fail
    refine (HM.out _).mono ?_
    rintro e w' ⟨rfl, os, hw⟩
    have HB2 : Hid (Below w.heap.size w w') := Lib.hid (by rw [hw]; exact HB.out.alloc HB.out.size _)
    clear hw HM
    go_wp2_with fail
    go_ret
    exact ⟨rfl, HB2.out⟩
  · have e : decide (x1 = k ∧ vOverB a c ⟨x0, x1, x2, x3, x4⟩ = true) = false := decide_eq_false fun h => hl h.1
    rw [e]
    clear e
    go_enter Try.func41, Try.ntmps41
    go_wp2_with fail
    go_ret
    exact ⟨rfl, HB.out⟩
set_option maxHeartbeats 4000000 in
theorem those_lvl (p : Tbf → Prop) [DecidablePred p] (b0 : Nat) {B : Nat} {w : World} {b : Nat} {V : Ver} (h : VerAt B w b V)
    (hP : ∀ (f : Tbf) (W : World), Below w.heap.size w W → Calls Try.prog 37 #[f.v, .pointer (some ⟨b0, 0, none⟩)] W fun e w' => e = .returned (.bool (decide (p f))) ∧ Below W.heap.size W w') :
    Calls Try.prog 36 #[.pointer (some ⟨b, 0, none⟩), .func (.func 37) #[] #[.pointer (some ⟨b0, 0, none⟩)]] w (FilsTo w (V.fs.filter fun f => decide (p f))) := by
  obtain ⟨tv, n0, h1, h2, h3⟩ := h.blk
  obtain ⟨c0, c1, c2, c3⟩ := cell4_of h1
  have hl : V.fs.length ≤ 1000000 := by have := h.good.few; omega
  obtain ⟨a, cap, rfl⟩ := fil_form h2
  have HRD := Lib.hid (h2.rd encTbf_len)
  have HP := Lib.hid hP
  clear h h1 h2 h3 hP
  generalize V.fs = xs at *
  obtain ⟨R, hR⟩ : ∃ R, (xs.filter fun f => decide (p f)) = R := ⟨_, rfl⟩
  rw [hR]
  have HR := Lib.hid hR
  obtain ⟨N, hN⟩ : ∃ N, xs.length = N := ⟨_, rfl⟩
  have HN := Lib.hid hN
  rw [hN] at HRD hl c0
  clear hN hR
  unfold FilsTo
  go_enter Try.func36, Try.ntmps36
  go_wp2_with fail
  go_loopg [5, 7, 15] N (fun kk vl _ vi wr => ∃ (i : Nat) (ys : List Tbf) (al : Option Addr) (nl cl : Nat), vi = .int .i64 (i : Int) ∧ vl = .slice al nl cl ∧ i ≤ N ∧ N - i ≤ kk ∧ nl ≤ i ∧ Hid (ys.length = nl ∧ ys = (xs.take i).filter fun f => decide (p f)) ∧ Hid (OwnK encTbf 5 49 w.heap.size wr (.slice al nl cl) ys) ∧ Hid (Below w.heap.size w wr))
  case atStart => exact ⟨0, [], none, 0, 0, rfl, rfl, by omega, by omega, by omega, Lib.hid ⟨rfl, by simp⟩, Lib.hid (OwnK.nil _ _ _ _ _), Lib.hid (Below.refl _ _)⟩
  case round =>
    obtain ⟨q, ys, al, nl, cl, rfl, rfl, hq, hqk, hnl, HL, HY, HB⟩ := hrel
    have hd0 : (0 : Int) ≤ (q : Int) := by omega
    by_cases hqN : q < N
    · have hd1 : (q : Int) < (N : Int) := by omega
      obtain ⟨f, hf⟩ : ∃ f, xs[q]? = some f := ⟨xs[q]'(by have := HN.out; omega), List.getElem?_eq_getElem _⟩
      have HFK : Hid (((xs.take (q + 1)).filter fun f => decide (p f)) = ys ++ if p f then [f] else []) := Lib.hid (by
        rw [List.take_add_one, hf, HL.out.2, List.filter_append]
        simp only [Option.toList_some, List.filter_cons, List.filter_nil, decide_eq_true_eq])
      obtain ⟨bb, off, rfl, hblt, d0, d1, d2, d3, d4⟩ := (HRD.out.below HB.out).atTbf q f hf
      obtain ⟨wa, hwa⟩ : ∃ x, wr.alloc (.cells #[.int .i64 f.num, .int .i64 f.lvl, .int .i64 f.siz, .string f.lo, .string f.hi] 49) = x := ⟨_, rfl⟩
      have HBX : Hid (BlkAt wa wr.heap.size #[.int .i64 f.num, .int .i64 f.lvl, .int .i64 f.siz, .string f.lo, .string f.hi] 49) := Lib.hid (by rw [← hwa]; exact BlkAt.new _ _ _)
      have HBA : Hid (Below wr.heap.size wr wa) := Lib.hid (by rw [← hwa]; exact (Below.refl _ _).alloc (Nat.le_refl _) _)
      have HBB := Lib.hid (HB.out.trans (HBA.out.mono HB.out.size))
      have HY1 := Lib.hid (HY.out.below HBA.out)
      have HC := Lib.hid (HP.out f wa HBB.out)
      obtain ⟨pp, hpp⟩ : ∃ x, wr.heap.size = x := ⟨_, rfl⟩
      rw [hpp] at HBX
      clear hf HY HB HBA
      obtain ⟨K, hK⟩ : ∃ K, decide (p f) = K := ⟨_, rfl⟩
      rw [hK] at HC
      have HK := Lib.hid hK
      clear hK
      obtain ⟨x0, x1, x2, x3, x4⟩ := f
      unfold Tbf.v at HC
      simp only at d0 d1 d2 d3 d4 HC HBX hwa
      obtain ⟨e0, e1, e2, e3, e4⟩ := cell5_of HBX.out
      go_wp2_with fail
      refine HC.out.mono ?_
      rintro e w2 ⟨rfl, hb⟩
      have HB2 := Lib.hid (HBB.out.trans (hb.mono HBB.out.size))
      have HY2 := Lib.hid (HY1.out.below hb)
      have HX2 := Lib.hid (HBX.out.below hb)
      clear hb HC HBB HY1 HBX d0 d1 d2 d3 d4 e0 e1 e2 e3 e4 hwa hpp
      cases K with
      | true =>
        have HE : Hid (((xs.take (q + 1)).filter fun f => decide (p f)) = ys ++ [⟨x0, x1, x2, x3, x4⟩]) := Lib.hid (by rw [HFK.out, if_pos (of_decide_eq_true HK.out)])
        obtain ⟨e0, e1, e2, e3, e4⟩ := cell5_of HX2.out
        have hBs := HB2.out.size
        go_wp2_with (at_builtin; refine wp_appHK elem_tbf encTbf_len _ _ (by rfl) (by rfl) (by rfl) HY2.out ⟨x0, x1, x2, x3, x4⟩ _ (by rfl) (by rfl) ?c1 ?c2 ?c3 hBs ?_)
        case c1 => exact tbf_cells _
        case c2 => have := HL.out.1; omega
        case c3 => have := HL.out.1; unfold maxLen; omega
        intro v6 w6 o6 b6
        obtain ⟨a6, k6, rfl⟩ := fil_form o6
        have e6 : (ys ++ [(⟨x0, x1, x2, x3, x4⟩ : Tbf)]).length = nl + 1 := by rw [List.length_append]; have := HL.out.1; simp; omega
        rw [e6] at o6 ⊢
        have HL6 : Hid ((ys ++ [(⟨x0, x1, x2, x3, x4⟩ : Tbf)]).length = nl + 1 ∧ ys ++ [(⟨x0, x1, x2, x3, x4⟩ : Tbf)] = (xs.take (q + 1)).filter fun f => decide (p f)) := Lib.hid ⟨e6, HE.out.symm⟩
        have HO6 := Lib.hid o6
        have HB6 := Lib.hid (HB2.out.trans b6)
        clear o6 b6 e6 HY2 HB2 HX2 HL HE HFK HK e0 e1 e2 e3 e4 hBs
        go_wp2_with fail
        go_roundg (N - (q + 1))
        case measure => omega
        case rel => exact ⟨q + 1, _, a6, nl + 1, k6, by go_num, rfl, by omega, Nat.le_refl _, by omega, HL6, HO6, HB6⟩
      | false =>
        have HL6 : Hid (ys.length = nl ∧ ys = (xs.take (q + 1)).filter fun f => decide (p f)) := Lib.hid ⟨HL.out.1, by rw [HFK.out, if_neg (of_decide_eq_false HK.out), List.append_nil]⟩
        clear HL HFK HK HX2
        go_wp2_with fail
        go_roundg (N - (q + 1))
        case measure => omega
        case rel => exact ⟨q + 1, ys, al, nl, cl, by go_num, rfl, by omega, Nat.le_refl _, by omega, HL6, HY2, HB2⟩
    · have hd1 : ¬ (q : Int) < (N : Int) := by omega
      have HE : Hid (ys = R) := Lib.hid (by
        rw [HL.out.2, List.take_of_length_le (by have := HN.out; omega)]; exact HR.out)
      clear HL
      go_wp2_with fail
      go_ret
      rw [← HE.out]
      exact ⟨_, rfl, HY.out, HB.out⟩
set_option maxHeartbeats 4000000 in
theorem those_over (p : Tbf → Prop) [DecidablePred p] (b0 b1 b2 : Nat) {B : Nat} {w : World} {b : Nat} {V : Ver} (h : VerAt B w b V)
    (hP : ∀ (f : Tbf) (W : World), Below w.heap.size w W → Calls Try.prog 41 #[f.v, .pointer (some ⟨b0, 0, none⟩), .pointer (some ⟨b1, 0, none⟩), .pointer (some ⟨b2, 0, none⟩)] W fun e w' => e = .returned (.bool (decide (p f))) ∧ Below W.heap.size W w') :
    Calls Try.prog 36 #[.pointer (some ⟨b, 0, none⟩), .func (.func 41) #[] #[.pointer (some ⟨b0, 0, none⟩), .pointer (some ⟨b1, 0, none⟩), .pointer (some ⟨b2, 0, none⟩)]] w (FilsTo w (V.fs.filter fun f => decide (p f))) := by
  obtain ⟨tv, n0, h1, h2, h3⟩ := h.blk
  obtain ⟨c0, c1, c2, c3⟩ := cell4_of h1
  have hl : V.fs.length ≤ 1000000 := by have := h.good.few; omega
  obtain ⟨a, cap, rfl⟩ := fil_form h2
  have HRD := Lib.hid (h2.rd encTbf_len)
  have HP := Lib.hid hP
  clear h h1 h2 h3 hP
  generalize V.fs = xs at *
  obtain ⟨R, hR⟩ : ∃ R, (xs.filter fun f => decide (p f)) = R := ⟨_, rfl⟩
  rw [hR]
  have HR := Lib.hid hR
  obtain ⟨N, hN⟩ : ∃ N, xs.length = N := ⟨_, rfl⟩
  have HN := Lib.hid hN
  rw [hN] at HRD hl c0
  clear hN hR
  unfold FilsTo
  go_enter Try.func36, Try.ntmps36
  go_wp2_with fail
  go_loopg [5, 7, 15] N (fun kk vl _ vi wr => ∃ (i : Nat) (ys : List Tbf) (al : Option Addr) (nl cl : Nat), vi = .int .i64 (i : Int) ∧ vl = .slice al nl cl ∧ i ≤ N ∧ N - i ≤ kk ∧ nl ≤ i ∧ Hid (ys.length = nl ∧ ys = (xs.take i).filter fun f => decide (p f)) ∧ Hid (OwnK encTbf 5 49 w.heap.size wr (.slice al nl cl) ys) ∧ Hid (Below w.heap.size w wr))
  case atStart => exact ⟨0, [], none, 0, 0, rfl, rfl, by omega, by omega, by omega, Lib.hid ⟨rfl, by simp⟩, Lib.hid (OwnK.nil _ _ _ _ _), Lib.hid (Below.refl _ _)⟩
  case round =>
    obtain ⟨q, ys, al, nl, cl, rfl, rfl, hq, hqk, hnl, HL, HY, HB⟩ := hrel
    have hd0 : (0 : Int) ≤ (q : Int) := by omega
    by_cases hqN : q < N
    · have hd1 : (q : Int) < (N : Int) := by omega
      obtain ⟨f, hf⟩ : ∃ f, xs[q]? = some f := ⟨xs[q]'(by have := HN.out; omega), List.getElem?_eq_getElem _⟩
      have HFK : Hid (((xs.take (q + 1)).filter fun f => decide (p f)) = ys ++ if p f then [f] else []) := Lib.hid (by
        rw [List.take_add_one, hf, HL.out.2, List.filter_append]
        simp only [Option.toList_some, List.filter_cons, List.filter_nil, decide_eq_true_eq])
      obtain ⟨bb, off, rfl, hblt, d0, d1, d2, d3, d4⟩ := (HRD.out.below HB.out).atTbf q f hf
      obtain ⟨wa, hwa⟩ : ∃ x, wr.alloc (.cells #[.int .i64 f.num, .int .i64 f.lvl, .int .i64 f.siz, .string f.lo, .string f.hi] 49) = x := ⟨_, rfl⟩
      have HBX : Hid (BlkAt wa wr.heap.size #[.int .i64 f.num, .int .i64 f.lvl, .int .i64 f.siz, .string f.lo, .string f.hi] 49) := Lib.hid (by rw [← hwa]; exact BlkAt.new _ _ _)
      have HBA : Hid (Below wr.heap.size wr wa) := Lib.hid (by rw [← hwa]; exact (Below.refl _ _).alloc (Nat.le_refl _) _)
      have HBB := Lib.hid (HB.out.trans (HBA.out.mono HB.out.size))
      have HY1 := Lib.hid (HY.out.below HBA.out)
      have HC := Lib.hid (HP.out f wa HBB.out)
      obtain ⟨pp, hpp⟩ : ∃ x, wr.heap.size = x := ⟨_, rfl⟩
      rw [hpp] at HBX
      clear hf HY HB HBA
      obtain ⟨K, hK⟩ : ∃ K, decide (p f) = K := ⟨_, rfl⟩
      rw [hK] at HC
      have HK := Lib.hid hK
      clear hK
      obtain ⟨x0, x1, x2, x3, x4⟩ := f
      unfold Tbf.v at HC
      simp only at d0 d1 d2 d3 d4 HC HBX hwa
      obtain ⟨e0, e1, e2, e3, e4⟩ := cell5_of HBX.out
      go_wp2_with fail
      refine HC.out.mono ?_
      rintro e w2 ⟨rfl, hb⟩
      have HB2 := Lib.hid (HBB.out.trans (hb.mono HBB.out.size))
      have HY2 := Lib.hid (HY1.out.below hb)
      have HX2 := Lib.hid (HBX.out.below hb)
      clear hb HC HBB HY1 HBX d0 d1 d2 d3 d4 e0 e1 e2 e3 e4 hwa hpp
      cases K with
      | true =>
        have HE : Hid (((xs.take (q + 1)).filter fun f => decide (p f)) = ys ++ [⟨x0, x1, x2, x3, x4⟩]) := Lib.hid (by rw [HFK.out, if_pos (of_decide_eq_true HK.out)])
        obtain ⟨e0, e1, e2, e3, e4⟩ := cell5_of HX2.out
        have hBs := HB2.out.size
        go_wp2_with (at_builtin; refine wp_appHK elem_tbf encTbf_len _ _ (by rfl) (by rfl) (by rfl) HY2.out ⟨x0, x1, x2, x3, x4⟩ _ (by rfl) (by rfl) ?c1 ?c2 ?c3 hBs ?_)
        case c1 => exact tbf_cells _
        case c2 => have := HL.out.1; omega
        case c3 => have := HL.out.1; unfold maxLen; omega
        intro v6 w6 o6 b6
        obtain ⟨a6, k6, rfl⟩ := fil_form o6
        have e6 : (ys ++ [(⟨x0, x1, x2, x3, x4⟩ : Tbf)]).length = nl + 1 := by rw [List.length_append]; have := HL.out.1; simp; omega
        rw [e6] at o6 ⊢
        have HL6 : Hid ((ys ++ [(⟨x0, x1, x2, x3, x4⟩ : Tbf)]).length = nl + 1 ∧ ys ++ [(⟨x0, x1, x2, x3, x4⟩ : Tbf)] = (xs.take (q + 1)).filter fun f => decide (p f)) := Lib.hid ⟨e6, HE.out.symm⟩
        have HO6 := Lib.hid o6
        have HB6 := Lib.hid (HB2.out.trans b6)
        clear o6 b6 e6 HY2 HB2 HX2 HL HE HFK HK e0 e1 e2 e3 e4 hBs
        go_wp2_with fail
        go_roundg (N - (q + 1))
        case measure => omega
        case rel => exact ⟨q + 1, _, a6, nl + 1, k6, by go_num, rfl, by omega, Nat.le_refl _, by omega, HL6, HO6, HB6⟩
      | false =>
        have HL6 : Hid (ys.length = nl ∧ ys = (xs.take (q + 1)).filter fun f => decide (p f)) := Lib.hid ⟨HL.out.1, by rw [HFK.out, if_neg (of_decide_eq_false HK.out), List.append_nil]⟩
        clear HL HFK HK HX2
        go_wp2_with fail
        go_roundg (N - (q + 1))
        case measure => omega
        case rel => exact ⟨q + 1, ys, al, nl, cl, by go_num, rfl, by omega, Nat.le_refl _, by omega, HL6, HY2, HB2⟩
    · have hd1 : ¬ (q : Int) < (N : Int) := by omega
      have HE : Hid (ys = R) := Lib.hid (by
        rw [HL.out.2, List.take_of_length_le (by have := HN.out; omega)]; exact HR.out)
      clear HL
      go_wp2_with fail
      go_ret
      rw [← HE.out]
      exact ⟨_, rfl, HY.out, HB.out⟩
/-- A row of more tables than some, from another world on. -/
theorem FilsTo.from {w0 w : World} {l : List Tbf} {e : Ending} {w' : World} (h : FilsTo w l e w') (b : Below w0.heap.size w0 w) : FilsTo w0 l e w' := by
  obtain ⟨u, rfl, ho, hb⟩ := h
  exact ⟨u, rfl, ho.base b.size, b.trans (hb.mono b.size)⟩
set_option maxHeartbeats 1000000 in
theorem vlevel_raw {B : Nat} {w : World} {b : Nat} {V : Ver} (h : VerAt B w b V) (n : Int) : Calls Try.prog 17 #[.pointer (some ⟨b, 0, none⟩), .int .i64 n] w (FilsTo w (V.fs.filter fun f => decide (f.lvl = n))) := by
  have b1 : Below w.heap.size w (w.alloc (.cells #[.int .i64 n] 3)) := (Below.refl _ w).alloc (Nat.le_refl _) _
  have hx := BlkAt.new w #[.int .i64 n] 3
  have HI := Lib.hid (those_lvl (fun f => f.lvl = n) w.heap.size (h.below b1) (fun f W hW => lvlF_any _ n f W ((hx.below hW).at 0) (hx.below hW).lt))
  have HB := Lib.hid b1
  clear h b1 hx
  go_enter Try.func17, Try.ntmps17
  go_wp2_with fail
  refine HI.out.mono ?_
  rintro e w2 hF
  have hF2 := hF.from HB.out
  obtain ⟨u, rfl, ho, hb⟩ := hF2
  have HO := Lib.hid (And.intro ho hb)
  clear hF ho hb HI HB
  go_wp2_with fail
  go_ret
  exact ⟨_, rfl, HO.out.1, HO.out.2⟩
set_option maxHeartbeats 1000000 in
theorem vover_raw {B : Nat} {w : World} {b : Nat} {V : Ver} (h : VerAt B w b V) (n : Int) (x y : ByteArray) : Calls Try.prog 22 #[.pointer (some ⟨b, 0, none⟩), .int .i64 n, .string x, .string y] w (FilsTo w (V.fs.filter fun f => decide (f.lvl = n ∧ vOverB x y f = true))) := by
  have b1 : Below w.heap.size w (((w.alloc (.cells #[.int .i64 n] 3)).alloc (.cells #[.string x] 9)).alloc (.cells #[.string y] 9)) := (((Below.refl _ w).alloc (Nat.le_refl _) _).alloc (by simp) _).alloc (by simp; omega) _
  have hx : Box3 (((w.alloc (.cells #[.int .i64 n] 3)).alloc (.cells #[.string x] 9)).alloc (.cells #[.string y] 9)) w.heap.size (w.heap.size + 1) (w.heap.size + 1 + 1) n x y := by
    have e1 : (w.alloc (.cells #[.int .i64 n] 3)).heap.size = w.heap.size + 1 := by simp
    have e2 : ((w.alloc (.cells #[.int .i64 n] 3)).alloc (.cells #[.string x] 9)).heap.size = w.heap.size + 1 + 1 := by simp
    refine ⟨((BlkAt.new w _ _).more _).more _, ?_, ?_⟩
    · have := (BlkAt.new (w.alloc (.cells #[.int .i64 n] 3)) #[.string x] 9).more (.cells #[.string y] 9)
      rwa [e1] at this
    · have := BlkAt.new ((w.alloc (.cells #[.int .i64 n] 3)).alloc (.cells #[.string x] 9)) #[.string y] 9
      rwa [e2] at this
  have HI := Lib.hid (those_over (fun f => f.lvl = n ∧ vOverB x y f = true) w.heap.size (w.heap.size + 1) (w.heap.size + 1 + 1) (h.below b1) (fun f W hW => overF_any _ _ _ n x y f W (hx.below hW)))
  have HB := Lib.hid b1
  clear h b1 hx
  go_enter Try.func22, Try.ntmps22
  go_wp2_with fail
  refine HI.out.mono ?_
  rintro e w2 hF
  have hF2 := hF.from HB.out
  obtain ⟨u, rfl, ho, hb⟩ := hF2
  have HO := Lib.hid (And.intro ho hb)
  clear hF ho hb HI HB
  go_wp2_with fail
  go_ret
  exact ⟨_, rfl, HO.out.1, HO.out.2⟩
end Go.Proofs.Ytgdmmhdihgajkaa
/- slices.Delete of one table out of a row of the call's own. -/
namespace Go.Proofs.Ytgdmmhdihgajkaa
set_option linter.unusedVariables false
set_option maxRecDepth 100000
open Go.RowKit
/-- What is behind place q, as the source of an append. -/
theorem rest_at {B : Nat} {w : World} {g n cap : Nat} {xs : List Tbf} (h : OwnK encTbf 5 49 B w (.slice (some ⟨g, 0, none⟩) n cap) xs) (q : Nat) (hq : q < n) :
    ∃ a : Addr, (if cap = q + 1 then (some ⟨g, 0, none⟩ : Option Addr) else (some ⟨g, 0, none⟩ : Option Addr).map (·.add ((q + 1) * 5))) = some a ∧ ∀ j u, ((xs.drop (q + 1)).flatMap encTbf)[j]? = some u → w.cell? (a.add j) = some u := by
  obtain ⟨cur, hb, hn, h1, h2, h3, hg, hgl, hc⟩ := h.blockS
  by_cases hcq : cap = q + 1
  · rw [if_pos hcq]
    refine ⟨_, rfl, fun j u hj => ?_⟩
    rw [List.drop_of_length_le (by omega)] at hj
    simp at hj
  · rw [if_neg hcq]
    refine ⟨⟨g, (q + 1) * 5, none⟩, by simp only [Option.map_some, add_at, Nat.zero_add], fun j u hj => ?_⟩
    have hlen := flat_lenK encTbf_len (xs.take (q + 1))
    have e : xs.flatMap encTbf = (xs.take (q + 1)).flatMap encTbf ++ (xs.drop (q + 1)).flatMap encTbf := by rw [← List.flatMap_append, List.take_append_drop]
    have hj2 : (xs.flatMap encTbf)[(q + 1) * 5 + j]? = some u := by
      rw [e, List.getElem?_append_right (by rw [hlen, List.length_take]; omega), hlen, List.length_take, show min (q + 1) xs.length = q + 1 by omega, Nat.add_sub_cancel_left]; exact hj
    have hlt := (List.getElem?_eq_some_iff.1 hj2).1
    rw [flat_lenK encTbf_len] at hlt
    rw [add_at]
    simp only [World.cell?, hb, Option.isSome_none, Bool.false_eq_true, if_false]
    rw [← hc, List.getElem?_take_of_lt hlt, Array.getElem?_toList] at hj2
    exact hj2
theorem del_run {B : Nat} {w : World} {g n m cap : Nat} {xs : List Tbf} (h : OwnK encTbf 5 49 B w (.slice (some ⟨g, 0, none⟩) n cap) xs) (q : Nat) (hq : q < n) (hm : n = m + 1) (ty : TypeId) {T : Value} (hT : Value.slice (if cap = q + 1 then (some ⟨g, 0, none⟩ : Option Addr) else (some ⟨g, 0, none⟩ : Option Addr).map (·.add ((q + 1) * 5))) (n - (q + 1)) (cap - (q + 1)) = T) :
    ∃ w', (Builtin.append_ #[30, 30] ty #[.slice (some ⟨g, 0, none⟩) q cap, T]).run Try.prog w = .ok (.slice (some ⟨g, 0, none⟩) m cap) w' ∧ OwnK encTbf 5 49 B w' (.slice (some ⟨g, 0, none⟩) m cap) (xs.eraseIdx q) ∧ UpdF (fun j => j = g) w w' := by
  obtain ⟨a, ha, hc⟩ := rest_at h q hq
  rw [ha] at hT
  subst hT
  obtain ⟨cur, hb, hn, h1, h2, h3, hg, hgl, hcur⟩ := h.blockS
  obtain ⟨f1, f3, f4, i0, hi, hz0, hz1, hz2⟩ := elem_tbf.parts
  have htl : (xs.take q).length = q := by rw [List.length_take]; omega
  have hdl : (xs.drop (q + 1)).length = n - (q + 1) := by rw [List.length_drop]; omega
  have hown : w.ownsRow B 49 5 (.slice (some ⟨g, 0, none⟩) q cap) q ((xs.take q).flatMap encTbf) := by
    refine ⟨by rw [flat_lenK encTbf_len, htl], .inr ⟨g, cap, cur, rfl, hg, hb, by omega, h2, h3, ?_⟩⟩
    have e : xs.flatMap encTbf = (xs.take q).flatMap encTbf ++ (xs.drop q).flatMap encTbf := by rw [← List.flatMap_append, List.take_append_drop]
    rw [e] at hcur
    have hlq : ((xs.take q).flatMap encTbf).length = q * 5 := by rw [flat_lenK encTbf_len, htl]
    rw [show cur.toList.take (q * 5) = (cur.toList.take (xs.length * 5)).take (q * 5) by rw [List.take_take, Nat.min_eq_left (by omega)], hcur, List.take_left' hlq]
  obtain ⟨w', hr, ho, hu⟩ := run_append_fits (P := Try.prog) w B 30 ty 49 i0 5 f1 hi hz1 g q cap _ hown a (n - (q + 1)) (cap - (q + 1)) _ (by rw [flat_lenK encTbf_len, hdl]) hc (encTbf_one _) (by omega)
  have e1 : q + (n - (q + 1)) = m := by omega
  rw [e1] at hr ho
  have e2 : xs.eraseIdx q = xs.take q ++ xs.drop (q + 1) := List.eraseIdx_eq_take_drop_succ ..
  refine ⟨w', hr, ?_, ⟨hu.os, hu.tape, hu.output, hu.size, fun k hk hF => hu.block k hk fun e => hF (Option.some.inj e)⟩⟩
  unfold OwnK
  rw [e2, List.flatMap_append]
  have e3 : (xs.take q ++ xs.drop (q + 1)).length = m := by rw [List.length_append, htl, hdl]; omega
  rw [e3]; exact ho
theorem clear_run {B : Nat} {w : World} {g n m cap : Nat} {xs : List Tbf} (h : OwnK encTbf 5 49 B w (.slice (some ⟨g, 0, none⟩) m cap) xs) (hm : n = m + 1) (hn : n ≤ cap) (ty : TypeId) {U : Value} (hU : Value.slice (if cap = m then (some ⟨g, 0, none⟩ : Option Addr) else (some ⟨g, 0, none⟩ : Option Addr).map (·.add (m * 5))) (n - m) (cap - m) = U) :
    ∃ w', (Builtin.clear_ #[30] ty #[U]).run Try.prog w = .ok (.tuple #[]) w' ∧ OwnK encTbf 5 49 B w' (.slice (some ⟨g, 0, none⟩) m cap) xs ∧ UpdF (fun j => j = g) w w' := by
  obtain ⟨cur, hb, hl, h1, h2, h3, hg, hgl, hcur⟩ := h.blockS
  rw [if_neg (by omega), show n - m = 1 by omega] at hU
  have e : (some ⟨g, 0, none⟩ : Option Addr).map (·.add (m * 5)) = some ⟨g, m * 5, none⟩ := by simp only [Option.map_some, add_at, Nat.zero_add]
  rw [e] at hU
  subst hU
  have hr := clear_one w ty g (m * 5) (cap - m) (fun j hj => by
    simp only [World.cell?, hb, Option.isSome_none, Bool.false_eq_true, if_false]
    rw [Array.getElem?_eq_getElem (by rw [h3]; omega)]; rfl) (fun j hj => by simp only [World.frozen?, hb]; simp)
  obtain ⟨o, u⟩ := OwnK.spares [.int .i64 0, .int .i64 0, .int .i64 0, .string ⟨#[]⟩, .string ⟨#[]⟩] w (m * 5) h (by rw [hl]; exact Nat.le_refl _)
  exact ⟨_, hr, o, u⟩
def DelTo (B g m cap : Nat) (w : World) (ys : List Tbf) (e : Ending) (w' : World) : Prop := e = .returned (.slice (some ⟨g, 0, none⟩) m cap) ∧ OwnK encTbf 5 49 B w' (.slice (some ⟨g, 0, none⟩) m cap) ys ∧ UpdF (fun j => j = g) w w'
set_option maxHeartbeats 4000000 in
theorem fdel_any {B : Nat} {w : World} {g n m cap : Nat} {xs : List Tbf} (h : OwnK encTbf 5 49 B w (.slice (some ⟨g, 0, none⟩) n cap) xs) (q : Nat) (hq : q < n) (hm : n = m + 1) (hn : n ≤ 1000000000) :
    Calls Try.prog 58 #[.slice (some ⟨g, 0, none⟩) n cap, .int .i64 (q : Int), .int .i64 ((q : Int) + 1)] w (DelTo B g m cap w (xs.eraseIdx q)) := by
  have hnc : n ≤ cap := by obtain ⟨cur, hb, hl, h1, -⟩ := h.blockS; omega
  obtain ⟨T, hT⟩ : ∃ T, Value.slice (if cap = q + 1 then (some ⟨g, 0, none⟩ : Option Addr) else (some ⟨g, 0, none⟩ : Option Addr).map (·.add ((q + 1) * 5))) (n - (q + 1)) (cap - (q + 1)) = T := ⟨_, rfl⟩
  obtain ⟨U, hU⟩ : ∃ T, Value.slice (if cap = m then (some ⟨g, 0, none⟩ : Option Addr) else (some ⟨g, 0, none⟩ : Option Addr).map (·.add (m * 5))) (n - m) (cap - m) = T := ⟨_, rfl⟩
  have eq1 : ((q + 1 : Nat) : Int) = (q : Int) + 1 := by omega
  have HS1 : Hid (∀ W, ∃ X, (Instr.sliceAt 30 (.slice (some ⟨g, 0, none⟩) n cap) (some (.int .i64 (q : Int))) (some (.int .i64 ((q : Int) + 1))) (some (.int .i64 (n : Int)))).run Try.prog W = .ok X W) := Lib.hid fun W => ⟨_, by rw [← eq1]; exact sl_lhmF W _ n cap q (q + 1) n (by omega) (by omega) hnc⟩
  have HS2 : Hid (∀ W, (Instr.sliceAt 30 (.slice (some ⟨g, 0, none⟩) n cap) none (some (.int .i64 (q : Int))) none).run Try.prog W = .ok (.slice (some ⟨g, 0, none⟩) q cap) W) := Lib.hid fun W => sl_hF2 W _ n cap q (by omega)
  have HS3 : Hid (∀ W, (Instr.sliceAt 30 (.slice (some ⟨g, 0, none⟩) n cap) (some (.int .i64 ((q : Int) + 1))) none none).run Try.prog W = .ok T W) := Lib.hid fun W => by rw [← eq1, ← hT]; exact sl_lF W _ n cap (q + 1) (by omega) hnc
  have HS4 : Hid (∀ W, (Instr.sliceAt 30 (.slice (some ⟨g, 0, none⟩) m cap) (some (.int .i64 (m : Int))) (some (.int .i64 (n : Int))) none).run Try.prog W = .ok U W) := Lib.hid fun W => by rw [← hU]; exact sl_lhF W _ m cap m n (by omega) hnc
  have HA := Lib.hid (del_run (w := w.drew) h q hq hm 30 hT)
  have HCL : Hid (∀ W, OwnK encTbf 5 49 B W (.slice (some ⟨g, 0, none⟩) m cap) (xs.eraseIdx q) → ∃ w', (Builtin.clear_ #[30] 0 #[U]).run Try.prog W = .ok (.tuple #[]) w' ∧ OwnK encTbf 5 49 B w' (.slice (some ⟨g, 0, none⟩) m cap) (xs.eraseIdx q) ∧ UpdF (fun j => j = g) W w') := Lib.hid fun W hW => clear_run hW hm hnc 0 hU
  have hne : ¬ (q : Int) = (q : Int) + 1 := by omega
  have hnb : (n : Int) ≤ 1000000000 := by omega
  have hmb : (m : Int) ≤ 1000000000 := by omega
  clear h hq hm hnc hT hU eq1 hn
  unfold DelTo
  generalize xs.eraseIdx q = ys at *
  go_enter Try.func58, Try.ntmps58
  obtain ⟨X, hX⟩ := HS1.out w
  go_wp2_with fail
  clear hX
  refine wp_region_held_drew (S := fun _ => True) (by kernel_rfl) trivial (fun hHeld => ?_)
  refine takeYes (i := 0) (k := 20) (v := .slice (some ⟨g, 0, none⟩) n cap) rfl (by kernel_rfl) (by kernel_rfl) (by kernel_rfl) (by kernel_rfl) (fun _ _ _ h => h) (by kernel_rfl) ?_ trivial ?_
  · intro W hSw; first | (go_simp; done) | go_simp
  try simp only [Act.put, List.setIfInBounds_toArray, List.set_cons_zero, List.set_cons_succ]
  refine takeYes (i := 1) (k := 21) (v := .int .i64 (q : Int)) rfl (by kernel_rfl) (by kernel_rfl) (by kernel_rfl) (by kernel_rfl) (fun _ _ _ h => h) (by kernel_rfl) ?_ trivial ?_
  · intro W hSw; first | (go_simp; done) | go_simp
  try simp only [Act.put, List.setIfInBounds_toArray, List.set_cons_zero, List.set_cons_succ]
  refine takeYes (i := 2) (k := 22) (v := .slice (some ⟨g, 0, none⟩) q cap) rfl (by kernel_rfl) (by kernel_rfl) (by kernel_rfl) (by kernel_rfl) (fun _ _ _ h => h) (by kernel_rfl) ?_ trivial ?_
  · intro W hSw; have hsl := HS2.out W; first | (go_simp; done) | go_simp
  try simp only [Act.put, List.setIfInBounds_toArray, List.set_cons_zero, List.set_cons_succ]
  refine takeYes (i := 3) (k := 23) (v := .slice (some ⟨g, 0, none⟩) n cap) rfl (by kernel_rfl) (by kernel_rfl) (by kernel_rfl) (by kernel_rfl) (fun _ _ _ h => h) (by kernel_rfl) ?_ trivial ?_
  · intro W hSw; first | (go_simp; done) | go_simp
  try simp only [Act.put, List.setIfInBounds_toArray, List.set_cons_zero, List.set_cons_succ]
  refine takeYes (i := 4) (k := 24) (v := .int .i64 ((q : Int) + 1)) rfl (by kernel_rfl) (by kernel_rfl) (by kernel_rfl) (by kernel_rfl) (fun _ _ _ h => h) (by kernel_rfl) ?_ trivial ?_
  · intro W hSw; first | (go_simp; done) | go_simp
  try simp only [Act.put, List.setIfInBounds_toArray, List.set_cons_zero, List.set_cons_succ]
  refine takeYes (i := 5) (k := 25) (v := T) rfl (by kernel_rfl) (by kernel_rfl) (by kernel_rfl) (by kernel_rfl) (fun _ _ _ h => h) (by kernel_rfl) ?_ trivial ?_
  · intro W hSw; have hsl := HS3.out W; first | (go_simp; done) | go_simp
  try simp only [Act.put, List.setIfInBounds_toArray, List.set_cons_zero, List.set_cons_succ]
  obtain ⟨w2, r2, o2, u2⟩ := HA.out
  refine wpAnyH_ready (rs := [6]) (by kernel_rfl) (by simp) (AllReadyH.cons rfl (fun K hK => ?_) AllReadyH.nil)
  refine step_appD 26 rfl (by kernel_rfl) (.tmp 22) (.tmp 25) 30 rfl rfl rfl r2 ?_
  refine hK.out _ _ trivial (fun hHeld2 => ?_)
  clear hK K
  try simp only [Act.put, List.setIfInBounds_toArray, List.set_cons_zero, List.set_cons_succ]
  refine takeYes (i := 7) (k := 0) (v := .slice (some ⟨g, 0, none⟩) m cap) rfl (by kernel_rfl) (by kernel_rfl) (by kernel_rfl) (by kernel_rfl) (fun _ _ _ h => h) (by kernel_rfl) ?_ trivial ?_
  · intro W hSw; first | (go_simp; done) | go_simp
  try simp only [Act.put, List.setIfInBounds_toArray, List.set_cons_zero]
  refine wpAnyH_done (by kernel_rfl) ?_ _
  have HU2 := Lib.hid (And.intro u2 o2)
  obtain ⟨w3, r3, o3, u3⟩ := HCL.out w2 o2
  have HF : Hid (OwnK encTbf 5 49 B w3 (.slice (some ⟨g, 0, none⟩) m cap) ys ∧ UpdF (fun j => j = g) w w3) := Lib.hid ⟨o3, UpdF.trans (show UpdF (fun j => j = g) w w2 from ⟨u2.os, u2.tape, u2.output, u2.size, u2.block⟩) u3⟩
  have hs4 := HS4.out w2
  clear HA HCL r2 o2 u2 HU2 o3 u3 HS1 HS2 HS3
  go_wp2_with fail
  go_ret
  exact ⟨rfl, HF.out.1, HF.out.2⟩
end Go.Proofs.Ytgdmmhdihgajkaa
/- The walk of without: tables go by their numbers. -/
namespace Go.Proofs.Ytgdmmhdihgajkaa
set_option linter.unusedVariables false
set_option maxRecDepth 100000
open Go.RowKit
theorem eraseP_at {p : Tbf → Prop} [DecidablePred p] : ∀ {l : List Tbf} {j : Nat} {x : Tbf}, l[j]? = some x → p x → (∀ (m : Nat) (y : Tbf), m < j → l[m]? = some y → ¬ p y) → l.eraseP (fun f => decide (p f)) = l.eraseIdx j
  | [], j, x, h, _, _ => by simp at h
  | f :: r, 0, x, h, hp, _ => by
    have h : f = x := by simpa using h
    subst h
    rw [List.eraseP_cons_of_pos (by simpa using hp)]; rfl
  | f :: r, j + 1, x, h, hp, hn => by
    have hf : ¬ p f := hn 0 f (by omega) rfl
    rw [List.eraseP_cons_of_neg (by simpa using hf), List.eraseIdx_cons_succ, eraseP_at (l := r) (j := j) (by simpa using h) hp fun m y hm hy => hn (m + 1) y (by omega) (by simpa using hy)]
/-- What without answers: the tables that are left, or none. -/
def WoutTo (w : World) (r : Option (List Tbf)) (e : Ending) (w' : World) : Prop := ∃ u, e = .returned (.tuple #[u, .bool r.isSome]) ∧ (∀ ys, r = some ys → OwnK encTbf 5 49 w.heap.size w' u ys) ∧ (r = none → u = .slice none 0 0) ∧ Below w.heap.size w w'
theorem vDels_len : ∀ {ns : List Int} {l m : List Tbf}, vDels l ns = some m → m.length ≤ l.length := fun h => (vDels_sub h).length_le
set_option maxHeartbeats 8000000 in
theorem wout_any (v vd : Value) (xs : List Tbf) (ns : List Int) (hl : xs.length ≤ 1000000) (hn : ns.length ≤ 1000000000) (w : World) (h : RdK encTbf 5 w v xs) (hd : RdV w vd (ns.map encI64)) :
    Calls Try.prog 49 #[v, vd] w (WoutTo w (vDels xs ns)) := by
  obtain ⟨R, hR⟩ : ∃ R, vDels xs ns = R := ⟨_, rfl⟩
  rw [hR]
  have HR := Lib.hid hR
  have HD := Lib.hid hd
  have HC := Lib.hid (fclone_any v xs w h (by omega))
  obtain ⟨a, cap, rfl, -⟩ := edFl_len h
  obtain ⟨ad, cd, rfl⟩ := edInts_len hd
  obtain ⟨N, hN⟩ : ∃ N, ns.length = N := ⟨_, rfl⟩
  have HN := Lib.hid (And.intro hN hl)
  rw [hN] at HD hn ⊢
  clear h hd hR hN hl
  unfold WoutTo
  go_enter Try.func49, Try.ntmps49
  go_wp2_with fail
  refine HC.out.mono ?_
  rintro e w1 ⟨u, rfl, ho, hb⟩
  obtain ⟨au, cu, rfl⟩ := fil_form ho
  obtain ⟨nu, hnu⟩ : ∃ n, xs.length = n := ⟨_, rfl⟩
  have HO := Lib.hid (And.intro ho hb)
  have HNU := Lib.hid hnu
  rw [hnu]
  rw [hnu] at HO
  clear ho hb HC hnu
  go_wp2_with fail
  go_loopg [6, 8, 9, 14] N (fun kk vl _ _ vi wr => ∃ (i : Nat) (ys : List Tbf) (al : Option Addr) (nl cl : Nat), vi = .int .i64 (i : Int) ∧ vl = .slice al nl cl ∧ i ≤ N ∧ N - i ≤ kk ∧ nl ≤ 1000000 ∧ Hid (ys.length = nl) ∧ Hid (OwnK encTbf 5 49 w.heap.size wr (.slice al nl cl) ys) ∧ Hid (vDels ys (ns.drop i) = R) ∧ Hid (Below w.heap.size w wr))
  case atStart => exact ⟨0, xs, au, nu, cu, rfl, rfl, by omega, by omega, by have := HN.out.2; have := HNU.out; omega, HNU, Lib.hid HO.out.1, Lib.hid (by rw [List.drop_zero]; exact HR.out), Lib.hid HO.out.2⟩
  case round =>
    clear HO HNU
    obtain ⟨q, ys, al, nl, cl, rfl, rfl, hq, hqk, hnl, HL, HY, HV, HB⟩ := hrel
    have hd0 : (0 : Int) ≤ (q : Int) := by omega
    by_cases h1 : q < N
    · have hd1 : (q : Int) < (N : Int) := by omega
      obtain ⟨k, hk⟩ : ∃ k, ns[q]? = some k := ⟨ns[q]'(by have := HN.out.1; omega), List.getElem?_eq_getElem _⟩
      obtain ⟨bd, od, rfl, hblt, d0⟩ := edInts_at (RdV.below HD.out HB.out) q k hk
      have HF := Lib.hid (vfind_any (.slice al nl cl) k ys (by have := HL.out; omega) wr (HY.out.rd encTbf_len))
      have HK : Hid (vDels ys (k :: ns.drop (q + 1)) = R) := Lib.hid (by
        have e : ns.drop q = k :: ns.drop (q + 1) := by
          rw [List.drop_eq_getElem_cons (by have := HN.out.1; omega)]
          congr 1
          have := (List.getElem?_eq_some_iff.1 hk).2
          exact this
        rw [← e]; exact HV.out)
      clear hk HV
      go_wp2_with fail
      refine HF.out.mono ?_
      rintro e w2 ⟨i, rfl, hi, hb⟩
      have HB2 := Lib.hid (HB.out.trans (hb.mono HB.out.size))
      have HY2 := Lib.hid (HY.out.below hb)
      have HI := Lib.hid hi
      clear hi hb HF HY HB d0
      by_cases hneg : i < 0
      · have HX : Hid (R = none) := Lib.hid (by
          rw [← HK.out, vDels, if_neg]
          rintro ⟨f, hf, e⟩
          have := (HI.out.bd).2.2.2 ⟨f, hf, e⟩
          omega)
        clear HI HK
        go_wp2_with fail
        go_ret2
        rw [HX.out]
        exact ⟨_, rfl, fun ys h => by simp at h, fun _ => rfl, HB2.out⟩
      · obtain ⟨j, x, rfl, HJ⟩ : ∃ (j : Nat) (x : Tbf), i = (j : Int) ∧ Hid (ys[j]? = some x ∧ x.num = k ∧ ∀ (m : Nat) (y : Tbf), m < j → ys[m]? = some y → ¬ y.num = k) := by
          rcases HI.out with ⟨j, x, e, h1, h2, h3⟩ | ⟨e, -⟩
          · exact ⟨j, x, e, Lib.hid ⟨h1, h2, h3⟩⟩
          · omega
        have hjl : j < nl := by have := (List.getElem?_eq_some_iff.1 HJ.out.1).1; have := HL.out; omega
        obtain ⟨g, rfl⟩ : ∃ g, al = some ⟨g, 0, none⟩ := by
          rcases HY2.out.blk with ⟨e, e2⟩ | ⟨g, c, cur, e, -⟩
          · have := HL.out; rw [e2] at this; simp at this; omega
          · simp only [Value.slice.injEq] at e; exact ⟨g, e.1⟩
        obtain ⟨m, hm⟩ : ∃ m, nl = m + 1 := ⟨nl - 1, by omega⟩
        have HDL := Lib.hid (fdel_any HY2.out j hjl hm (by omega))
        have HM : Hid (w.heap.size ≤ g) := Lib.hid (by
          obtain ⟨cur, -, -, -, -, -, h, -⟩ := HY2.out.blockS; exact h)
        have hm1 : m ≤ 1000000 := by omega
        have HE : Hid ((ys.eraseIdx j).length = m) := Lib.hid (by rw [List.length_eraseIdx, if_pos (by have := HL.out; omega)]; have := HL.out; omega)
        have HV2 : Hid (vDels (ys.eraseIdx j) (ns.drop (q + 1)) = R) := Lib.hid (by
          rw [← HK.out, vDels, if_pos ⟨x, List.mem_of_getElem? HJ.out.1, HJ.out.2.1⟩]
          unfold vDel
          rw [eraseP_at (p := fun f => f.num = k) HJ.out.1 HJ.out.2.1 HJ.out.2.2])
        clear HI HK HJ hm HY2
        have hjp : (0 : Int) ≤ (j : Int) := by omega
        have hjb : (j : Int) ≤ 1000000 := by omega
        go_wp2_with fail
        refine HDL.out.mono ?_
        rintro e w3 ⟨rfl, ho, hu⟩
        have HO3 := Lib.hid ho
        have HB3 := Lib.hid (HB2.out.trans (UpdF.below hu HB2.out.size fun i hi e => by have := HM.out; omega))
        clear ho hu HDL HB2
        go_wp2_with fail
        go_roundg (N - (q + 1))
        case measure => omega
        case rel => exact ⟨q + 1, _, _, m, cl, by go_num, rfl, by omega, Nat.le_refl _, hm1, HE, HO3, HV2, HB3⟩
    · have hd1 : ¬ (q : Int) < (N : Int) := by omega
      have HX : Hid (R = some ys) := Lib.hid (by
        rw [← HV.out, List.drop_of_length_le (by have := HN.out.1; omega)]; rfl)
      clear HV
      go_wp2_with fail
      go_ret2
      rw [HX.out]
      exact ⟨_, rfl, fun zs h => by obtain rfl := Option.some.inj h; exact HY.out, fun h => by simp at h, HB.out⟩
end Go.Proofs.Ytgdmmhdihgajkaa
/- The walk of areApart: neighbours of tables in order. -/
namespace Go.Proofs.Ytgdmmhdihgajkaa
set_option linter.unusedVariables false
set_option maxRecDepth 100000
open Go.RowKit
/-- No two neighbours have a text in common. -/
def vAdj (l : List Tbf) : Prop := ∀ (m : Nat) (f g : Tbf), l[m]? = some f → l[m + 1]? = some g → ¬ vClash f g
/-- f stands wholly ahead of g, as far as their level asks it. -/
def vFar (f g : Tbf) : Prop := f.lvl < g.lvl ∨ f.lvl = g.lvl ∧ (f.lvl ≤ 0 ∨ bl f.hi g.lo)
theorem vFar_trans {f g h : Tbf} (hg : ¬ bl g.hi g.lo) (a : vFar f g) (b : vFar g h) : vFar f h := by
  rcases a with a | ⟨a1, a2⟩
  · rcases b with b | ⟨b1, -⟩ <;> exact .inl (by omega)
  · rcases b with b | ⟨b1, b2⟩
    · exact .inl (by omega)
    · refine .inr ⟨by omega, ?_⟩
      rcases a2 with a2 | a2
      · exact .inl a2
      · rcases b2 with b2 | b2
        · exact .inl (by omega)
        · refine .inr ?_
          rcases bl_tri g.lo g.hi with k | k | k
          · exact bl_trans (bl_trans a2 k) b2
          · rw [k] at a2; exact bl_trans a2 b2
          · exact absurd k hg
theorem vFar_not {f g : Tbf} (a : vFar f g) : ¬ vClash f g := by
  rintro ⟨h1, h2, -, h4⟩
  rcases a with a | ⟨-, a | a⟩
  · omega
  · omega
  · exact h4 a
theorem far_of {f g : Tbf} (hg : ¬ bl g.hi g.lo) (hs : ¬ vLt g f) (hc : ¬ vClash f g) : vFar f g := by
  rcases not_vLt hs with h | ⟨h1, h⟩
  · exact .inl h
  · refine .inr ⟨h1.symm, ?_⟩
    by_cases h0 : f.lvl ≤ 0
    · exact .inl h0
    · refine .inr (Decidable.byContradiction fun hn => hc ⟨h1.symm, by omega, fun k => ?_, hn⟩)
      rcases h with ⟨h2, -⟩ | ⟨-, h2⟩
      · omega
      · rcases bl_tri g.lo g.hi with q | q | q
        · exact h2 (bl_trans q k)
        · rw [← q] at k; exact h2 k
        · exact hg q
theorem far_all : ∀ {l : List Tbf}, (∀ f ∈ l, ¬ bl f.hi f.lo) → (∀ (m : Nat) (f g : Tbf), l[m]? = some f → l[m + 1]? = some g → vFar f g) → l.Pairwise vFar
  | [], _, _ => List.Pairwise.nil
  | [f], _, _ => List.pairwise_singleton _ _
  | f :: g :: r, ho, hf => by
    have ih := far_all (l := g :: r) (fun x hx => ho x (List.mem_cons_of_mem _ hx)) (fun m x y hx hy => hf (m + 1) x y hx hy)
    have hfg := hf 0 f g rfl rfl
    refine List.pairwise_cons.2 ⟨fun x hx => ?_, ih⟩
    rcases List.mem_cons.1 hx with rfl | hx
    · exact hfg
    · exact vFar_trans (ho g (by simp)) hfg ((List.pairwise_cons.1 ih).1 x hx)
/-- Of tables in order neighbours are enough. -/
theorem adj_apart {l : List Tbf} (hs : vSorted l) (ho : ∀ f ∈ l, ¬ bl f.hi f.lo) : vAdj l ↔ vApart l := by
  constructor
  · intro h
    refine (far_all ho fun m f g hf hg => far_of (ho g (List.mem_of_getElem? hg)) ?_ (h m f g hf hg)).imp fun {f g} => vFar_not
    obtain ⟨h1, e1⟩ := List.getElem?_eq_some_iff.1 hf
    obtain ⟨h2, e2⟩ := List.getElem?_eq_some_iff.1 hg
    have := List.pairwise_iff_getElem.1 hs m (m + 1) h1 h2 (by omega)
    rwa [e1, e2] at this
  · intro h m f g hf hg
    obtain ⟨h1, e1⟩ := List.getElem?_eq_some_iff.1 hf
    obtain ⟨h2, e2⟩ := List.getElem?_eq_some_iff.1 hg
    have := List.pairwise_iff_getElem.1 h m (m + 1) h1 h2 (by omega)
    rwa [e1, e2] at this
theorem meets_clash {f g : Tbf} (hg : ¬ bl g.hi g.lo) (h1 : f.lvl = g.lvl) (h2 : 0 < f.lvl) : vOverB g.lo g.hi f = decide (vClash f g) := by
  unfold vOverB vClash
  simp only [decide_eq_false hg, Bool.not_false, Bool.true_and, h1, true_and]
  have h3 : 0 < g.lvl := by omega
  by_cases a : bl g.hi f.lo <;> by_cases b : bl f.hi g.lo <;> simp [a, b, h3]
/-- Two tables in boxes of their own. -/
structure TwoF (w0 w : World) (f g : Tbf) (p q : Nat) : Prop where
  a : BlkAt w p #[.int .i64 f.num, .int .i64 f.lvl, .int .i64 f.siz, .string f.lo, .string f.hi] 49
  b : BlkAt w q #[.int .i64 g.num, .int .i64 g.lvl, .int .i64 g.siz, .string g.lo, .string g.hi] 49
  bel : Below w0.heap.size w0 w
def AptTo (xs : List Tbf) (w : World) (e : Ending) (w' : World) : Prop := ∃ b : Bool, e = .returned (.bool b) ∧ (b = true ↔ vAdj xs) ∧ Below w.heap.size w w'
theorem two_new (w : World) (u v : Array Value) (t : TypeId) : BlkAt ((w.alloc (.cells u t)).alloc (.cells v t)).drew w.heap.size u t ∧ BlkAt ((w.alloc (.cells u t)).alloc (.cells v t)).drew (w.heap.size + 1) v t ∧ Below w.heap.size w ((w.alloc (.cells u t)).alloc (.cells v t)).drew := by
  refine ⟨((BlkAt.new w u t).more _).drew, ?_, (((Below.refl _ w).alloc (Nat.le_refl _) _).alloc (by simp) _).drew⟩
  have := BlkAt.new (w.alloc (.cells u t)) v t
  rw [show (w.alloc (.cells u t)).heap.size = w.heap.size + 1 by simp] at this
  exact this.drew
set_option maxHeartbeats 8000000 in
theorem vapart_any (v : Value) (xs : List Tbf) (hl : xs.length ≤ 1000000) (ho : ∀ f ∈ xs, ¬ bl f.hi f.lo) (w : World) (h : RdK encTbf 5 w v xs) :
    Calls Try.prog 62 #[v] w (AptTo xs w) := by
  obtain ⟨a, cap, rfl, -⟩ := edFl_len h
  have HRD := Lib.hid h
  have HO := Lib.hid ho
  obtain ⟨N, hN⟩ : ∃ N, xs.length = N := ⟨_, rfl⟩
  have HN := Lib.hid hN
  rw [hN] at HRD hl ⊢
  have HM : Hid (∀ (f : Tbf) (a b : ByteArray) (w : World), Calls Try.prog 42 #[.agg #[.int .i64 f.num, .int .i64 f.lvl, .int .i64 f.siz, .string f.lo, .string f.hi], .string a, .string b] w fun e w' => e = .returned (.bool (vOverB a b f)) ∧ ∃ os, w' = w.alloc os) := Lib.hid fun f a b w => meets_raw f.num f.lvl f.siz f.lo f.hi a b w
  clear h hN ho
  go_enter Try.func62, Try.ntmps62
  go_wp2_with fail
  go_loopg [3, 4, 5] N (fun kk vi _ _ wr => ∃ i : Nat, vi = .int .i64 ((i : Int) + 1) ∧ (i + 1 ≤ N ∨ i = 0) ∧ N - i ≤ kk ∧ Hid (∀ (m : Nat) (f g : Tbf), m < i → xs[m]? = some f → xs[m + 1]? = some g → ¬ vClash f g) ∧ Hid (Below w.heap.size w wr))
  case atStart => exact ⟨0, rfl, by omega, by omega, Lib.hid (fun m f g hm => by omega), Lib.hid (Below.refl _ _)⟩
  case round =>
    obtain ⟨q, rfl, hq, hkk, HG, HB⟩ := hrel
    have hd0 : (0 : Int) ≤ (q : Int) := by omega
    by_cases h1 : q + 1 < N
    · have hd1 : (q : Int) + 1 < (N : Int) := by omega
      have hqb : (q : Int) ≤ 1000000 := by omega
      have hqs : IntKind.i64.wrap ((q : Int) + 1 - 1) = (q : Int) := by rw [show (q : Int) + 1 - 1 = (q : Int) by omega]; exact IntWalk.i64_in _ (by omega)
      obtain ⟨x, hx⟩ : ∃ x, xs[q]? = some x := ⟨xs[q]'(by have := HN.out; omega), List.getElem?_eq_getElem _⟩
      obtain ⟨y, hy⟩ : ∃ y, xs[q + 1]? = some y := ⟨xs[q + 1]'(by have := HN.out; omega), List.getElem?_eq_getElem _⟩
      obtain ⟨b, off, rfl, hblt, AX⟩ := (HRD.out.below HB.out).atTbf q x hx
      obtain ⟨b', off', e', -, AY⟩ := (HRD.out.below HB.out).atTbf (q + 1) y hy
      simp only [Option.some.injEq, Addr.mk.injEq] at e'
      obtain ⟨rfl, rfl, -⟩ := e'
      have HX := Lib.hid (And.intro hx hy)
      have HOY := Lib.hid (HO.out y (List.mem_of_getElem? hy))
      have HAX := Lib.hid AX
      have HAY := Lib.hid AY
      clear hx hy AX AY
      go_upto_region 4 with fail
      go_cut [4, 5] (fun v4 v5 wx => ∃ p4 p5 : Nat, v4 = .pointer (some ⟨p4, 0, none⟩) ∧ v5 = .pointer (some ⟨p5, 0, none⟩) ∧ Hid (TwoF w wx x y p4 p5))
      case first =>
        obtain ⟨d0, d1, d2, d3, d4⟩ := HAX.out
        obtain ⟨e0, e1, e2, e3, e4⟩ := HAY.out
        have hN0 : (q : Int) < (N : Int) := by omega
        go_region
        · go_wp2_with fail
          go_meet
          exact ⟨_, _, rfl, rfl, Lib.hid ⟨(two_new wr _ _ _).1, (two_new wr _ _ _).2.1, HB.out.trans ((two_new wr _ _ _).2.2.mono HB.out.size)⟩⟩
        · go_wp2_with fail
          go_meet
          exact ⟨_, _, rfl, rfl, Lib.hid ⟨(two_new wr _ _ _).2.1, (two_new wr _ _ _).1, HB.out.trans ((two_new wr _ _ _).2.2.mono HB.out.size)⟩⟩
      case rest =>
        obtain ⟨p4, p5, rfl, rfl, HT⟩ := hcut
        obtain ⟨d0, d1, d2, d3, d4⟩ := cell5_of HT.out.a
        obtain ⟨e0, e1, e2, e3, e4⟩ := cell5_of HT.out.b
        clear HAX HAY HB
        have HGO : Hid (¬ vClash x y → ∀ (m : Nat) (f g : Tbf), m < q + 1 → xs[m]? = some f → xs[m + 1]? = some g → ¬ vClash f g) := Lib.hid fun hc m f g hm hf hg => by
          rcases Nat.lt_or_ge m q with h | h
          · exact HG.out m f g h hf hg
          · obtain rfl : m = q := by omega
            rw [HX.out.1] at hf
            rw [HX.out.2] at hg
            obtain rfl := Option.some.inj hf
            obtain rfl := Option.some.inj hg
            exact hc
        obtain ⟨xn, xl, xs', xo, xh⟩ := x
        obtain ⟨yn, yl, ys', yo, yh⟩ := y
        simp only at d0 d1 d2 d3 d4 e0 e1 e2 e3 e4 HOY
        by_cases g1 : 0 < xl
        · by_cases g2 : xl = yl
          · subst g2
            obtain ⟨V, hV⟩ : ∃ V, vOverB yo yh ⟨xn, xl, xs', xo, xh⟩ = V := ⟨_, rfl⟩
            have HV := Lib.hid ((meets_clash (f := ⟨xn, xl, xs', xo, xh⟩) (g := ⟨yn, xl, ys', yo, yh⟩) HOY.out rfl g1).symm.trans hV)
            have HC : Hid (∀ w, Calls Try.prog 42 #[.agg #[.int .i64 xn, .int .i64 xl, .int .i64 xs', .string xo, .string xh], .string yo, .string yh] w fun e w' => e = .returned (.bool V) ∧ ∃ os, w' = w.alloc os) := Lib.hid fun w => by rw [← hV]; exact HM.out ⟨xn, xl, xs', xo, xh⟩ yo yh w
            clear hV HG HOY
            go_wp2_with fail
            refine (HC.out _).mono ?_
            rintro e w2 ⟨rfl, os, hw⟩
            have HB2 : Hid (Below w.heap.size w w2) := Lib.hid (by rw [hw]; exact HT.out.bel.alloc HT.out.bel.size _)
            clear hw HC d0 d1 d2 d3 d4 e0 e1 e2 e3 e4 HT
            cases V with
            | true =>
              have HF : Hid (¬ vAdj xs) := Lib.hid fun h => h q _ _ HX.out.1 HX.out.2 (of_decide_eq_true HV.out)
              clear HV HX HGO
              go_wp2_with fail
              go_ret
              exact ⟨false, rfl, ⟨fun h => (by cases h), fun h => absurd h HF.out⟩, HB2.out⟩
            | false =>
              have HG2 := Lib.hid (HGO.out (of_decide_eq_false HV.out))
              clear HV HX HGO
              go_wp2_with fail
              go_roundg (N - (q + 1))
              case measure => omega
              case rel => exact ⟨q + 1, by go_num, .inl (by omega), Nat.le_refl _, HG2, HB2⟩
          · have HG2 := Lib.hid (HGO.out fun h => g2 h.1)
            have HB2 := Lib.hid HT.out.bel
            clear HX HGO HG HOY HT
            go_wp2_with fail
            go_roundg (N - (q + 1))
            case measure => omega
            case rel => exact ⟨q + 1, by go_num, .inl (by omega), Nat.le_refl _, HG2, HB2⟩
        · have HG2 := Lib.hid (HGO.out fun h => g1 h.2.1)
          have HB2 := Lib.hid HT.out.bel
          clear HX HGO HG HOY HT
          go_wp2_with fail
          go_roundg (N - (q + 1))
          case measure => omega
          case rel => exact ⟨q + 1, by go_num, .inl (by omega), Nat.le_refl _, HG2, HB2⟩
    · have hd1 : ¬ (q : Int) + 1 < (N : Int) := by omega
      have HF : Hid (vAdj xs) := Lib.hid fun m f g hf hg => by
        have := (List.getElem?_eq_some_iff.1 hg).1
        have := HN.out
        exact HG.out m f g (by omega) hf hg
      clear HG
      go_wp2_with fail
      go_ret
      exact ⟨true, rfl, ⟨fun _ => HF.out, fun _ => rfl⟩, HB.out⟩
end Go.Proofs.Ytgdmmhdihgajkaa
/- The walk of with: tables come in, and all stand in order. -/
namespace Go.Proofs.Ytgdmmhdihgajkaa
set_option linter.unusedVariables false
set_option maxRecDepth 100000
open Go.RowKit
/-- May these tables come to those? -/
def withOk (xs ts : List Tbf) : Prop := xs.length + ts.length ≤ 200 ∧ vAdds xs ts ≠ none ∧ vApart (xs ++ ts)
def WithTo (B : Nat) (xs ts : List Tbf) (w : World) (e : Ending) (w' : World) : Prop := ∃ (u : Value) (ok : Bool), e = .returned (.tuple #[u, .bool ok]) ∧ (ok = true ↔ withOk xs ts) ∧
  (ok = true → ∃ zs : List Tbf, OwnK encTbf 5 49 B w' u zs ∧ vSorted zs ∧ zs.Perm (xs ++ ts)) ∧ Below B w w'
abbrev filC (f : Tbf) : Array Value := #[.int .i64 f.num, .int .i64 f.lvl, .int .i64 f.siz, .string f.lo, .string f.hi]
theorem blk_same {w : World} {p : Nat} {f : Tbf} (h : BlkAt w p (filC f) 49) : BlkAt (w.setCell ⟨p, 3, none⟩ (.string f.lo)) p (filC f) 49 ∧ BlkAt ((w.setCell ⟨p, 3, none⟩ (.string f.lo)).setCell ⟨p, 4, none⟩ (.string f.hi)) p (filC f) 49 :=
  ⟨h.set (o := 3) (.string f.lo), (h.set (o := 3) (.string f.lo)).set (o := 4) (.string f.hi)⟩
theorem blk_same_below {w0 w : World} {p : Nat} {x y : Value} {B : Nat} (h : Below B w0 w) (hB : B ≤ w.heap.size) (hp : B ≤ p) : Below B w0 ((w.setCell ⟨p, 3, none⟩ x).setCell ⟨p, 4, none⟩ y) :=
  h.trans (UpdF.below (((UpdF.refl (fun k => B ≤ k) w).set p 3 x hp).set p 4 y hp) hB fun k hk hn => by omega)
theorem vOwn_apart {B : Nat} {w w' : World} {v : Value} {ys : List Tbf} (h : OwnK encTbf 5 49 B w v ys) (hk : ∀ g, v.ownBlock = some g → w'.heap[g]? = w.heap[g]?) : OwnK encTbf 5 49 B w' v ys := row_same h hk
set_option maxHeartbeats 16000000 in
theorem with_any (B : Nat) (v va : Value) (xs ts : List Tbf) (w : World) (h : OwnK encTbf 5 49 B w v xs) (hB : B ≤ w.heap.size) (ha : RdK encTbf 5 w va ts) (hA : ∀ w', Below B w w' → RdK encTbf 5 w' va ts) (hxr : ∀ f ∈ xs, ¬ badTb f) (har : ∀ f ∈ ts, ¬ badTb f) (hlx : xs.length ≤ 200) (hla : ts.length ≤ 200) :
    Calls Try.prog 50 #[v, va] w (WithTo B xs ts w) := by
  have HA := Lib.hid hA
  have HRT := Lib.hid (And.intro hxr har)
  obtain ⟨a, ca, rfl, -⟩ := edFl_len ha
  obtain ⟨al, cl, rfl⟩ := fil_form h
  have HO := Lib.hid h
  obtain ⟨R, hR⟩ : ∃ R, vAdds xs ts = R := ⟨_, rfl⟩
  have HR := Lib.hid hR
  obtain ⟨N, hN⟩ : ∃ N, ts.length = N := ⟨_, rfl⟩
  obtain ⟨K0, hK0⟩ : ∃ N, xs.length = N := ⟨_, rfl⟩
  have HN := Lib.hid (And.intro hN hK0)
  have HB0 := Lib.hid hB
  rw [hN] at HA hla ⊢
  rw [hK0] at HO hlx ⊢
  clear h ha hA hxr har hR hN hK0 hB
  by_cases hbig : 200 < K0 + N
  · have hbi : (200 : Int) < (K0 : Int) + (N : Int) := by omega
    have HF : Hid (¬ withOk xs ts) := Lib.hid fun h => by have := h.1; have := HN.out; omega
    go_enter Try.func50, Try.ntmps50
    go_wp2_with fail
    go_ret2
    exact ⟨_, false, rfl, ⟨fun h => (by cases h), fun h => absurd h HF.out⟩, fun h => (by cases h), Below.refl _ _⟩
  · have hbi : ¬ (200 : Int) < (K0 : Int) + (N : Int) := by omega
    unfold WithTo
    go_enter Try.func50, Try.ntmps50
    go_wp2_with fail
    go_loopg [0, 7, 16] N (fun kk vt _ vi wr => ∃ (i : Nat) (ys : List Tbf) (al : Option Addr) (nl cl : Nat), vi = .int .i64 (i : Int) ∧ vt = .slice al nl cl ∧ i ≤ N ∧ N - i ≤ kk ∧ nl ≤ 200 ∧ Hid (nl = K0 + i ∧ ys.length = nl ∧ ys = xs ++ ts.take i) ∧ Hid (OwnK encTbf 5 49 B wr (.slice al nl cl) ys) ∧ Hid (vAdds ys (ts.drop i) = R) ∧ Hid (Below B w wr))
    case atStart => exact ⟨0, xs, al, K0, cl, rfl, rfl, by omega, by omega, by omega, Lib.hid ⟨by omega, HN.out.2, by simp⟩, HO, Lib.hid (by rw [List.drop_zero]; exact HR.out), Lib.hid (Below.refl _ _)⟩
    case round =>
      clear HO
      obtain ⟨q, ys, al, nl, cl, rfl, rfl, hq, hqk, hnl, HL, HY, HV, HB⟩ := hrel
      have hd0 : (0 : Int) ≤ (q : Int) := by omega
      by_cases h1 : q < N
      · have hd1 : (q : Int) < (N : Int) := by omega
        obtain ⟨f, hf⟩ : ∃ f, ts[q]? = some f := ⟨ts[q]'(by have := HN.out.1; omega), List.getElem?_eq_getElem _⟩
        have HFK : Hid (ts[q]? = some f ∧ ts.drop q = f :: ts.drop (q + 1)) := Lib.hid ⟨hf, by
          rw [List.drop_eq_getElem_cons (by have := HN.out.1; omega)]
          congr 1
          exact (List.getElem?_eq_some_iff.1 hf).2⟩
        have HRF := Lib.hid (HRT.out.2 f (List.mem_of_getElem? hf))
        obtain ⟨b, off, rfl, hblt, AF⟩ := (HA.out _ HB.out).atTbf q f hf
        have hbs := HB.out.size
        have HRK : Hid (vAdds ys (f :: ts.drop (q + 1)) = R) := Lib.hid (by rw [← HFK.out.2]; exact HV.out)
        obtain ⟨d0, d1, d2, d3, d4⟩ := AF
        clear hf HV
        -- the box
        obtain ⟨wa, hwa⟩ : ∃ x, wr.alloc (.cells (filC f) 49) = x := ⟨_, rfl⟩
        have HBX : Hid (BlkAt wa wr.heap.size (filC f) 49) := Lib.hid (by rw [← hwa]; exact BlkAt.new _ _ _)
        have HBA : Hid (Below wr.heap.size wr wa) := Lib.hid (by rw [← hwa]; exact (Below.refl _ _).alloc (Nat.le_refl _) _)
        have HP : Hid (B ≤ wr.heap.size) := Lib.hid (Nat.le_trans HB0.out hbs)
        obtain ⟨p, hp⟩ : ∃ p, wr.heap.size = p := ⟨_, rfl⟩
        have HYA := Lib.hid (HY.out.below HBA.out)
        have HBB := Lib.hid (HB.out.trans (HBA.out.mono HP.out))
        have HYP : Hid (∀ g, (Value.slice al nl cl).ownBlock = some g → g ≠ p) := Lib.hid fun g hg => by
          have := row_lt HY.out g hg; omega
        have HFD := Lib.hid (vfind_any (.slice al nl cl) f.num ys (by have := HL.out.2.1; omega) wa (HYA.out.rd encTbf_len))
        obtain ⟨fn, fl, fs, fo, fh⟩ := f
        unfold filC at hwa
        simp only at hwa d0 d1 d2 d3 d4 HFD
        clear HY HB
        obtain ⟨c0, c1, c2, c3, c4⟩ := cell5_of HBX.out
        rw [hp] at c0 c1 c2 c3 c4
        go_wp2_with fail
        refine HFD.out.mono ?_
        rintro e w2 ⟨i, rfl, hi, hb⟩
        have HI := Lib.hid hi
        have HB2 := Lib.hid (HBB.out.trans (hb.mono (Nat.le_trans HP.out HBA.out.size)))
        have HY2 := Lib.hid (HYA.out.below hb)
        have HX2 := Lib.hid (HBX.out.below hb)
        have HS2 : Hid (p < w2.heap.size) := Lib.hid (by rw [← hp]; exact HX2.out.lt)
        rw [hp] at HX2 HP
        clear hi hb HFD HYA HBX HBA HBB c0 c1 c2 c3 c4 d0 d1 d2 d3 d4 hwa
        by_cases hpos : 0 ≤ i
        · have HX : Hid (R = none) := Lib.hid (by
            rw [← HRK.out, vAdds, if_pos]
            obtain ⟨x, hx, e⟩ := HI.out.bd.2.2.1 hpos
            exact ⟨x, hx, e⟩)
          have HF : Hid (¬ withOk xs ts) := Lib.hid fun h => h.2.1 (HR.out.trans HX.out)
          clear HI HRK HX HFK
          go_wp2_with fail
          go_ret2
          exact ⟨_, false, rfl, ⟨fun h => (by cases h), fun h => absurd h HF.out⟩, fun h => (by cases h), HB2.out⟩
        · have HV2 : Hid (vAdds (ys ++ [⟨fn, fl, fs, fo, fh⟩]) (ts.drop (q + 1)) = R) := Lib.hid (by
            rw [← HRK.out, vAdds, if_neg]
            rintro ⟨x, hx, e⟩
            exact hpos (HI.out.bd.2.2.2 ⟨x, hx, e⟩))
          clear HI HRK
          have hso : fo.size ≤ 281474976710656 ∧ fh.size ≤ 281474976710656 := by
            obtain ⟨-, -, -, h5, h6, -⟩ := notBadTb HRF.out
            simp only at h5 h6
            omega
          have HC1 : Hid (∀ w, Calls Try.prog 59 #[.string fo] w fun e w' => e = .returned (.string fo) ∧ Below w.heap.size w w') := Lib.hid fun w => clone_any fo w hso.1
          have HC2 : Hid (∀ w, Calls Try.prog 59 #[.string fh] w fun e w' => e = .returned (.string fh) ∧ Below w.heap.size w w') := Lib.hid fun w => clone_any fh w hso.2
          clear hso
          have hS2 : BlkAt w2.drew p #[.int .i64 fn, .int .i64 fl, .int .i64 fs, .string fo, .string fh] 49 := HX2.out
          go_wp2_with fail
          refine beginK (fun W => BlkAt W p #[.int .i64 fn, .int .i64 fl, .int .i64 fs, .string fo, .string fh] 49) 9 (by kernel_rfl) hS2 (fun hHeld => ?_)
          refine takeK (i := 0) (k := 25) (v := .pointer (some ⟨p, 3, none⟩)) rfl rfl (by kernel_rfl) (by kernel_rfl) (by kernel_rfl) [0] rfl (by decide) (by kernel_rfl) (fun _ _ _ h => h) (by kernel_rfl) ?_ (by assumption) ?_
          · intro W hSw; first | (go_simp; done) | go_simp
          try simp only [Act.put, List.setIfInBounds_toArray, List.set_cons_zero, List.set_cons_succ]
          refine takeK (i := 1) (k := 26) (v := .string fo) rfl rfl (by kernel_rfl) (by kernel_rfl) (by kernel_rfl) [1] rfl (by decide) (by kernel_rfl) (fun _ _ _ h => h) (by kernel_rfl) ?_ (by assumption) ?_
          · intro W hSw; obtain ⟨d0, d1, d2, d3, d4⟩ := cell5_of hSw; first | (go_simp; done) | go_simp
          try simp only [Act.put, List.setIfInBounds_toArray, List.set_cons_zero, List.set_cons_succ]
          refine takeK (i := 3) (k := 28) (v := .pointer (some ⟨p, 4, none⟩)) rfl rfl (by kernel_rfl) (by kernel_rfl) (by kernel_rfl) [3] rfl (by decide) (by kernel_rfl) (fun _ _ _ h => h) (by kernel_rfl) ?_ (by assumption) ?_
          · intro W hSw; first | (go_simp; done) | go_simp
          try simp only [Act.put, List.setIfInBounds_toArray, List.set_cons_zero, List.set_cons_succ]
          refine takeK (i := 4) (k := 29) (v := .string fh) rfl rfl (by kernel_rfl) (by kernel_rfl) (by kernel_rfl) [4] rfl (by decide) (by kernel_rfl) (fun _ _ _ h => h) (by kernel_rfl) ?_ (by assumption) ?_
          · intro W hSw; obtain ⟨d0, d1, d2, d3, d4⟩ := cell5_of hSw; first | (go_simp; done) | go_simp
          try simp only [Act.put, List.setIfInBounds_toArray, List.set_cons_zero, List.set_cons_succ]
          refine oneK (i := 2) (by kernel_rfl) rfl (fun K hK => ?_)
          go_simp
          refine (HC1.out _).mono ?_
          rintro e w3 ⟨rfl, hb3⟩
          have HX3 : Hid (BlkAt w3 p #[.int .i64 fn, .int .i64 fl, .int .i64 fs, .string fo, .string fh] 49) := Lib.hid (BlkAt.below (w := w2.drew) (by assumption) hb3)
          have HW3 := Lib.hid hb3
          have hs3 := HX3.out
          refine hK.out _ _ (fun _ => hs3) (fun _ => ?_)
          clear hK K hb3 HC1
          try simp only [Act.put, List.setIfInBounds_toArray, List.set_cons_zero, List.set_cons_succ]
          refine takeK (i := 6) (k := 31) (v := .pointer (some ⟨p, 3, none⟩)) rfl rfl (by kernel_rfl) (by kernel_rfl) (by kernel_rfl) [6] rfl (by decide) (by kernel_rfl) (fun _ _ _ h => h) (by kernel_rfl) ?_ (by assumption) ?_
          · intro W hSw; first | (go_simp; done) | go_simp
          try simp only [Act.put, List.setIfInBounds_toArray, List.set_cons_zero, List.set_cons_succ]
          refine oneK (i := 5) (by kernel_rfl) rfl (fun K hK => ?_)
          go_simp
          refine (HC2.out _).mono ?_
          rintro e w4 ⟨rfl, hb4⟩
          have HX4 : Hid (BlkAt w4 p #[.int .i64 fn, .int .i64 fl, .int .i64 fs, .string fo, .string fh] 49) := Lib.hid (BlkAt.below (w := w3) (by assumption) hb4)
          have HW4 := Lib.hid hb4
          have hs4 := HX4.out
          refine hK.out _ _ (fun _ => hs4) (fun _ => ?_)
          clear hK K hb4 HC2
          try simp only [Act.put, List.setIfInBounds_toArray, List.set_cons_zero, List.set_cons_succ]
          obtain ⟨e0, e1, e2, e3, e4⟩ := cell5_of HX4.out
          have f3 := HX4.out.free 3
          have f4 := (blk_same (f := ⟨fn, fl, fs, fo, fh⟩) HX4.out).1.free 4
          have e4' : (w4.setCell ⟨p, 3, none⟩ (.string fo)).cell? ⟨p, 4, none⟩ = some (.string fh) := (blk_same (f := ⟨fn, fl, fs, fo, fh⟩) HX4.out).1.at 4
          refine oneK (i := 7) (by kernel_rfl) rfl (fun K hK => ?_)
          go_simp
          refine hK.out _ _ (fun _ => (blk_same (f := ⟨fn, fl, fs, fo, fh⟩) HX4.out).1) (fun _ => ?_)
          clear hK K
          try simp only [Act.put, List.setIfInBounds_toArray, List.set_cons_zero, List.set_cons_succ]
          refine oneK (i := 8) (by kernel_rfl) rfl (fun K hK => ?_)
          go_simp
          refine hK.out _ _ (fun _ => (blk_same (f := ⟨fn, fl, fs, fo, fh⟩) HX4.out).1) (fun _ => ?_)
          clear hK K
          try simp only [Act.put, List.setIfInBounds_toArray, List.set_cons_zero, List.set_cons_succ]
          refine oneK (i := 9) (by kernel_rfl) rfl (fun K hK => ?_)
          go_simp
          refine hK.out _ _ (fun h => by have h' : true = false := h; cases h') (fun _ => ?_)
          clear hK K
          try simp only [Act.put, List.setIfInBounds_toArray, List.set_cons_zero, List.set_cons_succ]
          refine doneK (by kernel_rfl) ?_ _
          have HX5 := Lib.hid (blk_same (f := ⟨fn, fl, fs, fo, fh⟩) HX4.out).2
          have HB4 : Hid (Below B w w4) := Lib.hid ((HB2.out.drew.trans (HW3.out.mono (Nat.le_trans HP.out (Nat.le_of_lt HS2.out)))).trans (HW4.out.mono (Nat.le_trans HP.out (Nat.le_of_lt HX3.out.lt))))
          have HB5 := Lib.hid (blk_same_below (x := .string fo) (y := .string fh) HB4.out (Nat.le_trans HP.out (Nat.le_of_lt HX4.out.lt)) HP.out)
          have HY4 : Hid (OwnK encTbf 5 49 B w4 (.slice al nl cl) ys) := Lib.hid ((HY2.out.below (Below.refl _ w2).drew |>.below HW3.out).below HW4.out)
          have HY5 : Hid (OwnK encTbf 5 49 B ((w4.setCell ⟨p, 3, none⟩ (.string fo)).setCell ⟨p, 4, none⟩ (.string fh)) (.slice al nl cl) ys) := Lib.hid (vOwn_apart HY4.out fun g hg => ((UpdF.refl (fun k => k = p) w4).set p 3 (.string fo) rfl).set p 4 (.string fh) rfl |>.block g (row_lt HY4.out g hg) (HYP.out g hg))
          clear hHeld hS2 hs3 hs4 e0 e1 e2 e3 e4 f3 f4 e4' HX2 HX3 HX4 HW3 HW4 HY2 HY4 HB2 HB4 HS2
          generalize ((w4.setCell ⟨p, 3, none⟩ (.string fo)).setCell ⟨p, 4, none⟩ (.string fh)) = w5 at *
          obtain ⟨c0, c1, c2, c3, c4⟩ := cell5_of HX5.out
          simp only at c0 c1 c2 c3 c4
          have hBw5 : B ≤ w5.heap.size := Nat.le_trans HP.out (Nat.le_of_lt HX5.out.lt)
          go_wp2_with (at_builtin; refine wp_appHK elem_tbf encTbf_len _ _ (by rfl) (by rfl) (by rfl) HY5.out ⟨fn, fl, fs, fo, fh⟩ _ (by rfl) (by rfl) ?c1 ?c2 ?c3 hBw5 ?_)
          case c1 => exact tbf_cells _
          case c2 => have := HL.out.2.1; omega
          case c3 => have := HL.out.2.1; unfold maxLen; omega
          intro v6 w6 o6 b6
          obtain ⟨a6, k6, rfl⟩ := fil_form o6
          have e6 : (ys ++ [(⟨fn, fl, fs, fo, fh⟩ : Tbf)]).length = nl + 1 := by rw [List.length_append]; have := HL.out.2.1; simp; omega
          rw [e6] at o6 ⊢
          have HL6 : Hid (nl + 1 = K0 + (q + 1) ∧ (ys ++ [(⟨fn, fl, fs, fo, fh⟩ : Tbf)]).length = nl + 1 ∧ ys ++ [(⟨fn, fl, fs, fo, fh⟩ : Tbf)] = xs ++ ts.take (q + 1)) := Lib.hid ⟨by have := HL.out.1; omega, e6, by rw [HL.out.2.2, List.take_add_one, HFK.out.1]; simp⟩
          have hl6 : nl + 1 ≤ 200 := by have := HL.out.1; omega
          have HO6 := Lib.hid o6
          have HB6 := Lib.hid (HB5.out.trans b6)
          clear o6 b6 e6 HY5 HB5 HX5 c0 c1 c2 c3 c4 HL HFK HRF hBw5 HP HYP
          go_wp2_with fail
          go_roundg (N - (q + 1))
          case measure => omega
          case rel => exact ⟨q + 1, _, a6, nl + 1, k6, by go_num, rfl, by omega, Nat.le_refl _, hl6, HL6, HO6, HV2, HB6⟩
      · have hd1 : ¬ (q : Int) < (N : Int) := by omega
        obtain rfl : q = N := by omega
        have HE : Hid (ys = xs ++ ts ∧ R = some ys) := Lib.hid (by
          have e1 : ts.take q = ts := List.take_of_length_le (by have := HN.out.1; omega)
          have e2 : ts.drop q = [] := List.drop_of_length_le (by have := HN.out.1; omega)
          refine ⟨by have := HL.out.2.2; rwa [e1] at this, ?_⟩
          have := HV.out
          rw [e2] at this
          exact this.symm)
        have hBr : B ≤ wr.heap.size := Nat.le_trans HB0.out HB.out.size
        have HRY : Hid (∀ f ∈ ys, ¬ badTb f) := Lib.hid fun f hf => by
          rw [HE.out.1] at hf
          rcases List.mem_append.1 hf with h | h
          · exact HRT.out.1 f h
          · exact HRT.out.2 f h
        have HSO : Hid (Calls Try.prog 60 #[.slice al nl cl, .func (.func 61) #[] #[]] wr (SortTo B wr (.slice al nl cl) ys)) := Lib.hid (vsort_any hBr HY.out (by have := HL.out.2.1; omega))
        clear HV HY
        go_wp2_with fail
        refine HSO.out.mono ?_
        rintro e w2 ⟨rfl, zs, hp, hs, ho, hb⟩
        have HZ := Lib.hid (And.intro hp hs)
        have HOZ := Lib.hid ho
        have HBZ := Lib.hid (HB.out.trans hb)
        have HAP := Lib.hid (vapart_any (.slice al nl cl) zs (by have := hp.length_eq; have := HL.out.2.1; omega) (fun f hf => (notBadTb (HRY.out f (hp.mem_iff.1 hf))).2.2.2.2.2) w2 (ho.rd encTbf_len))
        have HBs : Hid (B ≤ w2.heap.size) := Lib.hid (Nat.le_trans hBr hb.size)
        clear hp hs ho hb HSO HB
        go_wp2_with fail
        refine HAP.out.mono ?_
        rintro e w3 ⟨b, rfl, hb1, hb2⟩
        have HW : Hid (b = true ↔ withOk xs ts) := Lib.hid (by
          have h1 := adj_apart HZ.out.2 (fun f hf => (notBadTb (HRY.out f (HZ.out.1.mem_iff.1 hf))).2.2.2.2.2)
          rw [hb1, h1]
          constructor
          · intro h
            exact ⟨by have := HN.out; omega, by rw [HR.out, HE.out.2]; simp, by rw [← HE.out.1]; exact vApart_perm HZ.out.1 h⟩
          · intro h
            have := h.2.2
            rw [← HE.out.1] at this
            exact vApart_perm HZ.out.1.symm this)
        have HB3 := Lib.hid (HBZ.out.trans (hb2.mono HBs.out))
        have HO3 := Lib.hid (HOZ.out.below hb2)
        have HZ3 : Hid (vSorted zs ∧ zs.Perm (xs ++ ts)) := Lib.hid ⟨HZ.out.2, by rw [← HE.out.1]; exact HZ.out.1⟩
        clear hb1 hb2 HAP HBZ HOZ HZ HE HRY
        cases b with
        | false =>
          go_wp2_with fail
          go_ret2
          exact ⟨_, false, rfl, HW.out, fun h => (by cases h), HB3.out⟩
        | true =>
          go_wp2_with fail
          go_ret2
          exact ⟨_, true, rfl, ⟨fun _ => HW.out.1 trivial, fun _ => rfl⟩, fun _ => ⟨zs, HO3.out, HZ3.out.1, HZ3.out.2⟩, HB3.out⟩
end Go.Proofs.Ytgdmmhdihgajkaa
/- The walk of mayFollow: may these numbers come behind those? -/
namespace Go.Proofs.Ytgdmmhdihgajkaa
set_option linter.unusedVariables false
set_option maxRecDepth 100000
open Go.RowKit
/-- May a version with these tables and numbers come behind one with those numbers? -/
def vFol (xs : List Tbf) (nx lg ls nx0 lg0 ls0 : Int) : Prop := ¬ nx < nx0 ∧ ¬ lg < lg0 ∧ ¬ ls < ls0 ∧ lg < nx ∧ ¬ ∃ f ∈ xs, nx ≤ f.num
instance (xs : List Tbf) (nx lg ls nx0 lg0 ls0 : Int) : Decidable (vFol xs nx lg ls nx0 lg0 ls0) := inferInstanceAs (Decidable (_ ∧ _ ∧ _ ∧ _ ∧ _))
theorem vFol_bool {xs : List Tbf} {nx lg ls nx0 lg0 ls0 : Int} (h1 : ¬ nx < nx0) (h2 : ¬ lg < lg0) (h3 : ¬ ls < ls0) (h4 : lg < nx) : decide (vFol xs nx lg ls nx0 lg0 ls0) = !decide (∃ f ∈ xs, nx ≤ f.num) := by
  by_cases hk : ∃ f ∈ xs, nx ≤ f.num
  · rw [decide_eq_true hk, decide_eq_false (fun h : vFol xs nx lg ls nx0 lg0 ls0 => h.2.2.2.2 hk)]; rfl
  · rw [decide_eq_false hk, decide_eq_true (show vFol xs nx lg ls nx0 lg0 ls0 from ⟨h1, h2, h3, h4, hk⟩)]; rfl
set_option maxHeartbeats 8000000 in
theorem vfollow_raw {w : World} {p b : Nat} {tv tu : Value} {n0 l0 s0 n1 l1 s1 : Int} {xs : List Tbf} (hp : BlkAt w p #[tv, .int .i64 n0, .int .i64 l0, .int .i64 s0] 67) (hr : RdK encTbf 5 w tv xs) (hl : xs.length ≤ 1000000) (hb : BlkAt w b #[tu, .int .i64 n1, .int .i64 l1, .int .i64 s1] 67) :
    Calls Try.prog 52 #[.pointer (some ⟨p, 0, none⟩), .pointer (some ⟨b, 0, none⟩)] w fun e w' => e = .returned (.bool (decide (vFol xs (vOr n0 1) l0 s0 (vOr n1 1) l1 s1))) ∧ Below w.heap.size w w' := by
  have H1 := Lib.hid (vnext_raw hp)
  have HN2 : Hid (∀ W, BlkAt W b #[tu, .int .i64 n1, .int .i64 l1, .int .i64 s1] 67 → Calls Try.prog 32 #[.pointer (some ⟨b, 0, none⟩)] W fun e w' => e = .returned (.int .i64 (vOr n1 1)) ∧ Below W.heap.size W w') := Lib.hid fun W h => vnext_raw h
  obtain ⟨nx, hnx⟩ : ∃ x, vOr n0 1 = x := ⟨_, rfl⟩
  obtain ⟨ny, hny⟩ : ∃ x, vOr n1 1 = x := ⟨_, rfl⟩
  rw [hnx] at H1 ⊢
  rw [hny] at HN2 ⊢
  clear hnx hny
  have HP := Lib.hid hp
  have HQ := Lib.hid hb
  have HR := Lib.hid hr
  obtain ⟨a, cap, rfl, -⟩ := edFl_len hr
  have HL := Lib.hid hl
  obtain ⟨R, hR⟩ : ∃ R, decide (vFol xs nx l0 s0 ny l1 s1) = R := ⟨_, rfl⟩
  rw [hR]
  have HD := Lib.hid hR
  clear hp hb hr hl hR
  obtain ⟨N, hN⟩ : ∃ N, xs.length = N := ⟨_, rfl⟩
  rw [hN] at HP HR
  clear hN
  go_enter Try.func52, Try.ntmps52
  go_wp2_with fail
  refine H1.out.mono ?_
  rintro e w1 ⟨rfl, hb1⟩
  have HB1 := Lib.hid hb1
  have HP1 := Lib.hid (HP.out.below hb1)
  have HQ1 := Lib.hid (HQ.out.below hb1)
  have HR1 := Lib.hid (HR.out.below hb1)
  clear hb1 H1 HP HQ HR
  have HX := Lib.hid (BlkAt.new w1 #[.int .i64 nx] 2)
  have b2 : Below w1.heap.size w1 (w1.alloc (.cells #[.int .i64 nx] 2)) := (Below.refl _ _).alloc (Nat.le_refl _) _
  have hB := HB1.out.trans (b2.mono HB1.out.size)
  have hP := HP1.out.below b2
  have hQ := HQ1.out.below b2
  have hR := HR1.out.below b2
  have hX := HX.out
  obtain ⟨g, hg⟩ : ∃ g, w1.heap.size = g := ⟨_, rfl⟩
  rw [hg] at hX
  clear b2 HB1 HP1 HQ1 HR1 HX
  go_wp2_with fail
  clear hg
  generalize w1.alloc (.cells #[.int .i64 nx] 2) = w2 at *
  by_cases c1 : nx < ny
  · have hc1 : decide (nx < ny) = true := decide_eq_true c1
    refine wp_region_held_drew (S := Below w2.heap.size w2) (by kernel_rfl) (Below.refl _ _).drew (fun hHeld => ?_)
    generalize w2.drew = wd3 at hHeld ⊢
    refine wpAnyH_shift hHeld ?_
    replace hB : Below w.heap.size w wd3 := hB.trans (hHeld.mono hB.size)
    replace hP := hP.below hHeld
    replace hQ := hQ.below hHeld
    replace hR := hR.below hHeld
    replace hX := hX.below hHeld
    clear hHeld
    refine takeYes (i := 0) (k := 8) (v := .int .i64 nx) rfl (by kernel_rfl) (by kernel_rfl) (by kernel_rfl) (by kernel_rfl) (fun _ _ _ h => h) (by kernel_rfl) ?_ (Below.refl _ _) ?_
    · intro W hSw; have x0 := (hX.below hSw).at 0; simp only [List.getElem?_toArray, List.getElem?_cons_zero] at x0; first | (go_simp; done) | go_simp
    try simp only [Act.put, List.setIfInBounds_toArray, List.set_cons_zero, List.set_cons_succ]
    refine takeYes (i := 1) (k := 9) (v := .pointer (some ⟨b, 0, none⟩)) rfl (by kernel_rfl) (by kernel_rfl) (by kernel_rfl) (by kernel_rfl) (fun _ _ _ h => h) (by kernel_rfl) ?_ (Below.refl _ _) ?_
    · intro W hSw; first | (go_simp; done) | go_simp
    try simp only [Act.put, List.setIfInBounds_toArray, List.set_cons_zero, List.set_cons_succ]
    refine wpAnyH_ready (rs := [2]) (by kernel_rfl) (by simp) (AllReadyH.cons rfl (fun K hK => ?_) AllReadyH.nil)
    go_simp
    refine (HN2.out _ hQ).mono ?_
    rintro e wd4 ⟨rfl, hb4⟩
    refine hK.out _ _ hb4 (fun _ => wpAnyH_shift hb4 ?_)
    clear hK K
    replace hB : Below w.heap.size w wd4 := hB.trans (hb4.mono hB.size)
    replace hP := hP.below hb4
    replace hQ := hQ.below hb4
    replace hR := hR.below hb4
    replace hX := hX.below hb4
    clear hb4
    try simp only [Act.put, List.setIfInBounds_toArray, List.set_cons_zero, List.set_cons_succ]
    refine takeYes (i := 3) (k := 11) (v := .bool true) rfl (by kernel_rfl) (by kernel_rfl) (by kernel_rfl) (by kernel_rfl) (fun _ _ _ h => h) (by kernel_rfl) ?_ (Below.refl _ _) ?_
    · intro W hSw; first | (go_simp; done) | go_simp
    try simp only [Act.put, List.setIfInBounds_toArray, List.set_cons_zero, List.set_cons_succ]
    refine takeYes (i := 4) (k := 12) (v := .bool true) rfl (by kernel_rfl) (by kernel_rfl) (by kernel_rfl) (by kernel_rfl) (fun _ _ _ h => h) (by kernel_rfl) ?_ (Below.refl _ _) ?_
    · intro W hSw; first | (go_simp; done) | go_simp
    try simp only [Act.put, List.setIfInBounds_toArray, List.set_cons_zero, List.set_cons_succ]
    refine takeNot (i := 5) (k := 13) (by kernel_rfl) (by kernel_rfl) (by kernel_rfl) (by kernel_rfl) (fun _ _ _ h => h) (by kernel_rfl) (Below.refl _ _) ?_
    try simp only [Act.put, List.setIfInBounds_toArray, List.set_cons_zero, List.set_cons_succ]
    refine takeNot (i := 6) (k := 14) (by kernel_rfl) (by kernel_rfl) (by kernel_rfl) (by kernel_rfl) (fun _ _ _ h => h) (by kernel_rfl) (Below.refl _ _) ?_
    try simp only [Act.put, List.setIfInBounds_toArray, List.set_cons_zero, List.set_cons_succ]
    refine takeNot (i := 7) (k := 15) (by kernel_rfl) (by kernel_rfl) (by kernel_rfl) (by kernel_rfl) (fun _ _ _ h => h) (by kernel_rfl) (Below.refl _ _) ?_
    try simp only [Act.put, List.setIfInBounds_toArray, List.set_cons_zero, List.set_cons_succ]
    refine takeNot (i := 8) (k := 16) (by kernel_rfl) (by kernel_rfl) (by kernel_rfl) (by kernel_rfl) (fun _ _ _ h => h) (by kernel_rfl) (Below.refl _ _) ?_
    try simp only [Act.put, List.setIfInBounds_toArray, List.set_cons_zero, List.set_cons_succ]
    refine takeNot (i := 9) (k := 17) (by kernel_rfl) (by kernel_rfl) (by kernel_rfl) (by kernel_rfl) (fun _ _ _ h => h) (by kernel_rfl) (Below.refl _ _) ?_
    try simp only [Act.put, List.setIfInBounds_toArray, List.set_cons_zero, List.set_cons_succ]
    refine takeNot (i := 10) (k := 18) (by kernel_rfl) (by kernel_rfl) (by kernel_rfl) (by kernel_rfl) (fun _ _ _ h => h) (by kernel_rfl) (Below.refl _ _) ?_
    try simp only [Act.put, List.setIfInBounds_toArray, List.set_cons_zero, List.set_cons_succ]
    refine takeNot (i := 11) (k := 19) (by kernel_rfl) (by kernel_rfl) (by kernel_rfl) (by kernel_rfl) (fun _ _ _ h => h) (by kernel_rfl) (Below.refl _ _) ?_
    try simp only [Act.put, List.setIfInBounds_toArray, List.set_cons_zero, List.set_cons_succ]
    refine takeNot (i := 12) (k := 20) (by kernel_rfl) (by kernel_rfl) (by kernel_rfl) (by kernel_rfl) (fun _ _ _ h => h) (by kernel_rfl) (Below.refl _ _) ?_
    try simp only [Act.put, List.setIfInBounds_toArray, List.set_cons_zero, List.set_cons_succ]
    refine takeNot (i := 13) (k := 21) (by kernel_rfl) (by kernel_rfl) (by kernel_rfl) (by kernel_rfl) (fun _ _ _ h => h) (by kernel_rfl) (Below.refl _ _) ?_
    try simp only [Act.put, List.setIfInBounds_toArray, List.set_cons_zero, List.set_cons_succ]
    refine takeYes (i := 14) (k := 22) (v := .bool true) rfl (by kernel_rfl) (by kernel_rfl) (by kernel_rfl) (by kernel_rfl) (fun _ _ _ h => h) (by kernel_rfl) ?_ (Below.refl _ _) ?_
    · intro W hSw; first | (go_simp; done) | go_simp
    try simp only [Act.put, List.setIfInBounds_toArray, List.set_cons_zero, List.set_cons_succ]
    refine takeYes (i := 15) (k := 23) (v := .bool true) rfl (by kernel_rfl) (by kernel_rfl) (by kernel_rfl) (by kernel_rfl) (fun _ _ _ h => h) (by kernel_rfl) ?_ (Below.refl _ _) ?_
    · intro W hSw; first | (go_simp; done) | go_simp
    try simp only [Act.put, List.setIfInBounds_toArray, List.set_cons_zero, List.set_cons_succ]
    refine takeNot (i := 16) (k := 24) (by kernel_rfl) (by kernel_rfl) (by kernel_rfl) (by kernel_rfl) (fun _ _ _ h => h) (by kernel_rfl) (Below.refl _ _) ?_
    try simp only [Act.put, List.setIfInBounds_toArray, List.set_cons_zero, List.set_cons_succ]
    refine takeNot (i := 17) (k := 25) (by kernel_rfl) (by kernel_rfl) (by kernel_rfl) (by kernel_rfl) (fun _ _ _ h => h) (by kernel_rfl) (Below.refl _ _) ?_
    try simp only [Act.put, List.setIfInBounds_toArray, List.set_cons_zero, List.set_cons_succ]
    refine takeNot (i := 18) (k := 26) (by kernel_rfl) (by kernel_rfl) (by kernel_rfl) (by kernel_rfl) (fun _ _ _ h => h) (by kernel_rfl) (Below.refl _ _) ?_
    try simp only [Act.put, List.setIfInBounds_toArray, List.set_cons_zero, List.set_cons_succ]
    refine takeNot (i := 19) (k := 27) (by kernel_rfl) (by kernel_rfl) (by kernel_rfl) (by kernel_rfl) (fun _ _ _ h => h) (by kernel_rfl) (Below.refl _ _) ?_
    try simp only [Act.put, List.setIfInBounds_toArray, List.set_cons_zero, List.set_cons_succ]
    refine takeNot (i := 20) (k := 28) (by kernel_rfl) (by kernel_rfl) (by kernel_rfl) (by kernel_rfl) (fun _ _ _ h => h) (by kernel_rfl) (Below.refl _ _) ?_
    try simp only [Act.put, List.setIfInBounds_toArray, List.set_cons_zero, List.set_cons_succ]
    refine takeNot (i := 21) (k := 29) (by kernel_rfl) (by kernel_rfl) (by kernel_rfl) (by kernel_rfl) (fun _ _ _ h => h) (by kernel_rfl) (Below.refl _ _) ?_
    try simp only [Act.put, List.setIfInBounds_toArray, List.set_cons_zero, List.set_cons_succ]
    refine takeNot (i := 22) (k := 30) (by kernel_rfl) (by kernel_rfl) (by kernel_rfl) (by kernel_rfl) (fun _ _ _ h => h) (by kernel_rfl) (Below.refl _ _) ?_
    try simp only [Act.put, List.setIfInBounds_toArray, List.set_cons_zero, List.set_cons_succ]
    refine takeNot (i := 23) (k := 31) (by kernel_rfl) (by kernel_rfl) (by kernel_rfl) (by kernel_rfl) (fun _ _ _ h => h) (by kernel_rfl) (Below.refl _ _) ?_
    try simp only [Act.put, List.setIfInBounds_toArray, List.set_cons_zero, List.set_cons_succ]
    refine takeNot (i := 24) (k := 32) (by kernel_rfl) (by kernel_rfl) (by kernel_rfl) (by kernel_rfl) (fun _ _ _ h => h) (by kernel_rfl) (Below.refl _ _) ?_
    try simp only [Act.put, List.setIfInBounds_toArray, List.set_cons_zero, List.set_cons_succ]
    refine takeYes (i := 25) (k := 33) (v := .bool true) rfl (by kernel_rfl) (by kernel_rfl) (by kernel_rfl) (by kernel_rfl) (fun _ _ _ h => h) (by kernel_rfl) ?_ (Below.refl _ _) ?_
    · intro W hSw; first | (go_simp; done) | go_simp
    try simp only [Act.put, List.setIfInBounds_toArray, List.set_cons_zero, List.set_cons_succ]
    refine wpAnyH_done (by kernel_rfl) ?_ _
    obtain rfl : R = false := by rw [← HD.out]; exact decide_eq_false (fun h => h.1 c1)
    have HBE := Lib.hid hB
    clear hB hP hQ hR hX
    go_wp2_with fail
    go_ret
    exact ⟨rfl, HBE.out⟩
  by_cases c2 : l0 < l1
  · have hc1 : decide (nx < ny) = false := decide_eq_false c1
    refine wp_region_held_drew (S := Below w2.heap.size w2) (by kernel_rfl) (Below.refl _ _).drew (fun hHeld => ?_)
    generalize w2.drew = wd3 at hHeld ⊢
    refine wpAnyH_shift hHeld ?_
    replace hB : Below w.heap.size w wd3 := hB.trans (hHeld.mono hB.size)
    replace hP := hP.below hHeld
    replace hQ := hQ.below hHeld
    replace hR := hR.below hHeld
    replace hX := hX.below hHeld
    clear hHeld
    refine takeYes (i := 0) (k := 8) (v := .int .i64 nx) rfl (by kernel_rfl) (by kernel_rfl) (by kernel_rfl) (by kernel_rfl) (fun _ _ _ h => h) (by kernel_rfl) ?_ (Below.refl _ _) ?_
    · intro W hSw; have x0 := (hX.below hSw).at 0; simp only [List.getElem?_toArray, List.getElem?_cons_zero] at x0; first | (go_simp; done) | go_simp
    try simp only [Act.put, List.setIfInBounds_toArray, List.set_cons_zero, List.set_cons_succ]
    refine takeYes (i := 1) (k := 9) (v := .pointer (some ⟨b, 0, none⟩)) rfl (by kernel_rfl) (by kernel_rfl) (by kernel_rfl) (by kernel_rfl) (fun _ _ _ h => h) (by kernel_rfl) ?_ (Below.refl _ _) ?_
    · intro W hSw; first | (go_simp; done) | go_simp
    try simp only [Act.put, List.setIfInBounds_toArray, List.set_cons_zero, List.set_cons_succ]
    refine wpAnyH_ready (rs := [2]) (by kernel_rfl) (by simp) (AllReadyH.cons rfl (fun K hK => ?_) AllReadyH.nil)
    go_simp
    refine (HN2.out _ hQ).mono ?_
    rintro e wd4 ⟨rfl, hb4⟩
    refine hK.out _ _ hb4 (fun _ => wpAnyH_shift hb4 ?_)
    clear hK K
    replace hB : Below w.heap.size w wd4 := hB.trans (hb4.mono hB.size)
    replace hP := hP.below hb4
    replace hQ := hQ.below hb4
    replace hR := hR.below hb4
    replace hX := hX.below hb4
    clear hb4
    try simp only [Act.put, List.setIfInBounds_toArray, List.set_cons_zero, List.set_cons_succ]
    refine takeYes (i := 3) (k := 11) (v := .bool false) rfl (by kernel_rfl) (by kernel_rfl) (by kernel_rfl) (by kernel_rfl) (fun _ _ _ h => h) (by kernel_rfl) ?_ (Below.refl _ _) ?_
    · intro W hSw; first | (go_simp; done) | go_simp
    try simp only [Act.put, List.setIfInBounds_toArray, List.set_cons_zero, List.set_cons_succ]
    refine takeYes (i := 4) (k := 12) (v := .bool false) rfl (by kernel_rfl) (by kernel_rfl) (by kernel_rfl) (by kernel_rfl) (fun _ _ _ h => h) (by kernel_rfl) ?_ (Below.refl _ _) ?_
    · intro W hSw; first | (go_simp; done) | go_simp
    try simp only [Act.put, List.setIfInBounds_toArray, List.set_cons_zero, List.set_cons_succ]
    refine takeYes (i := 5) (k := 13) (v := .pointer (some ⟨p, 0, none⟩)) rfl (by kernel_rfl) (by kernel_rfl) (by kernel_rfl) (by kernel_rfl) (fun _ _ _ h => h) (by kernel_rfl) ?_ (Below.refl _ _) ?_
    · intro W hSw; first | (go_simp; done) | go_simp
    try simp only [Act.put, List.setIfInBounds_toArray, List.set_cons_zero, List.set_cons_succ]
    refine takeYes (i := 6) (k := 14) (v := .pointer (some ⟨p, 0, none⟩)) rfl (by kernel_rfl) (by kernel_rfl) (by kernel_rfl) (by kernel_rfl) (fun _ _ _ h => h) (by kernel_rfl) ?_ (Below.refl _ _) ?_
    · intro W hSw; first | (go_simp; done) | go_simp
    try simp only [Act.put, List.setIfInBounds_toArray, List.set_cons_zero, List.set_cons_succ]
    refine takeYes (i := 7) (k := 15) (v := .pointer (some ⟨p, 2, none⟩)) rfl (by kernel_rfl) (by kernel_rfl) (by kernel_rfl) (by kernel_rfl) (fun _ _ _ h => h) (by kernel_rfl) ?_ (Below.refl _ _) ?_
    · intro W hSw; first | (go_simp; done) | go_simp
    try simp only [Act.put, List.setIfInBounds_toArray, List.set_cons_zero, List.set_cons_succ]
    refine takeYes (i := 8) (k := 16) (v := .int .i64 l0) rfl (by kernel_rfl) (by kernel_rfl) (by kernel_rfl) (by kernel_rfl) (fun _ _ _ h => h) (by kernel_rfl) ?_ (Below.refl _ _) ?_
    · intro W hSw; obtain ⟨z0, z1, z2, z3⟩ := cell4_of (hP.below hSw); first | (go_simp; done) | go_simp
    try simp only [Act.put, List.setIfInBounds_toArray, List.set_cons_zero, List.set_cons_succ]
    refine takeYes (i := 9) (k := 17) (v := .pointer (some ⟨b, 0, none⟩)) rfl (by kernel_rfl) (by kernel_rfl) (by kernel_rfl) (by kernel_rfl) (fun _ _ _ h => h) (by kernel_rfl) ?_ (Below.refl _ _) ?_
    · intro W hSw; first | (go_simp; done) | go_simp
    try simp only [Act.put, List.setIfInBounds_toArray, List.set_cons_zero, List.set_cons_succ]
    refine takeYes (i := 10) (k := 18) (v := .pointer (some ⟨b, 0, none⟩)) rfl (by kernel_rfl) (by kernel_rfl) (by kernel_rfl) (by kernel_rfl) (fun _ _ _ h => h) (by kernel_rfl) ?_ (Below.refl _ _) ?_
    · intro W hSw; first | (go_simp; done) | go_simp
    try simp only [Act.put, List.setIfInBounds_toArray, List.set_cons_zero, List.set_cons_succ]
    refine takeYes (i := 11) (k := 19) (v := .pointer (some ⟨b, 2, none⟩)) rfl (by kernel_rfl) (by kernel_rfl) (by kernel_rfl) (by kernel_rfl) (fun _ _ _ h => h) (by kernel_rfl) ?_ (Below.refl _ _) ?_
    · intro W hSw; first | (go_simp; done) | go_simp
    try simp only [Act.put, List.setIfInBounds_toArray, List.set_cons_zero, List.set_cons_succ]
    refine takeYes (i := 12) (k := 20) (v := .int .i64 l1) rfl (by kernel_rfl) (by kernel_rfl) (by kernel_rfl) (by kernel_rfl) (fun _ _ _ h => h) (by kernel_rfl) ?_ (Below.refl _ _) ?_
    · intro W hSw; obtain ⟨y0, y1, y2, y3⟩ := cell4_of (hQ.below hSw); first | (go_simp; done) | go_simp
    try simp only [Act.put, List.setIfInBounds_toArray, List.set_cons_zero, List.set_cons_succ]
    refine takeYes (i := 13) (k := 21) (v := .bool true) rfl (by kernel_rfl) (by kernel_rfl) (by kernel_rfl) (by kernel_rfl) (fun _ _ _ h => h) (by kernel_rfl) ?_ (Below.refl _ _) ?_
    · intro W hSw; first | (go_simp; done) | go_simp
    try simp only [Act.put, List.setIfInBounds_toArray, List.set_cons_zero, List.set_cons_succ]
    refine takeYes (i := 14) (k := 22) (v := .bool true) rfl (by kernel_rfl) (by kernel_rfl) (by kernel_rfl) (by kernel_rfl) (fun _ _ _ h => h) (by kernel_rfl) ?_ (Below.refl _ _) ?_
    · intro W hSw; first | (go_simp; done) | go_simp
    try simp only [Act.put, List.setIfInBounds_toArray, List.set_cons_zero, List.set_cons_succ]
    refine takeYes (i := 15) (k := 23) (v := .bool true) rfl (by kernel_rfl) (by kernel_rfl) (by kernel_rfl) (by kernel_rfl) (fun _ _ _ h => h) (by kernel_rfl) ?_ (Below.refl _ _) ?_
    · intro W hSw; first | (go_simp; done) | go_simp
    try simp only [Act.put, List.setIfInBounds_toArray, List.set_cons_zero, List.set_cons_succ]
    refine takeNot (i := 16) (k := 24) (by kernel_rfl) (by kernel_rfl) (by kernel_rfl) (by kernel_rfl) (fun _ _ _ h => h) (by kernel_rfl) (Below.refl _ _) ?_
    try simp only [Act.put, List.setIfInBounds_toArray, List.set_cons_zero, List.set_cons_succ]
    refine takeNot (i := 17) (k := 25) (by kernel_rfl) (by kernel_rfl) (by kernel_rfl) (by kernel_rfl) (fun _ _ _ h => h) (by kernel_rfl) (Below.refl _ _) ?_
    try simp only [Act.put, List.setIfInBounds_toArray, List.set_cons_zero, List.set_cons_succ]
    refine takeNot (i := 18) (k := 26) (by kernel_rfl) (by kernel_rfl) (by kernel_rfl) (by kernel_rfl) (fun _ _ _ h => h) (by kernel_rfl) (Below.refl _ _) ?_
    try simp only [Act.put, List.setIfInBounds_toArray, List.set_cons_zero, List.set_cons_succ]
    refine takeNot (i := 19) (k := 27) (by kernel_rfl) (by kernel_rfl) (by kernel_rfl) (by kernel_rfl) (fun _ _ _ h => h) (by kernel_rfl) (Below.refl _ _) ?_
    try simp only [Act.put, List.setIfInBounds_toArray, List.set_cons_zero, List.set_cons_succ]
    refine takeNot (i := 20) (k := 28) (by kernel_rfl) (by kernel_rfl) (by kernel_rfl) (by kernel_rfl) (fun _ _ _ h => h) (by kernel_rfl) (Below.refl _ _) ?_
    try simp only [Act.put, List.setIfInBounds_toArray, List.set_cons_zero, List.set_cons_succ]
    refine takeNot (i := 21) (k := 29) (by kernel_rfl) (by kernel_rfl) (by kernel_rfl) (by kernel_rfl) (fun _ _ _ h => h) (by kernel_rfl) (Below.refl _ _) ?_
    try simp only [Act.put, List.setIfInBounds_toArray, List.set_cons_zero, List.set_cons_succ]
    refine takeNot (i := 22) (k := 30) (by kernel_rfl) (by kernel_rfl) (by kernel_rfl) (by kernel_rfl) (fun _ _ _ h => h) (by kernel_rfl) (Below.refl _ _) ?_
    try simp only [Act.put, List.setIfInBounds_toArray, List.set_cons_zero, List.set_cons_succ]
    refine takeNot (i := 23) (k := 31) (by kernel_rfl) (by kernel_rfl) (by kernel_rfl) (by kernel_rfl) (fun _ _ _ h => h) (by kernel_rfl) (Below.refl _ _) ?_
    try simp only [Act.put, List.setIfInBounds_toArray, List.set_cons_zero, List.set_cons_succ]
    refine takeNot (i := 24) (k := 32) (by kernel_rfl) (by kernel_rfl) (by kernel_rfl) (by kernel_rfl) (fun _ _ _ h => h) (by kernel_rfl) (Below.refl _ _) ?_
    try simp only [Act.put, List.setIfInBounds_toArray, List.set_cons_zero, List.set_cons_succ]
    refine takeYes (i := 25) (k := 33) (v := .bool true) rfl (by kernel_rfl) (by kernel_rfl) (by kernel_rfl) (by kernel_rfl) (fun _ _ _ h => h) (by kernel_rfl) ?_ (Below.refl _ _) ?_
    · intro W hSw; first | (go_simp; done) | go_simp
    try simp only [Act.put, List.setIfInBounds_toArray, List.set_cons_zero, List.set_cons_succ]
    refine wpAnyH_done (by kernel_rfl) ?_ _
    obtain rfl : R = false := by rw [← HD.out]; exact decide_eq_false (fun h => h.2.1 c2)
    have HBE := Lib.hid hB
    clear hB hP hQ hR hX
    go_wp2_with fail
    go_ret
    exact ⟨rfl, HBE.out⟩
  by_cases c3 : s0 < s1
  · have hc1 : decide (nx < ny) = false := decide_eq_false c1
    refine wp_region_held_drew (S := Below w2.heap.size w2) (by kernel_rfl) (Below.refl _ _).drew (fun hHeld => ?_)
    generalize w2.drew = wd3 at hHeld ⊢
    refine wpAnyH_shift hHeld ?_
    replace hB : Below w.heap.size w wd3 := hB.trans (hHeld.mono hB.size)
    replace hP := hP.below hHeld
    replace hQ := hQ.below hHeld
    replace hR := hR.below hHeld
    replace hX := hX.below hHeld
    clear hHeld
    refine takeYes (i := 0) (k := 8) (v := .int .i64 nx) rfl (by kernel_rfl) (by kernel_rfl) (by kernel_rfl) (by kernel_rfl) (fun _ _ _ h => h) (by kernel_rfl) ?_ (Below.refl _ _) ?_
    · intro W hSw; have x0 := (hX.below hSw).at 0; simp only [List.getElem?_toArray, List.getElem?_cons_zero] at x0; first | (go_simp; done) | go_simp
    try simp only [Act.put, List.setIfInBounds_toArray, List.set_cons_zero, List.set_cons_succ]
    refine takeYes (i := 1) (k := 9) (v := .pointer (some ⟨b, 0, none⟩)) rfl (by kernel_rfl) (by kernel_rfl) (by kernel_rfl) (by kernel_rfl) (fun _ _ _ h => h) (by kernel_rfl) ?_ (Below.refl _ _) ?_
    · intro W hSw; first | (go_simp; done) | go_simp
    try simp only [Act.put, List.setIfInBounds_toArray, List.set_cons_zero, List.set_cons_succ]
    refine wpAnyH_ready (rs := [2]) (by kernel_rfl) (by simp) (AllReadyH.cons rfl (fun K hK => ?_) AllReadyH.nil)
    go_simp
    refine (HN2.out _ hQ).mono ?_
    rintro e wd4 ⟨rfl, hb4⟩
    refine hK.out _ _ hb4 (fun _ => wpAnyH_shift hb4 ?_)
    clear hK K
    replace hB : Below w.heap.size w wd4 := hB.trans (hb4.mono hB.size)
    replace hP := hP.below hb4
    replace hQ := hQ.below hb4
    replace hR := hR.below hb4
    replace hX := hX.below hb4
    clear hb4
    try simp only [Act.put, List.setIfInBounds_toArray, List.set_cons_zero, List.set_cons_succ]
    refine takeYes (i := 3) (k := 11) (v := .bool false) rfl (by kernel_rfl) (by kernel_rfl) (by kernel_rfl) (by kernel_rfl) (fun _ _ _ h => h) (by kernel_rfl) ?_ (Below.refl _ _) ?_
    · intro W hSw; first | (go_simp; done) | go_simp
    try simp only [Act.put, List.setIfInBounds_toArray, List.set_cons_zero, List.set_cons_succ]
    refine takeYes (i := 4) (k := 12) (v := .bool false) rfl (by kernel_rfl) (by kernel_rfl) (by kernel_rfl) (by kernel_rfl) (fun _ _ _ h => h) (by kernel_rfl) ?_ (Below.refl _ _) ?_
    · intro W hSw; first | (go_simp; done) | go_simp
    try simp only [Act.put, List.setIfInBounds_toArray, List.set_cons_zero, List.set_cons_succ]
    refine takeYes (i := 5) (k := 13) (v := .pointer (some ⟨p, 0, none⟩)) rfl (by kernel_rfl) (by kernel_rfl) (by kernel_rfl) (by kernel_rfl) (fun _ _ _ h => h) (by kernel_rfl) ?_ (Below.refl _ _) ?_
    · intro W hSw; first | (go_simp; done) | go_simp
    try simp only [Act.put, List.setIfInBounds_toArray, List.set_cons_zero, List.set_cons_succ]
    refine takeYes (i := 6) (k := 14) (v := .pointer (some ⟨p, 0, none⟩)) rfl (by kernel_rfl) (by kernel_rfl) (by kernel_rfl) (by kernel_rfl) (fun _ _ _ h => h) (by kernel_rfl) ?_ (Below.refl _ _) ?_
    · intro W hSw; first | (go_simp; done) | go_simp
    try simp only [Act.put, List.setIfInBounds_toArray, List.set_cons_zero, List.set_cons_succ]
    refine takeYes (i := 7) (k := 15) (v := .pointer (some ⟨p, 2, none⟩)) rfl (by kernel_rfl) (by kernel_rfl) (by kernel_rfl) (by kernel_rfl) (fun _ _ _ h => h) (by kernel_rfl) ?_ (Below.refl _ _) ?_
    · intro W hSw; first | (go_simp; done) | go_simp
    try simp only [Act.put, List.setIfInBounds_toArray, List.set_cons_zero, List.set_cons_succ]
    refine takeYes (i := 8) (k := 16) (v := .int .i64 l0) rfl (by kernel_rfl) (by kernel_rfl) (by kernel_rfl) (by kernel_rfl) (fun _ _ _ h => h) (by kernel_rfl) ?_ (Below.refl _ _) ?_
    · intro W hSw; obtain ⟨z0, z1, z2, z3⟩ := cell4_of (hP.below hSw); first | (go_simp; done) | go_simp
    try simp only [Act.put, List.setIfInBounds_toArray, List.set_cons_zero, List.set_cons_succ]
    refine takeYes (i := 9) (k := 17) (v := .pointer (some ⟨b, 0, none⟩)) rfl (by kernel_rfl) (by kernel_rfl) (by kernel_rfl) (by kernel_rfl) (fun _ _ _ h => h) (by kernel_rfl) ?_ (Below.refl _ _) ?_
    · intro W hSw; first | (go_simp; done) | go_simp
    try simp only [Act.put, List.setIfInBounds_toArray, List.set_cons_zero, List.set_cons_succ]
    refine takeYes (i := 10) (k := 18) (v := .pointer (some ⟨b, 0, none⟩)) rfl (by kernel_rfl) (by kernel_rfl) (by kernel_rfl) (by kernel_rfl) (fun _ _ _ h => h) (by kernel_rfl) ?_ (Below.refl _ _) ?_
    · intro W hSw; first | (go_simp; done) | go_simp
    try simp only [Act.put, List.setIfInBounds_toArray, List.set_cons_zero, List.set_cons_succ]
    refine takeYes (i := 11) (k := 19) (v := .pointer (some ⟨b, 2, none⟩)) rfl (by kernel_rfl) (by kernel_rfl) (by kernel_rfl) (by kernel_rfl) (fun _ _ _ h => h) (by kernel_rfl) ?_ (Below.refl _ _) ?_
    · intro W hSw; first | (go_simp; done) | go_simp
    try simp only [Act.put, List.setIfInBounds_toArray, List.set_cons_zero, List.set_cons_succ]
    refine takeYes (i := 12) (k := 20) (v := .int .i64 l1) rfl (by kernel_rfl) (by kernel_rfl) (by kernel_rfl) (by kernel_rfl) (fun _ _ _ h => h) (by kernel_rfl) ?_ (Below.refl _ _) ?_
    · intro W hSw; obtain ⟨y0, y1, y2, y3⟩ := cell4_of (hQ.below hSw); first | (go_simp; done) | go_simp
    try simp only [Act.put, List.setIfInBounds_toArray, List.set_cons_zero, List.set_cons_succ]
    refine takeYes (i := 13) (k := 21) (v := .bool false) rfl (by kernel_rfl) (by kernel_rfl) (by kernel_rfl) (by kernel_rfl) (fun _ _ _ h => h) (by kernel_rfl) ?_ (Below.refl _ _) ?_
    · intro W hSw; first | (go_simp; done) | go_simp
    try simp only [Act.put, List.setIfInBounds_toArray, List.set_cons_zero, List.set_cons_succ]
    refine takeYes (i := 14) (k := 22) (v := .bool false) rfl (by kernel_rfl) (by kernel_rfl) (by kernel_rfl) (by kernel_rfl) (fun _ _ _ h => h) (by kernel_rfl) ?_ (Below.refl _ _) ?_
    · intro W hSw; first | (go_simp; done) | go_simp
    try simp only [Act.put, List.setIfInBounds_toArray, List.set_cons_zero, List.set_cons_succ]
    refine takeYes (i := 15) (k := 23) (v := .bool false) rfl (by kernel_rfl) (by kernel_rfl) (by kernel_rfl) (by kernel_rfl) (fun _ _ _ h => h) (by kernel_rfl) ?_ (Below.refl _ _) ?_
    · intro W hSw; first | (go_simp; done) | go_simp
    try simp only [Act.put, List.setIfInBounds_toArray, List.set_cons_zero, List.set_cons_succ]
    refine takeYes (i := 16) (k := 24) (v := .pointer (some ⟨p, 0, none⟩)) rfl (by kernel_rfl) (by kernel_rfl) (by kernel_rfl) (by kernel_rfl) (fun _ _ _ h => h) (by kernel_rfl) ?_ (Below.refl _ _) ?_
    · intro W hSw; first | (go_simp; done) | go_simp
    try simp only [Act.put, List.setIfInBounds_toArray, List.set_cons_zero, List.set_cons_succ]
    refine takeYes (i := 17) (k := 25) (v := .pointer (some ⟨p, 0, none⟩)) rfl (by kernel_rfl) (by kernel_rfl) (by kernel_rfl) (by kernel_rfl) (fun _ _ _ h => h) (by kernel_rfl) ?_ (Below.refl _ _) ?_
    · intro W hSw; first | (go_simp; done) | go_simp
    try simp only [Act.put, List.setIfInBounds_toArray, List.set_cons_zero, List.set_cons_succ]
    refine takeYes (i := 18) (k := 26) (v := .pointer (some ⟨p, 3, none⟩)) rfl (by kernel_rfl) (by kernel_rfl) (by kernel_rfl) (by kernel_rfl) (fun _ _ _ h => h) (by kernel_rfl) ?_ (Below.refl _ _) ?_
    · intro W hSw; first | (go_simp; done) | go_simp
    try simp only [Act.put, List.setIfInBounds_toArray, List.set_cons_zero, List.set_cons_succ]
    refine takeYes (i := 19) (k := 27) (v := .int .i64 s0) rfl (by kernel_rfl) (by kernel_rfl) (by kernel_rfl) (by kernel_rfl) (fun _ _ _ h => h) (by kernel_rfl) ?_ (Below.refl _ _) ?_
    · intro W hSw; obtain ⟨z0, z1, z2, z3⟩ := cell4_of (hP.below hSw); first | (go_simp; done) | go_simp
    try simp only [Act.put, List.setIfInBounds_toArray, List.set_cons_zero, List.set_cons_succ]
    refine takeYes (i := 20) (k := 28) (v := .pointer (some ⟨b, 0, none⟩)) rfl (by kernel_rfl) (by kernel_rfl) (by kernel_rfl) (by kernel_rfl) (fun _ _ _ h => h) (by kernel_rfl) ?_ (Below.refl _ _) ?_
    · intro W hSw; first | (go_simp; done) | go_simp
    try simp only [Act.put, List.setIfInBounds_toArray, List.set_cons_zero, List.set_cons_succ]
    refine takeYes (i := 21) (k := 29) (v := .pointer (some ⟨b, 0, none⟩)) rfl (by kernel_rfl) (by kernel_rfl) (by kernel_rfl) (by kernel_rfl) (fun _ _ _ h => h) (by kernel_rfl) ?_ (Below.refl _ _) ?_
    · intro W hSw; first | (go_simp; done) | go_simp
    try simp only [Act.put, List.setIfInBounds_toArray, List.set_cons_zero, List.set_cons_succ]
    refine takeYes (i := 22) (k := 30) (v := .pointer (some ⟨b, 3, none⟩)) rfl (by kernel_rfl) (by kernel_rfl) (by kernel_rfl) (by kernel_rfl) (fun _ _ _ h => h) (by kernel_rfl) ?_ (Below.refl _ _) ?_
    · intro W hSw; first | (go_simp; done) | go_simp
    try simp only [Act.put, List.setIfInBounds_toArray, List.set_cons_zero, List.set_cons_succ]
    refine takeYes (i := 23) (k := 31) (v := .int .i64 s1) rfl (by kernel_rfl) (by kernel_rfl) (by kernel_rfl) (by kernel_rfl) (fun _ _ _ h => h) (by kernel_rfl) ?_ (Below.refl _ _) ?_
    · intro W hSw; obtain ⟨y0, y1, y2, y3⟩ := cell4_of (hQ.below hSw); first | (go_simp; done) | go_simp
    try simp only [Act.put, List.setIfInBounds_toArray, List.set_cons_zero, List.set_cons_succ]
    refine takeYes (i := 24) (k := 32) (v := .bool true) rfl (by kernel_rfl) (by kernel_rfl) (by kernel_rfl) (by kernel_rfl) (fun _ _ _ h => h) (by kernel_rfl) ?_ (Below.refl _ _) ?_
    · intro W hSw; first | (go_simp; done) | go_simp
    try simp only [Act.put, List.setIfInBounds_toArray, List.set_cons_zero, List.set_cons_succ]
    refine takeYes (i := 25) (k := 33) (v := .bool true) rfl (by kernel_rfl) (by kernel_rfl) (by kernel_rfl) (by kernel_rfl) (fun _ _ _ h => h) (by kernel_rfl) ?_ (Below.refl _ _) ?_
    · intro W hSw; first | (go_simp; done) | go_simp
    try simp only [Act.put, List.setIfInBounds_toArray, List.set_cons_zero, List.set_cons_succ]
    refine wpAnyH_done (by kernel_rfl) ?_ _
    obtain rfl : R = false := by rw [← HD.out]; exact decide_eq_false (fun h => h.2.2.1 c3)
    have HBE := Lib.hid hB
    clear hB hP hQ hR hX
    go_wp2_with fail
    go_ret
    exact ⟨rfl, HBE.out⟩
  refine wp_region_held_drew (S := Below w2.heap.size w2) (by kernel_rfl) (Below.refl _ _).drew (fun hHeld => ?_)
  generalize w2.drew = wd3 at hHeld ⊢
  refine wpAnyH_shift hHeld ?_
  replace hB : Below w.heap.size w wd3 := hB.trans (hHeld.mono hB.size)
  replace hP := hP.below hHeld
  replace hQ := hQ.below hHeld
  replace hR := hR.below hHeld
  replace hX := hX.below hHeld
  clear hHeld
  refine takeYes (i := 0) (k := 8) (v := .int .i64 nx) rfl (by kernel_rfl) (by kernel_rfl) (by kernel_rfl) (by kernel_rfl) (fun _ _ _ h => h) (by kernel_rfl) ?_ (Below.refl _ _) ?_
  · intro W hSw; have x0 := (hX.below hSw).at 0; simp only [List.getElem?_toArray, List.getElem?_cons_zero] at x0; first | (go_simp; done) | go_simp
  try simp only [Act.put, List.setIfInBounds_toArray, List.set_cons_zero, List.set_cons_succ]
  refine takeYes (i := 1) (k := 9) (v := .pointer (some ⟨b, 0, none⟩)) rfl (by kernel_rfl) (by kernel_rfl) (by kernel_rfl) (by kernel_rfl) (fun _ _ _ h => h) (by kernel_rfl) ?_ (Below.refl _ _) ?_
  · intro W hSw; first | (go_simp; done) | go_simp
  try simp only [Act.put, List.setIfInBounds_toArray, List.set_cons_zero, List.set_cons_succ]
  refine wpAnyH_ready (rs := [2]) (by kernel_rfl) (by simp) (AllReadyH.cons rfl (fun K hK => ?_) AllReadyH.nil)
  go_simp
  refine (HN2.out _ hQ).mono ?_
  rintro e wd4 ⟨rfl, hb4⟩
  refine hK.out _ _ hb4 (fun _ => wpAnyH_shift hb4 ?_)
  clear hK K
  replace hB : Below w.heap.size w wd4 := hB.trans (hb4.mono hB.size)
  replace hP := hP.below hb4
  replace hQ := hQ.below hb4
  replace hR := hR.below hb4
  replace hX := hX.below hb4
  clear hb4
  try simp only [Act.put, List.setIfInBounds_toArray, List.set_cons_zero, List.set_cons_succ]
  refine takeYes (i := 3) (k := 11) (v := .bool false) rfl (by kernel_rfl) (by kernel_rfl) (by kernel_rfl) (by kernel_rfl) (fun _ _ _ h => h) (by kernel_rfl) ?_ (Below.refl _ _) ?_
  · intro W hSw; first | (go_simp; done) | go_simp
  try simp only [Act.put, List.setIfInBounds_toArray, List.set_cons_zero, List.set_cons_succ]
  refine takeYes (i := 4) (k := 12) (v := .bool false) rfl (by kernel_rfl) (by kernel_rfl) (by kernel_rfl) (by kernel_rfl) (fun _ _ _ h => h) (by kernel_rfl) ?_ (Below.refl _ _) ?_
  · intro W hSw; first | (go_simp; done) | go_simp
  try simp only [Act.put, List.setIfInBounds_toArray, List.set_cons_zero, List.set_cons_succ]
  refine takeYes (i := 5) (k := 13) (v := .pointer (some ⟨p, 0, none⟩)) rfl (by kernel_rfl) (by kernel_rfl) (by kernel_rfl) (by kernel_rfl) (fun _ _ _ h => h) (by kernel_rfl) ?_ (Below.refl _ _) ?_
  · intro W hSw; first | (go_simp; done) | go_simp
  try simp only [Act.put, List.setIfInBounds_toArray, List.set_cons_zero, List.set_cons_succ]
  refine takeYes (i := 6) (k := 14) (v := .pointer (some ⟨p, 0, none⟩)) rfl (by kernel_rfl) (by kernel_rfl) (by kernel_rfl) (by kernel_rfl) (fun _ _ _ h => h) (by kernel_rfl) ?_ (Below.refl _ _) ?_
  · intro W hSw; first | (go_simp; done) | go_simp
  try simp only [Act.put, List.setIfInBounds_toArray, List.set_cons_zero, List.set_cons_succ]
  refine takeYes (i := 7) (k := 15) (v := .pointer (some ⟨p, 2, none⟩)) rfl (by kernel_rfl) (by kernel_rfl) (by kernel_rfl) (by kernel_rfl) (fun _ _ _ h => h) (by kernel_rfl) ?_ (Below.refl _ _) ?_
  · intro W hSw; first | (go_simp; done) | go_simp
  try simp only [Act.put, List.setIfInBounds_toArray, List.set_cons_zero, List.set_cons_succ]
  refine takeYes (i := 8) (k := 16) (v := .int .i64 l0) rfl (by kernel_rfl) (by kernel_rfl) (by kernel_rfl) (by kernel_rfl) (fun _ _ _ h => h) (by kernel_rfl) ?_ (Below.refl _ _) ?_
  · intro W hSw; obtain ⟨z0, z1, z2, z3⟩ := cell4_of (hP.below hSw); first | (go_simp; done) | go_simp
  try simp only [Act.put, List.setIfInBounds_toArray, List.set_cons_zero, List.set_cons_succ]
  refine takeYes (i := 9) (k := 17) (v := .pointer (some ⟨b, 0, none⟩)) rfl (by kernel_rfl) (by kernel_rfl) (by kernel_rfl) (by kernel_rfl) (fun _ _ _ h => h) (by kernel_rfl) ?_ (Below.refl _ _) ?_
  · intro W hSw; first | (go_simp; done) | go_simp
  try simp only [Act.put, List.setIfInBounds_toArray, List.set_cons_zero, List.set_cons_succ]
  refine takeYes (i := 10) (k := 18) (v := .pointer (some ⟨b, 0, none⟩)) rfl (by kernel_rfl) (by kernel_rfl) (by kernel_rfl) (by kernel_rfl) (fun _ _ _ h => h) (by kernel_rfl) ?_ (Below.refl _ _) ?_
  · intro W hSw; first | (go_simp; done) | go_simp
  try simp only [Act.put, List.setIfInBounds_toArray, List.set_cons_zero, List.set_cons_succ]
  refine takeYes (i := 11) (k := 19) (v := .pointer (some ⟨b, 2, none⟩)) rfl (by kernel_rfl) (by kernel_rfl) (by kernel_rfl) (by kernel_rfl) (fun _ _ _ h => h) (by kernel_rfl) ?_ (Below.refl _ _) ?_
  · intro W hSw; first | (go_simp; done) | go_simp
  try simp only [Act.put, List.setIfInBounds_toArray, List.set_cons_zero, List.set_cons_succ]
  refine takeYes (i := 12) (k := 20) (v := .int .i64 l1) rfl (by kernel_rfl) (by kernel_rfl) (by kernel_rfl) (by kernel_rfl) (fun _ _ _ h => h) (by kernel_rfl) ?_ (Below.refl _ _) ?_
  · intro W hSw; obtain ⟨y0, y1, y2, y3⟩ := cell4_of (hQ.below hSw); first | (go_simp; done) | go_simp
  try simp only [Act.put, List.setIfInBounds_toArray, List.set_cons_zero, List.set_cons_succ]
  refine takeYes (i := 13) (k := 21) (v := .bool false) rfl (by kernel_rfl) (by kernel_rfl) (by kernel_rfl) (by kernel_rfl) (fun _ _ _ h => h) (by kernel_rfl) ?_ (Below.refl _ _) ?_
  · intro W hSw; first | (go_simp; done) | go_simp
  try simp only [Act.put, List.setIfInBounds_toArray, List.set_cons_zero, List.set_cons_succ]
  refine takeYes (i := 14) (k := 22) (v := .bool false) rfl (by kernel_rfl) (by kernel_rfl) (by kernel_rfl) (by kernel_rfl) (fun _ _ _ h => h) (by kernel_rfl) ?_ (Below.refl _ _) ?_
  · intro W hSw; first | (go_simp; done) | go_simp
  try simp only [Act.put, List.setIfInBounds_toArray, List.set_cons_zero, List.set_cons_succ]
  refine takeYes (i := 15) (k := 23) (v := .bool false) rfl (by kernel_rfl) (by kernel_rfl) (by kernel_rfl) (by kernel_rfl) (fun _ _ _ h => h) (by kernel_rfl) ?_ (Below.refl _ _) ?_
  · intro W hSw; first | (go_simp; done) | go_simp
  try simp only [Act.put, List.setIfInBounds_toArray, List.set_cons_zero, List.set_cons_succ]
  refine takeYes (i := 16) (k := 24) (v := .pointer (some ⟨p, 0, none⟩)) rfl (by kernel_rfl) (by kernel_rfl) (by kernel_rfl) (by kernel_rfl) (fun _ _ _ h => h) (by kernel_rfl) ?_ (Below.refl _ _) ?_
  · intro W hSw; first | (go_simp; done) | go_simp
  try simp only [Act.put, List.setIfInBounds_toArray, List.set_cons_zero, List.set_cons_succ]
  refine takeYes (i := 17) (k := 25) (v := .pointer (some ⟨p, 0, none⟩)) rfl (by kernel_rfl) (by kernel_rfl) (by kernel_rfl) (by kernel_rfl) (fun _ _ _ h => h) (by kernel_rfl) ?_ (Below.refl _ _) ?_
  · intro W hSw; first | (go_simp; done) | go_simp
  try simp only [Act.put, List.setIfInBounds_toArray, List.set_cons_zero, List.set_cons_succ]
  refine takeYes (i := 18) (k := 26) (v := .pointer (some ⟨p, 3, none⟩)) rfl (by kernel_rfl) (by kernel_rfl) (by kernel_rfl) (by kernel_rfl) (fun _ _ _ h => h) (by kernel_rfl) ?_ (Below.refl _ _) ?_
  · intro W hSw; first | (go_simp; done) | go_simp
  try simp only [Act.put, List.setIfInBounds_toArray, List.set_cons_zero, List.set_cons_succ]
  refine takeYes (i := 19) (k := 27) (v := .int .i64 s0) rfl (by kernel_rfl) (by kernel_rfl) (by kernel_rfl) (by kernel_rfl) (fun _ _ _ h => h) (by kernel_rfl) ?_ (Below.refl _ _) ?_
  · intro W hSw; obtain ⟨z0, z1, z2, z3⟩ := cell4_of (hP.below hSw); first | (go_simp; done) | go_simp
  try simp only [Act.put, List.setIfInBounds_toArray, List.set_cons_zero, List.set_cons_succ]
  refine takeYes (i := 20) (k := 28) (v := .pointer (some ⟨b, 0, none⟩)) rfl (by kernel_rfl) (by kernel_rfl) (by kernel_rfl) (by kernel_rfl) (fun _ _ _ h => h) (by kernel_rfl) ?_ (Below.refl _ _) ?_
  · intro W hSw; first | (go_simp; done) | go_simp
  try simp only [Act.put, List.setIfInBounds_toArray, List.set_cons_zero, List.set_cons_succ]
  refine takeYes (i := 21) (k := 29) (v := .pointer (some ⟨b, 0, none⟩)) rfl (by kernel_rfl) (by kernel_rfl) (by kernel_rfl) (by kernel_rfl) (fun _ _ _ h => h) (by kernel_rfl) ?_ (Below.refl _ _) ?_
  · intro W hSw; first | (go_simp; done) | go_simp
  try simp only [Act.put, List.setIfInBounds_toArray, List.set_cons_zero, List.set_cons_succ]
  refine takeYes (i := 22) (k := 30) (v := .pointer (some ⟨b, 3, none⟩)) rfl (by kernel_rfl) (by kernel_rfl) (by kernel_rfl) (by kernel_rfl) (fun _ _ _ h => h) (by kernel_rfl) ?_ (Below.refl _ _) ?_
  · intro W hSw; first | (go_simp; done) | go_simp
  try simp only [Act.put, List.setIfInBounds_toArray, List.set_cons_zero, List.set_cons_succ]
  refine takeYes (i := 23) (k := 31) (v := .int .i64 s1) rfl (by kernel_rfl) (by kernel_rfl) (by kernel_rfl) (by kernel_rfl) (fun _ _ _ h => h) (by kernel_rfl) ?_ (Below.refl _ _) ?_
  · intro W hSw; obtain ⟨y0, y1, y2, y3⟩ := cell4_of (hQ.below hSw); first | (go_simp; done) | go_simp
  try simp only [Act.put, List.setIfInBounds_toArray, List.set_cons_zero, List.set_cons_succ]
  refine takeYes (i := 24) (k := 32) (v := .bool false) rfl (by kernel_rfl) (by kernel_rfl) (by kernel_rfl) (by kernel_rfl) (fun _ _ _ h => h) (by kernel_rfl) ?_ (Below.refl _ _) ?_
  · intro W hSw; first | (go_simp; done) | go_simp
  try simp only [Act.put, List.setIfInBounds_toArray, List.set_cons_zero, List.set_cons_succ]
  refine takeYes (i := 25) (k := 33) (v := .bool false) rfl (by kernel_rfl) (by kernel_rfl) (by kernel_rfl) (by kernel_rfl) (fun _ _ _ h => h) (by kernel_rfl) ?_ (Below.refl _ _) ?_
  · intro W hSw; first | (go_simp; done) | go_simp
  try simp only [Act.put, List.setIfInBounds_toArray, List.set_cons_zero, List.set_cons_succ]
  refine wpAnyH_done (by kernel_rfl) ?_ _
  have HC0 := Lib.hid (And.intro c1 (And.intro c2 c3))
  go_wp2_with fail
  by_cases c4 : l0 < nx
  · obtain ⟨K0, hK0⟩ : ∃ K0, decide (∃ f ∈ xs, nx ≤ f.num) = K0 := ⟨_, rfl⟩
    have HCF : Hid (∀ W, BlkAt W g #[.int .i64 nx] 2 → RdK encTbf 5 W (.slice a N cap) xs → Calls Try.prog 45 #[.slice a N cap, .func (.func 63) #[] #[.pointer (some ⟨g, 0, none⟩)]] W fun e w' => e = .returned (.bool K0) ∧ Below W.heap.size W w') := Lib.hid fun W hX hR => by
      rw [← hK0]
      exact conP_any (fun f => nx ≤ f.num) 63 (.pointer (some ⟨g, 0, none⟩)) _ xs (by have := HL.out; omega) W hR (enters_of Try.func63 (by kernel_rfl) rfl) (fun f W2 hW => mayF_any g nx f W2 ((hX.below hW).at 0) (hX.below hW).lt)
    have HK := Lib.hid hK0
    clear hK0
    refine wp_region_held_drew (S := Below wd4.heap.size wd4) (by kernel_rfl) (Below.refl _ _).drew (fun hHeld => ?_)
    generalize wd4.drew = wd5 at hHeld ⊢
    refine wpAnyH_shift hHeld ?_
    replace hB : Below w.heap.size w wd5 := hB.trans (hHeld.mono hB.size)
    replace hP := hP.below hHeld
    replace hQ := hQ.below hHeld
    replace hR := hR.below hHeld
    replace hX := hX.below hHeld
    clear hHeld
    refine takeYes (i := 0) (k := 34) (v := .pointer (some ⟨p, 0, none⟩)) rfl (by kernel_rfl) (by kernel_rfl) (by kernel_rfl) (by kernel_rfl) (fun _ _ _ h => h) (by kernel_rfl) ?_ (Below.refl _ _) ?_
    · intro W hSw; first | (go_simp; done) | go_simp
    try simp only [Act.put, List.setIfInBounds_toArray, List.set_cons_zero, List.set_cons_succ]
    refine takeYes (i := 1) (k := 35) (v := .pointer (some ⟨p, 0, none⟩)) rfl (by kernel_rfl) (by kernel_rfl) (by kernel_rfl) (by kernel_rfl) (fun _ _ _ h => h) (by kernel_rfl) ?_ (Below.refl _ _) ?_
    · intro W hSw; first | (go_simp; done) | go_simp
    try simp only [Act.put, List.setIfInBounds_toArray, List.set_cons_zero, List.set_cons_succ]
    refine takeYes (i := 2) (k := 36) (v := .pointer (some ⟨p, 2, none⟩)) rfl (by kernel_rfl) (by kernel_rfl) (by kernel_rfl) (by kernel_rfl) (fun _ _ _ h => h) (by kernel_rfl) ?_ (Below.refl _ _) ?_
    · intro W hSw; first | (go_simp; done) | go_simp
    try simp only [Act.put, List.setIfInBounds_toArray, List.set_cons_zero, List.set_cons_succ]
    refine takeYes (i := 3) (k := 37) (v := .int .i64 l0) rfl (by kernel_rfl) (by kernel_rfl) (by kernel_rfl) (by kernel_rfl) (fun _ _ _ h => h) (by kernel_rfl) ?_ (Below.refl _ _) ?_
    · intro W hSw; obtain ⟨z0, z1, z2, z3⟩ := cell4_of (hP.below hSw); first | (go_simp; done) | go_simp
    try simp only [Act.put, List.setIfInBounds_toArray, List.set_cons_zero, List.set_cons_succ]
    refine takeYes (i := 4) (k := 38) (v := .int .i64 nx) rfl (by kernel_rfl) (by kernel_rfl) (by kernel_rfl) (by kernel_rfl) (fun _ _ _ h => h) (by kernel_rfl) ?_ (Below.refl _ _) ?_
    · intro W hSw; have x0 := (hX.below hSw).at 0; simp only [List.getElem?_toArray, List.getElem?_cons_zero] at x0; first | (go_simp; done) | go_simp
    try simp only [Act.put, List.setIfInBounds_toArray, List.set_cons_zero, List.set_cons_succ]
    refine takeYes (i := 5) (k := 39) (v := .bool true) rfl (by kernel_rfl) (by kernel_rfl) (by kernel_rfl) (by kernel_rfl) (fun _ _ _ h => h) (by kernel_rfl) ?_ (Below.refl _ _) ?_
    · intro W hSw; first | (go_simp; done) | go_simp
    try simp only [Act.put, List.setIfInBounds_toArray, List.set_cons_zero, List.set_cons_succ]
    refine takeYes (i := 6) (k := 40) (v := .bool true) rfl (by kernel_rfl) (by kernel_rfl) (by kernel_rfl) (by kernel_rfl) (fun _ _ _ h => h) (by kernel_rfl) ?_ (Below.refl _ _) ?_
    · intro W hSw; first | (go_simp; done) | go_simp
    try simp only [Act.put, List.setIfInBounds_toArray, List.set_cons_zero, List.set_cons_succ]
    refine takeYes (i := 7) (k := 41) (v := .pointer (some ⟨p, 0, none⟩)) rfl (by kernel_rfl) (by kernel_rfl) (by kernel_rfl) (by kernel_rfl) (fun _ _ _ h => h) (by kernel_rfl) ?_ (Below.refl _ _) ?_
    · intro W hSw; first | (go_simp; done) | go_simp
    try simp only [Act.put, List.setIfInBounds_toArray, List.set_cons_zero, List.set_cons_succ]
    refine takeYes (i := 8) (k := 42) (v := .pointer (some ⟨p, 0, none⟩)) rfl (by kernel_rfl) (by kernel_rfl) (by kernel_rfl) (by kernel_rfl) (fun _ _ _ h => h) (by kernel_rfl) ?_ (Below.refl _ _) ?_
    · intro W hSw; first | (go_simp; done) | go_simp
    try simp only [Act.put, List.setIfInBounds_toArray, List.set_cons_zero, List.set_cons_succ]
    refine takeYes (i := 9) (k := 43) (v := .pointer (some ⟨p, 0, none⟩)) rfl (by kernel_rfl) (by kernel_rfl) (by kernel_rfl) (by kernel_rfl) (fun _ _ _ h => h) (by kernel_rfl) ?_ (Below.refl _ _) ?_
    · intro W hSw; first | (go_simp; done) | go_simp
    try simp only [Act.put, List.setIfInBounds_toArray, List.set_cons_zero, List.set_cons_succ]
    refine takeYes (i := 10) (k := 44) (v := .slice a N cap) rfl (by kernel_rfl) (by kernel_rfl) (by kernel_rfl) (by kernel_rfl) (fun _ _ _ h => h) (by kernel_rfl) ?_ (Below.refl _ _) ?_
    · intro W hSw; obtain ⟨z0, z1, z2, z3⟩ := cell4_of (hP.below hSw); first | (go_simp; done) | go_simp
    try simp only [Act.put, List.setIfInBounds_toArray, List.set_cons_zero, List.set_cons_succ]
    refine takeYes (i := 11) (k := 45) (v := .func (.func 63) #[] #[.pointer (some ⟨g, 0, none⟩)]) rfl (by kernel_rfl) (by kernel_rfl) (by kernel_rfl) (by kernel_rfl) (fun _ _ _ h => h) (by kernel_rfl) ?_ (Below.refl _ _) ?_
    · intro W hSw; first | (go_simp; done) | go_simp
    try simp only [Act.put, List.setIfInBounds_toArray, List.set_cons_zero, List.set_cons_succ]
    refine wpAnyH_ready (rs := [12]) (by kernel_rfl) (by simp) (AllReadyH.cons rfl (fun K hK => ?_) AllReadyH.nil)
    go_simp
    refine (HCF.out _ hX hR).mono ?_
    rintro e wd6 ⟨rfl, hb6⟩
    refine hK.out _ _ hb6 (fun _ => wpAnyH_shift hb6 ?_)
    clear hK K
    replace hB : Below w.heap.size w wd6 := hB.trans (hb6.mono hB.size)
    replace hP := hP.below hb6
    replace hQ := hQ.below hb6
    replace hR := hR.below hb6
    replace hX := hX.below hb6
    clear hb6
    try simp only [Act.put, List.setIfInBounds_toArray, List.set_cons_zero, List.set_cons_succ]
    refine takeYes (i := 13) (k := 47) (v := .bool (!K0)) rfl (by kernel_rfl) (by kernel_rfl) (by kernel_rfl) (by kernel_rfl) (fun _ _ _ h => h) (by kernel_rfl) ?_ (Below.refl _ _) ?_
    · intro W hSw; first | (go_simp; done) | go_simp
    try simp only [Act.put, List.setIfInBounds_toArray, List.set_cons_zero, List.set_cons_succ]
    refine takeYes (i := 14) (k := 48) (v := .bool (!K0)) rfl (by kernel_rfl) (by kernel_rfl) (by kernel_rfl) (by kernel_rfl) (fun _ _ _ h => h) (by kernel_rfl) ?_ (Below.refl _ _) ?_
    · intro W hSw; first | (go_simp; done) | go_simp
    try simp only [Act.put, List.setIfInBounds_toArray, List.set_cons_zero, List.set_cons_succ]
    refine takeYes (i := 15) (k := 4) (v := .bool (!K0)) rfl (by kernel_rfl) (by kernel_rfl) (by kernel_rfl) (by kernel_rfl) (fun _ _ _ h => h) (by kernel_rfl) ?_ (Below.refl _ _) ?_
    · intro W hSw; first | (go_simp; done) | go_simp
    try simp only [Act.put, List.setIfInBounds_toArray, List.set_cons_zero, List.set_cons_succ]
    refine wpAnyH_done (by kernel_rfl) ?_ _
    obtain rfl : R = (!K0) := by
      rw [← HD.out, ← HK.out]; exact vFol_bool (by have := HC0.out.1; omega) (by have := HC0.out.2.1; omega) (by have := HC0.out.2.2; omega) c4
    have HBE := Lib.hid hB
    clear hB hP hQ hR hX
    go_wp2_with fail
    go_ret
    exact ⟨rfl, HBE.out⟩
  · have hc4 : decide (l0 < nx) = false := decide_eq_false c4
    refine wp_region_held_drew (S := Below wd4.heap.size wd4) (by kernel_rfl) (Below.refl _ _).drew (fun hHeld => ?_)
    generalize wd4.drew = wd5 at hHeld ⊢
    refine wpAnyH_shift hHeld ?_
    replace hB : Below w.heap.size w wd5 := hB.trans (hHeld.mono hB.size)
    replace hP := hP.below hHeld
    replace hQ := hQ.below hHeld
    replace hR := hR.below hHeld
    replace hX := hX.below hHeld
    clear hHeld
    refine takeYes (i := 0) (k := 34) (v := .pointer (some ⟨p, 0, none⟩)) rfl (by kernel_rfl) (by kernel_rfl) (by kernel_rfl) (by kernel_rfl) (fun _ _ _ h => h) (by kernel_rfl) ?_ (Below.refl _ _) ?_
    · intro W hSw; first | (go_simp; done) | go_simp
    try simp only [Act.put, List.setIfInBounds_toArray, List.set_cons_zero, List.set_cons_succ]
    refine takeYes (i := 1) (k := 35) (v := .pointer (some ⟨p, 0, none⟩)) rfl (by kernel_rfl) (by kernel_rfl) (by kernel_rfl) (by kernel_rfl) (fun _ _ _ h => h) (by kernel_rfl) ?_ (Below.refl _ _) ?_
    · intro W hSw; first | (go_simp; done) | go_simp
    try simp only [Act.put, List.setIfInBounds_toArray, List.set_cons_zero, List.set_cons_succ]
    refine takeYes (i := 2) (k := 36) (v := .pointer (some ⟨p, 2, none⟩)) rfl (by kernel_rfl) (by kernel_rfl) (by kernel_rfl) (by kernel_rfl) (fun _ _ _ h => h) (by kernel_rfl) ?_ (Below.refl _ _) ?_
    · intro W hSw; first | (go_simp; done) | go_simp
    try simp only [Act.put, List.setIfInBounds_toArray, List.set_cons_zero, List.set_cons_succ]
    refine takeYes (i := 3) (k := 37) (v := .int .i64 l0) rfl (by kernel_rfl) (by kernel_rfl) (by kernel_rfl) (by kernel_rfl) (fun _ _ _ h => h) (by kernel_rfl) ?_ (Below.refl _ _) ?_
    · intro W hSw; obtain ⟨z0, z1, z2, z3⟩ := cell4_of (hP.below hSw); first | (go_simp; done) | go_simp
    try simp only [Act.put, List.setIfInBounds_toArray, List.set_cons_zero, List.set_cons_succ]
    refine takeYes (i := 4) (k := 38) (v := .int .i64 nx) rfl (by kernel_rfl) (by kernel_rfl) (by kernel_rfl) (by kernel_rfl) (fun _ _ _ h => h) (by kernel_rfl) ?_ (Below.refl _ _) ?_
    · intro W hSw; have x0 := (hX.below hSw).at 0; simp only [List.getElem?_toArray, List.getElem?_cons_zero] at x0; first | (go_simp; done) | go_simp
    try simp only [Act.put, List.setIfInBounds_toArray, List.set_cons_zero, List.set_cons_succ]
    refine takeYes (i := 5) (k := 39) (v := .bool false) rfl (by kernel_rfl) (by kernel_rfl) (by kernel_rfl) (by kernel_rfl) (fun _ _ _ h => h) (by kernel_rfl) ?_ (Below.refl _ _) ?_
    · intro W hSw; first | (go_simp; done) | go_simp
    try simp only [Act.put, List.setIfInBounds_toArray, List.set_cons_zero, List.set_cons_succ]
    refine takeYes (i := 6) (k := 40) (v := .bool false) rfl (by kernel_rfl) (by kernel_rfl) (by kernel_rfl) (by kernel_rfl) (fun _ _ _ h => h) (by kernel_rfl) ?_ (Below.refl _ _) ?_
    · intro W hSw; first | (go_simp; done) | go_simp
    try simp only [Act.put, List.setIfInBounds_toArray, List.set_cons_zero, List.set_cons_succ]
    refine takeNot (i := 7) (k := 41) (by kernel_rfl) (by kernel_rfl) (by kernel_rfl) (by kernel_rfl) (fun _ _ _ h => h) (by kernel_rfl) (Below.refl _ _) ?_
    try simp only [Act.put, List.setIfInBounds_toArray, List.set_cons_zero, List.set_cons_succ]
    refine takeNot (i := 8) (k := 42) (by kernel_rfl) (by kernel_rfl) (by kernel_rfl) (by kernel_rfl) (fun _ _ _ h => h) (by kernel_rfl) (Below.refl _ _) ?_
    try simp only [Act.put, List.setIfInBounds_toArray, List.set_cons_zero, List.set_cons_succ]
    refine takeNot (i := 9) (k := 43) (by kernel_rfl) (by kernel_rfl) (by kernel_rfl) (by kernel_rfl) (fun _ _ _ h => h) (by kernel_rfl) (Below.refl _ _) ?_
    try simp only [Act.put, List.setIfInBounds_toArray, List.set_cons_zero, List.set_cons_succ]
    refine takeNot (i := 10) (k := 44) (by kernel_rfl) (by kernel_rfl) (by kernel_rfl) (by kernel_rfl) (fun _ _ _ h => h) (by kernel_rfl) (Below.refl _ _) ?_
    try simp only [Act.put, List.setIfInBounds_toArray, List.set_cons_zero, List.set_cons_succ]
    refine takeNot (i := 11) (k := 45) (by kernel_rfl) (by kernel_rfl) (by kernel_rfl) (by kernel_rfl) (fun _ _ _ h => h) (by kernel_rfl) (Below.refl _ _) ?_
    try simp only [Act.put, List.setIfInBounds_toArray, List.set_cons_zero, List.set_cons_succ]
    refine takeNot (i := 12) (k := 46) (by kernel_rfl) (by kernel_rfl) (by kernel_rfl) (by kernel_rfl) (fun _ _ _ h => h) (by kernel_rfl) (Below.refl _ _) ?_
    try simp only [Act.put, List.setIfInBounds_toArray, List.set_cons_zero, List.set_cons_succ]
    refine takeNot (i := 13) (k := 47) (by kernel_rfl) (by kernel_rfl) (by kernel_rfl) (by kernel_rfl) (fun _ _ _ h => h) (by kernel_rfl) (Below.refl _ _) ?_
    try simp only [Act.put, List.setIfInBounds_toArray, List.set_cons_zero, List.set_cons_succ]
    refine takeYes (i := 14) (k := 48) (v := .bool false) rfl (by kernel_rfl) (by kernel_rfl) (by kernel_rfl) (by kernel_rfl) (fun _ _ _ h => h) (by kernel_rfl) ?_ (Below.refl _ _) ?_
    · intro W hSw; first | (go_simp; done) | go_simp
    try simp only [Act.put, List.setIfInBounds_toArray, List.set_cons_zero, List.set_cons_succ]
    refine takeYes (i := 15) (k := 4) (v := .bool false) rfl (by kernel_rfl) (by kernel_rfl) (by kernel_rfl) (by kernel_rfl) (fun _ _ _ h => h) (by kernel_rfl) ?_ (Below.refl _ _) ?_
    · intro W hSw; first | (go_simp; done) | go_simp
    try simp only [Act.put, List.setIfInBounds_toArray, List.set_cons_zero, List.set_cons_succ]
    refine wpAnyH_done (by kernel_rfl) ?_ _
    obtain rfl : R = false := by rw [← HD.out]; exact decide_eq_false (fun h => c4 h.2.2.2.1)
    have HBE := Lib.hid hB
    clear hB hP hQ hR hX
    go_wp2_with fail
    go_ret
    exact ⟨rfl, HBE.out⟩
end Go.Proofs.Ytgdmmhdihgajkaa
