/- skip: New, find, the small functions of a list. -/
import Derived.Test.YtacaofnonmgfoaaSkipPath
import Derived.Test.YtacaofnonmgfoaaInts
import Derived.Test.YtacaofnonmgfoaaSrc
namespace Go.Proofs.Ytacaofnonmgfoaa
set_option linter.unusedVariables false
open Go.RowKit
def RowI (w : World) (xs : List Int) (e : Ending) (w' : World) : Prop := ∃ v, e = .returned v ∧ OwnV 3 w.heap.size w' v (xs.map (Value.int .i64)) ∧ Below w.heap.size w w'
theorem rdI_form {w : World} {v : Value} {xs : List Int} (h : RdI w v xs) : ∃ a cap, v = .slice a xs.length cap ∧ (a = none → xs = []) := by
  rcases h.cases with ⟨a, cap, rfl, rfl⟩ | ⟨b, off, cap, rfl, h0, -⟩
  · exact ⟨a, cap, rfl, fun _ => rfl⟩
  · exact ⟨_, cap, rfl, fun e => by cases e⟩
set_option maxHeartbeats 1000000 in
theorem iclone_any (v : Value) (xs : List Int) (w : World) (h : RdI w v xs) (hl : xs.length ≤ 1000000000000) : Calls Try.prog 24 #[v] w (RowI w xs) := by
  have H := Lib.hid h
  obtain ⟨a, cap, rfl, hnil⟩ := rdI_form h
  obtain ⟨len, hlen⟩ : ∃ len, xs.length = len := ⟨_, rfl⟩
  rw [hlen] at H ⊢
  cases a with
  | none =>
    have hb0 : Hid (xs = []) := Lib.hid (hnil rfl)
    clear h hlen hnil hl
    have hq1 : ∀ w, (binOp .eql 22 (.slice none len cap) (.slice none 0 0)).run Try.prog w = .ok (.bool true) w := fun w => Lib.run_eql_slice_nil w 22 3 none len cap 0 0 Try.underlying22
    go_enter Try.func24, Try.ntmps24
    go_wp2
    go_ret
    rw [hb0.out]
    exact ⟨_, rfl, OwnV.nil _ _ _, Below.refl _ _⟩
  | some ad =>
    have hlb : Hid (xs.length ≤ 1000000000000) := Lib.hid hl
    clear h hlen hnil hl
    have hq1 : ∀ w, (binOp .eql 22 (.slice (some ad) len cap) (.slice none 0 0)).run Try.prog w = .ok (.bool false) w := fun w => Lib.run_eql_slice_nil w 22 3 (some ad) len cap 0 0 Try.underlying22
    go_enter Try.func24, Try.ntmps24
    have HZ : OwnV 3 w.heap.size (w.alloc (.cells #[] 3)) (.slice (some ⟨w.heap.size, 0, none⟩) 0 0) [] := World.ownsRow_lit (base := w.heap.size) (e := 3) (size := 1) w #[] 0 (Nat.le_refl _) (by unfold maxLen; omega) rfl
    have HR1 : RdI (w.alloc (.cells #[] 3)) (.slice (some ad) len cap) xs := RdV.below H.out ((Below.refl w.heap.size w).alloc (Nat.le_refl _) (.cells #[] 3))
    have hone : ∀ u ∈ xs.map (Value.int .i64), u.oneCell' = true := by intro u hu; obtain ⟨x, -, rfl⟩ := List.mem_map.1 hu; rfl
    have hsz : ([] : List Value).length + (xs.map (Value.int .i64)).length ≤ maxLen := by have := hlb.out; simp [maxLen]; omega
    have hsz2 : (([] : List Value).length + (xs.map (Value.int .i64)).length) * 8 ≤ 140737488355328 := by have := hlb.out; simp; omega
    go_wp2_with (at_builtin; refine wp_appS elem_int _ _ (by rfl) (by rfl) (by rfl) HZ (by rfl) HR1 hone hsz2 hsz (by simp) ?_)
    intro v' w' h1 h2
    go_wp2_with fail
    go_ret
    refine ⟨v', rfl, ?_, ((Below.refl _ _).alloc (Nat.le_refl _) _).trans h2⟩
    exact h1
theorem own_form {E B : Nat} {w : World} {v : Value} {vs : List Value} (h : OwnV E B w v vs) : ∃ a n cap, v = .slice a n cap := by
  rcases h.nilOr with ⟨rfl, -⟩ | ⟨g, cap, rfl, -⟩
  · exact ⟨_, _, _, rfl⟩
  · exact ⟨_, _, _, rfl⟩
/-- A new list. -/
def SkNew (w : World) (H : List Int) (e : Ending) (w' : World) : Prop := ∃ b ρ, e = .returned (.pointer (some ⟨b, 0, none⟩)) ∧ SkAt w' b ρ H [] ∧ Below w.heap.size w w' ∧ ∀ k, ρ k ≠ none → w.heap.size ≤ k
theorem SkLay.new {w : World} {B : Nat} {hv : Value} {H : List Int} (h : OwnV 3 B w hv (H.map (Value.int .i64))) : ∃ ρ, SkLay (w.alloc (.cells (lsV hv (fun k => nx k []) (lastB []) 0 0) 49)) w.heap.size ρ hv H [] ∧ ∀ k, ρ k ≠ none → B ≤ k ∨ w.heap.size ≤ k := by
  have hlt : ∀ k, hv.ownBlock = some k → k < w.heap.size := row_lt h
  have hB : ∀ k, hv.ownBlock = some k → B ≤ k := by
    intro k hk
    rcases h.nilOr with ⟨e, -⟩ | ⟨g, cap, e, h1, -⟩
    · rw [e] at hk; cases hk
    · rw [e] at hk; obtain rfl : g = k := Option.some.inj hk; exact h1
  have hb := (Below.refl w.heap.size w).alloc (Nat.le_refl _) (.cells (lsV hv (fun k => nx k []) (lastB []) 0 0) 49)
  refine ⟨fun k => if k = w.heap.size then some .top else if hv.ownBlock = some k then some .hts else none, { cell := heap_alloc_new w _, role := if_pos rfl, hts := (h.base (Nat.zero_le _)).below hb, hrole := fun k hk => ?_, node := fun A n r e => ?_, top := fun k hk => ?_, ord := List.Pairwise.nil, kinds := fun n hn => absurd hn List.not_mem_nil, few := Nat.zero_le _, size := Nat.zero_le _ }, fun k hk => ?_⟩
  · have := hlt k hk
    rw [if_neg (by omega), if_pos hk]
  · have := congrArg List.length e; simp at this
  · rw [World.size_alloc]
    split at hk
    · omega
    · split at hk
      · rename_i h2; have := hlt k h2; omega
      · exact absurd rfl hk
  · replace hk : (if k = w.heap.size then some Rl.top else if hv.ownBlock = some k then some Rl.hts else none) ≠ none := hk
    split at hk
    · right; omega
    · split at hk
      · rename_i h2; exact .inl (hB k h2)
      · exact absurd rfl hk
set_option maxHeartbeats 1000000 in
theorem sknew_any (v : Value) (H : List Int) (w : World) (h : RdI w v H) (hl : H.length ≤ 1000000000000) : Calls Try.prog 8 #[v] w (SkNew w H) := by
  have HC := Lib.hid (iclone_any v H w h hl)
  clear h
  go_enter Try.func8, Try.ntmps8
  go_wp2_with fail
  refine HC.out.mono ?_
  rintro e w2 ⟨hv, rfl, ho, hb⟩
  obtain ⟨a, n, cap, rfl⟩ := own_form ho
  go_wp2_with fail
  go_ret
  obtain ⟨ρ, h1, h2⟩ := SkLay.new ho
  exact ⟨_, ρ, rfl, ⟨_, [], h1, rfl⟩, hb.alloc hb.size _, fun k hk => (h2 k hk).elim id fun h => Nat.le_trans hb.size h⟩
/-! ### where a search ends -/
def headB (l : List Nd) : Option Nat := l.head?.map Nd.nb
theorem SkLay.lkAt {w : World} {b : Nat} {ρ : Nat → Option Rl} {hv : Value} {H : List Int} {A B : List Nd} (h : SkLay w b ρ hv H (A ++ B)) (k : Nat) (hk : k < 8) : ∃ g o n, lkN b k A = .slice (some ⟨g, o, none⟩) n n ∧ k < n ∧ g < w.heap.size ∧ w.cell? ⟨g, o + k, none⟩ = some (ptrO (nx k B)) := by
  rcases lk_cut b k A with ⟨h1, h2⟩ | ⟨P, n, M, rfl, h2, h3, h4⟩
  · refine ⟨b, 1, 8, h1, hk, h.lt, ?_⟩
    rw [h.front k hk, nx_app h2]
  · rw [List.append_assoc, List.cons_append] at h
    have hn := h.node _ _ _ rfl
    refine ⟨n.tb, 0, n.h, h4, h3, h.top _ (by rw [hn.trole]; simp), ?_⟩
    rw [Nat.zero_add, cells_at hn.tow, twA_at h3, nx_app h2]
theorem SkLay.nx0 {w : World} {b : Nat} {ρ : Nat → Option Rl} {hv : Value} {H : List Int} {A B : List Nd} (h : SkLay w b ρ hv H (A ++ B)) : nx 0 B = headB B := by
  cases B with
  | nil => rfl
  | cons n r => rw [nx, if_pos (h.node A n r rfl).pos]; rfl
/-- 'a[i]' of an array that is a value, of elements of one cell. -/
theorem run_index_cell {P : Program} {t e n : Nat} (h : P.underlying t = some (.array n e)) {f : Nat} (hu : P.underlying e = some (.slice f)) (hi : (P.info? e).map (·.size) = some 1) {cs : Array Value} {k : Nat} {v : Value} (hk : k < n) (hc : cs[k]? = some v) (w : World) :
    (Instr.index t (.agg cs) (.int .i64 (k : Int))).run P w = .ok v w := by
  obtain ⟨i0, hi, hz⟩ := Option.map_eq_some_iff.1 hi
  have h1 : k < n := hk
  simp [Instr.index, run_underlying h, run_underlying hu, asIntOf, h1, part, isAgg, sizeOf, typeInfo, hi, hz, hc, go_sem]
def PtrRes (w : World) (o : Option Nat) (e : Ending) (w' : World) : Prop := e = .returned (ptrO o) ∧ Below w.heap.size w w'
set_option maxHeartbeats 1000000 in
set_option maxRecDepth 100000 in
theorem skfind_any (w : World) (b : Nat) (ρ : Nat → Option Rl) (hv : Value) (H : List Int) (N : List Nd) (h : SkLay w b ρ hv H N) (s : ByteArray) (q kd : Int) :
    Calls Try.prog 30 #[.pointer (some ⟨b, 0, none⟩), .string s, .int .i64 q, .int .i64 kd] w (PtrRes w (headB (restN N ⟨s, q, kd, ⟨#[]⟩, ⟨#[]⟩⟩))) := by
  have HP := Lib.hid (path_any w b ρ hv H N h s q kd)
  have e := ahead_rest N ⟨s, q, kd, ⟨#[]⟩, ⟨#[]⟩⟩
  have h2 := h
  rw [← e] at h2
  have e0 := h2.nx0
  obtain ⟨g, o, n, e1, hn, hg, hc⟩ := h2.lkAt 0 (by omega)
  rw [e0, Nat.add_zero] at hc
  generalize aheadN N ⟨s, q, kd, ⟨#[]⟩, ⟨#[]⟩⟩ = A at *
  generalize headB (restN N ⟨s, q, kd, ⟨#[]⟩, ⟨#[]⟩⟩) = T at *
  have HP2 : Hid (Calls Try.prog 26 #[.pointer (some ⟨b, 0, none⟩), .string s, .int .i64 q, .int .i64 kd] w fun e w' => e = .returned (.agg #[.slice (some ⟨g, o, none⟩) n n, lkN b 1 A, lkN b 2 A, lkN b 3 A, lkN b 4 A, lkN b 5 A, lkN b 6 A, lkN b 7 A]) ∧ Below w.heap.size w w') := Lib.hid (HP.out.mono fun e w' h => ⟨by rw [h.1]; unfold pathV; rw [e1], h.2⟩)
  have HC : Hid (CellAt w g o (ptrO T)) := Lib.hid ⟨hc, hg⟩
  have hn2 : (0 : Int) < (n : Int) := by omega
  clear h h2 e0 e1 hc hg e HP hn
  have hix : ∀ w : World, (Instr.index 53 (.agg #[.slice (some ⟨g, o, none⟩) n n, lkN b 1 A, lkN b 2 A, lkN b 3 A, lkN b 4 A, lkN b 5 A, lkN b 6 A, lkN b 7 A]) (.int .i64 0)).run Try.prog w = .ok (.slice (some ⟨g, o, none⟩) n n) w := fun w =>
    run_index_cell (k := 0) Try.underlying53 Try.underlying52 (by kernel_rfl) (by decide) rfl w
  go_enter Try.func30, Try.ntmps30
  go_wp2_with fail
  refine HP2.out.mono ?_
  rintro e w2 ⟨rfl, hb⟩
  obtain ⟨c0, -⟩ := HC.out.below hb
  have HB := Lib.hid hb
  clear hb HP2
  cases T
  all_goals
    change _ = some (Value.pointer _) at c0
    go_wp2_with fail
    go_ret
    exact ⟨rfl, HB.out⟩
set_option maxHeartbeats 1000000 in
theorem sknofind_any (w : World) (s : ByteArray) (q kd : Int) :
    Calls Try.prog 30 #[.pointer none, .string s, .int .i64 q, .int .i64 kd] w (PtrRes w none) := by
  go_enter Try.func30, Try.ntmps30
  go_wp2_with fail
  go_ret
  exact ⟨rfl, Below.refl _ _⟩
/-! ### heights, sizes -/
def htN (H : List Int) (n : Nat) : Nat := if n < H.length then (min (max (H.getD n 0) 1) 8).toNat else 1
theorem htN_pos (H : List Int) (n : Nat) : 0 < htN H n := by unfold htN; split <;> omega
theorem htN_le (H : List Int) (n : Nat) : htN H n ≤ 8 := by unfold htN; split <;> omega
def IntRes (w : World) (n : Int) (e : Ending) (w' : World) : Prop := e = .returned (.int .i64 n) ∧ Below w.heap.size w w'
set_option maxHeartbeats 1000000 in
set_option maxRecDepth 100000 in
theorem nexth_any (w : World) (b : Nat) (ρ : Nat → Option Rl) (hv : Value) (H : List Int) (N : List Nd) (h : SkLay w b ρ hv H N) :
    Calls Try.prog 27 #[.pointer (some ⟨b, 0, none⟩)] w (IntRes w (htN H N.length : Nat)) := by
  obtain ⟨T, hT⟩ : ∃ T, ((htN H N.length : Nat) : Int) = T := ⟨_, rfl⟩
  rw [hT]
  have HT := Lib.hid hT
  have hrd : RdI w hv H := h.hts.rd
  have c0 : w.cell? ⟨b, 0, none⟩ = some hv := h.at 0
  have c3 : w.cell? ⟨b, 10, none⟩ = some (.int .i64 (N.length : Int)) := h.at 10
  obtain ⟨n, hn⟩ : ∃ n, N.length = n := ⟨_, rfl⟩
  rw [hn] at c3
  have HN := Lib.hid hn
  obtain ⟨a, cap, rfl, -⟩ := rdI_form hrd
  obtain ⟨len, hlen⟩ : ∃ len, H.length = len := ⟨_, rfl⟩
  rw [hlen] at c0 hrd
  have HLE := Lib.hid hlen
  clear hT h hn hlen
  by_cases hc : n < len
  · have hd : decide ((len : Int) ≤ (n : Int)) = false := decide_eq_false (by omega)
    have hd2 : decide (len ≤ n) = false := decide_eq_false (by omega)
    have hn0 : (0 : Int) ≤ (n : Int) := by omega
    have hnl : (n : Int) < (len : Int) := by omega
    obtain ⟨x, hx⟩ : ∃ x, H.getD n 0 = x := ⟨_, rfl⟩
    rcases hrd.cases with ⟨_, _, e, rfl⟩ | ⟨g, off, cap', e, h0, -, -, -, hcell⟩
    · have := HLE.out; simp at this; omega
    · simp only [Value.slice.injEq] at e
      obtain ⟨rfl, -, rfl⟩ := e
      have cx : w.cell? ⟨g, off + n, none⟩ = some (.int .i64 x) := by rw [← hx]; exact hcell n (by rw [HLE.out]; omega)
      have HX : Hid (T = min (max x 1) 8) := Lib.hid (by rw [← HT.out, HN.out, ← hx]; unfold htN; rw [if_pos (by rw [HLE.out]; exact hc)]; omega)
      clear hcell hx h0 hrd hc
      go_enter Try.func27, Try.ntmps27
      go_wp2_with fail
      go_quiet (fail)
      go_wp2_with fail
      go_quiet (fail)
      go_wp2_with fail
      go_ret
      rw [HX.out]
      exact ⟨rfl, (DrN.below ⟨_, rfl⟩ _).trans (DrN.below ⟨nq, rfl⟩ _)⟩
  · have hd : decide ((len : Int) ≤ (n : Int)) = true := decide_eq_true (by omega)
    have hd2 : decide (len ≤ n) = true := decide_eq_true (by omega)
    have HX : Hid (T = 1) := Lib.hid (by rw [← HT.out, HN.out]; unfold htN; rw [if_neg (by rw [HLE.out]; exact hc)]; rfl)
    clear hc hrd
    go_enter Try.func27, Try.ntmps27
    go_wp2_with fail
    go_quiet (fail)
    go_wp2_with fail
    go_ret
    rw [HX.out]
    exact ⟨rfl, DrN.below ⟨nq, rfl⟩ _⟩
set_option maxHeartbeats 1000000 in
theorem sizeof_any (e : Ent) (h : szE e ≤ 4000000000000000000) (w : World) : Calls Try.prog 29 #[e.v] w (IntRes w (szE e : Nat)) := by
  obtain ⟨T, hT⟩ : ∃ T, ((szE e : Nat) : Int) = T := ⟨_, rfl⟩
  rw [hT]
  obtain ⟨en, eq, ek, es, ev⟩ := e
  have hs : en.size + es.size + ev.size + 32 ≤ 4000000000000000000 := h
  have HT : Hid ((en.size : Int) + (es.size : Int) + (ev.size : Int) + 32 = T) := Lib.hid (by rw [← hT]; unfold szE; simp only []; omega)
  clear hT h
  show Calls Try.prog 29 #[.agg #[.string en, .int .i64 eq, .int .i64 ek, .string es, .string ev]] w (IntRes w T)
  go_enter Try.func29, Try.ntmps29
  go_wp2_with fail
  go_ret
  rw [← HT.out]
  exact ⟨rfl, (Below.refl _ _).alloc (Nat.le_refl _) _⟩
end Go.Proofs.Ytacaofnonmgfoaa
