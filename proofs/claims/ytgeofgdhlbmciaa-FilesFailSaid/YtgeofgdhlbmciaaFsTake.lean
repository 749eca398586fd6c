/- A change is made in a directory that lies in memory. -/
import Derived.Test.YtgeofgdhlbmciaaFsStep
import Derived.RegionTactic
import Derived.Shelf.SlMaps.Clone
import Derived.Carry
namespace Go.Proofs.Ytgeofgdhlbmciaa
set_option linter.unusedVariables false
open Go.RowKit Go.Maps
/-- On the way: the directory's place, the change's row, the map. -/
structure TakeMid (w : World) (bp : Nat) (vs : Array Value) (t q : Nat) (mb : Option Nat) (k : Nat) (c : Chg) (l : Dir) (W : World) : Prop where
  place : W.heap[bp]? = some (.cells (vs.setIfInBounds 0 (.map (some k))) t (0, 0))
  row : W.heap[q]? = some (.cells #[.string c.fr, .string c.to, ptrO c.file] 58 (0, 0))
  map : MB W (some k) l
  upd : UpdF (fun i => i = bp ∨ mb = some i) w W
  kb : k ≠ bp
  kq : k ≠ q
  new : mb = some k ∨ w.heap.size ≤ k
  q0 : w.heap.size ≤ q
  v0 : 0 < vs.size
theorem TakeMid.drew {w : World} {bp : Nat} {vs : Array Value} {t q : Nat} {mb : Option Nat} {k : Nat} {c : Chg} {l : Dir} {W : World} (h : TakeMid w bp vs t q mb k c l W) : TakeMid w bp vs t q mb k c l W.drew :=
  ⟨h.place, h.row, h.map.same fun _ _ => rfl, h.upd.drew, h.kb, h.kq, h.new, h.q0, h.v0⟩
theorem TakeMid.next {w : World} {bp : Nat} {vs : Array Value} {t q : Nat} {mb : Option Nat} {k : Nat} {c : Chg} {l l' : Dir} {W W' : World} (h : TakeMid w bp vs t q mb k c l W) (hm : MB W' (some k) l') (hg : W.grownBy W' (some k)) : TakeMid w bp vs t q mb k c l' W' := by
  have lt : ∀ {i : Nat} {o : Obj}, W.heap[i]? = some o → i < W.heap.size := fun h => (Array.getElem?_eq_some_iff.1 h).1
  refine ⟨(hg.block bp (lt h.place) (fun e => h.kb (Option.some.inj e).symm)).trans h.place, (hg.block q (lt h.row) (fun e => h.kq (Option.some.inj e).symm)).trans h.row, hm, h.upd.then (G := fun i => i = k) (UpdF.grown hg fun i hi => (Option.some.inj hi).symm) ?_, h.kb, h.kq, h.new, h.q0, h.v0⟩
  rintro i rfl
  rcases h.new with e | e
  · exact .inl (.inr e)
  · exact .inr e
theorem size_set (w : World) (a : Addr) (v : Value) : (w.setCell a v).heap.size = w.heap.size := by simp [World.setCell]
theorem UpdF.of_alloc {F : Nat → Prop} {w w' : World} (h : UpdF F w w') (o : Obj) : UpdF F w (w'.alloc o) := h.trans (UpdF.of ((Below.refl _ _).alloc (Nat.le_refl _) o))
def TakeAt (w : World) (bp : Nat) (vs : Array Value) (t : Nat) (mb : Option Nat) (l : Dir) (e : Ending) (w' : World) : Prop :=
  ∃ k, e = .returned (.tuple #[]) ∧ w'.heap[bp]? = some (.cells (vs.setIfInBounds 0 (.map (some k))) t (0, 0)) ∧ MB w' (some k) l ∧ (mb = some k ∨ w.heap.size ≤ k) ∧ UpdF (fun i => i = bp ∨ mb = some i) w w'
theorem TakeMid.at {w : World} {bp : Nat} {vs : Array Value} {t q : Nat} {mb : Option Nat} {k : Nat} {c : Chg} {l : Dir} {W : World} (h : TakeMid w bp vs t q mb k c l W) : TakeAt w bp vs t mb l (.returned (.tuple #[])) W := ⟨k, rfl, h.place, h.map, h.new, h.upd⟩
structure TakeCells (W : World) (bp q k : Nat) (c : Chg) : Prop where
  p0 : W.cell? ⟨bp, 0, none⟩ = some (.map (some k))
  r0 : W.cell? ⟨q, 0, none⟩ = some (.string c.fr)
  r1 : W.cell? ⟨q, 1, none⟩ = some (.string c.to)
  r2 : W.cell? ⟨q, 2, none⟩ = some (ptrO c.file)
theorem TakeMid.cells {w : World} {bp : Nat} {vs : Array Value} {t q : Nat} {mb : Option Nat} {k : Nat} {c : Chg} {l : Dir} {W : World} (h : TakeMid w bp vs t q mb k c l W) : TakeCells W bp q k c := by
  refine ⟨?_, cells_at h.row 0, cells_at h.row 1, cells_at h.row 2⟩
  rw [cells_at h.place, Array.getElem?_setIfInBounds_self_of_lt h.v0]
theorem TakeCells.drN {W W' : World} {bp q k : Nat} {c : Chg} (h : TakeCells W bp q k c) (d : DrN W W') : TakeCells W' bp q k c := by obtain ⟨n, rfl⟩ := d; exact ⟨h.p0, h.r0, h.r1, h.r2⟩

set_option maxHeartbeats 2000000 in
set_option maxRecDepth 100000 in
theorem take_del (w : World) (bp t : Nat) (vs : Array Value) (mb : Option Nat) (l : Dir) (c1 c2 : ByteArray) (h1 : w.heap[bp]? = some (.cells vs t (0, 0))) (h2 : vs[0]? = some (.map mb)) (hm : MB w mb l) (hne : ∀ k, mb = some k → k ≠ bp) (hl : l.length ≤ 1000000) (hn1 : c1.size ≤ maxLen) (hn2 : c2.size ≤ maxLen) :
    Calls Try.prog 31 #[.pointer (some ⟨bp, 0, none⟩), .agg #[.string c1, .string c2, ptrO none]] w (TakeAt w bp vs t mb (ddel c1 l)) := by
  have hv0 : 0 < vs.size := by
    rcases Nat.lt_or_ge 0 vs.size with h | h
    · exact h
    · rw [Array.getElem?_eq_none h] at h2; cases h2
  have hp0 : w.cell? ⟨bp, 0, none⟩ = some (.map mb) := (cells_at h1 0).trans h2
  have hbp := (Array.getElem?_eq_some_iff.1 h1).1
  cases mb with
  | some k =>
    have hkl := hm.lt k rfl
    have HT : Hid (TakeMid w bp vs t w.heap.size (some k) k ⟨c1, c2, none⟩ l (w.alloc (.cells #[.string c1, .string c2, ptrO none] 58))) := Lib.hid
      ⟨by rw [Below.heap_alloc _ _ _ hbp, h1]
          congr 2
          refine Array.ext_getElem? fun i => ?_
          rw [Array.getElem?_setIfInBounds]
          split
          · rename_i e; subst e; exact h2
          · rfl,
        heap_alloc_new .., MB.same hm fun j hj => Below.heap_alloc _ _ _ (hm.lt j hj), UpdF.of ((Below.refl _ _).alloc (Nat.le_refl _) _), hne k rfl, by omega, .inl rfl, Nat.le_refl _, hv0⟩
    have hfree : w.frozen? ⟨bp, 0, none⟩ = false := cells_free h1 0
    clear h1 h2 hm hne
    have hml : Try.prog.underlying 49 = _ := Try.underlying49
    have hq := fun w => run_eql_map_nil_sl (P := Try.prog) w 49 _ _ (some k) hml
    go_enter Try.func31, Try.ntmps31
    unfold ptrO at HT ⊢
    go_wp2_with fail
    obtain ⟨W2, hW2⟩ : ∃ W2, w.alloc (.cells #[.string c1, .string c2, .pointer none] 58) = W2 := ⟨_, rfl⟩
    rw [hW2] at HT ⊢
    obtain ⟨q, hq2⟩ : ∃ q, w.heap.size = q := ⟨_, rfl⟩
    rw [hq2] at HT ⊢
    clear hW2 hq2 hp0 hkl hfree hq hml
    obtain ⟨w3, hdel, hm3, hg3, hs3⟩ := HT.out.drew.map.drop c1 hn1 0
    have HC := Lib.hid HT.out.cells
    have HT3 := Lib.hid (HT.out.drew.next hm3 hg3)
    refine beginK (DrN W2) 5 (by kernel_rfl) ⟨1, rfl⟩ (fun hHeld => ?_)
    refine takeK (i := 0) (k := 11) (v := .pointer (some ⟨bp, 0, none⟩)) rfl rfl (by kernel_rfl) (by kernel_rfl) (by kernel_rfl) [2, 1, 0] rfl (by decide) (by kernel_rfl) (fun _ _ _ h => h) (by kernel_rfl) ?_ (by assumption) ?_
    · intro W hSw; first | (go_simp; done) | go_simp
    try simp only [Act.put, List.setIfInBounds_toArray, List.set_cons_zero, List.set_cons_succ]
    refine takeK (i := 1) (k := 12) (v := .pointer (some ⟨bp, 0, none⟩)) rfl rfl (by kernel_rfl) (by kernel_rfl) (by kernel_rfl) [2, 1] rfl (by decide) (by kernel_rfl) (fun _ _ _ h => h) (by kernel_rfl) ?_ (by assumption) ?_
    · intro W hSw; first | (go_simp; done) | go_simp
    try simp only [Act.put, List.setIfInBounds_toArray, List.set_cons_zero, List.set_cons_succ]
    refine takeK (i := 2) (k := 13) (v := .map (some k)) rfl rfl (by kernel_rfl) (by kernel_rfl) (by kernel_rfl) [2] rfl (by decide) (by kernel_rfl) (fun _ _ _ h => h) (by kernel_rfl) ?_ (by assumption) ?_
    · intro W hSw; obtain ⟨p0, r0, r1, r2⟩ := HC.out.drN hSw; first | (go_simp; done) | go_simp
    try simp only [Act.put, List.setIfInBounds_toArray, List.set_cons_zero, List.set_cons_succ]
    refine takeK (i := 3) (k := 14) (v := .pointer (some ⟨q, 0, none⟩)) rfl rfl (by kernel_rfl) (by kernel_rfl) (by kernel_rfl) [4, 3] rfl (by decide) (by kernel_rfl) (fun _ _ _ h => h) (by kernel_rfl) ?_ (by assumption) ?_
    · intro W hSw; first | (go_simp; done) | go_simp
    try simp only [Act.put, List.setIfInBounds_toArray, List.set_cons_zero, List.set_cons_succ]
    refine takeK (i := 4) (k := 15) (v := .string c1) rfl rfl (by kernel_rfl) (by kernel_rfl) (by kernel_rfl) [4] rfl (by decide) (by kernel_rfl) (fun _ _ _ h => h) (by kernel_rfl) ?_ (by assumption) ?_
    · intro W hSw; obtain ⟨p0, r0, r1, r2⟩ := HC.out.drN hSw; first | (go_simp; done) | go_simp
    try simp only [Act.put, List.setIfInBounds_toArray, List.set_cons_zero, List.set_cons_succ]
    refine oneK (i := 5) (by kernel_rfl) rfl (fun K hK => ?_)
    refine step_bi (by kernel_rfl) (.tmp 13) (.tmp 15) 49 9 rfl rfl rfl hdel ?_
    refine hK.out _ _ (fun h => by have h' : true = false := h; cases h') (fun _ => ?_)
    clear hK K
    try simp only [Act.put, List.setIfInBounds_toArray]
    refine doneK (by kernel_rfl) ?_ _
    clear hdel hm3 hg3 hs3 hHeld HC HT
    obtain ⟨p0, r0, r1, r2⟩ := HT3.out.cells
    change _ = some (Value.pointer none) at r2
    go_wp2
    go_end0
    exact HT3.out.at
  | none =>
    obtain ⟨w1, hw1⟩ : ∃ w1, w.alloc (.cells #[.string c1, .string c2, ptrO none] 58) = w1 := ⟨_, rfl⟩
    have hs1 : w1.heap.size = w.heap.size + 1 := by rw [← hw1]; simp
    have hr1 : w1.heap[w.heap.size]? = some (.cells #[.string c1, .string c2, ptrO none] 58 (0, 0)) := by rw [← hw1]; exact heap_alloc_new ..
    have hb1 : Below w.heap.size w w1 := by rw [← hw1]; exact (Below.refl _ _).alloc (Nat.le_refl _) _
    have hm2 := MB.made (w1.setCell ⟨bp, 0, none⟩ (.map (some (w.heap.size + 1))))
    rw [size_set, hs1] at hm2
    have hl0 : l = [] := hm
    have HT : Hid (TakeMid w bp vs t w.heap.size none (w.heap.size + 1) ⟨c1, c2, none⟩ l ((w1.setCell ⟨bp, 0, none⟩ (.map (some (w.heap.size + 1)))).alloc (.map #[] 0))) := Lib.hid
      ⟨by rw [Below.heap_alloc _ _ _ (by rw [size_set]; omega)]; exact cells_set (by rw [hb1.block bp hbp]; exact h1) _,
        by rw [Below.heap_alloc _ _ _ (by rw [size_set]; omega), Below.heap_setCell _ _ _ _ (by simp; omega)]; exact hr1,
        by rw [hl0]; exact hm2,
        UpdF.of_alloc (UpdF.set (UpdF.of hb1) _ _ _ (.inl rfl)) _, by omega, by omega, .inr (by omega), Nat.le_refl _, hv0⟩
    have hfree : w1.frozen? ⟨bp, 0, none⟩ = false := by rw [hb1.frozen hbp]; exact cells_free h1 0
    have hp1 : w1.cell? ⟨bp, 0, none⟩ = some (.map none) := by rw [hb1.cell hbp]; exact hp0
    clear h1 h2 hm hne hr1 hb1 hm2 hl0 hp0
    have hml : Try.prog.underlying 49 = _ := Try.underlying49
    have hq := fun w => run_eql_map_nil_sl (P := Try.prog) w 49 _ _ none hml
    have hmk : (Instr.makeMap 49 none).run Try.prog w1 = .ok (.map (some (w.heap.size + 1))) (w1.alloc (.map #[] 0)) := by rw [run_makeMap, hs1]
    unfold ptrO at hw1 ⊢
    go_enter Try.func31, Try.ntmps31
    go_wp2_with fail
    obtain ⟨W2, hW2⟩ : ∃ W2, (w1.setCell ⟨bp, 0, none⟩ (.map (some (w.heap.size + 1)))).alloc (.map #[] 0) = W2 := ⟨_, rfl⟩
    rw [hW2] at HT ⊢
    obtain ⟨k, hk⟩ : ∃ k, w.heap.size + 1 = k := ⟨_, rfl⟩
    rw [hk] at HT
    obtain ⟨q, hq2⟩ : ∃ q, w.heap.size = q := ⟨_, rfl⟩
    rw [hq2] at HT ⊢
    clear hW2 hq2 hfree hq hml hp1 hs1 hw1 hk hmk
    obtain ⟨w3, hdel, hm3, hg3, hs3⟩ := HT.out.drew.map.drop c1 hn1 0
    have HC := Lib.hid HT.out.cells
    have HT3 := Lib.hid (HT.out.drew.next hm3 hg3)
    refine beginK (DrN W2) 5 (by kernel_rfl) ⟨1, rfl⟩ (fun hHeld => ?_)
    refine takeK (i := 0) (k := 11) (v := .pointer (some ⟨bp, 0, none⟩)) rfl rfl (by kernel_rfl) (by kernel_rfl) (by kernel_rfl) [2, 1, 0] rfl (by decide) (by kernel_rfl) (fun _ _ _ h => h) (by kernel_rfl) ?_ (by assumption) ?_
    · intro W hSw; first | (go_simp; done) | go_simp
    try simp only [Act.put, List.setIfInBounds_toArray, List.set_cons_zero, List.set_cons_succ]
    refine takeK (i := 1) (k := 12) (v := .pointer (some ⟨bp, 0, none⟩)) rfl rfl (by kernel_rfl) (by kernel_rfl) (by kernel_rfl) [2, 1] rfl (by decide) (by kernel_rfl) (fun _ _ _ h => h) (by kernel_rfl) ?_ (by assumption) ?_
    · intro W hSw; first | (go_simp; done) | go_simp
    try simp only [Act.put, List.setIfInBounds_toArray, List.set_cons_zero, List.set_cons_succ]
    refine takeK (i := 2) (k := 13) (v := .map (some k)) rfl rfl (by kernel_rfl) (by kernel_rfl) (by kernel_rfl) [2] rfl (by decide) (by kernel_rfl) (fun _ _ _ h => h) (by kernel_rfl) ?_ (by assumption) ?_
    · intro W hSw; obtain ⟨p0, r0, r1, r2⟩ := HC.out.drN hSw; first | (go_simp; done) | go_simp
    try simp only [Act.put, List.setIfInBounds_toArray, List.set_cons_zero, List.set_cons_succ]
    refine takeK (i := 3) (k := 14) (v := .pointer (some ⟨q, 0, none⟩)) rfl rfl (by kernel_rfl) (by kernel_rfl) (by kernel_rfl) [4, 3] rfl (by decide) (by kernel_rfl) (fun _ _ _ h => h) (by kernel_rfl) ?_ (by assumption) ?_
    · intro W hSw; first | (go_simp; done) | go_simp
    try simp only [Act.put, List.setIfInBounds_toArray, List.set_cons_zero, List.set_cons_succ]
    refine takeK (i := 4) (k := 15) (v := .string c1) rfl rfl (by kernel_rfl) (by kernel_rfl) (by kernel_rfl) [4] rfl (by decide) (by kernel_rfl) (fun _ _ _ h => h) (by kernel_rfl) ?_ (by assumption) ?_
    · intro W hSw; obtain ⟨p0, r0, r1, r2⟩ := HC.out.drN hSw; first | (go_simp; done) | go_simp
    try simp only [Act.put, List.setIfInBounds_toArray, List.set_cons_zero, List.set_cons_succ]
    refine oneK (i := 5) (by kernel_rfl) rfl (fun K hK => ?_)
    refine step_bi (by kernel_rfl) (.tmp 13) (.tmp 15) 49 9 rfl rfl rfl hdel ?_
    refine hK.out _ _ (fun h => by have h' : true = false := h; cases h') (fun _ => ?_)
    clear hK K
    try simp only [Act.put, List.setIfInBounds_toArray]
    refine doneK (by kernel_rfl) ?_ _
    clear hdel hm3 hg3 hs3 hHeld HC HT
    obtain ⟨p0, r0, r1, r2⟩ := HT3.out.cells
    change _ = some (Value.pointer none) at r2
    go_wp2
    go_end0
    exact HT3.out.at
set_option maxHeartbeats 2000000 in
set_option maxRecDepth 100000 in
theorem take_put (w : World) (bp t : Nat) (vs : Array Value) (mb : Option Nat) (l : Dir) (c1 c2 : ByteArray) (ci : Nat) (h1 : w.heap[bp]? = some (.cells vs t (0, 0))) (h2 : vs[0]? = some (.map mb)) (hm : MB w mb l) (hne : ∀ k, mb = some k → k ≠ bp) (hl : l.length ≤ 1000000) (hn1 : c1.size ≤ maxLen) (hn2 : c2.size ≤ maxLen) :
    Calls Try.prog 31 #[.pointer (some ⟨bp, 0, none⟩), .agg #[.string c1, .string c2, ptrO (some ci)]] w (TakeAt w bp vs t mb (dput c2 ci (ddel c1 l))) := by
  have hv0 : 0 < vs.size := by
    rcases Nat.lt_or_ge 0 vs.size with h | h
    · exact h
    · rw [Array.getElem?_eq_none h] at h2; cases h2
  have hp0 : w.cell? ⟨bp, 0, none⟩ = some (.map mb) := (cells_at h1 0).trans h2
  have hbp := (Array.getElem?_eq_some_iff.1 h1).1
  cases mb with
  | some k =>
    have hkl := hm.lt k rfl
    have HT : Hid (TakeMid w bp vs t w.heap.size (some k) k ⟨c1, c2, (some ci)⟩ l (w.alloc (.cells #[.string c1, .string c2, ptrO (some ci)] 58))) := Lib.hid
      ⟨by rw [Below.heap_alloc _ _ _ hbp, h1]
          congr 2
          refine Array.ext_getElem? fun i => ?_
          rw [Array.getElem?_setIfInBounds]
          split
          · rename_i e; subst e; exact h2
          · rfl,
        heap_alloc_new .., MB.same hm fun j hj => Below.heap_alloc _ _ _ (hm.lt j hj), UpdF.of ((Below.refl _ _).alloc (Nat.le_refl _) _), hne k rfl, by omega, .inl rfl, Nat.le_refl _, hv0⟩
    have hfree : w.frozen? ⟨bp, 0, none⟩ = false := cells_free h1 0
    clear h1 h2 hm hne
    have hml : Try.prog.underlying 49 = _ := Try.underlying49
    have hq := fun w => run_eql_map_nil_sl (P := Try.prog) w 49 _ _ (some k) hml
    go_enter Try.func31, Try.ntmps31
    unfold ptrO at HT ⊢
    go_wp2_with fail
    obtain ⟨W2, hW2⟩ : ∃ W2, w.alloc (.cells #[.string c1, .string c2, .pointer (some ⟨ci, 0, none⟩)] 58) = W2 := ⟨_, rfl⟩
    rw [hW2] at HT ⊢
    obtain ⟨q, hq2⟩ : ∃ q, w.heap.size = q := ⟨_, rfl⟩
    rw [hq2] at HT ⊢
    clear hW2 hq2 hp0 hkl hfree hq hml
    obtain ⟨w3, hdel, hm3, hg3, hs3⟩ := HT.out.drew.map.drop c1 hn1 0
    have HC := Lib.hid HT.out.cells
    have HT3 := Lib.hid (HT.out.drew.next hm3 hg3)
    refine beginK (DrN W2) 5 (by kernel_rfl) ⟨1, rfl⟩ (fun hHeld => ?_)
    refine takeK (i := 0) (k := 11) (v := .pointer (some ⟨bp, 0, none⟩)) rfl rfl (by kernel_rfl) (by kernel_rfl) (by kernel_rfl) [2, 1, 0] rfl (by decide) (by kernel_rfl) (fun _ _ _ h => h) (by kernel_rfl) ?_ (by assumption) ?_
    · intro W hSw; first | (go_simp; done) | go_simp
    try simp only [Act.put, List.setIfInBounds_toArray, List.set_cons_zero, List.set_cons_succ]
    refine takeK (i := 1) (k := 12) (v := .pointer (some ⟨bp, 0, none⟩)) rfl rfl (by kernel_rfl) (by kernel_rfl) (by kernel_rfl) [2, 1] rfl (by decide) (by kernel_rfl) (fun _ _ _ h => h) (by kernel_rfl) ?_ (by assumption) ?_
    · intro W hSw; first | (go_simp; done) | go_simp
    try simp only [Act.put, List.setIfInBounds_toArray, List.set_cons_zero, List.set_cons_succ]
    refine takeK (i := 2) (k := 13) (v := .map (some k)) rfl rfl (by kernel_rfl) (by kernel_rfl) (by kernel_rfl) [2] rfl (by decide) (by kernel_rfl) (fun _ _ _ h => h) (by kernel_rfl) ?_ (by assumption) ?_
    · intro W hSw; obtain ⟨p0, r0, r1, r2⟩ := HC.out.drN hSw; first | (go_simp; done) | go_simp
    try simp only [Act.put, List.setIfInBounds_toArray, List.set_cons_zero, List.set_cons_succ]
    refine takeK (i := 3) (k := 14) (v := .pointer (some ⟨q, 0, none⟩)) rfl rfl (by kernel_rfl) (by kernel_rfl) (by kernel_rfl) [4, 3] rfl (by decide) (by kernel_rfl) (fun _ _ _ h => h) (by kernel_rfl) ?_ (by assumption) ?_
    · intro W hSw; first | (go_simp; done) | go_simp
    try simp only [Act.put, List.setIfInBounds_toArray, List.set_cons_zero, List.set_cons_succ]
    refine takeK (i := 4) (k := 15) (v := .string c1) rfl rfl (by kernel_rfl) (by kernel_rfl) (by kernel_rfl) [4] rfl (by decide) (by kernel_rfl) (fun _ _ _ h => h) (by kernel_rfl) ?_ (by assumption) ?_
    · intro W hSw; obtain ⟨p0, r0, r1, r2⟩ := HC.out.drN hSw; first | (go_simp; done) | go_simp
    try simp only [Act.put, List.setIfInBounds_toArray, List.set_cons_zero, List.set_cons_succ]
    refine oneK (i := 5) (by kernel_rfl) rfl (fun K hK => ?_)
    refine step_bi (by kernel_rfl) (.tmp 13) (.tmp 15) 49 9 rfl rfl rfl hdel ?_
    refine hK.out _ _ (fun h => by have h' : true = false := h; cases h') (fun _ => ?_)
    clear hK K
    try simp only [Act.put, List.setIfInBounds_toArray]
    refine doneK (by kernel_rfl) ?_ _
    clear hdel hm3 hg3 hs3 hHeld HC HT
    obtain ⟨p0, r0, r1, r2⟩ := HT3.out.cells
    change _ = some (Value.pointer (some ⟨ci, 0, none⟩)) at r2
    go_wp2_with fail
    clear p0 r0 r1 r2
    obtain ⟨w4, hst, hm4, hg4, hs4⟩ := HT3.out.drew.map.store (by have := ddel_len (n := c1) (l := l); unfold maxLen; omega) c2 hn2 ci
    have HC := Lib.hid HT3.out.cells
    have HT4 := Lib.hid (HT3.out.drew.next hm4 hg4)
    refine beginK (DrN w3) 7 (by kernel_rfl) ⟨1, rfl⟩ (fun hHeld => ?_)
    refine takeK (i := 0) (k := 19) (v := .pointer (some ⟨bp, 0, none⟩)) rfl rfl (by kernel_rfl) (by kernel_rfl) (by kernel_rfl) [0] rfl (by decide) (by kernel_rfl) (fun _ _ _ h => h) (by kernel_rfl) ?_ (by assumption) ?_
    · intro W hSw; first | (go_simp; done) | go_simp
    try simp only [Act.put, List.setIfInBounds_toArray, List.set_cons_zero, List.set_cons_succ]
    refine takeK (i := 1) (k := 20) (v := .pointer (some ⟨bp, 0, none⟩)) rfl rfl (by kernel_rfl) (by kernel_rfl) (by kernel_rfl) [1] rfl (by decide) (by kernel_rfl) (fun _ _ _ h => h) (by kernel_rfl) ?_ (by assumption) ?_
    · intro W hSw; first | (go_simp; done) | go_simp
    try simp only [Act.put, List.setIfInBounds_toArray, List.set_cons_zero, List.set_cons_succ]
    refine takeK (i := 2) (k := 21) (v := .map (some k)) rfl rfl (by kernel_rfl) (by kernel_rfl) (by kernel_rfl) [2] rfl (by decide) (by kernel_rfl) (fun _ _ _ h => h) (by kernel_rfl) ?_ (by assumption) ?_
    · intro W hSw; obtain ⟨p0, r0, r1, r2⟩ := HC.out.drN hSw; change _ = some (Value.pointer (some ⟨ci, 0, none⟩)) at r2; first | (go_simp; done) | go_simp
    try simp only [Act.put, List.setIfInBounds_toArray, List.set_cons_zero, List.set_cons_succ]
    refine takeK (i := 3) (k := 22) (v := .pointer (some ⟨q, 1, none⟩)) rfl rfl (by kernel_rfl) (by kernel_rfl) (by kernel_rfl) [3] rfl (by decide) (by kernel_rfl) (fun _ _ _ h => h) (by kernel_rfl) ?_ (by assumption) ?_
    · intro W hSw; first | (go_simp; done) | go_simp
    try simp only [Act.put, List.setIfInBounds_toArray, List.set_cons_zero, List.set_cons_succ]
    refine takeK (i := 4) (k := 23) (v := .string c2) rfl rfl (by kernel_rfl) (by kernel_rfl) (by kernel_rfl) [4] rfl (by decide) (by kernel_rfl) (fun _ _ _ h => h) (by kernel_rfl) ?_ (by assumption) ?_
    · intro W hSw; obtain ⟨p0, r0, r1, r2⟩ := HC.out.drN hSw; change _ = some (Value.pointer (some ⟨ci, 0, none⟩)) at r2; first | (go_simp; done) | go_simp
    try simp only [Act.put, List.setIfInBounds_toArray, List.set_cons_zero, List.set_cons_succ]
    refine takeK (i := 5) (k := 24) (v := .pointer (some ⟨q, 2, none⟩)) rfl rfl (by kernel_rfl) (by kernel_rfl) (by kernel_rfl) [5] rfl (by decide) (by kernel_rfl) (fun _ _ _ h => h) (by kernel_rfl) ?_ (by assumption) ?_
    · intro W hSw; first | (go_simp; done) | go_simp
    try simp only [Act.put, List.setIfInBounds_toArray, List.set_cons_zero, List.set_cons_succ]
    refine takeK (i := 6) (k := 25) (v := .pointer (some ⟨ci, 0, none⟩)) rfl rfl (by kernel_rfl) (by kernel_rfl) (by kernel_rfl) [6] rfl (by decide) (by kernel_rfl) (fun _ _ _ h => h) (by kernel_rfl) ?_ (by assumption) ?_
    · intro W hSw; obtain ⟨p0, r0, r1, r2⟩ := HC.out.drN hSw; change _ = some (Value.pointer (some ⟨ci, 0, none⟩)) at r2; first | (go_simp; done) | go_simp
    try simp only [Act.put, List.setIfInBounds_toArray, List.set_cons_zero, List.set_cons_succ]
    refine oneK (i := 7) (by kernel_rfl) rfl (fun K hK => ?_)
    refine step_upd (by kernel_rfl) (.tmp 21) (.tmp 23) (.tmp 25) 49 rfl rfl rfl rfl hst ?_
    refine hK.out _ _ (fun h => by have h' : true = false := h; cases h') (fun _ => ?_)
    clear hK K
    try simp only [Act.put, List.setIfInBounds_toArray]
    refine doneK (by kernel_rfl) ?_ _
    clear hst hm4 hg4 hs4 hHeld HC HT3
    go_wp2
    go_end0
    exact HT4.out.at
  | none =>
    obtain ⟨w1, hw1⟩ : ∃ w1, w.alloc (.cells #[.string c1, .string c2, ptrO (some ci)] 58) = w1 := ⟨_, rfl⟩
    have hs1 : w1.heap.size = w.heap.size + 1 := by rw [← hw1]; simp
    have hr1 : w1.heap[w.heap.size]? = some (.cells #[.string c1, .string c2, ptrO (some ci)] 58 (0, 0)) := by rw [← hw1]; exact heap_alloc_new ..
    have hb1 : Below w.heap.size w w1 := by rw [← hw1]; exact (Below.refl _ _).alloc (Nat.le_refl _) _
    have hm2 := MB.made (w1.setCell ⟨bp, 0, none⟩ (.map (some (w.heap.size + 1))))
    rw [size_set, hs1] at hm2
    have hl0 : l = [] := hm
    have HT : Hid (TakeMid w bp vs t w.heap.size none (w.heap.size + 1) ⟨c1, c2, (some ci)⟩ l ((w1.setCell ⟨bp, 0, none⟩ (.map (some (w.heap.size + 1)))).alloc (.map #[] 0))) := Lib.hid
      ⟨by rw [Below.heap_alloc _ _ _ (by rw [size_set]; omega)]; exact cells_set (by rw [hb1.block bp hbp]; exact h1) _,
        by rw [Below.heap_alloc _ _ _ (by rw [size_set]; omega), Below.heap_setCell _ _ _ _ (by simp; omega)]; exact hr1,
        by rw [hl0]; exact hm2,
        UpdF.of_alloc (UpdF.set (UpdF.of hb1) _ _ _ (.inl rfl)) _, by omega, by omega, .inr (by omega), Nat.le_refl _, hv0⟩
    have hfree : w1.frozen? ⟨bp, 0, none⟩ = false := by rw [hb1.frozen hbp]; exact cells_free h1 0
    have hp1 : w1.cell? ⟨bp, 0, none⟩ = some (.map none) := by rw [hb1.cell hbp]; exact hp0
    clear h1 h2 hm hne hr1 hb1 hm2 hl0 hp0
    have hml : Try.prog.underlying 49 = _ := Try.underlying49
    have hq := fun w => run_eql_map_nil_sl (P := Try.prog) w 49 _ _ none hml
    have hmk : (Instr.makeMap 49 none).run Try.prog w1 = .ok (.map (some (w.heap.size + 1))) (w1.alloc (.map #[] 0)) := by rw [run_makeMap, hs1]
    unfold ptrO at hw1 ⊢
    go_enter Try.func31, Try.ntmps31
    go_wp2_with fail
    obtain ⟨W2, hW2⟩ : ∃ W2, (w1.setCell ⟨bp, 0, none⟩ (.map (some (w.heap.size + 1)))).alloc (.map #[] 0) = W2 := ⟨_, rfl⟩
    rw [hW2] at HT ⊢
    obtain ⟨k, hk⟩ : ∃ k, w.heap.size + 1 = k := ⟨_, rfl⟩
    rw [hk] at HT
    obtain ⟨q, hq2⟩ : ∃ q, w.heap.size = q := ⟨_, rfl⟩
    rw [hq2] at HT ⊢
    clear hW2 hq2 hfree hq hml hp1 hs1 hw1 hk hmk
    obtain ⟨w3, hdel, hm3, hg3, hs3⟩ := HT.out.drew.map.drop c1 hn1 0
    have HC := Lib.hid HT.out.cells
    have HT3 := Lib.hid (HT.out.drew.next hm3 hg3)
    refine beginK (DrN W2) 5 (by kernel_rfl) ⟨1, rfl⟩ (fun hHeld => ?_)
    refine takeK (i := 0) (k := 11) (v := .pointer (some ⟨bp, 0, none⟩)) rfl rfl (by kernel_rfl) (by kernel_rfl) (by kernel_rfl) [2, 1, 0] rfl (by decide) (by kernel_rfl) (fun _ _ _ h => h) (by kernel_rfl) ?_ (by assumption) ?_
    · intro W hSw; first | (go_simp; done) | go_simp
    try simp only [Act.put, List.setIfInBounds_toArray, List.set_cons_zero, List.set_cons_succ]
    refine takeK (i := 1) (k := 12) (v := .pointer (some ⟨bp, 0, none⟩)) rfl rfl (by kernel_rfl) (by kernel_rfl) (by kernel_rfl) [2, 1] rfl (by decide) (by kernel_rfl) (fun _ _ _ h => h) (by kernel_rfl) ?_ (by assumption) ?_
    · intro W hSw; first | (go_simp; done) | go_simp
    try simp only [Act.put, List.setIfInBounds_toArray, List.set_cons_zero, List.set_cons_succ]
    refine takeK (i := 2) (k := 13) (v := .map (some k)) rfl rfl (by kernel_rfl) (by kernel_rfl) (by kernel_rfl) [2] rfl (by decide) (by kernel_rfl) (fun _ _ _ h => h) (by kernel_rfl) ?_ (by assumption) ?_
    · intro W hSw; obtain ⟨p0, r0, r1, r2⟩ := HC.out.drN hSw; first | (go_simp; done) | go_simp
    try simp only [Act.put, List.setIfInBounds_toArray, List.set_cons_zero, List.set_cons_succ]
    refine takeK (i := 3) (k := 14) (v := .pointer (some ⟨q, 0, none⟩)) rfl rfl (by kernel_rfl) (by kernel_rfl) (by kernel_rfl) [4, 3] rfl (by decide) (by kernel_rfl) (fun _ _ _ h => h) (by kernel_rfl) ?_ (by assumption) ?_
    · intro W hSw; first | (go_simp; done) | go_simp
    try simp only [Act.put, List.setIfInBounds_toArray, List.set_cons_zero, List.set_cons_succ]
    refine takeK (i := 4) (k := 15) (v := .string c1) rfl rfl (by kernel_rfl) (by kernel_rfl) (by kernel_rfl) [4] rfl (by decide) (by kernel_rfl) (fun _ _ _ h => h) (by kernel_rfl) ?_ (by assumption) ?_
    · intro W hSw; obtain ⟨p0, r0, r1, r2⟩ := HC.out.drN hSw; first | (go_simp; done) | go_simp
    try simp only [Act.put, List.setIfInBounds_toArray, List.set_cons_zero, List.set_cons_succ]
    refine oneK (i := 5) (by kernel_rfl) rfl (fun K hK => ?_)
    refine step_bi (by kernel_rfl) (.tmp 13) (.tmp 15) 49 9 rfl rfl rfl hdel ?_
    refine hK.out _ _ (fun h => by have h' : true = false := h; cases h') (fun _ => ?_)
    clear hK K
    try simp only [Act.put, List.setIfInBounds_toArray]
    refine doneK (by kernel_rfl) ?_ _
    clear hdel hm3 hg3 hs3 hHeld HC HT
    obtain ⟨p0, r0, r1, r2⟩ := HT3.out.cells
    change _ = some (Value.pointer (some ⟨ci, 0, none⟩)) at r2
    go_wp2_with fail
    clear p0 r0 r1 r2
    obtain ⟨w4, hst, hm4, hg4, hs4⟩ := HT3.out.drew.map.store (by have := ddel_len (n := c1) (l := l); unfold maxLen; omega) c2 hn2 ci
    have HC := Lib.hid HT3.out.cells
    have HT4 := Lib.hid (HT3.out.drew.next hm4 hg4)
    refine beginK (DrN w3) 7 (by kernel_rfl) ⟨1, rfl⟩ (fun hHeld => ?_)
    refine takeK (i := 0) (k := 19) (v := .pointer (some ⟨bp, 0, none⟩)) rfl rfl (by kernel_rfl) (by kernel_rfl) (by kernel_rfl) [0] rfl (by decide) (by kernel_rfl) (fun _ _ _ h => h) (by kernel_rfl) ?_ (by assumption) ?_
    · intro W hSw; first | (go_simp; done) | go_simp
    try simp only [Act.put, List.setIfInBounds_toArray, List.set_cons_zero, List.set_cons_succ]
    refine takeK (i := 1) (k := 20) (v := .pointer (some ⟨bp, 0, none⟩)) rfl rfl (by kernel_rfl) (by kernel_rfl) (by kernel_rfl) [1] rfl (by decide) (by kernel_rfl) (fun _ _ _ h => h) (by kernel_rfl) ?_ (by assumption) ?_
    · intro W hSw; first | (go_simp; done) | go_simp
    try simp only [Act.put, List.setIfInBounds_toArray, List.set_cons_zero, List.set_cons_succ]
    refine takeK (i := 2) (k := 21) (v := .map (some k)) rfl rfl (by kernel_rfl) (by kernel_rfl) (by kernel_rfl) [2] rfl (by decide) (by kernel_rfl) (fun _ _ _ h => h) (by kernel_rfl) ?_ (by assumption) ?_
    · intro W hSw; obtain ⟨p0, r0, r1, r2⟩ := HC.out.drN hSw; change _ = some (Value.pointer (some ⟨ci, 0, none⟩)) at r2; first | (go_simp; done) | go_simp
    try simp only [Act.put, List.setIfInBounds_toArray, List.set_cons_zero, List.set_cons_succ]
    refine takeK (i := 3) (k := 22) (v := .pointer (some ⟨q, 1, none⟩)) rfl rfl (by kernel_rfl) (by kernel_rfl) (by kernel_rfl) [3] rfl (by decide) (by kernel_rfl) (fun _ _ _ h => h) (by kernel_rfl) ?_ (by assumption) ?_
    · intro W hSw; first | (go_simp; done) | go_simp
    try simp only [Act.put, List.setIfInBounds_toArray, List.set_cons_zero, List.set_cons_succ]
    refine takeK (i := 4) (k := 23) (v := .string c2) rfl rfl (by kernel_rfl) (by kernel_rfl) (by kernel_rfl) [4] rfl (by decide) (by kernel_rfl) (fun _ _ _ h => h) (by kernel_rfl) ?_ (by assumption) ?_
    · intro W hSw; obtain ⟨p0, r0, r1, r2⟩ := HC.out.drN hSw; change _ = some (Value.pointer (some ⟨ci, 0, none⟩)) at r2; first | (go_simp; done) | go_simp
    try simp only [Act.put, List.setIfInBounds_toArray, List.set_cons_zero, List.set_cons_succ]
    refine takeK (i := 5) (k := 24) (v := .pointer (some ⟨q, 2, none⟩)) rfl rfl (by kernel_rfl) (by kernel_rfl) (by kernel_rfl) [5] rfl (by decide) (by kernel_rfl) (fun _ _ _ h => h) (by kernel_rfl) ?_ (by assumption) ?_
    · intro W hSw; first | (go_simp; done) | go_simp
    try simp only [Act.put, List.setIfInBounds_toArray, List.set_cons_zero, List.set_cons_succ]
    refine takeK (i := 6) (k := 25) (v := .pointer (some ⟨ci, 0, none⟩)) rfl rfl (by kernel_rfl) (by kernel_rfl) (by kernel_rfl) [6] rfl (by decide) (by kernel_rfl) (fun _ _ _ h => h) (by kernel_rfl) ?_ (by assumption) ?_
    · intro W hSw; obtain ⟨p0, r0, r1, r2⟩ := HC.out.drN hSw; change _ = some (Value.pointer (some ⟨ci, 0, none⟩)) at r2; first | (go_simp; done) | go_simp
    try simp only [Act.put, List.setIfInBounds_toArray, List.set_cons_zero, List.set_cons_succ]
    refine oneK (i := 7) (by kernel_rfl) rfl (fun K hK => ?_)
    refine step_upd (by kernel_rfl) (.tmp 21) (.tmp 23) (.tmp 25) 49 rfl rfl rfl rfl hst ?_
    refine hK.out _ _ (fun h => by have h' : true = false := h; cases h') (fun _ => ?_)
    clear hK K
    try simp only [Act.put, List.setIfInBounds_toArray]
    refine doneK (by kernel_rfl) ?_ _
    clear hst hm4 hg4 hs4 hHeld HC HT3
    go_wp2
    go_end0
    exact HT4.out.at
theorem take_any (w : World) (bp t : Nat) (vs : Array Value) (mb : Option Nat) (l : Dir) (c1 c2 : ByteArray) (fi : Option Nat) (h1 : w.heap[bp]? = some (.cells vs t (0, 0))) (h2 : vs[0]? = some (.map mb)) (hm : MB w mb l) (hne : ∀ k, mb = some k → k ≠ bp) (hl : l.length ≤ 1000000) (hn1 : c1.size ≤ maxLen) (hn2 : c2.size ≤ maxLen) :
    Calls Try.prog 31 #[.pointer (some ⟨bp, 0, none⟩), .agg #[.string c1, .string c2, ptrO fi]] w (TakeAt w bp vs t mb (Chg.run l ⟨c1, c2, fi⟩)) := by
  cases fi with
  | none => exact take_del w bp t vs mb l c1 c2 h1 h2 hm hne hl hn1 hn2
  | some i => exact take_put w bp t vs mb l c1 c2 i h1 h2 hm hne hl hn1 hn2
end Go.Proofs.Ytgeofgdhlbmciaa
