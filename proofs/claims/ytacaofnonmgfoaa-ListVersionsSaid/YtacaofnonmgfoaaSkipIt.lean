/- skip: the iterator. -/
import Derived.Test.YtacaofnonmgfoaaSkipGet
namespace Go.Proofs.Ytacaofnonmgfoaa
set_option linter.unusedVariables false
open Go.RowKit
/-- Block i is an iterator over the list in block b, that stands at a node, or at none. -/
def ItAt (w : World) (i b : Nat) (p : Option Nat) : Prop := BlkAt w i #[.pointer (some ⟨b, 0, none⟩), ptrO p] 62
theorem ItAt.below {w w' : World} {i b : Nat} {p : Option Nat} (h : ItAt w i b p) (u : Below w.heap.size w w') : ItAt w' i b p := BlkAt.below h u
theorem ItAt.upd {F : Nat → Prop} {w w' : World} {i b : Nat} {p : Option Nat} (h : ItAt w i b p) (u : UpdF F w w') (hn : ¬ F i) : ItAt w' i b p := (u.block i (BlkAt.lt h) hn).trans h
theorem ItAt.goes {w : World} {i b : Nat} {p : Option Nat} (h : ItAt w i b p) (q : Option Nat) : ItAt (w.setCell ⟨i, 1, none⟩ (ptrO q)) i b q := BlkAt.set h (ptrO q)
theorem ItAt.c0 {w : World} {i b : Nat} {p : Option Nat} (h : ItAt w i b p) : w.cell? ⟨i, 0, none⟩ = some (.pointer (some ⟨b, 0, none⟩)) := BlkAt.at h 0
theorem ItAt.c1 {w : World} {i b : Nat} {p : Option Nat} (h : ItAt w i b p) : w.cell? ⟨i, 1, none⟩ = some (ptrO p) := BlkAt.at h 1
theorem ItAt.f1 {w : World} {i b : Nat} {p : Option Nat} (h : ItAt w i b p) : w.frozen? ⟨i, 1, none⟩ = false := BlkAt.free h 1
/-- A call that moves an iterator. -/
def ItTo (w : World) (i b : Nat) (q : Option Nat) (e : Ending) (w' : World) : Prop := e = .returned (.tuple #[]) ∧ ItAt w' i b q ∧ UpdF (fun k => k = i) w w'
theorem ItTo.mk {w w2 : World} {i b : Nat} {p q : Option Nat} (h : ItAt w i b p) (u : Below w.heap.size w w2) : ItAt (w2.setCell ⟨i, 1, none⟩ (ptrO q)) i b q ∧ UpdF (fun k => k = i) w (w2.setCell ⟨i, 1, none⟩ (ptrO q)) :=
  ⟨(h.below u).goes q, (UpdF.of u).set i 1 _ rfl⟩
def BoolRes (w : World) (v : Bool) (e : Ending) (w' : World) : Prop := e = .returned (.bool v) ∧ w = w'
set_option maxHeartbeats 1000000 in
theorem itnil_any (w : World) : Calls Try.prog 32 #[.pointer none] w (BoolRes w true) := by
  go_enter Try.func32, Try.ntmps32
  go_wp2_with fail
  go_ret
  exact ⟨rfl, rfl⟩
set_option maxHeartbeats 1000000 in
theorem itis_any (w : World) (i b : Nat) (p : Option Nat) (h : ItAt w i b p) : Calls Try.prog 32 #[.pointer (some ⟨i, 0, none⟩)] w (BoolRes w false) := by
  have c0 := h.c0
  clear h
  go_enter Try.func32, Try.ntmps32
  go_wp2_with fail
  go_ret
  exact ⟨rfl, rfl⟩
set_option maxHeartbeats 1000000 in
theorem itok_any (w : World) (i b : Nat) (p : Option Nat) (h : ItAt w i b p) : Calls Try.prog 21 #[.pointer (some ⟨i, 0, none⟩)] w (BoolRes w p.isSome) := by
  have c1 := h.c1
  clear h
  cases p
  all_goals
    change _ = some (Value.pointer _) at c1
    go_enter Try.func21, Try.ntmps21
    go_wp2_with fail
    go_ret
    exact ⟨rfl, rfl⟩
set_option maxHeartbeats 1000000 in
theorem itnook_any (w : World) : Calls Try.prog 21 #[.pointer none] w (BoolRes w false) := by
  go_enter Try.func21, Try.ntmps21
  go_wp2_with fail
  go_ret
  exact ⟨rfl, rfl⟩
def NilRes (w : World) (e : Ending) (w' : World) : Prop := e = .returned (.tuple #[]) ∧ w = w'
set_option maxHeartbeats 1000000 in
theorem itnofirst_any (w : World) : Calls Try.prog 15 #[.pointer none] w (NilRes w) := by
  have HI := Lib.hid (itnil_any w)
  go_enter Try.func15, Try.ntmps15
  go_wp2_with fail
  refine HI.out.mono ?_
  rintro e w2 ⟨rfl, rfl⟩
  go_wp2_with fail
  refine bodyPost_ret (results_none (by rfl) _ _ _) rfl ?_
  exact ⟨rfl, rfl⟩
set_option maxHeartbeats 1000000 in
theorem itnolast_any (w : World) : Calls Try.prog 16 #[.pointer none] w (NilRes w) := by
  have HI := Lib.hid (itnil_any w)
  go_enter Try.func16, Try.ntmps16
  go_wp2_with fail
  refine HI.out.mono ?_
  rintro e w2 ⟨rfl, rfl⟩
  go_wp2_with fail
  refine bodyPost_ret (results_none (by rfl) _ _ _) rfl ?_
  exact ⟨rfl, rfl⟩
set_option maxHeartbeats 1000000 in
theorem itnoseek_any (w : World) (s : ByteArray) (q : Int) : Calls Try.prog 19 #[.pointer none, .string s, .int .i64 q] w (NilRes w) := by
  have HI := Lib.hid (itnil_any w)
  go_enter Try.func19, Try.ntmps19
  go_wp2_with fail
  refine HI.out.mono ?_
  rintro e w2 ⟨rfl, rfl⟩
  go_wp2_with fail
  refine bodyPost_ret (results_none (by rfl) _ _ _) rfl ?_
  exact ⟨rfl, rfl⟩
set_option maxHeartbeats 1000000 in
theorem itnonext_any (w : World) : Calls Try.prog 17 #[.pointer none] w (NilRes w) := by
  have HI := Lib.hid (itnook_any w)
  go_enter Try.func17, Try.ntmps17
  go_wp2_with fail
  refine HI.out.mono ?_
  rintro e w2 ⟨rfl, rfl⟩
  go_wp2_with fail
  refine bodyPost_ret (results_none (by rfl) _ _ _) rfl ?_
  exact ⟨rfl, rfl⟩
set_option maxHeartbeats 1000000 in
theorem itnextend_any (w : World) (i b : Nat) (h : ItAt w i b none) : Calls Try.prog 17 #[.pointer (some ⟨i, 0, none⟩)] w (NilRes w) := by
  have HI : Hid (Calls Try.prog 21 #[.pointer (some ⟨i, 0, none⟩)] w (BoolRes w false)) := Lib.hid (itok_any w i b none h)
  clear h
  go_enter Try.func17, Try.ntmps17
  go_wp2_with fail
  refine HI.out.mono ?_
  rintro e w2 ⟨rfl, rfl⟩
  go_wp2_with fail
  refine bodyPost_ret (results_none (by rfl) _ _ _) rfl ?_
  exact ⟨rfl, rfl⟩
set_option maxHeartbeats 1000000 in
theorem itnoprev_any (w : World) : Calls Try.prog 18 #[.pointer none] w (NilRes w) := by
  have HI := Lib.hid (itnook_any w)
  go_enter Try.func18, Try.ntmps18
  go_wp2_with fail
  refine HI.out.mono ?_
  rintro e w2 ⟨rfl, rfl⟩
  go_wp2_with fail
  refine bodyPost_ret (results_none (by rfl) _ _ _) rfl ?_
  exact ⟨rfl, rfl⟩
set_option maxHeartbeats 1000000 in
theorem itprevend_any (w : World) (i b : Nat) (h : ItAt w i b none) : Calls Try.prog 18 #[.pointer (some ⟨i, 0, none⟩)] w (NilRes w) := by
  have HI : Hid (Calls Try.prog 21 #[.pointer (some ⟨i, 0, none⟩)] w (BoolRes w false)) := Lib.hid (itok_any w i b none h)
  clear h
  go_enter Try.func18, Try.ntmps18
  go_wp2_with fail
  refine HI.out.mono ?_
  rintro e w2 ⟨rfl, rfl⟩
  go_wp2_with fail
  refine bodyPost_ret (results_none (by rfl) _ _ _) rfl ?_
  exact ⟨rfl, rfl⟩
set_option maxHeartbeats 1000000 in
theorem itfirst_any (w : World) (i b : Nat) (p : Option Nat) (hi : ItAt w i b p) (ρ : Nat → Option Rl) (hv : Value) (H : List Int) (N : List Nd) (h : SkLay w b ρ hv H N) :
    Calls Try.prog 15 #[.pointer (some ⟨i, 0, none⟩)] w (ItTo w i b (headB N)) := by
  have c : w.cell? ⟨b, 1, none⟩ = some (ptrO (headB N)) := by have := h.front 0 (by omega); rw [h.nx0 (A := [])] at this; exact this
  generalize headB N = T at *
  have HI := Lib.hid (itis_any w i b p hi)
  have HM := Lib.hid (ItTo.mk (q := T) hi (Below.refl _ _))
  have c0 := hi.c0
  have c1 := hi.c1
  have f1 := hi.f1
  clear h hi
  cases T
  all_goals
    change _ = some (Value.pointer _) at c
    go_enter Try.func15, Try.ntmps15
    go_wp2_with fail
    refine HI.out.mono ?_
    rintro e w2 ⟨rfl, rfl⟩
    go_wp2_with fail
    refine bodyPost_ret (results_none (by rfl) _ _ _) rfl ?_
    exact ⟨rfl, HM.out⟩
set_option maxHeartbeats 1000000 in
theorem itlast_any (w : World) (i b : Nat) (p : Option Nat) (hi : ItAt w i b p) (ρ : Nat → Option Rl) (hv : Value) (H : List Int) (N : List Nd) (h : SkLay w b ρ hv H N) :
    Calls Try.prog 16 #[.pointer (some ⟨i, 0, none⟩)] w (ItTo w i b (lastB N)) := by
  have c : w.cell? ⟨b, 9, none⟩ = some (ptrO (lastB N)) := h.at 9
  generalize lastB N = T at *
  have HI := Lib.hid (itis_any w i b p hi)
  have HM := Lib.hid (ItTo.mk (q := T) hi (Below.refl _ _))
  have c0 := hi.c0
  have c1 := hi.c1
  have f1 := hi.f1
  clear h hi
  cases T
  all_goals
    change _ = some (Value.pointer _) at c
    go_enter Try.func16, Try.ntmps16
    go_wp2_with fail
    refine HI.out.mono ?_
    rintro e w2 ⟨rfl, rfl⟩
    go_wp2_with fail
    refine bodyPost_ret (results_none (by rfl) _ _ _) rfl ?_
    exact ⟨rfl, HM.out⟩
set_option maxHeartbeats 1000000 in
theorem itnext_any (w : World) (i b : Nat) (A r : List Nd) (n : Nd) (hi : ItAt w i b (some n.nb)) (ρ : Nat → Option Rl) (hv : Value) (H : List Int) (h : SkLay w b ρ hv H (A ++ n :: r)) :
    Calls Try.prog 17 #[.pointer (some ⟨i, 0, none⟩)] w (ItTo w i b (headB r)) := by
  have hn := h.node A n r rfl
  have hc := nd_cells hn.cell
  have c : w.cell? ⟨n.tb, 0, none⟩ = some (ptrO (headB r)) := by
    rw [cells_at hn.tow, twA_at hn.pos]
    have := h
    rw [← List.singleton_append, ← List.append_assoc] at this
    rw [this.nx0]
  have c5 : w.cell? ⟨n.nb, 5, none⟩ = some (.slice (some ⟨n.tb, 0, none⟩) n.h n.h) := hc.c5
  have hp : (0 : Int) < (n.h : Int) := by have := hn.pos; omega
  generalize headB r = T at *
  have HI : Hid (Calls Try.prog 21 #[.pointer (some ⟨i, 0, none⟩)] w (BoolRes w true)) := Lib.hid (itok_any w i b _ hi)
  have HM := Lib.hid (ItTo.mk (q := T) hi (Below.refl _ _))
  have c1 : w.cell? ⟨i, 1, none⟩ = some (.pointer (some ⟨n.nb, 0, none⟩)) := hi.c1
  have f1 := hi.f1
  clear h hi hn hc
  cases T
  all_goals
    change _ = some (Value.pointer _) at c
    go_enter Try.func17, Try.ntmps17
    go_wp2_with fail
    refine HI.out.mono ?_
    rintro e w2 ⟨rfl, rfl⟩
    go_wp2_with fail
    refine bodyPost_ret (results_none (by rfl) _ _ _) rfl ?_
    exact ⟨rfl, HM.out⟩
set_option maxHeartbeats 1000000 in
theorem itprev_any (w : World) (i b : Nat) (A r : List Nd) (n : Nd) (hi : ItAt w i b (some n.nb)) (ρ : Nat → Option Rl) (hv : Value) (H : List Int) (h : SkLay w b ρ hv H (A ++ n :: r)) :
    Calls Try.prog 18 #[.pointer (some ⟨i, 0, none⟩)] w (ItTo w i b (lastB A)) := by
  have hn := h.node A n r rfl
  have hc := nd_cells hn.cell
  have c : w.cell? ⟨n.nb, 6, none⟩ = some (ptrO (lastB A)) := hc.c6
  generalize lastB A = T at *
  have HI : Hid (Calls Try.prog 21 #[.pointer (some ⟨i, 0, none⟩)] w (BoolRes w true)) := Lib.hid (itok_any w i b _ hi)
  have HM := Lib.hid (ItTo.mk (q := T) hi (Below.refl _ _))
  have c1 : w.cell? ⟨i, 1, none⟩ = some (.pointer (some ⟨n.nb, 0, none⟩)) := hi.c1
  have f1 := hi.f1
  clear h hi hn hc
  cases T
  all_goals
    change _ = some (Value.pointer _) at c
    go_enter Try.func18, Try.ntmps18
    go_wp2_with fail
    refine HI.out.mono ?_
    rintro e w2 ⟨rfl, rfl⟩
    go_wp2_with fail
    refine bodyPost_ret (results_none (by rfl) _ _ _) rfl ?_
    exact ⟨rfl, HM.out⟩
set_option maxHeartbeats 1000000 in
theorem itseek_any (w : World) (i b : Nat) (p : Option Nat) (hi : ItAt w i b p) (ρ : Nat → Option Rl) (hv : Value) (H : List Int) (N : List Nd) (h : SkLay w b ρ hv H N) (s : ByteArray) (q : Int) :
    Calls Try.prog 19 #[.pointer (some ⟨i, 0, none⟩), .string s, .int .i64 q] w (ItTo w i b (headB (restN N ⟨s, q, 1, ⟨#[]⟩, ⟨#[]⟩⟩))) := by
  have HF := Lib.hid (skfind_any w b ρ hv H N h s q 1)
  generalize headB (restN N ⟨s, q, 1, ⟨#[]⟩, ⟨#[]⟩⟩) = T at *
  have HI := Lib.hid (itis_any w i b p hi)
  have HM := Lib.hid (fun w2 hb => ItTo.mk (w2 := w2) (q := T) hi hb)
  have HH := Lib.hid hi
  have c0 := hi.c0
  clear h hi
  go_enter Try.func19, Try.ntmps19
  go_wp2_with fail
  refine HI.out.mono ?_
  rintro e w2 ⟨rfl, rfl⟩
  go_wp2_with fail
  cases T
  all_goals
    refine HF.out.mono ?_
    rintro e w2 ⟨rfl, hb⟩
    have c1 := (HH.out.below hb).c1
    have f1 := (HH.out.below hb).f1
    have HX := Lib.hid (HM.out _ hb)
    clear hb HM HF
    unfold ptrO
    simp only []
    go_wp2_with fail
    refine bodyPost_ret (results_none (by rfl) _ _ _) rfl ?_
    exact ⟨rfl, HX.out⟩
def IterRes (w : World) (b : Nat) (e : Ending) (w' : World) : Prop := e = .returned (.pointer (some ⟨w.heap.size, 0, none⟩)) ∧ ItAt w' w.heap.size b none ∧ Below w.heap.size w w'
set_option maxHeartbeats 1000000 in
theorem skiter_any (w : World) (b : Nat) : Calls Try.prog 23 #[.pointer (some ⟨b, 0, none⟩)] w (IterRes w b) := by
  have HB := Lib.hid ((Below.refl w.heap.size w).alloc (Nat.le_refl _) (.cells #[.pointer (some ⟨b, 0, none⟩), .pointer none] 62))
  go_enter Try.func23, Try.ntmps23
  go_wp2_with fail
  go_ret
  exact ⟨rfl, BlkAt.new w _ _, HB.out⟩
def EntRes (w : World) (x : Ent) (e : Ending) (w' : World) : Prop := e = .returned x.v ∧ Below w.heap.size w w'
set_option maxHeartbeats 1000000 in
set_option maxRecDepth 100000 in
theorem itentry_any (w : World) (i b : Nat) (A r : List Nd) (n : Nd) (hi : ItAt w i b (some n.nb)) (ρ : Nat → Option Rl) (hv : Value) (H : List Int) (h : SkLay w b ρ hv H (A ++ n :: r)) : Calls Try.prog 22 #[.pointer (some ⟨i, 0, none⟩)] w (EntRes w n.e) := by
  have HOK : Hid (∀ W, Below w.heap.size w W → Calls Try.prog 21 #[.pointer (some ⟨i, 0, none⟩)] W (BoolRes W true)) := Lib.hid fun W hW => itok_any W i b _ (hi.below hW)
  have hn := (h.node A n r rfl).cell
  have hb0 := (Below.refl w.heap.size w).alloc (Nat.le_refl _) (.cells #[.string ⟨#[]⟩, .int .i64 0, .int .i64 0, .string ⟨#[]⟩, .string ⟨#[]⟩] 30)
  have c1 : (w.alloc (.cells #[.string ⟨#[]⟩, .int .i64 0, .int .i64 0, .string ⟨#[]⟩, .string ⟨#[]⟩] 30)).cell? ⟨i, 1, none⟩ = some (.pointer (some ⟨n.nb, 0, none⟩)) := (hi.below hb0).c1
  obtain ⟨e0, e1, e2, e3, e4, -, -⟩ := nd_cells (BlkAt.below hn hb0)
  obtain ⟨⟨en, eq, ek, es, ev⟩, nb, tb, nh⟩ := n
  clear hi h hn hb0
  simp only [] at e0 e1 e2 e3 e4 c1 ⊢
  have HB0 := Lib.hid ((Below.refl w.heap.size w).alloc (Nat.le_refl _) (.cells #[.string ⟨#[]⟩, .int .i64 0, .int .i64 0, .string ⟨#[]⟩, .string ⟨#[]⟩] 30))
  obtain ⟨⟨z0, z1, z2, z3, z4⟩, ⟨g0, g1, g2, g3, g4⟩, hz⟩ := Row5.new w (.string ⟨#[]⟩) (.int .i64 0) (.int .i64 0) (.string ⟨#[]⟩) (.string ⟨#[]⟩) 30
  go_enter Try.func22, Try.ntmps22
  go_wp2_with fail
  refine (HOK.out _ HB0.out).mono ?_
  rintro e w2 ⟨rfl, rfl⟩
  go_wp2_with fail
  refine bodyPost_ret (v := Ent.v ⟨en, eq, ek, es, ev⟩) (by simp [results, Try.results22, go_sem, Ent.v]) rfl ⟨rfl, ?_⟩
  exact (Below.refl _ w).alloc (Nat.le_refl _) _
set_option maxHeartbeats 1000000 in
set_option maxRecDepth 100000 in
theorem itnone_any (w : World) (i b : Nat) (hi : ItAt w i b none) : Calls Try.prog 22 #[.pointer (some ⟨i, 0, none⟩)] w (EntRes w Ent.none) := by
  have HOK : Hid (∀ W, Below w.heap.size w W → Calls Try.prog 21 #[.pointer (some ⟨i, 0, none⟩)] W (BoolRes W false)) := Lib.hid fun W hW => itok_any W i b _ (hi.below hW)
  clear hi
  have HB0 := Lib.hid ((Below.refl w.heap.size w).alloc (Nat.le_refl _) (.cells #[.string ⟨#[]⟩, .int .i64 0, .int .i64 0, .string ⟨#[]⟩, .string ⟨#[]⟩] 30))
  obtain ⟨⟨z0, z1, z2, z3, z4⟩, ⟨g0, g1, g2, g3, g4⟩, hz⟩ := Row5.new w (.string ⟨#[]⟩) (.int .i64 0) (.int .i64 0) (.string ⟨#[]⟩) (.string ⟨#[]⟩) 30
  go_enter Try.func22, Try.ntmps22
  go_wp2_with fail
  refine (HOK.out _ HB0.out).mono ?_
  rintro e w2 ⟨rfl, rfl⟩
  go_wp2_with fail
  refine bodyPost_ret (v := Ent.none.v) (by simp [results, Try.results22, go_sem, Ent.v, Ent.none, z0, z1, z2, z3, z4]) rfl ⟨rfl, ?_⟩
  exact (Below.refl _ w).alloc (Nat.le_refl _) _
set_option maxHeartbeats 1000000 in
set_option maxRecDepth 100000 in
theorem itnoentry_any (w : World) : Calls Try.prog 22 #[.pointer none] w (EntRes w Ent.none) := by
  have HOK : Hid (∀ W, Below w.heap.size w W → Calls Try.prog 21 #[.pointer none] W (BoolRes W false)) := Lib.hid fun W hW => itnook_any W
  have HB0 := Lib.hid ((Below.refl w.heap.size w).alloc (Nat.le_refl _) (.cells #[.string ⟨#[]⟩, .int .i64 0, .int .i64 0, .string ⟨#[]⟩, .string ⟨#[]⟩] 30))
  obtain ⟨⟨z0, z1, z2, z3, z4⟩, ⟨g0, g1, g2, g3, g4⟩, hz⟩ := Row5.new w (.string ⟨#[]⟩) (.int .i64 0) (.int .i64 0) (.string ⟨#[]⟩) (.string ⟨#[]⟩) 30
  go_enter Try.func22, Try.ntmps22
  go_wp2_with fail
  refine (HOK.out _ HB0.out).mono ?_
  rintro e w2 ⟨rfl, rfl⟩
  go_wp2_with fail
  refine bodyPost_ret (v := Ent.none.v) (by simp [results, Try.results22, go_sem, Ent.v, Ent.none, z0, z1, z2, z3, z4]) rfl ⟨rfl, ?_⟩
  exact (Below.refl _ w).alloc (Nat.le_refl _) _
end Go.Proofs.Ytacaofnonmgfoaa
