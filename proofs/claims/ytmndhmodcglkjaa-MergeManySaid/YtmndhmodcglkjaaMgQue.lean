/- The queue of a merge: changing places, how many; putting in behind, taking out behind. -/
import Derived.Test.YtmndhmodcglkjaaMgLess
namespace Go.Proofs.Ytmndhmodcglkjaa
set_option linter.unusedVariables false
set_option maxRecDepth 100000
open Go.RowKit
theorem OwnV.setAt {E B : Nat} {w : World} {g n cap : Nat} {vs : List Value} (h : OwnV E B w (.slice (some ⟨g, 0, none⟩) n cap) vs) (j : Nat) (x : Value) : OwnV E B (w.setCell ⟨g, j, none⟩ x) (.slice (some ⟨g, 0, none⟩) n cap) (vs.set j x) := by
  have hn : n = vs.length := by
    rcases h.2 with ⟨e, _⟩ | ⟨_, _, _, e, _⟩
    · simp at e
    · simp at e; exact e.2.1
  subst hn
  have := (World.ownsRow.stored h j x).1
  show World.ownsRow _ _ _ _ _ _ _
  rw [List.length_set]
  exact this
theorem OwnV.cut {E B : Nat} {w : World} {g n cap : Nat} {vs : List Value} (h : OwnV E B w (.slice (some ⟨g, 0, none⟩) n cap) vs) (k : Nat) (hk : k ≤ vs.length) : OwnV E B w (.slice (some ⟨g, 0, none⟩) k cap) (vs.take k) := by
  rcases h.2 with ⟨e, _⟩ | ⟨g', c', cur, e1, e2, e3, e4, e5, e6, e7⟩
  · cases e
  · simp only [Value.slice.injEq, Option.some.injEq, Addr.mk.injEq] at e1
    obtain ⟨⟨rfl, -, -⟩, rfl, rfl⟩ := e1
    have hl : (vs.take k).length = k := by rw [List.length_take]; omega
    refine ⟨by simp, .inr ⟨g, cap, cur, by rw [hl], e2, e3, by rw [hl]; omega, e5, e6, ?_⟩⟩
    rw [hl, Nat.mul_one, ← e7, List.take_take]
    congr 1; omega
theorem sl_hQ (W : World) (a : Option Addr) (n cap k : Nat) (hc : k ≤ cap) :
    (Instr.sliceAt 54 (.slice a n cap) none (some (.int .i64 (k : Int))) none).run Try.prog W = .ok (.slice a k cap) W := by
  have hT : Try.prog.underlying 54 = some (.slice (Try.prog.elem 54)) := by kernel_rfl
  have hS : (sizeOf (Try.prog.elem 54)).run Try.prog W = .ok 1 W := by kernel_rfl
  rw [run_sliceAt_slice (h := hT), run_slice_h (w := W) (t := 54) (a := a) (len := n) (cap := cap) (ht := hT) (kh := .i64) (h := k) (h0 := by omega) (h2 := by omega), hS]
  simp [Result.andThen, sliced, map_add0]
section
variable {F : Nat → Fnt} {w w' : World} {B qb : Nat} {v : Value} {q : List Nat}
/-- The fronts' pointer cells. -/
abbrev pfT : List TypeId := [55]
abbrev qT : List TypeId := [55, 54]
theorem pf_q : ∀ t, t ∈ pfT → t ∈ qT := fun t ht => by
  rw [List.mem_singleton.1 ht]; decide
theorem HQ.rowed {q' : List Nat} (h : HQ F w B qb v q) (u : UpdT pfT B w w') (ho : OwnV 55 B w' v (q'.map fun p => ptrO (some (F p).b))) (hq : ∀ p, p ∈ q' → p ∈ q) : HQ F w' B qb v q' :=
  ⟨u.blk h.var (.inr (by decide)), ho, h.qB, fun p hp => u.blk (h.frs p (hq p hp)) (.inr (by decide))⟩
theorem HQ.rowBlk {g n cap : Nat} (h : HQ F w B qb (.slice (some ⟨g, 0, none⟩) n cap) q) : B ≤ g ∧ ∃ cs, BlkAt w g cs 55 := by
  rcases h.row.2 with ⟨e, _⟩ | ⟨g', c', cur, e1, e2, e3, e4, e5, e6, e7⟩
  · cases e
  · simp only [Value.slice.injEq, Option.some.injEq, Addr.mk.injEq] at e1
    obtain ⟨⟨rfl, -, -⟩, -, -⟩ := e1
    exact ⟨e2, cur, e3⟩
theorem HQ.store {g n cap : Nat} (h : HQ F w B qb (.slice (some ⟨g, 0, none⟩) n cap) q) (i : Nat) (x : Value) : UpdT pfT B w (w.setCell ⟨g, i, none⟩ x) := by
  obtain ⟨h1, cs, h2⟩ := h.rowBlk
  exact (UpdT.refl _ _ _).set h2 (by decide) h1 i x
theorem map_swp (f : Nat → Value) (q : List Nat) (i j : Nat) : ((q.map f).set i (f (q.getD j 0))).set j (f (q.getD i 0)) = (swp q i j).map f := by
  unfold swp; rw [List.map_set, List.map_set]
theorem HQ.swap {g n cap : Nat} (h : HQ F w B qb (.slice (some ⟨g, 0, none⟩) n cap) q) {i j : Nat} (hi : i < q.length) (hj : j < q.length) :
    HQ F ((w.setCell ⟨g, i, none⟩ (ptrO (some (F (q.getD j 0)).b))).setCell ⟨g, j, none⟩ (ptrO (some (F (q.getD i 0)).b))) B qb (.slice (some ⟨g, 0, none⟩) n cap) (swp q i j) ∧
      UpdT pfT B w ((w.setCell ⟨g, i, none⟩ (ptrO (some (F (q.getD j 0)).b))).setCell ⟨g, j, none⟩ (ptrO (some (F (q.getD i 0)).b))) := by
  obtain ⟨h1, cs, h2⟩ := h.rowBlk
  have u1 := h.store i (ptrO (some (F (q.getD j 0)).b))
  have u2 : UpdT pfT B w ((w.setCell ⟨g, i, none⟩ (ptrO (some (F (q.getD j 0)).b))).setCell ⟨g, j, none⟩ (ptrO (some (F (q.getD i 0)).b))) := u1.set (h2.set _) (by decide) h1 j _
  have ho := (h.row.setAt i (ptrO (some (F (q.getD j 0)).b))).setAt j (ptrO (some (F (q.getD i 0)).b))
  rw [map_swp (fun p => ptrO (some (F p).b))] at ho
  exact ⟨h.rowed u2 ho fun p hp => (swp_perm hi hj).mem_iff.1 hp, u2⟩
/-- How a call of the queue leaves it. -/
def QTo (F : Nat → Fnt) (B qb : Nat) (q' : List Nat) (S : List TypeId) (w w' : World) : Prop := (∃ v', HQ F w' B qb v' q') ∧ UpdT S B w w'
set_option maxHeartbeats 4000000 in
theorem qswap_raw (g i j L cap : Nat) (bi bj : Option Addr) (w : World) (hi : i < L) (hj : j < L) (c0 : w.cell? ⟨g, i, none⟩ = some (.pointer bi)) (c1 : w.cell? ⟨g, j, none⟩ = some (.pointer bj)) (f0 : w.frozen? ⟨g, i, none⟩ = false) (c2 : (w.setCell ⟨g, i, none⟩ (.pointer bj)).cell? ⟨g, j, none⟩ = some (.pointer bj)) (f2 : (w.setCell ⟨g, i, none⟩ (.pointer bj)).frozen? ⟨g, j, none⟩ = false) :
    Calls Try.prog 47 #[.slice (some ⟨g, 0, none⟩) L cap, .int .i64 (i : Int), .int .i64 (j : Int)] w fun e w' => e = .returned (.tuple #[]) ∧ w' = ((w.setCell ⟨g, i, none⟩ (.pointer bj)).setCell ⟨g, j, none⟩ (.pointer bi)).drew := by
  have hi0 : (0 : Int) ≤ (i : Int) := by omega
  have hj0 : (0 : Int) ≤ (j : Int) := by omega
  have hiI : (i : Int) < (L : Int) := by omega
  have hjI : (j : Int) < (L : Int) := by omega
  go_enter Try.func47, Try.ntmps47
  go_wp2_with fail
  go_region
  go_wp2_with fail
  first | (go_end0; done) | (go_end0; exact ⟨rfl, rfl⟩) | trace_state
theorem set_cell {w : World} {g : Nat} {cs : Array Value} {t : TypeId} (h : BlkAt w g cs t) (i j : Nat) (x : Value) (hx : w.cell? ⟨g, j, none⟩ = some x) : (w.setCell ⟨g, i, none⟩ x).cell? ⟨g, j, none⟩ = some x ∧ (w.setCell ⟨g, i, none⟩ x).frozen? ⟨g, j, none⟩ = false := by
  refine ⟨?_, (h.set x).free _⟩
  rw [h.at] at hx
  rw [(h.set (o := i) x).at, Array.getElem?_setIfInBounds]
  have := (Array.getElem?_eq_some_iff.1 hx).1
  split
  · subst_vars; rw [if_pos this]
  · exact hx
theorem qswap_any (h : HQ F w B qb v q) {i j : Nat} (hi : i < q.length) (hj : j < q.length) :
    Calls Try.prog 47 #[v, .int .i64 (i : Int), .int .i64 (j : Int)] w fun e w' => e = .returned (.tuple #[]) ∧ HQ F w' B qb v (swp q i j) ∧ UpdT pfT B w w' := by
  rcases h.form with ⟨-, rfl⟩ | ⟨g, cap, rfl, -, -, -, -⟩
  · simp at hi
  · obtain ⟨h1, cs, h2⟩ := h.rowBlk
    obtain ⟨c2, f2⟩ := set_cell h2 i j _ (h.cellAt hj).1
    refine (qswap_raw g i j q.length cap _ _ w hi hj (h.cellAt hi).1 (h.cellAt hj).1 (h.cellAt hi).2.1 c2 f2).mono ?_
    rintro e w' ⟨rfl, rfl⟩
    obtain ⟨k1, k2⟩ := h.swap hi hj
    exact ⟨rfl, k1.below (DrN.below ⟨1, rfl⟩ _), k2.drew⟩
theorem qlen_any (h : HQ F w B qb v q) : Calls Try.prog 19 #[v] w fun e w' => e = .returned (.int .i64 (q.length : Int)) ∧ w' = w := by
  obtain ⟨a, cap, rfl⟩ : ∃ a cap, v = .slice a q.length cap := by
    rcases h.form with ⟨rfl, rfl⟩ | ⟨g, cap, rfl, -⟩
    · exact ⟨_, _, rfl⟩
    · exact ⟨_, _, rfl⟩
  generalize q.length = L
  clear h
  go_enter Try.func19, Try.ntmps19
  go_wp2
  go_ret
  exact ⟨rfl, rfl⟩
set_option maxHeartbeats 4000000 in
theorem qpop_raw (g m L cap qb : Nat) (bp : Nat) (w : World) (hm : L = m + 1) (hcap : L ≤ cap) (hcm : cap ≤ maxLen) (hne : g ≠ qb) (cv : w.cell? ⟨qb, 0, none⟩ = some (.slice (some ⟨g, 0, none⟩) L cap)) (fv : w.frozen? ⟨qb, 0, none⟩ = false) (c1 : w.cell? ⟨g, m, none⟩ = some (.pointer (some ⟨bp, 0, none⟩))) (f1 : w.frozen? ⟨g, m, none⟩ = false)
    (cv2 : (w.setCell ⟨g, m, none⟩ (.pointer none)).cell? ⟨qb, 0, none⟩ = some (.slice (some ⟨g, 0, none⟩) L cap)) (fv2 : (w.setCell ⟨g, m, none⟩ (.pointer none)).frozen? ⟨qb, 0, none⟩ = false) :
    Calls Try.prog 55 #[.pointer (some ⟨qb, 0, none⟩)] w fun e w' => e = .returned (.iface 55 (.pointer (some ⟨bp, 0, none⟩))) ∧ w' = (w.setCell ⟨g, m, none⟩ (.pointer none)).setCell ⟨qb, 0, none⟩ (.slice (some ⟨g, 0, none⟩) m cap) := by
  subst hm
  have hs : ∀ W, (Instr.sliceAt 54 (.slice (some ⟨g, 0, none⟩) (m + 1) cap) none (some (.int .i64 (m : Int))) none).run Try.prog W = .ok (.slice (some ⟨g, 0, none⟩) m cap) W := fun W => sl_hQ W _ _ _ m (by omega)
  have hw1 : IntKind.i64.wrap (((m + 1 : Nat) : Int) - 1) = (m : Int) := by
    unfold maxLen at hcm
    rw [show ((m + 1 : Nat) : Int) - 1 = (m : Int) by omega]
    exact IntWalk.i64_in _ (by omega)
  have hm0 : (0 : Int) ≤ (m : Int) := by omega
  have hmI : (m : Int) < ((m + 1 : Nat) : Int) := by omega
  have hmn : m < m + 1 := by omega
  generalize m + 1 = L at *
  go_enter Try.func55, Try.ntmps55
  go_wp2_with fail
  go_ret
  exact ⟨rfl, rfl⟩
theorem qpop_any (h : HQ F w B qb v q) (h0 : 0 < q.length) :
    Calls Try.prog 55 #[.pointer (some ⟨qb, 0, none⟩)] w fun e w' => e = .returned (.iface 55 (.pointer (some ⟨(F (q.getD (q.length - 1) 0)).b, 0, none⟩))) ∧ QTo F B qb (q.take (q.length - 1)) qT w w' := by
  rcases h.form with ⟨-, rfl⟩ | ⟨g, cap, rfl, -, -, hc, hm⟩
  · simp at h0
  · obtain ⟨h1, cs, h2⟩ := h.rowBlk
    have hne : g ≠ qb := by
      rintro rfl
      have := h.var; unfold BlkAt at this h2; rw [h2] at this; cases this
    have u1 := h.store (q.length - 1) (.pointer none)
    have v1 : BlkAt (w.setCell ⟨g, q.length - 1, none⟩ (.pointer none)) qb #[.slice (some ⟨g, 0, none⟩) q.length cap] 54 := h.var.other _ hne.symm
    have hl : q.length - 1 < q.length := by omega
    refine (qpop_raw g (q.length - 1) q.length cap qb (F (q.getD (q.length - 1) 0)).b w (by omega) hc hm hne (h.var.at 0) (h.var.free 0) (h.cellAt hl).1 (h.cellAt hl).2.1 (v1.at 0) (v1.free 0)).mono ?_
    rintro e w' ⟨rfl, rfl⟩
    have u2 : UpdT qT B w ((w.setCell ⟨g, q.length - 1, none⟩ (.pointer none)).setCell ⟨qb, 0, none⟩ (.slice (some ⟨g, 0, none⟩) (q.length - 1) cap)) := (u1.mono pf_q (Nat.le_refl _)).set v1 (by decide) h.qB 0 _
    refine ⟨rfl, ⟨_, v1.set (.slice (some ⟨g, 0, none⟩) (q.length - 1) cap), ?_, h.qB, fun p hp => u2.blk (h.frs p (List.mem_of_mem_take hp)) (.inr (by decide))⟩, u2⟩
    have ho := (h.row.setAt (q.length - 1) (.pointer none)).cut (q.length - 1) (by rw [List.length_set, List.length_map]; omega)
    rw [List.take_set_of_le (by omega), ← List.map_take] at ho
    exact row_same ho fun k hk => Below.heap_setCell _ _ _ _ (by obtain rfl : g = k := Option.some.inj hk; exact hne)
end
end Go.Proofs.Ytmndhmodcglkjaa
