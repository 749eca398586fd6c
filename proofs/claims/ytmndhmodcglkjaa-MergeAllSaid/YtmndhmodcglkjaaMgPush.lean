/- The queue of a merge: putting in behind. -/
import Derived.Test.YtmndhmodcglkjaaMgQue
namespace Go.Proofs.Ytmndhmodcglkjaa
set_option linter.unusedVariables false
set_option maxRecDepth 100000
open Go.RowKit
def encPt (F : Nat → Fnt) (p : Nat) : List Value := [ptrO (some (F p).b)]
theorem encPt_len (F : Nat → Fnt) : EncK (encPt F) 1 := fun _ => rfl
theorem encPt_flat (F : Nat → Fnt) (q : List Nat) : q.flatMap (encPt F) = q.map fun p => ptrO (some (F p).b) := by
  induction q with
  | nil => rfl
  | cons p q ih => rw [List.flatMap_cons, ih]; rfl
theorem elemK_pf : ElemK Try.prog 54 55 1 8 (.pointer none) := ⟨by kernel_rfl, by kernel_rfl, rfl, by decide⟩
theorem pf_rows {F : Nat → Fnt} {B : Nat} {w : World} {v : Value} {q : List Nat} : OwnV 55 B w v (q.map fun p => ptrO (some (F p).b)) ↔ OwnK (encPt F) 1 55 B w v q := by
  unfold OwnK OwnV
  rw [encPt_flat, List.length_map]
section
variable {F : Nat → Fnt} {w w' : World} {B qb : Nat} {v : Value} {q : List Nat}
set_option maxHeartbeats 4000000 in
theorem ta_pf (x : Value) (W : World) : (Instr.typeAssert (.iface 55 x) 20 55 false).run Try.prog W = .ok x W := by kernel_rfl
set_option maxHeartbeats 4000000 in
theorem qpush_raw (a a' : Option Addr) (n c n' c' qb bp : Nat) (w wq : World) (cv : w.cell? ⟨qb, 0, none⟩ = some (.slice a n c)) (fq : BlkAt wq qb #[.slice a n c] 54)
    (hrun : (Builtin.append_ #[54, 54] 54 #[.slice a n c, .slice (some ⟨w.drew.heap.size, 0, none⟩) 1 1]).run Try.prog (w.drew.alloc (.cells #[.pointer (some ⟨bp, 0, none⟩)] 55)) = .ok (.slice a' n' c') wq)
    (HSA : (w.drew.alloc (.cells #[.pointer (some ⟨bp, 0, none⟩)] 55)).heap[qb]? = w.heap[qb]?) (HSR : wq.heap[qb]? = w.heap[qb]?) :
    Calls Try.prog 56 #[.pointer (some ⟨qb, 0, none⟩), .iface 55 (.pointer (some ⟨bp, 0, none⟩))] w fun e w' => e = .returned (.tuple #[]) ∧ w' = wq.setCell ⟨qb, 0, none⟩ (.slice a' n' c') := by
  have hta := ta_pf (.pointer (some ⟨bp, 0, none⟩))
  have hS0 : w.drew.heap[qb]? = w.heap[qb]? := rfl
  have HSA' := Lib.hid HSA
  have HSR' := Lib.hid HSR
  have HQ' := Lib.hid fq
  clear HSA HSR fq
  go_enter Try.func56, Try.ntmps56
  go_wp2_with fail
  refine beginK (fun W => W.heap[qb]? = w.heap[qb]?) 9 (by kernel_rfl) hS0 (fun hHeld => ?_)
  refine takeK (i := 0) (k := 4) (v := .pointer (some ⟨qb, 0, none⟩)) rfl rfl (by kernel_rfl) (by kernel_rfl) (by kernel_rfl) [0] rfl (by decide) (by kernel_rfl) (fun _ _ _ h => h) (by kernel_rfl) ?_ (by assumption) ?_
  · intro W hSw; first | (go_simp; done) | go_simp
  try simp only [Act.put, List.setIfInBounds_toArray, List.set_cons_zero, List.set_cons_succ]
  refine takeK (i := 1) (k := 5) (v := .pointer (some ⟨qb, 0, none⟩)) rfl rfl (by kernel_rfl) (by kernel_rfl) (by kernel_rfl) [1] rfl (by decide) (by kernel_rfl) (fun _ _ _ h => h) (by kernel_rfl) ?_ (by assumption) ?_
  · intro W hSw; first | (go_simp; done) | go_simp
  try simp only [Act.put, List.setIfInBounds_toArray, List.set_cons_zero, List.set_cons_succ]
  refine takeK (i := 2) (k := 6) (v := .pointer (some ⟨qb, 0, none⟩)) rfl rfl (by kernel_rfl) (by kernel_rfl) (by kernel_rfl) [2] rfl (by decide) (by kernel_rfl) (fun _ _ _ h => h) (by kernel_rfl) ?_ (by assumption) ?_
  · intro W hSw; first | (go_simp; done) | go_simp
  try simp only [Act.put, List.setIfInBounds_toArray, List.set_cons_zero, List.set_cons_succ]
  refine takeK (i := 3) (k := 7) (v := .slice a n c) rfl rfl (by kernel_rfl) (by kernel_rfl) (by kernel_rfl) [3] rfl (by decide) (by kernel_rfl) (fun _ _ _ h => h) (by kernel_rfl) ?_ (by assumption) ?_
  · intro W hSw; have d0 := (World.cell?_of_block (a := ⟨qb, 0, none⟩) hSw).trans cv; first | (go_simp; done) | go_simp
  try simp only [Act.put, List.setIfInBounds_toArray, List.set_cons_zero, List.set_cons_succ]
  refine takeK (i := 4) (k := 8) (v := .iface 55 (.pointer (some ⟨bp, 0, none⟩))) rfl rfl (by kernel_rfl) (by kernel_rfl) (by kernel_rfl) [4] rfl (by decide) (by kernel_rfl) (fun _ _ _ h => h) (by kernel_rfl) ?_ (by assumption) ?_
  · intro W hSw; first | (go_simp; done) | go_simp
  try simp only [Act.put, List.setIfInBounds_toArray, List.set_cons_zero, List.set_cons_succ]
  refine takeK (i := 5) (k := 9) (v := .pointer (some ⟨bp, 0, none⟩)) rfl rfl (by kernel_rfl) (by kernel_rfl) (by kernel_rfl) [5] rfl (by decide) (by kernel_rfl) (fun _ _ _ h => h) (by kernel_rfl) ?_ (by assumption) ?_
  · intro W hSw; first | (go_simp; done) | go_simp
  try simp only [Act.put, List.setIfInBounds_toArray, List.set_cons_zero, List.set_cons_succ]
  clear hHeld cv
  refine oneK (i := 6) (by kernel_rfl) rfl (fun K hK => ?_)
  go_simp
  refine hK.out _ _ (fun _ => HSA'.out) (fun _ => ?_)
  clear hK K
  try simp only [Act.put, List.setIfInBounds_toArray, List.set_cons_zero, List.set_cons_succ]
  refine oneK (i := 7) (by kernel_rfl) rfl (fun K hK => ?_)
  refine step_appD 11 rfl (by kernel_rfl) (.tmp 7) (.tmp 10) 54 rfl rfl rfl hrun ?_
  refine hK.out _ _ (fun _ => HSR'.out) (fun _ => ?_)
  clear hK K hrun HSA'
  try simp only [Act.put, List.setIfInBounds_toArray, List.set_cons_zero, List.set_cons_succ]
  refine oneK (i := 8) (by kernel_rfl) rfl (fun K hK => ?_)
  go_simp
  refine hK.out _ _ (fun _ => HSR'.out) (fun _ => ?_)
  clear hK K
  try simp only [Act.put, List.setIfInBounds_toArray, List.set_cons_zero, List.set_cons_succ]
  have e0 := HQ'.out.at 0
  have f0 := HQ'.out.free 0
  refine oneK (i := 9) (by kernel_rfl) rfl (fun K hK => ?_)
  go_simp
  refine hK.out _ _ (fun h => by have h' : true = false := h; cases h') (fun _ => ?_)
  clear hK K
  try simp only [Act.put, List.setIfInBounds_toArray, List.set_cons_zero, List.set_cons_succ]
  refine doneK (by kernel_rfl) ?_ _
  clear e0 f0
  go_wp2_with fail
  first | (go_end0; done) | (go_end0; exact ⟨rfl, rfl⟩) | trace_state
theorem qpush_any (h : HQ F w B qb v q) (p : Nat) (hp : BlkAt w (F p).b (frC (F p) p) 57) (hlen : q.length ≤ 1000000000000) (hB : B ≤ w.heap.size) :
    Calls Try.prog 56 #[.pointer (some ⟨qb, 0, none⟩), .iface 55 (.pointer (some ⟨(F p).b, 0, none⟩))] w fun e w' => e = .returned (.tuple #[]) ∧ QTo F B qb (q ++ [p]) qT w w' := by
  obtain ⟨a, c, rfl⟩ : ∃ a c, v = .slice a q.length c := by
    rcases h.form with ⟨rfl, rfl⟩ | ⟨g, cap, rfl, -⟩
    · exact ⟨_, _, rfl⟩
    · exact ⟨_, _, rfl⟩
  obtain ⟨v', wq, hrun, o, b, u, hn⟩ := run_oneK (ty := 54) (w := w.drew) elemK_pf (encPt_len F) (B := B) (pf_rows.1 (OwnV.drew h.row)) p (fun u hu => by rcases List.mem_cons.1 hu with rfl | hu; rfl; cases hu) (by omega) (by unfold maxLen; omega) hB
  have hqn : ∀ g, (Value.slice a q.length c).ownBlock = some g → g ≠ qb := by
    rintro g hg rfl
    rcases h.form with ⟨e, -⟩ | ⟨g', cap, e, -⟩
    · rw [e] at hg; cases hg
    · simp only [Value.slice.injEq] at e
      obtain ⟨rfl, -, rfl⟩ := e
      obtain rfl : g' = g := Option.some.inj hg
      obtain ⟨-, cs, k⟩ := h.rowBlk
      have := h.var; unfold BlkAt at this k; rw [k] at this; cases this
  have hsr : wq.heap[qb]? = w.heap[qb]? := u.block qb h.var.lt fun e => hqn qb e rfl
  have uT : UpdT qT B w wq := by
    refine ⟨u.os, u.tape, u.output, u.size, fun k hk hk2 => u.block k hk fun e => hk2 ?_⟩
    rcases h.form with ⟨e1, -⟩ | ⟨g', cap, e1, -⟩
    · rw [e1] at e; cases e
    · simp only [Value.slice.injEq] at e1
      obtain ⟨rfl, -, rfl⟩ := e1
      obtain rfl : g' = k := Option.some.inj e
      obtain ⟨k1, cs, k2⟩ := h.rowBlk
      exact ⟨k1, cs, _, _, k2, by decide⟩
  have uP : UpdT pfT B w wq := by
    refine ⟨u.os, u.tape, u.output, u.size, fun k hk hk2 => u.block k hk fun e => hk2 ?_⟩
    rcases h.form with ⟨e1, -⟩ | ⟨g', cap, e1, -⟩
    · rw [e1] at e; cases e
    · simp only [Value.slice.injEq] at e1
      obtain ⟨rfl, -, rfl⟩ := e1
      obtain rfl : g' = k := Option.some.inj e
      obtain ⟨k1, cs, k2⟩ := h.rowBlk
      exact ⟨k1, cs, _, _, k2, by decide⟩
  obtain ⟨a', c', hv', -, -⟩ := o.kform
  subst hv'
  have hv : BlkAt wq qb #[.slice a q.length c] 54 := uP.blk h.var (.inr (by decide))
  refine (qpush_raw a a' q.length c (q ++ [p]).length c' qb (F p).b w wq (h.var.at 0) hv hrun (((Below.refl _ w.drew).alloc (Nat.le_refl _) _).block qb h.var.lt) hsr).mono ?_
  rintro e w' ⟨rfl, rfl⟩
  have u2 := uT.set hv (by decide) h.qB 0 (.slice a' (q ++ [p]).length c')
  refine ⟨rfl, ⟨_, hv.set _, ?_, h.qB, fun x hx => u2.blk ?_ (.inr (by decide))⟩, u2⟩
  · refine row_same (pf_rows.2 o) fun k hk => Below.heap_setCell _ _ _ _ ?_
    rintro rfl
    rcases (pf_rows.2 o).2 with ⟨e, -⟩ | ⟨g', cap, cur, e, -, k2, -⟩
    · rw [e] at hk; cases hk
    · rw [e] at hk
      obtain rfl : g' = k := Option.some.inj hk
      unfold BlkAt at hv; rw [k2] at hv; cases hv
  · rcases List.mem_append.1 hx with hx | hx
    · exact h.frs x hx
    · rw [List.mem_singleton.1 hx]; exact hp
end
end Go.Proofs.Ytmndhmodcglkjaa
