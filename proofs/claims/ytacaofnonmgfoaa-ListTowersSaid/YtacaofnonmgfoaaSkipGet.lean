/- skip: Get, Len, Size; no list. -/
import Derived.Test.YtacaofnonmgfoaaSkipOps
import Derived.Test.YtacaofnonmgfoaaSkipFind
import Derived.Test.YtacaofnonmgfoaaEntFind
import Derived.Test.YtacaofnonmgfoaaEntRow
namespace Go.Proofs.Ytacaofnonmgfoaa
set_option linter.unusedVariables false
open Go.RowKit
def GetRes (w : World) (o : Option Ent) (e : Ending) (w' : World) : Prop := e = .returned (findV o) ∧ Below w.heap.size w w'
set_option maxHeartbeats 4000000 in
set_option maxRecDepth 100000 in
theorem skget_any (w : World) (b : Nat) (ρ : Nat → Option Rl) (hv : Value) (H : List Int) (N : List Nd) (h : SkLay w b ρ hv H N) (s : ByteArray) (q : Int) :
    Calls Try.prog 12 #[.pointer (some ⟨b, 0, none⟩), .string s, .int .i64 q] w (GetRes w (findE (entsN N) s q)) := by
  have hcase := find_at h.ord h.kinds s q
  have HF0 := fun W (hW : Below w.heap.size w W) => skfind_any W b ρ hv H N (h.below hW) s q 9223372036854775807
  change ∀ W, _ → Calls _ _ _ W (PtrRes W (headB (restN N (anyE s q)))) at HF0
  have HZ := Lib.hid (Row5.new w (.string ⟨#[]⟩) (.int .i64 0) (.int .i64 0) (.string ⟨#[]⟩) (.string ⟨#[]⟩) 30)
  have HB0 := Lib.hid ((Below.refl w.heap.size w).alloc (Nat.le_refl _) (.cells #[.string ⟨#[]⟩, .int .i64 0, .int .i64 0, .string ⟨#[]⟩, .string ⟨#[]⟩] 30))
  rcases hcase with ⟨h1, h2⟩ | ⟨n, r, h1, hs⟩
  · rw [h2]
    rw [h1] at HF0
    have HF : Hid (∀ W, Below w.heap.size w W → Calls Try.prog 30 #[.pointer (some ⟨b, 0, none⟩), .string s, .int .i64 q, .int .i64 9223372036854775807] W fun e w' => e = .returned (.pointer none) ∧ Below W.heap.size W w') := Lib.hid HF0
    clear h h1 h2 HF0
    go_enter Try.func12, Try.ntmps12
    go_wp2_with fail
    refine (HF.out _ HB0.out).mono ?_
    rintro e w2 ⟨rfl, hb⟩
    obtain ⟨⟨z0, z1, z2, z3, z4⟩, ⟨g0, g1, g2, g3, g4⟩, hz⟩ := HZ.out.below hb (by simp)
    have HB := Lib.hid (HB0.out.trans (hb.mono (by simp)))
    clear hb HF HB0 HZ
    go_wp2_with fail
    refine bodyPost_ret (v := findV none) (by simp [results, Try.results12, go_sem, findV_none, z0, z1, z2, z3, z4]) rfl ⟨rfl, ?_⟩
    iterate 5 refine Below.setCell ?_ (by simp) _
    exact HB.out
  · have hn : N = aheadN N (anyE s q) ++ n :: r := by rw [← h1, ahead_rest]
    have hnode := h.node _ _ _ hn
    have HN : Hid (BlkAt w n.nb (ndV n.e (twV n) (lastB (aheadN N (anyE s q)))) 56) := Lib.hid hnode.cell
    rw [h1] at HF0
    have HF : Hid (∀ W, Below w.heap.size w W → Calls Try.prog 30 #[.pointer (some ⟨b, 0, none⟩), .string s, .int .i64 q, .int .i64 9223372036854775807] W fun e w' => e = .returned (.pointer (some ⟨n.nb, 0, none⟩)) ∧ Below W.heap.size W w') := Lib.hid HF0
    generalize lastB (aheadN N (anyE s q)) = pv at *
    clear h h1 HF0 hn hnode
    obtain ⟨⟨en, eq, ek, es, ev⟩, nb, tb, nh⟩ := n
    simp only [] at hs HN HF
    rcases hs with ⟨hne, hf⟩ | ⟨heq, hf⟩
    · have hnn := bs_ne hne
      rw [hf]
      clear hf
      go_enter Try.func12, Try.ntmps12
      go_wp2_with fail
      refine (HF.out _ HB0.out).mono ?_
      rintro e w2 ⟨rfl, hb⟩
      obtain ⟨⟨z0, z1, z2, z3, z4⟩, ⟨g0, g1, g2, g3, g4⟩, hz⟩ := HZ.out.below hb (by simp)
      obtain ⟨c0, c1, c2, c3, c4, -, -⟩ := nd_cells (HN.out.below (HB0.out.trans (hb.mono (by simp))))
      simp only [] at c0 c1 c2 c3 c4
      have HB := Lib.hid (HB0.out.trans (hb.mono (by simp)))
      clear hb HF HB0 HZ HN
      go_wp2_with fail
      refine bodyPost_ret (v := findV (none)) (by simp [results, Try.results12, go_sem, findV_none, z0, z1, z2, z3, z4]) rfl ⟨rfl, ?_⟩
      iterate 5 refine Below.setCell ?_ (by simp) _
      exact HB.out
    · subst heq
      rw [hf]
      clear hf
      go_enter Try.func12, Try.ntmps12
      go_wp2_with fail
      refine (HF.out _ HB0.out).mono ?_
      rintro e w2 ⟨rfl, hb⟩
      obtain ⟨⟨z0, z1, z2, z3, z4⟩, ⟨g0, g1, g2, g3, g4⟩, hz⟩ := HZ.out.below hb (by simp)
      obtain ⟨c0, c1, c2, c3, c4, -, -⟩ := nd_cells (HN.out.below (HB0.out.trans (hb.mono (by simp))))
      simp only [] at c0 c1 c2 c3 c4
      have HB := Lib.hid (HB0.out.trans (hb.mono (by simp)))
      clear hb HF HB0 HZ HN
      go_wp2_with fail
      refine bodyPost_ret (v := findV (some ⟨en, eq, ek, es, ev⟩)) (by simp [results, Try.results12, go_sem, findV_some, z0, z1, z2, z3, z4]) rfl ⟨rfl, ?_⟩
      iterate 5 refine Below.setCell ?_ (by simp) _
      exact HB.out
set_option maxHeartbeats 1000000 in
set_option maxRecDepth 100000 in
theorem sknoget_any (w : World) (s : ByteArray) (q : Int) : Calls Try.prog 12 #[.pointer none, .string s, .int .i64 q] w (GetRes w none) := by
  have HF : Hid (∀ W, Calls Try.prog 30 #[.pointer none, .string s, .int .i64 q, .int .i64 9223372036854775807] W fun e w' => e = .returned (.pointer none) ∧ Below W.heap.size W w') := Lib.hid fun W => sknofind_any W s q _
  have HZ := Lib.hid (Row5.new w (.string ⟨#[]⟩) (.int .i64 0) (.int .i64 0) (.string ⟨#[]⟩) (.string ⟨#[]⟩) 30)
  have HB0 := Lib.hid ((Below.refl w.heap.size w).alloc (Nat.le_refl _) (.cells #[.string ⟨#[]⟩, .int .i64 0, .int .i64 0, .string ⟨#[]⟩, .string ⟨#[]⟩] 30))
  go_enter Try.func12, Try.ntmps12
  go_wp2_with fail
  refine (HF.out _).mono ?_
  rintro e w2 ⟨rfl, hb⟩
  obtain ⟨⟨z0, z1, z2, z3, z4⟩, ⟨g0, g1, g2, g3, g4⟩, hz⟩ := HZ.out.below hb (by simp)
  have HB := Lib.hid (HB0.out.trans (hb.mono (by simp)))
  clear hb HF HB0 HZ
  go_wp2_with fail
  refine bodyPost_ret (v := findV none) (by simp [results, Try.results12, go_sem, findV_none, z0, z1, z2, z3, z4]) rfl ⟨rfl, ?_⟩
  iterate 5 refine Below.setCell ?_ (by simp) _
  exact HB.out
set_option maxHeartbeats 1000000 in
theorem sklen_any (w : World) (b : Nat) (ρ : Nat → Option Rl) (hv : Value) (H : List Int) (N : List Nd) (h : SkLay w b ρ hv H N) :
    Calls Try.prog 14 #[.pointer (some ⟨b, 0, none⟩)] w fun e w' => e = .returned (.int .i64 (N.length : Int)) ∧ w = w' := by
  have c : w.cell? ⟨b, 10, none⟩ = some (.int .i64 (N.length : Int)) := h.at 10
  generalize (N.length : Int) = n at *
  clear h
  go_enter Try.func14, Try.ntmps14
  go_wp2_with fail
  go_ret
  exact ⟨rfl, rfl⟩
set_option maxHeartbeats 1000000 in
theorem sknolen_any (w : World) : Calls Try.prog 14 #[.pointer none] w fun e w' => e = .returned (.int .i64 0) ∧ w = w' := by
  go_enter Try.func14, Try.ntmps14
  go_wp2_with fail
  go_ret
  exact ⟨rfl, rfl⟩
set_option maxHeartbeats 1000000 in
theorem sksize_any (w : World) (b : Nat) (ρ : Nat → Option Rl) (hv : Value) (H : List Int) (N : List Nd) (h : SkLay w b ρ hv H N) :
    Calls Try.prog 20 #[.pointer (some ⟨b, 0, none⟩)] w fun e w' => e = .returned (.int .i64 (szA (entsN N) : Nat)) ∧ w = w' := by
  have c : w.cell? ⟨b, 11, none⟩ = some (.int .i64 (szA (entsN N) : Nat)) := h.at 11
  generalize ((szA (entsN N) : Nat) : Int) = n at *
  clear h
  go_enter Try.func20, Try.ntmps20
  go_wp2_with fail
  go_ret
  exact ⟨rfl, rfl⟩
set_option maxHeartbeats 1000000 in
theorem sknosize_any (w : World) : Calls Try.prog 20 #[.pointer none] w fun e w' => e = .returned (.int .i64 0) ∧ w = w' := by
  go_enter Try.func20, Try.ntmps20
  go_wp2_with fail
  go_ret
  exact ⟨rfl, rfl⟩
end Go.Proofs.Ytacaofnonmgfoaa
