/- skip: All. -/
import Derived.Test.YtacaofnonmgfoaaSkipIt
import Derived.Test.YtacaofnonmgfoaaEntAll
import Derived.Laws.OwnMore
import Derived.Deep.OwnRows
namespace Go.Proofs.Ytacaofnonmgfoaa
set_option linter.unusedVariables false
open Go.RowKit
/-- 'make([]T, 0, n)'. -/
theorem mkZ_run {α : Type} {enc : α → List Value} {P : Program} {t E k bytes : Nat} {z : Value} (F : ElemK P t E k bytes z) (n : Nat) (hn : n * bytes ≤ 281474976710656) (hm : n ≤ maxLen) (w : World) :
    (Instr.makeSlice t (.int .i64 0) (.int .i64 (n : Int))).run P w = .ok (.slice (some ⟨w.heap.size, 0, none⟩) 0 n) (w.alloc (.cells (madeCells z.cells (n * k)) E)) := by
  obtain ⟨f1, f3, f4, i0, hi, hz0, hz1, hz2⟩ := F.parts
  have h63' : (n : Int) ≤ 9223372036854775807 := by simp only [maxLen] at hm; omega
  have hb' : (i0.bytes : Int) * (n : Int) ≤ 281474976710656 := by rw [hz2, ← Int.natCast_mul, Nat.mul_comm]; omega
  have hr := run_make (P := P) w t E i0 z f1 hi hz0 .i64 .i64 0 n (Int.le_refl _) (by omega) hb' h63'
  simp only [Int.toNat_natCast, hz1, Int.toNat_zero] at hr
  exact hr
theorem mkZ_own {α : Type} {enc : α → List Value} {k E : Nat} (z : Array Value) (n : Nat) (hm : n ≤ maxLen) (w : World) :
    OwnK enc k E w.heap.size (w.alloc (.cells (madeCells z (n * k)) E)) (.slice (some ⟨w.heap.size, 0, none⟩) 0 n) [] :=
  ⟨by simp, .inr ⟨w.heap.size, n, madeCells z (n * k), rfl, Nat.le_refl _, heap_alloc_new .., Nat.zero_le _, hm, size_madeCells _ _, by simp⟩⟩
def RowE (w : World) (l : List Ent) (e : Ending) (w' : World) : Prop := ∃ v, e = .returned v ∧ OwnK encEnt 5 30 w.heap.size w' v l ∧ Below w.heap.size w w'
set_option maxHeartbeats 4000000 in
set_option maxRecDepth 100000 in
theorem skall_any (w : World) (b : Nat) (ρ : Nat → Option Rl) (hv : Value) (H : List Int) (N : List Nd) (h : SkLay w b ρ hv H N) :
    Calls Try.prog 11 #[.pointer (some ⟨b, 0, none⟩)] w (RowE w (entsN N)) := by
  have HL := Lib.hid h
  obtain ⟨L, hL⟩ : ∃ L, entsN N = L := ⟨_, rfl⟩
  rw [hL]
  have HLL := Lib.hid hL
  obtain ⟨n, hn⟩ : ∃ n, N.length = n := ⟨_, rfl⟩
  have HN := Lib.hid hn
  have hfew : n ≤ 1000000000 := by rw [← hn]; exact h.few
  have c10 : w.cell? ⟨b, 10, none⟩ = some (.int .i64 (n : Int)) := by rw [← hn]; exact h.at 10
  have hmk : (Instr.makeSlice 23 (.int .i64 0) (.int .i64 (n : Int))).run Try.prog w = .ok (.slice (some ⟨w.heap.size, 0, none⟩) 0 n) (w.alloc (.cells (madeCells #[.string ⟨#[]⟩, .int .i64 0, .int .i64 0, .string ⟨#[]⟩, .string ⟨#[]⟩] (n * 5)) 30)) := mkZ_run (enc := encEnt) elem_ent n (by omega) (by unfold maxLen; omega) w
  have hzo := mkZ_own (enc := encEnt) (E := 30) (k := 5) #[.string ⟨#[]⟩, .int .i64 0, .int .i64 0, .string ⟨#[]⟩, .string ⟨#[]⟩] n (by unfold maxLen; omega) w
  have hzb := (Below.refl w.heap.size w).alloc (Nat.le_refl _) (.cells (madeCells #[.string ⟨#[]⟩, .int .i64 0, .int .i64 0, .string ⟨#[]⟩, .string ⟨#[]⟩] (n * 5)) 30)
  obtain ⟨W1, hW1⟩ : ∃ W1, w.alloc (.cells (madeCells #[.string ⟨#[]⟩, .int .i64 0, .int .i64 0, .string ⟨#[]⟩, .string ⟨#[]⟩] (n * 5)) 30) = W1 := ⟨_, rfl⟩
  rw [hW1] at hmk hzo hzb
  have HZ := Lib.hid (⟨hzo, hzb⟩ : OwnK encEnt 5 30 w.heap.size W1 (.slice (some ⟨w.heap.size, 0, none⟩) 0 n) [] ∧ Below w.heap.size w W1)
  have hfr := (h.below hzb).front 0 (by omega)
  have e0 := h.nx0 (A := [])
  rw [e0] at hfr
  obtain ⟨tp, htp⟩ : ∃ tp, (headB N).map (fun k => (⟨k, 0, none⟩ : Addr)) = tp := ⟨_, rfl⟩
  rw [ptrO_map, htp, Nat.add_zero] at hfr
  have HTP := Lib.hid htp
  clear h hL hn hzo hzb hW1 e0 htp
  go_enter Try.func11, Try.ntmps11
  go_wp2_with fail
  clear hmk c10 hfr
  go_loopg [3, 4] N.length (fun kk vo vp wr => ∃ (P R : List Nd) (rp : Option Addr), vp = .pointer rp ∧ R.length ≤ kk ∧ Hid (N = P ++ R ∧ (headB R).map (fun k => (⟨k, 0, none⟩ : Addr)) = rp ∧ OwnK encEnt 5 30 w.heap.size wr vo (entsN P) ∧ Below w.heap.size w wr))
  case atStart => exact ⟨[], N, tp, rfl, Nat.le_refl _, Lib.hid ⟨rfl, HTP.out, HZ.out.1, HZ.out.2⟩⟩
  case round =>
    clear HZ HTP
    obtain ⟨P, R, rp, rfl, hk, HR⟩ := hrel
    obtain ⟨hN, hrp, ho, hb⟩ := HR.out
    rcases head_cases R with hR | ⟨y, r, hR⟩
    · have hr0 : rp = none := by rw [← hrp, hR]; rfl
      have HE : Hid (entsN P = L) := Lib.hid (by rw [← HLL.out, hN, hR, List.append_nil])
      subst hr0
      clear hN hrp ho hb hR hk
      go_wp2_with fail
      go_ret
      exact ⟨_, rfl, by rw [← HE.out]; exact HR.out.2.2.1, HR.out.2.2.2⟩
    · have hr0 : rp = some ⟨y.nb, 0, none⟩ := by rw [← hrp, hR]; rfl
      have hlen : r.length < R.length := by rw [hR]; simp
      subst hr0
      have e1 : N = P ++ y :: r := by rw [hN, hR]
      have e2 : N = (P ++ [y]) ++ r := by rw [e1]; simp
      have hlay := HL.out.below hb
      rw [e1] at hlay
      have hnode := hlay.node P y r rfl
      obtain ⟨c0, c1, c2, c3, c4, c5, -⟩ := nd_cells hnode.cell
      have HND : Hid (∀ W, Below w.heap.size w W → BlkAt W y.nb (ndV y.e (twV y) (lastB P)) 56 ∧ CellAt W y.tb 0 (ptrO (headB r))) := Lib.hid fun W hW => by
        have hl2 := HL.out.below hW
        rw [e1] at hl2
        have hn2 := hl2.node P y r rfl
        refine ⟨hn2.cell, ?_, hl2.top _ (by rw [hn2.trole]; simp)⟩
        rw [cells_at hn2.tow, twA_at hn2.pos]
        rw [← List.singleton_append, ← List.append_assoc] at hl2
        rw [hl2.nx0]
      have hpos := hnode.pos
      have HP : Hid (P.length + 1 ≤ 1000000000) := Lib.hid (by have := HL.out.few; rw [e1, List.length_append, List.length_cons] at this; omega)
      have HS2 := Lib.hid e2
      obtain ⟨⟨en, eq, ek, es, ev⟩, nb, tb, nh⟩ := y
      simp only [] at c0 c1 c2 c3 c4 c5 HND hpos
      unfold twV at c5
      simp only [] at c5
      have hposi : (0 : Int) < (nh : Int) := by omega
      have HO : Hid (OwnK encEnt 5 30 w.heap.size wr _ (entsN P) ∧ Below w.heap.size w wr) := Lib.hid ⟨ho, hb⟩
      have hlp : (entsN P).length = P.length := List.length_map _
      clear hN hrp ho hb hR e1 e2 hlay hnode HR c5
      go_wp2_with (at_builtin; refine wp_appHK elem_ent encEnt_len _ _ (by rfl) (by rfl) (by rfl) HO.out.1 ⟨en, eq, ek, es, ev⟩ _ (by rfl) (by rfl) ?c1 ?c2 ?c3 ?c4 ?_)
      case c1 => exact enc_cells _
      case c2 => have := HP.out; omega
      case c3 => have := HP.out; unfold maxLen; omega
      case c4 => exact HO.out.2.size
      intro v' w3 o3 b3
      have HO3 : Hid (OwnK encEnt 5 30 w.heap.size w3 v' (entsN (P ++ [⟨⟨en, eq, ek, es, ev⟩, nb, tb, nh⟩])) ∧ Below w.heap.size w w3) := Lib.hid ⟨by
        have e5 : entsN (P ++ [⟨⟨en, eq, ek, es, ev⟩, nb, tb, nh⟩]) = entsN P ++ [⟨en, eq, ek, es, ev⟩] := by unfold entsN; rw [List.map_append]; rfl
        rw [e5]; exact o3, HO.out.2.trans b3⟩
      obtain ⟨n1, n2⟩ := HND.out w3 HO3.out.2
      have c5 : w3.cell? ⟨nb, 5, none⟩ = some (.slice (some ⟨tb, 0, none⟩) nh nh) := (nd_cells n1).c5
      obtain ⟨rq, hrq⟩ : ∃ rq, (headB r).map (fun k => (⟨k, 0, none⟩ : Addr)) = rq := ⟨_, rfl⟩
      have c6 : w3.cell? ⟨tb, 0, none⟩ = some (.pointer rq) := by rw [← hrq, ← ptrO_map]; exact n2.1
      have HRQ := Lib.hid hrq
      clear o3 b3 HO n1 n2 hrq HND c0 c1 c2 c3 c4
      go_wp2_with fail
      go_roundg r.length
      case measure => omega
      case rel => exact ⟨_, r, rq, rfl, Nat.le_refl _, Lib.hid ⟨HS2.out, HRQ.out, HO3.out.1, HO3.out.2⟩⟩
set_option maxHeartbeats 1000000 in
theorem sknoall_any (w : World) : Calls Try.prog 11 #[.pointer none] w fun e w' => e = .returned (.slice none 0 0) ∧ w = w' := by
  go_enter Try.func11, Try.ntmps11
  go_wp2_with fail
  go_ret
  exact ⟨rfl, rfl⟩
end Go.Proofs.Ytacaofnonmgfoaa
