/- append onto a slice of bytes that others may hold, too: what block the new slice lies in, and that nothing else was written. -/
import Derived.Test.YtpaoabdjbdlalaaByt
import Derived.Test.YtpaoabdjbdlalaaRowsK
namespace Go.Proofs.Ytpaoabdjbdlalaa
set_option linter.unusedVariables false
open Go.RowKit
theorem grown_refl (w : World) (row : Option Nat) : w.grownBy w row := ⟨rfl, rfl, rfl, Nat.le_refl _, fun _ _ _ => rfl⟩
theorem run_appG {P : Program} {t E k bytes ty : Nat} {z : Value} (F : ElemK P t E k bytes z) {w : World} {v : Value} {n : Nat} {xs : List Value} (hown : w.ownsRow 0 E k v n xs) (ad : Addr) (m c : Nat) (us : List Value)
    (hl : us.length = m * k) (hc : ∀ j u, us[j]? = some u → w.cell? (ad.add j) = some u) (h1 : ∀ u ∈ us, u.oneCell' = true) (hm : n + m ≤ maxLen) (hb : (n + m) * bytes ≤ 140737488355328) :
    ∃ v' w', (Builtin.append_ #[t, t] ty #[v, .slice (some ad) m c]).run P w = .ok v' w' ∧ w'.ownsRow 0 E k v' (n + m) (xs ++ us) ∧ w.grownBy w' v.ownBlock ∧ ∀ g, v'.ownBlock = some g → v.ownBlock = some g ∨ w.heap.size ≤ g := by
  obtain ⟨f1, f3, f4, i0, hi, hz0, hz1, hz2⟩ := F.parts
  obtain ⟨v', w', g0, g1, g2, g3⟩ := run_append_own w 0 t ty E i0 z k bytes f1 hi hz0 hz1 hz2 f3 f4 v n xs hown ad m c us hl hc h1 hm hb (Nat.zero_le _)
  refine ⟨v', w', g0, g1, g2, ?_⟩
  have hmm : n + m ≤ 9223372036854775807 := by simp only [maxLen] at hm; omega
  rcases hown.2 with ⟨rfl, rfl⟩ | ⟨g, cap, cur, rfl, hbg, hg, hnc, hcm, hcs, htake⟩
  · by_cases h0 : m = 0
    · rw [g3.2 ⟨rfl, h0⟩]; intro g hg; cases hg
    · have hr := run_append_nil (P := P) w t ty E i0 z f1 hi hz0 ad m c us (by rw [hz1]; exact hl) hc (by omega) (by omega) (by rw [hz2]; have hb' := hb; simp only [Nat.zero_add] at hb'; omega)
      rw [hr] at g0
      injection g0 with g0 _
      rw [← g0]
      intro g hg
      obtain rfl : w.heap.size = g := Option.some.inj hg
      exact .inr (Nat.le_refl _)
  · by_cases hroom : n + m ≤ cap
    · have hr := run_append_room (P := P) w t ty E i0 f1 hi g n cap cur hg ad m c us (by rw [hz1]; exact hl) hc h1 hroom (by rw [hz1, hl, hcs, ← Nat.add_mul]; exact Nat.mul_le_mul_right _ hroom)
      rw [hr] at g0
      injection g0 with g0 _
      rw [← g0]
      intro g' hg'
      exact .inl hg'
    · have holds : ∀ j u, xs[j]? = some u → w.cell? ((⟨g, 0, none⟩ : Addr).add j) = some u := hown.cells (g := g) rfl
      have hr := run_append_grow (P := P) w t ty E i0 z f1 hi hz0 ⟨g, 0, none⟩ n cap xs (by rw [hz1]; exact hown.1) holds ad m c us (by rw [hz1]; exact hl) hc (by omega) (by omega) (by rw [hz2]; exact growslice_fits (by omega) hb)
      rw [hr] at g0
      injection g0 with g0 _
      rw [← g0]
      intro g' hg'
      obtain rfl : w.heap.size = g' := Option.some.inj hg'
      exact .inr (Nat.le_refl _)
theorem elemK_u8 : ElemK Try.prog 28 5 1 1 (.int .u8 0) := ⟨elem_u8.1, elem_u8.2.1, rfl, by decide⟩
/-- 'append(b, c...)', b a file's bytes. -/
theorem run_appGB {ty : Nat} {w : World} {v src : Value} {bs cs : List UInt8} (hown : OwnB 0 w v bs) (hs : RdB w src cs) (hlen : bs.length + cs.length ≤ 140737488355328) :
    ∃ v' w', (Builtin.append_ #[28, 28] ty #[v, src]).run Try.prog w = .ok v' w' ∧ OwnB 0 w' v' (bs ++ cs) ∧ w.grownBy w' v.ownBlock ∧ ∀ g, v'.ownBlock = some g → v.ownBlock = some g ∨ w.heap.size ≤ g := by
  have hown' : w.ownsRow 0 5 1 v bs.length (bs.map bv) := by have := hown; unfold OwnB OwnV at this; rwa [List.length_map] at this
  have hm : bs.length + cs.length ≤ maxLen := by unfold maxLen; omega
  have fin : ∀ (ad : Addr) (m c : Nat), src = .slice (some ad) m c → cs.length = m → (∀ j u, (cs.map bv)[j]? = some u → w.cell? (ad.add j) = some u) → ∃ v' w', (Builtin.append_ #[28, 28] ty #[v, src]).run Try.prog w = .ok v' w' ∧ OwnB 0 w' v' (bs ++ cs) ∧ w.grownBy w' v.ownBlock ∧ ∀ g, v'.ownBlock = some g → v.ownBlock = some g ∨ w.heap.size ≤ g := by
    rintro ad m c rfl rfl hc
    obtain ⟨v', w', g0, g1, g2, g3⟩ := run_appG (ty := ty) elemK_u8 hown' ad cs.length c (cs.map bv) (by rw [List.length_map, Nat.mul_one]) hc (bv_cells cs) hm (by omega)
    refine ⟨v', w', g0, ?_, g2, g3⟩
    unfold OwnB OwnV
    rw [List.length_map, List.length_append, List.map_append]; exact g1
  rcases hs with ⟨a, cap, rfl, e⟩ | ⟨b, off, cap, rfl, h1, h2, h3, h4, h5⟩
  · have hcs : cs = [] := by simpa using e
    subst hcs
    cases a with
    | some ad => exact fin ad 0 cap rfl rfl (fun j u hj => by simp at hj)
    | none =>
      refine ⟨v, w, ?_, by rw [List.append_nil]; exact hown, grown_refl _ _, fun g hg => .inl hg⟩
      obtain ⟨f1, f3, f4, i0, hi, hz0, hz1, hz2⟩ := elemK_u8.parts
      rcases OwnV.nilOr hown with ⟨rfl, e⟩ | ⟨g, c, rfl, -, -, hlc, -⟩
      · simp [Builtin.append_, run_underlying f1, sizeOf, typeInfo, hi, Builtin.lenOf, Builtin.firstCells]
      · rw [List.length_map] at hlc
        simp [Builtin.append_, run_underlying f1, sizeOf, typeInfo, hi, Builtin.lenOf, Builtin.firstCells, hlc, storeCells]
  · rw [List.length_map] at h1 h2 h5
    have hc : ∀ j u, (cs.map bv)[j]? = some u → w.cell? ((⟨b, off, none⟩ : Addr).add j) = some u := fun j u hj => by
      obtain ⟨hlt, hget⟩ := List.getElem?_eq_some_iff.1 hj
      rw [List.length_map] at hlt
      rw [add_at, h5 j hlt, List.getD_eq_getElem?_getD, hj]; rfl
    exact fin ⟨b, off, none⟩ cs.length cap (by rw [List.length_map]) rfl hc
/-- A row in one block holds while another is written. -/
theorem OwnV.kept {E B : Nat} {w w' : World} {row : Option Nat} {v : Value} {vs : List Value} (h : OwnV E B w v vs) (hg : w.grownBy w' row) (hne : ∀ g, v.ownBlock = some g → row ≠ some g) : OwnV E B w' v vs := by
  refine World.ownsRow.kept h hg ?_
  cases hv : v.ownBlock with
  | none => exact .inl rfl
  | some g => exact .inr fun e => hne g hv e.symm
theorem OwnB.kept {B : Nat} {w w' : World} {row : Option Nat} {v : Value} {bs : List UInt8} (h : OwnB B w v bs) (hg : w.grownBy w' row) (hne : ∀ g, v.ownBlock = some g → row ≠ some g) : OwnB B w' v bs := OwnV.kept h hg hne
/-- Where a slice of the call's own lies. -/
theorem OwnV.where {E B : Nat} {w : World} {v : Value} {vs : List Value} (h : OwnV E B w v vs) (g : Nat) (hg : v.ownBlock = some g) : B ≤ g ∧ g < w.heap.size := by
  rcases h.nilOr with ⟨rfl, -⟩ | ⟨g', cap, rfl, h1, h2, -⟩
  · cases hg
  · obtain rfl : g' = g := Option.some.inj hg
    exact ⟨h1, h2⟩
theorem OwnB.where {B : Nat} {w : World} {v : Value} {bs : List UInt8} (h : OwnB B w v bs) (g : Nat) (hg : v.ownBlock = some g) : B ≤ g ∧ g < w.heap.size := OwnV.where h g hg
theorem OwnV.rebase {E B B' : Nat} {w : World} {v : Value} {vs : List Value} (h : OwnV E B w v vs) (hb : ∀ g, v.ownBlock = some g → B' ≤ g) : OwnV E B' w v vs := by
  obtain ⟨h1, h2⟩ := h
  refine ⟨h1, ?_⟩
  rcases h2 with h2 | ⟨g, cap, cur, e1, e2, e3⟩
  · exact .inl h2
  · exact .inr ⟨g, cap, cur, e1, hb g (by rw [e1]; rfl), e3⟩
/-- 'append(b, c...)', with the block the new slice lies in. -/
theorem wp_appGB {ops : Array Oper} {rest : List Oper} {o : Oper} {a : Act} {w : World} {Q : Exit → Act → World → Prop} (s x : Operand) (ho : o.op = .call { callee := .builtin .append, args := #[s, x], argTypes := #[28, 28] }) (hw : Region.wanted o (yielded ops a.tmps) = true)
    {B : Nat} {v : Value} {bs : List UInt8} (hs : a.eval s = v) (hown : OwnB B w v bs) {src : Value} {cs : List UInt8} (hx : a.eval x = src) (hr : RdB w src cs) (hlen : bs.length + cs.length ≤ 140737488355328) (hB : B ≤ w.heap.size)
    (h : ∀ v' w', OwnB B w' v' (bs ++ cs) → Below B w w' → w.grownBy w' v.ownBlock → (∀ g, v'.ownBlock = some g → v.ownBlock = some g ∨ w.heap.size ≤ g) → wpList Try.prog ops Q rest (a.put o.dst v') w') : wpList Try.prog ops Q (o :: rest) a w := by
  refine wpList_step fun K hK => ?_
  rw [if_pos hw]
  obtain ⟨v', w', hr, h2, h3, h4⟩ := run_appGB (ty := o.type) (hown.base (Nat.zero_le _)) hr hlen
  unfold Oper.wp execOp
  simp only [ho, resolve, invoke, builtin, Sem.run_bind, Sem.run_pure, Result.andThen_ok, List.map_toArray, List.map_cons, List.map_nil, hs, hx, hr]
  refine hK _ _ (h v' w' (OwnV.rebase h2 fun g hg => ?_) ((Below.refl B w).grown h3 hB fun k hk => (hown.where k hk).1) h3 h4)
  rcases h4 g hg with h5 | h5
  · exact (hown.where g h5).1
  · omega
end Go.Proofs.Ytpaoabdjbdlalaa
