/- Slices of ints of the call's own, apart from one another: append, exchange. -/
import Derived.Test.YtmglnpnkkidnnaaDoorNormChars
import Derived.Laws.OwnMore
namespace Go.Proofs.YtmglnpnkkidnnaaDoor
set_option linter.unusedVariables false
open Go.RowKit
/-- They lie in blocks of their own. -/
def Dj (u v : Value) : Prop := u.ownBlock = none ∨ u.ownBlock ≠ v.ownBlock
theorem Dj.symm {u v : Value} (h : Dj u v) : Dj v u := by
  unfold Dj at *
  rcases h with h | h
  · cases hv : v.ownBlock with
    | none => exact .inl rfl
    | some g => rw [h]; exact .inr (by simp)
  · exact .inr fun e => h e.symm
abbrev OwnI (B : Nat) (w : World) (v : Value) (L : List Int) : Prop := OwnV 3 B w v (L.map (Value.int .i64))
theorem OwnI.lt {B : Nat} {w : World} {v : Value} {L : List Int} (h : OwnI B w v L) : ∀ k, v.ownBlock = some k → B ≤ k ∧ k < w.heap.size := World.ownsRow.lt h
/-- What an append leaves. -/
structure Grew (B : Nat) (w w' : World) (v v' : Value) : Prop where
  below : Below B w w'
  kept : ∀ (B' : Nat) (u : Value) (us : List Int), OwnI B' w u us → Dj v u → OwnI B' w' u us
  apart : ∀ (B' : Nat) (u : Value) (us : List Int), OwnI B' w u us → Dj v u → Dj v' u
  some' : v' ≠ .slice none 0 0
theorem wp_appI {ops : Array Oper} {rest : List Oper} {o : Oper} {a : Act} {Q : Exit → Act → World → Prop}
    (s x : Operand) (ho : o.op = .call { callee := .builtin .append, args := #[s, x], argTypes := #[22, 22] }) (hgd : o.guard = none)
    {B : Nat} {w : World} {v : Value} {L : List Int} (hs : a.eval s = v) (hown : OwnI B w v L) (c : Int) (hx : a.eval x = .slice (some ⟨w.heap.size, 0, none⟩) 1 1)
    (hlen : L.length ≤ 1000000) (hB : B ≤ w.heap.size)
    (h : ∀ v' w', OwnI B w' v' (L ++ [c]) → Grew B w w' v v' → wpList Tryd.prog ops Q rest (a.put o.dst v') w') : wpList Tryd.prog ops Q (o :: rest) a (w.alloc (.cells #[.int .i64 c] 3)) := by
  obtain ⟨f1, f2, f3⟩ := elem_int
  obtain ⟨i0, hi, hz0, hz1, hz2⟩ := info_parts f2
  have hown2 : (w.alloc (.cells #[.int .i64 c] 3)).ownsRow B 3 1 v (L.map (Value.int .i64)).length (L.map (Value.int .i64)) := World.ownsRow.alloc hown _
  refine wpList_append_own_at _ hgd s x 22 ho B 3 i0 _ 1 8 f1 hi hz0 hz1 hz2 f3 (by decide) v _ _ hs hown2 ⟨w.heap.size, 0, none⟩ 1 1 [.int .i64 c] hx rfl ?_ ?_ (by simp only [maxLen, List.length_map]; omega) (by rw [List.length_map]; omega) (by simp; omega) ?_
  · intro j u hj
    have e : (⟨w.heap.size, 0, none⟩ : Addr).add j = ⟨w.heap.size, j, none⟩ := by unfold Addr.add; split <;> simp_all
    rw [e]
    unfold World.cell?
    rw [heap_alloc_new]
    simpa using hj
  · intro u hu
    rw [List.mem_singleton.1 hu]; rfl
  · intro v' w' g1 g2 g3 g4
    have hlt := OwnI.lt hown
    have hsz : (w.alloc (.cells #[.int .i64 c] 3)).heap.size = w.heap.size + 1 := by simp
    have hb : Below B w w' := ((Below.refl B w).alloc hB _).grown g2 (by rw [hsz]; omega) fun k hk => (hlt k hk).1
    refine h v' w' ?_ ⟨hb, ?_, ?_, fun e => by have := (g3.1 e).2; omega⟩
    · show OwnV _ _ _ _ _
      rw [List.map_append]
      unfold OwnV
      rw [List.length_append]
      exact g1
    · intro B' u us hu hd
      have hu2 : (w.alloc (.cells #[.int .i64 c] 3)).ownsRow B' 3 1 u (us.map (Value.int .i64)).length (us.map (Value.int .i64)) := World.ownsRow.alloc hu _
      exact World.ownsRow.kept hu2 g2 hd.symm
    · intro B' u us hu hd
      rcases g4 with g4 | g4
      · unfold Dj; rw [g4]; exact hd
      · refine .inr ?_
        rw [g4, hsz]
        intro e
        have := (OwnI.lt hu _ e.symm).2
        omega
theorem stored_other {B : Nat} {w : World} {v : Value} {L : List Int} (h : OwnI B w v L) (g j : Nat) (u : Value) (hne : v.ownBlock ≠ some g) : OwnI B (w.setCell ⟨g, j, none⟩ u) v L := by
  refine World.ownsRow.kept h (row := some g) ⟨rfl, rfl, rfl, by simp, fun k _ hk => heap_setCell_other w ⟨g, j, none⟩ k u (fun e => hk (by simp [e]))⟩ (.inr hne)
theorem stored_own {B : Nat} {w : World} {g n cap : Nat} {L : List Int} (h : OwnI B w (.slice (some ⟨g, 0, none⟩) n cap) L) (j : Nat) (c : Int) : OwnI B (w.setCell ⟨g, j, none⟩ (.int .i64 c)) (.slice (some ⟨g, 0, none⟩) n cap) (L.set j c) := by
  have hn : n = (L.map (Value.int .i64)).length := by
    rcases h.2 with ⟨e, _⟩ | ⟨_, _, _, e, _⟩
    · simp at e
    · simp at e; simp [e.2.1]
  subst hn
  have := (World.ownsRow.stored h j (.int .i64 c)).1
  show World.ownsRow _ _ _ _ _ _ _
  rw [List.map_set, List.length_set]
  exact this
/-- The exchange of two neighbours in two slices. -/
theorem two_swap {B Bp : Nat} {w0 W : World} {g1 n1 c1 g2 n2 c2 : Nat} {v6 : Value} {L R KL KR parts : List Int} {x y kx ky : Int} {q : Nat} (hq : L.length = q) (hq2 : KL.length = q) (hne : g1 ≠ g2) (hB1 : B ≤ g1) (hB2 : B ≤ g2)
    (h1 : OwnI B W (.slice (some ⟨g1, 0, none⟩) n1 c1) (L ++ y :: x :: R)) (h2 : OwnI B W (.slice (some ⟨g2, 0, none⟩) n2 c2) (KL ++ ky :: kx :: KR)) (h6 : OwnI Bp W v6 parts) (hd1 : v6.ownBlock ≠ some g1) (hd2 : v6.ownBlock ≠ some g2) (hb : Below B w0 W)
    (W' : World) (hW : W' = (((W.setCell ⟨g1, q, none⟩ (.int .i64 x)).setCell ⟨g2, q, none⟩ (.int .i64 kx)).setCell ⟨g1, q + 1, none⟩ (.int .i64 y)).setCell ⟨g2, q + 1, none⟩ (.int .i64 ky)) :
    OwnI B W' (.slice (some ⟨g1, 0, none⟩) n1 c1) (L ++ x :: y :: R) ∧ OwnI B W' (.slice (some ⟨g2, 0, none⟩) n2 c2) (KL ++ kx :: ky :: KR) ∧ OwnI Bp W' v6 parts ∧ Below B w0 W' := by
  subst hW
  have set2 : ∀ (L R : List Int) (x y : Int), L.length = q → ((L ++ y :: x :: R).set q x).set (q + 1) y = L ++ x :: y :: R := fun L R x y h => by
    subst h; simp
  refine ⟨?_, ?_, ?_, ?_⟩
  · have := stored_other (stored_own (stored_other (stored_own h1 q x) g2 q (.int .i64 kx) (by simpa [Value.ownBlock] using hne)) (q + 1) y) g2 (q + 1) (.int .i64 ky) (by simpa [Value.ownBlock] using hne)
    rwa [set2 L R x y hq] at this
  · have := stored_own (stored_other (stored_own (stored_other h2 g1 q (.int .i64 x) (by simpa [Value.ownBlock] using Ne.symm hne)) q kx) g1 (q + 1) (.int .i64 y) (by simpa [Value.ownBlock] using Ne.symm hne)) (q + 1) ky
    rwa [set2 KL KR kx ky hq2] at this
  · exact stored_other (stored_other (stored_other (stored_other h6 g1 q _ hd1) g2 q _ hd2) g1 (q + 1) _ hd1) g2 (q + 1) _ hd2
  · exact (((hb.setCell (p := ⟨g1, q, none⟩) hB1 _).setCell (p := ⟨g2, q, none⟩) hB2 _).setCell (p := ⟨g1, q + 1, none⟩) hB1 _).setCell (p := ⟨g2, q + 1, none⟩) hB2 _
end Go.Proofs.YtmglnpnkkidnnaaDoor
