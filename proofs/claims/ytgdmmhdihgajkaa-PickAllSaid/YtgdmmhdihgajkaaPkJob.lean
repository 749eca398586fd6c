/- The reference's job while it is made. -/
import Derived.Test.YtgdmmhdihgajkaaMPk
namespace Go.Proofs.Ytgdmmhdihgajkaa
set_option linter.unusedVariables false
set_option maxRecDepth 100000
open Go.RowKit
/-- Block p holds the job that is made, block S what will be told. -/
structure PkJob (w0 w : World) (p S : Nat) (lv : Int) (u1 u2 : Value) (I J : List Tbf) (q : Bool) : Prop where
  hp : w0.heap.size + 1 = p
  hS : w0.heap.size = S
  j : BlkAt w p #[.int .i64 lv, u1, u2, .bool q] 35
  z : BlkAt w S #[.int .i64 0, .slice none 0 0, .slice none 0 0, .bool false] 35
  o1 : OwnK encTbf 5 49 w0.heap.size w u1 I
  o2 : OwnK encTbf 5 49 w0.heap.size w u2 J
  b : Below w0.heap.size w0 w
theorem PkJob.below {w0 w w' : World} {p S : Nat} {lv : Int} {u1 u2 : Value} {I J : List Tbf} {q : Bool} (h : PkJob w0 w p S lv u1 u2 I J q) (u : Below w.heap.size w w') : PkJob w0 w' p S lv u1 u2 I J q :=
  ⟨h.hp, h.hS, h.j.below u, h.z.below u, h.o1.below u, h.o2.below u, h.b.trans (u.mono h.b.size)⟩
theorem PkJob.side {w0 w w' : World} {p S : Nat} {lv lv' : Int} {u1 u2 : Value} {I J : List Tbf} {q q' : Bool} (h : PkJob w0 w p S lv u1 u2 I J q) (u : UpdF (fun k => k = p) w w') (hj : BlkAt w' p #[.int .i64 lv', u1, u2, .bool q'] 35) : PkJob w0 w' p S lv' u1 u2 I J q' :=
  ⟨h.hp, h.hS, hj, (u.block S h.z.lt (fun e => by have : S = p := e; have := h.hp; have := h.hS; omega)).trans h.z, h.o1.asideT u h.j (by decide), h.o2.asideT u h.j (by decide), h.b.trans (UpdF.below u h.b.size fun k hk e => by have : k = p := e; have := h.hp; omega)⟩
theorem PkJob.setLv {w0 w : World} {p S : Nat} {lv : Int} {u1 u2 : Value} {I J : List Tbf} {q : Bool} (h : PkJob w0 w p S lv u1 u2 I J q) (n : Int) : PkJob w0 (w.setCell ⟨p, 0, none⟩ (.int .i64 n)) p S n u1 u2 I J q :=
  h.side ((UpdF.refl _ w).set p 0 _ rfl) (h.j.set (o := 0) _)
theorem PkJob.setBt {w0 w : World} {p S : Nat} {lv : Int} {u1 u2 : Value} {I J : List Tbf} {q : Bool} (h : PkJob w0 w p S lv u1 u2 I J q) (q' : Bool) : PkJob w0 (w.setCell ⟨p, 3, none⟩ (.bool q')) p S lv u1 u2 I J q' :=
  h.side ((UpdF.refl _ w).set p 3 _ rfl) (h.j.set (o := 3) _)
theorem PkJob.setIn {w0 w : World} {p S : Nat} {lv : Int} {u1 u2 v : Value} {I J K : List Tbf} {q : Bool} (h : PkJob w0 w p S lv u1 u2 I J q) (o : OwnK encTbf 5 49 w0.heap.size w v K) : PkJob w0 (w.setCell ⟨p, 1, none⟩ v) p S lv v u2 K J q := by
  have u : UpdF (fun k => k = p) w (w.setCell ⟨p, 1, none⟩ v) := (UpdF.refl _ w).set p 1 _ rfl
  exact ⟨h.hp, h.hS, h.j.set (o := 1) _, (u.block S h.z.lt (fun e => by have : S = p := e; have := h.hp; have := h.hS; omega)).trans h.z, o.asideT u h.j (by decide), h.o2.asideT u h.j (by decide), h.b.trans (UpdF.below u h.b.size fun k hk e => by have : k = p := e; have := h.hp; omega)⟩
theorem PkJob.setBl {w0 w : World} {p S : Nat} {lv : Int} {u1 u2 v : Value} {I J K : List Tbf} {q : Bool} (h : PkJob w0 w p S lv u1 u2 I J q) (o : OwnK encTbf 5 49 w0.heap.size w v K) : PkJob w0 (w.setCell ⟨p, 2, none⟩ v) p S lv u1 v I K q := by
  have u : UpdF (fun k => k = p) w (w.setCell ⟨p, 2, none⟩ v) := (UpdF.refl _ w).set p 2 _ rfl
  exact ⟨h.hp, h.hS, h.j.set (o := 2) _, (u.block S h.z.lt (fun e => by have : S = p := e; have := h.hp; have := h.hS; omega)).trans h.z, h.o1.asideT u h.j (by decide), o.asideT u h.j (by decide), h.b.trans (UpdF.below u h.b.size fun k hk e => by have : k = p := e; have := h.hp; omega)⟩
theorem PkJob.new (w0 : World) : PkJob w0 ((w0.alloc (.cells #[.int .i64 0, .slice none 0 0, .slice none 0 0, .bool false] 35)).alloc (.cells #[.int .i64 (-1), .slice none 0 0, .slice none 0 0, .bool false] 35)) (w0.heap.size + 1) w0.heap.size (-1) (.slice none 0 0) (.slice none 0 0) [] [] false := by
  refine ⟨rfl, rfl, ?_, (BlkAt.new _ _ _).more _, OwnK.nil _ _ _ _ _, OwnK.nil _ _ _ _ _, ((Below.refl _ _).alloc (Nat.le_refl _) _).alloc (by simp) _⟩
  have h := BlkAt.new (w0.alloc (.cells #[.int .i64 0, .slice none 0 0, .slice none 0 0, .bool false] 35)) #[.int .i64 (-1), .slice none 0 0, .slice none 0 0, .bool false] 35
  rw [show (w0.alloc (.cells #[.int .i64 0, .slice none 0 0, .slice none 0 0, .bool false] 35)).heap.size = w0.heap.size + 1 by simp] at h
  exact h
/-- The reference on its way through the levels: not yet found, or found. -/
def PkWay (F : List Tbf) (w0 w : World) (p S : Nat) (m i : Int) : Prop :=
  (FullAt F m i ∧ PkJob w0 w p S (-1) (.slice none 0 0) (.slice none 0 0) [] [] false) ∨ ∃ n u1, pickL F = some n ∧ PkJob w0 w p S n u1 (.slice none 0 0) (insV F n) [] false
def PkEnd (F : List Tbf) (w0 w : World) (p S : Nat) : Prop :=
  (pickL F = none ∧ PkJob w0 w p S (-1) (.slice none 0 0) (.slice none 0 0) [] [] false) ∨ ∃ n u1, pickL F = some n ∧ PkJob w0 w p S n u1 (.slice none 0 0) (insV F n) [] false
/-- An append, as one step. -/
theorem one_app {P : Program} {ops : Array Oper} {o : Oper} {a : Act} {w : World} {K : Act → World → Prop} {Q : Exit → Act → World → Prop} {E : Prop} (d : Nat) (hd : o.dst = some d) (hw : Region.wanted o (yielded ops a.tmps) = true)
    (s x : Operand) (t u ty : TypeId) (hty : o.type = ty) (hop : o.op = .call { callee := .builtin .append, args := #[s, x], argTypes := #[t, u] }) {v src v' : Value} {w' : World} (hs : a.eval s = v) (hx : a.eval x = src)
    (hr : (Builtin.append_ #[t, u] ty #[v, src]).run P w = .ok v' w') (hK : K (a.put (some d) v') w') : if Region.wanted o (yielded ops a.tmps) = true then Oper.wp P o a w K Q else E := by
  rw [if_pos hw]
  subst hty
  unfold Oper.wp execOp
  simp only [hop, resolve, invoke, builtin, Sem.run_bind, Sem.run_pure, Result.andThen_ok, List.map_toArray, List.map_cons, List.map_nil, hs, hx, hr]
  have hK' : K (a.put o.dst v') w' := by rw [hd]; exact hK
  exact hK'
end Go.Proofs.Ytgdmmhdihgajkaa
