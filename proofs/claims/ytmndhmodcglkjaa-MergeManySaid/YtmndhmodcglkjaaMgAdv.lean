/- A front asks its source. -/
import Derived.Test.YtmndhmodcglkjaaMgSrc
import Derived.Defers
import Derived.Recover
import Derived.Shelf.Abstract
namespace Go.Proofs.Ytmndhmodcglkjaa
set_option linter.unusedVariables false
set_option maxRecDepth 100000
open Go.RowKit
/-- How a source is asked. -/
abbrev nxF (T s : Nat) : Value := .func (.method "Next") #[.iface T (.pointer (some ⟨s, 0, none⟩))] #[]
theorem u_told : Try.prog.underlying 33 = some (.pointer 35) := by kernel_rfl
theorem u_slc : Try.prog.underlying 50 = some (.pointer 52) := by kernel_rfl
theorem m_told (x : Value) (w : World) : (method 195 33 x "Next").run Try.prog w = .ok (44, x) w := method_self (by kernel_rfl) u_told _ _ _
theorem m_slc (x : Value) (w : World) : (method 195 50 x "Next").run Try.prog w = .ok (45, x) w := method_self (by kernel_rfl) u_slc _ _ _
/-- The recover of a call that fell into nothing. -/
theorem recover_idle (w : World) : CallsD Try.prog 24 #[] .returning w fun e u' w' => e = .returned (.tuple #[]) ∧ u' = .returning ∧ w' = w := by
  refine callsD_of_wpS Try.func24 rfl fun c₀ cs hu => ?_
  apply wpS_region
  cases c₀
  simp_all [wpOpsS, go_sem, recoverD, bodyPostS, results, Try.results24, Try.ntmps24]
set_option maxHeartbeats 4000000 in
theorem adv_raw (fb s T fN : Nat) (fe : Ent) (o : Option Ent) (p : Nat) (w : World) (R : World → Prop) (hb : BlkAt w fb (frC ⟨fb, fe, nxF T s⟩ p) 57) (hs : s ≠ fb) (hm : ∀ w, (method 195 T (.pointer (some ⟨s, 0, none⟩)) "Next").run Try.prog w = .ok (fN, .pointer (some ⟨s, 0, none⟩)) w)
    (hen : ∀ w, (callFunc fN #[.pointer (some ⟨s, 0, none⟩)]).run Try.prog w = .ok (.enter fN #[.pointer (some ⟨s, 0, none⟩)]) w) (hC : Calls Try.prog fN #[.pointer (some ⟨s, 0, none⟩)] w fun e w' => e = .returned (nxV o) ∧ R w' ∧ Only s w w') :
    Calls Try.prog 17 #[.pointer (some ⟨fb, 0, none⟩)] w fun e w' => e = .returned (.bool o.isSome) ∧ ∃ w1, R w1 ∧ Only s w w1 ∧ Only fb w1 w' ∧ BlkAt w' fb (frC ⟨fb, o.getD Ent.none, nxF T s⟩ p) 57 := by
  have c5 : w.cell? ⟨fb, 5, none⟩ = some (nxF T s) := hb.at 5
  have HB := Lib.hid hb
  have HC := Lib.hid hC
  clear hb hC
  go_enter_defers Try.func17, Try.ntmps17
  go_wp2_with fail
  refine HC.out.mono ?_
  rintro e w2 ⟨rfl, hR, hu⟩
  have HB2 : Hid (BlkAt w2 fb (frC ⟨fb, fe, nxF T s⟩ p) 57) := Lib.hid ((hu.block fb HB.out.lt (fun e => hs e.symm)).trans HB.out)
  have HR := Lib.hid (And.intro hR hu)
  obtain ⟨z0, z1, z2, z3, z4, z5, z6⟩ := fr_cells (f := ⟨fb, fe, nxF T s⟩) (p := p) HB2.out
  have g0 := HB2.out.free 0
  have g1 := HB2.out.free 1
  have g2 := HB2.out.free 2
  have g3 := HB2.out.free 3
  have g4 := HB2.out.free 4
  obtain ⟨x, hx⟩ : ∃ x : Ent, o.getD Ent.none = x := ⟨_, rfl⟩
  obtain ⟨b, hbb⟩ : ∃ b, o.isSome = b := ⟨_, rfl⟩
  have hnx : nxV o = .tuple #[.agg #[.string x.norm, .int .i64 x.seq, .int .i64 x.kind, .string x.spell, .string x.val], .bool b] := by unfold nxV; rw [hx, hbb]; rfl
  have HX := Lib.hid hx
  have HBB := Lib.hid hbb
  rw [hnx]
  clear hR hu hx hbb hnx
  simp only [] at z0 z1 z2 z3 z4 z5 z6
  go_wp2_with fail
  refine leaves_cons (f := 24) (args := #[]) (by simp) (by simp [go_sem]) ?_
  refine (recover_idle _).mono ?_
  rintro e u' w'' ⟨rfl, rfl, rfl⟩
  have HE : ∃ w1, R w1 ∧ Only s w w1 ∧ Only fb w1 (((((w2.setCell ⟨fb, 0, none⟩ (.string x.norm)).setCell ⟨fb, 1, none⟩ (.int .i64 x.seq)).setCell ⟨fb, 2, none⟩ (.int .i64 x.kind)).setCell ⟨fb, 3, none⟩ (.string x.spell)).setCell ⟨fb, 4, none⟩ (.string x.val)) ∧
      BlkAt (((((w2.setCell ⟨fb, 0, none⟩ (.string x.norm)).setCell ⟨fb, 1, none⟩ (.int .i64 x.seq)).setCell ⟨fb, 2, none⟩ (.int .i64 x.kind)).setCell ⟨fb, 3, none⟩ (.string x.spell)).setCell ⟨fb, 4, none⟩ (.string x.val)) fb (frC ⟨fb, o.getD Ent.none, nxF T s⟩ p) 57 :=
    ⟨w2, HR.out.1, HR.out.2, UpdF.set (UpdF.set (UpdF.set (UpdF.set (UpdF.set (UpdF.refl (fun k => k = fb) _) fb 0 _ rfl) fb 1 _ rfl) fb 2 _ rfl) fb 3 _ rfl) fb 4 _ rfl,
      by rw [HX.out]; exact ((((HB2.out.set (o := 0) (.string x.norm)).set (o := 1) (.int .i64 x.seq)).set (o := 2) (.int .i64 x.kind)).set (o := 3) (.string x.spell)).set (o := 4) (.string x.val)⟩
  exact ⟨_, results_tmp rfl _ _ _, by rw [HBB.out]; rfl, HE⟩
/-- The types of what is asked. -/
def tyS (k : Nat) : TypeId := if k = 1 then 33 else 50
/-- A place's source in memory: d: 0 where it is asked still. What it reads lay in w0. -/
def SrcAt (w0 w : World) (x : Pl) (d : Nat) : Prop :=
  (x.k = 1 ∧ ∃ v l, BlkAt w x.sb #[v, .int .i64 (x.N : Int)] 35 ∧ RdK encEnt 5 w0 v l ∧ l.length ≤ 100000000000 ∧ l.drop x.N = x.rest ∧ x.N ≤ l.length + d) ∨
  (x.k = 2 ∧ ∃ v, BlkAt w x.sb #[v] 52 ∧ RdK encEnt 5 w0 v x.rest)
/-- What a merge writes. -/
abbrev mS : List TypeId := [55, 54, 57, 35, 52]
theorem SrcAt.lt {w0 w : World} {x : Pl} {d : Nat} (h : SrcAt w0 w x d) : x.sb < w.heap.size := by
  rcases h with ⟨-, v, l, h, -⟩ | ⟨-, v, h, -⟩ <;> exact h.lt
theorem SrcAt.same {w0 w w' : World} {x : Pl} {d : Nat} (h : SrcAt w0 w x d) (e : w'.heap[x.sb]? = w.heap[x.sb]?) : SrcAt w0 w' x d := by
  rcases h with ⟨h1, v, l, h, h2⟩ | ⟨h1, v, h, h2⟩
  · exact .inl ⟨h1, v, l, e.trans h, h2⟩
  · exact .inr ⟨h1, v, e.trans h, h2⟩
theorem SrcAt.below {w0 w w' : World} {x : Pl} {d : Nat} (h : SrcAt w0 w x d) (u : Below w.heap.size w w') : SrcAt w0 w' x d := h.same (u.block _ h.lt)
theorem SrcAt.ty {w0 w : World} {x : Pl} {d : Nat} (h : SrcAt w0 w x d) : TyIn [35, 52] w x.sb := by
  rcases h with ⟨-, v, l, h, -⟩ | ⟨-, v, h, -⟩
  · exact ⟨_, _, _, h, by decide⟩
  · exact ⟨_, _, _, h, by decide⟩
theorem SrcAt.ne {w0 w : World} {x : Pl} {d b : Nat} {vs : Array Value} {t : TypeId} (h : SrcAt w0 w x d) (k : BlkAt w b vs t) (ht : t ∉ [35, 52]) : x.sb ≠ b := by
  rintro rfl
  obtain ⟨cs, t', fz, e, ht'⟩ := h.ty
  unfold BlkAt at k; rw [k] at e; cases e; exact ht ht'
/-- What writes none of a source's make leaves it. -/
theorem SrcAt.upd {w0 w w' : World} {x : Pl} {d B : Nat} {S : List TypeId} (h : SrcAt w0 w x d) (u : UpdT S B w w') (hS : ∀ t, t ∈ S → t ∉ [35, 52]) : SrcAt w0 w' x d :=
  h.same (u.block _ h.lt fun ⟨_, cs, t, fz, e, ht⟩ => by
    obtain ⟨cs', t', fz', e', ht'⟩ := h.ty
    rw [e'] at e; cases e; exact hS _ ht ht')
def fnS (k : Nat) : Nat := if k = 1 then 44 else 45
/-- A source is asked. -/
theorem ask_any {w0 w : World} {x : Pl} (h : SrcAt w0 w x 0) (h0 : Below w0.heap.size w0 w) (hs : w0.heap.size ≤ x.sb) :
    Calls Try.prog (fnS x.k) #[.pointer (some ⟨x.sb, 0, none⟩)] w fun e w' => e = .returned (nxV x.rest.head?) ∧ SrcAt w0 w' x.next (if x.rest.head?.isSome then 0 else 1) ∧ Only x.sb w w' := by
  rcases h with ⟨h1, v, l, h2, h3, h4, h5, h6⟩ | ⟨h1, v, h2, h3⟩
  · unfold fnS
    rw [if_pos h1]
    refine (mgTold_any w0 w x.sb v l x.N h2 h3 h4 (by omega) h0 hs).mono ?_
    rintro e w' ⟨rfl, k1, k2⟩
    have hh : l[x.N]? = x.rest.head? := by rw [← h5, List.head?_drop]
    refine ⟨by rw [hh], .inl ⟨h1, v, l, ?_, h3, h4, ?_, ?_⟩, k2⟩
    · unfold Pl.next
      rw [show ((x.N + 1 : Nat) : Int) = (x.N : Int) + 1 by omega]; exact k1
    · unfold Pl.next; simp only []; rw [← h5, List.tail_drop]
    · unfold Pl.next; simp only []
      cases hc : x.rest.head? with
      | none => simp; omega
      | some y =>
        rw [hc] at hh
        have := (List.getElem?_eq_some_iff.1 hh).1
        simp; omega
  · unfold fnS
    rw [if_neg (by omega)]
    cases hc : x.rest with
    | nil =>
      rw [hc] at h3
      refine (slc_none w x.sb v w0 h2 h3).mono ?_
      rintro e w' ⟨rfl, v', k1, k2, k3⟩
      exact ⟨rfl, .inr ⟨h1, v', k1, by unfold Pl.next; rw [hc]; exact k2⟩, k3⟩
    | cons y r =>
      rw [hc] at h3
      refine (slc_some w x.sb v w0 y r h2 h3 h0 hs).mono ?_
      rintro e w' ⟨rfl, v', k1, k2, k3⟩
      exact ⟨rfl, .inr ⟨h1, v', k1, by unfold Pl.next; rw [hc]; exact k2⟩, k3⟩
/-- A front asks its source once more. -/
theorem adv_any {w0 w : World} {x : Pl} {fb p : Nat} {fe : Ent} (h : SrcAt w0 w x 0) (h0 : Below w0.heap.size w0 w) (hs : w0.heap.size ≤ x.sb) (hb : BlkAt w fb (frC ⟨fb, fe, nxF (tyS x.k) x.sb⟩ p) 57) :
    Calls Try.prog 17 #[.pointer (some ⟨fb, 0, none⟩)] w fun e w' => e = .returned (.bool x.rest.head?.isSome) ∧ SrcAt w0 w' x.next (if x.rest.head?.isSome then 0 else 1) ∧ BlkAt w' fb (frC ⟨fb, x.rest.head?.getD Ent.none, nxF (tyS x.k) x.sb⟩ p) 57 ∧ UpdF (fun k => k = x.sb ∨ k = fb) w w' := by
  have hne : x.sb ≠ fb := h.ne hb (by decide)
  have hk : x.k = 1 ∨ x.k = 2 := by
    rcases h with ⟨h1, -⟩ | ⟨h1, -⟩
    · exact .inl h1
    · exact .inr h1
  have hm : ∀ w, (method 195 (tyS x.k) (.pointer (some ⟨x.sb, 0, none⟩)) "Next").run Try.prog w = .ok (fnS x.k, .pointer (some ⟨x.sb, 0, none⟩)) w := fun w => by
    rcases hk with e | e
    · rw [e]; exact m_told _ w
    · rw [e]; exact m_slc _ w
  have hen : ∀ w, (callFunc (fnS x.k) #[.pointer (some ⟨x.sb, 0, none⟩)]).run Try.prog w = .ok (.enter (fnS x.k) #[.pointer (some ⟨x.sb, 0, none⟩)]) w := fun w => by
    rcases hk with e | e
    · rw [e]; exact enters_of Try.func44 (by kernel_rfl) rfl _ _
    · rw [e]; exact enters_of Try.func45 (by kernel_rfl) rfl _ _
  refine (adv_raw fb x.sb (tyS x.k) (fnS x.k) fe x.rest.head? p w (fun w' => SrcAt w0 w' x.next (if x.rest.head?.isSome then 0 else 1)) hb hne hm hen ((ask_any h h0 hs).mono fun e w' h => ⟨h.1, h.2.1, h.2.2⟩)).mono ?_
  rintro e w' ⟨rfl, w1, k1, k2, k3, k4⟩
  refine ⟨rfl, k1.same (k3.block _ ?_ ?_), k4, (UpdF.mono k2 fun k _ e => .inl e).trans (UpdF.mono k3 fun k _ e => .inr e)⟩
  · exact Nat.lt_of_lt_of_le h.lt k2.size
  · exact hne
end Go.Proofs.Ytmndhmodcglkjaa
