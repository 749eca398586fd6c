/- A builder of the call's own: its calls, and what else holds beside them. The laws' same. -/
import Derived.Test.YtaddihabjdoihaaBdBytes
import Derived.Test.YtaddihabjdoihaaBlkSeek
namespace Go.Proofs.Ytaddihabjdoihaa
set_option linter.unusedVariables false
set_option maxRecDepth 100000
open Go.RowKit
/-- The types of a builder's blocks. -/
def BdT (t : Nat) : Prop := t = 52 ∨ t = 5 ∨ t = 3
/-- F names blocks of a builder alone. -/
def TyF (w : World) (F : Nat → Prop) : Prop := ∀ g, F g → ∃ vs t, w.heap[g]? = some (.cells vs t (0, 0)) ∧ BdT t
/-- A builder of the call's own. -/
def BdOwn (w0 w : World) (b : Nat) (rs : List Kv) : Prop := Below w0.heap.size w0 w ∧ ∃ F, BdAt w b F rs ∧ (∀ g, F g → w0.heap.size ≤ g) ∧ TyF w F
variable {w0 w w' : World} {b : Nat} {rs : List Kv}
theorem row_ty {E B k n : Nat} {u : Value} {xs : List Value} (h : w.ownsRow B E k u n xs) (hE : BdT E) : ∀ g, u.ownBlock = some g → ∃ vs t, w.heap[g]? = some (.cells vs t (0, 0)) ∧ BdT t := by
  intro g hg
  rcases h.2 with ⟨rfl, -⟩ | ⟨g1, c1, cur1, rfl, -, k1, -⟩
  · cases hg
  · obtain rfl : g1 = g := Option.some.inj hg
    exact ⟨_, _, k1, hE⟩
/-- What a builder holds, its blocks named by themselves. -/
theorem BdAt.mini {F : Nat → Prop} (h : BdAt w b F rs) : ∃ F0, BdAt w b F0 rs ∧ (∀ g, F0 g → F g) ∧ TyF w F0 := by
  obtain ⟨h0, vr, vp, h1, h2, h3, h4, h5, h6, h7⟩ := h
  have inF : ∀ g, g < w.heap.size → F g ∨ w.heap.size ≤ g → F g := fun g hg e => by
    rcases e with e | e
    · exact e
    · omega
  refine ⟨fun g => g = b ∨ vr.ownBlock = some g ∨ vp.ownBlock = some g, ⟨h0, vr, vp, h1, h2, h3, fun g hg => .inl (.inr (.inl hg)), fun g hg => .inl (.inr (.inr hg)), .inl (.inl rfl), UpdF.refl _ _⟩, fun g hg => ?_, fun g hg => ?_⟩
  · rcases hg with rfl | hg | hg
    · exact inF g h1.lt h6
    · exact inF g (row_lt h2 g hg) (h4 g hg)
    · exact inF g (row_lt h3 g hg) (h5 g hg)
  · rcases hg with rfl | hg | hg
    · exact ⟨_, _, h1, .inl rfl⟩
    · exact row_ty h2 (.inr (.inl rfl)) g hg
    · exact row_ty h3 (.inr (.inr rfl)) g hg
/-- What a call of a builder leaves: all rows of other types. -/
def Beside (w w' : World) : Prop := ∀ (E B k n : Nat) (u : Value) (xs : List Value), ¬ BdT E → w.ownsRow B E k u n xs → w'.ownsRow B E k u n xs
theorem row_upd {F : Nat → Prop} (ht : TyF w F) (hu : UpdF F w w') : Beside w w' := fun E B k n u xs hE hr => by
  refine row_same hr fun g hg => hu.block g (row_lt hr g hg) fun hf => ?_
  obtain ⟨vs, t, h1, h2⟩ := ht g hf
  rcases hr.2 with ⟨rfl, -⟩ | ⟨g1, c1, cur1, rfl, -, k1, -⟩
  · cases hg
  · obtain rfl : g1 = g := Option.some.inj hg
    rw [k1] at h1
    simp only [Option.some.injEq, Obj.cells.injEq] at h1
    exact hE (h1.2.1 ▸ h2)
theorem BdOwn.below (h : BdOwn w0 w b rs) (u : Below w.heap.size w w') : BdOwn w0 w' b rs := by
  obtain ⟨h1, F, h2, h3, h4⟩ := h
  refine ⟨h1.trans (u.mono h1.size), F, h2.below u, h3, fun g hg => ?_⟩
  obtain ⟨vs, t, h5, h6⟩ := h4 g hg
  exact ⟨vs, t, (u.block g (Array.getElem?_eq_some_iff.1 h5).1).trans h5, h6⟩
/-- A row of another type was written. -/
theorem BdOwn.beside (h : BdOwn w0 w b rs) {E B k n : Nat} {u : Value} {xs : List Value} (hr : w.ownsRow B E k u n xs) (hE : ¬ BdT E) (hu : UpdF (fun g => u.ownBlock = some g) w w') (hb : Below w0.heap.size w0 w') : BdOwn w0 w' b rs := by
  obtain ⟨h1, F, h2, h3, h4⟩ := h
  have hd : ∀ g, F g → ¬ u.ownBlock = some g := fun g hg hug => by
    obtain ⟨vs, t, h5, h6⟩ := h4 g hg
    rcases hr.2 with ⟨rfl, -⟩ | ⟨g1, c1, cur1, rfl, -, k1, -⟩
    · cases hug
    · obtain rfl : g1 = g := Option.some.inj hug
      rw [k1] at h5
      simp only [Option.some.injEq, Obj.cells.injEq] at h5
      exact hE (h5.2.1 ▸ h6)
  refine ⟨hb, F, h2.upd hu hd, h3, fun g hg => ?_⟩
  obtain ⟨vs, t, h5, h6⟩ := h4 g hg
  exact ⟨vs, t, (hu.block g (Array.getElem?_eq_some_iff.1 h5).1 (hd g hg)).trans h5, h6⟩
theorem BdOwn.lt (h : BdOwn w0 w b rs) : b < w.heap.size := by
  obtain ⟨-, F, ⟨-, vr, vp, hL⟩, -⟩ := h
  exact hL.lt
theorem bkNew_own (h : Below w0.heap.size w0 w) : Calls Try.prog 9 #[] w fun e w' => e = .returned (.pointer (some ⟨w.heap.size, 0, none⟩)) ∧ BdOwn w0 w' w.heap.size [] ∧ Below w.heap.size w w' := by
  refine (bkNew_any w).mono ?_
  rintro e w' ⟨rfl, h1, h2, h3⟩
  obtain ⟨F, g1, g2, g3⟩ := h1.mini
  exact ⟨rfl, ⟨h.trans (h2.mono h.size), F, g1, fun g hg => by rw [g2 g hg]; exact h.size, g3⟩, h2⟩
theorem add_own (h : BdOwn w0 w b rs) (key val : ByteArray) (hsz : (bodyB 0 [] rs).length + key.size + val.size ≤ 1000000000) :
    Calls Try.prog 11 #[.pointer (some ⟨b, 0, none⟩), .string key, .string val] w fun e w' => e = .returned (.bool (decide (addOk rs key.data.toList))) ∧ BdOwn w0 w' b (addK rs ⟨key.data.toList, val.data.toList⟩) ∧ Beside w w' := by
  obtain ⟨h1, F, h2, h3, h4⟩ := h
  refine (add_any b F rs key val w h2 hsz).mono ?_
  rintro e w' ⟨rfl, g1, g2⟩
  obtain ⟨F', k1, k2, k3⟩ := g1.mini
  refine ⟨rfl, ⟨h1.trans (g2.below h1.size fun k hk hf => by have := h3 k hf; omega), F', k1, fun g hg => ?_, k3⟩, row_upd h4 g2⟩
  rcases k2 g hg with e | e
  · exact h3 g e
  · exact Nat.le_trans h1.size e.1
theorem size_own (h : BdOwn w0 w b rs) (hsz : (bodyB 0 [] rs).length ≤ 1000000000) : Calls Try.prog 16 #[.pointer (some ⟨b, 0, none⟩)] w fun e w' => e = .returned (.int .i64 ((blockB rs).length : Int)) ∧ DrN w w' := by
  obtain ⟨h1, F, h2, h3, h4⟩ := h
  exact bkSize_any b F rs w h2 hsz
theorem bytes_own (h : BdOwn w0 w b rs) (hsz : (bodyB 0 [] rs).length ≤ 1000000000) : Calls Try.prog 12 #[.pointer (some ⟨b, 0, none⟩)] w (MkB (blockB rs) w) := by
  obtain ⟨h1, F, h2, h3, h4⟩ := h
  exact bytes_any b F rs w h2 hsz
set_option maxHeartbeats 4000000 in
/-- The laws' same, of rows that are the same. -/
theorem same_yes (va vb : Value) (A : List Kv) (hl : A.length ≤ 1000000000) (w : World) (hA : RdK encKv 2 w va A) (hB : RdK encKv 2 w vb A) :
    Calls Try.prog 17 #[va, vb] w fun e w' => e = .returned (.bool true) ∧ DrN w w' := by
  obtain ⟨aa, la, ca, rfl, hla⟩ := rdKv_len hA
  obtain ⟨ab, lb, cb, rfl, hlb⟩ := rdKv_len hB
  obtain rfl : la = lb := by omega
  have HA := Lib.hid hA
  have HB := Lib.hid hB
  have HN := Lib.hid hla
  have hlm : la ≤ 1000000000 := by omega
  clear hA hB hla hlb hl
  go_enter Try.func17, Try.ntmps17
  go_wp2_with fail
  go_loopg [5] la (fun kk vi wr => ∃ i : Nat, vi = .int .i64 (i : Int) ∧ i ≤ la ∧ la - i ≤ kk ∧ Hid (DrN w wr))
  case atStart => exact ⟨0, rfl, by omega, by omega, Lib.hid (DrN.refl _)⟩
  case round =>
    obtain ⟨i, rfl, hi, hik, HD⟩ := hrel
    by_cases h1 : i < la
    · have hi1 : (i : Int) < (la : Int) := by omega
      have hi0 : (0 : Int) ≤ (i : Int) := by omega
      obtain ⟨r, hr⟩ : ∃ r, A[i]? = some r := ⟨A[i]'(by have := HN.out; omega), List.getElem?_eq_getElem _⟩
      obtain ⟨b1, o1, rfl, hb1, d0, d1⟩ := (HA.out.below (HD.out.below _)).at2 i r hr
      obtain ⟨b2, o2, rfl, hb2, e0, e1⟩ := (HB.out.below (HD.out.below _)).at2 i r hr
      obtain ⟨ks, hks⟩ : ∃ ks : ByteArray, (⟨r.k.toArray⟩ : ByteArray) = ks := ⟨_, rfl⟩
      obtain ⟨vs, hvs⟩ : ∃ vs : ByteArray, (⟨r.v.toArray⟩ : ByteArray) = vs := ⟨_, rfl⟩
      rw [hks] at d0 e0
      rw [hvs] at d1 e1
      have f1 := bs_refl ks
      have f2 := bs_refl vs
      clear hr hks hvs
      go_wp2_with fail
      go_quiet (fail)
      have HD2 := Lib.hid (HD.out.more nq)
      generalize wr.drewN nq = wq at *
      clear HD
      go_wp2_with fail
      go_roundg (la - (i + 1))
      case measure => omega
      case rel => exact ⟨i + 1, by go_num, by omega, Nat.le_refl _, HD2⟩
    · have hi1 : ¬ (i : Int) < (la : Int) := by omega
      go_wp2_with fail
      go_ret
      exact ⟨rfl, HD.out⟩
theorem nobd_kv : ¬ BdT 31 := by unfold BdT; decide
theorem nobd_row : ¬ BdT 29 := by unfold BdT; decide
end Go.Proofs.Ytaddihabjdoihaa
