/- The way up a heap; a heap is made. -/
import Derived.Test.YtmndhmodcglkjaaMgDown
namespace Go.Proofs.Ytmndhmodcglkjaa
set_option linter.unusedVariables false
set_option maxRecDepth 100000
open Go.RowKit
/-- On the way up. -/
structure UpW (F : Nat → Fnt) (w : World) (B qb : Nat) (v : Value) (q : List Nat) (j : Nat) (qc : List Nat) (W : World) : Prop where
  hq : HQ F W B qb v qc
  upd : UpdT pfT B w W
  perm : qc.Perm q
  up : UpI (ltPl fun p => (F p).e) qc q.length j
/-- A heap of the same places. -/
def HeapTo (F : Nat → Fnt) (B qb : Nat) (v : Value) (q : List Nat) (w w' : World) : Prop :=
  ∃ q', HQ F w' B qb v q' ∧ UpdT pfT B w w' ∧ q'.Perm q ∧ HeapQ (ltPl fun p => (F p).e) q' q'.length 0
section
variable {F : Nat → Fnt} {w W W' : World} {B qb : Nat} {v : Value} {q qc : List Nat} {n lo i j : Nat}
theorem UpW.below (h : UpW F w B qb v q j qc W) (u : Below W.heap.size W W') : UpW F w B qb v q j qc W' :=
  ⟨h.hq.below u, h.upd.to u, h.perm, h.up⟩
theorem UpW.stop (h : UpW F w B qb v q j qc W) (hj : j = 0 ∨ ltPl (fun p => (F p).e) (qc.getD j 0) (qc.getD (par j) 0) = false) : HeapTo F B qb v q w W :=
  ⟨qc, h.hq, h.upd, h.perm, by rw [h.perm.length_eq]; exact h.up.stop hj⟩
theorem UpW.step (h : UpW F w B qb v q j qc W) (h0 : 0 < j) (hj : j < q.length) (hl : ltPl (fun p => (F p).e) (qc.getD j 0) (qc.getD (par j) 0) = true) (k1 : HQ F W' B qb v (swp qc (par j) j)) (k2 : UpdT pfT B W W') : UpW F w B qb v q (par j) (swp qc (par j) j) W' := by
  have hlen := h.perm.length_eq
  have hp := par_lt h0
  exact ⟨k1, h.upd.trans k2, (swp_perm (by omega) (by omega)).trans h.perm, h.up.step (wkP _) (by omega) hj h0 hl⟩
set_option maxHeartbeats 8000000 in
theorem up_any (h : HQ F w B qb v q) (hm : q.length ≤ 1000000000000) (j : Nat) (hj : j < q.length) (hu : UpI (ltPl fun p => (F p).e) q q.length j) :
    Calls Try.prog 27 #[qI qb, .int .i64 (j : Int)] w fun e w' => e = .returned (.tuple #[]) ∧ HeapTo F B qb v q w w' := by
  have hv1 := h.one
  have HW : Hid (UpW F w B qb v q j q w) := Lib.hid ⟨h, .refl _ _ _, .refl _, hu⟩
  have HLn : Hid (q.length = q.length) := Lib.hid rfl
  obtain ⟨L, hL⟩ : ∃ L, q.length = L := ⟨_, rfl⟩
  have HL := Lib.hid hL
  rw [hL] at hm hj
  clear h hu hL HLn
  go_enter Try.func27, Try.ntmps27
  go_wp2_with fail
  go_loopg [1] j (fun kk vi wr => ∃ i : Nat, ∃ qc : List Nat, vi = .int .i64 i ∧ i < L ∧ i ≤ kk ∧ Hid (UpW F w B qb v q i qc wr))
  case atStart => exact ⟨j, q, rfl, hj, Nat.le_refl _, HW⟩
  case round =>
    obtain ⟨i, qc, rfl, hi, hkk, HB⟩ := hrel
    have hi0 : (0 : Int) ≤ (i : Int) := by omega
    have hi9 : (i : Int) ≤ 1000000000000 := by omega
    clear HW
    obtain ⟨p, hp⟩ : ∃ p, par i = p := ⟨_, rfl⟩
    have hpi : p ≤ i := by rw [← hp]; unfold par; omega
    have hq : ((i : Int) - 1).tdiv 2 = (p : Int) := by
      rw [← hp]; unfold par
      rcases Nat.eq_zero_or_pos i with rfl | h0
      · rfl
      · rw [show (i : Int) - 1 = ((i - 1 : Nat) : Int) by omega, Int.ofNat_tdiv]; rfl
    have HP := Lib.hid hp
    by_cases h0 : i = 0
    · have hpe : (p : Int) = (i : Int) := by have : p = i := by rw [← hp, h0]; rfl
                                             omega
      have HE : Hid (HeapTo F B qb v q w wr) := Lib.hid (HB.out.stop (.inl h0))
      clear HB hp
      go_wp2_with fail
      first | (go_end0; done) | (go_end0; exact ⟨rfl, HE.out⟩) | trace_state
    · have hpl : p < i := by rw [← hp]; exact par_lt (by omega)
      have hpe : ¬ (p : Int) = (i : Int) := by omega
      have hpe2 : ((p : Int) == (i : Int)) = false := by rw [beq_eq_false_iff_ne]; exact hpe
      obtain ⟨r, hr⟩ : ∃ r, ltPl (fun p => (F p).e) (qc.getD i 0) (qc.getD p 0) = r := ⟨_, rfl⟩
      have HL1 : Hid (Calls Try.prog 46 #[v, .int .i64 (i : Int), .int .i64 (p : Int)] wr fun e w' => e = .returned (.bool r) ∧ Below wr.heap.size wr w') := Lib.hid (by rw [← hr]; exact lessI HB.out.hq rfl rfl (by have := HB.out.perm.length_eq; have := HL.out; omega) (by have := HB.out.perm.length_eq; have := HL.out; omega))
      have hm1 := m_less (HB.out.hq.var.at 0) hv1
      have HTR0 := Lib.hid hr
      clear hr hp
      go_wp2_with fail
      refine HL1.out.mono ?_
      rintro e w2 ⟨rfl, hb2⟩
      clear hm1 HL1
      replace HB := Lib.hid (HB.out.below hb2)
      clear hb2
      cases r
      · have HE : Hid (HeapTo F B qb v q w w2) := Lib.hid (HB.out.stop (.inr (by rw [HP.out]; exact HTR0.out)))
        clear HB HTR0
        go_wp2_with fail
        first | (go_end0; done) | (go_end0; exact ⟨rfl, HE.out⟩) | trace_state
      · have hm3 := m_swap (HB.out.hq.var.at 0) hv1
        have HS : Hid (Calls Try.prog 47 #[v, .int .i64 (p : Int), .int .i64 (i : Int)] w2 fun e w' => e = .returned (.tuple #[]) ∧ HQ F w' B qb v (swp qc p i) ∧ UpdT pfT B w2 w') := Lib.hid (swapI HB.out.hq rfl rfl (by have := HB.out.perm.length_eq; have := HL.out; omega) (by have := HB.out.perm.length_eq; have := HL.out; omega))
        go_wp2_with fail
        refine HS.out.mono ?_
        rintro e w4 ⟨rfl, k1, k2⟩
        have HB4 : Hid (UpW F w B qb v q p (swp qc p i) w4) := Lib.hid (by
          have hp := HP.out
          subst hp
          exact HB.out.step (by omega) (by have := HL.out; omega) HTR0.out k1 k2)
        clear hm3 HS k1 k2 HB
        go_wp2_with fail
        go_roundg p
        case measure => omega
        case rel => exact ⟨p, _, by first | rfl | go_num, by omega, Nat.le_refl _, HB4⟩
set_option maxHeartbeats 8000000 in
theorem init_any (h : HQ F w B qb v q) (hm : q.length ≤ 1000000000000) :
    Calls Try.prog 18 #[qI qb] w fun e w' => e = .returned (.tuple #[]) ∧ HeapTo F B qb v q w w' := by
  have hv1 := h.one
  have HL1 : Hid (Calls Try.prog 19 #[v] w fun e w' => e = .returned (.int .i64 (q.length : Int)) ∧ w' = w) := Lib.hid (qlen_any h)
  have hm1 := m_len (h.var.at 0) hv1
  obtain ⟨L, hL⟩ : ∃ L, q.length = L := ⟨_, rfl⟩
  have HL := Lib.hid hL
  rw [hL] at hm HL1
  have HW : Hid (HQ F w B qb v q ∧ UpdT pfT B w w ∧ q.Perm q ∧ HeapQ (ltPl fun p => (F p).e) q L (L / 2)) := Lib.hid ⟨h, .refl _ _ _, .refl _, .none (Nat.le_refl _)⟩
  have hq : (L : Int).tdiv 2 = ((L / 2 : Nat) : Int) := Int.ofNat_tdiv L 2
  obtain ⟨M, hM⟩ : ∃ M, L / 2 = M := ⟨_, rfl⟩
  have hML : M ≤ L := by omega
  rw [hM] at hq HW
  clear h hL hM
  go_enter Try.func18, Try.ntmps18
  go_wp2_with fail
  refine HL1.out.mono ?_
  rintro e w2 ⟨rfl, rfl⟩
  clear hm1 HL1
  go_wp2_with fail
  go_loopg [3] M (fun kk vi wr => ∃ m : Nat, ∃ qc : List Nat, vi = .int .i64 ((m : Int) - 1) ∧ m ≤ M ∧ m ≤ kk ∧ Hid (HQ F wr B qb v qc ∧ UpdT pfT B w2 wr ∧ qc.Perm q ∧ HeapQ (ltPl fun p => (F p).e) qc L m))
  case atStart => exact ⟨M, q, by first | rfl | go_num, Nat.le_refl _, Nat.le_refl _, HW⟩
  case round =>
    obtain ⟨m, qc, rfl, hmM, hkk, HB⟩ := hrel
    clear HW
    by_cases h0 : m = 0
    · have hge : ¬ ((0 : Int) ≤ (m : Int) - 1) := by omega
      have HE : Hid (HeapTo F B qb v q w2 wr) := Lib.hid ⟨qc, HB.out.1, HB.out.2.1, HB.out.2.2.1, by rw [HB.out.2.2.1.length_eq, HL.out]; have := HB.out.2.2.2; rwa [h0] at this⟩
      clear HB
      go_wp2_with fail
      first | (go_end0; done) | (go_end0; exact ⟨rfl, HE.out⟩) | trace_state
    · have hge : ((0 : Int) ≤ (m : Int) - 1) := by omega
      have HD : Hid (Calls Try.prog 25 #[qI qb, .int .i64 ((m : Int) - 1), .int .i64 (L : Int)] wr fun e w' => (∃ r, e = .returned (.bool r)) ∧ DownTo F B qb v qc L (m - 1) wr w') := Lib.hid (by
        obtain ⟨k1, k2, k3, k4⟩ := HB.out
        have hl := k3.length_eq
        have h1 := HL.out
        have := down_any k1 L (m - 1) (by omega) (by omega) (by omega) (DownI.start (by rw [show m - 1 + 1 = m by omega]; exact k4))
        rwa [show ((m - 1 : Nat) : Int) = (m : Int) - 1 by omega] at this)
      go_wp2_with fail
      refine HD.out.mono ?_
      rintro e w4 ⟨⟨r, rfl⟩, q', k1, k2, k3, k4, -⟩
      have HB4 : Hid (HQ F w4 B qb v q' ∧ UpdT pfT B w2 w4 ∧ q'.Perm q ∧ HeapQ (ltPl fun p => (F p).e) q' L (m - 1)) := Lib.hid ⟨k1, HB.out.2.1.trans k2, k3.trans HB.out.2.2.1, k4⟩
      clear HD HB k1 k2 k3 k4
      go_wp2_with fail
      go_roundg (m - 1)
      case measure => omega
      case rel => exact ⟨m - 1, q', by first | (congr 1; omega) | go_num, by omega, Nat.le_refl _, HB4⟩
end
end Go.Proofs.Ytmndhmodcglkjaa
