/- A heap's Push and Pop; the queue's first front is taken out. -/
import Derived.Test.YtmndhmodcglkjaaMgUp
namespace Go.Proofs.Ytmndhmodcglkjaa
set_option linter.unusedVariables false
set_option maxRecDepth 100000
open Go.RowKit
section
variable {F : Nat → Fnt} {w W W' : World} {B qb : Nat} {v : Value} {q qc : List Nat} {n lo i j : Nat}
/-- A heap of these places. -/
def HeapAt (F : Nat → Fnt) (B qb : Nat) (q : List Nat) (w w' : World) : Prop :=
  ∃ v' q', HQ F w' B qb v' q' ∧ UpdT qT B w w' ∧ q'.Perm q ∧ HeapQ (ltPl fun p => (F p).e) q' q'.length 0
set_option maxHeartbeats 8000000 in
theorem hpush_any (h : HQ F w B qb v q) (hm : q.length ≤ 100000000000) (hB : B ≤ w.heap.size) (hh : HeapQ (ltPl fun p => (F p).e) q q.length 0) (p : Nat) (hp : BlkAt w (F p).b (frC (F p) p) 57) :
    Calls Try.prog 21 #[qI qb, .iface 55 (.pointer (some ⟨(F p).b, 0, none⟩))] w fun e w' => e = .returned (.tuple #[]) ∧ HeapAt F B qb (q ++ [p]) w w' := by
  have HP : Hid (Calls Try.prog 56 #[.pointer (some ⟨qb, 0, none⟩), .iface 55 (.pointer (some ⟨(F p).b, 0, none⟩))] w fun e w' => e = .returned (.tuple #[]) ∧ QTo F B qb (q ++ [p]) qT w w') := Lib.hid (qpush_any h p hp (by omega) hB)
  have hm1 := m_push (qb := qb) (w := w)
  have HH := Lib.hid hh
  generalize (F p).b = bp at HP ⊢
  clear h hp hh
  go_enter Try.func21, Try.ntmps21
  go_wp2_with fail
  refine HP.out.mono ?_
  rintro e w2 ⟨rfl, ⟨v2, k1⟩, k2⟩
  have HL1 : Hid (Calls Try.prog 19 #[v2] w2 fun e w' => e = .returned (.int .i64 ((q ++ [p]).length : Int)) ∧ w' = w2) := Lib.hid (qlen_any k1)
  have hm2 := m_len (k1.var.at 0) k1.one
  have hl : (q ++ [p]).length = q.length + 1 := by simp
  have HU : Hid (Calls Try.prog 27 #[qI qb, .int .i64 (q.length : Int)] w2 fun e w' => e = .returned (.tuple #[]) ∧ HeapTo F B qb v2 (q ++ [p]) w2 w') := Lib.hid (up_any k1 (by omega) q.length (by omega) (by rw [hl]; exact UpI.push HH.out p))
  have K2 := Lib.hid k2
  obtain ⟨L, hL⟩ : ∃ L, q.length = L := ⟨_, rfl⟩
  rw [hl, hL] at HL1
  rw [hL] at HU hm
  have hw1 : IntKind.i64.wrap (((L + 1 : Nat) : Int) - 1) = (L : Int) := by
    rw [show ((L + 1 : Nat) : Int) - 1 = (L : Int) by omega]
    exact IntWalk.i64_in _ (by omega)
  clear hm1 k1 k2 HP hl hL
  go_wp2_with fail
  refine HL1.out.mono ?_
  rintro e w3 ⟨rfl, rfl⟩
  clear hm2 HL1
  go_wp2_with fail
  refine HU.out.mono ?_
  rintro e w4 ⟨rfl, q4, j1, j2, j3, j4⟩
  have HE : Hid (HeapAt F B qb (q ++ [p]) w w4) := Lib.hid ⟨v2, q4, j1, K2.out.trans (j2.mono pf_q (Nat.le_refl _)), j3, j4⟩
  clear HU K2 j1 j2 j3 j4
  go_wp2_with fail
  first | (go_end0; done) | (go_end0; exact ⟨rfl, HE.out⟩) | trace_state
/-- The first is taken out. -/
def PopTo (F : Nat → Fnt) (B qb : Nat) (q : List Nat) (w w' : World) : Prop :=
  ∃ v' q', HQ F w' B qb v' q' ∧ UpdT qT B w w' ∧ (q.getD 0 0 :: q').Perm q ∧ HeapQ (ltPl fun p => (F p).e) q' q'.length 0
set_option maxHeartbeats 8000000 in
theorem hpop_any (h : HQ F w B qb v q) (hm : q.length ≤ 100000000000) (h0 : 0 < q.length) (hh : HeapQ (ltPl fun p => (F p).e) q q.length 0) :
    Calls Try.prog 26 #[qI qb] w fun e w' => e = .returned (.iface 55 (.pointer (some ⟨(F (q.getD 0 0)).b, 0, none⟩))) ∧ PopTo F B qb q w w' := by
  have hv1 := h.one
  obtain ⟨bp, hbp⟩ : ∃ bp, (F (q.getD 0 0)).b = bp := ⟨_, rfl⟩
  rw [hbp]
  have HBP := Lib.hid hbp
  clear hbp
  have HL1 : Hid (Calls Try.prog 19 #[v] w fun e w' => e = .returned (.int .i64 (q.length : Int)) ∧ w' = w) := Lib.hid (qlen_any h)
  have hm1 := m_len (h.var.at 0) hv1
  obtain ⟨n, hn⟩ : ∃ n, q.length = n + 1 := ⟨q.length - 1, by omega⟩
  have HS : Hid (Calls Try.prog 47 #[v, .int .i64 0, .int .i64 (n : Int)] w fun e w' => e = .returned (.tuple #[]) ∧ HQ F w' B qb v (swp q 0 n) ∧ UpdT pfT B w w') := Lib.hid (swapI h (by rfl) rfl (by omega) (by omega))
  have hm2 := m_swap (h.var.at 0) hv1
  have hsl := swp_len q 0 n
  have HD : Hid (∀ W, HQ F W B qb v (swp q 0 n) → Calls Try.prog 25 #[qI qb, .int .i64 0, .int .i64 (n : Int)] W fun e w' => (∃ r, e = .returned (.bool r)) ∧ DownTo F B qb v (swp q 0 n) n 0 W w') := Lib.hid fun W hW => down_any hW n 0 (by omega) (by omega) (by omega) (by
    have := DownI.pop hh h0
    rwa [show q.length - 1 = n by omega] at this)
  have HN := Lib.hid hn
  rw [hn] at HL1 hm
  have hw1 : IntKind.i64.wrap (((n + 1 : Nat) : Int) - 1) = (n : Int) := by
    rw [show ((n + 1 : Nat) : Int) - 1 = (n : Int) by omega]
    exact IntWalk.i64_in _ (by omega)
  clear h hh h0 hn hsl
  go_enter Try.func26, Try.ntmps26
  go_wp2_with fail
  refine HL1.out.mono ?_
  rintro e w2 ⟨rfl, rfl⟩
  clear hm1 HL1
  go_wp2_with fail
  refine HS.out.mono ?_
  rintro e w3 ⟨rfl, k1, k2⟩
  have HD3 := Lib.hid (HD.out w3 k1)
  have K2 := Lib.hid k2
  clear hm2 HS HD k1 k2
  go_wp2_with fail
  refine HD3.out.mono ?_
  rintro e w4 ⟨⟨r, rfl⟩, q4, j1, j2, j3, j4, j5⟩
  have hl4 : q4.length = n + 1 := by rw [j3.length_eq, swp_len]; exact HN.out
  have HP : Hid (Calls Try.prog 55 #[.pointer (some ⟨qb, 0, none⟩)] w4 fun e w' => e = .returned (.iface 55 (.pointer (some ⟨bp, 0, none⟩))) ∧ QTo F B qb (q4.take n) qT w4 w') := Lib.hid (by
    rw [← HBP.out]
    have := qpop_any j1 (by omega)
    rw [show q4.length - 1 = n by omega, j5 n (Nat.le_refl _), swp_at (by have := HN.out; omega) (by have := HN.out; omega), if_pos rfl] at this
    exact this)
  have hm4 := m_pop (qb := qb) (w := w4)
  have HR : Hid ((q.getD 0 0 :: q4.take n).Perm q ∧ HeapQ (ltPl fun p => (F p).e) (q4.take n) (q4.take n).length 0 ∧ UpdT pfT B w2 w4) := Lib.hid (by
    refine ⟨?_, ?_, K2.out.trans j2⟩
    · have h1 := last_is (q := q4) (by omega)
      rw [show q4.length - 1 = n by omega, j5 n (Nat.le_refl _), swp_at (by have := HN.out; omega) (by have := HN.out; omega), if_pos rfl] at h1
      refine List.Perm.trans ?_ (j3.trans (swp_perm (by have := HN.out; omega) (by have := HN.out; omega)))
      conv => rhs; rw [h1]
      simpa using (List.perm_append_comm (l₁ := [q.getD 0 0]) (l₂ := q4.take n))
    · have := HeapQ.front (q := q4) (lt := ltPl fun p => (F p).e) (by rw [show q4.length - 1 = n by omega]; exact j4)
      rwa [show q4.length - 1 = n by omega] at this)
  clear HD3 K2 j1 j2 j3 j4 j5 hl4
  go_wp2_with fail
  refine HP.out.mono ?_
  rintro e w5 ⟨rfl, ⟨v5, k1⟩, k2⟩
  have HE : Hid (PopTo F B qb q w2 w5) := Lib.hid ⟨v5, _, k1, (HR.out.2.2.mono pf_q (Nat.le_refl _)).trans k2, HR.out.1, HR.out.2.1⟩
  clear hm4 HP HR k1 k2
  go_wp2_with fail
  go_ret
  exact ⟨rfl, HE.out⟩
set_option maxHeartbeats 4000000 in
theorem mgTake_any (h : HQ F w B qb v q) (hm : q.length ≤ 100000000000) (h0 : 0 < q.length) (hh : HeapQ (ltPl fun p => (F p).e) q q.length 0) :
    Calls Try.prog 20 #[.pointer (some ⟨qb, 0, none⟩)] w fun e w' => e = .returned (.pointer (some ⟨(F (q.getD 0 0)).b, 0, none⟩)) ∧ PopTo F B qb q w w' := by
  have HP := Lib.hid (hpop_any h hm h0 hh)
  generalize (F (q.getD 0 0)).b = bp at HP ⊢
  have hta := ta_pf (.pointer (some ⟨bp, 0, none⟩))
  clear h hh
  go_enter Try.func20, Try.ntmps20
  go_wp2_with fail
  refine HP.out.mono ?_
  rintro e w2 ⟨rfl, hp⟩
  have HE := Lib.hid hp
  clear hp HP
  go_wp2_with fail
  go_ret
  exact ⟨rfl, HE.out⟩
end
end Go.Proofs.Ytmndhmodcglkjaa
