/- The way down a heap. -/
import Derived.Test.YtmndhmodcglkjaaMgIface
import Derived.Deep.LoopGhost
import Derived.Deep.DeepCutAuto
namespace Go.Proofs.Ytmndhmodcglkjaa
set_option linter.unusedVariables false
set_option maxRecDepth 100000
open Go.RowKit
/-- The queue as package heap takes it. -/
abbrev qI (qb : Nat) : Value := .iface 59 (.pointer (some ⟨qb, 0, none⟩))
theorem HQ.one {F : Nat → Fnt} {w : World} {B qb : Nat} {v : Value} {q : List Nat} (h : HQ F w B qb v q) : v.oneCell' = true := by
  rcases h.form with ⟨rfl, -⟩ | ⟨g, cap, rfl, -⟩ <;> rfl
/-- On the way down. -/
structure DownW (F : Nat → Fnt) (w : World) (B qb : Nat) (v : Value) (q : List Nat) (n lo i : Nat) (qc : List Nat) (W : World) : Prop where
  hq : HQ F W B qb v qc
  upd : UpdT pfT B w W
  perm : qc.Perm q
  dn : DownI (ltPl fun p => (F p).e) qc n lo i
  tail : ∀ k, n ≤ k → qc.getD k 0 = q.getD k 0
  lo : lo ≤ i
/-- What the way down leaves. -/
def DownTo (F : Nat → Fnt) (B qb : Nat) (v : Value) (q : List Nat) (n lo : Nat) (w w' : World) : Prop :=
  ∃ q', HQ F w' B qb v q' ∧ UpdT pfT B w w' ∧ q'.Perm q ∧ HeapQ (ltPl fun p => (F p).e) q' n lo ∧ ∀ k, n ≤ k → q'.getD k 0 = q.getD k 0
section
variable {F : Nat → Fnt} {w W W' : World} {B qb : Nat} {v : Value} {q qc : List Nat} {n lo i : Nat}
theorem DownW.below (h : DownW F w B qb v q n lo i qc W) (u : Below W.heap.size W W') : DownW F w B qb v q n lo i qc W' :=
  ⟨h.hq.below u, h.upd.to u, h.perm, h.dn, h.tail, h.lo⟩
theorem DownW.leaf (h : DownW F w B qb v q n lo i qc W) (hn : n ≤ 2 * i + 1) : DownTo F B qb v q n lo w W := ⟨qc, h.hq, h.upd, h.perm, h.dn.leaf hn, h.tail⟩
/-- c: the child that is not behind the other one. -/
structure Chld (F : Nat → Fnt) (qc : List Nat) (n i c : Nat) : Prop where
  lt : c < n
  is : c = 2 * i + 1 ∨ c = 2 * i + 2
  low : ∀ k, k < n → k = 2 * i + 1 ∨ k = 2 * i + 2 → ltPl (fun p => (F p).e) (qc.getD k 0) (qc.getD c 0) = false
theorem Chld.one (h1 : 2 * i + 1 < n) (h2 : ¬ 2 * i + 2 < n) : Chld F qc n i (2 * i + 1) :=
  ⟨h1, .inl rfl, fun k hk hc => by
    obtain rfl : k = 2 * i + 1 := by omega
    exact (wkP _).irr _⟩
theorem Chld.two (h2 : 2 * i + 2 < n) (hl : ltPl (fun p => (F p).e) (qc.getD (2 * i + 2) 0) (qc.getD (2 * i + 1) 0) = true) : Chld F qc n i (2 * i + 2) :=
  ⟨h2, .inr rfl, fun k hk hc => by
    rcases hc with rfl | rfl
    · exact (wkP _).asy hl
    · exact (wkP _).irr _⟩
theorem Chld.first (h2 : 2 * i + 2 < n) (hl : ltPl (fun p => (F p).e) (qc.getD (2 * i + 2) 0) (qc.getD (2 * i + 1) 0) = false) : Chld F qc n i (2 * i + 1) :=
  ⟨by omega, .inl rfl, fun k hk hc => by
    rcases hc with rfl | rfl
    · exact (wkP _).irr _
    · exact hl⟩
theorem DownW.stop (h : DownW F w B qb v q n lo i qc W) {c : Nat} (hc : Chld F qc n i c) (hl : ltPl (fun p => (F p).e) (qc.getD c 0) (qc.getD i 0) = false) : DownTo F B qb v q n lo w W :=
  ⟨qc, h.hq, h.upd, h.perm, h.dn.stop (wkP _) hc.low hl, h.tail⟩
theorem DownW.step (h : DownW F w B qb v q n lo i qc W) (hn : n ≤ q.length) {c : Nat} (hc : Chld F qc n i c) (hl : ltPl (fun p => (F p).e) (qc.getD c 0) (qc.getD i 0) = true) (k1 : HQ F W' B qb v (swp qc i c)) (k2 : UpdT pfT B W W') : DownW F w B qb v q n lo c (swp qc i c) W' := by
  have hlen := h.perm.length_eq
  have h1 := hc.lt
  have h2 := hc.is
  refine ⟨k1, h.upd.trans k2, (swp_perm (by omega) (by omega)).trans h.perm, h.dn.step (wkP _) (by omega) hc.lt hc.is h.lo hc.low hl, fun k hk => ?_, by have := h.lo; omega⟩
  rw [swp_at (by omega) (by omega), if_neg (by omega), if_neg (by omega)]
  exact h.tail k hk
/-- 'Less', as it is spelled. -/
theorem lessI (h : HQ F w B qb v q) {a b : Nat} {x y : Int} (hx : x = a) (hy : y = b) (ha : a < q.length) (hb : b < q.length) :
    Calls Try.prog 46 #[v, .int .i64 x, .int .i64 y] w fun e w' => e = .returned (.bool (ltPl (fun p => (F p).e) (q.getD a 0) (q.getD b 0))) ∧ Below w.heap.size w w' := by
  subst hx hy; exact qless_any h ha hb
theorem swapI (h : HQ F w B qb v q) {a b : Nat} {x y : Int} (hx : x = a) (hy : y = b) (ha : a < q.length) (hb : b < q.length) :
    Calls Try.prog 47 #[v, .int .i64 x, .int .i64 y] w fun e w' => e = .returned (.tuple #[]) ∧ HQ F w' B qb v (swp q a b) ∧ UpdT pfT B w w' := by
  subst hx hy; exact qswap_any h ha hb
set_option maxHeartbeats 8000000 in
theorem down_any (h : HQ F w B qb v q) (n lo : Nat) (hn : n ≤ q.length) (hm : q.length ≤ 1000000000000) (hlo : lo ≤ n) (hd : DownI (ltPl fun p => (F p).e) q n lo lo) :
    Calls Try.prog 25 #[qI qb, .int .i64 (lo : Int), .int .i64 (n : Int)] w fun e w' => (∃ r, e = .returned (.bool r)) ∧ DownTo F B qb v q n lo w w' := by
  have hv1 := h.one
  have HN : n ≤ 1000000000000 := by omega
  have HW : Hid (DownW F w B qb v q n lo lo q w) := Lib.hid ⟨h, .refl _ _ _, .refl _, hd, fun _ _ => rfl, Nat.le_refl _⟩
  have HLn := Lib.hid hn
  clear h hd hm hn
  go_enter Try.func25, Try.ntmps25
  go_wp2_with fail
  go_loopg [7] n (fun kk vi wr => ∃ i : Nat, ∃ qc : List Nat, vi = .int .i64 i ∧ i ≤ n ∧ n - i ≤ kk ∧ Hid (DownW F w B qb v q n lo i qc wr))
  case atStart => exact ⟨lo, q, rfl, hlo, by omega, HW⟩
  case round =>
    obtain ⟨i, qc, rfl, hi, hkk, HB⟩ := hrel
    have hi0 : (0 : Int) ≤ (i : Int) := by omega
    clear HW
    by_cases h1 : 2 * i + 1 < n
    · have hA : 2 * (i : Int) + 1 < (n : Int) := by omega
      have hA2 : ¬ ((n : Int) ≤ 2 * (i : Int) + 1) := by omega
      have hA3 : ¬ (2 * (i : Int) + 1 < 0) := by omega
      by_cases h2 : 2 * i + 2 < n
      · have hB : 2 * (i : Int) + 1 + 1 < (n : Int) := by omega
        obtain ⟨r, hr⟩ : ∃ r, ltPl (fun p => (F p).e) (qc.getD (2 * i + 2) 0) (qc.getD (2 * i + 1) 0) = r := ⟨_, rfl⟩
        have HL1 : Hid (Calls Try.prog 46 #[v, .int .i64 (2 * (i : Int) + 1 + 1), .int .i64 (2 * (i : Int) + 1)] wr fun e w' => e = .returned (.bool r) ∧ Below wr.heap.size wr w') := Lib.hid (by rw [← hr]; exact lessI HB.out.hq (by omega) (by omega) (by have := HB.out.perm.length_eq; have := HLn.out; omega) (by have := HB.out.perm.length_eq; have := HLn.out; omega))
        have hm1 := m_less (HB.out.hq.var.at 0) hv1
        have HTR0 := Lib.hid hr
        clear hr
        go_wp2_with fail
        refine HL1.out.mono ?_
        rintro e w2 ⟨rfl, hb2⟩
        clear hm1 HL1
        replace HB := Lib.hid (HB.out.below hb2)
        clear hb2
        cases r
        · have HC : Hid (Chld F qc n i (2 * i + 1)) := Lib.hid (.first h2 HTR0.out)
          clear HTR0
          obtain ⟨r2, hr2⟩ : ∃ r2, ltPl (fun p => (F p).e) (qc.getD (2 * i + 1) 0) (qc.getD i 0) = r2 := ⟨_, rfl⟩
          have HL2 : Hid (Calls Try.prog 46 #[v, .int .i64 (2 * (i : Int) + 1), .int .i64 (i : Int)] w2 fun e w' => e = .returned (.bool r2) ∧ Below w2.heap.size w2 w') := Lib.hid (by rw [← hr2]; exact lessI HB.out.hq (by omega) (by omega) (by have := HB.out.perm.length_eq; have := HLn.out; omega) (by have := HB.out.perm.length_eq; have := HLn.out; omega))
          have hm2 := m_less (HB.out.hq.var.at 0) hv1
          have HST := Lib.hid fun (h : r2 = false) => HB.out.stop HC.out (hr2.trans h)
          have HTR := Lib.hid (hr2.trans (Eq.refl r2))
          clear hr2
          go_wp2_with fail
          refine HL2.out.mono ?_
          rintro e w3 ⟨rfl, hb3⟩
          clear hm2 HL2
          replace HB := Lib.hid (HB.out.below hb3)
          cases r2
          · have HE : Hid (DownTo F B qb v q n lo w w3) := Lib.hid (HB.out.stop HC.out HTR.out)
            clear hb3 HB HC HTR HST
            go_wp2_with fail
            go_ret
            exact ⟨⟨_, rfl⟩, HE.out⟩
          · have hm3 := m_swap (HB.out.hq.var.at 0) hv1
            have HS : Hid (Calls Try.prog 47 #[v, .int .i64 (i : Int), .int .i64 (2 * (i : Int) + 1)] w3 fun e w' => e = .returned (.tuple #[]) ∧ HQ F w' B qb v (swp qc i (2 * i + 1)) ∧ UpdT pfT B w3 w') := Lib.hid (swapI HB.out.hq (by omega) (by omega) (by have := HB.out.perm.length_eq; have := HLn.out; omega) (by have := HB.out.perm.length_eq; have := HLn.out; omega))
            clear hb3 HST
            go_wp2_with fail
            refine HS.out.mono ?_
            rintro e w4 ⟨rfl, k1, k2⟩
            have HB4 := Lib.hid (HB.out.step HLn.out HC.out HTR.out k1 k2)
            clear hm3 HS k1 k2 HB
            go_wp2_with fail
            go_roundg (n - (2 * i + 1))
            case measure => omega
            case rel => exact ⟨2 * i + 1, _, by first | rfl | (congr 1; omega) | go_num, by have := HC.out.lt; omega, by omega, HB4⟩
        · have HC : Hid (Chld F qc n i (2 * i + 2)) := Lib.hid (.two h2 HTR0.out)
          clear HTR0
          obtain ⟨r2, hr2⟩ : ∃ r2, ltPl (fun p => (F p).e) (qc.getD (2 * i + 2) 0) (qc.getD i 0) = r2 := ⟨_, rfl⟩
          have HL2 : Hid (Calls Try.prog 46 #[v, .int .i64 (2 * (i : Int) + 1 + 1), .int .i64 (i : Int)] w2 fun e w' => e = .returned (.bool r2) ∧ Below w2.heap.size w2 w') := Lib.hid (by rw [← hr2]; exact lessI HB.out.hq (by omega) (by omega) (by have := HB.out.perm.length_eq; have := HLn.out; omega) (by have := HB.out.perm.length_eq; have := HLn.out; omega))
          have hm2 := m_less (HB.out.hq.var.at 0) hv1
          have HST := Lib.hid fun (h : r2 = false) => HB.out.stop HC.out (hr2.trans h)
          have HTR := Lib.hid (hr2.trans (Eq.refl r2))
          clear hr2
          go_wp2_with fail
          refine HL2.out.mono ?_
          rintro e w3 ⟨rfl, hb3⟩
          clear hm2 HL2
          replace HB := Lib.hid (HB.out.below hb3)
          cases r2
          · have HE : Hid (DownTo F B qb v q n lo w w3) := Lib.hid (HB.out.stop HC.out HTR.out)
            clear hb3 HB HC HTR HST
            go_wp2_with fail
            go_ret
            exact ⟨⟨_, rfl⟩, HE.out⟩
          · have hm3 := m_swap (HB.out.hq.var.at 0) hv1
            have HS : Hid (Calls Try.prog 47 #[v, .int .i64 (i : Int), .int .i64 (2 * (i : Int) + 1 + 1)] w3 fun e w' => e = .returned (.tuple #[]) ∧ HQ F w' B qb v (swp qc i (2 * i + 2)) ∧ UpdT pfT B w3 w') := Lib.hid (swapI HB.out.hq (by omega) (by omega) (by have := HB.out.perm.length_eq; have := HLn.out; omega) (by have := HB.out.perm.length_eq; have := HLn.out; omega))
            clear hb3 HST
            go_wp2_with fail
            refine HS.out.mono ?_
            rintro e w4 ⟨rfl, k1, k2⟩
            have HB4 := Lib.hid (HB.out.step HLn.out HC.out HTR.out k1 k2)
            clear hm3 HS k1 k2 HB
            go_wp2_with fail
            go_roundg (n - (2 * i + 2))
            case measure => omega
            case rel => exact ⟨2 * i + 2, _, by first | rfl | (congr 1; omega) | go_num, by have := HC.out.lt; omega, by omega, HB4⟩
      · have hB : ¬ (2 * (i : Int) + 1 + 1 < (n : Int)) := by omega
        have HC : Hid (Chld F qc n i (2 * i + 1)) := Lib.hid (.one h1 h2)
        obtain ⟨r2, hr2⟩ : ∃ r2, ltPl (fun p => (F p).e) (qc.getD (2 * i + 1) 0) (qc.getD i 0) = r2 := ⟨_, rfl⟩
        have HL2 : Hid (Calls Try.prog 46 #[v, .int .i64 (2 * (i : Int) + 1), .int .i64 (i : Int)] wr fun e w' => e = .returned (.bool r2) ∧ Below wr.heap.size wr w') := Lib.hid (by rw [← hr2]; exact lessI HB.out.hq (by omega) (by omega) (by have := HB.out.perm.length_eq; have := HLn.out; omega) (by have := HB.out.perm.length_eq; have := HLn.out; omega))
        have hm2 := m_less (HB.out.hq.var.at 0) hv1
        have HST := Lib.hid fun (h : r2 = false) => HB.out.stop HC.out (hr2.trans h)
        have HTR := Lib.hid (hr2.trans (Eq.refl r2))
        clear hr2
        go_wp2_with fail
        refine HL2.out.mono ?_
        rintro e w3 ⟨rfl, hb3⟩
        clear hm2 HL2
        replace HB := Lib.hid (HB.out.below hb3)
        cases r2
        · have HE : Hid (DownTo F B qb v q n lo w w3) := Lib.hid (HB.out.stop HC.out HTR.out)
          clear hb3 HB HC HTR HST
          go_wp2_with fail
          go_ret
          exact ⟨⟨_, rfl⟩, HE.out⟩
        · have hm3 := m_swap (HB.out.hq.var.at 0) hv1
          have HS : Hid (Calls Try.prog 47 #[v, .int .i64 (i : Int), .int .i64 (2 * (i : Int) + 1)] w3 fun e w' => e = .returned (.tuple #[]) ∧ HQ F w' B qb v (swp qc i (2 * i + 1)) ∧ UpdT pfT B w3 w') := Lib.hid (swapI HB.out.hq (by omega) (by omega) (by have := HB.out.perm.length_eq; have := HLn.out; omega) (by have := HB.out.perm.length_eq; have := HLn.out; omega))
          clear hb3 HST
          go_wp2_with fail
          refine HS.out.mono ?_
          rintro e w4 ⟨rfl, k1, k2⟩
          have HB4 := Lib.hid (HB.out.step HLn.out HC.out HTR.out k1 k2)
          clear hm3 HS k1 k2 HB
          go_wp2_with fail
          go_roundg (n - (2 * i + 1))
          case measure => omega
          case rel => exact ⟨2 * i + 1, _, by first | rfl | (congr 1; omega) | go_num, by have := HC.out.lt; omega, by omega, HB4⟩
    · have hA : (n : Int) ≤ 2 * (i : Int) + 1 := by omega
      have HE : Hid (DownTo F B qb v q n lo w wr) := Lib.hid (HB.out.leaf (by omega))
      clear HB
      go_wp2_with fail
      go_ret
      exact ⟨⟨_, rfl⟩, HE.out⟩
end
end Go.Proofs.Ytmndhmodcglkjaa
