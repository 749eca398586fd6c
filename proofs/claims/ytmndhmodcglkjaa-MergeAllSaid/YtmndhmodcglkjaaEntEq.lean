/- The reference's EqAll: the same entries are told to be the same. -/
import Derived.Test.YtmndhmodcglkjaaEntSort
namespace Go.Proofs.Ytmndhmodcglkjaa
set_option linter.unusedVariables false
open Go.RowKit
theorem eqB_self (x : Ent) : eqB x x = true := by unfold eqB; simp
set_option maxHeartbeats 4000000 in
set_option maxRecDepth 100000 in
theorem eqall_same (v u : Value) (xs : List Ent) (hl : xs.length ≤ 1000000) (w : World) (h1 : RdK encEnt 5 w v xs) (h2 : RdK encEnt 5 w u xs) :
    Calls Try.prog 9 #[v, u] w fun e w' => e = .returned (.bool true) ∧ Below w.heap.size w w' := by
  obtain ⟨a, len, cap, rfl, hlen⟩ := rdK_len h1
  obtain ⟨a2, len2, cap2, rfl, hlen2⟩ := rdK_len h2
  obtain rfl : len = len2 := by omega
  have HRD := Lib.hid h1
  have HRE := Lib.hid h2
  have HN := Lib.hid hlen
  have hlm : len ≤ 1000000 := by omega
  have hne : ((len : Int) != (len : Int)) = false := by simp
  clear h1 h2 hlen hlen2 hl
  go_enter Try.func9, Try.ntmps9
  go_wp2_with fail
  go_loopg [5] len (fun kk vi wr => ∃ i : Nat, vi = .int .i64 i ∧ i ≤ len ∧ len - i ≤ kk ∧ Hid (Below w.heap.size w wr))
  case atStart => exact ⟨0, by go_num, by omega, by omega, Lib.hid (Below.refl _ _)⟩
  case round =>
    obtain ⟨q, rfl, hq, hqk, HB⟩ := hrel
    by_cases hj : q < len
    · obtain ⟨x, hx⟩ : ∃ x, xs[q]? = some x := ⟨xs[q]'(by have := HN.out; omega), List.getElem?_eq_getElem _⟩
      obtain ⟨b, off, rfl, hblt, c1⟩ := (HRD.out.below HB.out).at5 HN.out q x hx
      obtain ⟨b2, off2, rfl, hblt2, c2⟩ := (HRE.out.below HB.out).at5 HN.out q x hx
      have C1 := Lib.hid c1
      have C2 := Lib.hid c2
      have HC : Hid (∀ w, Calls Try.prog 13 #[x.v, x.v] w fun e w' => e = .returned (.bool true) ∧ Below w.heap.size w w') := Lib.hid fun w => by have := req_any x x w; rwa [eqB_self] at this
      obtain ⟨xn, xq, xk, xsp, xv⟩ := x
      have bq0 : (0 : Int) ≤ (q : Int) := by omega
      have bq1 : (q : Int) < (len : Int) := by omega
      have hd1 : decide (q < len) = true := decide_eq_true hj
      have tq : ((q : Int)).toNat = q := by omega
      clear hx c1 c2
      go_wp2_with fail
      refine wp_region_held_drew (S := Below wr.heap.size wr) (by kernel_rfl) (Below.refl _ _).drew (fun hHeld => ?_)
      refine takeYes (i := 0) (k := 17) (v := .slice (some ⟨b, off, none⟩) len cap) rfl (by kernel_rfl) (by kernel_rfl) (by kernel_rfl) (by kernel_rfl) (fun _ _ _ h => h) (by kernel_rfl) ?_ (by assumption) ?_
      · intro W hSw; first | (go_simp; done) | go_simp
      try simp only [Act.put, List.setIfInBounds_toArray, List.set_cons_zero, List.set_cons_succ]
      refine takeYes (i := 1) (k := 18) (v := .int .i64 (q : Int)) rfl (by kernel_rfl) (by kernel_rfl) (by kernel_rfl) (by kernel_rfl) (fun _ _ _ h => h) (by kernel_rfl) ?_ (by assumption) ?_
      · intro W hSw; first | (go_simp; done) | go_simp
      try simp only [Act.put, List.setIfInBounds_toArray, List.set_cons_zero, List.set_cons_succ]
      refine takeYes (i := 2) (k := 19) (v := .pointer (some ⟨b, off + q * 5, none⟩)) rfl (by kernel_rfl) (by kernel_rfl) (by kernel_rfl) (by kernel_rfl) (fun _ _ _ h => h) (by kernel_rfl) ?_ (by assumption) ?_
      · intro W hSw; first | (go_simp; done) | go_simp
      try simp only [Act.put, List.setIfInBounds_toArray, List.set_cons_zero, List.set_cons_succ]
      refine takeYes (i := 3) (k := 20) (v := .agg #[.string xn, .int .i64 xq, .int .i64 xk, .string xsp, .string xv]) rfl (by kernel_rfl) (by kernel_rfl) (by kernel_rfl) (by kernel_rfl) (fun _ _ _ h => h) (by kernel_rfl) ?_ (by assumption) ?_
      · intro W hSw; obtain ⟨d0, d1, d2, d3, d4⟩ := C1.out.under hblt hSw; first | (go_simp; done) | go_simp
      try simp only [Act.put, List.setIfInBounds_toArray, List.set_cons_zero, List.set_cons_succ]
      refine takeYes (i := 4) (k := 21) (v := .slice (some ⟨b2, off2, none⟩) len cap2) rfl (by kernel_rfl) (by kernel_rfl) (by kernel_rfl) (by kernel_rfl) (fun _ _ _ h => h) (by kernel_rfl) ?_ (by assumption) ?_
      · intro W hSw; first | (go_simp; done) | go_simp
      try simp only [Act.put, List.setIfInBounds_toArray, List.set_cons_zero, List.set_cons_succ]
      refine takeYes (i := 5) (k := 22) (v := .int .i64 (q : Int)) rfl (by kernel_rfl) (by kernel_rfl) (by kernel_rfl) (by kernel_rfl) (fun _ _ _ h => h) (by kernel_rfl) ?_ (by assumption) ?_
      · intro W hSw; first | (go_simp; done) | go_simp
      try simp only [Act.put, List.setIfInBounds_toArray, List.set_cons_zero, List.set_cons_succ]
      refine takeYes (i := 6) (k := 23) (v := .pointer (some ⟨b2, off2 + q * 5, none⟩)) rfl (by kernel_rfl) (by kernel_rfl) (by kernel_rfl) (by kernel_rfl) (fun _ _ _ h => h) (by kernel_rfl) ?_ (by assumption) ?_
      · intro W hSw; first | (go_simp; done) | go_simp
      try simp only [Act.put, List.setIfInBounds_toArray, List.set_cons_zero, List.set_cons_succ]
      refine takeYes (i := 7) (k := 24) (v := .agg #[.string xn, .int .i64 xq, .int .i64 xk, .string xsp, .string xv]) rfl (by kernel_rfl) (by kernel_rfl) (by kernel_rfl) (by kernel_rfl) (fun _ _ _ h => h) (by kernel_rfl) ?_ (by assumption) ?_
      · intro W hSw; obtain ⟨d0, d1, d2, d3, d4⟩ := C2.out.under hblt2 hSw; first | (go_simp; done) | go_simp
      try simp only [Act.put, List.setIfInBounds_toArray, List.set_cons_zero, List.set_cons_succ]
      refine wpAnyH_ready (rs := [8]) (by kernel_rfl) (by simp) (AllReadyH.cons rfl (fun K hK => ?_) AllReadyH.nil)
      go_simp
      refine (HC.out _).mono ?_
      rintro e w3 ⟨rfl, hb⟩
      have hb3 : Below wr.heap.size wr w3 := hHeld.trans (hb.mono (by simp))
      refine hK.out _ _ hb3 (fun hHeld2 => ?_)
      clear hK K hHeld hb
      try simp only [Act.put, List.setIfInBounds_toArray, List.set_cons_zero, List.set_cons_succ]
      have HB3 := Lib.hid (HB.out.trans (hb3.mono HB.out.size))
      refine takeYes (i := 9) (k := 26) (v := .bool false) rfl (by kernel_rfl) (by kernel_rfl) (by kernel_rfl) (by kernel_rfl) (fun _ _ _ h => h) (by kernel_rfl) ?_ (by assumption) ?_
      · intro W hSw; first | (go_simp; done) | go_simp
      try simp only [Act.put, List.setIfInBounds_toArray, List.set_cons_zero, List.set_cons_succ]
      refine wpAnyH_done (by kernel_rfl) ?_ _
      clear HC hb3 hHeld2
      go_wp2_with fail
      go_roundg (len - (q + 1))
      case measure => omega
      case rel => exact ⟨q + 1, by go_num, by omega, Nat.le_refl _, HB3⟩
    · have hd1 : decide (q < len) = false := decide_eq_false hj
      go_wp2_with fail
      go_ret
      exact ⟨rfl, HB.out⟩
end Go.Proofs.Ytmndhmodcglkjaa
