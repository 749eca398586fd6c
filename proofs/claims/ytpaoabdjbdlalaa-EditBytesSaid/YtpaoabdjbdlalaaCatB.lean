/- The walks of the library's Grow and Concat at slices of bytes. -/
import Derived.Test.YtpaoabdjbdlalaaRdRecs
import Derived.Test.YtpaoabdjbdlalaaByZero
import Derived.Test.YtpaoabdjbdlalaaTake
import Derived.Deep.LoopGhost
import Derived.RegionTactic
import Derived.Deep.QuietTactic
import Derived.BigQuiet
namespace Go.Proofs.Ytpaoabdjbdlalaa
set_option linter.unusedVariables false
set_option maxRecDepth 100000
open Go.RowKit
/-- 'append', by what it gives. -/
theorem wp_appZ {P : Program} {ops : Array Oper} {rest : List Oper} {o : Oper} {a : Act} {w w' : World} {Q : Exit → Act → World → Prop} {v src v' : Value} {t u : TypeId} (s x : Operand) (ho : o.op = .call { callee := .builtin .append, args := #[s, x], argTypes := #[t, u] }) (hw : Region.wanted o (yielded ops a.tmps) = true)
    (hs : a.eval s = v) (hx : a.eval x = src) (hr : (Builtin.append_ #[t, u] o.type #[v, src]).run P w = .ok v' w') (h : wpList P ops Q rest (a.put o.dst v') w') : wpList P ops Q (o :: rest) a w := by
  refine wpList_step fun K hK => ?_
  rw [if_pos hw]
  unfold Oper.wp execOp
  simp only [ho, resolve, invoke, builtin, Sem.run_bind, Sem.run_pure, Result.andThen_ok, List.map_toArray, List.map_cons, List.map_nil, hs, hx, hr]
  exact hK _ _ h
/-- No bytes, with room. -/
theorem OwnB.none' {B : Nat} {w : World} {a : Option Addr} {n cap : Nat} {bs : List UInt8} (h : OwnB B w (.slice a n cap) bs) (hn : 0 < n) : OwnB B w (.slice a 0 cap) [] := by
  obtain ⟨h1, h2⟩ := h
  refine ⟨rfl, ?_⟩
  rcases h2 with ⟨e, e2⟩ | ⟨g, c, cur, e1, e2, e3, e4, e5, e6, e7⟩
  · simp only [Value.slice.injEq] at e; omega
  · simp only [Value.slice.injEq] at e1
    obtain ⟨rfl, rfl, rfl⟩ := e1
    exact .inr ⟨g, cap, cur, rfl, e2, e3, Nat.zero_le _, e5, e6, by simp⟩
set_option maxHeartbeats 2000000 in
theorem grow_any (n : Nat) (hn : n ≤ 1000000000000) (w : World) : Calls Try.prog 27 #[.slice none 0 0, .int .i64 (n : Int)] w (MkB [] w) := by
  rcases Nat.eq_zero_or_pos n with h0 | h0
  · subst h0
    go_enter Try.func27, Try.ntmps27
    go_wp2_with fail
    go_ret
    exact ⟨_, rfl, OwnB.nil _ _, Below.refl _ _⟩
  · have hz1 : (0 : Int) < (n : Int) := by omega
    have hz2 : ¬ (n : Int) < 0 := by omega
    obtain ⟨v1, w1, hr, o1, b1⟩ := app_zeros (ty := 28) w n h0 hn
    obtain ⟨a1, n1, c1, rfl, hn1, hc1, -⟩ := o1.form
    rw [List.length_replicate] at hn1
    subst hn1
    have hsl := fun W => sl_hB W a1 n1 c1 0 (Nat.zero_le _)
    have hsl2 : ∀ W, (Instr.sliceAt 28 (.slice a1 n1 c1) none (some (.int .i64 0)) none).run Try.prog W = .ok (.slice a1 0 c1) W := hsl
    have HO := Lib.hid (o1.none' h0)
    clear hsl o1
    have HRN := Lib.hid hr
    clear hr
    go_enter Try.func27, Try.ntmps27
    go_wp2_with (at_builtin; refine wp_appZ _ _ (by rfl) (by rfl) (by rfl) (by rfl) HRN.out ?_)
    go_ret
    exact ⟨_, rfl, HO.out, b1⟩
theorem sum_take (l : List (List UInt8)) (i : Nat) (x : List UInt8) (h : l[i]? = some x) : ((l.take (i + 1)).flatMap id).length = ((l.take i).flatMap id).length + x.length ∧ (l.take (i + 1)).flatMap id = (l.take i).flatMap id ++ x := by
  rw [List.take_add_one, h, List.flatMap_append]
  simp
theorem bkSum_le (l : List (List UInt8)) (i : Nat) : ((l.take i).flatMap id).length ≤ (l.flatMap id).length := by
  have e : (l.take i).flatMap id ++ (l.drop i).flatMap id = l.flatMap id := by rw [← List.flatMap_append, List.take_append_drop]
  rw [← e, List.length_append]; omega
set_option maxHeartbeats 4000000 in
theorem concat_any (v : Value) (bss : List (List UInt8)) (hb : (bss.flatMap id).length ≤ 1000000000000 ∧ bss.length ≤ 1000000000000) (w : World) (h : RdRecs w v bss) : Calls Try.prog 14 #[v] w (MkB (bss.flatMap id) w) := by
  obtain ⟨a, cap, rfl⟩ := h.form
  obtain ⟨R, hR⟩ : ∃ R, bss.flatMap id = R := ⟨_, rfl⟩
  have HR := Lib.hid hR
  have HRD := Lib.hid h
  obtain ⟨N, hN⟩ : ∃ N, bss.length = N := ⟨_, rfl⟩
  obtain ⟨S, hS⟩ : ∃ S, R.length = S := ⟨_, rfl⟩
  have HS := Lib.hid hS
  obtain ⟨hb1, hb2⟩ := hb
  rw [hR, hS] at hb1
  rw [hN] at hb2 HRD
  rw [hR, hN]
  have HN := Lib.hid hN.symm
  have HSL : Hid (∀ i, ((bss.take i).flatMap id).length ≤ S) := Lib.hid fun i => by rw [← hS, ← hR]; exact bkSum_le bss i
  clear hR h hN hS
  have HG : Hid (∀ w, Calls Try.prog 27 #[.slice none 0 0, .int .i64 (S : Int)] w (MkB [] w)) := Lib.hid (grow_any S hb1)
  go_enter Try.func14, Try.ntmps14
  go_wp2_with fail
  go_loopg [3, 11] N (fun kk vs vi wr => ∃ (i s : Nat), vi = .int .i64 (i : Int) ∧ vs = .int .i64 (s : Int) ∧ i ≤ N ∧ N - i ≤ kk ∧ s ≤ S ∧ w = wr ∧ Hid (s = ((bss.take i).flatMap id).length))
  case atStart => exact ⟨0, 0, rfl, rfl, by omega, by omega, by omega, rfl, Lib.hid rfl⟩
  case round =>
    obtain ⟨i, s, rfl, rfl, hi, hik, hs, rfl, HSS⟩ := hrel
    by_cases h1 : i < N
    · have hi1 : (i : Int) < (N : Int) := by omega
      have hi0 : (0 : Int) ≤ (i : Int) := by omega
      have hlx : i < bss.length := by have := HN.out; omega
      obtain ⟨x, hx⟩ : ∃ x, bss[i]? = some x := ⟨bss[i], List.getElem?_eq_getElem hlx⟩
      obtain ⟨g, off, u, rfl, hg, hc, hu⟩ := HRD.out.at i x hx
      obtain ⟨au, nu, cu, rfl, hnu, -⟩ := hu.form
      have hsn : s + nu ≤ S := by
        have := HSL.out (i + 1)
        rw [(sum_take bss i x hx).1, ← HSS.out] at this
        omega
      have HS2 : Hid (s + nu = ((bss.take (i + 1)).flatMap id).length) := Lib.hid (by rw [(sum_take bss i x hx).1, ← HSS.out, hnu])
      clear hx hu hnu HSS hlx
      have hneg : ¬ (s : Int) + (nu : Int) < 0 := by omega
      go_wp2_with fail
      go_roundg (N - (i + 1))
      case measure => omega
      case rel => exact ⟨i + 1, s + nu, by go_num, by go_num, by omega, Nat.le_refl _, hsn, rfl, HS2⟩
    · obtain rfl : i = N := by omega
      obtain rfl : s = S := by
        rw [HSS.out, List.take_of_length_le (by have := HN.out; omega), HR.out, HS.out]
      have hi1 : ¬ (i : Int) < (i : Int) := by omega
      clear HSS
      go_wp2_with fail
      refine (HG.out _).mono ?_
      rintro e w1 ⟨v1, rfl, o1, b1⟩
      have HO1 := Lib.hid o1
      have HB1 := Lib.hid b1
      obtain ⟨a1, n1, c1, rfl, -⟩ := o1.form
      clear o1 b1 HG
      go_wp2_with fail
      go_loopg [6, 27] i (fun kk vs vj wr => ∃ (j : Nat) (L : List UInt8) (a2 : Option Addr) (n2 c2 : Nat), vj = .int .i64 (j : Int) ∧ vs = .slice a2 n2 c2 ∧ j ≤ i ∧ i - j ≤ kk ∧ Hid (L = (bss.take j).flatMap id) ∧ Hid (OwnB w.heap.size wr (.slice a2 n2 c2) L) ∧ Hid (Below w.heap.size w wr))
      case atStart => exact ⟨0, [], a1, n1, c1, rfl, rfl, by omega, by omega, Lib.hid rfl, HO1, HB1⟩
      case round =>
        clear HO1 HB1
        obtain ⟨j, L, a2, n2, c2, rfl, rfl, hj, hjk, HL, HO, HB⟩ := hrel
        by_cases h2 : j < i
        · have hj1 : (j : Int) < (i : Int) := by omega
          have hj0 : (0 : Int) ≤ (j : Int) := by omega
          have hlx : j < bss.length := by have := HN.out; omega
          obtain ⟨x, hx⟩ : ∃ x, bss[j]? = some x := ⟨bss[j], List.getElem?_eq_getElem hlx⟩
          obtain ⟨g, off, u, rfl, hg, hc, hu⟩ := (HRD.out.below HB.out).at j x hx
          obtain ⟨au, nu, cu, rfl, hnu, -⟩ := id hu.form
          have HU := Lib.hid hu
          have HT := Lib.hid (sum_take bss j x hx).2
          have HLL : Hid (L.length + x.length ≤ 1000000000000) := Lib.hid (by
            have := HSL.out (j + 1)
            rw [(sum_take bss j x hx).1, ← HL.out] at this
            omega)
          clear hx hu hnu hlx
          go_wp2_with (at_builtin; refine wp_appSB _ _ (by rfl) (by rfl) (by rfl) HO.out (by rfl) HU.out ?c1 HB.out.size ?_)
          case c1 => have := HLL.out; omega
          intro v3 w3 o3 b3
          have HB3 := Lib.hid (HB.out.trans b3)
          obtain ⟨a3, n3, c3, rfl, -⟩ := o3.form
          have HO3 := Lib.hid o3
          clear o3 b3 HU HO HB
          go_wp2_with fail
          go_roundg (i - (j + 1))
          case measure => omega
          case rel => exact ⟨j + 1, _, a3, n3, c3, by go_num, rfl, by omega, Nat.le_refl _, Lib.hid (by rw [HT.out, HL.out]), HO3, HB3⟩
        · obtain rfl : j = i := by omega
          have hj1 : ¬ (j : Int) < (j : Int) := by omega
          have HRL : Hid (R = L) := Lib.hid (by rw [← HR.out, HL.out, List.take_of_length_le (by have := HN.out; omega)])
          clear HL HR
          go_wp2_with fail
          go_ret
          exact ⟨_, rfl, by rw [HRL.out]; exact HO.out, HB.out⟩
end Go.Proofs.Ytpaoabdjbdlalaa
