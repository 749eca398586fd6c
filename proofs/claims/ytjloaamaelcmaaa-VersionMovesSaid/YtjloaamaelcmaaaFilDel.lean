/- slices.Delete of one table out of a row of the call's own. -/
import Derived.Test.YtjloaamaelcmaaaFilSl
import Derived.Test.YtjloaamaelcmaaaMBase
namespace Go.Proofs.Ytjloaamaelcmaaa
set_option linter.unusedVariables false
set_option maxRecDepth 100000
open Go.RowKit
/-- What is behind place q, as the source of an append. -/
theorem rest_at {B : Nat} {w : World} {g n cap : Nat} {xs : List Tbf} (h : OwnK encTbf 5 43 B w (.slice (some ⟨g, 0, none⟩) n cap) xs) (q : Nat) (hq : q < n) :
    ∃ a : Addr, (if cap = q + 1 then (some ⟨g, 0, none⟩ : Option Addr) else (some ⟨g, 0, none⟩ : Option Addr).map (·.add ((q + 1) * 5))) = some a ∧ ∀ j u, ((xs.drop (q + 1)).flatMap encTbf)[j]? = some u → w.cell? (a.add j) = some u := by
  obtain ⟨cur, hb, hn, h1, h2, h3, hg, hgl, hc⟩ := h.blockS
  by_cases hcq : cap = q + 1
  · rw [if_pos hcq]
    refine ⟨_, rfl, fun j u hj => ?_⟩
    rw [List.drop_of_length_le (by omega)] at hj
    simp at hj
  · rw [if_neg hcq]
    refine ⟨⟨g, (q + 1) * 5, none⟩, by simp only [Option.map_some, add_at, Nat.zero_add], fun j u hj => ?_⟩
    have hlen := flat_lenK encTbf_len (xs.take (q + 1))
    have e : xs.flatMap encTbf = (xs.take (q + 1)).flatMap encTbf ++ (xs.drop (q + 1)).flatMap encTbf := by rw [← List.flatMap_append, List.take_append_drop]
    have hj2 : (xs.flatMap encTbf)[(q + 1) * 5 + j]? = some u := by
      rw [e, List.getElem?_append_right (by rw [hlen, List.length_take]; omega), hlen, List.length_take, show min (q + 1) xs.length = q + 1 by omega, Nat.add_sub_cancel_left]; exact hj
    have hlt := (List.getElem?_eq_some_iff.1 hj2).1
    rw [flat_lenK encTbf_len] at hlt
    rw [add_at]
    simp only [World.cell?, hb, Option.isSome_none, Bool.false_eq_true, if_false]
    rw [← hc, List.getElem?_take_of_lt hlt, Array.getElem?_toList] at hj2
    exact hj2
theorem del_run {B : Nat} {w : World} {g n m cap : Nat} {xs : List Tbf} (h : OwnK encTbf 5 43 B w (.slice (some ⟨g, 0, none⟩) n cap) xs) (q : Nat) (hq : q < n) (hm : n = m + 1) (ty : TypeId) {T : Value} (hT : Value.slice (if cap = q + 1 then (some ⟨g, 0, none⟩ : Option Addr) else (some ⟨g, 0, none⟩ : Option Addr).map (·.add ((q + 1) * 5))) (n - (q + 1)) (cap - (q + 1)) = T) :
    ∃ w', (Builtin.append_ #[29, 29] ty #[.slice (some ⟨g, 0, none⟩) q cap, T]).run Try.prog w = .ok (.slice (some ⟨g, 0, none⟩) m cap) w' ∧ OwnK encTbf 5 43 B w' (.slice (some ⟨g, 0, none⟩) m cap) (xs.eraseIdx q) ∧ UpdF (fun j => j = g) w w' := by
  obtain ⟨a, ha, hc⟩ := rest_at h q hq
  rw [ha] at hT
  subst hT
  obtain ⟨cur, hb, hn, h1, h2, h3, hg, hgl, hcur⟩ := h.blockS
  obtain ⟨f1, f3, f4, i0, hi, hz0, hz1, hz2⟩ := elem_tbf.parts
  have htl : (xs.take q).length = q := by rw [List.length_take]; omega
  have hdl : (xs.drop (q + 1)).length = n - (q + 1) := by rw [List.length_drop]; omega
  have hown : w.ownsRow B 43 5 (.slice (some ⟨g, 0, none⟩) q cap) q ((xs.take q).flatMap encTbf) := by
    refine ⟨by rw [flat_lenK encTbf_len, htl], .inr ⟨g, cap, cur, rfl, hg, hb, by omega, h2, h3, ?_⟩⟩
    have e : xs.flatMap encTbf = (xs.take q).flatMap encTbf ++ (xs.drop q).flatMap encTbf := by rw [← List.flatMap_append, List.take_append_drop]
    rw [e] at hcur
    have hlq : ((xs.take q).flatMap encTbf).length = q * 5 := by rw [flat_lenK encTbf_len, htl]
    rw [show cur.toList.take (q * 5) = (cur.toList.take (xs.length * 5)).take (q * 5) by rw [List.take_take, Nat.min_eq_left (by omega)], hcur, List.take_left' hlq]
  obtain ⟨w', hr, ho, hu⟩ := run_append_fits (P := Try.prog) w B 29 ty 43 i0 5 f1 hi hz1 g q cap _ hown a (n - (q + 1)) (cap - (q + 1)) _ (by rw [flat_lenK encTbf_len, hdl]) hc (encTbf_one _) (by omega)
  have e1 : q + (n - (q + 1)) = m := by omega
  rw [e1] at hr ho
  have e2 : xs.eraseIdx q = xs.take q ++ xs.drop (q + 1) := List.eraseIdx_eq_take_drop_succ ..
  refine ⟨w', hr, ?_, ⟨hu.os, hu.tape, hu.output, hu.size, fun k hk hF => hu.block k hk fun e => hF (Option.some.inj e)⟩⟩
  unfold OwnK
  rw [e2, List.flatMap_append]
  have e3 : (xs.take q ++ xs.drop (q + 1)).length = m := by rw [List.length_append, htl, hdl]; omega
  rw [e3]; exact ho
theorem clear_run {B : Nat} {w : World} {g n m cap : Nat} {xs : List Tbf} (h : OwnK encTbf 5 43 B w (.slice (some ⟨g, 0, none⟩) m cap) xs) (hm : n = m + 1) (hn : n ≤ cap) (ty : TypeId) {U : Value} (hU : Value.slice (if cap = m then (some ⟨g, 0, none⟩ : Option Addr) else (some ⟨g, 0, none⟩ : Option Addr).map (·.add (m * 5))) (n - m) (cap - m) = U) :
    ∃ w', (Builtin.clear_ #[29] ty #[U]).run Try.prog w = .ok (.tuple #[]) w' ∧ OwnK encTbf 5 43 B w' (.slice (some ⟨g, 0, none⟩) m cap) xs ∧ UpdF (fun j => j = g) w w' := by
  obtain ⟨cur, hb, hl, h1, h2, h3, hg, hgl, hcur⟩ := h.blockS
  rw [if_neg (by omega), show n - m = 1 by omega] at hU
  have e : (some ⟨g, 0, none⟩ : Option Addr).map (·.add (m * 5)) = some ⟨g, m * 5, none⟩ := by simp only [Option.map_some, add_at, Nat.zero_add]
  rw [e] at hU
  subst hU
  have hr := clear_one w ty g (m * 5) (cap - m) (fun j hj => by
    simp only [World.cell?, hb, Option.isSome_none, Bool.false_eq_true, if_false]
    rw [Array.getElem?_eq_getElem (by rw [h3]; omega)]; rfl) (fun j hj => by simp only [World.frozen?, hb]; simp)
  obtain ⟨o, u⟩ := OwnK.spares [.int .i64 0, .int .i64 0, .int .i64 0, .string ⟨#[]⟩, .string ⟨#[]⟩] w (m * 5) h (by rw [hl]; exact Nat.le_refl _)
  exact ⟨_, hr, o, u⟩
def DelTo (B g m cap : Nat) (w : World) (ys : List Tbf) (e : Ending) (w' : World) : Prop := e = .returned (.slice (some ⟨g, 0, none⟩) m cap) ∧ OwnK encTbf 5 43 B w' (.slice (some ⟨g, 0, none⟩) m cap) ys ∧ UpdF (fun j => j = g) w w'
set_option maxHeartbeats 4000000 in
theorem fdel_any {B : Nat} {w : World} {g n m cap : Nat} {xs : List Tbf} (h : OwnK encTbf 5 43 B w (.slice (some ⟨g, 0, none⟩) n cap) xs) (q : Nat) (hq : q < n) (hm : n = m + 1) (hn : n ≤ 1000000000) :
    Calls Try.prog 48 #[.slice (some ⟨g, 0, none⟩) n cap, .int .i64 (q : Int), .int .i64 ((q : Int) + 1)] w (DelTo B g m cap w (xs.eraseIdx q)) := by
  have hnc : n ≤ cap := by obtain ⟨cur, hb, hl, h1, -⟩ := h.blockS; omega
  obtain ⟨T, hT⟩ : ∃ T, Value.slice (if cap = q + 1 then (some ⟨g, 0, none⟩ : Option Addr) else (some ⟨g, 0, none⟩ : Option Addr).map (·.add ((q + 1) * 5))) (n - (q + 1)) (cap - (q + 1)) = T := ⟨_, rfl⟩
  obtain ⟨U, hU⟩ : ∃ T, Value.slice (if cap = m then (some ⟨g, 0, none⟩ : Option Addr) else (some ⟨g, 0, none⟩ : Option Addr).map (·.add (m * 5))) (n - m) (cap - m) = T := ⟨_, rfl⟩
  have eq1 : ((q + 1 : Nat) : Int) = (q : Int) + 1 := by omega
  have HS1 : Hid (∀ W, ∃ X, (Instr.sliceAt 29 (.slice (some ⟨g, 0, none⟩) n cap) (some (.int .i64 (q : Int))) (some (.int .i64 ((q : Int) + 1))) (some (.int .i64 (n : Int)))).run Try.prog W = .ok X W) := Lib.hid fun W => ⟨_, by rw [← eq1]; exact sl_lhmF W _ n cap q (q + 1) n (by omega) (by omega) hnc⟩
  have HS2 : Hid (∀ W, (Instr.sliceAt 29 (.slice (some ⟨g, 0, none⟩) n cap) none (some (.int .i64 (q : Int))) none).run Try.prog W = .ok (.slice (some ⟨g, 0, none⟩) q cap) W) := Lib.hid fun W => sl_hF2 W _ n cap q (by omega)
  have HS3 : Hid (∀ W, (Instr.sliceAt 29 (.slice (some ⟨g, 0, none⟩) n cap) (some (.int .i64 ((q : Int) + 1))) none none).run Try.prog W = .ok T W) := Lib.hid fun W => by rw [← eq1, ← hT]; exact sl_lF W _ n cap (q + 1) (by omega) hnc
  have HS4 : Hid (∀ W, (Instr.sliceAt 29 (.slice (some ⟨g, 0, none⟩) m cap) (some (.int .i64 (m : Int))) (some (.int .i64 (n : Int))) none).run Try.prog W = .ok U W) := Lib.hid fun W => by rw [← hU]; exact sl_lhF W _ m cap m n (by omega) hnc
  have HA := Lib.hid (del_run (w := w.drew) h q hq hm 29 hT)
  have HCL : Hid (∀ W, OwnK encTbf 5 43 B W (.slice (some ⟨g, 0, none⟩) m cap) (xs.eraseIdx q) → ∃ w', (Builtin.clear_ #[29] 0 #[U]).run Try.prog W = .ok (.tuple #[]) w' ∧ OwnK encTbf 5 43 B w' (.slice (some ⟨g, 0, none⟩) m cap) (xs.eraseIdx q) ∧ UpdF (fun j => j = g) W w') := Lib.hid fun W hW => clear_run hW hm hnc 0 hU
  have hne : ¬ (q : Int) = (q : Int) + 1 := by omega
  have hnb : (n : Int) ≤ 1000000000 := by omega
  have hmb : (m : Int) ≤ 1000000000 := by omega
  clear h hq hm hnc hT hU eq1 hn
  unfold DelTo
  generalize xs.eraseIdx q = ys at *
  go_enter Try.func48, Try.ntmps48
  obtain ⟨X, hX⟩ := HS1.out w
  go_wp2_with fail
  clear hX
  refine wp_region_held_drew (S := fun _ => True) (by kernel_rfl) trivial (fun hHeld => ?_)
  refine takeYes (i := 0) (k := 20) (v := .slice (some ⟨g, 0, none⟩) n cap) rfl (by kernel_rfl) (by kernel_rfl) (by kernel_rfl) (by kernel_rfl) (fun _ _ _ h => h) (by kernel_rfl) ?_ trivial ?_
  · intro W hSw; first | (go_simp; done) | go_simp
  try simp only [Act.put, List.setIfInBounds_toArray, List.set_cons_zero, List.set_cons_succ]
  refine takeYes (i := 1) (k := 21) (v := .int .i64 (q : Int)) rfl (by kernel_rfl) (by kernel_rfl) (by kernel_rfl) (by kernel_rfl) (fun _ _ _ h => h) (by kernel_rfl) ?_ trivial ?_
  · intro W hSw; first | (go_simp; done) | go_simp
  try simp only [Act.put, List.setIfInBounds_toArray, List.set_cons_zero, List.set_cons_succ]
  refine takeYes (i := 2) (k := 22) (v := .slice (some ⟨g, 0, none⟩) q cap) rfl (by kernel_rfl) (by kernel_rfl) (by kernel_rfl) (by kernel_rfl) (fun _ _ _ h => h) (by kernel_rfl) ?_ trivial ?_
  · intro W hSw; have hsl := HS2.out W; first | (go_simp; done) | go_simp
  try simp only [Act.put, List.setIfInBounds_toArray, List.set_cons_zero, List.set_cons_succ]
  refine takeYes (i := 3) (k := 23) (v := .slice (some ⟨g, 0, none⟩) n cap) rfl (by kernel_rfl) (by kernel_rfl) (by kernel_rfl) (by kernel_rfl) (fun _ _ _ h => h) (by kernel_rfl) ?_ trivial ?_
  · intro W hSw; first | (go_simp; done) | go_simp
  try simp only [Act.put, List.setIfInBounds_toArray, List.set_cons_zero, List.set_cons_succ]
  refine takeYes (i := 4) (k := 24) (v := .int .i64 ((q : Int) + 1)) rfl (by kernel_rfl) (by kernel_rfl) (by kernel_rfl) (by kernel_rfl) (fun _ _ _ h => h) (by kernel_rfl) ?_ trivial ?_
  · intro W hSw; first | (go_simp; done) | go_simp
  try simp only [Act.put, List.setIfInBounds_toArray, List.set_cons_zero, List.set_cons_succ]
  refine takeYes (i := 5) (k := 25) (v := T) rfl (by kernel_rfl) (by kernel_rfl) (by kernel_rfl) (by kernel_rfl) (fun _ _ _ h => h) (by kernel_rfl) ?_ trivial ?_
  · intro W hSw; have hsl := HS3.out W; first | (go_simp; done) | go_simp
  try simp only [Act.put, List.setIfInBounds_toArray, List.set_cons_zero, List.set_cons_succ]
  obtain ⟨w2, r2, o2, u2⟩ := HA.out
  refine wpAnyH_ready (rs := [6]) (by kernel_rfl) (by simp) (AllReadyH.cons rfl (fun K hK => ?_) AllReadyH.nil)
  refine step_appD 26 rfl (by kernel_rfl) (.tmp 22) (.tmp 25) 29 rfl rfl rfl r2 ?_
  refine hK.out _ _ trivial (fun hHeld2 => ?_)
  clear hK K
  try simp only [Act.put, List.setIfInBounds_toArray, List.set_cons_zero, List.set_cons_succ]
  refine takeYes (i := 7) (k := 0) (v := .slice (some ⟨g, 0, none⟩) m cap) rfl (by kernel_rfl) (by kernel_rfl) (by kernel_rfl) (by kernel_rfl) (fun _ _ _ h => h) (by kernel_rfl) ?_ trivial ?_
  · intro W hSw; first | (go_simp; done) | go_simp
  try simp only [Act.put, List.setIfInBounds_toArray, List.set_cons_zero]
  refine wpAnyH_done (by kernel_rfl) ?_ _
  have HU2 := Lib.hid (And.intro u2 o2)
  obtain ⟨w3, r3, o3, u3⟩ := HCL.out w2 o2
  have HF : Hid (OwnK encTbf 5 43 B w3 (.slice (some ⟨g, 0, none⟩) m cap) ys ∧ UpdF (fun j => j = g) w w3) := Lib.hid ⟨o3, UpdF.trans (show UpdF (fun j => j = g) w w2 from ⟨u2.os, u2.tape, u2.output, u2.size, u2.block⟩) u3⟩
  have hs4 := HS4.out w2
  clear HA HCL r2 o2 u2 HU2 o3 u3 HS1 HS2 HS3
  go_wp2_with fail
  go_ret
  exact ⟨rfl, HF.out.1, HF.out.2⟩
end Go.Proofs.Ytjloaamaelcmaaa
