/- How tables are ordered: the walk of order, in the sort's own words. -/
import Derived.Test.YtjloaamaelcmaaaVerSmall
import Derived.Test.YtjloaamaelcmaaaMBase
import Derived.Deep.RegionHeld3
import Derived.Shelf.SlSortCmp.QuietGrown
namespace Go.Proofs.Ytjloaamaelcmaaa
set_option linter.unusedVariables false
set_option maxRecDepth 100000
open Go.RowKit Go.Sort
open Go.Lib (compareBytes)
/-- Some draws, some blocks behind it. -/
def GrN (w w' : World) : Prop := ∃ p : GrownBy, w' = grow (w.drewN p.n) p.os
theorem GrN.refl (w : World) : GrN w w := ⟨⟨0, #[]⟩, by rw [grow_empty]; rfl⟩
theorem GrN.drew {w w' : World} (h : GrN w w') : GrN w w'.drew := by obtain ⟨⟨n, os⟩, rfl⟩ := h; exact ⟨⟨n + 1, os⟩, rfl⟩
theorem GrN.alloc {w w' : World} (h : GrN w w') (o : Obj) : GrN w (w'.alloc o) := by
  obtain ⟨⟨n, os⟩, rfl⟩ := h
  exact ⟨⟨n, os ++ #[o]⟩, by rw [alloc_eq_grow, grow_grow]⟩
theorem GrN.below {w w' : World} (h : GrN w w') : Below w.heap.size w w' := by
  obtain ⟨⟨n, os⟩, rfl⟩ := h
  have h1 : Below w.heap.size w (w.drewN n) := ⟨rfl, rfl, rfl, Nat.le_refl _, fun _ _ => rfl⟩
  refine h1.trans ⟨rfl, rfl, rfl, ?_, fun k hk => ?_⟩
  · simp only [size_grow]; omega
  · exact Array.getElem?_append_left hk
theorem GrN.trans {w w1 w2 : World} (h : GrN w w1) (k : GrN w1 w2) : GrN w w2 := by
  obtain ⟨⟨n, os⟩, rfl⟩ := h
  obtain ⟨⟨m, ot⟩, rfl⟩ := k
  exact ⟨⟨n + m, os ++ ot⟩, by show grow ((grow (w.drewN n) os).drewN m) ot = _; rw [← grow_grow, ← World.drewN_drewN]; rfl⟩
/-- The five cells of a block. -/
structure Cell5 (w : World) (b : Nat) (v0 v1 v2 v3 v4 : Value) : Prop where
  c0 : w.cell? ⟨b, 0, none⟩ = some v0
  c1 : w.cell? ⟨b, 1, none⟩ = some v1
  c2 : w.cell? ⟨b, 2, none⟩ = some v2
  c3 : w.cell? ⟨b, 3, none⟩ = some v3
  c4 : w.cell? ⟨b, 4, none⟩ = some v4
theorem cell5_of {w : World} {b : Nat} {v0 v1 v2 v3 v4 : Value} {t : TypeId} (h : BlkAt w b #[v0, v1, v2, v3, v4] t) : Cell5 w b v0 v1 v2 v3 v4 := ⟨h.at 0, h.at 1, h.at 2, h.at 3, h.at 4⟩
theorem BlkAt.drew {w : World} {b : Nat} {vs : Array Value} {t : TypeId} (h : BlkAt w b vs t) : BlkAt w.drew b vs t := h
/-- a ahead of b: below 0. -/
def vCf (x y : Tbf) : Int := if x.lvl = 0 ∧ y.lvl = 0 then cmpI y.num x.num else vOr (cmpI x.lvl y.lvl) (compareBytes x.lo.data.toList y.lo.data.toList)
def OrdTo (w : World) (c : Int) (e : Ending) (w' : World) : Prop := e = .returned (.int .i64 c) ∧ GrN w w'
set_option maxHeartbeats 4000000 in
theorem vorder_raw (n l s : Int) (lo hi : ByteArray) (m k t : Int) (lp hp : ByteArray) (w : World) :
    Calls Try.prog 51 #[.agg #[.int .i64 n, .int .i64 l, .int .i64 s, .string lo, .string hi], .agg #[.int .i64 m, .int .i64 k, .int .i64 t, .string lp, .string hp]] w (OrdTo w (vCf ⟨n, l, s, lo, hi⟩ ⟨m, k, t, lp, hp⟩)) := by
  obtain ⟨V, hV⟩ : ∃ V, vCf ⟨n, l, s, lo, hi⟩ ⟨m, k, t, lp, hp⟩ = V := ⟨_, rfl⟩
  rw [hV]
  unfold OrdTo
  have HV := Lib.hid hV
  clear hV
  have HG : Hid (GrN w ((w.alloc (.cells #[.int .i64 n, .int .i64 l, .int .i64 s, .string lo, .string hi] 43)).alloc (.cells #[.int .i64 m, .int .i64 k, .int .i64 t, .string lp, .string hp] 43))) := Lib.hid (((GrN.refl w).alloc _).alloc _)
  by_cases h0 : l = 0 ∧ k = 0
  · have e : cmpI m n = V := by rw [← HV.out]; exact (if_pos h0).symm
    obtain ⟨rfl, rfl⟩ := h0
    have HC : Hid (∀ w, Calls Try.prog 58 #[.int .i64 m, .int .i64 n] w fun e w' => e = .returned (.int .i64 V) ∧ w' = w) := Lib.hid fun w => by rw [← e]; exact cmp64_any m n w
    clear e HV
    go_enter Try.func51, Try.ntmps51
    go_wp2_with fail
    refine (HC.out _).mono ?_
    rintro e w' ⟨rfl, rfl⟩
    go_wp2_with fail
    go_ret
    exact ⟨rfl, HG.out⟩
  · have e : vOr (cmpI l k) (compareBytes lo.data.toList lp.data.toList) = V := by rw [← HV.out]; exact (if_neg h0).symm
    have HC1 : Hid (∀ w, Calls Try.prog 60 #[.int .i64 l, .int .i64 k] w fun e w' => e = .returned (.int .i64 (cmpI l k)) ∧ w' = w) := Lib.hid fun w => cmpInt_any l k w
    have HC2 : Hid (∀ w, Calls Try.prog 61 #[.string lo, .string lp] w fun e w' => e = .returned (.int .i64 (compareBytes lo.data.toList lp.data.toList)) ∧ w = w') := Lib.hid fun w => scmp_any lo lp w
    generalize cmpI l k = c1 at *
    generalize compareBytes lo.data.toList lp.data.toList = c2 at *
    have HC3 : Hid (∀ (b : Nat) (w : World), BlkAt w b #[.int .i64 c1, .int .i64 c2] 3 → Calls Try.prog 59 #[.slice (some ⟨b, 0, none⟩) 2 2] w fun e w' => e = .returned (.int .i64 V) ∧ w' = w) := Lib.hid fun b w h => by rw [← e]; exact vorI_any b c1 c2 w h
    clear e HV
    have HX := Lib.hid (BlkAt.new (w.alloc (.cells #[.int .i64 n, .int .i64 l, .int .i64 s, .string lo, .string hi] 43)) #[.int .i64 m, .int .i64 k, .int .i64 t, .string lp, .string hp] 43)
    have HY := Lib.hid ((BlkAt.new w #[.int .i64 n, .int .i64 l, .int .i64 s, .string lo, .string hi] 43).more (.cells #[.int .i64 m, .int .i64 k, .int .i64 t, .string lp, .string hp] 43))
    have hsz : (w.alloc (.cells #[.int .i64 n, .int .i64 l, .int .i64 s, .string lo, .string hi] 43)).heap.size = w.heap.size + 1 := by simp
    rw [hsz] at HX
    clear hsz
    by_cases hl : l = 0
    · have hk : ¬ k = 0 := fun h => h0 ⟨hl, h⟩
      subst hl
      clear h0
      go_enter Try.func51, Try.ntmps51
      go_wp2_with fail
      obtain ⟨w1, hw1⟩ : ∃ x, (w.alloc (.cells #[.int .i64 n, .int .i64 0, .int .i64 s, .string lo, .string hi] 43)).alloc (.cells #[.int .i64 m, .int .i64 k, .int .i64 t, .string lp, .string hp] 43) = x := ⟨_, rfl⟩
      obtain ⟨g, hg⟩ : ∃ x, w.heap.size = x := ⟨_, rfl⟩
      rw [hw1] at HG HX HY ⊢
      rw [hg] at HX HY ⊢
      have CA : Hid (∀ W, GrN w1 W → Cell5 W g (.int .i64 n) (.int .i64 0) (.int .i64 s) (.string lo) (.string hi)) := Lib.hid fun W h => cell5_of (HY.out.below h.below)
      have CB : Hid (∀ W, GrN w1 W → Cell5 W (g + 1) (.int .i64 m) (.int .i64 k) (.int .i64 t) (.string lp) (.string hp)) := Lib.hid fun W h => cell5_of (HX.out.below h.below)
      clear HX HY hw1 hg
      refine wp_region_held_drew (S := GrN w1) (by kernel_rfl) (GrN.refl w1).drew (fun hHeld => ?_)
      refine takeYes (i := 0) (k := 18) (v := .pointer (some ⟨g, 1, none⟩)) rfl (by kernel_rfl) (by kernel_rfl) (by kernel_rfl) (by kernel_rfl) (fun _ _ _ h => h) (by kernel_rfl) ?_ (by assumption) ?_
      · intro W hSw; first | (go_simp; done) | go_simp
      try simp only [Act.put, List.setIfInBounds_toArray, List.set_cons_zero, List.set_cons_succ]
      refine takeYes (i := 1) (k := 19) (v := .int .i64 0) rfl (by kernel_rfl) (by kernel_rfl) (by kernel_rfl) (by kernel_rfl) (fun _ _ _ h => h) (by kernel_rfl) ?_ (by assumption) ?_
      · intro W hSw; obtain ⟨d0, d1, d2, d3, d4⟩ := CA.out W hSw; first | (go_simp; done) | go_simp
      try simp only [Act.put, List.setIfInBounds_toArray, List.set_cons_zero, List.set_cons_succ]
      refine takeYes (i := 2) (k := 20) (v := .pointer (some ⟨g + 1, 1, none⟩)) rfl (by kernel_rfl) (by kernel_rfl) (by kernel_rfl) (by kernel_rfl) (fun _ _ _ h => h) (by kernel_rfl) ?_ (by assumption) ?_
      · intro W hSw; first | (go_simp; done) | go_simp
      try simp only [Act.put, List.setIfInBounds_toArray, List.set_cons_zero, List.set_cons_succ]
      refine takeYes (i := 3) (k := 21) (v := .int .i64 k) rfl (by kernel_rfl) (by kernel_rfl) (by kernel_rfl) (by kernel_rfl) (fun _ _ _ h => h) (by kernel_rfl) ?_ (by assumption) ?_
      · intro W hSw; obtain ⟨d0, d1, d2, d3, d4⟩ := CB.out W hSw; first | (go_simp; done) | go_simp
      try simp only [Act.put, List.setIfInBounds_toArray, List.set_cons_zero, List.set_cons_succ]
      refine takeYes (i := 5) (k := 23) (v := .pointer (some ⟨g, 3, none⟩)) rfl (by kernel_rfl) (by kernel_rfl) (by kernel_rfl) (by kernel_rfl) (fun _ _ _ h => h) (by kernel_rfl) ?_ (by assumption) ?_
      · intro W hSw; first | (go_simp; done) | go_simp
      try simp only [Act.put, List.setIfInBounds_toArray, List.set_cons_zero, List.set_cons_succ]
      refine takeYes (i := 6) (k := 24) (v := .string lo) rfl (by kernel_rfl) (by kernel_rfl) (by kernel_rfl) (by kernel_rfl) (fun _ _ _ h => h) (by kernel_rfl) ?_ (by assumption) ?_
      · intro W hSw; obtain ⟨d0, d1, d2, d3, d4⟩ := CA.out W hSw; first | (go_simp; done) | go_simp
      try simp only [Act.put, List.setIfInBounds_toArray, List.set_cons_zero, List.set_cons_succ]
      refine takeYes (i := 7) (k := 25) (v := .pointer (some ⟨g + 1, 3, none⟩)) rfl (by kernel_rfl) (by kernel_rfl) (by kernel_rfl) (by kernel_rfl) (fun _ _ _ h => h) (by kernel_rfl) ?_ (by assumption) ?_
      · intro W hSw; first | (go_simp; done) | go_simp
      try simp only [Act.put, List.setIfInBounds_toArray, List.set_cons_zero, List.set_cons_succ]
      refine takeYes (i := 8) (k := 26) (v := .string lp) rfl (by kernel_rfl) (by kernel_rfl) (by kernel_rfl) (by kernel_rfl) (fun _ _ _ h => h) (by kernel_rfl) ?_ (by assumption) ?_
      · intro W hSw; obtain ⟨d0, d1, d2, d3, d4⟩ := CB.out W hSw; first | (go_simp; done) | go_simp
      try simp only [Act.put, List.setIfInBounds_toArray, List.set_cons_zero, List.set_cons_succ]
      refine wpAnyH_ready (rs := [4]) (by kernel_rfl) (by simp) (AllReadyH.cons rfl (fun K hK => ?_) AllReadyH.nil)
      go_simp
      refine (HC1.out _).mono ?_
      rintro e w' ⟨rfl, rfl⟩
      refine hK.out _ _ (by assumption) (fun _ => ?_)
      clear hK K
      try simp only [Act.put, List.setIfInBounds_toArray, List.set_cons_zero, List.set_cons_succ]
      refine wpAnyH_ready (rs := [9]) (by kernel_rfl) (by simp) (AllReadyH.cons rfl (fun K hK => ?_) AllReadyH.nil)
      go_simp
      refine (HC2.out _).mono ?_
      rintro e w' ⟨rfl, rfl⟩
      refine hK.out _ _ (by assumption) (fun _ => ?_)
      clear hK K
      try simp only [Act.put, List.setIfInBounds_toArray, List.set_cons_zero, List.set_cons_succ]
      refine wpAnyH_ready (rs := [10]) (by kernel_rfl) (by simp) (AllReadyH.cons rfl (fun K hK => ?_) AllReadyH.nil)
      go_simp
      refine hK.out _ _ ((GrN.refl w1).alloc _).drew (fun hH2 => ?_)
      clear hK K
      try simp only [Act.put, List.setIfInBounds_toArray, List.set_cons_zero, List.set_cons_succ]
      refine wpAnyH_ready (rs := [11]) (by kernel_rfl) (by simp) (AllReadyH.cons rfl (fun K hK => ?_) AllReadyH.nil)
      go_simp
      refine (HC3.out _ _ (BlkAt.new _ _ _).drew).mono ?_
      rintro e w' ⟨rfl, rfl⟩
      refine hK.out _ _ (by assumption) (fun _ => ?_)
      clear hK K
      try simp only [Act.put, List.setIfInBounds_toArray, List.set_cons_zero, List.set_cons_succ]
      refine takeYes (i := 12) (k := 4) (v := .int .i64 V) rfl (by kernel_rfl) (by kernel_rfl) (by kernel_rfl) (by kernel_rfl) (fun _ _ _ h => h) (by kernel_rfl) ?_ (by assumption) ?_
      · intro W hSw; first | (go_simp; done) | go_simp
      try simp only [Act.put, List.setIfInBounds_toArray, List.set_cons_zero, List.set_cons_succ]
      refine wpAnyH_done (by kernel_rfl) ?_ _
      have HE := Lib.hid (HG.out.trans hH2)
      clear hH2
      go_wp2_with fail
      go_ret
      exact ⟨rfl, HE.out⟩
    · clear h0
      go_enter Try.func51, Try.ntmps51
      go_wp2_with fail
      obtain ⟨w1, hw1⟩ : ∃ x, (w.alloc (.cells #[.int .i64 n, .int .i64 l, .int .i64 s, .string lo, .string hi] 43)).alloc (.cells #[.int .i64 m, .int .i64 k, .int .i64 t, .string lp, .string hp] 43) = x := ⟨_, rfl⟩
      obtain ⟨g, hg⟩ : ∃ x, w.heap.size = x := ⟨_, rfl⟩
      rw [hw1] at HG HX HY ⊢
      rw [hg] at HX HY ⊢
      have CA : Hid (∀ W, GrN w1 W → Cell5 W g (.int .i64 n) (.int .i64 l) (.int .i64 s) (.string lo) (.string hi)) := Lib.hid fun W h => cell5_of (HY.out.below h.below)
      have CB : Hid (∀ W, GrN w1 W → Cell5 W (g + 1) (.int .i64 m) (.int .i64 k) (.int .i64 t) (.string lp) (.string hp)) := Lib.hid fun W h => cell5_of (HX.out.below h.below)
      clear HX HY hw1 hg
      refine wp_region_held_drew (S := GrN w1) (by kernel_rfl) (GrN.refl w1).drew (fun hHeld => ?_)
      refine takeYes (i := 0) (k := 18) (v := .pointer (some ⟨g, 1, none⟩)) rfl (by kernel_rfl) (by kernel_rfl) (by kernel_rfl) (by kernel_rfl) (fun _ _ _ h => h) (by kernel_rfl) ?_ (by assumption) ?_
      · intro W hSw; first | (go_simp; done) | go_simp
      try simp only [Act.put, List.setIfInBounds_toArray, List.set_cons_zero, List.set_cons_succ]
      refine takeYes (i := 1) (k := 19) (v := .int .i64 l) rfl (by kernel_rfl) (by kernel_rfl) (by kernel_rfl) (by kernel_rfl) (fun _ _ _ h => h) (by kernel_rfl) ?_ (by assumption) ?_
      · intro W hSw; obtain ⟨d0, d1, d2, d3, d4⟩ := CA.out W hSw; first | (go_simp; done) | go_simp
      try simp only [Act.put, List.setIfInBounds_toArray, List.set_cons_zero, List.set_cons_succ]
      refine takeYes (i := 2) (k := 20) (v := .pointer (some ⟨g + 1, 1, none⟩)) rfl (by kernel_rfl) (by kernel_rfl) (by kernel_rfl) (by kernel_rfl) (fun _ _ _ h => h) (by kernel_rfl) ?_ (by assumption) ?_
      · intro W hSw; first | (go_simp; done) | go_simp
      try simp only [Act.put, List.setIfInBounds_toArray, List.set_cons_zero, List.set_cons_succ]
      refine takeYes (i := 3) (k := 21) (v := .int .i64 k) rfl (by kernel_rfl) (by kernel_rfl) (by kernel_rfl) (by kernel_rfl) (fun _ _ _ h => h) (by kernel_rfl) ?_ (by assumption) ?_
      · intro W hSw; obtain ⟨d0, d1, d2, d3, d4⟩ := CB.out W hSw; first | (go_simp; done) | go_simp
      try simp only [Act.put, List.setIfInBounds_toArray, List.set_cons_zero, List.set_cons_succ]
      refine takeYes (i := 5) (k := 23) (v := .pointer (some ⟨g, 3, none⟩)) rfl (by kernel_rfl) (by kernel_rfl) (by kernel_rfl) (by kernel_rfl) (fun _ _ _ h => h) (by kernel_rfl) ?_ (by assumption) ?_
      · intro W hSw; first | (go_simp; done) | go_simp
      try simp only [Act.put, List.setIfInBounds_toArray, List.set_cons_zero, List.set_cons_succ]
      refine takeYes (i := 6) (k := 24) (v := .string lo) rfl (by kernel_rfl) (by kernel_rfl) (by kernel_rfl) (by kernel_rfl) (fun _ _ _ h => h) (by kernel_rfl) ?_ (by assumption) ?_
      · intro W hSw; obtain ⟨d0, d1, d2, d3, d4⟩ := CA.out W hSw; first | (go_simp; done) | go_simp
      try simp only [Act.put, List.setIfInBounds_toArray, List.set_cons_zero, List.set_cons_succ]
      refine takeYes (i := 7) (k := 25) (v := .pointer (some ⟨g + 1, 3, none⟩)) rfl (by kernel_rfl) (by kernel_rfl) (by kernel_rfl) (by kernel_rfl) (fun _ _ _ h => h) (by kernel_rfl) ?_ (by assumption) ?_
      · intro W hSw; first | (go_simp; done) | go_simp
      try simp only [Act.put, List.setIfInBounds_toArray, List.set_cons_zero, List.set_cons_succ]
      refine takeYes (i := 8) (k := 26) (v := .string lp) rfl (by kernel_rfl) (by kernel_rfl) (by kernel_rfl) (by kernel_rfl) (fun _ _ _ h => h) (by kernel_rfl) ?_ (by assumption) ?_
      · intro W hSw; obtain ⟨d0, d1, d2, d3, d4⟩ := CB.out W hSw; first | (go_simp; done) | go_simp
      try simp only [Act.put, List.setIfInBounds_toArray, List.set_cons_zero, List.set_cons_succ]
      refine wpAnyH_ready (rs := [4]) (by kernel_rfl) (by simp) (AllReadyH.cons rfl (fun K hK => ?_) AllReadyH.nil)
      go_simp
      refine (HC1.out _).mono ?_
      rintro e w' ⟨rfl, rfl⟩
      refine hK.out _ _ (by assumption) (fun _ => ?_)
      clear hK K
      try simp only [Act.put, List.setIfInBounds_toArray, List.set_cons_zero, List.set_cons_succ]
      refine wpAnyH_ready (rs := [9]) (by kernel_rfl) (by simp) (AllReadyH.cons rfl (fun K hK => ?_) AllReadyH.nil)
      go_simp
      refine (HC2.out _).mono ?_
      rintro e w' ⟨rfl, rfl⟩
      refine hK.out _ _ (by assumption) (fun _ => ?_)
      clear hK K
      try simp only [Act.put, List.setIfInBounds_toArray, List.set_cons_zero, List.set_cons_succ]
      refine wpAnyH_ready (rs := [10]) (by kernel_rfl) (by simp) (AllReadyH.cons rfl (fun K hK => ?_) AllReadyH.nil)
      go_simp
      refine hK.out _ _ ((GrN.refl w1).alloc _).drew (fun hH2 => ?_)
      clear hK K
      try simp only [Act.put, List.setIfInBounds_toArray, List.set_cons_zero, List.set_cons_succ]
      refine wpAnyH_ready (rs := [11]) (by kernel_rfl) (by simp) (AllReadyH.cons rfl (fun K hK => ?_) AllReadyH.nil)
      go_simp
      refine (HC3.out _ _ (BlkAt.new _ _ _).drew).mono ?_
      rintro e w' ⟨rfl, rfl⟩
      refine hK.out _ _ (by assumption) (fun _ => ?_)
      clear hK K
      try simp only [Act.put, List.setIfInBounds_toArray, List.set_cons_zero, List.set_cons_succ]
      refine takeYes (i := 12) (k := 4) (v := .int .i64 V) rfl (by kernel_rfl) (by kernel_rfl) (by kernel_rfl) (by kernel_rfl) (fun _ _ _ h => h) (by kernel_rfl) ?_ (by assumption) ?_
      · intro W hSw; first | (go_simp; done) | go_simp
      try simp only [Act.put, List.setIfInBounds_toArray, List.set_cons_zero, List.set_cons_succ]
      refine wpAnyH_done (by kernel_rfl) ?_ _
      have HE := Lib.hid (HG.out.trans hH2)
      clear hH2
      go_wp2_with fail
      go_ret
      exact ⟨rfl, HE.out⟩
theorem vorder_any (x y : Tbf) (w : World) : Calls Try.prog 51 #[x.v, y.v] w (OrdTo w (vCf x y)) := vorder_raw x.num x.lvl x.siz x.lo x.hi y.num y.lvl y.siz y.lo y.hi w
end Go.Proofs.Ytjloaamaelcmaaa
