/- The walks of New, Size, Bytes; of the library's Grow and Concat. -/
import Derived.Test.YtaddihabjdoihaaBdAdd
import Derived.Test.YtaddihabjdoihaaRdRecs
import Derived.Test.YtaddihabjdoihaaByZero
import Derived.Test.YtaddihabjdoihaaTake
import Derived.Deep.LoopGhost
namespace Go.Proofs.Ytaddihabjdoihaa
set_option linter.unusedVariables false
set_option maxRecDepth 100000
open Go.RowKit
/-- No bytes, with room. -/
theorem OwnB.none' {B : Nat} {w : World} {a : Option Addr} {n cap : Nat} {bs : List UInt8} (h : OwnB B w (.slice a n cap) bs) (hn : 0 < n) : OwnB B w (.slice a 0 cap) [] := by
  obtain ⟨h1, h2⟩ := h
  refine ⟨rfl, ?_⟩
  rcases h2 with ⟨e, e2⟩ | ⟨g, c, cur, e1, e2, e3, e4, e5, e6, e7⟩
  · simp only [Value.slice.injEq] at e; omega
  · simp only [Value.slice.injEq] at e1
    obtain ⟨rfl, rfl, rfl⟩ := e1
    exact .inr ⟨g, cap, cur, rfl, e2, e3, Nat.zero_le _, e5, e6, by simp⟩
set_option maxHeartbeats 2000000 in
theorem grow_any (n : Nat) (hn : n ≤ 1000000000000) (w : World) : Calls Try.prog 36 #[.slice none 0 0, .int .i64 (n : Int)] w (MkB [] w) := by
  rcases Nat.eq_zero_or_pos n with h0 | h0
  · subst h0
    go_enter Try.func36, Try.ntmps36
    go_wp2_with fail
    go_ret
    exact ⟨_, rfl, OwnB.nil _ _, Below.refl _ _⟩
  · have hz1 : (0 : Int) < (n : Int) := by omega
    have hz2 : ¬ (n : Int) < 0 := by omega
    obtain ⟨v1, w1, hr, o1, b1⟩ := app_zeros (ty := 33) w n h0 hn
    obtain ⟨a1, n1, c1, rfl, hn1, hc1, -⟩ := o1.form
    rw [List.length_replicate] at hn1
    subst hn1
    have hsl := fun W => sl_hB W a1 n1 c1 0 (Nat.zero_le _)
    have hsl2 : ∀ W, (Instr.sliceAt 33 (.slice a1 n1 c1) none (some (.int .i64 0)) none).run Try.prog W = .ok (.slice a1 0 c1) W := hsl
    have HO := Lib.hid (o1.none' h0)
    clear hsl o1
    have HRN := Lib.hid hr
    clear hr
    go_enter Try.func36, Try.ntmps36
    go_wp2_with (at_builtin; refine wp_appZ _ _ (by rfl) (by rfl) (by rfl) (by rfl) HRN.out ?_)
    go_ret
    exact ⟨_, rfl, HO.out, b1⟩
theorem sum_take (l : List (List UInt8)) (i : Nat) (x : List UInt8) (h : l[i]? = some x) : ((l.take (i + 1)).flatMap id).length = ((l.take i).flatMap id).length + x.length ∧ (l.take (i + 1)).flatMap id = (l.take i).flatMap id ++ x := by
  rw [List.take_add_one, h, List.flatMap_append]
  simp
theorem bkSum_le (l : List (List UInt8)) (i : Nat) : ((l.take i).flatMap id).length ≤ (l.flatMap id).length := by
  have e : (l.take i).flatMap id ++ (l.drop i).flatMap id = l.flatMap id := by rw [← List.flatMap_append, List.take_append_drop]
  rw [← e, List.length_append]; omega
set_option maxHeartbeats 4000000 in
theorem concat_any (v : Value) (bss : List (List UInt8)) (hb : (bss.flatMap id).length ≤ 1000000000000 ∧ bss.length ≤ 1000000000000) (w : World) (h : RdRecs w v bss) : Calls Try.prog 25 #[v] w (MkB (bss.flatMap id) w) := by
  obtain ⟨a, cap, rfl⟩ := h.form
  obtain ⟨R, hR⟩ : ∃ R, bss.flatMap id = R := ⟨_, rfl⟩
  have HR := Lib.hid hR
  have HRD := Lib.hid h
  obtain ⟨N, hN⟩ : ∃ N, bss.length = N := ⟨_, rfl⟩
  obtain ⟨S, hS⟩ : ∃ S, R.length = S := ⟨_, rfl⟩
  have HS := Lib.hid hS
  obtain ⟨hb1, hb2⟩ := hb
  rw [hR, hS] at hb1
  rw [hN] at hb2 HRD
  rw [hR, hN]
  have HN := Lib.hid hN.symm
  have HSL : Hid (∀ i, ((bss.take i).flatMap id).length ≤ S) := Lib.hid fun i => by rw [← hS, ← hR]; exact bkSum_le bss i
  clear hR h hN hS
  have HG : Hid (∀ w, Calls Try.prog 36 #[.slice none 0 0, .int .i64 (S : Int)] w (MkB [] w)) := Lib.hid (grow_any S hb1)
  go_enter Try.func25, Try.ntmps25
  go_wp2_with fail
  go_loopg [3, 11] N (fun kk vs vi wr => ∃ (i s : Nat), vi = .int .i64 (i : Int) ∧ vs = .int .i64 (s : Int) ∧ i ≤ N ∧ N - i ≤ kk ∧ s ≤ S ∧ w = wr ∧ Hid (s = ((bss.take i).flatMap id).length))
  case atStart => exact ⟨0, 0, rfl, rfl, by omega, by omega, by omega, rfl, Lib.hid rfl⟩
  case round =>
    obtain ⟨i, s, rfl, rfl, hi, hik, hs, rfl, HSS⟩ := hrel
    by_cases h1 : i < N
    · have hi1 : (i : Int) < (N : Int) := by omega
      have hi0 : (0 : Int) ≤ (i : Int) := by omega
      have hlx : i < bss.length := by have := HN.out; omega
      obtain ⟨x, hx⟩ : ∃ x, bss[i]? = some x := ⟨bss[i], List.getElem?_eq_getElem hlx⟩
      obtain ⟨g, off, u, rfl, hg, hc, hu⟩ := HRD.out.at i x hx
      obtain ⟨au, nu, cu, rfl, hnu, -⟩ := hu.form
      have hsn : s + nu ≤ S := by
        have := HSL.out (i + 1)
        rw [(sum_take bss i x hx).1, ← HSS.out] at this
        omega
      have HS2 : Hid (s + nu = ((bss.take (i + 1)).flatMap id).length) := Lib.hid (by rw [(sum_take bss i x hx).1, ← HSS.out, hnu])
      clear hx hu hnu HSS hlx
      have hneg : ¬ (s : Int) + (nu : Int) < 0 := by omega
      go_wp2_with fail
      go_roundg (N - (i + 1))
      case measure => omega
      case rel => exact ⟨i + 1, s + nu, by go_num, by go_num, by omega, Nat.le_refl _, hsn, rfl, HS2⟩
    · obtain rfl : i = N := by omega
      obtain rfl : s = S := by
        rw [HSS.out, List.take_of_length_le (by have := HN.out; omega), HR.out, HS.out]
      have hi1 : ¬ (i : Int) < (i : Int) := by omega
      clear HSS
      go_wp2_with fail
      refine (HG.out _).mono ?_
      rintro e w1 ⟨v1, rfl, o1, b1⟩
      have HO1 := Lib.hid o1
      have HB1 := Lib.hid b1
      obtain ⟨a1, n1, c1, rfl, -⟩ := o1.form
      clear o1 b1 HG
      go_wp2_with fail
      go_loopg [6, 27] i (fun kk vs vj wr => ∃ (j : Nat) (L : List UInt8) (a2 : Option Addr) (n2 c2 : Nat), vj = .int .i64 (j : Int) ∧ vs = .slice a2 n2 c2 ∧ j ≤ i ∧ i - j ≤ kk ∧ Hid (L = (bss.take j).flatMap id) ∧ Hid (OwnB w.heap.size wr (.slice a2 n2 c2) L) ∧ Hid (Below w.heap.size w wr))
      case atStart => exact ⟨0, [], a1, n1, c1, rfl, rfl, by omega, by omega, Lib.hid rfl, HO1, HB1⟩
      case round =>
        clear HO1 HB1
        obtain ⟨j, L, a2, n2, c2, rfl, rfl, hj, hjk, HL, HO, HB⟩ := hrel
        by_cases h2 : j < i
        · have hj1 : (j : Int) < (i : Int) := by omega
          have hj0 : (0 : Int) ≤ (j : Int) := by omega
          have hlx : j < bss.length := by have := HN.out; omega
          obtain ⟨x, hx⟩ : ∃ x, bss[j]? = some x := ⟨bss[j], List.getElem?_eq_getElem hlx⟩
          obtain ⟨g, off, u, rfl, hg, hc, hu⟩ := (HRD.out.below HB.out).at j x hx
          obtain ⟨au, nu, cu, rfl, hnu, -⟩ := id hu.form
          have HU := Lib.hid hu
          have HT := Lib.hid (sum_take bss j x hx).2
          have HLL : Hid (L.length + x.length ≤ 1000000000000) := Lib.hid (by
            have := HSL.out (j + 1)
            rw [(sum_take bss j x hx).1, ← HL.out] at this
            omega)
          clear hx hu hnu hlx
          go_wp2_with (at_builtin; refine wp_appSB _ _ (by rfl) (by rfl) (by rfl) HO.out (by rfl) HU.out ?c1 HB.out.size ?_)
          case c1 => have := HLL.out; omega
          intro v3 w3 o3 b3
          have HB3 := Lib.hid (HB.out.trans b3)
          obtain ⟨a3, n3, c3, rfl, -⟩ := o3.form
          have HO3 := Lib.hid o3
          clear o3 b3 HU HO HB
          go_wp2_with fail
          go_roundg (i - (j + 1))
          case measure => omega
          case rel => exact ⟨j + 1, _, a3, n3, c3, by go_num, rfl, by omega, Nat.le_refl _, Lib.hid (by rw [HT.out, HL.out]), HO3, HB3⟩
        · obtain rfl : j = i := by omega
          have hj1 : ¬ (j : Int) < (j : Int) := by omega
          have HRL : Hid (R = L) := Lib.hid (by rw [← HR.out, HL.out, List.take_of_length_le (by have := HN.out; omega)])
          clear HL HR
          go_wp2_with fail
          go_ret
          exact ⟨_, rfl, by rw [HRL.out]; exact HO.out, HB.out⟩
/-- TwoB slices in a row that was just laid. -/
theorem rdRecs_two (w : World) (u v : Value) (x y : List UInt8) (hu : RdB w u x) (hv : RdB w v y) : RdRecs (w.alloc (.cells #[u, v] 33)) (.slice (some ⟨w.heap.size, 0, none⟩) 2 2) [x, y] := by
  have hal : Below w.heap.size w (w.alloc (.cells #[u, v] 33)) := (Below.refl _ w).alloc (Nat.le_refl _) _
  have hb := BlkAt.new w #[u, v] 33
  refine ⟨[u, v], .inr ⟨w.heap.size, 0, 2, rfl, by simp, by simp, by unfold maxLen; omega, hb.lt, fun i hi => ?_⟩, rfl, fun i z bs hz hbs => ?_⟩
  · rw [Nat.zero_add, hb.at i]
    match i, hi with
    | 0, _ => rfl
    | 1, _ => rfl
  · match i, hz, hbs with
    | 0, hz, hbs =>
      obtain rfl := Option.some.inj hz
      obtain rfl := Option.some.inj hbs
      exact hu.below hal
    | 1, hz, hbs =>
      obtain rfl := Option.some.inj hz
      obtain rfl := Option.some.inj hbs
      exact hv.below hal
theorem bkNew_any (w : World) : Calls Try.prog 9 #[] w fun e w' => e = .returned (.pointer (some ⟨w.heap.size, 0, none⟩)) ∧ BdAt w' w.heap.size (fun g => g = w.heap.size) [] ∧ Below w.heap.size w w' ∧ w.heap.size < w'.heap.size := by
  go_enter Try.func9, Try.ntmps9
  go_wp2_with fail
  go_ret
  refine ⟨rfl, ⟨List.Pairwise.nil, .slice none 0 0, .slice none 0 0, BlkAt.new _ _ _, OwnB.nil _ _, OwnK.nil _ _ _ _ _, (fun g h => by cases h), (fun g h => by cases h), .inl rfl, UpdF.refl _ _⟩, (Below.refl _ _).alloc (Nat.le_refl _) _, by simp⟩
set_option maxHeartbeats 2000000 in
theorem bkSize_any (b : Nat) (F : Nat → Prop) (rs : List Kv) (w : World) (h : BdAt w b F rs) (hsz : (bodyB 0 [] rs).length ≤ 1000000000) : Calls Try.prog 16 #[.pointer (some ⟨b, 0, none⟩)] w fun e w' => e = .returned (.int .i64 ((blockB rs).length : Int)) ∧ DrN w w' := by
  obtain ⟨-, vr, vp, hL⟩ := h
  obtain ⟨A0, N0, K0, rfl, hN0, -⟩ := hL.rows.form
  obtain ⟨ap, kp, rfl, -⟩ := hL.places.kform
  obtain ⟨⟨c0, c1, c2, c3⟩, cf⟩ := hL.cells
  obtain ⟨M, hM⟩ : ∃ M, (blockB rs).length = M := ⟨_, rfl⟩
  have hbl := body_len rs 0 []
  have he := bkEnds_len rs
  have hm := blockB_len rs
  generalize (bkEnds rs).length = np at *
  have HM : Hid ((N0 : Int) + ((np : Int) + 1) * 4 = (M : Int)) := Lib.hid (by omega)
  have hnb : N0 ≤ 1000000000 := by omega
  have hpb : np ≤ 1000000000 := by omega
  rw [hM]
  clear hL hN0 hM hbl he hm hsz
  go_enter Try.func16, Try.ntmps16
  go_wp2_with fail
  have w1 : IntKind.i64.wrap ((np : Int) + 1) = (np : Int) + 1 := IntWalk.i64_in _ (by omega)
  have w2 : IntKind.i64.wrap (((np : Int) + 1) * 4) = ((np : Int) + 1) * 4 := IntWalk.i64_in _ (by omega)
  have w3 : IntKind.i64.wrap ((N0 : Int) + ((np : Int) + 1) * 4) = (M : Int) := by rw [← HM.out]; exact IntWalk.i64_in _ (by omega)
  go_quiet (fail)
  generalize hw2 : w.drewN nq = w2
  have hd : DrN w w2 := ⟨nq, hw2.symm⟩
  go_wp2_with fail
  go_ret
  exact ⟨rfl, hd⟩
set_option maxHeartbeats 4000000 in
theorem bytes_any (b : Nat) (F : Nat → Prop) (rs : List Kv) (w : World) (h : BdAt w b F rs) (hsz : (bodyB 0 [] rs).length ≤ 1000000000) : Calls Try.prog 12 #[.pointer (some ⟨b, 0, none⟩)] w (MkB (blockB rs) w) := by
  obtain ⟨-, vr, vp, hL⟩ := h
  obtain ⟨A0, N0, K0, rfl, hN0, -⟩ := hL.rows.form
  obtain ⟨ap, kp, rfl, -⟩ := hL.places.kform
  obtain ⟨⟨c0, c1, -, -⟩, -⟩ := hL.cells
  have hlt := hL.lt
  have hbl := body_len rs 0 []
  have he := bkEnds_len rs
  have hcl : ([bodyB 0 [] rs, placesB (bkEnds rs)].flatMap id).length ≤ 1000000000000 ∧ [bodyB 0 [] rs, placesB (bkEnds rs)].length ≤ 1000000000000 := by
    have hm := blockB_len rs
    have e : [bodyB 0 [] rs, placesB (bkEnds rs)].flatMap id = blockB rs := by rw [blockB_is]; simp
    rw [e]
    exact ⟨by omega, by simp⟩
  have HFM : Hid ([bodyB 0 [] rs, placesB (bkEnds rs)].flatMap id = blockB rs) := Lib.hid (by rw [blockB_is]; simp)
  have HPP : Hid (Calls Try.prog 26 #[.slice ap (bkEnds rs).length kp] w.drew (MkB (placesB (bkEnds rs)) w.drew)) := Lib.hid (by
    refine putPlaces_any _ (bkEnds rs) (by omega) ?_ w.drew (OwnV.rd (w := w.drew) hL.places.places)
    intro x hx
    have := ends_bd rs x hx
    omega)
  have HRW := Lib.hid (hL.rows.base (B' := 0) (Nat.zero_le _))
  generalize (bkEnds rs).length = np at *
  clear hL hN0 hbl he hsz
  go_enter Try.func12, Try.ntmps12
  go_wp2_with fail
  have hS0 : w.drew.heap[b]? = w.heap[b]? := rfl
  refine wp_region_held_drew (S := fun W => W.heap[b]? = w.heap[b]?) (by kernel_rfl) hS0 (fun hHeld => ?_)
  refine takeYes (i := 0) (k := 5) (v := .pointer (some ⟨b, 0, none⟩)) rfl (by kernel_rfl) (by kernel_rfl) (by kernel_rfl) (by kernel_rfl) (fun _ _ _ h => h) (by kernel_rfl) ?_ (by assumption) ?_
  · intro W hSw; first | (go_simp; done) | go_simp
  try simp only [Act.put, List.setIfInBounds_toArray, List.set_cons_zero, List.set_cons_succ]
  refine takeYes (i := 1) (k := 6) (v := .pointer (some ⟨b, 0, none⟩)) rfl (by kernel_rfl) (by kernel_rfl) (by kernel_rfl) (by kernel_rfl) (fun _ _ _ h => h) (by kernel_rfl) ?_ (by assumption) ?_
  · intro W hSw; first | (go_simp; done) | go_simp
  try simp only [Act.put, List.setIfInBounds_toArray, List.set_cons_zero, List.set_cons_succ]
  refine takeYes (i := 2) (k := 7) (v := .pointer (some ⟨b, 0, none⟩)) rfl (by kernel_rfl) (by kernel_rfl) (by kernel_rfl) (by kernel_rfl) (fun _ _ _ h => h) (by kernel_rfl) ?_ (by assumption) ?_
  · intro W hSw; first | (go_simp; done) | go_simp
  try simp only [Act.put, List.setIfInBounds_toArray, List.set_cons_zero, List.set_cons_succ]
  refine takeYes (i := 3) (k := 8) (v := .slice A0 N0 K0) rfl (by kernel_rfl) (by kernel_rfl) (by kernel_rfl) (by kernel_rfl) (fun _ _ _ h => h) (by kernel_rfl) ?_ (by assumption) ?_
  · intro W hSw; have d0 := (World.cell?_of_block (a := ⟨b, 0, none⟩) hSw).trans c0; first | (go_simp; done) | go_simp
  try simp only [Act.put, List.setIfInBounds_toArray, List.set_cons_zero, List.set_cons_succ]
  refine takeYes (i := 4) (k := 9) (v := .pointer (some ⟨b, 0, none⟩)) rfl (by kernel_rfl) (by kernel_rfl) (by kernel_rfl) (by kernel_rfl) (fun _ _ _ h => h) (by kernel_rfl) ?_ (by assumption) ?_
  · intro W hSw; first | (go_simp; done) | go_simp
  try simp only [Act.put, List.setIfInBounds_toArray, List.set_cons_zero, List.set_cons_succ]
  refine takeYes (i := 5) (k := 10) (v := .pointer (some ⟨b, 0, none⟩)) rfl (by kernel_rfl) (by kernel_rfl) (by kernel_rfl) (by kernel_rfl) (fun _ _ _ h => h) (by kernel_rfl) ?_ (by assumption) ?_
  · intro W hSw; first | (go_simp; done) | go_simp
  try simp only [Act.put, List.setIfInBounds_toArray, List.set_cons_zero, List.set_cons_succ]
  refine takeYes (i := 6) (k := 11) (v := .pointer (some ⟨b, 1, none⟩)) rfl (by kernel_rfl) (by kernel_rfl) (by kernel_rfl) (by kernel_rfl) (fun _ _ _ h => h) (by kernel_rfl) ?_ (by assumption) ?_
  · intro W hSw; first | (go_simp; done) | go_simp
  try simp only [Act.put, List.setIfInBounds_toArray, List.set_cons_zero, List.set_cons_succ]
  refine takeYes (i := 7) (k := 12) (v := .slice ap np kp) rfl (by kernel_rfl) (by kernel_rfl) (by kernel_rfl) (by kernel_rfl) (fun _ _ _ h => h) (by kernel_rfl) ?_ (by assumption) ?_
  · intro W hSw; have d1 := (World.cell?_of_block (a := ⟨b, 1, none⟩) hSw).trans c1; first | (go_simp; done) | go_simp
  try simp only [Act.put, List.setIfInBounds_toArray, List.set_cons_zero, List.set_cons_succ]
  refine wpAnyH_ready (rs := [8]) (by kernel_rfl) (by simp) (AllReadyH.cons rfl (fun K hK => ?_) AllReadyH.nil)
  go_simp
  refine HPP.out.mono ?_
  rintro e w1 ⟨v1, rfl, o1, b1⟩
  obtain ⟨a1, n1, c1, rfl, -⟩ := id o1.form
  have hS1 : w1.heap[b]? = w.heap[b]? := b1.block b hlt
  refine hK.out _ _ hS1 (fun hHeld2 => ?_)
  clear hK K hHeld
  try simp only [Act.put, List.setIfInBounds_toArray, List.set_cons_zero, List.set_cons_succ]
  have HR1 := Lib.hid (OwnB.rd (OwnB.below (w := w.drew) HRW.out b1))
  have HV1 := Lib.hid o1.rd
  have HB1 := Lib.hid ((show Below w.heap.size w w1 from ((Below.refl _ w).drew).trans b1))
  have hlt1 : b < w1.heap.size := Nat.lt_of_lt_of_le hlt HB1.out.size
  clear o1 b1 HPP HRW
  refine wpAnyH_ready (rs := [9]) (by kernel_rfl) (by simp) (AllReadyH.cons rfl (fun K hK => ?_) AllReadyH.nil)
  go_simp
  have hal : Below w1.heap.size w1 (w1.alloc (.cells #[.slice A0 N0 K0, .slice a1 n1 c1] 33)) := (Below.refl _ w1).alloc (Nat.le_refl _) _
  have hS2 : (w1.alloc (.cells #[.slice A0 N0 K0, .slice a1 n1 c1] 33)).heap[b]? = w.heap[b]? := (hal.block b hlt1).trans hS1
  have HB2 := Lib.hid (HB1.out.trans (hal.mono HB1.out.size))
  have HRB : Hid (RdRecs (w1.alloc (.cells #[.slice A0 N0 K0, .slice a1 n1 c1] 33)) (.slice (some ⟨w1.heap.size, 0, none⟩) 2 2) [bodyB 0 [] rs, placesB (bkEnds rs)]) := Lib.hid (rdRecs_two w1 _ _ _ _ (HR1.out) (HV1.out))
  refine hK.out _ _ hS2 (fun hHeld3 => ?_)
  clear hK K hHeld2 hal HR1 HV1 HB1
  try simp only [Act.put, List.setIfInBounds_toArray, List.set_cons_zero, List.set_cons_succ]
  have hlt2 : b < (w1.alloc (.cells #[.slice A0 N0 K0, .slice a1 n1 c1] 33)).heap.size := by simp; omega
  generalize w1.alloc (.cells #[.slice A0 N0 K0, .slice a1 n1 c1] 33) = w2 at *
  generalize w1.heap.size = g1 at *
  have HCC := Lib.hid (concat_any _ _ hcl w2 HRB.out)
  refine wpAnyH_ready (rs := [10]) (by kernel_rfl) (by simp) (AllReadyH.cons rfl (fun K hK => ?_) AllReadyH.nil)
  go_simp
  refine HCC.out.mono ?_
  rintro e w3 ⟨v3, rfl, o3, b3⟩
  have hS3 : w3.heap[b]? = w.heap[b]? := (b3.block b hlt2).trans hS2
  refine hK.out _ _ hS3 (fun hHeld4 => ?_)
  clear hK K hHeld3
  try simp only [Act.put, List.setIfInBounds_toArray, List.set_cons_zero, List.set_cons_succ]
  refine takeYes (i := 11) (k := 2) (v := v3) rfl (by kernel_rfl) (by kernel_rfl) (by kernel_rfl) (by kernel_rfl) (fun _ _ _ h => h) (by kernel_rfl) ?_ (by assumption) ?_
  · intro W hSw; first | (go_simp; done) | go_simp
  try simp only [Act.put, List.setIfInBounds_toArray, List.set_cons_zero, List.set_cons_succ]
  refine wpAnyH_done (by kernel_rfl) ?_ _
  clear hHeld4
  go_wp2_with fail
  go_ret
  rw [HFM.out] at o3
  exact ⟨_, rfl, o3.base HB2.out.size, HB2.out.trans (b3.mono HB2.out.size)⟩
theorem bytes_nil (w : World) : Calls Try.prog 12 #[.pointer none] w fun e w' => e = .returned (.slice none 0 0) ∧ w' = w := by
  go_enter Try.func12, Try.ntmps12
  go_wp2_with fail
  go_ret
  exact ⟨rfl, rfl⟩
theorem size_nil (w : World) : Calls Try.prog 16 #[.pointer none] w fun e w' => e = .returned (.int .i64 0) ∧ w' = w := by
  go_enter Try.func16, Try.ntmps16
  go_wp2_with fail
  go_ret
  exact ⟨rfl, rfl⟩
end Go.Proofs.Ytaddihabjdoihaa
