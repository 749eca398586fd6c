/- skip: linkBack, Put. -/
import Derived.Test.YtacaofnonmgfoaaSkipDone
import Derived.Test.YtacaofnonmgfoaaRegTail
import Derived.BigRegion
import Derived.Laws.OwnMore
import Derived.Deep.OwnRows
import Derived.BigQuiet
namespace Go.Proofs.Ytacaofnonmgfoaa
set_option linter.unusedVariables false
open Go.RowKit
def ToW (w2 : World) (e : Ending) (w' : World) : Prop := e = .returned (.tuple #[]) ∧ w' = w2
set_option maxHeartbeats 1000000 in
theorem backEnd_any (w : World) (b nb : Nat) (la : Option Nat) (v : Value) (c : w.cell? ⟨b, 9, none⟩ = some (ptrO la)) (f : w.frozen? ⟨b, 9, none⟩ = false) (c2 : w.cell? ⟨nb, 6, none⟩ = some v) (f2 : w.frozen? ⟨nb, 6, none⟩ = false) (hne : nb ≠ b) :
    Calls Try.prog 28 #[.pointer (some ⟨b, 0, none⟩), .pointer (some ⟨nb, 0, none⟩), .pointer none] w (ToW ((w.setCell ⟨nb, 6, none⟩ (ptrO la)).setCell ⟨b, 9, none⟩ (ptrO (some nb)))) := by
  cases la
  all_goals
    change _ = some (Value.pointer _) at c
    go_enter Try.func28, Try.ntmps28
    go_wp2_with fail
    refine bodyPost_ret (results_none (by rfl) _ _ _) rfl ?_
    exact ⟨rfl, rfl⟩
set_option maxHeartbeats 1000000 in
theorem backMid_any (w : World) (b nb n1 : Nat) (pv : Option Nat) (v : Value) (c : w.cell? ⟨n1, 6, none⟩ = some (ptrO pv)) (f : w.frozen? ⟨n1, 6, none⟩ = false) (c2 : w.cell? ⟨nb, 6, none⟩ = some v) (f2 : w.frozen? ⟨nb, 6, none⟩ = false) (hne : nb ≠ n1) :
    Calls Try.prog 28 #[.pointer (some ⟨b, 0, none⟩), .pointer (some ⟨nb, 0, none⟩), .pointer (some ⟨n1, 0, none⟩)] w (ToW ((w.setCell ⟨nb, 6, none⟩ (ptrO pv)).setCell ⟨n1, 6, none⟩ (ptrO (some nb)))) := by
  cases pv
  all_goals
    change _ = some (Value.pointer _) at c
    go_enter Try.func28, Try.ntmps28
    go_wp2_with fail
    refine bodyPost_ret (results_none (by rfl) _ _ _) rfl ?_
    exact ⟨rfl, rfl⟩
theorem path_form {w : World} {b : Nat} {ρ : Nat → Option Rl} {hv : Value} {H : List Int} {A B : List Nd} (h : SkLay w b ρ hv H (A ++ B)) : ∃ (g o n : Nat), lkN b 0 A = .slice (some ⟨g, o, none⟩) n n ∧ 0 < n ∧ CellAt w g o (ptrO (headB B)) := by
  obtain ⟨g, o, n, e1, hn, hg, hc⟩ := h.lkAt 0 (by omega)
  exact ⟨g, o, n, e1, hn, by rw [h.nx0] at hc; exact hc, hg⟩
/-- The links ahead on level K. -/
structure LinkRd (W : World) (nb tb hh pb K g o h0 : Nat) (xp : Option Addr) : Prop where
  c1 : W.cell? ⟨nb, 5, none⟩ = some (.slice (some ⟨tb, 0, none⟩) hh hh)
  c2 : W.cell? ⟨pb, K, none⟩ = some (.slice (some ⟨g, o, none⟩) h0 h0)
  c3 : W.cell? ⟨g, o + K, none⟩ = some (.pointer xp)
  f3 : W.frozen? ⟨g, o + K, none⟩ = false
theorem MidAt.rd {w0 : World} {b : Nat} {ρ : Nat → Option Rl} {hv : Value} {H : List Int} {A B : List Nd} {nd : Nd} {pb eb K : Nat} {wr : World} (hl : SkLay w0 b ρ hv H (A ++ B)) (hn : NewBs w0 nd pb eb) (hK : K < nd.h) (h8 : nd.h ≤ 8) (m : MidAt w0 b ρ hv H A B nd pb eb K wr) :
    ∃ g o h0, lkN b K A = .slice (some ⟨g, o, none⟩) h0 h0 ∧ K < h0 ∧ g ≠ nd.tb ∧ LinkRd wr nd.nb nd.tb nd.h pb K g o h0 ((nx K B).map fun k => ⟨k, 0, none⟩) := by
  have hc1 : wr.cell? ⟨nd.nb, 5, none⟩ = some (.slice (some ⟨nd.tb, 0, none⟩) nd.h nd.h) := (nd_cells m.new).c5
  have hc2 : wr.cell? ⟨pb, K, none⟩ = some (lkN b K A) := (m.path.at K).trans (pthV_at b A (by omega))
  have hbl := hl.lt
  have hnt := hn.t
  rcases lk_cut b K A with ⟨h1, h2⟩ | ⟨P, n, M, hA, h2, h3, h1⟩
  · rw [h1, frV] at hc2
    refine ⟨b, 1, 8, h1, by omega, by omega, hc1, hc2, ?_, m.top.free _⟩
    rw [m.top.at, lsV_at (by omega), nx_not nd B A h2, ptrO_map]
  · rw [h1, twV] at hc2
    obtain ⟨-, -, -, t4⟩ := hl.topnb (n := n) (List.mem_append_left _ (by rw [hA]; simp))
    have ht := (m.anode P n M hA).2
    refine ⟨n.tb, 0, n.h, h1, h3, by omega, hc1, hc2, ?_, ht.free _⟩
    rw [Nat.zero_add, ht.at, twA_at h3, nx_not nd B M h2, ptrO_map]
theorem LinkRd.set {wr : World} {nb tb hh pb K g o h0 : Nat} {xp : Option Addr} (h : LinkRd wr nb tb hh pb K g o h0 xp) (hg : g ≠ tb) (hn : nb ≠ tb) (hp : pb ≠ tb) (v : Value) : LinkRd (wr.setCell ⟨tb, K, none⟩ v) nb tb hh pb K g o h0 xp := by
  have e : ∀ c i, c ≠ tb → (wr.setCell ⟨tb, K, none⟩ v).cell? ⟨c, i, none⟩ = wr.cell? ⟨c, i, none⟩ := fun c i hc => World.cell?_of_block (Below.heap_setCell _ _ _ _ hc)
  refine ⟨(e _ _ hn).trans h.c1, (e _ _ hp).trans h.c2, (e _ _ hg).trans h.c3, ?_⟩
  have := h.f3
  unfold World.frozen? at this ⊢
  rw [Below.heap_setCell _ _ _ _ hg]; exact this
/-- The way back is laid. -/
theorem back_any {w0 : World} {b : Nat} {ρ : Nat → Option Rl} {hv : Value} {H : List Int} {A B : List Nd} {nd : Nd} {pb eb : Nat} {wr : World} (hl : SkLay w0 b ρ hv H (A ++ B)) (hn : NewBs w0 nd pb eb) (m : MidAt w0 b ρ hv H A B nd pb eb nd.h wr) :
    Calls Try.prog 28 #[.pointer (some ⟨b, 0, none⟩), .pointer (some ⟨nd.nb, 0, none⟩), .pointer ((headB B).map fun k => ⟨k, 0, none⟩)] wr fun e w' => e = .returned (.tuple #[]) ∧ DoneAt w0 b ρ hv H A B nd eb ((A ++ B).length : Int) ((szA (entsN (A ++ B)) : Nat) : Int) w' ∧ wr.heap.size = w'.heap.size := by
  have hbl := hl.lt
  have hnn := hn.n
  have c6 : wr.cell? ⟨nd.nb, 6, none⟩ = some (ptrO none) := (nd_cells m.new).c6
  cases B with
  | nil =>
    have hd := m.backEnd hl hn
    have c9 : wr.cell? ⟨b, 9, none⟩ = some (ptrO (lastB A)) := by
      have := m.top.at 9
      rw [List.append_nil] at this
      exact this
    refine (backEnd_any wr b nd.nb (lastB A) _ c9 (m.top.free 9) c6 (m.new.free 6) (by omega)).mono ?_
    rintro e w' ⟨rfl, rfl⟩
    refine ⟨rfl, ?_, by simp [World.setCell]⟩
    rw [List.append_nil]
    exact hd
  | cons n1 B =>
    have hd := m.backMid hl hn
    have hm1 : n1 ∈ A ++ n1 :: B := by simp
    obtain ⟨-, -, s3, -⟩ := hl.topnb hm1
    have h1 := (m.bnode [] n1 B rfl).1
    rw [List.append_nil] at h1
    refine (backMid_any wr b nd.nb n1.nb (lastB A) _ (nd_cells h1).c6 (h1.free 6) c6 (m.new.free 6) (by omega)).mono ?_
    rintro e w' ⟨rfl, rfl⟩
    exact ⟨rfl, hd, by simp [World.setCell]⟩
theorem like_nil {B : List Nd} {en : ByteArray} {eq : Int} (h : B = []) : false = true ↔ ∃ n r, B = n :: r ∧ n.e.norm = en ∧ n.e.seq = eq := by
  subst h
  exact ⟨fun h => (by cases h), fun ⟨_, _, h, _⟩ => (by cases h)⟩
theorem like_cons {B r : List Nd} {n : Nd} {en : ByteArray} {eq : Int} (h : B = n :: r) (v : Bool) (hv : v = true ↔ n.e.norm = en ∧ n.e.seq = eq) : v = true ↔ ∃ n r, B = n :: r ∧ n.e.norm = en ∧ n.e.seq = eq := by
  subst h
  rw [hv]
  exact ⟨fun h => ⟨n, r, rfl, h⟩, fun ⟨_, _, h, h2⟩ => by
    obtain ⟨rfl, rfl⟩ := List.cons.inj h
    exact h2⟩
theorem made_tw (K : Nat) : madeCells #[.pointer none] K = twA K fun _ => none := by
  apply Array.ext'
  rw [toList_madeCells_one]
  unfold twA
  rw [List.map_const', List.length_range]
  rfl
theorem mkL_run (K : Nat) (hK : K ≤ 8) (w : World) : (Instr.makeSlice 52 (.int .i64 (K : Int)) (.int .i64 (K : Int))).run Try.prog w = .ok (.slice (some ⟨w.heap.size, 0, none⟩) K K) (w.alloc (.cells (madeCells #[.pointer none] K) 46)) :=
  run_make_row' (P := Try.prog) 52 46 (.pointer none) 8 Try.underlying52 (by kernel_rfl) rfl .i64 .i64 K (by omega) (by omega) w
/-- What Put makes of a list whose nodes are A, then B; e goes between. -/
def PutLay (w : World) (b : Nat) (ρ : Nat → Option Rl) (hv : Value) (H : List Int) (A B : List Nd) (e : Ent) (en : Ending) (w' : World) : Prop :=
  ((∃ n r, B = n :: r ∧ n.e.norm = e.norm ∧ n.e.seq = e.seq) ∧ en = .returned (.bool false) ∧ Below w.heap.size w w') ∨
  (¬ (∃ n r, B = n :: r ∧ n.e.norm = e.norm ∧ n.e.seq = e.seq) ∧ en = .returned (.bool true) ∧ ∃ nd : Nd, nd.e = e ∧ SkLay w' b (newRl ρ nd) hv H (A ++ nd :: B) ∧ UpdF (fun k => ρ k ≠ none) w w' ∧ ∀ k, newRl ρ nd k ≠ none → ρ k ≠ none ∨ w.heap.size ≤ k)
/-- The path, the entry, the list as it was. -/
structure PutSt (w : World) (b : Nat) (A B : List Nd) (e : Ent) (w2 : World) (pb : Nat) (W : World) : Prop where
  path : BlkAt W pb (pthV b A) 53
  ent : BlkAt W w.heap.size (encEnt e).toArray 30
  below : Below w.heap.size w W
  pb : w.heap.size < pb
theorem PutSt.to {w : World} {b : Nat} {A B : List Nd} {e : Ent} {w2 : World} {pb : Nat} {W W' : World} (h : PutSt w b A B e w2 pb W) (u : Below W.heap.size W W') : PutSt w b A B e w2 pb W' :=
  ⟨h.path.below u, h.ent.below u, h.below.trans (u.mono h.below.size), h.pb⟩
structure Ent5 (w : World) (b : Nat) (e : Ent) : Prop where
  c0 : w.cell? ⟨b, 0, none⟩ = some (.string e.norm)
  c1 : w.cell? ⟨b, 1, none⟩ = some (.int .i64 e.seq)
  c2 : w.cell? ⟨b, 2, none⟩ = some (.int .i64 e.kind)
  c3 : w.cell? ⟨b, 3, none⟩ = some (.string e.spell)
  c4 : w.cell? ⟨b, 4, none⟩ = some (.string e.val)
theorem ent5 {w : World} {b : Nat} {e : Ent} (h : BlkAt w b (encEnt e).toArray 30) : Ent5 w b e := ⟨h.at 0, h.at 1, h.at 2, h.at 3, h.at 4⟩
set_option maxHeartbeats 8000000 in
set_option maxRecDepth 100000 in
theorem skput_any (w : World) (b : Nat) (ρ : Nat → Option Rl) (hv : Value) (H : List Int) (A B : List Nd) (e : Ent) (h : SkLay w b ρ hv H (A ++ B)) (hA : A = aheadN (A ++ B) (anyE e.norm e.seq)) (hB : B = restN (A ++ B) (anyE e.norm e.seq))
    (hk : e.kind ≤ 9223372036854775807) (hf : (A ++ B).length < 1000000000) (hs : szA (entsN (A ++ B)) + szE e ≤ 4000000000000000000) :
    Calls Try.prog 10 #[.pointer (some ⟨b, 0, none⟩), e.v] w (PutLay w b ρ hv H A B e) := by
  obtain ⟨en, eq, ek, es, ev⟩ := e
  have HP0 := fun W (hW : Below w.heap.size w W) => path_any W b ρ hv H (A ++ B) (h.below hW) en eq 9223372036854775807
  change ∀ W, _ → Calls _ _ _ W (fun e w' => e = .returned (pathV b (aheadN (A ++ B) (anyE en eq))) ∧ _) at HP0
  rw [← hA] at HP0
  obtain ⟨g, o, n0, e0, hn0, hc0⟩ := path_form h
  obtain ⟨a1, m1, e1⟩ := lk_shape b 1 A
  obtain ⟨a2, m2, e2⟩ := lk_shape b 2 A
  obtain ⟨a3, m3, e3⟩ := lk_shape b 3 A
  obtain ⟨a4, m4, e4⟩ := lk_shape b 4 A
  obtain ⟨a5, m5, e5⟩ := lk_shape b 5 A
  obtain ⟨a6, m6, e6⟩ := lk_shape b 6 A
  obtain ⟨a7, m7, e7⟩ := lk_shape b 7 A
  have HPV : Hid (#[.slice (some ⟨g, o, none⟩) n0 n0, .slice (some a1) m1 m1, .slice (some a2) m2 m2, .slice (some a3) m3 m3, .slice (some a4) m4 m4, .slice (some a5) m5 m5, .slice (some a6) m6 m6, .slice (some a7) m7 m7] = pthV b A) := Lib.hid (by unfold pthV; rw [e0, e1, e2, e3, e4, e5, e6, e7])
  have HP : Hid (∀ W, Below w.heap.size w W → Calls Try.prog 26 #[.pointer (some ⟨b, 0, none⟩), .string en, .int .i64 eq, .int .i64 9223372036854775807] W fun e w' => e = .returned (.agg #[.slice (some ⟨g, o, none⟩) n0 n0, .slice (some a1) m1 m1, .slice (some a2) m2 m2, .slice (some a3) m3 m3, .slice (some a4) m4 m4, .slice (some a5) m5 m5, .slice (some a6) m6 m6, .slice (some a7) m7 m7]) ∧ Below W.heap.size W w') := Lib.hid fun W hW => (HP0 W hW).mono fun e w' hh => ⟨by rw [hh.1]; unfold pathV; rw [e0, e1, e2, e3, e4, e5, e6, e7], hh.2⟩
  have HL := Lib.hid h
  have HAB : Hid (A = aheadN (A ++ B) (anyE en eq) ∧ B = restN (A ++ B) (anyE en eq)) := Lib.hid ⟨hA, hB⟩
  have HS : Hid ((A ++ B).length < 1000000000 ∧ szA (entsN (A ++ B)) + szE ⟨en, eq, ek, es, ev⟩ ≤ 4000000000000000000 ∧ ek ≤ 9223372036854775807) := Lib.hid ⟨hf, hs, hk⟩
  obtain ⟨tp, htp⟩ : ∃ tp, (headB B).map (fun k => (⟨k, 0, none⟩ : Addr)) = tp := ⟨_, rfl⟩
  rw [ptrO_map, htp] at hc0
  have HTP := Lib.hid htp
  have HC := Lib.hid hc0
  have hn0' : (0 : Int) < (n0 : Int) := by omega
  clear HP0 e0 e1 e2 e3 e4 e5 e6 e7 h hA hB hk hf hs htp hc0 hn0
  show Calls Try.prog 10 #[.pointer (some ⟨b, 0, none⟩), .agg #[.string en, .int .i64 eq, .int .i64 ek, .string es, .string ev]] w _
  go_enter Try.func10, Try.ntmps10
  go_wp2_with fail
  obtain ⟨W1, hW1⟩ : ∃ W1, w.alloc (.cells #[.string en, .int .i64 eq, .int .i64 ek, .string es, .string ev] 30) = W1 := ⟨_, rfl⟩
  have HE1 : Hid (BlkAt W1 w.heap.size (encEnt ⟨en, eq, ek, es, ev⟩).toArray 30 ∧ Below w.heap.size w W1 ∧ W1.heap.size = w.heap.size + 1) := Lib.hid (by
    rw [← hW1]
    exact ⟨BlkAt.new w _ _, (Below.refl _ w).alloc (Nat.le_refl _) _, by simp⟩)
  rw [hW1]
  clear hW1
  refine (HP.out W1 HE1.out.2.1).mono ?_
  rintro e w2 ⟨rfl, hb2⟩
  clear HP
  obtain ⟨W3, hW3⟩ : ∃ W3, w2.alloc (.cells #[.slice (some ⟨g, o, none⟩) n0 n0, .slice (some a1) m1 m1, .slice (some a2) m2 m2, .slice (some a3) m3 m3, .slice (some a4) m4 m4, .slice (some a5) m5 m5, .slice (some a6) m6 m6, .slice (some a7) m7 m7] 53) = W3 := ⟨_, rfl⟩
  have HT : Hid (PutSt w b A B ⟨en, eq, ek, es, ev⟩ w2 w2.heap.size W3) := Lib.hid (by
    obtain ⟨x1, x2, x3⟩ := HE1.out
    have h2 := x2.trans (hb2.mono x2.size)
    have h3 := (Below.refl w2.heap.size w2).alloc (Nat.le_refl _) (.cells #[.slice (some ⟨g, o, none⟩) n0 n0, .slice (some a1) m1 m1, .slice (some a2) m2 m2, .slice (some a3) m3 m3, .slice (some a4) m4 m4, .slice (some a5) m5 m5, .slice (some a6) m6 m6, .slice (some a7) m7 m7] 53)
    rw [← hW3]
    exact ⟨by rw [← HPV.out]; exact BlkAt.new w2 _ _, (x1.below hb2).below h3, h2.trans (h3.mono h2.size), by have := hb2.size; omega⟩)
  have hq0 : W3.cell? ⟨w2.heap.size, 0, none⟩ = some (.slice (some ⟨g, o, none⟩) n0 n0) := by rw [← hW3]; exact (BlkAt.new w2 _ _).at 0
  have hq1 := (HC.out.below HT.out.below).1
  clear hb2 HE1
  go_upto_region 5 with fail
  go_cut [42] (fun l wx => ∃ (qq : Bool) (m : Nat), l = .bool qq ∧ wx = W3.drewN m ∧ Hid (qq = true ↔ ∃ n r, B = n :: r ∧ n.e.norm = en ∧ n.e.seq = eq))
  case first =>
    obtain ⟨x0, x1, -, -, -⟩ := ent5 HT.out.ent
    simp only [] at x0 x1
    rcases head_cases B with hBB | ⟨n, r, hBB⟩
    · have htp : tp = none := by rw [← HTP.out, hBB]; rfl
      have HLK := Lib.hid (like_nil (en := en) (eq := eq) hBB)
      subst htp
      clear HTP HAB HS HL HPV HC HT hq0 hq1 hW3 hBB
      go_wp2_with fail
      go_quiet (fail)
      go_wp2_with fail
      go_meet
      exact ⟨_, _, rfl, rfl, HLK⟩
    · have htp : tp = some ⟨n.nb, 0, none⟩ := by rw [← HTP.out, hBB]; rfl
      have HLK := Lib.hid (like_cons (en := en) (eq := eq) hBB)
      subst htp
      have hnode := (HL.out.below HT.out.below).node A n r (by rw [hBB])
      obtain ⟨c0, c1, c2, c3, c4, -, -⟩ := nd_cells hnode.cell
      obtain ⟨⟨nn, nsq, nk, ns, nv⟩, nb, tb, nh⟩ := n
      simp only [] at c0 c1 c2 c3 c4
      clear HTP HAB HS HL HPV HC HT hq0 hq1 hW3 hBB hnode
      by_cases h1 : nn = en
      · by_cases h2 : nsq = eq
        · have HLK2 := Lib.hid (HLK.out true (by simp [h1, h2]))
          subst h1 h2
          clear HLK
          go_wp2_with fail
          go_quiet (fail)
          go_wp2_with fail
          go_meet
          exact ⟨_, _, rfl, rfl, Lib.hid ⟨fun _ => HLK2.out.1 trivial, fun _ => rfl⟩⟩
        · have HLK2 := Lib.hid (HLK.out false (by simp [h2]))
          have hq : (nsq == eq) = false := by rw [beq_eq_false_iff_ne]; exact h2
          subst h1
          clear HLK h2
          go_wp2_with fail
          go_quiet (fail)
          go_wp2_with fail
          go_meet
          exact ⟨false, _, (by first | rfl | (rw [hq])), rfl, HLK2⟩
      · have HLK2 := Lib.hid (HLK.out false (by simp [h1]))
        have hnn := bs_ne h1
        clear HLK h1
        go_wp2_with fail
        go_quiet (fail)
        go_wp2_with fail
        go_meet
        exact ⟨false, _, rfl, rfl, HLK2⟩
  case rest =>
  obtain ⟨qq, md, rfl, rfl, HQ⟩ := hcut
  cases qq with
  | true =>
    have HE := Lib.hid (HQ.out.1 rfl)
    have HB4 : Hid (Below w.heap.size w (W3.drewN md)) := Lib.hid (HT.out.below.trans ((DrN.below ⟨md, rfl⟩ _).mono HT.out.below.size))
    clear HT HQ hq0 hq1 hW3 HTP HC HS HAB HPV HL
    go_wp2_with fail
    go_ret
    exact .inl ⟨HE.out, rfl, HB4.out⟩
  | false =>
  have HNE : Hid (¬ ∃ n r, B = n :: r ∧ n.e.norm = en ∧ n.e.seq = eq) := Lib.hid fun h => by have := HQ.out.2 h; cases this
  obtain ⟨W4, hW4⟩ : ∃ W4, W3.drewN md = W4 := ⟨_, rfl⟩
  replace HT : Hid (PutSt w b A B ⟨en, eq, ek, es, ev⟩ w2 w2.heap.size W4) := Lib.hid (HT.out.to (DrN.below ⟨md, hW4.symm⟩ _))
  obtain ⟨pb, hpb⟩ : ∃ pb, w2.heap.size = pb := ⟨_, rfl⟩
  rw [hpb] at HT ⊢
  rw [hW4]
  clear HQ hq0 hq1 hW3 HC hW4 hpb
  obtain ⟨hh, hhh⟩ : ∃ hh, htN H (A ++ B).length = hh := ⟨_, rfl⟩
  have hh0 : 0 < hh := by rw [← hhh]; exact htN_pos _ _
  have hh8 : hh ≤ 8 := by rw [← hhh]; exact htN_le _ _
  have HNH : Hid (∀ W, Below w.heap.size w W → Calls Try.prog 27 #[.pointer (some ⟨b, 0, none⟩)] W (IntRes W (hh : Int))) := Lib.hid fun W hW => by rw [← hhh]; exact nexth_any W b ρ hv H (A ++ B) (HL.out.below hW)
  have hmk := mkL_run hh hh8
  have HB : Below w.heap.size w W4 := HT.out.below
  have hpb := HT.out.pb
  clear hhh
  go_upto_region 7 with fail
  refine wp_region_held_drew (S := Below W4.heap.size W4) (by kernel_rfl) (Below.refl _ _).drew (fun hHeld => ?_)
  generalize W4.drew = wd2 at hHeld ⊢
  refine wpAnyH_shift hHeld ?_
  replace HB : Below w.heap.size w wd2 := HB.trans (hHeld.mono HB.size)
  replace HT := Lib.hid (HT.out.to hHeld)
  clear hHeld
  refine takeYes (i := 0) (k := 43) (v := .agg #[.string en, .int .i64 eq, .int .i64 ek, .string es, .string ev]) rfl (by kernel_rfl) (by kernel_rfl) (by kernel_rfl) (by kernel_rfl) (fun _ _ _ h => h) (by kernel_rfl) ?_ (Below.refl _ _) ?_
  · intro W hSw; obtain ⟨x0, x1, x2, x3, x4⟩ := ent5 (HT.out.to hSw).ent; simp only [] at x0 x1 x2 x3 x4; first | (go_simp; done) | go_simp
  try simp only [Act.put, List.setIfInBounds_toArray, List.set_cons_zero, List.set_cons_succ]
  refine takeYes (i := 1) (k := 44) (v := .pointer (some ⟨b, 0, none⟩)) rfl (by kernel_rfl) (by kernel_rfl) (by kernel_rfl) (by kernel_rfl) (fun _ _ _ h => h) (by kernel_rfl) ?_ (Below.refl _ _) ?_
  · intro W hSw; first | (go_simp; done) | go_simp
  try simp only [Act.put, List.setIfInBounds_toArray, List.set_cons_zero, List.set_cons_succ]
  refine wpAnyH_ready (rs := [2]) (by kernel_rfl) (by simp) (AllReadyH.cons rfl (fun K hK => ?_) AllReadyH.nil)
  go_simp
  refine (HNH.out _ HB).mono ?_
  rintro e wd3 ⟨rfl, hb3⟩
  refine hK.out _ _ hb3 (fun _ => wpAnyH_shift hb3 ?_)
  clear hK K
  replace HB : Below w.heap.size w wd3 := HB.trans (hb3.mono HB.size)
  replace HT := Lib.hid (HT.out.to hb3)
  clear hb3
  try simp only [Act.put, List.setIfInBounds_toArray, List.set_cons_zero, List.set_cons_succ]
  refine wpAnyH_ready (rs := [3]) (by kernel_rfl) (by simp) (AllReadyH.cons rfl (fun K hK => ?_) AllReadyH.nil)
  go_simp
  obtain ⟨wd4, hwx⟩ : ∃ x, wd3.alloc (.cells (madeCells #[.pointer none] hh) 46) = x := ⟨_, rfl⟩
  rw [hwx]
  have hb4 : Below wd3.heap.size wd3 wd4 := by rw [← hwx]; exact (Below.refl _ _).alloc (Nat.le_refl _) _
  have HTW : Hid (BlkAt wd4 wd3.heap.size (twA hh fun _ => none) 46) := Lib.hid (by rw [← hwx, made_tw]; exact BlkAt.new _ _ _)
  obtain ⟨tb, htb⟩ : ∃ tb, wd3.heap.size = tb := ⟨_, rfl⟩
  have hptb : pb < tb := by rw [← htb]; exact HT.out.path.lt
  have hptb2 : tb < wd4.heap.size := by rw [← htb, ← hwx]; simp
  rw [htb] at HTW ⊢
  clear hwx htb
  refine hK.out _ _ hb4 (fun _ => wpAnyH_shift hb4 ?_)
  clear hK K
  replace HB : Below w.heap.size w wd4 := HB.trans (hb4.mono HB.size)
  replace HT := Lib.hid (HT.out.to hb4)
  clear hb4
  try simp only [Act.put, List.setIfInBounds_toArray, List.set_cons_zero, List.set_cons_succ]
  refine takeYes (i := 4) (k := 47) (v := .agg #[.string en, .int .i64 eq, .int .i64 ek, .string es, .string ev, .slice (some ⟨tb, 0, none⟩) hh hh, .pointer none]) rfl (by kernel_rfl) (by kernel_rfl) (by kernel_rfl) (by kernel_rfl) (fun _ _ _ h => h) (by kernel_rfl) ?_ (Below.refl _ _) ?_
  · intro W hSw; first | (go_simp; done) | go_simp
  try simp only [Act.put, List.setIfInBounds_toArray, List.set_cons_zero, List.set_cons_succ]
  refine wpAnyH_ready (rs := [5]) (by kernel_rfl) (by simp) (AllReadyH.cons rfl (fun K hK => ?_) AllReadyH.nil)
  go_simp
  obtain ⟨wd5, hwx⟩ : ∃ x, wd4.alloc (.cells #[.string en, .int .i64 eq, .int .i64 ek, .string es, .string ev, .slice (some ⟨tb, 0, none⟩) hh hh, .pointer none] 56) = x := ⟨_, rfl⟩
  rw [hwx]
  have hb5 : Below wd4.heap.size wd4 wd5 := by rw [← hwx]; exact (Below.refl _ _).alloc (Nat.le_refl _) _
  have HNW : Hid (BlkAt wd5 wd4.heap.size (ndV ⟨en, eq, ek, es, ev⟩ (.slice (some ⟨tb, 0, none⟩) hh hh) none) 56) := Lib.hid (by rw [← hwx]; exact BlkAt.new _ _ _)
  replace HTW := Lib.hid (HTW.out.below hb5)
  obtain ⟨nb, hnb⟩ : ∃ nb, wd4.heap.size = nb := ⟨_, rfl⟩
  rw [hnb] at HNW hptb2 ⊢
  clear hwx hnb
  refine hK.out _ _ hb5 (fun _ => wpAnyH_shift hb5 ?_)
  clear hK K
  replace HB : Below w.heap.size w wd5 := HB.trans (hb5.mono HB.size)
  replace HT := Lib.hid (HT.out.to hb5)
  clear hb5
  try simp only [Act.put, List.setIfInBounds_toArray, List.set_cons_zero, List.set_cons_succ]
  refine takeYes (i := 6) (k := 7) (v := .pointer (some ⟨nb, 0, none⟩)) rfl (by kernel_rfl) (by kernel_rfl) (by kernel_rfl) (by kernel_rfl) (fun _ _ _ h => h) (by kernel_rfl) ?_ (Below.refl _ _) ?_
  · intro W hSw; first | (go_simp; done) | go_simp
  try simp only [Act.put, List.setIfInBounds_toArray, List.set_cons_zero, List.set_cons_succ]
  refine wpAnyH_done (by kernel_rfl) ?_ _
  have HM : Hid (MidAt w b ρ hv H A B ⟨⟨en, eq, ek, es, ev⟩, nb, tb, hh⟩ pb w.heap.size 0 wd5) := Lib.hid (MidAt.begin HL.out HB HNW.out HTW.out HT.out.path HT.out.ent)
  have HNB : Hid (NewBs w ⟨⟨en, eq, ek, es, ev⟩, nb, tb, hh⟩ pb w.heap.size) := Lib.hid ⟨by show w.heap.size ≤ nb; omega, by show w.heap.size ≤ tb; omega, by omega, Nat.le_refl _, by show nb ≠ tb; omega, by show pb ≠ nb; omega, by show pb ≠ tb; omega, by show w.heap.size ≠ nb; omega, by show w.heap.size ≠ tb; omega⟩
  have c5 := (nd_cells HNW.out).c5
  have hsz : nb < wd5.heap.size ∧ tb < wd5.heap.size := ⟨HNW.out.lt, HTW.out.lt⟩
  clear HNW HTW HT HNH hmk HB
  go_wp2_with fail
  clear c5
  go_loopg [54] hh (fun kk v wr => ∃ K : Nat, v = .int .i64 (K : Int) ∧ K ≤ hh ∧ hh - K ≤ kk ∧ wd5.heap.size ≤ wr.heap.size ∧ Hid (MidAt w b ρ hv H A B ⟨⟨en, eq, ek, es, ev⟩, nb, tb, hh⟩ pb w.heap.size K wr))
  case atStart => exact ⟨0, by go_num, by omega, by omega, Nat.le_refl _, HM⟩
  case round =>
    clear HM
    obtain ⟨K, rfl, hKh, hkk, hsz2, HM⟩ := hrel
    have k0 : (0 : Int) ≤ (K : Int) := by omega
    by_cases hK : K < hh
    · obtain ⟨g1, o1, h1, hlk, hK1, hgt, hrd⟩ := HM.out.rd HL.out HNB.out hK hh8
      obtain ⟨hst, hcomm⟩ := HM.out.step HL.out HNB.out hK hh8 hlk
      simp only [] at hgt hrd hst
      rw [ptrO_map, ptrO_map] at hst
      obtain ⟨xp, hxp⟩ : ∃ xp, (nx K B).map (fun k => (⟨k, 0, none⟩ : Addr)) = xp := ⟨_, rfl⟩
      rw [hxp] at hst hrd
      obtain ⟨u, hu⟩ : ∃ u, wr.cell? ⟨tb, K, none⟩ = some u := ⟨_, (HM.out.newt.at K).trans (twA_at hK)⟩
      have hfu : wr.frozen? ⟨tb, K, none⟩ = false := HM.out.newt.free K
      have hrd2 := hrd.set hgt HNB.out.nt HNB.out.pt (.pointer xp)
      have HRD : Hid (∀ W, (W = wr.drew ∨ W = (wr.setCell ⟨tb, K, none⟩ (.pointer xp)).drew) → LinkRd W nb tb hh pb K g1 o1 h1 xp) := Lib.hid (by
        rintro W (rfl | rfl)
        · exact ⟨hrd.c1, hrd.c2, hrd.c3, hrd.f3⟩
        · exact ⟨hrd2.c1, hrd2.c2, hrd2.c3, hrd2.f3⟩)
      have HST := Lib.hid hst
      have kh : (K : Int) < (hh : Int) := by omega
      have kh1 : (K : Int) < (h1 : Int) := by omega
      have k8 : (K : Int) < 8 := by omega
      have hne : tb ≠ g1 := Ne.symm hgt
      obtain ⟨-, -, d3, f3⟩ := hrd2
      clear hlk hst hcomm hrd hxp HM hgt
      go_wp2_with fail
      refine beginK (fun W => W = wr.drew ∨ W = (wr.setCell ⟨tb, K, none⟩ (.pointer xp)).drew) 19 (by kernel_rfl) (.inl rfl) (fun hHeld => ?_)
      refine takeK (i := 0) (k := 57) (v := .pointer (some ⟨nb, 0, none⟩)) rfl rfl (by kernel_rfl) (by kernel_rfl) (by kernel_rfl) [0] rfl (by decide) (by kernel_rfl) (fun _ _ _ h => h) (by kernel_rfl) ?_ (by assumption) ?_
      · intro W hSw; first | (go_simp; done) | go_simp
      try simp only [Act.put, List.setIfInBounds_toArray, List.set_cons_zero, List.set_cons_succ]
      refine takeK (i := 1) (k := 58) (v := .pointer (some ⟨nb, 0, none⟩)) rfl rfl (by kernel_rfl) (by kernel_rfl) (by kernel_rfl) [1] rfl (by decide) (by kernel_rfl) (fun _ _ _ h => h) (by kernel_rfl) ?_ (by assumption) ?_
      · intro W hSw; first | (go_simp; done) | go_simp
      try simp only [Act.put, List.setIfInBounds_toArray, List.set_cons_zero, List.set_cons_succ]
      refine takeK (i := 2) (k := 59) (v := .pointer (some ⟨nb, 5, none⟩)) rfl rfl (by kernel_rfl) (by kernel_rfl) (by kernel_rfl) [2] rfl (by decide) (by kernel_rfl) (fun _ _ _ h => h) (by kernel_rfl) ?_ (by assumption) ?_
      · intro W hSw; first | (go_simp; done) | go_simp
      try simp only [Act.put, List.setIfInBounds_toArray, List.set_cons_zero, List.set_cons_succ]
      refine takeK (i := 3) (k := 60) (v := .slice (some ⟨tb, 0, none⟩) hh hh) rfl rfl (by kernel_rfl) (by kernel_rfl) (by kernel_rfl) [3] rfl (by decide) (by kernel_rfl) (fun _ _ _ h => h) (by kernel_rfl) ?_ (by assumption) ?_
      · intro W hSw; obtain ⟨d1, d2, d3, d4⟩ := HRD.out W hSw; first | (go_simp; done) | go_simp
      try simp only [Act.put, List.setIfInBounds_toArray, List.set_cons_zero, List.set_cons_succ]
      refine takeK (i := 4) (k := 61) (v := .int .i64 (K : Int)) rfl rfl (by kernel_rfl) (by kernel_rfl) (by kernel_rfl) [4] rfl (by decide) (by kernel_rfl) (fun _ _ _ h => h) (by kernel_rfl) ?_ (by assumption) ?_
      · intro W hSw; first | (go_simp; done) | go_simp
      try simp only [Act.put, List.setIfInBounds_toArray, List.set_cons_zero, List.set_cons_succ]
      refine takeK (i := 5) (k := 62) (v := .int .i64 (K : Int)) rfl rfl (by kernel_rfl) (by kernel_rfl) (by kernel_rfl) [5] rfl (by decide) (by kernel_rfl) (fun _ _ _ h => h) (by kernel_rfl) ?_ (by assumption) ?_
      · intro W hSw; first | (go_simp; done) | go_simp
      try simp only [Act.put, List.setIfInBounds_toArray, List.set_cons_zero, List.set_cons_succ]
      refine takeK (i := 6) (k := 63) (v := .pointer (some ⟨pb, K, none⟩)) rfl rfl (by kernel_rfl) (by kernel_rfl) (by kernel_rfl) [6] rfl (by decide) (by kernel_rfl) (fun _ _ _ h => h) (by kernel_rfl) ?_ (by assumption) ?_
      · intro W hSw; first | (go_simp; done) | go_simp
      try simp only [Act.put, List.setIfInBounds_toArray, List.set_cons_zero, List.set_cons_succ]
      refine takeK (i := 7) (k := 64) (v := .slice (some ⟨g1, o1, none⟩) h1 h1) rfl rfl (by kernel_rfl) (by kernel_rfl) (by kernel_rfl) [7] rfl (by decide) (by kernel_rfl) (fun _ _ _ h => h) (by kernel_rfl) ?_ (by assumption) ?_
      · intro W hSw; obtain ⟨d1, d2, d3, d4⟩ := HRD.out W hSw; first | (go_simp; done) | go_simp
      try simp only [Act.put, List.setIfInBounds_toArray, List.set_cons_zero, List.set_cons_succ]
      refine takeK (i := 8) (k := 65) (v := .int .i64 (K : Int)) rfl rfl (by kernel_rfl) (by kernel_rfl) (by kernel_rfl) [8] rfl (by decide) (by kernel_rfl) (fun _ _ _ h => h) (by kernel_rfl) ?_ (by assumption) ?_
      · intro W hSw; first | (go_simp; done) | go_simp
      try simp only [Act.put, List.setIfInBounds_toArray, List.set_cons_zero, List.set_cons_succ]
      refine takeK (i := 9) (k := 66) (v := .int .i64 (K : Int)) rfl rfl (by kernel_rfl) (by kernel_rfl) (by kernel_rfl) [9] rfl (by decide) (by kernel_rfl) (fun _ _ _ h => h) (by kernel_rfl) ?_ (by assumption) ?_
      · intro W hSw; first | (go_simp; done) | go_simp
      try simp only [Act.put, List.setIfInBounds_toArray, List.set_cons_zero, List.set_cons_succ]
      refine takeK (i := 10) (k := 67) (v := .pointer (some ⟨pb, K, none⟩)) rfl rfl (by kernel_rfl) (by kernel_rfl) (by kernel_rfl) [10] rfl (by decide) (by kernel_rfl) (fun _ _ _ h => h) (by kernel_rfl) ?_ (by assumption) ?_
      · intro W hSw; first | (go_simp; done) | go_simp
      try simp only [Act.put, List.setIfInBounds_toArray, List.set_cons_zero, List.set_cons_succ]
      refine takeK (i := 11) (k := 68) (v := .slice (some ⟨g1, o1, none⟩) h1 h1) rfl rfl (by kernel_rfl) (by kernel_rfl) (by kernel_rfl) [11] rfl (by decide) (by kernel_rfl) (fun _ _ _ h => h) (by kernel_rfl) ?_ (by assumption) ?_
      · intro W hSw; obtain ⟨d1, d2, d3, d4⟩ := HRD.out W hSw; first | (go_simp; done) | go_simp
      try simp only [Act.put, List.setIfInBounds_toArray, List.set_cons_zero, List.set_cons_succ]
      refine takeK (i := 12) (k := 69) (v := .int .i64 (K : Int)) rfl rfl (by kernel_rfl) (by kernel_rfl) (by kernel_rfl) [12] rfl (by decide) (by kernel_rfl) (fun _ _ _ h => h) (by kernel_rfl) ?_ (by assumption) ?_
      · intro W hSw; first | (go_simp; done) | go_simp
      try simp only [Act.put, List.setIfInBounds_toArray, List.set_cons_zero, List.set_cons_succ]
      refine takeK (i := 13) (k := 70) (v := .pointer (some ⟨g1, o1 + K, none⟩)) rfl rfl (by kernel_rfl) (by kernel_rfl) (by kernel_rfl) [13] rfl (by decide) (by kernel_rfl) (fun _ _ _ h => h) (by kernel_rfl) ?_ (by assumption) ?_
      · intro W hSw; first | (go_simp; done) | go_simp
      try simp only [Act.put, List.setIfInBounds_toArray, List.set_cons_zero, List.set_cons_succ]
      refine takeK (i := 14) (k := 71) (v := .pointer xp) rfl rfl (by kernel_rfl) (by kernel_rfl) (by kernel_rfl) [14] rfl (by decide) (by kernel_rfl) (fun _ _ _ h => h) (by kernel_rfl) ?_ (by assumption) ?_
      · intro W hSw; obtain ⟨d1, d2, d3, d4⟩ := HRD.out W hSw; first | (go_simp; done) | go_simp
      try simp only [Act.put, List.setIfInBounds_toArray, List.set_cons_zero, List.set_cons_succ]
      refine takeK (i := 15) (k := 72) (v := .pointer (some ⟨nb, 0, none⟩)) rfl rfl (by kernel_rfl) (by kernel_rfl) (by kernel_rfl) [15] rfl (by decide) (by kernel_rfl) (fun _ _ _ h => h) (by kernel_rfl) ?_ (by assumption) ?_
      · intro W hSw; first | (go_simp; done) | go_simp
      try simp only [Act.put, List.setIfInBounds_toArray, List.set_cons_zero, List.set_cons_succ]
      refine takeK (i := 16) (k := 73) (v := .pointer (some ⟨tb, K, none⟩)) rfl rfl (by kernel_rfl) (by kernel_rfl) (by kernel_rfl) [16] rfl (by decide) (by kernel_rfl) (fun _ _ _ h => h) (by kernel_rfl) ?_ (by assumption) ?_
      · intro W hSw; first | (go_simp; done) | go_simp
      try simp only [Act.put, List.setIfInBounds_toArray, List.set_cons_zero, List.set_cons_succ]
      refine oneK (i := 17) (by kernel_rfl) rfl (fun KK hK => ?_)
      go_simp
      refine hK.out _ _ (fun _ => .inr rfl) (fun hHx => ?_)
      clear hK KK hHx hHeld
      try simp only [Act.put, List.setIfInBounds_toArray, List.set_cons_zero, List.set_cons_succ]
      have hHeld : (wr.setCell ⟨tb, K, none⟩ (.pointer xp)).drew = wr.drew ∨ (wr.setCell ⟨tb, K, none⟩ (.pointer xp)).drew = (wr.setCell ⟨tb, K, none⟩ (.pointer xp)).drew := .inr rfl
      refine takeK (i := 18) (k := 74) (v := .pointer (some ⟨g1, o1 + K, none⟩)) rfl rfl (by kernel_rfl) (by kernel_rfl) (by kernel_rfl) [18] rfl (by decide) (by kernel_rfl) (fun _ _ _ h => h) (by kernel_rfl) ?_ (by assumption) ?_
      · intro W hSw; first | (go_simp; done) | go_simp
      try simp only [Act.put, List.setIfInBounds_toArray, List.set_cons_zero, List.set_cons_succ]
      refine oneK (i := 19) (by kernel_rfl) rfl (fun KK hK => ?_)
      go_simp
      refine hK.out _ _ (fun h => by have h' : true = false := h; cases h') (fun hHx => ?_)
      clear hK KK hHx hHeld
      try simp only [Act.put, List.setIfInBounds_toArray, List.set_cons_zero, List.set_cons_succ]
      refine doneK (by kernel_rfl) ?_ _
      go_wp2_with fail
      go_roundg (hh - (K + 1))
      case measure => omega
      case rel => exact ⟨K + 1, by go_num, by omega, Nat.le_refl _, by simpa [World.setCell] using hsz2, Lib.hid (HST.out.below (Below.refl _ _).drew)⟩
    · obtain rfl : K = hh := by omega
      have HBK := Lib.hid (back_any HL.out HNB.out HM.out)
      simp only [] at HBK
      rw [HTP.out] at HBK
      clear hK hkk HM
      go_wp2_with fail
      refine HBK.out.mono ?_
      rintro e w6 ⟨rfl, hdone, hs6⟩
      obtain ⟨hs1, hs2, hs3⟩ := HS.out
      obtain ⟨n, hn⟩ : ∃ n, (A ++ B).length = n := ⟨_, rfl⟩
      obtain ⟨sn, hsn⟩ : ∃ sn, szA (entsN (A ++ B)) = sn := ⟨_, rfl⟩
      obtain ⟨se, hse⟩ : ∃ se, szE ⟨en, eq, ek, es, ev⟩ = se := ⟨_, rfl⟩
      rw [hn] at hs1 hdone
      rw [hsn, hse] at hs2
      rw [hsn] at hdone
      have HSZ : Hid (∀ W, Calls Try.prog 29 #[.agg #[.string en, .int .i64 eq, .int .i64 ek, .string es, .string ev]] W (IntRes W (se : Int))) := Lib.hid fun W => by
        rw [← hse]; exact sizeof_any ⟨en, eq, ek, es, ev⟩ (by omega) W
      have HNS := Lib.hid (⟨hn, hsn, hse, hs3⟩ : (A ++ B).length = n ∧ szA (entsN (A ++ B)) = sn ∧ szE ⟨en, eq, ek, es, ev⟩ = se ∧ ek ≤ 9223372036854775807)
      have c10 : w6.cell? ⟨b, 10, none⟩ = some (.int .i64 (n : Int)) := hdone.top.at 10
      have f10 : w6.frozen? ⟨b, 10, none⟩ = false := hdone.top.free 10
      have h10 := DoneAt.other HL.out HNB.out hdone (o := 10) (v := .int .i64 ((n : Int) + 1)) (c' := (n : Int) + 1) (s' := (sn : Int)) rfl
      have hsz7 : nb < (w6.setCell ⟨b, 10, none⟩ (.int .i64 ((n : Int) + 1))).heap.size ∧ tb < (w6.setCell ⟨b, 10, none⟩ (.int .i64 ((n : Int) + 1))).heap.size := by simp [World.setCell]; omega
      have bn : (n : Int) ≤ 1000000000 := by omega
      have bn0 : (0 : Int) ≤ (n : Int) := by omega
      clear hs1 hs3 hn hsn hse hs6 HBK HTP
      have HX := Lib.hid h10
      clear h10 hdone
      go_upto_region 15 with fail
      obtain ⟨w7, hw7⟩ : ∃ w7, w6.setCell ⟨b, 10, none⟩ (.int .i64 ((n : Int) + 1)) = w7 := ⟨_, rfl⟩
      rw [hw7] at HX hsz7 ⊢
      clear hw7 c10 f10 bn bn0
      have bs : (sn : Int) + (se : Int) ≤ 4000000000000000000 := by omega
      have bs0 : (0 : Int) ≤ (sn : Int) := by omega
      have bs1 : (0 : Int) ≤ (se : Int) := by omega
      have bs2 : IntKind.i64.wrap ((sn : Int) + (se : Int)) = (sn : Int) + (se : Int) := by rw [IntKind.wrap_i64]; omega
      refine beginK (Below w7.heap.size w7) 9 (by kernel_rfl) (Below.refl _ _).drew (fun hHeld => ?_)
      refine takeK (i := 0) (k := 87) (v := .pointer (some ⟨b, 0, none⟩)) rfl rfl (by kernel_rfl) (by kernel_rfl) (by kernel_rfl) [0] rfl (by decide) (by kernel_rfl) (fun _ _ _ h => h) (by kernel_rfl) ?_ (by assumption) ?_
      · intro W hSw; first | (go_simp; done) | go_simp
      try simp only [Act.put, List.setIfInBounds_toArray, List.set_cons_zero, List.set_cons_succ]
      refine takeK (i := 1) (k := 88) (v := .pointer (some ⟨b, 0, none⟩)) rfl rfl (by kernel_rfl) (by kernel_rfl) (by kernel_rfl) [1] rfl (by decide) (by kernel_rfl) (fun _ _ _ h => h) (by kernel_rfl) ?_ (by assumption) ?_
      · intro W hSw; first | (go_simp; done) | go_simp
      try simp only [Act.put, List.setIfInBounds_toArray, List.set_cons_zero, List.set_cons_succ]
      refine takeK (i := 2) (k := 89) (v := .pointer (some ⟨b, 11, none⟩)) rfl rfl (by kernel_rfl) (by kernel_rfl) (by kernel_rfl) [2] rfl (by decide) (by kernel_rfl) (fun _ _ _ h => h) (by kernel_rfl) ?_ (by assumption) ?_
      · intro W hSw; first | (go_simp; done) | go_simp
      try simp only [Act.put, List.setIfInBounds_toArray, List.set_cons_zero, List.set_cons_succ]
      refine takeK (i := 3) (k := 90) (v := .int .i64 (sn : Int)) rfl rfl (by kernel_rfl) (by kernel_rfl) (by kernel_rfl) [3] rfl (by decide) (by kernel_rfl) (fun _ _ _ h => h) (by kernel_rfl) ?_ (by assumption) ?_
      · intro W hSw; have d1 : W.cell? ⟨b, 11, none⟩ = some (.int .i64 (sn : Int)) := (HX.out.top.below hSw).at 11; first | (go_simp; done) | go_simp
      try simp only [Act.put, List.setIfInBounds_toArray, List.set_cons_zero, List.set_cons_succ]
      refine takeK (i := 4) (k := 91) (v := .agg #[.string en, .int .i64 eq, .int .i64 ek, .string es, .string ev]) rfl rfl (by kernel_rfl) (by kernel_rfl) (by kernel_rfl) [4] rfl (by decide) (by kernel_rfl) (fun _ _ _ h => h) (by kernel_rfl) ?_ (by assumption) ?_
      · intro W hSw; obtain ⟨x0, x1, x2, x3, x4⟩ := ent5 (HX.out.ent.below hSw); simp only [] at x0 x1 x2 x3 x4; first | (go_simp; done) | go_simp
      try simp only [Act.put, List.setIfInBounds_toArray, List.set_cons_zero, List.set_cons_succ]
      refine oneK (i := 5) (by kernel_rfl) rfl (fun KK hK => ?_)
      go_simp
      refine (HSZ.out _).mono ?_
      rintro e w8 ⟨rfl, hb⟩
      have hb8 : Below w7.heap.size w7 w8 := hHeld.trans (hb.mono (by simp))
      refine hK.out _ _ (fun _ => hb8) (fun hHx => ?_)
      clear hK KK hHx hHeld hb
      try simp only [Act.put, List.setIfInBounds_toArray, List.set_cons_zero, List.set_cons_succ]
      refine takeK (i := 6) (k := 93) (v := .int .i64 ((sn : Int) + (se : Int))) rfl rfl (by kernel_rfl) (by kernel_rfl) (by kernel_rfl) [6] rfl (by decide) (by kernel_rfl) (fun _ _ _ h => h) (by kernel_rfl) ?_ (by assumption) ?_
      · intro W hSw; first | (go_simp; done) | go_simp
      try simp only [Act.put, List.setIfInBounds_toArray, List.set_cons_zero, List.set_cons_succ]
      refine takeK (i := 7) (k := 94) (v := .pointer (some ⟨b, 0, none⟩)) rfl rfl (by kernel_rfl) (by kernel_rfl) (by kernel_rfl) [8, 7] rfl (by decide) (by kernel_rfl) (fun _ _ _ h => h) (by kernel_rfl) ?_ (by assumption) ?_
      · intro W hSw; first | (go_simp; done) | go_simp
      try simp only [Act.put, List.setIfInBounds_toArray, List.set_cons_zero, List.set_cons_succ]
      refine takeK (i := 8) (k := 95) (v := .pointer (some ⟨b, 11, none⟩)) rfl rfl (by kernel_rfl) (by kernel_rfl) (by kernel_rfl) [8] rfl (by decide) (by kernel_rfl) (fun _ _ _ h => h) (by kernel_rfl) ?_ (by assumption) ?_
      · intro W hSw; first | (go_simp; done) | go_simp
      try simp only [Act.put, List.setIfInBounds_toArray, List.set_cons_zero, List.set_cons_succ]
      have d11 : w8.cell? ⟨b, 11, none⟩ = some (.int .i64 (sn : Int)) := (HX.out.top.below hb8).at 11
      have f11 : w8.frozen? ⟨b, 11, none⟩ = false := (HX.out.top.below hb8).free 11
      refine oneK (i := 9) (by kernel_rfl) rfl (fun KK hK => ?_)
      go_simp
      refine hK.out _ _ (fun h => by have h' : true = false := h; cases h') (fun hHx => ?_)
      clear hK KK hHx
      try simp only [Act.put, List.setIfInBounds_toArray, List.set_cons_zero, List.set_cons_succ]
      refine doneK (by kernel_rfl) ?_ _
      go_wp2_with fail
      go_ret
      obtain ⟨hn, hsn, hse, hs3⟩ := HNS.out
      have h11 := DoneAt.other HL.out HNB.out (HX.out.below hb8) (o := 11) (v := .int .i64 ((sn : Int) + (se : Int))) (c' := (n : Int) + 1) (s' := (sn : Int) + (se : Int)) rfl
      have hlen : (A ++ (⟨⟨en, eq, ek, es, ev⟩, nb, tb, K⟩ : Nd) :: B).length = n + 1 := by rw [← hn]; simp; omega
      have hsum : szA (entsN (A ++ (⟨⟨en, eq, ek, es, ev⟩, nb, tb, K⟩ : Nd) :: B)) = sn + se := by
        rw [← hsn, ← hse]; exact ents_put A B _
      have hord : OrdK (entsN (A ++ (⟨⟨en, eq, ek, es, ev⟩, nb, tb, K⟩ : Nd) :: B)) := by
        obtain ⟨ha, hb⟩ := HAB.out
        have hno : ¬ ∃ x ∈ entsN (A ++ B), likeE x ⟨en, eq, ek, es, ev⟩ := by
          rw [like_at HL.out.ord HL.out.kinds]
          show ¬ ∃ n r, restN (A ++ B) (anyE en eq) = n :: r ∧ _
          rw [← hb]; exact HNE.out
        have h1 := into_at HL.out.ord HL.out.kinds ⟨en, eq, ek, es, ev⟩ hno
        simp only [] at h1
        rw [← ha, ← hb] at h1
        rw [ents_app]
        show OrdK (entsN A ++ _ :: entsN B)
        rw [← h1]
        exact putE_ord HL.out.ord _
      have hlay := DoneAt.lay HL.out HNB.out (wr := w8.setCell ⟨b, 11, none⟩ (.int .i64 ((sn : Int) + (se : Int)))) (by
          rw [hlen, hsum]
          have e1 : ((n + 1 : Nat) : Int) = (n : Int) + 1 := by omega
          have e2 : ((sn + se : Nat) : Int) = (sn : Int) + (se : Int) := by omega
          rw [e1, e2]; exact h11) (by simp [World.setCell]; exact Nat.lt_of_lt_of_le hsz7.1 hb8.size) (by simp [World.setCell]; exact Nat.lt_of_lt_of_le hsz7.2 hb8.size) hh0 hh8 hord hs3 (by rw [hlen]; have := HS.out.1; omega) (by rw [hsum]; omega)
      exact .inr ⟨HNE.out, rfl, _, rfl, hlay.1, h11.upd, hlay.2⟩
end Go.Proofs.Ytacaofnonmgfoaa
