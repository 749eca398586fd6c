/- simfs' Crash: the file system that is left. -/
import Derived.Test.YtgeofgdhlbmciaaFsMix
import Derived.Test.YtgeofgdhlbmciaaRegTail
import Derived.Deep.RegionHeld3
namespace Go.Proofs.Ytgeofgdhlbmciaa
set_option linter.unusedVariables false
open Go.RowKit Go.Maps
/-- On the way: block q holds the directory that is left, so far l. -/
structure Left1 (w : World) (q : Nat) (l : Dir) (W : World) : Prop where
  ex : ∃ mb, W.heap[q]? = some (.cells #[.map mb] 49 (0, 0)) ∧ MB W mb l ∧ ∀ k, mb = some k → w.heap.size ≤ k ∧ k ≠ q
  q0 : w.heap.size ≤ q
  blw : Below w.heap.size w W
theorem Left1.take {w : World} {q : Nat} {l : Dir} {W : World} (h : Left1 w q l W) (c1 c2 : ByteArray) (fi : Option Nat) (hl : l.length ≤ 1000000) (h1 : c1.size ≤ maxLen) (h2 : c2.size ≤ maxLen) :
    Calls Try.prog 31 #[.pointer (some ⟨q, 0, none⟩), .agg #[.string c1, .string c2, ptrO fi]] W fun e w' => e = .returned (.tuple #[]) ∧ Left1 w q (Chg.run l ⟨c1, c2, fi⟩) w' := by
  obtain ⟨⟨mb, hq, hm, hk⟩, hq0, hb⟩ := h
  refine (take_any W q 49 #[.map mb] mb l c1 c2 fi hq rfl hm (fun k e => (hk k e).2) hl h1 h2).mono ?_
  rintro e w' ⟨k, rfl, t1, t2, t3, t4⟩
  refine ⟨rfl, ⟨some k, t1, t2, ?_⟩, hq0, hb.trans (t4.below hb.size fun j hj e => ?_)⟩
  · intro j hj
    obtain rfl := Option.some.inj hj
    rcases t3 with e | e
    · exact hk k e
    · have := (Array.getElem?_eq_some_iff.1 hq).1
      have := hb.size
      exact ⟨by omega, by omega⟩
  · rcases e with e | e
    · omega
    · have := (hk j e).1; omega
theorem Left1.below {w : World} {q : Nat} {l : Dir} {W W' : World} (h : Left1 w q l W) (hb : Below W.heap.size W W') : Left1 w q l W' := by
  obtain ⟨⟨mb, hq, hm, hk⟩, hq0, hb0⟩ := h
  exact ⟨⟨mb, (hb.block _ (Array.getElem?_eq_some_iff.1 hq).1).trans hq, hm.same fun k e => hb.block _ (hm.lt k e), hk⟩, hq0, hb0.trans (hb.mono hb0.size)⟩
theorem Left1.alloc {w : World} {q : Nat} {l : Dir} {W : World} (h : Left1 w q l W) (o : Obj) : Left1 w q l (W.alloc o) := by
  obtain ⟨⟨mb, hq, hm, hk⟩, hq0, hb⟩ := h
  exact ⟨⟨mb, (Below.heap_alloc _ _ _ (Array.getElem?_eq_some_iff.1 hq).1).trans hq, hm.same fun k e => Below.heap_alloc _ _ _ (hm.lt k e), hk⟩, hq0, hb.alloc hb.size _⟩
def CrashAt (w : World) (S : Fs) (e : Ending) (w' : World) : Prop := ∃ b' ρ', e = .returned (.pointer (some ⟨b', 0, none⟩)) ∧ FsAt w' b' ρ' S ∧ Below w.heap.size w w' ∧ ∀ k, ρ' k ≠ none → w.heap.size ≤ k
/-- On the way: k names have new files. -/
structure Left2 (w W5 : World) (mb : Option Nat) (fb : Nat → Nat) (S : Fs) (n : Int) (ts : List Int) (k : Nat) (W : World) : Prop where
  ex : ∃ (g : Nat → Nat) (gv : Nat → Value) (ρ : Nat → Option Role), MB W mb (mixD fb (S.left n) g k) ∧ (∀ j f, j < k → (S.crashFiles n ts)[j]? = some f → FileAt W ρ j (g j) (gv j) f) ∧ ∀ x, ρ x ≠ none → W5.heap.size ≤ x ∧ x < W.heap.size
  upd : UpdF (fun i => mb = some i) W5 W
  mlt : ∀ i, mb = some i → i < W5.heap.size ∧ w.heap.size ≤ i
  blw : Below w.heap.size w W
theorem Left2.start {w W5 : World} {mb : Option Nat} {fb : Nat → Nat} {S : Fs} {n : Int} {ts : List Int} (hm : MB W5 mb (dmap fb (S.left n))) (hl : ∀ i, mb = some i → w.heap.size ≤ i) (hb : Below w.heap.size w W5) : Left2 w W5 mb fb S n ts 0 W5 :=
  ⟨⟨fun _ => 0, fun _ => .slice none 0 0, fun _ => none, by rw [mixD_start]; exact hm, fun j f hj => absurd hj (Nat.not_lt_zero _), fun x hx => absurd rfl hx⟩, UpdF.refl _ _, fun i hi => ⟨hm.lt i hi, hl i hi⟩, hb⟩
theorem Left2.step {w W5 W W' : World} {mb : Option Nat} {fb : Nat → Nat} {S : Fs} {n : Int} {ts : List Int} {k nb : Nat} {v : Value} {x : ByteArray × Nat} (h : Left2 w W5 mb fb S n ts k W) (hS : FsOk S) (hx : (S.left n)[k]? = some x) (hxs : x.1.size ≤ maxLen) (hb : Below W.heap.size W W')
    (hc : W'.heap[nb]? = some (.cells (filV v ((S.file x.2).crash (ts.getD k 0)).synced) 47 (0, 0))) (ho : OwnB W.heap.size W' v ((S.file x.2).crash (ts.getD k 0)).bytes) (hn : W.heap.size ≤ nb) (hv : v.ownBlock ≠ some nb) :
    ∃ W'', (Instr.mapUpdate 49 (.map mb) (.string x.1) (.pointer (some ⟨nb, 0, none⟩))).run Try.prog W' = .ok () W'' ∧ Left2 w W5 mb fb S n ts (k + 1) W'' := by
  obtain ⟨⟨g, gv, ρ, hm, hf, hr⟩, hu, hl, hbw⟩ := h
  have hD := hS.left n
  have hkl : k < (S.left n).length := (List.getElem?_eq_some_iff.1 hx).1
  obtain ⟨kk, rfl⟩ : ∃ kk, mb = some kk := by
    cases mb with
    | some kk => exact ⟨kk, rfl⟩
    | none =>
      have h1 : mixD fb (S.left n) g k = [] := hm
      have h2 := mixD_len fb (S.left n) g k
      rw [h1] at h2
      have h3 : 0 = (S.left n).length := h2
      omega
  obtain ⟨hk5, hkw⟩ := hl kk rfl
  have hu5 := hu.size
  have hkW : kk < W.heap.size := by omega
  have hm' := hm.same (w' := W') fun i hi => hb.block i (hm.lt i hi)
  obtain ⟨W'', hrun, hm2, hg2, hs2⟩ := hm'.store (by rw [mixD_len]; have := hD.2.1; unfold maxLen; omega) x.1 hxs nb
  rw [mixD_step hD.1 hx] at hm2
  have old : ∀ y, y < W.heap.size → y ≠ kk → W''.heap[y]? = W.heap[y]? := fun y hy hne => (hg2.block y (by have := hb.size; omega) (fun e => hne (Option.some.inj e))).trans (hb.block y hy)
  have new : ∀ y, y < W'.heap.size → y ≠ kk → W''.heap[y]? = W'.heap[y]? := fun y hy hne => hg2.block y hy (fun e => hne (Option.some.inj e))
  have hnbl := (Array.getElem?_eq_some_iff.1 hc).1
  have hvb : ∀ y, v.ownBlock = some y → W.heap.size ≤ y ∧ y < W'.heap.size := fun y hy => (World.ownsRow.lt ho y hy)
  refine ⟨W'', hrun, ⟨upN g k nb, upN gv k v, fun y => if y = nb then some (.file k) else if v.ownBlock = some y then some (.bytes k) else ρ y, hm2, ?_, ?_⟩, ?_, hl, ?_⟩
  · intro j f hj hjf
    by_cases hjk : j = k
    · subst hjk
      rw [crashFiles_at, hx] at hjf
      obtain rfl := Option.some.inj hjf
      rw [upN_same, upN_same]
      exact ⟨(new nb hnbl (by omega)).trans hc, if_pos rfl, row_same (OwnV.base ho (Nat.zero_le _)) fun y hy => new y (hvb y hy).2 (by have := (hvb y hy).1; omega), fun y hy => by
        try dsimp only
        rw [if_neg (fun e => hv (by rw [← e]; exact hy)), if_pos hy]⟩
    · rw [upN_ne _ _ hjk, upN_ne _ _ hjk]
      have h1 := hf j f (by omega) hjf
      have keep : ∀ r y, ρ y = some r → (if y = nb then some (Role.file k) else if v.ownBlock = some y then some (Role.bytes k) else ρ y) = some r := fun r y hy => by
        have h2 := hr y (by rw [hy]; simp)
        rw [if_neg (by omega), if_neg (fun e => by have := (hvb y e).1; omega)]
        exact hy
      have same : ∀ r y, ρ y = some r → W''.heap[y]? = W.heap[y]? := fun r y hy => by
        have h2 := hr y (by rw [hy]; simp)
        exact old y h2.2 (by omega)
      exact ⟨(same _ _ h1.role).trans h1.cell, keep _ _ h1.role, row_same h1.own fun y hy => same _ y (h1.brole y hy), fun y hy => keep _ _ (h1.brole y hy)⟩
  · intro y hy
    have hy' : (if y = nb then some (Role.file k) else if v.ownBlock = some y then some (Role.bytes k) else ρ y) ≠ none := hy
    clear hy
    have hbs := hb.size
    split at hy'
    · omega
    · split at hy'
      · rename_i e; have := hvb y e; omega
      · have := hr y hy'; omega
  · refine hu.trans ?_
    refine (UpdF.of hb).trans (UpdF.grown hg2 fun y hy => hy)
  · exact hbw.trans ((UpdF.below ((UpdF.of (F := fun i => some kk = some i) hb).trans (UpdF.grown hg2 fun y hy => hy)) hbw.size fun y hy e => by
      have e' := Option.some.inj e
      omega))
/-- The file system that a crash leaves, in memory. -/
theorem Left2.fin {w W5 W W1 : World} {mb ml : Option Nat} {fb : Nat → Nat} {S : Fs} {n : Int} {ts : List Int} {g : Nat → Nat} {gv : Nat → Value} {ρ : Nat → Option Role} (hS : FsOk S) (hm : MB W mb (mixD fb (S.left n) g (S.left n).length))
    (hf : ∀ j f, j < (S.left n).length → (S.crashFiles n ts)[j]? = some f → FileAt W ρ j (g j) (gv j) f) (hr : ∀ x, ρ x ≠ none → W5.heap.size ≤ x ∧ x < W.heap.size) (hl : ∀ i, mb = some i → i < W5.heap.size ∧ w.heap.size ≤ i) (hbw : Below w.heap.size w W) (h5 : w.heap.size ≤ W5.heap.size)
    (hm1 : MB W1 ml (mixD fb (S.left n) g (S.left n).length)) (hml : ∀ i, ml = some i → W.heap.size ≤ i) (hb : Below W.heap.size W W1) (hu5 : W5.heap.size ≤ W.heap.size) :
    CrashAt w (S.crash n ts) (.returned (.pointer (some ⟨W1.heap.size, 0, none⟩))) (W1.alloc (.cells (fsV mb ml (.slice none 0 0) S.room 0 false 0) 52)) := by
  have hbs := hb.size
  have hws := hbw.size
  obtain ⟨b', hb'⟩ : ∃ b', W1.heap.size = b' := ⟨_, rfl⟩
  obtain ⟨W2, hW2⟩ : ∃ W2, W1.alloc (.cells (fsV mb ml (.slice none 0 0) S.room 0 false 0) 52) = W2 := ⟨_, rfl⟩
  have hcell : W2.heap[b']? = some (.cells (fsV mb ml (.slice none 0 0) S.room 0 false 0) 52 (0, 0)) := by rw [← hW2, ← hb']; exact heap_alloc_new ..
  have h12 : Below W1.heap.size W1 W2 := by rw [← hW2]; exact (Below.refl _ _).alloc (Nat.le_refl _) _
  have hs2 : W2.heap.size = b' + 1 := by rw [← hW2, ← hb']; simp
  have hW : Below W.heap.size W W2 := hb.trans (h12.mono hbs)
  have hmlt : ∀ i, ml = some i → W.heap.size ≤ i ∧ i < b' := fun i hi => by
    have h1 := hm1.lt i hi
    exact ⟨hml i hi, by omega⟩
  rw [hb', hW2]
  have keep : ∀ r y, ρ y = some r → (if y = b' then some Role.fs else if mb = some y then some Role.now else if ml = some y then some Role.old else ρ y) = some r := fun r y hy => by
    have h2 := hr y (by rw [hy]; simp)
    rw [if_neg (by omega), if_neg (fun e => by have := hl y e; omega), if_neg (fun e => by have := hmlt y e; omega)]
    exact hy
  have hlen : (S.crashFiles n ts).length = (S.left n).length := List.length_mapIdx
  have hmixe : mixD fb (S.left n) g (S.left n).length = dmap g (numb 0 (S.left n)) := mixD_end _ _ _
  refine ⟨b', fun y => if y = b' then some .fs else if mb = some y then some .now else if ml = some y then some .old else ρ y, rfl, ⟨⟨mb, ml, .slice none 0 0, 0, g, gv⟩, { cell := hcell, role := if_pos rfl, ahead := (fun n hn => by cases hn), now := ?_, nrole := ?_, old := ?_, orole := ?_, wait := OwnK.nil _ _ _ _ _, wrole := (fun k hk => by cases hk), files := ?_, top := ?_, ok := hS.crash n ts }⟩, ?_, ?_⟩
  · show MB W2 mb (dmap g (numb 0 (S.left n)))
    rw [← hmixe]
    exact hm.same fun i hi => hW.block i (hm.lt i hi)
  · intro i hi
    have := hl i hi
    try dsimp only at hi ⊢
    rw [if_neg (by omega), if_pos hi]
  · show MB W2 ml (dmap g (numb 0 (S.left n)))
    rw [← hmixe]
    exact hm1.same fun i hi => h12.block i (hm1.lt i hi)
  · intro i hi
    have h1 := hmlt i hi
    try dsimp only at hi ⊢
    rw [if_neg (by omega), if_neg (fun e => by have := hl i e; omega), if_pos hi]
  · intro j f hj
    have hj' : (S.crashFiles n ts)[j]? = some f := hj
    have hjl := (List.getElem?_eq_some_iff.1 hj').1
    have h1 := hf j f (by omega) hj'
    have same : ∀ r y, ρ y = some r → W2.heap[y]? = W.heap[y]? := fun r y hy => hW.block y (hr y (by rw [hy]; simp)).2
    exact ⟨(same _ _ h1.role).trans h1.cell, keep _ _ h1.role, row_same h1.own fun y hy => same _ y (h1.brole y hy), fun y hy => keep _ _ (h1.brole y hy)⟩
  · intro y hy
    have hy' : (if y = b' then some Role.fs else if mb = some y then some Role.now else if ml = some y then some Role.old else ρ y) ≠ none := hy
    clear hy
    split at hy'
    · omega
    · split at hy'
      · rename_i e; have := hl y e; omega
      · split at hy'
        · rename_i e; have := hmlt y e; omega
        · have := hr y hy'; omega
  · exact hbw.trans (hW.mono hws)
  · intro y hy
    have hy' : (if y = b' then some Role.fs else if mb = some y then some Role.now else if ml = some y then some Role.old else ρ y) ≠ none := hy
    clear hy
    split at hy'
    · omega
    · split at hy'
      · rename_i e; exact (hl y e).2
      · split at hy'
        · rename_i e; have := hmlt y e; omega
        · have := hr y hy'; omega
set_option maxHeartbeats 4000000 in
set_option maxRecDepth 100000 in
theorem crash_any (w : World) (b : Nat) (ρ : Nat → Option Role) (S : Fs) (h : FsAt w b ρ S) (n : Int) (tv : Value) (ts : List Int) (ht : RdV w tv (ts.map (Value.int .i64))) (htl : ts.length ≤ 1000000000000) (hwl : S.wait.length ≤ 1000000000000) :
    Calls Try.prog 20 #[.pointer (some ⟨b, 0, none⟩), .int .i64 n, tv] w (CrashAt w (S.crash n ts)) := by
  obtain ⟨L, hL⟩ := h
  have HL := Lib.hid hL
  have HM := Lib.hid (mclone_any L.ml _ w hL.old)
  have c1 := hL.cells.c1
  have hb := hL.top b (by rw [hL.role]; simp)
  clear hL
  have HT := Lib.hid ht
  clear ht
  go_enter Try.func20, Try.ntmps20
  go_wp2_with fail
  refine HM.out.mono ?_
  rintro e w1 ⟨mb, rfl, h1, h2, h3⟩
  go_wp2_with fail
  obtain ⟨w2, hw2⟩ : ∃ w2, w1.alloc (.cells #[.map mb] 49) = w2 := ⟨_, rfl⟩
  obtain ⟨q, hq⟩ : ∃ q, w1.heap.size = q := ⟨_, rfl⟩
  have HD := Lib.hid (show Left1 w q (dmap L.fb S.old) w2 by
    rw [← hw2, ← hq]
    refine ⟨⟨mb, heap_alloc_new .., h1.same fun k e => Below.heap_alloc _ _ _ (h1.lt k e), fun k e => ?_⟩, h3.size, h3.alloc h3.size _⟩
    have := h1.lt k e
    rcases h2 with e1 | e1
    · rw [e1] at e; cases e
    · rw [e1] at e
      obtain rfl := Option.some.inj e
      exact ⟨Nat.le_refl _, by omega⟩)
  rw [hw2, hq]
  clear hw2 hq h1 h2 h3 c1 HM
  obtain ⟨wa, wl, wc, hwv⟩ := row_form HL.out.wait
  have HW := HL.out.wait
  rw [hwv] at HW
  have hwlc : wl = S.wait.length ∧ wl ≤ wc ∧ wc ≤ maxLen := by
    rcases OwnK.blk HW with ⟨e, e2⟩ | ⟨g, cap, cur, e, _, _, _, e4, e5, _⟩
    · simp only [Value.slice.injEq] at e
      obtain ⟨-, rfl, rfl⟩ := e
      rw [e2]; exact ⟨rfl, Nat.le_refl _, by unfold maxLen; omega⟩
    · simp only [Value.slice.injEq] at e
      obtain ⟨-, rfl, rfl⟩ := e
      exact ⟨rfl, e4, e5⟩
  obtain ⟨m, hm⟩ : ∃ m, clampN n wl = m := ⟨_, rfl⟩
  have hml : m ≤ wl := by rw [← hm]; exact clamp_le _ _
  have HWI : Hid (∀ w, Calls Try.prog 25 #[.int .i64 n, .int .i64 (wl : Int)] w fun e w' => e = .returned (.int .i64 (m : Int)) ∧ w = w') := Lib.hid fun w => by
    have := within_any n wl w
    rwa [hm] at this
  have HTK : Hid (S.left n = (S.wait.take m).foldl Chg.run S.old) := Lib.hid (by
    unfold Fs.left
    congr 1
    have e : m = min n.toNat wl := hm.symm
    rw [e, hwlc.1]
    rcases Nat.le_total n.toNat S.wait.length with h | h
    · rw [Nat.min_eq_left h]
    · rw [Nat.min_eq_right h, List.take_length, List.take_of_length_le h])
  have HWV := Lib.hid hwv
  have HWO := Lib.hid HW
  have HWL := Lib.hid hwlc
  have HSL := Lib.hid (fun W => sl_hC W wa wl wc m (by omega))
  have HC2 : Hid (w.cell? ⟨b, 2, none⟩ = some (.slice wa wl wc)) := Lib.hid (by rw [← hwv]; exact HL.out.cells.c2)
  have hwn : (wl : Int) ≥ 0 := by omega
  have B0 := HD.out.blw
  have HDv := HD.out
  have hmz : (0 : Int) ≤ (m : Int) := by omega
  have hmc : (m : Int) ≤ (wc : Int) := by omega
  clear hm hwv HW hwlc
  have BB : Below w.heap.size w w2 := B0
  clear B0

  refine wp_region_held_drew (S := Below w2.heap.size w2) (by kernel_rfl) (Below.refl _ _).drew (fun hHeld => ?_)
  generalize w2.drew = wd3 at hHeld ⊢
  refine wpAnyH_shift hHeld ?_
  replace BB : Below w.heap.size w wd3 := BB.trans (hHeld.mono BB.size)
  replace HDv := HDv.below hHeld
  clear hHeld
  refine takeYes (i := 0) (k := 20) (v := .pointer (some ⟨b, 0, none⟩)) rfl (by kernel_rfl) (by kernel_rfl) (by kernel_rfl) (by kernel_rfl) (fun _ _ _ h => h) (by kernel_rfl) ?_ (Below.refl _ _) ?_
  · intro W hSw; first | (go_simp; done) | go_simp
  try simp only [Act.put, List.setIfInBounds_toArray, List.set_cons_zero, List.set_cons_succ]
  refine takeYes (i := 1) (k := 21) (v := .pointer (some ⟨b, 0, none⟩)) rfl (by kernel_rfl) (by kernel_rfl) (by kernel_rfl) (by kernel_rfl) (fun _ _ _ h => h) (by kernel_rfl) ?_ (Below.refl _ _) ?_
  · intro W hSw; first | (go_simp; done) | go_simp
  try simp only [Act.put, List.setIfInBounds_toArray, List.set_cons_zero, List.set_cons_succ]
  refine takeYes (i := 2) (k := 22) (v := .pointer (some ⟨b, 2, none⟩)) rfl (by kernel_rfl) (by kernel_rfl) (by kernel_rfl) (by kernel_rfl) (fun _ _ _ h => h) (by kernel_rfl) ?_ (Below.refl _ _) ?_
  · intro W hSw; first | (go_simp; done) | go_simp
  try simp only [Act.put, List.setIfInBounds_toArray, List.set_cons_zero, List.set_cons_succ]
  refine takeYes (i := 3) (k := 23) (v := .slice wa wl wc) rfl (by kernel_rfl) (by kernel_rfl) (by kernel_rfl) (by kernel_rfl) (fun _ _ _ h => h) (by kernel_rfl) ?_ (Below.refl _ _) ?_
  · intro W hSw; have c2 := (hSw.cell (p := ⟨b, 2, none⟩) (Nat.lt_of_lt_of_le hb BB.size)).trans ((BB.cell (p := ⟨b, 2, none⟩) hb).trans HC2.out); first | (go_simp; done) | go_simp
  try simp only [Act.put, List.setIfInBounds_toArray, List.set_cons_zero, List.set_cons_succ]
  refine takeYes (i := 4) (k := 24) (v := .int .i64 n) rfl (by kernel_rfl) (by kernel_rfl) (by kernel_rfl) (by kernel_rfl) (fun _ _ _ h => h) (by kernel_rfl) ?_ (Below.refl _ _) ?_
  · intro W hSw; first | (go_simp; done) | go_simp
  try simp only [Act.put, List.setIfInBounds_toArray, List.set_cons_zero, List.set_cons_succ]
  refine takeYes (i := 5) (k := 25) (v := .pointer (some ⟨b, 0, none⟩)) rfl (by kernel_rfl) (by kernel_rfl) (by kernel_rfl) (by kernel_rfl) (fun _ _ _ h => h) (by kernel_rfl) ?_ (Below.refl _ _) ?_
  · intro W hSw; first | (go_simp; done) | go_simp
  try simp only [Act.put, List.setIfInBounds_toArray, List.set_cons_zero, List.set_cons_succ]
  refine takeYes (i := 6) (k := 26) (v := .pointer (some ⟨b, 0, none⟩)) rfl (by kernel_rfl) (by kernel_rfl) (by kernel_rfl) (by kernel_rfl) (fun _ _ _ h => h) (by kernel_rfl) ?_ (Below.refl _ _) ?_
  · intro W hSw; first | (go_simp; done) | go_simp
  try simp only [Act.put, List.setIfInBounds_toArray, List.set_cons_zero, List.set_cons_succ]
  refine takeYes (i := 7) (k := 27) (v := .pointer (some ⟨b, 2, none⟩)) rfl (by kernel_rfl) (by kernel_rfl) (by kernel_rfl) (by kernel_rfl) (fun _ _ _ h => h) (by kernel_rfl) ?_ (Below.refl _ _) ?_
  · intro W hSw; first | (go_simp; done) | go_simp
  try simp only [Act.put, List.setIfInBounds_toArray, List.set_cons_zero, List.set_cons_succ]
  refine takeYes (i := 8) (k := 28) (v := .slice wa wl wc) rfl (by kernel_rfl) (by kernel_rfl) (by kernel_rfl) (by kernel_rfl) (fun _ _ _ h => h) (by kernel_rfl) ?_ (Below.refl _ _) ?_
  · intro W hSw; have c2 := (hSw.cell (p := ⟨b, 2, none⟩) (Nat.lt_of_lt_of_le hb BB.size)).trans ((BB.cell (p := ⟨b, 2, none⟩) hb).trans HC2.out); first | (go_simp; done) | go_simp
  try simp only [Act.put, List.setIfInBounds_toArray, List.set_cons_zero, List.set_cons_succ]
  refine takeYes (i := 9) (k := 29) (v := .int .i64 (wl : Int)) rfl (by kernel_rfl) (by kernel_rfl) (by kernel_rfl) (by kernel_rfl) (fun _ _ _ h => h) (by kernel_rfl) ?_ (Below.refl _ _) ?_
  · intro W hSw; first | (go_simp; done) | go_simp
  try simp only [Act.put, List.setIfInBounds_toArray, List.set_cons_zero, List.set_cons_succ]
  refine takeYes (i := 13) (k := 33) (v := .int .i64 0) rfl (by kernel_rfl) (by kernel_rfl) (by kernel_rfl) (by kernel_rfl) (fun _ _ _ h => h) (by kernel_rfl) ?_ (Below.refl _ _) ?_
  · intro W hSw; first | (go_simp; done) | go_simp
  try simp only [Act.put, List.setIfInBounds_toArray, List.set_cons_zero, List.set_cons_succ]
  refine wpAnyH_ready (rs := [10]) (by kernel_rfl) (by simp) (AllReadyH.cons rfl (fun K hK => ?_) AllReadyH.nil)
  go_simp
  refine (HWI.out _).mono ?_
  rintro e w' ⟨rfl, rfl⟩
  refine hK.out _ _ (Below.refl _ _) (fun _ => ?_)
  clear hK K
  try simp only [Act.put, List.setIfInBounds_toArray, List.set_cons_zero, List.set_cons_succ]
  refine takeYes (i := 11) (k := 31) (v := .slice wa m wc) rfl (by kernel_rfl) (by kernel_rfl) (by kernel_rfl) (by kernel_rfl) (fun _ _ _ h => h) (by kernel_rfl) ?_ (Below.refl _ _) ?_
  · intro W hSw; have hsl := HSL.out W; first | (go_simp; done) | go_simp
  try simp only [Act.put, List.setIfInBounds_toArray, List.set_cons_zero, List.set_cons_succ]
  refine takeYes (i := 12) (k := 32) (v := .int .i64 (m : Int)) rfl (by kernel_rfl) (by kernel_rfl) (by kernel_rfl) (by kernel_rfl) (fun _ _ _ h => h) (by kernel_rfl) ?_ (Below.refl _ _) ?_
  · intro W hSw; first | (go_simp; done) | go_simp
  try simp only [Act.put, List.setIfInBounds_toArray, List.set_cons_zero, List.set_cons_succ]
  refine wpAnyH_done (by kernel_rfl) ?_ _
  have HD2 := Lib.hid HDv
  have hwlb : wl ≤ 1000000000000 := by have := HWL.out.1; omega
  clear HDv HD BB HC2 HSL HWI
  go_wp2_with fail
  go_loopw [33, 9] (fun vi _ wr => ∃ j : Nat, vi = .int .i64 (j : Int) ∧ j ≤ m ∧ Hid (Left1 w q (dmap L.fb ((S.wait.take j).foldl Chg.run S.old)) wr)) (fun vi _ _ => m - (intOf vi).toNat)
  case atStart => exact ⟨0, rfl, Nat.zero_le _, HD2⟩
  case round =>
    obtain ⟨j, rfl, hj, HR⟩ := hrel
    by_cases hlt : j < m
    · have hjl : j < S.wait.length := by have := HWL.out.1; omega
      obtain ⟨g, rfl⟩ : ∃ g, wa = some ⟨g, 0, none⟩ := by
        rcases OwnK.blk HWO.out with ⟨e, e2⟩ | ⟨g, cap, cur, e, _⟩
        · rw [e2] at hjl; exact absurd hjl (Nat.not_lt_zero _)
        · simp only [Value.slice.injEq] at e; exact ⟨g, e.1⟩
      obtain ⟨c, hc⟩ : ∃ c, S.wait[j]? = some c := ⟨_, List.getElem?_eq_getElem hjl⟩
      have hgl : g < w.heap.size := row_lt HWO.out g rfl
      have hcell : ∀ i, i < 3 → wr.cell? ⟨g, j * 3 + i, none⟩ = some ((encChg L.fb c).getD i undef) := fun i hi => by
        rw [HR.out.blw.cell hgl]
        exact OwnK.cell (encChg_k L.fb) HWO.out j i c hc hi
      have d0 : wr.cell? ⟨g, j * 3, none⟩ = some (.string c.fr) := hcell 0 (by omega)
      have d1 : wr.cell? ⟨g, j * 3 + 1, none⟩ = some (.string c.to) := hcell 1 (by omega)
      have d2 : wr.cell? ⟨g, j * 3 + 2, none⟩ = some (ptrO (c.file.map L.fb)) := hcell 2 (by omega)
      rw [nil_ptr] at d2
      have hsz := HL.out.ok.sizes c (List.mem_of_getElem? hc)
      have HTK2 := Lib.hid ((HR.out.alloc (.cells #[.string c.fr, .string c.to, ptrO (c.file.map L.fb)] 58)).take c.fr c.to (c.file.map L.fb) (by rw [dmap_len]; exact Nat.le_trans (HL.out.ok.few j) (by omega)) (by unfold maxLen; omega) (by unfold maxLen; omega))
      have HST : Hid (Chg.run (dmap L.fb ((S.wait.take j).foldl Chg.run S.old)) ⟨c.fr, c.to, c.file.map L.fb⟩ = dmap L.fb ((S.wait.take (j + 1)).foldl Chg.run S.old)) := Lib.hid (by
        have h1 := Chg.run_map L.fb ((S.wait.take j).foldl Chg.run S.old) c
        unfold Chg.at at h1
        rw [h1]
        obtain ⟨hj1, hj2⟩ := List.getElem?_eq_some_iff.1 hc
        rw [List.take_succ_eq_append_getElem hj1, List.foldl_append, hj2]; rfl)
      rw [HST.out] at HTK2
      rw [nil_ptr] at HTK2
      obtain ⟨cfr, hcfr⟩ : ∃ x, c.fr = x := ⟨_, rfl⟩
      obtain ⟨cto, hcto⟩ : ∃ x, c.to = x := ⟨_, rfl⟩
      obtain ⟨cfp, hcfp⟩ : ∃ x, Option.map (fun k => (⟨k, 0, none⟩ : Addr)) (c.file.map L.fb) = x := ⟨_, rfl⟩
      rw [hcfr] at d0 HTK2
      rw [hcto] at d1 HTK2
      rw [hcfp] at d2 HTK2
      have hjz : (j : Int) < (m : Int) := by omega
      clear hcell hc hcfr hcto hcfp hsz HST hjl
      go_wp2_with fail
      refine HTK2.out.mono ?_
      rintro e w4 ⟨rfl, hT⟩
      go_wp2_with fail
      go_roundw
      case rel => exact ⟨j + 1, by go_num, by omega, Lib.hid hT⟩
      case measure => simp [intOf]; omega
    · obtain rfl : j = m := by omega
      rw [← HTK.out] at HR
      obtain ⟨⟨mb2, hq2, hm2, hk2⟩, hq0, hbw⟩ := HR.out
      have hD := HL.out.ok.left n
      have HNM := Lib.hid (names_any mb2 _ wr hm2 (dmap_ok hD.1) (by rw [dmap_len]; have := hD.2.1; omega))
      have dq := cells_at hq2 0
      have dq' : wr.cell? ⟨q, 0, none⟩ = some (.map mb2) := dq
      clear dq
      go_wp2_with fail
      refine HNM.out.mono ?_
      rintro e w5 ⟨nv, rfl, hn1, hn2⟩
      have hnames : (dmap L.fb (S.left n)).map (fun x => Value.string x.1) = (S.left n).map fun x => Value.string x.1 := by
        unfold dmap; rw [List.map_map]; rfl
      rw [hnames] at hn1
      have hql : q < wr.heap.size := (Array.getElem?_eq_some_iff.1 hq2).1
      have hmkl := fun k hk => hm2.lt k hk
      have HNB : Hid (∀ k, nv.ownBlock = some k → mb2 ≠ some k) := Lib.hid fun k hk e => by
        have h1 := (World.ownsRow.lt hn1 k hk).1
        have := hmkl k e
        omega
      have HNR := Lib.hid (OwnV.rd hn1)
      have hnl : ∃ na nn nc, nv = .slice na nn nc ∧ nn = (S.left n).length := by
        rcases hn1.2 with ⟨e, e2⟩ | ⟨g, cap, cur, e, _⟩
        · rw [List.length_map] at e2; exact ⟨_, _, _, e, e2.symm⟩
        · rw [List.length_map] at e; exact ⟨_, _, _, e, rfl⟩
      obtain ⟨na, nn, nc, rfl, hnn⟩ := hnl
      have HNN := Lib.hid hnn
      have hnnb : nn ≤ 200 := by rw [hnn]; exact hD.2.1
      have HOK := Lib.hid HL.out.ok
      have HDD := Lib.hid hD
      have HST := Lib.hid (Left2.start (w := w) (ts := ts) (hm2.same (w' := w5) fun k hk => hn2.block k (hmkl k hk)) (fun i hi => (hk2 i hi).1) (hbw.trans (hn2.mono hbw.size)))
      have HQ5 : Hid (w5.heap[q]? = some (.cells #[.map mb2] 49 (0, 0)) ∧ w.heap.size ≤ w5.heap.size ∧ ∀ k, mb2 = some k → k ≠ q) := Lib.hid ⟨(hn2.block q hql).trans hq2, Nat.le_trans hbw.size hn2.size, fun k hk => (hk2 k hk).2⟩
      obtain ⟨ta, tl, tc, htv, htl2⟩ : ∃ ta tl tc, tv = .slice ta tl tc ∧ tl = ts.length := by
        rcases HT.out with ⟨a, c, e, e2⟩ | ⟨g, off, c, e, _⟩
        · exact ⟨a, 0, c, e, by have := congrArg List.length e2; simpa using this.symm⟩
        · rw [List.length_map] at e; exact ⟨_, _, c, e, rfl⟩
      subst htv
      have HTL := Lib.hid htl2
      clear hn1 hn2 hnn hnames hql hmkl hm2 hk2 hq2 hbw hq0 dq' HNM hD htl2 HD2
      go_wp2_with fail
      go_loopw [43, 10, 11, 12] (fun vi _ _ _ wr2 => ∃ k : Nat, vi = .int .i64 (k : Int) ∧ k ≤ nn ∧ Hid (Left2 w w5 mb2 L.fb S n ts k wr2)) (fun vi _ _ _ _ => nn - (intOf vi).toNat)
      case atStart => exact ⟨0, rfl, Nat.zero_le _, HST⟩
      case round =>
        obtain ⟨k, rfl, hk, HR2⟩ := hrel
        by_cases hlt2 : k < nn
        · have hkl : k < (S.left n).length := by have := HNN.out; omega
          obtain ⟨x, hx⟩ : ∃ x, (S.left n)[k]? = some x := ⟨_, List.getElem?_eq_getElem hkl⟩
          have HX := Lib.hid hx
          have hxf : x.2 < S.files.length := HDD.out.2.2 x (List.mem_of_getElem? hx)
          have hnmr := rdV_cells (rdV_upd HNR.out HR2.out.upd fun j hj e => HNB.out j hj e) (by rw [List.length_map]; omega)
          obtain ⟨ng, noff, rfl, -, hnc⟩ := hnmr
          have dn : wr.cell? ⟨ng, noff + k, none⟩ = some (.string x.1) := by
            rw [hnc k (by rw [List.length_map]; omega), List.getD_eq_getElem?_getD, List.getElem?_map, hx]; rfl
          have hmix : ∃ g, MB wr mb2 (mixD L.fb (S.left n) g k) := by obtain ⟨g, gv, ρ, h, _⟩ := HR2.out.ex; exact ⟨g, h⟩
          obtain ⟨g, hmg⟩ := hmix
          have hxs : x.1.size ≤ maxLen := by
            have h1 := mixD_at L.fb (S.left n) g k k
            rw [hx] at h1
            exact hmg.names (x.1, mixF L.fb (S.left n) g k k) (List.mem_of_getElem? h1)
          have HLK : Hid (∀ W, Below wr.heap.size wr W → (Instr.lookup 49 (.map mb2) (.string x.1) false).run Try.prog W = .ok (.pointer (some ⟨L.fb x.2, 0, none⟩)) W) := Lib.hid fun W hW => by
            have h1 := (hmg.same (w' := W) fun j hj => hW.block j (hmg.lt j hj)).look x.1 hxs
            rw [mixD_get HDD.out.1 hx] at h1
            exact h1
          have hqr : q < wr.heap.size := Nat.lt_of_lt_of_le (Array.getElem?_eq_some_iff.1 HQ5.out.1).1 HR2.out.upd.size
          have HQR : Hid (wr.cell? ⟨q, 0, none⟩ = some (.map mb2)) := Lib.hid (by
            rw [cells_at ((HR2.out.upd.block q (Array.getElem?_eq_some_iff.1 HQ5.out.1).1 (fun e => HQ5.out.2.2 q e rfl)).trans HQ5.out.1)]; rfl)
          have hfl := HL.out.files x.2 _ (Fs.file_some hxf)
          have hfb := HOK.out.file_bd x.2
          have hfxl : L.fb x.2 < w.heap.size := (Array.getElem?_eq_some_iff.1 hfl.cell).1
          have HFA : Hid (∀ t, Calls Try.prog 32 #[.pointer (some ⟨L.fb x.2, 0, none⟩), .int .i64 t] wr.drew (FileNew wr.drew ((S.file x.2).crash t))) := Lib.hid fun t =>
            fcrash_any wr.drew (L.fb x.2) (L.fv x.2) (S.file x.2) t ((HR2.out.blw.block _ hfxl).trans hfl.cell) (row_same hfl.own fun j hj => HR2.out.blw.block j (row_lt hfl.own j hj)) hfb.1 hfb.2
          obtain ⟨nm, hnm⟩ : ∃ nm, x.1 = nm := ⟨_, rfl⟩
          obtain ⟨fx, hfx⟩ : ∃ fx, L.fb x.2 = fx := ⟨_, rfl⟩
          have HNM := Lib.hid hnm
          rw [hnm] at dn HLK
          rw [hfx] at HLK HFA
          have hkz : (k : Int) < (nn : Int) := by omega
          clear hx hkl hxf hnc hmg hfl hfb hfxl hnm hfx
          by_cases hkt : k < tl
          · obtain ⟨tg, toff, rfl, htg, htc⟩ := rdV_cells HT.out (by rw [List.length_map]; have := HTL.out; omega)
            obtain ⟨t, ht⟩ : ∃ t, ts.getD k 0 = t := ⟨_, rfl⟩
            have HTT := Lib.hid ht
            have dt : wr.cell? ⟨tg, toff + k, none⟩ = some (.int .i64 t) := by
              have h0 : k < ts.length := by have := HTL.out; omega
              rw [HR2.out.blw.cell htg, htc k (by rw [List.length_map]; exact h0), ← ht, List.getD_eq_getElem?_getD, List.getD_eq_getElem?_getD, List.getElem?_map, List.getElem?_eq_getElem h0]; rfl
            have HFC := Lib.hid (HFA.out t)
            have hktz : (k : Int) < (tl : Int) := by omega
            clear ht htc HFA
            go_wp2_with fail
            refine beginK (Below wr.heap.size wr) 7 (by kernel_rfl) (Below.refl _ _).drew (fun hHeld => ?_)
            refine takeK (i := 0) (k := 56) (v := .map mb2) rfl rfl (by kernel_rfl) (by kernel_rfl) (by kernel_rfl) [0] rfl (by decide) (by kernel_rfl) (fun _ _ _ h => h) (by kernel_rfl) ?_ (by assumption) ?_
            · intro W hSw; have dq := (hSw.cell (p := ⟨q, 0, none⟩) hqr).trans HQR.out; first | (go_simp; done) | go_simp
            try simp only [Act.put, List.setIfInBounds_toArray, List.set_cons_zero, List.set_cons_succ]
            refine takeK (i := 1) (k := 57) (v := .string nm) rfl rfl (by kernel_rfl) (by kernel_rfl) (by kernel_rfl) [1] rfl (by decide) (by kernel_rfl) (fun _ _ _ h => h) (by kernel_rfl) ?_ (by assumption) ?_
            · intro W hSw; first | (go_simp; done) | go_simp
            try simp only [Act.put, List.setIfInBounds_toArray, List.set_cons_zero, List.set_cons_succ]
            refine takeK (i := 2) (k := 58) (v := .map mb2) rfl rfl (by kernel_rfl) (by kernel_rfl) (by kernel_rfl) [2] rfl (by decide) (by kernel_rfl) (fun _ _ _ h => h) (by kernel_rfl) ?_ (by assumption) ?_
            · intro W hSw; have dq := (hSw.cell (p := ⟨q, 0, none⟩) hqr).trans HQR.out; first | (go_simp; done) | go_simp
            try simp only [Act.put, List.setIfInBounds_toArray, List.set_cons_zero, List.set_cons_succ]
            refine takeK (i := 3) (k := 59) (v := .string nm) rfl rfl (by kernel_rfl) (by kernel_rfl) (by kernel_rfl) [3] rfl (by decide) (by kernel_rfl) (fun _ _ _ h => h) (by kernel_rfl) ?_ (by assumption) ?_
            · intro W hSw; first | (go_simp; done) | go_simp
            try simp only [Act.put, List.setIfInBounds_toArray, List.set_cons_zero, List.set_cons_succ]
            refine takeK (i := 4) (k := 60) (v := .pointer (some ⟨fx, 0, none⟩)) rfl rfl (by kernel_rfl) (by kernel_rfl) (by kernel_rfl) [4] rfl (by decide) (by kernel_rfl) (fun _ _ _ h => h) (by kernel_rfl) ?_ (by assumption) ?_
            · intro W hSw; have hlk := HLK.out W hSw; first | (go_simp; done) | go_simp
            try simp only [Act.put, List.setIfInBounds_toArray, List.set_cons_zero, List.set_cons_succ]
            refine takeK (i := 5) (k := 61) (v := .int .i64 t) rfl rfl (by kernel_rfl) (by kernel_rfl) (by kernel_rfl) [5] rfl (by decide) (by kernel_rfl) (fun _ _ _ h => h) (by kernel_rfl) ?_ (by assumption) ?_
            · intro W hSw; first | (go_simp; done) | go_simp
            try simp only [Act.put, List.setIfInBounds_toArray, List.set_cons_zero, List.set_cons_succ]
            refine oneK (i := 6) (by kernel_rfl) rfl (fun K hK => ?_)
            go_simp
            refine HFC.out.mono ?_
            rintro e w6 ⟨nb, v, rfl, f1, f2, f3, f4, f5⟩
            have b6 : Below wr.heap.size wr w6 := (Below.refl wr.heap.size wr).drew.trans f5
            rw [← HTT.out] at f1 f2
            obtain ⟨w7, hst, hR7⟩ := HR2.out.step HOK.out HX.out hxs b6 f1 f2 f3 f4
            rw [HNM.out] at hst
            refine hK.out _ _ (fun _ => b6) (fun _ => ?_)
            clear hK K
            try simp only [Act.put, List.setIfInBounds_toArray, List.set_cons_zero, List.set_cons_succ]
            refine oneK (i := 7) (by kernel_rfl) rfl (fun K hK => ?_)
            refine step_upd (by kernel_rfl) (.tmp 56) (.tmp 57) (.tmp 62) 49 rfl rfl rfl rfl hst ?_
            refine hK.out _ _ (fun h => by have h' : true = false := h; cases h') (fun _ => ?_)
            clear hK K
            try simp only [Act.put, List.setIfInBounds_toArray]
            refine doneK (by kernel_rfl) ?_ _
            have HR7 := Lib.hid hR7
            clear hst hR7 f1 f2 f3 f4 f5 b6 hHeld
            go_wp2_with fail
            go_roundw
            case rel => exact ⟨k + 1, by go_num, by omega, HR7⟩
            case measure => simp [intOf]; omega
          · have HTT : Hid (ts.getD k 0 = 0) := Lib.hid (by
              rw [List.getD_eq_getElem?_getD, List.getElem?_eq_none (by have := HTL.out; omega)]; rfl)
            have HFC := Lib.hid (HFA.out 0)
            have hktz : ¬ (k : Int) < (tl : Int) := by omega
            clear HFA
            go_wp2_with fail
            refine beginK (Below wr.heap.size wr) 7 (by kernel_rfl) (Below.refl _ _).drew (fun hHeld => ?_)
            refine takeK (i := 0) (k := 56) (v := .map mb2) rfl rfl (by kernel_rfl) (by kernel_rfl) (by kernel_rfl) [0] rfl (by decide) (by kernel_rfl) (fun _ _ _ h => h) (by kernel_rfl) ?_ (by assumption) ?_
            · intro W hSw; have dq := (hSw.cell (p := ⟨q, 0, none⟩) hqr).trans HQR.out; first | (go_simp; done) | go_simp
            try simp only [Act.put, List.setIfInBounds_toArray, List.set_cons_zero, List.set_cons_succ]
            refine takeK (i := 1) (k := 57) (v := .string nm) rfl rfl (by kernel_rfl) (by kernel_rfl) (by kernel_rfl) [1] rfl (by decide) (by kernel_rfl) (fun _ _ _ h => h) (by kernel_rfl) ?_ (by assumption) ?_
            · intro W hSw; first | (go_simp; done) | go_simp
            try simp only [Act.put, List.setIfInBounds_toArray, List.set_cons_zero, List.set_cons_succ]
            refine takeK (i := 2) (k := 58) (v := .map mb2) rfl rfl (by kernel_rfl) (by kernel_rfl) (by kernel_rfl) [2] rfl (by decide) (by kernel_rfl) (fun _ _ _ h => h) (by kernel_rfl) ?_ (by assumption) ?_
            · intro W hSw; have dq := (hSw.cell (p := ⟨q, 0, none⟩) hqr).trans HQR.out; first | (go_simp; done) | go_simp
            try simp only [Act.put, List.setIfInBounds_toArray, List.set_cons_zero, List.set_cons_succ]
            refine takeK (i := 3) (k := 59) (v := .string nm) rfl rfl (by kernel_rfl) (by kernel_rfl) (by kernel_rfl) [3] rfl (by decide) (by kernel_rfl) (fun _ _ _ h => h) (by kernel_rfl) ?_ (by assumption) ?_
            · intro W hSw; first | (go_simp; done) | go_simp
            try simp only [Act.put, List.setIfInBounds_toArray, List.set_cons_zero, List.set_cons_succ]
            refine takeK (i := 4) (k := 60) (v := .pointer (some ⟨fx, 0, none⟩)) rfl rfl (by kernel_rfl) (by kernel_rfl) (by kernel_rfl) [4] rfl (by decide) (by kernel_rfl) (fun _ _ _ h => h) (by kernel_rfl) ?_ (by assumption) ?_
            · intro W hSw; have hlk := HLK.out W hSw; first | (go_simp; done) | go_simp
            try simp only [Act.put, List.setIfInBounds_toArray, List.set_cons_zero, List.set_cons_succ]
            refine takeK (i := 5) (k := 61) (v := .int .i64 0) rfl rfl (by kernel_rfl) (by kernel_rfl) (by kernel_rfl) [5] rfl (by decide) (by kernel_rfl) (fun _ _ _ h => h) (by kernel_rfl) ?_ (by assumption) ?_
            · intro W hSw; first | (go_simp; done) | go_simp
            try simp only [Act.put, List.setIfInBounds_toArray, List.set_cons_zero, List.set_cons_succ]
            refine oneK (i := 6) (by kernel_rfl) rfl (fun K hK => ?_)
            go_simp
            refine HFC.out.mono ?_
            rintro e w6 ⟨nb, v, rfl, f1, f2, f3, f4, f5⟩
            have b6 : Below wr.heap.size wr w6 := (Below.refl wr.heap.size wr).drew.trans f5
            rw [← HTT.out] at f1 f2
            obtain ⟨w7, hst, hR7⟩ := HR2.out.step HOK.out HX.out hxs b6 f1 f2 f3 f4
            rw [HNM.out] at hst
            refine hK.out _ _ (fun _ => b6) (fun _ => ?_)
            clear hK K
            try simp only [Act.put, List.setIfInBounds_toArray, List.set_cons_zero, List.set_cons_succ]
            refine oneK (i := 7) (by kernel_rfl) rfl (fun K hK => ?_)
            refine step_upd (by kernel_rfl) (.tmp 56) (.tmp 57) (.tmp 62) 49 rfl rfl rfl rfl hst ?_
            refine hK.out _ _ (fun h => by have h' : true = false := h; cases h') (fun _ => ?_)
            clear hK K
            try simp only [Act.put, List.setIfInBounds_toArray]
            refine doneK (by kernel_rfl) ?_ _
            have HR7 := Lib.hid hR7
            clear hst hR7 f1 f2 f3 f4 f5 b6 hHeld
            go_wp2_with fail
            go_roundw
            case rel => exact ⟨k + 1, by go_num, by omega, HR7⟩
            case measure => simp [intOf]; omega
        · obtain rfl : k = nn := by omega
          obtain ⟨⟨g, gv, ρ2, hmg, hfg, hrg⟩, hug, hlg, hbg⟩ := HR2.out
          rw [HNN.out] at hmg hfg
          have HDONE := Lib.hid (fun (W1 : World) (ml : Option Nat) (h1 : MB W1 ml (mixD L.fb (S.left n) g (S.left n).length)) (h2 : ∀ i, ml = some i → wr.heap.size ≤ i) (h3 : Below wr.heap.size wr W1) =>
            Left2.fin (W5 := w5) HOK.out hmg hfg hrg hlg hbg HQ5.out.2.1 h1 h2 h3 hug.size)
          have hqr : q < wr.heap.size := Nat.lt_of_lt_of_le (Array.getElem?_eq_some_iff.1 HQ5.out.1).1 hug.size
          have HQR : Hid (wr.cell? ⟨q, 0, none⟩ = some (.map mb2)) := Lib.hid (by
            rw [cells_at ((hug.block q (Array.getElem?_eq_some_iff.1 HQ5.out.1).1 (fun e => HQ5.out.2.2 q e rfl)).trans HQ5.out.1)]; rfl)
          have hbr : b < wr.heap.size := Nat.lt_of_lt_of_le hb hbg.size
          have HRM : Hid (wr.cell? ⟨b, 3, none⟩ = some (.int .i64 (S.room : Int))) := Lib.hid ((hbg.cell (p := ⟨b, 3, none⟩) hb).trans HL.out.cells.c3)
          have HCL : Hid (∀ W, Below wr.heap.size wr W → Calls Try.prog 29 #[.map mb2] W (CloneAt W mb2 (mixD L.fb (S.left n) g (S.left n).length))) := Lib.hid fun W hW =>
            mclone_any mb2 _ W (hmg.same fun i hi => hW.block i (hmg.lt i hi))
          obtain ⟨rm, hrm⟩ : ∃ rm : Nat, S.room = rm := ⟨_, rfl⟩
          rw [hrm] at HRM HDONE
          clear hmg hfg hrg hug hlg hbg hrm
          go_wp2_with fail
          have B2 : Below wr.heap.size wr wr := Below.refl _ _

          refine wp_region_held_drew (S := Below wr.heap.size wr) (by kernel_rfl) (Below.refl _ _).drew (fun hHeld => ?_)
          generalize wr.drew = wd20 at hHeld ⊢
          refine wpAnyH_shift hHeld ?_
          replace B2 : Below wr.heap.size wr wd20 := B2.trans (hHeld.mono B2.size)
          clear hHeld
          refine takeYes (i := 0) (k := 64) (v := .map mb2) rfl (by kernel_rfl) (by kernel_rfl) (by kernel_rfl) (by kernel_rfl) (fun _ _ _ h => h) (by kernel_rfl) ?_ (Below.refl _ _) ?_
          · intro W hSw; have dq := (hSw.cell (p := ⟨q, 0, none⟩) (Nat.lt_of_lt_of_le hqr B2.size)).trans ((B2.cell (p := ⟨q, 0, none⟩) hqr).trans HQR.out); first | (go_simp; done) | go_simp
          try simp only [Act.put, List.setIfInBounds_toArray, List.set_cons_zero, List.set_cons_succ]
          refine takeYes (i := 1) (k := 65) (v := .map mb2) rfl (by kernel_rfl) (by kernel_rfl) (by kernel_rfl) (by kernel_rfl) (fun _ _ _ h => h) (by kernel_rfl) ?_ (Below.refl _ _) ?_
          · intro W hSw; have dq := (hSw.cell (p := ⟨q, 0, none⟩) (Nat.lt_of_lt_of_le hqr B2.size)).trans ((B2.cell (p := ⟨q, 0, none⟩) hqr).trans HQR.out); first | (go_simp; done) | go_simp
          try simp only [Act.put, List.setIfInBounds_toArray, List.set_cons_zero, List.set_cons_succ]
          refine takeYes (i := 3) (k := 67) (v := .pointer (some ⟨b, 0, none⟩)) rfl (by kernel_rfl) (by kernel_rfl) (by kernel_rfl) (by kernel_rfl) (fun _ _ _ h => h) (by kernel_rfl) ?_ (Below.refl _ _) ?_
          · intro W hSw; first | (go_simp; done) | go_simp
          try simp only [Act.put, List.setIfInBounds_toArray, List.set_cons_zero, List.set_cons_succ]
          refine takeYes (i := 4) (k := 68) (v := .pointer (some ⟨b, 0, none⟩)) rfl (by kernel_rfl) (by kernel_rfl) (by kernel_rfl) (by kernel_rfl) (fun _ _ _ h => h) (by kernel_rfl) ?_ (Below.refl _ _) ?_
          · intro W hSw; first | (go_simp; done) | go_simp
          try simp only [Act.put, List.setIfInBounds_toArray, List.set_cons_zero, List.set_cons_succ]
          refine takeYes (i := 5) (k := 69) (v := .pointer (some ⟨b, 3, none⟩)) rfl (by kernel_rfl) (by kernel_rfl) (by kernel_rfl) (by kernel_rfl) (fun _ _ _ h => h) (by kernel_rfl) ?_ (Below.refl _ _) ?_
          · intro W hSw; first | (go_simp; done) | go_simp
          try simp only [Act.put, List.setIfInBounds_toArray, List.set_cons_zero, List.set_cons_succ]
          refine takeYes (i := 6) (k := 70) (v := .int .i64 (rm : Int)) rfl (by kernel_rfl) (by kernel_rfl) (by kernel_rfl) (by kernel_rfl) (fun _ _ _ h => h) (by kernel_rfl) ?_ (Below.refl _ _) ?_
          · intro W hSw; have dr := (hSw.cell (p := ⟨b, 3, none⟩) (Nat.lt_of_lt_of_le hbr B2.size)).trans ((B2.cell (p := ⟨b, 3, none⟩) hbr).trans HRM.out); first | (go_simp; done) | go_simp
          try simp only [Act.put, List.setIfInBounds_toArray, List.set_cons_zero, List.set_cons_succ]
          refine wpAnyH_ready (rs := [2]) (by kernel_rfl) (by simp) (AllReadyH.cons rfl (fun K hK => ?_) AllReadyH.nil)
          go_simp
          refine (HCL.out _ B2).mono ?_
          rintro e wd21 ⟨ml, rfl, hmm1, hmm2, hb21⟩
          have HFX := Lib.hid (HDONE.out wd21 ml hmm1 (fun i hi => by
            rcases hmm2 with h | h
            · rw [h] at hi; cases hi
            · rw [h] at hi; have := Option.some.inj hi; have := B2.size; omega) (B2.trans (hb21.mono B2.size)))
          refine hK.out _ _ hb21 (fun _ => wpAnyH_shift hb21 ?_)
          clear hK K
          replace B2 : Below wr.heap.size wr wd21 := B2.trans (hb21.mono B2.size)
          clear hb21
          try simp only [Act.put, List.setIfInBounds_toArray, List.set_cons_zero, List.set_cons_succ]
          refine takeYes (i := 7) (k := 71) (v := .agg #[.map mb2, .map ml, .slice none 0 0, .int .i64 (rm : Int), .int .i64 0, .bool false, .int .i64 0]) rfl (by kernel_rfl) (by kernel_rfl) (by kernel_rfl) (by kernel_rfl) (fun _ _ _ h => h) (by kernel_rfl) ?_ (Below.refl _ _) ?_
          · intro W hSw; first | (go_simp; done) | go_simp
          try simp only [Act.put, List.setIfInBounds_toArray, List.set_cons_zero, List.set_cons_succ]
          refine wpAnyH_ready (rs := [8]) (by kernel_rfl) (by simp) (AllReadyH.cons rfl (fun K hK => ?_) AllReadyH.nil)
          go_simp
          obtain ⟨wd22, hwx⟩ : ∃ x, wd21.alloc (.cells #[.map mb2, .map ml, .slice none 0 0, .int .i64 (rm : Int), .int .i64 0, .bool false, .int .i64 0] 52) = x := ⟨_, rfl⟩
          rw [hwx]
          have hb22 : Below wd21.heap.size wd21 wd22 := by rw [← hwx]; exact (Below.refl _ _).alloc (Nat.le_refl _) _
          unfold fsV at HFX
          rw [hwx] at HFX
          refine hK.out _ _ hb22 (fun _ => wpAnyH_shift hb22 ?_)
          clear hK K
          replace B2 : Below wr.heap.size wr wd22 := B2.trans (hb22.mono B2.size)
          clear hb22
          try simp only [Act.put, List.setIfInBounds_toArray, List.set_cons_zero, List.set_cons_succ]
          refine takeYes (i := 9) (k := 6) (v := .pointer (some ⟨wd21.heap.size, 0, none⟩)) rfl (by kernel_rfl) (by kernel_rfl) (by kernel_rfl) (by kernel_rfl) (fun _ _ _ h => h) (by kernel_rfl) ?_ (Below.refl _ _) ?_
          · intro W hSw; first | (go_simp; done) | go_simp
          try simp only [Act.put, List.setIfInBounds_toArray, List.set_cons_zero, List.set_cons_succ]
          refine wpAnyH_done (by kernel_rfl) ?_ _
          go_wp2_with fail
          go_ret
          exact HFX.out
end Go.Proofs.Ytgeofgdhlbmciaa
