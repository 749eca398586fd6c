/- The walks of a log's Create, Sync, Size, Append. -/
import Derived.Test.YtjhkfjbgdaomeaaGreatDoorWalAt
import Derived.Test.YtjhkfjbgdaomeaaGreatDoorWalName
import Derived.Test.YtjhkfjbgdaomeaaGreatDoorWalMath
import Derived.Test.YtjhkfjbgdaomeaaGreatDoorMBase
import Derived.Test.YtjhkfjbgdaomeaaGreatDoorMOp
import Derived.Test.YtjhkfjbgdaomeaaGreatDoorMRec
namespace Go.Proofs.YtjhkfjbgdaomeaaGreatDoor
set_option linter.unusedVariables false
open Go.RowKit Go.Maps
/-- A new log. -/
def NewLog (w : World) (b : Nat) (ρ : Nat → Option Role) (S' : Fs) (nm : ByteArray) (e : Ending) (w' : World) : Prop :=
  ∃ lb ρ', e = .returned (.tuple #[.pointer (some ⟨lb, 0, none⟩), .int .i64 0]) ∧ w.heap.size ≤ lb ∧ LogAt w' b lb ρ' S' nm 0 ∧ UpdF (fun k => ρ k ≠ none) w w' ∧ ∀ k, ρ' k ≠ none → ρ k ≠ none ∨ w.heap.size ≤ k
set_option maxHeartbeats 2000000 in
theorem walRange_any (n : Int) (hn : n < 1 ∨ 1125899906842624 < n) (b : Nat) (w : World) : Calls Tryz.prog 9 #[.pointer (some ⟨b, 0, none⟩), .int .i64 n] w fun e w' => e = .returned (.tuple #[.pointer none, .int .i64 9]) ∧ w' = w := by
  by_cases h1 : n < 1
  · have d1 : decide (n < 1) = true := decide_eq_true h1
    clear hn h1
    go_enter Tryz.func9, Tryz.ntmps9
    go_wp2
    go_ret2
    exact ⟨rfl, rfl⟩
  · have d1 : decide (n < 1) = false := decide_eq_false h1
    have d2 : decide (1125899906842624 < n) = true := decide_eq_true (by omega)
    clear hn h1
    go_enter Tryz.func9, Tryz.ntmps9
    go_wp2
    go_ret2
    exact ⟨rfl, rfl⟩
set_option maxHeartbeats 4000000 in
set_option maxRecDepth 100000 in
theorem walCreate_any (w : World) (b : Nat) (ρ : Nat → Option Role) (S : Fs) (h : FsAt w b ρ S) (u : Nat) (h1 : 1 ≤ u) (h2 : u ≤ 1125899906842624) (nm : ByteArray)
    (hN : Calls Tryz.prog 21 #[.int .i64 (u : Int)] w fun e w' => e = .returned (.string nm) ∧ Below w.heap.size w w') (hs : nm.size ≤ 1000000) (hw : S.wait.length ≤ 1000000) (S' : Fs) (hc : S.create nm = (0, S')) :
    Calls Tryz.prog 9 #[.pointer (some ⟨b, 0, none⟩), .int .i64 (u : Int)] w (NewLog w b ρ S' nm) := by
  have HN := Lib.hid hN
  have HC : Hid (∀ W, Below w.heap.size w W → Calls Tryz.prog 23 #[.pointer (some ⟨b, 0, none⟩), .string nm] W (OpAt W b ρ (0, S'))) := Lib.hid fun W hW => by
    have := create_any W b ρ S (h.below hW) nm (by unfold maxLen; omega) (by omega)
    rwa [hc] at this
  have d1 : decide ((u : Int) < 1) = false := decide_eq_false (by omega)
  have d2 : decide (1125899906842624 < (u : Int)) = false := decide_eq_false (by omega)
  unfold NewLog
  clear hN h hc hw hs h1 h2
  go_enter Tryz.func9, Tryz.ntmps9
  go_wp2_with fail
  refine HN.out.mono ?_
  rintro e w1 ⟨rfl, hb1⟩
  have HC1 := Lib.hid (HC.out w1 hb1)
  have HB := Lib.hid hb1
  clear hb1 HN HC
  go_wp2_with fail
  refine HC1.out.mono ?_
  rintro e w2 ⟨rfl, ρ', t1, t2, t3⟩
  have HT := Lib.hid (And.intro t1 (And.intro t2 t3))
  clear t1 t2 t3 HC1
  go_wp2_with fail
  go_ret2
  obtain ⟨t1, t2, t3⟩ := HT.out
  refine ⟨w2.heap.size, ρ', rfl, Nat.le_trans HB.out.size t2.size, LogAt.new t1 nm 0, ((UpdF.of HB.out).trans t2).trans (UpdF.of ((Below.refl _ w2).alloc (Nat.le_refl _) _)), fun k hk => ?_⟩
  rcases t3 k hk with f | f
  · exact .inl f
  · exact .inr (Nat.le_trans HB.out.size f)
set_option maxHeartbeats 1000000 in
theorem walSize_any (w : World) (b lb : Nat) (ρ : Nat → Option Role) (S : Fs) (nm : ByteArray) (n : Nat) (h : LogAt w b lb ρ S nm n) : Calls Tryz.prog 17 #[.pointer (some ⟨lb, 0, none⟩)] w fun e w' => e = .returned (.int .i64 (n : Int)) ∧ w = w' := by
  obtain ⟨-, -, c2, -⟩ := h.cells
  clear h
  go_enter Tryz.func17, Tryz.ntmps17
  go_wp2
  go_ret
  exact ⟨rfl, rfl⟩
/-- What a call on a log answers, what is behind it. -/
def LogRes (w : World) (b lb : Nat) (ρ : Nat → Option Role) (c : Int) (S' : Fs) (nm : ByteArray) (n' : Nat) (e : Ending) (w' : World) : Prop := e = .returned (.int .i64 c) ∧ LogTo w b lb ρ w' S' nm n'
theorem log_cells {w w' : World} {b lb : Nat} {ρ : Nat → Option Role} {S : Fs} {nm : ByteArray} {n : Nat} (h : LogAt w b lb ρ S nm n) (u : UpdF (fun k => ρ k ≠ none) w w') : LogCells w' lb b nm n := by
  have := (u.block lb h.lt fun f => f h.out).trans h.cell
  exact ⟨cells_at this 0, cells_at this 1, cells_at this 2, cells_free this⟩
set_option maxHeartbeats 4000000 in
set_option maxRecDepth 100000 in
theorem walSync_any (w : World) (b lb : Nat) (ρ : Nat → Option Role) (S : Fs) (nm : ByteArray) (n : Nat) (h : LogAt w b lb ρ S nm n) (hs : nm.size ≤ 1000000) (c : Int) (S' : Fs) (hc : S.sync nm = (c, S')) :
    Calls Tryz.prog 15 #[.pointer (some ⟨lb, 0, none⟩)] w (LogRes w b lb ρ c S' nm n) := by
  have HL := Lib.hid h
  have HS : Hid (∀ W, Below w.heap.size w W → Calls Tryz.prog 31 #[.pointer (some ⟨b, 0, none⟩), .string nm] W (OpAt W b ρ (c, S'))) := Lib.hid fun W hW => by
    have := sync_any W b ρ S (h.fs.below hW) nm (by unfold maxLen; omega)
    rwa [hc] at this
  have HC : Hid (∀ W, UpdF (fun k => ρ k ≠ none) w W → LogCells W lb b nm n) := Lib.hid fun W hW => log_cells h hW
  unfold LogRes
  clear h hc hs
  go_enter Tryz.func15, Tryz.ntmps15
  go_upto_region 3 with fail
  refine wp_region_held_drew (S := UpdF (fun k => ρ k ≠ none) w) (by kernel_rfl) (UpdF.refl _ w).drew (fun hHeld => ?_)
  have HU := Lib.hid hHeld
  have HBw : Hid (Below w.heap.size w w.drew) := Lib.hid (Below.refl _ _).drew
  clear hHeld
  generalize w.drew = wd at *
  refine takeYes (i := 0) (k := 5) (v := .pointer (some ⟨lb, 0, none⟩)) rfl (by kernel_rfl) (by kernel_rfl) (by kernel_rfl) (by kernel_rfl) (fun _ _ _ h => h) (by kernel_rfl) ?_ HU.out ?_
  · intro W hSw; first | (go_simp; done) | go_simp
  try simp only [Act.put, List.setIfInBounds_toArray, List.set_cons_zero, List.set_cons_succ]
  refine takeYes (i := 1) (k := 6) (v := .pointer (some ⟨lb, 0, none⟩)) rfl (by kernel_rfl) (by kernel_rfl) (by kernel_rfl) (by kernel_rfl) (fun _ _ _ h => h) (by kernel_rfl) ?_ HU.out ?_
  · intro W hSw; first | (go_simp; done) | go_simp
  try simp only [Act.put, List.setIfInBounds_toArray, List.set_cons_zero, List.set_cons_succ]
  refine takeYes (i := 2) (k := 7) (v := .pointer (some ⟨lb, 0, none⟩)) rfl (by kernel_rfl) (by kernel_rfl) (by kernel_rfl) (by kernel_rfl) (fun _ _ _ h => h) (by kernel_rfl) ?_ HU.out ?_
  · intro W hSw; first | (go_simp; done) | go_simp
  try simp only [Act.put, List.setIfInBounds_toArray, List.set_cons_zero, List.set_cons_succ]
  refine takeYes (i := 3) (k := 8) (v := .pointer (some ⟨b, 0, none⟩)) rfl (by kernel_rfl) (by kernel_rfl) (by kernel_rfl) (by kernel_rfl) (fun _ _ _ h => h) (by kernel_rfl) ?_ HU.out ?_
  · intro W hSw; have c0 := (HC.out W hSw).c0; first | (go_simp; done) | go_simp
  try simp only [Act.put, List.setIfInBounds_toArray, List.set_cons_zero, List.set_cons_succ]
  refine takeYes (i := 4) (k := 9) (v := .pointer (some ⟨lb, 0, none⟩)) rfl (by kernel_rfl) (by kernel_rfl) (by kernel_rfl) (by kernel_rfl) (fun _ _ _ h => h) (by kernel_rfl) ?_ HU.out ?_
  · intro W hSw; first | (go_simp; done) | go_simp
  try simp only [Act.put, List.setIfInBounds_toArray, List.set_cons_zero, List.set_cons_succ]
  refine takeYes (i := 5) (k := 10) (v := .pointer (some ⟨lb, 0, none⟩)) rfl (by kernel_rfl) (by kernel_rfl) (by kernel_rfl) (by kernel_rfl) (fun _ _ _ h => h) (by kernel_rfl) ?_ HU.out ?_
  · intro W hSw; first | (go_simp; done) | go_simp
  try simp only [Act.put, List.setIfInBounds_toArray, List.set_cons_zero, List.set_cons_succ]
  refine takeYes (i := 6) (k := 11) (v := .pointer (some ⟨lb, 1, none⟩)) rfl (by kernel_rfl) (by kernel_rfl) (by kernel_rfl) (by kernel_rfl) (fun _ _ _ h => h) (by kernel_rfl) ?_ HU.out ?_
  · intro W hSw; first | (go_simp; done) | go_simp
  try simp only [Act.put, List.setIfInBounds_toArray, List.set_cons_zero, List.set_cons_succ]
  refine takeYes (i := 7) (k := 12) (v := .string nm) rfl (by kernel_rfl) (by kernel_rfl) (by kernel_rfl) (by kernel_rfl) (fun _ _ _ h => h) (by kernel_rfl) ?_ HU.out ?_
  · intro W hSw; have c1 := (HC.out W hSw).c1; first | (go_simp; done) | go_simp
  try simp only [Act.put, List.setIfInBounds_toArray, List.set_cons_zero, List.set_cons_succ]
  refine wpAnyH_ready (rs := [8]) (by kernel_rfl) (by simp) (AllReadyH.cons rfl (fun K hK => ?_) AllReadyH.nil)
  go_simp
  refine (HS.out wd HBw.out).mono ?_
  rintro e w2 ⟨rfl, ht⟩
  have HT := Lib.hid ht
  have hU2 : UpdF (fun k => ρ k ≠ none) w w2 := by obtain ⟨ρ2, t1, t2, t3⟩ := ht; exact HU.out.trans t2
  clear ht
  refine hK.out _ _ hU2 (fun _ => ?_)
  clear hK K HU
  have HU := Lib.hid hU2
  clear hU2
  try simp only []
  refine takeYes (i := 9) (k := 2) (v := .int .i64 c) rfl (by kernel_rfl) (by kernel_rfl) (by kernel_rfl) (by kernel_rfl) (fun _ _ _ h => h) (by kernel_rfl) ?_ HU.out ?_
  · intro W hSw; first | (go_simp; done) | go_simp
  try simp only [Act.put, List.setIfInBounds_toArray, List.set_cons_zero, List.set_cons_succ]
  refine wpAnyH_done (by kernel_rfl) ?_ _
  go_wp2_with fail
  go_ret
  exact ⟨rfl, LogTo.pre HBw.out ((HL.out.below HBw.out).fsTo HT.out)⟩
/-- A group that is none: nothing is turned. -/
theorem walNo_any (w : World) (b lb : Nat) (ρ : Nat → Option Role) (S : Fs) (nm : ByteArray) (n : Nat) (h : LogAt w b lb ρ S nm n) (s : Int) (hsb : -9223372036854775808 ≤ s ∧ s ≤ 9223372036854775807) (v : Value) (l : List Opn) (hok : ∀ o ∈ l, o.ok) (hlm : l.length ≤ 1000000000000) (hrd : RdK encOp 3 w v l) (hE : ErrAt w) (hSp : SpAt w)
    (E : Int) (hEn : encE s l = E) (hne : E ≠ 0) :
    Calls Tryz.prog 12 #[.pointer (some ⟨lb, 0, none⟩), .int .i64 s, v] w fun e w' => e = .returned (.int .i64 E) ∧ Below w.heap.size w w' := by
  have HENC := Lib.hid (encode_any s hsb v l hok hlm w hrd hE hSp)
  unfold EncRes at HENC
  rw [hEn] at HENC
  have hd : (E != 0) = true := by rw [bne_iff_ne]; exact hne
  generalize encB s.toNat l = R at HENC
  clear h hsb hok hlm hrd hE hSp hEn hne
  go_enter Tryz.func12, Tryz.ntmps12
  go_wp2_with fail
  refine HENC.out.mono ?_
  rintro e w1 ⟨v1, rfl, -, -, hb⟩
  go_wp2_with fail
  go_ret
  exact ⟨rfl, hb⟩
set_option maxHeartbeats 4000000 in
set_option maxRecDepth 100000 in
theorem walAppend_any (w : World) (b lb : Nat) (ρ : Nat → Option Role) (S : Fs) (nm : ByteArray) (n : Nat) (h : LogAt w b lb ρ S nm n) (hs : nm.size ≤ 1000000) (hn : n ≤ 1000000000) (s : Int) (hsb : -9223372036854775808 ≤ s ∧ s ≤ 9223372036854775807) (v : Value) (l : List Opn) (hok : ∀ o ∈ l, o.ok) (hlm : l.length ≤ 1000000000000) (hrd : RdK encOp 3 w v l) (hE : ErrAt w) (hSp : SpAt w) (hT : TabAt w)
    (hEn : encE s l = 0) (R : List UInt8) (hR : encB s.toNat l = R) (hRl : R.length ≤ 1000000000) (D : List UInt8) (hD : layB smN n R = D) (hDl : D.length ≤ 1000000000) (c : Int) (S' : Fs) (hc : S.append nm D = (c, S')) :
    Calls Tryz.prog 12 #[.pointer (some ⟨lb, 0, none⟩), .int .i64 s, v] w (LogRes w b lb ρ c S' nm (if c = 0 then n + D.length else n)) := by
  obtain ⟨N, hN⟩ : ∃ N, (if c = 0 then n + D.length else n) = N := ⟨_, rfl⟩
  rw [hN]
  have HNV := Lib.hid hN
  have HL := Lib.hid h
  have HENC := Lib.hid (encode_any s hsb v l hok hlm w hrd hE hSp)
  unfold EncRes at HENC
  rw [hEn, hR] at HENC
  have HAP : Hid (∀ (v : Value) (W : World), Below w.heap.size w W → RdB W v R → Calls Tryz.prog 28 #[.int .i64 (n : Int), v] W (MkB D W)) := Lib.hid fun v W hW hr => by
    have := rcAppend_any n (by omega) v R (by omega) W (hT.below hW) hr
    rwa [hD] at this
  have HFA : Hid (∀ (v : Value) (W : World), Below w.heap.size w W → RdB W v D → OutF ρ v → Calls Tryz.prog 29 #[.pointer (some ⟨b, 0, none⟩), .string nm, v] W (OpAt W b ρ (c, S'))) := Lib.hid fun v W hW hr ho => by
    have := append_any W b ρ S (h.fs.below hW) nm (by unfold maxLen; omega) v D hr ho (by omega)
    rwa [hc] at this
  have hOut : Hid (∀ (v : Value), (∀ k, v.ownBlock = some k → w.heap.size ≤ k) → OutF ρ v) := Lib.hid fun v hv k hk => by
    have := hv k hk
    cases e : ρ k with
    | none => rfl
    | some r => have h2 := h.top k (.inl (by rw [e]; simp)); omega
  have HC0 : Hid (∀ W, Below w.heap.size w W → LogCells W lb b nm n) := Lib.hid fun W hW => (h.below hW).cells
  unfold LogRes
  clear h hc hs hsb hok hlm hrd hE hSp hT hEn hR hD hN
  go_enter Tryz.func12, Tryz.ntmps12
  go_wp2_with fail
  refine HENC.out.mono ?_
  rintro e w1 ⟨v1, rfl, o1, -, b1⟩
  have HR1 := Lib.hid (o1 trivial).rd
  have HB1 := Lib.hid b1
  have c2 := (HC0.out w1 b1).c2
  clear o1 b1 HENC
  go_wp2_with fail
  refine (HAP.out _ w1 HB1.out HR1.out).mono ?_
  rintro e w2 ⟨v2, rfl, o2, b2⟩
  have hbw : Below w.heap.size w w2 := HB1.out.trans (b2.mono HB1.out.size)
  obtain ⟨a2, l2, cp2, rfl, hl2, -⟩ := o2.form
  have HF2 := Lib.hid (HFA.out _ w2.drew hbw.drew (o2.rd.below (Below.refl _ w2).drew) (hOut.out _ fun k hk => by have := (o2.where k hk).1; have := HB1.out.size; omega))
  have HL2 := Lib.hid (HL.out.below hbw)
  have HB2 := Lib.hid hbw
  have HLEN := Lib.hid hl2
  clear o2 b2 hbw hl2 HAP HFA hOut HR1 HB1 HC0 c2 HL
  go_upto_region 7 with fail
  go_cut [10] (fun v wx => v = .int .i64 c ∧ Hid (LogTo w b lb ρ wx S' nm n) ∧ Hid (UpdF (fun k => ρ k ≠ none) w2 wx))
  case first =>
    have HC : Hid (∀ W, UpdF (fun k => ρ k ≠ none) w2 W → LogCells W lb b nm n) := Lib.hid fun W hW => log_cells HL2.out hW
    refine wp_region_held_drew (S := UpdF (fun k => ρ k ≠ none) w2) (by kernel_rfl) (UpdF.refl _ w2).drew (fun hHeld => ?_)
    have HU := Lib.hid hHeld
    have HBw : Hid (Below w2.heap.size w2 w2.drew) := Lib.hid (Below.refl _ _).drew
    clear hHeld
    generalize w2.drew = wd at *
    refine takeYes (i := 0) (k := 28) (v := .pointer (some ⟨lb, 0, none⟩)) rfl (by kernel_rfl) (by kernel_rfl) (by kernel_rfl) (by kernel_rfl) (fun _ _ _ h => h) (by kernel_rfl) ?_ HU.out ?_
    · intro W hSw; first | (go_simp; done) | go_simp
    try simp only [Act.put, List.setIfInBounds_toArray, List.set_cons_zero, List.set_cons_succ]
    refine takeYes (i := 1) (k := 29) (v := .pointer (some ⟨lb, 0, none⟩)) rfl (by kernel_rfl) (by kernel_rfl) (by kernel_rfl) (by kernel_rfl) (fun _ _ _ h => h) (by kernel_rfl) ?_ HU.out ?_
    · intro W hSw; first | (go_simp; done) | go_simp
    try simp only [Act.put, List.setIfInBounds_toArray, List.set_cons_zero, List.set_cons_succ]
    refine takeYes (i := 2) (k := 30) (v := .pointer (some ⟨lb, 0, none⟩)) rfl (by kernel_rfl) (by kernel_rfl) (by kernel_rfl) (by kernel_rfl) (fun _ _ _ h => h) (by kernel_rfl) ?_ HU.out ?_
    · intro W hSw; first | (go_simp; done) | go_simp
    try simp only [Act.put, List.setIfInBounds_toArray, List.set_cons_zero, List.set_cons_succ]
    refine takeYes (i := 3) (k := 31) (v := .pointer (some ⟨b, 0, none⟩)) rfl (by kernel_rfl) (by kernel_rfl) (by kernel_rfl) (by kernel_rfl) (fun _ _ _ h => h) (by kernel_rfl) ?_ HU.out ?_
    · intro W hSw; have c0 := (HC.out W hSw).c0; first | (go_simp; done) | go_simp
    try simp only [Act.put, List.setIfInBounds_toArray, List.set_cons_zero, List.set_cons_succ]
    refine takeYes (i := 4) (k := 32) (v := .pointer (some ⟨lb, 0, none⟩)) rfl (by kernel_rfl) (by kernel_rfl) (by kernel_rfl) (by kernel_rfl) (fun _ _ _ h => h) (by kernel_rfl) ?_ HU.out ?_
    · intro W hSw; first | (go_simp; done) | go_simp
    try simp only [Act.put, List.setIfInBounds_toArray, List.set_cons_zero, List.set_cons_succ]
    refine takeYes (i := 5) (k := 33) (v := .pointer (some ⟨lb, 0, none⟩)) rfl (by kernel_rfl) (by kernel_rfl) (by kernel_rfl) (by kernel_rfl) (fun _ _ _ h => h) (by kernel_rfl) ?_ HU.out ?_
    · intro W hSw; first | (go_simp; done) | go_simp
    try simp only [Act.put, List.setIfInBounds_toArray, List.set_cons_zero, List.set_cons_succ]
    refine takeYes (i := 6) (k := 34) (v := .pointer (some ⟨lb, 1, none⟩)) rfl (by kernel_rfl) (by kernel_rfl) (by kernel_rfl) (by kernel_rfl) (fun _ _ _ h => h) (by kernel_rfl) ?_ HU.out ?_
    · intro W hSw; first | (go_simp; done) | go_simp
    try simp only [Act.put, List.setIfInBounds_toArray, List.set_cons_zero, List.set_cons_succ]
    refine takeYes (i := 7) (k := 35) (v := .string nm) rfl (by kernel_rfl) (by kernel_rfl) (by kernel_rfl) (by kernel_rfl) (fun _ _ _ h => h) (by kernel_rfl) ?_ HU.out ?_
    · intro W hSw; have c1 := (HC.out W hSw).c1; first | (go_simp; done) | go_simp
    try simp only [Act.put, List.setIfInBounds_toArray, List.set_cons_zero, List.set_cons_succ]
    refine takeYes (i := 8) (k := 36) (v := .slice a2 l2 cp2) rfl (by kernel_rfl) (by kernel_rfl) (by kernel_rfl) (by kernel_rfl) (fun _ _ _ h => h) (by kernel_rfl) ?_ HU.out ?_
    · intro W hSw; first | (go_simp; done) | go_simp
    try simp only [Act.put, List.setIfInBounds_toArray, List.set_cons_zero, List.set_cons_succ]
    refine wpAnyH_ready (rs := [9]) (by kernel_rfl) (by simp) (AllReadyH.cons rfl (fun K hK => ?_) AllReadyH.nil)
    go_simp
    refine HF2.out.mono ?_
    rintro e w3 ⟨rfl, ht⟩
    have HT := Lib.hid ht
    have hU2 : UpdF (fun k => ρ k ≠ none) w2 w3 := by obtain ⟨ρ2, t1, t2, t3⟩ := ht; exact HU.out.trans t2
    clear ht
    refine hK.out _ _ hU2 (fun _ => ?_)
    clear hK K HU
    have HU := Lib.hid hU2
    clear hU2
    try simp only []
    refine takeYes (i := 10) (k := 10) (v := .int .i64 c) rfl (by kernel_rfl) (by kernel_rfl) (by kernel_rfl) (by kernel_rfl) (fun _ _ _ h => h) (by kernel_rfl) ?_ HU.out ?_
    · intro W hSw; first | (go_simp; done) | go_simp
    try simp only [Act.put, List.setIfInBounds_toArray, List.set_cons_zero, List.set_cons_succ]
    refine wpAnyH_done (by kernel_rfl) ?_ _
    go_wp2_with fail
    go_meet
    exact ⟨rfl, Lib.hid (LogTo.pre HB2.out (LogTo.pre HBw.out ((HL2.out.below HBw.out).fsTo HT.out))), HU⟩
  case rest =>
  obtain ⟨rfl, HT, HU⟩ := hcut
  by_cases hc0 : c = 0
  · subst hc0
    rw [if_pos rfl] at HNV
    obtain ⟨c0, c1, c2, hfree⟩ := log_cells HL2.out HU.out
    have f2 := hfree 2
    have hNI : (n : Int) + (l2 : Int) = (N : Int) := by have h1 := HNV.out; have h2 := HLEN.out; omega
    have hNb : N ≤ 2000000000 := by have h1 := HNV.out; omega
    have hl2b : l2 ≤ 1000000000 := by have h2 := HLEN.out; omega
    clear hfree c0 c1 HF2
    go_wp2_with fail
    go_ret
    obtain ⟨ρ', t1, t2, t3⟩ := HT.out
    exact ⟨rfl, LogTo.then t2 t3 (t1.setLen N)⟩
  · rw [if_neg hc0] at HNV
    obtain rfl : n = N := HNV.out
    have hd : (c != 0) = true := by rw [bne_iff_ne]; exact hc0
    go_wp2_with fail
    go_ret
    exact ⟨rfl, HT.out⟩
end Go.Proofs.YtjhkfjbgdaomeaaGreatDoor
