/- simfs: a copy of bytes; Read; what a crash leaves of a file. -/
import Derived.Test.YtgeofgdhlbmciaaFsSync
import Derived.Test.YtgeofgdhlbmciaaFsAppend
namespace Go.Proofs.Ytgeofgdhlbmciaa
set_option linter.unusedVariables false
open Go.RowKit Go.Maps
def BytesAt (w : World) (bs : List UInt8) (e : Ending) (w' : World) : Prop := ∃ v, e = .returned v ∧ OwnB w.heap.size w' v bs ∧ Below w.heap.size w w'
set_option maxHeartbeats 1000000 in
theorem bclone_any (v : Value) (bs : List UInt8) (w : World) (h : RdB w v bs) (hl : bs.length ≤ 1000000000000) : Calls Try.prog 24 #[v] w (BytesAt w bs) := by
  have H := Lib.hid h
  obtain ⟨a, len, cap, rfl, hlen, hcap⟩ := h.form
  cases a with
  | none =>
    have hb0 : Hid (bs = []) := Lib.hid (by
      rcases h with ⟨_, _, _, e⟩ | ⟨_, _, _, e, _⟩
      · simpa using e
      · simp at e)
    clear h hlen hcap
    have hq1 : ∀ w, (binOp .eql 23 (.slice none len cap) (.slice none 0 0)).run Try.prog w = .ok (.bool true) w := fun w => Lib.run_eql_slice_nil w 23 5 none len cap 0 0 Try.underlying23
    go_enter Try.func24, Try.ntmps24
    go_wp2
    go_ret
    rw [hb0.out]
    exact ⟨_, rfl, OwnB.nil _ _, Below.refl _ _⟩
  | some ad =>
    clear h hlen hcap
    have hq1 : ∀ w, (binOp .eql 23 (.slice (some ad) len cap) (.slice none 0 0)).run Try.prog w = .ok (.bool false) w := fun w => Lib.run_eql_slice_nil w 23 5 (some ad) len cap 0 0 Try.underlying23
    go_enter Try.func24, Try.ntmps24
    have HZ : OwnB w.heap.size (w.alloc (.cells #[] 5)) (.slice (some ⟨w.heap.size, 0, none⟩) 0 0) [] := OwnB.lit w [] #[] 0 w.heap.size rfl (by unfold maxLen; omega) rfl (Nat.le_refl _)
    have HR1 := H.out.below ((Below.refl w.heap.size w).alloc (Nat.le_refl _) (.cells #[] 5))
    go_wp2_with (at_builtin; refine wp_appSB _ _ (by rfl) (by rfl) (by rfl) HZ (by rfl) HR1 ?c1 ?c2 ?_)
    case c1 => simp; omega
    case c2 => simp
    intro v' w' h1 h2
    go_wp2_with fail
    go_ret
    refine ⟨v', rfl, ?_, ((Below.refl _ _).alloc (Nat.le_refl _) _).trans h2⟩
    exact h1
def ReadAt (w : World) (bs : List UInt8) (c : Int) (e : Ending) (w' : World) : Prop := ∃ v, e = .returned (.tuple #[v, .int .i64 c]) ∧ OwnB w.heap.size w' v bs ∧ Below w.heap.size w w'
/-- What Read tells. -/
def Fs.read (S : Fs) (n : ByteArray) : List UInt8 × Int := match dget n S.now with
  | none => ([], 3)
  | some i => ((S.file i).bytes, 0)
set_option maxHeartbeats 1000000 in
theorem read_any (w : World) (b : Nat) (ρ : Nat → Option Role) (S : Fs) (h : FsAt w b ρ S) (n : ByteArray) (hn : n.size ≤ maxLen) : Calls Try.prog 7 #[.pointer (some ⟨b, 0, none⟩), .string n] w (ReadAt w (S.read n).1 (S.read n).2) := by
  obtain ⟨L, hL⟩ := h
  have HL := Lib.hid hL
  have HF := Lib.hid (find_any w b ρ S L hL n hn)
  clear hL
  go_enter Try.func7, Try.ntmps7
  go_wp2_with fail
  refine HF.out.mono ?_
  rintro e w' ⟨rfl, rfl⟩
  rw [nil_ptr]
  obtain ⟨o, ho⟩ : ∃ o, dget n S.now = o := ⟨_, rfl⟩
  rw [ho]
  cases o with
  | none =>
    have hr : Hid (S.read n = ([], 3)) := Lib.hid (by unfold Fs.read; rw [ho])
    clear ho
    go_wp2_with fail
    go_ret2
    rw [hr.out]
    exact ⟨_, rfl, OwnB.nil _ _, Below.refl _ _⟩
  | some i =>
    have hr : Hid (S.read n = ((S.file i).bytes, 0)) := Lib.hid (by unfold Fs.read; rw [ho])
    have hf := HL.out.files i _ (Fs.file_some (HL.out.ok.inNow (n, i) ((dget_mem HL.out.ok.now).1 ho)))
    have hbd := (HL.out.ok.file_bd i).2
    have HC := Lib.hid (bclone_any _ _ w hf.own.rd (by omega))
    obtain ⟨fa, fl, fc, hfv⟩ := row_form hf.own
    rw [hfv] at HC
    have hcell := hf.cell
    rw [hfv] at hcell
    have c0 := (fil_cells hcell).c0
    clear hf hcell hfv ho
    go_wp2_with fail
    refine HC.out.mono ?_
    rintro e w1 ⟨v, rfl, h1, h2⟩
    obtain ⟨a1, l1, p1, rfl⟩ := row_form h1
    go_wp2_with fail
    go_ret2
    rw [hr.out]
    exact ⟨_, rfl, h1, h2⟩
/-- A new file. -/
def FileNew (w : World) (f : Fil) (e : Ending) (w' : World) : Prop := ∃ nb v, e = .returned (.pointer (some ⟨nb, 0, none⟩)) ∧ w'.heap[nb]? = some (.cells (filV v f.synced) 47 (0, 0)) ∧ OwnB w.heap.size w' v f.bytes ∧ w.heap.size ≤ nb ∧ v.ownBlock ≠ some nb ∧ Below w.heap.size w w'
set_option maxHeartbeats 2000000 in
set_option maxRecDepth 100000 in
theorem fcrash_any (w : World) (blk : Nat) (fv : Value) (f : Fil) (t : Int) (hc : w.heap[blk]? = some (.cells (filV fv f.synced) 47 (0, 0))) (ho : OwnB 0 w fv f.bytes) (h1 : f.synced ≤ f.bytes.length) (h2 : f.bytes.length ≤ 16777216) :
    Calls Try.prog 32 #[.pointer (some ⟨blk, 0, none⟩), .int .i64 t] w (FileNew w (f.crash t)) := by
  obtain ⟨a, len, cap, rfl, hlen, hlc, hcm⟩ := ho.form
  obtain ⟨bs, sy⟩ := f
  dsimp only at hc ho h1 h2 hlen
  obtain ⟨d, hd⟩ : ∃ d, bs.length - sy = d := ⟨_, rfl⟩
  obtain ⟨c, hcl⟩ : ∃ c, clampN t d = c := ⟨_, rfl⟩
  have hcd : c ≤ d := by rw [← hcl]; exact clamp_le _ _
  have HCR : Hid (Fil.crash ⟨bs, sy⟩ t = ⟨bs.take (sy + c), sy + c⟩) := Lib.hid (by unfold Fil.crash; rw [hd, hcl])
  have HWI : Hid (∀ w, Calls Try.prog 25 #[.int .i64 t, .int .i64 (d : Int)] w fun e w' => e = .returned (.int .i64 (c : Int)) ∧ w = w') := Lib.hid fun w => by
    have := within_any t d w
    rwa [hcl] at this
  have HW1 : Hid (IntKind.i64.wrap ((len : Int) - (sy : Int)) = (d : Int)) := Lib.hid (by rw [IntKind.wrap_i64]; omega)
  have HW2 : Hid (IntKind.i64.wrap ((sy : Int) + (c : Int)) = ((sy + c : Nat) : Int)) := Lib.hid (by rw [IntKind.wrap_i64]; omega)
  obtain ⟨m, hm⟩ : ∃ m, sy + c = m := ⟨_, rfl⟩
  rw [hm] at HW2 HCR
  have hml : m ≤ len := by omega
  have HSL := Lib.hid (fun W => sl_hB W a len cap m (by omega))
  have hCB := Lib.hid (fun (W : World) (hW : Below w.heap.size w W) => bclone_any _ (bs.take m) W (RdB.take (OwnB.rd ho |>.below hW) m hml) (by rw [List.length_take]; omega))
  have HC := Lib.hid hc
  have hlt : blk < w.heap.size := (Array.getElem?_eq_some_iff.1 hc).1
  clear hc ho hlen hd hcl hm hcd h1 h2
  rw [HCR.out]
  go_enter Try.func32, Try.ntmps32
  go_wp2_with fail
  have B : Below w.heap.size w w := Below.refl _ _

  refine wp_region_held_drew (S := Below w.heap.size w) (by kernel_rfl) (Below.refl _ _).drew (fun hHeld => ?_)
  generalize w.drew = wd2 at hHeld ⊢
  refine wpAnyH_shift hHeld ?_
  replace B : Below w.heap.size w wd2 := B.trans (hHeld.mono B.size)
  clear hHeld
  refine takeYes (i := 0) (k := 6) (v := .pointer (some ⟨blk, 0, none⟩)) rfl (by kernel_rfl) (by kernel_rfl) (by kernel_rfl) (by kernel_rfl) (fun _ _ _ h => h) (by kernel_rfl) ?_ (Below.refl _ _) ?_
  · intro W hSw; first | (go_simp; done) | go_simp
  try simp only [Act.put, List.setIfInBounds_toArray, List.set_cons_zero, List.set_cons_succ]
  refine takeYes (i := 1) (k := 7) (v := .pointer (some ⟨blk, 0, none⟩)) rfl (by kernel_rfl) (by kernel_rfl) (by kernel_rfl) (by kernel_rfl) (fun _ _ _ h => h) (by kernel_rfl) ?_ (Below.refl _ _) ?_
  · intro W hSw; first | (go_simp; done) | go_simp
  try simp only [Act.put, List.setIfInBounds_toArray, List.set_cons_zero, List.set_cons_succ]
  refine takeYes (i := 2) (k := 8) (v := .pointer (some ⟨blk, 1, none⟩)) rfl (by kernel_rfl) (by kernel_rfl) (by kernel_rfl) (by kernel_rfl) (fun _ _ _ h => h) (by kernel_rfl) ?_ (Below.refl _ _) ?_
  · intro W hSw; first | (go_simp; done) | go_simp
  try simp only [Act.put, List.setIfInBounds_toArray, List.set_cons_zero, List.set_cons_succ]
  refine takeYes (i := 3) (k := 9) (v := .int .i64 (sy : Int)) rfl (by kernel_rfl) (by kernel_rfl) (by kernel_rfl) (by kernel_rfl) (fun _ _ _ h => h) (by kernel_rfl) ?_ (Below.refl _ _) ?_
  · intro W hSw; have cc := fil_cells ((hSw.block blk (Nat.lt_of_lt_of_le hlt B.size)).trans ((B.block blk hlt).trans HC.out)); have c0 := cc.c0; have c1 := cc.c1; first | (go_simp; done) | go_simp
  try simp only [Act.put, List.setIfInBounds_toArray, List.set_cons_zero, List.set_cons_succ]
  refine takeYes (i := 4) (k := 10) (v := .int .i64 t) rfl (by kernel_rfl) (by kernel_rfl) (by kernel_rfl) (by kernel_rfl) (fun _ _ _ h => h) (by kernel_rfl) ?_ (Below.refl _ _) ?_
  · intro W hSw; first | (go_simp; done) | go_simp
  try simp only [Act.put, List.setIfInBounds_toArray, List.set_cons_zero, List.set_cons_succ]
  refine takeYes (i := 5) (k := 11) (v := .pointer (some ⟨blk, 0, none⟩)) rfl (by kernel_rfl) (by kernel_rfl) (by kernel_rfl) (by kernel_rfl) (fun _ _ _ h => h) (by kernel_rfl) ?_ (Below.refl _ _) ?_
  · intro W hSw; first | (go_simp; done) | go_simp
  try simp only [Act.put, List.setIfInBounds_toArray, List.set_cons_zero, List.set_cons_succ]
  refine takeYes (i := 6) (k := 12) (v := .pointer (some ⟨blk, 0, none⟩)) rfl (by kernel_rfl) (by kernel_rfl) (by kernel_rfl) (by kernel_rfl) (fun _ _ _ h => h) (by kernel_rfl) ?_ (Below.refl _ _) ?_
  · intro W hSw; first | (go_simp; done) | go_simp
  try simp only [Act.put, List.setIfInBounds_toArray, List.set_cons_zero, List.set_cons_succ]
  refine takeYes (i := 7) (k := 13) (v := .pointer (some ⟨blk, 0, none⟩)) rfl (by kernel_rfl) (by kernel_rfl) (by kernel_rfl) (by kernel_rfl) (fun _ _ _ h => h) (by kernel_rfl) ?_ (Below.refl _ _) ?_
  · intro W hSw; first | (go_simp; done) | go_simp
  try simp only [Act.put, List.setIfInBounds_toArray, List.set_cons_zero, List.set_cons_succ]
  refine takeYes (i := 8) (k := 14) (v := .slice a len cap) rfl (by kernel_rfl) (by kernel_rfl) (by kernel_rfl) (by kernel_rfl) (fun _ _ _ h => h) (by kernel_rfl) ?_ (Below.refl _ _) ?_
  · intro W hSw; have cc := fil_cells ((hSw.block blk (Nat.lt_of_lt_of_le hlt B.size)).trans ((B.block blk hlt).trans HC.out)); have c0 := cc.c0; have c1 := cc.c1; first | (go_simp; done) | go_simp
  try simp only [Act.put, List.setIfInBounds_toArray, List.set_cons_zero, List.set_cons_succ]
  refine takeYes (i := 9) (k := 15) (v := .int .i64 (len : Int)) rfl (by kernel_rfl) (by kernel_rfl) (by kernel_rfl) (by kernel_rfl) (fun _ _ _ h => h) (by kernel_rfl) ?_ (Below.refl _ _) ?_
  · intro W hSw; first | (go_simp; done) | go_simp
  try simp only [Act.put, List.setIfInBounds_toArray, List.set_cons_zero, List.set_cons_succ]
  refine takeYes (i := 10) (k := 16) (v := .pointer (some ⟨blk, 0, none⟩)) rfl (by kernel_rfl) (by kernel_rfl) (by kernel_rfl) (by kernel_rfl) (fun _ _ _ h => h) (by kernel_rfl) ?_ (Below.refl _ _) ?_
  · intro W hSw; first | (go_simp; done) | go_simp
  try simp only [Act.put, List.setIfInBounds_toArray, List.set_cons_zero, List.set_cons_succ]
  refine takeYes (i := 11) (k := 17) (v := .pointer (some ⟨blk, 0, none⟩)) rfl (by kernel_rfl) (by kernel_rfl) (by kernel_rfl) (by kernel_rfl) (fun _ _ _ h => h) (by kernel_rfl) ?_ (Below.refl _ _) ?_
  · intro W hSw; first | (go_simp; done) | go_simp
  try simp only [Act.put, List.setIfInBounds_toArray, List.set_cons_zero, List.set_cons_succ]
  refine takeYes (i := 12) (k := 18) (v := .pointer (some ⟨blk, 1, none⟩)) rfl (by kernel_rfl) (by kernel_rfl) (by kernel_rfl) (by kernel_rfl) (fun _ _ _ h => h) (by kernel_rfl) ?_ (Below.refl _ _) ?_
  · intro W hSw; first | (go_simp; done) | go_simp
  try simp only [Act.put, List.setIfInBounds_toArray, List.set_cons_zero, List.set_cons_succ]
  refine takeYes (i := 13) (k := 19) (v := .int .i64 (sy : Int)) rfl (by kernel_rfl) (by kernel_rfl) (by kernel_rfl) (by kernel_rfl) (fun _ _ _ h => h) (by kernel_rfl) ?_ (Below.refl _ _) ?_
  · intro W hSw; have cc := fil_cells ((hSw.block blk (Nat.lt_of_lt_of_le hlt B.size)).trans ((B.block blk hlt).trans HC.out)); have c0 := cc.c0; have c1 := cc.c1; first | (go_simp; done) | go_simp
  try simp only [Act.put, List.setIfInBounds_toArray, List.set_cons_zero, List.set_cons_succ]
  refine takeYes (i := 14) (k := 20) (v := .int .i64 (d : Int)) rfl (by kernel_rfl) (by kernel_rfl) (by kernel_rfl) (by kernel_rfl) (fun _ _ _ h => h) (by kernel_rfl) ?_ (Below.refl _ _) ?_
  · intro W hSw; have hwr := HW1.out; first | (go_simp; done) | go_simp
  try simp only [Act.put, List.setIfInBounds_toArray, List.set_cons_zero, List.set_cons_succ]
  refine wpAnyH_ready (rs := [15]) (by kernel_rfl) (by simp) (AllReadyH.cons rfl (fun K hK => ?_) AllReadyH.nil)
  go_simp
  refine (HWI.out _).mono ?_
  rintro e w' ⟨rfl, rfl⟩
  refine hK.out _ _ (Below.refl _ _) (fun _ => ?_)
  clear hK K
  try simp only [Act.put, List.setIfInBounds_toArray, List.set_cons_zero, List.set_cons_succ]
  refine takeYes (i := 16) (k := 22) (v := .int .i64 (m : Int)) rfl (by kernel_rfl) (by kernel_rfl) (by kernel_rfl) (by kernel_rfl) (fun _ _ _ h => h) (by kernel_rfl) ?_ (Below.refl _ _) ?_
  · intro W hSw; have hwr := HW2.out; first | (go_simp; done) | go_simp
  try simp only [Act.put, List.setIfInBounds_toArray, List.set_cons_zero, List.set_cons_succ]
  refine takeYes (i := 17) (k := 5) (v := .int .i64 (m : Int)) rfl (by kernel_rfl) (by kernel_rfl) (by kernel_rfl) (by kernel_rfl) (fun _ _ _ h => h) (by kernel_rfl) ?_ (Below.refl _ _) ?_
  · intro W hSw; first | (go_simp; done) | go_simp
  try simp only [Act.put, List.setIfInBounds_toArray, List.set_cons_zero, List.set_cons_succ]
  refine wpAnyH_done (by kernel_rfl) ?_ _
  have HB := Lib.hid B
  have cc := fil_cells ((B.block blk hlt).trans HC.out)
  have c0 := cc.c0
  have hsl := HSL.out
  have HCB := Lib.hid (hCB.out wd2 B)
  clear cc B
  go_wp2_with fail
  refine HCB.out.mono ?_
  rintro e w3 ⟨v, rfl, o3, b3⟩
  have HV := Lib.hid (row_lt o3)
  have HO3 := Lib.hid o3
  obtain ⟨a1, l1, p1, rfl⟩ := row_form o3
  clear o3 c0 hsl
  go_wp2_with fail
  go_ret
  refine ⟨_, _, rfl, heap_alloc_new .., ?_, ?_, ?_, ?_⟩
  · refine OwnV.base (OwnV.below HO3.out ((Below.refl _ _).alloc (Nat.le_refl _) _)) HB.out.size
  · exact Nat.le_trans HB.out.size b3.size
  · intro e
    have := HV.out _ e
    omega
  · exact (HB.out.trans (b3.mono HB.out.size)).alloc (Nat.le_trans HB.out.size b3.size) _
end Go.Proofs.Ytgeofgdhlbmciaa
