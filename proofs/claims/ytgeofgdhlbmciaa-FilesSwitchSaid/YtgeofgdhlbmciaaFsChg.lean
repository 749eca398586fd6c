/- A change of the directory: it is made, and waits. -/
import Derived.Test.YtgeofgdhlbmciaaFsTake
import Derived.Test.YtgeofgdhlbmciaaFsApp
import Derived.Test.YtgeofgdhlbmciaaFsSmall
import Derived.Test.YtgeofgdhlbmciaaStrClone
namespace Go.Proofs.Ytgeofgdhlbmciaa
set_option linter.unusedVariables false
open Go.RowKit Go.Maps
def upN {α : Type} (f : Nat → α) (i : Nat) (a : α) : Nat → α := fun x => if x = i then a else f x
theorem upN_same {α : Type} (f : Nat → α) (i : Nat) (a : α) : upN f i a i = a := if_pos rfl
theorem upN_ne {α : Type} (f : Nat → α) {i x : Nat} (a : α) (h : x ≠ i) : upN f i a x = f x := if_neg h
/-- The names of blocks behind a change. -/
def chgRole (ρ : Nat → Option Role) (k : Nat) (wv : Value) : Nat → Option Role := fun x => if x = k then some .now else if wv.ownBlock = some x then some .wait else ρ x
theorem row_form {w : World} {B E size : Nat} {v : Value} {n : Nat} {xs : List Value} (h : w.ownsRow B E size v n xs) : ∃ a m c, v = .slice a m c := by
  rcases h.2 with ⟨e, _⟩ | ⟨g, cap, cur, e, _⟩ <;> exact ⟨_, _, _, e⟩
theorem FsLay.change {w w' : World} {b k : Nat} {ρ : Nat → Option Role} {S : Fs} {L : Lay} {c : Chg} {wv : Value} (h : FsLay w b ρ S L) (u : UpdF (fun i => i = b ∨ L.mn = some i ∨ L.wv.ownBlock = some i) w w')
    (hc : w'.heap[b]? = some (.cells (fsV (some k) L.ml wv S.room S.calls S.fails.isSome L.ah) 52 (0, 0))) (hm : MB w' (some k) (dmap L.fb (Chg.run S.now c))) (hk : L.mn = some k ∨ w.heap.size ≤ k)
    (hw : OwnK (encChg L.fb) 3 58 0 w' wv (S.wait ++ [c])) (hg : ∀ g, wv.ownBlock = some g → L.wv.ownBlock = some g ∨ w.heap.size ≤ g) (hne : ∀ g, wv.ownBlock = some g → g ≠ k) (ok : FsOk (S.change c)) : FsTo w b ρ w' (S.change c) := by
  have kold : ∀ r x, ρ x = some r → r ≠ .now → x ≠ k := fun r x hx hr e => by
    subst e
    rcases hk with e | e
    · rw [h.nrole _ e] at hx; exact hr (Option.some.inj hx).symm
    · have := h.top x (by rw [hx]; simp); omega
  have wold : ∀ r x, ρ x = some r → r ≠ .wait → wv.ownBlock ≠ some x := fun r x hx hr e => by
    rcases hg x e with e | e
    · rw [h.wrole _ e] at hx; exact hr (Option.some.inj hx).symm
    · have := h.top x (by rw [hx]; simp); omega
  have keep : ∀ r x, ρ x = some r → r ≠ .now → r ≠ .wait → chgRole ρ k wv x = some r := fun r x hx h1 h2 => by
    unfold chgRole
    rw [if_neg (kold r x hx h1), if_neg (wold r x hx h2)]; exact hx
  have blk : ∀ r x, ρ x = some r → r ≠ .fs → r ≠ .now → r ≠ .wait → w'.heap[x]? = w.heap[x]? := fun r x hx h0 h1 h2 => u.block x (h.top x (by rw [hx]; simp)) (by
    rintro (e | e | e)
    · rw [e, h.role] at hx; exact h0 (Option.some.inj hx).symm
    · rw [h.nrole _ e] at hx; exact h1 (Option.some.inj hx).symm
    · rw [h.wrole _ e] at hx; exact h2 (Option.some.inj hx).symm)
  refine ⟨chgRole ρ k wv, ⟨{ L with mn := some k, wv := wv }, { cell := hc, role := keep _ _ h.role (by simp) (by simp), ahead := h.ahead, now := hm, nrole := ?_, old := ?_, orole := ?_, wait := hw, wrole := ?_, files := ?_, top := ?_, ok := ok }⟩, ?_, ?_⟩
  · intro j hj
    obtain rfl := Option.some.inj hj
    unfold chgRole; rw [if_pos rfl]
  · exact h.old.same fun j hj => blk _ j (h.orole j hj) (by simp) (by simp) (by simp)
  · exact fun j hj => keep _ _ (h.orole j hj) (by simp) (by simp)
  · intro j hj
    unfold chgRole
    rw [if_neg (hne j hj), if_pos hj]
  · intro i f hf
    have h1 := h.files i f hf
    exact ⟨(blk _ _ h1.role (by simp) (by simp) (by simp)).trans h1.cell, keep _ _ h1.role (by simp) (by simp), row_same h1.own fun j hj => blk _ j (h1.brole j hj) (by simp) (by simp) (by simp), fun j hj => keep _ _ (h1.brole j hj) (by simp) (by simp)⟩
  · intro j hj
    unfold chgRole at hj
    split at hj
    · rename_i e; rw [e]; exact hm.lt k rfl
    · split at hj
      · rename_i e; exact row_lt hw j e
      · exact Nat.lt_of_lt_of_le (h.top j hj) u.size
  · refine u.mono fun j hj hf => ?_
    rcases hf with rfl | e | e
    · rw [h.role]; simp
    · rw [h.nrole j e]; simp
    · rw [h.wrole j e]; simp
  · intro j hj
    unfold chgRole at hj
    split at hj
    · rename_i e
      rcases hk with e1 | e1
      · exact .inl (by rw [e, h.nrole _ e1]; simp)
      · exact .inr (by omega)
    · split at hj
      · rename_i e
        rcases hg j e with e1 | e1
        · exact .inl (by rw [h.wrole _ e1]; simp)
        · exact .inr e1
      · exact .inl hj
/-- A new file, which nothing names yet. -/
theorem FsLay.newFile {w : World} {b : Nat} {ρ : Nat → Option Role} {S : Fs} {L : Lay} (h : FsLay w b ρ S L) :
    FsLay (w.alloc (.cells (filV (.slice none 0 0) 0) 47)) b (upN ρ w.heap.size (some (.file S.files.length))) { S with files := S.files ++ [⟨[], 0⟩] } { L with fb := upN L.fb S.files.length w.heap.size, fv := upN L.fv S.files.length (.slice none 0 0) } := by
  have old : ∀ {r : Role} {x : Nat}, ρ x = some r → upN ρ w.heap.size (some (.file S.files.length)) x = some r := fun {r x} hx => by
    have := h.top x (by rw [hx]; simp)
    rw [upN_ne _ _ (by omega)]; exact hx
  have hs := h.same (w' := w.alloc (.cells (filV (.slice none 0 0) 0) 47)) (fun k hk => Below.heap_alloc _ _ _ (h.top k hk)) (by simp)
  have fbe : ∀ i, i < S.files.length → upN L.fb S.files.length w.heap.size i = L.fb i := fun i hi => upN_ne _ _ (by omega)
  refine { cell := hs.cell, role := old h.role, ahead := h.ahead, now := ?_, nrole := fun k hk => old (h.nrole k hk), old := ?_, orole := fun k hk => old (h.orole k hk), wait := ?_, wrole := fun k hk => old (h.wrole k hk), files := ?_, top := ?_, ok := h.ok.more _ ⟨Nat.le_refl _, by simp⟩ }
  · have := hs.now
    rwa [dmap_congr fun x hx => (fbe x.2 (h.ok.inNow x hx)).symm] at this
  · have := hs.old
    rwa [dmap_congr fun x hx => (fbe x.2 (h.ok.inOld x hx)).symm] at this
  · have := hs.wait
    unfold OwnK at this ⊢
    have e : S.wait.flatMap (encChg (upN L.fb S.files.length w.heap.size)) = S.wait.flatMap (encChg L.fb) := by
      simp only [List.flatMap]
      congr 1
      refine List.map_congr_left fun c hc => ?_
      unfold encChg
      cases hf : c.file with
      | none => rfl
      | some i => simp only [Option.map_some]; rw [fbe i (h.ok.inWait c hc i hf)]
    show World.ownsRow _ 0 _ 3 L.wv S.wait.length (S.wait.flatMap _)
    rw [e]; exact this
  · intro i f hf
    rcases Nat.lt_or_ge i S.files.length with hi | hi
    · rw [List.getElem?_append_left hi] at hf
      have h1 := hs.files i f hf
      show FileAt _ _ i (upN L.fb _ _ i) (upN L.fv _ _ i) f
      rw [fbe i hi, upN_ne _ _ (by omega)]
      exact ⟨h1.cell, old h1.role, h1.own, fun k hk => old (h1.brole k hk)⟩
    · rw [List.getElem?_append_right hi] at hf
      obtain rfl : i = S.files.length := by
        rcases Nat.lt_or_ge (i - S.files.length) 1 with h1 | h1
        · omega
        · rw [List.getElem?_eq_none (by simpa using h1)] at hf; cases hf
      rw [Nat.sub_self] at hf
      obtain rfl : (⟨[], 0⟩ : Fil) = f := by simpa using hf
      show FileAt _ _ _ (upN L.fb _ _ _) (upN L.fv _ _ _) _
      rw [upN_same, upN_same]
      exact ⟨heap_alloc_new .., upN_same _ _ _, OwnB.nil _ _, fun k hk => by cases hk⟩
  · intro k hk
    unfold upN at hk
    split at hk
    · rename_i e; rw [e]; simp
    · have := h.top k hk; simp; omega

set_option maxHeartbeats 2000000 in
set_option maxRecDepth 100000 in
theorem change_any (w : World) (b : Nat) (ρ : Nat → Option Role) (S : Fs) (L : Lay) (h : FsLay w b ρ S L) (c1 c2 : ByteArray) (fi : Option Nat) (hi : ∀ i, fi = some i → i < S.files.length) (h1 : c1.size ≤ 140737488355328) (h2 : c2.size ≤ 140737488355328)
    (hl : (Chg.run S.now ⟨c1, c2, fi⟩).length ≤ 200) (hw : S.wait.length ≤ 1000000000000) :
    Calls Try.prog 28 #[.pointer (some ⟨b, 0, none⟩), .string c1, .string c2, ptrO (fi.map L.fb)] w fun e w' => e = .returned (.tuple #[]) ∧ FsTo w b ρ w' (S.change ⟨c1, c2, fi⟩) := by
  have H := Lib.hid h
  have hp := h.top b (by rw [h.role]; simp)
  obtain ⟨pf, hfp⟩ : ∃ pf, ptrO (fi.map L.fb) = .pointer pf := by cases fi <;> exact ⟨_, rfl⟩
  have HP := Lib.hid hfp
  have HC1 := Lib.hid (fun w => clone_any c1 w (by omega))
  have HC2 := Lib.hid (fun w => clone_any c2 w (by omega))
  rw [hfp]
  clear h hfp
  go_enter Try.func28, Try.ntmps28
  go_wp2_with fail
  refine (HC1.out _).mono ?_
  rintro e w1 ⟨rfl, b1⟩
  go_wp2_with fail
  refine (HC2.out _).mono ?_
  rintro e w2 ⟨rfl, b2⟩
  go_wp2_with fail
  obtain ⟨w3, hw3⟩ : ∃ w3, w2.alloc (.cells #[.string c1, .string c2, .pointer pf] 58) = w3 := ⟨_, rfl⟩
  obtain ⟨q, hq⟩ : ∃ q, w2.heap.size = q := ⟨_, rfl⟩
  have hb12 : Below w.heap.size w w2 := b1.trans (b2.mono b1.size)
  have hb3 : Below w.heap.size w w3 := by rw [← hw3]; exact hb12.alloc hb12.size _
  have hq3 : w3.heap[q]? = some (.cells #[.string c1, .string c2, .pointer pf] 58 (0, 0)) := by rw [← hw3, ← hq]; exact heap_alloc_new ..
  have hqn : w.heap.size ≤ q := by rw [← hq]; exact hb12.size
  have L3 := H.out.same (w' := w3) (fun k hk => hb3.block k (H.out.top k hk)) hb3.size
  have HQ := Lib.hid hq3
  have HB := Lib.hid L3
  have HF := Lib.hid hb3
  rw [hw3, hq]
  clear b1 b2 hw3 hq hb12 hq3 hb3
  have HTK := Lib.hid (take_any w3.drew b 52 _ L.mn (dmap L.fb S.now) c1 c2 (fi.map L.fb) L3.cell rfl L3.now (fun k hk e => by
    have h1 := L3.nrole k hk
    rw [e, L3.role] at h1; cases h1) (by rw [dmap_len]; have := H.out.ok.few_now; omega) (by unfold maxLen; omega) (by unfold maxLen; omega))
  rw [HP.out] at HTK
  clear L3
  refine beginK (DrN w3) 4 (by kernel_rfl) ⟨1, rfl⟩ (fun hHeld => ?_)

  refine takeK (i := 0) (k := 15) (v := .pointer (some ⟨b, 0, none⟩)) rfl rfl (by kernel_rfl) (by kernel_rfl) (by kernel_rfl) [2, 1, 0] rfl (by decide) (by kernel_rfl) (fun _ _ _ h => h) (by kernel_rfl) ?_ (by assumption) ?_
  · intro W hSw; first | (go_simp; done) | go_simp
  try simp only [Act.put, List.setIfInBounds_toArray, List.set_cons_zero, List.set_cons_succ]
  refine takeK (i := 1) (k := 16) (v := .pointer (some ⟨b, 0, none⟩)) rfl rfl (by kernel_rfl) (by kernel_rfl) (by kernel_rfl) [2, 1] rfl (by decide) (by kernel_rfl) (fun _ _ _ h => h) (by kernel_rfl) ?_ (by assumption) ?_
  · intro W hSw; first | (go_simp; done) | go_simp
  try simp only [Act.put, List.setIfInBounds_toArray, List.set_cons_zero, List.set_cons_succ]
  refine takeK (i := 2) (k := 17) (v := .pointer (some ⟨b, 0, none⟩)) rfl rfl (by kernel_rfl) (by kernel_rfl) (by kernel_rfl) [2] rfl (by decide) (by kernel_rfl) (fun _ _ _ h => h) (by kernel_rfl) ?_ (by assumption) ?_
  · intro W hSw; first | (go_simp; done) | go_simp
  try simp only [Act.put, List.setIfInBounds_toArray, List.set_cons_zero, List.set_cons_succ]
  refine takeK (i := 3) (k := 18) (v := .agg #[.string c1, .string c2, .pointer pf]) rfl rfl (by kernel_rfl) (by kernel_rfl) (by kernel_rfl) [3] rfl (by decide) (by kernel_rfl) (fun _ _ _ h => h) (by kernel_rfl) ?_ (by assumption) ?_
  · intro W hSw; have r0 := (hSw.cell ⟨q, 0, none⟩).trans (cells_at HQ.out 0); have r1 := (hSw.cell ⟨q, 1, none⟩).trans (cells_at HQ.out 1); have r2 := (hSw.cell ⟨q, 2, none⟩).trans (cells_at HQ.out 2); first | (go_simp; done) | go_simp
  try simp only [Act.put, List.setIfInBounds_toArray, List.set_cons_zero, List.set_cons_succ]
  refine oneK (i := 4) (by kernel_rfl) rfl (fun K hK => ?_)
  go_simp
  refine HTK.out.mono ?_
  rintro e w4 ⟨k, rfl, t1, t2, t3, t4⟩
  refine hK.out _ _ (fun h => by have h' : true = false := h; cases h') (fun _ => ?_)
  clear hK K HTK hHeld
  try simp only [Act.put, List.setIfInBounds_toArray, List.set_cons_zero, List.set_cons_succ]
  refine doneK (by kernel_rfl) ?_ _
  go_wp2_with fail
  have klt := t2.lt k rfl
  have hkb : k ≠ b := by
    rintro rfl
    rcases t3 with e | e
    · have h1 := H.out.nrole _ e
      rw [H.out.role] at h1; cases h1
    · have h1 := HF.out.size
      have : w3.drew.heap.size = w3.heap.size := rfl
      omega
  have hnb : ∀ g, L.wv.ownBlock = some g → g ≠ b ∧ g < w.heap.size ∧ L.mn ≠ some g := fun g hg => by
    have h1 := H.out.wrole g hg
    refine ⟨fun e => ?_, H.out.top g (by rw [h1]; simp), fun e => ?_⟩
    · rw [e, H.out.role] at h1; cases h1
    · rw [H.out.nrole g e] at h1; cases h1
  have hqk : ¬ (q = b ∨ L.mn = some q) := by
    rintro (e | e)
    · omega
    · have := H.out.top q (by rw [H.out.nrole q e]; simp); omega
  have hq4 : w4.heap[q]? = some (.cells #[.string c1, .string c2, .pointer pf] 58 (0, 0)) := (t4.block q (Array.getElem?_eq_some_iff.1 HQ.out).1 hqk).trans HQ.out
  have hs34 : w3.heap.size ≤ w4.heap.size := t4.size
  have hw4 : OwnK (encChg L.fb) 3 58 0 w4 L.wv S.wait := row_same HB.out.wait fun g hg => (t4.block g (Nat.lt_of_lt_of_le (hnb g hg).2.1 HF.out.size) (by
    rintro (e | e)
    · exact (hnb g hg).1 e
    · exact (hnb g hg).2.2 e))
  have hc4 : w4.heap[b]? = some (.cells (fsV (some k) L.ml L.wv S.room S.calls S.fails.isSome L.ah) 52 (0, 0)) := t1
  have hb4 : b < w4.heap.size := (Array.getElem?_eq_some_iff.1 hc4).1
  have hq4' : q < w4.heap.size := (Array.getElem?_eq_some_iff.1 hq4).1
  obtain ⟨w6, hw6⟩ : ∃ w6, w4.drew.alloc (.cells #[.string c1, .string c2, .pointer pf] 58) = w6 := ⟨_, rfl⟩
  have b46 : Below w4.heap.size w4 w6 := by rw [← hw6]; exact (Below.refl _ _).drew.alloc (Nat.le_refl _) _
  have hs6 : w6.heap.size = w4.heap.size + 1 := by rw [← hw6]; simp
  have hr6 : w6.heap[w4.heap.size]? = some (.cells #[.string c1, .string c2, ptrO (fi.map L.fb)] 58 (0, 0)) := by rw [HP.out, ← hw6]; exact heap_alloc_new ..
  have ho6 : OwnK (encChg L.fb) 3 58 0 w6 L.wv S.wait := hw4.below b46
  obtain ⟨v7, w7, g0, g1, g2, g3⟩ := run_appGC (ty := 50) (c := ⟨c1, c2, fi⟩) ho6 hr6 hw
  obtain ⟨a7, n7, p7, rfl⟩ := row_form g1
  have hb67 : ∀ j, j < w6.heap.size → L.wv.ownBlock ≠ some j → w7.heap[j]? = w6.heap[j]? := fun j hj hn => g2.block j hj fun e => hn e.symm
  have hc7 : w7.heap[b]? = some (.cells (fsV (some k) L.ml L.wv S.room S.calls S.fails.isSome L.ah) 52 (0, 0)) := by rw [hb67 b (by omega) (fun e => (hnb b e).1 rfl), b46.block b hb4]; exact hc4
  have hq7 : w7.heap[q]? = w4.heap[q]? := by rw [hb67 q (by omega) (fun e => by have := (hnb q e).2.1; omega), b46.block q hq4']
  have HS7 : Hid (w7.heap[b]? = w4.heap[b]? ∧ w7.heap[q]? = w4.heap[q]?) := Lib.hid ⟨hc7.trans hc4.symm, hq7⟩
  have HS6 : Hid (w6.heap[b]? = w4.heap[b]? ∧ w6.heap[q]? = w4.heap[q]?) := Lib.hid ⟨b46.block b hb4, b46.block q hq4'⟩
  have HFIN : Hid (FsTo w b ρ (w7.setCell ⟨b, 2, none⟩ (.slice a7 n7 p7)) (S.change ⟨c1, c2, fi⟩)) := Lib.hid (by
    have u34 : UpdF (fun i => i = b ∨ L.mn = some i ∨ L.wv.ownBlock = some i) w w4 := (UpdF.of HF.out).drew.trans (t4.mono fun j _ hj => by
      rcases hj with hj | hj
      · exact .inl hj
      · exact .inr (.inl hj))
    have u47 : UpdF (fun i => i = b ∨ L.wv.ownBlock = some i) w4 (w7.setCell ⟨b, 2, none⟩ (.slice a7 n7 p7)) := UpdF.set ((UpdF.of b46).trans (UpdF.grown g2 fun j hj => .inr hj)) _ _ _ (.inl rfl)
    have kk : ¬ (k = b ∨ L.wv.ownBlock = some k) := by
      rintro (e | e)
      · exact hkb e
      · rcases t3 with e1 | e1
        · exact (hnb k e).2.2 e1
        · have h1 := (hnb k e).2.1
          have h2 := HF.out.size
          have : w3.drew.heap.size = w3.heap.size := rfl
          omega
    refine H.out.change (k := k) (wv := .slice a7 n7 p7) (u34.trans (u47.mono fun j _ hj => by
      rcases hj with hj | hj
      · exact .inl hj
      · exact .inr (.inr hj))) (cells_set hc7 (.slice a7 n7 p7)) ?_ ?_ ?_ ?_ ?_ (H.out.ok.change hi ⟨h1, h2⟩ hl)
    · have h1 := t2.same (w' := w7.setCell ⟨b, 2, none⟩ (.slice a7 n7 p7)) fun j hj => by
        obtain rfl := Option.some.inj hj
        exact u47.block k klt kk
      have h2 := Chg.run_map L.fb S.now ⟨c1, c2, fi⟩
      unfold Chg.at at h2
      rw [h2] at h1
      exact h1
    · rcases t3 with e | e
      · exact .inl e
      · exact .inr (Nat.le_trans HF.out.size e)
    · refine row_same g1 fun j hj => Below.heap_setCell _ _ _ _ ?_
      show j ≠ b
      rcases g3 j hj with e | e
      · exact (hnb j e).1
      · omega
    · intro j hj
      rcases g3 j hj with e | e
      · exact .inl e
      · have := HF.out.size; exact .inr (by omega)
    · intro j hj e
      rcases g3 j hj with e1 | e1
      · exact kk (.inr (by rw [← e]; exact e1))
      · omega)
  have HC7 := Lib.hid hc7
  have HC4 := Lib.hid hc4
  have HQ4 := Lib.hid hq4
  clear hc7 hq7 hc4 hq4 t1 t2 t3 t4 g1 g2 g3 hb67 ho6 hr6 hs6 b46 hb4 hq4' hw4 hs34 hqk hnb hkb klt HF HB HQ H
  have hHeld0 : w4.drew.heap[b]? = w4.heap[b]? ∧ w4.drew.heap[q]? = w4.heap[q]? := ⟨rfl, rfl⟩
  refine beginK (fun W => W.heap[b]? = w4.heap[b]? ∧ W.heap[q]? = w4.heap[q]?) 10 (by kernel_rfl) hHeld0 (fun hHeld => ?_)

  refine takeK (i := 0) (k := 20) (v := .pointer (some ⟨b, 0, none⟩)) rfl rfl (by kernel_rfl) (by kernel_rfl) (by kernel_rfl) [0] rfl (by decide) (by kernel_rfl) (fun _ _ _ h => h) (by kernel_rfl) ?_ (by assumption) ?_
  · intro W hSw; first | (go_simp; done) | go_simp
  try simp only [Act.put, List.setIfInBounds_toArray, List.set_cons_zero, List.set_cons_succ]
  refine takeK (i := 1) (k := 21) (v := .pointer (some ⟨b, 0, none⟩)) rfl rfl (by kernel_rfl) (by kernel_rfl) (by kernel_rfl) [1] rfl (by decide) (by kernel_rfl) (fun _ _ _ h => h) (by kernel_rfl) ?_ (by assumption) ?_
  · intro W hSw; first | (go_simp; done) | go_simp
  try simp only [Act.put, List.setIfInBounds_toArray, List.set_cons_zero, List.set_cons_succ]
  refine takeK (i := 2) (k := 22) (v := .pointer (some ⟨b, 0, none⟩)) rfl rfl (by kernel_rfl) (by kernel_rfl) (by kernel_rfl) [2] rfl (by decide) (by kernel_rfl) (fun _ _ _ h => h) (by kernel_rfl) ?_ (by assumption) ?_
  · intro W hSw; first | (go_simp; done) | go_simp
  try simp only [Act.put, List.setIfInBounds_toArray, List.set_cons_zero, List.set_cons_succ]
  refine takeK (i := 3) (k := 23) (v := .pointer (some ⟨b, 2, none⟩)) rfl rfl (by kernel_rfl) (by kernel_rfl) (by kernel_rfl) [3] rfl (by decide) (by kernel_rfl) (fun _ _ _ h => h) (by kernel_rfl) ?_ (by assumption) ?_
  · intro W hSw; first | (go_simp; done) | go_simp
  try simp only [Act.put, List.setIfInBounds_toArray, List.set_cons_zero, List.set_cons_succ]
  refine takeK (i := 4) (k := 24) (v := L.wv) rfl rfl (by kernel_rfl) (by kernel_rfl) (by kernel_rfl) [4] rfl (by decide) (by kernel_rfl) (fun _ _ _ h => h) (by kernel_rfl) ?_ (by assumption) ?_
  · intro W hSw; have d2 := (World.cell?_of_block (a := ⟨b, 2, none⟩) hSw.1).trans (fs_cells HC4.out).c2; first | (go_simp; done) | go_simp
  try simp only [Act.put, List.setIfInBounds_toArray, List.set_cons_zero, List.set_cons_succ]
  refine takeK (i := 5) (k := 25) (v := .agg #[.string c1, .string c2, .pointer pf]) rfl rfl (by kernel_rfl) (by kernel_rfl) (by kernel_rfl) [5] rfl (by decide) (by kernel_rfl) (fun _ _ _ h => h) (by kernel_rfl) ?_ (by assumption) ?_
  · intro W hSw; have r0 := cells_at (hSw.2.trans HQ4.out) 0; have r1 := cells_at (hSw.2.trans HQ4.out) 1; have r2 := cells_at (hSw.2.trans HQ4.out) 2; first | (go_simp; done) | go_simp
  try simp only [Act.put, List.setIfInBounds_toArray, List.set_cons_zero, List.set_cons_succ]
  refine oneK (i := 6) (by kernel_rfl) rfl (fun K hK => ?_)
  go_simp
  refine hK.out _ _ (fun _ => HS6.out) (fun _ => ?_)
  clear hK K
  try simp only [Act.put, List.setIfInBounds_toArray, List.set_cons_zero, List.set_cons_succ]
  refine oneK (i := 7) (by kernel_rfl) rfl (fun K hK => ?_)
  refine step_appD 27 rfl (by kernel_rfl) (.tmp 24) (.tmp 26) 50 rfl rfl rfl g0 ?_
  refine hK.out _ _ (fun _ => HS7.out) (fun _ => ?_)
  clear hK K g0
  try simp only [Act.put, List.setIfInBounds_toArray, List.set_cons_zero, List.set_cons_succ]
  refine oneK (i := 8) (by kernel_rfl) rfl (fun K hK => ?_)
  go_simp
  refine hK.out _ _ (fun _ => HS7.out) (fun _ => ?_)
  clear hK K
  try simp only [Act.put, List.setIfInBounds_toArray, List.set_cons_zero, List.set_cons_succ]
  refine oneK (i := 9) (by kernel_rfl) rfl (fun K hK => ?_)
  go_simp
  refine hK.out _ _ (fun _ => HS7.out) (fun _ => ?_)
  clear hK K
  try simp only [Act.put, List.setIfInBounds_toArray, List.set_cons_zero, List.set_cons_succ]
  have d2 := (fs_cells HC7.out).c2
  have f2 := (fs_cells HC7.out).free 2
  refine oneK (i := 10) (by kernel_rfl) rfl (fun K hK => ?_)
  go_simp
  refine hK.out _ _ (fun h => by have h' : true = false := h; cases h') (fun _ => ?_)
  clear hK K
  try simp only [Act.put, List.setIfInBounds_toArray, List.set_cons_zero, List.set_cons_succ]
  refine doneK (by kernel_rfl) ?_ _
  clear d2 f2 hHeld hHeld0
  go_wp2
  go_end0
  exact ⟨rfl, HFIN.out⟩
end Go.Proofs.Ytgeofgdhlbmciaa
