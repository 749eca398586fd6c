/- The walks of norm.Text, Is, Same and the reference's Text. -/
import Derived.Test.YtmglnpnkkidnnaaDoorRefChars
import Derived.Test.YtmglnpnkkidnnaaDoorUtfWrit3
namespace Go.Proofs.YtmglnpnkkidnnaaDoor
set_option linter.unusedVariables false
open Go.RowKit
theorem ReadRes.cases {w w' : World} {r : Option (List Int)} {e : Ending} (h : ReadRes w r e w') : ∃ v, e = .returned (.tuple #[v, .bool r.isSome]) ∧ RdI w' v (r.getD []) ∧ Below w.heap.size w w' := by
  obtain ⟨hb, h⟩ := h
  cases r with
  | none => exact ⟨_, h, .inl ⟨none, 0, rfl, rfl⟩, hb⟩
  | some xs => obtain ⟨v, he, ho⟩ := h; exact ⟨v, he, ho.rd, hb⟩
theorem readF_len (f : Nat) : ∀ (l : List UInt8) (xs : List Int), readF f l = some xs → xs.length ≤ f := by
  induction f with
  | zero => intro l xs h; simp [readF] at h; subst h; exact Nat.le_refl _
  | succ f ih =>
    intro l xs h
    unfold readF at h
    split at h
    · simp at h; subst h; exact Nat.zero_le _
    · split at h
      · simp at h
      · obtain ⟨ys, hy, rfl⟩ := Option.map_eq_some_iff.1 h
        have := ih _ _ hy
        simp; omega
theorem read_len (l : List UInt8) (xs : List Int) (h : readP l = some xs) : xs.length ≤ l.length := readF_len _ _ _ h
/-- what Text answers. -/
def TextRes (w : World) (r : Option (List UInt8)) (e : Ending) (w' : World) : Prop :=
  e = .returned (.tuple #[.string ⟨(r.getD []).toArray⟩, .bool r.isSome]) ∧ Below w.heap.size w w'
/-- A text of which not too many characters come. -/
def Short' (l : List UInt8) : Prop := l.length ≤ 100000 ∧ ∀ xs, readP l = some xs → (xs.flatMap apartP).length ≤ 10000
theorem short_of {l : List UInt8} (h : l.length ≤ 1000) : Short' l := ⟨by omega, fun xs hx => by have := flat_len xs; have := read_len l xs hx; omega⟩
theorem valid_range {l : List Int} (h : ∀ c ∈ l, vldB c = true) : IntOk l := fun c hc => by have := (vldB_iff c).1 (h c hc); omega
theorem NewRes.rd {l : List Int} {w w' : World} {e : Ending} (h : NewRes l w e w') : ∃ v, e = .returned v ∧ RdI w' v l ∧ Below w.heap.size w w' := by
  obtain ⟨v, rfl, ho, _, hb⟩ := h; exact ⟨v, rfl, ho.rd, hb⟩
set_option maxHeartbeats 1000000 in
set_option maxRecDepth 100000 in
theorem text_any (s : ByteArray) (w : World) (hS : Short' s.data.toList) (hE : ErrAt w) (hSp : SpAt w) :
    Calls Tryd.prog 16 #[.string s] w (TextRes w (textP s.data.toList)) := by
  have HES : Hid (∀ w', Below w.heap.size w w' → ErrAt w' ∧ SpAt w') := Lib.hid fun w' hb => ⟨hE.below hb, hSp.below hb hSp.1⟩
  have HR : Hid (∀ w, Calls Tryd.prog 28 #[.string s] w (ReadRes w (readP s.data.toList))) := Lib.hid fun w => read_any s (by have := hS.1; rw [size_toList] at this; omega) w
  have HSS := Lib.hid hS
  clear hS hE hSp
  generalize s.data.toList = l at *
  go_enter Tryd.func16, Tryd.ntmps16
  go_wp2_with fail
  refine (HR.out _).mono ?_
  intro e w1 hr
  obtain ⟨v, rfl, hv, hb⟩ := hr.cases
  clear hr HR
  cases hx : readP l with
  | none =>
    rw [hx] at hv
    have HT := Lib.hid (text_none l hx)
    clear hx hv
    go_wp2_with fail
    go_ret2
    rw [HT.out]
    exact ⟨rfl, hb⟩
  | some xs =>
    rw [hx] at hv
    obtain ⟨bs, t1, t2, t3⟩ := text_some l xs hx
    have hxl := read_len l xs hx
    have HC := Lib.hid (chars_any w1 v xs hv (valid_range (read_valid l xs hx)) (HES.out _ hb).1 (HES.out _ hb).2 (by have := HSS.out.2 xs hx; omega) (by have := HSS.out.1; omega))
    have HT := Lib.hid t2
    have HW : Hid (∀ w v, RdI w v (charsP xs) → Calls Tryd.prog 29 #[v] w (WriteRes w (some bs))) := Lib.hid fun w v h => by
      have := write_any v (charsP xs) (by rw [chars_len]; exact HSS.out.2 xs hx) w h
      rwa [t1] at this
    clear hx hv t1 t2 t3
    go_wp2_with fail
    refine HC.out.mono ?_
    intro e w2 hr
    obtain ⟨v2, rfl, hv2, hb2⟩ := hr.rd
    clear hr HC
    have HW2 := Lib.hid (HW.out w2 v2 hv2)
    clear HW hv2
    go_wp2_with fail
    refine HW2.out.mono ?_
    rintro e w3 ⟨hb3, rfl⟩
    have hbb : Below w.heap.size w w3 := (hb.trans (hb2.mono hb.size)).trans (hb3.mono (Nat.le_trans hb.size hb2.size))
    clear hb hb2 hb3 HW2
    go_wp2_with fail
    go_ret2
    rw [HT.out]
    exact ⟨rfl, hbb⟩
set_option maxHeartbeats 1000000 in
set_option maxRecDepth 100000 in
theorem rtext_any (s : ByteArray) (w : World) (hS : Short' s.data.toList) :
    Calls Tryd.prog 17 #[.string s] w (TextRes w (textP s.data.toList)) := by
  have HR : Hid (∀ w, Calls Tryd.prog 30 #[.string s] w (ReadRes w (readP s.data.toList))) := Lib.hid fun w => rread_any s (by have := hS.1; rw [size_toList] at this; omega) w
  have HSS := Lib.hid hS
  clear hS
  generalize s.data.toList = l at *
  go_enter Tryd.func17, Tryd.ntmps17
  go_wp2_with fail
  refine (HR.out _).mono ?_
  intro e w1 hr
  obtain ⟨v, rfl, hv, hb⟩ := hr.cases
  clear hr HR
  cases hx : readP l with
  | none =>
    rw [hx] at hv
    have HT := Lib.hid (text_none l hx)
    clear hx hv
    go_wp2_with fail
    go_ret2
    rw [HT.out]
    exact ⟨rfl, hb⟩
  | some xs =>
    rw [hx] at hv
    obtain ⟨bs, t1, t2, t3⟩ := text_some l xs hx
    have hxl := read_len l xs hx
    have HC := Lib.hid (rchars_any w1 v xs hv (valid_range (read_valid l xs hx)) (by have := HSS.out.2 xs hx; omega) (by have := HSS.out.1; omega))
    have HT := Lib.hid t2
    have HW : Hid (∀ w v, RdI w v (charsP xs) → Calls Tryd.prog 31 #[v] w (WriteRes w (some bs))) := Lib.hid fun w v h => by
      have := rwrite_any v (charsP xs) (by rw [chars_len]; exact HSS.out.2 xs hx) w h
      rwa [t1] at this
    clear hx hv t1 t2 t3
    go_wp2_with fail
    refine HC.out.mono ?_
    intro e w2 hr
    obtain ⟨v2, rfl, hv2, hb2⟩ := hr.rd
    clear hr HC
    have HW2 := Lib.hid (HW.out w2 v2 hv2)
    clear HW hv2
    go_wp2_with fail
    refine HW2.out.mono ?_
    rintro e w3 ⟨hb3, rfl⟩
    have hbb : Below w.heap.size w w3 := (hb.trans (hb2.mono hb.size)).trans (hb3.mono (Nat.le_trans hb.size hb2.size))
    clear hb hb2 hb3 HW2
    go_wp2_with fail
    go_ret2
    rw [HT.out]
    exact ⟨rfl, hbb⟩
/-- Are both UTF-8, with equal forms? -/
def sameP (l m : List UInt8) : Bool := (textP l).isSome && (textP m).isSome && decide (textP l = textP m)
set_option maxHeartbeats 1000000 in
set_option maxRecDepth 100000 in
theorem is_any (s : ByteArray) (w : World) (hS : Short' s.data.toList) (hE : ErrAt w) (hSp : SpAt w) :
    Calls Tryd.prog 18 #[.string s] w fun e w' => e = .returned (.bool (decide (textP s.data.toList = some s.data.toList))) ∧ Below w.heap.size w w' := by
  have HT := Lib.hid (text_any s w hS hE hSp)
  have HL : Hid (s.toList = s.data.toList) := Lib.hid (Lib.toList_data s)
  clear hS hE hSp
  generalize s.data.toList = l at *
  obtain ⟨q, hq⟩ : ∃ q, decide (textP l = some l) = q := ⟨_, rfl⟩
  have HQ : Hid (decide (textP l = some l) = q) := hq
  rw [hq]
  clear hq
  generalize textP l = r at *
  go_enter Tryd.func18, Tryd.ntmps18
  go_wp2_with fail
  refine HT.out.mono ?_
  rintro e w1 ⟨rfl, hb⟩
  clear HT
  cases r with
  | none =>
    have e : q = false := by rw [← HQ.out]; simp
    subst e
    clear HQ
    go_wp2_with fail
    go_ret
    exact ⟨rfl, hb⟩
  | some bs =>
    have HE : Hid ((bs == s.toList) = q) := by
      show _ = _
      rw [HL.out, ← HQ.out]
      by_cases e : bs = l <;> simp [e]
    clear HQ HL
    go_wp2_with fail
    go_ret
    exact ⟨by rw [← HE.out]; rfl, hb⟩
set_option maxHeartbeats 1000000 in
set_option maxRecDepth 100000 in
theorem same_any (s t : ByteArray) (w : World) (hS : Short' s.data.toList) (hT : Short' t.data.toList) (hE : ErrAt w) (hSp : SpAt w) :
    Calls Tryd.prog 19 #[.string s, .string t] w fun e w' => e = .returned (.bool (sameP s.data.toList t.data.toList)) ∧ Below w.heap.size w w' := by
  have HT1 := Lib.hid (text_any s w hS hE hSp)
  have HT2 : Hid (∀ w', Below w.heap.size w w' → Calls Tryd.prog 16 #[.string t] w' (TextRes w' (textP t.data.toList))) := Lib.hid fun w' hb => text_any t w' hT (hE.below hb) (hSp.below hb hSp.1)
  clear hS hT hE hSp
  obtain ⟨q, hq⟩ : ∃ q, sameP s.data.toList t.data.toList = q := ⟨_, rfl⟩
  have HQ : Hid (((textP s.data.toList).isSome && (textP t.data.toList).isSome && decide (textP s.data.toList = textP t.data.toList)) = q) := hq
  rw [hq]
  clear hq
  generalize textP s.data.toList = r at *
  generalize textP t.data.toList = u at *
  go_enter Tryd.func19, Tryd.ntmps19
  go_wp2_with fail
  refine HT1.out.mono ?_
  rintro e w1 ⟨rfl, hb⟩
  have HT3 := Lib.hid (HT2.out w1 hb)
  clear HT1 HT2
  go_wp2_with fail
  refine HT3.out.mono ?_
  rintro e w2 ⟨rfl, hb2⟩
  have hbb : Below w.heap.size w w2 := hb.trans (hb2.mono hb.size)
  clear HT3 hb hb2
  cases r with
  | none =>
    have e : q = false := by rw [← HQ.out]; simp
    subst e
    clear HQ
    go_wp2_with fail
    go_ret
    exact ⟨rfl, hbb⟩
  | some bs =>
    cases u with
    | none =>
      have e : q = false := by rw [← HQ.out]; simp
      subst e
      clear HQ
      go_wp2_with fail
      go_ret
      exact ⟨rfl, hbb⟩
    | some cs =>
      have HE : Hid ((bs == cs) = q) := by
        show _ = _
        rw [← HQ.out]
        by_cases e : bs = cs <;> simp [e]
      clear HQ
      go_wp2_with fail
      go_ret
      exact ⟨by rw [← HE.out]; rfl, hbb⟩
/-! ### what every law begins with -/
theorem bt1 : textP [225, 185, 169] = some [115, 204, 163, 204, 135] := by decide +kernel
theorem bt2 : textP [115, 204, 163, 204, 135] = some [115, 204, 163, 204, 135] := text_idem _ _ bt1
theorem bt3 : textP [195, 169] = some [101, 204, 129] := by decide +kernel
theorem bt4 : textP [115, 204, 135, 204, 163] = some [115, 204, 163, 204, 135] := by decide +kernel
set_option maxHeartbeats 1000000 in
set_option maxRecDepth 100000 in
theorem nbegun_any (w : World) (hE : ErrAt w) (hSp : SpAt w) :
    Calls Tryd.prog 10 #[] w fun e w' => e = .returned (.bool true) ∧ Below w.heap.size w w' := by
  have HES : Hid (∀ w', Below w.heap.size w w' → ErrAt w' ∧ SpAt w') := Lib.hid fun w' hb => ⟨hE.below hb, hSp.below hb hSp.1⟩
  have H1 := Lib.hid (text_any ⟨#[225, 185, 169]⟩ w (short_of (by show 3 ≤ 1000; omega)) hE hSp)
  have H2 : Hid (∀ w', Below w.heap.size w w' → Calls Tryd.prog 18 #[.string ⟨#[115, 204, 163, 204, 135]⟩] w' fun e w'' => e = .returned (.bool true) ∧ Below w'.heap.size w' w'') := Lib.hid fun w' hb => by
    have := is_any ⟨#[115, 204, 163, 204, 135]⟩ w' (short_of (by show 5 ≤ 1000; omega)) (HES.out _ hb).1 (HES.out _ hb).2
    rwa [show decide (textP (⟨#[115, 204, 163, 204, 135]⟩ : ByteArray).data.toList = some (⟨#[115, 204, 163, 204, 135]⟩ : ByteArray).data.toList) = true from decide_eq_true bt2] at this
  have H3 : Hid (∀ w', Below w.heap.size w w' → Calls Tryd.prog 18 #[.string ⟨#[195, 169]⟩] w' fun e w'' => e = .returned (.bool false) ∧ Below w'.heap.size w' w'') := Lib.hid fun w' hb => by
    have := is_any ⟨#[195, 169]⟩ w' (short_of (by show 2 ≤ 1000; omega)) (HES.out _ hb).1 (HES.out _ hb).2
    rwa [show decide (textP (⟨#[195, 169]⟩ : ByteArray).data.toList = some (⟨#[195, 169]⟩ : ByteArray).data.toList) = false from decide_eq_false (by show ¬ textP [195, 169] = some [195, 169]; rw [bt3]; decide)] at this
  have H4 : Hid (∀ w', Below w.heap.size w w' → Calls Tryd.prog 19 #[.string ⟨#[115, 204, 135, 204, 163]⟩, .string ⟨#[225, 185, 169]⟩] w' fun e w'' => e = .returned (.bool true) ∧ Below w'.heap.size w' w'') := Lib.hid fun w' hb => by
    have := same_any ⟨#[115, 204, 135, 204, 163]⟩ ⟨#[225, 185, 169]⟩ w' (short_of (by show 5 ≤ 1000; omega)) (short_of (by show 3 ≤ 1000; omega)) (HES.out _ hb).1 (HES.out _ hb).2
    rwa [show sameP (⟨#[115, 204, 135, 204, 163]⟩ : ByteArray).data.toList (⟨#[225, 185, 169]⟩ : ByteArray).data.toList = true from by show sameP [115, 204, 135, 204, 163] [225, 185, 169] = true; unfold sameP; rw [bt4, bt1]; decide] at this
  rw [show textP (⟨#[225, 185, 169]⟩ : ByteArray).data.toList = some [115, 204, 163, 204, 135] from bt1] at H1
  clear hE hSp HES
  go_enter Tryd.func10, Tryd.ntmps10
  go_wp2_with fail
  refine H1.out.mono ?_
  rintro e w1 ⟨rfl, hb⟩
  clear H1
  go_wp2_with fail
  refine (H2.out w1 hb).mono ?_
  rintro e w2 ⟨rfl, hb2⟩
  have hbb2 : Below w.heap.size w w2 := hb.trans (hb2.mono hb.size)
  clear H2 hb hb2
  go_wp2_with fail
  refine (H3.out w2 hbb2).mono ?_
  rintro e w3 ⟨rfl, hb3⟩
  have hbb3 : Below w.heap.size w w3 := hbb2.trans (hb3.mono hbb2.size)
  clear H3 hb3 hbb2
  go_wp2_with fail
  refine (H4.out w3 hbb3).mono ?_
  rintro e w4 ⟨rfl, hb4⟩
  have hbb4 : Below w.heap.size w w4 := hbb3.trans (hb4.mono hbb3.size)
  clear H4 hb4 hbb3
  go_wp2_with fail
  go_ret
  exact ⟨rfl, hbb4⟩
end Go.Proofs.YtmglnpnkkidnnaaDoor
