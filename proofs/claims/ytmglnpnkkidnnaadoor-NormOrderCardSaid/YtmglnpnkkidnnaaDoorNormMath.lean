/- Canonical forms, in lists. -/
import Derived.Test.YtmglnpnkkidnnaaDoorNormOrd
import Derived.Test.YtmglnpnkkidnnaaDoorUcdRef2
import Derived.Test.YtmglnpnkkidnnaaDoorHang
import Derived.Test.YtmglnpnkkidnnaaDoorUtfMore
namespace Go.Proofs.YtmglnpnkkidnnaaDoor
set_option linter.unusedVariables false
open Go.RowKit
/-- What c is made of in the end. -/
def apartP (c : Int) : List Int := if splitP c ≠ [] then splitP c else if mapP c ≠ [] then mapP c else [c]
def charsP (L : List Int) : List Int := orderP classP (L.flatMap apartP)
def fitN (l : List UInt8) : Bool :=
  let m := (fieldsP (rdM l).2.2).map numI
  m.all (fun x => decide (mapP x = []) && decide (splitP x = []) && vldB x) && decide (m.length ≤ 10) && (decide ((rdM l).2.1 < 4352) || decide (4546 < (rdM l).1)) && decide (128 ≤ (rdM l).1)
theorem fitsN : mapLines.all fitN = true := by decide +kernel
theorem map_facts (c : Int) : (∀ x ∈ mapP c, mapP x = [] ∧ splitP x = [] ∧ vldB x = true) ∧ (mapP c).length ≤ 10 ∧ (4352 ≤ c → c ≤ 4546 → mapP c = []) ∧ (c < 128 → mapP c = []) := by
  rcases find_mem rdM c mapLines with h | ⟨l, hl, h, h1, h2⟩
  · have : mapP c = [] := by rw [mapP_num, h]; rfl
    rw [this]; exact ⟨fun _ h => (by cases h), by simp, fun _ _ => rfl, fun _ => rfl⟩
  · have := List.all_eq_true.1 fitsN l hl
    unfold fitN at this
    simp only [Bool.and_eq_true, Bool.or_eq_true, decide_eq_true_eq, List.all_eq_true] at this
    obtain ⟨⟨⟨g1, g2⟩, g3⟩, g4⟩ := this
    rw [mapP_num, h]
    exact ⟨fun x hx => ⟨(g1 x hx).1.1, (g1 x hx).1.2, (g1 x hx).2⟩, g2, fun a b => by omega, fun a => by omega⟩
theorem split_len (c : Int) : (splitP c).length ≤ 3 := by unfold splitP; split <;> (try split) <;> simp
theorem split_low (x : Int) (h : x < 44032) : splitP x = [] := by unfold splitP; rw [if_neg (by omega)]
theorem split_parts (c x : Int) (h : x ∈ splitP c) : 4352 ≤ x ∧ x ≤ 4546 := by
  unfold splitP at h
  split at h
  · split at h <;> simp at h <;> omega
  · cases h
theorem split_valid (c : Int) (h : splitP c ≠ []) : 44032 ≤ c ∧ c ≤ 55203 := by
  unfold splitP at h
  split at h
  · assumption
  · exact absurd rfl h
/-- What a character comes to comes to itself. -/
theorem apart_end (c x : Int) (h : x ∈ apartP c) : apartP x = [x] := by
  have key : splitP x = [] → mapP x = [] → apartP x = [x] := fun a b => by unfold apartP; rw [a, b]; simp
  unfold apartP at h
  split at h
  · have := split_parts c x h
    exact key (split_low x (by omega)) ((map_facts x).2.2.1 this.1 this.2)
  · split at h
    · have := (map_facts c).1 x h; exact key this.2.1 this.1
    · rename_i h1 h2
      obtain rfl := List.mem_singleton.1 h
      exact key (Classical.not_not.1 h1) (Classical.not_not.1 h2)
theorem apart_valid (c x : Int) (hc : vldB c = true) (h : x ∈ apartP c) : vldB x = true := by
  unfold apartP at h
  split at h
  · have := split_parts c x h
    exact (vldB_iff x).2 ⟨by omega, by omega, by omega⟩
  · split at h
    · exact ((map_facts c).1 x h).2.2
    · rw [List.mem_singleton.1 h]; exact hc
theorem apart_len (c : Int) : (apartP c).length ≤ 10 ∧ apartP c ≠ [] := by
  unfold apartP
  split
  · rename_i h; exact ⟨Nat.le_trans (split_len c) (by decide), h⟩
  · split
    · rename_i h; exact ⟨(map_facts c).2.1, h⟩
    · simp
theorem apart_low (c : Int) (h : c < 128) : apartP c = [c] := by
  unfold apartP; rw [split_low c (by omega), (map_facts c).2.2.2 h]; simp
theorem flat_len (L : List Int) : (L.flatMap apartP).length ≤ 10 * L.length := by
  induction L with
  | nil => simp
  | cons c L ih => simp only [List.flatMap_cons, List.length_append, List.length_cons]; have := (apart_len c).1; omega
theorem flat_self (L : List Int) (h : ∀ x ∈ L, apartP x = [x]) : L.flatMap apartP = L := by
  induction L with
  | nil => rfl
  | cons c L ih => rw [List.flatMap_cons, h c (by simp), ih fun x hx => h x (by simp [hx])]; rfl
theorem chars_mem (L : List Int) (x : Int) : x ∈ charsP L ↔ ∃ c ∈ L, x ∈ apartP c := by
  unfold charsP; rw [orderP_mem, List.mem_flatMap]
theorem chars_end (L : List Int) (x : Int) (h : x ∈ charsP L) : apartP x = [x] := by
  obtain ⟨c, _, hx⟩ := (chars_mem L x).1 h; exact apart_end c x hx
theorem chars_idem (L : List Int) : charsP (charsP L) = charsP L := by
  show orderP classP ((charsP L).flatMap apartP) = _
  rw [flat_self _ (chars_end L)]; unfold charsP; rw [orderP_idem]
theorem chars_app (A B : List Int) : charsP (charsP A ++ charsP B) = charsP (A ++ B) := by
  show orderP classP ((charsP A ++ charsP B).flatMap apartP) = _
  rw [flat_self _ fun x hx => by rcases List.mem_append.1 hx with h | h <;> exact chars_end _ x h]
  unfold charsP
  rw [orderP_app, List.flatMap_append]
theorem chars_len (L : List Int) : (charsP L).length = (L.flatMap apartP).length := orderP_len _
theorem chars_valid (L : List Int) (h : ∀ c ∈ L, vldB c = true) : ∀ x ∈ charsP L, vldB x = true := fun x hx => by
  obtain ⟨c, hc, hx⟩ := (chars_mem L x).1 hx; exact apart_valid c x (h c hc) hx
theorem write_valid (L : List Int) : (∀ x ∈ L, vldB x = true) ↔ ∃ bs, writeP L = some bs := by
  induction L with
  | nil => exact ⟨fun _ => ⟨[], rfl⟩, fun _ _ h => by cases h⟩
  | cons c L ih =>
    unfold writeP
    constructor
    · intro h
      obtain ⟨bs, e⟩ := ih.1 fun x hx => h x (by simp [hx])
      rw [if_pos (h c (by simp)), e]; exact ⟨_, rfl⟩
    · rintro ⟨bs, e⟩ x hx
      split at e
      · rename_i hc
        obtain ⟨b', e', _⟩ := Option.map_eq_some_iff.1 e
        rcases List.mem_cons.1 hx with rfl | hx
        · exact hc
        · exact ih.2 ⟨b', e'⟩ x hx
      · cases e
theorem read_valid (l : List UInt8) (xs : List Int) (h : readP l = some xs) : ∀ x ∈ xs, vldB x = true := (write_valid xs).2 ⟨l, write_read l xs h⟩
/-- A text's canonical form. -/
def textP (l : List UInt8) : Option (List UInt8) := (readP l).bind fun xs => writeP (charsP xs)
theorem text_some (l : List UInt8) (xs : List Int) (h : readP l = some xs) : ∃ bs, writeP (charsP xs) = some bs ∧ textP l = some bs ∧ readP bs = some (charsP xs) := by
  obtain ⟨bs, e⟩ := (write_valid _).1 (chars_valid xs (read_valid l xs h))
  exact ⟨bs, e, by unfold textP; rw [h]; exact e, read_write' _ _ e⟩
theorem text_none (l : List UInt8) (h : readP l = none) : textP l = none := by unfold textP; rw [h]; rfl
theorem text_idem (l bs : List UInt8) (h : textP l = some bs) : textP bs = some bs := by
  cases hr : readP l with
  | none => rw [text_none l hr] at h; cases h
  | some xs =>
    obtain ⟨b', e1, e2, e3⟩ := text_some l xs hr
    rw [h] at e2; cases e2
    unfold textP; rw [e3]
    show writeP (charsP (charsP xs)) = _
    rw [chars_idem]; exact e1
end Go.Proofs.YtmglnpnkkidnnaaDoor
