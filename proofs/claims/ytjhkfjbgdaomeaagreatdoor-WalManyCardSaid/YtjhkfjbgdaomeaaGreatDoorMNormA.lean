/- The walks of hangul.Split, hangul.Join and the reference's Split: what they answer, as plain functions. -/
import Derived.Test.YtjhkfjbgdaomeaaGreatDoorMBase
import Derived.Test.YtjhkfjbgdaomeaaGreatDoorMOrd
import Derived.Test.YtjhkfjbgdaomeaaGreatDoorMUcdR
import Derived.Test.YtjhkfjbgdaomeaaGreatDoorMUtf
namespace Go.Proofs.YtjhkfjbgdaomeaaGreatDoor
set_option linter.unusedVariables false
open Go.RowKit
/-- what a slice-making call of one's own answers: a new slice that holds l, nil just where l is empty. -/
def NewRes (l : List Int) (w : World) (e : Ending) (w' : World) : Prop := ∃ v, e = .returned v ∧ OwnV 3 w.heap.size w' v (l.map (Value.int .i64)) ∧ (v = .slice none 0 0 ↔ l = []) ∧ Below w.heap.size w w'
theorem own_fresh {E : Nat} (w : World) (news : List Value) (n : Nat) (hn : news.length = n) (h0 : 0 < n) (hm : n ≤ maxLen) : OwnV E w.heap.size (w.alloc (.cells news.toArray E)) (.slice (some ⟨w.heap.size, 0, none⟩) n n) news := by
  subst hn
  refine ⟨(Nat.mul_one _).symm, .inr ⟨w.heap.size, news.length, news.toArray, rfl, Nat.le_refl _, heap_alloc_new .., Nat.le_refl _, hm, by simp, by simp⟩⟩
theorem OwnV.notNil {E B : Nat} {w : World} {v : Value} {vs : List Value} (h : OwnV E B w v vs) (h0 : vs ≠ []) : v ≠ .slice none 0 0 := by
  rcases h.nilOr with ⟨-, e⟩ | ⟨g, cap, e, -⟩
  · exact absurd e h0
  · rw [e]; intro h; cases h
def splitP (c : Int) : List Int := if 44032 ≤ c ∧ c ≤ 55203 then (if (c - 44032) % 28 = 0 then [4352 + (c - 44032) / 28 / 21, 4449 + (c - 44032) / 28 % 21] else [4352 + (c - 44032) / 28 / 21, 4449 + (c - 44032) / 28 % 21, 4519 + (c - 44032) % 28]) else []
theorem within_any (c f n : Int) (h0 : 0 ≤ f) (h1 : f ≤ 100000) (h2 : 0 ≤ n) (h3 : n ≤ 100000) (b : Bool) (hb : b = decide (f ≤ c ∧ c < f + n)) (w : World) :
    Calls Tryz.prog 152 #[.int .i64 c, .int .i64 f, .int .i64 n] w fun e w' => e = .returned (.bool b) ∧ w = w' := by
  have HB := Lib.hid hb
  clear hb
  by_cases hf : f ≤ c
  · by_cases hn : c < f + n
    · go_enter Tryz.func152, Tryz.ntmps152
      go_wp2
      go_ret
      exact ⟨ret_bool (by rw [HB.out]; simp; omega), rfl⟩
    · go_enter Tryz.func152, Tryz.ntmps152
      go_wp2
      go_ret
      exact ⟨ret_bool (by rw [HB.out]; simp; omega), rfl⟩
  · go_enter Tryz.func152, Tryz.ntmps152
    go_wp2
    go_ret
    exact ⟨ret_bool (by rw [HB.out]; simp; omega), rfl⟩
theorem splitP_no {c : Int} (h : ¬ (44032 ≤ c ∧ c ≤ 55203)) : splitP c = [] := if_neg h
theorem splitP_two {c : Int} (h : 44032 ≤ c ∧ c ≤ 55203) (h2 : (c - 44032) % 28 = 0) : splitP c = [4352 + (c - 44032) / 28 / 21, 4449 + (c - 44032) / 28 % 21] := by unfold splitP; rw [if_pos h, if_pos h2]
theorem splitP_three {c : Int} (h : 44032 ≤ c ∧ c ≤ 55203) (h2 : ¬ (c - 44032) % 28 = 0) : splitP c = [4352 + (c - 44032) / 28 / 21, 4449 + (c - 44032) / 28 % 21, 4519 + (c - 44032) % 28] := by unfold splitP; rw [if_pos h, if_neg h2]
theorem NewRes.mk {l : List Int} {w w' : World} {v : Value} (h1 : OwnV 3 w.heap.size w' v (l.map (Value.int .i64))) (h2 : v = .slice none 0 0 ↔ l = []) (h3 : Below w.heap.size w w') : NewRes l w (.returned v) w' := ⟨v, rfl, h1, h2, h3⟩
set_option maxHeartbeats 1000000 in
theorem split_any (c : Int) (hc0 : -9223372036854775808 ≤ c) (hc1 : c ≤ 9223372036854775807) (w : World) :
    Calls Tryz.prog 145 #[.int .i64 c] w (NewRes (splitP c) w) := by
  have HW : ∀ b : Bool, b = decide (44032 ≤ c ∧ c < 44032 + 11172) → Hid (∀ w, Calls Tryz.prog 152 #[.int .i64 c, .int .i64 44032, .int .i64 11172] w fun e w' => e = .returned (.bool b) ∧ w = w') := fun b hb => Lib.hid fun w => within_any c 44032 11172 (by omega) (by omega) (by omega) (by omega) b hb w
  by_cases hs : 44032 ≤ c ∧ c ≤ 55203
  · have HT := HW true (by simp; omega)
    clear HW
    have HO := Lib.hid (own_fresh (E := 3) w [.int .i64 (4352 + (c - 44032) / 28 / 21), .int .i64 (4449 + (c - 44032) / 28 % 21)] 2 rfl (by decide) (by simp [maxLen]))
    by_cases h28 : (c - 44032) % 28 = 0
    · have HP := Lib.hid (splitP_two hs h28)
      generalize splitP c = l at *
      obtain ⟨hs1, hs2⟩ := hs
      have hd : decide (0 < (c - 44032) % 28) = false := by rw [h28]; rfl
      clear h28
      go_enter Tryz.func145, Tryz.ntmps145
      go_wp2_with fail
      refine (HT.out _).mono ?_
      rintro e w' ⟨rfl, rfl⟩
      go_wp2
      go_ret
      exact NewRes.mk (by rw [HP.out]; exact HO.out) (by rw [HP.out]; simp) ((Below.refl _ w).alloc (Nat.le_refl _) _)
    · have HP := Lib.hid (splitP_three hs h28)
      generalize splitP c = l at *
      obtain ⟨hs1, hs2⟩ := hs
      have hd : decide (0 < (c - 44032) % 28) = true := by simp; omega
      clear h28
      go_enter Tryz.func145, Tryz.ntmps145
      go_wp2_with fail
      refine (HT.out _).mono ?_
      rintro e w' ⟨rfl, rfl⟩
      go_wp2_with (at_builtin; refine wp_appH elem_int _ _ (by rfl) (by rfl) (by rfl) HO.out [_] 1 _ rfl (by rfl) ?c1 (by decide) ?c2 ?c3 ?c4 ?c5 ?_)
      case c1 => simp
      case c2 => simp [Value.oneCell']
      case c3 => simp
      case c4 => simp [maxLen]
      case c5 => simp
      intro v' w2 hown2 hbel2
      have hnn := Lib.hid (OwnV.notNil hown2 (by simp))
      go_wp2
      go_ret
      exact NewRes.mk (by rw [HP.out]; exact hown2) ⟨fun h => absurd h hnn.out, fun h => by rw [HP.out] at h; simp at h⟩ (((Below.refl _ w).alloc (Nat.le_refl _) _).trans hbel2)
  · have HT := HW false (by simp; omega)
    have HP := Lib.hid (splitP_no hs)
    generalize splitP c = l at *
    clear HW hs
    go_enter Tryz.func145, Tryz.ntmps145
    go_wp2_with fail
    refine (HT.out _).mono ?_
    rintro e w' ⟨rfl, rfl⟩
    go_wp2
    go_ret
    exact NewRes.mk (by rw [HP.out]; exact OwnV.nil _ _ _) (by rw [HP.out]; simp) (Below.refl _ w)
theorem divs {n k j : Int} (h1 : 0 ≤ n - (k * 21 + j) * 28) (h2 : n - (k * 21 + j) * 28 < 28) (h3 : 0 ≤ k) (h4 : 0 ≤ j) (h5 : j < 21) : n / 28 / 21 = k ∧ n / 28 % 21 = j ∧ n % 28 = n - (k * 21 + j) * 28 := by
  have e : n / 28 = k * 21 + j := by omega
  refine ⟨by omega, by omega, by omega⟩
set_option maxHeartbeats 1000000 in
theorem rsplit_any (c : Int) (hc0 : -9223372036854775808 ≤ c) (hc1 : c ≤ 9223372036854775807) (w : World) :
    Calls Tryz.prog 108 #[.int .i64 c] w (NewRes (splitP c) w) := by
  obtain ⟨l, hl⟩ : ∃ l, splitP c = l := ⟨_, rfl⟩
  have HL := Lib.hid hl
  rw [hl]
  clear hl
  by_cases hs : 44032 ≤ c ∧ c ≤ 55203
  · obtain ⟨hs1, hs2⟩ := hs
    go_enter Tryz.func108, Tryz.ntmps108
    go_wp2
    go_loop [3] (fun i => ∃ k : Nat, i = .int .i64 k ∧ k ≤ 19 ∧ (k : Int) * 588 ≤ c - 44032) (fun i => 19 - (intOf i).toNat)
    case atStart => exact ⟨0, rfl, by omega, by omega⟩
    case round =>
      obtain ⟨k, rfl, hk, hck⟩ := hrel
      have hk19 : k < 19 := by omega
      go_wp2
      go_loop [4] (fun i => ∃ j : Nat, i = .int .i64 j ∧ j ≤ 21 ∧ ((k : Int) * 21 + j) * 28 ≤ c - 44032) (fun i => 21 - (intOf i).toNat)
      case atStart => exact ⟨0, rfl, by omega, by omega⟩
      case round =>
        obtain ⟨j, rfl, hj, hcj⟩ := hrel
        by_cases hj2 : j < 21
        · by_cases h28 : c - 44032 - ((k : Int) * 21 + j) * 28 < 28
          · obtain ⟨d1, d2, d3⟩ := divs (n := c - 44032) (k := k) (j := j) (by omega) h28 (by omega) (by omega) (by omega)
            by_cases h0 : c - 44032 - ((k : Int) * 21 + j) * 28 = 0
            · have HP := Lib.hid (splitP_two (c := c) ⟨hs1, hs2⟩ (by rw [d3]; exact h0))
              rw [d1, d2] at HP
              clear d1 d2 d3
              have hd0 : ((c - 44032 - ((k : Int) * 21 + j) * 28) == 0) = true := by simpa using h0
              clear h0
              rw [HL.out] at HP
              go_wp2
              go_ret
              exact NewRes.mk (by rw [HP.out]; exact own_fresh w [_, _] 2 rfl (by decide) (by simp [maxLen])) (by rw [HP.out]; simp) ((Below.refl _ w).alloc (Nat.le_refl _) _)
            · have HP := Lib.hid (splitP_three (c := c) ⟨hs1, hs2⟩ (by rw [d3]; exact h0))
              rw [d1, d2, d3] at HP
              clear d1 d2 d3
              have hd0 : ((c - 44032 - ((k : Int) * 21 + j) * 28) == 0) = false := by simpa using h0
              clear h0
              rw [HL.out] at HP
              go_wp2
              go_ret
              exact NewRes.mk (by rw [HP.out]; exact own_fresh w [_, _, _] 3 rfl (by decide) (by simp [maxLen])) (by rw [HP.out]; simp) ((Below.refl _ w).alloc (Nat.le_refl _) _)
          · go_wp2
            go_round
            case rel => exact ⟨j + 1, by go_num, by omega, by omega⟩
            case measure => simp [intOf]; omega
        · obtain rfl : j = 21 := by omega
          go_wp2
          go_round
          case rel => exact ⟨k + 1, by go_num, by omega, by omega⟩
          case measure => simp [intOf]; omega
  · have HP := Lib.hid (splitP_no hs)
    rw [HL.out] at HP
    by_cases h1 : c < 44032
    · go_enter Tryz.func108, Tryz.ntmps108
      go_wp2
      go_ret
      exact NewRes.mk (by rw [HP.out]; exact OwnV.nil _ _ _) (by rw [HP.out]; simp) (Below.refl _ w)
    · have h2 : 55203 < c := by omega
      clear hs
      go_enter Tryz.func108, Tryz.ntmps108
      go_wp2
      go_ret
      exact NewRes.mk (by rw [HP.out]; exact OwnV.nil _ _ _) (by rw [HP.out]; simp) (Below.refl _ w)
end Go.Proofs.YtjhkfjbgdaomeaaGreatDoor
/- Canonical forms, in lists. -/
namespace Go.Proofs.YtjhkfjbgdaomeaaGreatDoor
set_option linter.unusedVariables false
open Go.RowKit
/-- What c is made of in the end. -/
def apartP (c : Int) : List Int := if splitP c ≠ [] then splitP c else if mapP c ≠ [] then mapP c else [c]
def charsP (L : List Int) : List Int := orderP classP (L.flatMap apartP)
def fitN (l : List UInt8) : Bool :=
  let m := (fieldsP (rdM l).2.2).map numI
  m.all (fun x => decide (mapP x = []) && decide (splitP x = []) && vldB x) && decide (m.length ≤ 10) && (decide ((rdM l).2.1 < 4352) || decide (4546 < (rdM l).1)) && decide (128 ≤ (rdM l).1)
theorem fitsN : mapLines.all fitN = true := by decide +kernel
theorem map_facts (c : Int) : (∀ x ∈ mapP c, mapP x = [] ∧ splitP x = [] ∧ vldB x = true) ∧ (mapP c).length ≤ 10 ∧ (4352 ≤ c → c ≤ 4546 → mapP c = []) ∧ (c < 128 → mapP c = []) := by
  rcases find_mem rdM c mapLines with h | ⟨l, hl, h, h1, h2⟩
  · have : mapP c = [] := by rw [mapP_num, h]; rfl
    rw [this]; exact ⟨fun _ h => (by cases h), by simp, fun _ _ => rfl, fun _ => rfl⟩
  · have := List.all_eq_true.1 fitsN l hl
    unfold fitN at this
    simp only [Bool.and_eq_true, Bool.or_eq_true, decide_eq_true_eq, List.all_eq_true] at this
    obtain ⟨⟨⟨g1, g2⟩, g3⟩, g4⟩ := this
    rw [mapP_num, h]
    exact ⟨fun x hx => ⟨(g1 x hx).1.1, (g1 x hx).1.2, (g1 x hx).2⟩, g2, fun a b => by omega, fun a => by omega⟩
theorem split_len (c : Int) : (splitP c).length ≤ 3 := by unfold splitP; split <;> (try split) <;> simp
theorem split_low (x : Int) (h : x < 44032) : splitP x = [] := by unfold splitP; rw [if_neg (by omega)]
theorem split_parts (c x : Int) (h : x ∈ splitP c) : 4352 ≤ x ∧ x ≤ 4546 := by
  unfold splitP at h
  split at h
  · split at h <;> simp at h <;> omega
  · cases h
theorem split_valid (c : Int) (h : splitP c ≠ []) : 44032 ≤ c ∧ c ≤ 55203 := by
  unfold splitP at h
  split at h
  · assumption
  · exact absurd rfl h
/-- What a character comes to comes to itself. -/
theorem apart_end (c x : Int) (h : x ∈ apartP c) : apartP x = [x] := by
  have key : splitP x = [] → mapP x = [] → apartP x = [x] := fun a b => by unfold apartP; rw [a, b]; simp
  unfold apartP at h
  split at h
  · have := split_parts c x h
    exact key (split_low x (by omega)) ((map_facts x).2.2.1 this.1 this.2)
  · split at h
    · have := (map_facts c).1 x h; exact key this.2.1 this.1
    · rename_i h1 h2
      obtain rfl := List.mem_singleton.1 h
      exact key (Classical.not_not.1 h1) (Classical.not_not.1 h2)
theorem apart_valid (c x : Int) (hc : vldB c = true) (h : x ∈ apartP c) : vldB x = true := by
  unfold apartP at h
  split at h
  · have := split_parts c x h
    exact (vldB_iff x).2 ⟨by omega, by omega, by omega⟩
  · split at h
    · exact ((map_facts c).1 x h).2.2
    · rw [List.mem_singleton.1 h]; exact hc
theorem apart_len (c : Int) : (apartP c).length ≤ 10 ∧ apartP c ≠ [] := by
  unfold apartP
  split
  · rename_i h; exact ⟨Nat.le_trans (split_len c) (by decide), h⟩
  · split
    · rename_i h; exact ⟨(map_facts c).2.1, h⟩
    · simp
theorem apart_low (c : Int) (h : c < 128) : apartP c = [c] := by
  unfold apartP; rw [split_low c (by omega), (map_facts c).2.2.2 h]; simp
theorem flat_len (L : List Int) : (L.flatMap apartP).length ≤ 10 * L.length := by
  induction L with
  | nil => simp
  | cons c L ih => simp only [List.flatMap_cons, List.length_append, List.length_cons]; have := (apart_len c).1; omega
theorem flat_self (L : List Int) (h : ∀ x ∈ L, apartP x = [x]) : L.flatMap apartP = L := by
  induction L with
  | nil => rfl
  | cons c L ih => rw [List.flatMap_cons, h c (by simp), ih fun x hx => h x (by simp [hx])]; rfl
theorem chars_mem (L : List Int) (x : Int) : x ∈ charsP L ↔ ∃ c ∈ L, x ∈ apartP c := by
  unfold charsP; rw [orderP_mem, List.mem_flatMap]
theorem chars_end (L : List Int) (x : Int) (h : x ∈ charsP L) : apartP x = [x] := by
  obtain ⟨c, _, hx⟩ := (chars_mem L x).1 h; exact apart_end c x hx
theorem chars_idem (L : List Int) : charsP (charsP L) = charsP L := by
  show orderP classP ((charsP L).flatMap apartP) = _
  rw [flat_self _ (chars_end L)]; unfold charsP; rw [orderP_idem]
theorem chars_app (A B : List Int) : charsP (charsP A ++ charsP B) = charsP (A ++ B) := by
  show orderP classP ((charsP A ++ charsP B).flatMap apartP) = _
  rw [flat_self _ fun x hx => by rcases List.mem_append.1 hx with h | h <;> exact chars_end _ x h]
  unfold charsP
  rw [orderP_app, List.flatMap_append]
theorem chars_len (L : List Int) : (charsP L).length = (L.flatMap apartP).length := orderP_len _
theorem chars_valid (L : List Int) (h : ∀ c ∈ L, vldB c = true) : ∀ x ∈ charsP L, vldB x = true := fun x hx => by
  obtain ⟨c, hc, hx⟩ := (chars_mem L x).1 hx; exact apart_valid c x (h c hc) hx
theorem write_valid (L : List Int) : (∀ x ∈ L, vldB x = true) ↔ ∃ bs, writeP L = some bs := by
  induction L with
  | nil => exact ⟨fun _ => ⟨[], rfl⟩, fun _ _ h => by cases h⟩
  | cons c L ih =>
    unfold writeP
    constructor
    · intro h
      obtain ⟨bs, e⟩ := ih.1 fun x hx => h x (by simp [hx])
      rw [if_pos (h c (by simp)), e]; exact ⟨_, rfl⟩
    · rintro ⟨bs, e⟩ x hx
      split at e
      · rename_i hc
        obtain ⟨b', e', _⟩ := Option.map_eq_some_iff.1 e
        rcases List.mem_cons.1 hx with rfl | hx
        · exact hc
        · exact ih.2 ⟨b', e'⟩ x hx
      · cases e
theorem read_valid (l : List UInt8) (xs : List Int) (h : readP l = some xs) : ∀ x ∈ xs, vldB x = true := (write_valid xs).2 ⟨l, write_read l xs h⟩
/-- A text's canonical form. -/
def textP (l : List UInt8) : Option (List UInt8) := (readP l).bind fun xs => writeP (charsP xs)
theorem text_some (l : List UInt8) (xs : List Int) (h : readP l = some xs) : ∃ bs, writeP (charsP xs) = some bs ∧ textP l = some bs ∧ readP bs = some (charsP xs) := by
  obtain ⟨bs, e⟩ := (write_valid _).1 (chars_valid xs (read_valid l xs h))
  exact ⟨bs, e, by unfold textP; rw [h]; exact e, read_write' _ _ e⟩
theorem text_none (l : List UInt8) (h : readP l = none) : textP l = none := by unfold textP; rw [h]; rfl
theorem text_idem (l bs : List UInt8) (h : textP l = some bs) : textP bs = some bs := by
  cases hr : readP l with
  | none => rw [text_none l hr] at h; cases h
  | some xs =>
    obtain ⟨b', e1, e2, e3⟩ := text_some l xs hr
    rw [h] at e2; cases e2
    unfold textP; rw [e3]
    show writeP (charsP (charsP xs)) = _
    rw [chars_idem]; exact e1
end Go.Proofs.YtjhkfjbgdaomeaaGreatDoor
/- The walks of norm.apart and the reference's Apart: what a character is made of in the end. -/
namespace Go.Proofs.YtjhkfjbgdaomeaaGreatDoor
set_option linter.unusedVariables false
open Go.RowKit
theorem NewRes.open {l : List Int} {w w' : World} {e : Ending} (h : NewRes l w e w') : Below w.heap.size w w' ∧ ((l = [] ∧ e = .returned (.slice none 0 0)) ∨ (l ≠ [] ∧ ∃ g n cap, e = .returned (.slice (some ⟨g, 0, none⟩) n cap) ∧ OwnV 3 w.heap.size w' (.slice (some ⟨g, 0, none⟩) n cap) (l.map (Value.int .i64)))) := by
  obtain ⟨v, rfl, ho, hn, hb⟩ := h
  refine ⟨hb, ?_⟩
  by_cases hl : l = []
  · exact .inl ⟨hl, by rw [hn.2 hl]⟩
  · rcases ho.nilOr with ⟨rfl, h⟩ | ⟨g, cap, rfl, _⟩
    · exact absurd (hn.1 rfl) hl
    · exact .inr ⟨hl, g, _, cap, rfl, ho⟩
theorem MapRes.new {l : List Int} {w w' : World} {e : Ending} (h : MapRes l w e w') : NewRes l w e w' := h
/-- .. and back. -/
theorem NewRes.of {l : List Int} {w w' : World} {g n cap : Nat} (hl : l ≠ []) (ho : OwnV 3 w.heap.size w' (.slice (some ⟨g, 0, none⟩) n cap) (l.map (Value.int .i64))) (hb : Below w.heap.size w w') : NewRes l w (.returned (.slice (some ⟨g, 0, none⟩) n cap)) w' :=
  ⟨_, rfl, ho, ⟨fun h => by simp at h, fun h => absurd h hl⟩, hb⟩
theorem apartP_split {c : Int} (h : splitP c ≠ []) : apartP c = splitP c := by unfold apartP; rw [if_pos h]
theorem apartP_map {c : Int} (h : splitP c = []) (h2 : mapP c ≠ []) : apartP c = mapP c := by unfold apartP; rw [if_neg (by simp [h]), if_pos h2]
theorem apartP_self {c : Int} (h : splitP c = []) (h2 : mapP c = []) : apartP c = [c] := by unfold apartP; rw [if_neg (by simp [h]), if_neg (by simp [h2])]
theorem one_new {w w1 : World} (c : Int) (hb : Below w.heap.size w w1) : NewRes [c] w (.returned (.slice (some ⟨w1.heap.size, 0, none⟩) 1 1)) (w1.alloc (.cells #[.int .i64 c] 3)) :=
  NewRes.of (by simp) ((own_fresh (E := 3) w1 [.int .i64 c] 1 rfl (by omega) (by unfold maxLen; omega)).base hb.size) (hb.alloc hb.size _)
set_option maxRecDepth 100000 in
set_option maxHeartbeats 1000000 in
theorem apart_any (c : Int) (hc0 : -9223372036854775808 ≤ c) (hc1 : c ≤ 9223372036854775807) (w : World) (hE : ErrAt w) (hSp : SpAt w) :
    Calls Tryz.prog 137 #[.int .i64 c] w (NewRes (apartP c) w) := by
  have HS : Hid (∀ w, Calls Tryz.prog 145 #[.int .i64 c] w (NewRes (splitP c) w)) := Lib.hid fun w => split_any c hc0 hc1 w
  have HM : Hid (∀ w, ErrAt w → SpAt w → Calls Tryz.prog 146 #[.int .i64 c] w (MapRes (mapP c) w)) := Lib.hid fun w h g => map_any c hc0 hc1 w h g
  have HE := Lib.hid hE
  have HSp := Lib.hid hSp
  clear hE hSp hc0 hc1
  go_enter Tryz.func137, Tryz.ntmps137
  go_wp2_with fail
  refine (HS.out _).mono ?_
  intro e w1 hr
  obtain ⟨hb, ⟨h1, rfl⟩ | ⟨h1, g, n, cap, rfl, ho⟩⟩ := hr.open
  · clear hr
    have HE1 := Lib.hid (HE.out.below hb)
    have HSp1 := Lib.hid (HSp.out.below hb HSp.out.1)
    have H1 := Lib.hid h1
    clear h1
    go_wp2_with fail
    refine (HM.out _ HE1.out HSp1.out).mono ?_
    intro e w2 hr
    obtain ⟨hb2, ⟨h2, rfl⟩ | ⟨h2, g, n, cap, rfl, ho⟩⟩ := hr.new.open
    · clear hr
      have HX : Hid (NewRes (apartP c) w (.returned (.slice (some ⟨w2.heap.size, 0, none⟩) 1 1)) (w2.alloc (.cells #[.int .i64 c] 3))) := Lib.hid (by
        rw [apartP_self H1.out h2]; exact one_new c (hb.trans (hb2.mono hb.size)))
      clear h2 hb hb2
      go_wp2_with fail
      go_ret
      exact HX.out
    · clear hr
      have HX : Hid (NewRes (apartP c) w (.returned (.slice (some ⟨g, 0, none⟩) n cap)) w2) := Lib.hid (by
        rw [apartP_map H1.out h2]; exact NewRes.of h2 (ho.base hb.size) (hb.trans (hb2.mono hb.size)))
      clear h2 hb hb2 ho
      go_wp2_with fail
      go_ret
      exact HX.out
  · clear hr
    have HX : Hid (NewRes (apartP c) w (.returned (.slice (some ⟨g, 0, none⟩) n cap)) w1) := Lib.hid (by
      rw [apartP_split h1]; exact NewRes.of h1 ho hb)
    clear h1 hb ho
    go_wp2_with fail
    go_ret
    exact HX.out
set_option maxRecDepth 100000 in
set_option maxHeartbeats 1000000 in
theorem rapart_any (c : Int) (hc0 : -9223372036854775808 ≤ c) (hc1 : c ≤ 9223372036854775807) (w : World) :
    Calls Tryz.prog 95 #[.int .i64 c] w (NewRes (apartP c) w) := by
  have HS : Hid (∀ w, Calls Tryz.prog 108 #[.int .i64 c] w (NewRes (splitP c) w)) := Lib.hid fun w => rsplit_any c hc0 hc1 w
  have HM : Hid (∀ w, Calls Tryz.prog 109 #[.int .i64 c] w (MapRes (mapP c) w)) := Lib.hid fun w => rmap_any c hc0 hc1 w
  clear hc0 hc1
  have hq1 : ∀ w, (binOp .eql 44 (.slice none 0 0) (.slice none 0 0)).run Tryz.prog w = .ok (.bool true) w := fun w => Lib.run_eql_slice_nil w 44 3 none 0 0 0 0 Tryz.underlying44
  have hq2 : ∀ g n c w, (binOp .eql 44 (.slice (some ⟨g, 0, none⟩) n c) (.slice none 0 0)).run Tryz.prog w = .ok (.bool false) w := fun g n c w => Lib.run_eql_slice_nil w 44 3 (some ⟨g, 0, none⟩) n c 0 0 Tryz.underlying44
  go_enter Tryz.func95, Tryz.ntmps95
  go_wp2_with fail
  refine (HS.out _).mono ?_
  intro e w1 hr
  obtain ⟨hb, ⟨h1, rfl⟩ | ⟨h1, g, n, cap, rfl, ho⟩⟩ := hr.open
  · clear hr
    have H1 := Lib.hid h1
    clear h1
    go_wp2_with fail
    refine (HM.out _).mono ?_
    intro e w2 hr
    obtain ⟨hb2, ⟨h2, rfl⟩ | ⟨h2, g, n, cap, rfl, ho⟩⟩ := hr.new.open
    · clear hr
      have HX : Hid (NewRes (apartP c) w (.returned (.slice (some ⟨w2.heap.size, 0, none⟩) 1 1)) (w2.alloc (.cells #[.int .i64 c] 3))) := Lib.hid (by
        rw [apartP_self H1.out h2]; exact one_new c (hb.trans (hb2.mono hb.size)))
      clear h2 hb hb2
      go_wp2_with fail
      go_ret
      exact HX.out
    · clear hr
      have HX : Hid (NewRes (apartP c) w (.returned (.slice (some ⟨g, 0, none⟩) n cap)) w2) := Lib.hid (by
        rw [apartP_map H1.out h2]; exact NewRes.of h2 (ho.base hb.size) (hb.trans (hb2.mono hb.size)))
      clear h2 hb hb2 ho
      go_wp2_with fail
      go_ret
      exact HX.out
  · clear hr
    have HX : Hid (NewRes (apartP c) w (.returned (.slice (some ⟨g, 0, none⟩) n cap)) w1) := Lib.hid (by
      rw [apartP_split h1]; exact NewRes.of h1 ho hb)
    clear h1 hb ho
    go_wp2_with fail
    go_ret
    exact HX.out
end Go.Proofs.YtjhkfjbgdaomeaaGreatDoor
