/- The walks of hangul.Split, hangul.Join and the reference's Split: what they answer, as plain functions. -/
import Derived.Test.YtgjoaphjichimaaInts
import Derived.Test.YtgjoaphjichimaaSrc
namespace Go.Proofs.Ytgjoaphjichimaa
set_option linter.unusedVariables false
open Go.RowKit
/-- what a slice-making call of one's own answers: a new slice that holds l, nil just where l is empty. -/
def NewRes (l : List Int) (w : World) (e : Ending) (w' : World) : Prop := ∃ v, e = .returned v ∧ OwnV 3 w.heap.size w' v (l.map (Value.int .i64)) ∧ (v = .slice none 0 0 ↔ l = []) ∧ Below w.heap.size w w'
theorem own_fresh {E : Nat} (w : World) (news : List Value) (n : Nat) (hn : news.length = n) (h0 : 0 < n) (hm : n ≤ maxLen) : OwnV E w.heap.size (w.alloc (.cells news.toArray E)) (.slice (some ⟨w.heap.size, 0, none⟩) n n) news := by
  subst hn
  refine ⟨(Nat.mul_one _).symm, .inr ⟨w.heap.size, news.length, news.toArray, rfl, Nat.le_refl _, heap_alloc_new .., Nat.le_refl _, hm, by simp, by simp⟩⟩
theorem OwnV.notNil {E B : Nat} {w : World} {v : Value} {vs : List Value} (h : OwnV E B w v vs) (h0 : vs ≠ []) : v ≠ .slice none 0 0 := by
  rcases h.nilOr with ⟨-, e⟩ | ⟨g, cap, e, -⟩
  · exact absurd e h0
  · rw [e]; intro h; cases h
def splitP (c : Int) : List Int := if 44032 ≤ c ∧ c ≤ 55203 then (if (c - 44032) % 28 = 0 then [4352 + (c - 44032) / 28 / 21, 4449 + (c - 44032) / 28 % 21] else [4352 + (c - 44032) / 28 / 21, 4449 + (c - 44032) / 28 % 21, 4519 + (c - 44032) % 28]) else []
theorem within_any (c f n : Int) (h0 : 0 ≤ f) (h1 : f ≤ 100000) (h2 : 0 ≤ n) (h3 : n ≤ 100000) (b : Bool) (hb : b = decide (f ≤ c ∧ c < f + n)) (w : World) :
    Calls Try.prog 10 #[.int .i64 c, .int .i64 f, .int .i64 n] w fun e w' => e = .returned (.bool b) ∧ w = w' := by
  have HB := Lib.hid hb
  clear hb
  by_cases hf : f ≤ c
  · by_cases hn : c < f + n
    · go_enter Try.func10, Try.ntmps10
      go_wp2
      go_ret
      exact ⟨ret_bool (by rw [HB.out]; simp; omega), rfl⟩
    · go_enter Try.func10, Try.ntmps10
      go_wp2
      go_ret
      exact ⟨ret_bool (by rw [HB.out]; simp; omega), rfl⟩
  · go_enter Try.func10, Try.ntmps10
    go_wp2
    go_ret
    exact ⟨ret_bool (by rw [HB.out]; simp; omega), rfl⟩
theorem splitP_no {c : Int} (h : ¬ (44032 ≤ c ∧ c ≤ 55203)) : splitP c = [] := if_neg h
theorem splitP_two {c : Int} (h : 44032 ≤ c ∧ c ≤ 55203) (h2 : (c - 44032) % 28 = 0) : splitP c = [4352 + (c - 44032) / 28 / 21, 4449 + (c - 44032) / 28 % 21] := by unfold splitP; rw [if_pos h, if_pos h2]
theorem splitP_three {c : Int} (h : 44032 ≤ c ∧ c ≤ 55203) (h2 : ¬ (c - 44032) % 28 = 0) : splitP c = [4352 + (c - 44032) / 28 / 21, 4449 + (c - 44032) / 28 % 21, 4519 + (c - 44032) % 28] := by unfold splitP; rw [if_pos h, if_neg h2]
theorem NewRes.mk {l : List Int} {w w' : World} {v : Value} (h1 : OwnV 3 w.heap.size w' v (l.map (Value.int .i64))) (h2 : v = .slice none 0 0 ↔ l = []) (h3 : Below w.heap.size w w') : NewRes l w (.returned v) w' := ⟨v, rfl, h1, h2, h3⟩
set_option maxHeartbeats 1000000 in
theorem split_any (c : Int) (hc0 : -9223372036854775808 ≤ c) (hc1 : c ≤ 9223372036854775807) (w : World) :
    Calls Try.prog 6 #[.int .i64 c] w (NewRes (splitP c) w) := by
  have HW : ∀ b : Bool, b = decide (44032 ≤ c ∧ c < 44032 + 11172) → Hid (∀ w, Calls Try.prog 10 #[.int .i64 c, .int .i64 44032, .int .i64 11172] w fun e w' => e = .returned (.bool b) ∧ w = w') := fun b hb => Lib.hid fun w => within_any c 44032 11172 (by omega) (by omega) (by omega) (by omega) b hb w
  by_cases hs : 44032 ≤ c ∧ c ≤ 55203
  · have HT := HW true (by simp; omega)
    clear HW
    have HO := Lib.hid (own_fresh (E := 3) w [.int .i64 (4352 + (c - 44032) / 28 / 21), .int .i64 (4449 + (c - 44032) / 28 % 21)] 2 rfl (by decide) (by simp [maxLen]))
    by_cases h28 : (c - 44032) % 28 = 0
    · have HP := Lib.hid (splitP_two hs h28)
      generalize splitP c = l at *
      obtain ⟨hs1, hs2⟩ := hs
      have hd : decide (0 < (c - 44032) % 28) = false := by rw [h28]; rfl
      clear h28
      go_enter Try.func6, Try.ntmps6
      go_wp2_with fail
      refine (HT.out _).mono ?_
      rintro e w' ⟨rfl, rfl⟩
      go_wp2
      go_ret
      exact NewRes.mk (by rw [HP.out]; exact HO.out) (by rw [HP.out]; simp) ((Below.refl _ w).alloc (Nat.le_refl _) _)
    · have HP := Lib.hid (splitP_three hs h28)
      generalize splitP c = l at *
      obtain ⟨hs1, hs2⟩ := hs
      have hd : decide (0 < (c - 44032) % 28) = true := by simp; omega
      clear h28
      go_enter Try.func6, Try.ntmps6
      go_wp2_with fail
      refine (HT.out _).mono ?_
      rintro e w' ⟨rfl, rfl⟩
      go_wp2_with (at_builtin; refine wp_appH elem_int _ _ (by rfl) (by rfl) (by rfl) HO.out [_] 1 _ rfl (by rfl) ?c1 (by decide) ?c2 ?c3 ?c4 ?c5 ?_)
      case c1 => simp
      case c2 => simp [Value.oneCell']
      case c3 => simp
      case c4 => simp [maxLen]
      case c5 => simp
      intro v' w2 hown2 hbel2
      have hnn := Lib.hid (OwnV.notNil hown2 (by simp))
      go_wp2
      go_ret
      exact NewRes.mk (by rw [HP.out]; exact hown2) ⟨fun h => absurd h hnn.out, fun h => by rw [HP.out] at h; simp at h⟩ (((Below.refl _ w).alloc (Nat.le_refl _) _).trans hbel2)
  · have HT := HW false (by simp; omega)
    have HP := Lib.hid (splitP_no hs)
    generalize splitP c = l at *
    clear HW hs
    go_enter Try.func6, Try.ntmps6
    go_wp2_with fail
    refine (HT.out _).mono ?_
    rintro e w' ⟨rfl, rfl⟩
    go_wp2
    go_ret
    exact NewRes.mk (by rw [HP.out]; exact OwnV.nil _ _ _) (by rw [HP.out]; simp) (Below.refl _ w)
/-- what Join answers. -/
def joinT (t : Int) : Int := if t = 0 then 4519 else t
def joinOk (l v t : Int) : Bool := decide (4352 ≤ l ∧ l < 4352 + 19) && decide (4449 ≤ v ∧ v < 4449 + 21) && (decide (t = 0) || decide (4519 < t ∧ t < 4519 + 28))
def joinP (l v t : Int) : Int := if joinOk l v t then 44032 + ((l - 4352) * 21 + v - 4449) * 28 + (joinT t - 4519) else -1
theorem joinP_yes {l v t : Int} (h : joinOk l v t = true) : joinP l v t = 44032 + ((l - 4352) * 21 + v - 4449) * 28 + joinT t - 4519 := by unfold joinP; rw [if_pos h]; omega
theorem joinP_no {l v t : Int} (h : joinOk l v t = false) : joinP l v t = -1 := by unfold joinP; rw [if_neg (by rw [h]; decide)]
set_option maxHeartbeats 1000000 in
theorem join_any (l v t : Int) (w : World) :
    Calls Try.prog 9 #[.int .i64 l, .int .i64 v, .int .i64 t] w fun e w' => e = .returned (.int .i64 (joinP l v t)) ∧ w = w' := by
  have HL : ∀ b : Bool, b = decide (4352 ≤ l ∧ l < 4352 + 19) → Hid (∀ w, Calls Try.prog 10 #[.int .i64 l, .int .i64 4352, .int .i64 19] w fun e w' => e = .returned (.bool b) ∧ w = w') := fun b hb => Lib.hid fun w => within_any l 4352 19 (by omega) (by omega) (by omega) (by omega) b hb w
  have HV : ∀ b : Bool, b = decide (4449 ≤ v ∧ v < 4449 + 21) → Hid (∀ w, Calls Try.prog 10 #[.int .i64 v, .int .i64 4449, .int .i64 21] w fun e w' => e = .returned (.bool b) ∧ w = w') := fun b hb => Lib.hid fun w => within_any v 4449 21 (by omega) (by omega) (by omega) (by omega) b hb w
  have HT : ∀ (x : Int) (b : Bool), b = decide (4519 ≤ x ∧ x < 4519 + 28) → Hid (∀ w, Calls Try.prog 10 #[.int .i64 x, .int .i64 4519, .int .i64 28] w fun e w' => e = .returned (.bool b) ∧ w = w') := fun x b hb => Lib.hid fun w => within_any x 4519 28 (by omega) (by omega) (by omega) (by omega) b hb w
  by_cases ht : t = 4519
  · have HP := Lib.hid (joinP_no (l := l) (v := v) (t := t) (by simp [joinOk, ht]))
    generalize joinP l v t = r at *
    clear HL HV HT
    subst ht
    go_enter Try.func9, Try.ntmps9
    go_wp2
    go_ret
    exact ⟨ret_int HP.out.symm, rfl⟩
  · have ht1 : ((t : Int) == 4519) = false := by simpa using ht
    by_cases hl : 4352 ≤ l ∧ l < 4352 + 19
    · by_cases hv : 4449 ≤ v ∧ v < 4449 + 21
      · by_cases hx : t = 0 ∨ (4519 < t ∧ t < 4519 + 28)
        · have HP := Lib.hid (joinP_yes (l := l) (v := v) (t := t) (by unfold joinOk; rw [decide_eq_true hl, decide_eq_true hv]; simpa using hx))
          have H1 := HL true (decide_eq_true hl).symm
          have H2 := HV true (decide_eq_true hv).symm
          obtain ⟨hl1, hl2⟩ := hl
          obtain ⟨hv1, hv2⟩ := hv
          clear HL HV
          by_cases h0 : t = 0
          · have H3 := HT 4519 true rfl
            have e0 : joinT t = 4519 := if_pos h0
            rw [e0] at HP
            generalize joinP l v t = r at *
            clear HT hx ht ht1 e0
            subst h0
            go_enter Try.func9, Try.ntmps9
            go_wp2_with (first | (go_at_call 10; (with_reducible refine (H1.out _).mono ?_); rintro e w' ⟨rfl, rfl⟩) | (go_at_call 10; (with_reducible refine (H2.out _).mono ?_); rintro e w' ⟨rfl, rfl⟩) | (go_at_call 10; (with_reducible refine (H3.out _).mono ?_); rintro e w' ⟨rfl, rfl⟩))
            go_ret
            exact ⟨ret_int (by rw [HP.out]; omega), rfl⟩
          · have H3 := HT t true (by simp; omega)
            have e0 : joinT t = t := if_neg h0
            rw [e0] at HP
            have hx' : 4519 < t ∧ t < 4519 + 28 := by omega
            obtain ⟨hx1, hx2⟩ := hx'
            generalize joinP l v t = r at *
            have h00 : ((t : Int) == 0) = false := by simpa using h0
            clear HT hx ht e0 h0
            go_enter Try.func9, Try.ntmps9
            go_wp2_with (first | (go_at_call 10; (with_reducible refine (H1.out _).mono ?_); rintro e w' ⟨rfl, rfl⟩) | (go_at_call 10; (with_reducible refine (H2.out _).mono ?_); rintro e w' ⟨rfl, rfl⟩) | (go_at_call 10; (with_reducible refine (H3.out _).mono ?_); rintro e w' ⟨rfl, rfl⟩))
            go_ret
            exact ⟨ret_int (by rw [HP.out]), rfl⟩
        · have HP := Lib.hid (joinP_no (l := l) (v := v) (t := t) (by unfold joinOk; rw [decide_eq_true hl, decide_eq_true hv]; simpa using hx))
          have H1 := HL true (decide_eq_true hl).symm
          have H2 := HV true (decide_eq_true hv).symm
          have H3 := HT t false (by simp; omega)
          have h00 : ((t : Int) == 0) = false := by simp; omega
          generalize joinP l v t = r at *
          clear HL HV HT hl hv hx ht
          go_enter Try.func9, Try.ntmps9
          go_wp2_with (first | (go_at_call 10; (with_reducible refine (H1.out _).mono ?_); rintro e w' ⟨rfl, rfl⟩) | (go_at_call 10; (with_reducible refine (H2.out _).mono ?_); rintro e w' ⟨rfl, rfl⟩) | (go_at_call 10; (with_reducible refine (H3.out _).mono ?_); rintro e w' ⟨rfl, rfl⟩))
          go_ret
          exact ⟨ret_int HP.out.symm, rfl⟩
      · have HP := Lib.hid (joinP_no (l := l) (v := v) (t := t) (by unfold joinOk; rw [decide_eq_false hv]; simp))
        have H1 := HL true (decide_eq_true hl).symm
        have H2 := HV false (decide_eq_false hv).symm
        generalize joinP l v t = r at *
        clear HL HV HT hl hv ht
        by_cases h0 : t = 0
        · subst h0
          clear ht1
          go_enter Try.func9, Try.ntmps9
          go_wp2_with (first | (go_at_call 10; (with_reducible refine (H1.out _).mono ?_); rintro e w' ⟨rfl, rfl⟩) | (go_at_call 10; (with_reducible refine (H2.out _).mono ?_); rintro e w' ⟨rfl, rfl⟩))
          go_ret
          exact ⟨ret_int HP.out.symm, rfl⟩
        · have h00 : ((t : Int) == 0) = false := by simpa using h0
          clear h0
          go_enter Try.func9, Try.ntmps9
          go_wp2_with (first | (go_at_call 10; (with_reducible refine (H1.out _).mono ?_); rintro e w' ⟨rfl, rfl⟩) | (go_at_call 10; (with_reducible refine (H2.out _).mono ?_); rintro e w' ⟨rfl, rfl⟩))
          go_ret
          exact ⟨ret_int HP.out.symm, rfl⟩
    · have HP := Lib.hid (joinP_no (l := l) (v := v) (t := t) (by unfold joinOk; rw [decide_eq_false hl]; simp))
      have H1 := HL false (decide_eq_false hl).symm
      generalize joinP l v t = r at *
      clear HL HV HT hl ht
      by_cases h0 : t = 0
      · subst h0
        clear ht1
        go_enter Try.func9, Try.ntmps9
        go_wp2_with (first | (go_at_call 10; (with_reducible refine (H1.out _).mono ?_); rintro e w' ⟨rfl, rfl⟩))
        go_ret
        exact ⟨ret_int HP.out.symm, rfl⟩
      · have h00 : ((t : Int) == 0) = false := by simpa using h0
        clear h0
        go_enter Try.func9, Try.ntmps9
        go_wp2_with (first | (go_at_call 10; (with_reducible refine (H1.out _).mono ?_); rintro e w' ⟨rfl, rfl⟩))
        go_ret
        exact ⟨ret_int HP.out.symm, rfl⟩
theorem divs {n k j : Int} (h1 : 0 ≤ n - (k * 21 + j) * 28) (h2 : n - (k * 21 + j) * 28 < 28) (h3 : 0 ≤ k) (h4 : 0 ≤ j) (h5 : j < 21) : n / 28 / 21 = k ∧ n / 28 % 21 = j ∧ n % 28 = n - (k * 21 + j) * 28 := by
  have e : n / 28 = k * 21 + j := by omega
  refine ⟨by omega, by omega, by omega⟩
set_option maxHeartbeats 1000000 in
theorem rsplit_any (c : Int) (hc0 : -9223372036854775808 ≤ c) (hc1 : c ≤ 9223372036854775807) (w : World) :
    Calls Try.prog 7 #[.int .i64 c] w (NewRes (splitP c) w) := by
  obtain ⟨l, hl⟩ : ∃ l, splitP c = l := ⟨_, rfl⟩
  have HL := Lib.hid hl
  rw [hl]
  clear hl
  by_cases hs : 44032 ≤ c ∧ c ≤ 55203
  · obtain ⟨hs1, hs2⟩ := hs
    go_enter Try.func7, Try.ntmps7
    go_wp2
    go_loop [3] (fun i => ∃ k : Nat, i = .int .i64 k ∧ k ≤ 19 ∧ (k : Int) * 588 ≤ c - 44032) (fun i => 19 - (intOf i).toNat)
    case atStart => exact ⟨0, rfl, by omega, by omega⟩
    case round =>
      obtain ⟨k, rfl, hk, hck⟩ := hrel
      have hk19 : k < 19 := by omega
      go_wp2
      go_loop [4] (fun i => ∃ j : Nat, i = .int .i64 j ∧ j ≤ 21 ∧ ((k : Int) * 21 + j) * 28 ≤ c - 44032) (fun i => 21 - (intOf i).toNat)
      case atStart => exact ⟨0, rfl, by omega, by omega⟩
      case round =>
        obtain ⟨j, rfl, hj, hcj⟩ := hrel
        by_cases hj2 : j < 21
        · by_cases h28 : c - 44032 - ((k : Int) * 21 + j) * 28 < 28
          · obtain ⟨d1, d2, d3⟩ := divs (n := c - 44032) (k := k) (j := j) (by omega) h28 (by omega) (by omega) (by omega)
            by_cases h0 : c - 44032 - ((k : Int) * 21 + j) * 28 = 0
            · have HP := Lib.hid (splitP_two (c := c) ⟨hs1, hs2⟩ (by rw [d3]; exact h0))
              rw [d1, d2] at HP
              clear d1 d2 d3
              have hd0 : ((c - 44032 - ((k : Int) * 21 + j) * 28) == 0) = true := by simpa using h0
              clear h0
              rw [HL.out] at HP
              go_wp2
              go_ret
              exact NewRes.mk (by rw [HP.out]; exact own_fresh w [_, _] 2 rfl (by decide) (by simp [maxLen])) (by rw [HP.out]; simp) ((Below.refl _ w).alloc (Nat.le_refl _) _)
            · have HP := Lib.hid (splitP_three (c := c) ⟨hs1, hs2⟩ (by rw [d3]; exact h0))
              rw [d1, d2, d3] at HP
              clear d1 d2 d3
              have hd0 : ((c - 44032 - ((k : Int) * 21 + j) * 28) == 0) = false := by simpa using h0
              clear h0
              rw [HL.out] at HP
              go_wp2
              go_ret
              exact NewRes.mk (by rw [HP.out]; exact own_fresh w [_, _, _] 3 rfl (by decide) (by simp [maxLen])) (by rw [HP.out]; simp) ((Below.refl _ w).alloc (Nat.le_refl _) _)
          · go_wp2
            go_round
            case rel => exact ⟨j + 1, by go_num, by omega, by omega⟩
            case measure => simp [intOf]; omega
        · obtain rfl : j = 21 := by omega
          go_wp2
          go_round
          case rel => exact ⟨k + 1, by go_num, by omega, by omega⟩
          case measure => simp [intOf]; omega
  · have HP := Lib.hid (splitP_no hs)
    rw [HL.out] at HP
    by_cases h1 : c < 44032
    · go_enter Try.func7, Try.ntmps7
      go_wp2
      go_ret
      exact NewRes.mk (by rw [HP.out]; exact OwnV.nil _ _ _) (by rw [HP.out]; simp) (Below.refl _ w)
    · have h2 : 55203 < c := by omega
      clear hs
      go_enter Try.func7, Try.ntmps7
      go_wp2
      go_ret
      exact NewRes.mk (by rw [HP.out]; exact OwnV.nil _ _ _) (by rw [HP.out]; simp) (Below.refl _ w)
end Go.Proofs.Ytgjoaphjichimaa
