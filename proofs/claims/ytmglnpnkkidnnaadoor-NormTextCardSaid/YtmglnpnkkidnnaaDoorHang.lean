/- The walks of hangul.Split, hangul.Join and the reference's Split: what they answer, as plain functions. -/
import Derived.Test.YtmglnpnkkidnnaaDoorInts
import Derived.Test.YtmglnpnkkidnnaaDoorSrc
namespace Go.Proofs.YtmglnpnkkidnnaaDoor
set_option linter.unusedVariables false
open Go.RowKit
/-- what a slice-making call of one's own answers: a new slice that holds l, nil just where l is empty. -/
def NewRes (l : List Int) (w : World) (e : Ending) (w' : World) : Prop := ∃ v, e = .returned v ∧ OwnV 3 w.heap.size w' v (l.map (Value.int .i64)) ∧ (v = .slice none 0 0 ↔ l = []) ∧ Below w.heap.size w w'
theorem own_fresh {E : Nat} (w : World) (news : List Value) (n : Nat) (hn : news.length = n) (h0 : 0 < n) (hm : n ≤ maxLen) : OwnV E w.heap.size (w.alloc (.cells news.toArray E)) (.slice (some ⟨w.heap.size, 0, none⟩) n n) news := by
  subst hn
  refine ⟨(Nat.mul_one _).symm, .inr ⟨w.heap.size, news.length, news.toArray, rfl, Nat.le_refl _, heap_alloc_new .., Nat.le_refl _, hm, by simp, by simp⟩⟩
theorem OwnV.notNil {E B : Nat} {w : World} {v : Value} {vs : List Value} (h : OwnV E B w v vs) (h0 : vs ≠ []) : v ≠ .slice none 0 0 := by
  rcases h.nilOr with ⟨-, e⟩ | ⟨g, cap, e, -⟩
  · exact absurd e h0
  · rw [e]; intro h; cases h
def splitP (c : Int) : List Int := if 44032 ≤ c ∧ c ≤ 55203 then (if (c - 44032) % 28 = 0 then [4352 + (c - 44032) / 28 / 21, 4449 + (c - 44032) / 28 % 21] else [4352 + (c - 44032) / 28 / 21, 4449 + (c - 44032) / 28 % 21, 4519 + (c - 44032) % 28]) else []
theorem within_any (c f n : Int) (h0 : 0 ≤ f) (h1 : f ≤ 100000) (h2 : 0 ≤ n) (h3 : n ≤ 100000) (b : Bool) (hb : b = decide (f ≤ c ∧ c < f + n)) (w : World) :
    Calls Tryd.prog 49 #[.int .i64 c, .int .i64 f, .int .i64 n] w fun e w' => e = .returned (.bool b) ∧ w = w' := by
  have HB := Lib.hid hb
  clear hb
  by_cases hf : f ≤ c
  · by_cases hn : c < f + n
    · go_enter Tryd.func49, Tryd.ntmps49
      go_wp2
      go_ret
      exact ⟨ret_bool (by rw [HB.out]; simp; omega), rfl⟩
    · go_enter Tryd.func49, Tryd.ntmps49
      go_wp2
      go_ret
      exact ⟨ret_bool (by rw [HB.out]; simp; omega), rfl⟩
  · go_enter Tryd.func49, Tryd.ntmps49
    go_wp2
    go_ret
    exact ⟨ret_bool (by rw [HB.out]; simp; omega), rfl⟩
theorem splitP_no {c : Int} (h : ¬ (44032 ≤ c ∧ c ≤ 55203)) : splitP c = [] := if_neg h
theorem splitP_two {c : Int} (h : 44032 ≤ c ∧ c ≤ 55203) (h2 : (c - 44032) % 28 = 0) : splitP c = [4352 + (c - 44032) / 28 / 21, 4449 + (c - 44032) / 28 % 21] := by unfold splitP; rw [if_pos h, if_pos h2]
theorem splitP_three {c : Int} (h : 44032 ≤ c ∧ c ≤ 55203) (h2 : ¬ (c - 44032) % 28 = 0) : splitP c = [4352 + (c - 44032) / 28 / 21, 4449 + (c - 44032) / 28 % 21, 4519 + (c - 44032) % 28] := by unfold splitP; rw [if_pos h, if_neg h2]
theorem NewRes.mk {l : List Int} {w w' : World} {v : Value} (h1 : OwnV 3 w.heap.size w' v (l.map (Value.int .i64))) (h2 : v = .slice none 0 0 ↔ l = []) (h3 : Below w.heap.size w w') : NewRes l w (.returned v) w' := ⟨v, rfl, h1, h2, h3⟩
set_option maxHeartbeats 1000000 in
theorem split_any (c : Int) (hc0 : -9223372036854775808 ≤ c) (hc1 : c ≤ 9223372036854775807) (w : World) :
    Calls Tryd.prog 37 #[.int .i64 c] w (NewRes (splitP c) w) := by
  have HW : ∀ b : Bool, b = decide (44032 ≤ c ∧ c < 44032 + 11172) → Hid (∀ w, Calls Tryd.prog 49 #[.int .i64 c, .int .i64 44032, .int .i64 11172] w fun e w' => e = .returned (.bool b) ∧ w = w') := fun b hb => Lib.hid fun w => within_any c 44032 11172 (by omega) (by omega) (by omega) (by omega) b hb w
  by_cases hs : 44032 ≤ c ∧ c ≤ 55203
  · have HT := HW true (by simp; omega)
    clear HW
    have HO := Lib.hid (own_fresh (E := 3) w [.int .i64 (4352 + (c - 44032) / 28 / 21), .int .i64 (4449 + (c - 44032) / 28 % 21)] 2 rfl (by decide) (by simp [maxLen]))
    by_cases h28 : (c - 44032) % 28 = 0
    · have HP := Lib.hid (splitP_two hs h28)
      generalize splitP c = l at *
      obtain ⟨hs1, hs2⟩ := hs
      have hd : decide (0 < (c - 44032) % 28) = false := by rw [h28]; rfl
      clear h28
      go_enter Tryd.func37, Tryd.ntmps37
      go_wp2_with fail
      refine (HT.out _).mono ?_
      rintro e w' ⟨rfl, rfl⟩
      go_wp2
      go_ret
      exact NewRes.mk (by rw [HP.out]; exact HO.out) (by rw [HP.out]; simp) ((Below.refl _ w).alloc (Nat.le_refl _) _)
    · have HP := Lib.hid (splitP_three hs h28)
      generalize splitP c = l at *
      obtain ⟨hs1, hs2⟩ := hs
      have hd : decide (0 < (c - 44032) % 28) = true := by simp; omega
      clear h28
      go_enter Tryd.func37, Tryd.ntmps37
      go_wp2_with fail
      refine (HT.out _).mono ?_
      rintro e w' ⟨rfl, rfl⟩
      go_wp2_with (at_builtin; refine wp_appH elem_int _ _ (by rfl) (by rfl) (by rfl) HO.out [_] 1 _ rfl (by rfl) ?c1 (by decide) ?c2 ?c3 ?c4 ?c5 ?_)
      case c1 => simp
      case c2 => simp [Value.oneCell']
      case c3 => simp
      case c4 => simp [maxLen]
      case c5 => simp
      intro v' w2 hown2 hbel2
      have hnn := Lib.hid (OwnV.notNil hown2 (by simp))
      go_wp2
      go_ret
      exact NewRes.mk (by rw [HP.out]; exact hown2) ⟨fun h => absurd h hnn.out, fun h => by rw [HP.out] at h; simp at h⟩ (((Below.refl _ w).alloc (Nat.le_refl _) _).trans hbel2)
  · have HT := HW false (by simp; omega)
    have HP := Lib.hid (splitP_no hs)
    generalize splitP c = l at *
    clear HW hs
    go_enter Tryd.func37, Tryd.ntmps37
    go_wp2_with fail
    refine (HT.out _).mono ?_
    rintro e w' ⟨rfl, rfl⟩
    go_wp2
    go_ret
    exact NewRes.mk (by rw [HP.out]; exact OwnV.nil _ _ _) (by rw [HP.out]; simp) (Below.refl _ w)
theorem divs {n k j : Int} (h1 : 0 ≤ n - (k * 21 + j) * 28) (h2 : n - (k * 21 + j) * 28 < 28) (h3 : 0 ≤ k) (h4 : 0 ≤ j) (h5 : j < 21) : n / 28 / 21 = k ∧ n / 28 % 21 = j ∧ n % 28 = n - (k * 21 + j) * 28 := by
  have e : n / 28 = k * 21 + j := by omega
  refine ⟨by omega, by omega, by omega⟩
set_option maxHeartbeats 1000000 in
theorem rsplit_any (c : Int) (hc0 : -9223372036854775808 ≤ c) (hc1 : c ≤ 9223372036854775807) (w : World) :
    Calls Tryd.prog 32 #[.int .i64 c] w (NewRes (splitP c) w) := by
  obtain ⟨l, hl⟩ : ∃ l, splitP c = l := ⟨_, rfl⟩
  have HL := Lib.hid hl
  rw [hl]
  clear hl
  by_cases hs : 44032 ≤ c ∧ c ≤ 55203
  · obtain ⟨hs1, hs2⟩ := hs
    go_enter Tryd.func32, Tryd.ntmps32
    go_wp2
    go_loop [3] (fun i => ∃ k : Nat, i = .int .i64 k ∧ k ≤ 19 ∧ (k : Int) * 588 ≤ c - 44032) (fun i => 19 - (intOf i).toNat)
    case atStart => exact ⟨0, rfl, by omega, by omega⟩
    case round =>
      obtain ⟨k, rfl, hk, hck⟩ := hrel
      have hk19 : k < 19 := by omega
      go_wp2
      go_loop [4] (fun i => ∃ j : Nat, i = .int .i64 j ∧ j ≤ 21 ∧ ((k : Int) * 21 + j) * 28 ≤ c - 44032) (fun i => 21 - (intOf i).toNat)
      case atStart => exact ⟨0, rfl, by omega, by omega⟩
      case round =>
        obtain ⟨j, rfl, hj, hcj⟩ := hrel
        by_cases hj2 : j < 21
        · by_cases h28 : c - 44032 - ((k : Int) * 21 + j) * 28 < 28
          · obtain ⟨d1, d2, d3⟩ := divs (n := c - 44032) (k := k) (j := j) (by omega) h28 (by omega) (by omega) (by omega)
            by_cases h0 : c - 44032 - ((k : Int) * 21 + j) * 28 = 0
            · have HP := Lib.hid (splitP_two (c := c) ⟨hs1, hs2⟩ (by rw [d3]; exact h0))
              rw [d1, d2] at HP
              clear d1 d2 d3
              have hd0 : ((c - 44032 - ((k : Int) * 21 + j) * 28) == 0) = true := by simpa using h0
              clear h0
              rw [HL.out] at HP
              go_wp2
              go_ret
              exact NewRes.mk (by rw [HP.out]; exact own_fresh w [_, _] 2 rfl (by decide) (by simp [maxLen])) (by rw [HP.out]; simp) ((Below.refl _ w).alloc (Nat.le_refl _) _)
            · have HP := Lib.hid (splitP_three (c := c) ⟨hs1, hs2⟩ (by rw [d3]; exact h0))
              rw [d1, d2, d3] at HP
              clear d1 d2 d3
              have hd0 : ((c - 44032 - ((k : Int) * 21 + j) * 28) == 0) = false := by simpa using h0
              clear h0
              rw [HL.out] at HP
              go_wp2
              go_ret
              exact NewRes.mk (by rw [HP.out]; exact own_fresh w [_, _, _] 3 rfl (by decide) (by simp [maxLen])) (by rw [HP.out]; simp) ((Below.refl _ w).alloc (Nat.le_refl _) _)
          · go_wp2
            go_round
            case rel => exact ⟨j + 1, by go_num, by omega, by omega⟩
            case measure => simp [intOf]; omega
        · obtain rfl : j = 21 := by omega
          go_wp2
          go_round
          case rel => exact ⟨k + 1, by go_num, by omega, by omega⟩
          case measure => simp [intOf]; omega
  · have HP := Lib.hid (splitP_no hs)
    rw [HL.out] at HP
    by_cases h1 : c < 44032
    · go_enter Tryd.func32, Tryd.ntmps32
      go_wp2
      go_ret
      exact NewRes.mk (by rw [HP.out]; exact OwnV.nil _ _ _) (by rw [HP.out]; simp) (Below.refl _ w)
    · have h2 : 55203 < c := by omega
      clear hs
      go_enter Tryd.func32, Tryd.ntmps32
      go_wp2
      go_ret
      exact NewRes.mk (by rw [HP.out]; exact OwnV.nil _ _ _) (by rw [HP.out]; simp) (Below.refl _ w)
end Go.Proofs.YtmglnpnkkidnnaaDoor
