/- The walk of the reference's Get. -/
import Derived.Test.YtaddihabjdoihaaNumGet
namespace Go.Proofs.Ytaddihabjdoihaa
set_option linter.unusedVariables false
open Go.RowKit
theorem rget_step {p : List UInt8} {t m : Nat} {c : UInt8} (hc : p[t]? = some c) (H : Hid (m = valN (p.drop (t + 1)))) : Hid (m * 128 + c.toNat % 128 = valN (p.drop t)) := Lib.hid (by
  rw [valN_drop p t c hc, H.out, Nat.mul_comm, Nat.add_comm])
theorem rget_last {l : List UInt8} {j : Nat} {c : UInt8} {r : Option (Nat × Nat)} (HR : Hid (getN l = r)) (hc : l[j]? = some c) (h10 : j < 10) (h128 : c.toNat < 128)
    (HT : Hid (∀ (t : Nat) (c : UInt8), t < j → l[t]? = some c → 128 ≤ c.toNat)) :
    Hid (r = if 0 < j ∧ c.toNat = 0 then none else if valN (l.take (j + 1)) < 2 ^ 64 then some (valN (l.take (j + 1)), j + 1) else none) := Lib.hid (by
  have hz : c = 0 ↔ c.toNat = 0 := ⟨fun e => by rw [e]; rfl, fun e => UInt8.toNat_inj.1 (by rw [e]; rfl)⟩
  rw [← HR.out, getN_at HT.out h10 hc h128]
  simp only [hz])
set_option maxHeartbeats 2000000 in
set_option maxRecDepth 100000 in
theorem rget_any (v : Value) (l : List UInt8) (w : World) (h : RdB w v l) : Calls Try.prog 34 #[v] w (GetRes (getN l) w) := by
  rcases h with ⟨a, cap, rfl, e⟩ | ⟨b, off, cap, rfl, h1, h2, h3, h4, h5⟩
  · have : l = [] := by simpa using e
    subst this
    go_enter Try.func34, Try.ntmps34
    go_wp2
    refine wp_loop_rounds 1 ?_
    rw [rounds_succ]
    go_wp2
    go_ret2
    exact ⟨rfl, rfl⟩
  · rw [List.length_map] at h1 h2 h5 ⊢
    have HC : Hid (∀ i, i < l.length → w.cell? ⟨b, off + i, none⟩ = some (.int .u8 ((l.getD i 0).toNat : Int))) := Lib.hid fun i hi => by
      rw [h5 i hi, List.getD_eq_getElem?_getD, List.getD_eq_getElem?_getD, List.getElem?_map, List.getElem?_eq_getElem hi]; rfl
    have HGet : Hid (∀ j, j < l.length → l[j]? = some (l.getD j 0)) := Lib.hid fun j hj => by rw [List.getD_eq_getElem?_getD, List.getElem?_eq_getElem hj]; rfl
    obtain ⟨r, hr⟩ : ∃ r, getN l = r := ⟨_, rfl⟩
    have HR := Lib.hid hr
    rw [hr]
    clear hr h5
    unfold maxLen at h3
    go_enter Try.func34, Try.ntmps34
    go_wp2
    go_loop [4] (fun i => ∃ (j : Nat), i = .int .i64 ((j : Int) + 1) ∧ j ≤ 10 ∧ j ≤ l.length ∧ Hid (∀ (t : Nat) (c : UInt8), t < j → l[t]? = some c → 128 ≤ c.toNat))
      (fun i => 11 - (intOf i).toNat)
    case atStart => exact ⟨0, rfl, by omega, by omega, Lib.hid (fun t c h => by omega)⟩
    case round =>
      obtain ⟨j, rfl, hj, hjl, HT⟩ := hrel
      by_cases hlt : j < l.length ∧ j < 10
      · obtain ⟨hlt, h10⟩ := hlt
        have hc := HC.out j hlt
        have HG : Hid (l[j]? = some (l.getD j 0)) := Lib.hid (HGet.out j hlt)
        generalize l.getD j 0 = c at hc HG
        have hz1 : (j : Int) + 1 ≤ (l.length : Int) := by omega
        have hz2 : (j : Int) + 1 ≤ 10 := by omega
        have hcb : c.toNat < 256 := c.toNat_lt
        by_cases h128 : 128 ≤ c.toNat
        · have HTn : Hid (∀ (t : Nat) (c : UInt8), t < j + 1 → l[t]? = some c → 128 ≤ c.toNat) := Lib.hid fun t d ht hd => by
            rcases Nat.lt_or_ge t j with h | h
            · exact HT.out t d h hd
            · obtain rfl : t = j := by omega
              rw [HG.out] at hd
              obtain rfl := Option.some.inj hd
              exact h128
          clear HT HG
          have hz3 : 128 ≤ (c.toNat : Int) := by omega
          go_wp2_with fail
          refine ⟨⟨j + 1, by go_num, by omega, hlt, HTn⟩, by simp [intOf]; omega⟩
        · have HL := rget_last HR HG.out h10 (by omega) HT
          clear HT HR
          have hz3 : ¬ 128 ≤ (c.toNat : Int) := by omega
          obtain ⟨p, hp⟩ : ∃ p, l.take (j + 1) = p := ⟨_, rfl⟩
          have HP : Hid (∀ t, t ≤ j → p[t]? = l[t]?) := Lib.hid fun t ht => by rw [← hp, List.getElem?_take_of_lt (by omega)]
          have HPL : Hid (p.length = j + 1) := Lib.hid (by rw [← hp, List.length_take]; omega)
          have HPN : Hid (p.drop (j + 1) = []) := Lib.hid (List.drop_of_length_le (by rw [HPL.out]; exact Nat.le_refl _))
          rw [hp] at HL
          clear hp
          have hdc : decide ((j : Int) + 1 ≤ (l.length : Int)) = true := decide_eq_true hz1
          have hdc2 : decide ((j : Int) + 1 ≤ 10) = true := decide_eq_true hz2
          have hdc3 : decide (128 ≤ (c.toNat : Int)) = false := decide_eq_false hz3
          go_wp2_with fail
          go_loop [5, 6] (fun n i => ∃ (t m : Nat), n = .int .u64 (m : Int) ∧ i = .int .i64 ((t : Int) - 1) ∧ t ≤ j + 1 ∧ m < 18446744073709551616 ∧ Hid (m = valN (p.drop t)))
            (fun _ i => (intOf i + 1).toNat)
          case atStart => exact ⟨j + 1, 0, rfl, by go_num, by omega, by omega, Lib.hid (by rw [HPN.out]; rfl)⟩
          case round =>
            obtain ⟨t, m, rfl, rfl, ht, hm, HM⟩ := hrel
            rcases t with _ | s
            · have hM := HM.out
              rw [List.drop_zero] at hM
              rw [← hM] at HL
              have hz5 : ¬ (0 : Int) ≤ ((0 : Nat) : Int) - 1 := by omega
              clear HM hM
              by_cases hA : 0 < j ∧ c.toNat = 0
              · rw [if_pos hA] at HL
                obtain rfl := HL.out
                have hz6 : (1 : Int) < (j : Int) + 1 := by omega
                have hz7 : (c.toNat : Int) = 0 := by omega
                clear hA HL
                go_wp2
                go_ret2
                exact ⟨rfl, rfl⟩
              · rw [if_neg hA, if_pos (by omega)] at HL
                obtain rfl := HL.out
                rcases Nat.eq_zero_or_pos j with h0 | h0
                · have hz6 : ¬ (1 : Int) < (j : Int) + 1 := by omega
                  clear hA HL h0
                  go_wp2
                  go_ret2
                  exact ⟨rfl, rfl⟩
                · have hz6 : (1 : Int) < (j : Int) + 1 := by omega
                  have hz7 : ¬ (c.toNat : Int) = 0 := by omega
                  clear hA HL
                  go_wp2
                  go_ret2
                  exact ⟨rfl, rfl⟩
            · have hsl : s < l.length := by omega
              have hc2 := HC.out s hsl
              have HG2 : Hid (p[s]? = some (l.getD s 0)) := Lib.hid (by rw [HP.out s (by omega)]; exact HGet.out s hsl)
              generalize l.getD s 0 = c2 at hc2 HG2
              have hcb2 : c2.toNat < 256 := c2.toNat_lt
              have hz5 : (0 : Int) ≤ ((s + 1 : Nat) : Int) - 1 := by omega
              have hz8 : (((s + 1 : Nat) : Int) - 1) = (s : Int) := by omega
              have hz9 : (s : Int) < (l.length : Int) := by omega
              by_cases hbig : 144115188075855872 ≤ m
              · have hB : ¬ valN p < 2 ^ 64 := valN_big (i := s) (by rw [← HM.out]; exact hbig) (by rw [HPL.out]; omega)
                rw [if_neg hB] at HL
                have hL2 := HL.out
                rw [ite_self] at hL2
                subst hL2
                have hz6 : (144115188075855872 : Int) ≤ (m : Int) := by omega
                clear HL HM hB
                go_wp2
                go_ret2
                exact ⟨rfl, rfl⟩
              · have HMn := rget_step HG2.out HM
                clear HM HG2
                have hz6 : ¬ (144115188075855872 : Int) ≤ (m : Int) := by omega
                go_wp2
                refine ⟨⟨s, m * 128 + c2.toNat % 128, by go_num, by go_num, by omega, by omega, HMn⟩, by simp [intOf] <;> omega⟩
      · have HL : Hid (r = none) := Lib.hid (by
          rw [← HR.out]
          refine getN_high fun t c ht hc => HT.out t c ?_ hc
          have := (List.getElem?_eq_some_iff.1 hc).1
          omega)
        obtain rfl := HL.out
        clear HT HL HR
        rcases Nat.lt_or_ge j 10 with h | h
        · have hz1 : (j : Int) + 1 ≤ 10 := by omega
          have hz2 : ¬ (j : Int) + 1 ≤ (l.length : Int) := by omega
          clear hlt
          go_wp2
          go_ret2
          exact ⟨rfl, rfl⟩
        · have hz1 : ¬ (j : Int) + 1 ≤ 10 := by omega
          clear hlt
          go_wp2
          go_ret2
          exact ⟨rfl, rfl⟩
end Go.Proofs.Ytaddihabjdoihaa
