/- The walks of crc.Sum and the reference's Sum. -/
import Derived.Test.YtdnohjhknhekhaaDoorCrcMore
namespace Go.Proofs.YtdnohjhknhekhaaDoor
set_option linter.unusedVariables false
open Go.RowKit
set_option maxHeartbeats 1000000 in
theorem sum_any (v : Value) (l : List UInt8) (w : World) (ht : TabAt w) (h : RdB w v l) : Calls Tryd.prog 24 #[v] w (U32Res (moreN 0 l) w) := by
  have HF : Hid (Calls Tryd.prog 23 #[.int .u32 0, v] w (U32Res (moreN 0 l) w)) := Lib.hid (more_any 0 (by decide) v l w ht h)
  generalize moreN 0 l = r at *
  clear h ht
  go_enter Tryd.func24, Tryd.ntmps24
  go_wp2_with fail
  refine HF.out.mono ?_
  rintro e w' ⟨rfl, rfl⟩
  go_wp2
  go_ret
  exact ⟨rfl, rfl⟩
/-- k steps of a bit -/
def csI : Nat → Nat → Nat
  | 0, c => c
  | k + 1, c => cs1 (csI k c)
theorem csI_lt : ∀ (k : Nat) {c : Nat}, c < 2 ^ 32 → csI k c < 2 ^ 32
  | 0, _, h => h
  | k + 1, _, h => cs1_lt (csI_lt k h)
theorem cs1_odd {m : Nat} (h : m < 4294967296) (ho : m % 2 = 1) : bits .xor .u32 ((m : Int) / 2) 2197175160 = (cs1 m : Int) := by
  have := u32_xor_nat (m / 2) 2197175160 (by omega) (by decide)
  unfold cs1
  rw [if_pos ho]
  exact Eq.trans (by congr 1) this
theorem cs1_even {m : Nat} (ho : ¬ m % 2 = 1) : (cs1 m : Int) = (m : Int) / 2 := by
  unfold cs1
  rw [if_neg ho]
  omega
set_option maxHeartbeats 2000000 in
set_option maxRecDepth 100000 in
theorem rsum_any (v : Value) (l : List UInt8) (w : World) (h : RdB w v l) : Calls Tryd.prog 21 #[v] w (U32Res (moreN 0 l) w) := by
  obtain ⟨r, hr⟩ : ∃ r, moreN 0 l = r := ⟨_, rfl⟩
  have HR : Hid (4294967295 ^^^ crun 4294967295 l = r) := Lib.hid hr
  rw [hr]
  clear hr
  rcases h with ⟨a, cap, rfl, e⟩ | ⟨b, off, cap, rfl, h1, h2, h3, h4, h5⟩
  · have : l = [] := by simpa using e
    subst this
    have hinv2 := u32_inv 4294967295 (by decide)
    rw [show 4294967295 ^^^ 4294967295 = r from HR.out] at hinv2
    have hinv3 : bits .xor .u32 IntKind.u32.max 4294967295 = (r : Int) := hinv2
    clear HR hinv2
    go_enter Tryd.func21, Tryd.ntmps21
    go_wp2
    refine wp_loop_rounds 1 ?_
    rw [rounds_succ]
    go_wp2
    go_ret
    exact ⟨rfl, rfl⟩
  · rw [List.length_map] at h1 h2 h5 ⊢
    have HC : Hid (∀ i, i < l.length → w.cell? ⟨b, off + i, none⟩ = some (.int .u8 ((l.getD i 0).toNat : Int))) := Lib.hid fun i hi => by
      rw [h5 i hi, List.getD_eq_getElem?_getD, List.getD_eq_getElem?_getD, List.getElem?_map, List.getElem?_eq_getElem hi]; rfl
    clear h5
    unfold maxLen at h3
    go_enter Tryd.func21, Tryd.ntmps21
    go_wp2
    go_loop [3, 4] (fun s i => ∃ (j m : Nat), s = .int .u32 (m : Int) ∧ i = .int .i64 (j : Int) ∧ j ≤ l.length ∧ m < 4294967296 ∧ Hid (m = crun 4294967295 (l.take j)))
      (fun _ i => l.length - (intOf i).toNat)
    case atStart => exact ⟨0, 4294967295, rfl, rfl, by omega, by decide, Lib.hid rfl⟩
    case round =>
      obtain ⟨j, m, rfl, rfl, hj, hm, HM⟩ := hrel
      by_cases hlt : j < l.length
      · have hcj := HC.out j hlt
        have HG : Hid (l[j]? = some (l.getD j 0)) := Lib.hid (by rw [List.getD_eq_getElem?_getD, List.getElem?_eq_getElem hlt]; rfl)
        generalize l.getD j 0 = x at hcj HG
        have hxb : x.toNat < 256 := x.toNat_lt
        have hz1 : (j : Int) < (l.length : Int) := by omega
        have e1 := u32_xor_nat m x.toNat hm (by omega)
        have b1 : m ^^^ x.toNat < 4294967296 := Nat.xor_lt_two_pow (n := 32) hm (by omega)
        obtain ⟨m1, hm1⟩ : ∃ m1, m ^^^ x.toNat = m1 := ⟨_, rfl⟩
        rw [hm1] at e1 b1
        have HM2 : Hid (csI 8 m1 = crun 4294967295 (l.take (j + 1))) := Lib.hid (by rw [crun_snoc _ l j x HG.out, ← HM.out, hm1]; rfl)
        clear hm1 HM HG
        have hdc : decide ((j : Int) < (l.length : Int)) = true := decide_eq_true hz1
        go_wp2_with fail
        go_loop [3, 5] (fun s i => ∃ (t m2 : Nat), s = .int .u32 (m2 : Int) ∧ i = .int .i64 (t : Int) ∧ t ≤ 8 ∧ m2 < 4294967296 ∧ Hid (m2 = csI t m1))
          (fun _ i => 8 - (intOf i).toNat)
        case atStart => exact ⟨0, m1, rfl, rfl, by omega, b1, Lib.hid rfl⟩
        case round =>
          obtain ⟨t, m2, rfl, rfl, ht, hm2, HI⟩ := hrel
          by_cases h8 : t < 8
          · have hz2 : (t : Int) < 8 := by omega
            have b2 : cs1 m2 < 4294967296 := cs1_lt hm2
            have HI2 : Hid (cs1 m2 = csI (t + 1) m1) := Lib.hid (by rw [HI.out]; rfl)
            by_cases ho : m2 % 2 = 1
            · have hz3 : (m2 : Int) % 2 = 1 := by omega
              have e2 := cs1_odd hm2 ho
              generalize cs1 m2 = m3 at *
              clear HI ho
              go_wp2_with fail
              refine ⟨⟨t + 1, m3, rfl, by go_num, by omega, b2, HI2⟩, by simp [intOf]; omega⟩
            · have hz3 : ¬ (m2 : Int) % 2 = 1 := by omega
              have e2 := cs1_even ho
              generalize cs1 m2 = m3 at *
              clear HI ho
              go_wp2_with fail
              refine ⟨⟨t + 1, m3, by rw [e2], by go_num, by omega, b2, HI2⟩, by simp [intOf]; omega⟩
          · obtain rfl : t = 8 := by omega
            have HM3 : Hid (m2 = crun 4294967295 (l.take (j + 1))) := Lib.hid (by rw [HI.out, HM2.out])
            clear HI HM2
            go_wp2_with fail
            refine ⟨⟨j + 1, m2, rfl, by go_num, hlt, hm2, HM3⟩, by simp [intOf]; omega⟩
      · have hz1 : ¬ (j : Int) < (l.length : Int) := by omega
        obtain rfl : j = l.length := by omega
        have hR : 4294967295 ^^^ m = r := by rw [HM.out, List.take_length]; exact HR.out
        have hinv2 := u32_inv m hm
        rw [hR] at hinv2
        clear HM HR hR hlt
        go_wp2
        go_ret
        exact ⟨rfl, rfl⟩
end Go.Proofs.YtdnohjhknhekhaaDoor
