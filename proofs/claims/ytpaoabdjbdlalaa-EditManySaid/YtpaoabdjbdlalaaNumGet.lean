/- The walks of varint.ended and varint.Get. -/
import Derived.Test.YtpaoabdjbdlalaaByt
import Derived.Test.YtpaoabdjbdlalaaNumMath
import Derived.RegionTactic
import Derived.Deep.QuietTactic
import Derived.Deep.LoopGhost
import Derived.BigQuiet
namespace Go.Proofs.Ytpaoabdjbdlalaa
set_option linter.unusedVariables false
open Go.RowKit
def numRes (r : Option (Nat × Nat)) : Value := match r with
  | none => .tuple #[.int .u64 0, .int .i64 0]
  | some (n, k) => .tuple #[.int .u64 (n : Int), .int .i64 (k : Int)]
def GetRes (r : Option (Nat × Nat)) (w : World) (e : Ending) (w' : World) : Prop := e = .returned (numRes r) ∧ w = w'
set_option maxHeartbeats 1000000 in
theorem ended_no (n : Int) (i : Nat) (x : Int) (hi : i < 10) (h : 0 < i ∧ x = 0 ∨ i = 9 ∧ 1 < x) (w : World) :
    Calls Try.prog 36 #[.int .u64 n, .int .i64 (i : Int), .int .u8 x] w (GetRes none w) := by
  go_enter Try.func36, Try.ntmps36
  rcases h with ⟨h1, rfl⟩ | ⟨rfl, h1⟩
  · have hz : (0 : Int) < (i : Int) := by omega
    go_wp2
    go_ret2
    exact ⟨rfl, rfl⟩
  · have hz : ¬ x = 0 := by omega
    go_wp2
    go_ret2
    exact ⟨rfl, rfl⟩
set_option maxHeartbeats 1000000 in
theorem ended_yes (n : Int) (i : Nat) (x : Int) (hi : i < 10) (h : ¬ (0 < i ∧ x = 0 ∨ i = 9 ∧ 1 < x)) (w : World) :
    Calls Try.prog 36 #[.int .u64 n, .int .i64 (i : Int), .int .u8 x] w fun e w' => e = .returned (.tuple #[.int .u64 n, .int .i64 ((i : Int) + 1)]) ∧ w = w' := by
  go_enter Try.func36, Try.ntmps36
  by_cases h0 : 0 < i
  · have hx : ¬ x = 0 := fun e => h (.inl ⟨h0, e⟩)
    have hz : (0 : Int) < (i : Int) := by omega
    by_cases h9 : i = 9
    · have hx1 : ¬ 1 < x := fun e => h (.inr ⟨h9, e⟩)
      subst h9
      clear h
      go_wp2
      go_ret2
      exact ⟨rfl, rfl⟩
    · have hz9 : ¬ (i : Int) = 9 := by omega
      clear h
      go_wp2
      go_ret2
      exact ⟨rfl, rfl⟩
  · obtain rfl : i = 0 := by omega
    clear h
    go_wp2
    go_ret2
    exact ⟨rfl, rfl⟩
theorem valN_snoc : ∀ (p : List UInt8) (c : UInt8), valN (p ++ [c]) = valN p + c.toNat % 128 * 2 ^ (7 * p.length)
  | [], c => by simp [valN]
  | b :: p, c => by
    have h : 2 ^ (7 * (p.length + 1)) = 2 ^ (7 * p.length) * 128 := by rw [Nat.mul_add, Nat.pow_add]
    rw [List.cons_append, valN, valN, valN_snoc p c, List.length_cons, h]
    generalize 2 ^ (7 * p.length) = q
    rw [Nat.mul_add, ← Nat.mul_assoc, Nat.mul_comm 128 (c.toNat % 128), Nat.mul_assoc (c.toNat % 128) 128 q, Nat.mul_comm 128 q, Nat.add_assoc]
theorem pow7 {j : Nat} (h : j ≤ 9) : 2 ^ (7 * j) ≤ 2 ^ 63 := Nat.pow_le_pow_right (by decide) (by omega)
theorem pow7' {j : Nat} (h : j ≤ 8) : 2 ^ (7 * j) ≤ 2 ^ 56 := Nat.pow_le_pow_right (by decide) (by omega)
theorem cast_wrap (a s : Nat) : ((a : Int) % 128 * 2 ^ s) % 18446744073709551616 = (((a % 128 * 2 ^ s) % 2 ^ 64 : Nat) : Int) := by
  rw [Int.natCast_emod, Int.natCast_mul, Int.natCast_emod, Int.natCast_pow]; rfl
theorem and127b : ∀ n : Fin 256, bits .and .u8 (n.val : Int) 127 = (n.val % 128 : Nat) := by decide +kernel
theorem byte_and127 (b : UInt8) : bits .and .u8 (b.toNat : Int) 127 = (b.toNat % 128 : Nat) := and127b ⟨b.toNat, b.toNat_lt⟩
/-- 'n | c << 7 j' -/
theorem get_or (m j : Nat) (c : UInt8) (hm : m < 18446744073709551616) : ∃ M : Nat, bits .or .u64 (m : Int) (IntKind.u64.wrap ((c.toNat : Int) % 128 * 2 ^ (7 * j))) = (M : Int) ∧ M < 18446744073709551616 ∧ Hid (m < 2 ^ (7 * j) → c.toNat % 128 * 2 ^ (7 * j) < 2 ^ 64 → M = m + c.toNat % 128 * 2 ^ (7 * j)) := by
  refine ⟨m ||| (c.toNat % 128 * 2 ^ (7 * j)) % 2 ^ 64, ?_, ?_, Lib.hid fun h1 h2 => ?_⟩
  · rw [IntKind.wrap_u64, show ((c.toNat : Int) % 128 * 2 ^ (7 * j)) % 18446744073709551616 = (((c.toNat % 128 * 2 ^ (7 * j)) % 2 ^ 64 : Nat) : Int) from cast_wrap _ _, u64_or_nat m _ hm (Nat.mod_lt _ (by decide))]
  · exact Nat.or_lt_two_pow (n := 64) hm (Nat.mod_lt _ (by decide))
  · rw [Nat.mod_eq_of_lt h2, Nat.or_comm, nat_join (7 * j) _ m (Nat.mul_mod_left _ _) h1, Nat.add_comm]
theorem get_snoc {l : List UInt8} {j : Nat} {c : UInt8} (hc : l[j]? = some c) (hj : j < l.length) : valN (l.take (j + 1)) = valN (l.take j) + c.toNat % 128 * 2 ^ (7 * j) := by
  rw [List.take_add_one, hc, Option.toList_some, valN_snoc, List.length_take, Nat.min_eq_left (by omega)]
theorem get_bd (c : UInt8) (j : Nat) (h : j ≤ 8) : c.toNat % 128 * 2 ^ (7 * j) < 2 ^ 63 := by
  have h1 : c.toNat % 128 < 128 := Nat.mod_lt _ (by decide)
  have h2 := pow7' h
  calc c.toNat % 128 * 2 ^ (7 * j) < 128 * 2 ^ (7 * j) := Nat.mul_lt_mul_of_pos_right h1 (Nat.two_pow_pos _)
    _ ≤ 128 * 2 ^ 56 := Nat.mul_le_mul_left _ h2
    _ = 2 ^ 63 := by decide
/-- one byte more that is 128 or more -/
theorem get_next {l : List UInt8} {j m M : Nat} {c : UInt8} (hc : l[j]? = some c) (hj : j < l.length) (h10 : j < 10) (h128 : 128 ≤ c.toNat)
    (HT : Hid (∀ (t : Nat) (c : UInt8), t < j → l[t]? = some c → 128 ≤ c.toNat)) (HM : Hid (j ≤ 9 → m = valN (l.take j) ∧ m < 2 ^ (7 * j)))
    (HE : Hid (m < 2 ^ (7 * j) → c.toNat % 128 * 2 ^ (7 * j) < 2 ^ 64 → M = m + c.toNat % 128 * 2 ^ (7 * j))) :
    Hid (∀ (t : Nat) (c : UInt8), t < j + 1 → l[t]? = some c → 128 ≤ c.toNat) ∧ Hid (j + 1 ≤ 9 → M = valN (l.take (j + 1)) ∧ M < 2 ^ (7 * (j + 1))) := by
  refine ⟨Lib.hid fun t d ht hd => ?_, Lib.hid fun h9 => ?_⟩
  · rcases Nat.lt_or_ge t j with h | h
    · exact HT.out t d h hd
    · obtain rfl : t = j := by omega
      rw [hc] at hd
      obtain rfl := Option.some.inj hd
      exact h128
  · obtain ⟨h1, h2⟩ := HM.out (by omega)
    have h3 := get_bd c j (by omega)
    have h4 := HE.out h2 (by omega)
    have h5 := get_snoc hc hj
    refine ⟨by rw [h4, h5, h1], ?_⟩
    have h6 : 2 ^ (7 * (j + 1)) = 2 ^ (7 * j) * 128 := by rw [Nat.mul_add, Nat.pow_add]
    have h7 : c.toNat % 128 < 128 := Nat.mod_lt _ (by decide)
    have h8 : c.toNat % 128 * 2 ^ (7 * j) ≤ 127 * 2 ^ (7 * j) := Nat.mul_le_mul_right _ (by omega)
    omega
/-- the last byte -/
theorem get_last {l : List UInt8} {j m M : Nat} {c : UInt8} (hc : l[j]? = some c) (hj : j < l.length) (h10 : j < 10) (h128 : c.toNat < 128)
    (HT : Hid (∀ (t : Nat) (c : UInt8), t < j → l[t]? = some c → 128 ≤ c.toNat)) (HM : Hid (j ≤ 9 → m = valN (l.take j) ∧ m < 2 ^ (7 * j)))
    (HE : Hid (m < 2 ^ (7 * j) → c.toNat % 128 * 2 ^ (7 * j) < 2 ^ 64 → M = m + c.toNat % 128 * 2 ^ (7 * j))) :
    getN l = if 0 < j ∧ c.toNat = 0 ∨ j = 9 ∧ 1 < c.toNat then none else some (M, j + 1) := by
  obtain ⟨h1, h2⟩ := HM.out (by omega)
  have h5 := get_snoc hc hj
  rw [getN_at HT.out h10 hc h128, h5, ← h1]
  have hz : c = 0 ↔ c.toNat = 0 := ⟨fun e => by rw [e]; rfl, fun e => UInt8.toNat_inj.1 (by rw [e]; rfl)⟩
  have hmod : c.toNat % 128 = c.toNat := Nat.mod_eq_of_lt h128
  by_cases hA : 0 < j ∧ c.toNat = 0
  · rw [if_pos ⟨hA.1, hz.2 hA.2⟩, if_pos (.inl hA)]
  · rw [if_neg fun h => hA ⟨h.1, hz.1 h.2⟩]
    by_cases h9 : j = 9
    · subst h9
      by_cases hB : 1 < c.toNat
      · rw [if_neg, if_pos (.inr ⟨rfl, hB⟩)]
        rw [hmod]; simp only [Nat.reduceMul, Nat.reducePow]; omega
      · have h3 : c.toNat % 128 * 2 ^ (7 * 9) < 2 ^ 64 := by rw [hmod]; simp only [Nat.reduceMul, Nat.reducePow]; omega
        have h4 := HE.out h2 h3
        rw [if_pos, if_neg, h4]
        · rintro (h | h)
          · exact hA h
          · exact hB h.2
        · simp only [Nat.reduceMul, Nat.reducePow] at h2 h3 ⊢; rw [hmod] at h3 ⊢; omega
    · have h3 := get_bd c j (by omega)
      have h4 := HE.out h2 (by omega)
      have h6 := pow7 (j := j) (by omega)
      rw [if_pos, if_neg, h4]
      · rintro (h | h)
        · exact hA h
        · exact h9 h.1
      · omega
set_option maxHeartbeats 1000000 in
set_option maxRecDepth 100000 in
theorem get_any (v : Value) (l : List UInt8) (w : World) (h : RdB w v l) : Calls Try.prog 32 #[v] w (GetRes (getN l) w) := by
  rcases h with ⟨a, cap, rfl, e⟩ | ⟨b, off, cap, rfl, h1, h2, h3, h4, h5⟩
  · have : l = [] := by simpa using e
    subst this
    go_enter Try.func32, Try.ntmps32
    go_wp2
    refine wp_loop_rounds 1 ?_
    rw [rounds_succ]
    go_wp2
    go_ret2
    exact ⟨rfl, rfl⟩
  · rw [List.length_map] at h1 h2 h5 ⊢
    have HC : Hid (∀ i, i < l.length → w.cell? ⟨b, off + i, none⟩ = some (.int .u8 ((l.getD i 0).toNat : Int))) := Lib.hid fun i hi => by
      rw [h5 i hi, List.getD_eq_getElem?_getD, List.getD_eq_getElem?_getD, List.getElem?_map, List.getElem?_eq_getElem hi]; rfl
    obtain ⟨r, hr⟩ : ∃ r, getN l = r := ⟨_, rfl⟩
    have HR := Lib.hid hr
    rw [hr]
    clear hr h5
    unfold maxLen at h3
    go_enter Try.func32, Try.ntmps32
    go_wp2
    go_loop [4, 5] (fun n i => ∃ (j m : Nat), n = .int .u64 (m : Int) ∧ i = .int .i64 (j : Int) ∧ j ≤ 10 ∧ j ≤ l.length ∧ m < 18446744073709551616 ∧ Hid (∀ (t : Nat) (c : UInt8), t < j → l[t]? = some c → 128 ≤ c.toNat) ∧ Hid (j ≤ 9 → m = valN (l.take j) ∧ m < 2 ^ (7 * j)))
      (fun _ i => 10 - (intOf i).toNat)
    case atStart => exact ⟨0, 0, rfl, rfl, by omega, by omega, by omega, Lib.hid (fun t c h => by omega), Lib.hid fun _ => ⟨rfl, by decide⟩⟩
    case round =>
      obtain ⟨j, m, rfl, rfl, hj, hjl, hm, HT, HM⟩ := hrel
      by_cases hlt : j < l.length ∧ j < 10
      · obtain ⟨hlt, h10⟩ := hlt
        have hc := HC.out j hlt
        have HG : Hid (l[j]? = some (l.getD j 0)) := Lib.hid (by rw [List.getD_eq_getElem?_getD, List.getElem?_eq_getElem hlt]; rfl)
        generalize l.getD j 0 = c at hc HG
        have hz1 : (j : Int) < (l.length : Int) := by omega
        have hz2 : (j : Int) < 10 := by omega
        have hcb : c.toNat < 256 := c.toNat_lt
        have h127 := byte_and127 c
        obtain ⟨M, hE, hM, HE⟩ := get_or m j c hm
        by_cases h128 : 128 ≤ c.toNat
        · obtain ⟨HTn, HMn⟩ := get_next HG.out hlt h10 h128 HT HM HE
          clear HT HM HE HG
          have hz3 : ¬ (c.toNat : Int) < 128 := by omega
          go_wp2_with fail
          refine ⟨⟨j + 1, M, rfl, by go_num, by omega, hlt, hM, HTn, HMn⟩, by simp [intOf]; omega⟩
        · have HL := Lib.hid (get_last HG.out hlt h10 (by omega) HT HM HE)
          rw [HR.out] at HL
          clear HT HM HE HG HR
          have hz3 : (c.toNat : Int) < 128 := by omega
          by_cases hA : 0 < j ∧ c.toNat = 0 ∨ j = 9 ∧ 1 < c.toNat
          · have HN : Hid (∀ w, Calls Try.prog 36 #[.int .u64 (M : Int), .int .i64 (j : Int), .int .u8 (c.toNat : Int)] w (GetRes none w)) := Lib.hid fun w => ended_no _ j _ h10 (by omega) w
            rw [if_pos hA] at HL
            obtain rfl := HL.out
            clear hA HL
            go_wp2_with fail
            refine (HN.out _).mono ?_
            rintro e w' ⟨rfl, rfl⟩
            unfold numRes
            go_wp2
            go_ret2
            exact ⟨rfl, rfl⟩
          · have HN : Hid (∀ w, Calls Try.prog 36 #[.int .u64 (M : Int), .int .i64 (j : Int), .int .u8 (c.toNat : Int)] w fun e w' => e = .returned (.tuple #[.int .u64 (M : Int), .int .i64 ((j : Int) + 1)]) ∧ w = w') := Lib.hid fun w => ended_yes _ j _ h10 (by omega) w
            rw [if_neg hA] at HL
            obtain rfl := HL.out
            clear hA HL
            go_wp2_with fail
            refine (HN.out _).mono ?_
            rintro e w' ⟨rfl, rfl⟩
            go_wp2
            go_ret2
            exact ⟨rfl, rfl⟩
      · have HL : Hid (r = none) := Lib.hid (by
          rw [← HR.out]
          refine getN_high fun t c ht hc => HT.out t c ?_ hc
          have := (List.getElem?_eq_some_iff.1 hc).1
          omega)
        obtain rfl := HL.out
        clear HT HM HL HR
        rcases Nat.lt_or_ge j l.length with h | h
        · obtain rfl : j = 10 := by omega
          have hz1 : (10 : Int) < (l.length : Int) := by omega
          clear hlt
          go_wp2
          go_ret2
          exact ⟨rfl, rfl⟩
        · have hz1 : ¬ (j : Int) < (l.length : Int) := by omega
          clear hlt
          go_wp2
          go_ret2
          exact ⟨rfl, rfl⟩
end Go.Proofs.Ytpaoabdjbdlalaa
