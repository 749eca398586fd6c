/- The walks of varint.putFixed and varint.getFixed. -/
import Derived.Test.YtaddihabjdoihaaNumPut
import Derived.Test.YtaddihabjdoihaaNumGet
import Derived.Laws.OwnMore
import Derived.Deep.OwnRows
import Derived.Deep.DeepCutAuto
import Derived.Deep.CutBlock
namespace Go.Proofs.Ytaddihabjdoihaa
set_option linter.unusedVariables false
open Go.RowKit
theorem fixN_snoc : ∀ (j n : Nat), fixN (j + 1) n = fixN j n ++ [UInt8.ofNat (n / 2 ^ (8 * j) % 256)]
  | 0, n => by simp [fixN]
  | j + 1, n => by
    rw [fixN, fixN_snoc j (n / 256), fixN, List.cons_append, Nat.div_div_eq_div_mul]
    have : 256 * 2 ^ (8 * j) = 2 ^ (8 * (j + 1)) := by rw [Nat.mul_add, Nat.pow_add, Nat.mul_comm]
    rw [this]
/-- the row that is being filled -/
def fixAt (K n j : Nat) : List Value := (fixN j n).map bv ++ List.replicate (K - j) (.int .u8 0)
theorem fixAt_len (K n j : Nat) (h : j ≤ K) : (fixAt K n j).length = K := by
  unfold fixAt; rw [List.length_append, List.length_map, fixN_len, List.length_replicate]; omega
theorem fixAt_old (K n j : Nat) (h : j < K) : (fixAt K n j)[j]? = some (.int .u8 0) := by
  unfold fixAt
  rw [List.getElem?_append_right (by rw [List.length_map, fixN_len]; exact Nat.le_refl _), List.length_map, fixN_len, Nat.sub_self, List.getElem?_replicate, if_pos (by omega)]
theorem fixAt_step (K n j : Nat) (h : j < K) : (fixAt K n j).set j (.int .u8 ((n / 2 ^ (8 * j) % 256 : Nat) : Int)) = fixAt K n (j + 1) := by
  unfold fixAt
  rw [fixN_snoc, List.map_append, show K - j = (K - (j + 1)) + 1 by omega, List.replicate_succ]
  have hl : ((fixN j n).map bv).length = j := by rw [List.length_map, fixN_len]
  generalize (fixN j n).map bv = p at hl
  subst hl
  rw [List.set_append_right _ _ (Nat.le_refl _), Nat.sub_self, List.set_cons_zero, List.append_assoc]
  simp only [List.map_cons, List.map_nil, List.cons_append, List.nil_append]
  unfold bv
  rw [byte_of _ (by omega)]
theorem pf_big (n j : Nat) : ((n : Int) / 2 ^ (8 * j)) = ((n / 2 ^ (8 * j) : Nat) : Int) := by
  rw [Int.natCast_ediv, Int.natCast_pow]; rfl
set_option maxHeartbeats 1000000 in
theorem putFixed_any (n : Nat) (hn : n < 2 ^ 64) (K : Nat) (hK : K ≤ 8) (w : World) : Calls Try.prog 40 #[.int .u64 (n : Int), .int .i64 (K : Int)] w (MkB (fixN K n) w) := by
  have hn2 : n < 18446744073709551616 := by omega
  clear hn
  have hmk := run_make_row' (P := Try.prog) 33 5 (.int .u8 0) 1 Try.underlying33 (by kernel_rfl) rfl .i64 .i64 K (by omega) (by omega)
  have HROW : Hid ((w.alloc (.cells (madeCells #[.int .u8 0] K) 5)).ownsRow w.heap.size 5 1 (.slice (some ⟨w.heap.size, 0, none⟩) K K) K (fixAt K n 0)) := Lib.hid (by
    have := World.ownsRow_lit (base := w.heap.size) (e := 5) (size := 1) w (madeCells #[.int .u8 0] K) K (Nat.le_refl _) (by unfold maxLen; omega) (by rw [size_madeCells]; omega)
    rw [toList_madeCells_one] at this
    unfold fixAt
    rw [fixN, List.map_nil, List.nil_append, Nat.sub_zero]
    exact this)
  have HB : Hid (Below w.heap.size w (w.alloc (.cells (madeCells #[.int .u8 0] K) 5))) := Lib.hid ((Below.refl _ w).alloc (Nat.le_refl _) _)
  obtain ⟨g, hg⟩ : ∃ g, w.heap.size = g := ⟨_, rfl⟩
  have HG : Hid (w.heap.size = g) := Lib.hid hg
  rw [hg] at HROW HB
  go_enter Try.func40, Try.ntmps40
  go_upto_region 2 with fail
  clear hmk
  generalize w.alloc (.cells (madeCells #[.int .u8 0] K) 5) = w2 at HROW HB ⊢
  go_wp2
  go_loopg [11] K (fun kk vi wr => ∃ j : Nat, vi = .int .i64 (j : Int) ∧ j ≤ K ∧ K - j ≤ kk ∧ Hid (wr.ownsRow g 5 1 (.slice (some ⟨g, 0, none⟩) K K) K (fixAt K n j) ∧ Below g w wr))
  case atStart => exact ⟨0, rfl, by omega, by omega, Lib.hid ⟨HROW.out, HB.out⟩⟩
  case round =>
    clear HROW HB
    obtain ⟨j, rfl, hj, hkk, HS⟩ := hrel
    by_cases hlt : j < K
    · have hz : (j : Int) < (K : Int) := by omega
      have c2 : wr.cell? ⟨g, j, none⟩ = some (.int .u8 0) := (HS.out.1.cellAt j (by omega)).trans (fixAt_old K n j hlt)
      have f2 := HS.out.1.frozenAt j
      have hq := pf_big n j
      obtain ⟨q, hqq⟩ : ∃ q, n / 2 ^ (8 * j) = q := ⟨_, rfl⟩
      have HSN : Hid ((wr.setCell ⟨g, j, none⟩ (.int .u8 ((q % 256 : Nat) : Int))).ownsRow g 5 1 (.slice (some ⟨g, 0, none⟩) K K) K (fixAt K n (j + 1)) ∧ Below g w (wr.setCell ⟨g, j, none⟩ (.int .u8 ((q % 256 : Nat) : Int)))) := by
        obtain ⟨s1, s2⟩ := HS.out
        have := (s1.stored j (.int .u8 ((q % 256 : Nat) : Int))).1
        rw [← hqq, fixAt_step K n j hlt] at this
        rw [← hqq]
        exact ⟨this, s2.setCell (p := ⟨g, j, none⟩) (Nat.le_refl _) _⟩
      rw [hqq] at hq
      clear hqq HS hg
      go_wp2
      go_roundg (K - (j + 1))
      case measure => omega
      case rel => exact ⟨j + 1, by go_num, by omega, Nat.le_refl _, HSN⟩
    · obtain rfl : j = K := by omega
      have hz : ¬ (j : Int) < (j : Int) := by omega
      have hown : OwnB w.heap.size wr (.slice (some ⟨g, 0, none⟩) j j) (fixN j n) := by
        have := HS.out.1
        unfold fixAt at this
        rw [Nat.sub_self, List.replicate_zero, List.append_nil] at this
        unfold OwnB OwnV
        rw [List.length_map, fixN_len, HG.out]; exact this
      have hbb : Below w.heap.size w wr := by rw [HG.out]; exact HS.out.2
      clear HS
      go_wp2
      go_ret
      exact ⟨_, rfl, hown, hbb⟩
theorem unfN_snoc : ∀ (p : List UInt8) (c : UInt8), unfN (p ++ [c]) = unfN p + c.toNat * 2 ^ (8 * p.length)
  | [], c => by simp [unfN]
  | b :: p, c => by
    have h : 2 ^ (8 * (p.length + 1)) = 2 ^ (8 * p.length) * 256 := by rw [Nat.mul_add, Nat.pow_add]
    rw [List.cons_append, unfN, unfN, unfN_snoc p c, List.length_cons, h]
    generalize 2 ^ (8 * p.length) = q
    rw [Nat.mul_add, ← Nat.mul_assoc, Nat.mul_comm 256 c.toNat, Nat.mul_assoc c.toNat 256 q, Nat.mul_comm 256 q, Nat.add_assoc]
theorem pow8 {j : Nat} (h : j ≤ 7) : 2 ^ (8 * j) ≤ 2 ^ 56 := Nat.pow_le_pow_right (by decide) (by omega)
theorem cast_wrap8 (a s : Nat) : ((a : Int) * 2 ^ s) % 18446744073709551616 = (((a * 2 ^ s) % 2 ^ 64 : Nat) : Int) := by
  rw [Int.natCast_emod, Int.natCast_mul, Int.natCast_pow]; rfl
theorem fix_bd (c : UInt8) (m j : Nat) (h : j ≤ 7) (hm : m < 2 ^ (8 * j)) : m + c.toNat * 2 ^ (8 * j) < 2 ^ (8 * (j + 1)) ∧ c.toNat * 2 ^ (8 * j) < 2 ^ 64 := by
  have h1 : c.toNat < 256 := c.toNat_lt
  have h2 := pow8 h
  have h6 : 2 ^ (8 * (j + 1)) = 2 ^ (8 * j) * 256 := by rw [Nat.mul_add, Nat.pow_add]
  have h8 : c.toNat * 2 ^ (8 * j) ≤ 255 * 2 ^ (8 * j) := Nat.mul_le_mul_right _ (by omega)
  omega
theorem fix_or (m j : Nat) (c : UInt8) (hj : j ≤ 7) (hm : m < 2 ^ (8 * j)) : bits .or .u64 (m : Int) (IntKind.u64.wrap ((c.toNat : Int) * 2 ^ (8 * j))) = ((m + c.toNat * 2 ^ (8 * j) : Nat) : Int) := by
  have h1 := (fix_bd c m j hj hm).2
  have h2 := pow8 hj
  rw [IntKind.wrap_u64, cast_wrap8, Nat.mod_eq_of_lt h1, u64_or_nat m _ (by omega) (by omega), Nat.or_comm, nat_join (8 * j) _ m (Nat.mul_mod_left _ _) hm, Nat.add_comm]
/-- the number of the first K bytes (0: fewer) -/
def unfK (K : Nat) (l : List UInt8) : Nat := if K ≤ l.length then unfN (l.take K) else 0
set_option maxHeartbeats 1000000 in
set_option maxRecDepth 100000 in
theorem getFixed_any (v : Value) (l : List UInt8) (K : Nat) (hK : K ≤ 8) (h0 : 0 < K) (w : World) (h : RdB w v l) :
    Calls Try.prog 41 #[v, .int .i64 (K : Int)] w fun e w' => e = .returned (.int .u64 (unfK K l : Int)) ∧ w = w' := by
  rcases h with ⟨a, cap, rfl, e⟩ | ⟨b, off, cap, rfl, h1, h2, h3, h4, h5⟩
  · have : l = [] := by simpa using e
    subst this
    have e : unfK K [] = 0 := if_neg (by simp; omega)
    rw [e]
    have hz : (0 : Int) < (K : Int) := by omega
    go_enter Try.func41, Try.ntmps41
    go_wp2
    go_ret
    exact ⟨rfl, rfl⟩
  · rw [List.length_map] at h1 h2 h5 ⊢
    have HC : Hid (∀ i, i < l.length → w.cell? ⟨b, off + i, none⟩ = some (.int .u8 ((l.getD i 0).toNat : Int))) := Lib.hid fun i hi => by
      rw [h5 i hi, List.getD_eq_getElem?_getD, List.getD_eq_getElem?_getD, List.getElem?_map, List.getElem?_eq_getElem hi]; rfl
    have HGet : Hid (∀ j, j < l.length → l[j]? = some (l.getD j 0)) := Lib.hid fun j hj => by rw [List.getD_eq_getElem?_getD, List.getElem?_eq_getElem hj]; rfl
    unfold maxLen at h3
    obtain ⟨r, hr⟩ : ∃ r, unfK K l = r := ⟨_, rfl⟩
    have HR := Lib.hid hr
    rw [hr]
    clear hr h5
    by_cases hlt : l.length < K
    · have HL : Hid (r = 0) := Lib.hid (by rw [← HR.out]; exact if_neg (by omega))
      obtain rfl := HL.out
      have hz : (l.length : Int) < (K : Int) := by omega
      clear HR HL
      go_enter Try.func41, Try.ntmps41
      go_wp2
      go_ret
      exact ⟨rfl, rfl⟩
    · have HL : Hid (r = unfN (l.take K)) := Lib.hid (by rw [← HR.out]; exact if_pos (by omega))
      have hz : ¬ (l.length : Int) < (K : Int) := by omega
      clear HR
      go_enter Try.func41, Try.ntmps41
      go_wp2
      go_loop [5, 16] (fun n i => ∃ (j m : Nat), n = .int .u64 (m : Int) ∧ i = .int .i64 (j : Int) ∧ j ≤ K ∧ Hid (m = unfN (l.take j) ∧ m < 2 ^ (8 * j)))
        (fun _ i => K - (intOf i).toNat)
      case atStart => exact ⟨0, 0, rfl, rfl, by omega, Lib.hid ⟨rfl, by decide⟩⟩
      case round =>
        obtain ⟨j, m, rfl, rfl, hj, HM⟩ := hrel
        by_cases hjK : j < K
        · have hjl : j < l.length := by omega
          have hc := HC.out j hjl
          have HG : Hid (l[j]? = some (l.getD j 0)) := Lib.hid (HGet.out j hjl)
          generalize l.getD j 0 = c at hc HG
          have hz1 : (j : Int) < (K : Int) := by omega
          have hcb : c.toNat < 256 := c.toNat_lt
          have hE := fix_or m j c (by omega) HM.out.2
          have HMn : Hid (m + c.toNat * 2 ^ (8 * j) = unfN (l.take (j + 1)) ∧ m + c.toNat * 2 ^ (8 * j) < 2 ^ (8 * (j + 1))) := Lib.hid (by
            refine ⟨?_, (fix_bd c m j (by omega) HM.out.2).1⟩
            rw [List.take_add_one, HG.out, Option.toList_some, unfN_snoc, List.length_take, Nat.min_eq_left (by omega), ← HM.out.1])
          obtain ⟨M, hM⟩ : ∃ M, m + c.toNat * 2 ^ (8 * j) = M := ⟨_, rfl⟩
          rw [hM] at hE HMn
          clear HM HG hM
          go_wp2
          refine ⟨⟨j + 1, M, rfl, by go_num, by omega, HMn⟩, by simp [intOf]; omega⟩
        · obtain rfl : j = K := by omega
          have e := HM.out.1
          rw [← HL.out] at e
          subst e
          have hz1 : ¬ (j : Int) < (j : Int) := by omega
          clear HL HM
          go_wp2
          go_ret
          exact ⟨rfl, rfl⟩
end Go.Proofs.Ytaddihabjdoihaa
