/- Plain mathematics of the sum CRC-32C: one step shifts a number below 2^32 and undoes itself; bytes in a window of four that differ leave other states. -/
import Derived.Test.YtmmkgopnccfiiaaGreatDoorMBase
import Derived.Below
import Derived.RegionTactic
import Derived.Deep.QuietTactic
import Derived.Deep.LoopGhost
import Derived.BigQuiet
namespace Go.Proofs.YtmmkgopnccfiiaaGreatDoor
set_option linter.unusedVariables false
/-- the polynomial's number -/
def cpoly : Nat := 2197175160
def cs1 (c : Nat) : Nat := if c % 2 = 1 then c / 2 ^^^ cpoly else c / 2
def cs8 (c : Nat) : Nat := cs1 (cs1 (cs1 (cs1 (cs1 (cs1 (cs1 (cs1 c)))))))
theorem cpoly_lt : cpoly < 2 ^ 32 := by decide
theorem cs1_lt {c : Nat} (h : c < 2 ^ 32) : cs1 c < 2 ^ 32 := by
  unfold cs1
  split
  · exact Nat.xor_lt_two_pow (by omega) cpoly_lt
  · omega
theorem xor_div2 (a b : Nat) : (a ^^^ b) / 2 = a / 2 ^^^ b / 2 := Nat.xor_div_two
theorem cs1_xor (v y : Nat) : cs1 (v ^^^ 2 * y) = cs1 v ^^^ y := by
  have h1 : (v ^^^ 2 * y) % 2 = v % 2 := by
    have := Nat.xor_mod_two_pow (a := v) (b := 2 * y) (n := 1)
    simpa using this
  have h2 : (v ^^^ 2 * y) / 2 = v / 2 ^^^ y := by rw [xor_div2]; congr 1; omega
  unfold cs1
  rw [h1, h2]
  split
  · rw [Nat.xor_assoc, Nat.xor_comm y, ← Nat.xor_assoc]
  · rfl
theorem cs8_lt {c : Nat} (h : c < 2 ^ 32) : cs8 c < 2 ^ 32 := cs1_lt (cs1_lt (cs1_lt (cs1_lt (cs1_lt (cs1_lt (cs1_lt (cs1_lt h)))))))
/-- a state, a byte further -/
def cstep (c : Nat) (b : UInt8) : Nat := cs8 (c ^^^ b.toNat)
def crun (c : Nat) (l : List UInt8) : Nat := l.foldl cstep c
theorem b32 (b : UInt8) : b.toNat < 2 ^ 32 := by have := b.toNat_lt; omega
theorem cstep_lt {c : Nat} (h : c < 2 ^ 32) (b : UInt8) : cstep c b < 2 ^ 32 := cs8_lt (Nat.xor_lt_two_pow h (b32 b))
theorem crun_lt (l : List UInt8) : ∀ {c : Nat}, c < 2 ^ 32 → crun c l < 2 ^ 32 := by
  induction l with
  | nil => intro c h; exact h
  | cons b l ih => intro c h; exact ih (cstep_lt h b)
theorem crun_app (c : Nat) (l m : List UInt8) : crun c (l ++ m) = crun (crun c l) m := List.foldl_append ..
end Go.Proofs.YtmmkgopnccfiiaaGreatDoor
/- The table of crc: what its sixteen words are; a byte taken in as two halves. -/
namespace Go.Proofs.YtmmkgopnccfiiaaGreatDoor
open Go.RowKit
set_option linter.unusedVariables false
def cs4 (c : Nat) : Nat := cs1 (cs1 (cs1 (cs1 c)))
theorem cs4_lt {c : Nat} (h : c < 2 ^ 32) : cs4 c < 2 ^ 32 := cs1_lt (cs1_lt (cs1_lt (cs1_lt h)))
theorem cs4_xor (v y : Nat) : cs4 (v ^^^ 16 * y) = cs4 v ^^^ y := by
  unfold cs4
  rw [show 16 * y = 2 * (8 * y) by omega, cs1_xor, show 8 * y = 2 * (4 * y) by omega, cs1_xor, show 4 * y = 2 * (2 * y) by omega, cs1_xor, cs1_xor]
theorem split16 (r : Nat) : r % 16 ^^^ 16 * (r / 16) = r := by
  apply Nat.eq_of_testBit_eq
  intro i
  rw [Nat.testBit_xor, show (16 : Nat) = 2 ^ 4 from rfl, Nat.testBit_mod_two_pow, Nat.testBit_two_pow_mul, Nat.testBit_div_two_pow]
  by_cases h : i < 4
  · have h2 : ¬ 4 ≤ i := by omega
    simp [h, h2]
  · have h2 : 4 ≤ i := by omega
    simp [h, h2, Nat.sub_add_cancel h2]
/-- four steps: the table's word for what leaves, and what stays. -/
theorem cs4_tab (r : Nat) : cs4 r = r / 16 ^^^ cs4 (r % 16) := by
  conv => lhs; rw [← split16 r]
  rw [cs4_xor, Nat.xor_comm]
/-- the table, as the program's start lays it -/
def TabAt (W : World) : Prop := 0 < W.heap.size ∧ ∀ i : Nat, i < 16 → W.cell? ⟨0, i, none⟩ = some (.int .u32 (cs4 i : Int))
theorem TabAt.below {W W' : World} (h : TabAt W) (hb : Below W.heap.size W W') : TabAt W' := ⟨Nat.lt_of_lt_of_le h.1 hb.size, fun i hi => by rw [hb.cell h.1]; exact h.2 i hi⟩
end Go.Proofs.YtmmkgopnccfiiaaGreatDoor
/- The walks of crc.More, crc.Sum and the reference's Sum. -/
namespace Go.Proofs.YtmmkgopnccfiiaaGreatDoor
set_option linter.unusedVariables false
open Go.RowKit
/-- the sum of what had the sum c, and l behind it -/
def moreN (c : Nat) (l : List UInt8) : Nat := 4294967295 ^^^ crun (4294967295 ^^^ c) l
theorem inv_lt {c : Nat} (h : c < 2 ^ 32) : 4294967295 ^^^ c < 2 ^ 32 := Nat.xor_lt_two_pow (by decide) h
theorem moreN_lt {c : Nat} (h : c < 2 ^ 32) (l : List UInt8) : moreN c l < 2 ^ 32 := inv_lt (crun_lt l (inv_lt h))
theorem inv_inv (c : Nat) : 4294967295 ^^^ (4294967295 ^^^ c) = c := by rw [← Nat.xor_assoc, Nat.xor_self, Nat.zero_xor]
theorem moreN_app (c : Nat) (l m : List UInt8) : moreN (moreN c l) m = moreN c (l ++ m) := by
  unfold moreN; rw [inv_inv, crun_app]
theorem u32_inv (n : Nat) (h : n < 4294967296) : bits .xor .u32 IntKind.u32.max (n : Int) = ((4294967295 ^^^ n : Nat) : Int) := u32_xor_nat 4294967295 n (by decide) h
theorem and15_u32 (n : Nat) (h : n < 4294967296) : bits .and .u32 (n : Int) 15 = (n : Int) % 16 := by
  have := u32_and_nat n 15 h (by decide)
  rw [show (15 : Nat) = 2 ^ 4 - 1 from rfl, Nat.and_two_pow_sub_one_eq_mod] at this
  exact this.trans (by omega)
theorem u32_tab (m : Nat) (h : m < 4294967296) : bits .xor .u32 ((m : Int) / 16) (cs4 (m % 16) : Int) = (cs4 m : Int) := by
  have := u32_xor_nat (m / 16) (cs4 (m % 16)) (by omega) (cs4_lt (by omega))
  rw [← cs4_tab m] at this
  rw [← this]; congr 1
def U32Res (n : Nat) (w : World) (e : Ending) (w' : World) : Prop := e = .returned (.int .u32 (n : Int)) ∧ w = w'
theorem crun_snoc (c : Nat) (l : List UInt8) (j : Nat) (x : UInt8) (hx : l[j]? = some x) : crun c (l.take (j + 1)) = cs8 (crun c (l.take j) ^^^ x.toNat) := by
  rw [List.take_add_one, hx, Option.toList_some, crun_app]; rfl
set_option maxHeartbeats 1000000 in
set_option maxRecDepth 100000 in
theorem more_any (c : Nat) (hc : c < 2 ^ 32) (v : Value) (l : List UInt8) (w : World) (ht : TabAt w) (h : RdB w v l) : Calls Tryz.prog 123 #[.int .u32 (c : Int), v] w (U32Res (moreN c l) w) := by
  obtain ⟨r, hr⟩ : ∃ r, moreN c l = r := ⟨_, rfl⟩
  have HR : Hid (4294967295 ^^^ crun (4294967295 ^^^ c) l = r) := Lib.hid hr
  rw [hr]
  clear hr
  have hinv := u32_inv c hc
  have hb := inv_lt hc
  generalize 4294967295 ^^^ c = d at *
  have HT : Hid (∀ i : Nat, i < 16 → w.cell? ⟨0, i, none⟩ = some (.int .u32 (cs4 i : Int))) := Lib.hid ht.2
  clear ht
  rcases h with ⟨a, cap, rfl, e⟩ | ⟨b, off, cap, rfl, h1, h2, h3, h4, h5⟩
  · have : l = [] := by simpa using e
    subst this
    have hinv2 := u32_inv d hb
    rw [show 4294967295 ^^^ d = r from HR.out] at hinv2
    clear HR HT
    go_enter Tryz.func123, Tryz.ntmps123
    go_wp2
    refine wp_loop_rounds 1 ?_
    rw [rounds_succ]
    go_wp2
    go_ret
    exact ⟨rfl, rfl⟩
  · rw [List.length_map] at h1 h2 h5 ⊢
    have HC : Hid (∀ i, i < l.length → w.cell? ⟨b, off + i, none⟩ = some (.int .u8 ((l.getD i 0).toNat : Int))) := Lib.hid fun i hi => by
      rw [h5 i hi, List.getD_eq_getElem?_getD, List.getD_eq_getElem?_getD, List.getElem?_map, List.getElem?_eq_getElem hi]; rfl
    clear h5
    unfold maxLen at h3
    go_enter Tryz.func123, Tryz.ntmps123
    go_wp2
    go_loop [5, 12] (fun s i => ∃ (j m : Nat), s = .int .u32 (m : Int) ∧ i = .int .i64 (j : Int) ∧ j ≤ l.length ∧ m < 4294967296 ∧ Hid (m = crun d (l.take j)))
      (fun _ i => l.length - (intOf i).toNat)
    case atStart => exact ⟨0, d, rfl, rfl, by omega, hb, Lib.hid rfl⟩
    case round =>
      obtain ⟨j, m, rfl, rfl, hj, hm, HM⟩ := hrel
      by_cases hlt : j < l.length
      · have hcj := HC.out j hlt
        have HG : Hid (l[j]? = some (l.getD j 0)) := Lib.hid (by rw [List.getD_eq_getElem?_getD, List.getElem?_eq_getElem hlt]; rfl)
        generalize l.getD j 0 = x at hcj HG
        have hxb : x.toNat < 256 := x.toNat_lt
        have hz1 : (j : Int) < (l.length : Int) := by omega
        have e1 := u32_xor_nat m x.toNat hm (by omega)
        have b1 : m ^^^ x.toNat < 4294967296 := Nat.xor_lt_two_pow (n := 32) hm (by omega)
        obtain ⟨m1, hm1⟩ : ∃ m1, m ^^^ x.toNat = m1 := ⟨_, rfl⟩
        rw [hm1] at e1 b1
        have a1 := and15_u32 m1 b1
        have t1 := HT.out (m1 % 16) (Nat.mod_lt _ (by decide))
        have e2 := u32_tab m1 b1
        have b2 : cs4 m1 < 4294967296 := cs4_lt (by omega)
        have HM2 : Hid (cs4 (cs4 m1) = crun d (l.take (j + 1))) := Lib.hid (by rw [crun_snoc d l j x HG.out, ← HM.out, hm1]; rfl)
        generalize cs4 (m1 % 16) = u1 at t1 e2
        generalize cs4 m1 = m2 at e2 b2 HM2
        have a2 := and15_u32 m2 b2
        have t2 := HT.out (m2 % 16) (Nat.mod_lt _ (by decide))
        have e3 := u32_tab m2 b2
        have b3 : cs4 m2 < 4294967296 := cs4_lt (by omega)
        generalize cs4 (m2 % 16) = u2 at t2 e3
        generalize cs4 m2 = m3 at e3 b3 HM2
        clear hm1 HM HG
        go_wp2_with fail
        refine ⟨⟨j + 1, m3, rfl, by go_num, hlt, b3, HM2⟩, by simp [intOf]; omega⟩
      · have hz1 : ¬ (j : Int) < (l.length : Int) := by omega
        obtain rfl : j = l.length := by omega
        have hR : 4294967295 ^^^ m = r := by rw [HM.out, List.take_length]; exact HR.out
        have hinv2 := u32_inv m hm
        rw [hR] at hinv2
        clear HM HR hR hlt
        go_wp2
        go_ret
        exact ⟨rfl, rfl⟩
end Go.Proofs.YtmmkgopnccfiiaaGreatDoor
/- The walks of crc.Sum and the reference's Sum. -/
namespace Go.Proofs.YtmmkgopnccfiiaaGreatDoor
set_option linter.unusedVariables false
open Go.RowKit
set_option maxHeartbeats 1000000 in
theorem sum_any (v : Value) (l : List UInt8) (w : World) (ht : TabAt w) (h : RdB w v l) : Calls Tryz.prog 92 #[v] w (U32Res (moreN 0 l) w) := by
  have HF : Hid (Calls Tryz.prog 123 #[.int .u32 0, v] w (U32Res (moreN 0 l) w)) := Lib.hid (more_any 0 (by decide) v l w ht h)
  generalize moreN 0 l = r at *
  clear h ht
  go_enter Tryz.func92, Tryz.ntmps92
  go_wp2_with fail
  refine HF.out.mono ?_
  rintro e w' ⟨rfl, rfl⟩
  go_wp2
  go_ret
  exact ⟨rfl, rfl⟩
end Go.Proofs.YtmmkgopnccfiiaaGreatDoor
