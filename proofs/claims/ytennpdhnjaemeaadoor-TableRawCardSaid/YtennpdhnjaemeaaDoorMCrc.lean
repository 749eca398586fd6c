/- Plain mathematics of the sum CRC-32C: one step shifts a number below 2^32 and undoes itself; bytes in a window of four that differ leave other states. -/
import Derived.Test.YtennpdhnjaemeaaDoorMBase
import Derived.Below
import Derived.RegionTactic
import Derived.Deep.QuietTactic
import Derived.Deep.LoopGhost
import Derived.BigQuiet
namespace Go.Proofs.YtennpdhnjaemeaaDoor
set_option linter.unusedVariables false
/-- the polynomial's number -/
def cpoly : Nat := 2197175160
def cs1 (c : Nat) : Nat := if c % 2 = 1 then c / 2 ^^^ cpoly else c / 2
def cs8 (c : Nat) : Nat := cs1 (cs1 (cs1 (cs1 (cs1 (cs1 (cs1 (cs1 c)))))))
theorem xor_can {a b p : Nat} (h : a ^^^ p = b ^^^ p) : a = b := by
  have := congrArg (· ^^^ p) h
  simpa [Nat.xor_assoc] using this
theorem xor_canl {a b p : Nat} (h : p ^^^ a = p ^^^ b) : a = b := xor_can (p := p) (by rw [Nat.xor_comm a, Nat.xor_comm b]; exact h)
theorem cpoly_lt : cpoly < 2 ^ 32 := by decide
theorem cs1_lt {c : Nat} (h : c < 2 ^ 32) : cs1 c < 2 ^ 32 := by
  unfold cs1
  split
  · exact Nat.xor_lt_two_pow (by omega) cpoly_lt
  · omega
theorem cs1_bit {c : Nat} (h : c < 2 ^ 32) : (cs1 c).testBit 31 = decide (c % 2 = 1) := by
  have h2 : (c / 2).testBit 31 = false := Nat.testBit_lt_two_pow (by omega)
  unfold cs1
  split
  · rename_i e
    rw [Nat.testBit_xor, h2, decide_eq_true e]
    decide
  · rename_i e
    rw [h2, decide_eq_false e]
theorem cs1_inj {c d : Nat} (hc : c < 2 ^ 32) (hd : d < 2 ^ 32) (h : cs1 c = cs1 d) : c = d := by
  have hb : decide (c % 2 = 1) = decide (d % 2 = 1) := by rw [← cs1_bit hc, ← cs1_bit hd, h]
  unfold cs1 at h
  by_cases e : c % 2 = 1
  · have e2 : d % 2 = 1 := by simpa [e] using hb
    rw [if_pos e, if_pos e2] at h
    have := xor_can h
    omega
  · have e2 : ¬ d % 2 = 1 := by simpa [e] using hb
    rw [if_neg e, if_neg e2] at h
    omega
theorem xor_div2 (a b : Nat) : (a ^^^ b) / 2 = a / 2 ^^^ b / 2 := Nat.xor_div_two
theorem cs1_xor (v y : Nat) : cs1 (v ^^^ 2 * y) = cs1 v ^^^ y := by
  have h1 : (v ^^^ 2 * y) % 2 = v % 2 := by
    have := Nat.xor_mod_two_pow (a := v) (b := 2 * y) (n := 1)
    simpa using this
  have h2 : (v ^^^ 2 * y) / 2 = v / 2 ^^^ y := by rw [xor_div2]; congr 1; omega
  unfold cs1
  rw [h1, h2]
  split
  · rw [Nat.xor_assoc, Nat.xor_comm y, ← Nat.xor_assoc]
  · rfl
theorem cs8_lt {c : Nat} (h : c < 2 ^ 32) : cs8 c < 2 ^ 32 := cs1_lt (cs1_lt (cs1_lt (cs1_lt (cs1_lt (cs1_lt (cs1_lt (cs1_lt h)))))))
theorem cs8_inj {c d : Nat} (hc : c < 2 ^ 32) (hd : d < 2 ^ 32) (h : cs8 c = cs8 d) : c = d := by
  unfold cs8 at h
  have c1 := cs1_lt hc; have c2 := cs1_lt c1; have c3 := cs1_lt c2; have c4 := cs1_lt c3; have c5 := cs1_lt c4; have c6 := cs1_lt c5; have c7 := cs1_lt c6
  have d1 := cs1_lt hd; have d2 := cs1_lt d1; have d3 := cs1_lt d2; have d4 := cs1_lt d3; have d5 := cs1_lt d4; have d6 := cs1_lt d5; have d7 := cs1_lt d6
  exact cs1_inj hc hd (cs1_inj c1 d1 (cs1_inj c2 d2 (cs1_inj c3 d3 (cs1_inj c4 d4 (cs1_inj c5 d5 (cs1_inj c6 d6 (cs1_inj c7 d7 h)))))))
theorem cs8_xor (v y : Nat) : cs8 (v ^^^ 256 * y) = cs8 v ^^^ y := by
  unfold cs8
  rw [show 256 * y = 2 * (128 * y) by omega, cs1_xor, show 128 * y = 2 * (64 * y) by omega, cs1_xor, show 64 * y = 2 * (32 * y) by omega, cs1_xor, show 32 * y = 2 * (16 * y) by omega, cs1_xor,
    show 16 * y = 2 * (8 * y) by omega, cs1_xor, show 8 * y = 2 * (4 * y) by omega, cs1_xor, show 4 * y = 2 * (2 * y) by omega, cs1_xor, cs1_xor]
/-- a state, a byte further -/
def cstep (c : Nat) (b : UInt8) : Nat := cs8 (c ^^^ b.toNat)
def crun (c : Nat) (l : List UInt8) : Nat := l.foldl cstep c
theorem b32 (b : UInt8) : b.toNat < 2 ^ 32 := by have := b.toNat_lt; omega
theorem cstep_lt {c : Nat} (h : c < 2 ^ 32) (b : UInt8) : cstep c b < 2 ^ 32 := cs8_lt (Nat.xor_lt_two_pow h (b32 b))
theorem crun_lt (l : List UInt8) : ∀ {c : Nat}, c < 2 ^ 32 → crun c l < 2 ^ 32 := by
  induction l with
  | nil => intro c h; exact h
  | cons b l ih => intro c h; exact ih (cstep_lt h b)
theorem crun_app (c : Nat) (l m : List UInt8) : crun c (l ++ m) = crun (crun c l) m := List.foldl_append ..
theorem crun_inj (l : List UInt8) : ∀ {c d : Nat}, c < 2 ^ 32 → d < 2 ^ 32 → crun c l = crun d l → c = d := by
  induction l with
  | nil => intro c d _ _ h; exact h
  | cons b l ih =>
    intro c d hc hd h
    have := ih (cstep_lt hc b) (cstep_lt hd b) h
    exact xor_can (cs8_inj (Nat.xor_lt_two_pow hc (b32 b)) (Nat.xor_lt_two_pow hd (b32 b)) this)
/-- bytes as one number, the first lowest -/
def pack : List UInt8 → Nat
  | [] => 0
  | b :: r => b.toNat ^^^ 256 * pack r
theorem pack_lt : ∀ l : List UInt8, pack l < 2 ^ (8 * l.length)
  | [] => by simp [pack]
  | b :: r => by
    have h := pack_lt r
    have hb := b.toNat_lt
    unfold pack
    refine Nat.xor_lt_two_pow ?_ ?_
    · refine Nat.lt_of_lt_of_le hb ?_
      rw [List.length_cons]
      exact Nat.pow_le_pow_right (by omega) (by omega)
    · rw [List.length_cons, show 8 * (r.length + 1) = 8 + 8 * r.length by omega, Nat.pow_add]
      exact Nat.mul_lt_mul_of_pos_left h (by decide)
theorem pack_mod (b : UInt8) (y : Nat) : (b.toNat ^^^ 256 * y) % 256 = b.toNat := by
  have := Nat.xor_mod_two_pow (a := b.toNat) (b := 256 * y) (n := 8)
  have hb := b.toNat_lt
  have h2 : 256 * y % 256 = 0 := by omega
  rw [show (256 : Nat) = 2 ^ 8 from rfl, this]
  rw [show (2 : Nat) ^ 8 = 256 from rfl, h2, Nat.xor_zero]; omega
theorem pack_inj : ∀ {l m : List UInt8}, l.length = m.length → pack l = pack m → l = m
  | [], [], _, _ => rfl
  | [], _ :: _, h, _ => by simp at h
  | _ :: _, [], h, _ => by simp at h
  | a :: l, b :: m, h, e => by
    unfold pack at e
    have h1 : a.toNat = b.toNat := by rw [← pack_mod a (pack l), e, pack_mod]
    rw [h1] at e
    have h2 := xor_canl e
    have h3 : pack l = pack m := by omega
    rw [UInt8.toNat_inj.1 h1, pack_inj (by simpa using h) h3]
/-- so many bytes' worth of shifts -/
def csN : Nat → Nat → Nat
  | 0, c => c
  | n + 1, c => csN n (cs8 c)
theorem csN_inj : ∀ (n : Nat) {c d : Nat}, c < 2 ^ 32 → d < 2 ^ 32 → csN n c = csN n d → c = d
  | 0, _, _, _, _, h => h
  | n + 1, c, d, hc, hd, h => cs8_inj hc hd (csN_inj n (cs8_lt hc) (cs8_lt hd) h)
theorem crun_pack : ∀ (l : List UInt8) (c : Nat), crun c l = csN l.length (c ^^^ pack l)
  | [], c => by simp [crun, csN, pack]
  | b :: r, c => by
    show crun (cstep c b) r = csN r.length (cs8 (c ^^^ (b.toNat ^^^ 256 * pack r)))
    rw [crun_pack r, ← Nat.xor_assoc, cs8_xor]; rfl
/-- Up to four bytes that are not the same leave states that are not. -/
theorem crun_win {c : Nat} (hc : c < 2 ^ 32) {l m : List UInt8} (hl : l.length = m.length) (h4 : l.length ≤ 4) (h : crun c l = crun c m) : l = m := by
  rw [crun_pack, crun_pack, ← hl] at h
  have p1 : pack l < 2 ^ 32 := Nat.lt_of_lt_of_le (pack_lt l) (Nat.pow_le_pow_right (by omega) (by omega))
  have p2 : pack m < 2 ^ 32 := Nat.lt_of_lt_of_le (pack_lt m) (Nat.pow_le_pow_right (by omega) (by omega))
  exact pack_inj hl (xor_canl (csN_inj _ (Nat.xor_lt_two_pow hc p1) (Nat.xor_lt_two_pow hc p2) h))
/-- A text of which a window of up to four bytes was changed has another state. -/
theorem crun_burst {c : Nat} (hc : c < 2 ^ 32) (p l m r : List UInt8) (hl : l.length = m.length) (h4 : l.length ≤ 4) (hne : l ≠ m) : crun c (p ++ l ++ r) ≠ crun c (p ++ m ++ r) := by
  intro h
  rw [crun_app, crun_app, crun_app, crun_app] at h
  have h0 := crun_lt p hc
  exact hne (crun_win h0 hl h4 (crun_inj r (crun_lt l h0) (crun_lt m h0) h))
end Go.Proofs.YtennpdhnjaemeaaDoor
/- The table of crc: what its sixteen words are; a byte taken in as two halves. -/
namespace Go.Proofs.YtennpdhnjaemeaaDoor
open Go.RowKit
set_option linter.unusedVariables false
def cs4 (c : Nat) : Nat := cs1 (cs1 (cs1 (cs1 c)))
theorem cs4_lt {c : Nat} (h : c < 2 ^ 32) : cs4 c < 2 ^ 32 := cs1_lt (cs1_lt (cs1_lt (cs1_lt h)))
theorem cs4_xor (v y : Nat) : cs4 (v ^^^ 16 * y) = cs4 v ^^^ y := by
  unfold cs4
  rw [show 16 * y = 2 * (8 * y) by omega, cs1_xor, show 8 * y = 2 * (4 * y) by omega, cs1_xor, show 4 * y = 2 * (2 * y) by omega, cs1_xor, cs1_xor]
theorem split16 (r : Nat) : r % 16 ^^^ 16 * (r / 16) = r := by
  apply Nat.eq_of_testBit_eq
  intro i
  rw [Nat.testBit_xor, show (16 : Nat) = 2 ^ 4 from rfl, Nat.testBit_mod_two_pow, Nat.testBit_two_pow_mul, Nat.testBit_div_two_pow]
  by_cases h : i < 4
  · have h2 : ¬ 4 ≤ i := by omega
    simp [h, h2]
  · have h2 : 4 ≤ i := by omega
    simp [h, h2, Nat.sub_add_cancel h2]
/-- four steps: the table's word for what leaves, and what stays. -/
theorem cs4_tab (r : Nat) : cs4 r = r / 16 ^^^ cs4 (r % 16) := by
  conv => lhs; rw [← split16 r]
  rw [cs4_xor, Nat.xor_comm]
theorem cs8_two (c : Nat) : cs8 c = cs4 (cs4 c) := rfl
/-- the table, as the program's start lays it -/
def TabAt (W : World) : Prop := 0 < W.heap.size ∧ ∀ i : Nat, i < 16 → W.cell? ⟨0, i, none⟩ = some (.int .u32 (cs4 i : Int))
theorem TabAt.below {W W' : World} (h : TabAt W) (hb : Below W.heap.size W W') : TabAt W' := ⟨Nat.lt_of_lt_of_le h.1 hb.size, fun i hi => by rw [hb.cell h.1]; exact h.2 i hi⟩
end Go.Proofs.YtennpdhnjaemeaaDoor
/- The walks of crc.More, crc.Sum and the reference's Sum. -/
namespace Go.Proofs.YtennpdhnjaemeaaDoor
set_option linter.unusedVariables false
open Go.RowKit
/-- the sum of what had the sum c, and l behind it -/
def moreN (c : Nat) (l : List UInt8) : Nat := 4294967295 ^^^ crun (4294967295 ^^^ c) l
theorem inv_lt {c : Nat} (h : c < 2 ^ 32) : 4294967295 ^^^ c < 2 ^ 32 := Nat.xor_lt_two_pow (by decide) h
theorem moreN_lt {c : Nat} (h : c < 2 ^ 32) (l : List UInt8) : moreN c l < 2 ^ 32 := inv_lt (crun_lt l (inv_lt h))
theorem inv_inv (c : Nat) : 4294967295 ^^^ (4294967295 ^^^ c) = c := by rw [← Nat.xor_assoc, Nat.xor_self, Nat.zero_xor]
theorem moreN_app (c : Nat) (l m : List UInt8) : moreN (moreN c l) m = moreN c (l ++ m) := by
  unfold moreN; rw [inv_inv, crun_app]
theorem moreN_nil (c : Nat) : moreN c [] = c := inv_inv c
theorem u32_inv (n : Nat) (h : n < 4294967296) : bits .xor .u32 IntKind.u32.max (n : Int) = ((4294967295 ^^^ n : Nat) : Int) := u32_xor_nat 4294967295 n (by decide) h
theorem and15_u32 (n : Nat) (h : n < 4294967296) : bits .and .u32 (n : Int) 15 = (n : Int) % 16 := by
  have := u32_and_nat n 15 h (by decide)
  rw [show (15 : Nat) = 2 ^ 4 - 1 from rfl, Nat.and_two_pow_sub_one_eq_mod] at this
  exact this.trans (by omega)
theorem u32_tab (m : Nat) (h : m < 4294967296) : bits .xor .u32 ((m : Int) / 16) (cs4 (m % 16) : Int) = (cs4 m : Int) := by
  have := u32_xor_nat (m / 16) (cs4 (m % 16)) (by omega) (cs4_lt (by omega))
  rw [← cs4_tab m] at this
  rw [← this]; congr 1
def U32Res (n : Nat) (w : World) (e : Ending) (w' : World) : Prop := e = .returned (.int .u32 (n : Int)) ∧ w = w'
theorem crun_snoc (c : Nat) (l : List UInt8) (j : Nat) (x : UInt8) (hx : l[j]? = some x) : crun c (l.take (j + 1)) = cs8 (crun c (l.take j) ^^^ x.toNat) := by
  rw [List.take_add_one, hx, Option.toList_some, crun_app]; rfl
set_option maxHeartbeats 1000000 in
set_option maxRecDepth 100000 in
theorem more_any (c : Nat) (hc : c < 2 ^ 32) (v : Value) (l : List UInt8) (w : World) (ht : TabAt w) (h : RdB w v l) : Calls Tryd.prog 80 #[.int .u32 (c : Int), v] w (U32Res (moreN c l) w) := by
  obtain ⟨r, hr⟩ : ∃ r, moreN c l = r := ⟨_, rfl⟩
  have HR : Hid (4294967295 ^^^ crun (4294967295 ^^^ c) l = r) := Lib.hid hr
  rw [hr]
  clear hr
  have hinv := u32_inv c hc
  have hb := inv_lt hc
  generalize 4294967295 ^^^ c = d at *
  have HT : Hid (∀ i : Nat, i < 16 → w.cell? ⟨0, i, none⟩ = some (.int .u32 (cs4 i : Int))) := Lib.hid ht.2
  clear ht
  rcases h with ⟨a, cap, rfl, e⟩ | ⟨b, off, cap, rfl, h1, h2, h3, h4, h5⟩
  · have : l = [] := by simpa using e
    subst this
    have hinv2 := u32_inv d hb
    rw [show 4294967295 ^^^ d = r from HR.out] at hinv2
    clear HR HT
    go_enter Tryd.func80, Tryd.ntmps80
    go_wp2
    refine wp_loop_rounds 1 ?_
    rw [rounds_succ]
    go_wp2
    go_ret
    exact ⟨rfl, rfl⟩
  · rw [List.length_map] at h1 h2 h5 ⊢
    have HC : Hid (∀ i, i < l.length → w.cell? ⟨b, off + i, none⟩ = some (.int .u8 ((l.getD i 0).toNat : Int))) := Lib.hid fun i hi => by
      rw [h5 i hi, List.getD_eq_getElem?_getD, List.getD_eq_getElem?_getD, List.getElem?_map, List.getElem?_eq_getElem hi]; rfl
    clear h5
    unfold maxLen at h3
    go_enter Tryd.func80, Tryd.ntmps80
    go_wp2
    go_loop [5, 12] (fun s i => ∃ (j m : Nat), s = .int .u32 (m : Int) ∧ i = .int .i64 (j : Int) ∧ j ≤ l.length ∧ m < 4294967296 ∧ Hid (m = crun d (l.take j)))
      (fun _ i => l.length - (intOf i).toNat)
    case atStart => exact ⟨0, d, rfl, rfl, by omega, hb, Lib.hid rfl⟩
    case round =>
      obtain ⟨j, m, rfl, rfl, hj, hm, HM⟩ := hrel
      by_cases hlt : j < l.length
      · have hcj := HC.out j hlt
        have HG : Hid (l[j]? = some (l.getD j 0)) := Lib.hid (by rw [List.getD_eq_getElem?_getD, List.getElem?_eq_getElem hlt]; rfl)
        generalize l.getD j 0 = x at hcj HG
        have hxb : x.toNat < 256 := x.toNat_lt
        have hz1 : (j : Int) < (l.length : Int) := by omega
        have e1 := u32_xor_nat m x.toNat hm (by omega)
        have b1 : m ^^^ x.toNat < 4294967296 := Nat.xor_lt_two_pow (n := 32) hm (by omega)
        obtain ⟨m1, hm1⟩ : ∃ m1, m ^^^ x.toNat = m1 := ⟨_, rfl⟩
        rw [hm1] at e1 b1
        have a1 := and15_u32 m1 b1
        have t1 := HT.out (m1 % 16) (Nat.mod_lt _ (by decide))
        have e2 := u32_tab m1 b1
        have b2 : cs4 m1 < 4294967296 := cs4_lt (by omega)
        have HM2 : Hid (cs4 (cs4 m1) = crun d (l.take (j + 1))) := Lib.hid (by rw [crun_snoc d l j x HG.out, ← HM.out, hm1]; rfl)
        generalize cs4 (m1 % 16) = u1 at t1 e2
        generalize cs4 m1 = m2 at e2 b2 HM2
        have a2 := and15_u32 m2 b2
        have t2 := HT.out (m2 % 16) (Nat.mod_lt _ (by decide))
        have e3 := u32_tab m2 b2
        have b3 : cs4 m2 < 4294967296 := cs4_lt (by omega)
        generalize cs4 (m2 % 16) = u2 at t2 e3
        generalize cs4 m2 = m3 at e3 b3 HM2
        clear hm1 HM HG
        go_wp2_with fail
        refine ⟨⟨j + 1, m3, rfl, by go_num, hlt, b3, HM2⟩, by simp [intOf]; omega⟩
      · have hz1 : ¬ (j : Int) < (l.length : Int) := by omega
        obtain rfl : j = l.length := by omega
        have hR : 4294967295 ^^^ m = r := by rw [HM.out, List.take_length]; exact HR.out
        have hinv2 := u32_inv m hm
        rw [hR] at hinv2
        clear HM HR hR hlt
        go_wp2
        go_ret
        exact ⟨rfl, rfl⟩
end Go.Proofs.YtennpdhnjaemeaaDoor
/- The walks of crc.Sum and the reference's Sum. -/
namespace Go.Proofs.YtennpdhnjaemeaaDoor
set_option linter.unusedVariables false
open Go.RowKit
set_option maxHeartbeats 1000000 in
theorem sum_any (v : Value) (l : List UInt8) (w : World) (ht : TabAt w) (h : RdB w v l) : Calls Tryd.prog 57 #[v] w (U32Res (moreN 0 l) w) := by
  have HF : Hid (Calls Tryd.prog 80 #[.int .u32 0, v] w (U32Res (moreN 0 l) w)) := Lib.hid (more_any 0 (by decide) v l w ht h)
  generalize moreN 0 l = r at *
  clear h ht
  go_enter Tryd.func57, Tryd.ntmps57
  go_wp2_with fail
  refine HF.out.mono ?_
  rintro e w' ⟨rfl, rfl⟩
  go_wp2
  go_ret
  exact ⟨rfl, rfl⟩
/-- k steps of a bit -/
def csI : Nat → Nat → Nat
  | 0, c => c
  | k + 1, c => cs1 (csI k c)
theorem csI_lt : ∀ (k : Nat) {c : Nat}, c < 2 ^ 32 → csI k c < 2 ^ 32
  | 0, _, h => h
  | k + 1, _, h => cs1_lt (csI_lt k h)
theorem cs1_odd {m : Nat} (h : m < 4294967296) (ho : m % 2 = 1) : bits .xor .u32 ((m : Int) / 2) 2197175160 = (cs1 m : Int) := by
  have := u32_xor_nat (m / 2) 2197175160 (by omega) (by decide)
  unfold cs1
  rw [if_pos ho]
  exact Eq.trans (by congr 1) this
theorem cs1_even {m : Nat} (ho : ¬ m % 2 = 1) : (cs1 m : Int) = (m : Int) / 2 := by
  unfold cs1
  rw [if_neg ho]
  omega
end Go.Proofs.YtennpdhnjaemeaaDoor
/- Bytes of which a window was changed have another sum. -/
namespace Go.Proofs.YtennpdhnjaemeaaDoor
set_option linter.unusedVariables false
/-- a window of up to four bytes that was changed changes the sum. -/
theorem moreN_burst {c : Nat} (hc : c < 2 ^ 32) (p l m r : List UInt8) (hl : l.length = m.length) (h4 : l.length ≤ 4) (hne : l ≠ m) : moreN c (p ++ l ++ r) ≠ moreN c (p ++ m ++ r) :=
  fun h => crun_burst (inv_lt hc) p l m r hl h4 hne (xor_canl h)
theorem set_parts {l : List UInt8} {k : Nat} (h : k < l.length) (x : UInt8) : l = l.take k ++ [l.getD k 0] ++ l.drop (k + 1) ∧ l.set k x = l.take k ++ [x] ++ l.drop (k + 1) := by
  refine ⟨?_, ?_⟩
  · rw [List.getD_eq_getElem?_getD, List.getElem?_eq_getElem h, Option.getD_some, List.append_assoc, List.singleton_append, ← List.drop_eq_getElem_cons, List.take_append_drop]
  · rw [List.set_eq_take_append_cons_drop, if_pos h, List.append_assoc]; rfl
theorem xor_other {x y : UInt8} (h : x ≠ 0) : y ≠ y ^^^ x := by
  intro e
  have : y ^^^ 0 = y ^^^ x := by rw [UInt8.xor_zero]; exact e
  exact h ((UInt8.xor_right_inj y).1 this).symm
theorem moreN_set {l : List UInt8} {k : Nat} (h : k < l.length) {x : UInt8} (hx : x ≠ 0) : moreN 0 l ≠ moreN 0 (l.set k (l.getD k 0 ^^^ x)) := by
  obtain ⟨e1, e2⟩ := set_parts h (l.getD k 0 ^^^ x)
  rw [e2]
  conv => lhs; rw [e1]
  exact moreN_burst (by decide) _ _ _ _ rfl (by simp) (by simpa using xor_other hx)
end Go.Proofs.YtennpdhnjaemeaaDoor
