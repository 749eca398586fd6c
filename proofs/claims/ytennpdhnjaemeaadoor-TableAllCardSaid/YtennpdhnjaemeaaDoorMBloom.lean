/- Plain mathematics of filters: bits of bytes that are set and stay set; a text's six places. -/
import Derived.Test.YtennpdhnjaemeaaDoorMBase
import Derived.Test.YtennpdhnjaemeaaDoorMBlk
import Derived.Deep.QuietTactic
import Derived.RegionTactic
import Derived.Lib.Hide
import Derived.Deep.LoopGhost
import Derived.Laws.BitsAllLaws
import Derived.StillTailTactics
import Derived.Deep.DeepCutAuto
import Derived.BigQuiet
namespace Go.Proofs.YtennpdhnjaemeaaDoor
set_option linter.unusedVariables false
/-- Bit k of bytes one behind the other. -/
def hasBit (f : List UInt8) (k : Nat) : Bool := ((f[k / 8]?.getD 0).toNat).testBit (k % 8)
/-- A byte with one bit more. -/
def orBit (b : UInt8) (i : Nat) : UInt8 := UInt8.ofNat (b.toNat ||| 2 ^ i)
theorem orBit_nat (b : UInt8) {i : Nat} (h : i < 8) : (orBit b i).toNat = b.toNat ||| 2 ^ i := by
  unfold orBit
  have h1 : b.toNat ||| 2 ^ i < 2 ^ 8 := Nat.or_lt_two_pow (by have := b.toNat_lt; omega) (Nat.pow_lt_pow_right (by omega) h)
  rw [UInt8.toNat_ofNat']
  exact Nat.mod_eq_of_lt (by simpa using h1)
def putBit (f : List UInt8) (k : Nat) : List UInt8 := f.set (k / 8) (orBit (f[k / 8]?.getD 0) (k % 8))
theorem putBit_len (f : List UInt8) (k : Nat) : (putBit f k).length = f.length := List.length_set
theorem putBit_has (f : List UInt8) {k : Nat} (h : k < 8 * f.length) : hasBit (putBit f k) k = true := by
  unfold hasBit putBit
  have hl : k / 8 < f.length := by omega
  rw [List.getElem?_set_self hl, Option.getD_some, orBit_nat _ (Nat.mod_lt _ (by omega)), Nat.testBit_or, Nat.testBit_two_pow_self, Bool.or_true]
theorem putBit_keep (f : List UInt8) (k : Nat) {j : Nat} (h : hasBit f j = true) : hasBit (putBit f k) j = true := by
  unfold hasBit putBit at *
  by_cases e : k / 8 = j / 8
  · by_cases hl : k / 8 < f.length
    · rw [← e, List.getElem?_set_self hl, Option.getD_some, orBit_nat _ (Nat.mod_lt _ (by omega)), Nat.testBit_or]
      rw [← e] at h
      rw [h, Bool.true_or]
    · rw [List.set_eq_of_length_le (by omega)]; exact h
  · rw [List.getElem?_set_ne e]; exact h
/-- h turned right by 17 bits. -/
def rotN (h : Nat) : Nat := h / 2 ^ 17 + h % 2 ^ 17 * 2 ^ 47
/-- A text's k-th place, h its sum. -/
def plcN (bits h k : Nat) : Nat := (h + k * rotN h) % 2 ^ 64 % bits
theorem plcN_lt {bits : Nat} (hb : 0 < bits) (h k : Nat) : plcN bits h k < bits := Nat.mod_lt _ hb
def addTo (bits h : Nat) (f : List UInt8) : Nat → List UInt8
  | 0 => f
  | n + 1 => putBit (addTo bits h f n) (plcN bits h n)
def addH (bits : Nat) (f : List UInt8) (h : Nat) : List UInt8 := addTo bits h f 6
def mayH (bits : Nat) (f : List UInt8) (h : Nat) : Bool := (List.range 6).all fun k => hasBit f (plcN bits h k)
theorem addTo_len (bits h : Nat) (f : List UInt8) : ∀ n, (addTo bits h f n).length = f.length
  | 0 => rfl
  | n + 1 => by rw [addTo, putBit_len, addTo_len bits h f n]
theorem addH_len (bits h : Nat) (f : List UInt8) : (addH bits f h).length = f.length := addTo_len bits h f 6
theorem addTo_keep (bits h : Nat) (f : List UInt8) {j : Nat} (hj : hasBit f j = true) : ∀ n, hasBit (addTo bits h f n) j = true
  | 0 => hj
  | n + 1 => putBit_keep _ _ (addTo_keep bits h f hj n)
theorem addTo_has (bits h : Nat) (f : List UInt8) (hb : 0 < bits) (hl : bits ≤ 8 * f.length) : ∀ n k, k < n → hasBit (addTo bits h f n) (plcN bits h k) = true
  | 0, k, hk => by omega
  | n + 1, k, hk => by
    by_cases e : k = n
    · subst e
      exact putBit_has _ (by rw [addTo_len]; have := plcN_lt hb h k; omega)
    · exact putBit_keep _ _ (addTo_has bits h f hb hl n k (by omega))
theorem mayH_add {bits : Nat} (hb : 0 < bits) {f : List UInt8} (hl : bits ≤ 8 * f.length) (h : Nat) : mayH bits (addH bits f h) h = true := by
  unfold mayH
  rw [List.all_eq_true]
  exact fun k hk => addTo_has bits h f hb hl 6 k (List.mem_range.1 hk)
theorem mayH_keep {bits : Nat} {f : List UInt8} (g : Nat) {h : Nat} (hm : mayH bits f h = true) : mayH bits (addH bits f g) h = true := by
  unfold mayH at *
  rw [List.all_eq_true] at *
  exact fun k hk => addTo_keep bits g f (hm k hk) 6
/-- The bits of a filter of texts whose sums are hs. -/
def bitsN (n : Nat) : Nat := (max 64 (10 * n) + 7) / 8 * 8
def filterF (hs : List Nat) : List UInt8 := hs.foldl (addH (bitsN hs.length)) (List.replicate (bitsN hs.length / 8) 0)
theorem fold_len (bits : Nat) : ∀ (hs : List Nat) (f : List UInt8), (hs.foldl (addH bits) f).length = f.length
  | [], _ => rfl
  | h :: hs, f => by rw [List.foldl_cons, fold_len bits hs, addH_len]
theorem fold_keep (bits : Nat) {g : Nat} : ∀ (hs : List Nat) (f : List UInt8), mayH bits f g = true → mayH bits (hs.foldl (addH bits) f) g = true
  | [], _, h => h
  | h :: hs, f, hm => by rw [List.foldl_cons]; exact fold_keep bits hs _ (mayH_keep h hm)
theorem fold_has {bits : Nat} (hb : 0 < bits) {g : Nat} : ∀ (hs : List Nat) (f : List UInt8), bits ≤ 8 * f.length → g ∈ hs → mayH bits (hs.foldl (addH bits) f) g = true
  | [], _, _, h => absurd h List.not_mem_nil
  | h :: hs, f, hl, hm => by
    rw [List.foldl_cons]
    rcases List.mem_cons.1 hm with rfl | hm
    · exact fold_keep bits hs _ (mayH_add hb hl g)
    · exact fold_has hb hs _ (by rw [addH_len]; exact hl) hm
theorem filterF_len (hs : List Nat) : (filterF hs).length = bitsN hs.length / 8 := by
  unfold filterF; rw [fold_len, List.length_replicate]
theorem filterF_has {hs : List Nat} {g : Nat} (h : g ∈ hs) : mayH (bitsN hs.length) (filterF hs) g = true := by
  unfold filterF
  refine fold_has (by unfold bitsN; omega) hs _ ?_ h
  rw [List.length_replicate]
  unfold bitsN; omega
end Go.Proofs.YtennpdhnjaemeaaDoor
/- The sum of a text's bytes. -/
namespace Go.Proofs.YtennpdhnjaemeaaDoor
set_option linter.unusedVariables false
/-- The sum of a text's bytes, a byte further. -/
def hstep (h : Int) (b : UInt8) : Int := IntKind.u64.wrap (bits .xor .u64 h (IntKind.u64.wrap b.toNat) * 1099511628211)
def hashL (l : List UInt8) : Int := l.foldl hstep 14695981039346656037
theorem hashL_take (l : List UInt8) (k : Nat) (h : k < l.length) : hashL (l.take (k + 1)) = hstep (hashL (l.take k)) l[k] := by
  unfold hashL; rw [List.take_succ_eq_append_getElem h, List.foldl_append]; rfl
end Go.Proofs.YtennpdhnjaemeaaDoor
/- The walk of ckey.Hash. -/
namespace Go.Proofs.YtennpdhnjaemeaaDoor
set_option linter.unusedVariables false
open Go.RowKit
theorem hashS_take (s : ByteArray) (k : Nat) (h : k < s.size) : hashL (s.data.toList.take (k + 1)) = hstep (hashL (s.data.toList.take k)) (s[k]'h) :=
  hashL_take s.data.toList k (by rw [size_toList]; exact h)
theorem hash_all (s : ByteArray) : hashL (s.data.toList.take s.size) = hashL s.data.toList := by rw [List.take_of_length_le (by rw [size_toList]; omega)]
set_option maxHeartbeats 1000000 in
theorem khash_any (s : ByteArray) (hs : s.size ≤ maxLen) (w : World) :
    Calls Tryd.prog 81 #[.string s] w fun e w' => e = .returned (.int .u64 (hashL s.data.toList)) ∧ w = w' := by
  unfold maxLen at hs
  have HE := Lib.hid (hash_all s)
  go_enter Tryd.func81, Tryd.ntmps81
  go_wp2
  go_loop [3, 4] (fun h i => ∃ k : Nat, k ≤ s.size ∧ i = .int .i64 k ∧ h = .int .u64 (hashL (s.data.toList.take k))) (fun _ i => s.size - (intOf i).toNat)
  case atStart => exact ⟨0, Nat.zero_le _, rfl, rfl⟩
  case round =>
    obtain ⟨k, hk, rfl, rfl⟩ := hrel
    by_cases hlt : k < s.size
    · have HS := Lib.hid (hashS_take s k hlt)
      obtain ⟨x, hx⟩ : ∃ x, hashL (s.data.toList.take k) = x := ⟨_, rfl⟩
      rw [hx] at HS ⊢
      clear hx
      go_wp2
      go_round
      case rel => exact ⟨k + 1, by omega, by go_num, by rw [HS.out, hstep]⟩
      case measure => simp [intOf]; omega
    · obtain rfl : k = s.size := by omega
      go_wp2
      go_ret
      exact ⟨ret_int HE.out, rfl⟩
end Go.Proofs.YtennpdhnjaemeaaDoor
/- The walks of bloom.bytesFor, mask, places. -/
namespace Go.Proofs.YtennpdhnjaemeaaDoor
set_option linter.unusedVariables false
open Go.RowKit
theorem bytesFor_any (n : Nat) (hn : n ≤ 100000000000) (w : World) :
    Calls Tryd.prog 61 #[.int .i64 (n : Int)] w fun e w' => e = .returned (.int .i64 ((bitsN n / 8 : Nat) : Int)) ∧ w = w' := by
  have e : bitsN n / 8 = (max 64 (10 * n) + 7) / 8 := by unfold bitsN; omega
  go_enter Tryd.func61, Tryd.ntmps61
  go_wp2
  all_goals
    go_ret
    refine ⟨ret_int ?_, rfl⟩
    omega
theorem pow_u8 : ∀ k : Fin 8, (2 : Int) ^ k.val % 256 = ((2 ^ k.val : Nat) : Int) := by decide
theorem mask_any (k : Nat) (hk : k < 18446744073709551616) (w : World) :
    Calls Tryd.prog 63 #[.int .u64 (k : Int)] w fun e w' => e = .returned (.int .u8 ((2 ^ (k % 8) : Nat) : Int)) ∧ w = w' := by
  go_enter Tryd.func63, Tryd.ntmps63
  go_wp2
  go_ret
  exact ⟨ret_int (pow_u8 ⟨k % 8, Nat.mod_lt _ (by decide)⟩), rfl⟩
theorem rot_bits (k : Nat) (hk : k < 18446744073709551616) : bits .or .u64 (IntKind.u64.wrap ((k : Int) * 2 ^ 47)) ((k : Int) / 2 ^ 17) = ((rotN k : Nat) : Int) := by
  have e1 : IntKind.u64.wrap ((k : Int) * 2 ^ 47) = ((k % 2 ^ 17 * 2 ^ 47 : Nat) : Int) := by
    rw [IntKind.wrap_u64]; omega
  have e2 : (k : Int) / 2 ^ 17 = ((k / 2 ^ 17 : Nat) : Int) := by omega
  rw [e1, e2, u64_or_nat _ _ (by omega) (by omega), nat_join 47 _ _ (Nat.mul_mod_left _ _) (by omega)]
  unfold rotN
  omega
theorem rotate_any (k : Nat) (hk : k < 18446744073709551616) (w : World) :
    Calls Tryd.prog 82 #[.int .u64 (k : Int), .int .i64 (-17)] w fun e w' => e = .returned (.int .u64 ((rotN k : Nat) : Int)) ∧ w = w' := by
  have h47 : bits BinOp.and IntKind.u64 (IntKind.u64.wrap (-17)) 63 = 47 := by decide +kernel
  have HR := Lib.hid (rot_bits k hk)
  go_enter Tryd.func82, Tryd.ntmps82
  go_wp2
  go_ret
  exact ⟨ret_int HR.out, rfl⟩
theorem rotN_lt {k : Nat} (hk : k < 18446744073709551616) : rotN k < 18446744073709551616 := by unfold rotN; omega
theorem hash_nat (l : List UInt8) : ∃ h : Nat, hashL l = (h : Int) ∧ h < 18446744073709551616 := by
  have : ∀ (l : List UInt8) (z : Int), 0 ≤ z → z < 18446744073709551616 → 0 ≤ l.foldl hstep z ∧ l.foldl hstep z < 18446744073709551616 := by
    intro l
    induction l with
    | nil => exact fun z h0 h1 => ⟨h0, h1⟩
    | cons b l ih => exact fun z h0 h1 => ih _ (by unfold hstep; rw [IntKind.wrap_u64]; omega) (by unfold hstep; rw [IntKind.wrap_u64]; omega)
  obtain ⟨h0, h1⟩ := this l 14695981039346656037 (by decide) (by decide)
  exact ⟨(hashL l).toNat, by unfold hashL at *; omega, by unfold hashL at *; omega⟩
/-- A text's sum. -/
def hashN (s : ByteArray) : Nat := (hashL s.data.toList).toNat
theorem hashN_is (s : ByteArray) : hashL s.data.toList = (hashN s : Int) ∧ hashN s < 18446744073709551616 := by
  obtain ⟨h, e, hl⟩ := hash_nat s.data.toList
  unfold hashN
  rw [e]; exact ⟨by omega, by omega⟩
def plcV (bits h : Nat) : Value := .agg #[.int .u64 (plcN bits h 0 : Nat), .int .u64 (plcN bits h 1 : Nat), .int .u64 (plcN bits h 2 : Nat), .int .u64 (plcN bits h 3 : Nat), .int .u64 (plcN bits h 4 : Nat), .int .u64 (plcN bits h 5 : Nat)]
/-- The places behind k rounds. -/
def plcA (bits h k : Nat) : Array Value := ((List.range 6).map fun j => if j < k then .int .u64 (plcN bits h j : Nat) else .int .u64 0).toArray
theorem plcA_set (bits h : Nat) {k : Nat} (hk : k < 6) : (plcA bits h k).setIfInBounds k (.int .u64 (plcN bits h k : Nat)) = plcA bits h (k + 1) := by
  match k, hk with
  | 0, _ => rfl
  | 1, _ => rfl
  | 2, _ => rfl
  | 3, _ => rfl
  | 4, _ => rfl
  | 5, _ => rfl
theorem plcA_at (bits h k : Nat) {j : Nat} (hj : j < 6) : ∃ x : Int, (plcA bits h k)[j]? = some (.int .u64 x) := by
  unfold plcA
  by_cases e : j < k
  · exact ⟨(plcN bits h j : Nat), by simp [hj, e]⟩
  · exact ⟨0, by simp [hj, e]⟩
/-- Where places stands behind k rounds. -/
structure PlcAt (w : World) (bits h k : Nat) (wr : World) : Prop where
  l : BlkAt wr (w.heap.size + 1) (plcA bits h k) 92
  res : BlkAt wr w.heap.size #[.int .u64 0, .int .u64 0, .int .u64 0, .int .u64 0, .int .u64 0, .int .u64 0] 92
  below : Below w.heap.size w wr
set_option maxHeartbeats 4000000 in
set_option maxRecDepth 100000 in
theorem places_any (s : ByteArray) (hs : s.size ≤ maxLen) (n : Nat) (h1 : 1 ≤ n) (hn : n ≤ 1000000000000) (w : World) :
    Calls Tryd.prog 62 #[.string s, .int .i64 (n : Int)] w fun e w' => e = .returned (plcV (8 * n) (hashN s)) ∧ Below w.heap.size w w' := by
  have HH : Hid (∀ w : World, Calls Tryd.prog 81 #[.string s] w fun e w' => e = .returned (.int .u64 (hashN s : Int)) ∧ w = w') := Lib.hid fun w => by
    have := khash_any s hs w
    rwa [(hashN_is s).1] at this
  have hl := (hashN_is s).2
  obtain ⟨h, hh⟩ : ∃ h, hashN s = h := ⟨_, rfl⟩
  rw [hh] at HH hl ⊢
  clear hh
  have HR : Hid (∀ w : World, Calls Tryd.prog 82 #[.int .u64 (h : Int), .int .i64 (-17)] w fun e w' => e = .returned (.int .u64 ((rotN h : Nat) : Int)) ∧ w = w') := Lib.hid (rotate_any h hl)
  have hd := rotN_lt hl
  obtain ⟨d, hd'⟩ : ∃ d, rotN h = d := ⟨_, rfl⟩
  have HD := Lib.hid hd'
  rw [hd'] at HR hd
  clear hd'
  obtain ⟨V, hV⟩ : ∃ V, plcV (8 * n) h = V := ⟨_, rfl⟩
  rw [hV]
  have HV := Lib.hid hV
  clear hV
  go_enter Tryd.func62, Tryd.ntmps62
  go_wp2_with (refine (HH.out _).mono ?_; rintro e w2 ⟨rfl, rfl⟩)
  go_wp2_with (refine (HR.out _).mono ?_; rintro e w2 ⟨rfl, rfl⟩)
  obtain ⟨W1, hW1⟩ : ∃ W1, (w.alloc (.cells #[.int .u64 0, .int .u64 0, .int .u64 0, .int .u64 0, .int .u64 0, .int .u64 0] 92)).alloc (.cells #[.int .u64 0, .int .u64 0, .int .u64 0, .int .u64 0, .int .u64 0, .int .u64 0] 92) = W1 := ⟨_, rfl⟩
  have HP1 : Hid (PlcAt w (8 * n) h 0 W1) := Lib.hid (by
    rw [← hW1]
    refine ⟨?_, (BlkAt.new w _ _).more _, ((Below.refl _ w).alloc (Nat.le_refl _) _).alloc (by simp) _⟩
    have := BlkAt.new (w.alloc (.cells #[.int .u64 0, .int .u64 0, .int .u64 0, .int .u64 0, .int .u64 0, .int .u64 0] 92)) #[.int .u64 0, .int .u64 0, .int .u64 0, .int .u64 0, .int .u64 0, .int .u64 0] 92
    rw [World.size_alloc] at this
    exact this)
  rw [hW1]
  clear hW1
  have hnI : (n : Int) ≤ 1000000000000 := by omega
  have hnJ : (1 : Int) ≤ (n : Int) := by omega
  go_loopg [5, 13] 6 (fun kk vh vi wr => ∃ (K g : Nat), vi = .int .i64 (K : Int) ∧ vh = .int .u64 (g : Int) ∧ K ≤ 6 ∧ g < 18446744073709551616 ∧ kk + K = 6 ∧ Hid (PlcAt w (8 * n) h K wr ∧ g = (h + K * d) % 18446744073709551616))
  case atStart => exact ⟨0, h, rfl, rfl, by omega, hl, by omega, Lib.hid ⟨HP1.out, by omega⟩⟩
  case round =>
    clear HP1
    obtain ⟨K, g, rfl, rfl, hK, hg, hkk, HR2⟩ := hrel
    by_cases hlt : K < 6
    · have hd1 : decide ((K : Int) < 6) = true := by simp; omega
      obtain ⟨HP, hgv⟩ := HR2.out
      obtain ⟨x, hx⟩ := plcA_at (8 * n) h K hlt
      have hc : wr.cell? ⟨w.heap.size + 1, K, none⟩ = some (.int .u64 x) := (HP.l.at K).trans hx
      have hf : wr.frozen? ⟨w.heap.size + 1, K, none⟩ = false := HP.l.free K
      have HPg := Lib.hid HP
      have HGV := Lib.hid hgv
      clear HP hgv HR2 hx
      go_wp2
      go_roundg (6 - (K + 1))
      case measure => omega
      case rel =>
        refine ⟨K + 1, (g + d) % 18446744073709551616, by go_num, ?_, by omega, by omega, by omega, Lib.hid ⟨⟨?_, ?_, ?_⟩, ?_⟩⟩
        · rw [IntKind.wrap_u64]; rfl
        · have := HPg.out.l.set (o := K) (.int .u64 ((g : Int) % ((n : Int) * 8)))
          have e : ((g : Int) % ((n : Int) * 8)) = ((plcN (8 * n) h K : Nat) : Int) := by
            unfold plcN
            rw [HD.out, ← HGV.out, Nat.mul_comm, Int.natCast_emod, Int.natCast_mul]; rfl
          rw [e] at this ⊢
          rwa [plcA_set _ _ hlt] at this
        · exact HPg.out.res.other _ (by omega)
        · exact HPg.out.below.setCell (by simp) _
        · rw [HGV.out, Nat.mod_add_mod, Nat.succ_mul, Nat.add_assoc]
    · obtain rfl : K = 6 := by omega
      obtain ⟨HP, hgv⟩ := HR2.out
      have l0 := HP.l
      have r0 := HP.res
      have HB := Lib.hid HP.below
      have q0 : wr.cell? ⟨w.heap.size + 1, 0, none⟩ = some (.int .u64 (plcN (8 * n) h 0 : Nat)) := l0.at 0
      have q1 : wr.cell? ⟨w.heap.size + 1, 1, none⟩ = some (.int .u64 (plcN (8 * n) h 1 : Nat)) := l0.at 1
      have q2 : wr.cell? ⟨w.heap.size + 1, 2, none⟩ = some (.int .u64 (plcN (8 * n) h 2 : Nat)) := l0.at 2
      have q3 : wr.cell? ⟨w.heap.size + 1, 3, none⟩ = some (.int .u64 (plcN (8 * n) h 3 : Nat)) := l0.at 3
      have q4 : wr.cell? ⟨w.heap.size + 1, 4, none⟩ = some (.int .u64 (plcN (8 * n) h 4 : Nat)) := l0.at 4
      have q5 : wr.cell? ⟨w.heap.size + 1, 5, none⟩ = some (.int .u64 (plcN (8 * n) h 5 : Nat)) := l0.at 5
      have s0 : wr.cell? ⟨w.heap.size, 0, none⟩ = some (.int .u64 0) := r0.at 0
      have f0 : wr.frozen? ⟨w.heap.size, 0, none⟩ = false := r0.free 0
      have s1 : wr.cell? ⟨w.heap.size, 1, none⟩ = some (.int .u64 0) := r0.at 1
      have f1 : wr.frozen? ⟨w.heap.size, 1, none⟩ = false := r0.free 1
      have s2 : wr.cell? ⟨w.heap.size, 2, none⟩ = some (.int .u64 0) := r0.at 2
      have f2 : wr.frozen? ⟨w.heap.size, 2, none⟩ = false := r0.free 2
      have s3 : wr.cell? ⟨w.heap.size, 3, none⟩ = some (.int .u64 0) := r0.at 3
      have f3 : wr.frozen? ⟨w.heap.size, 3, none⟩ = false := r0.free 3
      have s4 : wr.cell? ⟨w.heap.size, 4, none⟩ = some (.int .u64 0) := r0.at 4
      have f4 : wr.frozen? ⟨w.heap.size, 4, none⟩ = false := r0.free 4
      have s5 : wr.cell? ⟨w.heap.size, 5, none⟩ = some (.int .u64 0) := r0.at 5
      have f5 : wr.frozen? ⟨w.heap.size, 5, none⟩ = false := r0.free 5
      obtain ⟨v0, g0⟩ : ∃ v : Int, (plcN (8 * n) h 0 : Nat) = v := ⟨_, rfl⟩
      obtain ⟨v1, g1⟩ : ∃ v : Int, (plcN (8 * n) h 1 : Nat) = v := ⟨_, rfl⟩
      obtain ⟨v2, g2⟩ : ∃ v : Int, (plcN (8 * n) h 2 : Nat) = v := ⟨_, rfl⟩
      obtain ⟨v3, g3⟩ : ∃ v : Int, (plcN (8 * n) h 3 : Nat) = v := ⟨_, rfl⟩
      obtain ⟨v4, g4⟩ : ∃ v : Int, (plcN (8 * n) h 4 : Nat) = v := ⟨_, rfl⟩
      obtain ⟨v5, g5⟩ : ∃ v : Int, (plcN (8 * n) h 5 : Nat) = v := ⟨_, rfl⟩
      rw [g0] at q0
      rw [g1] at q1
      rw [g2] at q2
      rw [g3] at q3
      rw [g4] at q4
      rw [g5] at q5
      have HVV : Hid (.agg #[.int .u64 v0, .int .u64 v1, .int .u64 v2, .int .u64 v3, .int .u64 v4, .int .u64 v5] = V) := Lib.hid (by rw [← HV.out]; unfold plcV; rw [g0, g1, g2, g3, g4, g5])
      clear HP l0 r0 HR2 hgv g0 g1 g2 g3 g4 g5 HV
      go_wp2
      refine bodyPost_ret (v := V) (by rw [← HVV.out]; simp [results, Tryd.results62, go_sem, s0, s1, s2, s3, s4, s5]) rfl ⟨rfl, ?_⟩
      iterate 6 refine Below.setCell ?_ (by simp) _
      exact HB.out
end Go.Proofs.YtennpdhnjaemeaaDoor
/- The walk of bloom.Make. -/
namespace Go.Proofs.YtennpdhnjaemeaaDoor
set_option linter.unusedVariables false
open Go.RowKit
theorem u64s_at (cs : Array Value) {k : Nat} {v : Value} (hk : k < 6) (hc : cs[k]? = some v) (w : World) : (Instr.index 92 (.agg cs) (.int .i64 (k : Int))).run Tryd.prog w = .ok v w := by
  obtain ⟨i0, hi, hz⟩ : ∃ i0, Tryd.prog.info? 90 = some i0 ∧ i0.size = 1 := Option.map_eq_some_iff.1 (show (Tryd.prog.info? 90).map (·.size) = some 1 by kernel_rfl)
  have h1 : k < 6 := hk
  simp [Instr.index, run_underlying Tryd.underlying92, run_underlying Tryd.underlying90, asIntOf, h1, part, isAgg, sizeOf, typeInfo, hi, hz, hc, go_sem]
theorem plc_at (bits h : Nat) {k : Nat} (hk : k < 6) (w : World) : (Instr.index 92 (plcV bits h) (.int .i64 (k : Int))).run Tryd.prog w = .ok (.int .u64 (plcN bits h k : Nat)) w := by
  refine u64s_at _ hk ?_ w
  match k, hk with
  | 0, _ => rfl
  | 1, _ => rfl
  | 2, _ => rfl
  | 3, _ => rfl
  | 4, _ => rfl
  | 5, _ => rfl
/-- The filter's bytes: the bits, and what tells how many a text has. -/
def filterB (hs : List Nat) : List UInt8 := filterF hs ++ [6]
theorem putBit_app (f r : List UInt8) {k : Nat} (h : k / 8 < f.length) : putBit (f ++ r) k = putBit f k ++ r := by
  unfold putBit
  rw [List.set_append_left _ _ h, List.getElem?_append_left h]
theorem addTo_app {bits h : Nat} (f r : List UInt8) (hb : 0 < bits) (hl : bits ≤ 8 * f.length) : ∀ n, addTo bits h (f ++ r) n = addTo bits h f n ++ r
  | 0 => rfl
  | n + 1 => by
    rw [addTo, addTo, addTo_app f r hb hl n, putBit_app]
    rw [addTo_len]
    have := plcN_lt hb h n; omega
theorem fold_app {bits : Nat} (hb : 0 < bits) (r : List UInt8) : ∀ (hs : List Nat) (f : List UInt8), bits ≤ 8 * f.length → hs.foldl (addH bits) (f ++ r) = hs.foldl (addH bits) f ++ r
  | [], _, _ => rfl
  | h :: hs, f, hl => by
    rw [List.foldl_cons, List.foldl_cons]
    unfold addH
    rw [addTo_app f r hb hl]
    exact fold_app hb r hs _ (by rw [addTo_len]; exact hl)
/-- What stands in the bytes behind some texts. -/
def makeF (bits : Nat) (hs : List Nat) : List UInt8 := hs.foldl (addH bits) (List.replicate (bits / 8 + 1) 0)
theorem makeF_len (bits : Nat) (hs : List Nat) : (makeF bits hs).length = bits / 8 + 1 := by unfold makeF; rw [fold_len, List.length_replicate]
theorem makeF_snoc (bits : Nat) (hs : List Nat) (h : Nat) : makeF bits (hs ++ [h]) = addTo bits h (makeF bits hs) 6 := by unfold makeF; rw [List.foldl_append]; rfl
theorem makeF_end (hs : List Nat) : (makeF (bitsN hs.length) hs).set (bitsN hs.length / 8) 6 = filterB hs := by
  have hb : 0 < bitsN hs.length := by unfold bitsN; omega
  have hl : bitsN hs.length ≤ 8 * (List.replicate (bitsN hs.length / 8) (0 : UInt8)).length := by rw [List.length_replicate]; unfold bitsN; omega
  unfold makeF filterB filterF
  rw [List.replicate_succ', fold_app hb _ _ _ hl]
  have e : (hs.foldl (addH (bitsN hs.length)) (List.replicate (bitsN hs.length / 8) 0)).length = bitsN hs.length / 8 := by rw [fold_len, List.length_replicate]
  rw [List.set_append_right _ _ (by rw [e]; exact Nat.le_refl _), e, Nat.sub_self]; rfl
theorem orB (b : UInt8) (i : Nat) (hi : i < 8) : Value.int .u8 (bits .or .u8 (b.toNat : Int) ((2 ^ i : Nat) : Int)) = bv (orBit b i) := by
  unfold bv
  have : 2 ^ i < 256 := Nat.lt_of_lt_of_le (Nat.pow_lt_pow_right (by omega) hi) (by decide)
  rw [u8_or_nat _ _ b.toNat_lt this, orBit_nat b hi]
/-- Bytes of the call's own, and what lies below. -/
structure MkAt (w0 : World) (v : Value) (l : List UInt8) (w : World) : Prop where
  own : OwnB w0.heap.size w v l
  below : Below w0.heap.size w0 w
theorem MkAt.to {w0 : World} {v : Value} {l : List UInt8} {w w' : World} (h : MkAt w0 v l w) (u : Below w.heap.size w w') : MkAt w0 v l w' := ⟨h.own.below u, h.below.trans (u.mono h.below.size)⟩
set_option maxHeartbeats 4000000 in
set_option maxRecDepth 100000 in
theorem make_any (w : World) (v : Value) (ss : List ByteArray) (hr : RdV w v (ss.map Value.string)) (hn : ss.length ≤ 1000000000) (hs : ∀ s ∈ ss, s.size ≤ maxLen) :
    Calls Tryd.prog 33 #[v] w (MkB (filterB (ss.map hashN)) w) := by
  obtain ⟨a, len, cap, rfl, hlen⟩ : ∃ a len cap, v = .slice a len cap ∧ len = ss.length := by
    rcases hr with ⟨a, cap, rfl, e⟩ | ⟨b, off, cap, rfl, -⟩
    · exact ⟨a, 0, cap, rfl, by have := congrArg List.length e; simpa using this.symm⟩
    · exact ⟨_, _, cap, rfl, by simp⟩
  have HBF : Hid (∀ w : World, Calls Tryd.prog 61 #[.int .i64 (len : Int)] w fun e w' => e = .returned (.int .i64 ((bitsN len / 8 : Nat) : Int)) ∧ w = w') := Lib.hid fun w => bytesFor_any len (by omega) w
  have hsz0 : bitsN len / 8 ≤ 10000000000 ∧ 8 ≤ bitsN len / 8 := by unfold bitsN; omega
  have HBN : Hid (bitsN len = 8 * (bitsN len / 8)) := Lib.hid (by unfold bitsN; omega)
  obtain ⟨sz, hsz⟩ : ∃ sz, bitsN len / 8 = sz := ⟨_, rfl⟩
  rw [hsz] at HBF HBN hsz0
  obtain ⟨hsz1, hsz8⟩ := hsz0
  have HSZ := Lib.hid hsz
  have HLEN := Lib.hid hlen
  have HRD := Lib.hid hr
  have HSS := Lib.hid hs
  clear hsz hr hs
  have hlen2 : (len : Int) ≤ 1000000000 := by omega
  have HMK : Hid (∀ w : World, (Instr.makeSlice 25 (.int .i64 ((sz : Int) + 1)) (.int .i64 ((sz : Int) + 1))).run Tryd.prog w = .ok (.slice (some ⟨w.heap.size, 0, none⟩) (sz + 1) (sz + 1)) (w.alloc (.cells (madeCells #[.int .u8 0] (sz + 1)) 5))) := Lib.hid fun w => mkB_run (sz + 1) (by omega) w
  clear hlen
  go_enter Tryd.func33, Tryd.ntmps33
  go_wp2_with (refine (HBF.out _).mono ?_; rintro e w2 ⟨rfl, rfl⟩)
  go_wp2_with fail
  rw [HMK.out]
  go_wp2_with fail
  obtain ⟨W1, hW1⟩ : ∃ W1, w.alloc (.cells (madeCells #[.int .u8 0] (sz + 1)) 5) = W1 := ⟨_, rfl⟩
  have e8 : 8 * sz / 8 = sz := by omega
  have HM1 : Hid (MkAt w (.slice (some ⟨w.heap.size, 0, none⟩) (sz + 1) (sz + 1)) (makeF (8 * sz) ((ss.take 0).map hashN)) W1) := Lib.hid (by
    rw [← hW1]
    refine ⟨?_, (Below.refl _ w).alloc (Nat.le_refl _) _⟩
    have := mkB_own w (sz + 1) (by omega)
    unfold makeF
    rw [e8]; exact this)
  rw [hW1]
  clear hW1 HMK HBF
  go_loopg [17] len (fun kk vi wr => ∃ i : Nat, vi = .int .i64 (i : Int) ∧ i ≤ len ∧ kk + i = len ∧ Hid (MkAt w (.slice (some ⟨w.heap.size, 0, none⟩) (sz + 1) (sz + 1)) (makeF (8 * sz) ((ss.take i).map hashN)) wr))
  case atStart => exact ⟨0, rfl, by omega, by omega, HM1⟩
  case round =>
    clear HM1
    obtain ⟨i, rfl, hi, hkk, HM⟩ := hrel
    by_cases hlt : i < len
    · have hd1 : decide ((i : Int) < (len : Int)) = true := by simp; omega
      have hi2 : i < ss.length := by rw [← HLEN.out]; exact hlt
      obtain ⟨b, off, rfl, hb, hcell⟩ := rdV_cells (HRD.out.below HM.out.below) (by rw [List.length_map]; omega)
      have hc := hcell i (by rw [List.length_map]; exact hi2)
      rw [getD_strs _ _ hi2] at hc
      have HTK : Hid (ss.take (i + 1) = ss.take i ++ [ss.getD i ByteArray.empty]) := Lib.hid (by
        rw [List.take_add_one, List.getElem?_eq_getElem hi2, List.getD_eq_getElem?_getD, List.getElem?_eq_getElem hi2]; rfl)
      have hsm : (ss.getD i ByteArray.empty).size ≤ maxLen := by
        rw [List.getD_eq_getElem?_getD, List.getElem?_eq_getElem hi2]; exact HSS.out _ (List.getElem_mem hi2)
      obtain ⟨s, hs⟩ : ∃ s, ss.getD i ByteArray.empty = s := ⟨_, rfl⟩
      rw [hs] at hc HTK hsm
      have HPL := Lib.hid (places_any s hsm sz (by omega) (by omega))
      have HIX : Hid (∀ j : Nat, j < 6 → ∀ w, (Instr.index 92 (plcV (8 * sz) (hashN s)) (.int .i64 (j : Int))).run Tryd.prog w = .ok (.int .u64 (plcN (8 * sz) (hashN s) j : Nat)) w) := Lib.hid fun j hj w => plc_at _ _ hj w
      have HMS : Hid (makeF (8 * sz) ((ss.take (i + 1)).map hashN) = addTo (8 * sz) (hashN s) (makeF (8 * sz) ((ss.take i).map hashN)) 6) := Lib.hid (by
        rw [HTK.out, List.map_append, List.map_cons, List.map_nil, makeF_snoc])
      have HGL : Hid ((makeF (8 * sz) ((ss.take i).map hashN)).length = sz + 1) := Lib.hid (by rw [makeF_len, e8])
      obtain ⟨G, hG⟩ : ∃ G, makeF (8 * sz) ((ss.take i).map hashN) = G := ⟨_, rfl⟩
      rw [hG] at HM HMS HGL
      obtain ⟨V, hV⟩ : ∃ V, plcV (8 * sz) (hashN s) = V := ⟨_, rfl⟩
      rw [hV] at HPL HIX
      obtain ⟨h, hh⟩ : ∃ h, hashN s = h := ⟨_, rfl⟩
      rw [hh] at HIX HMS
      clear hcell hs hG hV hh hsm HTK hi2
      go_wp2_with (refine (HPL.out _).mono ?_; rintro e w2 ⟨rfl, hb2⟩)
      have HM2 : Hid (MkAt w (.slice (some ⟨w.heap.size, 0, none⟩) (sz + 1) (sz + 1)) (addTo (8 * sz) h G 0) w2) := Lib.hid (HM.out.to hb2)
      clear hb2 HM hc hb HPL
      go_loopg [24] 6 (fun jj vj wq => ∃ j : Nat, vj = .int .i64 (j : Int) ∧ j ≤ 6 ∧ jj + j = 6 ∧ Hid (MkAt w (.slice (some ⟨w.heap.size, 0, none⟩) (sz + 1) (sz + 1)) (addTo (8 * sz) h G j) wq))
      case atStart => exact ⟨0, rfl, by omega, by omega, HM2⟩
      case round =>
        clear HM2
        obtain ⟨j, rfl, hj, hjj, HM⟩ := hrel
        by_cases hlt6 : j < 6
        · have hd6 : decide ((j : Int) < 6) = true := by simp; omega
          have hix := HIX.out j hlt6
          have hkl := plcN_lt (bits := 8 * sz) (by omega) h j
          have HPN : Hid (addTo (8 * sz) h G (j + 1) = putBit (addTo (8 * sz) h G j) (plcN (8 * sz) h j)) := Lib.hid rfl
          obtain ⟨k, hk⟩ : ∃ k, plcN (8 * sz) h j = k := ⟨_, rfl⟩
          rw [hk] at hix hkl HPN
          have hgl : (addTo (8 * sz) h G j).length = sz + 1 := by rw [addTo_len]; exact HGL.out
          obtain ⟨F, hF⟩ : ∃ F, addTo (8 * sz) h G j = F := ⟨_, rfl⟩
          rw [hF] at HM HPN hgl
          obtain ⟨g, cp, hv, -, -, -, -, hc, hf⟩ := HM.out.own.place (k / 8) (by omega)
          simp only [Value.slice.injEq, Option.some.injEq, Addr.mk.injEq, and_true] at hv
          obtain ⟨hv, -, -⟩ := hv
          rw [← hv] at hc hf
          have HOR : Hid (Value.int .u8 (bits .or .u8 ((F.getD (k / 8) 0).toNat : Int) ((2 ^ (k % 8) : Nat) : Int)) = bv (orBit (F.getD (k / 8) 0) (k % 8))) := Lib.hid (orB _ _ (Nat.mod_lt _ (by decide)))
          have HK : Hid (∀ w : World, Calls Tryd.prog 63 #[.int .u64 (k : Int)] w fun e w' => e = .returned (.int .u8 ((2 ^ (k % 8) : Nat) : Int)) ∧ w' = w) := Lib.hid fun w => (mask_any k (by omega) w).mono fun e w' h => ⟨h.1, h.2.symm⟩
          obtain ⟨m, hm⟩ : ∃ m, 2 ^ (k % 8) = m := ⟨_, rfl⟩
          rw [hm] at HK HOR
          obtain ⟨x, hx⟩ : ∃ x, F.getD (k / 8) 0 = x := ⟨_, rfl⟩
          have HX := Lib.hid hx
          rw [hx] at hc HOR
          have hw8 : IntKind.u64.wrap ((k : Int) / 8) = ((k / 8 : Nat) : Int) := by rw [IntKind.wrap_u64]; omega
          have hk8 : ((k / 8 : Nat) : Int) < (sz : Int) + 1 := by omega
          have HPB : Hid (putBit F k = F.set (k / 8) (orBit x (k % 8))) := Lib.hid (by unfold putBit; rw [← List.getD_eq_getElem?_getD, hx])
          obtain ⟨q, hq⟩ : ∃ q, k / 8 = q := ⟨_, rfl⟩
          rw [hq] at hc hf hw8 hk8 HPB
          clear hm hx hq HX
          clear hk hF hv
          go_upto_region 9 with fail
          refine wp_region_still_tail 9 (by kernel_rfl) (by kernel_rfl) ?_
          change wpStill _ _ (World.drew _) (fun a => wpList _ _ _ _ a (World.drew _)) _ _
          simp only [List.take_succ_cons, List.take_zero, List.drop_succ_cons, List.drop_zero]
          still_step
          still_step
          still_step
          still_step
          still_step
          still_step
          still_call (HK.out _)
          still_step
          still_step
          refine wpStill_nil ?_
          go_wp2_with fail
          go_roundg (6 - (j + 1))
          case measure => omega
          case rel =>
            refine ⟨j + 1, by go_num, by omega, by omega, Lib.hid ?_⟩
            have h1 := HM.out.own.set q (orBit x (k % 8))
            rw [HPN.out, HPB.out]
            refine ⟨?_, (HM.out.below.drew).setCell (Nat.le_refl _) _⟩
            rw [HOR.out]
            exact h1
        · obtain rfl : j = 6 := by omega
          go_wp2_with fail
          go_roundg (len - (i + 1))
          case measure => omega
          case rel => exact ⟨i + 1, by go_num, by omega, by omega, by rw [HMS.out]; exact HM⟩
    · obtain rfl : i = len := by omega
      have hgl : (makeF (8 * sz) ((ss.take i).map hashN)).length = sz + 1 := by rw [makeF_len, e8]
      obtain ⟨g, cp, hv, -, -, -, -, hc, hf⟩ := HM.out.own.place sz (by omega)
      simp only [Value.slice.injEq, Option.some.injEq, Addr.mk.injEq, and_true] at hv
      obtain ⟨hv, -, -⟩ := hv
      rw [← hv] at hc hf
      have HE : Hid (MkB (filterB (ss.map hashN)) w (.returned (.slice (some ⟨w.heap.size, 0, none⟩) (sz + 1) (sz + 1))) (wr.setCell ⟨w.heap.size, sz, none⟩ (bv 6))) := Lib.hid (by
        have := HM.out.own.set sz 6
        have e := makeF_end (ss.map hashN)
        rw [List.length_map, ← HLEN.out, HBN.out, e8] at e
        rw [show ss.take i = ss by rw [HLEN.out]; exact List.take_length, e] at this
        exact ⟨_, rfl, this, HM.out.below.setCell (Nat.le_refl _) _⟩)
      clear hgl hv HM
      go_wp2_with fail
      go_ret
      exact HE.out
end Go.Proofs.YtennpdhnjaemeaaDoor
/- The walk of bloom.May. -/
namespace Go.Proofs.YtennpdhnjaemeaaDoor
set_option linter.unusedVariables false
open Go.RowKit
/-- What May tells of bytes and a text's sum. -/
def mayB (f : List UInt8) (h : Nat) : Bool := if f.length < 2 then true else if f.getD (f.length - 1) 0 = 6 then mayH (8 * (f.length - 1)) f h else true
theorem hasBit_app (f r : List UInt8) {k : Nat} (h : k / 8 < f.length) : hasBit (f ++ r) k = hasBit f k := by
  unfold hasBit
  rw [List.getElem?_append_left h]
theorem mayB_has {hs : List Nat} {g : Nat} (h : g ∈ hs) : mayB (filterB hs) g = true := by
  have hm := filterF_has h
  have hl := filterF_len hs
  have hb : bitsN hs.length = 8 * (bitsN hs.length / 8) ∧ 8 ≤ bitsN hs.length / 8 := by unfold bitsN; omega
  have e : (filterB hs).length - 1 = bitsN hs.length / 8 := by unfold filterB; rw [List.length_append, hl]; rfl
  unfold mayB
  rw [if_neg (by unfold filterB; rw [List.length_append, hl]; simp; omega)]
  split
  · rw [e, ← hb.1]
    unfold mayH at hm ⊢
    rw [List.all_eq_true] at hm ⊢
    intro k hk
    unfold filterB
    rw [hasBit_app _ _ (by rw [hl]; have := plcN_lt (bits := bitsN hs.length) (by omega) g k; omega)]
    exact hm k hk
  · rfl
theorem hasB0 : ∀ (b : Fin 256) (i : Fin 8), (bits .and .u8 (b.val : Int) ((2 ^ i.val : Nat) : Int) == 0) = !(b.val).testBit i.val := by decide +kernel
theorem hasB (b : UInt8) (i : Nat) (hi : i < 8) : (bits .and .u8 (b.toNat : Int) ((2 ^ i : Nat) : Int) == 0) = !(b.toNat).testBit i := hasB0 ⟨b.toNat, b.toNat_lt⟩ ⟨i, hi⟩
theorem may_no {bits : Nat} {f : List UInt8} {h k : Nat} (hk : k < 6) (hn : hasBit f (plcN bits h k) = false) : mayH bits f h = false := by
  unfold mayH
  rw [Bool.eq_false_iff]
  intro e
  rw [List.all_eq_true] at e
  rw [e k (List.mem_range.2 hk)] at hn
  cases hn
theorem may_yes {bits : Nat} {f : List UInt8} {h : Nat} (hn : ∀ k, k < 6 → hasBit f (plcN bits h k) = true) : mayH bits f h = true := by
  unfold mayH
  rw [List.all_eq_true]
  exact fun k hk => hn k (List.mem_range.1 hk)
set_option maxHeartbeats 4000000 in
set_option maxRecDepth 100000 in
theorem may_any (w : World) (v : Value) (f : List UInt8) (hr : RdB w v f) (hn : f.length ≤ 100000000000) (s : ByteArray) (hs : s.size ≤ maxLen) :
    Calls Tryd.prog 45 #[v, .string s] w fun e w' => e = .returned (.bool (mayB f (hashN s))) ∧ Below w.heap.size w w' := by
  obtain ⟨a, len, cap, rfl, hlen, -⟩ := hr.form
  have HLEN := Lib.hid hlen
  have hl0 : (len : Int) ≤ 100000000000 := by omega
  obtain ⟨R, hR⟩ : ∃ R, mayB f (hashN s) = R := ⟨_, rfl⟩
  rw [hR]
  by_cases h2 : len < 2
  · obtain rfl : R = true := by rw [← hR]; unfold mayB; rw [if_pos (by omega)]
    have hd : decide ((len : Int) - 1 < 1) = true := by simp; omega
    clear hr hR hlen
    go_enter Tryd.func45, Tryd.ntmps45
    go_wp2
    go_ret
    exact ⟨rfl, Below.refl _ _⟩
  · obtain ⟨sz, rfl⟩ : ∃ sz, len = sz + 1 := ⟨len - 1, by omega⟩
    have hs1 : 1 ≤ sz := by omega
    have hsI : (1 : Int) ≤ (sz : Int) := by omega
    have e1 : ((sz + 1 : Nat) : Int) - 1 = (sz : Int) := by omega
    have hd : decide ((sz : Int) < 1) = false := by simp; omega
    have hx0 : f[sz]? = some (f.getD sz 0) := by rw [List.getD_eq_getElem?_getD, List.getElem?_eq_getElem (by omega)]; rfl
    obtain ⟨b, off, rfl, hb, hc⟩ := hr.at sz _ hx0
    have HR := Lib.hid hr
    have e2 : mayB f (hashN s) = if f.getD sz 0 = 6 then mayH (8 * sz) f (hashN s) else true := by
      unfold mayB
      rw [if_neg (by omega), ← hlen]
      rfl
    rw [hR] at e2
    obtain ⟨x, hx⟩ : ∃ x, f.getD sz 0 = x := ⟨_, rfl⟩
    rw [hx] at hc e2
    have HE2 := Lib.hid e2
    clear hr hR hx hx0 e2 hlen
    by_cases h6 : x = 6
    · subst h6
      have hq : ((6 : Int) != 6) = false := by decide
      have HE : Hid (R = mayH (8 * sz) f (hashN s)) := Lib.hid (by rw [HE2.out, if_pos rfl])
      have hc6 : w.cell? ⟨b, off + sz, none⟩ = some (.int .u8 6) := hc
      have HPL := Lib.hid (places_any s hs sz hs1 (by omega))
      have HIX : Hid (∀ j : Nat, j < 6 → ∀ w, (Instr.index 92 (plcV (8 * sz) (hashN s)) (.int .i64 (j : Int))).run Tryd.prog w = .ok (.int .u64 (plcN (8 * sz) (hashN s) j : Nat)) w) := Lib.hid fun j hj w => plc_at _ _ hj w
      obtain ⟨V, hV⟩ : ∃ V, plcV (8 * sz) (hashN s) = V := ⟨_, rfl⟩
      rw [hV] at HPL HIX
      obtain ⟨h, hh⟩ : ∃ h, hashN s = h := ⟨_, rfl⟩
      rw [hh] at HIX HE
      clear hV hh hc HE2
      go_enter Tryd.func45, Tryd.ntmps45
      go_wp2_with (refine (HPL.out _).mono ?_; rintro e w2 ⟨rfl, hb2⟩)
      have HB2 := Lib.hid hb2
      clear hb2 hc6 hq hd HPL
      go_loopg [23] 6 (fun jj vj wq => ∃ j : Nat, vj = .int .i64 (j : Int) ∧ j ≤ 6 ∧ jj + j = 6 ∧ Hid (∀ i, i < j → hasBit f (plcN (8 * sz) h i) = true) ∧ Hid (Below w.heap.size w wq))
      case atStart => exact ⟨0, rfl, by omega, by omega, Lib.hid fun i hi => by omega, HB2⟩
      case round =>
        clear HB2
        obtain ⟨j, rfl, hj, hjj, HA, HB⟩ := hrel
        by_cases hlt6 : j < 6
        · have hd6 : decide ((j : Int) < 6) = true := by simp; omega
          have hix := HIX.out j hlt6
          have hkl := plcN_lt (bits := 8 * sz) (by omega) h j
          obtain ⟨k, hk⟩ : ∃ k, plcN (8 * sz) h j = k := ⟨_, rfl⟩
          have HKE := Lib.hid hk
          rw [hk] at hix hkl
          have hq8 : k / 8 < f.length := by rw [← HLEN.out]; omega
          have hx0 : f[k / 8]? = some (f[k / 8]'hq8) := List.getElem?_eq_getElem hq8
          have hbit : hasBit f k = ((f[k / 8]'hq8).toNat).testBit (k % 8) := by unfold hasBit; rw [hx0]; rfl
          have hand := hasB (f[k / 8]'hq8) (k % 8) (Nat.mod_lt _ (by decide))
          rw [← hbit] at hand
          obtain ⟨b', off', e, -, hc⟩ := (RdB.below HR.out HB.out).at (k / 8) _ hx0
          simp only [Option.some.injEq, Addr.mk.injEq, and_true] at e
          obtain ⟨e3, e4⟩ := e
          rw [← e3, ← e4] at hc
          have HK : Hid (∀ w : World, Calls Tryd.prog 63 #[.int .u64 (k : Int)] w fun e w' => e = .returned (.int .u8 ((2 ^ (k % 8) : Nat) : Int)) ∧ w' = w) := Lib.hid fun w => (mask_any k (by omega) w).mono fun e w' h => ⟨h.1, h.2.symm⟩
          obtain ⟨m, hm⟩ : ∃ m, 2 ^ (k % 8) = m := ⟨_, rfl⟩
          rw [hm] at HK hand
          obtain ⟨y, hy⟩ : ∃ y, f[k / 8]'hq8 = y := ⟨_, rfl⟩
          rw [hy] at hc hand
          have hw8 : IntKind.u64.wrap ((k : Int) / 8) = ((k / 8 : Nat) : Int) := by rw [IntKind.wrap_u64]; omega
          have hk8 : ((k / 8 : Nat) : Int) < (sz : Int) + 1 := by omega
          obtain ⟨q, hq⟩ : ∃ q, k / 8 = q := ⟨_, rfl⟩
          rw [hq] at hc hw8 hk8
          obtain ⟨t, ht⟩ : ∃ t, hasBit f k = t := ⟨_, rfl⟩
          have HT := Lib.hid ht
          rw [ht] at hand
          clear hm hk hx0 hbit hy e3 e4 ht hq8
          cases t
          · replace hand : (bits .and .u8 (y.toNat : Int) (m : Int) == 0) = true := hand
            go_wp2_with fail
            go_quiet ((go_at_call 63; exact Calls.quiet_of_same (HK.out _)))
            go_wp2_with fail
            go_ret
            refine ⟨?_, HB.out.trans ((DrN.refl wr).more _ |>.below _)⟩
            rw [HE.out, may_no hlt6 (by rw [HKE.out, HT.out])]; rfl
          · replace hand : (bits .and .u8 (y.toNat : Int) (m : Int) == 0) = false := hand
            go_wp2_with fail
            go_quiet ((go_at_call 63; exact Calls.quiet_of_same (HK.out _)))
            go_wp2_with fail
            go_roundg (6 - (j + 1))
            case measure => omega
            case rel =>
              refine ⟨j + 1, by go_num, by omega, by omega, Lib.hid fun i hi => ?_, Lib.hid (HB.out.trans ((DrN.refl wr).more _ |>.below _))⟩
              rcases Nat.lt_or_ge i j with g | g
              · exact HA.out i g
              · obtain rfl : i = j := by omega
                rw [HKE.out, HT.out]
        · obtain rfl : j = 6 := by omega
          go_wp2_with fail
          go_ret
          exact ⟨by rw [HE.out, may_yes HA.out]; rfl, HB.out⟩
    · have hq : ((x.toNat : Int) != 6) = true := by
        rw [bne_iff_ne]; intro e; exact h6 (UInt8.toNat_inj.1 (by have : x.toNat = 6 := by omega
                                                                  rw [this]; rfl))
      obtain rfl : R = true := by rw [HE2.out, if_neg h6]
      go_enter Tryd.func45, Tryd.ntmps45
      go_wp2
      go_ret
      exact ⟨rfl, Below.refl _ _⟩
end Go.Proofs.YtennpdhnjaemeaaDoor
/- The law of filters: its begun and FilterMany. -/
namespace Go.Proofs.YtennpdhnjaemeaaDoor
set_option linter.unusedVariables false
open Go.RowKit
theorem elem_text : ElemOk Tryd.prog 61 9 16 (.string ⟨#[]⟩) := ⟨Tryd.underlying61, by kernel_rfl, rfl⟩
theorem one_text (s : ByteArray) : ∀ u ∈ [Value.string s], u.oneCell' = true := by simp [Value.oneCell']
theorem filterB_len (hs : List Nat) : (filterB hs).length = bitsN hs.length / 8 + 1 := by unfold filterB; rw [List.length_append, filterF_len]; rfl
theorem filterB_last (hs : List Nat) : (filterB hs)[bitsN hs.length / 8]? = some 6 := by
  unfold filterB
  rw [List.getElem?_append_right (by rw [filterF_len]; exact Nat.le_refl _), filterF_len, Nat.sub_self]; rfl
theorem rd_one (w : World) (s : ByteArray) : RdV (w.alloc (.cells #[.string s] 9)) (.slice (some ⟨w.heap.size, 0, none⟩) 1 1) ([s].map Value.string) := by
  refine .inr ⟨w.heap.size, 0, 1, rfl, by simp, by simp, by decide, by simp, fun i hi => ?_⟩
  obtain rfl : i = 0 := by simp at hi; omega
  unfold World.cell?
  rw [heap_alloc_new]
  rfl
/-- A row of texts of the law's own. -/
structure TxS (w0 : World) (v : Value) (ls : List ByteArray) (w : World) : Prop where
  own : OwnV 9 w0.heap.size w v (ls.map Value.string)
  small : ∀ s ∈ ls, s.size ≤ maxLen
  below : Below w0.heap.size w0 w
end Go.Proofs.YtennpdhnjaemeaaDoor
