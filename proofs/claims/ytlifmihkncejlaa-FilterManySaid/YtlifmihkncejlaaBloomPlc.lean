/- The walks of bloom.bytesFor, mask, places. -/
import Derived.Test.YtlifmihkncejlaaBloomMath
import Derived.Test.YtlifmihkncejlaaKeyHash
import Derived.Test.YtlifmihkncejlaaBlk
import Derived.Deep.LoopGhost
import Derived.Lib.Hide
import Derived.Laws.BitsAllLaws
namespace Go.Proofs.Ytlifmihkncejlaa
set_option linter.unusedVariables false
open Go.RowKit
theorem bytesFor_any (n : Nat) (hn : n ≤ 100000000000) (w : World) :
    Calls Try.prog 7 #[.int .i64 (n : Int)] w fun e w' => e = .returned (.int .i64 ((bitsN n / 8 : Nat) : Int)) ∧ w = w' := by
  have e : bitsN n / 8 = (max 64 (10 * n) + 7) / 8 := by unfold bitsN; omega
  go_enter Try.func7, Try.ntmps7
  go_wp2
  · go_ret
    refine ⟨ret_int ?_, rfl⟩
    omega
  · go_ret
    refine ⟨ret_int ?_, rfl⟩
    omega
theorem pow_u8 : ∀ k : Fin 8, (2 : Int) ^ k.val % 256 = ((2 ^ k.val : Nat) : Int) := by decide
theorem mask_any (k : Nat) (hk : k < 18446744073709551616) (w : World) :
    Calls Try.prog 9 #[.int .u64 (k : Int)] w fun e w' => e = .returned (.int .u8 ((2 ^ (k % 8) : Nat) : Int)) ∧ w = w' := by
  go_enter Try.func9, Try.ntmps9
  go_wp2
  go_ret
  exact ⟨ret_int (pow_u8 ⟨k % 8, Nat.mod_lt _ (by decide)⟩), rfl⟩
theorem rot_bits (k : Nat) (hk : k < 18446744073709551616) : bits .or .u64 (IntKind.u64.wrap ((k : Int) * 2 ^ 47)) ((k : Int) / 2 ^ 17) = ((rotN k : Nat) : Int) := by
  have e1 : IntKind.u64.wrap ((k : Int) * 2 ^ 47) = ((k % 2 ^ 17 * 2 ^ 47 : Nat) : Int) := by
    rw [IntKind.wrap_u64]; omega
  have e2 : (k : Int) / 2 ^ 17 = ((k / 2 ^ 17 : Nat) : Int) := by omega
  rw [e1, e2, u64_or_nat _ _ (by omega) (by omega), nat_join 47 _ _ (Nat.mul_mod_left _ _) (by omega)]
  unfold rotN
  omega
theorem rotate_any (k : Nat) (hk : k < 18446744073709551616) (w : World) :
    Calls Try.prog 11 #[.int .u64 (k : Int), .int .i64 (-17)] w fun e w' => e = .returned (.int .u64 ((rotN k : Nat) : Int)) ∧ w = w' := by
  have h47 : bits BinOp.and IntKind.u64 (IntKind.u64.wrap (-17)) 63 = 47 := by decide +kernel
  have HR := Lib.hid (rot_bits k hk)
  go_enter Try.func11, Try.ntmps11
  go_wp2
  go_ret
  exact ⟨ret_int HR.out, rfl⟩
theorem rotN_lt {k : Nat} (hk : k < 18446744073709551616) : rotN k < 18446744073709551616 := by unfold rotN; omega
theorem hash_nat (l : List UInt8) : ∃ h : Nat, hashL l = (h : Int) ∧ h < 18446744073709551616 := by
  have : ∀ (l : List UInt8) (z : Int), 0 ≤ z → z < 18446744073709551616 → 0 ≤ l.foldl hstep z ∧ l.foldl hstep z < 18446744073709551616 := by
    intro l
    induction l with
    | nil => exact fun z h0 h1 => ⟨h0, h1⟩
    | cons b l ih => exact fun z h0 h1 => ih _ (by unfold hstep; rw [IntKind.wrap_u64]; omega) (by unfold hstep; rw [IntKind.wrap_u64]; omega)
  obtain ⟨h0, h1⟩ := this l 14695981039346656037 (by decide) (by decide)
  exact ⟨(hashL l).toNat, by unfold hashL at *; omega, by unfold hashL at *; omega⟩
/-- A text's sum. -/
def hashN (s : ByteArray) : Nat := (hashL s.data.toList).toNat
theorem hashN_is (s : ByteArray) : hashL s.data.toList = (hashN s : Int) ∧ hashN s < 18446744073709551616 := by
  obtain ⟨h, e, hl⟩ := hash_nat s.data.toList
  unfold hashN
  rw [e]; exact ⟨by omega, by omega⟩
def plcV (bits h : Nat) : Value := .agg #[.int .u64 (plcN bits h 0 : Nat), .int .u64 (plcN bits h 1 : Nat), .int .u64 (plcN bits h 2 : Nat), .int .u64 (plcN bits h 3 : Nat), .int .u64 (plcN bits h 4 : Nat), .int .u64 (plcN bits h 5 : Nat)]
/-- The places behind k rounds. -/
def plcA (bits h k : Nat) : Array Value := ((List.range 6).map fun j => if j < k then .int .u64 (plcN bits h j : Nat) else .int .u64 0).toArray
theorem plcA_set (bits h : Nat) {k : Nat} (hk : k < 6) : (plcA bits h k).setIfInBounds k (.int .u64 (plcN bits h k : Nat)) = plcA bits h (k + 1) := by
  match k, hk with
  | 0, _ => rfl
  | 1, _ => rfl
  | 2, _ => rfl
  | 3, _ => rfl
  | 4, _ => rfl
  | 5, _ => rfl
theorem plcA_at (bits h k : Nat) {j : Nat} (hj : j < 6) : ∃ x : Int, (plcA bits h k)[j]? = some (.int .u64 x) := by
  unfold plcA
  by_cases e : j < k
  · exact ⟨(plcN bits h j : Nat), by simp [hj, e]⟩
  · exact ⟨0, by simp [hj, e]⟩
/-- Where places stands behind k rounds. -/
structure PlcAt (w : World) (bits h k : Nat) (wr : World) : Prop where
  l : BlkAt wr (w.heap.size + 1) (plcA bits h k) 30
  res : BlkAt wr w.heap.size #[.int .u64 0, .int .u64 0, .int .u64 0, .int .u64 0, .int .u64 0, .int .u64 0] 30
  below : Below w.heap.size w wr
set_option maxHeartbeats 4000000 in
set_option maxRecDepth 100000 in
theorem places_any (s : ByteArray) (hs : s.size ≤ maxLen) (n : Nat) (h1 : 1 ≤ n) (hn : n ≤ 1000000000000) (w : World) :
    Calls Try.prog 8 #[.string s, .int .i64 (n : Int)] w fun e w' => e = .returned (plcV (8 * n) (hashN s)) ∧ Below w.heap.size w w' := by
  have HH : Hid (∀ w : World, Calls Try.prog 10 #[.string s] w fun e w' => e = .returned (.int .u64 (hashN s : Int)) ∧ w = w') := Lib.hid fun w => by
    have := khash_any s hs w
    rwa [(hashN_is s).1] at this
  have hl := (hashN_is s).2
  obtain ⟨h, hh⟩ : ∃ h, hashN s = h := ⟨_, rfl⟩
  rw [hh] at HH hl ⊢
  clear hh
  have HR : Hid (∀ w : World, Calls Try.prog 11 #[.int .u64 (h : Int), .int .i64 (-17)] w fun e w' => e = .returned (.int .u64 ((rotN h : Nat) : Int)) ∧ w = w') := Lib.hid (rotate_any h hl)
  have hd := rotN_lt hl
  obtain ⟨d, hd'⟩ : ∃ d, rotN h = d := ⟨_, rfl⟩
  have HD := Lib.hid hd'
  rw [hd'] at HR hd
  clear hd'
  obtain ⟨V, hV⟩ : ∃ V, plcV (8 * n) h = V := ⟨_, rfl⟩
  rw [hV]
  have HV := Lib.hid hV
  clear hV
  go_enter Try.func8, Try.ntmps8
  go_wp2_with (refine (HH.out _).mono ?_; rintro e w2 ⟨rfl, rfl⟩)
  go_wp2_with (refine (HR.out _).mono ?_; rintro e w2 ⟨rfl, rfl⟩)
  obtain ⟨W1, hW1⟩ : ∃ W1, (w.alloc (.cells #[.int .u64 0, .int .u64 0, .int .u64 0, .int .u64 0, .int .u64 0, .int .u64 0] 30)).alloc (.cells #[.int .u64 0, .int .u64 0, .int .u64 0, .int .u64 0, .int .u64 0, .int .u64 0] 30) = W1 := ⟨_, rfl⟩
  have HP1 : Hid (PlcAt w (8 * n) h 0 W1) := Lib.hid (by
    rw [← hW1]
    refine ⟨?_, (BlkAt.new w _ _).more _, ((Below.refl _ w).alloc (Nat.le_refl _) _).alloc (by simp) _⟩
    have := BlkAt.new (w.alloc (.cells #[.int .u64 0, .int .u64 0, .int .u64 0, .int .u64 0, .int .u64 0, .int .u64 0] 30)) #[.int .u64 0, .int .u64 0, .int .u64 0, .int .u64 0, .int .u64 0, .int .u64 0] 30
    rw [World.size_alloc] at this
    exact this)
  rw [hW1]
  clear hW1
  have hnI : (n : Int) ≤ 1000000000000 := by omega
  have hnJ : (1 : Int) ≤ (n : Int) := by omega
  go_loopg [5, 13] 6 (fun kk vh vi wr => ∃ (K g : Nat), vi = .int .i64 (K : Int) ∧ vh = .int .u64 (g : Int) ∧ K ≤ 6 ∧ g < 18446744073709551616 ∧ kk + K = 6 ∧ Hid (PlcAt w (8 * n) h K wr ∧ g = (h + K * d) % 18446744073709551616))
  case atStart => exact ⟨0, h, rfl, rfl, by omega, hl, by omega, Lib.hid ⟨HP1.out, by omega⟩⟩
  case round =>
    clear HP1
    obtain ⟨K, g, rfl, rfl, hK, hg, hkk, HR2⟩ := hrel
    by_cases hlt : K < 6
    · have hd1 : decide ((K : Int) < 6) = true := by simp; omega
      obtain ⟨HP, hgv⟩ := HR2.out
      obtain ⟨x, hx⟩ := plcA_at (8 * n) h K hlt
      have hc : wr.cell? ⟨w.heap.size + 1, K, none⟩ = some (.int .u64 x) := (HP.l.at K).trans hx
      have hf : wr.frozen? ⟨w.heap.size + 1, K, none⟩ = false := HP.l.free K
      have HPg := Lib.hid HP
      have HGV := Lib.hid hgv
      clear HP hgv HR2 hx
      go_wp2
      go_roundg (6 - (K + 1))
      case measure => omega
      case rel =>
        refine ⟨K + 1, (g + d) % 18446744073709551616, by go_num, ?_, by omega, by omega, by omega, Lib.hid ⟨⟨?_, ?_, ?_⟩, ?_⟩⟩
        · rw [IntKind.wrap_u64]; rfl
        · have := HPg.out.l.set (o := K) (.int .u64 ((g : Int) % ((n : Int) * 8)))
          have e : ((g : Int) % ((n : Int) * 8)) = ((plcN (8 * n) h K : Nat) : Int) := by
            unfold plcN
            rw [HD.out, ← HGV.out, Nat.mul_comm, Int.natCast_emod, Int.natCast_mul]; rfl
          rw [e] at this ⊢
          rwa [plcA_set _ _ hlt] at this
        · exact HPg.out.res.other _ (by omega)
        · exact HPg.out.below.setCell (by simp) _
        · rw [HGV.out, Nat.mod_add_mod, Nat.succ_mul, Nat.add_assoc]
    · obtain rfl : K = 6 := by omega
      obtain ⟨HP, hgv⟩ := HR2.out
      have l0 := HP.l
      have r0 := HP.res
      have HB := Lib.hid HP.below
      have q0 : wr.cell? ⟨w.heap.size + 1, 0, none⟩ = some (.int .u64 (plcN (8 * n) h 0 : Nat)) := l0.at 0
      have q1 : wr.cell? ⟨w.heap.size + 1, 1, none⟩ = some (.int .u64 (plcN (8 * n) h 1 : Nat)) := l0.at 1
      have q2 : wr.cell? ⟨w.heap.size + 1, 2, none⟩ = some (.int .u64 (plcN (8 * n) h 2 : Nat)) := l0.at 2
      have q3 : wr.cell? ⟨w.heap.size + 1, 3, none⟩ = some (.int .u64 (plcN (8 * n) h 3 : Nat)) := l0.at 3
      have q4 : wr.cell? ⟨w.heap.size + 1, 4, none⟩ = some (.int .u64 (plcN (8 * n) h 4 : Nat)) := l0.at 4
      have q5 : wr.cell? ⟨w.heap.size + 1, 5, none⟩ = some (.int .u64 (plcN (8 * n) h 5 : Nat)) := l0.at 5
      have s0 : wr.cell? ⟨w.heap.size, 0, none⟩ = some (.int .u64 0) := r0.at 0
      have f0 : wr.frozen? ⟨w.heap.size, 0, none⟩ = false := r0.free 0
      have s1 : wr.cell? ⟨w.heap.size, 1, none⟩ = some (.int .u64 0) := r0.at 1
      have f1 : wr.frozen? ⟨w.heap.size, 1, none⟩ = false := r0.free 1
      have s2 : wr.cell? ⟨w.heap.size, 2, none⟩ = some (.int .u64 0) := r0.at 2
      have f2 : wr.frozen? ⟨w.heap.size, 2, none⟩ = false := r0.free 2
      have s3 : wr.cell? ⟨w.heap.size, 3, none⟩ = some (.int .u64 0) := r0.at 3
      have f3 : wr.frozen? ⟨w.heap.size, 3, none⟩ = false := r0.free 3
      have s4 : wr.cell? ⟨w.heap.size, 4, none⟩ = some (.int .u64 0) := r0.at 4
      have f4 : wr.frozen? ⟨w.heap.size, 4, none⟩ = false := r0.free 4
      have s5 : wr.cell? ⟨w.heap.size, 5, none⟩ = some (.int .u64 0) := r0.at 5
      have f5 : wr.frozen? ⟨w.heap.size, 5, none⟩ = false := r0.free 5
      obtain ⟨v0, g0⟩ : ∃ v : Int, (plcN (8 * n) h 0 : Nat) = v := ⟨_, rfl⟩
      obtain ⟨v1, g1⟩ : ∃ v : Int, (plcN (8 * n) h 1 : Nat) = v := ⟨_, rfl⟩
      obtain ⟨v2, g2⟩ : ∃ v : Int, (plcN (8 * n) h 2 : Nat) = v := ⟨_, rfl⟩
      obtain ⟨v3, g3⟩ : ∃ v : Int, (plcN (8 * n) h 3 : Nat) = v := ⟨_, rfl⟩
      obtain ⟨v4, g4⟩ : ∃ v : Int, (plcN (8 * n) h 4 : Nat) = v := ⟨_, rfl⟩
      obtain ⟨v5, g5⟩ : ∃ v : Int, (plcN (8 * n) h 5 : Nat) = v := ⟨_, rfl⟩
      rw [g0] at q0
      rw [g1] at q1
      rw [g2] at q2
      rw [g3] at q3
      rw [g4] at q4
      rw [g5] at q5
      have HVV : Hid (.agg #[.int .u64 v0, .int .u64 v1, .int .u64 v2, .int .u64 v3, .int .u64 v4, .int .u64 v5] = V) := Lib.hid (by rw [← HV.out]; unfold plcV; rw [g0, g1, g2, g3, g4, g5])
      clear HP l0 r0 HR2 hgv g0 g1 g2 g3 g4 g5 HV
      go_wp2
      refine bodyPost_ret (v := V) (by rw [← HVV.out]; simp [results, Try.results8, go_sem, s0, s1, s2, s3, s4, s5]) rfl ⟨rfl, ?_⟩
      iterate 6 refine Below.setCell ?_ (by simp) _
      exact HB.out
end Go.Proofs.Ytlifmihkncejlaa
