/- The walk of bloom.Make. -/
import Derived.Test.YtlifmihkncejlaaBloomPlc
import Derived.Test.YtlifmihkncejlaaByMake
import Derived.Test.YtlifmihkncejlaaByStore
import Derived.StillTailTactics
import Derived.Deep.DeepCutAuto
namespace Go.Proofs.Ytlifmihkncejlaa
set_option linter.unusedVariables false
open Go.RowKit
theorem u64s_at (cs : Array Value) {k : Nat} {v : Value} (hk : k < 6) (hc : cs[k]? = some v) (w : World) : (Instr.index 30 (.agg cs) (.int .i64 (k : Int))).run Try.prog w = .ok v w := by
  obtain ⟨i0, hi, hz⟩ : ∃ i0, Try.prog.info? 29 = some i0 ∧ i0.size = 1 := Option.map_eq_some_iff.1 (show (Try.prog.info? 29).map (·.size) = some 1 by kernel_rfl)
  have h1 : k < 6 := hk
  simp [Instr.index, run_underlying Try.underlying30, run_underlying Try.underlying29, asIntOf, h1, part, isAgg, sizeOf, typeInfo, hi, hz, hc, go_sem]
theorem plc_at (bits h : Nat) {k : Nat} (hk : k < 6) (w : World) : (Instr.index 30 (plcV bits h) (.int .i64 (k : Int))).run Try.prog w = .ok (.int .u64 (plcN bits h k : Nat)) w := by
  refine u64s_at _ hk ?_ w
  match k, hk with
  | 0, _ => rfl
  | 1, _ => rfl
  | 2, _ => rfl
  | 3, _ => rfl
  | 4, _ => rfl
  | 5, _ => rfl
/-- The filter's bytes: the bits, and what tells how many a text has. -/
def filterB (hs : List Nat) : List UInt8 := filterF hs ++ [6]
theorem putBit_app (f r : List UInt8) {k : Nat} (h : k / 8 < f.length) : putBit (f ++ r) k = putBit f k ++ r := by
  unfold putBit
  rw [List.set_append_left _ _ h, List.getElem?_append_left h]
theorem addTo_app {bits h : Nat} (f r : List UInt8) (hb : 0 < bits) (hl : bits ≤ 8 * f.length) : ∀ n, addTo bits h (f ++ r) n = addTo bits h f n ++ r
  | 0 => rfl
  | n + 1 => by
    rw [addTo, addTo, addTo_app f r hb hl n, putBit_app]
    rw [addTo_len]
    have := plcN_lt hb h n; omega
theorem fold_app {bits : Nat} (hb : 0 < bits) (r : List UInt8) : ∀ (hs : List Nat) (f : List UInt8), bits ≤ 8 * f.length → hs.foldl (addH bits) (f ++ r) = hs.foldl (addH bits) f ++ r
  | [], _, _ => rfl
  | h :: hs, f, hl => by
    rw [List.foldl_cons, List.foldl_cons]
    unfold addH
    rw [addTo_app f r hb hl]
    exact fold_app hb r hs _ (by rw [addTo_len]; exact hl)
/-- What stands in the bytes behind some texts. -/
def makeF (bits : Nat) (hs : List Nat) : List UInt8 := hs.foldl (addH bits) (List.replicate (bits / 8 + 1) 0)
theorem makeF_len (bits : Nat) (hs : List Nat) : (makeF bits hs).length = bits / 8 + 1 := by unfold makeF; rw [fold_len, List.length_replicate]
theorem makeF_snoc (bits : Nat) (hs : List Nat) (h : Nat) : makeF bits (hs ++ [h]) = addTo bits h (makeF bits hs) 6 := by unfold makeF; rw [List.foldl_append]; rfl
theorem makeF_end (hs : List Nat) : (makeF (bitsN hs.length) hs).set (bitsN hs.length / 8) 6 = filterB hs := by
  have hb : 0 < bitsN hs.length := by unfold bitsN; omega
  have hl : bitsN hs.length ≤ 8 * (List.replicate (bitsN hs.length / 8) (0 : UInt8)).length := by rw [List.length_replicate]; unfold bitsN; omega
  unfold makeF filterB filterF
  rw [List.replicate_succ', fold_app hb _ _ _ hl]
  have e : (hs.foldl (addH (bitsN hs.length)) (List.replicate (bitsN hs.length / 8) 0)).length = bitsN hs.length / 8 := by rw [fold_len, List.length_replicate]
  rw [List.set_append_right _ _ (by rw [e]; exact Nat.le_refl _), e, Nat.sub_self]; rfl
theorem orB (b : UInt8) (i : Nat) (hi : i < 8) : Value.int .u8 (bits .or .u8 (b.toNat : Int) ((2 ^ i : Nat) : Int)) = bv (orBit b i) := by
  unfold bv
  have : 2 ^ i < 256 := Nat.lt_of_lt_of_le (Nat.pow_lt_pow_right (by omega) hi) (by decide)
  rw [u8_or_nat _ _ b.toNat_lt this, orBit_nat b hi]
/-- Bytes of the call's own, and what lies below. -/
structure MkAt (w0 : World) (v : Value) (l : List UInt8) (w : World) : Prop where
  own : OwnB w0.heap.size w v l
  below : Below w0.heap.size w0 w
theorem MkAt.to {w0 : World} {v : Value} {l : List UInt8} {w w' : World} (h : MkAt w0 v l w) (u : Below w.heap.size w w') : MkAt w0 v l w' := ⟨h.own.below u, h.below.trans (u.mono h.below.size)⟩
set_option maxHeartbeats 4000000 in
set_option maxRecDepth 100000 in
theorem make_any (w : World) (v : Value) (ss : List ByteArray) (hr : RdV w v (ss.map Value.string)) (hn : ss.length ≤ 1000000000) (hs : ∀ s ∈ ss, s.size ≤ maxLen) :
    Calls Try.prog 5 #[v] w (MkB (filterB (ss.map hashN)) w) := by
  obtain ⟨a, len, cap, rfl, hlen⟩ : ∃ a len cap, v = .slice a len cap ∧ len = ss.length := by
    rcases hr with ⟨a, cap, rfl, e⟩ | ⟨b, off, cap, rfl, -⟩
    · exact ⟨a, 0, cap, rfl, by have := congrArg List.length e; simpa using this.symm⟩
    · exact ⟨_, _, cap, rfl, by simp⟩
  have HBF : Hid (∀ w : World, Calls Try.prog 7 #[.int .i64 (len : Int)] w fun e w' => e = .returned (.int .i64 ((bitsN len / 8 : Nat) : Int)) ∧ w = w') := Lib.hid fun w => bytesFor_any len (by omega) w
  have hsz0 : bitsN len / 8 ≤ 10000000000 ∧ 8 ≤ bitsN len / 8 := by unfold bitsN; omega
  have HBN : Hid (bitsN len = 8 * (bitsN len / 8)) := Lib.hid (by unfold bitsN; omega)
  obtain ⟨sz, hsz⟩ : ∃ sz, bitsN len / 8 = sz := ⟨_, rfl⟩
  rw [hsz] at HBF HBN hsz0
  obtain ⟨hsz1, hsz8⟩ := hsz0
  have HSZ := Lib.hid hsz
  have HLEN := Lib.hid hlen
  have HRD := Lib.hid hr
  have HSS := Lib.hid hs
  clear hsz hr hs
  have hlen2 : (len : Int) ≤ 1000000000 := by omega
  have HMK : Hid (∀ w : World, (Instr.makeSlice 24 (.int .i64 ((sz : Int) + 1)) (.int .i64 ((sz : Int) + 1))).run Try.prog w = .ok (.slice (some ⟨w.heap.size, 0, none⟩) (sz + 1) (sz + 1)) (w.alloc (.cells (madeCells #[.int .u8 0] (sz + 1)) 5))) := Lib.hid fun w => mkB_run (sz + 1) (by omega) w
  clear hlen
  go_enter Try.func5, Try.ntmps5
  go_wp2_with (refine (HBF.out _).mono ?_; rintro e w2 ⟨rfl, rfl⟩)
  go_wp2_with fail
  rw [HMK.out]
  go_wp2_with fail
  obtain ⟨W1, hW1⟩ : ∃ W1, w.alloc (.cells (madeCells #[.int .u8 0] (sz + 1)) 5) = W1 := ⟨_, rfl⟩
  have e8 : 8 * sz / 8 = sz := by omega
  have HM1 : Hid (MkAt w (.slice (some ⟨w.heap.size, 0, none⟩) (sz + 1) (sz + 1)) (makeF (8 * sz) ((ss.take 0).map hashN)) W1) := Lib.hid (by
    rw [← hW1]
    refine ⟨?_, (Below.refl _ w).alloc (Nat.le_refl _) _⟩
    have := mkB_own w (sz + 1) (by omega)
    unfold makeF
    rw [e8]; exact this)
  rw [hW1]
  clear hW1 HMK HBF
  go_loopg [17] len (fun kk vi wr => ∃ i : Nat, vi = .int .i64 (i : Int) ∧ i ≤ len ∧ kk + i = len ∧ Hid (MkAt w (.slice (some ⟨w.heap.size, 0, none⟩) (sz + 1) (sz + 1)) (makeF (8 * sz) ((ss.take i).map hashN)) wr))
  case atStart => exact ⟨0, rfl, by omega, by omega, HM1⟩
  case round =>
    clear HM1
    obtain ⟨i, rfl, hi, hkk, HM⟩ := hrel
    by_cases hlt : i < len
    · have hd1 : decide ((i : Int) < (len : Int)) = true := by simp; omega
      have hi2 : i < ss.length := by rw [← HLEN.out]; exact hlt
      obtain ⟨b, off, rfl, hb, hcell⟩ := rdV_cells (HRD.out.below HM.out.below) (by rw [List.length_map]; omega)
      have hc := hcell i (by rw [List.length_map]; exact hi2)
      rw [getD_strs _ _ hi2] at hc
      have HTK : Hid (ss.take (i + 1) = ss.take i ++ [ss.getD i ByteArray.empty]) := Lib.hid (by
        rw [List.take_add_one, List.getElem?_eq_getElem hi2, List.getD_eq_getElem?_getD, List.getElem?_eq_getElem hi2]; rfl)
      have hsm : (ss.getD i ByteArray.empty).size ≤ maxLen := by
        rw [List.getD_eq_getElem?_getD, List.getElem?_eq_getElem hi2]; exact HSS.out _ (List.getElem_mem hi2)
      obtain ⟨s, hs⟩ : ∃ s, ss.getD i ByteArray.empty = s := ⟨_, rfl⟩
      rw [hs] at hc HTK hsm
      have HPL := Lib.hid (places_any s hsm sz (by omega) (by omega))
      have HIX : Hid (∀ j : Nat, j < 6 → ∀ w, (Instr.index 30 (plcV (8 * sz) (hashN s)) (.int .i64 (j : Int))).run Try.prog w = .ok (.int .u64 (plcN (8 * sz) (hashN s) j : Nat)) w) := Lib.hid fun j hj w => plc_at _ _ hj w
      have HMS : Hid (makeF (8 * sz) ((ss.take (i + 1)).map hashN) = addTo (8 * sz) (hashN s) (makeF (8 * sz) ((ss.take i).map hashN)) 6) := Lib.hid (by
        rw [HTK.out, List.map_append, List.map_cons, List.map_nil, makeF_snoc])
      have HGL : Hid ((makeF (8 * sz) ((ss.take i).map hashN)).length = sz + 1) := Lib.hid (by rw [makeF_len, e8])
      obtain ⟨G, hG⟩ : ∃ G, makeF (8 * sz) ((ss.take i).map hashN) = G := ⟨_, rfl⟩
      rw [hG] at HM HMS HGL
      obtain ⟨V, hV⟩ : ∃ V, plcV (8 * sz) (hashN s) = V := ⟨_, rfl⟩
      rw [hV] at HPL HIX
      obtain ⟨h, hh⟩ : ∃ h, hashN s = h := ⟨_, rfl⟩
      rw [hh] at HIX HMS
      clear hcell hs hG hV hh hsm HTK hi2
      go_wp2_with (refine (HPL.out _).mono ?_; rintro e w2 ⟨rfl, hb2⟩)
      have HM2 : Hid (MkAt w (.slice (some ⟨w.heap.size, 0, none⟩) (sz + 1) (sz + 1)) (addTo (8 * sz) h G 0) w2) := Lib.hid (HM.out.to hb2)
      clear hb2 HM hc hb HPL
      go_loopg [24] 6 (fun jj vj wq => ∃ j : Nat, vj = .int .i64 (j : Int) ∧ j ≤ 6 ∧ jj + j = 6 ∧ Hid (MkAt w (.slice (some ⟨w.heap.size, 0, none⟩) (sz + 1) (sz + 1)) (addTo (8 * sz) h G j) wq))
      case atStart => exact ⟨0, rfl, by omega, by omega, HM2⟩
      case round =>
        clear HM2
        obtain ⟨j, rfl, hj, hjj, HM⟩ := hrel
        by_cases hlt6 : j < 6
        · have hd6 : decide ((j : Int) < 6) = true := by simp; omega
          have hix := HIX.out j hlt6
          have hkl := plcN_lt (bits := 8 * sz) (by omega) h j
          have HPN : Hid (addTo (8 * sz) h G (j + 1) = putBit (addTo (8 * sz) h G j) (plcN (8 * sz) h j)) := Lib.hid rfl
          obtain ⟨k, hk⟩ : ∃ k, plcN (8 * sz) h j = k := ⟨_, rfl⟩
          rw [hk] at hix hkl HPN
          have hgl : (addTo (8 * sz) h G j).length = sz + 1 := by rw [addTo_len]; exact HGL.out
          obtain ⟨F, hF⟩ : ∃ F, addTo (8 * sz) h G j = F := ⟨_, rfl⟩
          rw [hF] at HM HPN hgl
          obtain ⟨g, cp, hv, -, -, -, -, hc, hf⟩ := HM.out.own.place (k / 8) (by omega)
          simp only [Value.slice.injEq, Option.some.injEq, Addr.mk.injEq, and_true] at hv
          obtain ⟨hv, -, -⟩ := hv
          rw [← hv] at hc hf
          have HOR : Hid (Value.int .u8 (bits .or .u8 ((F.getD (k / 8) 0).toNat : Int) ((2 ^ (k % 8) : Nat) : Int)) = bv (orBit (F.getD (k / 8) 0) (k % 8))) := Lib.hid (orB _ _ (Nat.mod_lt _ (by decide)))
          have HK : Hid (∀ w : World, Calls Try.prog 9 #[.int .u64 (k : Int)] w fun e w' => e = .returned (.int .u8 ((2 ^ (k % 8) : Nat) : Int)) ∧ w' = w) := Lib.hid fun w => (mask_any k (by omega) w).mono fun e w' h => ⟨h.1, h.2.symm⟩
          obtain ⟨m, hm⟩ : ∃ m, 2 ^ (k % 8) = m := ⟨_, rfl⟩
          rw [hm] at HK HOR
          obtain ⟨x, hx⟩ : ∃ x, F.getD (k / 8) 0 = x := ⟨_, rfl⟩
          have HX := Lib.hid hx
          rw [hx] at hc HOR
          have hw8 : IntKind.u64.wrap ((k : Int) / 8) = ((k / 8 : Nat) : Int) := by rw [IntKind.wrap_u64]; omega
          have hk8 : ((k / 8 : Nat) : Int) < (sz : Int) + 1 := by omega
          have HPB : Hid (putBit F k = F.set (k / 8) (orBit x (k % 8))) := Lib.hid (by unfold putBit; rw [← List.getD_eq_getElem?_getD, hx])
          obtain ⟨q, hq⟩ : ∃ q, k / 8 = q := ⟨_, rfl⟩
          rw [hq] at hc hf hw8 hk8 HPB
          clear hm hx hq HX
          clear hk hF hv
          go_upto_region 9 with fail
          refine wp_region_still_tail 9 (by kernel_rfl) (by kernel_rfl) ?_
          change wpStill _ _ (World.drew _) (fun a => wpList _ _ _ _ a (World.drew _)) _ _
          simp only [List.take_succ_cons, List.take_zero, List.drop_succ_cons, List.drop_zero]
          still_step
          still_step
          still_step
          still_step
          still_step
          still_step
          still_call (HK.out _)
          still_step
          still_step
          refine wpStill_nil ?_
          go_wp2_with fail
          go_roundg (6 - (j + 1))
          case measure => omega
          case rel =>
            refine ⟨j + 1, by go_num, by omega, by omega, Lib.hid ?_⟩
            have h1 := HM.out.own.set q (orBit x (k % 8))
            rw [HPN.out, HPB.out]
            refine ⟨?_, (HM.out.below.drew).setCell (Nat.le_refl _) _⟩
            rw [HOR.out]
            exact h1
        · obtain rfl : j = 6 := by omega
          go_wp2_with fail
          go_roundg (len - (i + 1))
          case measure => omega
          case rel => exact ⟨i + 1, by go_num, by omega, by omega, by rw [HMS.out]; exact HM⟩
    · obtain rfl : i = len := by omega
      have hgl : (makeF (8 * sz) ((ss.take i).map hashN)).length = sz + 1 := by rw [makeF_len, e8]
      obtain ⟨g, cp, hv, -, -, -, -, hc, hf⟩ := HM.out.own.place sz (by omega)
      simp only [Value.slice.injEq, Option.some.injEq, Addr.mk.injEq, and_true] at hv
      obtain ⟨hv, -, -⟩ := hv
      rw [← hv] at hc hf
      have HE : Hid (MkB (filterB (ss.map hashN)) w (.returned (.slice (some ⟨w.heap.size, 0, none⟩) (sz + 1) (sz + 1))) (wr.setCell ⟨w.heap.size, sz, none⟩ (bv 6))) := Lib.hid (by
        have := HM.out.own.set sz 6
        have e := makeF_end (ss.map hashN)
        rw [List.length_map, ← HLEN.out, HBN.out, e8] at e
        rw [show ss.take i = ss by rw [HLEN.out]; exact List.take_length, e] at this
        exact ⟨_, rfl, this, HM.out.below.setCell (Nat.le_refl _) _⟩)
      clear hgl hv HM
      go_wp2_with fail
      go_ret
      exact HE.out
end Go.Proofs.Ytlifmihkncejlaa
