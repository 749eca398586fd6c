/- manifest.Load: the manifest that CURRENT names. -/
import Derived.Test.YtcppaflnhlmcbaaGreatDoorManRep
namespace Go.Proofs.YtcppaflnhlmcbaaGreatDoor
set_option linter.unusedVariables false
open Go.RowKit Go.Maps
theorem ptr_num {sm : List UInt8 → List UInt8} (u : Nat) (hu : u ≤ 1125899906842624) : unfK 8 (ptrB sm u) = u := by
  unfold unfK ptrB
  rw [if_pos (by rw [List.length_append, fixN_len]; omega), List.take_left' (fixN_len _ _)]
  exact unf_fix 8 u (by omega)
set_option maxHeartbeats 2000000 in
/-- CURRENT is not there, or names none. -/
theorem mload_no (w : World) (b : Nat) (c : Int) (hc : c ≠ 0) (HN : Hid (Calls Tryz.prog 47 #[.pointer (some ⟨b, 0, none⟩)] w (NamRes w 0 c))) : Calls Tryz.prog 18 #[.pointer (some ⟨b, 0, none⟩)] w fun e w' => e = .returned (.tuple #[.pointer none, .int .i64 c]) ∧ Below w.heap.size w w' := by
  have hd : (c != 0) = true := by rw [bne_iff_ne]; exact hc
  clear hc
  go_enter Tryz.func18, Tryz.ntmps18
  go_wp2_with fail
  refine HN.out.mono ?_
  rintro e w1 ⟨rfl, hb⟩
  go_wp2_with fail
  go_ret2
  exact ⟨rfl, hb⟩
/-- What Load answers where all is right. -/
def LoadTo (B : Nat) (w : World) (b : Nat) (ρ : Nat → Option Role) (S : Fs) (M : Man) (V : Ver) (e : Ending) (w' : World) : Prop :=
  ∃ mb V' ρ', e = .returned (.tuple #[.pointer (some ⟨mb, 0, none⟩), .int .i64 0]) ∧ w.heap.size ≤ mb ∧ vSame V V' ∧ ManAt B w' b mb ρ' (setM S M).2.1 (setM S M).2.2 V' ∧ UpdF (fun k => ρ k ≠ none) w w' ∧ ∀ k, ρ' k ≠ none → ρ k ≠ none ∨ w.heap.size ≤ k
set_option maxHeartbeats 16000000 in
set_option maxRecDepth 100000 in
theorem mload_any {w0 : World} (hG0 : GlobM w0) {w : World} (h0 : Below w0.heap.size w0 w) (b : Nat) (ρ : Nat → Option Role) (S : Fs) (h : FsAt w b ρ S) (hρ : ∀ k, ρ k ≠ none → w0.heap.size ≤ k) (u : Nat) (hu : u ≤ 1125899906842624) (hcur : S.read curN = (ptrB smN u, 0)) (log : List UInt8) (hlog : S.read (manN u) = (log, 0))
    (es : List Edt) (N : Nat) (hrd : readC smN log = (es.map edtB, N, true)) (hm : ∀ e ∈ es, mayE e) (V : Ver) (hV : manV es = some V) (hll : log.length ≤ 16777216) (hNl : N ≤ log.length) :
    Calls Tryz.prog 18 #[.pointer (some ⟨b, 0, none⟩)] w (LoadTo w0.heap.size w b ρ S ⟨u, log.length, decide (N < log.length), true, false⟩ V) := by
  have hmn := (manN_len hu).2
  have HN : Hid (Calls Tryz.prog 47 #[.pointer (some ⟨b, 0, none⟩)] w (NamRes w u 0)) := Lib.hid (by
    have := named_any w b ρ S h _ hcur (hG0.below h0).1 u (ptr_num u hu) (by omega)
    rwa [if_pos rfl, if_pos rfl] at this)
  have HMN : Hid (∀ W, Below w.heap.size w W → Calls Tryz.prog 48 #[.int .i64 (u : Int)] W fun e w' => e = .returned (.string (manN u)) ∧ Below W.heap.size W w') := Lib.hid fun W hW => manName_any u (by omega) W ((hG0.below h0).2.below hW)
  have HRE : Hid (∀ W, Below w.heap.size w W → Calls Tryz.prog 30 #[.pointer (some ⟨b, 0, none⟩), .string (manN u)] W (ReadAt W log 0)) := Lib.hid fun W hW => by
    have := fsRead_any W b ρ S (h.below hW) (manN u) (by unfold maxLen; omega)
    rwa [hlog] at this
  have HRP : Hid (∀ (s : Option Addr) (len cap : Nat) (W : World), Below w.heap.size w W → RdB W (.slice s len cap) log → Calls Tryz.prog 49 #[.slice s len cap] W (RplTo 0 W V N)) := Lib.hid fun s len cap W hW hr =>
    mreplay_any hG0 (h0.trans (hW.mono h0.size)) s len cap log hr (by omega) es N hrd hm V hV
  have HSE : Hid (∀ mb V' W, Below w.heap.size w W → ManAt w0.heap.size W b mb ρ S ⟨u, log.length, decide (N < log.length), true, false⟩ V' → Calls Tryz.prog 50 #[.pointer (some ⟨mb, 0, none⟩)] W (MRes w0.heap.size W b mb ρ (setM S ⟨u, log.length, decide (N < log.length), true, false⟩) V')) := Lib.hid fun mb V' W hW hM =>
    settle_any hG0 (h0.trans (hW.mono h0.size)) hM hu
  have HF := Lib.hid h
  have HTOP : Hid (∀ k, ρ k ≠ none → k < w.heap.size) := Lib.hid (by obtain ⟨L, hL⟩ := h; exact hL.top)
  have HB0 := Lib.hid h0.size
  have hNi : (N : Int) ≤ 16777216 := by omega
  unfold LoadTo
  generalize setM S ⟨u, log.length, decide (N < log.length), true, false⟩ = R at *
  obtain ⟨rc, rS, rM⟩ := R
  obtain ⟨L, hL⟩ : ∃ L, log.length = L := ⟨_, rfl⟩
  rw [hL] at HSE hll
  have HLL := Lib.hid hL
  generalize manN u = NM at *
  clear h hcur hlog hrd hm hV hG0 h0 hρ hmn hu hL hNl
  go_enter Tryz.func18, Tryz.ntmps18
  go_wp2_with fail
  refine HN.out.mono ?_
  rintro e w1 ⟨rfl, hb⟩
  have HB1 := Lib.hid hb
  have HM1 := Lib.hid (HMN.out w1 hb)
  clear hb HN HMN
  go_wp2_with fail
  refine HM1.out.mono ?_
  rintro e w2 ⟨rfl, hb⟩
  have HB2 := Lib.hid (HB1.out.trans (hb.mono HB1.out.size))
  have HR2 := Lib.hid (HRE.out w2 HB2.out)
  clear hb HM1 HRE HB1
  go_wp2_with fail
  refine HR2.out.mono ?_
  rintro e w3 ⟨v3, rfl, o3, hb⟩
  have HB3 := Lib.hid (HB2.out.trans (hb.mono HB2.out.size))
  obtain ⟨a3, n3, c3, rfl, hn3, -⟩ := o3.form
  have HP3 := Lib.hid (HRP.out a3 n3 c3 w3 HB3.out o3.rd)
  rw [HLL.out] at hn3
  subst hn3
  clear hb HR2 HRP HB2 o3
  go_wp2_with fail
  refine HP3.out.mono ?_
  rintro e w4 ⟨aT, nT, cT, n0, V', rfl, hp, hsm, hb⟩
  have HB4 := Lib.hid (HB3.out.trans (hb.mono HB3.out.size))
  have HSM := Lib.hid hsm
  have HV4 := Lib.hid hp
  obtain ⟨w5, hw5⟩ : ∃ w5, w4.alloc (.cells #[.slice aT nT cT, .int .i64 n0, .int .i64 V'.lg, .int .i64 V'.ls] 73) = w5 := ⟨_, rfl⟩
  have hb5 : Below w4.heap.size w4 w5 := by rw [← hw5]; exact (Below.refl _ w4).alloc (Nat.le_refl _) _
  have hx5 : BlkAt w5 w4.heap.size #[.slice aT nT cT, .int .i64 n0, .int .i64 V'.lg, .int .i64 V'.ls] 73 := by rw [← hw5]; exact BlkAt.new _ _ _
  obtain ⟨y0, y1, y2, y3⟩ := cell4_of hx5
  have HB5 := Lib.hid (HB4.out.trans (hb5.mono HB4.out.size))
  have HV5 := Lib.hid (HV4.out.below hb5)
  have HB35 := Lib.hid HB3.out.size
  clear hb hsm hp hb5 hx5 HP3 HB4 HV4 HB3
  go_upto_region 11 with fail
  have hM6 : ManAt w0.heap.size (w5.alloc (.cells (manC b ⟨u, n3, decide (N < n3), true, false⟩ (.slice aT nT cT) n0 V'.lg V'.ls) 75)) b w5.heap.size ρ S ⟨u, n3, decide (N < n3), true, false⟩ V' := by
    have hal := (Below.refl w5.heap.size w5).alloc (Nat.le_refl _) (.cells (manC b ⟨u, n3, decide (N < n3), true, false⟩ (.slice aT nT cT) n0 V'.lg V'.ls) 75)
    refine ⟨(HF.out.below HB5.out).below hal, ?_, _, n0, BlkAt.new _ _ _, (HV5.out.below hal).base (Nat.le_trans HB0.out HB35.out), fun k hk => ?_⟩
    · cases e : ρ w5.heap.size with
      | none => rfl
      | some r => have := HTOP.out _ (show ρ w5.heap.size ≠ none by rw [e]; simp); have := HB5.out.size; omega
    · cases e : ρ k with
      | none => rfl
      | some r =>
        have h1 := HTOP.out k (by rw [e]; simp)
        have h2 : w3.heap.size ≤ k := by
          rcases HV5.out.row.blk with ⟨e, -⟩ | ⟨g', cap, cur, e, e2, -⟩
          · rw [e] at hk; simp [Value.ownBlock] at hk
          · rw [e] at hk; simp only [Value.ownBlock, Option.some.injEq] at hk; omega
        have := HB35.out
        omega
  have HM6 := Lib.hid hM6
  have HB6 := Lib.hid (HB5.out.alloc HB5.out.size (.cells (manC b ⟨u, n3, decide (N < n3), true, false⟩ (.slice aT nT cT) n0 V'.lg V'.ls) 75))
  have HMB := Lib.hid HB5.out.size
  have HS6 := Lib.hid (HSE.out _ V' _ HB6.out hM6)
  clear hM6 hw5 y0 y1 y2 y3 HB5 HV5 HSE
  generalize w5.heap.size = mb at *
  unfold manC at HM6 HB6 HS6
  dsimp only at HM6 HB6 HS6
  generalize w5.alloc _ = w6 at *
  unfold MRes at HS6
  dsimp only at HS6
  go_wp2_with fail
  refine HS6.out.mono ?_
  rintro e w7 ⟨rfl, hmt⟩
  have HMT := Lib.hid hmt
  clear hmt HS6
  go_wp2_with fail
  go_ret2
  obtain ⟨ρ', k1, k2, k3⟩ := HMT.out
  have hmr : ∀ k, k < w.heap.size → k ≠ mb := fun k hk e => by have := HMB.out; omega
  refine ⟨mb, V', ρ', rfl, HMB.out, HSM.out, k1, ?_, fun k hk => ?_⟩
  · have h1 : UpdF (ManP ρ mb) w w7 := (UpdF.of HB6.out).trans k2
    exact h1.mono fun k hk f => by
      rcases f with f | f
      · exact f
      · exact absurd f (hmr k hk)
  · rcases k3 k (.inl hk) with (f | f) | f
    · exact .inl f
    · have := HMB.out; exact .inr (by omega)
    · have := HB6.out.size; exact .inr (by omega)
end Go.Proofs.YtcppaflnhlmcbaaGreatDoor
