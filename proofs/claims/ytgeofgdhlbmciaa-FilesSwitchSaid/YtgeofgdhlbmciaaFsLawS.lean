/- The law FilesSwitch. -/
import Derived.Test.YtgeofgdhlbmciaaFsLawN
namespace Go.Proofs.Ytgeofgdhlbmciaa
set_option linter.unusedVariables false
open Go.RowKit Go.Maps
def nmC : ByteArray := ⟨#[99, 117, 114]⟩
def nmT : ByteArray := ⟨#[116, 109, 112]⟩
def txO : List UInt8 := [111, 108, 100]
def txN : List UInt8 := [110, 101, 119]
def chC : Chg := ⟨⟨#[]⟩, nmC, some 0⟩
def chT : Chg := ⟨⟨#[]⟩, nmT, some 1⟩
def chR : Chg := ⟨nmT, nmC, some 1⟩
def sw1 : Fs := ⟨[⟨[], 0⟩], [(nmC, 0)], [], [chC], 1000, 1, none⟩
def sw2 : Fs := ⟨[⟨txO, 0⟩], [(nmC, 0)], [], [chC], 1000, 2, none⟩
def sw3 : Fs := ⟨[⟨txO, 3⟩], [(nmC, 0)], [], [chC], 1000, 3, none⟩
def sw4 : Fs := ⟨[⟨txO, 3⟩], [(nmC, 0)], [(nmC, 0)], [], 1000, 4, none⟩
def sw5 : Fs := ⟨[⟨txO, 3⟩, ⟨[], 0⟩], [(nmC, 0), (nmT, 1)], [(nmC, 0)], [chT], 1000, 5, none⟩
def sw6 : Fs := ⟨[⟨txO, 3⟩, ⟨txN, 0⟩], [(nmC, 0), (nmT, 1)], [(nmC, 0)], [chT], 1000, 6, none⟩
def sw7 : Fs := ⟨[⟨txO, 3⟩, ⟨txN, 3⟩], [(nmC, 0), (nmT, 1)], [(nmC, 0)], [chT], 1000, 7, none⟩
def sw8 : Fs := ⟨[⟨txO, 3⟩, ⟨txN, 3⟩], [(nmC, 1)], [(nmC, 0)], [chT, chR], 1000, 8, none⟩
theorem sw_1 : (⟨[], [], [], [], 1000, 0, none⟩ : Fs).create nmC = (0, sw1) := by kernel_rfl
theorem sw_2 : sw1.append nmC txO = (0, sw2) := by kernel_rfl
theorem sw_3 : sw2.sync nmC = (0, sw3) := by kernel_rfl
theorem sw_4 : sw3.syncDir = (0, sw4) := by kernel_rfl
theorem sw_5 : sw4.create nmT = (0, sw5) := by kernel_rfl
theorem sw_6 : sw5.append nmT txN = (0, sw6) := by kernel_rfl
theorem sw_7 : sw6.sync nmT = (0, sw7) := by kernel_rfl
theorem sw_8 : sw7.rename nmT nmC = (0, sw8) := by kernel_rfl
theorem clamp_zero (t : Int) : clampN t 0 = 0 := by unfold clampN; omega
theorem full_crash (bs : List UInt8) (t : Int) : Fil.crash ⟨bs, bs.length⟩ t = ⟨bs, bs.length⟩ := by
  unfold Fil.crash
  rw [Nat.sub_self, clamp_zero]
  simp
theorem read_first {S : Fs} {n : Int} {ts : List Int} {nm : ByteArray} {i : Nat} {r : Dir} (hl : S.left n = (nm, i) :: r) : (S.crash n ts).read nm = (((S.file i).crash (ts.getD 0 0)).bytes, 0) := by
  unfold Fs.read
  have h1 : dget nm (S.crash n ts).now = some 0 := by
    show dget nm (numb 0 (S.left n)) = _
    rw [hl]
    show dget nm ((nm, 0) :: numb 1 r) = _
    rw [dget_cons, if_pos rfl]
  rw [h1]
  show (((S.crash n ts).file 0).bytes, (0 : Int)) = _
  have h2 : (S.crash n ts).file 0 = (S.file i).crash (ts.getD 0 0) := by
    show (S.crashFiles n ts).getD 0 _ = _
    rw [List.getD_eq_getElem?_getD, crashFiles_at, hl]; rfl
  rw [h2]
theorem sw_old {n : Int} (h : n < 2) (ts : List Int) : (sw8.crash n ts).read nmC = (txO, 0) := by
  have hn : n.toNat = 0 ∨ n.toNat = 1 := by omega
  have hl : ∃ r, sw8.left n = (nmC, 0) :: r := by
    unfold Fs.left
    rcases hn with h | h
    · rw [h]; exact ⟨[], by kernel_rfl⟩
    · rw [h]; exact ⟨[(nmT, 1)], by kernel_rfl⟩
  obtain ⟨r, hl⟩ := hl
  rw [read_first hl]
  have e : sw8.file 0 = ⟨txO, txO.length⟩ := rfl
  rw [e, full_crash]
theorem sw_new {n : Int} (h : 2 ≤ n) (ts : List Int) : (sw8.crash n ts).read nmC = (txN, 0) := by
  have hl : sw8.left n = [(nmC, 1)] := by
    unfold Fs.left
    rw [List.take_of_length_le (by show 2 ≤ n.toNat; omega)]
    kernel_rfl
  rw [read_first hl]
  have e : sw8.file 1 = ⟨txN, txN.length⟩ := rfl
  rw [e, full_crash]
/-- '[]int' cut: run. -/
theorem sl_hI (W : World) (a : Option Addr) (n cap k : Nat) (hc : k ≤ cap) :
    (Instr.sliceAt 39 (.slice a n cap) none (some (.int .i64 (k : Int))) none).run Try.prog W = .ok (.slice a k cap) W := by
  have hT : Try.prog.underlying 39 = some (.slice (Try.prog.elem 39)) := by kernel_rfl
  have hS : (sizeOf (Try.prog.elem 39)).run Try.prog W = .ok 1 W := by kernel_rfl
  rw [run_sliceAt_slice (h := hT), run_slice_h (w := W) (t := 39) (a := a) (len := n) (cap := cap) (ht := hT) (kh := .i64) (h := k) (h0 := by omega) (h2 := by omega), hS]
  simp [Result.andThen, sliced, map_add0]
theorem rdV_cut {w : World} {a : Option Addr} {len cap : Nat} {vs : List Value} (h : RdV w (.slice a len cap) vs) (n : Nat) (hn : n ≤ len) (h0 : 0 < len) : RdV w (.slice a n cap) (vs.take n) := by
  obtain ⟨⟨b, off, rfl⟩, _⟩ := (rdV_len h).2 h0
  exact rdV_take h n hn
set_option maxHeartbeats 4000000 in
set_option maxRecDepth 100000 in
theorem filesSwitch_walk (w : World) (n : Int) (wn : (Lit.int .i64 n).wf = true) (a : Option Addr) (len cap : Nat) (zs : List Int) (hz : RdV w (.slice a len cap) (zs.map (Value.int .i64))) (wz : ∀ n ∈ zs, (Lit.int .i64 n).wf = true) :
    Calls Try.prog 5 #[.int .i64 n, .slice a len cap] w fun e w' => e = .returned (.bool true) ∧ Below w.heap.size w w' := by
  clear wn wz
  have HZ := Lib.hid hz
  have hlen := (rdV_len hz).1
  rw [List.length_map] at hlen
  have HL := Lib.hid hlen
  clear hz hlen
  go_enter Try.func5, Try.ntmps5
  go_wp2_with fail
  refine (fbegun_any _).mono ?_
  rintro e w1 ⟨rfl, hb⟩
  have HB := Lib.hid hb
  clear hb
  by_cases hl : len > 5
  · have hlz : (len : Int) > 5 := by omega
    have hcap := ((rdV_len HZ.out).2 (by omega)).2
    have hsl := fun W => sl_hI W a len cap 5 (by omega)
    have HT : Hid (RdV w1 (.slice a 5 cap) ((zs.take 5).map (Value.int .i64))) := Lib.hid (by rw [List.map_take]; exact (rdV_cut HZ.out 5 (by omega) (by omega)).below HB.out)
    have htl : (zs.take 5).length ≤ 5 := by rw [List.length_take]; omega
    generalize zs.take 5 = ts at HT htl
    have hc5 : (5 : Int) ≤ (cap : Int) := by omega
    go_wp2_with fail
    refine (new_own 1000 w1).mono ?_
    rintro e v1 ⟨rfl, h1⟩
    obtain ⟨b, hb⟩ : ∃ b, w1.heap.size = b := ⟨_, rfl⟩
    have h1' : FsOwn w1 v1 b ⟨[], [], [], [], 1000, 0, none⟩ := by rw [← hb]; exact h1
    have HF1 := Lib.hid h1'
    rw [hb]
    clear h1 h1' hb
    have HA := Lib.hid (create_own HF1.out nmC (by decide) (by simp))
    rw [sw_1] at HA
    unfold nmC at HA
    go_wp2_with fail
    refine HA.out.mono ?_
    rintro e v2 ⟨rfl, hf⟩
    have HF2 := Lib.hid hf
    clear HA hf HF1
    have hcv := litW_run v2 [111, 108, 100] #[.int .u8 111, .int .u8 108, .int .u8 100] 3 rfl
    have HA := Lib.hid (append_own HF2.out (litW_below v2 [111, 108, 100]) nmC (by decide) _ [111, 108, 100] (litW_rd v2 [111, 108, 100] 3 rfl (by unfold maxLen; omega)) (fun k hk => by
      obtain rfl : v2.heap.size = k := Option.some.inj hk
      exact Nat.le_refl _) (by simp))
    rw [show ([111, 108, 100] : List UInt8) = txO from rfl, sw_2] at HA
    unfold nmC at HA
    go_wp2_with fail
    refine HA.out.mono ?_
    rintro e v3 ⟨rfl, hf⟩
    have HF3 := Lib.hid hf
    clear HA hf HF2 hcv
    have HA := Lib.hid (sync_own HF3.out nmC (by decide))
    rw [sw_3] at HA
    unfold nmC at HA
    go_wp2_with fail
    refine HA.out.mono ?_
    rintro e v4 ⟨rfl, hf⟩
    have HF4 := Lib.hid hf
    clear HA hf HF3
    have HA := Lib.hid (syncDir_own HF4.out)
    rw [sw_4] at HA
    go_wp2_with fail
    refine HA.out.mono ?_
    rintro e v5 ⟨rfl, hf⟩
    have HF5 := Lib.hid hf
    clear HA hf HF4
    have HA := Lib.hid (create_own HF5.out nmT (by decide) (by simp [sw4]))
    rw [sw_5] at HA
    unfold nmT at HA
    go_wp2_with fail
    refine HA.out.mono ?_
    rintro e v6 ⟨rfl, hf⟩
    have HF6 := Lib.hid hf
    clear HA hf HF5
    have hcv := litW_run v6 [110, 101, 119] #[.int .u8 110, .int .u8 101, .int .u8 119] 3 rfl
    have HA := Lib.hid (append_own HF6.out (litW_below v6 [110, 101, 119]) nmT (by decide) _ [110, 101, 119] (litW_rd v6 [110, 101, 119] 3 rfl (by unfold maxLen; omega)) (fun k hk => by
      obtain rfl : v6.heap.size = k := Option.some.inj hk
      exact Nat.le_refl _) (by simp))
    rw [show ([110, 101, 119] : List UInt8) = txN from rfl, sw_6] at HA
    unfold nmT at HA
    go_wp2_with fail
    refine HA.out.mono ?_
    rintro e v7 ⟨rfl, hf⟩
    have HF7 := Lib.hid hf
    clear HA hf HF6 hcv
    have HA := Lib.hid (sync_own HF7.out nmT (by decide))
    rw [sw_7] at HA
    unfold nmT at HA
    go_wp2_with fail
    refine HA.out.mono ?_
    rintro e v8 ⟨rfl, hf⟩
    have HF8 := Lib.hid hf
    clear HA hf HF7
    have HA := Lib.hid (rename_own HF8.out nmT nmC (by decide) (by decide) (by simp [sw7]))
    rw [sw_8] at HA
    unfold nmT nmC at HA
    go_wp2_with fail
    refine HA.out.mono ?_
    rintro e v9 ⟨rfl, hf⟩
    have HF9 := Lib.hid hf
    clear HA hf HF8
    go_wp2_with fail
    have HK := Lib.hid (crash_own HF9.out (Below.refl _ v9) n _ ts (HT.out.below HF9.out.blw) (by omega) (by simp [sw8]))
    refine HK.out.mono ?_
    rintro e u1 ⟨b1, rfl, h9⟩
    have HB1 := Lib.hid (HB.out.trans ((HF9.out.blw.trans (h9.blw.mono HF9.out.blw.size)).mono HB.out.size))
    by_cases hn : n < 2
    · have HR := Lib.hid (read_own h9 nmC (by decide) [111, 108, 100] 0 (sw_old hn _))
      have hn2 : ¬ n ≥ 2 := by omega
      unfold nmC at HR
      clear HK h9 HF9
      go_wp2_with fail
      refine HR.out.mono ?_
      rintro e u2 ⟨vb, rfl, ob, bb⟩
      have HB2 := Lib.hid (HB1.out.trans (bb.mono HB1.out.size))
      have htx := own_text ob
      obtain ⟨a5, l5, p5, rfl⟩ := row_form ob
      have hbe : ((⟨#[111, 108, 100]⟩ : ByteArray).toList == (⟨#[111, 108, 100]⟩ : ByteArray).toList) = true := by simp
      clear HR ob bb HB1
      go_wp2_with fail
      go_ret
      exact ⟨rfl, HB2.out⟩
    · have HR := Lib.hid (read_own h9 nmC (by decide) [110, 101, 119] 0 (sw_new (by omega) _))
      have hn2 : n ≥ 2 := by omega
      unfold nmC at HR
      clear HK h9 HF9
      go_wp2_with fail
      refine HR.out.mono ?_
      rintro e u2 ⟨vb, rfl, ob, bb⟩
      have HB2 := Lib.hid (HB1.out.trans (bb.mono HB1.out.size))
      have htx := own_text ob
      obtain ⟨a5, l5, p5, rfl⟩ := row_form ob
      have hbe : ((⟨#[110, 101, 119]⟩ : ByteArray).toList == (⟨#[110, 101, 119]⟩ : ByteArray).toList) = true := by simp
      clear HR ob bb HB1
      go_wp2_with fail
      go_ret
      exact ⟨rfl, HB2.out⟩
  · have hlz : ¬ (len : Int) > 5 := by omega
    have HT : Hid (RdV w1 (.slice a len cap) (zs.map (Value.int .i64))) := Lib.hid (HZ.out.below HB.out)
    have htl : zs.length ≤ 5 := by have := HL.out; omega
    go_wp2_with fail
    refine (new_own 1000 w1).mono ?_
    rintro e v1 ⟨rfl, h1⟩
    obtain ⟨b, hb⟩ : ∃ b, w1.heap.size = b := ⟨_, rfl⟩
    have h1' : FsOwn w1 v1 b ⟨[], [], [], [], 1000, 0, none⟩ := by rw [← hb]; exact h1
    have HF1 := Lib.hid h1'
    rw [hb]
    clear h1 h1' hb
    have HA := Lib.hid (create_own HF1.out nmC (by decide) (by simp))
    rw [sw_1] at HA
    unfold nmC at HA
    go_wp2_with fail
    refine HA.out.mono ?_
    rintro e v2 ⟨rfl, hf⟩
    have HF2 := Lib.hid hf
    clear HA hf HF1
    have hcv := litW_run v2 [111, 108, 100] #[.int .u8 111, .int .u8 108, .int .u8 100] 3 rfl
    have HA := Lib.hid (append_own HF2.out (litW_below v2 [111, 108, 100]) nmC (by decide) _ [111, 108, 100] (litW_rd v2 [111, 108, 100] 3 rfl (by unfold maxLen; omega)) (fun k hk => by
      obtain rfl : v2.heap.size = k := Option.some.inj hk
      exact Nat.le_refl _) (by simp))
    rw [show ([111, 108, 100] : List UInt8) = txO from rfl, sw_2] at HA
    unfold nmC at HA
    go_wp2_with fail
    refine HA.out.mono ?_
    rintro e v3 ⟨rfl, hf⟩
    have HF3 := Lib.hid hf
    clear HA hf HF2 hcv
    have HA := Lib.hid (sync_own HF3.out nmC (by decide))
    rw [sw_3] at HA
    unfold nmC at HA
    go_wp2_with fail
    refine HA.out.mono ?_
    rintro e v4 ⟨rfl, hf⟩
    have HF4 := Lib.hid hf
    clear HA hf HF3
    have HA := Lib.hid (syncDir_own HF4.out)
    rw [sw_4] at HA
    go_wp2_with fail
    refine HA.out.mono ?_
    rintro e v5 ⟨rfl, hf⟩
    have HF5 := Lib.hid hf
    clear HA hf HF4
    have HA := Lib.hid (create_own HF5.out nmT (by decide) (by simp [sw4]))
    rw [sw_5] at HA
    unfold nmT at HA
    go_wp2_with fail
    refine HA.out.mono ?_
    rintro e v6 ⟨rfl, hf⟩
    have HF6 := Lib.hid hf
    clear HA hf HF5
    have hcv := litW_run v6 [110, 101, 119] #[.int .u8 110, .int .u8 101, .int .u8 119] 3 rfl
    have HA := Lib.hid (append_own HF6.out (litW_below v6 [110, 101, 119]) nmT (by decide) _ [110, 101, 119] (litW_rd v6 [110, 101, 119] 3 rfl (by unfold maxLen; omega)) (fun k hk => by
      obtain rfl : v6.heap.size = k := Option.some.inj hk
      exact Nat.le_refl _) (by simp))
    rw [show ([110, 101, 119] : List UInt8) = txN from rfl, sw_6] at HA
    unfold nmT at HA
    go_wp2_with fail
    refine HA.out.mono ?_
    rintro e v7 ⟨rfl, hf⟩
    have HF7 := Lib.hid hf
    clear HA hf HF6 hcv
    have HA := Lib.hid (sync_own HF7.out nmT (by decide))
    rw [sw_7] at HA
    unfold nmT at HA
    go_wp2_with fail
    refine HA.out.mono ?_
    rintro e v8 ⟨rfl, hf⟩
    have HF8 := Lib.hid hf
    clear HA hf HF7
    have HA := Lib.hid (rename_own HF8.out nmT nmC (by decide) (by decide) (by simp [sw7]))
    rw [sw_8] at HA
    unfold nmT nmC at HA
    go_wp2_with fail
    refine HA.out.mono ?_
    rintro e v9 ⟨rfl, hf⟩
    have HF9 := Lib.hid hf
    clear HA hf HF8
    go_wp2_with fail
    have HK := Lib.hid (crash_own HF9.out (Below.refl _ v9) n _ zs (HT.out.below HF9.out.blw) (by omega) (by simp [sw8]))
    refine HK.out.mono ?_
    rintro e u1 ⟨b1, rfl, h9⟩
    have HB1 := Lib.hid (HB.out.trans ((HF9.out.blw.trans (h9.blw.mono HF9.out.blw.size)).mono HB.out.size))
    by_cases hn : n < 2
    · have HR := Lib.hid (read_own h9 nmC (by decide) [111, 108, 100] 0 (sw_old hn _))
      have hn2 : ¬ n ≥ 2 := by omega
      unfold nmC at HR
      clear HK h9 HF9
      go_wp2_with fail
      refine HR.out.mono ?_
      rintro e u2 ⟨vb, rfl, ob, bb⟩
      have HB2 := Lib.hid (HB1.out.trans (bb.mono HB1.out.size))
      have htx := own_text ob
      obtain ⟨a5, l5, p5, rfl⟩ := row_form ob
      have hbe : ((⟨#[111, 108, 100]⟩ : ByteArray).toList == (⟨#[111, 108, 100]⟩ : ByteArray).toList) = true := by simp
      clear HR ob bb HB1
      go_wp2_with fail
      go_ret
      exact ⟨rfl, HB2.out⟩
    · have HR := Lib.hid (read_own h9 nmC (by decide) [110, 101, 119] 0 (sw_new (by omega) _))
      have hn2 : n ≥ 2 := by omega
      unfold nmC at HR
      clear HK h9 HF9
      go_wp2_with fail
      refine HR.out.mono ?_
      rintro e u2 ⟨vb, rfl, ob, bb⟩
      have HB2 := Lib.hid (HB1.out.trans (bb.mono HB1.out.size))
      have htx := own_text ob
      obtain ⟨a5, l5, p5, rfl⟩ := row_form ob
      have hbe : ((⟨#[110, 101, 119]⟩ : ByteArray).toList == (⟨#[110, 101, 119]⟩ : ByteArray).toList) = true := by simp
      clear HR ob bb HB1
      go_wp2_with fail
      go_ret
      exact ⟨rfl, HB2.out⟩
end Go.Proofs.Ytgeofgdhlbmciaa
