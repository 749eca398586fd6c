/- The walk of the law UtfWrite. -/
import Derived.Test.YtcgknggmbfnpeaaUtfLaw1
import Derived.Test.YtcgknggmbfnpeaaUtfMore
import Derived.Deep.QuietTactic
import Derived.BigQuiet
import Derived.Deep.DeepCutAuto
import Derived.Deep.CutBlock
namespace Go.Proofs.Ytcgknggmbfnpeaa
set_option linter.unusedVariables false
open Go.RowKit
theorem write_len (xs : List Int) : ∀ bs, writeP xs = some bs → bs.length ≤ 4 * xs.length := by
  induction xs with
  | nil => intro bs h; simp [writeP] at h; subst h; simp
  | cons c xs ih =>
    intro bs h
    unfold writeP at h
    split at h
    · obtain ⟨ys, hy, rfl⟩ := Option.map_eq_some_iff.1 h
      have := ih ys hy
      have := enc_le c
      simp only [List.length_append, List.length_cons]; omega
    · cases h
theorem WriteRes.cases {w w' : World} {r : Option (List UInt8)} {e : Ending} (h : WriteRes w r e w') : e = .returned (.tuple #[.string ⟨(r.getD []).toArray⟩, .bool r.isSome]) ∧ Below w.heap.size w w' := by
  obtain ⟨hb, h⟩ := h
  cases r with
  | none => exact ⟨h, hb⟩
  | some xs => exact ⟨h, hb⟩
theorem RdI.take {w : World} {b off len cap : Nat} {xs : List Int} (h : RdI w (.slice (some ⟨b, off, none⟩) len cap) xs) (n : Nat) (hn : n ≤ len) : RdI w (.slice (some ⟨b, off, none⟩) n cap) (xs.take n) := by
  have hlen : len = xs.length := by
    rcases h with ⟨a, c, h1, h2⟩ | ⟨b', off', c, h1, -⟩
    · simp only [Value.slice.injEq] at h1; simp only [List.map_eq_nil_iff] at h2; rw [h1.2.1, h2]; rfl
    · simp only [Value.slice.injEq] at h1; rw [h1.2.1, List.length_map]
  subst hlen
  rcases Nat.eq_zero_or_pos n with h0 | h0
  · subst h0; exact .inl ⟨_, cap, rfl, by simp⟩
  · rcases h.cases with ⟨a, c, h1, h2⟩ | ⟨b', off', c, h1, h2, h3, h4, h5, h6⟩
    · subst h2; simp at hn; omega
    · simp only [Value.slice.injEq, Option.some.injEq, Addr.mk.injEq] at h1
      obtain ⟨⟨rfl, rfl, -⟩, -, rfl⟩ := h1
      have hl2 : ((xs.take n).map (Value.int .i64)).length = n := by rw [List.length_map, List.length_take]; omega
      refine .inr ⟨b, off, cap, by rw [hl2], by omega, by omega, h4, h5, fun i hi => ?_⟩
      rw [hl2] at hi
      rw [h6 i (by omega), List.getD_eq_getElem?_getD, List.getD_eq_getElem?_getD, List.getElem?_map, List.getElem?_take, if_pos hi, List.getElem?_eq_getElem (by omega)]
      rfl
/-- a slice that is cut to n elements where it has more -/
theorem RdI.form {w : World} {a : Option Addr} {len cap : Nat} {xs : List Int} (h : RdI w (.slice a len cap) xs) (n : Nat) (hn : n < len) : len = xs.length ∧ ∃ b off, a = some ⟨b, off, none⟩ := by
  rcases h with ⟨a, c, h1, h2⟩ | ⟨b', off', c, h1, -⟩
  · simp only [Value.slice.injEq] at h1; omega
  · simp only [Value.slice.injEq] at h1; exact ⟨by rw [h1.2.1, List.length_map], _, _, h1.1⟩
theorem RdI.len {w : World} {a : Option Addr} {len cap : Nat} {xs : List Int} (h : RdI w (.slice a len cap) xs) : len = xs.length := by
  rcases h with ⟨a, c, h1, h2⟩ | ⟨b', off', c, h1, -⟩
  · simp only [Value.slice.injEq] at h1; simp only [List.map_eq_nil_iff] at h2; rw [h1.2.1, h2]; rfl
  · simp only [Value.slice.injEq] at h1; rw [h1.2.1, List.length_map]
theorem RdI.cap {w : World} {a : Option Addr} {len cap : Nat} {xs : List Int} (h : RdI w (.slice a len cap) xs) (h0 : 0 < len) : len ≤ cap ∧ cap ≤ maxLen := by
  rcases h with ⟨a, c, h1, h2⟩ | ⟨b', off', c, h1, h2, h3, h4, -⟩
  · simp only [Value.slice.injEq] at h1; omega
  · simp only [Value.slice.injEq] at h1; obtain ⟨-, e1, e2⟩ := h1; subst e1 e2; exact ⟨h3, h4⟩
set_option maxHeartbeats 1000000 in
set_option maxRecDepth 100000 in
theorem utfWrite_walk (w : World) (a : Option Addr) (len cap : Nat) (zs : List Int) (hz : RdI w (.slice a len cap) zs) (_hw : ∀ n ∈ zs, (Lit.int .i64 n).wf = true) :
    Calls Try.prog 4 #[.slice a len cap] w fun e w' => e = .returned (.bool true) ∧ Below w.heap.size w w' := by
  have HZ := Lib.hid hz
  go_enter Try.func4, Try.ntmps4
  go_wp2_with fail
  refine (begun_any _).mono ?_
  rintro e w1 ⟨rfl, hb1⟩
  have HZ1 : Hid (RdI w1 (.slice a len cap) zs) := Lib.hid (hz.below hb1)
  clear hz HZ
  go_upto_if 16 with fail
  go_cut [0] (fun l wx => ∃ xs a len cap, l = .slice a len cap ∧ RdI wx l xs ∧ xs.length ≤ 60 ∧ w1 = wx)
  case first =>
    by_cases h60 : 60 < len
    · obtain ⟨hl, b, off, rfl⟩ := HZ1.out.form 60 h60
      obtain ⟨hc1, hc2⟩ := HZ1.out.cap (by omega)
      have HT : Hid (RdI w1 (.slice (some ⟨b, off, none⟩) 60 cap) (zs.take 60)) := Lib.hid (HZ1.out.take 60 (by omega))
      clear hl hc2
      have hc60 : (60 : Int) ≤ (cap : Int) := by omega
      go_wp2_with fail
      go_meet
      exact ⟨zs.take 60, _, _, _, rfl, HT.out, by rw [List.length_take]; omega, rfl⟩
    · have hl := HZ1.out.len
      go_wp2_with fail
      go_meet
      exact ⟨zs, _, _, _, rfl, HZ1.out, by omega, rfl⟩
  case rest =>
    obtain ⟨xs, a', len', cap', rfl, hx, hx60, rfl⟩ := hcut
    clear HZ1
    have HA : Hid (∀ w', w' = w1 → Calls Try.prog 16 #[.slice a' len' cap'] w' (WriteRes w' (writeP xs))) := Lib.hid fun w' e => by subst e; exact write_any _ xs (by omega) _ hx
    have HB : Hid (∀ w', Below w1.heap.size w1 w' → Calls Try.prog 17 #[.slice a' len' cap'] w' (WriteRes w' (writeP xs))) := Lib.hid fun w' hb => rwrite_any _ xs (by omega) _ (hx.below hb)
    have HX := Lib.hid hx
    have HLEN := Lib.hid hx.len
    have hl60 : len' ≤ 60 := by have := HLEN.out; omega
    clear hx
    go_wp2_with fail
    refine (HA.out _ rfl).mono ?_
    intro e w2 hr
    obtain ⟨rfl, hb2⟩ := hr.cases
    clear hr
    go_wp2_with fail
    refine (HB.out _ hb2).mono ?_
    intro e w3 hr
    obtain ⟨rfl, hb3⟩ := hr.cases
    clear hr HA HB
    have HX3 : Hid (RdI w3 (.slice a' len' cap') xs) := Lib.hid ((HX.out.below hb2).below hb3)
    have hb13 := (hb1.trans (hb2.mono hb1.size)).trans (hb3.mono (Nat.le_trans hb1.size hb2.size))
    clear hb1 hb2 hb3 HX
    go_wp2_with fail
    have HRD : Hid (∀ bs, writeP xs = some bs → readP bs = some xs) := Lib.hid (read_write' xs)
    go_loopw [8] (fun i wr => ∃ (k : Nat), i = .int .i64 k ∧ k ≤ len' ∧ DrN w3 wr) (fun i _ => len' - (intOf i).toNat)
    case atStart => exact ⟨0, rfl, Nat.zero_le _, DrN.refl _⟩
    case round =>
      obtain ⟨k, rfl, hk, hdr⟩ := hrel
      by_cases hlt : k < len'
      · obtain ⟨b, off, ha, hc⟩ : ∃ b off, a' = some ⟨b, off, none⟩ ∧ wr.cell? ⟨b, off + k, none⟩ = some (.int .i64 (xs.getD k 0)) := by
          rcases HX3.out.cases with ⟨a, c, h1, h2⟩ | ⟨b', off', c, h1, h2, h3, h4, h5, h6⟩
          · simp only [Value.slice.injEq] at h1; omega
          · simp only [Value.slice.injEq] at h1
            exact ⟨b', off', h1.1, by rw [hdr.cell]; exact h6 k (by omega)⟩
        subst ha
        generalize xs.getD k 0 = x at *
        have h0k : (0 : Int) ≤ (k : Int) := by omega
        have hkn : (k : Int) < (len' : Int) := by omega
        have hvv : (vldB x != vldB x) = false := by simp
        go_wp2_with fail
        go_quiet ((first | (go_at_call 18; exact Calls.quiet_of_same ((valid_any _ _).mono fun e w' hh => ⟨hh.1, hh.2.symm⟩)) | (go_at_call 19; exact Calls.quiet_of_same ((rvalid_any _ _).mono fun e w' hh => ⟨hh.1, hh.2.symm⟩))))
        go_wp2
        go_roundw
        case rel => exact ⟨k + 1, by go_num, hlt, hdr.more _⟩
        case measure => simp [intOf]; omega
      · obtain rfl : k = len' := by omega
        have hd0 := hdr.below w.heap.size
        cases hq : writeP xs with
        | none =>
          have HQ := Lib.hid hq
          clear hq
          go_wp2
          go_ret
          exact ⟨rfl, hb13.trans hd0⟩
        | some bs =>
          have hbl := write_len xs bs hq
          have HRR : Hid (∀ w, Calls Try.prog 11 #[.string ⟨bs.toArray⟩] w (ReadRes w (some xs))) := Lib.hid fun w => by
            have := read_any ⟨bs.toArray⟩ (by show bs.toArray.size ≤ 1000000; rw [List.size_toArray]; omega) w
            rw [HRD.out bs hq] at this; exact this
          have HQ := Lib.hid hq
          clear hq
          go_wp2_with fail
          refine (HRR.out _).mono ?_
          intro e w5 hr
          obtain ⟨v, rfl, hv, hb5⟩ := hr.cases
          clear hr
          have HI : Hid (∀ w, w = w5 → Calls Try.prog 15 #[.slice a' k cap', v] w (IntsRes w true)) := Lib.hid fun w e => by
            subst e
            have := ints_any (.slice a' k cap') v xs xs (by omega) (by omega) _ ((HX3.out.below (hdr.below _)).below hb5) hv
            rwa [decide_eq_true rfl] at this
          have hbb := (hb13.trans hd0).trans (hb5.mono (Nat.le_trans hb13.size (hdr.below 0).size))
          have hee : ((bs == bs) : Bool) = true := by simp
          clear hv hb5 hd0 hb13
          go_wp2_with (go_at_call 15; refine (HI.out _ rfl).mono ?_; rintro e w6 ⟨rfl, m, rfl⟩)
          go_ret
          exact ⟨rfl, below_drewN hbb _⟩
end Go.Proofs.Ytcgknggmbfnpeaa
