/- The laws of numbers: their begun and the law NumbersAll. -/
import Derived.Test.YtjhkgpjefdndaaaNumText
import Derived.Test.YtjhkgpjefdndaaaTake
import Derived.Test.YtjhkgpjefdndaaaCutLaw
import Derived.Deep.RegionHeld3
namespace Go.Proofs.Ytjhkgpjefdndaaa
set_option linter.unusedVariables false
open Go.RowKit
theorem fix4_mod (n : Nat) : fixN 4 (n % 4294967296) = fixN 4 n := by
  simp only [fixN]
  have h1 : n % 4294967296 % 256 = n % 256 := by omega
  have h2 : n % 4294967296 / 256 % 256 = n / 256 % 256 := by omega
  have h3 : n % 4294967296 / 256 / 256 % 256 = n / 256 / 256 % 256 := by omega
  have h4 : n % 4294967296 / 256 / 256 / 256 % 256 = n / 256 / 256 / 256 % 256 := by omega
  rw [h1, h2, h3, h4]
theorem unfK_fix (K n : Nat) (h : n < 256 ^ K) : unfK K (fixN K n) = n := by
  unfold unfK
  rw [if_pos (by rw [fixN_len]; exact Nat.le_refl _), List.take_of_length_le (by rw [fixN_len]; exact Nat.le_refl _), unf_fix K n h]
theorem get_put0 {n : Nat} (h : n < 2 ^ 64) : getN (putN n) = some (n, (putN n).length) := by
  have := get_put h []
  rwa [List.append_nil] at this

set_option maxHeartbeats 4000000 in
set_option maxRecDepth 100000 in
theorem vbegun_any (w : World) : Calls Try.prog 7 #[] w fun e w' => e = .returned (.bool true) ∧ Below w.heap.size w w' := by
  have HP : Hid (∀ w, Calls Try.prog 9 #[.int .u64 300] w (MkB (putN 300) w)) := Lib.hid (put_any 300 (by decide))
  have HG : Hid (∀ v w, RdB w v (putN 300) → Calls Try.prog 10 #[v] w (GetRes (some (300, 2)) w)) := Lib.hid fun v w h => by
    have := get_any v _ w h
    rwa [get_put0 (by decide)] at this
  have HT : Hid (∀ w, Calls Try.prog 17 #[.string ⟨#[97, 98]⟩] w (MkB (textE [97, 98]) w)) := Lib.hid (text_put ⟨#[97, 98]⟩ (by decide))
  have HGT : Hid (∀ v w, RdB w v (textE [97, 98]) → Calls Try.prog 21 #[v] w (TxtRes (some ([97, 98], 3)) w)) := Lib.hid fun v w h => by
    have := gettext_any v _ w h
    have e := getT_text [97, 98] [] (by decide)
    rw [List.append_nil] at e
    rwa [e] at this
  have HP4 : Hid (∀ w, Calls Try.prog 12 #[.int .u32 7] w (MkB (fixN 4 7) w)) := Lib.hid (put32_any 7 (by decide))
  have HG4 : Hid (∀ v w, RdB w v (fixN 4 7) → Calls Try.prog 16 #[v] w fun e w' => e = .returned (.int .u32 7) ∧ w = w') := Lib.hid fun v w h => by
    have := get32_any v _ w h
    rwa [unfK_fix 4 7 (by decide)] at this
  have HP8 : Hid (∀ w, Calls Try.prog 14 #[.int .u64 1152921504606846976] w (MkB (fixN 8 1152921504606846976) w)) := Lib.hid (put64_any 1152921504606846976 (by decide))
  have HG8 : Hid (∀ v w, RdB w v (fixN 8 1152921504606846976) → Calls Try.prog 15 #[v] w fun e w' => e = .returned (.int .u64 1152921504606846976) ∧ w = w') := Lib.hid fun v w h => by
    have := get64_any v _ w h
    rwa [unfK_fix 8 1152921504606846976 (by decide)] at this
  generalize putN 300 = P at *
  generalize textE [97, 98] = T at *
  generalize fixN 4 7 = F4 at *
  generalize fixN 8 1152921504606846976 = F8 at *
  go_enter Try.func7, Try.ntmps7
  have B : Below w.heap.size w w := Below.refl _ _
  go_wp2_with fail
  refine (HP.out _).mono ?_
  rintro e w1 ⟨v1, rfl, o1, b1⟩
  replace B := B.trans (b1.mono B.size)
  go_wp2_with fail
  refine (HG.out _ _ o1.rd).mono ?_
  rintro e w' ⟨rfl, rfl⟩
  clear o1 b1 HP HG
  unfold numRes
  go_wp2_with fail
  refine (HT.out _).mono ?_
  rintro e w2 ⟨v2, rfl, o2, b2⟩
  replace B := B.trans (b2.mono B.size)
  go_wp2_with fail
  refine (HGT.out _ _ o2.rd).mono ?_
  rintro e w' ⟨rfl, rfl⟩
  clear o2 b2 HT HGT
  unfold txtRes
  go_wp2_with fail
  refine (HP4.out _).mono ?_
  rintro e w3 ⟨v3, rfl, o3, b3⟩
  replace B := B.trans (b3.mono B.size)
  go_wp2_with fail
  refine (HG4.out _ _ o3.rd).mono ?_
  rintro e w' ⟨rfl, rfl⟩
  clear o3 b3 HP4 HG4
  go_wp2_with fail
  refine (HP8.out _).mono ?_
  rintro e w4 ⟨v4, rfl, o4, b4⟩
  replace B := B.trans (b4.mono B.size)
  go_wp2_with fail
  refine (HG8.out _ _ o4.rd).mono ?_
  rintro e w' ⟨rfl, rfl⟩
  clear o4 b4 HP8 HG8
  go_wp2_with fail
  go_ret
  exact ⟨rfl, B⟩

theorem u64_of {z : Int} (h : (Lit.int .u64 z).wf = true) : ∃ n : Nat, z = (n : Int) ∧ n < 2 ^ 64 := by
  simp [Lit.wf, IntKind.min, IntKind.max, IntKind.signed, IntKind.bits] at h
  exact ⟨z.toNat, by omega, by omega⟩
set_option maxHeartbeats 8000000 in
set_option maxRecDepth 100000 in
theorem numbersAll_walk (w : World) (z : Int) (hz : (Lit.int .u64 z).wf = true) (s : ByteArray) (hs : s.size ≤ maxLen) :
    Calls Try.prog 3 #[.int .u64 z, .string s] w fun e w' => e = .returned (.bool true) ∧ Below w.heap.size w w' := by
  obtain ⟨n, rfl, hn⟩ := u64_of hz
  obtain ⟨t, ht, hcut⟩ := cut_fix s 200 (by omega) hs
  have HCut := Lib.hid hcut
  have HP : Hid (∀ w, Calls Try.prog 9 #[.int .u64 (n : Int)] w (MkB (putN n) w)) := Lib.hid (put_any n hn)
  have HRP : Hid (∀ w, Calls Try.prog 11 #[.int .u64 (n : Int)] w (MkB (putN n) w)) := Lib.hid (rput_any n hn)
  have HG : Hid (∀ v w, RdB w v (putN n) → Calls Try.prog 10 #[v] w (GetRes (some (n, (putN n).length)) w)) := Lib.hid fun v w h => by
    have := get_any v _ w h
    rwa [get_put0 hn] at this
  have HRF4 : Hid (∀ w, Calls Try.prog 13 #[.int .u64 (n : Int), .int .i64 4] w (MkB (fixN 4 n) w)) := Lib.hid (rfixed_any n hn 4 (by omega))
  have HRF8 : Hid (∀ w, Calls Try.prog 13 #[.int .u64 (n : Int), .int .i64 8] w (MkB (fixN 8 n) w)) := Lib.hid (rfixed_any n hn 8 (by omega))
  obtain ⟨m, hm⟩ : ∃ m : Nat, n % 4294967296 = m := ⟨_, rfl⟩
  have hm4 : m < 2 ^ 32 := by omega
  have hmz : IntKind.u32.wrap (n : Int) = (m : Int) := by rw [IntKind.wrap_u32]; omega
  have HP4 : Hid (∀ w, Calls Try.prog 12 #[.int .u32 (m : Int)] w (MkB (fixN 4 n) w)) := Lib.hid fun w => by
    have := put32_any m hm4 w
    rwa [← hm, fix4_mod, hm] at this
  have HG4 : Hid (∀ v w, RdB w v (fixN 4 n) → Calls Try.prog 16 #[v] w fun e w' => e = .returned (.int .u32 (m : Int)) ∧ w = w') := Lib.hid fun v w h => by
    have := get32_any v _ w h
    have e : fixN 4 m = fixN 4 n := by rw [← hm, fix4_mod]
    rwa [← e, unfK_fix 4 m hm4] at this
  have HP8 : Hid (∀ w, Calls Try.prog 14 #[.int .u64 (n : Int)] w (MkB (fixN 8 n) w)) := Lib.hid (put64_any n hn)
  have HG8 : Hid (∀ v w, RdB w v (fixN 8 n) → Calls Try.prog 15 #[v] w fun e w' => e = .returned (.int .u64 (n : Int)) ∧ w = w') := Lib.hid fun v w h => by
    have := get64_any v _ w h
    rwa [unfK_fix 8 n hn] at this
  have HT : Hid (∀ w, Calls Try.prog 17 #[.string t] w (MkB (textE t.data.toList) w)) := Lib.hid (text_put t (by omega))
  have HRT : Hid (∀ w, Calls Try.prog 18 #[.string t] w (MkB (textE t.data.toList) w)) := Lib.hid (rtext_put t (by omega))
  have hn2 : n < 18446744073709551616 := by omega
  have hm2 : m < 4294967296 := by omega
  clear hz hs ht hcut hm hn hm4
  generalize putN n = P at *
  generalize textE t.data.toList = T at *
  generalize fixN 4 n = F4 at *
  generalize fixN 8 n = F8 at *
  go_enter Try.func3, Try.ntmps3
  have B : Below w.heap.size w w := Below.refl _ _
  go_wp2_with fail
  refine (vbegun_any _).mono ?_
  rintro e w1 ⟨rfl, b1⟩
  replace B := B.trans (b1.mono B.size)
  go_wp2_with fail
  refine (HCut.out _).mono ?_
  rintro e w' ⟨rfl, rfl⟩
  go_wp2_with fail
  refine (HP.out _).mono ?_
  rintro e w2 ⟨v2, rfl, o2, b2⟩
  replace B := B.trans (b2.mono B.size)
  go_wp2_with fail
  refine (HG.out _ _ o2.rd).mono ?_
  rintro e w' ⟨rfl, rfl⟩
  unfold numRes
  clear b1 b2 HP HG HCut
  obtain ⟨a2, l2, c2, rfl, hl2, -⟩ := o2.form
  subst hl2
  have hPP : ((⟨P.toArray⟩ : ByteArray).toList == (⟨P.toArray⟩ : ByteArray).toList) = true := by simp
  have hF4 : ((⟨F4.toArray⟩ : ByteArray).toList == (⟨F4.toArray⟩ : ByteArray).toList) = true := by simp
  have hF8 : ((⟨F8.toArray⟩ : ByteArray).toList == (⟨F8.toArray⟩ : ByteArray).toList) = true := by simp
  have hTT : ((⟨T.toArray⟩ : ByteArray).toList == (⟨T.toArray⟩ : ByteArray).toList) = true := by simp
  go_wp2_with fail

  refine wp_region_held_drew (S := Below w2.heap.size w2) (by kernel_rfl) (Below.refl _ _).drew (fun hHeld => ?_)
  generalize w2.drew = wd20 at hHeld ⊢
  refine wpAnyH_shift hHeld ?_
  replace B : Below w.heap.size w wd20 := B.trans (hHeld.mono B.size)
  replace o2 := o2.below hHeld
  clear hHeld
  refine takeYes (i := 0) (k := 21) (v := .slice a2 P.length c2) rfl (by kernel_rfl) (by kernel_rfl) (by kernel_rfl) (by kernel_rfl) (fun _ _ _ h => h) (by kernel_rfl) ?_ (Below.refl _ _) ?_
  · intro W hSw; first | (go_simp; done) | go_simp
  try simp only [Act.put, List.setIfInBounds_toArray, List.set_cons_zero, List.set_cons_succ]
  refine takeYes (i := 1) (k := 22) (v := .string ⟨P.toArray⟩) rfl (by kernel_rfl) (by kernel_rfl) (by kernel_rfl) (by kernel_rfl) (fun _ _ _ h => h) (by kernel_rfl) ?_ (Below.refl _ _) ?_
  · intro W hSw; have hcv := (o2.below hSw).rd.text; first | (go_simp; done) | go_simp
  try simp only [Act.put, List.setIfInBounds_toArray, List.set_cons_zero, List.set_cons_succ]
  refine takeYes (i := 2) (k := 23) (v := .int .u64 (n : Int)) rfl (by kernel_rfl) (by kernel_rfl) (by kernel_rfl) (by kernel_rfl) (fun _ _ _ h => h) (by kernel_rfl) ?_ (Below.refl _ _) ?_
  · intro W hSw; first | (go_simp; done) | go_simp
  try simp only [Act.put, List.setIfInBounds_toArray, List.set_cons_zero, List.set_cons_succ]
  refine wpAnyH_ready (rs := [3]) (by kernel_rfl) (by simp) (AllReadyH.cons rfl (fun K hK => ?_) AllReadyH.nil)
  go_simp
  refine (HRP.out _).mono ?_
  rintro e wd21 ⟨v3, rfl, o3, hb21⟩
  refine hK.out _ _ hb21 (fun _ => wpAnyH_shift hb21 ?_)
  clear hK K
  replace B : Below w.heap.size w wd21 := B.trans (hb21.mono B.size)
  replace o2 := o2.below hb21
  clear hb21
  try simp only [Act.put, List.setIfInBounds_toArray, List.set_cons_zero, List.set_cons_succ]
  refine takeYes (i := 4) (k := 25) (v := .string ⟨P.toArray⟩) rfl (by kernel_rfl) (by kernel_rfl) (by kernel_rfl) (by kernel_rfl) (fun _ _ _ h => h) (by kernel_rfl) ?_ (Below.refl _ _) ?_
  · intro W hSw; have hcv := (o3.below hSw).rd.text; first | (go_simp; done) | go_simp
  try simp only [Act.put, List.setIfInBounds_toArray, List.set_cons_zero, List.set_cons_succ]
  refine takeYes (i := 5) (k := 26) (v := .bool true) rfl (by kernel_rfl) (by kernel_rfl) (by kernel_rfl) (by kernel_rfl) (fun _ _ _ h => h) (by kernel_rfl) ?_ (Below.refl _ _) ?_
  · intro W hSw; first | (go_simp; done) | go_simp
  try simp only [Act.put, List.setIfInBounds_toArray, List.set_cons_zero, List.set_cons_succ]
  refine takeYes (i := 6) (k := 27) (v := .bool true) rfl (by kernel_rfl) (by kernel_rfl) (by kernel_rfl) (by kernel_rfl) (fun _ _ _ h => h) (by kernel_rfl) ?_ (Below.refl _ _) ?_
  · intro W hSw; first | (go_simp; done) | go_simp
  try simp only [Act.put, List.setIfInBounds_toArray, List.set_cons_zero, List.set_cons_succ]
  refine takeYes (i := 7) (k := 28) (v := .int .u64 (n : Int)) rfl (by kernel_rfl) (by kernel_rfl) (by kernel_rfl) (by kernel_rfl) (fun _ _ _ h => h) (by kernel_rfl) ?_ (Below.refl _ _) ?_
  · intro W hSw; first | (go_simp; done) | go_simp
  try simp only [Act.put, List.setIfInBounds_toArray, List.set_cons_zero, List.set_cons_succ]
  refine takeYes (i := 8) (k := 29) (v := .int .u64 (n : Int)) rfl (by kernel_rfl) (by kernel_rfl) (by kernel_rfl) (by kernel_rfl) (fun _ _ _ h => h) (by kernel_rfl) ?_ (Below.refl _ _) ?_
  · intro W hSw; first | (go_simp; done) | go_simp
  try simp only [Act.put, List.setIfInBounds_toArray, List.set_cons_zero, List.set_cons_succ]
  refine takeYes (i := 9) (k := 30) (v := .bool true) rfl (by kernel_rfl) (by kernel_rfl) (by kernel_rfl) (by kernel_rfl) (fun _ _ _ h => h) (by kernel_rfl) ?_ (Below.refl _ _) ?_
  · intro W hSw; first | (go_simp; done) | go_simp
  try simp only [Act.put, List.setIfInBounds_toArray, List.set_cons_zero, List.set_cons_succ]
  refine takeYes (i := 10) (k := 31) (v := .bool true) rfl (by kernel_rfl) (by kernel_rfl) (by kernel_rfl) (by kernel_rfl) (fun _ _ _ h => h) (by kernel_rfl) ?_ (Below.refl _ _) ?_
  · intro W hSw; first | (go_simp; done) | go_simp
  try simp only [Act.put, List.setIfInBounds_toArray, List.set_cons_zero, List.set_cons_succ]
  refine takeYes (i := 11) (k := 32) (v := .bool true) rfl (by kernel_rfl) (by kernel_rfl) (by kernel_rfl) (by kernel_rfl) (fun _ _ _ h => h) (by kernel_rfl) ?_ (Below.refl _ _) ?_
  · intro W hSw; first | (go_simp; done) | go_simp
  try simp only [Act.put, List.setIfInBounds_toArray, List.set_cons_zero, List.set_cons_succ]
  refine takeYes (i := 12) (k := 33) (v := .int .i64 (P.length : Int)) rfl (by kernel_rfl) (by kernel_rfl) (by kernel_rfl) (by kernel_rfl) (fun _ _ _ h => h) (by kernel_rfl) ?_ (Below.refl _ _) ?_
  · intro W hSw; first | (go_simp; done) | go_simp
  try simp only [Act.put, List.setIfInBounds_toArray, List.set_cons_zero, List.set_cons_succ]
  refine takeYes (i := 13) (k := 34) (v := .slice a2 P.length c2) rfl (by kernel_rfl) (by kernel_rfl) (by kernel_rfl) (by kernel_rfl) (fun _ _ _ h => h) (by kernel_rfl) ?_ (Below.refl _ _) ?_
  · intro W hSw; first | (go_simp; done) | go_simp
  try simp only [Act.put, List.setIfInBounds_toArray, List.set_cons_zero, List.set_cons_succ]
  refine takeYes (i := 14) (k := 35) (v := .int .i64 (P.length : Int)) rfl (by kernel_rfl) (by kernel_rfl) (by kernel_rfl) (by kernel_rfl) (fun _ _ _ h => h) (by kernel_rfl) ?_ (Below.refl _ _) ?_
  · intro W hSw; first | (go_simp; done) | go_simp
  try simp only [Act.put, List.setIfInBounds_toArray, List.set_cons_zero, List.set_cons_succ]
  refine takeYes (i := 15) (k := 36) (v := .bool true) rfl (by kernel_rfl) (by kernel_rfl) (by kernel_rfl) (by kernel_rfl) (fun _ _ _ h => h) (by kernel_rfl) ?_ (Below.refl _ _) ?_
  · intro W hSw; first | (go_simp; done) | go_simp
  try simp only [Act.put, List.setIfInBounds_toArray, List.set_cons_zero, List.set_cons_succ]
  refine takeYes (i := 16) (k := 37) (v := .bool true) rfl (by kernel_rfl) (by kernel_rfl) (by kernel_rfl) (by kernel_rfl) (fun _ _ _ h => h) (by kernel_rfl) ?_ (Below.refl _ _) ?_
  · intro W hSw; first | (go_simp; done) | go_simp
  try simp only [Act.put, List.setIfInBounds_toArray, List.set_cons_zero, List.set_cons_succ]
  refine takeYes (i := 17) (k := 38) (v := .bool true) rfl (by kernel_rfl) (by kernel_rfl) (by kernel_rfl) (by kernel_rfl) (fun _ _ _ h => h) (by kernel_rfl) ?_ (Below.refl _ _) ?_
  · intro W hSw; first | (go_simp; done) | go_simp
  try simp only [Act.put, List.setIfInBounds_toArray, List.set_cons_zero, List.set_cons_succ]
  refine takeYes (i := 18) (k := 39) (v := .int .u64 (n : Int)) rfl (by kernel_rfl) (by kernel_rfl) (by kernel_rfl) (by kernel_rfl) (fun _ _ _ h => h) (by kernel_rfl) ?_ (Below.refl _ _) ?_
  · intro W hSw; first | (go_simp; done) | go_simp
  try simp only [Act.put, List.setIfInBounds_toArray, List.set_cons_zero, List.set_cons_succ]
  refine takeYes (i := 19) (k := 40) (v := .int .u32 (m : Int)) rfl (by kernel_rfl) (by kernel_rfl) (by kernel_rfl) (by kernel_rfl) (fun _ _ _ h => h) (by kernel_rfl) ?_ (Below.refl _ _) ?_
  · intro W hSw; first | (go_simp; done) | go_simp
  try simp only [Act.put, List.setIfInBounds_toArray, List.set_cons_zero, List.set_cons_succ]
  refine takeYes (i := 22) (k := 43) (v := .int .u64 (n : Int)) rfl (by kernel_rfl) (by kernel_rfl) (by kernel_rfl) (by kernel_rfl) (fun _ _ _ h => h) (by kernel_rfl) ?_ (Below.refl _ _) ?_
  · intro W hSw; first | (go_simp; done) | go_simp
  try simp only [Act.put, List.setIfInBounds_toArray, List.set_cons_zero, List.set_cons_succ]
  refine wpAnyH_ready (rs := [20]) (by kernel_rfl) (by simp) (AllReadyH.cons rfl (fun K hK => ?_) AllReadyH.nil)
  go_simp
  refine (HP4.out _).mono ?_
  rintro e wd22 ⟨v4, rfl, o4, hb22⟩
  refine hK.out _ _ hb22 (fun _ => wpAnyH_shift hb22 ?_)
  clear hK K
  replace B : Below w.heap.size w wd22 := B.trans (hb22.mono B.size)
  replace o2 := o2.below hb22
  replace o3 := o3.below hb22
  clear hb22
  try simp only [Act.put, List.setIfInBounds_toArray, List.set_cons_zero, List.set_cons_succ]
  refine takeYes (i := 21) (k := 42) (v := .string ⟨F4.toArray⟩) rfl (by kernel_rfl) (by kernel_rfl) (by kernel_rfl) (by kernel_rfl) (fun _ _ _ h => h) (by kernel_rfl) ?_ (Below.refl _ _) ?_
  · intro W hSw; have hcv := (o4.below hSw).rd.text; first | (go_simp; done) | go_simp
  try simp only [Act.put, List.setIfInBounds_toArray, List.set_cons_zero, List.set_cons_succ]
  refine wpAnyH_ready (rs := [23]) (by kernel_rfl) (by simp) (AllReadyH.cons rfl (fun K hK => ?_) AllReadyH.nil)
  go_simp
  refine (HRF4.out _).mono ?_
  rintro e wd23 ⟨v5, rfl, o5, hb23⟩
  refine hK.out _ _ hb23 (fun _ => wpAnyH_shift hb23 ?_)
  clear hK K
  replace B : Below w.heap.size w wd23 := B.trans (hb23.mono B.size)
  replace o2 := o2.below hb23
  replace o3 := o3.below hb23
  replace o4 := o4.below hb23
  clear hb23
  try simp only [Act.put, List.setIfInBounds_toArray, List.set_cons_zero, List.set_cons_succ]
  refine takeYes (i := 24) (k := 45) (v := .string ⟨F4.toArray⟩) rfl (by kernel_rfl) (by kernel_rfl) (by kernel_rfl) (by kernel_rfl) (fun _ _ _ h => h) (by kernel_rfl) ?_ (Below.refl _ _) ?_
  · intro W hSw; have hcv := (o5.below hSw).rd.text; first | (go_simp; done) | go_simp
  try simp only [Act.put, List.setIfInBounds_toArray, List.set_cons_zero, List.set_cons_succ]
  refine takeYes (i := 25) (k := 46) (v := .bool true) rfl (by kernel_rfl) (by kernel_rfl) (by kernel_rfl) (by kernel_rfl) (fun _ _ _ h => h) (by kernel_rfl) ?_ (Below.refl _ _) ?_
  · intro W hSw; first | (go_simp; done) | go_simp
  try simp only [Act.put, List.setIfInBounds_toArray, List.set_cons_zero, List.set_cons_succ]
  refine takeYes (i := 26) (k := 47) (v := .bool true) rfl (by kernel_rfl) (by kernel_rfl) (by kernel_rfl) (by kernel_rfl) (fun _ _ _ h => h) (by kernel_rfl) ?_ (Below.refl _ _) ?_
  · intro W hSw; first | (go_simp; done) | go_simp
  try simp only [Act.put, List.setIfInBounds_toArray, List.set_cons_zero, List.set_cons_succ]
  refine takeYes (i := 27) (k := 48) (v := .bool true) rfl (by kernel_rfl) (by kernel_rfl) (by kernel_rfl) (by kernel_rfl) (fun _ _ _ h => h) (by kernel_rfl) ?_ (Below.refl _ _) ?_
  · intro W hSw; first | (go_simp; done) | go_simp
  try simp only [Act.put, List.setIfInBounds_toArray, List.set_cons_zero, List.set_cons_succ]
  refine takeYes (i := 28) (k := 49) (v := .int .u64 (n : Int)) rfl (by kernel_rfl) (by kernel_rfl) (by kernel_rfl) (by kernel_rfl) (fun _ _ _ h => h) (by kernel_rfl) ?_ (Below.refl _ _) ?_
  · intro W hSw; first | (go_simp; done) | go_simp
  try simp only [Act.put, List.setIfInBounds_toArray, List.set_cons_zero, List.set_cons_succ]
  refine takeYes (i := 31) (k := 52) (v := .int .u64 (n : Int)) rfl (by kernel_rfl) (by kernel_rfl) (by kernel_rfl) (by kernel_rfl) (fun _ _ _ h => h) (by kernel_rfl) ?_ (Below.refl _ _) ?_
  · intro W hSw; first | (go_simp; done) | go_simp
  try simp only [Act.put, List.setIfInBounds_toArray, List.set_cons_zero, List.set_cons_succ]
  refine wpAnyH_ready (rs := [29]) (by kernel_rfl) (by simp) (AllReadyH.cons rfl (fun K hK => ?_) AllReadyH.nil)
  go_simp
  refine (HP8.out _).mono ?_
  rintro e wd24 ⟨v6, rfl, o6, hb24⟩
  refine hK.out _ _ hb24 (fun _ => wpAnyH_shift hb24 ?_)
  clear hK K
  replace B : Below w.heap.size w wd24 := B.trans (hb24.mono B.size)
  replace o2 := o2.below hb24
  replace o3 := o3.below hb24
  replace o4 := o4.below hb24
  replace o5 := o5.below hb24
  clear hb24
  try simp only [Act.put, List.setIfInBounds_toArray, List.set_cons_zero, List.set_cons_succ]
  refine takeYes (i := 30) (k := 51) (v := .string ⟨F8.toArray⟩) rfl (by kernel_rfl) (by kernel_rfl) (by kernel_rfl) (by kernel_rfl) (fun _ _ _ h => h) (by kernel_rfl) ?_ (Below.refl _ _) ?_
  · intro W hSw; have hcv := (o6.below hSw).rd.text; first | (go_simp; done) | go_simp
  try simp only [Act.put, List.setIfInBounds_toArray, List.set_cons_zero, List.set_cons_succ]
  refine wpAnyH_ready (rs := [32]) (by kernel_rfl) (by simp) (AllReadyH.cons rfl (fun K hK => ?_) AllReadyH.nil)
  go_simp
  refine (HRF8.out _).mono ?_
  rintro e wd25 ⟨v7, rfl, o7, hb25⟩
  refine hK.out _ _ hb25 (fun _ => wpAnyH_shift hb25 ?_)
  clear hK K
  replace B : Below w.heap.size w wd25 := B.trans (hb25.mono B.size)
  replace o2 := o2.below hb25
  replace o3 := o3.below hb25
  replace o4 := o4.below hb25
  replace o5 := o5.below hb25
  replace o6 := o6.below hb25
  clear hb25
  try simp only [Act.put, List.setIfInBounds_toArray, List.set_cons_zero, List.set_cons_succ]
  refine takeYes (i := 33) (k := 54) (v := .string ⟨F8.toArray⟩) rfl (by kernel_rfl) (by kernel_rfl) (by kernel_rfl) (by kernel_rfl) (fun _ _ _ h => h) (by kernel_rfl) ?_ (Below.refl _ _) ?_
  · intro W hSw; have hcv := (o7.below hSw).rd.text; first | (go_simp; done) | go_simp
  try simp only [Act.put, List.setIfInBounds_toArray, List.set_cons_zero, List.set_cons_succ]
  refine takeYes (i := 34) (k := 55) (v := .bool true) rfl (by kernel_rfl) (by kernel_rfl) (by kernel_rfl) (by kernel_rfl) (fun _ _ _ h => h) (by kernel_rfl) ?_ (Below.refl _ _) ?_
  · intro W hSw; first | (go_simp; done) | go_simp
  try simp only [Act.put, List.setIfInBounds_toArray, List.set_cons_zero, List.set_cons_succ]
  refine takeYes (i := 35) (k := 56) (v := .bool true) rfl (by kernel_rfl) (by kernel_rfl) (by kernel_rfl) (by kernel_rfl) (fun _ _ _ h => h) (by kernel_rfl) ?_ (Below.refl _ _) ?_
  · intro W hSw; first | (go_simp; done) | go_simp
  try simp only [Act.put, List.setIfInBounds_toArray, List.set_cons_zero, List.set_cons_succ]
  refine takeYes (i := 36) (k := 57) (v := .bool true) rfl (by kernel_rfl) (by kernel_rfl) (by kernel_rfl) (by kernel_rfl) (fun _ _ _ h => h) (by kernel_rfl) ?_ (Below.refl _ _) ?_
  · intro W hSw; first | (go_simp; done) | go_simp
  try simp only [Act.put, List.setIfInBounds_toArray, List.set_cons_zero, List.set_cons_succ]
  refine takeYes (i := 37) (k := 58) (v := .int .u64 (n : Int)) rfl (by kernel_rfl) (by kernel_rfl) (by kernel_rfl) (by kernel_rfl) (fun _ _ _ h => h) (by kernel_rfl) ?_ (Below.refl _ _) ?_
  · intro W hSw; first | (go_simp; done) | go_simp
  try simp only [Act.put, List.setIfInBounds_toArray, List.set_cons_zero, List.set_cons_succ]
  refine takeYes (i := 40) (k := 61) (v := .int .u64 (n : Int)) rfl (by kernel_rfl) (by kernel_rfl) (by kernel_rfl) (by kernel_rfl) (fun _ _ _ h => h) (by kernel_rfl) ?_ (Below.refl _ _) ?_
  · intro W hSw; first | (go_simp; done) | go_simp
  try simp only [Act.put, List.setIfInBounds_toArray, List.set_cons_zero, List.set_cons_succ]
  refine wpAnyH_ready (rs := [38]) (by kernel_rfl) (by simp) (AllReadyH.cons rfl (fun K hK => ?_) AllReadyH.nil)
  go_simp
  refine (HP8.out _).mono ?_
  rintro e wd26 ⟨v8, rfl, o8, hb26⟩
  refine hK.out _ _ hb26 (fun _ => wpAnyH_shift hb26 ?_)
  clear hK K
  replace B : Below w.heap.size w wd26 := B.trans (hb26.mono B.size)
  replace o2 := o2.below hb26
  replace o3 := o3.below hb26
  replace o4 := o4.below hb26
  replace o5 := o5.below hb26
  replace o6 := o6.below hb26
  replace o7 := o7.below hb26
  clear hb26
  try simp only [Act.put, List.setIfInBounds_toArray, List.set_cons_zero, List.set_cons_succ]
  refine wpAnyH_ready (rs := [39]) (by kernel_rfl) (by simp) (AllReadyH.cons rfl (fun K hK => ?_) AllReadyH.nil)
  go_simp
  refine (HG8.out _ _ o8.rd).mono ?_
  rintro e w' ⟨rfl, rfl⟩
  refine hK.out _ _ (Below.refl _ _) (fun _ => ?_)
  clear hK K
  try simp only [Act.put, List.setIfInBounds_toArray, List.set_cons_zero, List.set_cons_succ]
  refine takeYes (i := 41) (k := 62) (v := .bool true) rfl (by kernel_rfl) (by kernel_rfl) (by kernel_rfl) (by kernel_rfl) (fun _ _ _ h => h) (by kernel_rfl) ?_ (Below.refl _ _) ?_
  · intro W hSw; first | (go_simp; done) | go_simp
  try simp only [Act.put, List.setIfInBounds_toArray, List.set_cons_zero, List.set_cons_succ]
  refine takeYes (i := 42) (k := 63) (v := .bool true) rfl (by kernel_rfl) (by kernel_rfl) (by kernel_rfl) (by kernel_rfl) (fun _ _ _ h => h) (by kernel_rfl) ?_ (Below.refl _ _) ?_
  · intro W hSw; first | (go_simp; done) | go_simp
  try simp only [Act.put, List.setIfInBounds_toArray, List.set_cons_zero, List.set_cons_succ]
  refine takeYes (i := 43) (k := 64) (v := .bool true) rfl (by kernel_rfl) (by kernel_rfl) (by kernel_rfl) (by kernel_rfl) (fun _ _ _ h => h) (by kernel_rfl) ?_ (Below.refl _ _) ?_
  · intro W hSw; first | (go_simp; done) | go_simp
  try simp only [Act.put, List.setIfInBounds_toArray, List.set_cons_zero, List.set_cons_succ]
  refine takeYes (i := 44) (k := 65) (v := .int .u64 (n : Int)) rfl (by kernel_rfl) (by kernel_rfl) (by kernel_rfl) (by kernel_rfl) (fun _ _ _ h => h) (by kernel_rfl) ?_ (Below.refl _ _) ?_
  · intro W hSw; first | (go_simp; done) | go_simp
  try simp only [Act.put, List.setIfInBounds_toArray, List.set_cons_zero, List.set_cons_succ]
  refine takeYes (i := 45) (k := 66) (v := .int .u32 (m : Int)) rfl (by kernel_rfl) (by kernel_rfl) (by kernel_rfl) (by kernel_rfl) (fun _ _ _ h => h) (by kernel_rfl) ?_ (Below.refl _ _) ?_
  · intro W hSw; first | (go_simp; done) | go_simp
  try simp only [Act.put, List.setIfInBounds_toArray, List.set_cons_zero, List.set_cons_succ]
  refine takeYes (i := 48) (k := 69) (v := .int .u64 (n : Int)) rfl (by kernel_rfl) (by kernel_rfl) (by kernel_rfl) (by kernel_rfl) (fun _ _ _ h => h) (by kernel_rfl) ?_ (Below.refl _ _) ?_
  · intro W hSw; first | (go_simp; done) | go_simp
  try simp only [Act.put, List.setIfInBounds_toArray, List.set_cons_zero, List.set_cons_succ]
  refine takeYes (i := 49) (k := 70) (v := .int .u32 (m : Int)) rfl (by kernel_rfl) (by kernel_rfl) (by kernel_rfl) (by kernel_rfl) (fun _ _ _ h => h) (by kernel_rfl) ?_ (Below.refl _ _) ?_
  · intro W hSw; first | (go_simp; done) | go_simp
  try simp only [Act.put, List.setIfInBounds_toArray, List.set_cons_zero, List.set_cons_succ]
  refine wpAnyH_ready (rs := [46]) (by kernel_rfl) (by simp) (AllReadyH.cons rfl (fun K hK => ?_) AllReadyH.nil)
  go_simp
  refine (HP4.out _).mono ?_
  rintro e wd27 ⟨v9, rfl, o9, hb27⟩
  refine hK.out _ _ hb27 (fun _ => wpAnyH_shift hb27 ?_)
  clear hK K
  replace B : Below w.heap.size w wd27 := B.trans (hb27.mono B.size)
  replace o2 := o2.below hb27
  replace o3 := o3.below hb27
  replace o4 := o4.below hb27
  replace o5 := o5.below hb27
  replace o6 := o6.below hb27
  replace o7 := o7.below hb27
  replace o8 := o8.below hb27
  clear hb27
  try simp only [Act.put, List.setIfInBounds_toArray, List.set_cons_zero, List.set_cons_succ]
  refine wpAnyH_ready (rs := [47]) (by kernel_rfl) (by simp) (AllReadyH.cons rfl (fun K hK => ?_) AllReadyH.nil)
  go_simp
  refine (HG4.out _ _ o9.rd).mono ?_
  rintro e w' ⟨rfl, rfl⟩
  refine hK.out _ _ (Below.refl _ _) (fun _ => ?_)
  clear hK K
  try simp only [Act.put, List.setIfInBounds_toArray, List.set_cons_zero, List.set_cons_succ]
  refine takeYes (i := 50) (k := 71) (v := .bool true) rfl (by kernel_rfl) (by kernel_rfl) (by kernel_rfl) (by kernel_rfl) (fun _ _ _ h => h) (by kernel_rfl) ?_ (Below.refl _ _) ?_
  · intro W hSw; first | (go_simp; done) | go_simp
  try simp only [Act.put, List.setIfInBounds_toArray, List.set_cons_zero, List.set_cons_succ]
  refine takeYes (i := 51) (k := 72) (v := .bool true) rfl (by kernel_rfl) (by kernel_rfl) (by kernel_rfl) (by kernel_rfl) (fun _ _ _ h => h) (by kernel_rfl) ?_ (Below.refl _ _) ?_
  · intro W hSw; first | (go_simp; done) | go_simp
  try simp only [Act.put, List.setIfInBounds_toArray, List.set_cons_zero, List.set_cons_succ]
  refine takeYes (i := 52) (k := 73) (v := .bool true) rfl (by kernel_rfl) (by kernel_rfl) (by kernel_rfl) (by kernel_rfl) (fun _ _ _ h => h) (by kernel_rfl) ?_ (Below.refl _ _) ?_
  · intro W hSw; first | (go_simp; done) | go_simp
  try simp only [Act.put, List.setIfInBounds_toArray, List.set_cons_zero, List.set_cons_succ]
  refine takeYes (i := 53) (k := 74) (v := .string t) rfl (by kernel_rfl) (by kernel_rfl) (by kernel_rfl) (by kernel_rfl) (fun _ _ _ h => h) (by kernel_rfl) ?_ (Below.refl _ _) ?_
  · intro W hSw; first | (go_simp; done) | go_simp
  try simp only [Act.put, List.setIfInBounds_toArray, List.set_cons_zero, List.set_cons_succ]
  refine takeYes (i := 56) (k := 77) (v := .string t) rfl (by kernel_rfl) (by kernel_rfl) (by kernel_rfl) (by kernel_rfl) (fun _ _ _ h => h) (by kernel_rfl) ?_ (Below.refl _ _) ?_
  · intro W hSw; first | (go_simp; done) | go_simp
  try simp only [Act.put, List.setIfInBounds_toArray, List.set_cons_zero, List.set_cons_succ]
  refine wpAnyH_ready (rs := [54]) (by kernel_rfl) (by simp) (AllReadyH.cons rfl (fun K hK => ?_) AllReadyH.nil)
  go_simp
  refine (HT.out _).mono ?_
  rintro e wd28 ⟨v10, rfl, o10, hb28⟩
  refine hK.out _ _ hb28 (fun _ => wpAnyH_shift hb28 ?_)
  clear hK K
  replace B : Below w.heap.size w wd28 := B.trans (hb28.mono B.size)
  replace o2 := o2.below hb28
  replace o3 := o3.below hb28
  replace o4 := o4.below hb28
  replace o5 := o5.below hb28
  replace o6 := o6.below hb28
  replace o7 := o7.below hb28
  replace o8 := o8.below hb28
  replace o9 := o9.below hb28
  clear hb28
  try simp only [Act.put, List.setIfInBounds_toArray, List.set_cons_zero, List.set_cons_succ]
  refine takeYes (i := 55) (k := 76) (v := .string ⟨T.toArray⟩) rfl (by kernel_rfl) (by kernel_rfl) (by kernel_rfl) (by kernel_rfl) (fun _ _ _ h => h) (by kernel_rfl) ?_ (Below.refl _ _) ?_
  · intro W hSw; have hcv := (o10.below hSw).rd.text; first | (go_simp; done) | go_simp
  try simp only [Act.put, List.setIfInBounds_toArray, List.set_cons_zero, List.set_cons_succ]
  refine wpAnyH_ready (rs := [57]) (by kernel_rfl) (by simp) (AllReadyH.cons rfl (fun K hK => ?_) AllReadyH.nil)
  go_simp
  refine (HRT.out _).mono ?_
  rintro e wd29 ⟨v11, rfl, o11, hb29⟩
  refine hK.out _ _ hb29 (fun _ => wpAnyH_shift hb29 ?_)
  clear hK K
  replace B : Below w.heap.size w wd29 := B.trans (hb29.mono B.size)
  replace o2 := o2.below hb29
  replace o3 := o3.below hb29
  replace o4 := o4.below hb29
  replace o5 := o5.below hb29
  replace o6 := o6.below hb29
  replace o7 := o7.below hb29
  replace o8 := o8.below hb29
  replace o9 := o9.below hb29
  replace o10 := o10.below hb29
  clear hb29
  try simp only [Act.put, List.setIfInBounds_toArray, List.set_cons_zero, List.set_cons_succ]
  refine takeYes (i := 58) (k := 79) (v := .string ⟨T.toArray⟩) rfl (by kernel_rfl) (by kernel_rfl) (by kernel_rfl) (by kernel_rfl) (fun _ _ _ h => h) (by kernel_rfl) ?_ (Below.refl _ _) ?_
  · intro W hSw; have hcv := (o11.below hSw).rd.text; first | (go_simp; done) | go_simp
  try simp only [Act.put, List.setIfInBounds_toArray, List.set_cons_zero, List.set_cons_succ]
  refine takeYes (i := 59) (k := 80) (v := .bool true) rfl (by kernel_rfl) (by kernel_rfl) (by kernel_rfl) (by kernel_rfl) (fun _ _ _ h => h) (by kernel_rfl) ?_ (Below.refl _ _) ?_
  · intro W hSw; first | (go_simp; done) | go_simp
  try simp only [Act.put, List.setIfInBounds_toArray, List.set_cons_zero, List.set_cons_succ]
  refine takeYes (i := 60) (k := 81) (v := .bool true) rfl (by kernel_rfl) (by kernel_rfl) (by kernel_rfl) (by kernel_rfl) (fun _ _ _ h => h) (by kernel_rfl) ?_ (Below.refl _ _) ?_
  · intro W hSw; first | (go_simp; done) | go_simp
  try simp only [Act.put, List.setIfInBounds_toArray, List.set_cons_zero, List.set_cons_succ]
  refine takeYes (i := 61) (k := 4) (v := .bool true) rfl (by kernel_rfl) (by kernel_rfl) (by kernel_rfl) (by kernel_rfl) (fun _ _ _ h => h) (by kernel_rfl) ?_ (Below.refl _ _) ?_
  · intro W hSw; first | (go_simp; done) | go_simp
  try simp only [Act.put, List.setIfInBounds_toArray, List.set_cons_zero, List.set_cons_succ]
  refine wpAnyH_done (by kernel_rfl) ?_ _
  clear o2 o3 o4 o5 o6 o7 o8 o9 o10 o11
  go_wp2_with fail
  go_ret
  exact ⟨rfl, B⟩
end Go.Proofs.Ytjhkgpjefdndaaa
