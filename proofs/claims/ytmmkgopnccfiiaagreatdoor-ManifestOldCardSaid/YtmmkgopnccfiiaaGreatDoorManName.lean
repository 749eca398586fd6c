/- manifest: the names of numbered files, the bytes of a CURRENT, what CURRENT names. -/
import Derived.Test.YtmmkgopnccfiiaaGreatDoorFmtInt
import Derived.Test.YtmmkgopnccfiiaaGreatDoorMManA
import Derived.Test.YtmmkgopnccfiiaaGreatDoorMNum
import Derived.Lib.SmallJoins
import Derived.Test.YtmmkgopnccfiiaaGreatDoorMRec
import Derived.Test.YtmmkgopnccfiiaaGreatDoorMBase
import Derived.Test.YtmmkgopnccfiiaaGreatDoorByEq
import Derived.Test.YtmmkgopnccfiiaaGreatDoorMFsB
namespace Go.Proofs.YtmmkgopnccfiiaaGreatDoor
set_option linter.unusedVariables false
open Go.RowKit Go.Maps
/-- What the table of powers of ten holds. -/
def PowAt (w : World) : Prop := Lib.TabIs Tryz.prog w "internal/strconv.uint64pow10" .u64 Lib.pow10Tab
theorem PowAt.below {w w' : World} (h : PowAt w) (hb : Below w.heap.size w w') : PowAt w' := Go.Joins.var_stays (g := 3) (by kernel_rfl) h hb (Nat.le_refl _)
/-- The tables that the calls read. -/
def GlobM (w : World) : Prop := TabAt w ∧ PowAt w
theorem GlobM.below {w w' : World} (h : GlobM w) (hb : Below w.heap.size w w') : GlobM w' := ⟨h.1.below hb, h.2.below hb⟩
/-- A number's name with an end. -/
def numN (u : Nat) (t : ByteArray) : ByteArray := ⟨(Lib.decDigits u).toArray⟩ ++ t
set_option maxHeartbeats 1000000 in
theorem numbered_any (u : Nat) (hu : u ≤ 9223372036854775807) (t : ByteArray) (ht : t.size ≤ 1000000) (w : World) (hP : PowAt w) :
    Calls Tryz.prog 65 #[.int .i64 (u : Int), .string t] w fun e w' => e = .returned (.string (numN u t)) ∧ Below w.heap.size w w' := by
  have HF := Lib.hid (fmt_any u hu w hP)
  have hR : (⟨(Lib.decDigits u).toArray⟩ : ByteArray) ++ t = numN u t := rfl
  have hs : (⟨(Lib.decDigits u).toArray⟩ : ByteArray).size ≤ 1000000 := Nat.le_trans (dig_few u 19 (by omega) (by omega)) (by omega)
  clear hu hP
  generalize (⟨(Lib.decDigits u).toArray⟩ : ByteArray) = D at *
  generalize numN u t = R at *
  go_enter Tryz.func65, Tryz.ntmps65
  go_wp2_with fail
  refine HF.out.mono ?_
  rintro e w1 ⟨rfl, hb⟩
  go_wp2_with fail
  go_ret
  exact ⟨rfl, hb⟩
theorem manName_any (u : Nat) (hu : u ≤ 9223372036854775807) (w : World) (hP : PowAt w) :
    Calls Tryz.prog 38 #[.int .i64 (u : Int)] w fun e w' => e = .returned (.string (manN u)) ∧ Below w.heap.size w w' := by
  have HF : Hid (∀ w, PowAt w → Calls Tryz.prog 65 #[.int .i64 (u : Int), .string ⟨#[46, 109, 97, 110]⟩] w fun e w' => e = .returned (.string (manN u)) ∧ Below w.heap.size w w') := Lib.hid fun w hP => numbered_any u hu ⟨#[46, 109, 97, 110]⟩ (by decide) w hP
  generalize manN u = R at *
  go_enter Tryz.func38, Tryz.ntmps38
  go_wp2_with fail
  refine (HF.out w hP).mono ?_
  rintro e w1 ⟨rfl, hb⟩
  go_wp2_with fail
  go_ret
  exact ⟨rfl, hb⟩
set_option maxHeartbeats 2000000 in
theorem pointer_any (u : Nat) (hu : u ≤ 9223372036854775807) (w : World) (hT : TabAt w) : Calls Tryz.prog 54 #[.int .i64 (u : Int)] w (MkB (ptrB smN u) w) := by
  have H1 := Lib.hid (put64_any u (by omega) w)
  have hu1 : (u : Int) ≤ 9223372036854775807 := by omega
  have hu0 : (0 : Int) ≤ (u : Int) := by omega
  have H2 : Hid (∀ v W, RdB W v (fixN 8 u) → Below w.heap.size w W → Calls Tryz.prog 92 #[v] W (U32Res (moreN 0 (fixN 8 u)) W)) := Lib.hid fun v W hv hb => sum_any v (fixN 8 u) W (hT.below hb) hv
  have H3 : Hid (∀ W, Calls Tryz.prog 91 #[.int .u32 (moreN 0 (fixN 8 u) : Int)] W (MkB (smN (fixN 8 u)) W)) := Lib.hid fun W => put32_any _ (moreN_lt (by decide) _) W
  have hpt : ptrB smN u = fixN 8 u ++ smN (fixN 8 u) := rfl
  rw [hpt]
  have l1 : (fixN 8 u).length = 8 := fixN_len _ _
  have l2 := smN_len (fixN 8 u)
  generalize smN (fixN 8 u) = T at *
  generalize fixN 8 u = D at *
  generalize moreN 0 D = K at *
  clear hpt hT hu
  go_enter Tryz.func54, Tryz.ntmps54
  go_wp2_with fail
  refine H1.out.mono ?_
  rintro e w1 ⟨v1, rfl, o1, b1⟩
  have HS := Lib.hid (H2.out v1 w1 o1.rd b1)
  have HB1 := Lib.hid b1
  clear H1 H2
  obtain ⟨a1, n1, c1, rfl, -⟩ := o1.form
  have HO1 := Lib.hid o1
  clear o1 b1
  go_wp2_with fail
  refine HS.out.mono ?_
  rintro e w' ⟨rfl, rfl⟩
  go_wp2_with fail
  refine (H3.out _).mono ?_
  rintro e w3 ⟨v3, rfl, o3, b3⟩
  have o4 := HO1.out.below b3
  have HB3 := Lib.hid (HB1.out.trans (b3.mono HB1.out.size))
  clear HS H3 HO1 HB1 b3
  go_wp2_with (at_builtin; refine wp_appSB _ _ (by rfl) (by rfl) (by rfl) o4 (by rfl) o3.rd ?c1 HB3.out.size ?_)
  case c1 => omega
  intro v5 w5 o5 b5
  go_wp2_with fail
  go_ret
  exact ⟨v5, rfl, o5, HB3.out.trans b5⟩
/-- What CURRENT names: a number, or none. -/
def NamRes (w : World) (n c : Int) (e : Ending) (w' : World) : Prop := e = .returned (.tuple #[.int .i64 n, .int .i64 c]) ∧ Below w.heap.size w w'
set_option maxHeartbeats 2000000 in
theorem named_none (w : World) (b : Nat) (ρ : Nat → Option Role) (S : Fs) (h : FsAt w b ρ S) (c : Int) (bs : List UInt8) (hr : S.read curN = (bs, c)) (hc : c ≠ 0) : Calls Tryz.prog 37 #[.pointer (some ⟨b, 0, none⟩)] w (NamRes w 0 c) := by
  have HR : Hid (Calls Tryz.prog 17 #[.pointer (some ⟨b, 0, none⟩), .string ⟨#[67, 85, 82, 82, 69, 78, 84]⟩] w (ReadAt w bs c)) := Lib.hid (by
    have := fsRead_any w b ρ S h curN (by decide)
    rwa [hr] at this)
  have hd : (c != 0) = true := by rw [bne_iff_ne]; exact hc
  clear h hr hc
  go_enter Tryz.func37, Tryz.ntmps37
  go_wp2_with fail
  refine HR.out.mono ?_
  rintro e w1 ⟨v, rfl, ho, hb⟩
  go_wp2_with fail
  go_ret2
  exact ⟨rfl, hb⟩
set_option maxHeartbeats 2000000 in
theorem named_any (w : World) (b : Nat) (ρ : Nat → Option Role) (S : Fs) (h : FsAt w b ρ S) (bs : List UInt8) (hr : S.read curN = (bs, 0)) (hT : TabAt w) (u : Nat) (hu : unfK 8 bs = u) (hu1 : u ≤ 9223372036854775807) :
    Calls Tryz.prog 37 #[.pointer (some ⟨b, 0, none⟩)] w (NamRes w (if bs = ptrB smN u then (u : Int) else 0) (if bs = ptrB smN u then 0 else 8)) := by
  have HR : Hid (Calls Tryz.prog 17 #[.pointer (some ⟨b, 0, none⟩), .string ⟨#[67, 85, 82, 82, 69, 78, 84]⟩] w (ReadAt w bs 0)) := Lib.hid (by
    have := fsRead_any w b ρ S h curN (by decide)
    rwa [hr] at this)
  have HP : Hid (∀ W, Below w.heap.size w W → Calls Tryz.prog 54 #[.int .i64 (u : Int)] W (MkB (ptrB smN u) W)) := Lib.hid fun W hW => pointer_any u hu1 W (hT.below hW)
  have HG : Hid (∀ v W, RdB W v bs → Calls Tryz.prog 70 #[v] W fun e w' => e = .returned (.int .u64 (u : Int)) ∧ W = w') := Lib.hid fun v W hv => by
    have := get64_any v bs W hv
    rwa [hu] at this
  have hu2 : (u : Int) ≤ 9223372036854775807 := by omega
  have hu0 : (0 : Int) ≤ (u : Int) := by omega
  clear h hr hT hu
  generalize ptrB smN u = T at *
  obtain ⟨q, hq⟩ : ∃ q, decide (bs = T) = q := ⟨_, rfl⟩
  have HE : Hid (∀ (u v : Value) (w : World), RdB w u bs → RdB w v T → Calls Tryz.prog 71 #[u, v] w fun e w' => e = .returned (.bool q) ∧ DrN w w') := Lib.hid fun u v w h1 h2 => by
    have := bequal_any u v bs T w h1 h2
    rwa [hq] at this
  have hn : ((if bs = T then (u : Int) else 0) = if q = true then (u : Int) else 0) ∧ ((if bs = T then (0 : Int) else 8) = if q = true then 0 else 8) := by
    by_cases e : bs = T
    · rw [decide_eq_true e] at hq; subst hq; rw [if_pos e, if_pos e]; exact ⟨rfl, rfl⟩
    · rw [decide_eq_false e] at hq; subst hq; rw [if_neg e, if_neg e]; exact ⟨rfl, rfl⟩
  rw [hn.1, hn.2]
  clear hn hq
  obtain ⟨N, hN⟩ : ∃ N, (if q = true then (u : Int) else 0) = N := ⟨_, rfl⟩
  obtain ⟨C, hC⟩ : ∃ C, (if q = true then (0 : Int) else 8) = C := ⟨_, rfl⟩
  rw [hN, hC]
  have HN := Lib.hid hN
  have HC := Lib.hid hC
  clear hN hC
  go_enter Tryz.func37, Tryz.ntmps37
  go_wp2_with fail
  refine HR.out.mono ?_
  rintro e w1 ⟨v, rfl, ho, hb⟩
  have HO := Lib.hid ho.rd
  have HB := Lib.hid hb
  obtain ⟨a1, n1, c1, rfl, -⟩ := ho.form
  have HG1 := Lib.hid (HG.out _ w1 HO.out)
  have HP1 := Lib.hid (HP.out w1 hb)
  clear ho hb HR HG HP
  go_wp2_with fail
  refine HG1.out.mono ?_
  rintro e w' ⟨rfl, rfl⟩
  go_wp2_with fail
  refine HP1.out.mono ?_
  rintro e w2 ⟨v2, rfl, o2, b2⟩
  have HE2 := Lib.hid (HE.out _ v2 w2 (HO.out.below b2) o2.rd)
  have HB2 := Lib.hid (HB.out.trans (b2.mono HB.out.size))
  clear o2 b2 HE HG1 HP1 HO HB
  cases q with
  | true =>
    obtain rfl : N = (u : Int) := HN.out.symm
    obtain rfl : C = 0 := HC.out.symm
    go_wp2_with fail
    refine HE2.out.mono ?_
    rintro e w3 ⟨rfl, hdr⟩
    go_wp2_with fail
    go_ret2
    exact ⟨rfl, HB2.out.trans ((hdr.below _).mono HB2.out.size)⟩
  | false =>
    obtain rfl : N = 0 := HN.out.symm
    obtain rfl : C = 8 := HC.out.symm
    go_wp2_with fail
    refine HE2.out.mono ?_
    rintro e w3 ⟨rfl, hdr⟩
    go_wp2_with fail
    go_ret2
    exact ⟨rfl, HB2.out.trans ((hdr.below _).mono HB2.out.size)⟩
end Go.Proofs.YtmmkgopnccfiiaaGreatDoor
