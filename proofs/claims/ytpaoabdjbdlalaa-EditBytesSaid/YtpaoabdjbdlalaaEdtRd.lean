/- The walks of a reader: giveUp, skip, number, text, count, isDone. -/
import Derived.Test.YtpaoabdjbdlalaaEdtChk
import Derived.Test.YtpaoabdjbdlalaaNumText
import Derived.Test.YtpaoabdjbdlalaaBlk
namespace Go.Proofs.Ytpaoabdjbdlalaa
set_option linter.unusedVariables false
set_option maxRecDepth 100000
open Go.RowKit
/-- The reader in block g, of bytes that lie as they did in w0: s is what it has to read; none: it is broken. -/
def RdrAt (w0 w : World) (g : Nat) (s : Option (List UInt8)) : Prop := w0.heap.size ≤ g ∧ Below w0.heap.size w0 w ∧ ∃ v, BlkAt w g #[v, .bool s.isNone] 51 ∧ RdB w0 v (s.getD [])
theorem RdrAt.below {w0 w w' : World} {g : Nat} {s : Option (List UInt8)} (h : RdrAt w0 w g s) (u : Below w.heap.size w w') : RdrAt w0 w' g s := by
  obtain ⟨h1, h2, v, h3, h4⟩ := h
  exact ⟨h1, h2.trans (u.mono h2.size), v, h3.below u, h4⟩
theorem RdrAt.lt {w0 w : World} {g : Nat} {s : Option (List UInt8)} (h : RdrAt w0 w g s) : g < w.heap.size := by
  obtain ⟨-, -, v, h3, -⟩ := h
  exact h3.lt
/-- A call: the reader stands at s behind it, and nothing else was written. -/
def RdrTo (w0 w : World) (g : Nat) (s : Option (List UInt8)) (w' : World) : Prop := RdrAt w0 w' g s ∧ UpdF (fun k => k = g) w w'
theorem RdrTo.trans {w0 w w1 w2 : World} {g : Nat} {s s' : Option (List UInt8)} (h : RdrTo w0 w g s w1) (k : RdrTo w0 w1 g s' w2) : RdrTo w0 w g s' w2 := ⟨k.1, h.2.trans k.2⟩
theorem RdrAt.self {w0 w : World} {g : Nat} {s : Option (List UInt8)} (h : RdrAt w0 w g s) : RdrTo w0 w g s w := ⟨h, UpdF.refl _ _⟩
theorem RdrTo.below {w0 w w1 w2 : World} {g : Nat} {s : Option (List UInt8)} (h : RdrTo w0 w g s w1) (u : Below w1.heap.size w1 w2) : RdrTo w0 w g s w2 := ⟨h.1.below u, h.2.trans (UpdF.of u)⟩
theorem RdrAt.put {w0 w w' : World} {g : Nat} {s s' : Option (List UInt8)} (h : RdrAt w0 w g s) (u : UpdF (fun k => k = g) w w') {v : Value} (hb : BlkAt w' g #[v, .bool s'.isNone] 51) (hr : RdB w0 v (s'.getD [])) : RdrTo w0 w g s' w' := by
  obtain ⟨h1, h2, -⟩ := h
  exact ⟨⟨h1, h2.trans (UpdF.below u h2.size fun k hk e => by omega), v, hb, hr⟩, u⟩
theorem RdrAt.rd {w0 w : World} {g : Nat} {s : Option (List UInt8)} (h : RdrAt w0 w g s) : ∃ v, BlkAt w g #[v, .bool s.isNone] 51 ∧ RdB w0 v (s.getD []) ∧ RdB w v (s.getD []) := by
  obtain ⟨h1, h2, v, h3, h4⟩ := h
  exact ⟨v, h3, h4, h4.below h2⟩
def GoneTo (w0 w : World) (g : Nat) (s : Option (List UInt8)) (e : Ending) (w' : World) : Prop := e = .returned (.tuple #[]) ∧ RdrTo w0 w g s w'
set_option maxHeartbeats 1000000 in
theorem edGive_any {w0 w : World} {g : Nat} {s : Option (List UInt8)} (h : RdrAt w0 w g s) : Calls Try.prog 37 #[.pointer (some ⟨g, 0, none⟩)] w (GoneTo w0 w g none) := by
  obtain ⟨v, h3, -, -⟩ := h.rd
  have c0 := h3.at 0
  have c1 := h3.at 1
  have f0 := h3.free 0
  have f1 := h3.free 1
  have HX : Hid (RdrTo w0 w g none ((w.setCell ⟨g, 1, none⟩ (.bool true)).setCell ⟨g, 0, none⟩ (.slice none 0 0))) := Lib.hid (by
    refine h.put (((UpdF.refl (fun k => k = g) w).set g 1 _ rfl).set g 0 _ rfl) (v := .slice none 0 0) ?_ (RdB.nil _ _ _)
    exact (h3.set (o := 1) (.bool true)).set (o := 0) (.slice none 0 0))
  clear h h3
  go_enter Try.func37, Try.ntmps37
  go_wp2_with fail
  go_end0
  exact ⟨rfl, HX.out⟩
set_option maxHeartbeats 1000000 in
theorem edSkip0_any {w0 w : World} {g : Nat} {s : Option (List UInt8)} (h : RdrAt w0 w g s) : Calls Try.prog 33 #[.pointer (some ⟨g, 0, none⟩), .int .i64 0] w (GoneTo w0 w g none) := by
  have HG := Lib.hid (edGive_any h)
  clear h
  go_enter Try.func33, Try.ntmps33
  go_wp2_with fail
  refine HG.out.mono ?_
  rintro e w1 ⟨rfl, h1⟩
  go_wp2_with fail
  go_end0
  exact ⟨rfl, h1⟩
set_option maxHeartbeats 1000000 in
theorem edSkip_any {w0 w : World} {g : Nat} {b : List UInt8} (h : RdrAt w0 w g (some b)) (n : Nat) (hn : 1 ≤ n) (hnb : n ≤ b.length) : Calls Try.prog 33 #[.pointer (some ⟨g, 0, none⟩), .int .i64 (n : Int)] w (GoneTo w0 w g (some (b.drop n))) := by
  obtain ⟨v, h3, h4, -⟩ := h.rd
  obtain ⟨a, len, cap, rfl, hlen, hcap⟩ := h4.form
  simp only [Option.getD_some] at h4 hlen
  have hcl := (hcap (by omega)).1
  obtain ⟨ad, hadd⟩ : ∃ ad, (if cap = n then a else a.map (·.add n)) = ad := ⟨_, rfl⟩
  have hsl := fun W => sl_lB W a len cap n (by omega) hcl
  have hdr := h4.drop n (by omega)
  simp only [hadd] at hsl hdr
  have c0 := h3.at 0
  have f0 := h3.free 0
  have hn0 : ¬ (n : Int) = 0 := by omega
  have hn0b : ((n : Int) == 0) = false := by simp; omega
  have HX : Hid (RdrTo w0 w g (some (b.drop n)) (w.setCell ⟨g, 0, none⟩ (.slice ad (len - n) (cap - n)))) := Lib.hid (by
    refine h.put ((UpdF.refl (fun k => k = g) w).set g 0 _ rfl) (v := .slice ad (len - n) (cap - n)) ?_ hdr
    exact h3.set (o := 0) (.slice ad (len - n) (cap - n)))
  obtain ⟨n1, hn1⟩ : ∃ n1, len - n = n1 := ⟨_, rfl⟩
  obtain ⟨c1, hc1⟩ : ∃ c1, cap - n = c1 := ⟨_, rfl⟩
  rw [hn1, hc1] at HX
  simp only [hn1, hc1] at hsl
  clear h h3 h4 hdr hadd hn1 hc1 hlen hcap hnb
  go_enter Try.func33, Try.ntmps33
  go_wp2_with fail
  go_end0
  exact ⟨rfl, HX.out⟩
theorem edNm_eq (s : Option (List UInt8)) : edNm s = match getN (s.getD []) with
    | .none => (0, .none)
    | .some (n, k) => (wrap64 (n : Int), .some ((s.getD []).drop k)) := by
  cases s with
  | none => rfl
  | some b => rfl
theorem edTx_eq (s : Option (List UInt8)) : edTx s = match getT (s.getD []) with
    | .none => (⟨#[]⟩, .none)
    | .some (n, k) => (⟨n.toArray⟩, .some ((s.getD []).drop k)) := by
  cases s with
  | none => rfl
  | some b => rfl
theorem getN_ofnil {s : Option (List UInt8)} {n k : Nat} (h : getN (s.getD []) = some (n, k)) : ∃ b, s = some b := by
  cases s with
  | none => cases h
  | some b => exact ⟨b, rfl⟩
theorem getT_ofnil {s : Option (List UInt8)} {n : List UInt8} {k : Nat} (h : getT (s.getD []) = some (n, k)) : ∃ b, s = some b := by
  cases s with
  | none => cases h
  | some b => exact ⟨b, rfl⟩
def NumTo (w0 w : World) (g : Nat) (r : Int × Option (List UInt8)) (e : Ending) (w' : World) : Prop := e = .returned (.int .i64 r.1) ∧ RdrTo w0 w g r.2 w'
def TxtTo (w0 w : World) (g : Nat) (r : ByteArray × Option (List UInt8)) (e : Ending) (w' : World) : Prop := e = .returned (.string r.1) ∧ RdrTo w0 w g r.2 w'
set_option maxHeartbeats 1000000 in
theorem edNumber_any {w0 w : World} {g : Nat} {s : Option (List UInt8)} (h : RdrAt w0 w g s) : Calls Try.prog 22 #[.pointer (some ⟨g, 0, none⟩)] w (NumTo w0 w g (edNm s)) := by
  obtain ⟨R, hR⟩ : ∃ R, edNm s = R := ⟨_, rfl⟩
  rw [hR]
  rw [edNm_eq] at hR
  obtain ⟨v, h3, -, h5⟩ := h.rd
  have c0 := h3.at 0
  have HG := Lib.hid (get_any v (s.getD []) w h5)
  clear h3 h5
  cases hg : getN (s.getD []) with
  | none =>
    rw [hg] at hR HG
    subst hR
    have HS := Lib.hid (edSkip0_any h)
    clear h hg
    go_enter Try.func22, Try.ntmps22
    go_wp2_with fail
    refine HG.out.mono ?_
    rintro e w' ⟨rfl, rfl⟩
    unfold numRes
    go_wp2_with fail
    refine HS.out.mono ?_
    rintro e w1 ⟨rfl, h1⟩
    go_wp2_with fail
    go_ret
    exact ⟨rfl, h1⟩
  | some p =>
    obtain ⟨n, k⟩ := p
    obtain ⟨b, rfl⟩ := getN_ofnil hg
    obtain ⟨hk1, hk2, -, hn⟩ := getN_le hg
    rw [hg] at hR HG
    subst hR
    simp only [Option.getD_some] at hk2 HG ⊢
    have HS := Lib.hid (edSkip_any h k hk1 hk2)
    clear h hg hk2
    go_enter Try.func22, Try.ntmps22
    go_wp2_with fail
    refine HG.out.mono ?_
    rintro e w' ⟨rfl, rfl⟩
    unfold numRes
    go_wp2_with fail
    refine HS.out.mono ?_
    rintro e w1 ⟨rfl, h1⟩
    go_wp2_with fail
    go_ret
    exact ⟨rfl, h1⟩
set_option maxHeartbeats 1000000 in
theorem edText_any {w0 w : World} {g : Nat} {s : Option (List UInt8)} (h : RdrAt w0 w g s) : Calls Try.prog 38 #[.pointer (some ⟨g, 0, none⟩)] w (TxtTo w0 w g (edTx s)) := by
  obtain ⟨R, hR⟩ : ∃ R, edTx s = R := ⟨_, rfl⟩
  rw [hR]
  rw [edTx_eq] at hR
  obtain ⟨v, h3, -, h5⟩ := h.rd
  have c0 := h3.at 0
  have HG := Lib.hid (gettext_any v (s.getD []) w h5)
  clear h3 h5
  cases hg : getT (s.getD []) with
  | none =>
    rw [hg] at hR HG
    subst hR
    have HS := Lib.hid (edSkip0_any h)
    clear h hg
    go_enter Try.func38, Try.ntmps38
    go_wp2_with fail
    refine HG.out.mono ?_
    rintro e w' ⟨rfl, rfl⟩
    unfold txtRes
    go_wp2_with fail
    refine HS.out.mono ?_
    rintro e w1 ⟨rfl, h1⟩
    go_wp2_with fail
    go_ret
    exact ⟨rfl, h1⟩
  | some p =>
    obtain ⟨n, k⟩ := p
    obtain ⟨b, rfl⟩ := getT_ofnil hg
    have hk2 := (text_get hg).2.1
    have hk1 : 1 ≤ k := by
      unfold getT at hg
      cases hq : getN ((some b).getD []) with
      | none => rw [hq] at hg; cases hg
      | some q =>
        obtain ⟨m, j⟩ := q
        have := (getN_le hq).1
        rw [hq] at hg
        simp only at hg
        split at hg
        · simp only [Option.some.injEq, Prod.mk.injEq] at hg; omega
        · cases hg
    rw [hg] at hR HG
    subst hR
    simp only [Option.getD_some] at hk2 HG ⊢
    have HS := Lib.hid (edSkip_any h k hk1 hk2)
    clear h hg hk2 hk1
    go_enter Try.func38, Try.ntmps38
    go_wp2_with fail
    refine HG.out.mono ?_
    rintro e w' ⟨rfl, rfl⟩
    unfold txtRes
    go_wp2_with fail
    refine HS.out.mono ?_
    rintro e w1 ⟨rfl, h1⟩
    go_wp2_with fail
    go_ret
    exact ⟨rfl, h1⟩
def CntTo (w0 w : World) (g : Nat) (r : Nat × Option (List UInt8)) (e : Ending) (w' : World) : Prop := e = .returned (.int .i64 (r.1 : Int)) ∧ RdrTo w0 w g r.2 w'
set_option maxHeartbeats 1000000 in
theorem edCount_any {w0 w : World} {g : Nat} {s : Option (List UInt8)} (h : RdrAt w0 w g s) : Calls Try.prog 34 #[.pointer (some ⟨g, 0, none⟩)] w (CntTo w0 w g (edCnt s)) := by
  have HN := Lib.hid (edNumber_any h)
  have HGV : Hid (∀ W, RdrTo w0 w g (edNm s).2 W → Calls Try.prog 37 #[.pointer (some ⟨g, 0, none⟩)] W (GoneTo w0 W g none)) := Lib.hid fun W hW => edGive_any hW.1
  obtain ⟨R, hR⟩ : ∃ R, edCnt s = R := ⟨_, rfl⟩
  rw [hR]
  unfold edCnt at hR
  generalize edNm s = p at *
  obtain ⟨n, s'⟩ := p
  simp only at hR HGV
  clear h
  by_cases h1 : n < 0
  · rw [if_pos (.inl h1)] at hR
    subst hR
    go_enter Try.func34, Try.ntmps34
    go_wp2_with fail
    refine HN.out.mono ?_
    rintro e w1 ⟨rfl, h1⟩
    have HV := Lib.hid (HGV.out _ h1)
    have HT := Lib.hid h1
    clear h1
    go_wp2_with fail
    refine HV.out.mono ?_
    rintro e w2 ⟨rfl, h2⟩
    go_wp2_with fail
    go_ret
    exact ⟨rfl, HT.out.trans h2⟩
  · by_cases h2 : 200 < n
    · rw [if_pos (.inr h2)] at hR
      subst hR
      go_enter Try.func34, Try.ntmps34
      go_wp2_with fail
      refine HN.out.mono ?_
      rintro e w1 ⟨rfl, h1⟩
      have HV := Lib.hid (HGV.out _ h1)
      have HT := Lib.hid h1
      clear h1
      go_wp2_with fail
      refine HV.out.mono ?_
      rintro e w2 ⟨rfl, h2⟩
      go_wp2_with fail
      go_ret
      exact ⟨rfl, HT.out.trans h2⟩
    · rw [if_neg (by omega)] at hR
      subst hR
      obtain ⟨m, rfl⟩ := Int.eq_ofNat_of_zero_le (show 0 ≤ n by omega)
      go_enter Try.func34, Try.ntmps34
      go_wp2_with fail
      refine HN.out.mono ?_
      rintro e w1 ⟨rfl, h1⟩
      go_wp2_with fail
      go_ret
      exact ⟨rfl, h1⟩
set_option maxHeartbeats 1000000 in
theorem edDone_any {w0 w : World} {g : Nat} {s : Option (List UInt8)} (h : RdrAt w0 w g s) : Calls Try.prog 25 #[.pointer (some ⟨g, 0, none⟩)] w fun e w' => e = .returned (.bool (decide (s = some []))) ∧ w' = w := by
  obtain ⟨R, hR⟩ : ∃ R, decide (s = some []) = R := ⟨_, rfl⟩
  rw [hR]
  obtain ⟨v, h3, -, h5⟩ := h.rd
  obtain ⟨a, len, cap, rfl, hlen, -⟩ := h5.form
  have c0 := h3.at 0
  have c1 := h3.at 1
  clear h h3 h5
  cases s with
  | none =>
    obtain rfl : R = false := by rw [← hR]; rfl
    clear hR hlen
    go_enter Try.func25, Try.ntmps25
    go_wp2_with fail
    go_ret
    exact ⟨rfl, rfl⟩
  | some b =>
    simp only [Option.getD_some] at hlen
    have HR : Hid (decide ((len : Int) = 0) = R) := Lib.hid (by
      rw [← hR, decide_eq_decide]
      constructor
      · intro h; have hb : b = [] := List.eq_nil_of_length_eq_zero (by omega); rw [hb]
      · intro h; rw [Option.some.inj h] at hlen; simp at hlen; omega)
    have hlb : Hid (((len : Int) == 0) = R) := Lib.hid (by rw [← HR.out]; rfl)
    clear hR hlen HR
    go_enter Try.func25, Try.ntmps25
    go_wp2_with fail
    go_ret
    exact ⟨congrArg (fun b => Ending.returned (Value.bool b)) hlb.out, rfl⟩
end Go.Proofs.Ytpaoabdjbdlalaa
