/- The walk of the laws' from. -/
import Derived.Test.YtennpdhnjaemeaaDoorTblBeg
import Derived.Test.YtennpdhnjaemeaaDoorMEnt
import Derived.Deep.LoopGhost
import Derived.Deep.CutBlock
namespace Go.Proofs.YtennpdhnjaemeaaDoor
set_option linter.unusedVariables false
set_option maxRecDepth 100000
open Go.RowKit
/-- Where the law's count stands: all ahead are below. -/
theorem fromE_at : ∀ {l : List Ent} {n : ByteArray} {k : Nat}, k ≤ l.length → (∀ j e, j < k → l[j]? = some e → bl e.norm n) → (∀ e, l[k]? = some e → ¬ bl e.norm n) → l.drop k = fromE l n
  | [], n, k, _, _, _ => by simp [fromE]
  | x :: r, n, 0, _, _, h => by
    have h1 := h x rfl
    unfold fromE
    rw [List.dropWhile_cons, decide_eq_false h1]; rfl
  | x :: r, n, k + 1, hk, h1, h2 => by
    have h3 := h1 0 x (by omega) rfl
    have h4 := fromE_at (l := r) (n := n) (k := k) (by simpa using hk) (fun j e hj he => h1 (j + 1) e (by omega) (by simpa using he)) (fun e he => h2 e (by simpa using he))
    unfold fromE
    rw [List.dropWhile_cons, decide_eq_true h3, List.drop_succ_cons, h4]
    rfl
/-- What the law's count ends at. -/
structure CntAt (l : List Ent) (n : ByteArray) (k : Nat) : Prop where
  le : k ≤ l.length
  lo : ∀ j e, j < k → l[j]? = some e → bl e.norm n
set_option maxHeartbeats 8000000 in
theorem from_yes {K : Nat} {w : World} {g : Nat} {l : List Ent} {ps : List (List (List Ent))} {ss : List ByteArray} (h : TOk K w g l ps (ps.map pcB) ss) (v : Value) (hv : RdK encEnt 5 w v l) (n : ByteArray) :
    Calls Tryd.prog 19 #[.pointer (some ⟨g, 0, none⟩), v, .string n] w fun e w' => e = .returned (.bool true) ∧ Below w.heap.size w w' := by
  obtain ⟨a0, len0, cap0, rfl, hlen⟩ := rdK_len hv
  obtain ⟨a, len, cap, ha⟩ : ∃ a len cap, Value.slice a0 len0 cap0 = .slice a len cap := ⟨_, _, _, rfl⟩
  simp only [Value.slice.injEq] at ha
  obtain ⟨rfl, rfl, rfl⟩ := ha
  have hcap : len0 ≤ cap0 := by
    rcases RdK.len hv with ⟨a', c', e, h⟩
    simp only [Value.slice.injEq] at e
    obtain ⟨rfl, e2, rfl⟩ := e
    rcases h with h | ⟨h, -⟩
    · rw [hlen, h]; exact Nat.zero_le _
    · rw [hlen]; exact h
  have HF := Lib.hid (tfrom_any h n)
  have HV := Lib.hid hv
  have HLN := Lib.hid hlen
  have hlm : len0 ≤ 1000000 := by rw [hlen]; exact h.len
  have HAG : Hid (AllGood ps (ps.map pcB)) := Lib.hid rfl
  clear h hv hlen
  go_enter Tryd.func19, Tryd.ntmps19
  go_wp2_with fail
  refine HF.out.mono ?_
  rintro e w1 ⟨hr, b1⟩
  have hr2 : ∃ u, e = .returned (.tuple #[u, .int .i64 0]) ∧ RdK encEnt 5 w1 u (fromE l n) := by
    rcases hr with hr | ⟨hr, -⟩
    · exact hr
    · exact absurd HAG.out hr
  obtain ⟨u, rfl, hu⟩ := hr2
  obtain ⟨au, lu, cu, rfl, -⟩ := rdK_len hu
  have HU := Lib.hid hu
  have HB1 := Lib.hid b1
  clear hr hu b1 HF HAG
  go_wp2_with fail
  go_loopg [9] (len0 + 1) (fun kk vk wr => ∃ k : Nat, vk = .int .i64 (k : Int) ∧ k ≤ len0 ∧ len0 + 1 - k ≤ kk ∧ Hid (CntAt l n k) ∧ w1 = wr)
  case atStart => exact ⟨0, rfl, by omega, by omega, Lib.hid ⟨Nat.zero_le _, fun j e h => by omega⟩, rfl⟩
  case round =>
    obtain ⟨k, rfl, hk, hkk, HC, rfl⟩ := hrel
    have hk0 : (0 : Int) ≤ (k : Int) := by omega
    by_cases hd : ∃ e, l[k]? = some e ∧ bl e.norm n
    · obtain ⟨e, he, hb⟩ := hd
      have hkl : k < len0 := by rw [HLN.out]; exact (List.getElem?_eq_some_iff.1 he).1
      have hkl' : (k : Int) < (len0 : Int) := by omega
      obtain ⟨bb, ox, rfl, hblt, d0, d1, d2, d3, d4⟩ := (HV.out.below HB1.out).at5 HLN.out k e he
      have HC2 : Hid (CntAt l n (k + 1)) := Lib.hid ⟨by rw [← HLN.out]; omega, fun j x hj hx => by
        rcases Nat.lt_or_ge j k with h | h
        · exact HC.out.lo j x h hx
        · obtain rfl : j = k := by omega
          rw [he] at hx
          cases hx
          exact hb⟩
      obtain ⟨en, hen⟩ : ∃ x, e.norm = x := ⟨_, rfl⟩
      rw [hen] at d0 hb
      have hbs := bs_less en n hb
      clear he hb d1 d2 d3 d4 hen HC
      go_wp2_with fail
      go_roundg (len0 + 1 - (k + 1))
      case measure => omega
      case rel => exact ⟨k + 1, by go_num, by omega, Nat.le_refl _, HC2, rfl⟩
    · go_upto_region 3 with fail
      go_cut [28] (fun c wx => c = .bool false ∧ w1 = wx)
      case first =>
        as_aux_lemma =>
        by_cases hkl : k < len0
        · have hkl' : (k : Int) < (len0 : Int) := by omega
          obtain ⟨e, he⟩ : ∃ e, l[k]? = some e := ⟨l[k]'(by have := HLN.out; omega), List.getElem?_eq_getElem _⟩
          obtain ⟨bb, ox, rfl, hblt, d0, d1, d2, d3, d4⟩ := (HV.out.below HB1.out).at5 HLN.out k e he
          have hnb : ¬ bl e.norm n := fun h => hd ⟨e, he, h⟩
          obtain ⟨en, hen⟩ : ∃ x, e.norm = x := ⟨_, rfl⟩
          rw [hen] at d0 hnb
          have hbs := bs_not en n hnb
          clear he hnb d1 d2 d3 d4 hen HC hd
          go_wp2_with fail
          go_meet
          exact ⟨rfl, rfl⟩
        · have hkl' : ¬ (k : Int) < (len0 : Int) := by omega
          clear hd
          go_wp2_with fail
          go_meet
          exact ⟨rfl, rfl⟩
      case rest =>
      obtain ⟨rfl, rfl⟩ := hcut
      have hfd : l.drop k = fromE l n := fromE_at HC.out.le HC.out.lo fun e he hb => hd ⟨e, he, hb⟩
      have HRS := (HV.out.below HB1.out).rest k hk
      rw [hfd] at HRS
      have hsl := fun W => sl_l5b W a0 len0 cap0 k hk hcap
      generalize (if cap0 = k then a0 else a0.map (·.add (k * 5))) = T at HRS hsl
      obtain ⟨Q, hQ⟩ : ∃ Q, len0 - k = Q := ⟨_, rfl⟩
      obtain ⟨C, hC⟩ : ∃ C, cap0 - k = C := ⟨_, rfl⟩
      rw [hQ, hC] at HRS
      simp only [hQ, hC] at hsl
      have HEQ := Lib.hid (eqall_same _ _ (fromE l n) (by
        rw [← hfd, List.length_drop, ← HLN.out]; omega) w1 HU.out HRS)
      clear HRS hfd hQ hC hd HC
      go_wp2_with fail
      refine HEQ.out.mono ?_
      rintro e w2 ⟨rfl, b2⟩
      have HB2 := Lib.hid (HB1.out.trans (b2.mono HB1.out.size))
      clear b2 HEQ HB1
      go_wp2_with fail
      go_ret
      exact ⟨rfl, HB2.out⟩
end Go.Proofs.YtennpdhnjaemeaaDoor
