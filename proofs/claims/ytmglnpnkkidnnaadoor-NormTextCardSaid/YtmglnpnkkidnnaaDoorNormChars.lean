/- The walk of norm.Chars. -/
import Derived.Test.YtmglnpnkkidnnaaDoorNormApp
namespace Go.Proofs.YtmglnpnkkidnnaaDoor
set_option linter.unusedVariables false
open Go.RowKit
/-- Numbers that fit an int. -/
def IntOk (l : List Int) : Prop := ∀ c ∈ l, -9223372036854775808 ≤ c ∧ c ≤ 9223372036854775807
theorem apart_range {c : Int} (h : -9223372036854775808 ≤ c ∧ c ≤ 9223372036854775807) : IntOk (apartP c) := fun x hx => by
  unfold apartP at hx
  split at hx
  · have := split_parts c x hx; omega
  · split at hx
    · have := (vldB_iff x).1 ((map_facts c).1 x hx).2.2; omega
    · rw [List.mem_singleton.1 hx]; exact h
theorem NewRes.from {l : List Int} {w w1 w' : World} {e : Ending} (h : NewRes l w1 e w') (hb : Below w.heap.size w w1) : NewRes l w e w' := by
  obtain ⟨v, rfl, ho, hn, hb2⟩ := h
  exact ⟨v, rfl, ho.base hb.size, hn, hb.trans (hb2.mono hb.size)⟩
theorem getD_bang (l : List Int) (i : Nat) (h : i < l.length) : l.getD i 0 = l[i]! := by
  rw [getElem!_pos l i h, List.getD_eq_getElem?_getD, List.getElem?_eq_getElem h]; rfl
theorem OwnV.cellI {B : Nat} {w : World} {p m cap : Nat} {l : List Int} (h : OwnV 3 B w (.slice (some ⟨p, 0, none⟩) m cap) (l.map (Value.int .i64))) (k : Nat) (hk : k < l.length) : w.cell? ⟨p, k, none⟩ = some (.int .i64 l[k]!) := by
  rcases RdI.cases (xs := l) h.rd with ⟨a, c, h1, h2⟩ | ⟨b, off, c, h1, h2, h3, h4, h5, h6⟩
  · subst h2; simp at hk
  · simp only [Value.slice.injEq, Option.some.injEq, Addr.mk.injEq, and_true] at h1
    obtain ⟨⟨rfl, rfl⟩, -, -⟩ := h1
    have := h6 k hk
    rwa [Nat.zero_add, getD_bang l k hk] at this
/-- A slice that reads as l, to be walked. -/
theorem RdI.walk {w : World} {v : Value} {l : List Int} (h : RdI w v l) : ∃ a n cap, v = .slice a n cap ∧ n = l.length ∧ ∀ i, i < l.length → ∃ g off, a = some ⟨g, off, none⟩ ∧ g < w.heap.size ∧ w.cell? ⟨g, off + i, none⟩ = some (.int .i64 l[i]!) := by
  rcases h.cases with ⟨a, cap, rfl, rfl⟩ | ⟨b, off, cap, rfl, h2, h3, h4, h5, h6⟩
  · exact ⟨a, 0, cap, rfl, rfl, fun i hi => by simp at hi⟩
  · exact ⟨_, _, cap, rfl, rfl, fun i hi => ⟨b, off, rfl, h5, by rw [h6 i hi, getD_bang l i hi]⟩⟩
theorem flat_take (l : List Int) (i : Nat) (h : i < l.length) : (l.take (i + 1)).flatMap apartP = (l.take i).flatMap apartP ++ apartP l[i]! := by
  rw [take_at h, List.flatMap_append]; simp
theorem flat_le (l : List Int) (i : Nat) (h : i < l.length) : ((l.take i).flatMap apartP).length + (apartP l[i]!).length ≤ (l.flatMap apartP).length := by
  have e : l.flatMap apartP = (l.take (i + 1)).flatMap apartP ++ (l.drop (i + 1)).flatMap apartP := by rw [← List.flatMap_append, List.take_append_drop]
  rw [e, flat_take l i h, List.length_append, List.length_append]; omega
set_option maxHeartbeats 4000000 in
set_option maxRecDepth 100000 in
theorem chars_any (w : World) (v : Value) (l : List Int) (hv : RdI w v l) (hr : IntOk l) (hE : ErrAt w) (hSp : SpAt w) (hl : (l.flatMap apartP).length ≤ 100000) (hl2 : l.length ≤ 100000) :
    Calls Tryd.prog 13 #[v] w (NewRes (charsP l) w) := by
  obtain ⟨a, n, cap, rfl, hn, hc⟩ := hv.walk
  have HC := Lib.hid hc
  have HN : Hid (n = l.length) := hn
  have HR := Lib.hid hr
  have HES : Hid (∀ w', Below w.heap.size w w' → ErrAt w' ∧ SpAt w') := Lib.hid fun w' hb => ⟨hE.below hb, hSp.below hb hSp.1⟩
  have HL : Hid ((l.flatMap apartP).length ≤ 100000) := Lib.hid hl
  have hn1 : n ≤ 100000 := by omega
  clear hc hn hv hr hE hSp hl hl2
  go_enter Tryd.func13, Tryd.ntmps13
  go_wp2
  go_loopw [3, 10] (fun cv vi wr => ∃ (i : Nat), vi = .int .i64 i ∧ i ≤ n ∧ Hid (OwnC classP w.heap.size wr cv ((l.take i).flatMap apartP)) ∧ Below w.heap.size w wr) (fun _ vi _ => n - (intOf vi).toNat)
  case atStart => exact ⟨0, rfl, by omega, (show Hid _ from ⟨rfl, .inl ⟨rfl, rfl⟩⟩), Below.refl _ _⟩
  case round =>
    obtain ⟨i, rfl, hi, HO, hbel⟩ := hrel
    have hwr := hbel.size
    by_cases hlt : i < n
    · have hz : (i : Int) < (n : Int) := by omega
      have hil : i < l.length := by have := HN.out; omega
      obtain ⟨g, off, rfl, hg, c1⟩ := HC.out i hil
      have d1 : wr.cell? ⟨g, off + i, none⟩ = some (.int .i64 l[i]!) := (hbel.cell hg).trans c1
      clear c1
      have hrc := HR.out l[i]! (by rw [getElem!_pos l i hil]; exact List.getElem_mem hil)
      have hfl := Lib.hid (flat_le l i hil)
      have hft := Lib.hid (flat_take l i hil)
      have HIL := Lib.hid hil
      clear hil
      obtain ⟨c, hc⟩ : ∃ c, l[i]! = c := ⟨_, rfl⟩
      rw [hc] at d1 hrc hfl hft
      have HRP : Hid (IntOk (apartP c)) := Lib.hid (apart_range hrc)
      have HA : Hid (∀ w, ErrAt w → SpAt w → Calls Tryd.prog 24 #[.int .i64 c] w (NewRes (apartP c) w)) := Lib.hid fun w h1 h2 => apart_any c hrc.1 hrc.2 w h1 h2
      have HNE := Lib.hid (apart_len c)
      have HBL := Lib.hid hbel
      clear hc hrc
      generalize apartP c = parts at *
      go_wp2_with fail
      refine (HA.out _ (HES.out _ HBL.out).1 (HES.out _ HBL.out).2).mono ?_
      rintro e w2 ⟨v15, rfl, ho, hnil, hb2⟩
      obtain ⟨p, cap2, rfl, -⟩ : ∃ p cap2, v15 = .slice (some ⟨p, 0, none⟩) (parts.map (Value.int .i64)).length cap2 ∧ True := by
        rcases ho.nilOr with ⟨rfl, h⟩ | ⟨p, cap2, h, _⟩
        · exact absurd (by simpa using h) HNE.out.2
        · exact ⟨p, cap2, h, trivial⟩
      obtain ⟨m, hm⟩ : ∃ m, (parts.map (Value.int .i64)).length = m := ⟨_, rfl⟩
      rw [hm]
      rw [hm] at ho
      have HM : Hid (parts.length = m) := by show _ = _; rw [← hm]; simp
      have hm10 : m ≤ 10 := by have := HNE.out.1; have := HM.out; omega
      obtain ⟨Bp, hBp⟩ : ∃ b, wr.heap.size = b := ⟨_, rfl⟩
      rw [hBp] at ho
      have HP2 : Hid (OwnV 3 Bp w2 (.slice (some ⟨p, 0, none⟩) m cap2) (parts.map (Value.int .i64))) := Lib.hid ho
      have HO2 : Hid (OwnC classP w.heap.size w2 u3 ((l.take i).flatMap apartP)) := Lib.hid (HO.out.below hb2)
      have hbel2 : Below w.heap.size w w2 := hbel.trans (hb2.mono hwr)
      obtain ⟨X, hX⟩ : ∃ X, (l.take i).flatMap apartP = X := ⟨_, rfl⟩
      rw [hX] at HO2 hfl hft
      clear hX hm ho hnil hb2 HO hbel HA d1 hBp
      go_wp2
      go_loopw [3, 17] (fun cv vk wr2 => ∃ (k : Nat), vk = .int .i64 k ∧ k ≤ m ∧ Hid (OwnC classP w.heap.size wr2 cv (X ++ parts.take k)) ∧ Below w.heap.size w wr2 ∧ Hid (OwnV 3 Bp wr2 (.slice (some ⟨p, 0, none⟩) m cap2) (parts.map (Value.int .i64)))) (fun _ vk _ => m - (intOf vk).toNat)
      case atStart => exact ⟨0, rfl, by omega, (show Hid _ from by show OwnC _ _ _ _ _; simpa using HO2.out), hbel2, HP2⟩
      case round =>
        clear HO2 HP2 hbel2
        obtain ⟨k, rfl, hk, HO, hbel, HP⟩ := hrel
        by_cases hkm : k < m
        · have hz2 : (k : Int) < (m : Int) := by omega
          have hkl : k < parts.length := by have := HM.out; omega
          have d2 := HP.out.cellI k hkl
          have hrc := HRP.out parts[k]! (by rw [getElem!_pos parts k hkl]; exact List.getElem_mem hkl)
          have HT := Lib.hid (take_at hkl)
          obtain ⟨c', hc'⟩ : ∃ c, parts[k]! = c := ⟨_, rfl⟩
          rw [hc'] at d2 hrc HT
          have HK : Hid (∀ w, ErrAt w → Calls Tryd.prog 25 #[.int .i64 c'] w (IntRes (classP c') w)) := Lib.hid fun w h => class_any c' hrc.1 hrc.2 w h
          have HBL2 := Lib.hid hbel
          clear hc' hrc hkl
          go_wp2_with fail
          refine (HK.out _ (HES.out _ HBL2.out).1).mono ?_
          rintro e w3 ⟨rfl, hb3⟩
          have hw3 : w.heap.size ≤ w3.heap.size := Nat.le_trans hbel.size hb3.size
          have HO3 : Hid (OwnC classP w.heap.size w3 u3 (X ++ parts.take k)) := Lib.hid (HO.out.below hb3)
          have HP3 : Hid (OwnV 3 Bp w3 (.slice (some ⟨p, 0, none⟩) m cap2) (parts.map (Value.int .i64))) := Lib.hid (HP.out.keepI (KeepI.below hb3))
          have HB3 : Hid (Below w.heap.size w w3) := Lib.hid (hbel.trans (hb3.mono hbel.size))
          have HLN : Hid ((X ++ parts.take k).length ≤ 1000000) := Lib.hid (by rw [List.length_append, List.length_take]; have := hfl.out; have := HL.out; omega)
          clear HO HP hbel hb3 HK d2
          go_wp2_with (at_builtin; refine wp_appC _ _ (by rfl) (by rfl) (by rfl) HO3.out c' (by rfl) HLN.out hw3 ?_)
          intro v' w4 hown4 hbel4 hkeep4
          have HO4 : Hid (OwnC classP w.heap.size w4 v' (X ++ parts.take (k + 1))) := Lib.hid (by rw [HT.out]; simpa using hown4)
          have HB4 : Below w.heap.size w w4 := HB3.out.trans hbel4
          have HP4 : Hid (OwnV 3 Bp w4 (.slice (some ⟨p, 0, none⟩) m cap2) (parts.map (Value.int .i64))) := Lib.hid (HP3.out.keepI hkeep4)
          clear hown4 hkeep4 hbel4
          go_wp2
          go_roundw
          case rel => exact ⟨k + 1, by go_num, by omega, HO4, HB4, HP4⟩
          case measure => simp only [intOf]; omega
        · have hz2 : ¬ (k : Int) < (m : Int) := by omega
          have HO5 : Hid (OwnC classP w.heap.size wr u3 ((l.take (i + 1)).flatMap apartP)) := Lib.hid (by
            rw [hft.out]
            have := HO.out
            rwa [List.take_of_length_le (by have := HM.out; omega)] at this)
          clear HO HP
          go_wp2
          go_roundw
          case rel => exact ⟨i + 1, by go_num, by omega, HO5, hbel⟩
          case measure => simp only [intOf]; omega
    · have hz : ¬ (i : Int) < (n : Int) := by omega
      have HO2 : Hid (OwnC classP w.heap.size wr u3 (l.flatMap apartP)) := Lib.hid (by
        have := HO.out
        rwa [List.take_of_length_le (by have := HN.out; omega)] at this)
      have HQ := Lib.hid (order_any w.heap.size wr u3 _ HO2.out HL.out)
      clear HO
      go_wp2_with fail
      refine HQ.out.mono ?_
      rintro e w2 ⟨rfl, ho, hb2⟩
      have HNum := Lib.hid (numbers_any w.heap.size w2 u3 _ ho (by rw [orderP_len]; exact HL.out))
      have hb := hbel.trans hb2
      clear ho hb2 hbel HQ HO2
      go_wp2_with fail
      refine HNum.out.mono ?_
      intro e w3 hres
      have := hres.from hb
      obtain ⟨v', rfl, h1, h2, h3⟩ := this
      have HF : Hid (NewRes (charsP l) w (.returned v') w3) := Lib.hid ⟨v', rfl, h1, h2, h3⟩
      clear h1 h2 h3 hres hb
      go_wp2_with fail
      go_ret
      exact HF.out
end Go.Proofs.YtmglnpnkkidnnaaDoor
