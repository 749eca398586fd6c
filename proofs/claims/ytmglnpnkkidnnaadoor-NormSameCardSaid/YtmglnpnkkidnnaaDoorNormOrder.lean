/- The walk of norm.order. -/
import Derived.Test.YtmglnpnkkidnnaaDoorSortStb
import Derived.Test.YtmglnpnkkidnnaaDoorOrdRow
import Derived.Test.YtmglnpnkkidnnaaDoorNormMath
namespace Go.Proofs.YtmglnpnkkidnnaaDoor
set_option linter.unusedVariables false
open Go.RowKit
/-- Where the round stands: D is in order, R as it was. -/
def OrdAt (L : List Int) (B : Nat) (w : World) (v : Value) (st : Nat) (D R : List Int) (wr : World) : Prop :=
  OwnC classP B wr v (D ++ R) ∧ Below B w wr ∧ ((st = D.length ∧ EndsLow classP D) ∨ (R = [] ∧ st = D.length + 1)) ∧ ∃ L1, L = L1 ++ R ∧ D = orderP classP L1
theorem ordAt_next {L : List Int} {D run R' L1 M : List Int} (hL : L = L1 ++ (run ++ R')) (hD : D = orderP classP L1) (hE : EndsLow classP D) (hpos : ∀ x ∈ run, 0 < classP x) (hM : Stb classP M run) :
    D ++ M = orderP classP (L1 ++ run) ∧ M.length = run.length := by
  refine ⟨?_, hM.2.length⟩
  have e : orderP classP (L1 ++ run) = ordF classP (orderP classP L1) run := ordF_app [] L1 run
  rw [e, ← hD, ordF_run hE run hpos, orderP_stb hpos hM]
theorem ends_low (Z : List Int) (z : Int) (h : classP z ≤ 0) : EndsLow classP (Z ++ [z]) := fun Y y e => by
  have : y = z := by have := congrArg List.getLast? e; simpa using this.symm
  rw [this]; exact h
theorem ordAt_sort {L : List Int} {B : Nat} {w wr : World} {g cap N st e : Nat} {D R : List Int} (h : OrdAt L B w (.slice (some ⟨g, 0, none⟩) N cap) st D R wr) (h1 : st = D.length) (h2 : EndsLow classP D) (h3 : D.length + R.length = N)
    (he1 : st ≤ e) (he2 : e ≤ N) (hN1 : N ≤ 100000) (hP : ∀ t, t < e - st → 0 < classP R[t]!) (hZ : e = N ∨ classP R[e - st]! ≤ 0) :
    Calls Tryd.prog 42 #[.slice (some ⟨g, st * 2, none⟩) (e - st) (cap - st), .func (.func 43) #[] #[]] wr fun ex w' => ex = .returned (.tuple #[]) ∧ ∃ D2 R2, Hid (OrdAt L B w (.slice (some ⟨g, 0, none⟩) N cap) (e + 1) D2 R2 w') := by
  obtain ⟨a1, a2, a3, L1, a4, a5⟩ := h
  obtain ⟨run, hrun⟩ : ∃ r, R.take (e - st) = r := ⟨_, rfl⟩
  obtain ⟨R', hR'⟩ : ∃ r, R.drop (e - st) = r := ⟨_, rfl⟩
  have eR : R = run ++ R' := by rw [← hrun, ← hR', List.take_append_drop]
  have lr : run.length = e - st := by rw [← hrun, List.length_take]; omega
  have hpos : ∀ x ∈ run, 0 < classP x := fun x hx => by
    rw [← hrun] at hx
    obtain ⟨t, ht, _, rfl⟩ := mem_take hx
    exact hP t ht
  rw [eR] at a1
  have hgl : g < wr.heap.size := by obtain ⟨cur, hb, _⟩ := a1.block; exact (Array.getElem?_eq_some_iff.1 hb).1
  have hc := sortStable_any classP g (D.length * 2) (cap - st) run.toArray wr a1.holds hgl (by simp; omega)
  rw [← h1, show run.toArray.size = e - st by simpa using lr] at hc
  refine hc.mono ?_
  rintro ex w' ⟨rfl, d', s1, s2, s3⟩
  refine ⟨rfl, ?_⟩
  rw [h1] at s3
  have hM : d'.toList.length = run.length := by simp [s2, lr]
  obtain ⟨o1, o2⟩ := a1.sorted (M := d'.toList) s3 rfl hM
  have hn := ordAt_next (L := L) (R' := R') (by rw [a4, eR]) a5 h2 hpos (show Stb classP d'.toList run from s1)
  have hB : Below B w w' := a2.trans o2
  cases hR2 : R' with
  | nil =>
    subst hR2
    have : e = N := by have := congrArg List.length eR; simp at this; omega
    refine ⟨D ++ d'.toList, [], Lib.hid ⟨by simpa using o1, hB, .inr ⟨rfl, ?_⟩, L1 ++ run, by rw [a4, eR]; simp, hn.1⟩⟩
    rw [List.length_append, hM]; omega
  | cons z R'' =>
    subst hR2
    have hz : classP z ≤ 0 := by
      rcases hZ with hZ | hZ
      · have := congrArg List.length eR; simp at this; omega
      · have : R[e - st]! = z := by
          rw [eR, ← lr, getElem!_pos _ run.length (by simp), List.getElem_append_right (Nat.le_refl _)]
          simp
        rwa [this] at hZ
    refine ⟨D ++ d'.toList ++ [z], R'', Lib.hid ⟨by simpa using o1, hB, .inl ⟨?_, ends_low _ _ hz⟩, L1 ++ run ++ [z], by rw [a4, eR]; simp, ?_⟩⟩
    · simp [hM]; omega
    · rw [orderP_snoc, ← hn.1, ins_starter hz]
set_option maxHeartbeats 2000000 in
set_option maxRecDepth 100000 in
theorem order_some (B : Nat) (w : World) (g cap N : Nat) (L : List Int) (h : OwnC classP B w (.slice (some ⟨g, 0, none⟩) N cap) L) (hl : L.length ≤ 100000) :
    Calls Tryd.prog 26 #[.slice (some ⟨g, 0, none⟩) N cap] w fun e w' => e = .returned (.tuple #[]) ∧ OwnC classP B w' (.slice (some ⟨g, 0, none⟩) N cap) (orderP classP L) ∧ Below B w w' := by
  obtain ⟨_, _, hN, hcap, hcm, _, hg, _⟩ := h.block
  have HO := Lib.hid h
  have HN : Hid (N = L.length) := hN
  have hNc : N ≤ cap := by omega
  have hN1 : N ≤ 100000 := by omega
  have HCM : Hid (cap ≤ maxLen) := hcm
  clear h hN hcap hl hcm
  go_enter Tryd.func26, Tryd.ntmps26
  go_wp2
  go_loopg [2, 3] (N + 1) (fun k vs ve wr => ∃ (st : Nat) (D R : List Int), vs = .int .i64 st ∧ st ≤ N + 1 ∧ N + 1 - st ≤ k ∧ Hid (OrdAt L B w (.slice (some ⟨g, 0, none⟩) N cap) st D R wr))
  case atStart => exact ⟨0, [], L, rfl, by omega, by omega, (show Hid _ from ⟨HO.out, Below.refl _ _, .inl ⟨rfl, fun Y y e => by simp at e⟩, [], rfl, rfl⟩)⟩
  case round =>
    obtain ⟨st, D, R, rfl, hst, hk, HA⟩ := hrel
    by_cases hlt : st < N
    · have hz : (st : Int) < (N : Int) := by omega
      have HD : Hid (st = D.length ∧ EndsLow classP D ∧ D.length + R.length = N) := by
        obtain ⟨a1, a2, a3, L1, a4, a5⟩ := HA.out
        have hlen : (D ++ R).length = N := by obtain ⟨_, _, hh, _⟩ := a1.block; exact hh.symm
        rw [List.length_append] at hlen
        rcases a3 with ⟨b1, b2⟩ | ⟨b1, b2⟩
        · exact ⟨b1, b2, hlen⟩
        · subst b1; simp at hlen; omega
      go_wp2
      go_loopg [3] (N - st) (fun k ve wr2 => ∃ (e : Nat), ve = .int .i64 e ∧ st ≤ e ∧ e ≤ N ∧ N - e ≤ k ∧ wr = wr2 ∧ Hid (∀ t, t < e - st → 0 < classP R[t]!))
      case atStart => exact ⟨st, rfl, by omega, by omega, by omega, rfl, (show Hid _ from fun t ht => by omega)⟩
      case round =>
        obtain ⟨e, rfl, he1, he2, hk2, rfl, HP⟩ := hrel
        by_cases heN : e < N
        · have hz2 : (e : Int) < (N : Int) := by omega
          obtain ⟨k, hk3⟩ : ∃ k, classP (D ++ R)[e]! = k := ⟨_, rfl⟩
          have c1 : wr.cell? ⟨g, e * 2 + 1, none⟩ = some (.int .i64 k) := by
            obtain ⟨cur, hb, hn, _, _, hsz, _, hc⟩ := HA.out.1.block
            have := hc (e * 2 + 1) (by omega)
            rw [show (e * 2 + 1) / 2 = e by omega, show (e * 2 + 1) % 2 = 1 by omega] at this
            simp only [World.cell?, hb, Option.isSome_none, Bool.false_eq_true, if_false]
            rw [this, ← hk3]; rfl
          have HK : Hid (classP R[e - st]! = k) := by
            show _ = _
            rw [← hk3]
            have := get_mid D R [] e (by have := HD.out; omega) (by have := HD.out; omega)
            rw [List.append_nil] at this
            rw [this, HD.out.1]
          clear hk3
          by_cases hpos : 0 < k
          · have hpd : decide (0 < k) = true := decide_eq_true hpos
            go_wp2
            go_roundg (N - (e + 1))
            case measure => omega
            case rel => exact ⟨e + 1, by go_num, by omega, by omega, Nat.le_refl _, rfl, (show Hid _ from fun t ht => by
              by_cases h : t < e - st
              · exact HP.out t h
              · rw [show t = e - st by omega, HK.out]; exact hpos)⟩
          · have hpd : decide (0 < k) = false := decide_eq_false hpos
            have HZ : Hid (e = N ∨ classP R[e - st]! ≤ 0) := Lib.hid (.inr (by rw [HK.out]; omega))
            have HT : Hid (Calls Tryd.prog 42 #[.slice (some ⟨g, st * 2, none⟩) (e - st) (cap - st), .func (.func 43) #[] #[]] wr fun ex w' => ex = .returned (.tuple #[]) ∧ ∃ D2 R2, Hid (OrdAt L B w (.slice (some ⟨g, 0, none⟩) N cap) (e + 1) D2 R2 w')) := ordAt_sort HA.out HD.out.1 HD.out.2.1 HD.out.2.2 he1 he2 hN1 HP.out (show _ from HZ.out)
            clear HP HZ
            go_wp2_with fail
            refine HT.out.mono ?_
            rintro ex w3 ⟨rfl, D2, R2, HA2⟩
            go_wp2
            go_roundg (N + 1 - (e + 1))
            case measure => omega
            case rel => exact ⟨e + 1, D2, R2, by go_num, by omega, Nat.le_refl _, HA2⟩
        · have hz2 : ¬ (e : Int) < (N : Int) := by omega
          have HZ : Hid (e = N ∨ classP R[e - st]! ≤ 0) := Lib.hid (.inl (by omega))
          have HT : Hid (Calls Tryd.prog 42 #[.slice (some ⟨g, st * 2, none⟩) (e - st) (cap - st), .func (.func 43) #[] #[]] wr fun ex w' => ex = .returned (.tuple #[]) ∧ ∃ D2 R2, Hid (OrdAt L B w (.slice (some ⟨g, 0, none⟩) N cap) (e + 1) D2 R2 w')) := ordAt_sort HA.out HD.out.1 HD.out.2.1 HD.out.2.2 he1 he2 hN1 HP.out (show _ from HZ.out)
          clear HP HZ
          go_wp2_with fail
          refine HT.out.mono ?_
          rintro ex w3 ⟨rfl, D2, R2, HA2⟩
          go_wp2
          go_roundg (N + 1 - (e + 1))
          case measure => omega
          case rel => exact ⟨e + 1, D2, R2, by go_num, by omega, Nat.le_refl _, HA2⟩
    · have hz : ¬ (st : Int) < (N : Int) := by omega
      go_wp2
      go_end0
      obtain ⟨a1, a2, a3, L1, a4, a5⟩ := HA.out
      have hlen : (D ++ R).length = N := by obtain ⟨_, _, hh, _⟩ := a1.block; exact hh.symm
      rw [List.length_append] at hlen
      have hR : R = [] := by
        rcases a3 with ⟨b1, b2⟩ | ⟨b1, b2⟩
        · exact List.eq_nil_of_length_eq_zero (by omega)
        · exact b1
      subst hR
      rw [List.append_nil] at a1 a4
      refine ⟨rfl, ?_, a2⟩
      rw [a4, ← a5]; exact a1
end Go.Proofs.YtmglnpnkkidnnaaDoor
