/- The walk of without: tables go by their numbers. -/
import Derived.Test.YtjloaamaelcmaaaFilDel
import Derived.Test.YtjloaamaelcmaaaVerFnd
import Derived.Deep.LoopGhost
namespace Go.Proofs.Ytjloaamaelcmaaa
set_option linter.unusedVariables false
set_option maxRecDepth 100000
open Go.RowKit
theorem eraseP_at {p : Tbf → Prop} [DecidablePred p] : ∀ {l : List Tbf} {j : Nat} {x : Tbf}, l[j]? = some x → p x → (∀ (m : Nat) (y : Tbf), m < j → l[m]? = some y → ¬ p y) → l.eraseP (fun f => decide (p f)) = l.eraseIdx j
  | [], j, x, h, _, _ => by simp at h
  | f :: r, 0, x, h, hp, _ => by
    have h : f = x := by simpa using h
    subst h
    rw [List.eraseP_cons_of_pos (by simpa using hp)]; rfl
  | f :: r, j + 1, x, h, hp, hn => by
    have hf : ¬ p f := hn 0 f (by omega) rfl
    rw [List.eraseP_cons_of_neg (by simpa using hf), List.eraseIdx_cons_succ, eraseP_at (l := r) (j := j) (by simpa using h) hp fun m y hm hy => hn (m + 1) y (by omega) (by simpa using hy)]
/-- What without answers: the tables that are left, or none. -/
def WoutTo (w : World) (r : Option (List Tbf)) (e : Ending) (w' : World) : Prop := ∃ u, e = .returned (.tuple #[u, .bool r.isSome]) ∧ (∀ ys, r = some ys → OwnK encTbf 5 43 w.heap.size w' u ys) ∧ (r = none → u = .slice none 0 0) ∧ Below w.heap.size w w'
theorem vDels_len : ∀ {ns : List Int} {l m : List Tbf}, vDels l ns = some m → m.length ≤ l.length := fun h => (vDels_sub h).length_le
set_option maxHeartbeats 8000000 in
theorem wout_any (v vd : Value) (xs : List Tbf) (ns : List Int) (hl : xs.length ≤ 1000000) (hn : ns.length ≤ 1000000000) (w : World) (h : RdK encTbf 5 w v xs) (hd : RdV w vd (ns.map encI64)) :
    Calls Try.prog 42 #[v, vd] w (WoutTo w (vDels xs ns)) := by
  obtain ⟨R, hR⟩ : ∃ R, vDels xs ns = R := ⟨_, rfl⟩
  rw [hR]
  have HR := Lib.hid hR
  have HD := Lib.hid hd
  have HC := Lib.hid (fclone_any v xs w h (by omega))
  obtain ⟨a, cap, rfl, -⟩ := edFl_len h
  obtain ⟨ad, cd, rfl⟩ := edInts_len hd
  obtain ⟨N, hN⟩ : ∃ N, ns.length = N := ⟨_, rfl⟩
  have HN := Lib.hid (And.intro hN hl)
  rw [hN] at HD hn ⊢
  clear h hd hR hN hl
  unfold WoutTo
  go_enter Try.func42, Try.ntmps42
  go_wp2_with fail
  refine HC.out.mono ?_
  rintro e w1 ⟨u, rfl, ho, hb⟩
  obtain ⟨au, cu, rfl⟩ := fil_form ho
  obtain ⟨nu, hnu⟩ : ∃ n, xs.length = n := ⟨_, rfl⟩
  have HO := Lib.hid (And.intro ho hb)
  have HNU := Lib.hid hnu
  rw [hnu]
  rw [hnu] at HO
  clear ho hb HC hnu
  go_wp2_with fail
  go_loopg [6, 8, 9, 14] N (fun kk vl _ _ vi wr => ∃ (i : Nat) (ys : List Tbf) (al : Option Addr) (nl cl : Nat), vi = .int .i64 (i : Int) ∧ vl = .slice al nl cl ∧ i ≤ N ∧ N - i ≤ kk ∧ nl ≤ 1000000 ∧ Hid (ys.length = nl) ∧ Hid (OwnK encTbf 5 43 w.heap.size wr (.slice al nl cl) ys) ∧ Hid (vDels ys (ns.drop i) = R) ∧ Hid (Below w.heap.size w wr))
  case atStart => exact ⟨0, xs, au, nu, cu, rfl, rfl, by omega, by omega, by have := HN.out.2; have := HNU.out; omega, HNU, Lib.hid HO.out.1, Lib.hid (by rw [List.drop_zero]; exact HR.out), Lib.hid HO.out.2⟩
  case round =>
    clear HO HNU
    obtain ⟨q, ys, al, nl, cl, rfl, rfl, hq, hqk, hnl, HL, HY, HV, HB⟩ := hrel
    have hd0 : (0 : Int) ≤ (q : Int) := by omega
    by_cases h1 : q < N
    · have hd1 : (q : Int) < (N : Int) := by omega
      obtain ⟨k, hk⟩ : ∃ k, ns[q]? = some k := ⟨ns[q]'(by have := HN.out.1; omega), List.getElem?_eq_getElem _⟩
      obtain ⟨bd, od, rfl, hblt, d0⟩ := edInts_at (RdV.below HD.out HB.out) q k hk
      have HF := Lib.hid (vfind_any (.slice al nl cl) k ys (by have := HL.out; omega) wr (HY.out.rd encTbf_len))
      have HK : Hid (vDels ys (k :: ns.drop (q + 1)) = R) := Lib.hid (by
        have e : ns.drop q = k :: ns.drop (q + 1) := by
          rw [List.drop_eq_getElem_cons (by have := HN.out.1; omega)]
          congr 1
          have := (List.getElem?_eq_some_iff.1 hk).2
          exact this
        rw [← e]; exact HV.out)
      clear hk HV
      go_wp2_with fail
      refine HF.out.mono ?_
      rintro e w2 ⟨i, rfl, hi, hb⟩
      have HB2 := Lib.hid (HB.out.trans (hb.mono HB.out.size))
      have HY2 := Lib.hid (HY.out.below hb)
      have HI := Lib.hid hi
      clear hi hb HF HY HB d0
      by_cases hneg : i < 0
      · have HX : Hid (R = none) := Lib.hid (by
          rw [← HK.out, vDels, if_neg]
          rintro ⟨f, hf, e⟩
          have := (HI.out.bd).2.2.2 ⟨f, hf, e⟩
          omega)
        clear HI HK
        go_wp2_with fail
        go_ret2
        rw [HX.out]
        exact ⟨_, rfl, fun ys h => by simp at h, fun _ => rfl, HB2.out⟩
      · obtain ⟨j, x, rfl, HJ⟩ : ∃ (j : Nat) (x : Tbf), i = (j : Int) ∧ Hid (ys[j]? = some x ∧ x.num = k ∧ ∀ (m : Nat) (y : Tbf), m < j → ys[m]? = some y → ¬ y.num = k) := by
          rcases HI.out with ⟨j, x, e, h1, h2, h3⟩ | ⟨e, -⟩
          · exact ⟨j, x, e, Lib.hid ⟨h1, h2, h3⟩⟩
          · omega
        have hjl : j < nl := by have := (List.getElem?_eq_some_iff.1 HJ.out.1).1; have := HL.out; omega
        obtain ⟨g, rfl⟩ : ∃ g, al = some ⟨g, 0, none⟩ := by
          rcases HY2.out.blk with ⟨e, e2⟩ | ⟨g, c, cur, e, -⟩
          · have := HL.out; rw [e2] at this; simp at this; omega
          · simp only [Value.slice.injEq] at e; exact ⟨g, e.1⟩
        obtain ⟨m, hm⟩ : ∃ m, nl = m + 1 := ⟨nl - 1, by omega⟩
        have HDL := Lib.hid (fdel_any HY2.out j hjl hm (by omega))
        have HM : Hid (w.heap.size ≤ g) := Lib.hid (by
          obtain ⟨cur, -, -, -, -, -, h, -⟩ := HY2.out.blockS; exact h)
        have hm1 : m ≤ 1000000 := by omega
        have HE : Hid ((ys.eraseIdx j).length = m) := Lib.hid (by rw [List.length_eraseIdx, if_pos (by have := HL.out; omega)]; have := HL.out; omega)
        have HV2 : Hid (vDels (ys.eraseIdx j) (ns.drop (q + 1)) = R) := Lib.hid (by
          rw [← HK.out, vDels, if_pos ⟨x, List.mem_of_getElem? HJ.out.1, HJ.out.2.1⟩]
          unfold vDel
          rw [eraseP_at (p := fun f => f.num = k) HJ.out.1 HJ.out.2.1 HJ.out.2.2])
        clear HI HK HJ hm HY2
        have hjp : (0 : Int) ≤ (j : Int) := by omega
        have hjb : (j : Int) ≤ 1000000 := by omega
        go_wp2_with fail
        refine HDL.out.mono ?_
        rintro e w3 ⟨rfl, ho, hu⟩
        have HO3 := Lib.hid ho
        have HB3 := Lib.hid (HB2.out.trans (UpdF.below hu HB2.out.size fun i hi e => by have := HM.out; omega))
        clear ho hu HDL HB2
        go_wp2_with fail
        go_roundg (N - (q + 1))
        case measure => omega
        case rel => exact ⟨q + 1, _, _, m, cl, by go_num, rfl, by omega, Nat.le_refl _, hm1, HE, HO3, HV2, HB3⟩
    · have hd1 : ¬ (q : Int) < (N : Int) := by omega
      have HX : Hid (R = some ys) := Lib.hid (by
        rw [← HV.out, List.drop_of_length_le (by have := HN.out.1; omega)]; rfl)
      clear HV
      go_wp2_with fail
      go_ret2
      rw [HX.out]
      exact ⟨_, rfl, fun zs h => by obtain rfl := Option.some.inj h; exact HY.out, fun h => by simp at h, HB.out⟩
end Go.Proofs.Ytjloaamaelcmaaa
