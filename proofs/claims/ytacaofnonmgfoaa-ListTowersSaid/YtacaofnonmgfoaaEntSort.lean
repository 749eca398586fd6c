/- The walks of Sorted, the code's and the reference's. -/
import Derived.Test.YtacaofnonmgfoaaEntLess
import Derived.Test.YtacaofnonmgfoaaTake
import Derived.RegionTactic
import Derived.Deep.LoopGhost
import Derived.Deep.DeepCutAuto
namespace Go.Proofs.Ytacaofnonmgfoaa
set_option linter.unusedVariables false
open Go.RowKit
/-- The five cells of an entry. -/
def AtE (w : World) (b o : Nat) (e : Ent) : Prop := w.cell? ⟨b, o, none⟩ = some (.string e.norm) ∧ w.cell? ⟨b, o + 1, none⟩ = some (.int .i64 e.seq) ∧ w.cell? ⟨b, o + 2, none⟩ = some (.int .i64 e.kind) ∧
  w.cell? ⟨b, o + 3, none⟩ = some (.string e.spell) ∧ w.cell? ⟨b, o + 4, none⟩ = some (.string e.val)
theorem AtE.under {w W : World} {b o : Nat} {e : Ent} (h : AtE w b o e) (hb : b < w.heap.size) (hW : Below w.heap.size w W) : AtE W b o e := by
  obtain ⟨h0, h1, h2, h3, h4⟩ := h
  exact ⟨(hW.cell (p := ⟨b, _, none⟩) hb).trans h0, (hW.cell (p := ⟨b, _, none⟩) hb).trans h1, (hW.cell (p := ⟨b, _, none⟩) hb).trans h2, (hW.cell (p := ⟨b, _, none⟩) hb).trans h3, (hW.cell (p := ⟨b, _, none⟩) hb).trans h4⟩
theorem rdK_len {w : World} {v : Value} {xs : List Ent} (h : RdK encEnt 5 w v xs) : ∃ a len cap, v = .slice a len cap ∧ len = xs.length := by
  rcases h with ⟨a, cap, h1, rfl⟩ | ⟨b, off, cap, h1, -⟩
  · exact ⟨a, 0, cap, h1, rfl⟩
  · exact ⟨_, _, cap, h1, rfl⟩
theorem RdK.at5 {w : World} {a : Option Addr} {len cap : Nat} {xs : List Ent} (h : RdK encEnt 5 w (.slice a len cap) xs) (hn : len = xs.length) (q : Nat) (x : Ent) (hx : xs[q]? = some x) :
    ∃ b off, a = some ⟨b, off, none⟩ ∧ b < w.heap.size ∧ AtE w b (off + q * 5) x := by
  rcases h with ⟨_, _, _, rfl⟩ | ⟨b, off, c, e, h1, h2, h3, h4, h5⟩
  · simp at hx
  · simp only [Value.slice.injEq] at e
    exact ⟨b, off, e.1, h4, h5 q 0 x hx (by decide), h5 q 1 x hx (by decide), h5 q 2 x hx (by decide), h5 q 3 x hx (by decide), h5 q 4 x hx (by decide)⟩
/-- All neighbours ahead of place i are in order. -/
def GoodTo (xs : List Ent) (i : Nat) : Prop := ∀ j (h : j + 1 < xs.length), j + 1 < i → ltE (xs[j]'(by omega)) xs[j + 1]
theorem goodTo_bad {xs : List Ent} {q : Nat} {x y : Ent} (hx : xs[q]? = some x) (hy : xs[q + 1]? = some y) (h : ltB x y = false) : srtB xs = false := by
  obtain ⟨h1, e1⟩ := List.getElem?_eq_some_iff.1 hx
  obtain ⟨h2, e2⟩ := List.getElem?_eq_some_iff.1 hy
  refine srtB_bad h2 ?_
  rw [e1, e2]
  exact of_decide_eq_false h
theorem goodTo_next {xs : List Ent} {q : Nat} {x y : Ent} (hg : GoodTo xs (q + 1)) (hx : xs[q]? = some x) (hy : xs[q + 1]? = some y) (h : ltB x y = true) : GoodTo xs (q + 1 + 1) := by
  intro j hj hlt
  obtain ⟨h1, e1⟩ := List.getElem?_eq_some_iff.1 hx
  obtain ⟨h2, e2⟩ := List.getElem?_eq_some_iff.1 hy
  rcases Nat.lt_or_ge j q with h3 | h3
  · exact hg j hj (by omega)
  · obtain rfl : j = q := by omega
    rw [e1, e2]
    exact of_decide_eq_true h
theorem goodTo_all {xs : List Ent} {i : Nat} (hg : GoodTo xs i) (hi : xs.length ≤ i) : srtB xs = true := srtB_good fun j hj => hg j hj (by omega)
set_option maxHeartbeats 4000000 in
set_option maxRecDepth 100000 in
theorem rsorted_any (v : Value) (xs : List Ent) (hl : xs.length ≤ 1000000) (w : World) (hrd : RdK encEnt 5 w v xs) :
    Calls Try.prog 13 #[v] w fun e w' => e = .returned (.bool (srtB xs)) ∧ Below w.heap.size w w' := by
  obtain ⟨V, hV⟩ : ∃ V, srtB xs = V := ⟨_, rfl⟩
  have HV := Lib.hid hV
  have HL := Lib.hid hl
  obtain ⟨a, len, cap, rfl, hlen⟩ := rdK_len hrd
  have HRD := Lib.hid hrd
  have HN := Lib.hid hlen
  have hlm : len ≤ 1000000 := by omega
  rw [hV]
  clear hV hrd hlen hl
  go_enter Try.func13, Try.ntmps13
  go_wp2_with fail
  go_loopg [2, 3] len (fun kk _ vi wr => ∃ i : Nat, vi = .int .i64 i ∧ 1 ≤ i ∧ i ≤ len + 1 ∧ len - i ≤ kk ∧ Hid (GoodTo xs i) ∧ Hid (Below w.heap.size w wr))
  case atStart => exact ⟨1, by go_num, by omega, by omega, by omega, Lib.hid (fun j h hj => by omega), Lib.hid (Below.refl _ _)⟩
  case round =>
    obtain ⟨j, rfl, hj1, hjn, hjk, HG, HB⟩ := hrel
    by_cases hj : j < len
    · obtain ⟨q, rfl⟩ : ∃ q, j = q + 1 := ⟨j - 1, by omega⟩
      obtain ⟨x, hx⟩ : ∃ x, xs[q]? = some x := ⟨xs[q]'(by have := HN.out; omega), List.getElem?_eq_getElem _⟩
      obtain ⟨y, hy⟩ : ∃ y, xs[q + 1]? = some y := ⟨xs[q + 1]'(by have := HN.out; omega), List.getElem?_eq_getElem _⟩
      obtain ⟨b, off, rfl, hblt, c1⟩ := (HRD.out.below HB.out).at5 HN.out q x hx
      obtain ⟨b', off', hbe, -, c2⟩ := (HRD.out.below HB.out).at5 HN.out (q + 1) y hy
      simp only [Option.some.injEq, Addr.mk.injEq] at hbe
      obtain ⟨rfl, rfl, -⟩ := hbe
      have HX := Lib.hid hx
      have HY := Lib.hid hy
      have C1 := Lib.hid c1
      have C2 := Lib.hid c2
      obtain ⟨r, hr⟩ : ∃ r, ltB x y = r := ⟨_, rfl⟩
      have HR := Lib.hid hr
      have HC : Hid (∀ w, Calls Try.prog 31 #[x.v, y.v] w fun e w' => e = .returned (.bool r) ∧ Below w.heap.size w w') := Lib.hid fun w => by rw [← hr]; exact rless_any x y w
      have HF : Hid (r = false → srtB xs = false) := Lib.hid fun h => goodTo_bad hx hy (by rw [← h]; exact hr)
      have HT : Hid (r = true → GoodTo xs (q + 1 + 1)) := Lib.hid fun h => goodTo_next HG.out hx hy (by rw [← h]; exact hr)
      clear hr
      obtain ⟨xn, xq, xk, xsp, xv⟩ := x
      obtain ⟨yn, yq, yk, ysp, yv⟩ := y
      have eq1 : ((q + 1 : Nat) : Int) - 1 = (q : Int) := by omega
      have eq2 : ((q + 1 : Nat) : Int) = (q : Int) + 1 := by omega
      have eq3 : (q : Int) + 1 - 1 = (q : Int) := by omega
      have wq : IntKind.i64.wrap (q : Int) = (q : Int) := by rw [IntKind.wrap_i64]; omega
      have bq0 : (0 : Int) ≤ (q : Int) := by omega
      have bq1 : (q : Int) + 1 < (len : Int) := by omega
      have bq3 : (0 : Int) ≤ (q : Int) + 1 := by omega
      have bq4 : ¬ (q : Int) + 1 < 0 := by omega
      have bq2 : (q : Int) < (len : Int) := by omega
      have tq : ((q : Int) + 1).toNat = q + 1 := by omega
      have hzj : ((q + 1 : Nat) : Int) < (len : Int) := by omega
      clear hx hy c1 c2 hj1 hjn
      go_wp2_with fail
      refine wp_region_held_drew (S := Below wr.heap.size wr) (by kernel_rfl) (Below.refl _ _).drew (fun hHeld => ?_)
      refine takeYes (i := 0) (k := 10) (v := .slice (some ⟨b, off, none⟩) len cap) rfl (by kernel_rfl) (by kernel_rfl) (by kernel_rfl) (by kernel_rfl) (fun _ _ _ h => h) (by kernel_rfl) ?_ (by assumption) ?_
      · intro W hSw; first | (go_simp; done) | go_simp
      try simp only [Act.put, List.setIfInBounds_toArray, List.set_cons_zero, List.set_cons_succ]
      refine takeYes (i := 1) (k := 11) (v := .int .i64 ((q : Int) + 1)) rfl (by kernel_rfl) (by kernel_rfl) (by kernel_rfl) (by kernel_rfl) (fun _ _ _ h => h) (by kernel_rfl) ?_ (by assumption) ?_
      · intro W hSw; first | (go_simp; done) | go_simp
      try simp only [Act.put, List.setIfInBounds_toArray, List.set_cons_zero, List.set_cons_succ]
      refine takeYes (i := 2) (k := 12) (v := .int .i64 (q : Int)) rfl (by kernel_rfl) (by kernel_rfl) (by kernel_rfl) (by kernel_rfl) (fun _ _ _ h => h) (by kernel_rfl) ?_ (by assumption) ?_
      · intro W hSw; first | (go_simp; done) | go_simp
      try simp only [Act.put, List.setIfInBounds_toArray, List.set_cons_zero, List.set_cons_succ]
      refine takeYes (i := 3) (k := 13) (v := .pointer (some ⟨b, off + q * 5, none⟩)) rfl (by kernel_rfl) (by kernel_rfl) (by kernel_rfl) (by kernel_rfl) (fun _ _ _ h => h) (by kernel_rfl) ?_ (by assumption) ?_
      · intro W hSw; first | (go_simp; done) | go_simp
      try simp only [Act.put, List.setIfInBounds_toArray, List.set_cons_zero, List.set_cons_succ]
      refine takeYes (i := 4) (k := 14) (v := .agg #[.string xn, .int .i64 xq, .int .i64 xk, .string xsp, .string xv]) rfl (by kernel_rfl) (by kernel_rfl) (by kernel_rfl) (by kernel_rfl) (fun _ _ _ h => h) (by kernel_rfl) ?_ (by assumption) ?_
      · intro W hSw; obtain ⟨d0, d1, d2, d3, d4⟩ := C1.out.under hblt hSw; first | (go_simp; done) | go_simp
      try simp only [Act.put, List.setIfInBounds_toArray, List.set_cons_zero, List.set_cons_succ]
      refine takeYes (i := 5) (k := 15) (v := .slice (some ⟨b, off, none⟩) len cap) rfl (by kernel_rfl) (by kernel_rfl) (by kernel_rfl) (by kernel_rfl) (fun _ _ _ h => h) (by kernel_rfl) ?_ (by assumption) ?_
      · intro W hSw; first | (go_simp; done) | go_simp
      try simp only [Act.put, List.setIfInBounds_toArray, List.set_cons_zero, List.set_cons_succ]
      refine takeYes (i := 6) (k := 16) (v := .int .i64 ((q : Int) + 1)) rfl (by kernel_rfl) (by kernel_rfl) (by kernel_rfl) (by kernel_rfl) (fun _ _ _ h => h) (by kernel_rfl) ?_ (by assumption) ?_
      · intro W hSw; first | (go_simp; done) | go_simp
      try simp only [Act.put, List.setIfInBounds_toArray, List.set_cons_zero, List.set_cons_succ]
      refine takeYes (i := 7) (k := 17) (v := .pointer (some ⟨b, off + (q + 1) * 5, none⟩)) rfl (by kernel_rfl) (by kernel_rfl) (by kernel_rfl) (by kernel_rfl) (fun _ _ _ h => h) (by kernel_rfl) ?_ (by assumption) ?_
      · intro W hSw; first | (go_simp; done) | go_simp
      try simp only [Act.put, List.setIfInBounds_toArray, List.set_cons_zero, List.set_cons_succ]
      refine takeYes (i := 8) (k := 18) (v := .agg #[.string yn, .int .i64 yq, .int .i64 yk, .string ysp, .string yv]) rfl (by kernel_rfl) (by kernel_rfl) (by kernel_rfl) (by kernel_rfl) (fun _ _ _ h => h) (by kernel_rfl) ?_ (by assumption) ?_
      · intro W hSw; obtain ⟨d0, d1, d2, d3, d4⟩ := C2.out.under hblt hSw; first | (go_simp; done) | go_simp
      try simp only [Act.put, List.setIfInBounds_toArray, List.set_cons_zero, List.set_cons_succ]
      refine wpAnyH_ready (rs := [9]) (by kernel_rfl) (by simp) (AllReadyH.cons rfl (fun K hK => ?_) AllReadyH.nil)
      go_simp
      refine (HC.out _).mono ?_
      rintro e w3 ⟨rfl, hb⟩
      have hb3 : Below wr.heap.size wr w3 := hHeld.trans (hb.mono (by simp))
      refine hK.out _ _ hb3 (fun hHeld2 => ?_)
      clear hK K hHeld hb
      try simp only [Act.put, List.setIfInBounds_toArray, List.set_cons_zero, List.set_cons_succ]
      have HB3 := Lib.hid (HB.out.trans (hb3.mono HB.out.size))
      cases r
      · refine takeYes (i := 10) (k := 20) (v := .bool true) rfl (by kernel_rfl) (by kernel_rfl) (by kernel_rfl) (by kernel_rfl) (fun _ _ _ h => h) (by kernel_rfl) ?_ (by assumption) ?_
        · intro W hSw; first | (go_simp; done) | go_simp
        try simp only [Act.put, List.setIfInBounds_toArray, List.set_cons_zero, List.set_cons_succ]
        refine wpAnyH_done (by kernel_rfl) ?_ _
        have HE := Lib.hid (HF.out rfl)
        clear HF HT HR HC hb3 hHeld2
        go_wp2_with fail
        go_ret
        exact ⟨ret_bool (by rw [← HV.out]; exact HE.out), HB3.out⟩
      · refine takeYes (i := 10) (k := 20) (v := .bool false) rfl (by kernel_rfl) (by kernel_rfl) (by kernel_rfl) (by kernel_rfl) (fun _ _ _ h => h) (by kernel_rfl) ?_ (by assumption) ?_
        · intro W hSw; first | (go_simp; done) | go_simp
        try simp only [Act.put, List.setIfInBounds_toArray, List.set_cons_zero, List.set_cons_succ]
        refine wpAnyH_done (by kernel_rfl) ?_ _
        have HE := Lib.hid (HT.out rfl)
        clear HF HT HR HC hb3 hHeld2
        go_wp2_with fail
        go_roundg (len - (q + 1 + 1))
        case measure => omega
        case rel => exact ⟨q + 1 + 1, by go_num, by omega, by omega, by omega, HE, HB3⟩
    · have HE := Lib.hid (goodTo_all HG.out (by have := HN.out; omega))
      have hd : decide (j < len) = false := decide_eq_false hj
      go_wp2_with fail
      go_ret
      exact ⟨ret_bool (by rw [← HV.out]; exact HE.out), HB.out⟩
end Go.Proofs.Ytacaofnonmgfoaa
