/- The reference's version in memory. -/
import Derived.Test.YtgdmmhdihgajkaaMVerB
import Derived.Test.YtgdmmhdihgajkaaMBase
import Derived.Test.YtgdmmhdihgajkaaMVerA
import Derived.Test.YtgdmmhdihgajkaaMVerC
import Derived.Test.YtgdmmhdihgajkaaMEdtR
import Derived.Deep.LoopGhost
import Derived.Deep.CutBlock
import Derived.Deep.DeepCutAuto
import Derived.Deep.QuietTactic
import Derived.BigQuiet
namespace Go.Proofs.Ytgdmmhdihgajkaa
set_option linter.unusedVariables false
set_option maxRecDepth 100000
open Go.RowKit
/-- Block c holds the reference's version V. -/
structure RefAt (B : Nat) (w : World) (c : Nat) (V : Ver) : Prop where
  blk : ∃ fv : Value, BlkAt w c #[fv, .int .i64 V.nx, .int .i64 V.lg, .int .i64 V.ls] 54 ∧ OwnK encTbf 5 49 B w fv V.fs
  good : GoodV V
theorem RefAt.lt {B : Nat} {w : World} {c : Nat} {V : Ver} (h : RefAt B w c V) : c < w.heap.size := by obtain ⟨fv, h, -⟩ := h.blk; exact h.lt
theorem RefAt.below {B : Nat} {w w' : World} {c : Nat} {V : Ver} (h : RefAt B w c V) (u : Below w.heap.size w w') : RefAt B w' c V := by
  obtain ⟨⟨fv, h1, h2⟩, h3⟩ := h
  exact ⟨⟨fv, h1.below u, h2.below u⟩, h3⟩
theorem RefAt.aside {B : Nat} {w w' : World} {b c : Nat} {V : Ver} {vs : Array Value} {t : TypeId} (h : RefAt B w c V) (u : UpdF (fun j => j = b) w w') (hb : BlkAt w b vs t) (ht : t ≠ 49) (ht2 : t ≠ 54) : RefAt B w' c V := by
  obtain ⟨⟨fv, h1, h2⟩, h3⟩ := h
  refine ⟨⟨fv, (u.block c h1.lt fun e => ?_).trans h1, h2.asideT u hb ht⟩, h3⟩
  subst e
  unfold BlkAt at h1 hb
  rw [h1] at hb
  simp only [Option.some.injEq, Obj.cells.injEq] at hb
  exact ht2 hb.2.1.symm
end Go.Proofs.Ytgdmmhdihgajkaa
/- The reference's num and Level. -/
namespace Go.Proofs.Ytgdmmhdihgajkaa
set_option linter.unusedVariables false
set_option maxRecDepth 100000
open Go.RowKit
set_option maxHeartbeats 4000000 in
theorem rnum_any (v : Value) (k : Int) (xs : List Tbf) (hl : xs.length ≤ 1000000000000) (w : World) (h : RdK encTbf 5 w v xs) :
    Calls Try.prog 31 #[v, .int .i64 k] w fun e w' => ∃ i : Int, e = .returned (.int .i64 i) ∧ IdxAt (fun f => f.num = k) xs i ∧ w' = w := by
  obtain ⟨a, cap, rfl, -⟩ := edFl_len h
  have HRD := Lib.hid h
  obtain ⟨N, hN⟩ : ∃ N, xs.length = N := ⟨_, rfl⟩
  have HN := Lib.hid hN
  rw [hN] at HRD hl ⊢
  clear h hN
  go_enter Try.func31, Try.ntmps31
  go_wp2_with fail
  go_loopg [5] N (fun kk vi wr => ∃ i : Nat, vi = .int .i64 (i : Int) ∧ i ≤ N ∧ N - i ≤ kk ∧ Hid (∀ (j : Nat) (x : Tbf), j < i → xs[j]? = some x → ¬ x.num = k) ∧ w = wr)
  case atStart => exact ⟨0, rfl, by omega, by omega, Lib.hid (fun j x hj => by omega), rfl⟩
  case round =>
    obtain ⟨q, rfl, hq, hkk, HG, rfl⟩ := hrel
    by_cases h1 : q < N
    · have hd1 : (q : Int) < (N : Int) := by omega
      have hd0 : (0 : Int) ≤ (q : Int) := by omega
      obtain ⟨x, hx⟩ : ∃ x, xs[q]? = some x := ⟨xs[q]'(by have := HN.out; omega), List.getElem?_eq_getElem _⟩
      obtain ⟨b, off, rfl, hblt, d0, d1, d2, d3, d4⟩ := HRD.out.atTbf q x hx
      have HX := Lib.hid hx
      clear hx
      by_cases hk : x.num = k
      · have HF : Hid (IdxAt (fun f => f.num = k) xs (q : Int)) := Lib.hid (.inl ⟨q, _, rfl, HX.out, hk, HG.out⟩)
        have e : (x.num == k) = true := by simp [hk]
        clear HX HG hk
        go_wp2_with fail
        go_ret
        exact ⟨_, rfl, HF.out, rfl⟩
      · have HG2 : Hid (∀ (j : Nat) (x : Tbf), j < q + 1 → xs[j]? = some x → ¬ x.num = k) := Lib.hid fun j y hj hy => by
          rcases Nat.lt_or_ge j q with h | h
          · exact HG.out j y h hy
          · obtain rfl : j = q := by omega
            rw [HX.out] at hy
            obtain rfl := Option.some.inj hy
            exact hk
        have e : (x.num == k) = false := by simp [hk]
        clear HX HG hk
        go_wp2_with fail
        go_roundg (N - (q + 1))
        case measure => omega
        case rel => exact ⟨q + 1, by go_num, by omega, Nat.le_refl _, HG2, rfl⟩
    · have hd1 : ¬ (q : Int) < (N : Int) := by omega
      have HF : Hid (IdxAt (fun f => f.num = k) xs (-1)) := Lib.hid (.inr ⟨rfl, fun x hx hb => by
        obtain ⟨j, hj, rfl⟩ := List.getElem_of_mem hx
        exact absurd hb (HG.out j _ (by have := HN.out; omega) (List.getElem?_eq_getElem hj))⟩)
      clear HG
      go_wp2_with fail
      go_ret
      exact ⟨_, rfl, HF.out, rfl⟩
theorem vInto_at (n : Int) (f : Tbf) : ∀ (l : List Tbf) (k : Nat), (∀ (m : Nat) (y : Tbf), m < k → l[m]? = some y → vBef n y f) → (∀ y, l[k]? = some y → ¬ vBef n y f) → k ≤ l.length → vInto n f l = l.take k ++ f :: l.drop k
  | [], k, _, _, h => by
    obtain rfl : k = 0 := by simpa using h
    rfl
  | g :: r, 0, _, h2, _ => by
    unfold vInto
    rw [if_neg (h2 g rfl)]; rfl
  | g :: r, k + 1, h1, h2, h => by
    unfold vInto
    rw [if_pos (h1 0 g (by omega) rfl), vInto_at n f r k (fun m y hm hy => h1 (m + 1) y (by omega) (by simpa using hy)) (fun y hy => h2 y (by simpa using hy)) (by simpa using h)]
    rfl
/-- A level of the first i tables. -/
def lvUp (n : Int) (F : List Tbf) (i : Nat) : List Tbf := ((F.take i).filter fun f => decide (f.lvl = n)).foldl (fun s f => vInto n f s) []
theorem lvUp_yes {n : Int} {F : List Tbf} {i : Nat} {f : Tbf} (hf : F[i]? = some f) (h : f.lvl = n) : lvUp n F (i + 1) = vInto n f (lvUp n F i) := by
  unfold lvUp
  rw [List.take_add_one, hf, List.filter_append]
  simp [h]
theorem lvUp_no {n : Int} {F : List Tbf} {i : Nat} {f : Tbf} (hf : F[i]? = some f) (h : ¬ f.lvl = n) : lvUp n F (i + 1) = lvUp n F i := by
  unfold lvUp
  rw [List.take_add_one, hf, List.filter_append]
  simp [h]
theorem lvUp_all {n : Int} {F : List Tbf} {i : Nat} (h : F.length ≤ i) : lvUp n F i = levelV n F := by
  unfold lvUp levelV
  rw [List.take_of_length_le h]
theorem lvUp_len (n : Int) (F : List Tbf) (i : Nat) : (lvUp n F i).length ≤ i := by
  have h := (vFold_perm n ((F.take i).filter fun f => decide (f.lvl = n)) []).length_eq
  have h2 : ((F.take i).filter fun f => decide (f.lvl = n)).length ≤ (F.take i).length := List.length_filter_le _ _
  rw [List.length_take] at h2
  rw [List.nil_append] at h
  unfold lvUp
  omega
/-- The two appends that lay f between the first j tables and the others. -/
theorem fins_run {w : World} {a : Option Addr} {n cap : Nat} {xs : List Tbf} (h : RdK encTbf 5 w (.slice a n cap) xs) (hn : n = xs.length) {B : Nat} (hB : B ≤ w.heap.size) (j : Nat) (hj : j ≤ n) (hx : xs.length ≤ 1000000) (e : Tbf) :
    ∃ v1 w1, (Builtin.append_ #[30, 30] 30 #[.slice (some ⟨w.heap.size, 0, none⟩) 1 1, .slice (if cap = j then a else a.map (·.add (j * 5))) (n - j) (cap - j)]).run Try.prog (w.alloc (.cells (encTbf e).toArray 49)).drew = .ok v1 w1 ∧ Below w.heap.size w w1 ∧
      ∃ v2 w2, (Builtin.append_ #[30, 30] 30 #[.slice a j j, v1]).run Try.prog w1 = .ok v2 w2 ∧ Below w.heap.size w w2 ∧ OwnK encTbf 5 49 B w2 v2 (xs.take j ++ e :: xs.drop j) := by
  have hal : Below w.heap.size w (w.alloc (.cells (encTbf e).toArray 49)).drew := ((Below.refl _ w).alloc (Nat.le_refl _) _).drew
  have hT := (h.rest j hj).below hal
  have hO : OwnK encTbf 5 49 w.heap.size (w.alloc (.cells (encTbf e).toArray 49)).drew (.slice (some ⟨w.heap.size, 0, none⟩) 1 1) [e] := own_oneK (E := 49) encTbf_len w e
  obtain ⟨v1, w1, r1, o1, b1⟩ := run_appK (ty := 30) elem_tbf encTbf_len hO hT (encTbf_one _) (by rw [List.length_drop]; simp; omega) (by rw [List.length_drop]; simp [maxLen]; omega) (by simp [World.drew])
  have B1 : Below w.heap.size w w1 := hal.trans b1
  obtain ⟨f1, f2, f3⟩ := h.front j hj
  have hF := f1.below B1
  obtain ⟨v2, w2, r2, o2, b2⟩ := run_appFK (ty := 30) elem_tbf encTbf_len (B := B) hF (a := a) (by rw [f2]) f3 (o1.rd encTbf_len) (by simp) (by rw [f2, List.length_append, List.length_drop]; simp; omega) (by rw [f2, List.length_append, List.length_drop]; simp [maxLen]; omega) (Nat.le_trans hB B1.size)
  exact ⟨v1, w1, r1, B1, v2, w2, r2, B1.trans (b2.mono B1.size), o2⟩
theorem vBef_zero {f g : Tbf} : vBef 0 f g ↔ g.num < f.num := by
  unfold vBef
  constructor
  · rintro (⟨-, h⟩ | ⟨h, -⟩)
    · exact h
    · omega
  · intro h; exact .inl ⟨rfl, h⟩
theorem vBef_pos {n : Int} (hn : 0 < n) {f g : Tbf} : vBef n f g ↔ bl f.lo g.lo := by
  unfold vBef
  constructor
  · rintro (⟨h, -⟩ | ⟨-, h⟩)
    · omega
    · exact h
  · intro h; exact .inr ⟨hn, h⟩
set_option maxHeartbeats 16000000 in
theorem rlevel_any {w : World} {c : Nat} {fv : Value} {nx lg ls : Int} {F : List Tbf} (hc : BlkAt w c #[fv, .int .i64 nx, .int .i64 lg, .int .i64 ls] 54) (hr : RdK encTbf 5 w fv F) (hl : F.length ≤ 1000) (n : Int) (hn : 0 ≤ n) :
    Calls Try.prog 18 #[.pointer (some ⟨c, 0, none⟩), .int .i64 n] w (FilsTo w (levelV n F)) := by
  obtain ⟨R, hR⟩ : ∃ R, levelV n F = R := ⟨_, rfl⟩
  rw [hR]
  have HR := Lib.hid hR
  obtain ⟨aF, cF, rfl, -⟩ := edFl_len hr
  have HC := Lib.hid hc
  have HRD := Lib.hid hr
  obtain ⟨N, hN⟩ : ∃ N, F.length = N := ⟨_, rfl⟩
  have HN := Lib.hid hN
  rw [hN] at HC HRD hl
  have HNN := Lib.hid hn
  clear hc hr hN hR hn
  unfold FilsTo
  go_enter Try.func18, Try.ntmps18
  go_wp2_with fail
  go_loopg [5, 6, 7, 8] N (fun kk vl vi _ _ wr => ∃ (i : Nat) (al : Option Addr) (nl cl : Nat), vi = .int .i64 (i : Int) ∧ vl = .slice al nl cl ∧ i ≤ N ∧ N - i ≤ kk ∧ nl ≤ i ∧ nl ≤ cl ∧ Hid ((lvUp n F i).length = nl) ∧ Hid (OwnK encTbf 5 49 w.heap.size wr (.slice al nl cl) (lvUp n F i)) ∧ Hid (Below w.heap.size w wr))
  case atStart => exact ⟨0, none, 0, 0, rfl, rfl, by omega, by omega, by omega, by omega, Lib.hid rfl, Lib.hid (OwnK.nil _ _ _ _ _), Lib.hid (Below.refl _ _)⟩
  case round =>
    obtain ⟨i, al, nl, cl, rfl, rfl, hi, hik, hnl, hnc, HL, HY, HB⟩ := hrel
    have hd0 : (0 : Int) ≤ (i : Int) := by omega
    generalize gk = gk0 at *
    obtain ⟨z0, z1, z2, z3⟩ := cell4_of (HC.out.below HB.out)
    by_cases hiN : i < N
    · have hd1 : (i : Int) < (N : Int) := by omega
      obtain ⟨f, hf⟩ : ∃ f, F[i]? = some f := ⟨F[i]'(by have := HN.out; omega), List.getElem?_eq_getElem _⟩
      have HFI := Lib.hid hf
      obtain ⟨bb, off, rfl, hblt, d0, d1, d2, d3, d4⟩ := (HRD.out.below HB.out).atTbf i f hf
      obtain ⟨wa, hwa⟩ : ∃ x, wr.alloc (.cells #[.int .i64 f.num, .int .i64 f.lvl, .int .i64 f.siz, .string f.lo, .string f.hi] 49) = x := ⟨_, rfl⟩
      have HBX : Hid (BlkAt wa wr.heap.size #[.int .i64 f.num, .int .i64 f.lvl, .int .i64 f.siz, .string f.lo, .string f.hi] 49) := Lib.hid (by rw [← hwa]; exact BlkAt.new _ _ _)
      have HBA : Hid (Below wr.heap.size wr wa) := Lib.hid (by rw [← hwa]; exact (Below.refl _ _).alloc (Nat.le_refl _) _)
      have HBB := Lib.hid (HB.out.trans (HBA.out.mono HB.out.size))
      have HY1 := Lib.hid (HY.out.below HBA.out)
      obtain ⟨pp, hpp⟩ : ∃ x, wr.heap.size = x := ⟨_, rfl⟩
      rw [hpp] at HBX
      clear hf HY HB HBA
      by_cases hlv : f.lvl = n
      rotate_left
      · have hlb : (f.lvl != n) = true := by simp [hlv]
        have HL2 := Lib.hid (lvUp_no HFI.out hlv)
        obtain ⟨e0, e1, e2, e3, e4⟩ := cell5_of HBX.out
        have HL3 : Hid ((lvUp n F (i + 1)).length = nl) := Lib.hid (by rw [HL2.out]; exact HL.out)
        have HY3 : Hid (OwnK encTbf 5 49 w.heap.size wa (.slice al nl cl) (lvUp n F (i + 1))) := Lib.hid (by rw [HL2.out]; exact HY1.out)
        clear hlv HL HY1 HL2 HBX HFI
        go_wp2_with fail
        go_roundg (N - (i + 1))
        case measure => omega
        case rel => exact ⟨i + 1, al, nl, cl, by go_num, rfl, by omega, Nat.le_refl _, by omega, hnc, HL3, HY3, HBB⟩
      · have hlb : (f.lvl != n) = false := by simp [hlv]
        have HL2 := Lib.hid (lvUp_yes HFI.out hlv)
        obtain ⟨e0, e1, e2, e3, e4⟩ := cell5_of HBX.out
        have HLL := Lib.hid (lvUp_len n F (i + 1))
        have hnlN : nl ≤ N := by omega
        clear hlv
        go_wp2_with fail
        clear e0 e1 e2 e3 e4 d0 d1 d2 d3 d4 hwa z0 z1 z2 z3
        generalize wr = wr0 at *
        obtain ⟨f0, f1, f2, f3, f4⟩ := f
        simp only at HBX hlb
        go_loopg [8] nl (fun kk vk wr => ∃ k : Nat, vk = .int .i64 (k : Int) ∧ k ≤ nl ∧ nl - k ≤ kk ∧ Hid (∀ (m : Nat) (y : Tbf), m < k → (lvUp n F i)[m]? = some y → vBef n y ⟨f0, f1, f2, f3, f4⟩) ∧ Hid (Below wa.heap.size wa wr))
        case atStart => exact ⟨0, rfl, by omega, by omega, Lib.hid (fun m y hm => by omega), Lib.hid (Below.refl _ _)⟩
        case round =>
          obtain ⟨k, rfl, hk, hkk, HG, HBR⟩ := hrel
          have hk0 : (0 : Int) ≤ (k : Int) := by omega
          have HXR := Lib.hid (HBX.out.below HBR.out)
          have HYR := Lib.hid (HY1.out.below HBR.out)
          have HBW := Lib.hid (HBB.out.trans (HBR.out.mono HBB.out.size))
          have HBRA := Lib.hid HBR.out
          obtain ⟨Q, hQ⟩ : ∃ Q : Bool, decide (k < nl ∧ ∃ y, (lvUp n F i)[k]? = some y ∧ vBef n y ⟨f0, f1, f2, f3, f4⟩) = Q := ⟨_, rfl⟩
          have HQ := Lib.hid hQ
          clear hQ HBR
          go_upto_region 8 with fail
          go_cut [60] (fun v wx => v = .bool Q ∧ Hid (Below wr.heap.size wr wx))
          case first =>
            obtain ⟨e0, e1, e2, e3, e4⟩ := cell5_of HXR.out
            by_cases hkl : k < nl
            rotate_left
            · obtain rfl : Q = false := by rw [← HQ.out]; exact decide_eq_false fun h => hkl h.1
              have hkn : decide (k < nl) = false := decide_eq_false hkl
              have hki : ¬ (k : Int) < (nl : Int) := by omega
              go_quiet (fail)
              go_wp2_with fail
              go_meet
              exact ⟨rfl, Lib.hid (DrN.below ⟨nq, rfl⟩ _)⟩
            · have hkn : decide (k < nl) = true := decide_eq_true hkl
              have hki : (k : Int) < (nl : Int) := by omega
              obtain ⟨y, hy⟩ : ∃ y, (lvUp n F i)[k]? = some y := ⟨(lvUp n F i)[k]'(by have := HL.out; omega), List.getElem?_eq_getElem _⟩
              obtain ⟨by', offy, rfl, hby, c0, c1, c2, c3, c4⟩ := (HYR.out.rd encTbf_len).atTbf k y hy
              have HBQ : Hid (Q = decide (vBef n y ⟨f0, f1, f2, f3, f4⟩)) := Lib.hid (by
                rw [← HQ.out, decide_eq_decide]
                constructor
                · rintro ⟨-, y', hy', hb⟩; rw [hy] at hy'; rw [Option.some.inj hy']; exact hb
                · intro hb; exact ⟨hkl, y, hy, hb⟩)
              obtain ⟨y0, y1, y2, y3, y4⟩ := y
              simp only at c0 c1 c2 c3 c4
              clear hy HG HY1 HYR HQ HL2 HL HLL HBB HBW HFI HRD HC HBX
              by_cases hn0 : n = 0
              · subst hn0
                by_cases hb : f0 < y0
                · obtain rfl : Q = true := by rw [HBQ.out]; exact decide_eq_true (vBef_zero.2 hb)
                  clear HBQ
                  go_quiet (fail)
                  go_wp2_with fail
                  go_meet
                  exact ⟨rfl, Lib.hid (DrN.below ⟨nq, rfl⟩ _)⟩
                · obtain rfl : Q = false := by rw [HBQ.out]; exact decide_eq_false fun h => hb (vBef_zero.1 h)
                  clear HBQ
                  go_quiet (fail)
                  go_wp2_with fail
                  go_meet
                  exact ⟨rfl, Lib.hid (DrN.below ⟨nq, rfl⟩ _)⟩
              · have hn1 : 0 < n := by have := HNN.out; omega
                have hnb : (n == 0) = false := by simp [hn0]
                by_cases hb : bl y3 f3
                · obtain rfl : Q = true := by rw [HBQ.out]; exact decide_eq_true ((vBef_pos hn1).2 hb)
                  have hbb := bs_less _ _ hb
                  clear HBQ hb
                  go_quiet (fail)
                  go_wp2_with fail
                  go_meet
                  exact ⟨rfl, Lib.hid (DrN.below ⟨nq, rfl⟩ _)⟩
                · obtain rfl : Q = false := by rw [HBQ.out]; exact decide_eq_false fun h => hb ((vBef_pos hn1).1 h)
                  have hbb := bs_not _ _ hb
                  clear HBQ hb
                  go_quiet (fail)
                  go_wp2_with fail
                  go_meet
                  exact ⟨rfl, Lib.hid (DrN.below ⟨nq, rfl⟩ _)⟩
          case rest =>
            obtain ⟨rfl, HBC⟩ := hcut
            have HXC := Lib.hid (HXR.out.below HBC.out)
            have HYC := Lib.hid (HYR.out.below HBC.out)
            have HBWC := Lib.hid (HBW.out.trans (HBC.out.mono HBW.out.size))
            clear HXR HYR
            cases Q with
            | true =>
              obtain ⟨hkl, y, hy, hb⟩ := of_decide_eq_true HQ.out
              have HG2 : Hid (∀ (m : Nat) (y : Tbf), m < k + 1 → (lvUp n F i)[m]? = some y → vBef n y ⟨f0, f1, f2, f3, f4⟩) := Lib.hid fun m z hm hz => by
                rcases Nat.lt_or_ge m k with h | h
                · exact HG.out m z h hz
                · obtain rfl : m = k := by omega
                  rw [hy] at hz
                  obtain rfl := Option.some.inj hz
                  exact hb
              have HBR2 : Hid (Below wa.heap.size wa wc) := Lib.hid (HBRA.out.trans (HBC.out.mono HBRA.out.size))
              clear hy hb HQ HG
              go_wp2_with fail
              go_roundg (nl - (k + 1))
              case measure => omega
              case rel => exact ⟨k + 1, by go_num, by omega, Nat.le_refl _, HG2, HBR2⟩
            | false =>
              have HE : Hid (lvUp n F (i + 1) = (lvUp n F i).take k ++ ⟨f0, f1, f2, f3, f4⟩ :: (lvUp n F i).drop k) := Lib.hid (by
                rw [HL2.out]
                refine vInto_at n _ _ k HG.out (fun y hy hb => ?_) (by rw [HL.out]; exact hk)
                have := (List.getElem?_eq_some_iff.1 hy).1
                exact absurd (show k < nl ∧ ∃ y, (lvUp n F i)[k]? = some y ∧ vBef n y ⟨f0, f1, f2, f3, f4⟩ from ⟨by have := HL.out; omega, y, hy, hb⟩) (of_decide_eq_false HQ.out))
              clear HQ HG HBX HY1
              go_wp2_with fail
              generalize hw3 : wc = w3 at *
              clear hw3
              have HS1 : Hid (∀ W, (Instr.sliceAt 30 (.slice al nl cl) none (some (.int .i64 (k : Int))) (some (.int .i64 (k : Int)))).run Try.prog W = .ok (.slice al k k) W) := Lib.hid fun W => sl_hmF W _ nl cl k hk hnc
              have HS2 : Hid (∀ W, (Instr.sliceAt 30 (.slice al nl cl) (some (.int .i64 (k : Int))) none none).run Try.prog W = .ok (.slice (if cl = k then al else (al : Option Addr).map (·.add (k * 5))) (nl - k) (cl - k)) W) := Lib.hid fun W => sl_lF W _ nl cl k hk hnc
              have HIN := Lib.hid (fins_run (HYC.out.rd encTbf_len) HL.out.symm HBWC.out.size k hk (by have := HL.out; omega) ⟨f0, f1, f2, f3, f4⟩)
              obtain ⟨T, hT⟩ : ∃ T : Value, Value.slice (if cl = k then al else (al : Option Addr).map (·.add (k * 5))) (nl - k) (cl - k) = T := ⟨_, rfl⟩
              rw [hT] at HS2 HIN
              clear hT
              refine wp_region_held_drew (S := Below w3.heap.size w3) (by kernel_rfl) (Below.refl _ _).drew (fun hHeld => ?_)
              refine takeYes (i := 0) (k := 63) (v := .slice al nl cl) rfl (by kernel_rfl) (by kernel_rfl) (by kernel_rfl) (by kernel_rfl) (fun _ _ _ h => h) (by kernel_rfl) ?_ (by assumption) ?_
              · intro W hSw; first | (go_simp; done) | go_simp
              try simp only [Act.put, List.setIfInBounds_toArray, List.set_cons_zero, List.set_cons_succ]
              refine takeYes (i := 1) (k := 64) (v := .int .i64 (k : Int)) rfl (by kernel_rfl) (by kernel_rfl) (by kernel_rfl) (by kernel_rfl) (fun _ _ _ h => h) (by kernel_rfl) ?_ (by assumption) ?_
              · intro W hSw; first | (go_simp; done) | go_simp
              try simp only [Act.put, List.setIfInBounds_toArray, List.set_cons_zero, List.set_cons_succ]
              refine takeYes (i := 2) (k := 65) (v := .int .i64 (k : Int)) rfl (by kernel_rfl) (by kernel_rfl) (by kernel_rfl) (by kernel_rfl) (fun _ _ _ h => h) (by kernel_rfl) ?_ (by assumption) ?_
              · intro W hSw; first | (go_simp; done) | go_simp
              try simp only [Act.put, List.setIfInBounds_toArray, List.set_cons_zero, List.set_cons_succ]
              refine takeYes (i := 3) (k := 66) (v := .slice al k k) rfl (by kernel_rfl) (by kernel_rfl) (by kernel_rfl) (by kernel_rfl) (fun _ _ _ h => h) (by kernel_rfl) ?_ (by assumption) ?_
              · intro W hSw; have hsl := HS1.out W; first | (go_simp; done) | go_simp
              try simp only [Act.put, List.setIfInBounds_toArray, List.set_cons_zero, List.set_cons_succ]
              refine takeYes (i := 4) (k := 67) (v := .agg #[.int .i64 f0, .int .i64 f1, .int .i64 f2, .string f3, .string f4]) rfl (by kernel_rfl) (by kernel_rfl) (by kernel_rfl) (by kernel_rfl) (fun _ _ _ h => h) (by kernel_rfl) ?_ (by assumption) ?_
              · intro W hSw; obtain ⟨d0, d1, d2, d3, d4⟩ := cell5_of (HXC.out.below hSw); first | (go_simp; done) | go_simp
              try simp only [Act.put, List.setIfInBounds_toArray, List.set_cons_zero, List.set_cons_succ]
              refine takeYes (i := 6) (k := 69) (v := .slice al nl cl) rfl (by kernel_rfl) (by kernel_rfl) (by kernel_rfl) (by kernel_rfl) (fun _ _ _ h => h) (by kernel_rfl) ?_ (by assumption) ?_
              · intro W hSw; first | (go_simp; done) | go_simp
              try simp only [Act.put, List.setIfInBounds_toArray, List.set_cons_zero, List.set_cons_succ]
              refine takeYes (i := 7) (k := 70) (v := .int .i64 (k : Int)) rfl (by kernel_rfl) (by kernel_rfl) (by kernel_rfl) (by kernel_rfl) (fun _ _ _ h => h) (by kernel_rfl) ?_ (by assumption) ?_
              · intro W hSw; first | (go_simp; done) | go_simp
              try simp only [Act.put, List.setIfInBounds_toArray, List.set_cons_zero, List.set_cons_succ]
              refine takeYes (i := 8) (k := 71) (v := T) rfl (by kernel_rfl) (by kernel_rfl) (by kernel_rfl) (by kernel_rfl) (fun _ _ _ h => h) (by kernel_rfl) ?_ (by assumption) ?_
              · intro W hSw; have hsl := HS2.out W; first | (go_simp; done) | go_simp
              try simp only [Act.put, List.setIfInBounds_toArray, List.set_cons_zero, List.set_cons_succ]
              obtain ⟨v1, w4, r1, b1, v2, w5, r2, b2, o2⟩ := HIN.out
              refine wpAnyH_ready (rs := [5]) (by kernel_rfl) (by simp) (AllReadyH.cons rfl (fun K hK => ?_) AllReadyH.nil)
              go_simp
              refine hK.out _ _ ((Below.refl _ w3).alloc (Nat.le_refl _) _).drew (fun hHeld2 => ?_)
              clear hK K hHeld
              try simp only [Act.put, List.setIfInBounds_toArray, List.set_cons_zero, List.set_cons_succ]
              refine wpAnyH_ready (rs := [9]) (by kernel_rfl) (by simp) (AllReadyH.cons rfl (fun K hK => ?_) AllReadyH.nil)
              refine step_appD 72 rfl (by kernel_rfl) (.tmp 68) (.tmp 71) 30 rfl rfl rfl r1 ?_
              refine hK.out _ _ b1 (fun hHeld2 => ?_)
              clear hK K
              try simp only [Act.put, List.setIfInBounds_toArray, List.set_cons_zero, List.set_cons_succ]
              refine wpAnyH_ready (rs := [10]) (by kernel_rfl) (by simp) (AllReadyH.cons rfl (fun K hK => ?_) AllReadyH.nil)
              refine step_appD 73 rfl (by kernel_rfl) (.tmp 66) (.tmp 72) 30 rfl rfl rfl r2 ?_
              refine hK.out _ _ b2 (fun hHeld2 => ?_)
              clear hK K
              try simp only [Act.put, List.setIfInBounds_toArray, List.set_cons_zero, List.set_cons_succ]
              refine takeYes (i := 11) (k := 5) (v := v2) rfl (by kernel_rfl) (by kernel_rfl) (by kernel_rfl) (by kernel_rfl) (fun _ _ _ h => h) (by kernel_rfl) ?_ (by assumption) ?_
              · intro W hSw; first | (go_simp; done) | go_simp
              try simp only [Act.put, List.setIfInBounds_toArray, List.set_cons_zero, List.set_cons_succ]
              refine wpAnyH_done (by kernel_rfl) ?_ _
              have ho5 : OwnK encTbf 5 49 w.heap.size w5 v2 (lvUp n F (i + 1)) := by rw [HE.out]; exact o2
              obtain ⟨a6, c6, rfl⟩ := fil_form ho5
              obtain ⟨nl6, hnl6⟩ : ∃ m, (lvUp n F (i + 1)).length = m := ⟨_, rfl⟩
              rw [hnl6] at ho5 ⊢
              have HO5 := Lib.hid ho5
              have HN6 := Lib.hid hnl6
              have hc6 : nl6 ≤ c6 := by
                rcases ho5.blk with ⟨e, e2⟩ | ⟨g, c, cur, e, -, -, -, h5, -⟩
                · simp only [Value.slice.injEq] at e; omega
                · simp only [Value.slice.injEq] at e; omega
              have HB5 := Lib.hid (HBWC.out.trans (b2.mono HBWC.out.size))
              have hle6 : nl6 ≤ i + 1 := by have := HLL.out; omega
              clear r1 r2 b1 b2 o2 ho5 HS1 HS2 HIN HE HXC HYC hnl6 HL HL2 HLL
              go_wp2_with fail
              go_roundg (N - (i + 1))
              case measure => omega
              case rel => exact ⟨i + 1, a6, nl6, c6, by go_num, rfl, by omega, Nat.le_refl _, hle6, hc6, HN6, HO5, HB5⟩
    · have hd1 : ¬ (i : Int) < (N : Int) := by omega
      have HE : Hid (lvUp n F i = R) := Lib.hid (by rw [← HR.out]; exact lvUp_all (by have := HN.out; omega))
      clear HL
      go_wp2_with fail
      go_ret
      rw [← HE.out]
      exact ⟨_, rfl, HY.out, HB.out⟩
end Go.Proofs.Ytgdmmhdihgajkaa
/- The reference's Over, and the law's over. -/
namespace Go.Proofs.Ytgdmmhdihgajkaa
set_option linter.unusedVariables false
set_option maxRecDepth 100000
open Go.RowKit
theorem le_three (a b : ByteArray) : (Op.bytesLess a.toList b.toList = true ∧ decide (bl b a) = false) ∨ (Op.bytesLess a.toList b.toList = false ∧ (a.toList == b.toList) = true ∧ decide (bl b a) = false) ∨ (Op.bytesLess a.toList b.toList = false ∧ (a.toList == b.toList) = false ∧ decide (bl b a) = true) := by
  rcases bl_tri a b with h | rfl | h
  · exact .inl ⟨bs_less _ _ h, decide_eq_false fun k => bl_irr _ (bl_trans h k)⟩
  · exact .inr (.inl ⟨bs_not _ _ (bl_irr _), bs_refl _, decide_eq_false (bl_irr _)⟩)
  · have hn : ¬ bl a b := fun k => bl_irr _ (bl_trans h k)
    have hne : a ≠ b := by rintro rfl; exact bl_irr _ h
    exact .inr (.inr ⟨bs_not _ _ hn, bs_ne hne, decide_eq_true h⟩)
set_option maxHeartbeats 8000000 in
theorem rover_any {w : World} {c : Nat} {fv : Value} {nx lg ls : Int} {F : List Tbf} (hc : BlkAt w c #[fv, .int .i64 nx, .int .i64 lg, .int .i64 ls] 54) (hr : RdK encTbf 5 w fv F) (hl : F.length ≤ 1000) (n : Int) (hn : 0 ≤ n) (x y : ByteArray) :
    Calls Try.prog 26 #[.pointer (some ⟨c, 0, none⟩), .int .i64 n, .string x, .string y] w (FilsTo w (overV n x y F)) := by
  have HLV := Lib.hid (rlevel_any hc hr hl n hn)
  have hll : (levelV n F).length ≤ 1000 := by
    have := lvUp_len n F F.length
    rw [lvUp_all (Nat.le_refl _)] at this
    omega
  unfold overV
  generalize levelV n F = xs at *
  obtain ⟨R, hR⟩ : ∃ R, xs.filter (vOverB x y) = R := ⟨_, rfl⟩
  rw [hR]
  have HR := Lib.hid hR
  obtain ⟨N, hN⟩ : ∃ N, xs.length = N := ⟨_, rfl⟩
  have HN := Lib.hid hN
  rw [hN] at hll
  clear hc hr hl hn hR
  unfold FilsTo
  go_enter Try.func26, Try.ntmps26
  go_wp2_with fail
  refine HLV.out.mono ?_
  rintro e w1 ⟨u, rfl, ho, hb⟩
  obtain ⟨aL, cL, rfl⟩ := fil_form ho
  have HRD := Lib.hid (ho.rd encTbf_len)
  have HB1 := Lib.hid hb
  rw [hN]
  rw [hN] at HRD
  clear ho hb HLV hN
  go_wp2_with fail
  go_loopg [9, 11] N (fun kk vl vi wr => ∃ (i : Nat) (ys : List Tbf) (al : Option Addr) (nl cl : Nat), vi = .int .i64 (i : Int) ∧ vl = .slice al nl cl ∧ i ≤ N ∧ N - i ≤ kk ∧ nl ≤ i ∧ Hid (ys.length = nl ∧ ys = (xs.take i).filter (vOverB x y)) ∧ Hid (OwnK encTbf 5 49 w1.heap.size wr (.slice al nl cl) ys) ∧ Hid (Below w1.heap.size w1 wr))
  case atStart => exact ⟨0, [], none, 0, 0, rfl, rfl, by omega, by omega, by omega, Lib.hid ⟨rfl, by simp⟩, Lib.hid (OwnK.nil _ _ _ _ _), Lib.hid (Below.refl _ _)⟩
  case round =>
    obtain ⟨q, ys, al, nl, cl, rfl, rfl, hq, hqk, hnl, HL, HY, HB⟩ := hrel
    have hd0 : (0 : Int) ≤ (q : Int) := by omega
    by_cases hqN : q < N
    · have hd1 : (q : Int) < (N : Int) := by omega
      obtain ⟨f, hf⟩ : ∃ f, xs[q]? = some f := ⟨xs[q]'(by have := HN.out; omega), List.getElem?_eq_getElem _⟩
      have HFK : Hid (((xs.take (q + 1)).filter (vOverB x y)) = ys ++ if vOverB x y f = true then [f] else []) := Lib.hid (by
        rw [List.take_add_one, hf, HL.out.2, List.filter_append]
        simp only [Option.toList_some, List.filter_cons, List.filter_nil])
      obtain ⟨bb, off, rfl, hblt, d0, d1, d2, d3, d4⟩ := (HRD.out.below HB.out).atTbf q f hf
      clear hf
      obtain ⟨Q, hQ⟩ : ∃ Q, vOverB x y f = Q := ⟨_, rfl⟩
      rw [hQ] at HFK
      have HQ := Lib.hid hQ
      clear hQ
      go_upto_region 6 with fail
      go_cut [41] (fun v wx => v = .bool Q ∧ wr = wx)
      case first =>
        as_aux_lemma =>
        have hq0 := HQ.out
        unfold vOverB at hq0
        clear HFK HL HY HB HR HRD HN HB1 HQ
        rcases le_three x y with ⟨u1, e1⟩ | ⟨u1, v1, e1⟩ | ⟨u1, v1, e1⟩
        · rcases le_three f.lo y with ⟨u2, e2⟩ | ⟨u2, v2, e2⟩ | ⟨u2, v2, e2⟩
          · rcases le_three x f.hi with ⟨u3, e3⟩ | ⟨u3, v3, e3⟩ | ⟨u3, v3, e3⟩
            · have hv : Q = true := by rw [← hq0, e1, e2, e3]; rfl
              subst hv
              clear hq0
              go_wp2_with fail
              go_meet
              exact ⟨rfl, rfl⟩
            · have hv : Q = true := by rw [← hq0, e1, e2, e3]; rfl
              subst hv
              clear hq0
              go_wp2_with fail
              go_meet
              exact ⟨rfl, rfl⟩
            · have hv : Q = false := by rw [← hq0, e1, e2, e3]; simp
              subst hv
              clear hq0
              go_wp2_with fail
              go_meet
              exact ⟨rfl, rfl⟩
          · rcases le_three x f.hi with ⟨u3, e3⟩ | ⟨u3, v3, e3⟩ | ⟨u3, v3, e3⟩
            · have hv : Q = true := by rw [← hq0, e1, e2, e3]; rfl
              subst hv
              clear hq0
              go_wp2_with fail
              go_meet
              exact ⟨rfl, rfl⟩
            · have hv : Q = true := by rw [← hq0, e1, e2, e3]; rfl
              subst hv
              clear hq0
              go_wp2_with fail
              go_meet
              exact ⟨rfl, rfl⟩
            · have hv : Q = false := by rw [← hq0, e1, e2, e3]; simp
              subst hv
              clear hq0
              go_wp2_with fail
              go_meet
              exact ⟨rfl, rfl⟩
          · have hv : Q = false := by rw [← hq0, e1, e2]; simp
            subst hv
            clear hq0
            go_wp2_with fail
            go_meet
            exact ⟨rfl, rfl⟩
        · rcases le_three f.lo y with ⟨u2, e2⟩ | ⟨u2, v2, e2⟩ | ⟨u2, v2, e2⟩
          · rcases le_three x f.hi with ⟨u3, e3⟩ | ⟨u3, v3, e3⟩ | ⟨u3, v3, e3⟩
            · have hv : Q = true := by rw [← hq0, e1, e2, e3]; rfl
              subst hv
              clear hq0
              go_wp2_with fail
              go_meet
              exact ⟨rfl, rfl⟩
            · have hv : Q = true := by rw [← hq0, e1, e2, e3]; rfl
              subst hv
              clear hq0
              go_wp2_with fail
              go_meet
              exact ⟨rfl, rfl⟩
            · have hv : Q = false := by rw [← hq0, e1, e2, e3]; simp
              subst hv
              clear hq0
              go_wp2_with fail
              go_meet
              exact ⟨rfl, rfl⟩
          · rcases le_three x f.hi with ⟨u3, e3⟩ | ⟨u3, v3, e3⟩ | ⟨u3, v3, e3⟩
            · have hv : Q = true := by rw [← hq0, e1, e2, e3]; rfl
              subst hv
              clear hq0
              go_wp2_with fail
              go_meet
              exact ⟨rfl, rfl⟩
            · have hv : Q = true := by rw [← hq0, e1, e2, e3]; rfl
              subst hv
              clear hq0
              go_wp2_with fail
              go_meet
              exact ⟨rfl, rfl⟩
            · have hv : Q = false := by rw [← hq0, e1, e2, e3]; simp
              subst hv
              clear hq0
              go_wp2_with fail
              go_meet
              exact ⟨rfl, rfl⟩
          · have hv : Q = false := by rw [← hq0, e1, e2]; simp
            subst hv
            clear hq0
            go_wp2_with fail
            go_meet
            exact ⟨rfl, rfl⟩
        · have hv : Q = false := by rw [← hq0, e1]; simp
          subst hv
          clear hq0
          go_wp2_with fail
          go_meet
          exact ⟨rfl, rfl⟩
      case rest =>
        obtain ⟨rfl, rfl⟩ := hcut
        cases Q with
        | true =>
          have HE : Hid (((xs.take (q + 1)).filter (vOverB x y)) = ys ++ [f]) := Lib.hid (by rw [HFK.out]; rfl)
          have hBs : w1.heap.size ≤ wr.heap.size := HB.out.size
          go_wp2_with (at_builtin; refine wp_appHK elem_tbf encTbf_len _ _ (by rfl) (by rfl) (by rfl) HY.out f _ (by rfl) (by rfl) ?c1 ?c2 ?c3 hBs ?_)
          case c1 => exact tbf_cells _
          case c2 => have := HL.out.1; omega
          case c3 => have := HL.out.1; unfold maxLen; omega
          intro v6 w6 o6 b6
          obtain ⟨a6, k6, rfl⟩ := fil_form o6
          have e6 : (ys ++ [f]).length = nl + 1 := by rw [List.length_append]; have := HL.out.1; simp; omega
          rw [e6] at o6 ⊢
          have HL6 : Hid ((ys ++ [f]).length = nl + 1 ∧ ys ++ [f] = (xs.take (q + 1)).filter (vOverB x y)) := Lib.hid ⟨e6, HE.out.symm⟩
          have HO6 := Lib.hid o6
          have HB6 := Lib.hid (HB.out.trans b6)
          clear o6 b6 e6 HY HB HL HE HFK HQ d0 d1 d2 d3 d4 hBs
          go_wp2_with fail
          go_roundg (N - (q + 1))
          case measure => omega
          case rel => exact ⟨q + 1, _, a6, nl + 1, k6, by go_num, rfl, by omega, Nat.le_refl _, by omega, HL6, HO6, HB6⟩
        | false =>
          have HL6 : Hid (ys.length = nl ∧ ys = (xs.take (q + 1)).filter (vOverB x y)) := Lib.hid ⟨HL.out.1, by rw [HFK.out]; simp⟩
          clear HL HFK HQ
          go_wp2_with fail
          go_roundg (N - (q + 1))
          case measure => omega
          case rel => exact ⟨q + 1, ys, al, nl, cl, by go_num, rfl, by omega, Nat.le_refl _, by omega, HL6, HY, HB⟩
    · have hd1 : ¬ (q : Int) < (N : Int) := by omega
      have HE : Hid (ys = R) := Lib.hid (by
        rw [HL.out.2, List.take_of_length_le (by have := HN.out; omega)]; exact HR.out)
      clear HL
      go_wp2_with fail
      go_ret
      rw [← HE.out]
      exact ⟨_, rfl, HY.out.base HB1.out.size, HB1.out.trans (HB.out.mono HB1.out.size)⟩
end Go.Proofs.Ytgdmmhdihgajkaa
/- What a version tells of its levels is what the document's tells. -/
namespace Go.Proofs.Ytgdmmhdihgajkaa
set_option linter.unusedVariables false
theorem bef_lt {n : Int} {f g : Tbf} (hf : f.lvl = n) (hg : g.lvl = n) (h : vBef n f g) : vLt f g := by
  refine .inr ⟨by omega, ?_⟩
  rcases h with ⟨h1, h2⟩ | ⟨h1, h2⟩
  · exact .inl ⟨by omega, h2⟩
  · exact .inr ⟨by omega, h2⟩
theorem sorted_ne {V : Ver} (g : GoodV V) (hs : vSorted V.fs) : V.fs.Pairwise fun f h => ¬ vLt h f ∧ f ≠ h := by
  unfold vSorted at hs
  have hn : V.fs.Pairwise (· ≠ ·) := nodup_of_num g.nums
  exact hs.and hn
theorem ver_level {V W : Ver} (g : GoodV V) (hs : vSorted V.fs) (h : vSame V W) (n : Int) (hn : 0 ≤ n) : (V.fs.filter fun f => decide (f.lvl = n)) = levelV n W.fs := by
  rw [← levelV_same h g n hn]
  refine levelV_is g n hn ?_ (List.Perm.refl _)
  have h1 := (sorted_ne g hs).filter (p := fun f => decide (f.lvl = n))
  refine h1.imp_of_mem fun {f k} hf hk hh => ?_
  have f2 := of_decide_eq_true (List.mem_filter.1 hf).2
  have k2 := of_decide_eq_true (List.mem_filter.1 hk).2
  rcases good_tot g n hn f hf k hk with e | e | e
  · exact absurd e hh.2
  · exact e
  · exact absurd (bef_lt k2 f2 e) hh.1
theorem level_none {V : Ver} (g : GoodV V) {n : Int} (hn : n < 0 ∨ 5 ≤ n) : (V.fs.filter fun f => decide (f.lvl = n)) = [] := by
  refine List.filter_eq_nil_iff.2 fun f hf => ?_
  have := (notBadTb (g.right f hf)).2.1
  simp only [decide_eq_true_eq]
  omega
theorem vLt_uniq : ∀ {l m : List Tbf}, l.Pairwise vLt → m.Pairwise vLt → l.Perm m → l = m
  | [], m, _, _, h => (List.nil_perm.1 h).symm
  | f :: r, [], _, _, h => absurd h (by simp)
  | f :: r, g :: s, hl, hm, h => by
    obtain ⟨l1, l2⟩ := List.pairwise_cons.1 hl
    obtain ⟨m1, m2⟩ := List.pairwise_cons.1 hm
    have e : f = g := by
      have hf : f ∈ g :: s := h.mem_iff.1 (List.mem_cons_self ..)
      have hg : g ∈ f :: r := h.mem_iff.2 (List.mem_cons_self ..)
      rcases List.mem_cons.1 hf with e | hf
      · exact e
      · rcases List.mem_cons.1 hg with e | hg
        · exact e.symm
        · exact absurd (vLt_trans (m1 f hf) (l1 g hg)) (vLt_irr g)
    subst e
    rw [vLt_uniq l2 m2 ((List.perm_cons f).1 h)]
theorem ver_lt {V : Ver} (g : GoodV V) (hs : vSorted V.fs) : V.fs.Pairwise vLt := by
  refine (sorted_ne g hs).imp_of_mem fun {f k} hf hk hh => ?_
  rcases Int.lt_trichotomy f.lvl k.lvl with e | e | e
  · exact .inl e
  · have h0 : 0 ≤ f.lvl := (notBadTb (g.right f hf)).2.1.1
    rcases good_tot g f.lvl h0 f (List.mem_filter.2 ⟨hf, decide_eq_true rfl⟩) k (List.mem_filter.2 ⟨hk, decide_eq_true e.symm⟩) with d | d | d
    · exact absurd d hh.2
    · exact bef_lt rfl e.symm d
    · exact absurd (bef_lt e.symm rfl d) hh.1
  · exact absurd (.inl e) hh.1
theorem levels_lt {W : Ver} (g : GoodV W) : (levelsV W.fs).Pairwise vLt := by
  have hp : ∀ n : Int, 0 ≤ n → (levelV n W.fs).Pairwise vLt ∧ ∀ f ∈ levelV n W.fs, f.lvl = n := fun n hn => by
    have hm : ∀ f ∈ levelV n W.fs, f.lvl = n := fun f hf => of_decide_eq_true (List.mem_filter.1 ((levelV_perm n W.fs).mem_iff.1 hf)).2
    exact ⟨(levelV_srt g n hn).imp_of_mem fun {f k} hf hk hh => bef_lt (hm f hf) (hm k hk) hh, hm⟩
  have hc : ∀ (n m : Int) (f k : Tbf), 0 ≤ n → 0 ≤ m → n < m → f ∈ levelV n W.fs → k ∈ levelV m W.fs → vLt f k := fun n m f k h1 h2 h3 h4 h5 => .inl (by
    have := (hp n h1).2 f h4; have := (hp m h2).2 k h5; omega)
  unfold levelsV
  refine List.pairwise_append.2 ⟨(hp 0 (by omega)).1, List.pairwise_append.2 ⟨(hp 1 (by omega)).1, List.pairwise_append.2 ⟨(hp 2 (by omega)).1, List.pairwise_append.2 ⟨(hp 3 (by omega)).1, (hp 4 (by omega)).1, fun f hf k hk => hc 3 4 f k (by omega) (by omega) (by omega) hf hk⟩, fun f hf k hk => ?_⟩, fun f hf k hk => ?_⟩, fun f hf k hk => ?_⟩
  · rcases List.mem_append.1 hk with hk | hk
    · exact hc 2 3 f k (by omega) (by omega) (by omega) hf hk
    · exact hc 2 4 f k (by omega) (by omega) (by omega) hf hk
  · rcases List.mem_append.1 hk with hk | hk
    · exact hc 1 2 f k (by omega) (by omega) (by omega) hf hk
    · rcases List.mem_append.1 hk with hk | hk
      · exact hc 1 3 f k (by omega) (by omega) (by omega) hf hk
      · exact hc 1 4 f k (by omega) (by omega) (by omega) hf hk
  · rcases List.mem_append.1 hk with hk | hk
    · exact hc 0 1 f k (by omega) (by omega) (by omega) hf hk
    · rcases List.mem_append.1 hk with hk | hk
      · exact hc 0 2 f k (by omega) (by omega) (by omega) hf hk
      · rcases List.mem_append.1 hk with hk | hk
        · exact hc 0 3 f k (by omega) (by omega) (by omega) hf hk
        · exact hc 0 4 f k (by omega) (by omega) (by omega) hf hk
/-- All tables, level by level. -/
theorem ver_all {V W : Ver} (g : GoodV V) (hs : vSorted V.fs) (h : vSame V W) : V.fs = levelsV W.fs :=
  vLt_uniq (ver_lt g hs) (levels_lt (h.good g)) (h.1.trans (levelsV_perm (h.good g)).symm)
/-- What is told of level n, for any number. -/
def lvAny (n : Int) (F : List Tbf) : List Tbf := if 0 ≤ n ∧ n < 5 then levelV n F else []
theorem ver_any {V W : Ver} (g : GoodV V) (hs : vSorted V.fs) (h : vSame V W) (n : Int) : (V.fs.filter fun f => decide (f.lvl = n)) = lvAny n W.fs := by
  unfold lvAny
  split
  · exact ver_level g hs h n (by omega)
  · exact level_none g (by omega)
/-- The first i of -1, 0, .., 5. -/
def lvsUp (F : List Tbf) : Nat → List Tbf
  | 0 => []
  | i + 1 => lvsUp F i ++ lvAny ((i : Int) - 1) F
theorem lvsUp_all (F : List Tbf) : lvsUp F 7 = levelsV F := by
  simp [lvsUp, lvAny, levelsV]
theorem lvAny_sub {W : Ver} (g : GoodV W) (n : Int) : (∀ f ∈ lvAny n W.fs, f ∈ W.fs) ∧ (lvAny n W.fs).length ≤ 200 := by
  unfold lvAny
  split
  · have h := levelV_perm n W.fs
    refine ⟨fun f hf => (List.mem_filter.1 (h.mem_iff.1 hf)).1, ?_⟩
    rw [h.length_eq]
    exact Nat.le_trans (List.length_filter_le _ _) g.few
  · exact ⟨fun f hf => (by cases hf), Nat.zero_le _⟩
theorem lvsUp_len {W : Ver} (g : GoodV W) : ∀ i, (lvsUp W.fs i).length ≤ 200 * i
  | 0 => Nat.le_refl _
  | i + 1 => by
    have := lvsUp_len g i
    have h2 := (lvAny_sub g ((i : Int) - 1)).2
    simp only [lvsUp, List.length_append]
    omega
theorem good_ok {V : Ver} (g : GoodV V) : ∀ f ∈ V.fs, f.ok := fun f hf => by
  obtain ⟨-, -, -, h1, h2, -⟩ := notBadTb (g.right f hf)
  constructor <;> (unfold maxLen; omega)
/-- Who has a text in common with a span. -/
theorem ver_over {V W : Ver} (g : GoodV V) (hs : vSorted V.fs) (h : vSame V W) (n : Int) (a b : ByteArray) : (V.fs.filter fun f => decide (f.lvl = n ∧ vOverB a b f = true)) = if 0 ≤ n ∧ n < 5 then overV n a b W.fs else [] := by
  have e : (V.fs.filter fun f => decide (f.lvl = n ∧ vOverB a b f = true)) = (V.fs.filter fun f => decide (f.lvl = n)).filter (vOverB a b) := by
    rw [List.filter_filter]
    congr 1
    funext f
    rw [Bool.eq_iff_iff]
    simp [and_comm]
  rw [e, ver_any g hs h n]
  unfold lvAny overV
  split
  · rfl
  · rfl
end Go.Proofs.Ytgdmmhdihgajkaa
/- The reference's Apply. -/
namespace Go.Proofs.Ytgdmmhdihgajkaa
set_option linter.unusedVariables false
set_option maxRecDepth 100000
open Go.RowKit
/-- What lies still while the reference applies an edit. -/
structure RApL (w : World) (B c : Nat) (fv va vd : Value) (n0 l0 s0 x1 x2 x3 : Int) (fs A : List Tbf) (D : List Int) (W : World) : Prop where
  e : BlkAt W w.heap.size #[.int .i64 x1, .int .i64 x2, .int .i64 x3, va, vd] 44
  v : BlkAt W c #[fv, .int .i64 n0, .int .i64 l0, .int .i64 s0] 54
  t : OwnK encTbf 5 49 B W fv fs
  a : RdK encTbf 5 W va A
  d : RdV W vd (D.map encI64)
  bel : Below w.heap.size w W
theorem RApL.below {w : World} {B c : Nat} {fv va vd : Value} {n0 l0 s0 x1 x2 x3 : Int} {fs A : List Tbf} {D : List Int} {W W' : World} (h : RApL w B c fv va vd n0 l0 s0 x1 x2 x3 fs A D W) (u : Below W.heap.size W W') : RApL w B c fv va vd n0 l0 s0 x1 x2 x3 fs A D W' :=
  ⟨h.e.below u, h.v.below u, h.t.below u, h.a.below u, RdV.below h.d u, h.bel.trans (u.mono h.bel.size)⟩
/-- The two appends that leave out the table at place j. -/
theorem rdel_run {w : World} {a : Option Addr} {n cap : Nat} {xs : List Tbf} (h : RdK encTbf 5 w (.slice a n cap) xs) (hn : n = xs.length) (hc : n ≤ cap) {B : Nat} (hB : B ≤ w.heap.size) (j : Nat) (hj : j < n) (hx : xs.length ≤ 1000000) (ty ty2 : TypeId) :
    ∃ v1 w1, (Builtin.append_ #[30, 30] ty #[.slice none 0 0, .slice a j cap]).run Try.prog w = .ok v1 w1 ∧ Below w.heap.size w w1 ∧
      ∃ v2 w2, (Builtin.append_ #[30, 30] ty2 #[v1, .slice (if cap = j + 1 then a else a.map (·.add ((j + 1) * 5))) (n - (j + 1)) (cap - (j + 1))]).run Try.prog w1 = .ok v2 w2 ∧ Below w.heap.size w w2 ∧ OwnK encTbf 5 49 B w2 v2 (xs.eraseIdx j) := by
  have hF := h.takeC j (by omega)
  obtain ⟨v1, w1, r1, o1, b1⟩ := run_appK (ty := ty) elem_tbf encTbf_len (OwnK.nil encTbf 5 49 w.heap.size w) hF (encTbf_one _) (by rw [List.length_take]; simp; omega) (by rw [List.length_take]; simp [maxLen]; omega) (Nat.le_refl _)
  have hT := (h.rest (j + 1) (by omega)).below b1
  obtain ⟨v2, w2, r2, o2, b2⟩ := run_appK (ty := ty2) elem_tbf encTbf_len o1 hT (encTbf_one _) (by rw [List.length_drop, List.nil_append, List.length_take]; omega) (by rw [List.length_drop, List.nil_append, List.length_take]; unfold maxLen; omega) b1.size
  refine ⟨v1, w1, r1, b1, v2, w2, r2, b1.trans b2, ?_⟩
  rw [List.eraseIdx_eq_take_drop_succ]
  rw [List.nil_append] at o2
  exact o2.base hB
theorem apart_of {m : List Tbf} (h : ∀ (i k : Nat) (f g : Tbf), k < i → m[i]? = some f → m[k]? = some g → ¬ vClash f g) : vApart m := by
  refine List.pairwise_iff_getElem.2 fun a b ha hb hab hc => ?_
  exact h b a _ _ hab (List.getElem?_eq_getElem hb) (List.getElem?_eq_getElem ha) (vClash_comm hc)
/-- The reference's test of numbers, but for those of the tables. -/
def rBad (n : Nat) (nx lg ls nx0 lg0 ls0 : Int) : Prop := 200 < n ∨ nx < nx0 ∨ lg < lg0 ∨ ls < ls0 ∨ nx ≤ lg ∧ 0 < lg
instance (n : Nat) (nx lg ls nx0 lg0 ls0 : Int) : Decidable (rBad n nx lg ls nx0 lg0 ls0) := inferInstanceAs (Decidable (_ ∨ _))
theorem vMay_rBad {V n : Ver} (ha : vApart n.fs) : vMay V n ↔ ¬ (rBad n.fs.length n.nx n.lg n.ls V.nx V.lg V.ls ∨ ∃ f ∈ n.fs, n.nx ≤ f.num) := by
  unfold vMay rBad
  constructor
  · rintro ⟨-, a2, a3, a4, a5, a6, a7⟩ (h | ⟨f, hf, h⟩)
    · omega
    · have := a7 f hf; omega
  · intro h
    refine ⟨ha, by omega, by omega, by omega, by omega, by omega, fun f hf => Int.not_le.1 fun hle => h (.inr ⟨f, hf, hle⟩)⟩
/-- Of what came since w6 just block q was written, which holds the version under way. -/
structure RStp (w1 : World) (q : Nat) (w6 w : World) (lv : Value) (nx lg ls : Int) : Prop where
  blk : BlkAt w q #[lv, .int .i64 nx, .int .i64 lg, .int .i64 ls] 54
  upd : UpdF (fun k => k = q) w6 w
  hi : w1.heap.size ≤ q
theorem RStp.bel {w1 w6 w : World} {q : Nat} {lv : Value} {nx lg ls : Int} (h : RStp w1 q w6 w lv nx lg ls) (b : Below w1.heap.size w1 w6) : Below w1.heap.size w1 w :=
  b.trans (UpdF.below h.upd b.size fun k hk e => by have := h.hi; omega)
theorem RStp.put1 {w1 w6 w : World} {q : Nat} {lv : Value} {nx lg ls y : Int} (h : RStp w1 q w6 w lv nx lg ls) (v : Value) (hv : v = .int .i64 y) : RStp w1 q w6 (w.setCell ⟨q, 1, none⟩ v) lv y lg ls :=
  ⟨by rw [hv]; exact h.blk.set (o := 1) (.int .i64 y), h.upd.set q 1 v rfl, h.hi⟩
theorem RStp.put2 {w1 w6 w : World} {q : Nat} {lv : Value} {nx lg ls y : Int} (h : RStp w1 q w6 w lv nx lg ls) (v : Value) (hv : v = .int .i64 y) : RStp w1 q w6 (w.setCell ⟨q, 2, none⟩ v) lv nx y ls :=
  ⟨by rw [hv]; exact h.blk.set (o := 2) (.int .i64 y), h.upd.set q 2 v rfl, h.hi⟩
theorem RStp.put3 {w1 w6 w : World} {q : Nat} {lv : Value} {nx lg ls y : Int} (h : RStp w1 q w6 w lv nx lg ls) (v : Value) (hv : v = .int .i64 y) : RStp w1 q w6 (w.setCell ⟨q, 3, none⟩ v) lv nx lg y :=
  ⟨by rw [hv]; exact h.blk.set (o := 3) (.int .i64 y), h.upd.set q 3 v rfl, h.hi⟩
/-- What the reference's Apply leaves and tells. -/
def RApTo (B : Nat) (w : World) (c : Nat) (V : Ver) (x : Edt) (e : Ending) (w' : World) : Prop := ∃ (cd : Int) (V' : Ver), e = .returned (.int .i64 cd) ∧ RefAt B w' c V' ∧ UpdF (fun k => k = c) w w' ∧ (applyV V x = none → cd = 12 ∧ V' = V) ∧ (∀ n, applyV V x = some n → cd = 0 ∧ V' = n)
/-- .. and the tables of one that was changed lie in a new row. -/
def RApN (B : Nat) (w : World) (c : Nat) (V : Ver) (x : Edt) (e : Ending) (w' : World) : Prop := ∃ (cd : Int) (V' : Ver), e = .returned (.int .i64 cd) ∧ RefAt B w' c V' ∧ UpdF (fun k => k = c) w w' ∧ (applyV V x = none → cd = 12 ∧ V' = V ∧ Below w.heap.size w w') ∧ (∀ n, applyV V x = some n → cd = 0 ∧ V' = n ∧ RefAt w.heap.size w' c V')
set_option maxHeartbeats 64000000 in
theorem rapply_new {B : Nat} {w : World} {c : Nat} {V : Ver} (h : RefAt B w c V) (hB : B ≤ w.heap.size) (v : Value) (x : Edt) (hx : EdAt w v x) (hok : x.ok) : Calls Try.prog 15 #[.pointer (some ⟨c, 0, none⟩), v] w (RApN B w c V x) := by
  have HMY : Hid (∀ W, Below w.heap.size w W → Calls Try.prog 30 #[v] W fun e w' => e = .returned (.bool (decide (mayE x))) ∧ Below W.heap.size W w') := Lib.hid fun W hW => rmayEd_any v x hok W (hx.below hW)
  have HV := Lib.hid h
  obtain ⟨fv, hb1, hb2⟩ := h.blk
  obtain ⟨va, vd, rfl, ha, hd⟩ := hx
  have HBS := Lib.hid hB
  obtain ⟨aF, cF, rfl⟩ := fil_form hb2
  obtain ⟨aA, cA, rfl, -⟩ := edFl_len ha
  obtain ⟨aD, cD, rfl⟩ := edInts_len hd
  have HL1 : Hid (RApL w B c (.slice aF V.fs.length cF) (.slice aA x.adds.length cA) (.slice aD x.dels.length cD) V.nx V.lg V.ls x.nxt x.lg x.lst V.fs x.adds x.dels (w.alloc (.cells #[.int .i64 x.nxt, .int .i64 x.lg, .int .i64 x.lst, .slice aA x.adds.length cA, .slice aD x.dels.length cD] 44))) := Lib.hid (by
    have u : Below w.heap.size w (w.alloc (.cells #[.int .i64 x.nxt, .int .i64 x.lg, .int .i64 x.lst, .slice aA x.adds.length cA, .slice aD x.dels.length cD] 44)) := (Below.refl _ w).alloc (Nat.le_refl _) _
    exact ⟨BlkAt.new w _ _, hb1.below u, hb2.below u, ha.below u, RdV.below hd u, u⟩)
  clear h hb1 hb2 ha hd hok hB
  obtain ⟨g, hg⟩ : ∃ g, w.heap.size = g := ⟨_, rfl⟩
  have HGE : Hid (∀ W, RApL w B c (.slice aF V.fs.length cF) (.slice aA x.adds.length cA) (.slice aD x.dels.length cD) V.nx V.lg V.ls x.nxt x.lg x.lst V.fs x.adds x.dels W → BlkAt W g #[.int .i64 x.nxt, .int .i64 x.lg, .int .i64 x.lst, .slice aA x.adds.length cA, .slice aD x.dels.length cD] 44) := Lib.hid fun W h => by rw [← hg]; exact h.e
  have HGW := Lib.hid hg
  obtain ⟨nF, hnF⟩ : ∃ n, V.fs.length = n := ⟨_, rfl⟩
  obtain ⟨nA, hnA⟩ : ∃ n, x.adds.length = n := ⟨_, rfl⟩
  obtain ⟨nD, hnD⟩ : ∃ n, x.dels.length = n := ⟨_, rfl⟩
  have HNS := Lib.hid (And.intro hnF (And.intro hnA hnD))
  rw [hnF] at HL1 HGE
  rw [hnA] at HL1 HGE HMY ⊢
  rw [hnD] at HL1 HGE HMY ⊢
  clear hnF hnA hnD
  go_enter Try.func15, Try.ntmps15
  obtain ⟨w1, hw1⟩ : ∃ y, w.alloc (.cells #[.int .i64 x.nxt, .int .i64 x.lg, .int .i64 x.lst, .slice aA nA cA, .slice aD nD cD] 44) = y := ⟨_, rfl⟩
  rw [hw1] at HL1
  obtain ⟨z0, z1, z2, z3, z4⟩ := cell5_of (HGE.out _ HL1.out)
  go_wp2_with fail
  refine (HMY.out _ HL1.out.bel).mono ?_
  rintro e w2 ⟨rfl, hb2⟩
  have HB2 := Lib.hid hb2
  clear hb2 HMY hw1 hg z0 z1 z2 z3 z4
  by_cases hm : mayE x
  rotate_left
  · have HN : Hid (applyV V x = none) := Lib.hid (if_neg hm)
    have e0 : decide (mayE x) = false := decide_eq_false hm
    rw [e0]
    clear e0 hm
    go_wp2_with fail
    go_ret
    have hb := (HL1.out.below HB2.out).bel
    exact ⟨12, V, rfl, HV.out.below hb, UpdF.of hb, fun _ => ⟨rfl, rfl, hb⟩, fun n hn => (by rw [HN.out] at hn; cases hn)⟩
  have HM := Lib.hid hm
  have e0 : decide (mayE x) = true := decide_eq_true hm
  rw [e0]
  clear e0 hm
  have hnA2 : nA ≤ 200 := by have := HM.out.2.1.1; have := HNS.out.2.1; omega
  have hnD2 : nD ≤ 200 := by have := HM.out.2.1.2; have := HNS.out.2.2; omega
  have hnF2 : nF ≤ 200 := by have := HV.out.good.few; have := HNS.out.1; omega
  obtain ⟨z0, z1, z2, z3⟩ := cell4_of (HL1.out.below HB2.out).v
  have HRF := Lib.hid ((HL1.out.below HB2.out).t.rd encTbf_len)
  go_wp2_with (at_builtin; refine wp_appSK elem_tbf encTbf_len _ _ (by rfl) (by rfl) (by rfl) (OwnK.nil encTbf 5 49 w2.heap.size w2) (by rfl) HRF.out (encTbf_one _) ?c1 ?c2 (Nat.le_refl _) ?_)
  case c1 => have := HNS.out.1; simp; omega
  case c2 => have := HNS.out.1; unfold maxLen; simp; omega
  intro v3 w3 o3 b3
  have o3 : OwnK encTbf 5 49 w2.heap.size w3 v3 V.fs := o3
  obtain ⟨a3, c3, rfl⟩ := fil_form o3
  have HO3 : Hid (OwnK encTbf 5 49 w1.heap.size w3 (.slice a3 nF c3) V.fs) := Lib.hid (by rw [HNS.out.1] at o3; exact o3.base HB2.out.size)
  have HB3 : Hid (Below w1.heap.size w1 w3) := Lib.hid (HB2.out.trans (b3.mono HB2.out.size))
  rw [HNS.out.1]
  clear o3 b3 z0 z1 z2 z3 HRF HB2
  obtain ⟨R, hR⟩ : ∃ R, vDels V.fs x.dels = R := ⟨_, rfl⟩
  have HR := Lib.hid hR
  clear hR
  have HAI := Lib.hid (fun ys (hd : vDels V.fs x.dels = some ys) => apply_is (V := V) HM.out hd)
  have hc3 : nF ≤ c3 := by
    rcases HO3.out.blk with ⟨e, -⟩ | ⟨g, c, cur, e, -, -, -, h5, -⟩
    · simp only [Value.slice.injEq] at e; omega
    · simp only [Value.slice.injEq] at e; omega
  go_wp2_with fail
  go_loopg [5, 6, 7] nD (fun kk vl vi _ wr => ∃ (i : Nat) (ys : List Tbf) (al : Option Addr) (nl cl : Nat), vi = .int .i64 (i : Int) ∧ vl = .slice al nl cl ∧ i ≤ nD ∧ nD - i ≤ kk ∧ nl ≤ 200 ∧ nl ≤ cl ∧ Hid (ys.length = nl) ∧ Hid (OwnK encTbf 5 49 w1.heap.size wr (.slice al nl cl) ys) ∧ Hid (vDels ys (x.dels.drop i) = R) ∧ Hid (Below w1.heap.size w1 wr))
  case atStart => exact ⟨0, V.fs, a3, nF, c3, rfl, rfl, by omega, by omega, hnF2, hc3, Lib.hid HNS.out.1, HO3, Lib.hid (by rw [List.drop_zero]; exact HR.out), HB3⟩
  case round =>
    clear HO3 HB3
    obtain ⟨q, ys, al, nl, cl, rfl, rfl, hq, hqk, hnl, hnc, HL, HY, HVV, HB⟩ := hrel
    have hd0 : (0 : Int) ≤ (q : Int) := by omega
    obtain ⟨z0, z1, z2, z3, z4⟩ := cell5_of (HGE.out _ (HL1.out.below HB.out))
    by_cases h1 : q < nD
    · have hd1 : (q : Int) < (nD : Int) := by omega
      obtain ⟨k, hk⟩ : ∃ k, x.dels[q]? = some k := ⟨x.dels[q]'(by have := HNS.out.2.2; omega), List.getElem?_eq_getElem _⟩
      obtain ⟨bd, od, rfl, hblt, d0⟩ := edInts_at (HL1.out.below HB.out).d q k hk
      have HF := Lib.hid (rnum_any (.slice al nl cl) k ys (by have := HL.out; omega) wr (HY.out.rd encTbf_len))
      have HK : Hid (vDels ys (k :: x.dels.drop (q + 1)) = R) := Lib.hid (by
        have e : x.dels.drop q = k :: x.dels.drop (q + 1) := by
          rw [List.drop_eq_getElem_cons (by have := HNS.out.2.2; omega)]
          congr 1
          exact (List.getElem?_eq_some_iff.1 hk).2
        rw [← e]; exact HVV.out)
      clear hk HVV
      go_wp2_with fail
      refine HF.out.mono ?_
      rintro e w2 ⟨i, rfl, hi, hw2⟩
      rw [hw2]
      clear hw2
      have HI := Lib.hid hi
      clear hi HF d0
      by_cases hneg : i < 0
      · have HX : Hid (applyV V x = none) := Lib.hid (by
          refine apply_none1 (HR.out.trans ?_)
          rw [← HK.out, vDels, if_neg]
          rintro ⟨f, hf, e⟩
          have := (HI.out.bd).2.2.2 ⟨f, hf, e⟩
          omega)
        clear HI HK
        go_wp2_with fail
        go_ret
        have hb := (HL1.out.below HB.out).bel
        exact ⟨12, V, rfl, HV.out.below hb, UpdF.of hb, fun _ => ⟨rfl, rfl, hb⟩, fun n hn => (by rw [HX.out] at hn; cases hn)⟩
      · obtain ⟨j, y, rfl, HJ⟩ : ∃ (j : Nat) (y : Tbf), i = (j : Int) ∧ Hid (ys[j]? = some y ∧ y.num = k ∧ ∀ (m : Nat) (y : Tbf), m < j → ys[m]? = some y → ¬ y.num = k) := by
          rcases HI.out with ⟨j, y, e, h1, h2, h3⟩ | ⟨e, -⟩
          · exact ⟨j, y, e, Lib.hid ⟨h1, h2, h3⟩⟩
          · omega
        have hjl : j < nl := by have := (List.getElem?_eq_some_iff.1 HJ.out.1).1; have := HL.out; omega
        have HE : Hid ((ys.eraseIdx j).length ≤ 200) := Lib.hid (by rw [List.length_eraseIdx]; split <;> (have := HL.out; omega))
        have HV2 : Hid (vDels (ys.eraseIdx j) (x.dels.drop (q + 1)) = R) := Lib.hid (by
          rw [← HK.out, vDels, if_pos ⟨y, List.mem_of_getElem? HJ.out.1, HJ.out.2.1⟩]
          unfold vDel
          rw [eraseP_at (p := fun f => f.num = k) HJ.out.1 HJ.out.2.1 HJ.out.2.2])
        clear HI HK HJ
        have hjp : (0 : Int) ≤ (j : Int) := by omega
        have hjb : (j : Int) ≤ 1000000 := by omega
        have eq1 : ((j + 1 : Nat) : Int) = (j : Int) + 1 := by omega
        have HS1 : Hid (∀ W, (Instr.sliceAt 30 (.slice al nl cl) none (some (.int .i64 (j : Int))) none).run Try.prog W = .ok (.slice al j cl) W) := Lib.hid fun W => sl_hF2 W _ nl cl j (by omega)
        have HS2 : Hid (∀ W, (Instr.sliceAt 30 (.slice al nl cl) (some (.int .i64 ((j : Int) + 1))) none none).run Try.prog W = .ok (.slice (if cl = j + 1 then al else (al : Option Addr).map (·.add ((j + 1) * 5))) (nl - (j + 1)) (cl - (j + 1))) W) := Lib.hid fun W => by rw [← eq1]; exact sl_lF W _ nl cl (j + 1) (by omega) hnc
        have HIN := Lib.hid (rdel_run (w := wr.drew) (HY.out.rd encTbf_len) HL.out.symm hnc (B := w1.heap.size) HB.out.size j hjl (by have := HL.out; omega) 30 30)
        obtain ⟨T, hT⟩ : ∃ T : Value, Value.slice (if cl = j + 1 then al else (al : Option Addr).map (·.add ((j + 1) * 5))) (nl - (j + 1)) (cl - (j + 1)) = T := ⟨_, rfl⟩
        rw [hT] at HS2 HIN
        clear hT eq1
        go_wp2_with fail
        refine wp_region_held_drew (S := fun _ => True) (by kernel_rfl) trivial (fun hHeld => ?_)
        refine takeYes (i := 0) (k := 38) (v := .slice al nl cl) rfl (by kernel_rfl) (by kernel_rfl) (by kernel_rfl) (by kernel_rfl) (fun _ _ _ h => h) (by kernel_rfl) ?_ trivial ?_
        · intro W hSw; first | (go_simp; done) | go_simp
        try simp only [Act.put, List.setIfInBounds_toArray, List.set_cons_zero, List.set_cons_succ]
        refine takeYes (i := 1) (k := 39) (v := .int .i64 (j : Int)) rfl (by kernel_rfl) (by kernel_rfl) (by kernel_rfl) (by kernel_rfl) (fun _ _ _ h => h) (by kernel_rfl) ?_ trivial ?_
        · intro W hSw; first | (go_simp; done) | go_simp
        try simp only [Act.put, List.setIfInBounds_toArray, List.set_cons_zero, List.set_cons_succ]
        refine takeYes (i := 2) (k := 40) (v := .slice al j cl) rfl (by kernel_rfl) (by kernel_rfl) (by kernel_rfl) (by kernel_rfl) (fun _ _ _ h => h) (by kernel_rfl) ?_ trivial ?_
        · intro W hSw; have hsl := HS1.out W; first | (go_simp; done) | go_simp
        try simp only [Act.put, List.setIfInBounds_toArray, List.set_cons_zero, List.set_cons_succ]
        refine takeYes (i := 4) (k := 42) (v := .slice al nl cl) rfl (by kernel_rfl) (by kernel_rfl) (by kernel_rfl) (by kernel_rfl) (fun _ _ _ h => h) (by kernel_rfl) ?_ trivial ?_
        · intro W hSw; first | (go_simp; done) | go_simp
        try simp only [Act.put, List.setIfInBounds_toArray, List.set_cons_zero, List.set_cons_succ]
        refine takeYes (i := 5) (k := 43) (v := .int .i64 (j : Int)) rfl (by kernel_rfl) (by kernel_rfl) (by kernel_rfl) (by kernel_rfl) (fun _ _ _ h => h) (by kernel_rfl) ?_ trivial ?_
        · intro W hSw; first | (go_simp; done) | go_simp
        try simp only [Act.put, List.setIfInBounds_toArray, List.set_cons_zero, List.set_cons_succ]
        refine takeYes (i := 6) (k := 44) (v := .int .i64 ((j : Int) + 1)) rfl (by kernel_rfl) (by kernel_rfl) (by kernel_rfl) (by kernel_rfl) (fun _ _ _ h => h) (by kernel_rfl) ?_ trivial ?_
        · intro W hSw; have hwj : IntKind.i64.wrap ((j : Int) + 1) = (j : Int) + 1 := IntWalk.i64_in _ (by omega); first | (go_simp; done) | go_simp
        try simp only [Act.put, List.setIfInBounds_toArray, List.set_cons_zero, List.set_cons_succ]
        refine takeYes (i := 7) (k := 45) (v := T) rfl (by kernel_rfl) (by kernel_rfl) (by kernel_rfl) (by kernel_rfl) (fun _ _ _ h => h) (by kernel_rfl) ?_ trivial ?_
        · intro W hSw; have hsl := HS2.out W; first | (go_simp; done) | go_simp
        try simp only [Act.put, List.setIfInBounds_toArray, List.set_cons_zero, List.set_cons_succ]
        obtain ⟨v1, w4, r1, b1, v2, w5, r2, b2, o2⟩ := HIN.out
        refine wpAnyH_ready (rs := [3]) (by kernel_rfl) (by simp) (AllReadyH.cons rfl (fun K hK => ?_) AllReadyH.nil)
        refine step_appD 41 rfl (by kernel_rfl) (.const (.slice none 0 0)) (.tmp 40) 30 rfl rfl rfl r1 ?_
        refine hK.out _ _ trivial (fun hHeld2 => ?_)
        clear hK K
        try simp only [Act.put, List.setIfInBounds_toArray, List.set_cons_zero, List.set_cons_succ]
        refine wpAnyH_ready (rs := [8]) (by kernel_rfl) (by simp) (AllReadyH.cons rfl (fun K hK => ?_) AllReadyH.nil)
        refine step_appD 46 rfl (by kernel_rfl) (.tmp 41) (.tmp 45) 30 rfl rfl rfl r2 ?_
        refine hK.out _ _ trivial (fun hHeld2 => ?_)
        clear hK K
        try simp only [Act.put, List.setIfInBounds_toArray, List.set_cons_zero, List.set_cons_succ]
        refine takeYes (i := 9) (k := 5) (v := v2) rfl (by kernel_rfl) (by kernel_rfl) (by kernel_rfl) (by kernel_rfl) (fun _ _ _ h => h) (by kernel_rfl) ?_ trivial ?_
        · intro W hSw; first | (go_simp; done) | go_simp
        try simp only [Act.put, List.setIfInBounds_toArray, List.set_cons_zero, List.set_cons_succ]
        refine wpAnyH_done (by kernel_rfl) ?_ _
        obtain ⟨a6, c6, rfl⟩ := fil_form o2
        obtain ⟨nl6, hnl6⟩ : ∃ m, (ys.eraseIdx j).length = m := ⟨_, rfl⟩
        rw [hnl6] at o2 HE ⊢
        have hle6 : nl6 ≤ 200 := HE.out
        have hc6 : nl6 ≤ c6 := by
          rcases o2.blk with ⟨e, e2⟩ | ⟨g, c, cur, e, -, -, -, h5, -⟩
          · simp only [Value.slice.injEq] at e; omega
          · simp only [Value.slice.injEq] at e; omega
        have HO5 := Lib.hid o2
        have HN6 := Lib.hid hnl6
        have HB5 : Hid (Below w1.heap.size w1 w5) := Lib.hid (HB.out.trans (show Below w1.heap.size wr w5 from ⟨b2.os, b2.tape, b2.output, b2.size, fun k hk => b2.block k (Nat.lt_of_lt_of_le hk HB.out.size)⟩))
        clear r1 r2 b1 b2 o2 HS1 HS2 HIN HE hnl6 HL HY HB z0 z1 z2 z3 z4
        go_wp2_with fail
        go_roundg (nD - (q + 1))
        case measure => omega
        case rel => exact ⟨q + 1, _, a6, nl6, c6, by go_num, rfl, by omega, Nat.le_refl _, hle6, hc6, HN6, HO5, HV2, HB5⟩
    · have hd1 : ¬ (q : Int) < (nD : Int) := by omega
      have HRS : Hid (vDels V.fs x.dels = some ys) := Lib.hid (by
        rw [HR.out, ← HVV.out, List.drop_of_length_le (by have := HNS.out.2.2; omega)]; rfl)
      have HAS := Lib.hid (HAI.out ys HRS.out)
      obtain ⟨R2, hR2⟩ : ∃ R, vAdds ys x.adds = R := ⟨_, rfl⟩
      have HR2 := Lib.hid hR2
      have HLN := HL
      clear HVV hR2 HAI HR hc3
      obtain ⟨w3, rfl⟩ : ∃ y, y = wr := ⟨_, rfl⟩
      go_wp2_with fail
      clear z0 z1 z2 z3 z4
      go_loopg [5, 8] nA (fun kk vl vi wr => ∃ (i : Nat) (zs : List Tbf) (al : Option Addr) (nz cl : Nat), vi = .int .i64 (i : Int) ∧ vl = .slice al nz cl ∧ i ≤ nA ∧ nA - i ≤ kk ∧ nz = nl + i ∧ Hid (zs.length = nz ∧ zs = ys ++ x.adds.take i) ∧ Hid (OwnK encTbf 5 49 w1.heap.size wr (.slice al nz cl) zs) ∧ Hid (vAdds zs (x.adds.drop i) = R2) ∧ Hid (Below w1.heap.size w1 wr))
      case atStart => exact ⟨0, ys, al, nl, cl, rfl, rfl, by omega, by omega, by omega, Lib.hid ⟨HL.out, by simp⟩, HY, Lib.hid (by rw [List.drop_zero]; exact HR2.out), HB⟩
      case round =>
        clear HY HB HL
        obtain ⟨p, zs, al, nz, cl, rfl, rfl, hp, hpk, hnz, HL, HY, HVV, HB⟩ := hrel
        have HNZ := Lib.hid hnz
        have hnzb : nz ≤ 400 := by omega
        clear hnz
        have hd0 : (0 : Int) ≤ (p : Int) := by omega
        obtain ⟨z0, z1, z2, z3, z4⟩ := cell5_of (HGE.out _ (HL1.out.below HB.out))
        by_cases h1 : p < nA
        · have hd1 : (p : Int) < (nA : Int) := by omega
          obtain ⟨f, hf⟩ : ∃ f, x.adds[p]? = some f := ⟨x.adds[p]'(by have := HNS.out.2.1; omega), List.getElem?_eq_getElem _⟩
          obtain ⟨bb, off, rfl, hblt, d0, d1, d2, d3, d4⟩ := (HL1.out.below HB.out).a.atTbf p f hf
          have HFI := Lib.hid hf
          have HF := Lib.hid (rnum_any (.slice al nz cl) f.num zs (by have := HL.out.1; omega) wr (HY.out.rd encTbf_len))
          have HK : Hid (vAdds zs (f :: x.adds.drop (p + 1)) = R2) := Lib.hid (by
            have e : x.adds.drop p = f :: x.adds.drop (p + 1) := by
              rw [List.drop_eq_getElem_cons (by have := HNS.out.2.1; omega)]
              congr 1
              exact (List.getElem?_eq_some_iff.1 hf).2
            rw [← e]; exact HVV.out)
          clear hf HVV
          go_wp2_with fail
          refine HF.out.mono ?_
          rintro e w2 ⟨i, rfl, hi, hw2⟩
          rw [hw2]
          clear hw2
          have HI := Lib.hid hi
          clear hi HF
          by_cases hpos : 0 ≤ i
          · have HX : Hid (applyV V x = none) := Lib.hid (by
              rw [HAS.out]
              have : vAdds ys x.adds = none := by
                rw [HR2.out, ← HK.out, vAdds, if_pos]
                obtain ⟨y, hy, e⟩ := HI.out.bd.2.2.1 hpos
                exact ⟨y, hy, e⟩
              rw [this])
            clear HI HK
            go_wp2_with fail
            go_ret
            have hb := (HL1.out.below HB.out).bel
            exact ⟨12, V, rfl, HV.out.below hb, UpdF.of hb, fun _ => ⟨rfl, rfl, hb⟩, fun n hn => (by rw [HX.out] at hn; cases hn)⟩
          · have HV2 : Hid (vAdds (zs ++ [f]) (x.adds.drop (p + 1)) = R2) := Lib.hid (by
              rw [← HK.out, vAdds, if_neg]
              rintro ⟨y, hy, e⟩
              exact hpos (HI.out.bd.2.2.2 ⟨y, hy, e⟩))
            clear HI HK
            have hBw : w1.heap.size ≤ wr.heap.size := HB.out.size
            go_wp2_with (at_builtin; refine wp_appHK elem_tbf encTbf_len _ _ (by rfl) (by rfl) (by rfl) HY.out f _ (by rfl) (by rfl) ?c1 ?c2 ?c3 hBw ?_)
            case c1 => exact tbf_cells _
            case c2 => have := HL.out.1; omega
            case c3 => have := HL.out.1; unfold maxLen; omega
            intro v6 w6 o6 b6
            obtain ⟨a6, k6, rfl⟩ := fil_form o6
            have e6 : (zs ++ [f]).length = nz + 1 := by rw [List.length_append]; have := HL.out.1; simp; omega
            rw [e6] at o6 ⊢
            have HL6 : Hid ((zs ++ [f]).length = nz + 1 ∧ zs ++ [f] = ys ++ x.adds.take (p + 1)) := Lib.hid ⟨e6, by rw [HL.out.2, List.take_add_one, HFI.out]; simp⟩
            have hnz6 : nz + 1 = nl + (p + 1) := by have := HNZ.out; omega
            have HO6 := Lib.hid o6
            have HB6 := Lib.hid (HB.out.trans b6)
            clear o6 b6 e6 HY HB HL HFI hBw z0 z1 z2 z3 z4 d0 d1 d2 d3 d4
            go_wp2_with fail
            go_roundg (nA - (p + 1))
            case measure => omega
            case rel => exact ⟨p + 1, _, a6, nz + 1, k6, by go_num, rfl, by omega, Nat.le_refl _, hnz6, HL6, HO6, HV2, HB6⟩
        · have hd1 : ¬ (p : Int) < (nA : Int) := by omega
          have HRA : Hid (vAdds ys x.adds = some zs) := Lib.hid (by
            rw [HR2.out, ← HVV.out, List.drop_of_length_le (by have := HNS.out.2.1; omega)]; rfl)
          have HAP : Hid (applyV V x = if vMay V ⟨zs, vOr x.nxt V.nx, vOr x.lg V.lg, vOr x.lst V.ls⟩ then some ⟨zs, vOr x.nxt V.nx, vOr x.lg V.lg, vOr x.lst V.ls⟩ else none) := Lib.hid (by rw [HAS.out, HRA.out])
          have HZL : Hid (zs.length = nz) := Lib.hid HL.out.1
          have HRZ := Lib.hid (HY.out.rd encTbf_len)
          clear HVV HAS HR2 HNZ HL HLN
          obtain ⟨w4, rfl⟩ : ∃ y, y = wr := ⟨_, rfl⟩
          go_wp2_with fail
          clear z0 z1 z2 z3 z4
          go_loopg [9, 10] nz (fun kk vi _ wr => ∃ i : Nat, vi = .int .i64 (i : Int) ∧ i ≤ nz ∧ nz - i ≤ kk ∧ Hid (∀ (a b : Nat) (f g : Tbf), b < a → a < i → zs[a]? = some f → zs[b]? = some g → ¬ vClash f g) ∧ Hid (Below w4.heap.size w4 wr))
          case atStart => exact ⟨0, rfl, by omega, by omega, Lib.hid (fun a b f g h1 h2 => by omega), Lib.hid (Below.refl _ _)⟩
          case round =>
            obtain ⟨i, rfl, hi, hik, HG, HBR⟩ := hrel
            have hi0 : (0 : Int) ≤ (i : Int) := by omega
            generalize gk = gk0 at *
            by_cases hiN : i < nz
            · have hi1 : (i : Int) < (nz : Int) := by omega
              obtain ⟨f, hf⟩ : ∃ f, zs[i]? = some f := ⟨zs[i]'(by have := HZL.out; omega), List.getElem?_eq_getElem _⟩
              have HF := Lib.hid hf
              clear hf
              go_wp2_with fail
              generalize wr = w5 at *
              go_loopg [10] i (fun kk vk wr => ∃ k : Nat, vk = .int .i64 (k : Int) ∧ k ≤ i ∧ i - k ≤ kk ∧ Hid (∀ (b : Nat) (g : Tbf), b < k → zs[b]? = some g → ¬ vClash f g) ∧ Hid (Below w4.heap.size w4 wr))
              case atStart => exact ⟨0, rfl, by omega, by omega, Lib.hid (fun b g h1 => by omega), HBR⟩
              case round =>
                obtain ⟨k, rfl, hk, hkk, HG1, HB6⟩ := hrel
                have hk0 : (0 : Int) ≤ (k : Int) := by omega
                by_cases hki : k < i
                · have hk1 : (k : Int) < (i : Int) := by omega
                  have hk2 : (k : Int) < (nz : Int) := by omega
                  obtain ⟨y, hy⟩ : ∃ y, zs[k]? = some y := ⟨zs[k]'(by have := HZL.out; omega), List.getElem?_eq_getElem _⟩
                  have HYI := Lib.hid hy
                  obtain ⟨b1, o1, ea, hbl1, AX⟩ := (HRZ.out.below HB6.out).atTbf i f HF.out
                  subst ea
                  obtain ⟨b2, o2, ea, -, AY⟩ := (HRZ.out.below HB6.out).atTbf k y hy
                  simp only [Option.some.injEq, Addr.mk.injEq] at ea
                  obtain ⟨rfl, rfl, -⟩ := ea
                  have HAX := Lib.hid AX
                  have HAY := Lib.hid AY
                  clear hy AX AY
                  obtain ⟨Q, hQ⟩ : ∃ Q : Bool, decide (vClash f y) = Q := ⟨_, rfl⟩
                  have HQ := Lib.hid hQ
                  clear hQ
                  go_upto_region 23 with fail
                  go_cut [126] (fun v wx => v = .bool Q ∧ Hid (Below wr.heap.size wr wx))
                  case first =>
                    as_aux_lemma =>
                    obtain ⟨d0, d1, d2, d3, d4⟩ := HAX.out
                    obtain ⟨e0, e1, e2, e3, e4⟩ := HAY.out
                    obtain ⟨f0, f1, f2, f3, f4⟩ := f
                    obtain ⟨y0, y1, y2, y3, y4⟩ := y
                    have hq0 := HQ.out
                    unfold vClash at hq0
                    simp only at d0 d1 d2 d3 d4 e0 e1 e2 e3 e4 hq0
                    clear HAX HAY HQ HYI HG1 HB6 HF HG HBR HAP HZL HRZ HY HB HRA HM HNS HGE HL1 HV HBS HGW HRS
                    by_cases h1 : f1 = y1
                    rotate_left
                    · obtain rfl : Q = false := by rw [← hq0]; exact decide_eq_false fun h => h1 h.1
                      have h1b : (f1 == y1) = false := by simp [h1]
                      clear hq0
                      go_quiet (fail)
                      go_wp2_with fail
                      go_meet
                      exact ⟨rfl, Lib.hid (DrN.below ⟨nq, rfl⟩ _)⟩
                    · subst h1
                      have h1b : (f1 == f1) = true := by simp
                      by_cases h2 : 0 < f1
                      rotate_left
                      · obtain rfl : Q = false := by rw [← hq0]; exact decide_eq_false fun h => h2 h.2.1
                        clear hq0
                        go_quiet (fail)
                        go_wp2_with fail
                        go_meet
                        exact ⟨rfl, Lib.hid (DrN.below ⟨nq, rfl⟩ _)⟩
                      · rcases le_three f3 y4 with ⟨u1, t1⟩ | ⟨u1, v1, t1⟩ | ⟨u1, v1, t1⟩
                        · rcases le_three y3 f4 with ⟨u2, t2⟩ | ⟨u2, v2, t2⟩ | ⟨u2, v2, t2⟩
                          · obtain rfl : Q = true := by rw [← hq0]; exact decide_eq_true ⟨rfl, h2, of_decide_eq_false t1, of_decide_eq_false t2⟩
                            clear hq0 t1 t2
                            go_quiet (fail)
                            go_wp2_with fail
                            go_meet
                            exact ⟨rfl, Lib.hid (DrN.below ⟨nq, rfl⟩ _)⟩
                          · obtain rfl : Q = true := by rw [← hq0]; exact decide_eq_true ⟨rfl, h2, of_decide_eq_false t1, of_decide_eq_false t2⟩
                            clear hq0 t1 t2
                            go_quiet (fail)
                            go_wp2_with fail
                            go_meet
                            exact ⟨rfl, Lib.hid (DrN.below ⟨nq, rfl⟩ _)⟩
                          · obtain rfl : Q = false := by rw [← hq0]; exact decide_eq_false fun h => h.2.2.2 (of_decide_eq_true t2)
                            clear hq0 t1 t2
                            go_quiet (fail)
                            go_wp2_with fail
                            go_meet
                            exact ⟨rfl, Lib.hid (DrN.below ⟨nq, rfl⟩ _)⟩
                        · rcases le_three y3 f4 with ⟨u2, t2⟩ | ⟨u2, v2, t2⟩ | ⟨u2, v2, t2⟩
                          · obtain rfl : Q = true := by rw [← hq0]; exact decide_eq_true ⟨rfl, h2, of_decide_eq_false t1, of_decide_eq_false t2⟩
                            clear hq0 t1 t2
                            go_quiet (fail)
                            go_wp2_with fail
                            go_meet
                            exact ⟨rfl, Lib.hid (DrN.below ⟨nq, rfl⟩ _)⟩
                          · obtain rfl : Q = true := by rw [← hq0]; exact decide_eq_true ⟨rfl, h2, of_decide_eq_false t1, of_decide_eq_false t2⟩
                            clear hq0 t1 t2
                            go_quiet (fail)
                            go_wp2_with fail
                            go_meet
                            exact ⟨rfl, Lib.hid (DrN.below ⟨nq, rfl⟩ _)⟩
                          · obtain rfl : Q = false := by rw [← hq0]; exact decide_eq_false fun h => h.2.2.2 (of_decide_eq_true t2)
                            clear hq0 t1 t2
                            go_quiet (fail)
                            go_wp2_with fail
                            go_meet
                            exact ⟨rfl, Lib.hid (DrN.below ⟨nq, rfl⟩ _)⟩
                        · obtain rfl : Q = false := by rw [← hq0]; exact decide_eq_false fun h => h.2.2.1 (of_decide_eq_true t1)
                          clear hq0 t1
                          go_quiet (fail)
                          go_wp2_with fail
                          go_meet
                          exact ⟨rfl, Lib.hid (DrN.below ⟨nq, rfl⟩ _)⟩
                  case rest =>
                    obtain ⟨rfl, HBC⟩ := hcut
                    have HB7 := Lib.hid (HB6.out.trans (HBC.out.mono HB6.out.size))
                    clear HAX HAY
                    cases Q with
                    | true =>
                      have HX : Hid (applyV V x = none) := Lib.hid (by
                        rw [HAP.out, if_neg]
                        intro hmay
                        have hp := List.pairwise_iff_getElem.1 hmay.1 k i (by have := (List.getElem?_eq_some_iff.1 HYI.out).1; exact this) (by have := (List.getElem?_eq_some_iff.1 HF.out).1; exact this) hki
                        refine hp (vClash_comm ?_)
                        have e1 := (List.getElem?_eq_some_iff.1 HYI.out).2
                        have e2 := (List.getElem?_eq_some_iff.1 HF.out).2
                        rw [e1, e2]
                        exact of_decide_eq_true HQ.out)
                      clear HQ HG1 HG
                      go_wp2_with fail
                      go_ret
                      have hb := (HL1.out.below (HB.out.trans (HB7.out.mono HB.out.size))).bel
                      exact ⟨12, V, rfl, HV.out.below hb, UpdF.of hb, fun _ => ⟨rfl, rfl, hb⟩, fun n hn => (by rw [HX.out] at hn; cases hn)⟩
                    | false =>
                      have HG2 : Hid (∀ (b : Nat) (g : Tbf), b < k + 1 → zs[b]? = some g → ¬ vClash f g) := Lib.hid fun b g hb hg => by
                        rcases Nat.lt_or_ge b k with h | h
                        · exact HG1.out b g h hg
                        · obtain rfl : b = k := by omega
                          rw [HYI.out] at hg
                          obtain rfl := Option.some.inj hg
                          exact of_decide_eq_false HQ.out
                      clear HQ HG1
                      go_wp2_with fail
                      go_roundg (i - (k + 1))
                      case measure => omega
                      case rel => exact ⟨k + 1, by go_num, by omega, Nat.le_refl _, HG2, HB7⟩
                · have hk1 : ¬ (k : Int) < (i : Int) := by omega
                  have HG2 : Hid (∀ (a b : Nat) (f g : Tbf), b < a → a < i + 1 → zs[a]? = some f → zs[b]? = some g → ¬ vClash f g) := Lib.hid fun a b f' g h1 h2 h3 h4 => by
                    rcases Nat.lt_or_ge a i with h | h
                    · exact HG.out a b f' g h1 h h3 h4
                    · obtain rfl : a = i := by omega
                      rw [HF.out] at h3
                      obtain rfl := Option.some.inj h3
                      exact HG1.out b g (by omega) h4
                  clear HG HG1
                  go_wp2_with fail
                  go_roundg (nz - (i + 1))
                  case measure => omega
                  case rel => exact ⟨i + 1, by go_num, by omega, Nat.le_refl _, HG2, HB6⟩
            · have hi1 : ¬ (i : Int) < (nz : Int) := by omega
              have HAPT : Hid (vApart zs) := Lib.hid (apart_of fun a b f g h1 h2 h3 => HG.out a b f g h1 (by have := (List.getElem?_eq_some_iff.1 h2).1; have := HZL.out; omega) h2 h3)
              clear HG
              have HB8 := Lib.hid (HB.out.trans (HBR.out.mono HB.out.size))
              have HOZ := Lib.hid (HY.out.below HBR.out)
              obtain ⟨w5, rfl⟩ : ∃ y, y = wr := ⟨_, rfl⟩
              obtain ⟨z0, z1, z2, z3⟩ := cell4_of (HL1.out.below HB8.out).v
              clear HBR HY HB
              go_upto_region 27 with fail
              have hb56 : Below w5.heap.size w5 (w5.alloc (.cells #[.slice al nz cl, .int .i64 V.nx, .int .i64 V.lg, .int .i64 V.ls] 54)) := (Below.refl _ _).alloc (Nat.le_refl _) _
              have HN6 : Hid (BlkAt (w5.alloc (.cells #[.slice al nz cl, .int .i64 V.nx, .int .i64 V.lg, .int .i64 V.ls] 54)) w5.heap.size #[.slice al nz cl, .int .i64 V.nx, .int .i64 V.lg, .int .i64 V.ls] 54) := Lib.hid (BlkAt.new _ _ _)
              have HB9 := Lib.hid (HB8.out.trans (hb56.mono HB8.out.size))
              have HO9 := Lib.hid (HOZ.out.below hb56)
              have HQ1 : Hid (w1.heap.size ≤ w5.heap.size) := Lib.hid HB8.out.size
              clear hb56 HOZ HB8 HRZ z0 z1 z2 z3
              generalize w5.alloc (.cells #[.slice al nz cl, .int .i64 V.nx, .int .i64 V.lg, .int .i64 V.ls] 54) = w6 at *
              generalize w5.heap.size = qn at *
              obtain ⟨y0, y1, y2, y3, y4⟩ := cell5_of (HGE.out _ (HL1.out.below HB9.out))
              go_upto_if 134 with fail
              clear y0 y1 y2 y3 y4
              have HK0 : Hid (RStp w1 qn w6 w6 (.slice al nz cl) V.nx V.lg V.ls) := Lib.hid ⟨HN6.out, UpdF.refl _ _, HQ1.out⟩
              have HK0X := HN6
              clear HN6 HQ1
              go_cut [] (fun wx => Hid (RStp w1 qn w6 wx (.slice al nz cl) (vOr x.nxt V.nx) V.lg V.ls))
              case first =>
                as_aux_lemma =>
                obtain ⟨y0, y1, y2, y3, y4⟩ := cell5_of (HGE.out _ (HL1.out.below (HK0.out.bel HB9.out)))
                have ff := HK0.out.blk.free 1
                obtain ⟨k0, k1, k2, k3⟩ := cell4_of HK0.out.blk
                by_cases hz : x.nxt = 0
                · have hzb : (x.nxt != 0) = false := by simp [hz]
                  have HE : Hid (V.nx = vOr x.nxt V.nx) := Lib.hid (if_pos hz).symm
                  clear hz HM HRA HAP HAPT
                  go_wp2_with fail
                  go_meet
                  rw [← HE.out]; exact HK0
                · have hzb : (x.nxt != 0) = true := by simp [hz]
                  have HE : Hid (x.nxt = vOr x.nxt V.nx) := Lib.hid (if_neg hz).symm
                  clear hz HM HRA HAP HAPT
                  go_wp2_with fail
                  go_meet
                  exact Lib.hid (HK0.out.put1 (.int .i64 x.nxt) (by rw [← HE.out]))
              case rest =>
              have HK1 := hcut
              clear hcut HK0
              generalize wc = w7 at *
              obtain ⟨y0, y1, y2, y3, y4⟩ := cell5_of (HGE.out _ (HL1.out.below (HK1.out.bel HB9.out)))
              go_upto_if 140 with fail
              clear y0 y1 y2 y3 y4
              go_cut [] (fun wx => Hid (RStp w1 qn w6 wx (.slice al nz cl) (vOr x.nxt V.nx) (vOr x.lg V.lg) V.ls))
              case first =>
                as_aux_lemma =>
                obtain ⟨y0, y1, y2, y3, y4⟩ := cell5_of (HGE.out _ (HL1.out.below (HK1.out.bel HB9.out)))
                have ff := HK1.out.blk.free 2
                obtain ⟨k0, k1, k2, k3⟩ := cell4_of HK1.out.blk
                by_cases hz : x.lg = 0
                · have hzb : (x.lg != 0) = false := by simp [hz]
                  have HE : Hid (V.lg = vOr x.lg V.lg) := Lib.hid (if_pos hz).symm
                  clear hz HM HRA HAP HAPT
                  go_wp2_with fail
                  go_meet
                  rw [← HE.out]; exact HK1
                · have hzb : (x.lg != 0) = true := by simp [hz]
                  have HE : Hid (x.lg = vOr x.lg V.lg) := Lib.hid (if_neg hz).symm
                  clear hz HM HRA HAP HAPT
                  go_wp2_with fail
                  go_meet
                  exact Lib.hid (HK1.out.put2 (.int .i64 x.lg) (by rw [← HE.out]))
              case rest =>
              have HK2 := hcut
              clear hcut HK1
              generalize wc = w8 at *
              obtain ⟨y0, y1, y2, y3, y4⟩ := cell5_of (HGE.out _ (HL1.out.below (HK2.out.bel HB9.out)))
              go_upto_if 146 with fail
              clear y0 y1 y2 y3 y4
              go_cut [] (fun wx => Hid (RStp w1 qn w6 wx (.slice al nz cl) (vOr x.nxt V.nx) (vOr x.lg V.lg) (vOr x.lst V.ls)))
              case first =>
                as_aux_lemma =>
                obtain ⟨y0, y1, y2, y3, y4⟩ := cell5_of (HGE.out _ (HL1.out.below (HK2.out.bel HB9.out)))
                have ff := HK2.out.blk.free 3
                obtain ⟨k0, k1, k2, k3⟩ := cell4_of HK2.out.blk
                by_cases hz : x.lst = 0
                · have hzb : (x.lst != 0) = false := by simp [hz]
                  have HE : Hid (V.ls = vOr x.lst V.ls) := Lib.hid (if_pos hz).symm
                  clear hz HM HRA HAP HAPT
                  go_wp2_with fail
                  go_meet
                  rw [← HE.out]; exact HK2
                · have hzb : (x.lst != 0) = true := by simp [hz]
                  have HE : Hid (x.lst = vOr x.lst V.ls) := Lib.hid (if_neg hz).symm
                  clear hz HM HRA HAP HAPT
                  go_wp2_with fail
                  go_meet
                  exact Lib.hid (HK2.out.put3 (.int .i64 x.lst) (by rw [← HE.out]))
              case rest =>
              have HK3 := hcut
              clear hcut HK2
              generalize wc = w9 at *
              obtain ⟨nx, hnx⟩ : ∃ y, vOr x.nxt V.nx = y := ⟨_, rfl⟩
              obtain ⟨lg, hlg⟩ : ∃ y, vOr x.lg V.lg = y := ⟨_, rfl⟩
              obtain ⟨ls, hls⟩ : ∃ y, vOr x.lst V.ls = y := ⟨_, rfl⟩
              rw [hnx, hlg, hls] at HAP HK3
              clear hnx hlg hls
              have HCV := Lib.hid (HL1.out.below (HK3.out.bel HB9.out)).v
              obtain ⟨Q, hQ⟩ : ∃ Q : Bool, decide (rBad nz nx lg ls V.nx V.lg V.ls) = Q := ⟨_, rfl⟩
              have HQ := Lib.hid hQ
              clear hQ
              go_upto_region 33 with fail
              go_cut [12] (fun v wx => v = .bool Q ∧ Hid (Below w9.heap.size w9 wx))
              case first =>
                as_aux_lemma =>
                obtain ⟨k0, k1, k2, k3⟩ := cell4_of HK3.out.blk
                obtain ⟨z0, z1, z2, z3⟩ := cell4_of HCV.out
                have hq0 := HQ.out
                unfold rBad at hq0
                clear HQ HK3 HCV HAP HAPT HRA HM HL1 HGE HNS HB9 HO9 HZL HV HBS HGW HRS
                by_cases h1 : 200 < nz
                · obtain rfl : Q = true := by rw [← hq0]; exact decide_eq_true (.inl h1)
                  have hi1 : (200 : Int) < (nz : Int) := by omega
                  clear hq0
                  go_quiet (fail)
                  go_wp2_with fail
                  go_meet
                  exact ⟨rfl, Lib.hid (DrN.below ⟨nq, rfl⟩ _)⟩
                have hi1 : ¬ (200 : Int) < (nz : Int) := by omega
                by_cases h2 : nx < V.nx
                · obtain rfl : Q = true := by rw [← hq0]; exact decide_eq_true (.inr (.inl h2))
                  clear hq0
                  go_quiet (fail)
                  go_wp2_with fail
                  go_meet
                  exact ⟨rfl, Lib.hid (DrN.below ⟨nq, rfl⟩ _)⟩
                by_cases h3 : lg < V.lg
                · obtain rfl : Q = true := by rw [← hq0]; exact decide_eq_true (.inr (.inr (.inl h3)))
                  clear hq0
                  go_quiet (fail)
                  go_wp2_with fail
                  go_meet
                  exact ⟨rfl, Lib.hid (DrN.below ⟨nq, rfl⟩ _)⟩
                by_cases h4 : ls < V.ls
                · obtain rfl : Q = true := by rw [← hq0]; exact decide_eq_true (.inr (.inr (.inr (.inl h4))))
                  clear hq0
                  go_quiet (fail)
                  go_wp2_with fail
                  go_meet
                  exact ⟨rfl, Lib.hid (DrN.below ⟨nq, rfl⟩ _)⟩
                by_cases h5 : nx ≤ lg
                rotate_left
                · obtain rfl : Q = false := by rw [← hq0]; exact decide_eq_false (by omega)
                  clear hq0
                  go_quiet (fail)
                  go_wp2_with fail
                  go_meet
                  exact ⟨rfl, Lib.hid (DrN.below ⟨nq, rfl⟩ _)⟩
                by_cases h6 : 0 < lg
                · obtain rfl : Q = true := by rw [← hq0]; exact decide_eq_true (.inr (.inr (.inr (.inr ⟨h5, h6⟩))))
                  clear hq0
                  go_quiet (fail)
                  go_wp2_with fail
                  go_meet
                  exact ⟨rfl, Lib.hid (DrN.below ⟨nq, rfl⟩ _)⟩
                · obtain rfl : Q = false := by rw [← hq0]; exact decide_eq_false (by omega)
                  clear hq0
                  go_quiet (fail)
                  go_wp2_with fail
                  go_meet
                  exact ⟨rfl, Lib.hid (DrN.below ⟨nq, rfl⟩ _)⟩
              case rest =>
              obtain ⟨rfl, HBC⟩ := hcut
              generalize wc = w10 at *
              have HKB : Hid (BlkAt w10 qn #[.slice al nz cl, .int .i64 nx, .int .i64 lg, .int .i64 ls] 54 ∧ Below w1.heap.size w1 w10) := Lib.hid ⟨HK3.out.blk.below HBC.out, (HK3.out.bel HB9.out).trans (HBC.out.mono (HK3.out.bel HB9.out).size)⟩
              have HUP : Hid (UpdF (fun k => k = qn) w6 w10) := Lib.hid (HK3.out.upd.trans (UpdF.of HBC.out))
              have HOK : Hid (OwnK encTbf 5 49 w1.heap.size w10 (.slice al nz cl) zs) := Lib.hid ((HO9.out.asideT HK3.out.upd HK0X.out (by decide)).below HBC.out)
              have HQN : Hid (w1.heap.size ≤ qn) := Lib.hid HK3.out.hi
              clear HK3 HBC HO9 HCV HB9 HUP HK0X
              go_wp2_with fail
              go_loopg [12, 13] nz (fun kk vb vi wr => ∃ (i : Nat) (Bd : Bool), vi = .int .i64 (i : Int) ∧ vb = .bool Bd ∧ i ≤ nz ∧ nz - i ≤ kk ∧ Hid (Bd = true ↔ (rBad nz nx lg ls V.nx V.lg V.ls ∨ ∃ (j : Nat) (f : Tbf), j < i ∧ zs[j]? = some f ∧ nx ≤ f.num)) ∧ Hid (Below w10.heap.size w10 wr))
              case atStart => exact ⟨0, Q, rfl, rfl, by omega, by omega, Lib.hid (by
                  rw [← HQ.out, decide_eq_true_iff]
                  exact ⟨fun h => .inl h, fun h => h.resolve_right (by rintro ⟨j, f, hj, -⟩; omega)⟩), Lib.hid (Below.refl _ _)⟩
              case round =>
                obtain ⟨i, Bd, rfl, rfl, hi, hik, HG, HBR⟩ := hrel
                have hi0 : (0 : Int) ≤ (i : Int) := by omega
                by_cases hiN : i < nz
                · have hi1 : (i : Int) < (nz : Int) := by omega
                  obtain ⟨f, hf⟩ : ∃ f, zs[i]? = some f := ⟨zs[i]'(by have := HZL.out; omega), List.getElem?_eq_getElem _⟩
                  have HF := Lib.hid hf
                  obtain ⟨b1, o1, ea, hbl1, d0, d1, d2, d3, d4⟩ := ((HOK.out.below HBR.out).rd encTbf_len).atTbf i f hf
                  subst ea
                  obtain ⟨k0, k1, k2, k3⟩ := cell4_of (HKB.out.1.below HBR.out)
                  clear hf
                  obtain ⟨Q2, hQ2⟩ : ∃ Q2 : Bool, (Bd || decide (nx ≤ f.num)) = Q2 := ⟨_, rfl⟩
                  have HQ2 := Lib.hid hQ2
                  have HG2 : Hid (Q2 = true ↔ (rBad nz nx lg ls V.nx V.lg V.ls ∨ ∃ (j : Nat) (f : Tbf), j < i + 1 ∧ zs[j]? = some f ∧ nx ≤ f.num)) := Lib.hid (by
                    rw [← hQ2, Bool.or_eq_true, decide_eq_true_iff, HG.out]
                    constructor
                    · rintro ((h | ⟨j, y, hj, hy, hle⟩) | h)
                      · exact .inl h
                      · exact .inr ⟨j, y, by omega, hy, hle⟩
                      · exact .inr ⟨i, f, by omega, HF.out, h⟩
                    · rintro (h | ⟨j, y, hj, hy, hle⟩)
                      · exact .inl (.inl h)
                      · rcases Nat.lt_or_ge j i with hlt | hge
                        · exact .inl (.inr ⟨j, y, hlt, hy, hle⟩)
                        · obtain rfl : j = i := by omega
                          rw [HF.out] at hy
                          obtain rfl := Option.some.inj hy
                          exact .inr hle)
                  clear hQ2
                  obtain ⟨f0, f1, f2, f3, f4⟩ := f
                  have hq0 := HQ2.out
                  simp only at d0 d1 d2 d3 d4 hq0
                  cases Bd
                  · by_cases h1 : nx ≤ f0
                    · obtain rfl : Q2 = true := by rw [← hq0, decide_eq_true h1]; rfl
                      clear hq0
                      go_wp2_with fail
                      go_quiet (fail)
                      have HB3 := Lib.hid (HBR.out.trans ((DrN.below ⟨nq, rfl⟩ wr.heap.size : Below wr.heap.size wr (wr.drewN nq)).mono HBR.out.size))
                      clear HG HQ2 HF HBR d0 d1 d2 d3 d4 k0 k1 k2 k3
                      go_wp2_with fail
                      go_roundg (nz - (i + 1))
                      case measure => omega
                      case rel => exact ⟨i + 1, true, by go_num, rfl, by omega, Nat.le_refl _, Lib.hid ⟨fun _ => HG2.out.1 trivial, fun _ => rfl⟩, HB3⟩
                    · obtain rfl : Q2 = false := by rw [← hq0, decide_eq_false h1]; rfl
                      have hdf : decide (nx ≤ f0) = false := decide_eq_false h1
                      clear hq0 h1
                      go_wp2_with fail
                      go_quiet (fail)
                      have HB3 := Lib.hid (HBR.out.trans ((DrN.below ⟨nq, rfl⟩ wr.heap.size : Below wr.heap.size wr (wr.drewN nq)).mono HBR.out.size))
                      clear HG HQ2 HF HBR d0 d1 d2 d3 d4 k0 k1 k2 k3
                      go_wp2_with fail
                      go_roundg (nz - (i + 1))
                      case measure => omega
                      case rel => exact ⟨i + 1, false, by go_num, rfl, by omega, Nat.le_refl _, HG2, HB3⟩
                  · obtain rfl : Q2 = true := by rw [← hq0]; rfl
                    clear hq0
                    go_wp2_with fail
                    go_quiet (fail)
                    have HB3 := Lib.hid (HBR.out.trans ((DrN.below ⟨nq, rfl⟩ wr.heap.size : Below wr.heap.size wr (wr.drewN nq)).mono HBR.out.size))
                    clear HG HQ2 HF HBR d0 d1 d2 d3 d4 k0 k1 k2 k3
                    go_wp2_with fail
                    go_roundg (nz - (i + 1))
                    case measure => omega
                    case rel => exact ⟨i + 1, true, by go_num, rfl, by omega, Nat.le_refl _, Lib.hid ⟨fun _ => HG2.out.1 trivial, fun _ => rfl⟩, HB3⟩
                · have hi1 : ¬ (i : Int) < (nz : Int) := by omega
                  have HGE2 : Hid (Bd = true ↔ ¬ vMay V ⟨zs, nx, lg, ls⟩) := Lib.hid (by
                    rw [HG.out, vMay_rBad HAPT.out, Decidable.not_not]
                    simp only [HZL.out]
                    constructor
                    · rintro (h | ⟨j, f, hj, hy, hle⟩)
                      · exact .inl h
                      · exact .inr ⟨f, List.mem_of_getElem? hy, hle⟩
                    · rintro (h | ⟨f, hf, hle⟩)
                      · exact .inl h
                      · obtain ⟨j, hj, rfl⟩ := List.getElem_of_mem hf
                        exact .inr ⟨j, _, by have := HZL.out; omega, List.getElem?_eq_getElem hj, hle⟩)
                  have HBW : Hid (Below w1.heap.size w1 wr) := Lib.hid (HKB.out.2.trans (HBR.out.mono HKB.out.2.size))
                  have HBK := Lib.hid (HKB.out.1.below HBR.out)
                  have HOW := Lib.hid (HOK.out.below HBR.out)
                  clear HG HBR HKB HOK
                  cases Bd with
                  | true =>
                    have HX : Hid (applyV V x = none) := Lib.hid (by rw [HAP.out, if_neg (HGE2.out.1 rfl)])
                    clear HGE2 HAP
                    go_wp2_with fail
                    go_ret
                    have hb := (HL1.out.below HBW.out).bel
                    exact ⟨12, V, rfl, HV.out.below hb, UpdF.of hb, fun _ => ⟨rfl, rfl, hb⟩, fun n hn => (by rw [HX.out] at hn; cases hn)⟩
                  | false =>
                    have HX : Hid (applyV V x = some ⟨zs, nx, lg, ls⟩) := Lib.hid (by rw [HAP.out, if_pos (Decidable.not_not.1 fun h => (by have := HGE2.out.2 h; cases this))])
                    have HCV := Lib.hid (HL1.out.below HBW.out).v
                    obtain ⟨k0, k1, k2, k3⟩ := cell4_of HBK.out
                    obtain ⟨z0, z1, z2, z3⟩ := cell4_of HCV.out
                    obtain ⟨f0, f1, f2, f3⟩ := free4_of HCV.out
                    clear HGE2 HAP
                    go_wp2_with fail
                    go_ret
                    have hf := fill4 HCV.out (.slice al nz cl) (.int .i64 nx) (.int .i64 lg) (.int .i64 ls)
                    have hb := (HL1.out.below HBW.out).bel
                    refine ⟨0, ⟨zs, nx, lg, ls⟩, rfl, ⟨⟨_, hf.1, ?_⟩, applyV_good HV.out.good HX.out⟩, (UpdF.of hb).trans hf.2, fun hn => (by rw [HX.out] at hn; cases hn), fun n hn => ?_⟩
                    · exact (HOW.out.asideT hf.2 HCV.out (by decide)).base (Nat.le_trans HBS.out HL1.out.bel.size)
                    · rw [HX.out] at hn
                      exact ⟨rfl, (Option.some.inj hn).symm ▸ rfl, ⟨⟨_, hf.1, (HOW.out.asideT hf.2 HCV.out (by decide)).base HL1.out.bel.size⟩, applyV_good HV.out.good HX.out⟩⟩
theorem rapply_any {B : Nat} {w : World} {c : Nat} {V : Ver} (h : RefAt B w c V) (hB : B ≤ w.heap.size) (v : Value) (x : Edt) (hx : EdAt w v x) (hok : x.ok) : Calls Try.prog 15 #[.pointer (some ⟨c, 0, none⟩), v] w (RApTo B w c V x) :=
  (rapply_new h hB v x hx hok).mono fun e w' ⟨c, V', h1, h2, h3, h4, h5⟩ => ⟨c, V', h1, h2, h3, fun h => ⟨(h4 h).1, (h4 h).2.1⟩, fun n hn => ⟨(h5 n hn).1, (h5 n hn).2.1⟩⟩
end Go.Proofs.Ytgdmmhdihgajkaa
/- The law's Same: a version and the document's tell the same. -/
namespace Go.Proofs.Ytgdmmhdihgajkaa
set_option linter.unusedVariables false
set_option maxRecDepth 100000
open Go.RowKit
set_option maxHeartbeats 4000000 in
theorem rlevel_neg {w : World} {c : Nat} {fv : Value} {nx lg ls : Int} {F : List Tbf} (hc : BlkAt w c #[fv, .int .i64 nx, .int .i64 lg, .int .i64 ls] 54) (hr : RdK encTbf 5 w fv F) (hl : F.length ≤ 1000) (n : Int) (hn : ∀ f ∈ F, ¬ f.lvl = n) :
    Calls Try.prog 18 #[.pointer (some ⟨c, 0, none⟩), .int .i64 n] w (FilsTo w []) := by
  obtain ⟨aF, cF, rfl, -⟩ := edFl_len hr
  have HC := Lib.hid hc
  have HRD := Lib.hid hr
  obtain ⟨N, hN⟩ : ∃ N, F.length = N := ⟨_, rfl⟩
  have HN := Lib.hid hN
  rw [hN] at HC HRD hl
  have HNN := Lib.hid hn
  clear hc hr hN hn
  unfold FilsTo
  go_enter Try.func18, Try.ntmps18
  go_wp2_with fail
  go_loopg [5, 6, 7, 8] N (fun kk vl vi _ _ wr => ∃ i : Nat, vi = .int .i64 (i : Int) ∧ vl = .slice none 0 0 ∧ i ≤ N ∧ N - i ≤ kk ∧ Hid (Below w.heap.size w wr))
  case atStart => exact ⟨0, rfl, rfl, by omega, by omega, Lib.hid (Below.refl _ _)⟩
  case round =>
    obtain ⟨i, rfl, rfl, hi, hik, HB⟩ := hrel
    have hd0 : (0 : Int) ≤ (i : Int) := by omega
    obtain ⟨z0, z1, z2, z3⟩ := cell4_of (HC.out.below HB.out)
    by_cases hiN : i < N
    · have hd1 : (i : Int) < (N : Int) := by omega
      obtain ⟨f, hf⟩ : ∃ f, F[i]? = some f := ⟨F[i]'(by have := HN.out; omega), List.getElem?_eq_getElem _⟩
      obtain ⟨bb, off, rfl, hblt, d0, d1, d2, d3, d4⟩ := (HRD.out.below HB.out).atTbf i f hf
      have hlb : (f.lvl != n) = true := by simp [HNN.out f (List.mem_of_getElem? hf)]
      have HBA : Hid (Below w.heap.size w (wr.alloc (.cells #[.int .i64 f.num, .int .i64 f.lvl, .int .i64 f.siz, .string f.lo, .string f.hi] 49))) := Lib.hid (HB.out.alloc HB.out.size _)
      clear hf HB
      go_wp2_with fail
      go_roundg (N - (i + 1))
      case measure => omega
      case rel => exact ⟨i + 1, by go_num, rfl, by omega, Nat.le_refl _, HBA⟩
    · have hd1 : ¬ (i : Int) < (N : Int) := by omega
      go_wp2_with fail
      go_ret
      exact ⟨_, rfl, OwnK.nil _ _ _ _ _, HB.out⟩
/-- What Level answers, whatever its number: some tables, or none where there is no such level. -/
theorem rlevel_all {w : World} {c : Nat} {fv : Value} {nx lg ls : Int} {F : List Tbf} (hc : BlkAt w c #[fv, .int .i64 nx, .int .i64 lg, .int .i64 ls] 54) (hr : RdK encTbf 5 w fv F) (hl : F.length ≤ 200) (hF : ∀ f ∈ F, ¬ badTb f) (n : Int) :
    Calls Try.prog 18 #[.pointer (some ⟨c, 0, none⟩), .int .i64 n] w fun e w' => ∃ l, (0 ≤ n ∧ n < 5 → l = lvAny n F) ∧ FilsTo w l e w' := by
  by_cases h : 0 ≤ n
  · refine (rlevel_any hc hr (by omega) n h).mono fun e w' hh => ⟨levelV n F, fun hn => ?_, hh⟩
    unfold lvAny
    rw [if_pos hn]
  · refine (rlevel_neg hc hr (by omega) n fun f hf e => ?_).mono fun e w' hh => ⟨[], fun hn => absurd hn.1 h, hh⟩
    have := (notBadTb (hF f hf)).2.1
    omega
set_option maxHeartbeats 16000000 in
theorem vsame_any {B B' : Nat} {w : World} {b c : Nat} {V W : Ver} (hv : VerAt B w b V) (hr : RefAt B' w c W) (hs : vSame V W) :
    Calls Try.prog 16 #[.pointer (some ⟨b, 0, none⟩), .pointer (some ⟨c, 0, none⟩)] w fun e w' => e = .returned (.bool true) ∧ Below w.heap.size w w' := by
  obtain ⟨fv, hc1, hc2⟩ := hr.blk
  obtain ⟨s1, s2, s3, s4⟩ := id hs
  rw [← s2, ← s3, ← s4] at hc1
  have HV := Lib.hid hv
  have HGW := Lib.hid hr.good
  have HS := Lib.hid hs
  have HC := Lib.hid hc1
  have HF := Lib.hid (hc2.rd encTbf_len)
  have HLV : Hid (∀ (W1 : World) (n : Int), Below w.heap.size w W1 → Calls Try.prog 17 #[.pointer (some ⟨b, 0, none⟩), .int .i64 n] W1 (FilsTo W1 (lvAny n W.fs))) := Lib.hid fun W1 n hW => by
    have := vlevel_raw (HV.out.below hW) n
    rwa [ver_any HV.out.good HV.out.srt HS.out n] at this
  have HLR : Hid (∀ (W1 : World) (n : Int), Below w.heap.size w W1 → Calls Try.prog 18 #[.pointer (some ⟨c, 0, none⟩), .int .i64 n] W1 fun e w' => ∃ l, (0 ≤ n ∧ n < 5 → l = lvAny n W.fs) ∧ FilsTo W1 l e w') := Lib.hid fun W1 n hW => rlevel_all (HC.out.below hW) (HF.out.below hW) HGW.out.few HGW.out.right n
  have HAL : Hid (∀ (W1 : World), Below w.heap.size w W1 → Calls Try.prog 35 #[.pointer (some ⟨b, 0, none⟩)] W1 (FilsTo W1 (levelsV W.fs))) := Lib.hid fun W1 hW => by
    have := vall_any (HV.out.below hW)
    rwa [ver_all HV.out.good HV.out.srt HS.out] at this
  clear hv hr hs hc1 hc2 s1 s2 s3 s4
  obtain ⟨nx, hnx⟩ : ∃ y, V.nx = y := ⟨_, rfl⟩
  obtain ⟨lg, hlg⟩ : ∃ y, V.lg = y := ⟨_, rfl⟩
  obtain ⟨ls, hls⟩ : ∃ y, V.ls = y := ⟨_, rfl⟩
  have HN1 : Hid (∀ W1, Below w.heap.size w W1 → Calls Try.prog 32 #[.pointer (some ⟨b, 0, none⟩)] W1 fun e w' => e = .returned (.int .i64 nx) ∧ Below W1.heap.size W1 w') := Lib.hid fun W1 hW => by rw [← hnx]; exact vnext_any (HV.out.below hW)
  have HN2 : Hid (∀ W1, Below w.heap.size w W1 → Calls Try.prog 33 #[.pointer (some ⟨b, 0, none⟩)] W1 fun e w' => e = .returned (.int .i64 lg) ∧ w' = W1) := Lib.hid fun W1 hW => by rw [← hlg]; exact vlog_any (HV.out.below hW)
  have HN3 : Hid (∀ W1, Below w.heap.size w W1 → Calls Try.prog 34 #[.pointer (some ⟨b, 0, none⟩)] W1 fun e w' => e = .returned (.int .i64 ls) ∧ w' = W1) := Lib.hid fun W1 hW => by rw [← hls]; exact vlast_any (HV.out.below hW)
  rw [hnx, hlg, hls] at HC
  clear hnx hlg hls HV
  have q1 : (nx != nx) = false := by simp
  have q2 : (lg != lg) = false := by simp
  have q3 : (ls != ls) = false := by simp
  have hB : Below w.heap.size w w := Below.refl _ _
  go_enter Try.func16, Try.ntmps16
  go_wp2_with fail
  refine wp_region_held_drew (S := Below w.heap.size w) (by kernel_rfl) (Below.refl _ _).drew (fun hHeld => ?_)
  generalize w.drew = wd2 at hHeld ⊢
  refine wpAnyH_shift hHeld ?_
  replace hB : Below w.heap.size w wd2 := hB.trans (hHeld.mono hB.size)
  clear hHeld
  refine takeYes (i := 0) (k := 8) (v := .pointer (some ⟨b, 0, none⟩)) rfl (by kernel_rfl) (by kernel_rfl) (by kernel_rfl) (by kernel_rfl) (fun _ _ _ h => h) (by kernel_rfl) ?_ (Below.refl _ _) ?_
  · intro W hSw; first | (go_simp; done) | go_simp
  try simp only [Act.put, List.setIfInBounds_toArray, List.set_cons_zero, List.set_cons_succ]
  refine takeYes (i := 1) (k := 9) (v := .bool false) rfl (by kernel_rfl) (by kernel_rfl) (by kernel_rfl) (by kernel_rfl) (fun _ _ _ h => h) (by kernel_rfl) ?_ (Below.refl _ _) ?_
  · intro W hSw; first | (go_simp; done) | go_simp
  try simp only [Act.put, List.setIfInBounds_toArray, List.set_cons_zero, List.set_cons_succ]
  refine takeYes (i := 2) (k := 10) (v := .bool false) rfl (by kernel_rfl) (by kernel_rfl) (by kernel_rfl) (by kernel_rfl) (fun _ _ _ h => h) (by kernel_rfl) ?_ (Below.refl _ _) ?_
  · intro W hSw; first | (go_simp; done) | go_simp
  try simp only [Act.put, List.setIfInBounds_toArray, List.set_cons_zero, List.set_cons_succ]
  refine takeYes (i := 3) (k := 11) (v := .pointer (some ⟨b, 0, none⟩)) rfl (by kernel_rfl) (by kernel_rfl) (by kernel_rfl) (by kernel_rfl) (fun _ _ _ h => h) (by kernel_rfl) ?_ (Below.refl _ _) ?_
  · intro W hSw; first | (go_simp; done) | go_simp
  try simp only [Act.put, List.setIfInBounds_toArray, List.set_cons_zero, List.set_cons_succ]
  refine takeYes (i := 5) (k := 13) (v := .pointer (some ⟨c, 0, none⟩)) rfl (by kernel_rfl) (by kernel_rfl) (by kernel_rfl) (by kernel_rfl) (fun _ _ _ h => h) (by kernel_rfl) ?_ (Below.refl _ _) ?_
  · intro W hSw; first | (go_simp; done) | go_simp
  try simp only [Act.put, List.setIfInBounds_toArray, List.set_cons_zero, List.set_cons_succ]
  refine takeYes (i := 6) (k := 14) (v := .pointer (some ⟨c, 0, none⟩)) rfl (by kernel_rfl) (by kernel_rfl) (by kernel_rfl) (by kernel_rfl) (fun _ _ _ h => h) (by kernel_rfl) ?_ (Below.refl _ _) ?_
  · intro W hSw; first | (go_simp; done) | go_simp
  try simp only [Act.put, List.setIfInBounds_toArray, List.set_cons_zero, List.set_cons_succ]
  refine takeYes (i := 7) (k := 15) (v := .pointer (some ⟨c, 1, none⟩)) rfl (by kernel_rfl) (by kernel_rfl) (by kernel_rfl) (by kernel_rfl) (fun _ _ _ h => h) (by kernel_rfl) ?_ (Below.refl _ _) ?_
  · intro W hSw; first | (go_simp; done) | go_simp
  try simp only [Act.put, List.setIfInBounds_toArray, List.set_cons_zero, List.set_cons_succ]
  refine takeYes (i := 8) (k := 16) (v := .int .i64 nx) rfl (by kernel_rfl) (by kernel_rfl) (by kernel_rfl) (by kernel_rfl) (fun _ _ _ h => h) (by kernel_rfl) ?_ (Below.refl _ _) ?_
  · intro W hSw; obtain ⟨z0, z1, z2, z3⟩ := cell4_of (HC.out.below (hB.trans (hSw.mono hB.size))); first | (go_simp; done) | go_simp
  try simp only [Act.put, List.setIfInBounds_toArray, List.set_cons_zero, List.set_cons_succ]
  refine wpAnyH_ready (rs := [4]) (by kernel_rfl) (by simp) (AllReadyH.cons rfl (fun K hK => ?_) AllReadyH.nil)
  go_simp
  refine (HN1.out _ hB).mono ?_
  rintro e wd3 ⟨rfl, hb3⟩
  refine hK.out _ _ hb3 (fun _ => wpAnyH_shift hb3 ?_)
  clear hK K
  replace hB : Below w.heap.size w wd3 := hB.trans (hb3.mono hB.size)
  clear hb3
  try simp only [Act.put, List.setIfInBounds_toArray, List.set_cons_zero, List.set_cons_succ]
  refine takeYes (i := 9) (k := 17) (v := .bool false) rfl (by kernel_rfl) (by kernel_rfl) (by kernel_rfl) (by kernel_rfl) (fun _ _ _ h => h) (by kernel_rfl) ?_ (Below.refl _ _) ?_
  · intro W hSw; first | (go_simp; done) | go_simp
  try simp only [Act.put, List.setIfInBounds_toArray, List.set_cons_zero, List.set_cons_succ]
  refine takeYes (i := 10) (k := 18) (v := .bool false) rfl (by kernel_rfl) (by kernel_rfl) (by kernel_rfl) (by kernel_rfl) (fun _ _ _ h => h) (by kernel_rfl) ?_ (Below.refl _ _) ?_
  · intro W hSw; first | (go_simp; done) | go_simp
  try simp only [Act.put, List.setIfInBounds_toArray, List.set_cons_zero, List.set_cons_succ]
  refine takeYes (i := 11) (k := 19) (v := .bool false) rfl (by kernel_rfl) (by kernel_rfl) (by kernel_rfl) (by kernel_rfl) (fun _ _ _ h => h) (by kernel_rfl) ?_ (Below.refl _ _) ?_
  · intro W hSw; first | (go_simp; done) | go_simp
  try simp only [Act.put, List.setIfInBounds_toArray, List.set_cons_zero, List.set_cons_succ]
  refine takeYes (i := 12) (k := 20) (v := .pointer (some ⟨b, 0, none⟩)) rfl (by kernel_rfl) (by kernel_rfl) (by kernel_rfl) (by kernel_rfl) (fun _ _ _ h => h) (by kernel_rfl) ?_ (Below.refl _ _) ?_
  · intro W hSw; first | (go_simp; done) | go_simp
  try simp only [Act.put, List.setIfInBounds_toArray, List.set_cons_zero, List.set_cons_succ]
  refine takeYes (i := 14) (k := 22) (v := .pointer (some ⟨c, 0, none⟩)) rfl (by kernel_rfl) (by kernel_rfl) (by kernel_rfl) (by kernel_rfl) (fun _ _ _ h => h) (by kernel_rfl) ?_ (Below.refl _ _) ?_
  · intro W hSw; first | (go_simp; done) | go_simp
  try simp only [Act.put, List.setIfInBounds_toArray, List.set_cons_zero, List.set_cons_succ]
  refine takeYes (i := 15) (k := 23) (v := .pointer (some ⟨c, 0, none⟩)) rfl (by kernel_rfl) (by kernel_rfl) (by kernel_rfl) (by kernel_rfl) (fun _ _ _ h => h) (by kernel_rfl) ?_ (Below.refl _ _) ?_
  · intro W hSw; first | (go_simp; done) | go_simp
  try simp only [Act.put, List.setIfInBounds_toArray, List.set_cons_zero, List.set_cons_succ]
  refine takeYes (i := 16) (k := 24) (v := .pointer (some ⟨c, 2, none⟩)) rfl (by kernel_rfl) (by kernel_rfl) (by kernel_rfl) (by kernel_rfl) (fun _ _ _ h => h) (by kernel_rfl) ?_ (Below.refl _ _) ?_
  · intro W hSw; first | (go_simp; done) | go_simp
  try simp only [Act.put, List.setIfInBounds_toArray, List.set_cons_zero, List.set_cons_succ]
  refine takeYes (i := 17) (k := 25) (v := .int .i64 lg) rfl (by kernel_rfl) (by kernel_rfl) (by kernel_rfl) (by kernel_rfl) (fun _ _ _ h => h) (by kernel_rfl) ?_ (Below.refl _ _) ?_
  · intro W hSw; obtain ⟨z0, z1, z2, z3⟩ := cell4_of (HC.out.below (hB.trans (hSw.mono hB.size))); first | (go_simp; done) | go_simp
  try simp only [Act.put, List.setIfInBounds_toArray, List.set_cons_zero, List.set_cons_succ]
  refine wpAnyH_ready (rs := [13]) (by kernel_rfl) (by simp) (AllReadyH.cons rfl (fun K hK => ?_) AllReadyH.nil)
  go_simp
  refine (HN2.out _ hB).mono ?_
  rintro e w' ⟨rfl, rfl⟩
  refine hK.out _ _ (Below.refl _ _) (fun _ => ?_)
  clear hK K
  try simp only [Act.put, List.setIfInBounds_toArray, List.set_cons_zero, List.set_cons_succ]
  refine takeYes (i := 18) (k := 26) (v := .bool false) rfl (by kernel_rfl) (by kernel_rfl) (by kernel_rfl) (by kernel_rfl) (fun _ _ _ h => h) (by kernel_rfl) ?_ (Below.refl _ _) ?_
  · intro W hSw; first | (go_simp; done) | go_simp
  try simp only [Act.put, List.setIfInBounds_toArray, List.set_cons_zero, List.set_cons_succ]
  refine takeYes (i := 19) (k := 27) (v := .bool false) rfl (by kernel_rfl) (by kernel_rfl) (by kernel_rfl) (by kernel_rfl) (fun _ _ _ h => h) (by kernel_rfl) ?_ (Below.refl _ _) ?_
  · intro W hSw; first | (go_simp; done) | go_simp
  try simp only [Act.put, List.setIfInBounds_toArray, List.set_cons_zero, List.set_cons_succ]
  refine takeYes (i := 20) (k := 28) (v := .bool false) rfl (by kernel_rfl) (by kernel_rfl) (by kernel_rfl) (by kernel_rfl) (fun _ _ _ h => h) (by kernel_rfl) ?_ (Below.refl _ _) ?_
  · intro W hSw; first | (go_simp; done) | go_simp
  try simp only [Act.put, List.setIfInBounds_toArray, List.set_cons_zero, List.set_cons_succ]
  refine takeYes (i := 21) (k := 29) (v := .pointer (some ⟨b, 0, none⟩)) rfl (by kernel_rfl) (by kernel_rfl) (by kernel_rfl) (by kernel_rfl) (fun _ _ _ h => h) (by kernel_rfl) ?_ (Below.refl _ _) ?_
  · intro W hSw; first | (go_simp; done) | go_simp
  try simp only [Act.put, List.setIfInBounds_toArray, List.set_cons_zero, List.set_cons_succ]
  refine takeYes (i := 23) (k := 31) (v := .pointer (some ⟨c, 0, none⟩)) rfl (by kernel_rfl) (by kernel_rfl) (by kernel_rfl) (by kernel_rfl) (fun _ _ _ h => h) (by kernel_rfl) ?_ (Below.refl _ _) ?_
  · intro W hSw; first | (go_simp; done) | go_simp
  try simp only [Act.put, List.setIfInBounds_toArray, List.set_cons_zero, List.set_cons_succ]
  refine takeYes (i := 24) (k := 32) (v := .pointer (some ⟨c, 0, none⟩)) rfl (by kernel_rfl) (by kernel_rfl) (by kernel_rfl) (by kernel_rfl) (fun _ _ _ h => h) (by kernel_rfl) ?_ (Below.refl _ _) ?_
  · intro W hSw; first | (go_simp; done) | go_simp
  try simp only [Act.put, List.setIfInBounds_toArray, List.set_cons_zero, List.set_cons_succ]
  refine takeYes (i := 25) (k := 33) (v := .pointer (some ⟨c, 3, none⟩)) rfl (by kernel_rfl) (by kernel_rfl) (by kernel_rfl) (by kernel_rfl) (fun _ _ _ h => h) (by kernel_rfl) ?_ (Below.refl _ _) ?_
  · intro W hSw; first | (go_simp; done) | go_simp
  try simp only [Act.put, List.setIfInBounds_toArray, List.set_cons_zero, List.set_cons_succ]
  refine takeYes (i := 26) (k := 34) (v := .int .i64 ls) rfl (by kernel_rfl) (by kernel_rfl) (by kernel_rfl) (by kernel_rfl) (fun _ _ _ h => h) (by kernel_rfl) ?_ (Below.refl _ _) ?_
  · intro W hSw; obtain ⟨z0, z1, z2, z3⟩ := cell4_of (HC.out.below (hB.trans (hSw.mono hB.size))); first | (go_simp; done) | go_simp
  try simp only [Act.put, List.setIfInBounds_toArray, List.set_cons_zero, List.set_cons_succ]
  refine wpAnyH_ready (rs := [22]) (by kernel_rfl) (by simp) (AllReadyH.cons rfl (fun K hK => ?_) AllReadyH.nil)
  go_simp
  refine (HN3.out _ hB).mono ?_
  rintro e w' ⟨rfl, rfl⟩
  refine hK.out _ _ (Below.refl _ _) (fun _ => ?_)
  clear hK K
  try simp only [Act.put, List.setIfInBounds_toArray, List.set_cons_zero, List.set_cons_succ]
  refine takeYes (i := 27) (k := 35) (v := .bool false) rfl (by kernel_rfl) (by kernel_rfl) (by kernel_rfl) (by kernel_rfl) (fun _ _ _ h => h) (by kernel_rfl) ?_ (Below.refl _ _) ?_
  · intro W hSw; first | (go_simp; done) | go_simp
  try simp only [Act.put, List.setIfInBounds_toArray, List.set_cons_zero, List.set_cons_succ]
  refine takeYes (i := 28) (k := 36) (v := .bool false) rfl (by kernel_rfl) (by kernel_rfl) (by kernel_rfl) (by kernel_rfl) (fun _ _ _ h => h) (by kernel_rfl) ?_ (Below.refl _ _) ?_
  · intro W hSw; first | (go_simp; done) | go_simp
  try simp only [Act.put, List.setIfInBounds_toArray, List.set_cons_zero, List.set_cons_succ]
  refine wpAnyH_done (by kernel_rfl) ?_ _
  have HB1 := Lib.hid hB
  clear hB HN1 HN2 HN3 q1 q2 q3
  go_wp2_with fail
  go_loopg [5, 6, 7] 7 (fun kk va vi _ wr => ∃ (i : Nat) (al : Option Addr) (nl cl : Nat), vi = .int .i64 ((i : Int) - 1) ∧ va = .slice al nl cl ∧ i ≤ 7 ∧ 7 - i ≤ kk ∧ Hid ((lvsUp W.fs i).length = nl) ∧ Hid (OwnK encTbf 5 49 w.heap.size wr (.slice al nl cl) (lvsUp W.fs i)) ∧ Hid (Below w.heap.size w wr))
  case atStart => exact ⟨0, none, 0, 0, rfl, rfl, by omega, by omega, Lib.hid rfl, Lib.hid (OwnK.nil _ _ _ _ _), HB1⟩
  case round =>
    clear HB1
    obtain ⟨i, al, nl, cl, rfl, rfl, hi, hik, HL, HY, HB⟩ := hrel
    have HLL := Lib.hid (lvsUp_len HGW.out i)
    by_cases h7 : i < 7
    · have hi1 : (i : Int) - 1 ≤ 5 := by omega
      go_wp2_with fail
      refine (HLR.out _ _ HB.out).mono ?_
      rintro e w2 ⟨l, hl, u, rfl, ho, hb⟩
      have HB2 := Lib.hid (HB.out.trans (hb.mono HB.out.size))
      have HY2 := Lib.hid (HY.out.below hb)
      obtain ⟨aL, cL, rfl⟩ := fil_form ho
      have HO := Lib.hid (And.intro hl (ho.base HB.out.size))
      clear hl ho hb HB HY
      obtain ⟨nL, hnL⟩ : ∃ n, l.length = n := ⟨_, rfl⟩
      rw [hnL] at HO ⊢
      clear hnL
      obtain ⟨Q, hQ⟩ : ∃ Q : Bool, decide ((i : Int) - 1 < 0 ∨ 5 ≤ (i : Int) - 1) = Q := ⟨_, rfl⟩
      have HQ := Lib.hid hQ
      clear hQ
      go_upto_region 8 with fail
      go_cut [49] (fun v wx => v = .bool Q ∧ w2 = wx)
      case first =>
        by_cases h1 : (i : Int) - 1 < 0
        · obtain rfl : Q = true := by rw [← HQ.out]; exact decide_eq_true (.inl h1)
          go_wp2_with fail
          go_meet
          exact ⟨rfl, rfl⟩
        · by_cases h2 : 5 ≤ (i : Int) - 1
          · obtain rfl : Q = true := by rw [← HQ.out]; exact decide_eq_true (.inr h2)
            go_wp2_with fail
            go_meet
            exact ⟨rfl, rfl⟩
          · obtain rfl : Q = false := by rw [← HQ.out]; exact decide_eq_false (by omega)
            go_wp2_with fail
            go_meet
            exact ⟨rfl, rfl⟩
      case rest =>
      obtain ⟨rfl, rfl⟩ := hcut
      go_upto_if 49 with fail
      go_cut [7] (fun v wx => ∃ (a' : Option Addr) (n' c' : Nat), v = .slice a' n' c' ∧ w2 = wx ∧ Hid ((lvAny ((i : Int) - 1) W.fs).length = n' ∧ OwnK encTbf 5 49 w.heap.size w2 (.slice a' n' c') (lvAny ((i : Int) - 1) W.fs)))
      case first =>
        cases Q with
        | true =>
          have HE : Hid (lvAny ((i : Int) - 1) W.fs = []) := Lib.hid (if_neg (by have := of_decide_eq_true HQ.out; omega))
          clear HQ
          go_wp2_with fail
          go_meet
          exact ⟨none, 0, 0, rfl, rfl, Lib.hid ⟨by rw [HE.out]; rfl, by rw [HE.out]; exact OwnK.nil _ _ _ _ _⟩⟩
        | false =>
          have HE := Lib.hid (HO.out.1 (by have := of_decide_eq_false HQ.out; omega))
          clear HQ
          go_wp2_with fail
          go_meet
          refine ⟨aL, nL, cL, rfl, rfl, Lib.hid ?_⟩
          rw [← HE.out]
          refine ⟨?_, HO.out.2⟩
          obtain ⟨a9, c9, e9⟩ := fil_form HO.out.2
          simp only [Value.slice.injEq] at e9
          omega
      case rest =>
        obtain ⟨a7, n7, c7, rfl, rfl, HL7⟩ := hcut
        have HSB := Lib.hid (lvAny_sub HGW.out ((i : Int) - 1))
        have HOKL : Hid (∀ f ∈ lvAny ((i : Int) - 1) W.fs, f.ok) := Lib.hid fun f hf => good_ok HGW.out f (HSB.out.1 f hf)
        clear HO
        go_wp2_with fail
        refine (HLV.out _ _ HB2.out).mono ?_
        rintro e w3 ⟨u, rfl, ho, hb⟩
        have HB3 := Lib.hid (HB2.out.trans (hb.mono HB2.out.size))
        have HY3 := Lib.hid (HY2.out.below hb)
        have HL73 := Lib.hid (HL7.out.2.below hb)
        obtain ⟨aV, cV, rfl⟩ := fil_form ho
        have HE := Lib.hid (reqF_any _ _ _ _ HOKL.out HOKL.out (by have := HSB.out.2; omega) (by have := HSB.out.2; omega) w3 (ho.rd encTbf_len) (HL73.out.rd encTbf_len))
        clear ho hb HB2 HY2
        rw [HL7.out.1]
        rw [HL7.out.1] at HE
        go_wp2_with fail
        refine HE.out.mono ?_
        rintro e w4 ⟨q, hq, rfl, hb⟩
        obtain rfl : q = true := hq.2 (by trivial)
        have HB4 := Lib.hid (HB3.out.trans (hb.mono HB3.out.size))
        have HY4 := Lib.hid (HY3.out.below hb)
        have HL4 := Lib.hid ((HL73.out.below hb).rd encTbf_len)
        clear hq hb HE HB3 HY3 HL73
        go_wp2_with (at_builtin; refine wp_appSK elem_tbf encTbf_len _ _ (by rfl) (by rfl) (by rfl) HY4.out (by rfl) HL4.out (encTbf_one _) ?c1 ?c2 HB4.out.size ?_)
        case c1 => have := HSB.out.2; have := HLL.out; omega
        case c2 => have := HSB.out.2; have := HLL.out; unfold maxLen; omega
        intro v5 w5 o5 b5
        have o6 : OwnK encTbf 5 49 w.heap.size w5 v5 (lvsUp W.fs (i + 1)) := o5
        obtain ⟨a5, c5, rfl⟩ := fil_form o6
        obtain ⟨n5, hn5⟩ : ∃ n, (lvsUp W.fs (i + 1)).length = n := ⟨_, rfl⟩
        rw [hn5] at o6
        have e5 : (lvsUp W.fs i ++ lvAny ((i : Int) - 1) W.fs).length = n5 := hn5
        try rw [e5]
        try rw [hn5]
        have HN5 := Lib.hid hn5
        have HO5 := Lib.hid o6
        have HB5 := Lib.hid (HB4.out.trans b5)
        clear o5 o6 b5 hn5 e5 HB4 HY4 HL4 HL HL7 HLL HSB HOKL
        go_wp2_with fail
        go_roundg (7 - (i + 1))
        case measure => omega
        case rel => exact ⟨i + 1, a5, n5, c5, by go_num, rfl, by omega, Nat.le_refl _, HN5, HO5, HB5⟩
    · obtain rfl : i = 7 := by omega
      have hi1 : ¬ ((7 : Nat) : Int) - 1 ≤ 5 := by omega
      have hi2 : ¬ ((7 : Int) - 1 ≤ 5) := by omega
      have HE7 := Lib.hid (lvsUp_all W.fs)
      go_wp2_with fail
      refine (HAL.out _ HB.out).mono ?_
      rintro e w3 ⟨u, rfl, ho, hb⟩
      have HB3 := Lib.hid (HB.out.trans (hb.mono HB.out.size))
      have HY3 := Lib.hid (HY.out.below hb)
      obtain ⟨aV, cV, rfl⟩ := fil_form ho
      have hok : ∀ f ∈ levelsV W.fs, f.ok := fun f hf => good_ok HGW.out f ((levelsV_perm HGW.out).mem_iff.1 hf)
      have hlen : (levelsV W.fs).length ≤ 200 := by rw [(levelsV_perm HGW.out).length_eq]; exact HGW.out.few
      have HE := Lib.hid (reqF_any _ _ _ _ hok hok (by omega) (by omega) w3 (ho.rd encTbf_len) (by have := HY3.out.rd encTbf_len; rwa [HE7.out] at this))
      clear ho hb hok hlen
      go_wp2_with fail
      refine HE.out.mono ?_
      rintro e w4 ⟨q, hq, rfl, hb⟩
      obtain rfl : q = true := hq.2 (by trivial)
      have HB4 := Lib.hid (HB3.out.trans (hb.mono HB3.out.size))
      clear hq hb HE
      go_wp2_with fail
      go_ret
      exact ⟨rfl, HB4.out⟩
end Go.Proofs.Ytgdmmhdihgajkaa
