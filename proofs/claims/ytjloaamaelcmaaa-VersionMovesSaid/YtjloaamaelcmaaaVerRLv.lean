/- The reference's num and Level. -/
import Derived.Test.YtjloaamaelcmaaaVerAt
import Derived.Test.YtjloaamaelcmaaaVerFnd
import Derived.Test.YtjloaamaelcmaaaMBase
import Derived.Deep.LoopGhost
import Derived.Deep.CutBlock
import Derived.Deep.DeepCutAuto
import Derived.Deep.QuietTactic
import Derived.BigQuiet
namespace Go.Proofs.Ytjloaamaelcmaaa
set_option linter.unusedVariables false
set_option maxRecDepth 100000
open Go.RowKit
set_option maxHeartbeats 4000000 in
theorem rnum_any (v : Value) (k : Int) (xs : List Tbf) (hl : xs.length ≤ 1000000000000) (w : World) (h : RdK encTbf 5 w v xs) :
    Calls Try.prog 36 #[v, .int .i64 k] w fun e w' => ∃ i : Int, e = .returned (.int .i64 i) ∧ IdxAt (fun f => f.num = k) xs i ∧ w' = w := by
  obtain ⟨a, cap, rfl, -⟩ := edFl_len h
  have HRD := Lib.hid h
  obtain ⟨N, hN⟩ : ∃ N, xs.length = N := ⟨_, rfl⟩
  have HN := Lib.hid hN
  rw [hN] at HRD hl ⊢
  clear h hN
  go_enter Try.func36, Try.ntmps36
  go_wp2_with fail
  go_loopg [5] N (fun kk vi wr => ∃ i : Nat, vi = .int .i64 (i : Int) ∧ i ≤ N ∧ N - i ≤ kk ∧ Hid (∀ (j : Nat) (x : Tbf), j < i → xs[j]? = some x → ¬ x.num = k) ∧ w = wr)
  case atStart => exact ⟨0, rfl, by omega, by omega, Lib.hid (fun j x hj => by omega), rfl⟩
  case round =>
    obtain ⟨q, rfl, hq, hkk, HG, rfl⟩ := hrel
    by_cases h1 : q < N
    · have hd1 : (q : Int) < (N : Int) := by omega
      have hd0 : (0 : Int) ≤ (q : Int) := by omega
      obtain ⟨x, hx⟩ : ∃ x, xs[q]? = some x := ⟨xs[q]'(by have := HN.out; omega), List.getElem?_eq_getElem _⟩
      obtain ⟨b, off, rfl, hblt, d0, d1, d2, d3, d4⟩ := HRD.out.atTbf q x hx
      have HX := Lib.hid hx
      clear hx
      by_cases hk : x.num = k
      · have HF : Hid (IdxAt (fun f => f.num = k) xs (q : Int)) := Lib.hid (.inl ⟨q, _, rfl, HX.out, hk, HG.out⟩)
        have e : (x.num == k) = true := by simp [hk]
        clear HX HG hk
        go_wp2_with fail
        go_ret
        exact ⟨_, rfl, HF.out, rfl⟩
      · have HG2 : Hid (∀ (j : Nat) (x : Tbf), j < q + 1 → xs[j]? = some x → ¬ x.num = k) := Lib.hid fun j y hj hy => by
          rcases Nat.lt_or_ge j q with h | h
          · exact HG.out j y h hy
          · obtain rfl : j = q := by omega
            rw [HX.out] at hy
            obtain rfl := Option.some.inj hy
            exact hk
        have e : (x.num == k) = false := by simp [hk]
        clear HX HG hk
        go_wp2_with fail
        go_roundg (N - (q + 1))
        case measure => omega
        case rel => exact ⟨q + 1, by go_num, by omega, Nat.le_refl _, HG2, rfl⟩
    · have hd1 : ¬ (q : Int) < (N : Int) := by omega
      have HF : Hid (IdxAt (fun f => f.num = k) xs (-1)) := Lib.hid (.inr ⟨rfl, fun x hx hb => by
        obtain ⟨j, hj, rfl⟩ := List.getElem_of_mem hx
        exact absurd hb (HG.out j _ (by have := HN.out; omega) (List.getElem?_eq_getElem hj))⟩)
      clear HG
      go_wp2_with fail
      go_ret
      exact ⟨_, rfl, HF.out, rfl⟩
theorem vInto_at (n : Int) (f : Tbf) : ∀ (l : List Tbf) (k : Nat), (∀ (m : Nat) (y : Tbf), m < k → l[m]? = some y → vBef n y f) → (∀ y, l[k]? = some y → ¬ vBef n y f) → k ≤ l.length → vInto n f l = l.take k ++ f :: l.drop k
  | [], k, _, _, h => by
    obtain rfl : k = 0 := by simpa using h
    rfl
  | g :: r, 0, _, h2, _ => by
    unfold vInto
    rw [if_neg (h2 g rfl)]; rfl
  | g :: r, k + 1, h1, h2, h => by
    unfold vInto
    rw [if_pos (h1 0 g (by omega) rfl), vInto_at n f r k (fun m y hm hy => h1 (m + 1) y (by omega) (by simpa using hy)) (fun y hy => h2 y (by simpa using hy)) (by simpa using h)]
    rfl
/-- A level of the first i tables. -/
def lvUp (n : Int) (F : List Tbf) (i : Nat) : List Tbf := ((F.take i).filter fun f => decide (f.lvl = n)).foldl (fun s f => vInto n f s) []
theorem lvUp_yes {n : Int} {F : List Tbf} {i : Nat} {f : Tbf} (hf : F[i]? = some f) (h : f.lvl = n) : lvUp n F (i + 1) = vInto n f (lvUp n F i) := by
  unfold lvUp
  rw [List.take_add_one, hf, List.filter_append]
  simp [h]
theorem lvUp_no {n : Int} {F : List Tbf} {i : Nat} {f : Tbf} (hf : F[i]? = some f) (h : ¬ f.lvl = n) : lvUp n F (i + 1) = lvUp n F i := by
  unfold lvUp
  rw [List.take_add_one, hf, List.filter_append]
  simp [h]
theorem lvUp_all {n : Int} {F : List Tbf} {i : Nat} (h : F.length ≤ i) : lvUp n F i = levelV n F := by
  unfold lvUp levelV
  rw [List.take_of_length_le h]
theorem lvUp_len (n : Int) (F : List Tbf) (i : Nat) : (lvUp n F i).length ≤ i := by
  have h := (vFold_perm n ((F.take i).filter fun f => decide (f.lvl = n)) []).length_eq
  have h2 : ((F.take i).filter fun f => decide (f.lvl = n)).length ≤ (F.take i).length := List.length_filter_le _ _
  rw [List.length_take] at h2
  rw [List.nil_append] at h
  unfold lvUp
  omega
/-- The two appends that lay f between the first j tables and the others. -/
theorem fins_run {w : World} {a : Option Addr} {n cap : Nat} {xs : List Tbf} (h : RdK encTbf 5 w (.slice a n cap) xs) (hn : n = xs.length) {B : Nat} (hB : B ≤ w.heap.size) (j : Nat) (hj : j ≤ n) (hx : xs.length ≤ 1000000) (e : Tbf) :
    ∃ v1 w1, (Builtin.append_ #[29, 29] 29 #[.slice (some ⟨w.heap.size, 0, none⟩) 1 1, .slice (if cap = j then a else a.map (·.add (j * 5))) (n - j) (cap - j)]).run Try.prog (w.alloc (.cells (encTbf e).toArray 43)).drew = .ok v1 w1 ∧ Below w.heap.size w w1 ∧
      ∃ v2 w2, (Builtin.append_ #[29, 29] 29 #[.slice a j j, v1]).run Try.prog w1 = .ok v2 w2 ∧ Below w.heap.size w w2 ∧ OwnK encTbf 5 43 B w2 v2 (xs.take j ++ e :: xs.drop j) := by
  have hal : Below w.heap.size w (w.alloc (.cells (encTbf e).toArray 43)).drew := ((Below.refl _ w).alloc (Nat.le_refl _) _).drew
  have hT := (h.rest j hj).below hal
  have hO : OwnK encTbf 5 43 w.heap.size (w.alloc (.cells (encTbf e).toArray 43)).drew (.slice (some ⟨w.heap.size, 0, none⟩) 1 1) [e] := own_oneK (E := 43) encTbf_len w e
  obtain ⟨v1, w1, r1, o1, b1⟩ := run_appK (ty := 29) elem_tbf encTbf_len hO hT (encTbf_one _) (by rw [List.length_drop]; simp; omega) (by rw [List.length_drop]; simp [maxLen]; omega) (by simp [World.drew])
  have B1 : Below w.heap.size w w1 := hal.trans b1
  obtain ⟨f1, f2, f3⟩ := h.front j hj
  have hF := f1.below B1
  obtain ⟨v2, w2, r2, o2, b2⟩ := run_appFK (ty := 29) elem_tbf encTbf_len (B := B) hF (a := a) (by rw [f2]) f3 (o1.rd encTbf_len) (by simp) (by rw [f2, List.length_append, List.length_drop]; simp; omega) (by rw [f2, List.length_append, List.length_drop]; simp [maxLen]; omega) (Nat.le_trans hB B1.size)
  exact ⟨v1, w1, r1, B1, v2, w2, r2, B1.trans (b2.mono B1.size), o2⟩
theorem vBef_zero {f g : Tbf} : vBef 0 f g ↔ g.num < f.num := by
  unfold vBef
  constructor
  · rintro (⟨-, h⟩ | ⟨h, -⟩)
    · exact h
    · omega
  · intro h; exact .inl ⟨rfl, h⟩
theorem vBef_pos {n : Int} (hn : 0 < n) {f g : Tbf} : vBef n f g ↔ bl f.lo g.lo := by
  unfold vBef
  constructor
  · rintro (⟨h, -⟩ | ⟨-, h⟩)
    · omega
    · exact h
  · intro h; exact .inr ⟨hn, h⟩
set_option maxHeartbeats 16000000 in
theorem rlevel_any {w : World} {c : Nat} {fv : Value} {nx lg ls : Int} {F : List Tbf} (hc : BlkAt w c #[fv, .int .i64 nx, .int .i64 lg, .int .i64 ls] 52) (hr : RdK encTbf 5 w fv F) (hl : F.length ≤ 1000) (n : Int) (hn : 0 ≤ n) :
    Calls Try.prog 30 #[.pointer (some ⟨c, 0, none⟩), .int .i64 n] w (FilsTo w (levelV n F)) := by
  obtain ⟨R, hR⟩ : ∃ R, levelV n F = R := ⟨_, rfl⟩
  rw [hR]
  have HR := Lib.hid hR
  obtain ⟨aF, cF, rfl, -⟩ := edFl_len hr
  have HC := Lib.hid hc
  have HRD := Lib.hid hr
  obtain ⟨N, hN⟩ : ∃ N, F.length = N := ⟨_, rfl⟩
  have HN := Lib.hid hN
  rw [hN] at HC HRD hl
  have HNN := Lib.hid hn
  clear hc hr hN hR hn
  unfold FilsTo
  go_enter Try.func30, Try.ntmps30
  go_wp2_with fail
  go_loopg [5, 6, 7, 8] N (fun kk vl vi _ _ wr => ∃ (i : Nat) (al : Option Addr) (nl cl : Nat), vi = .int .i64 (i : Int) ∧ vl = .slice al nl cl ∧ i ≤ N ∧ N - i ≤ kk ∧ nl ≤ i ∧ nl ≤ cl ∧ Hid ((lvUp n F i).length = nl) ∧ Hid (OwnK encTbf 5 43 w.heap.size wr (.slice al nl cl) (lvUp n F i)) ∧ Hid (Below w.heap.size w wr))
  case atStart => exact ⟨0, none, 0, 0, rfl, rfl, by omega, by omega, by omega, by omega, Lib.hid rfl, Lib.hid (OwnK.nil _ _ _ _ _), Lib.hid (Below.refl _ _)⟩
  case round =>
    obtain ⟨i, al, nl, cl, rfl, rfl, hi, hik, hnl, hnc, HL, HY, HB⟩ := hrel
    have hd0 : (0 : Int) ≤ (i : Int) := by omega
    generalize gk = gk0 at *
    obtain ⟨z0, z1, z2, z3⟩ := cell4_of (HC.out.below HB.out)
    by_cases hiN : i < N
    · have hd1 : (i : Int) < (N : Int) := by omega
      obtain ⟨f, hf⟩ : ∃ f, F[i]? = some f := ⟨F[i]'(by have := HN.out; omega), List.getElem?_eq_getElem _⟩
      have HFI := Lib.hid hf
      obtain ⟨bb, off, rfl, hblt, d0, d1, d2, d3, d4⟩ := (HRD.out.below HB.out).atTbf i f hf
      obtain ⟨wa, hwa⟩ : ∃ x, wr.alloc (.cells #[.int .i64 f.num, .int .i64 f.lvl, .int .i64 f.siz, .string f.lo, .string f.hi] 43) = x := ⟨_, rfl⟩
      have HBX : Hid (BlkAt wa wr.heap.size #[.int .i64 f.num, .int .i64 f.lvl, .int .i64 f.siz, .string f.lo, .string f.hi] 43) := Lib.hid (by rw [← hwa]; exact BlkAt.new _ _ _)
      have HBA : Hid (Below wr.heap.size wr wa) := Lib.hid (by rw [← hwa]; exact (Below.refl _ _).alloc (Nat.le_refl _) _)
      have HBB := Lib.hid (HB.out.trans (HBA.out.mono HB.out.size))
      have HY1 := Lib.hid (HY.out.below HBA.out)
      obtain ⟨pp, hpp⟩ : ∃ x, wr.heap.size = x := ⟨_, rfl⟩
      rw [hpp] at HBX
      clear hf HY HB HBA
      by_cases hlv : f.lvl = n
      rotate_left
      · have hlb : (f.lvl != n) = true := by simp [hlv]
        have HL2 := Lib.hid (lvUp_no HFI.out hlv)
        obtain ⟨e0, e1, e2, e3, e4⟩ := cell5_of HBX.out
        have HL3 : Hid ((lvUp n F (i + 1)).length = nl) := Lib.hid (by rw [HL2.out]; exact HL.out)
        have HY3 : Hid (OwnK encTbf 5 43 w.heap.size wa (.slice al nl cl) (lvUp n F (i + 1))) := Lib.hid (by rw [HL2.out]; exact HY1.out)
        clear hlv HL HY1 HL2 HBX HFI
        go_wp2_with fail
        go_roundg (N - (i + 1))
        case measure => omega
        case rel => exact ⟨i + 1, al, nl, cl, by go_num, rfl, by omega, Nat.le_refl _, by omega, hnc, HL3, HY3, HBB⟩
      · have hlb : (f.lvl != n) = false := by simp [hlv]
        have HL2 := Lib.hid (lvUp_yes HFI.out hlv)
        obtain ⟨e0, e1, e2, e3, e4⟩ := cell5_of HBX.out
        have HLL := Lib.hid (lvUp_len n F (i + 1))
        have hnlN : nl ≤ N := by omega
        clear hlv
        go_wp2_with fail
        clear e0 e1 e2 e3 e4 d0 d1 d2 d3 d4 hwa z0 z1 z2 z3
        generalize wr = wr0 at *
        obtain ⟨f0, f1, f2, f3, f4⟩ := f
        simp only at HBX hlb
        go_loopg [8] nl (fun kk vk wr => ∃ k : Nat, vk = .int .i64 (k : Int) ∧ k ≤ nl ∧ nl - k ≤ kk ∧ Hid (∀ (m : Nat) (y : Tbf), m < k → (lvUp n F i)[m]? = some y → vBef n y ⟨f0, f1, f2, f3, f4⟩) ∧ Hid (Below wa.heap.size wa wr))
        case atStart => exact ⟨0, rfl, by omega, by omega, Lib.hid (fun m y hm => by omega), Lib.hid (Below.refl _ _)⟩
        case round =>
          obtain ⟨k, rfl, hk, hkk, HG, HBR⟩ := hrel
          have hk0 : (0 : Int) ≤ (k : Int) := by omega
          have HXR := Lib.hid (HBX.out.below HBR.out)
          have HYR := Lib.hid (HY1.out.below HBR.out)
          have HBW := Lib.hid (HBB.out.trans (HBR.out.mono HBB.out.size))
          have HBRA := Lib.hid HBR.out
          obtain ⟨Q, hQ⟩ : ∃ Q : Bool, decide (k < nl ∧ ∃ y, (lvUp n F i)[k]? = some y ∧ vBef n y ⟨f0, f1, f2, f3, f4⟩) = Q := ⟨_, rfl⟩
          have HQ := Lib.hid hQ
          clear hQ HBR
          go_upto_region 8 with fail
          go_cut [60] (fun v wx => v = .bool Q ∧ Hid (Below wr.heap.size wr wx))
          case first =>
            obtain ⟨e0, e1, e2, e3, e4⟩ := cell5_of HXR.out
            by_cases hkl : k < nl
            rotate_left
            · obtain rfl : Q = false := by rw [← HQ.out]; exact decide_eq_false fun h => hkl h.1
              have hkn : decide (k < nl) = false := decide_eq_false hkl
              have hki : ¬ (k : Int) < (nl : Int) := by omega
              go_quiet (fail)
              go_wp2_with fail
              go_meet
              exact ⟨rfl, Lib.hid (DrN.below ⟨nq, rfl⟩ _)⟩
            · have hkn : decide (k < nl) = true := decide_eq_true hkl
              have hki : (k : Int) < (nl : Int) := by omega
              obtain ⟨y, hy⟩ : ∃ y, (lvUp n F i)[k]? = some y := ⟨(lvUp n F i)[k]'(by have := HL.out; omega), List.getElem?_eq_getElem _⟩
              obtain ⟨by', offy, rfl, hby, c0, c1, c2, c3, c4⟩ := (HYR.out.rd encTbf_len).atTbf k y hy
              have HBQ : Hid (Q = decide (vBef n y ⟨f0, f1, f2, f3, f4⟩)) := Lib.hid (by
                rw [← HQ.out, decide_eq_decide]
                constructor
                · rintro ⟨-, y', hy', hb⟩; rw [hy] at hy'; rw [Option.some.inj hy']; exact hb
                · intro hb; exact ⟨hkl, y, hy, hb⟩)
              obtain ⟨y0, y1, y2, y3, y4⟩ := y
              simp only at c0 c1 c2 c3 c4
              clear hy HG HY1 HYR HQ HL2 HL HLL HBB HBW HFI HRD HC HBX
              by_cases hn0 : n = 0
              · subst hn0
                by_cases hb : f0 < y0
                · obtain rfl : Q = true := by rw [HBQ.out]; exact decide_eq_true (vBef_zero.2 hb)
                  clear HBQ
                  go_quiet (fail)
                  go_wp2_with fail
                  go_meet
                  exact ⟨rfl, Lib.hid (DrN.below ⟨nq, rfl⟩ _)⟩
                · obtain rfl : Q = false := by rw [HBQ.out]; exact decide_eq_false fun h => hb (vBef_zero.1 h)
                  clear HBQ
                  go_quiet (fail)
                  go_wp2_with fail
                  go_meet
                  exact ⟨rfl, Lib.hid (DrN.below ⟨nq, rfl⟩ _)⟩
              · have hn1 : 0 < n := by have := HNN.out; omega
                have hnb : (n == 0) = false := by simp [hn0]
                by_cases hb : bl y3 f3
                · obtain rfl : Q = true := by rw [HBQ.out]; exact decide_eq_true ((vBef_pos hn1).2 hb)
                  have hbb := bs_less _ _ hb
                  clear HBQ hb
                  go_quiet (fail)
                  go_wp2_with fail
                  go_meet
                  exact ⟨rfl, Lib.hid (DrN.below ⟨nq, rfl⟩ _)⟩
                · obtain rfl : Q = false := by rw [HBQ.out]; exact decide_eq_false fun h => hb ((vBef_pos hn1).1 h)
                  have hbb := bs_not _ _ hb
                  clear HBQ hb
                  go_quiet (fail)
                  go_wp2_with fail
                  go_meet
                  exact ⟨rfl, Lib.hid (DrN.below ⟨nq, rfl⟩ _)⟩
          case rest =>
            obtain ⟨rfl, HBC⟩ := hcut
            have HXC := Lib.hid (HXR.out.below HBC.out)
            have HYC := Lib.hid (HYR.out.below HBC.out)
            have HBWC := Lib.hid (HBW.out.trans (HBC.out.mono HBW.out.size))
            clear HXR HYR
            cases Q with
            | true =>
              obtain ⟨hkl, y, hy, hb⟩ := of_decide_eq_true HQ.out
              have HG2 : Hid (∀ (m : Nat) (y : Tbf), m < k + 1 → (lvUp n F i)[m]? = some y → vBef n y ⟨f0, f1, f2, f3, f4⟩) := Lib.hid fun m z hm hz => by
                rcases Nat.lt_or_ge m k with h | h
                · exact HG.out m z h hz
                · obtain rfl : m = k := by omega
                  rw [hy] at hz
                  obtain rfl := Option.some.inj hz
                  exact hb
              have HBR2 : Hid (Below wa.heap.size wa wc) := Lib.hid (HBRA.out.trans (HBC.out.mono HBRA.out.size))
              clear hy hb HQ HG
              go_wp2_with fail
              go_roundg (nl - (k + 1))
              case measure => omega
              case rel => exact ⟨k + 1, by go_num, by omega, Nat.le_refl _, HG2, HBR2⟩
            | false =>
              have HE : Hid (lvUp n F (i + 1) = (lvUp n F i).take k ++ ⟨f0, f1, f2, f3, f4⟩ :: (lvUp n F i).drop k) := Lib.hid (by
                rw [HL2.out]
                refine vInto_at n _ _ k HG.out (fun y hy hb => ?_) (by rw [HL.out]; exact hk)
                have := (List.getElem?_eq_some_iff.1 hy).1
                exact absurd (show k < nl ∧ ∃ y, (lvUp n F i)[k]? = some y ∧ vBef n y ⟨f0, f1, f2, f3, f4⟩ from ⟨by have := HL.out; omega, y, hy, hb⟩) (of_decide_eq_false HQ.out))
              clear HQ HG HBX HY1
              go_wp2_with fail
              generalize hw3 : wc = w3 at *
              clear hw3
              have HS1 : Hid (∀ W, (Instr.sliceAt 29 (.slice al nl cl) none (some (.int .i64 (k : Int))) (some (.int .i64 (k : Int)))).run Try.prog W = .ok (.slice al k k) W) := Lib.hid fun W => sl_hmF W _ nl cl k hk hnc
              have HS2 : Hid (∀ W, (Instr.sliceAt 29 (.slice al nl cl) (some (.int .i64 (k : Int))) none none).run Try.prog W = .ok (.slice (if cl = k then al else (al : Option Addr).map (·.add (k * 5))) (nl - k) (cl - k)) W) := Lib.hid fun W => sl_lF W _ nl cl k hk hnc
              have HIN := Lib.hid (fins_run (HYC.out.rd encTbf_len) HL.out.symm HBWC.out.size k hk (by have := HL.out; omega) ⟨f0, f1, f2, f3, f4⟩)
              obtain ⟨T, hT⟩ : ∃ T : Value, Value.slice (if cl = k then al else (al : Option Addr).map (·.add (k * 5))) (nl - k) (cl - k) = T := ⟨_, rfl⟩
              rw [hT] at HS2 HIN
              clear hT
              refine wp_region_held_drew (S := Below w3.heap.size w3) (by kernel_rfl) (Below.refl _ _).drew (fun hHeld => ?_)
              refine takeYes (i := 0) (k := 63) (v := .slice al nl cl) rfl (by kernel_rfl) (by kernel_rfl) (by kernel_rfl) (by kernel_rfl) (fun _ _ _ h => h) (by kernel_rfl) ?_ (by assumption) ?_
              · intro W hSw; first | (go_simp; done) | go_simp
              try simp only [Act.put, List.setIfInBounds_toArray, List.set_cons_zero, List.set_cons_succ]
              refine takeYes (i := 1) (k := 64) (v := .int .i64 (k : Int)) rfl (by kernel_rfl) (by kernel_rfl) (by kernel_rfl) (by kernel_rfl) (fun _ _ _ h => h) (by kernel_rfl) ?_ (by assumption) ?_
              · intro W hSw; first | (go_simp; done) | go_simp
              try simp only [Act.put, List.setIfInBounds_toArray, List.set_cons_zero, List.set_cons_succ]
              refine takeYes (i := 2) (k := 65) (v := .int .i64 (k : Int)) rfl (by kernel_rfl) (by kernel_rfl) (by kernel_rfl) (by kernel_rfl) (fun _ _ _ h => h) (by kernel_rfl) ?_ (by assumption) ?_
              · intro W hSw; first | (go_simp; done) | go_simp
              try simp only [Act.put, List.setIfInBounds_toArray, List.set_cons_zero, List.set_cons_succ]
              refine takeYes (i := 3) (k := 66) (v := .slice al k k) rfl (by kernel_rfl) (by kernel_rfl) (by kernel_rfl) (by kernel_rfl) (fun _ _ _ h => h) (by kernel_rfl) ?_ (by assumption) ?_
              · intro W hSw; have hsl := HS1.out W; first | (go_simp; done) | go_simp
              try simp only [Act.put, List.setIfInBounds_toArray, List.set_cons_zero, List.set_cons_succ]
              refine takeYes (i := 4) (k := 67) (v := .agg #[.int .i64 f0, .int .i64 f1, .int .i64 f2, .string f3, .string f4]) rfl (by kernel_rfl) (by kernel_rfl) (by kernel_rfl) (by kernel_rfl) (fun _ _ _ h => h) (by kernel_rfl) ?_ (by assumption) ?_
              · intro W hSw; obtain ⟨d0, d1, d2, d3, d4⟩ := cell5_of (HXC.out.below hSw); first | (go_simp; done) | go_simp
              try simp only [Act.put, List.setIfInBounds_toArray, List.set_cons_zero, List.set_cons_succ]
              refine takeYes (i := 6) (k := 69) (v := .slice al nl cl) rfl (by kernel_rfl) (by kernel_rfl) (by kernel_rfl) (by kernel_rfl) (fun _ _ _ h => h) (by kernel_rfl) ?_ (by assumption) ?_
              · intro W hSw; first | (go_simp; done) | go_simp
              try simp only [Act.put, List.setIfInBounds_toArray, List.set_cons_zero, List.set_cons_succ]
              refine takeYes (i := 7) (k := 70) (v := .int .i64 (k : Int)) rfl (by kernel_rfl) (by kernel_rfl) (by kernel_rfl) (by kernel_rfl) (fun _ _ _ h => h) (by kernel_rfl) ?_ (by assumption) ?_
              · intro W hSw; first | (go_simp; done) | go_simp
              try simp only [Act.put, List.setIfInBounds_toArray, List.set_cons_zero, List.set_cons_succ]
              refine takeYes (i := 8) (k := 71) (v := T) rfl (by kernel_rfl) (by kernel_rfl) (by kernel_rfl) (by kernel_rfl) (fun _ _ _ h => h) (by kernel_rfl) ?_ (by assumption) ?_
              · intro W hSw; have hsl := HS2.out W; first | (go_simp; done) | go_simp
              try simp only [Act.put, List.setIfInBounds_toArray, List.set_cons_zero, List.set_cons_succ]
              obtain ⟨v1, w4, r1, b1, v2, w5, r2, b2, o2⟩ := HIN.out
              refine wpAnyH_ready (rs := [5]) (by kernel_rfl) (by simp) (AllReadyH.cons rfl (fun K hK => ?_) AllReadyH.nil)
              go_simp
              refine hK.out _ _ ((Below.refl _ w3).alloc (Nat.le_refl _) _).drew (fun hHeld2 => ?_)
              clear hK K hHeld
              try simp only [Act.put, List.setIfInBounds_toArray, List.set_cons_zero, List.set_cons_succ]
              refine wpAnyH_ready (rs := [9]) (by kernel_rfl) (by simp) (AllReadyH.cons rfl (fun K hK => ?_) AllReadyH.nil)
              refine step_appD 72 rfl (by kernel_rfl) (.tmp 68) (.tmp 71) 29 rfl rfl rfl r1 ?_
              refine hK.out _ _ b1 (fun hHeld2 => ?_)
              clear hK K
              try simp only [Act.put, List.setIfInBounds_toArray, List.set_cons_zero, List.set_cons_succ]
              refine wpAnyH_ready (rs := [10]) (by kernel_rfl) (by simp) (AllReadyH.cons rfl (fun K hK => ?_) AllReadyH.nil)
              refine step_appD 73 rfl (by kernel_rfl) (.tmp 66) (.tmp 72) 29 rfl rfl rfl r2 ?_
              refine hK.out _ _ b2 (fun hHeld2 => ?_)
              clear hK K
              try simp only [Act.put, List.setIfInBounds_toArray, List.set_cons_zero, List.set_cons_succ]
              refine takeYes (i := 11) (k := 5) (v := v2) rfl (by kernel_rfl) (by kernel_rfl) (by kernel_rfl) (by kernel_rfl) (fun _ _ _ h => h) (by kernel_rfl) ?_ (by assumption) ?_
              · intro W hSw; first | (go_simp; done) | go_simp
              try simp only [Act.put, List.setIfInBounds_toArray, List.set_cons_zero, List.set_cons_succ]
              refine wpAnyH_done (by kernel_rfl) ?_ _
              have ho5 : OwnK encTbf 5 43 w.heap.size w5 v2 (lvUp n F (i + 1)) := by rw [HE.out]; exact o2
              obtain ⟨a6, c6, rfl⟩ := fil_form ho5
              obtain ⟨nl6, hnl6⟩ : ∃ m, (lvUp n F (i + 1)).length = m := ⟨_, rfl⟩
              rw [hnl6] at ho5 ⊢
              have HO5 := Lib.hid ho5
              have HN6 := Lib.hid hnl6
              have hc6 : nl6 ≤ c6 := by
                rcases ho5.blk with ⟨e, e2⟩ | ⟨g, c, cur, e, -, -, -, h5, -⟩
                · simp only [Value.slice.injEq] at e; omega
                · simp only [Value.slice.injEq] at e; omega
              have HB5 := Lib.hid (HBWC.out.trans (b2.mono HBWC.out.size))
              have hle6 : nl6 ≤ i + 1 := by have := HLL.out; omega
              clear r1 r2 b1 b2 o2 ho5 HS1 HS2 HIN HE HXC HYC hnl6 HL HL2 HLL
              go_wp2_with fail
              go_roundg (N - (i + 1))
              case measure => omega
              case rel => exact ⟨i + 1, a6, nl6, c6, by go_num, rfl, by omega, Nat.le_refl _, hle6, hc6, HN6, HO5, HB5⟩
    · have hd1 : ¬ (i : Int) < (N : Int) := by omega
      have HE : Hid (lvUp n F i = R) := Lib.hid (by rw [← HR.out]; exact lvUp_all (by have := HN.out; omega))
      clear HL
      go_wp2_with fail
      go_ret
      rw [← HE.out]
      exact ⟨_, rfl, HY.out, HB.out⟩
end Go.Proofs.Ytjloaamaelcmaaa
