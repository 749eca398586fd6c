/- The walk of the law MergeAll. -/
import Derived.Test.YtmndhmodcglkjaaMgTold
import Derived.Test.YtmndhmodcglkjaaEntEq
import Derived.Test.YtmndhmodcglkjaaMgNm
import Derived.Deep.LoopGhost
import Derived.Deep.CutBlock
import Derived.Deep.DeepCutAuto
namespace Go.Proofs.Ytmndhmodcglkjaa
set_option linter.unusedVariables false
set_option maxRecDepth 100000
open Go.RowKit
/-- The sorted lists, each of fifteen at most. -/
def InsW (w wr : World) (v : Value) (ins : List (List Ent)) : Prop := OwnLs 24 28 encEnt 5 (fun _ => False) w.heap.size wr v ins ∧ ∀ l, l ∈ ins → SrtW l ∧ l.length ≤ 15
theorem flat_len15 {ins : List (List Ent)} (h : ∀ l, l ∈ ins → SrtW l ∧ l.length ≤ 15) : ins.flatten.length ≤ 15 * ins.length := by
  induction ins with
  | nil => simp
  | cons l r ih =>
    rw [List.flatten_cons, List.length_append, List.length_cons]
    have h1 := (h l (List.mem_cons_self ..)).2
    have h2 := ih fun m hm => h m (List.mem_cons_of_mem _ hm)
    omega
theorem OwnK.five {E B g n cap i : Nat} {w : World} {xs : List Ent} {x : Ent} (h : OwnK encEnt 5 E B w (.slice (some ⟨g, 0, none⟩) n cap) xs) (hx : xs[i]? = some x) : AtE w g (i * 5) x :=
  ⟨h.cell encEnt_len i 0 x hx (by omega), h.cell encEnt_len i 1 x hx (by omega), h.cell encEnt_len i 2 x hx (by omega), h.cell encEnt_len i 3 x hx (by omega), h.cell encEnt_len i 4 x hx (by omega)⟩
theorem BlkAt.five {w : World} {b : Nat} {v0 v1 v2 v3 v4 : Value} {t : TypeId} (h : BlkAt w b #[v0, v1, v2, v3, v4] t) : w.cell? ⟨b, 0, none⟩ = some v0 ∧ w.cell? ⟨b, 1, none⟩ = some v1 ∧ w.cell? ⟨b, 2, none⟩ = some v2 ∧ w.cell? ⟨b, 3, none⟩ = some v3 ∧ w.cell? ⟨b, 4, none⟩ = some v4 :=
  ⟨h.at 0, h.at 1, h.at 2, h.at 3, h.at 4⟩
theorem sumN_le {ps : List Pl} (j : Nat) : sumN (ps.take j) ≤ sumN ps := by
  unfold sumN
  conv => rhs; rw [← List.take_append_drop j ps, List.map_append, List.sum_append]
  omega
theorem mrgL_take2 {ys xs : List Ent} {k : Nat} {x : Ent} (h : xs[k]? = some x) : mrgL (ys ++ xs.take (k + 1)) = intoE x (mrgL (ys ++ xs.take k)) := by
  have hlt := (List.getElem?_eq_some_iff.1 h).1
  rw [List.take_succ_eq_append_getElem hlt, ← List.append_assoc, mrgL_snoc, show xs[k] = x from Option.some.inj ((List.getElem?_eq_getElem hlt).symm.trans h)]
theorem mrgL_take {xs : List Ent} {k : Nat} {x : Ent} (h : xs[k]? = some x) : mrgL (xs.take (k + 1)) = intoE x (mrgL (xs.take k)) := by
  have hlt := (List.getElem?_eq_some_iff.1 h).1
  rw [List.take_succ_eq_append_getElem hlt, mrgL_snoc, show xs[k] = x from Option.some.inj ((List.getElem?_eq_getElem hlt).symm.trans h)]
set_option maxHeartbeats 64000000 in
theorem mergeAll_walk (w : World) (a : Option Addr) (len cap : Nat) (gs : List (List Ent)) (hr : RdLs encEnt 5 w (.slice a len cap) gs) (hok : ∀ g ∈ gs, ∀ e ∈ g, e.ok) (stop : Int) (hwf : (Lit.int .i64 stop).wf = true) :
    Calls Try.prog 3 #[.slice a len cap, .int .i64 stop] w fun e w' => e = .returned (.bool true) ∧ Below w.heap.size w w' := by
  have HBG := Lib.hid (mgBegun_any w)
  have hlen : len = gs.length := by
    obtain ⟨a', c', e⟩ := hr.form
    simp only [Value.slice.injEq] at e; exact e.2.1
  have HR := Lib.hid hr
  have HLEN := Lib.hid hlen
  have HOK := Lib.hid hok
  clear hr hlen hok
  go_enter Try.func3, Try.ntmps3
  go_wp2_with fail
  refine HBG.out.mono ?_
  rintro e w1 ⟨rfl, hb1⟩
  have HB1 := Lib.hid hb1
  clear HBG hb1
  go_wp2_with fail
  go_loopg [6, 8] 8 (fun kk vin vi wr => ∃ (i n c : Nat) (ao : Option Addr), vi = .int .i64 i ∧ vin = .slice ao n c ∧ i ≤ 8 ∧ i ≤ len ∧ 8 - i ≤ kk ∧ Hid (Below w.heap.size w wr ∧ ∃ ins, InsW w wr (.slice ao n c) ins ∧ ins.length = i))
  case atStart => exact ⟨0, 0, 0, none, rfl, rfl, by omega, by omega, by omega, Lib.hid ⟨HB1.out, [], ⟨OwnLs.nil .., fun l hl => by cases hl⟩, rfl⟩⟩
  case round =>
    obtain ⟨i, n, c, ao, rfl, rfl, hi8, hil, hkk, HN⟩ := hrel
    have hi0 : (0 : Int) ≤ (i : Int) := by omega
    clear HB1
    go_upto_region 7 with fail
    go_cut [36] (fun l wx => ∃ q : Bool, l = .bool q ∧ wr = wx ∧ Hid (q = decide (i < len ∧ i < 8)))
    case first =>
      by_cases hiL : i < len
      · have hiI : (i : Int) < (len : Int) := by omega
        have hid : decide ((i : Int) < (len : Int)) = true := decide_eq_true hiI
        by_cases hi8' : i < 8
        · have hiI8 : (i : Int) < 8 := by omega
          have hid8 : decide ((i : Int) < 8) = true := decide_eq_true hiI8
          go_wp2_with fail
          go_meet
          exact ⟨true, rfl, rfl, Lib.hid (decide_eq_true ⟨hiL, hi8'⟩).symm⟩
        · have hiI8 : ¬ (i : Int) < 8 := by omega
          have hid8 : decide ((i : Int) < 8) = false := decide_eq_false hiI8
          go_wp2_with fail
          go_meet
          exact ⟨false, rfl, rfl, Lib.hid (decide_eq_false fun h => hi8' h.2).symm⟩
      · have hiI : ¬ (i : Int) < (len : Int) := by omega
        have hid : decide ((i : Int) < (len : Int)) = false := decide_eq_false hiI
        go_wp2_with fail
        go_meet
        exact ⟨false, rfl, rfl, Lib.hid (decide_eq_false fun h => hiL h.1).symm⟩
    case rest =>
    obtain ⟨q, rfl, rfl, HQ⟩ := hcut
    cases q
    · obtain ⟨ins, hI, hIl⟩ := HN.out.2
      have hn : n = i := by
        obtain ⟨a', c', e, -⟩ := hI.1.form
        simp only [Value.slice.injEq] at e; omega
      subst hn
      have HW := Lib.hid HN.out.1
      have HIR := Lib.hid (hI.1.rd encEnt_len)
      have HIS := Lib.hid (And.intro hI.2 hIl)
      have hfl : ins.flatten.length ≤ 120 := by have := flat_len15 hI.2; omega
      have HFL := Lib.hid hfl
      obtain ⟨I, hII⟩ : ∃ I, I = n := ⟨_, rfl⟩
      subst hII
      clear hI hIl HN HQ hfl hil hi0 hkk HR HOK HLEN
      obtain ⟨wz, rfl⟩ : ∃ wz, wz = wr := ⟨_, rfl⟩
      go_wp2_with fail
      go_loopg [7, 12] I (fun kk vw vi wr2 => ∃ (j n2 c2 : Nat) (ao2 : Option Addr), vi = .int .i64 j ∧ vw = .slice ao2 n2 c2 ∧ j ≤ I ∧ I - j ≤ kk ∧ Hid (Below wz.heap.size wz wr2 ∧ OwnK encEnt 5 28 w.heap.size wr2 (.slice ao2 n2 c2) (mrgL (ins.take j).flatten)))
      case atStart => exact ⟨0, 0, 0, none, rfl, rfl, by omega, by omega, Lib.hid ⟨Below.refl _ _, OwnK.nil _ _ _ _ _⟩⟩
      case round =>
        obtain ⟨j, n2, c2, ao2, rfl, rfl, hj, hkk, HL⟩ := hrel
        have hj0 : (0 : Int) ≤ (j : Int) := by omega
        by_cases hjI : j < I
        · have hjI' : (j : Int) < (I : Int) := by omega
          have hjd : decide ((j : Int) < (I : Int)) = true := decide_eq_true hjI'
          obtain ⟨l, hl⟩ : ∃ l, ins[j]? = some l := ⟨ins[j]'(by have := HIS.out.2; omega), List.getElem?_eq_getElem _⟩
          obtain ⟨gi, offi, u, e, hgi, hcell0, hu⟩ := HIR.out.at j l hl
          obtain rfl := e
          obtain ⟨au, cu, rfl, -⟩ := hu.len
          obtain ⟨X, hX⟩ : ∃ X, l.length = X := ⟨_, rfl⟩
          have hX15 : X ≤ 15 := by have := (HIS.out.1 l (List.mem_of_getElem? hl)).2; omega
          have HXL := Lib.hid hX
          rw [hX] at hcell0 hu
          have HU := Lib.hid hu
          have HJL := Lib.hid hl
          have HC0 := Lib.hid (And.intro hgi hcell0)
          obtain ⟨wy, rfl⟩ : ∃ wy, wy = wr := ⟨_, rfl⟩
          have HL0 : Hid (Below wz.heap.size wz wy ∧ OwnK encEnt 5 28 w.heap.size wy (.slice ao2 n2 c2) (mrgL ((ins.take j).flatten ++ l.take 0))) := Lib.hid ⟨HL.out.1, by rw [List.take_zero, List.append_nil]; exact HL.out.2⟩
          have HTL : Hid ((ins.take j).flatten.length ≤ 120) := Lib.hid (Nat.le_trans (take_len ins j) HFL.out)
          clear hl hgi hcell0 hu hX HL
          go_wp2_with fail
          go_loopg [7, 13] X (fun kk vw vk wr3 => ∃ (k n3 c3 : Nat) (ao3 : Option Addr), vk = .int .i64 k ∧ vw = .slice ao3 n3 c3 ∧ k ≤ X ∧ X - k ≤ kk ∧ Hid (Below wz.heap.size wz wr3 ∧ OwnK encEnt 5 28 w.heap.size wr3 (.slice ao3 n3 c3) (mrgL ((ins.take j).flatten ++ l.take k))))
          case atStart => exact ⟨0, n2, c2, ao2, rfl, rfl, by omega, by omega, HL0⟩
          case round =>
            obtain ⟨k, n3, c3, ao3, rfl, rfl, hk, hkk2, HL⟩ := hrel
            have hk0 : (0 : Int) ≤ (k : Int) := by omega
            have hcell := (HL.out.1.cell (p := ⟨gi, offi + j, none⟩) HC0.out.1).trans HC0.out.2
            clear HL0
            by_cases hkX : k < X
            · have hkI : (k : Int) < (X : Int) := by omega
              have hkd : decide ((k : Int) < (X : Int)) = true := decide_eq_true hkI
              obtain ⟨x, hx⟩ : ∃ x, l[k]? = some x := ⟨l[k]'(by have := HXL.out; omega), List.getElem?_eq_getElem _⟩
              obtain ⟨gx, offx, e, -, d0, d1, d2, d3, d4⟩ := (HU.out.below HL.out.1).at5 HXL.out.symm k x hx
              obtain rfl := e
              have HIN : Hid (Calls Try.prog 8 #[.slice ao3 n3 c3, .agg #[.string x.norm, .int .i64 x.seq, .int .i64 x.kind, .string x.spell, .string x.val]] wr (IntoRes (mrgL ((ins.take j).flatten ++ l.take (k + 1))) wr)) := Lib.hid (by
                rw [mrgL_take2 hx]
                obtain ⟨a', c', e, h1, h2⟩ := HL.out.2.kform
                simp only [Value.slice.injEq] at e
                have := HTL.out
                have := HXL.out
                exact into_any ao3 n3 c3 _ (by rw [mrgL_len, List.length_append, List.length_take]; omega) (by omega) (by omega) x _ (HL.out.2.rd encEnt_len))
              have HL1 := Lib.hid HL.out.1
              have hBr : w.heap.size ≤ wr.heap.size := Nat.le_trans HW.out.size HL.out.1.size
              clear HL hx
              go_wp2_with fail
              refine HIN.out.mono ?_
              rintro e w4 ⟨v4, rfl, o4, b4⟩
              obtain ⟨a4, c4, rfl, -, -⟩ := o4.kform
              have HL2 : Hid (Below wz.heap.size wz w4 ∧ OwnK encEnt 5 28 w.heap.size w4 (.slice a4 (mrgL ((ins.take j).flatten ++ l.take (k + 1))).length c4) (mrgL ((ins.take j).flatten ++ l.take (k + 1)))) := Lib.hid ⟨HL1.out.trans (b4.mono HL1.out.size), o4.base hBr⟩
              generalize (mrgL ((ins.take j).flatten ++ l.take (k + 1))).length = n4 at HL2 ⊢
              clear HIN o4 b4 d0 d1 d2 d3 d4 HL1
              go_wp2_with fail
              go_roundg (X - (k + 1))
              case measure => omega
              case rel => exact ⟨k + 1, n4, c4, a4, by go_num, rfl, by omega, Nat.le_refl _, HL2⟩
            · obtain rfl : k = X := by omega
              have hnI : ¬ (k : Int) < (k : Int) := by omega
              have hkd : decide ((k : Int) < (k : Int)) = false := decide_eq_false hnI
              have HL2 : Hid (Below wz.heap.size wz wr ∧ OwnK encEnt 5 28 w.heap.size wr (.slice ao3 n3 c3) (mrgL (ins.take (j + 1)).flatten)) := Lib.hid ⟨HL.out.1, by
                have := HL.out.2
                rwa [List.take_of_length_le (l := l) (by rw [HXL.out]; exact Nat.le_refl _), ← take_next HJL.out] at this⟩
              clear HL
              go_wp2_with fail
              go_roundg (I - (j + 1))
              case measure => omega
              case rel => exact ⟨j + 1, n3, c3, ao3, by go_num, rfl, by omega, Nat.le_refl _, HL2⟩
        · obtain rfl : j = I := by omega
          have hnI : ¬ (j : Int) < (j : Int) := by omega
          have hjd : decide ((j : Int) < (j : Int)) = false := decide_eq_false hnI
          obtain ⟨want, hwant⟩ : ∃ want, mrgL ins.flatten = want := ⟨_, rfl⟩
          have hwl : want.length ≤ 120 := by rw [← hwant, mrgL_len]; exact HFL.out
          obtain ⟨hLb, hLo⟩ := HL.out
          rw [List.take_of_length_le (l := ins) (by rw [HIS.out.2]; exact Nat.le_refl _), hwant] at hLo
          have hn2 : n2 = want.length := by
            obtain ⟨a', c', e, -⟩ := hLo.kform
            simp only [Value.slice.injEq] at e; exact e.2.1
          have HWN := Lib.hid (And.intro hwant (And.intro hwl hn2))
          have HA := Lib.hid (mgAll_any ins _ (HIR.out.below hLb) (fun l hl => (HIS.out.1 l hl).1) (by rw [HIS.out.2]; omega) (by have := HFL.out; omega))
          have HLo := Lib.hid (And.intro hLb hLo)
          clear HL hLb hLo hwant hwl hn2
          go_wp2_with fail
          refine HA.out.mono ?_
          rintro e w6 ⟨⟨vA, rfl, hA⟩, hb6⟩
          rw [HWN.out.1] at hA
          have HEQ := Lib.hid (eqall_same vA (.slice ao2 n2 c2) want (by have := HWN.out.2.1; omega) w6 (hA.rd encEnt_len) ((HLo.out.2.below hb6).rd encEnt_len))
          have HB6 := Lib.hid hb6
          clear hA hb6 HA
          go_wp2_with fail
          refine HEQ.out.mono ?_
          rintro e w7 ⟨rfl, hb7⟩
          have hbz7 : Below wz.heap.size wz w7 := (HLo.out.1.trans (HB6.out.mono HLo.out.1.size)).trans (hb7.mono (Nat.le_trans HLo.out.1.size HB6.out.size))
          have HW7 := Lib.hid (HW.out.trans (hbz7.mono HW.out.size))
          have HIR7 := Lib.hid (HIR.out.below hbz7)
          have HO7 := Lib.hid (((HLo.out.2.below HB6.out).below hb7).base (B' := 0) (Nat.zero_le _))
          have HT0 : Hid (TolW w7 ins [] (.slice none 0 0) (.slice none 0 0) 0 w7) := Lib.hid ⟨rfl, fun p x hx => by simp at hx, fun p p' x x' hx => by simp at hx, OwnK.nil _ _ _ _ _, OwnK.nil _ _ _ _ _, Below.refl _ _⟩
          clear hb7 hbz7 HEQ HB6 HLo HIR HW
          obtain ⟨I, rfl⟩ : ∃ I, I = j := ⟨_, rfl⟩
          clear hj hkk hj0 hjI hnI hjd
          go_wp2_with fail
          go_loopg [14, 15, 16] I (fun kk vs vt vi wr => ∃ (i n3 c3 n4 c4 : Nat) (a3 a4 : Option Addr), vi = .int .i64 i ∧ vt = .slice a3 n3 c3 ∧ vs = .slice a4 n4 c4 ∧ i ≤ I ∧ I - i ≤ kk ∧ Hid (∃ ss, TolW w7 ins ss (.slice a3 n3 c3) (.slice a4 n4 c4) i wr))
          case atStart => exact ⟨0, 0, 0, 0, 0, none, none, rfl, rfl, rfl, by omega, by omega, Lib.hid ⟨[], HT0.out⟩⟩
          case round =>
            obtain ⟨i, n3, c3, n4, c4, a3, a4, rfl, rfl, rfl, hi, hkk, HN⟩ := hrel
            have hi0 : (0 : Int) ≤ (i : Int) := by omega
            clear HT0
            by_cases hiI : i < I
            · have hiI' : (i : Int) < (I : Int) := by omega
              have hid : decide ((i : Int) < (I : Int)) = true := decide_eq_true hiI'
              obtain ⟨l, hl⟩ : ∃ l, ins[i]? = some l := ⟨ins[i]'(by have := HIS.out.2; omega), List.getElem?_eq_getElem _⟩
              obtain ⟨gi, offi, u, e, hgi, hcell0, hu⟩ := HIR7.out.at i l hl
              obtain rfl := e
              obtain ⟨ss, HT⟩ := HN.out
              have hcell := (HT.base.cell (p := ⟨gi, offi + i, none⟩) hgi).trans hcell0
              obtain ⟨au, cu, rfl, -⟩ := hu.len
              obtain ⟨N1, hN1⟩ : ∃ N1, l.length = N1 := ⟨_, rfl⟩
              rw [hN1] at hu hcell
              obtain ⟨sb, hsb⟩ : ∃ sb, wr.heap.size = sb := ⟨_, rfl⟩
              obtain ⟨w8, hw8⟩ : ∃ w8, wr.alloc (.cells #[.slice au N1 cu, .int .i64 0] 35) = w8 := ⟨_, rfl⟩
              have b1 : Below wr.heap.size wr w8 := by rw [← hw8]; exact (Below.refl _ _).alloc (Nat.le_refl _) _
              have hb8 : BlkAt w8 wr.heap.size #[.slice au N1 cu, .int .i64 0] 35 := by rw [← hw8]; exact BlkAt.new _ _ _
              have hT8 := HT.below b1
              have HK := Lib.hid (And.intro HT (And.intro hl (And.intro hu (And.intro b1 (And.intro hb8 (And.intro hT8 hsb))))))
              have HCT : Hid ((encT ⟨sb, 0, 0, 1, none, l⟩).toArray = #[.pointer (some ⟨sb, 0, none⟩)]) := Lib.hid rfl
              have HCS : Hid ((encS ⟨sb, 0, 0, 1, none, l⟩).toArray = #[.iface 33 (.pointer (some ⟨sb, 0, none⟩))]) := Lib.hid rfl
              clear HT hl hgi hcell0 hu hN1 b1 hb8 hT8 HN
              go_wp2_with (at_builtin; refine wp_oneK elemK_told encT_len _ _ (by rfl) (by rfl) (by rfl) HK.out.2.2.2.2.2.1.rowT (⟨sb, 0, 0, 1, none, l⟩ : Pl) _ HCT.out _ (by rfl) (by rfl) (encT_one _) ?c1 ?c2 HK.out.2.2.2.2.2.1.base.size ?_)
              case c1 => have := HK.out.1.len; omega
              case c2 => have := HK.out.1.len; unfold maxLen; omega
              intro v5 w9 o5 b5 u5 n5
              obtain ⟨a5, c5, rfl, -, -⟩ := o5.kform
              have HS9 := Lib.hid (OwnK.beside HK.out.2.2.2.2.2.1.rowT HK.out.2.2.2.2.2.1.rowS (by decide) u5)
              have HK9 := Lib.hid (And.intro o5 (And.intro b5 u5))
              generalize (ss ++ [(⟨sb, 0, 0, 1, none, l⟩ : Pl)]).length = n5' at HK9 ⊢
              clear o5 b5 u5 n5
              go_wp2_with (at_builtin; refine wp_oneK elemK_src encS_len _ _ (by rfl) (by rfl) (by rfl) HS9.out (⟨sb, 0, 0, 1, none, l⟩ : Pl) _ HCS.out _ (by rfl) (by rfl) (encS_one _) ?c1 ?c2 (Nat.le_trans HK.out.2.2.2.2.2.1.base.size HK9.out.2.1.size) ?_)
              case c1 => have := HK.out.1.len; omega
              case c2 => have := HK.out.1.len; unfold maxLen; omega
              intro v6 w10 o6 b6 u6 n6
              obtain ⟨a6, c6, rfl, -, -⟩ := o6.kform
              have hst := HK.out.1.step HK.out.2.1 HK.out.2.2.1 HK.out.2.2.2.1 HK.out.2.2.2.2.1 (by rw [HK.out.2.2.2.2.2.2]; exact HK9.out.1) HK9.out.2.1 HK9.out.2.2 (by rw [HK.out.2.2.2.2.2.2]; exact o6) b6 u6
              have HN2 : Hid (∃ ss', TolW w7 ins ss' (.slice a5 n5' c5) (.slice a6 (ss ++ [(⟨sb, 0, 0, 1, none, l⟩ : Pl)]).length c6) (i + 1) w10) := Lib.hid ⟨_, hst⟩
              generalize (ss ++ [(⟨sb, 0, 0, 1, none, l⟩ : Pl)]).length = n6' at HN2 ⊢
              clear hst o6 b6 u6 n6 HK9 HS9 HK HCT HCS hw8
              go_wp2_with fail
              go_roundg (I - (i + 1))
              case measure => omega
              case rel => exact ⟨i + 1, n5', c5, n6', c6, a5, a6, by go_num, rfl, rfl, by omega, Nat.le_refl _, HN2⟩
            · obtain rfl : i = I := by omega
              have hnI : ¬ (i : Int) < (i : Int) := by omega
              have hid : decide ((i : Int) < (i : Int)) = false := decide_eq_false hnI
              obtain ⟨ss, HT⟩ := HN.out
              have hsl : ss.length = i := HT.len
              have HNew := Lib.hid (mgNew_any (HT.srcs HIS.out.1) (OwnV.base (src_rows.2 HT.rowS) (Nat.zero_le _)) (by omega))
              have HTI : Hid (TolW w7 ins ss (.slice a3 n3 c3) (.slice a4 n4 c4) ins.length wr) := Lib.hid (by rw [HIS.out.2]; exact HT)
              have HOr := Lib.hid (HO7.out.below HT.base)
              have hn3 : n3 = i := by
                obtain ⟨a', c', e, -⟩ := HT.rowT.kform
                simp only [Value.slice.injEq] at e; omega
              obtain ⟨I, rfl⟩ : ∃ I, I = i := ⟨_, rfl⟩
              subst hn3
              have HSL := Lib.hid hsl
              clear HT HN hsl hi hkk hi0 hiI hnI hid HIR7 HO7
              go_wp2_with fail
              refine HNew.out.mono ?_
              rintro e w8 ⟨mb, ps, rfl, m1, m2, m3, m4, m5⟩
              have HRUN : Hid (∃ ps, RunW w7 mb ss ps (.slice a3 n3 c3) (.slice ao2 n2 c2) want 0 w8) := Lib.hid ⟨ps, HTI.out.run HWN.out.1.symm m2 m3 m4 m5 HOr.out⟩
              obtain ⟨WL, hWL⟩ : ∃ WL, n2 = WL := ⟨_, rfl⟩
              subst hWL
              clear m1 m2 m3 m4 m5 HTI HOr HNew
              go_wp2_with fail
              go_loopg [19] n2 (fun kk vn wr => ∃ m : Nat, vn = .int .i64 m ∧ m ≤ n2 ∧ n2 - m ≤ kk ∧ Hid (∃ ps, RunW w7 mb ss ps (.slice a3 n3 c3) (.slice ao2 n2 c2) want m wr))
              case atStart => exact ⟨0, rfl, by omega, by omega, HRUN⟩
              case round =>
                obtain ⟨m, rfl, hm, hkk, HN⟩ := hrel
                have hm0 : (0 : Int) ≤ (m : Int) := by omega
                have hn2 : n2 ≤ 120 := by have := HWN.out.2; omega
                clear HRUN
                go_upto_region 35 with fail
                go_cut [120] (fun l wx => ∃ q : Bool, l = .bool q ∧ wr = wx ∧ Hid (q = true → m < n2))
                case first =>
                  by_cases hmW : m < n2
                  · have hmI : (m : Int) < (n2 : Int) := by omega
                    have hmd : decide ((m : Int) < (n2 : Int)) = true := decide_eq_true hmI
                    by_cases hms : (m : Int) < stop
                    · have hmd2 : decide ((m : Int) < stop) = true := decide_eq_true hms
                      go_wp2_with fail
                      go_meet
                      exact ⟨true, rfl, rfl, Lib.hid fun _ => hmW⟩
                    · have hmd2 : decide ((m : Int) < stop) = false := decide_eq_false hms
                      go_wp2_with fail
                      go_meet
                      exact ⟨false, rfl, rfl, Lib.hid fun h => by cases h⟩
                  · have hmI : ¬ (m : Int) < (n2 : Int) := by omega
                    have hmd : decide ((m : Int) < (n2 : Int)) = false := decide_eq_false hmI
                    go_wp2_with fail
                    go_meet
                    exact ⟨false, rfl, rfl, Lib.hid fun h => by cases h⟩
                case rest =>
                obtain ⟨q, rfl, rfl, HQ⟩ := hcut
                cases q
                · obtain ⟨ps, HRn⟩ := HN.out
                  have HR0 := Lib.hid HRn
                  have hps : ps.length = n3 := by rw [HRn.len, HSL.out]
                  have htot : sumN ps ≤ 200 := by rw [HRn.sum, HSL.out]; omega
                  have HPS := Lib.hid (And.intro hps htot)
                  clear HN HRn HQ hps htot
                  obtain ⟨wx, rfl⟩ : ∃ wx, wx = wr := ⟨_, rfl⟩
                  go_wp2_with fail
                  go_loopg [22, 23] n3 (fun kk va vi wr2 => ∃ (j A : Nat), vi = .int .i64 j ∧ va = .int .i64 (A : Int) ∧ j ≤ n3 ∧ n3 - j ≤ kk ∧ A ≤ 200 ∧ Hid (A = sumN (ps.take j)) ∧ wx = wr2)
                  case atStart => exact ⟨0, 0, rfl, rfl, by omega, by omega, by omega, Lib.hid rfl, rfl⟩
                  case round =>
                    obtain ⟨j, A, rfl, rfl, hj, hkk2, hA, HAS, rfl⟩ := hrel
                    have hj0 : (0 : Int) ≤ (j : Int) := by omega
                    by_cases hjI : j < n3
                    · have hjI' : (j : Int) < (n3 : Int) := by omega
                      have hjd : decide ((j : Int) < (n3 : Int)) = true := decide_eq_true hjI'
                      obtain ⟨y, hy⟩ : ∃ y, ss[j]? = some y := ⟨ss[j]'(by have := HSL.out; omega), List.getElem?_eq_getElem _⟩
                      obtain ⟨z, hz, hcz⟩ := HR0.out.asked hy
                      obtain ⟨gt, rfl⟩ : ∃ gt, a3 = some ⟨gt, 0, none⟩ := by
                        rcases HR0.out.rowT.blk with ⟨e, e2⟩ | ⟨gx, cx2, cur, e, -⟩
                        · have := HSL.out; rw [e2] at this; simp at this; omega
                        · simp only [Value.slice.injEq] at e; exact ⟨gx, e.1⟩
                      have hcy : wx.cell? ⟨gt, j, none⟩ = some (.pointer (some ⟨y.sb, 0, none⟩)) := by
                        have := HR0.out.rowT.cell encT_len j 0 y hy (by omega)
                        rwa [Nat.mul_one, Nat.add_zero] at this
                      have hAN : A + z.N ≤ 200 := by
                        have h1 := sumN_take hz
                        have h2 := sumN_le (ps := ps) (j + 1)
                        have := HAS.out
                        have := HPS.out.2
                        omega
                      have HAS2 : Hid (A + z.N = sumN (ps.take (j + 1))) := Lib.hid (by rw [sumN_take hz, HAS.out])
                      generalize z.N = zN at hcz hAN HAS2
                      generalize y.sb = yb at hcz hcy
                      have hwA : IntKind.i64.wrap ((A : Int) + (zN : Int)) = ((A + zN : Nat) : Int) := (IntWalk.i64_in _ (by omega)).trans (by omega)
                      clear hy hz HAS
                      go_wp2_with fail
                      go_roundg (n3 - (j + 1))
                      case measure => omega
                      case rel => exact ⟨j + 1, A + zN, by go_num, by first | rfl | go_num, by omega, Nat.le_refl _, hAN, HAS2, rfl⟩
                    · obtain rfl : j = n3 := by omega
                      have hnI : ¬ (j : Int) < (j : Int) := by omega
                      have hjd : decide ((j : Int) < (j : Int)) = false := decide_eq_false hnI
                      have hAe : A = j + m := by
                        rw [HAS.out, List.take_of_length_le (by rw [HPS.out.1]; exact Nat.le_refl _), HR0.out.sum, HSL.out]
                      have hwS : IntKind.i64.wrap ((j : Int) + (m : Int)) = ((j + m : Nat) : Int) := (IntWalk.i64_in _ (by omega)).trans (by omega)
                      subst hAe
                      have hne : (((j + m : Nat) : Int) != ((j + m : Nat) : Int)) = false := by simp
                      have HBX := Lib.hid (HW7.out.trans (HR0.out.mg.base.mono HW7.out.size))
                      by_cases hmW : m = n2
                      · have hme : ((m : Int) == (n2 : Int)) = true := by rw [hmW]; simp
                        have hmE : (m : Int) = (n2 : Int) := by omega
                        have HNx := Lib.hid (mgNext_any HR0.out.mg (by rw [HPS.out.1]; omega))
                        have HOV : Hid (∀ e w', NextTo w7 mb ps wx e w' → e = .returned (nxV none) ∧ UpdT mS w7.heap.size wx w') := Lib.hid fun e w' k => HR0.out.over (by rw [hmW, HWN.out.2.2]) k
                        clear hj hkk2 hjI hnI
                        go_wp2_with fail
                        refine HNx.out.mono ?_
                        rintro e w9 hnext
                        obtain ⟨rfl, hu⟩ := HOV.out _ _ hnext
                        have hb9 := below_upd HBX.out hu HW7.out.size (Nat.le_refl _)
                        have HB9 := Lib.hid (hb9.trans ((Below.refl w9.heap.size w9).alloc (Nat.le_refl _) (.cells zE 28) |>.mono hb9.size))
                        have hx : nxV none = .tuple #[.agg #[.string ⟨#[]⟩, .int .i64 0, .int .i64 0, .string ⟨#[]⟩, .string ⟨#[]⟩], .bool false] := rfl
                        rw [hx]
                        clear hnext hu hb9 HNx HOV hx
                        go_wp2_with fail
                        go_ret
                        exact ⟨rfl, HB9.out⟩
                      · have hme : ((m : Int) == (n2 : Int)) = false := by rw [beq_eq_false_iff_ne]; omega
                        have hmE : ¬ (m : Int) = (n2 : Int) := by omega
                        clear hj hkk2 hjI hnI
                        go_wp2_with fail
                        go_ret
                        exact ⟨rfl, HBX.out⟩
                · have hmW := HQ.out rfl
                  clear HQ
                  obtain ⟨ps, HRn⟩ := HN.out
                  obtain ⟨x, hx⟩ : ∃ x, want[m]? = some x := ⟨want[m]'(by have := HWN.out.2.2; omega), List.getElem?_eq_getElem _⟩
                  have HNx := Lib.hid (mgNext_any HRn.mg (by rw [HRn.len, HSL.out]; omega))
                  have HR0 := Lib.hid HRn
                  have HX := Lib.hid hx
                  clear HN HRn hx
                  go_wp2_with fail
                  refine HNx.out.mono ?_
                  rintro e w9 hnext
                  obtain ⟨rfl, ps2, HR9⟩ := HR0.out.next HX.out hnext
                  have hnx : nxV (some x) = .tuple #[.agg #[.string x.norm, .int .i64 x.seq, .int .i64 x.kind, .string x.spell, .string x.val], .bool true] := rfl
                  obtain ⟨eb, heb⟩ : ∃ eb, w9.heap.size = eb := ⟨_, rfl⟩
                  obtain ⟨w10, hw10⟩ : ∃ w10, w9.alloc (.cells #[.string x.norm, .int .i64 x.seq, .int .i64 x.kind, .string x.spell, .string x.val] 28) = w10 := ⟨_, rfl⟩
                  have u10 : Below w9.heap.size w9 w10 := by rw [← hw10]; exact (Below.refl _ _).alloc (Nat.le_refl _) _
                  have HEB : BlkAt w10 eb #[.string x.norm, .int .i64 x.seq, .int .i64 x.kind, .string x.spell, .string x.val] 28 := by rw [← hw10, ← heb]; exact BlkAt.new _ _ _
                  have HRW := HR9.below u10
                  obtain ⟨gw, rfl⟩ : ∃ gw, ao2 = some ⟨gw, 0, none⟩ := by
                    rcases HRW.rowW.blk with ⟨e, e2⟩ | ⟨gx, cx2, cur, e, -⟩
                    · have := HWN.out.2.2; rw [e2] at this; simp at this; omega
                    · simp only [Value.slice.injEq] at e; exact ⟨gx, e.1⟩
                  have HC : Hid (∀ W, Calls Try.prog 13 #[.agg #[.string x.norm, .int .i64 x.seq, .int .i64 x.kind, .string x.spell, .string x.val], .agg #[.string x.norm, .int .i64 x.seq, .int .i64 x.kind, .string x.spell, .string x.val]] W fun e w' => e = .returned (.bool true) ∧ Below W.heap.size W w') := Lib.hid fun W => by
                    have := req_any x x W
                    rwa [eqB_self] at this
                  have B : Below w10.heap.size w10 w10 := Below.refl _ _
                  have hmI : (m : Int) < (n2 : Int) := by omega
                  rw [hnx]
                  clear hnext HR9 u10 HNx HR0
                  go_wp2_with fail
                  refine wp_region_held_drew (S := Below w10.heap.size w10) (by kernel_rfl) (Below.refl _ _).drew (fun hHeld => ?_)
                  generalize w10.drew = wd2 at hHeld ⊢
                  refine wpAnyH_shift hHeld ?_
                  replace B : Below w10.heap.size w10 wd2 := B.trans (hHeld.mono B.size)
                  replace HRW := HRW.below hHeld
                  replace HEB := HEB.below hHeld
                  clear hHeld
                  refine takeYes (i := 0) (k := 126) (v := .bool true) rfl (by kernel_rfl) (by kernel_rfl) (by kernel_rfl) (by kernel_rfl) (fun _ _ _ h => h) (by kernel_rfl) ?_ (Below.refl _ _) ?_
                  · intro W hSw; first | (go_simp; done) | go_simp
                  try simp only [Act.put, List.setIfInBounds_toArray, List.set_cons_zero, List.set_cons_succ]
                  refine takeYes (i := 1) (k := 127) (v := .bool false) rfl (by kernel_rfl) (by kernel_rfl) (by kernel_rfl) (by kernel_rfl) (fun _ _ _ h => h) (by kernel_rfl) ?_ (Below.refl _ _) ?_
                  · intro W hSw; first | (go_simp; done) | go_simp
                  try simp only [Act.put, List.setIfInBounds_toArray, List.set_cons_zero, List.set_cons_succ]
                  refine takeYes (i := 2) (k := 128) (v := .bool false) rfl (by kernel_rfl) (by kernel_rfl) (by kernel_rfl) (by kernel_rfl) (fun _ _ _ h => h) (by kernel_rfl) ?_ (Below.refl _ _) ?_
                  · intro W hSw; first | (go_simp; done) | go_simp
                  try simp only [Act.put, List.setIfInBounds_toArray, List.set_cons_zero, List.set_cons_succ]
                  refine takeYes (i := 3) (k := 129) (v := .agg #[.string x.norm, .int .i64 x.seq, .int .i64 x.kind, .string x.spell, .string x.val]) rfl (by kernel_rfl) (by kernel_rfl) (by kernel_rfl) (by kernel_rfl) (fun _ _ _ h => h) (by kernel_rfl) ?_ (Below.refl _ _) ?_
                  · intro W hSw; obtain ⟨d0, d1, d2, d3, d4⟩ := (HEB.below hSw).five; first | (go_simp; done) | go_simp
                  try simp only [Act.put, List.setIfInBounds_toArray, List.set_cons_zero, List.set_cons_succ]
                  refine takeYes (i := 4) (k := 130) (v := .slice (some ⟨gw, 0, none⟩) n2 c2) rfl (by kernel_rfl) (by kernel_rfl) (by kernel_rfl) (by kernel_rfl) (fun _ _ _ h => h) (by kernel_rfl) ?_ (Below.refl _ _) ?_
                  · intro W hSw; first | (go_simp; done) | go_simp
                  try simp only [Act.put, List.setIfInBounds_toArray, List.set_cons_zero, List.set_cons_succ]
                  refine takeYes (i := 5) (k := 131) (v := .int .i64 (m : Int)) rfl (by kernel_rfl) (by kernel_rfl) (by kernel_rfl) (by kernel_rfl) (fun _ _ _ h => h) (by kernel_rfl) ?_ (Below.refl _ _) ?_
                  · intro W hSw; first | (go_simp; done) | go_simp
                  try simp only [Act.put, List.setIfInBounds_toArray, List.set_cons_zero, List.set_cons_succ]
                  refine takeYes (i := 6) (k := 132) (v := .pointer (some ⟨gw, m * 5, none⟩)) rfl (by kernel_rfl) (by kernel_rfl) (by kernel_rfl) (by kernel_rfl) (fun _ _ _ h => h) (by kernel_rfl) ?_ (Below.refl _ _) ?_
                  · intro W hSw; first | (go_simp; done) | go_simp
                  try simp only [Act.put, List.setIfInBounds_toArray, List.set_cons_zero, List.set_cons_succ]
                  refine takeYes (i := 7) (k := 133) (v := .agg #[.string x.norm, .int .i64 x.seq, .int .i64 x.kind, .string x.spell, .string x.val]) rfl (by kernel_rfl) (by kernel_rfl) (by kernel_rfl) (by kernel_rfl) (fun _ _ _ h => h) (by kernel_rfl) ?_ (Below.refl _ _) ?_
                  · intro W hSw; obtain ⟨d0, d1, d2, d3, d4⟩ := (HRW.rowW.below hSw).five HX.out; first | (go_simp; done) | go_simp
                  try simp only [Act.put, List.setIfInBounds_toArray, List.set_cons_zero, List.set_cons_succ]
                  refine wpAnyH_ready (rs := [8]) (by kernel_rfl) (by simp) (AllReadyH.cons rfl (fun K hK => ?_) AllReadyH.nil)
                  go_simp
                  refine (HC.out wd2).mono ?_
                  rintro e wd3 ⟨rfl, hb3⟩
                  refine hK.out _ _ hb3 (fun _ => wpAnyH_shift hb3 ?_)
                  clear hK K
                  replace B : Below w10.heap.size w10 wd3 := B.trans (hb3.mono B.size)
                  replace HRW := HRW.below hb3
                  replace HEB := HEB.below hb3
                  clear hb3
                  try simp only [Act.put, List.setIfInBounds_toArray, List.set_cons_zero, List.set_cons_succ]
                  refine takeYes (i := 9) (k := 135) (v := .bool false) rfl (by kernel_rfl) (by kernel_rfl) (by kernel_rfl) (by kernel_rfl) (fun _ _ _ h => h) (by kernel_rfl) ?_ (Below.refl _ _) ?_
                  · intro W hSw; first | (go_simp; done) | go_simp
                  try simp only [Act.put, List.setIfInBounds_toArray, List.set_cons_zero, List.set_cons_succ]
                  refine takeYes (i := 10) (k := 136) (v := .bool false) rfl (by kernel_rfl) (by kernel_rfl) (by kernel_rfl) (by kernel_rfl) (fun _ _ _ h => h) (by kernel_rfl) ?_ (Below.refl _ _) ?_
                  · intro W hSw; first | (go_simp; done) | go_simp
                  try simp only [Act.put, List.setIfInBounds_toArray, List.set_cons_zero, List.set_cons_succ]
                  refine wpAnyH_done (by kernel_rfl) ?_ _
                  have HN2 : Hid (∃ ps, RunW w7 mb ss ps (.slice a3 n3 c3) (.slice (some ⟨gw, 0, none⟩) n2 c2) want (m + 1) wd3) := Lib.hid ⟨ps2, HRW⟩
                  clear HRW HEB HC B
                  go_wp2_with fail
                  go_roundg (n2 - (m + 1))
                  case measure => omega
                  case rel => exact ⟨m + 1, by go_num, by omega, Nat.le_refl _, HN2⟩
    · obtain ⟨hiL, hi8'⟩ := of_decide_eq_true HQ.out.symm
      clear HQ
      have hiI : (i : Int) < (len : Int) := by omega
      obtain ⟨gl, hgl⟩ : ∃ gl, gs[i]? = some gl := ⟨gs[i]'(by have := HLEN.out; omega), List.getElem?_eq_getElem _⟩
      obtain ⟨g, off, u, e, hg, hcell0, hu⟩ := HR.out.at i gl hgl
      obtain rfl := e
      have hcell := (HN.out.1.cell (p := ⟨g, off + i, none⟩) hg).trans hcell0
      obtain ⟨au, cu, rfl, -⟩ := hu.len
      have HCA := Lib.hid (cutallN_any 15 (by omega) _ gl (fun e he => HOK.out gl (List.mem_of_getElem? hgl) e he) wr (hu.below (HN.out.1.mono (Nat.le_refl _))))
      generalize gl.length = lg at hcell HCA
      clear hcell0 hu hgl
      go_wp2_with fail
      refine HCA.out.mono ?_
      rintro e w2 ⟨vx, xs, rfl, ho, hco, hxl, hb2⟩
      obtain ⟨ax, cx, rfl, -, -⟩ := ho.kform
      obtain ⟨X, hX⟩ : ∃ X, xs.length = X := ⟨_, rfl⟩
      have HXS := Lib.hid ho
      have HXL := Lib.hid hX
      have hX15 : X ≤ 15 := by omega
      rw [hX] at HXS ⊢
      have HB2 := Lib.hid (HN.out.1.trans (hb2.mono HN.out.1.size))
      have HI2 : Hid (∃ ins, InsW w w2 (.slice ao n c) ins ∧ ins.length = i) := Lib.hid (by
        obtain ⟨ins, h1, h2⟩ := HN.out.2
        exact ⟨ins, ⟨h1.1.below hb2, h1.2⟩, h2⟩)
      clear HCA HN ho hco hxl hb2 hX hcell
      go_wp2_with fail
      go_loopg [9, 11] X (fun kk vl vk wr2 => ∃ (k n2 c2 : Nat) (ao2 : Option Addr), vk = .int .i64 k ∧ vl = .slice ao2 n2 c2 ∧ k ≤ X ∧ X - k ≤ kk ∧ Hid (Below w2.heap.size w2 wr2 ∧ OwnK encEnt 5 28 w.heap.size wr2 (.slice ao2 n2 c2) (mrgL (xs.take k))))
      case atStart => exact ⟨0, 0, 0, none, rfl, rfl, by omega, by omega, Lib.hid ⟨Below.refl _ _, OwnK.nil _ _ _ _ _⟩⟩
      case round =>
        obtain ⟨k, n2, c2, ao2, rfl, rfl, hk, hkk2, HL⟩ := hrel
        have hk0 : (0 : Int) ≤ (k : Int) := by omega
        by_cases hkX : k < X
        · have hkI : (k : Int) < (X : Int) := by omega
          have hkd : decide ((k : Int) < (X : Int)) = true := decide_eq_true hkI
          obtain ⟨x, hx⟩ : ∃ x, xs[k]? = some x := ⟨xs[k]'(by have := HXL.out; omega), List.getElem?_eq_getElem _⟩
          obtain ⟨gx, rfl⟩ : ∃ gx, ax = some ⟨gx, 0, none⟩ := by
            rcases HXS.out.blk with ⟨e, e2⟩ | ⟨gx, cx2, cur, e, -⟩
            · have := HXL.out; rw [e2] at this; simp at this; omega
            · simp only [Value.slice.injEq] at e; exact ⟨gx, e.1⟩
          obtain ⟨d0, d1, d2, d3, d4⟩ := (HXS.out.below HL.out.1).five hx
          have hn2 : n2 = (mrgL (xs.take k)).length := by
            obtain ⟨a', c', e, -⟩ := HL.out.2.kform
            simp only [Value.slice.injEq] at e; exact e.2.1
          have HIN : Hid (Calls Try.prog 8 #[.slice ao2 n2 c2, .agg #[.string x.norm, .int .i64 x.seq, .int .i64 x.kind, .string x.spell, .string x.val]] wr (IntoRes (mrgL (xs.take (k + 1))) wr)) := Lib.hid (by
            rw [mrgL_take hx]
            obtain ⟨a', c', e, h1, h2⟩ := HL.out.2.kform
            simp only [Value.slice.injEq] at e
            exact into_any ao2 n2 c2 _ (by rw [mrgL_len, List.length_take]; omega) (by omega) (by omega) x _ (HL.out.2.rd encEnt_len))
          have HL1 := Lib.hid HL.out.1
          have hBr : w.heap.size ≤ wr.heap.size := Nat.le_trans HB2.out.size HL.out.1.size
          clear HL hn2 hx
          go_wp2_with fail
          refine HIN.out.mono ?_
          rintro e w4 ⟨v4, rfl, o4, b4⟩
          obtain ⟨a4, c4, rfl, -, -⟩ := o4.kform
          have HL2 : Hid (Below w2.heap.size w2 w4 ∧ OwnK encEnt 5 28 w.heap.size w4 (.slice a4 (mrgL (xs.take (k + 1))).length c4) (mrgL (xs.take (k + 1)))) := Lib.hid ⟨HL1.out.trans (b4.mono HL1.out.size), o4.base hBr⟩
          generalize (mrgL (xs.take (k + 1))).length = n4 at HL2 ⊢
          clear HIN o4 b4 d0 d1 d2 d3 d4 HL1
          go_wp2_with fail
          go_roundg (X - (k + 1))
          case measure => omega
          case rel => exact ⟨k + 1, n4, c4, a4, by go_num, rfl, by omega, Nat.le_refl _, HL2⟩
        · obtain rfl : k = X := by omega
          have hnI : ¬ (k : Int) < (k : Int) := by omega
          have hkd : decide ((k : Int) < (k : Int)) = false := decide_eq_false hnI
          obtain ⟨ins, hI, hIl⟩ := HI2.out
          have HW := Lib.hid (HB2.out.trans (HL.out.1.mono HB2.out.size))
          have HU : Hid (OwnK encEnt 5 28 w.heap.size wr (.slice ao2 n2 c2) (mrgL xs)) := Lib.hid (by
            have := HL.out.2
            rwa [List.take_of_length_le (by rw [HXL.out]; exact Nat.le_refl _)] at this)
          have HLs := Lib.hid (hI.1.below HL.out.1)
          have HI3 := Lib.hid (And.intro hI.2 hIl)
          clear HL hI hIl HI2 HB2
          go_wp2_with (at_builtin; refine wp_appL elemK_ll (by decide) _ _ (by rfl) (by rfl) (by rfl) HLs.out HU.out (fun _ _ h => h) (fun _ h => h.elim) _ (by rfl) (by rfl) ?c1 (by omega) HW.out.size ?_)
          case c1 => have := HI3.out.2; omega
          intro v5 w5 o5 b5 u5
          obtain ⟨a5, c5, rfl, -, -⟩ := o5.form
          have HN2 : Hid (Below w.heap.size w w5 ∧ ∃ ins', InsW w w5 (.slice a5 (ins ++ [mrgL xs]).length c5) ins' ∧ ins'.length = i + 1) := Lib.hid ⟨HW.out.trans b5, _, ⟨o5, fun l hl => by
            rcases List.mem_append.1 hl with hl | hl
            · exact HI3.out.1 l hl
            · rw [List.mem_singleton.1 hl]; exact ⟨mrgL_srt _, by rw [mrgL_len, HXL.out]; exact hX15⟩⟩, by simp [HI3.out.2]⟩
          generalize (ins ++ [mrgL xs]).length = n5 at HN2 ⊢
          clear o5 b5 u5 HLs HU HW HI3 HXS
          go_wp2_with fail
          go_roundg (8 - (i + 1))
          case measure => omega
          case rel => exact ⟨i + 1, n5, c5, a5, by go_num, rfl, by omega, by omega, Nat.le_refl _, HN2⟩
end Go.Proofs.Ytmndhmodcglkjaa
