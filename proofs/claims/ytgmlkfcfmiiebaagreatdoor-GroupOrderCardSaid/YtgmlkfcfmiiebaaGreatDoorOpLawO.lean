/- The walk of the law GroupOrder. -/
import Derived.Test.YtgmlkfcfmiiebaaGreatDoorMOp
import Derived.Test.YtgmlkfcfmiiebaaGreatDoorMKey
import Derived.Test.YtgmlkfcfmiiebaaGreatDoorMBase
import Derived.Deep.QuietTactic
import Derived.BigQuiet
namespace Go.Proofs.YtgmlkfcfmiiebaaGreatDoor
set_option linter.unusedVariables false
open Go.RowKit
theorem RdK.atJ {α : Type} {enc : α → List Value} {k : Nat} {w : World} {a : Option Addr} {len cap : Nat} {xs : List α} (h : RdK enc k w (.slice a len cap) xs) (q : Nat) (x : α) (hx : xs[q]? = some x) :
    ∃ b off, a = some ⟨b, off, none⟩ ∧ b < w.heap.size ∧ ∀ j, j < k → w.cell? ⟨b, off + q * k + j, none⟩ = some ((enc x).getD j undef) := by
  rcases h with ⟨_, _, _, rfl⟩ | ⟨b, off, c, e, h1, h2, h3, h4, h5⟩
  · simp at hx
  · simp only [Value.slice.injEq] at e
    exact ⟨b, off, e.1, h4, fun j hj => h5 q j x hx hj⟩
theorem OwnK.lenE {w : World} {B : Nat} {v : Value} {ys : List Ent} (h : OwnK encEnt 5 33 B w v ys) : ∃ a len cap, v = .slice a len cap ∧ len = ys.length ∧ len ≤ cap ∧ cap ≤ maxLen := by
  rcases h.blk with ⟨rfl, rfl⟩ | ⟨g, cap, cur, e1, e2, e3, e4, e5, e6, -⟩
  · exact ⟨none, 0, 0, rfl, rfl, Nat.le_refl _, by unfold maxLen; omega⟩
  · exact ⟨_, _, cap, e1, rfl, e5, e6⟩
/-- What the law's changes are. -/
def GoodO (o : Opn) : Prop := opErr o = 0 ∧ o.sp.size ≤ 40 ∧ o.val.size = 0
theorem good_of {t : ByteArray} {kd : Int} {A : List UInt8} (hk : kd = 0 ∨ kd = 1) (ht : t.size ≤ 40) (hA : keyP t.data.toList = some A) : GoodO ⟨kd, t, ⟨#[]⟩⟩ := by
  refine ⟨?_, ht, rfl⟩
  unfold opErr
  rw [if_neg, if_neg, if_neg]
  · show ¬ 1048576 < 0
    omega
  · show ¬ keyP t.data.toList = none
    rw [hA]; simp
  · rintro ⟨h1, h2⟩
    rcases hk with rfl | rfl
    · rcases h2 with h2 | h2
      · exact h2 rfl
      · exact absurd h2 (by show ¬ 0 < 0; omega)
    · exact h1 rfl
set_option maxHeartbeats 8000000 in
set_option maxRecDepth 100000 in
theorem groupOrder_walk (w : World) (hE : ErrAt w) (hSp : SpAt w) (s : Int) (hs : (Lit.int .i64 s).wf = true) (a : Option Addr) (len cap : Nat) (z : List ByteArray) (hz : RdV w (.slice a len cap) (z.map Value.string)) (hzs : ∀ t ∈ z, t.size ≤ maxLen) :
    Calls Tryz.prog 3 #[.int .i64 s, .slice a len cap] w fun e w' => e = .returned (.bool true) ∧ Below w.heap.size w w' := by
  have HBG := Lib.hid (obegun_any w hE hSp)
  have HES : Hid (∀ w', Below w.heap.size w w' → ErrAt w' ∧ SpAt w') := Lib.hid fun w' hb => ⟨hE.below hb, hSp.below hb hSp.1⟩
  have HZ := Lib.hid hz
  have HZS := Lib.hid hzs
  have HLEN := Lib.hid (rdV_len hz).1
  clear hE hSp hz hzs hs
  go_enter Tryz.func3, Tryz.ntmps3
  go_wp2_with fail
  refine HBG.out.mono ?_
  rintro e w1 ⟨rfl, b1⟩
  have HB1 := Lib.hid b1
  clear b1 HBG
  by_cases hs1 : s < 1
  · go_wp2_with fail
    go_ret
    exact ⟨rfl, HB1.out⟩
  by_cases hs2 : 1099511627776 < s
  · go_wp2_with fail
    go_ret
    exact ⟨rfl, HB1.out⟩
  have hs3 : 1 ≤ s ∧ s ≤ 1099511627776 := by omega
  obtain ⟨hs4, hs5⟩ := hs3
  clear hs1 hs2
  go_upto_block 0 with fail
  go_cut [6] (fun vo wx => ∃ (n c : Nat) (ao : Option Addr) (ops : List Opn), vo = .slice ao n c ∧ n ≤ 50 ∧ n = ops.length ∧ Hid (∀ o ∈ ops, GoodO o) ∧ Hid (OwnK encOp 3 29 w.heap.size wx (.slice ao n c) ops) ∧ Hid (Below w.heap.size w wx))
  case first =>
   go_wp2_with fail
   go_loopg [6, 7] len (fun kk vo vi wr => ∃ (i n c : Nat) (ao : Option Addr) (ops : List Opn), vo = .slice ao n c ∧ vi = .int .i64 i ∧ i ≤ len ∧ i ≤ 50 ∧ len - i ≤ kk ∧ n = ops.length ∧ n ≤ i ∧ Hid (∀ o ∈ ops, GoodO o) ∧
     Hid (OwnK encOp 3 29 w.heap.size wr (.slice ao n c) ops) ∧ Hid (Below w.heap.size w wr))
   case atStart => exact ⟨0, 0, 0, none, [], rfl, rfl, by omega, by omega, by omega, rfl, by omega, Lib.hid (by simp), Lib.hid (OwnK.nil _ _ _ _ _), HB1⟩
   case round =>
     clear HB1
     obtain ⟨i, n, c, ao, ops, rfl, rfl, hi, hi50, hik, hn, hni, HG, HO, HB⟩ := hrel
     have HNL := Lib.hid hn
     clear hn
     have hi0 : (0 : Int) ≤ (i : Int) := by omega
     by_cases h1 : i < len
     · have hd1 : decide (i < len) = true := decide_eq_true h1
       by_cases h2 : i < 50
       · have h2i : (i : Int) < 50 := by omega
         have hil : (i : Int) < (len : Int) := by omega
         obtain ⟨t, ht⟩ : ∃ t, z[i]? = some t := ⟨z[i]'(by have := HLEN.out; rw [List.length_map] at this; omega), List.getElem?_eq_getElem _⟩
         have htm := HZS.out t (List.mem_of_getElem? ht)
         obtain ⟨g, off, rfl, hg, hgc⟩ := rdV_cells (RdV.below HZ.out HB.out) (by have := HLEN.out; omega)
         have hc0 := hgc i (by have := HLEN.out; omega)
         rw [List.getD_eq_getElem?_getD, List.getElem?_map, ht] at hc0
         have hc1 : wr.cell? ⟨g, off + i, none⟩ = some (.string t) := hc0
         have HC := Lib.hid (cut_any t 40 (by omega) htm wr)
         have hlc : len ≤ cap := ((rdV_len HZ.out).2 (by omega)).2
         clear hc0 hgc ht htm
         go_wp2_with fail
         refine HC.out.mono ?_
         rintro e w' ⟨u, rfl, hu, rfl⟩
         have HK := Lib.hid (rkey_any u (by unfold maxLen; omega) wr)
         clear HC hc1
         cases hk : keyP u.data.toList with
         | none =>
           rw [hk] at HK
           clear hk
           unfold TextRes at HK
           go_wp2_with fail
           refine HK.out.mono ?_
           rintro e w2 ⟨rfl, hb⟩
           have HO2 := Lib.hid (HO.out.below hb)
           have HB2 := Lib.hid (HB.out.trans (hb.mono HB.out.size))
           clear hb HO HB HK
           go_wp2_with fail
           go_roundg (len - (i + 1))
           case measure => omega
           case rel => exact ⟨i + 1, n, c, ao, ops, rfl, by go_num, by omega, by omega, Nat.le_refl _, HNL.out, by omega, HG, HO2, HB2⟩
         | some A =>
           rw [hk] at HK
           have HKA := Lib.hid hk
           clear hk
           unfold TextRes at HK
           go_wp2_with fail
           refine HK.out.mono ?_
           rintro e w2 ⟨rfl, hb⟩
           have HO2 := Lib.hid (HO.out.below hb)
           have HB2 := Lib.hid (HB.out.trans (hb.mono HB.out.size))
           clear hb HO HB HK
           go_wp2_with (at_builtin; refine wp_appHK elem_op encOp_len _ _ (by rfl) (by rfl) (by rfl) HO2.out ⟨(i : Int) % 2, u, ⟨#[]⟩⟩ _ (by rfl) (by rfl) ?c1 ?c2 ?c3 HB2.out.size ?_)
           case c1 => exact op_cells _
           case c2 => have := HNL.out; omega
           case c3 => have := HNL.out; unfold maxLen; omega
           intro v3 w3 o3 b3
           obtain ⟨a3, n3, c3, rfl, hn3, -⟩ := o3.len3
           have HN3 := Lib.hid hn3
           have hn3b : n3 ≤ i + 1 := by rw [hn3, List.length_append]; have := HNL.out; simp; omega
           have HO3 := Lib.hid o3
           have HB3 := Lib.hid (HB2.out.trans b3)
           have HG3 : Hid (∀ o ∈ ops ++ [⟨(i : Int) % 2, u, ⟨#[]⟩⟩], GoodO o) := Lib.hid fun o ho => by
             rcases List.mem_append.1 ho with ho | ho
             · exact HG.out o ho
             · obtain rfl := List.mem_singleton.1 ho
               exact good_of (by omega) hu HKA.out
           clear o3 b3 HO2 HB2 hn3
           go_wp2_with fail
           go_roundg (len - (i + 1))
           case measure => omega
           case rel => exact ⟨i + 1, n3, c3, a3, _, rfl, by go_num, by omega, by omega, Nat.le_refl _, HN3.out, hn3b, HG3, HO3, HB3⟩
       · have h2i : ¬ (i : Int) < 50 := by omega
         go_wp2_with fail
         go_meet
         exact ⟨n, c, ao, ops, rfl, by omega, HNL.out, HG, HO, HB⟩
     · have hd1 : decide (i < len) = false := decide_eq_false h1
       go_wp2_with fail
       go_meet
       exact ⟨n, c, ao, ops, rfl, by omega, HNL.out, HG, HO, HB⟩
  case rest =>
  obtain ⟨n, c, ao, ops, rfl, hn50, hn, HG, HO, HB⟩ := hcut
  clear HB1 HZ HZS HLEN
  have HNL := Lib.hid hn
  clear hn
  have HEN := Lib.hid (entries_any s _ ops (fun o ho => by
    have := HG.out o ho
    constructor
    · have := this.2.1; unfold maxLen; omega
    · have := this.2.2; unfold maxLen; omega) (by have := HNL.out; omega) _ (HO.out.rd encOp_len) (HES.out _ HB.out).1 (HES.out _ HB.out).2)
  go_wp2_with fail
  refine HEN.out.mono ?_
  rintro e w2 ⟨u, rfl, ou, bu⟩
  obtain ⟨au, nu, cu, rfl, hnu, hcu, hcum⟩ := ou.lenE
  have HU2 := Lib.hid ou
  have HO2 := Lib.hid (HO.out.below bu)
  have HB2 := Lib.hid (HB.out.trans (bu.mono HB.out.size))
  clear ou bu HEN HO HB hcum
  by_cases hn0 : n = 0
  · have hnu0 : nu = 0 := by
      rw [hnu, entsP_no]
      · rfl
      · unfold checkP; rw [if_pos (by have := HNL.out; omega)]; decide
    have he1 : ((n : Int) == 0) = true := by simp; omega
    have he2 : ((nu : Int) == 0) = true := by simp; omega
    clear hnu hn0 hnu0
    go_wp2_with fail
    go_ret
    exact ⟨rfl, HB2.out⟩
  · have hchk : checkP ops = 0 := by
      unfold checkP
      rw [if_neg (show ¬ (ops.length < 1 ∨ 50 < ops.length) by have := HNL.out; omega)]
      exact firstErr_of fun o ho => (HG.out o ho).1
    have hent : entsP s ops = entsF s ops := if_pos hchk
    rw [hent] at HU2 hnu
    rw [entsF_len] at hnu
    obtain rfl : n = nu := by rw [hnu, HNL.out]
    have he1 : ((n : Int) == 0) = false := by simp; omega
    have he2 : ((n : Int) != (n : Int)) = false := by simp
    clear hnu hn0 hchk hent
    go_wp2_with fail
    go_loopg [12] n (fun kk vi wr => ∃ i : Nat, vi = .int .i64 i ∧ i ≤ n ∧ n - i ≤ kk ∧ Hid (OwnK encOp 3 29 w.heap.size wr (.slice ao n c) ops) ∧ Hid (OwnK encEnt 5 33 wc.heap.size wr (.slice au n cu) (entsF s ops)) ∧ Hid (Below w.heap.size w wr))
    case atStart => exact ⟨0, by go_num, by omega, by omega, HO2, HU2, HB2⟩
    case round =>
      clear HO2 HU2 HB2
      obtain ⟨i, rfl, hi, hik, HO, HU, HB⟩ := hrel
      by_cases h1 : i < n
      · have hd1 : decide (i < n) = true := decide_eq_true h1
        obtain ⟨x, hx⟩ : ∃ x, ops[i]? = some x := ⟨ops[i]'(by have := HNL.out; omega), List.getElem?_eq_getElem _⟩
        obtain ⟨hxe, hx40, hxv⟩ := HG.out x (List.mem_of_getElem? hx)
        obtain ⟨A, hA⟩ := opErr_key hxe
        have hxE := entsF_at s ops i x hx
        have HF : Hid (formP x.sp = ⟨A.toArray⟩) := Lib.hid (by unfold formP; rw [hA]; rfl)
        have HXO := Lib.hid hx
        have HXE := Lib.hid hxE
        obtain ⟨b1, o1, rfl, hb1, hbc⟩ := (HO.out.rd encOp_len).atJ i x hx
        have d1 : wr.cell? ⟨b1, o1 + i * 3 + 1, none⟩ = some (.string x.sp) := hbc 1 (by decide)
        have HK := Lib.hid (rkey_any x.sp (by unfold maxLen; omega) wr)
        rw [hA] at HK
        have hcn : n ≤ c := by
          obtain ⟨_, _, _, e, e1, e2, -⟩ := HO.out.len3
          simp only [Value.slice.injEq] at e
          omega
        unfold TextRes at HK
        clear hx hxe hx40 hxv hA hxE hbc
        go_wp2_with fail
        refine HK.out.mono ?_
        rintro e w3 ⟨rfl, hb⟩
        have HO3 := Lib.hid (HO.out.below hb)
        have HU3 := Lib.hid (HU.out.below hb)
        have HB3 := Lib.hid (HB.out.trans (hb.mono HB.out.size))
        clear hb HK d1 HO HU HB hb1
        obtain ⟨b1', o1', e1, hb1, hbc⟩ := (HO3.out.rd encOp_len).atJ i x HXO.out
        simp only [Option.some.injEq, Addr.mk.injEq, and_true] at e1
        obtain ⟨rfl, rfl⟩ := e1
        obtain ⟨b2, o2, rfl, hb2, hec⟩ := (HU3.out.rd encEnt_len).atJ i _ HXE.out
        have d0 : ∀ m, (w3.drewN m).cell? ⟨b1, o1 + i * 3, none⟩ = some (.int .i64 x.kind) := fun m => hbc 0 (by decide)
        have d1 : ∀ m, (w3.drewN m).cell? ⟨b1, o1 + i * 3 + 1, none⟩ = some (.string x.sp) := fun m => hbc 1 (by decide)
        have c0 : ∀ m, (w3.drewN m).cell? ⟨b2, o2 + i * 5, none⟩ = some (.string ⟨A.toArray⟩) := fun m => by
          have := hec 0 (by decide)
          rw [show (entO (s + (i : Int)) x) = ⟨formP x.sp, IntKind.i64.wrap (s + i), x.kind, x.sp, x.val⟩ from rfl, HF.out] at this
          exact this
        have c1 : ∀ m, (w3.drewN m).cell? ⟨b2, o2 + i * 5 + 1, none⟩ = some (.int .i64 (s + i)) := fun m => by
          have := hec 1 (by decide)
          rw [show (entO (s + (i : Int)) x) = ⟨formP x.sp, IntKind.i64.wrap (s + i), x.kind, x.sp, x.val⟩ from rfl, IntWalk.i64_in _ (by omega)] at this
          exact this
        have c2 : ∀ m, (w3.drewN m).cell? ⟨b2, o2 + i * 5 + 2, none⟩ = some (.int .i64 x.kind) := fun m => hec 2 (by decide)
        have c3 : ∀ m, (w3.drewN m).cell? ⟨b2, o2 + i * 5 + 3, none⟩ = some (.string x.sp) := fun m => hec 3 (by decide)
        have hw64 : IntKind.i64.wrap (s + (i : Int)) = s + i := IntWalk.i64_in _ (by omega)
        clear hbc hec
        obtain ⟨kd, sp, val⟩ := x
        simp only at d0 d1 c2 c3
        have hcn2 : n ≤ cu := hcu
        go_wp2_with fail
        go_quiet (fail)
        have HB4 : Hid (Below w.heap.size w (w3.drewN nq)) := Lib.hid (HB3.out.trans (DrN.below ⟨nq, rfl⟩ _))
        have HO4 : Hid (OwnK encOp 3 29 w.heap.size (w3.drewN nq) (.slice (some ⟨b1, o1, none⟩) n c) ops) := Lib.hid (HO3.out.below (DrN.below ⟨nq, rfl⟩ _))
        have HU4 : Hid (OwnK encEnt 5 33 wc.heap.size (w3.drewN nq) (.slice (some ⟨b2, o2, none⟩) n cu) (entsF s ops)) := Lib.hid (HU3.out.below (DrN.below ⟨nq, rfl⟩ _))
        clear c0 c1 c2 c3 d0 d1 HO3 HU3 HB3 hb1 hb2
        generalize w3.drewN nq = w4 at *
        go_wp2_with fail
        go_roundg (n - (i + 1))
        case measure => omega
        case rel => exact ⟨i + 1, by go_num, by omega, Nat.le_refl _, HO4, HU4, HB4⟩
      · have hd1 : decide (i < n) = false := decide_eq_false h1
        go_wp2_with fail
        go_ret
        exact ⟨rfl, HB.out⟩
end Go.Proofs.YtgmlkfcfmiiebaaGreatDoor
