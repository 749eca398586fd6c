/- The laws' Cut of a group: some changes, each short. -/
import Derived.Test.YtjhkfjbgdaomeaaGreatDoorMOp
import Derived.Test.YtjhkfjbgdaomeaaGreatDoorMBase
import Derived.StillTailTactics
import Derived.Deep.LoopGhost
namespace Go.Proofs.YtjhkfjbgdaomeaaGreatDoor
set_option linter.unusedVariables false
open Go.RowKit
/-- A short change. -/
def Opn.short (o : Opn) : Prop := o.sp.size ≤ 40 ∧ o.val.size ≤ 200
/-- What Cut answers: some changes, of the call's own. -/
def SomeO (n : Nat) (w : World) (e : Ending) (w' : World) : Prop := ∃ v xs, e = .returned v ∧ OwnK encOp 3 49 w.heap.size w' v xs ∧ xs.length ≤ n ∧ (∀ o ∈ xs, o.short) ∧ Below w.heap.size w w'
set_option maxHeartbeats 4000000 in
set_option maxRecDepth 100000 in
theorem ocut_any (n : Nat) (hn : n ≤ 1000) (v : Value) (xs : List Opn) (hok : ∀ e ∈ xs, e.ok) (w : World) (hrd : RdK encOp 3 w v xs) :
    Calls Tryz.prog 11 #[v, .int .i64 (n : Int)] w (SomeO n w) := by
  obtain ⟨a, len, cap, rfl, hlen⟩ := rdO_len hrd
  have HOK := Lib.hid hok
  have HRD := Lib.hid hrd
  have HN := Lib.hid hlen
  clear hrd hlen hok
  go_enter Tryz.func11, Tryz.ntmps11
  go_wp2_with fail
  go_loopg [5, 6] len (fun kk vo vi wr => ∃ (i : Nat) (ys : List Opn), vi = .int .i64 i ∧ i ≤ len ∧ i ≤ n ∧ len - i ≤ kk ∧ ys.length ≤ i ∧ Hid (∀ o ∈ ys, o.short) ∧ Hid (OwnK encOp 3 49 w.heap.size wr vo ys ∧ Below w.heap.size w wr))
  case atStart => exact ⟨0, [], rfl, by omega, by omega, by omega, by simp, Lib.hid (by simp), Lib.hid ⟨OwnK.nil _ _ _ _ _, Below.refl _ _⟩⟩
  case round =>
    obtain ⟨i, ys, rfl, hi, hi30, hik, hys, HSH, HO⟩ := hrel
    have hi0 : (0 : Int) ≤ (i : Int) := by omega
    by_cases h1 : i < len
    · have hd1 : decide (i < len) = true := decide_eq_true h1
      have hil : (i : Int) < (len : Int) := by omega
      by_cases h2 : i < n
      · have h2i : (i : Int) < (n : Int) := by omega
        have hd2 : decide (i < n) = true := decide_eq_true h2
        obtain ⟨x, hx⟩ : ∃ x, xs[i]? = some x := ⟨xs[i]'(by have := HN.out; omega), List.getElem?_eq_getElem _⟩
        obtain ⟨b, off, rfl, hblt, d0, d1, d2⟩ := (HRD.out.below HO.out.2).at3 i x hx
        obtain ⟨k1, k2⟩ := HOK.out x (List.mem_of_getElem? hx)
        obtain ⟨t1, n1, c1⟩ := cut_fix x.sp 40 (by omega) k1
        obtain ⟨t2, n2, c2⟩ := cut_fix x.val 200 (by omega) k2
        have C1 := Lib.hid c1
        have C2 := Lib.hid c2
        have HN12 : Hid (t1.size ≤ 40 ∧ t2.size ≤ 200) := Lib.hid ⟨n1, n2⟩
        obtain ⟨kind, sp, val⟩ := x
        simp only at d0 d1 d2 C1 C2
        clear hx k1 k2 c1 c2 n1 n2
        go_upto_region 6 with fail
        have HR1 : Hid (Row3 (wr.alloc (.cells #[.int .i64 kind, .string sp, .string val] 49)).drew wr.heap.size (.int .i64 kind) (.string sp) (.string val)) := Lib.hid (Row3.new wr _ _ _ _).drew
        have hal : Below wr.heap.size wr (wr.alloc (.cells #[.int .i64 kind, .string sp, .string val] 49)).drew := ((Below.refl _ wr).alloc (Nat.le_refl _) _).drew
        have HS : Hid (∀ (v1 v2 : Value), Below wr.heap.size wr (((wr.alloc (.cells #[.int .i64 kind, .string sp, .string val] 49)).drew.setCell ⟨wr.heap.size, 1, none⟩ v1).setCell ⟨wr.heap.size, 2, none⟩ v2)) := Lib.hid fun v1 v2 => (hal.setCell (p := ⟨wr.heap.size, 1, none⟩) (Nat.le_refl _) v1).setCell (p := ⟨wr.heap.size, 2, none⟩) (Nat.le_refl _) v2
        clear hal d0 d1 d2
        refine wp_region_still_tail 7 (by kernel_rfl) (by kernel_rfl) ?_
        change wpStill _ _ (World.drew _) (fun a => wpList _ _ _ _ a (World.drew _)) _ _
        simp only [List.take_succ_cons, List.take_zero, List.drop_succ_cons, List.drop_zero]
        generalize hg : wr.heap.size = g at HR1 HS ⊢
        generalize World.drew (wr.alloc _) = w3 at HR1 HS ⊢
        obtain ⟨⟨a0, a1, a2⟩, ⟨f0, f1, f2⟩, hs⟩ := HR1.out
        still_step
        still_step
        still_call (C1.out _)
        still_step
        still_step
        still_call (C2.out _)
        still_step
        refine wpStill_nil ?_
        have hb := HS.out (.string t1) (.string t2)
        have HB2 : Hid (Below w.heap.size w ((w3.setCell ⟨g, 1, none⟩ (.string t1)).setCell ⟨g, 2, none⟩ (.string t2))) := Lib.hid (HO.out.2.trans (hb.mono (by rw [← hg]; exact HO.out.2.size)))
        have HO2 : Hid (OwnK encOp 3 49 w.heap.size ((w3.setCell ⟨g, 1, none⟩ (.string t1)).setCell ⟨g, 2, none⟩ (.string t2)) u5 ys) := Lib.hid (HO.out.1.below (by rw [hg]; exact hb))
        clear hb HS HO hg
        go_wp2_with (at_builtin; refine wp_appHK elem_op encOp_len _ _ (by rfl) (by rfl) (by rfl) HO2.out ⟨kind, t1, t2⟩ _ (by rfl) (by simp) ?c1 ?c2 ?c3 ?c4 ?_)
        case c1 => exact op_cells _
        case c2 => omega
        case c3 => unfold maxLen; omega
        case c4 => exact HB2.out.size
        intro v' w' o' b'
        have HO' := Lib.hid (And.intro o' (HB2.out.trans b'))
        clear o' b' HO2 HB2
        go_wp2_with fail
        go_roundg (len - (i + 1))
        case measure => omega
        case rel =>
          refine ⟨i + 1, _, by go_num, by omega, by omega, Nat.le_refl _, by rw [List.length_append]; simp; omega, Lib.hid (fun o ho => ?_), HO'⟩
          rcases List.mem_append.1 ho with h | h
          · exact HSH.out o h
          · obtain rfl := List.mem_singleton.1 h
            exact HN12.out
      · have hd2 : decide (i < n) = false := decide_eq_false h2
        have h2i : ¬ (i : Int) < (n : Int) := by omega
        go_wp2_with fail
        go_ret
        exact ⟨_, _, rfl, HO.out.1, by omega, HSH.out, HO.out.2⟩
    · have hd1 : decide (i < len) = false := decide_eq_false h1
      have hil : ¬ (i : Int) < (len : Int) := by omega
      go_wp2_with fail
      go_ret
      exact ⟨_, _, rfl, HO.out.1, by omega, HSH.out, HO.out.2⟩
end Go.Proofs.YtjhkfjbgdaomeaaGreatDoor
