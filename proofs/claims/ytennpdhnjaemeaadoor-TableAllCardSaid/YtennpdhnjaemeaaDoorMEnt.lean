/- Entries: how they lie in cells, their order, and lists in order. -/
import Derived.Test.YtennpdhnjaemeaaDoorMBase
import Derived.StillTailTactics
import Derived.RegionTactic
import Derived.Deep.LoopGhost
import Derived.Deep.DeepCutAuto
import Derived.Deep.CutBlock
import Derived.Deep.QuietTactic
import Derived.BigQuiet
import Derived.Deep.Slices
import Derived.Deep.Fields
import Derived.ChangeSame
import Derived.Lib.SmallJoins
namespace Go.Proofs.YtennpdhnjaemeaaDoor
set_option linter.unusedVariables false
open Go.RowKit
structure Ent where
  norm : ByteArray
  seq : Int
  kind : Int
  spell : ByteArray
  val : ByteArray
def Ent.none : Ent := ⟨⟨#[]⟩, 0, 0, ⟨#[]⟩, ⟨#[]⟩⟩
def encEnt (e : Ent) : List Value := [.string e.norm, .int .i64 e.seq, .int .i64 e.kind, .string e.spell, .string e.val]
def Ent.v (e : Ent) : Value := .agg #[.string e.norm, .int .i64 e.seq, .int .i64 e.kind, .string e.spell, .string e.val]
theorem encEnt_len : EncK encEnt 5 := fun _ => rfl
theorem encEnt_one (l : List Ent) : ∀ u ∈ l.flatMap encEnt, u.oneCell' = true := by
  intro u hu
  obtain ⟨e, -, h⟩ := List.mem_flatMap.1 hu
  simp only [encEnt, List.mem_cons, List.not_mem_nil, or_false] at h
  rcases h with rfl | rfl | rfl | rfl | rfl <;> rfl
/-- By norm rising, then by number falling, then by kind falling. -/
def ltE (a b : Ent) : Prop := bl a.norm b.norm ∨ a.norm = b.norm ∧ (b.seq < a.seq ∨ a.seq = b.seq ∧ b.kind < a.kind)
instance (a b : Ent) : Decidable (ltE a b) := inferInstanceAs (Decidable (_ ∨ _))
theorem ltE_trans {a b c : Ent} (h : ltE a b) (k : ltE b c) : ltE a c := by
  unfold ltE at h k ⊢
  rcases h with h | ⟨h1, h2⟩
  · rcases k with k | ⟨k1, k2⟩
    · exact .inl (bl_trans h k)
    · rw [← k1]; exact .inl h
  · rcases k with k | ⟨k1, k2⟩
    · rw [h1]; exact .inl k
    · exact .inr ⟨h1.trans k1, by omega⟩
theorem ltE_irr (a : Ent) : ¬ ltE a a := by
  unfold ltE
  rintro (h | ⟨-, h⟩)
  · exact bl_irr _ h
  · omega
theorem ltE_tri (a b : Ent) : ltE a b ∨ (a.norm = b.norm ∧ a.seq = b.seq ∧ a.kind = b.kind) ∨ ltE b a := by
  unfold ltE
  rcases bl_tri a.norm b.norm with h | h | h
  · exact .inl (.inl h)
  · by_cases h1 : b.seq < a.seq
    · exact .inl (.inr ⟨h, .inl h1⟩)
    · by_cases h2 : a.seq < b.seq
      · exact .inr (.inr (.inr ⟨h.symm, .inl h2⟩))
      · have h3 : a.seq = b.seq := by omega
        by_cases h4 : b.kind < a.kind
        · exact .inl (.inr ⟨h, .inr ⟨h3, h4⟩⟩)
        · by_cases h5 : a.kind < b.kind
          · exact .inr (.inr (.inr ⟨h.symm, .inr ⟨h3.symm, h5⟩⟩))
          · exact .inr (.inl ⟨h, h3, by omega⟩)
  · exact .inr (.inr (.inl h))
theorem ltE_asym {a b : Ent} (h : ltE a b) : ¬ ltE b a := fun k => ltE_irr _ (ltE_trans h k)
/-- each neighbour ahead of the next -/
def srtB : List Ent → Bool
  | a :: b :: r => decide (ltE a b) && srtB (b :: r)
  | _ => true
theorem srtB_pair : ∀ l : List Ent, srtB l = true ↔ l.Pairwise ltE
  | [] => by simp [srtB]
  | [a] => by simp [srtB]
  | a :: b :: r => by
    rw [srtB, Bool.and_eq_true, decide_eq_true_eq, srtB_pair (b :: r)]
    constructor
    · rintro ⟨h1, h2⟩
      refine List.pairwise_cons.2 ⟨fun x hx => ?_, h2⟩
      rcases List.mem_cons.1 hx with rfl | hx
      · exact h1
      · exact ltE_trans h1 ((List.pairwise_cons.1 h2).1 x hx)
    · intro h
      obtain ⟨h1, h2⟩ := List.pairwise_cons.1 h
      exact ⟨h1 b (List.mem_cons_self ..), h2⟩
/-- where the walk of 'Sorted' stands: all neighbours before place i are in order -/
theorem srtB_bad {l : List Ent} {i : Nat} (h : i + 1 < l.length) (hn : ¬ ltE (l[i]'(by omega)) l[i + 1]) : srtB l = false := by
  cases hs : srtB l with
  | false => rfl
  | true => exact absurd (List.pairwise_iff_getElem.1 ((srtB_pair l).1 hs) i (i + 1) (by omega) h (by omega)) hn
theorem srtB_good : ∀ {l : List Ent}, (∀ i (h : i + 1 < l.length), ltE (l[i]'(by omega)) l[i + 1]) → srtB l = true
  | [], _ => rfl
  | [a], _ => rfl
  | a :: b :: r, h => by
    rw [srtB, Bool.and_eq_true, decide_eq_true_eq]
    exact ⟨h 0 (by simp), srtB_good fun i hi => h (i + 1) (by simpa using hi)⟩
/-- the first of norm n with a number not above q -/
def findE (l : List Ent) (n : ByteArray) (q : Int) : Option Ent := l.find? fun e => decide (e.norm = n) && decide (e.seq ≤ q)
/-- an entry comes behind those that it is not ahead of -/
def intoE (e : Ent) : List Ent → List Ent
  | [] => [e]
  | x :: r => if ltE e x then e :: x :: r else x :: intoE e r
theorem intoE_at : ∀ (l : List Ent) (e : Ent) (k : Nat), (∀ j x, j < k → l[j]? = some x → ¬ ltE e x) → (∀ x, l[k]? = some x → ltE e x) → k ≤ l.length → intoE e l = l.take k ++ e :: l.drop k
  | [], e, k, _, _, hk => by simp at hk; subst hk; rfl
  | x :: r, e, 0, _, h2, _ => by rw [intoE, if_pos (h2 x rfl)]; rfl
  | x :: r, e, k + 1, h1, h2, hk => by
    rw [intoE, if_neg (h1 0 x (by omega) rfl), intoE_at r e k (fun j y hj hy => h1 (j + 1) y (by omega) (by simpa using hy)) (fun y hy => h2 y (by simpa using hy)) (by simpa using hk)]
    rfl
theorem intoE_mem {e x : Ent} : ∀ {l : List Ent}, x ∈ intoE e l ↔ x = e ∨ x ∈ l
  | [] => by simp [intoE]
  | y :: r => by
    unfold intoE
    split
    · simp
    · rw [List.mem_cons, intoE_mem, List.mem_cons]
      constructor
      · rintro (h | h | h)
        · exact .inr (.inl h)
        · exact .inl h
        · exact .inr (.inr h)
      · rintro (h | h | h)
        · exact .inr (.inl h)
        · exact .inl h
        · exact .inr (.inr h)
theorem intoE_len (e : Ent) : ∀ l : List Ent, (intoE e l).length = l.length + 1
  | [] => rfl
  | y :: r => by
    unfold intoE
    split
    · simp
    · simp [intoE_len e r]
/-- of sorted ones, none alike in norm and number, it stays so -/
theorem intoE_pair {e : Ent} : ∀ {l : List Ent}, l.Pairwise ltE → (∀ x ∈ l, ¬ (x.norm = e.norm ∧ x.seq = e.seq)) → (intoE e l).Pairwise ltE
  | [], _, _ => by simp [intoE]
  | y :: r, h, hn => by
    unfold intoE
    obtain ⟨h1, h2⟩ := List.pairwise_cons.1 h
    split
    · rename_i hl
      refine List.pairwise_cons.2 ⟨fun x hx => ?_, h⟩
      rcases List.mem_cons.1 hx with rfl | hx
      · exact hl
      · exact ltE_trans hl (h1 x hx)
    · rename_i hl
      refine List.pairwise_cons.2 ⟨fun x hx => ?_, intoE_pair h2 fun x hx => hn x (List.mem_cons_of_mem _ hx)⟩
      rcases intoE_mem.1 hx with rfl | hx
      · rcases ltE_tri y x with h3 | ⟨h3, h4, -⟩ | h3
        · exact h3
        · exact absurd ⟨h3, h4⟩ (hn y (List.mem_cons_self ..))
        · exact absurd h3 hl
      · exact h1 x hx
end Go.Proofs.YtennpdhnjaemeaaDoor
/- Entries that may stand in a table, and rows of such. -/
namespace Go.Proofs.YtennpdhnjaemeaaDoor
set_option linter.unusedVariables false
/-- What an entry is that may stand in a table. -/
structure RightE (e : Ent) : Prop where
  seq1 : 1 ≤ e.seq
  seq2 : e.seq ≤ 1125899906842624
  kind : e.kind = 1 ∨ e.kind = 0 ∧ e.val = ⟨#[]⟩
/-- No text is too long. -/
structure FitE (K : Nat) (e : Ent) : Prop where
  norm : e.norm.size ≤ K
  spell : e.spell.size ≤ K
  val : e.val.size ≤ K
/-- No two of one norm and number. -/
def ApartE (ys : List Ent) : Prop := ys.Pairwise fun a b => ¬ (a.norm = b.norm ∧ a.seq = b.seq)
/-- Sorted entries that may stand in a table. -/
structure GoodL (ys : List Ent) : Prop where
  sorted : srtB ys = true
  right : ∀ y ∈ ys, RightE y
  fit : ∀ y ∈ ys, FitE 60 y
  apart : ApartE ys
theorem goodL_nil : GoodL [] := ⟨rfl, fun _ h => (List.not_mem_nil h).elim, fun _ h => (List.not_mem_nil h).elim, List.Pairwise.nil⟩
/-- Of sorted ones neighbours alone need be apart. -/
theorem intoE_apart {e : Ent} : ∀ {l : List Ent}, ApartE l → (∀ x ∈ l, ¬ (x.norm = e.norm ∧ x.seq = e.seq)) → ApartE (intoE e l)
  | [], _, _ => List.pairwise_singleton _ _
  | x :: r, h, hn => by
    obtain ⟨h1, h2⟩ := List.pairwise_cons.1 h
    unfold intoE
    split
    · refine List.Pairwise.cons (fun y hy => ?_) h
      intro hh
      exact hn y hy ⟨hh.1.symm, hh.2.symm⟩
    · refine List.Pairwise.cons (fun y hy => ?_) (intoE_apart h2 fun y hy => hn y (List.mem_cons_of_mem _ hy))
      rcases intoE_mem.1 hy with rfl | hy
      · exact hn x (by simp)
      · exact h1 y hy
theorem goodL_into {e : Ent} {l : List Ent} (h : GoodL l) (h1 : RightE e) (h2 : FitE 60 e) (hn : ∀ x ∈ l, ¬ (x.norm = e.norm ∧ x.seq = e.seq)) : GoodL (intoE e l) :=
  ⟨(srtB_pair _).2 (intoE_pair ((srtB_pair _).1 h.sorted) hn), fun y hy => by
    rcases intoE_mem.1 hy with rfl | hy
    · exact h1
    · exact h.right y hy, fun y hy => by
    rcases intoE_mem.1 hy with rfl | hy
    · exact h2
    · exact h.fit y hy, intoE_apart h.apart hn⟩
end Go.Proofs.YtennpdhnjaemeaaDoor
/- The walks of ikey.Less, Eq, reaches and the reference's Less, Eq. -/
namespace Go.Proofs.YtennpdhnjaemeaaDoor
set_option linter.unusedVariables false
open Go.RowKit
def ltB (a b : Ent) : Bool := decide (ltE a b)
theorem ltB_yes {a b : Ent} (h : ltE a b) : ltB a b = true := decide_eq_true h
theorem ltB_no {a b : Ent} (h : ¬ ltE a b) : ltB a b = false := decide_eq_false h
/-- alike in all five -/
def eqB (a b : Ent) : Bool := decide (a.norm = b.norm) && decide (a.seq = b.seq) && decide (a.kind = b.kind) && decide (a.spell = b.spell) && decide (a.val = b.val)
set_option maxHeartbeats 1000000 in
theorem icmp_any (x y W : Int) (hW : (if x < y then -1 else if y < x then 1 else (0 : Int)) = W) (w : World) :
    Calls Tryd.prog 90 #[.int .i64 x, .int .i64 y] w fun e w' => e = .returned (.int .i64 W) ∧ w = w' := by
  have hnan : ∀ z : Int, Calls Tryd.prog 98 #[.int .i64 z] w fun e w' => e = .returned (.bool false) ∧ w = w' := by
    intro z
    go_enter Tryd.func98, Tryd.ntmps98
    go_wp2
    go_ret
    exact ⟨rfl, rfl⟩
  have CALL := hnan
  clear hnan
  rcases Int.lt_trichotomy x y with h | h | h
  · have HW : Hid (-1 = W) := Lib.hid (by rw [← hW, if_pos h])
    clear hW
    go_enter Tryd.func90, Tryd.ntmps90
    go_wp2_with (go_at_call 98; refine (CALL _).mono ?_; rintro e w' ⟨rfl, rfl⟩)
    go_ret
    exact ⟨ret_int HW.out, rfl⟩
  · subst h
    have HW : Hid (0 = W) := Lib.hid (by rw [← hW, if_neg (Int.lt_irrefl _), if_neg (Int.lt_irrefl _)])
    clear hW
    go_enter Tryd.func90, Tryd.ntmps90
    go_wp2_with (go_at_call 98; refine (CALL _).mono ?_; rintro e w' ⟨rfl, rfl⟩)
    go_ret
    exact ⟨ret_int HW.out, rfl⟩
  · have HW : Hid (1 = W) := Lib.hid (by rw [← hW, if_neg (by omega), if_pos h])
    have h2 : ¬ x < y := by omega
    clear hW
    go_enter Tryd.func90, Tryd.ntmps90
    go_wp2_with (go_at_call 98; refine (CALL _).mono ?_; rintro e w' ⟨rfl, rfl⟩)
    go_ret
    exact ⟨ret_int HW.out, rfl⟩
theorem two_below (w : World) (A B : Obj) : Below w.heap.size w ((w.alloc A).alloc B) := ((Below.refl _ w).alloc (Nat.le_refl _) _).alloc (by simp) _
theorem lt_same (n : ByteArray) (aq ak : Int) (asp av : ByteArray) (bq bk : Int) (bsp bv : ByteArray) : ltE ⟨n, aq, ak, asp, av⟩ ⟨n, bq, bk, bsp, bv⟩ ↔ (bq < aq ∨ aq = bq ∧ bk < ak) := by
  unfold ltE
  constructor
  · intro h
    rcases h with h | ⟨-, h⟩
    · exact absurd h (bl_irr _)
    · exact h
  · exact fun h => .inr ⟨rfl, h⟩
theorem lt_not {an bn : ByteArray} (h : bl bn an) (aq ak : Int) (asp av : ByteArray) (bq bk : Int) (bsp bv : ByteArray) : ¬ ltE ⟨an, aq, ak, asp, av⟩ ⟨bn, bq, bk, bsp, bv⟩ := by
  intro k
  unfold ltE at k
  rcases k with k | ⟨k, -⟩
  · exact bl_irr _ (bl_trans h k)
  · simp only at k; rw [k] at h; exact bl_irr _ h
set_option maxHeartbeats 2000000 in
set_option maxRecDepth 100000 in
theorem less_raw (an : ByteArray) (aq ak : Int) (asp av bn : ByteArray) (bq bk : Int) (bsp bv : ByteArray) (v : Bool) (hv : ltB ⟨an, aq, ak, asp, av⟩ ⟨bn, bq, bk, bsp, bv⟩ = v) (w : World) :
    Calls Tryd.prog 70 #[.agg #[.string an, .int .i64 aq, .int .i64 ak, .string asp, .string av], .agg #[.string bn, .int .i64 bq, .int .i64 bk, .string bsp, .string bv]] w fun e w' => e = .returned (.bool v) ∧ Below w.heap.size w w' := by
  rcases bl_tri an bn with h | h | h
  · have HV : Hid (true = v) := Lib.hid (by rw [← hv, ltB_yes (.inl h)])
    have HC := Lib.hid (kcmp_lt an bn h)
    clear hv h
    go_enter Tryd.func70, Tryd.ntmps70
    go_wp2_with (go_at_call 89; refine (HC.out _).mono ?_; rintro e w' ⟨rfl, rfl⟩)
    go_ret
    exact ⟨ret_bool HV.out.symm, two_below w _ _⟩
  · subst h
    have hlt := lt_same an aq ak asp av bq bk bsp bv
    have HC := Lib.hid (kcmp_self an)
    rcases Int.lt_trichotomy aq bq with h1 | h1 | h1
    · have HV : Hid (false = v) := Lib.hid (by rw [← hv, ltB_no (by rw [hlt]; omega)])
      have HI := Lib.hid (icmp_any aq bq (-1) (by rw [if_pos h1]))
      clear hv hlt h1
      go_enter Tryd.func70, Tryd.ntmps70
      go_wp2_with (first | (go_at_call 89; refine (HC.out _).mono ?_; rintro e w' ⟨rfl, rfl⟩) | (go_at_call 90; refine (HI.out _).mono ?_; rintro e w' ⟨rfl, rfl⟩))
      go_ret
      exact ⟨ret_bool HV.out.symm, two_below w _ _⟩
    · subst h1
      have HI := Lib.hid (icmp_any aq aq 0 (by rw [if_neg (Int.lt_irrefl _), if_neg (Int.lt_irrefl _)]))
      by_cases h2 : bk < ak
      · have HV : Hid (true = v) := Lib.hid (by rw [← hv, ltB_yes (hlt.2 (.inr ⟨rfl, h2⟩))])
        have hd : decide (bk < ak) = true := decide_eq_true h2
        clear hv hlt h2
        go_enter Tryd.func70, Tryd.ntmps70
        go_wp2_with (first | (go_at_call 89; refine (HC.out _).mono ?_; rintro e w' ⟨rfl, rfl⟩) | (go_at_call 90; refine (HI.out _).mono ?_; rintro e w' ⟨rfl, rfl⟩))
        go_ret
        exact ⟨ret_bool HV.out.symm, two_below w _ _⟩
      · have HV : Hid (false = v) := Lib.hid (by rw [← hv, ltB_no (by rw [hlt]; omega)])
        have hd : decide (bk < ak) = false := decide_eq_false h2
        clear hv hlt h2
        go_enter Tryd.func70, Tryd.ntmps70
        go_wp2_with (first | (go_at_call 89; refine (HC.out _).mono ?_; rintro e w' ⟨rfl, rfl⟩) | (go_at_call 90; refine (HI.out _).mono ?_; rintro e w' ⟨rfl, rfl⟩))
        go_ret
        exact ⟨ret_bool HV.out.symm, two_below w _ _⟩
    · have HV : Hid (true = v) := Lib.hid (by rw [← hv, ltB_yes (hlt.2 (.inl h1))])
      have HI := Lib.hid (icmp_any aq bq 1 (by rw [if_neg (by omega), if_pos h1]))
      clear hv hlt h1
      go_enter Tryd.func70, Tryd.ntmps70
      go_wp2_with (first | (go_at_call 89; refine (HC.out _).mono ?_; rintro e w' ⟨rfl, rfl⟩) | (go_at_call 90; refine (HI.out _).mono ?_; rintro e w' ⟨rfl, rfl⟩))
      go_ret
      exact ⟨ret_bool HV.out.symm, two_below w _ _⟩
  · have HV : Hid (false = v) := Lib.hid (by rw [← hv, ltB_no (lt_not h _ _ _ _ _ _ _ _)])
    have HC := Lib.hid (kcmp_gt an bn h)
    clear hv h
    go_enter Tryd.func70, Tryd.ntmps70
    go_wp2_with (go_at_call 89; refine (HC.out _).mono ?_; rintro e w' ⟨rfl, rfl⟩)
    go_ret
    exact ⟨ret_bool HV.out.symm, two_below w _ _⟩
theorem less_any (a b : Ent) (w : World) :
    Calls Tryd.prog 70 #[a.v, b.v] w fun e w' => e = .returned (.bool (ltB a b)) ∧ Below w.heap.size w w' := less_raw _ _ _ _ _ _ _ _ _ _ _ rfl w
set_option maxHeartbeats 2000000 in
set_option maxRecDepth 100000 in
theorem rless_raw (an : ByteArray) (aq ak : Int) (asp av bn : ByteArray) (bq bk : Int) (bsp bv : ByteArray) (v : Bool) (hv : ltB ⟨an, aq, ak, asp, av⟩ ⟨bn, bq, bk, bsp, bv⟩ = v) (w : World) :
    Calls Tryd.prog 41 #[.agg #[.string an, .int .i64 aq, .int .i64 ak, .string asp, .string av], .agg #[.string bn, .int .i64 bq, .int .i64 bk, .string bsp, .string bv]] w fun e w' => e = .returned (.bool v) ∧ Below w.heap.size w w' := by
  rcases bl_tri an bn with h | h | h
  · have HV : Hid (true = v) := Lib.hid (by rw [← hv, ltB_yes (.inl h)])
    have e1 := bs_less an bn h
    have e2 : (an.toList == bn.toList) = false := by rw [bs_eq]; exact decide_eq_false fun k => bl_irr bn (by rw [k] at h; exact h)
    clear hv h
    go_enter Tryd.func41, Tryd.ntmps41
    go_wp2
    go_ret
    exact ⟨ret_bool HV.out.symm, two_below w _ _⟩
  · subst h
    have hlt := lt_same an aq ak asp av bq bk bsp bv
    have e2 : (an.toList == an.toList) = true := by simp
    rcases Int.lt_trichotomy aq bq with h1 | h1 | h1
    · have HV : Hid (false = v) := Lib.hid (by rw [← hv, ltB_no (by rw [hlt]; omega)])
      have e3 : (aq == bq) = false := by rw [beq_eq_false_iff_ne]; omega
      have e4 : decide (bq < aq) = false := decide_eq_false (by omega)
      clear hv hlt h1
      go_enter Tryd.func41, Tryd.ntmps41
      go_wp2
      go_ret
      exact ⟨ret_bool HV.out.symm, two_below w _ _⟩
    · subst h1
      by_cases h2 : bk < ak
      · have HV : Hid (true = v) := Lib.hid (by rw [← hv, ltB_yes (hlt.2 (.inr ⟨rfl, h2⟩))])
        have hd : decide (bk < ak) = true := decide_eq_true h2
        clear hv hlt h2
        go_enter Tryd.func41, Tryd.ntmps41
        go_wp2
        go_ret
        exact ⟨ret_bool HV.out.symm, two_below w _ _⟩
      · have HV : Hid (false = v) := Lib.hid (by rw [← hv, ltB_no (by rw [hlt]; omega)])
        have hd : decide (bk < ak) = false := decide_eq_false h2
        clear hv hlt h2
        go_enter Tryd.func41, Tryd.ntmps41
        go_wp2
        go_ret
        exact ⟨ret_bool HV.out.symm, two_below w _ _⟩
    · have HV : Hid (true = v) := Lib.hid (by rw [← hv, ltB_yes (hlt.2 (.inl h1))])
      have e3 : (aq == bq) = false := by rw [beq_eq_false_iff_ne]; omega
      have e4 : decide (bq < aq) = true := decide_eq_true h1
      clear hv hlt h1
      go_enter Tryd.func41, Tryd.ntmps41
      go_wp2
      go_ret
      exact ⟨ret_bool HV.out.symm, two_below w _ _⟩
  · have HV : Hid (false = v) := Lib.hid (by rw [← hv, ltB_no (lt_not h _ _ _ _ _ _ _ _)])
    have e1 := bs_not an bn fun k => bl_irr _ (bl_trans h k)
    have e2 : (an.toList == bn.toList) = false := by rw [bs_eq]; exact decide_eq_false fun k => bl_irr bn (by rw [k] at h; exact h)
    clear hv h
    go_enter Tryd.func41, Tryd.ntmps41
    go_wp2
    go_ret
    exact ⟨ret_bool HV.out.symm, two_below w _ _⟩
theorem rless_any (a b : Ent) (w : World) :
    Calls Tryd.prog 41 #[a.v, b.v] w fun e w' => e = .returned (.bool (ltB a b)) ∧ Below w.heap.size w w' := rless_raw _ _ _ _ _ _ _ _ _ _ _ rfl w
theorem eqB_lists (an : ByteArray) (aq ak : Int) (asp av bn : ByteArray) (bq bk : Int) (bsp bv : ByteArray) :
    eqB ⟨an, aq, ak, asp, av⟩ ⟨bn, bq, bk, bsp, bv⟩ = (decide (an.toList = bn.toList) && decide (aq = bq) && decide (ak = bk) && decide (asp.toList = bsp.toList) && decide (av.toList = bv.toList)) := by
  have h : ∀ a b : ByteArray, decide (a = b) = decide (a.toList = b.toList) := fun a b => by rw [← bs_eq, Bool.eq_iff_iff]; simp
  unfold eqB
  simp only [h]
set_option maxHeartbeats 4000000 in
set_option maxRecDepth 100000 in
theorem req_raw (an : ByteArray) (aq ak : Int) (asp av bn : ByteArray) (bq bk : Int) (bsp bv : ByteArray) (v : Bool) (hv : eqB ⟨an, aq, ak, asp, av⟩ ⟨bn, bq, bk, bsp, bv⟩ = v) (w : World) :
    Calls Tryd.prog 24 #[.agg #[.string an, .int .i64 aq, .int .i64 ak, .string asp, .string av], .agg #[.string bn, .int .i64 bq, .int .i64 bk, .string bsp, .string bv]] w fun e w' => e = .returned (.bool v) ∧ Below w.heap.size w w' := by
  have HV := Lib.hid hv
  clear hv
  go_enter Tryd.func24, Tryd.ntmps24
  go_wp2
  all_goals
    go_ret
    exact ⟨ret_bool (by rw [← HV.out, eqB_lists]; first | (simp [*]; done) | (simp [*]; rw [Bool.eq_iff_iff]; simp)), two_below w _ _⟩
theorem req_any (a b : Ent) (w : World) :
    Calls Tryd.prog 24 #[a.v, b.v] w fun e w' => e = .returned (.bool (eqB a b)) ∧ Below w.heap.size w w' := req_raw _ _ _ _ _ _ _ _ _ _ _ rfl w
/-- where the entries of norm n with a number not above q begin, or behind that -/
def reachB (e : Ent) (n : ByteArray) (q : Int) : Bool := decide (bl n e.norm ∨ e.norm = n ∧ e.seq ≤ q)
set_option maxHeartbeats 2000000 in
set_option maxRecDepth 100000 in
theorem reaches_raw (an : ByteArray) (aq ak : Int) (asp av n : ByteArray) (q : Int) (v : Bool) (hv : reachB ⟨an, aq, ak, asp, av⟩ n q = v) (w : World) :
    Calls Tryd.prog 72 #[.agg #[.string an, .int .i64 aq, .int .i64 ak, .string asp, .string av], .string n, .int .i64 q] w fun e w' => e = .returned (.bool v) ∧ Below w.heap.size w w' := by
  rcases bl_tri an n with h | h | h
  · have HV : Hid (false = v) := Lib.hid (by
      rw [← hv]; symm; refine decide_eq_false ?_; rintro (k | ⟨k, -⟩)
      · exact bl_irr _ (bl_trans h k)
      · simp only at k; rw [k] at h; exact bl_irr _ h)
    have HC := Lib.hid (kcmp_lt an n h)
    clear hv h
    go_enter Tryd.func72, Tryd.ntmps72
    go_wp2_with (go_at_call 89; refine (HC.out _).mono ?_; rintro e w' ⟨rfl, rfl⟩)
    go_ret
    exact ⟨ret_bool HV.out.symm, (Below.refl _ _).alloc (Nat.le_refl _) _⟩
  · subst h
    have HC := Lib.hid (kcmp_self an)
    by_cases h2 : aq ≤ q
    · have HV : Hid (true = v) := Lib.hid (by rw [← hv]; symm; exact decide_eq_true (.inr ⟨rfl, h2⟩))
      have hd : decide (aq ≤ q) = true := decide_eq_true h2
      clear hv
      go_enter Tryd.func72, Tryd.ntmps72
      go_wp2_with (go_at_call 89; refine (HC.out _).mono ?_; rintro e w' ⟨rfl, rfl⟩)
      go_ret
      exact ⟨ret_bool HV.out.symm, (Below.refl _ _).alloc (Nat.le_refl _) _⟩
    · have HV : Hid (false = v) := Lib.hid (by
        rw [← hv]; symm; refine decide_eq_false ?_; rintro (k | ⟨-, k⟩)
        · exact bl_irr _ k
        · exact h2 k)
      have hd : decide (aq ≤ q) = false := decide_eq_false h2
      clear hv
      go_enter Tryd.func72, Tryd.ntmps72
      go_wp2_with (go_at_call 89; refine (HC.out _).mono ?_; rintro e w' ⟨rfl, rfl⟩)
      go_ret
      exact ⟨ret_bool HV.out.symm, (Below.refl _ _).alloc (Nat.le_refl _) _⟩
  · have HV : Hid (true = v) := Lib.hid (by rw [← hv]; symm; exact decide_eq_true (.inl h))
    have HC := Lib.hid (kcmp_gt an n h)
    clear hv h
    go_enter Tryd.func72, Tryd.ntmps72
    go_wp2_with (go_at_call 89; refine (HC.out _).mono ?_; rintro e w' ⟨rfl, rfl⟩)
    go_ret
    exact ⟨ret_bool HV.out.symm, (Below.refl _ _).alloc (Nat.le_refl _) _⟩
theorem reaches_any (a : Ent) (n : ByteArray) (q : Int) (w : World) :
    Calls Tryd.prog 72 #[a.v, .string n, .int .i64 q] w fun e w' => e = .returned (.bool (reachB a n q)) ∧ Below w.heap.size w w' := reaches_raw _ _ _ _ _ _ _ _ rfl w
end Go.Proofs.YtennpdhnjaemeaaDoor
/- The walk of the laws' Cut of an entry. -/
namespace Go.Proofs.YtennpdhnjaemeaaDoor
set_option linter.unusedVariables false
open Go.RowKit
/-- An entry as it may come in. -/
def Ent.ok (e : Ent) : Prop := e.norm.size ≤ maxLen ∧ e.spell.size ≤ maxLen ∧ e.val.size ≤ maxLen ∧ (Lit.int .i64 e.seq).wf = true ∧ (Lit.int .i64 e.kind).wf = true
/-- What Cut leaves of an entry. -/
def CutE (e : Ent) (w : World) (en : Ending) (w' : World) : Prop := ∃ c : Ent, en = .returned c.v ∧ c.seq = e.seq ∧ c.kind = e.kind ∧ c.norm.size ≤ 30 ∧ c.spell.size ≤ 30 ∧ c.val.size ≤ 60 ∧ Below w.heap.size w w'
set_option maxHeartbeats 4000000 in
set_option maxRecDepth 100000 in
theorem ecut_raw (an : ByteArray) (aq ak : Int) (asp av : ByteArray) (h1 : an.size ≤ maxLen) (h2 : asp.size ≤ maxLen) (h3 : av.size ≤ maxLen) (w : World) :
    Calls Tryd.prog 26 #[.agg #[.string an, .int .i64 aq, .int .i64 ak, .string asp, .string av]] w (CutE ⟨an, aq, ak, asp, av⟩ w) := by
  have H1 : Hid (∃ t : ByteArray, t.size ≤ 30 ∧ ∀ w, Calls Tryd.prog 47 #[.string an, .int .i64 30] w fun e w' => e = .returned (.string t) ∧ w' = w) := Lib.hid (cut_fix an 30 (by omega) h1)
  have H2 : Hid (∃ t : ByteArray, t.size ≤ 30 ∧ ∀ w, Calls Tryd.prog 47 #[.string asp, .int .i64 30] w fun e w' => e = .returned (.string t) ∧ w' = w) := Lib.hid (cut_fix asp 30 (by omega) h2)
  have H3 : Hid (∃ t : ByteArray, t.size ≤ 60 ∧ ∀ w, Calls Tryd.prog 47 #[.string av, .int .i64 60] w fun e w' => e = .returned (.string t) ∧ w' = w) := Lib.hid (cut_fix av 60 (by omega) h3)
  obtain ⟨tn, n1, c1⟩ := H1.out
  obtain ⟨ts, n2, c2⟩ := H2.out
  obtain ⟨tv, n3, c3⟩ := H3.out
  have C1 := Lib.hid c1
  have C2 := Lib.hid c2
  have C3 := Lib.hid c3
  clear H1 H2 H3 c1 c2 c3 h1 h2 h3
  go_enter Tryd.func26, Tryd.ntmps26
  go_wp2_with fail
  obtain ⟨w2, hw2⟩ : ∃ w2, (w.alloc (.cells #[.string an, .int .i64 aq, .int .i64 ak, .string asp, .string av] 39)).alloc (.cells #[.string ⟨#[]⟩, .int .i64 0, .int .i64 0, .string ⟨#[]⟩, .string ⟨#[]⟩] 39) = w2 := ⟨_, rfl⟩
  have HR1 : Hid (Row5 w2.drew w.heap.size (.string an) (.int .i64 aq) (.int .i64 ak) (.string asp) (.string av)) := Lib.hid (by
    rw [← hw2]; exact ((Row5.new w _ _ _ _ _ _).below ((Below.refl _ _).alloc (Nat.le_refl _) _) (by simp)).drew)
  have HR2 : Hid (Row5 w2.drew (w.heap.size + 1) (.string ⟨#[]⟩) (.int .i64 0) (.int .i64 0) (.string ⟨#[]⟩) (.string ⟨#[]⟩)) := Lib.hid (by
    rw [← hw2]; have := (Row5.new (w.alloc (.cells #[.string an, .int .i64 aq, .int .i64 ak, .string asp, .string av] 39)) (.string ⟨#[]⟩) (.int .i64 0) (.int .i64 0) (.string ⟨#[]⟩) (.string ⟨#[]⟩) 39).drew; simpa using this)
  have HB : Hid (Below w.heap.size w w2.drew) := Lib.hid (by rw [← hw2]; exact (((Below.refl _ w).alloc (Nat.le_refl _) _).alloc (by simp) _).drew)
  rw [hw2]
  clear hw2
  refine wp_region_still_tail 10 (by kernel_rfl) (by kernel_rfl) ?_
  change wpStill _ _ (World.drew w2) (fun a => wpList _ _ _ _ a (World.drew w2)) _ _
  simp only [List.take_succ_cons, List.take_zero, List.drop_succ_cons, List.drop_zero]
  generalize World.drew w2 = w3 at *
  obtain ⟨⟨a0, a1, a2, a3, a4⟩, ⟨f0, f1, f2, f3, f4⟩, hs⟩ := HR1.out
  still_step
  still_step
  still_call (C1.out _)
  still_step
  still_step
  still_call (C2.out _)
  still_step
  still_step
  still_call (C3.out _)
  still_step
  refine wpStill_nil ?_
  obtain ⟨⟨b0, b1, b2, b3, b4⟩, ⟨g0, g1, g2, g3, g4⟩, hs2⟩ := HR2.out
  go_wp2
  refine bodyPost_ret (v := .agg #[.string tn, .int .i64 aq, .int .i64 ak, .string ts, .string tv]) (by simp [results, Tryd.results26, go_sem, b0, b1, b2, b3, b4]) rfl ⟨⟨tn, aq, ak, ts, tv⟩, rfl, rfl, rfl, n1, n2, n3, ?_⟩
  iterate 8 refine Below.setCell ?_ (by simp) _
  exact HB.out
theorem ecut_any (e : Ent) (h : e.ok) (w : World) : Calls Tryd.prog 26 #[e.v] w (CutE e w) := ecut_raw _ _ _ _ _ h.1 h.2.1 h.2.2.1 w
end Go.Proofs.YtennpdhnjaemeaaDoor
/- The walks of Sorted, the code's and the reference's. -/
namespace Go.Proofs.YtennpdhnjaemeaaDoor
set_option linter.unusedVariables false
open Go.RowKit
/-- The five cells of an entry. -/
def AtE (w : World) (b o : Nat) (e : Ent) : Prop := w.cell? ⟨b, o, none⟩ = some (.string e.norm) ∧ w.cell? ⟨b, o + 1, none⟩ = some (.int .i64 e.seq) ∧ w.cell? ⟨b, o + 2, none⟩ = some (.int .i64 e.kind) ∧
  w.cell? ⟨b, o + 3, none⟩ = some (.string e.spell) ∧ w.cell? ⟨b, o + 4, none⟩ = some (.string e.val)
theorem AtE.under {w W : World} {b o : Nat} {e : Ent} (h : AtE w b o e) (hb : b < w.heap.size) (hW : Below w.heap.size w W) : AtE W b o e := by
  obtain ⟨h0, h1, h2, h3, h4⟩ := h
  exact ⟨(hW.cell (p := ⟨b, _, none⟩) hb).trans h0, (hW.cell (p := ⟨b, _, none⟩) hb).trans h1, (hW.cell (p := ⟨b, _, none⟩) hb).trans h2, (hW.cell (p := ⟨b, _, none⟩) hb).trans h3, (hW.cell (p := ⟨b, _, none⟩) hb).trans h4⟩
theorem rdK_len {w : World} {v : Value} {xs : List Ent} (h : RdK encEnt 5 w v xs) : ∃ a len cap, v = .slice a len cap ∧ len = xs.length := by
  rcases h with ⟨a, cap, h1, rfl⟩ | ⟨b, off, cap, h1, -⟩
  · exact ⟨a, 0, cap, h1, rfl⟩
  · exact ⟨_, _, cap, h1, rfl⟩
theorem RdK.at5 {w : World} {a : Option Addr} {len cap : Nat} {xs : List Ent} (h : RdK encEnt 5 w (.slice a len cap) xs) (hn : len = xs.length) (q : Nat) (x : Ent) (hx : xs[q]? = some x) :
    ∃ b off, a = some ⟨b, off, none⟩ ∧ b < w.heap.size ∧ AtE w b (off + q * 5) x := by
  rcases h with ⟨_, _, _, rfl⟩ | ⟨b, off, c, e, h1, h2, h3, h4, h5⟩
  · simp at hx
  · simp only [Value.slice.injEq] at e
    exact ⟨b, off, e.1, h4, h5 q 0 x hx (by decide), h5 q 1 x hx (by decide), h5 q 2 x hx (by decide), h5 q 3 x hx (by decide), h5 q 4 x hx (by decide)⟩
/-- All neighbours ahead of place i are in order. -/
def GoodTo (xs : List Ent) (i : Nat) : Prop := ∀ j (h : j + 1 < xs.length), j + 1 < i → ltE (xs[j]'(by omega)) xs[j + 1]
theorem goodTo_bad {xs : List Ent} {q : Nat} {x y : Ent} (hx : xs[q]? = some x) (hy : xs[q + 1]? = some y) (h : ltB x y = false) : srtB xs = false := by
  obtain ⟨h1, e1⟩ := List.getElem?_eq_some_iff.1 hx
  obtain ⟨h2, e2⟩ := List.getElem?_eq_some_iff.1 hy
  refine srtB_bad h2 ?_
  rw [e1, e2]
  exact of_decide_eq_false h
theorem goodTo_next {xs : List Ent} {q : Nat} {x y : Ent} (hg : GoodTo xs (q + 1)) (hx : xs[q]? = some x) (hy : xs[q + 1]? = some y) (h : ltB x y = true) : GoodTo xs (q + 1 + 1) := by
  intro j hj hlt
  obtain ⟨h1, e1⟩ := List.getElem?_eq_some_iff.1 hx
  obtain ⟨h2, e2⟩ := List.getElem?_eq_some_iff.1 hy
  rcases Nat.lt_or_ge j q with h3 | h3
  · exact hg j hj (by omega)
  · obtain rfl : j = q := by omega
    rw [e1, e2]
    exact of_decide_eq_true h
theorem goodTo_all {xs : List Ent} {i : Nat} (hg : GoodTo xs i) (hi : xs.length ≤ i) : srtB xs = true := srtB_good fun j hj => hg j hj (by omega)
set_option maxHeartbeats 4000000 in
set_option maxRecDepth 100000 in
theorem sorted_any (v : Value) (xs : List Ent) (hl : xs.length ≤ 1000000) (w : World) (hrd : RdK encEnt 5 w v xs) :
    Calls Tryd.prog 48 #[v] w fun e w' => e = .returned (.bool (srtB xs)) ∧ Below w.heap.size w w' := by
  obtain ⟨V, hV⟩ : ∃ V, srtB xs = V := ⟨_, rfl⟩
  have HV := Lib.hid hV
  have HL := Lib.hid hl
  obtain ⟨a, len, cap, rfl, hlen⟩ := rdK_len hrd
  have HRD := Lib.hid hrd
  have HN := Lib.hid hlen
  have hlm : len ≤ 1000000 := by omega
  rw [hV]
  clear hV hrd hlen hl
  go_enter Tryd.func48, Tryd.ntmps48
  go_wp2_with fail
  go_loopg [2, 3] len (fun kk _ vi wr => ∃ i : Nat, vi = .int .i64 i ∧ 1 ≤ i ∧ i ≤ len + 1 ∧ len - i ≤ kk ∧ Hid (GoodTo xs i) ∧ Hid (Below w.heap.size w wr))
  case atStart => exact ⟨1, by go_num, by omega, by omega, by omega, Lib.hid (fun j h hj => by omega), Lib.hid (Below.refl _ _)⟩
  case round =>
    obtain ⟨j, rfl, hj1, hjn, hjk, HG, HB⟩ := hrel
    by_cases hj : j < len
    · obtain ⟨q, rfl⟩ : ∃ q, j = q + 1 := ⟨j - 1, by omega⟩
      obtain ⟨x, hx⟩ : ∃ x, xs[q]? = some x := ⟨xs[q]'(by have := HN.out; omega), List.getElem?_eq_getElem _⟩
      obtain ⟨y, hy⟩ : ∃ y, xs[q + 1]? = some y := ⟨xs[q + 1]'(by have := HN.out; omega), List.getElem?_eq_getElem _⟩
      obtain ⟨b, off, rfl, hblt, c1⟩ := (HRD.out.below HB.out).at5 HN.out q x hx
      obtain ⟨b', off', hbe, -, c2⟩ := (HRD.out.below HB.out).at5 HN.out (q + 1) y hy
      simp only [Option.some.injEq, Addr.mk.injEq] at hbe
      obtain ⟨rfl, rfl, -⟩ := hbe
      have HX := Lib.hid hx
      have HY := Lib.hid hy
      have C1 := Lib.hid c1
      have C2 := Lib.hid c2
      obtain ⟨r, hr⟩ : ∃ r, ltB x y = r := ⟨_, rfl⟩
      have HR := Lib.hid hr
      have HC : Hid (∀ w, Calls Tryd.prog 70 #[x.v, y.v] w fun e w' => e = .returned (.bool r) ∧ Below w.heap.size w w') := Lib.hid fun w => by rw [← hr]; exact less_any x y w
      have HF : Hid (r = false → srtB xs = false) := Lib.hid fun h => goodTo_bad hx hy (by rw [← h]; exact hr)
      have HT : Hid (r = true → GoodTo xs (q + 1 + 1)) := Lib.hid fun h => goodTo_next HG.out hx hy (by rw [← h]; exact hr)
      clear hr
      obtain ⟨xn, xq, xk, xsp, xv⟩ := x
      obtain ⟨yn, yq, yk, ysp, yv⟩ := y
      have eq1 : ((q + 1 : Nat) : Int) - 1 = (q : Int) := by omega
      have eq2 : ((q + 1 : Nat) : Int) = (q : Int) + 1 := by omega
      have eq3 : (q : Int) + 1 - 1 = (q : Int) := by omega
      have wq : IntKind.i64.wrap (q : Int) = (q : Int) := by rw [IntKind.wrap_i64]; omega
      have bq0 : (0 : Int) ≤ (q : Int) := by omega
      have bq1 : (q : Int) + 1 < (len : Int) := by omega
      have bq3 : (0 : Int) ≤ (q : Int) + 1 := by omega
      have bq4 : ¬ (q : Int) + 1 < 0 := by omega
      have bq2 : (q : Int) < (len : Int) := by omega
      have tq : ((q : Int) + 1).toNat = q + 1 := by omega
      have hzj : ((q + 1 : Nat) : Int) < (len : Int) := by omega
      clear hx hy c1 c2 hj1 hjn
      go_wp2_with fail
      refine wp_region_held_drew (S := Below wr.heap.size wr) (by kernel_rfl) (Below.refl _ _).drew (fun hHeld => ?_)
      refine takeYes (i := 0) (k := 10) (v := .slice (some ⟨b, off, none⟩) len cap) rfl (by kernel_rfl) (by kernel_rfl) (by kernel_rfl) (by kernel_rfl) (fun _ _ _ h => h) (by kernel_rfl) ?_ (by assumption) ?_
      · intro W hSw; first | (go_simp; done) | go_simp
      try simp only [Act.put, List.setIfInBounds_toArray, List.set_cons_zero, List.set_cons_succ]
      refine takeYes (i := 1) (k := 11) (v := .int .i64 ((q : Int) + 1)) rfl (by kernel_rfl) (by kernel_rfl) (by kernel_rfl) (by kernel_rfl) (fun _ _ _ h => h) (by kernel_rfl) ?_ (by assumption) ?_
      · intro W hSw; first | (go_simp; done) | go_simp
      try simp only [Act.put, List.setIfInBounds_toArray, List.set_cons_zero, List.set_cons_succ]
      refine takeYes (i := 2) (k := 12) (v := .int .i64 (q : Int)) rfl (by kernel_rfl) (by kernel_rfl) (by kernel_rfl) (by kernel_rfl) (fun _ _ _ h => h) (by kernel_rfl) ?_ (by assumption) ?_
      · intro W hSw; first | (go_simp; done) | go_simp
      try simp only [Act.put, List.setIfInBounds_toArray, List.set_cons_zero, List.set_cons_succ]
      refine takeYes (i := 3) (k := 13) (v := .pointer (some ⟨b, off + q * 5, none⟩)) rfl (by kernel_rfl) (by kernel_rfl) (by kernel_rfl) (by kernel_rfl) (fun _ _ _ h => h) (by kernel_rfl) ?_ (by assumption) ?_
      · intro W hSw; first | (go_simp; done) | go_simp
      try simp only [Act.put, List.setIfInBounds_toArray, List.set_cons_zero, List.set_cons_succ]
      refine takeYes (i := 4) (k := 14) (v := .agg #[.string xn, .int .i64 xq, .int .i64 xk, .string xsp, .string xv]) rfl (by kernel_rfl) (by kernel_rfl) (by kernel_rfl) (by kernel_rfl) (fun _ _ _ h => h) (by kernel_rfl) ?_ (by assumption) ?_
      · intro W hSw; obtain ⟨d0, d1, d2, d3, d4⟩ := C1.out.under hblt hSw; first | (go_simp; done) | go_simp
      try simp only [Act.put, List.setIfInBounds_toArray, List.set_cons_zero, List.set_cons_succ]
      refine takeYes (i := 5) (k := 15) (v := .slice (some ⟨b, off, none⟩) len cap) rfl (by kernel_rfl) (by kernel_rfl) (by kernel_rfl) (by kernel_rfl) (fun _ _ _ h => h) (by kernel_rfl) ?_ (by assumption) ?_
      · intro W hSw; first | (go_simp; done) | go_simp
      try simp only [Act.put, List.setIfInBounds_toArray, List.set_cons_zero, List.set_cons_succ]
      refine takeYes (i := 6) (k := 16) (v := .int .i64 ((q : Int) + 1)) rfl (by kernel_rfl) (by kernel_rfl) (by kernel_rfl) (by kernel_rfl) (fun _ _ _ h => h) (by kernel_rfl) ?_ (by assumption) ?_
      · intro W hSw; first | (go_simp; done) | go_simp
      try simp only [Act.put, List.setIfInBounds_toArray, List.set_cons_zero, List.set_cons_succ]
      refine takeYes (i := 7) (k := 17) (v := .pointer (some ⟨b, off + (q + 1) * 5, none⟩)) rfl (by kernel_rfl) (by kernel_rfl) (by kernel_rfl) (by kernel_rfl) (fun _ _ _ h => h) (by kernel_rfl) ?_ (by assumption) ?_
      · intro W hSw; first | (go_simp; done) | go_simp
      try simp only [Act.put, List.setIfInBounds_toArray, List.set_cons_zero, List.set_cons_succ]
      refine takeYes (i := 8) (k := 18) (v := .agg #[.string yn, .int .i64 yq, .int .i64 yk, .string ysp, .string yv]) rfl (by kernel_rfl) (by kernel_rfl) (by kernel_rfl) (by kernel_rfl) (fun _ _ _ h => h) (by kernel_rfl) ?_ (by assumption) ?_
      · intro W hSw; obtain ⟨d0, d1, d2, d3, d4⟩ := C2.out.under hblt hSw; first | (go_simp; done) | go_simp
      try simp only [Act.put, List.setIfInBounds_toArray, List.set_cons_zero, List.set_cons_succ]
      refine wpAnyH_ready (rs := [9]) (by kernel_rfl) (by simp) (AllReadyH.cons rfl (fun K hK => ?_) AllReadyH.nil)
      go_simp
      refine (HC.out _).mono ?_
      rintro e w3 ⟨rfl, hb⟩
      have hb3 : Below wr.heap.size wr w3 := hHeld.trans (hb.mono (by simp))
      refine hK.out _ _ hb3 (fun hHeld2 => ?_)
      clear hK K hHeld hb
      try simp only [Act.put, List.setIfInBounds_toArray, List.set_cons_zero, List.set_cons_succ]
      have HB3 := Lib.hid (HB.out.trans (hb3.mono HB.out.size))
      cases r
      · refine takeYes (i := 10) (k := 20) (v := .bool true) rfl (by kernel_rfl) (by kernel_rfl) (by kernel_rfl) (by kernel_rfl) (fun _ _ _ h => h) (by kernel_rfl) ?_ (by assumption) ?_
        · intro W hSw; first | (go_simp; done) | go_simp
        try simp only [Act.put, List.setIfInBounds_toArray, List.set_cons_zero, List.set_cons_succ]
        refine wpAnyH_done (by kernel_rfl) ?_ _
        have HE := Lib.hid (HF.out rfl)
        clear HF HT HR HC hb3 hHeld2
        go_wp2_with fail
        go_ret
        exact ⟨ret_bool (by rw [← HV.out]; exact HE.out), HB3.out⟩
      · refine takeYes (i := 10) (k := 20) (v := .bool false) rfl (by kernel_rfl) (by kernel_rfl) (by kernel_rfl) (by kernel_rfl) (fun _ _ _ h => h) (by kernel_rfl) ?_ (by assumption) ?_
        · intro W hSw; first | (go_simp; done) | go_simp
        try simp only [Act.put, List.setIfInBounds_toArray, List.set_cons_zero, List.set_cons_succ]
        refine wpAnyH_done (by kernel_rfl) ?_ _
        have HE := Lib.hid (HT.out rfl)
        clear HF HT HR HC hb3 hHeld2
        go_wp2_with fail
        go_roundg (len - (q + 1 + 1))
        case measure => omega
        case rel => exact ⟨q + 1 + 1, by go_num, by omega, by omega, by omega, HE, HB3⟩
    · have HE := Lib.hid (goodTo_all HG.out (by have := HN.out; omega))
      have hd : decide (j < len) = false := decide_eq_false hj
      go_wp2_with fail
      go_ret
      exact ⟨ret_bool (by rw [← HV.out]; exact HE.out), HB.out⟩
set_option maxHeartbeats 4000000 in
set_option maxRecDepth 100000 in
theorem rsorted_any (v : Value) (xs : List Ent) (hl : xs.length ≤ 1000000) (w : World) (hrd : RdK encEnt 5 w v xs) :
    Calls Tryd.prog 21 #[v] w fun e w' => e = .returned (.bool (srtB xs)) ∧ Below w.heap.size w w' := by
  obtain ⟨V, hV⟩ : ∃ V, srtB xs = V := ⟨_, rfl⟩
  have HV := Lib.hid hV
  have HL := Lib.hid hl
  obtain ⟨a, len, cap, rfl, hlen⟩ := rdK_len hrd
  have HRD := Lib.hid hrd
  have HN := Lib.hid hlen
  have hlm : len ≤ 1000000 := by omega
  rw [hV]
  clear hV hrd hlen hl
  go_enter Tryd.func21, Tryd.ntmps21
  go_wp2_with fail
  go_loopg [2, 3] len (fun kk _ vi wr => ∃ i : Nat, vi = .int .i64 i ∧ 1 ≤ i ∧ i ≤ len + 1 ∧ len - i ≤ kk ∧ Hid (GoodTo xs i) ∧ Hid (Below w.heap.size w wr))
  case atStart => exact ⟨1, by go_num, by omega, by omega, by omega, Lib.hid (fun j h hj => by omega), Lib.hid (Below.refl _ _)⟩
  case round =>
    obtain ⟨j, rfl, hj1, hjn, hjk, HG, HB⟩ := hrel
    by_cases hj : j < len
    · obtain ⟨q, rfl⟩ : ∃ q, j = q + 1 := ⟨j - 1, by omega⟩
      obtain ⟨x, hx⟩ : ∃ x, xs[q]? = some x := ⟨xs[q]'(by have := HN.out; omega), List.getElem?_eq_getElem _⟩
      obtain ⟨y, hy⟩ : ∃ y, xs[q + 1]? = some y := ⟨xs[q + 1]'(by have := HN.out; omega), List.getElem?_eq_getElem _⟩
      obtain ⟨b, off, rfl, hblt, c1⟩ := (HRD.out.below HB.out).at5 HN.out q x hx
      obtain ⟨b', off', hbe, -, c2⟩ := (HRD.out.below HB.out).at5 HN.out (q + 1) y hy
      simp only [Option.some.injEq, Addr.mk.injEq] at hbe
      obtain ⟨rfl, rfl, -⟩ := hbe
      have HX := Lib.hid hx
      have HY := Lib.hid hy
      have C1 := Lib.hid c1
      have C2 := Lib.hid c2
      obtain ⟨r, hr⟩ : ∃ r, ltB x y = r := ⟨_, rfl⟩
      have HR := Lib.hid hr
      have HC : Hid (∀ w, Calls Tryd.prog 41 #[x.v, y.v] w fun e w' => e = .returned (.bool r) ∧ Below w.heap.size w w') := Lib.hid fun w => by rw [← hr]; exact rless_any x y w
      have HF : Hid (r = false → srtB xs = false) := Lib.hid fun h => goodTo_bad hx hy (by rw [← h]; exact hr)
      have HT : Hid (r = true → GoodTo xs (q + 1 + 1)) := Lib.hid fun h => goodTo_next HG.out hx hy (by rw [← h]; exact hr)
      clear hr
      obtain ⟨xn, xq, xk, xsp, xv⟩ := x
      obtain ⟨yn, yq, yk, ysp, yv⟩ := y
      have eq1 : ((q + 1 : Nat) : Int) - 1 = (q : Int) := by omega
      have eq2 : ((q + 1 : Nat) : Int) = (q : Int) + 1 := by omega
      have eq3 : (q : Int) + 1 - 1 = (q : Int) := by omega
      have wq : IntKind.i64.wrap (q : Int) = (q : Int) := by rw [IntKind.wrap_i64]; omega
      have bq0 : (0 : Int) ≤ (q : Int) := by omega
      have bq1 : (q : Int) + 1 < (len : Int) := by omega
      have bq3 : (0 : Int) ≤ (q : Int) + 1 := by omega
      have bq4 : ¬ (q : Int) + 1 < 0 := by omega
      have bq2 : (q : Int) < (len : Int) := by omega
      have tq : ((q : Int) + 1).toNat = q + 1 := by omega
      have hzj : ((q + 1 : Nat) : Int) < (len : Int) := by omega
      clear hx hy c1 c2 hj1 hjn
      go_wp2_with fail
      refine wp_region_held_drew (S := Below wr.heap.size wr) (by kernel_rfl) (Below.refl _ _).drew (fun hHeld => ?_)
      refine takeYes (i := 0) (k := 10) (v := .slice (some ⟨b, off, none⟩) len cap) rfl (by kernel_rfl) (by kernel_rfl) (by kernel_rfl) (by kernel_rfl) (fun _ _ _ h => h) (by kernel_rfl) ?_ (by assumption) ?_
      · intro W hSw; first | (go_simp; done) | go_simp
      try simp only [Act.put, List.setIfInBounds_toArray, List.set_cons_zero, List.set_cons_succ]
      refine takeYes (i := 1) (k := 11) (v := .int .i64 ((q : Int) + 1)) rfl (by kernel_rfl) (by kernel_rfl) (by kernel_rfl) (by kernel_rfl) (fun _ _ _ h => h) (by kernel_rfl) ?_ (by assumption) ?_
      · intro W hSw; first | (go_simp; done) | go_simp
      try simp only [Act.put, List.setIfInBounds_toArray, List.set_cons_zero, List.set_cons_succ]
      refine takeYes (i := 2) (k := 12) (v := .int .i64 (q : Int)) rfl (by kernel_rfl) (by kernel_rfl) (by kernel_rfl) (by kernel_rfl) (fun _ _ _ h => h) (by kernel_rfl) ?_ (by assumption) ?_
      · intro W hSw; first | (go_simp; done) | go_simp
      try simp only [Act.put, List.setIfInBounds_toArray, List.set_cons_zero, List.set_cons_succ]
      refine takeYes (i := 3) (k := 13) (v := .pointer (some ⟨b, off + q * 5, none⟩)) rfl (by kernel_rfl) (by kernel_rfl) (by kernel_rfl) (by kernel_rfl) (fun _ _ _ h => h) (by kernel_rfl) ?_ (by assumption) ?_
      · intro W hSw; first | (go_simp; done) | go_simp
      try simp only [Act.put, List.setIfInBounds_toArray, List.set_cons_zero, List.set_cons_succ]
      refine takeYes (i := 4) (k := 14) (v := .agg #[.string xn, .int .i64 xq, .int .i64 xk, .string xsp, .string xv]) rfl (by kernel_rfl) (by kernel_rfl) (by kernel_rfl) (by kernel_rfl) (fun _ _ _ h => h) (by kernel_rfl) ?_ (by assumption) ?_
      · intro W hSw; obtain ⟨d0, d1, d2, d3, d4⟩ := C1.out.under hblt hSw; first | (go_simp; done) | go_simp
      try simp only [Act.put, List.setIfInBounds_toArray, List.set_cons_zero, List.set_cons_succ]
      refine takeYes (i := 5) (k := 15) (v := .slice (some ⟨b, off, none⟩) len cap) rfl (by kernel_rfl) (by kernel_rfl) (by kernel_rfl) (by kernel_rfl) (fun _ _ _ h => h) (by kernel_rfl) ?_ (by assumption) ?_
      · intro W hSw; first | (go_simp; done) | go_simp
      try simp only [Act.put, List.setIfInBounds_toArray, List.set_cons_zero, List.set_cons_succ]
      refine takeYes (i := 6) (k := 16) (v := .int .i64 ((q : Int) + 1)) rfl (by kernel_rfl) (by kernel_rfl) (by kernel_rfl) (by kernel_rfl) (fun _ _ _ h => h) (by kernel_rfl) ?_ (by assumption) ?_
      · intro W hSw; first | (go_simp; done) | go_simp
      try simp only [Act.put, List.setIfInBounds_toArray, List.set_cons_zero, List.set_cons_succ]
      refine takeYes (i := 7) (k := 17) (v := .pointer (some ⟨b, off + (q + 1) * 5, none⟩)) rfl (by kernel_rfl) (by kernel_rfl) (by kernel_rfl) (by kernel_rfl) (fun _ _ _ h => h) (by kernel_rfl) ?_ (by assumption) ?_
      · intro W hSw; first | (go_simp; done) | go_simp
      try simp only [Act.put, List.setIfInBounds_toArray, List.set_cons_zero, List.set_cons_succ]
      refine takeYes (i := 8) (k := 18) (v := .agg #[.string yn, .int .i64 yq, .int .i64 yk, .string ysp, .string yv]) rfl (by kernel_rfl) (by kernel_rfl) (by kernel_rfl) (by kernel_rfl) (fun _ _ _ h => h) (by kernel_rfl) ?_ (by assumption) ?_
      · intro W hSw; obtain ⟨d0, d1, d2, d3, d4⟩ := C2.out.under hblt hSw; first | (go_simp; done) | go_simp
      try simp only [Act.put, List.setIfInBounds_toArray, List.set_cons_zero, List.set_cons_succ]
      refine wpAnyH_ready (rs := [9]) (by kernel_rfl) (by simp) (AllReadyH.cons rfl (fun K hK => ?_) AllReadyH.nil)
      go_simp
      refine (HC.out _).mono ?_
      rintro e w3 ⟨rfl, hb⟩
      have hb3 : Below wr.heap.size wr w3 := hHeld.trans (hb.mono (by simp))
      refine hK.out _ _ hb3 (fun hHeld2 => ?_)
      clear hK K hHeld hb
      try simp only [Act.put, List.setIfInBounds_toArray, List.set_cons_zero, List.set_cons_succ]
      have HB3 := Lib.hid (HB.out.trans (hb3.mono HB.out.size))
      cases r
      · refine takeYes (i := 10) (k := 20) (v := .bool true) rfl (by kernel_rfl) (by kernel_rfl) (by kernel_rfl) (by kernel_rfl) (fun _ _ _ h => h) (by kernel_rfl) ?_ (by assumption) ?_
        · intro W hSw; first | (go_simp; done) | go_simp
        try simp only [Act.put, List.setIfInBounds_toArray, List.set_cons_zero, List.set_cons_succ]
        refine wpAnyH_done (by kernel_rfl) ?_ _
        have HE := Lib.hid (HF.out rfl)
        clear HF HT HR HC hb3 hHeld2
        go_wp2_with fail
        go_ret
        exact ⟨ret_bool (by rw [← HV.out]; exact HE.out), HB3.out⟩
      · refine takeYes (i := 10) (k := 20) (v := .bool false) rfl (by kernel_rfl) (by kernel_rfl) (by kernel_rfl) (by kernel_rfl) (fun _ _ _ h => h) (by kernel_rfl) ?_ (by assumption) ?_
        · intro W hSw; first | (go_simp; done) | go_simp
        try simp only [Act.put, List.setIfInBounds_toArray, List.set_cons_zero, List.set_cons_succ]
        refine wpAnyH_done (by kernel_rfl) ?_ _
        have HE := Lib.hid (HT.out rfl)
        clear HF HT HR HC hb3 hHeld2
        go_wp2_with fail
        go_roundg (len - (q + 1 + 1))
        case measure => omega
        case rel => exact ⟨q + 1 + 1, by go_num, by omega, by omega, by omega, HE, HB3⟩
    · have HE := Lib.hid (goodTo_all HG.out (by have := HN.out; omega))
      have hd : decide (j < len) = false := decide_eq_false hj
      go_wp2_with fail
      go_ret
      exact ⟨ret_bool (by rw [← HV.out]; exact HE.out), HB.out⟩
end Go.Proofs.YtennpdhnjaemeaaDoor
/- The reference's EqAll: the same entries are told to be the same. -/
namespace Go.Proofs.YtennpdhnjaemeaaDoor
set_option linter.unusedVariables false
open Go.RowKit
theorem eqB_self (x : Ent) : eqB x x = true := by unfold eqB; simp
set_option maxHeartbeats 4000000 in
set_option maxRecDepth 100000 in
theorem eqall_same (v u : Value) (xs : List Ent) (hl : xs.length ≤ 1000000) (w : World) (h1 : RdK encEnt 5 w v xs) (h2 : RdK encEnt 5 w u xs) :
    Calls Tryd.prog 17 #[v, u] w fun e w' => e = .returned (.bool true) ∧ Below w.heap.size w w' := by
  obtain ⟨a, len, cap, rfl, hlen⟩ := rdK_len h1
  obtain ⟨a2, len2, cap2, rfl, hlen2⟩ := rdK_len h2
  obtain rfl : len = len2 := by omega
  have HRD := Lib.hid h1
  have HRE := Lib.hid h2
  have HN := Lib.hid hlen
  have hlm : len ≤ 1000000 := by omega
  have hne : ((len : Int) != (len : Int)) = false := by simp
  clear h1 h2 hlen hlen2 hl
  go_enter Tryd.func17, Tryd.ntmps17
  go_wp2_with fail
  go_loopg [5] len (fun kk vi wr => ∃ i : Nat, vi = .int .i64 i ∧ i ≤ len ∧ len - i ≤ kk ∧ Hid (Below w.heap.size w wr))
  case atStart => exact ⟨0, by go_num, by omega, by omega, Lib.hid (Below.refl _ _)⟩
  case round =>
    obtain ⟨q, rfl, hq, hqk, HB⟩ := hrel
    by_cases hj : q < len
    · obtain ⟨x, hx⟩ : ∃ x, xs[q]? = some x := ⟨xs[q]'(by have := HN.out; omega), List.getElem?_eq_getElem _⟩
      obtain ⟨b, off, rfl, hblt, c1⟩ := (HRD.out.below HB.out).at5 HN.out q x hx
      obtain ⟨b2, off2, rfl, hblt2, c2⟩ := (HRE.out.below HB.out).at5 HN.out q x hx
      have C1 := Lib.hid c1
      have C2 := Lib.hid c2
      have HC : Hid (∀ w, Calls Tryd.prog 24 #[x.v, x.v] w fun e w' => e = .returned (.bool true) ∧ Below w.heap.size w w') := Lib.hid fun w => by have := req_any x x w; rwa [eqB_self] at this
      obtain ⟨xn, xq, xk, xsp, xv⟩ := x
      have bq0 : (0 : Int) ≤ (q : Int) := by omega
      have bq1 : (q : Int) < (len : Int) := by omega
      have hd1 : decide (q < len) = true := decide_eq_true hj
      have tq : ((q : Int)).toNat = q := by omega
      clear hx c1 c2
      go_wp2_with fail
      refine wp_region_held_drew (S := Below wr.heap.size wr) (by kernel_rfl) (Below.refl _ _).drew (fun hHeld => ?_)
      refine takeYes (i := 0) (k := 17) (v := .slice (some ⟨b, off, none⟩) len cap) rfl (by kernel_rfl) (by kernel_rfl) (by kernel_rfl) (by kernel_rfl) (fun _ _ _ h => h) (by kernel_rfl) ?_ (by assumption) ?_
      · intro W hSw; first | (go_simp; done) | go_simp
      try simp only [Act.put, List.setIfInBounds_toArray, List.set_cons_zero, List.set_cons_succ]
      refine takeYes (i := 1) (k := 18) (v := .int .i64 (q : Int)) rfl (by kernel_rfl) (by kernel_rfl) (by kernel_rfl) (by kernel_rfl) (fun _ _ _ h => h) (by kernel_rfl) ?_ (by assumption) ?_
      · intro W hSw; first | (go_simp; done) | go_simp
      try simp only [Act.put, List.setIfInBounds_toArray, List.set_cons_zero, List.set_cons_succ]
      refine takeYes (i := 2) (k := 19) (v := .pointer (some ⟨b, off + q * 5, none⟩)) rfl (by kernel_rfl) (by kernel_rfl) (by kernel_rfl) (by kernel_rfl) (fun _ _ _ h => h) (by kernel_rfl) ?_ (by assumption) ?_
      · intro W hSw; first | (go_simp; done) | go_simp
      try simp only [Act.put, List.setIfInBounds_toArray, List.set_cons_zero, List.set_cons_succ]
      refine takeYes (i := 3) (k := 20) (v := .agg #[.string xn, .int .i64 xq, .int .i64 xk, .string xsp, .string xv]) rfl (by kernel_rfl) (by kernel_rfl) (by kernel_rfl) (by kernel_rfl) (fun _ _ _ h => h) (by kernel_rfl) ?_ (by assumption) ?_
      · intro W hSw; obtain ⟨d0, d1, d2, d3, d4⟩ := C1.out.under hblt hSw; first | (go_simp; done) | go_simp
      try simp only [Act.put, List.setIfInBounds_toArray, List.set_cons_zero, List.set_cons_succ]
      refine takeYes (i := 4) (k := 21) (v := .slice (some ⟨b2, off2, none⟩) len cap2) rfl (by kernel_rfl) (by kernel_rfl) (by kernel_rfl) (by kernel_rfl) (fun _ _ _ h => h) (by kernel_rfl) ?_ (by assumption) ?_
      · intro W hSw; first | (go_simp; done) | go_simp
      try simp only [Act.put, List.setIfInBounds_toArray, List.set_cons_zero, List.set_cons_succ]
      refine takeYes (i := 5) (k := 22) (v := .int .i64 (q : Int)) rfl (by kernel_rfl) (by kernel_rfl) (by kernel_rfl) (by kernel_rfl) (fun _ _ _ h => h) (by kernel_rfl) ?_ (by assumption) ?_
      · intro W hSw; first | (go_simp; done) | go_simp
      try simp only [Act.put, List.setIfInBounds_toArray, List.set_cons_zero, List.set_cons_succ]
      refine takeYes (i := 6) (k := 23) (v := .pointer (some ⟨b2, off2 + q * 5, none⟩)) rfl (by kernel_rfl) (by kernel_rfl) (by kernel_rfl) (by kernel_rfl) (fun _ _ _ h => h) (by kernel_rfl) ?_ (by assumption) ?_
      · intro W hSw; first | (go_simp; done) | go_simp
      try simp only [Act.put, List.setIfInBounds_toArray, List.set_cons_zero, List.set_cons_succ]
      refine takeYes (i := 7) (k := 24) (v := .agg #[.string xn, .int .i64 xq, .int .i64 xk, .string xsp, .string xv]) rfl (by kernel_rfl) (by kernel_rfl) (by kernel_rfl) (by kernel_rfl) (fun _ _ _ h => h) (by kernel_rfl) ?_ (by assumption) ?_
      · intro W hSw; obtain ⟨d0, d1, d2, d3, d4⟩ := C2.out.under hblt2 hSw; first | (go_simp; done) | go_simp
      try simp only [Act.put, List.setIfInBounds_toArray, List.set_cons_zero, List.set_cons_succ]
      refine wpAnyH_ready (rs := [8]) (by kernel_rfl) (by simp) (AllReadyH.cons rfl (fun K hK => ?_) AllReadyH.nil)
      go_simp
      refine (HC.out _).mono ?_
      rintro e w3 ⟨rfl, hb⟩
      have hb3 : Below wr.heap.size wr w3 := hHeld.trans (hb.mono (by simp))
      refine hK.out _ _ hb3 (fun hHeld2 => ?_)
      clear hK K hHeld hb
      try simp only [Act.put, List.setIfInBounds_toArray, List.set_cons_zero, List.set_cons_succ]
      have HB3 := Lib.hid (HB.out.trans (hb3.mono HB.out.size))
      refine takeYes (i := 9) (k := 26) (v := .bool false) rfl (by kernel_rfl) (by kernel_rfl) (by kernel_rfl) (by kernel_rfl) (fun _ _ _ h => h) (by kernel_rfl) ?_ (by assumption) ?_
      · intro W hSw; first | (go_simp; done) | go_simp
      try simp only [Act.put, List.setIfInBounds_toArray, List.set_cons_zero, List.set_cons_succ]
      refine wpAnyH_done (by kernel_rfl) ?_ _
      clear HC hb3 hHeld2
      go_wp2_with fail
      go_roundg (len - (q + 1))
      case measure => omega
      case rel => exact ⟨q + 1, by go_num, by omega, Nat.le_refl _, HB3⟩
    · have hd1 : decide (q < len) = false := decide_eq_false hj
      go_wp2_with fail
      go_ret
      exact ⟨rfl, HB.out⟩
end Go.Proofs.YtennpdhnjaemeaaDoor
/- The walks of sort.Search over Find's test, of Find, the code's and the reference's. -/
namespace Go.Proofs.YtennpdhnjaemeaaDoor
set_option linter.unusedVariables false
open Go.RowKit
/-- where the search ends -/
def Cuts (p : Nat → Bool) (n k : Nat) : Prop := k ≤ n ∧ (∀ i, i < k → p i = false) ∧ ∀ i, k ≤ i → i < n → p i = true
def SearchRes (p : Nat → Bool) (n : Nat) (w : World) (e : Ending) (w' : World) : Prop := ∃ k : Nat, Cuts p n k ∧ e = .returned (.int .i64 k) ∧ Below w.heap.size w w'
set_option maxHeartbeats 4000000 in
theorem search_any (n : Nat) (hn : n ≤ 1000000) (c0 c1 c2 : Value) (p : Nat → Bool) (hp : ∀ i j, i < j → p i = true → p j = true) (w : World)
    (HCC : Hid (∀ W, Below w.heap.size w W → ∀ i, i < n → Calls Tryd.prog 71 #[.int .i64 i, c0, c1, c2] W fun e w' => e = .returned (.bool (p i)) ∧ Below W.heap.size W w')) :
    Calls Tryd.prog 43 #[.int .i64 n, .func (.func 71) #[] #[c0, c1, c2]] w (SearchRes p n w) := by
  have HP := Lib.hid hp
  clear hp
  go_enter Tryd.func43, Tryd.ntmps43
  go_wp2_with fail
  go_loopg [5, 6] n (fun kk vi vj wr => ∃ i j : Nat, vi = .int .i64 i ∧ vj = .int .i64 j ∧ i ≤ j ∧ j ≤ n ∧ j - i ≤ kk ∧ Hid ((∀ m, m < i → p m = false) ∧ ∀ m, j ≤ m → m < n → p m = true) ∧ Hid (Below w.heap.size w wr))
  case atStart => exact ⟨0, n, rfl, rfl, by omega, by omega, by omega, Lib.hid ⟨fun m h => by omega, fun m h h2 => by omega⟩, Lib.hid (Below.refl _ _)⟩
  case round =>
    obtain ⟨i, j, rfl, rfl, hij, hjn, hk, HG, HB⟩ := hrel
    by_cases h : i < j
    · have hi0 : (0 : Int) ≤ (i : Int) := by omega
      have hj0 : (0 : Int) ≤ (j : Int) := by omega
      obtain ⟨m, hm⟩ : ∃ m, (i + j) / 2 = m := ⟨_, rfl⟩
      have em : ((i : Int) + (j : Int)) / 2 = (m : Int) := by omega
      have hm1 : i ≤ m ∧ m < j := by omega
      obtain ⟨r, hr⟩ : ∃ r, p m = r := ⟨_, rfl⟩
      have HR := Lib.hid hr
      have HC : Hid (Calls Tryd.prog 71 #[.int .i64 m, c0, c1, c2] wr fun e w' => e = .returned (.bool r) ∧ Below wr.heap.size wr w') := Lib.hid (by rw [← hr]; exact HCC.out wr HB.out m (by omega))
      clear hr hm
      go_wp2_with fail
      refine HC.out.mono ?_
      rintro e w3 ⟨rfl, hb⟩
      have HB3 := Lib.hid (HB.out.trans (hb.mono HB.out.size))
      clear hb HB HC
      cases r
      · have HG2 : Hid ((∀ l, l < m + 1 → p l = false) ∧ ∀ l, j ≤ l → l < n → p l = true) := Lib.hid ⟨fun l hl => by
          cases hb : p l with
          | false => rfl
          | true =>
            rcases Nat.lt_or_ge l m with h1 | h1
            · have := HP.out l m h1 hb; rw [HR.out] at this; cases this
            · obtain rfl : l = m := by omega
              rw [HR.out] at hb; exact hb.symm, HG.out.2⟩
        clear HR HG
        go_wp2_with fail
        go_roundg (j - (m + 1))
        case measure => omega
        case rel => exact ⟨m + 1, j, by go_num, rfl, by omega, by omega, Nat.le_refl _, HG2, HB3⟩
      · have HG2 : Hid ((∀ l, l < i → p l = false) ∧ ∀ l, m ≤ l → l < n → p l = true) := Lib.hid ⟨HG.out.1, fun l hl hl2 => by
          rcases Nat.lt_or_ge m l with h1 | h1
          · exact HP.out m l h1 HR.out
          · obtain rfl : m = l := by omega
            exact HR.out⟩
        clear HR HG
        go_wp2_with fail
        go_roundg (m - i)
        case measure => omega
        case rel => exact ⟨i, m, rfl, rfl, by omega, by omega, Nat.le_refl _, HG2, HB3⟩
    · have hd : decide (i < j) = false := decide_eq_false h
      have hK : Cuts p n i := ⟨by omega, HG.out.1, fun l hl hl2 => HG.out.2 l (by omega) hl2⟩
      have HK := Lib.hid hK
      clear hK
      go_wp2_with fail
      go_ret
      exact ⟨i, HK.out, rfl, HB.out⟩
/-- What Find's test stands on: the three boxes. -/
def Boxes (w : World) (b : Nat) (v : Value) (n : ByteArray) (q : Int) : Prop := w.cell? ⟨b, 0, none⟩ = some v ∧ w.cell? ⟨b + 1, 0, none⟩ = some (.string n) ∧ w.cell? ⟨b + 1 + 1, 0, none⟩ = some (.int .i64 q) ∧ b + 1 + 1 < w.heap.size
theorem Boxes.below {w w' : World} {B b : Nat} {v : Value} {n : ByteArray} {q : Int} (h : Boxes w b v n q) (hb : Below B w w') (hB : b + 1 + 1 < B) : Boxes w' b v n q := by
  obtain ⟨h0, h1, h2, h3⟩ := h
  exact ⟨(hb.cell (p := ⟨b, 0, none⟩) (by show b < B; omega)).trans h0, (hb.cell (p := ⟨b + 1, 0, none⟩) (by show b + 1 < B; omega)).trans h1, (hb.cell (p := ⟨b + 2, 0, none⟩) hB).trans h2, Nat.lt_of_lt_of_le h3 hb.size⟩
theorem boxes_new (w : World) (v : Value) (n : ByteArray) (q : Int) (T1 T2 T3 : TypeId) (o : Obj) : Boxes ((((w.alloc (.cells #[v] T1)).alloc (.cells #[.string n] T2)).alloc (.cells #[.int .i64 q] T3)).alloc o) w.heap.size v n q := by
  have e1 := heap_alloc_new w (.cells #[v] T1)
  have e2 := heap_alloc_new (w.alloc (.cells #[v] T1)) (.cells #[.string n] T2)
  have e3 := heap_alloc_new ((w.alloc (.cells #[v] T1)).alloc (.cells #[.string n] T2)) (.cells #[.int .i64 q] T3)
  have c0 : (w.alloc (.cells #[v] T1)).cell? ⟨w.heap.size, 0, none⟩ = some v := by unfold World.cell?; rw [e1]; rfl
  have c1 : ((w.alloc (.cells #[v] T1)).alloc (.cells #[.string n] T2)).cell? ⟨w.heap.size + 1, 0, none⟩ = some (.string n) := by unfold World.cell?; simp only [World.size_alloc] at e2; rw [e2]; rfl
  have c2 : (((w.alloc (.cells #[v] T1)).alloc (.cells #[.string n] T2)).alloc (.cells #[.int .i64 q] T3)).cell? ⟨w.heap.size + 1 + 1, 0, none⟩ = some (.int .i64 q) := by unfold World.cell?; simp only [World.size_alloc] at e3; rw [e3]; rfl
  have b1 := (Below.refl _ (w.alloc (.cells #[v] T1))).alloc (Nat.le_refl _) (.cells #[.string n] T2)
  have b2 := (Below.refl _ ((w.alloc (.cells #[v] T1)).alloc (.cells #[.string n] T2))).alloc (Nat.le_refl _) (.cells #[.int .i64 q] T3)
  have b3 := (Below.refl _ (((w.alloc (.cells #[v] T1)).alloc (.cells #[.string n] T2)).alloc (.cells #[.int .i64 q] T3))).alloc (Nat.le_refl _) o
  refine ⟨?_, ?_, ?_, by simp⟩
  · rw [b3.cell (p := ⟨w.heap.size, 0, none⟩) (by simp; omega), b2.cell (p := ⟨w.heap.size, 0, none⟩) (by simp; omega), b1.cell (p := ⟨w.heap.size, 0, none⟩) (by simp)]; exact c0
  · rw [b3.cell (p := ⟨w.heap.size + 1, 0, none⟩) (by simp), b2.cell (p := ⟨w.heap.size + 1, 0, none⟩) (by simp)]; exact c1
  · rw [b3.cell (p := ⟨w.heap.size + 1 + 1, 0, none⟩) (by simp)]; exact c2
def fp (xs : List Ent) (n : ByteArray) (q : Int) (i : Nat) : Bool := match xs[i]? with
  | some e => reachB e n q
  | none => true
set_option maxHeartbeats 4000000 in
theorem find1_any (xs : List Ent) (a : Option Addr) (len cap : Nat) (hn : len = xs.length) (hlm : len ≤ 1000000) (n : ByteArray) (q : Int) (i : Nat) (hi : i < len) (b0 : Nat) (w : World) (hrd : RdK encEnt 5 w (.slice a len cap) xs) (hbx : Boxes w b0 (.slice a len cap) n q) :
    Calls Tryd.prog 71 #[.int .i64 i, .pointer (some ⟨b0, 0, none⟩), .pointer (some ⟨b0 + 1, 0, none⟩), .pointer (some ⟨b0 + 1 + 1, 0, none⟩)] w fun e w' => e = .returned (.bool (fp xs n q i)) ∧ Below w.heap.size w w' := by
  obtain ⟨x, hx⟩ : ∃ x, xs[i]? = some x := ⟨xs[i]'(by omega), List.getElem?_eq_getElem _⟩
  obtain ⟨r, hr⟩ : ∃ r, fp xs n q i = r := ⟨_, rfl⟩
  have hr2 : reachB x n q = r := by rw [← hr]; unfold fp; rw [hx]
  have HC : Hid (∀ w, Calls Tryd.prog 72 #[x.v, .string n, .int .i64 q] w fun e w' => e = .returned (.bool r) ∧ Below w.heap.size w w') := Lib.hid fun w => by rw [← hr2]; exact reaches_any x n q w
  rw [hr]
  obtain ⟨b, off, rfl, hblt, c1⟩ := hrd.at5 hn i x hx
  have C1 := Lib.hid c1
  have HBX := Lib.hid hbx
  obtain ⟨xn, xq, xk, xsp, xv⟩ := x
  have hi0 : (0 : Int) ≤ (i : Int) := by omega
  have hil : (i : Int) < (len : Int) := by omega
  clear hx hr hr2 c1 hbx hrd hn
  go_enter Tryd.func71, Tryd.ntmps71
  go_wp2_with fail
  refine wp_region_held_drew (S := Below w.heap.size w) (by kernel_rfl) (Below.refl _ _).drew (fun hHeld => ?_)
  refine takeYes (i := 0) (k := 6) (v := .slice (some ⟨b, off, none⟩) len cap) rfl (by kernel_rfl) (by kernel_rfl) (by kernel_rfl) (by kernel_rfl) (fun _ _ _ h => h) (by kernel_rfl) ?_ (by assumption) ?_
  · intro W hSw; obtain ⟨d0, d1, d2, -⟩ := HBX.out.below hSw HBX.out.2.2.2; first | (go_simp; done) | go_simp
  try simp only [Act.put, List.setIfInBounds_toArray, List.set_cons_zero, List.set_cons_succ]
  refine takeYes (i := 1) (k := 7) (v := .int .i64 (i : Int)) rfl (by kernel_rfl) (by kernel_rfl) (by kernel_rfl) (by kernel_rfl) (fun _ _ _ h => h) (by kernel_rfl) ?_ (by assumption) ?_
  · intro W hSw; first | (go_simp; done) | go_simp
  try simp only [Act.put, List.setIfInBounds_toArray, List.set_cons_zero, List.set_cons_succ]
  refine takeYes (i := 2) (k := 8) (v := .pointer (some ⟨b, off + i * 5, none⟩)) rfl (by kernel_rfl) (by kernel_rfl) (by kernel_rfl) (by kernel_rfl) (fun _ _ _ h => h) (by kernel_rfl) ?_ (by assumption) ?_
  · intro W hSw; first | (go_simp; done) | go_simp
  try simp only [Act.put, List.setIfInBounds_toArray, List.set_cons_zero, List.set_cons_succ]
  refine takeYes (i := 3) (k := 9) (v := .agg #[.string xn, .int .i64 xq, .int .i64 xk, .string xsp, .string xv]) rfl (by kernel_rfl) (by kernel_rfl) (by kernel_rfl) (by kernel_rfl) (fun _ _ _ h => h) (by kernel_rfl) ?_ (by assumption) ?_
  · intro W hSw; obtain ⟨d0, d1, d2, d3, d4⟩ := C1.out.under hblt hSw; first | (go_simp; done) | go_simp
  try simp only [Act.put, List.setIfInBounds_toArray, List.set_cons_zero, List.set_cons_succ]
  refine takeYes (i := 4) (k := 10) (v := .string n) rfl (by kernel_rfl) (by kernel_rfl) (by kernel_rfl) (by kernel_rfl) (fun _ _ _ h => h) (by kernel_rfl) ?_ (by assumption) ?_
  · intro W hSw; obtain ⟨d0, d1, d2, -⟩ := HBX.out.below hSw HBX.out.2.2.2; first | (go_simp; done) | go_simp
  try simp only [Act.put, List.setIfInBounds_toArray, List.set_cons_zero, List.set_cons_succ]
  refine takeYes (i := 5) (k := 11) (v := .int .i64 q) rfl (by kernel_rfl) (by kernel_rfl) (by kernel_rfl) (by kernel_rfl) (fun _ _ _ h => h) (by kernel_rfl) ?_ (by assumption) ?_
  · intro W hSw; obtain ⟨d0, d1, d2, -⟩ := HBX.out.below hSw HBX.out.2.2.2; first | (go_simp; done) | go_simp
  try simp only [Act.put, List.setIfInBounds_toArray, List.set_cons_zero, List.set_cons_succ]
  refine wpAnyH_ready (rs := [6]) (by kernel_rfl) (by simp) (AllReadyH.cons rfl (fun K hK => ?_) AllReadyH.nil)
  go_simp
  refine (HC.out _).mono ?_
  rintro e w3 ⟨rfl, hb⟩
  have hb3 : Below w.heap.size w w3 := hHeld.trans (hb.mono (by simp))
  refine hK.out _ _ hb3 (fun hHeld2 => ?_)
  clear hK K hHeld hb
  try simp only [Act.put, List.setIfInBounds_toArray, List.set_cons_zero, List.set_cons_succ]
  refine takeYes (i := 7) (k := 5) (v := .bool r) rfl (by kernel_rfl) (by kernel_rfl) (by kernel_rfl) (by kernel_rfl) (fun _ _ _ h => h) (by kernel_rfl) ?_ (by assumption) ?_
  · intro W hSw; first | (go_simp; done) | go_simp
  try simp only [Act.put, List.setIfInBounds_toArray, List.set_cons_zero, List.set_cons_succ]
  refine wpAnyH_done (by kernel_rfl) ?_ _
  go_wp2_with fail
  go_ret
  exact ⟨rfl, hb3⟩
theorem fp_mono {xs : List Ent} (hs : srtB xs = true) (n : ByteArray) (q : Int) : ∀ i j, i < j → fp xs n q i = true → fp xs n q j = true := by
  intro i j hij hi
  have hp := (srtB_pair xs).1 hs
  unfold fp at hi ⊢
  rcases Nat.lt_or_ge j xs.length with h | h
  · rw [List.getElem?_eq_getElem (by omega)] at hi
    rw [List.getElem?_eq_getElem h]
    simp only at hi ⊢
    have hl := List.pairwise_iff_getElem.1 hp i j (by omega) h hij
    have hi2 := of_decide_eq_true hi
    refine decide_eq_true ?_
    unfold ltE at hl
    rcases hi2 with h1 | ⟨h1, h2⟩
    · left
      rcases hl with hl | ⟨hl, -⟩
      · exact bl_trans h1 hl
      · rw [← hl]; exact h1
    · rcases hl with hl | ⟨hl, hl2⟩
      · left; rw [← h1]; exact hl
      · right; exact ⟨by rw [← hl]; exact h1, by omega⟩
  · rw [List.getElem?_eq_none h]
/-- What Find answers. -/
def findV (o : Option Ent) : Value := .tuple #[(o.getD Ent.none).v, .bool o.isSome]
theorem find_none {xs : List Ent} {n : ByteArray} {q : Int} (h : ∀ (i : Nat) (x : Ent), xs[i]? = some x → ¬ (x.norm = n ∧ x.seq ≤ q)) : findE xs n q = none := by
  unfold findE
  rw [List.find?_eq_none]
  intro x hx
  obtain ⟨i, hi, rfl⟩ := List.mem_iff_getElem.1 hx
  have := h i _ (List.getElem?_eq_getElem hi)
  simpa using this
theorem find_some {xs : List Ent} {n : ByteArray} {q : Int} {k : Nat} {x : Ent} (hx : xs[k]? = some x) (h1 : x.norm = n ∧ x.seq ≤ q) (h : ∀ (i : Nat) (y : Ent), i < k → xs[i]? = some y → ¬ (y.norm = n ∧ y.seq ≤ q)) : findE xs n q = some x := by
  obtain ⟨hk, rfl⟩ := List.getElem?_eq_some_iff.1 hx
  unfold findE
  rw [List.find?_eq_some_iff_getElem]
  refine ⟨by simp [h1], k, hk, rfl, fun j hj => ?_⟩
  have := h j _ hj (List.getElem?_eq_getElem (by omega))
  simp only [Bool.not_eq_true', Bool.and_eq_false_imp, decide_eq_true_eq, decide_eq_false_iff_not]
  exact fun e => fun f => this ⟨e, f⟩
theorem fp_no {xs : List Ent} {n : ByteArray} {q : Int} {i : Nat} {x : Ent} (hx : xs[i]? = some x) (h : fp xs n q i = false) : ¬ (x.norm = n ∧ x.seq ≤ q) := by
  unfold fp at h
  rw [hx] at h
  exact fun k => of_decide_eq_false h (.inr k)
/-- The three ends of the search. -/
theorem find_end {xs : List Ent} (hs : srtB xs = true) {n : ByteArray} {q : Int} {k : Nat} (hc : Cuts (fp xs n q) xs.length k) :
    (k = xs.length ∧ findE xs n q = none) ∨ ∃ x, xs[k]? = some x ∧ ((x.norm ≠ n ∧ findE xs n q = none) ∨ (x.norm = n ∧ findE xs n q = some x)) := by
  obtain ⟨h1, h2, h3⟩ := hc
  rcases Nat.lt_or_ge k xs.length with h | h
  · right
    obtain ⟨x, hx⟩ : ∃ x, xs[k]? = some x := ⟨xs[k], List.getElem?_eq_getElem h⟩
    refine ⟨x, hx, ?_⟩
    have hp := h3 k (Nat.le_refl _) h
    unfold fp at hp
    rw [hx] at hp
    have hp2 : bl n x.norm ∨ x.norm = n ∧ x.seq ≤ q := of_decide_eq_true hp
    by_cases e : x.norm = n
    · right
      refine ⟨e, find_some hx ⟨e, ?_⟩ fun i y hi hy => fp_no hy (h2 i hi)⟩
      rcases hp2 with g | g
      · rw [e] at g; exact absurd g (bl_irr _)
      · exact g.2
    · left
      refine ⟨e, find_none fun i y hy => ?_⟩
      have g : bl n x.norm := by
        rcases hp2 with g | g
        · exact g
        · exact absurd g.1 e
      rcases Nat.lt_or_ge i k with hi | hi
      · exact fp_no hy (h2 i hi)
      · rintro ⟨e2, -⟩
        rcases Nat.lt_or_ge k i with hki | hki
        · obtain ⟨hil, rfl⟩ := List.getElem?_eq_some_iff.1 hy
          obtain ⟨hkl, rfl⟩ := List.getElem?_eq_some_iff.1 hx
          have hl := List.pairwise_iff_getElem.1 ((srtB_pair xs).1 hs) k i hkl hil hki
          unfold ltE at hl
          rw [e2] at hl
          rcases hl with hl | ⟨hl, -⟩
          · exact bl_irr _ (bl_trans g hl)
          · exact e hl
        · obtain rfl : i = k := by omega
          rw [hx] at hy
          obtain rfl := Option.some.inj hy
          exact e e2
  · left
    exact ⟨by omega, find_none fun i y hy => fp_no hy (h2 i (by have := (List.getElem?_eq_some_iff.1 hy).1; omega))⟩
theorem findV_none : findV none = .tuple #[.agg #[.string ⟨#[]⟩, .int .i64 0, .int .i64 0, .string ⟨#[]⟩, .string ⟨#[]⟩], .bool false] := rfl
theorem findV_some (x : Ent) : findV (some x) = .tuple #[.agg #[.string x.norm, .int .i64 x.seq, .int .i64 x.kind, .string x.spell, .string x.val], .bool true] := rfl
set_option maxHeartbeats 8000000 in
set_option maxRecDepth 100000 in
theorem find_any (v : Value) (xs : List Ent) (hl : xs.length ≤ 1000000) (hs : srtB xs = true) (n : ByteArray) (q : Int) (w : World) (hrd : RdK encEnt 5 w v xs) :
    Calls Tryd.prog 46 #[v, .string n, .int .i64 q] w fun e w' => e = .returned (findV (findE xs n q)) ∧ Below w.heap.size w w' := by
  obtain ⟨V, hV⟩ : ∃ V, findE xs n q = V := ⟨_, rfl⟩
  obtain ⟨a, len, cap, rfl, hlen⟩ := rdK_len hrd
  have HV := Lib.hid hV
  have HS := Lib.hid hs
  have HRD := Lib.hid hrd
  have HN := Lib.hid hlen
  have hlm : len ≤ 1000000 := by omega
  rw [hV]
  clear hV hs hrd hlen hl
  go_enter Tryd.func46, Tryd.ntmps46
  go_wp2_with fail
  obtain ⟨w1, hw1⟩ : ∃ w1, (((w.alloc (.cells #[.slice a len cap] 22)).alloc (.cells #[.string n] 9)).alloc (.cells #[.int .i64 q] 2)).alloc (.cells #[.string ⟨#[]⟩, .int .i64 0, .int .i64 0, .string ⟨#[]⟩, .string ⟨#[]⟩] 39) = w1 := ⟨_, rfl⟩
  have HBX : Hid (Boxes w1 w.heap.size (.slice a len cap) n q ∧ Row5 w1 (w.heap.size + 1 + 1 + 1) (.string ⟨#[]⟩) (.int .i64 0) (.int .i64 0) (.string ⟨#[]⟩) (.string ⟨#[]⟩) ∧ Below w.heap.size w w1 ∧ w1.heap.size = w.heap.size + 1 + 1 + 1 + 1) := Lib.hid (by
    rw [← hw1]
    refine ⟨boxes_new w _ _ _ _ _ _ _, ?_, ((((Below.refl _ w).alloc (Nat.le_refl _) _).alloc (by simp) _).alloc (by simp; omega) _).alloc (by simp; omega) _, by simp⟩
    have := Row5.new (((w.alloc (.cells #[.slice a len cap] 22)).alloc (.cells #[.string n] 9)).alloc (.cells #[.int .i64 q] 2)) (.string ⟨#[]⟩) (.int .i64 0) (.int .i64 0) (.string ⟨#[]⟩) (.string ⟨#[]⟩) 39
    simpa using this)
  rw [hw1]
  clear hw1
  obtain ⟨hbx1, hr51, hbel1, hsz1⟩ := id HBX.out
  have HSE : Hid (Calls Tryd.prog 43 #[.int .i64 len, .func (.func 71) #[] #[.pointer (some ⟨w.heap.size, 0, none⟩), .pointer (some ⟨w.heap.size + 1, 0, none⟩), .pointer (some ⟨w.heap.size + 1 + 1, 0, none⟩)]] w1 (SearchRes (fp xs n q) len w1)) := Lib.hid
    (search_any len hlm _ _ _ (fp xs n q) (fp_mono HS.out n q) w1 (Lib.hid fun W hW i hi =>
      find1_any xs a len cap HN.out hlm n q i hi w.heap.size W ((HRD.out.below hbel1).below hW) (hbx1.below hW (by omega))))
  clear hbx1 hr51 hbel1 hsz1
  refine HSE.out.mono ?_
  rintro e w2 ⟨k, hcut, rfl, hb2⟩
  have HEND := Lib.hid (find_end HS.out (by have := HN.out; rw [← this]; exact hcut))
  have hk1 := hcut.1
  have HB2 : Hid (Boxes w2 w.heap.size (.slice a len cap) n q ∧ Row5 w2 (w.heap.size + 1 + 1 + 1) (.string ⟨#[]⟩) (.int .i64 0) (.int .i64 0) (.string ⟨#[]⟩) (.string ⟨#[]⟩) ∧ Below w.heap.size w w2 ∧ RdK encEnt 5 w2 (.slice a len cap) xs) := Lib.hid (by
    obtain ⟨h1, h2, h3, h4⟩ := HBX.out
    have h5 := h3.trans (hb2.mono h3.size)
    exact ⟨h1.below hb2 (by omega), h2.below hb2 (by omega), h5, HRD.out.below h5⟩)
  clear hb2 hcut HBX HSE HS HRD
  obtain ⟨⟨x0, x1, x2, -⟩, ⟨⟨z0, z1, z2, z3, z4⟩, ⟨g0, g1, g2, g3, g4⟩, hz⟩, hbel, hrd2⟩ := id HB2.out
  have HBEL := Lib.hid hbel
  have HRD2 := Lib.hid hrd2
  clear hbel hrd2 HB2
  have hki0 : (0 : Int) ≤ (k : Int) := by omega
  rcases id HEND.out with ⟨hk, hf⟩ | ⟨x, hx, ⟨hne, hf⟩ | ⟨heq, hf⟩⟩
  · have HVE : Hid (V = none) := Lib.hid (by rw [← HV.out, hf])
    have hkl : ((k : Int) == (len : Int)) = true := by rw [beq_iff_eq]; have := HN.out; omega
    clear hk hf HEND
    go_wp2_with fail
    go_quiet (fail)
    go_wp2
    refine bodyPost_ret (v := findV none) (by simp [results, Tryd.results46, go_sem, findV_none, z0, z1, z2, z3, z4]) rfl ⟨by rw [HVE.out], ?_⟩
    iterate 5 refine Below.setCell ?_ (by simp; omega) _
    exact HBEL.out.trans (DrN.below ⟨nq, rfl⟩ _)
  · have HVE : Hid (V = none) := Lib.hid (by rw [← HV.out, hf])
    have hkl : k < len := by have := (List.getElem?_eq_some_iff.1 hx).1; have := HN.out; omega
    have hkn : ((k : Int) == (len : Int)) = false := by rw [beq_eq_false_iff_ne]; omega
    have hki : (k : Int) < (len : Int) := by omega
    obtain ⟨b, off, rfl, hblt, d0, d1, d2, d3, d4⟩ := HRD2.out.at5 HN.out k x hx
    obtain ⟨xn, xq, xk, xsp, xv⟩ := x
    simp only at d0 d1 d2 d3 d4 hne
    have hnn := bs_ne hne
    clear hx hf HEND hne
    go_wp2_with fail
    go_quiet (fail)
    go_wp2
    refine bodyPost_ret (v := findV none) (by simp [results, Tryd.results46, go_sem, findV_none, z0, z1, z2, z3, z4]) rfl ⟨by rw [HVE.out], ?_⟩
    iterate 5 refine Below.setCell ?_ (by simp; omega) _
    exact HBEL.out.trans (DrN.below ⟨nq, rfl⟩ _)
  · have HVE : Hid (V = some x) := Lib.hid (by rw [← HV.out, hf])
    have hkl : k < len := by have := (List.getElem?_eq_some_iff.1 hx).1; have := HN.out; omega
    have hkn : ((k : Int) == (len : Int)) = false := by rw [beq_eq_false_iff_ne]; omega
    have hki : (k : Int) < (len : Int) := by omega
    obtain ⟨b, off, rfl, hblt, d0, d1, d2, d3, d4⟩ := HRD2.out.at5 HN.out k x hx
    obtain ⟨xn, xq, xk, xsp, xv⟩ := x
    simp only at d0 d1 d2 d3 d4 heq
    subst heq
    have hnn := bs_refl xn
    clear hx hf HEND
    go_wp2_with fail
    go_quiet (fail)
    go_wp2
    refine bodyPost_ret (v := findV (some ⟨xn, xq, xk, xsp, xv⟩)) (by simp [results, Tryd.results46, go_sem, findV_some, z0, z1, z2, z3, z4]) rfl ⟨by rw [HVE.out], ?_⟩
    iterate 5 refine Below.setCell ?_ (by simp; omega) _
    exact HBEL.out.trans (DrN.below ⟨nq, rfl⟩ _)
set_option maxHeartbeats 8000000 in
set_option maxRecDepth 100000 in
theorem rfind_any (v : Value) (xs : List Ent) (hl : xs.length ≤ 1000000) (n : ByteArray) (q : Int) (w : World) (hrd : RdK encEnt 5 w v xs) :
    Calls Tryd.prog 40 #[v, .string n, .int .i64 q] w fun e w' => e = .returned (findV (findE xs n q)) ∧ Below w.heap.size w w' := by
  obtain ⟨V, hV⟩ : ∃ V, findE xs n q = V := ⟨_, rfl⟩
  obtain ⟨a, len, cap, rfl, hlen⟩ := rdK_len hrd
  have HV := Lib.hid hV
  have HRD := Lib.hid hrd
  have HN := Lib.hid hlen
  have hlm : len ≤ 1000000 := by omega
  rw [hV]
  clear hV hrd hlen hl
  go_enter Tryd.func40, Tryd.ntmps40
  go_wp2_with fail
  obtain ⟨w1, hw1⟩ : ∃ w1, w.alloc (.cells #[.string ⟨#[]⟩, .int .i64 0, .int .i64 0, .string ⟨#[]⟩, .string ⟨#[]⟩] 39) = w1 := ⟨_, rfl⟩
  have HR5 : Hid (Row5 w1 w.heap.size (.string ⟨#[]⟩) (.int .i64 0) (.int .i64 0) (.string ⟨#[]⟩) (.string ⟨#[]⟩)) := Lib.hid (by rw [← hw1]; exact Row5.new w _ _ _ _ _ _)
  have HB1 : Hid (Below w.heap.size w w1) := Lib.hid (by rw [← hw1]; exact (Below.refl _ w).alloc (Nat.le_refl _) _)
  have HRD1 := Lib.hid (HRD.out.below HB1.out)
  rw [hw1]
  clear hw1 HRD
  go_loopg [8] len (fun kk vi wr => ∃ i : Nat, vi = .int .i64 i ∧ i ≤ len ∧ len - i ≤ kk ∧ wr = w1 ∧ Hid (∀ (m : Nat) (y : Ent), m < i → xs[m]? = some y → ¬ (y.norm = n ∧ y.seq ≤ q)))
  case atStart => exact ⟨0, rfl, by omega, by omega, rfl, Lib.hid fun m y h => by omega⟩
  case round =>
    obtain ⟨k, rfl, hk1, hkk, rfl, HG⟩ := hrel
    obtain ⟨⟨z0, z1, z2, z3, z4⟩, ⟨g0, g1, g2, g3, g4⟩, hz⟩ := id HR5.out
    have hki0 : (0 : Int) ≤ (k : Int) := by omega
    by_cases hkl : k < len
    · obtain ⟨x, hx⟩ : ∃ x, xs[k]? = some x := ⟨xs[k]'(by have := HN.out; omega), List.getElem?_eq_getElem _⟩
      have hki : (k : Int) < (len : Int) := by omega
      obtain ⟨b, off, rfl, hblt, d0, d1, d2, d3, d4⟩ := HRD1.out.at5 HN.out k x hx
      have HX := Lib.hid hx
      clear hx
      obtain ⟨xn, xq, xk, xsp, xv⟩ := x
      simp only at d0 d1 d2 d3 d4
      have next : ¬ (xn = n ∧ xq ≤ q) → Hid (∀ (m : Nat) (y : Ent), m < k + 1 → xs[m]? = some y → ¬ (y.norm = n ∧ y.seq ≤ q)) := fun hno => Lib.hid fun m y hm hy => by
        rcases Nat.lt_or_ge m k with h | h
        · exact HG.out m y h hy
        · obtain rfl : m = k := by omega
          rw [HX.out] at hy
          obtain rfl := Option.some.inj hy
          exact hno
      by_cases h1 : xn = n
      · by_cases h2 : xq ≤ q
        · have HVE : Hid (V = some ⟨xn, xq, xk, xsp, xv⟩) := Lib.hid (by rw [← HV.out]; exact find_some HX.out ⟨h1, h2⟩ HG.out)
          subst h1
          have hnn := bs_refl xn
          clear next HG
          go_wp2
          refine bodyPost_ret (v := findV (some ⟨xn, xq, xk, xsp, xv⟩)) (by simp [results, Tryd.results40, go_sem, findV_some, z0, z1, z2, z3, z4]) rfl ⟨by rw [HVE.out], ?_⟩
          iterate 5 refine Below.setCell ?_ (by simp) _
          exact HB1.out
        · have HN2 := next (fun h => h2 h.2)
          subst h1
          have hnn := bs_refl xn
          clear next HG
          go_wp2
          go_roundg (len - (k + 1))
          case measure => omega
          case rel => exact ⟨k + 1, by go_num, by omega, Nat.le_refl _, rfl, HN2⟩
      · have HN2 := next (fun h => h1 h.1)
        have hnn := bs_ne h1
        clear next HG h1
        go_wp2
        go_roundg (len - (k + 1))
        case measure => omega
        case rel => exact ⟨k + 1, by go_num, by omega, Nat.le_refl _, rfl, HN2⟩
    · have HVE : Hid (V = none) := Lib.hid (by
        rw [← HV.out]; exact find_none fun m y hy => HG.out m y (by have := (List.getElem?_eq_some_iff.1 hy).1; have := HN.out; omega) hy)
      have hd : decide (k < len) = false := decide_eq_false hkl
      clear HG
      go_wp2
      refine bodyPost_ret (v := findV none) (by simp [results, Tryd.results40, go_sem, findV_none, z0, z1, z2, z3, z4]) rfl ⟨by rw [HVE.out], ?_⟩
      iterate 5 refine Below.setCell ?_ (by simp) _
      exact HB1.out
end Go.Proofs.YtennpdhnjaemeaaDoor
/- The walk of the laws' CutAll; entries inserted: the two appends. -/
namespace Go.Proofs.YtennpdhnjaemeaaDoor
set_option linter.unusedVariables false
open Go.RowKit
theorem elem_ent : ElemK Tryd.prog 22 39 5 64 (.agg #[.string ⟨#[]⟩, .int .i64 0, .int .i64 0, .string ⟨#[]⟩, .string ⟨#[]⟩]) := ⟨Tryd.underlying22, by kernel_rfl, rfl, by decide⟩
theorem enc_cells (e : Ent) : ∀ u ∈ encEnt e, u.oneCell' = true := fun u hu => encEnt_one [e] u (by simpa using hu)
/-- The two appends that lay e between the first j entries and the others. -/
theorem eins_run {w : World} {a : Option Addr} {n cap : Nat} {xs : List Ent} (h : RdK encEnt 5 w (.slice a n cap) xs) (hn : n = xs.length) {B : Nat} (hB : B ≤ w.heap.size) (j : Nat) (hj : j ≤ n) (hx : xs.length ≤ 1000000) (e : Ent) :
    ∃ v1 w1, (Builtin.append_ #[22, 22] 22 #[.slice (some ⟨w.heap.size, 0, none⟩) 1 1, .slice (if cap = j then a else a.map (·.add (j * 5))) (n - j) (cap - j)]).run Tryd.prog (w.alloc (.cells (encEnt e).toArray 39)).drew = .ok v1 w1 ∧ Below w.heap.size w w1 ∧
      ∃ v2 w2, (Builtin.append_ #[22, 22] 22 #[.slice a j j, v1]).run Tryd.prog w1 = .ok v2 w2 ∧ Below w.heap.size w w2 ∧ OwnK encEnt 5 39 B w2 v2 (xs.take j ++ e :: xs.drop j) := by
  have hal : Below w.heap.size w (w.alloc (.cells (encEnt e).toArray 39)).drew := ((Below.refl _ w).alloc (Nat.le_refl _) _).drew
  have hT := (h.rest j hj).below hal
  have hO : OwnK encEnt 5 39 w.heap.size (w.alloc (.cells (encEnt e).toArray 39)).drew (.slice (some ⟨w.heap.size, 0, none⟩) 1 1) [e] := own_oneK (E := 39) encEnt_len w e
  obtain ⟨v1, w1, r1, o1, b1⟩ := run_appK (ty := 22) elem_ent encEnt_len hO hT (encEnt_one _) (by rw [List.length_drop]; simp; omega) (by rw [List.length_drop]; simp [maxLen]; omega) (by simp [World.drew])
  have B1 : Below w.heap.size w w1 := hal.trans b1
  obtain ⟨f1, f2, f3⟩ := h.front j hj
  have hF := f1.below B1
  obtain ⟨v2, w2, r2, o2, b2⟩ := run_appFK (ty := 22) elem_ent encEnt_len (B := B) hF (a := a) (by rw [f2]) f3 (o1.rd encEnt_len) (by simp) (by rw [f2, List.length_append, List.length_drop]; simp; omega) (by rw [f2, List.length_append, List.length_drop]; simp [maxLen]; omega) (Nat.le_trans hB B1.size)
  exact ⟨v1, w1, r1, B1, v2, w2, r2, B1.trans (b2.mono B1.size), o2⟩
/-- What CutAll answers: some entries, of the call's own. -/
def SomeE (n : Nat) (w : World) (e : Ending) (w' : World) : Prop := ∃ v xs, e = .returned v ∧ OwnK encEnt 5 39 w.heap.size w' v xs ∧ xs.length ≤ n ∧ Below w.heap.size w w'
/-- What an entry that was cut is. -/
def CutOk (c : Ent) : Prop := c.norm.size ≤ 30 ∧ c.spell.size ≤ 30 ∧ c.val.size ≤ 60 ∧ (Lit.int .i64 c.seq).wf = true ∧ (Lit.int .i64 c.kind).wf = true
theorem cutOk_snoc {ys : List Ent} (h : ∀ y ∈ ys, CutOk y) {e c : Ent} (he : e.ok) (h1 : c.seq = e.seq) (h2 : c.kind = e.kind) (h3 : c.norm.size ≤ 30) (h4 : c.spell.size ≤ 30) (h5 : c.val.size ≤ 60) : ∀ y ∈ ys ++ [c], CutOk y := fun y hy => by
  rcases List.mem_append.1 hy with hy | hy
  · exact h y hy
  · rw [List.mem_singleton.1 hy]
    exact ⟨h3, h4, h5, by rw [h1]; exact he.2.2.2.1, by rw [h2]; exact he.2.2.2.2⟩
/-- What CutAll answers: some entries, cut, of the call's own. -/
def SomeG (n : Nat) (w : World) (e : Ending) (w' : World) : Prop := ∃ v xs, e = .returned v ∧ OwnK encEnt 5 39 w.heap.size w' v xs ∧ (∀ x ∈ xs, CutOk x) ∧ xs.length ≤ n ∧ Below w.heap.size w w'
set_option maxHeartbeats 4000000 in
set_option maxRecDepth 100000 in
theorem cutallN_any (N : Nat) (hN : N ≤ 1000) (v : Value) (xs : List Ent) (hok : ∀ e ∈ xs, e.ok) (w : World) (hrd : RdK encEnt 5 w v xs) :
    Calls Tryd.prog 20 #[v, .int .i64 (N : Int)] w (SomeG N w) := by
  obtain ⟨a, len, cap, rfl, hlen⟩ := rdK_len hrd
  have HOK := Lib.hid hok
  have HRD := Lib.hid hrd
  have HN := Lib.hid hlen
  clear hrd hlen hok
  go_enter Tryd.func20, Tryd.ntmps20
  go_wp2_with fail
  go_loopg [5, 6] len (fun kk vo vi wr => ∃ (i : Nat) (ys : List Ent), vi = .int .i64 i ∧ i ≤ len ∧ i ≤ N ∧ len - i ≤ kk ∧ ys.length ≤ i ∧ Hid (∀ y ∈ ys, CutOk y) ∧ Hid (OwnK encEnt 5 39 w.heap.size wr vo ys ∧ Below w.heap.size w wr))
  case atStart => exact ⟨0, [], rfl, by omega, by omega, by omega, by simp, Lib.hid (fun y hy => absurd hy List.not_mem_nil), Lib.hid ⟨OwnK.nil _ _ _ _ _, Below.refl _ _⟩⟩
  case round =>
    obtain ⟨i, ys, rfl, hi, hiN, hik, hys, HY, HO⟩ := hrel
    have hi0 : (0 : Int) ≤ (i : Int) := by omega
    by_cases h1 : i < len
    · have hd1 : decide (i < len) = true := decide_eq_true h1
      by_cases h2 : i < N
      · have h2i : (i : Int) < (N : Int) := by omega
        have hil : (i : Int) < (len : Int) := by omega
        obtain ⟨x, hx⟩ : ∃ x, xs[i]? = some x := ⟨xs[i]'(by have := HN.out; omega), List.getElem?_eq_getElem _⟩
        obtain ⟨b, off, rfl, hblt, d0, d1, d2, d3, d4⟩ := (HRD.out.below HO.out.2).at5 HN.out i x hx
        have HC : Hid (∀ w, Calls Tryd.prog 26 #[x.v] w (CutE x w)) := Lib.hid (ecut_any x (HOK.out x (List.mem_of_getElem? hx)))
        have HXO := Lib.hid (HOK.out x (List.mem_of_getElem? hx))
        obtain ⟨xn, xq, xk, xsp, xv⟩ := x
        simp only at d0 d1 d2 d3 d4
        clear hx
        go_wp2_with fail
        refine (HC.out _).mono ?_
        rintro e w2 ⟨⟨cn, cq, ck, csp, cv⟩, rfl, q1, q2, q3, q4, q5, hb⟩
        have HY2 : Hid (∀ y ∈ ys ++ [(⟨cn, cq, ck, csp, cv⟩ : Ent)], CutOk y) := Lib.hid (cutOk_snoc HY.out HXO.out q1 q2 q3 q4 q5)
        clear q1 q2 q3 q4 q5 HXO HY
        have HO2 : Hid (OwnK encEnt 5 39 w.heap.size w2 _ ys ∧ Below w.heap.size w w2) := Lib.hid ⟨HO.out.1.below hb, HO.out.2.trans (hb.mono HO.out.2.size)⟩
        clear hb HO d0 d1 d2 d3 d4 HC
        unfold Ent.v
        go_wp2_with (at_builtin; refine wp_appHK elem_ent encEnt_len _ _ (by rfl) (by rfl) (by rfl) HO2.out.1 ⟨cn, cq, ck, csp, cv⟩ _ (by rfl) (by rfl) ?c1 ?c2 ?c3 ?c4 ?_)
        case c1 => exact enc_cells _
        case c2 => omega
        case c3 => unfold maxLen; omega
        case c4 => exact HO2.out.2.size
        intro v' w3 o3 b3
        have HO3 : Hid (OwnK encEnt 5 39 w.heap.size w3 v' (ys ++ [⟨cn, cq, ck, csp, cv⟩]) ∧ Below w.heap.size w w3) := Lib.hid ⟨o3, HO2.out.2.trans b3⟩
        clear o3 b3 HO2
        go_wp2_with fail
        go_roundg (len - (i + 1))
        case measure => omega
        case rel => exact ⟨i + 1, _, by go_num, by omega, by omega, Nat.le_refl _, by simp; omega, HY2, HO3⟩
      · have h2i : ¬ (i : Int) < (N : Int) := by omega
        go_wp2_with fail
        go_ret
        exact ⟨_, _, rfl, HO.out.1, HY.out, by omega, HO.out.2⟩
    · have hd1 : decide (i < len) = false := decide_eq_false h1
      go_wp2_with fail
      go_ret
      exact ⟨_, _, rfl, HO.out.1, HY.out, by omega, HO.out.2⟩
theorem cutall_any (v : Value) (xs : List Ent) (hok : ∀ e ∈ xs, e.ok) (w : World) (hrd : RdK encEnt 5 w v xs) :
    Calls Tryd.prog 20 #[v, .int .i64 30] w (SomeE 30 w) :=
  (cutallN_any 30 (by omega) v xs hok w hrd).mono fun _ _ ⟨v, xs, h1, h2, _, h4, h5⟩ => ⟨v, xs, h1, h2, h4, h5⟩
end Go.Proofs.YtennpdhnjaemeaaDoor
/- The walk of the reference's Into: an entry comes into sorted ones. -/
namespace Go.Proofs.YtennpdhnjaemeaaDoor
set_option linter.unusedVariables false
open Go.RowKit
def IntoRes (ys : List Ent) (w : World) (e : Ending) (w' : World) : Prop := ∃ v, e = .returned v ∧ OwnK encEnt 5 39 w.heap.size w' v ys ∧ Below w.heap.size w w'
theorem sl_hm5 (W : World) (a : Option Addr) (n cap k : Nat) (h : k ≤ n) (hc : n ≤ cap) :
    (Instr.sliceAt 22 (.slice a n cap) none (some (.int .i64 (k : Int))) (some (.int .i64 (k : Int)))).run Tryd.prog W = .ok (.slice a k k) W := by
  have hT : Tryd.prog.underlying 22 = some (.slice (Tryd.prog.elem 22)) := by kernel_rfl
  have hS : (sizeOf (Tryd.prog.elem 22)).run Tryd.prog W = .ok 5 W := by kernel_rfl
  rw [run_sliceAt_slice (h := hT), run_slice_hm (w := W) (t := 22) (a := a) (len := n) (cap := cap) (ht := hT) (kh := .i64) (km := .i64) (h := k) (m := k) (h0 := by omega) (h2 := by omega) (h3 := by omega), hS]
  have e : a.map (·.add 0) = a := by
    cases a with
    | none => rfl
    | some a => obtain ⟨b, o, x⟩ := a; simp only [Option.map_some]; unfold Addr.add; split <;> simp_all
  simp [Result.andThen, sliced, e]
theorem sl_l5 (W : World) (a : Option Addr) (n cap k : Nat) (h : k ≤ n) (hc : n ≤ cap) :
    (Instr.sliceAt 22 (.slice a n cap) (some (.int .i64 (k : Int))) none none).run Tryd.prog W = .ok (.slice (if cap = k then a else a.map (·.add (k * 5))) (n - k) (cap - k)) W := by
  have hT : Tryd.prog.underlying 22 = some (.slice (Tryd.prog.elem 22)) := by kernel_rfl
  have hS : (sizeOf (Tryd.prog.elem 22)).run Tryd.prog W = .ok 5 W := by kernel_rfl
  rw [run_sliceAt_slice (h := hT), run_slice_l (w := W) (t := 22) (a := a) (len := n) (cap := cap) (ht := hT) (kl := .i64) (l := k) (h0 := by omega) (h1 := by omega), hS]
  simp [Result.andThen, sliced]
set_option maxHeartbeats 8000000 in
set_option maxRecDepth 100000 in
theorem into_any (a : Option Addr) (len cap : Nat) (xs : List Ent) (hl : xs.length ≤ 1000) (hlc : len ≤ cap) (hcm : cap ≤ maxLen) (x : Ent) (w : World) (hrd : RdK encEnt 5 w (.slice a len cap) xs) :
    Calls Tryd.prog 27 #[.slice a len cap, x.v] w (IntoRes (intoE x xs) w) := by
  obtain ⟨ZS, hZS⟩ : ∃ ZS, intoE x xs = ZS := ⟨_, rfl⟩
  have HZ := Lib.hid hZS
  have hlen : len = xs.length := by
    obtain ⟨a', l', c', e, h⟩ := rdK_len hrd
    simp only [Value.slice.injEq] at e
    omega
  rw [hZS]
  have HRD := Lib.hid hrd
  have HN := Lib.hid hlen
  have HCL : Hid (∀ (y : Ent) (w : World), Calls Tryd.prog 41 #[x.v, y.v] w fun e w' => e = .returned (.bool (ltB x y)) ∧ Below w.heap.size w w') := Lib.hid fun y w => rless_any x y w
  have HINS : Hid (∀ (W : World) (k : Nat), Below w.heap.size w W → k ≤ len → _) := Lib.hid fun W k hW hk => eins_run (HRD.out.below hW) hlen hW.size k hk (by omega) x
  have hlm : len ≤ 1000 := by omega
  unfold maxLen at hcm
  clear hZS hrd hlen hl
  obtain ⟨xn, xq, xk, xsp, xv⟩ := x
  unfold Ent.v
  go_enter Tryd.func27, Tryd.ntmps27
  go_wp2_with fail
  obtain ⟨w1, hw1⟩ : ∃ w1, w.alloc (.cells #[.string xn, .int .i64 xq, .int .i64 xk, .string xsp, .string xv] 39) = w1 := ⟨_, rfl⟩
  have HR5 : Hid (Row5 w1 w.heap.size (.string xn) (.int .i64 xq) (.int .i64 xk) (.string xsp) (.string xv) ∧ Below w.heap.size w w1) := Lib.hid (by rw [← hw1]; exact ⟨Row5.new w _ _ _ _ _ _, (Below.refl _ w).alloc (Nat.le_refl _) _⟩)
  rw [hw1]
  clear hw1
  go_loopg [5] len (fun kk vi wr => ∃ i : Nat, vi = .int .i64 i ∧ i ≤ len ∧ len - i ≤ kk ∧ Hid (Below w1.heap.size w1 wr) ∧ Hid (∀ (m : Nat) (y : Ent), m < i → xs[m]? = some y → ¬ ltE ⟨xn, xq, xk, xsp, xv⟩ y))
  case atStart => exact ⟨0, rfl, by omega, by omega, Lib.hid (Below.refl _ _), Lib.hid fun m y h => by omega⟩
  case round =>
    obtain ⟨k, rfl, hk1, hkk, HB, HG⟩ := hrel
    have hk0 : (0 : Int) ≤ (k : Int) := by omega
    have HR6 := Lib.hid (HR5.out.1.below HB.out HR5.out.1.2.2)
    have HBW : Hid (Below w.heap.size w wr) := Lib.hid (HR5.out.2.trans (HB.out.mono HR5.out.2.size))
    have hEnd : ∀ w2, Below wr.heap.size wr w2 → (k = len ∨ ∃ y, xs[k]? = some y ∧ ltE ⟨xn, xq, xk, xsp, xv⟩ y) → Hid (Below w.heap.size w w2 ∧ Row5 w2 w.heap.size (.string xn) (.int .i64 xq) (.int .i64 xk) (.string xsp) (.string xv) ∧ ZS = xs.take k ++ ⟨xn, xq, xk, xsp, xv⟩ :: xs.drop k) := fun w2 hb he => Lib.hid
      ⟨HBW.out.trans (hb.mono HBW.out.size), HR6.out.below hb HR6.out.2.2, by
        rw [← HZ.out]
        refine intoE_at xs _ k (fun j y hj hy => HG.out j y hj hy) (fun y hy => ?_) (by have := HN.out; omega)
        rcases he with he | ⟨y', hy', hlt⟩
        · have := (List.getElem?_eq_some_iff.1 hy).1; have := HN.out; omega
        · rw [hy] at hy'; rw [Option.some.inj hy']; exact hlt⟩
    by_cases hkl : k < len
    · have hkn : decide (k < len) = true := decide_eq_true hkl
      have hki : (k : Int) < (len : Int) := by omega
      obtain ⟨y, hy⟩ : ∃ y, xs[k]? = some y := ⟨xs[k]'(by have := HN.out; omega), List.getElem?_eq_getElem _⟩
      obtain ⟨b, off, rfl, hblt, c1⟩ := (HRD.out.below HBW.out).at5 HN.out k y hy
      have C1 := Lib.hid c1
      obtain ⟨r, hr⟩ : ∃ r, ltB ⟨xn, xq, xk, xsp, xv⟩ y = r := ⟨_, rfl⟩
      have HC : Hid (∀ w, Calls Tryd.prog 41 #[(⟨xn, xq, xk, xsp, xv⟩ : Ent).v, y.v] w fun e w' => e = .returned (.bool r) ∧ Below w.heap.size w w') := Lib.hid fun w => by rw [← hr]; exact HCL.out y w
      have hEndT : r = true → ∀ w2, Below wr.heap.size wr w2 → _ := fun h w2 hb => hEnd w2 hb (.inr ⟨y, hy, of_decide_eq_true (by rw [← h]; exact hr)⟩)
      have HT := Lib.hid hEndT
      have HF : Hid (r = false → ∀ (m : Nat) (z : Ent), m < k + 1 → xs[m]? = some z → ¬ ltE ⟨xn, xq, xk, xsp, xv⟩ z) := Lib.hid fun h m z hm hz => by
        rcases Nat.lt_or_ge m k with h1 | h1
        · exact HG.out m z h1 hz
        · obtain rfl : m = k := by omega
          rw [hy] at hz
          obtain rfl := Option.some.inj hz
          exact of_decide_eq_false (by rw [← h]; exact hr)
      obtain ⟨yn, yq, yk, ysp, yv⟩ := y
      clear hy hr c1 hEnd hEndT
      go_wp2_with fail
      refine wp_region_held_drew (S := Below wr.heap.size wr) (by kernel_rfl) (Below.refl _ _).drew (fun hHeld => ?_)
      refine takeYes (i := 0) (k := 6) (v := .int .i64 (k : Int)) rfl (by kernel_rfl) (by kernel_rfl) (by kernel_rfl) (by kernel_rfl) (fun _ _ _ h => h) (by kernel_rfl) ?_ (by assumption) ?_
      · intro W hSw; first | (go_simp; done) | go_simp
      try simp only [Act.put, List.setIfInBounds_toArray, List.set_cons_zero, List.set_cons_succ]
      refine takeYes (i := 1) (k := 7) (v := .slice (some ⟨b, off, none⟩) len cap) rfl (by kernel_rfl) (by kernel_rfl) (by kernel_rfl) (by kernel_rfl) (fun _ _ _ h => h) (by kernel_rfl) ?_ (by assumption) ?_
      · intro W hSw; first | (go_simp; done) | go_simp
      try simp only [Act.put, List.setIfInBounds_toArray, List.set_cons_zero, List.set_cons_succ]
      refine takeYes (i := 2) (k := 8) (v := .int .i64 (len : Int)) rfl (by kernel_rfl) (by kernel_rfl) (by kernel_rfl) (by kernel_rfl) (fun _ _ _ h => h) (by kernel_rfl) ?_ (by assumption) ?_
      · intro W hSw; first | (go_simp; done) | go_simp
      try simp only [Act.put, List.setIfInBounds_toArray, List.set_cons_zero, List.set_cons_succ]
      refine takeYes (i := 3) (k := 9) (v := .bool true) rfl (by kernel_rfl) (by kernel_rfl) (by kernel_rfl) (by kernel_rfl) (fun _ _ _ h => h) (by kernel_rfl) ?_ (by assumption) ?_
      · intro W hSw; first | (go_simp; done) | go_simp
      try simp only [Act.put, List.setIfInBounds_toArray, List.set_cons_zero, List.set_cons_succ]
      refine takeYes (i := 4) (k := 10) (v := .bool true) rfl (by kernel_rfl) (by kernel_rfl) (by kernel_rfl) (by kernel_rfl) (fun _ _ _ h => h) (by kernel_rfl) ?_ (by assumption) ?_
      · intro W hSw; first | (go_simp; done) | go_simp
      try simp only [Act.put, List.setIfInBounds_toArray, List.set_cons_zero, List.set_cons_succ]
      refine takeYes (i := 5) (k := 11) (v := .agg #[.string xn, .int .i64 xq, .int .i64 xk, .string xsp, .string xv]) rfl (by kernel_rfl) (by kernel_rfl) (by kernel_rfl) (by kernel_rfl) (fun _ _ _ h => h) (by kernel_rfl) ?_ (by assumption) ?_
      · intro W hSw; obtain ⟨⟨d0, d1, d2, d3, d4⟩, -, -⟩ := HR6.out.below hSw HR6.out.2.2; first | (go_simp; done) | go_simp
      try simp only [Act.put, List.setIfInBounds_toArray, List.set_cons_zero, List.set_cons_succ]
      refine takeYes (i := 6) (k := 12) (v := .slice (some ⟨b, off, none⟩) len cap) rfl (by kernel_rfl) (by kernel_rfl) (by kernel_rfl) (by kernel_rfl) (fun _ _ _ h => h) (by kernel_rfl) ?_ (by assumption) ?_
      · intro W hSw; first | (go_simp; done) | go_simp
      try simp only [Act.put, List.setIfInBounds_toArray, List.set_cons_zero, List.set_cons_succ]
      refine takeYes (i := 7) (k := 13) (v := .int .i64 (k : Int)) rfl (by kernel_rfl) (by kernel_rfl) (by kernel_rfl) (by kernel_rfl) (fun _ _ _ h => h) (by kernel_rfl) ?_ (by assumption) ?_
      · intro W hSw; first | (go_simp; done) | go_simp
      try simp only [Act.put, List.setIfInBounds_toArray, List.set_cons_zero, List.set_cons_succ]
      refine takeYes (i := 8) (k := 14) (v := .pointer (some ⟨b, off + k * 5, none⟩)) rfl (by kernel_rfl) (by kernel_rfl) (by kernel_rfl) (by kernel_rfl) (fun _ _ _ h => h) (by kernel_rfl) ?_ (by assumption) ?_
      · intro W hSw; first | (go_simp; done) | go_simp
      try simp only [Act.put, List.setIfInBounds_toArray, List.set_cons_zero, List.set_cons_succ]
      refine takeYes (i := 9) (k := 15) (v := .agg #[.string yn, .int .i64 yq, .int .i64 yk, .string ysp, .string yv]) rfl (by kernel_rfl) (by kernel_rfl) (by kernel_rfl) (by kernel_rfl) (fun _ _ _ h => h) (by kernel_rfl) ?_ (by assumption) ?_
      · intro W hSw; obtain ⟨d0, d1, d2, d3, d4⟩ := C1.out.under hblt hSw; first | (go_simp; done) | go_simp
      try simp only [Act.put, List.setIfInBounds_toArray, List.set_cons_zero, List.set_cons_succ]
      refine wpAnyH_ready (rs := [10]) (by kernel_rfl) (by simp) (AllReadyH.cons rfl (fun K hK => ?_) AllReadyH.nil)
      go_simp
      refine (HC.out _).mono ?_
      rintro e w3 ⟨rfl, hb⟩
      have hb3 : Below wr.heap.size wr w3 := hHeld.trans (hb.mono (by simp))
      refine hK.out _ _ hb3 (fun hHeld2 => ?_)
      clear hK K hHeld hb
      try simp only [Act.put, List.setIfInBounds_toArray, List.set_cons_zero, List.set_cons_succ]
      have HB3 := Lib.hid (HB.out.trans (hb3.mono HB.out.size))
      cases r
      · refine takeYes (i := 11) (k := 17) (v := .bool true) rfl (by kernel_rfl) (by kernel_rfl) (by kernel_rfl) (by kernel_rfl) (fun _ _ _ h => h) (by kernel_rfl) ?_ (by assumption) ?_
        · intro W hSw; first | (go_simp; done) | go_simp
        try simp only [Act.put, List.setIfInBounds_toArray, List.set_cons_zero, List.set_cons_succ]
        refine takeYes (i := 12) (k := 18) (v := .bool true) rfl (by kernel_rfl) (by kernel_rfl) (by kernel_rfl) (by kernel_rfl) (fun _ _ _ h => h) (by kernel_rfl) ?_ (by assumption) ?_
        · intro W hSw; first | (go_simp; done) | go_simp
        try simp only [Act.put, List.setIfInBounds_toArray, List.set_cons_zero, List.set_cons_succ]
        refine wpAnyH_done (by kernel_rfl) ?_ _
        have HE := Lib.hid (HF.out rfl)
        clear HF HT HC hb3 hHeld2
        go_wp2_with fail
        go_roundg (len - (k + 1))
        case measure => omega
        case rel => exact ⟨k + 1, by go_num, by omega, Nat.le_refl _, HB3, HE⟩
      · refine takeYes (i := 11) (k := 17) (v := .bool false) rfl (by kernel_rfl) (by kernel_rfl) (by kernel_rfl) (by kernel_rfl) (fun _ _ _ h => h) (by kernel_rfl) ?_ (by assumption) ?_
        · intro W hSw; first | (go_simp; done) | go_simp
        try simp only [Act.put, List.setIfInBounds_toArray, List.set_cons_zero, List.set_cons_succ]
        refine takeYes (i := 12) (k := 18) (v := .bool false) rfl (by kernel_rfl) (by kernel_rfl) (by kernel_rfl) (by kernel_rfl) (fun _ _ _ h => h) (by kernel_rfl) ?_ (by assumption) ?_
        · intro W hSw; first | (go_simp; done) | go_simp
        try simp only [Act.put, List.setIfInBounds_toArray, List.set_cons_zero, List.set_cons_succ]
        refine wpAnyH_done (by kernel_rfl) ?_ _
        have HE := HT.out rfl w3 hb3
        clear HF HT HC hb3 hHeld2
        go_wp2_with fail
        have HS1 : Hid (∀ W, (Instr.sliceAt 22 (.slice (some ⟨b, off, none⟩) len cap) none (some (.int .i64 (k : Int))) (some (.int .i64 (k : Int)))).run Tryd.prog W = .ok (.slice (some ⟨b, off, none⟩) k k) W) := Lib.hid fun W => sl_hm5 W _ len cap k hk1 hlc
        have HS2 : Hid (∀ W, (Instr.sliceAt 22 (.slice (some ⟨b, off, none⟩) len cap) (some (.int .i64 (k : Int))) none none).run Tryd.prog W = .ok (.slice (if cap = k then (some ⟨b, off, none⟩) else ((some ⟨b, off, none⟩) : Option Addr).map (·.add (k * 5))) (len - k) (cap - k)) W) := Lib.hid fun W => sl_l5 W _ len cap k hk1 hlc
        have HIN := Lib.hid (HINS.out w3 k HE.out.1 hk1)
        obtain ⟨T, hT⟩ : ∃ T : Value, Value.slice (if cap = k then (some ⟨b, off, none⟩) else ((some ⟨b, off, none⟩) : Option Addr).map (·.add (k * 5))) (len - k) (cap - k) = T := ⟨_, rfl⟩
        rw [hT] at HS2 HIN
        clear hT
        refine wp_region_held_drew (S := Below w3.heap.size w3) (by kernel_rfl) (Below.refl _ _).drew (fun hHeld => ?_)
        refine takeYes (i := 0) (k := 21) (v := .slice (some ⟨b, off, none⟩) len cap) rfl (by kernel_rfl) (by kernel_rfl) (by kernel_rfl) (by kernel_rfl) (fun _ _ _ h => h) (by kernel_rfl) ?_ (by assumption) ?_
        · intro W hSw; first | (go_simp; done) | go_simp
        try simp only [Act.put, List.setIfInBounds_toArray, List.set_cons_zero, List.set_cons_succ]
        refine takeYes (i := 1) (k := 22) (v := .int .i64 (k : Int)) rfl (by kernel_rfl) (by kernel_rfl) (by kernel_rfl) (by kernel_rfl) (fun _ _ _ h => h) (by kernel_rfl) ?_ (by assumption) ?_
        · intro W hSw; first | (go_simp; done) | go_simp
        try simp only [Act.put, List.setIfInBounds_toArray, List.set_cons_zero, List.set_cons_succ]
        refine takeYes (i := 2) (k := 23) (v := .int .i64 (k : Int)) rfl (by kernel_rfl) (by kernel_rfl) (by kernel_rfl) (by kernel_rfl) (fun _ _ _ h => h) (by kernel_rfl) ?_ (by assumption) ?_
        · intro W hSw; first | (go_simp; done) | go_simp
        try simp only [Act.put, List.setIfInBounds_toArray, List.set_cons_zero, List.set_cons_succ]
        refine takeYes (i := 3) (k := 24) (v := .slice (some ⟨b, off, none⟩) k k) rfl (by kernel_rfl) (by kernel_rfl) (by kernel_rfl) (by kernel_rfl) (fun _ _ _ h => h) (by kernel_rfl) ?_ (by assumption) ?_
        · intro W hSw; have hsl := HS1.out W; first | (go_simp; done) | go_simp
        try simp only [Act.put, List.setIfInBounds_toArray, List.set_cons_zero, List.set_cons_succ]
        refine takeYes (i := 4) (k := 25) (v := .agg #[.string xn, .int .i64 xq, .int .i64 xk, .string xsp, .string xv]) rfl (by kernel_rfl) (by kernel_rfl) (by kernel_rfl) (by kernel_rfl) (fun _ _ _ h => h) (by kernel_rfl) ?_ (by assumption) ?_
        · intro W hSw; obtain ⟨⟨d0, d1, d2, d3, d4⟩, -, -⟩ := HE.out.2.1.below hSw HE.out.2.1.2.2; first | (go_simp; done) | go_simp
        try simp only [Act.put, List.setIfInBounds_toArray, List.set_cons_zero, List.set_cons_succ]
        refine takeYes (i := 6) (k := 27) (v := .slice (some ⟨b, off, none⟩) len cap) rfl (by kernel_rfl) (by kernel_rfl) (by kernel_rfl) (by kernel_rfl) (fun _ _ _ h => h) (by kernel_rfl) ?_ (by assumption) ?_
        · intro W hSw; first | (go_simp; done) | go_simp
        try simp only [Act.put, List.setIfInBounds_toArray, List.set_cons_zero, List.set_cons_succ]
        refine takeYes (i := 7) (k := 28) (v := .int .i64 (k : Int)) rfl (by kernel_rfl) (by kernel_rfl) (by kernel_rfl) (by kernel_rfl) (fun _ _ _ h => h) (by kernel_rfl) ?_ (by assumption) ?_
        · intro W hSw; first | (go_simp; done) | go_simp
        try simp only [Act.put, List.setIfInBounds_toArray, List.set_cons_zero, List.set_cons_succ]
        refine takeYes (i := 8) (k := 29) (v := T) rfl (by kernel_rfl) (by kernel_rfl) (by kernel_rfl) (by kernel_rfl) (fun _ _ _ h => h) (by kernel_rfl) ?_ (by assumption) ?_
        · intro W hSw; have hsl := HS2.out W; first | (go_simp; done) | go_simp
        try simp only [Act.put, List.setIfInBounds_toArray, List.set_cons_zero, List.set_cons_succ]
        obtain ⟨v1, w4, r1, b1, v2, w5, r2, b2, o2⟩ := HIN.out
        refine wpAnyH_ready (rs := [5]) (by kernel_rfl) (by simp) (AllReadyH.cons rfl (fun K hK => ?_) AllReadyH.nil)
        go_simp
        refine hK.out _ _ ((Below.refl _ w3).alloc (Nat.le_refl _) _).drew (fun hHeld2 => ?_)
        clear hK K hHeld
        try simp only [Act.put, List.setIfInBounds_toArray, List.set_cons_zero, List.set_cons_succ]
        refine wpAnyH_ready (rs := [9]) (by kernel_rfl) (by simp) (AllReadyH.cons rfl (fun K hK => ?_) AllReadyH.nil)
        refine step_appD 30 rfl (by kernel_rfl) (.tmp 26) (.tmp 29) 22 rfl rfl rfl r1 ?_
        refine hK.out _ _ b1 (fun hHeld2 => ?_)
        clear hK K
        try simp only [Act.put, List.setIfInBounds_toArray, List.set_cons_zero, List.set_cons_succ]
        refine wpAnyH_ready (rs := [10]) (by kernel_rfl) (by simp) (AllReadyH.cons rfl (fun K hK => ?_) AllReadyH.nil)
        refine step_appD 31 rfl (by kernel_rfl) (.tmp 24) (.tmp 30) 22 rfl rfl rfl r2 ?_
        refine hK.out _ _ b2 (fun hHeld2 => ?_)
        clear hK K
        try simp only [Act.put, List.setIfInBounds_toArray, List.set_cons_zero, List.set_cons_succ]
        refine takeYes (i := 11) (k := 4) (v := v2) rfl (by kernel_rfl) (by kernel_rfl) (by kernel_rfl) (by kernel_rfl) (fun _ _ _ h => h) (by kernel_rfl) ?_ (by assumption) ?_
        · intro W hSw; first | (go_simp; done) | go_simp
        try simp only [Act.put, List.setIfInBounds_toArray, List.set_cons_zero, List.set_cons_succ]
        refine wpAnyH_done (by kernel_rfl) ?_ _
        have HO : Hid (OwnK encEnt 5 39 w.heap.size w5 v2 ZS ∧ Below w.heap.size w w5) := Lib.hid ⟨by rw [HE.out.2.2]; exact o2, HE.out.1.trans (b2.mono HE.out.1.size)⟩
        clear r1 r2 b1 b2 o2 HS1 HS2 HIN HE
        go_wp2_with fail
        go_ret
        exact ⟨_, rfl, HO.out.1, HO.out.2⟩
    · have hkn : decide (k < len) = false := decide_eq_false hkl
      have hkl2 : k = len := by omega
      go_wp2_with fail
      refine wp_region_held_drew (S := Below wr.heap.size wr) (by kernel_rfl) (Below.refl _ _).drew (fun hHeld => ?_)
      refine takeYes (i := 0) (k := 6) (v := .int .i64 (k : Int)) rfl (by kernel_rfl) (by kernel_rfl) (by kernel_rfl) (by kernel_rfl) (fun _ _ _ h => h) (by kernel_rfl) ?_ (by assumption) ?_
      · intro W hSw; first | (go_simp; done) | go_simp
      try simp only [Act.put, List.setIfInBounds_toArray, List.set_cons_zero, List.set_cons_succ]
      refine takeYes (i := 1) (k := 7) (v := .slice a len cap) rfl (by kernel_rfl) (by kernel_rfl) (by kernel_rfl) (by kernel_rfl) (fun _ _ _ h => h) (by kernel_rfl) ?_ (by assumption) ?_
      · intro W hSw; first | (go_simp; done) | go_simp
      try simp only [Act.put, List.setIfInBounds_toArray, List.set_cons_zero, List.set_cons_succ]
      refine takeYes (i := 2) (k := 8) (v := .int .i64 (len : Int)) rfl (by kernel_rfl) (by kernel_rfl) (by kernel_rfl) (by kernel_rfl) (fun _ _ _ h => h) (by kernel_rfl) ?_ (by assumption) ?_
      · intro W hSw; first | (go_simp; done) | go_simp
      try simp only [Act.put, List.setIfInBounds_toArray, List.set_cons_zero, List.set_cons_succ]
      refine takeYes (i := 3) (k := 9) (v := .bool false) rfl (by kernel_rfl) (by kernel_rfl) (by kernel_rfl) (by kernel_rfl) (fun _ _ _ h => h) (by kernel_rfl) ?_ (by assumption) ?_
      · intro W hSw; first | (go_simp; done) | go_simp
      try simp only [Act.put, List.setIfInBounds_toArray, List.set_cons_zero, List.set_cons_succ]
      refine takeYes (i := 4) (k := 10) (v := .bool false) rfl (by kernel_rfl) (by kernel_rfl) (by kernel_rfl) (by kernel_rfl) (fun _ _ _ h => h) (by kernel_rfl) ?_ (by assumption) ?_
      · intro W hSw; first | (go_simp; done) | go_simp
      try simp only [Act.put, List.setIfInBounds_toArray, List.set_cons_zero, List.set_cons_succ]
      refine takeNot (i := 5) (k := 11) (by kernel_rfl) (by kernel_rfl) (by kernel_rfl) (by kernel_rfl) (fun _ _ _ h => h) (by kernel_rfl) (by assumption) ?_
      try simp only [Act.put, List.setIfInBounds_toArray, List.set_cons_zero, List.set_cons_succ]
      refine takeNot (i := 6) (k := 12) (by kernel_rfl) (by kernel_rfl) (by kernel_rfl) (by kernel_rfl) (fun _ _ _ h => h) (by kernel_rfl) (by assumption) ?_
      try simp only [Act.put, List.setIfInBounds_toArray, List.set_cons_zero, List.set_cons_succ]
      refine takeNot (i := 7) (k := 13) (by kernel_rfl) (by kernel_rfl) (by kernel_rfl) (by kernel_rfl) (fun _ _ _ h => h) (by kernel_rfl) (by assumption) ?_
      try simp only [Act.put, List.setIfInBounds_toArray, List.set_cons_zero, List.set_cons_succ]
      refine takeNot (i := 8) (k := 14) (by kernel_rfl) (by kernel_rfl) (by kernel_rfl) (by kernel_rfl) (fun _ _ _ h => h) (by kernel_rfl) (by assumption) ?_
      try simp only [Act.put, List.setIfInBounds_toArray, List.set_cons_zero, List.set_cons_succ]
      refine takeNot (i := 9) (k := 15) (by kernel_rfl) (by kernel_rfl) (by kernel_rfl) (by kernel_rfl) (fun _ _ _ h => h) (by kernel_rfl) (by assumption) ?_
      try simp only [Act.put, List.setIfInBounds_toArray, List.set_cons_zero, List.set_cons_succ]
      refine takeNot (i := 10) (k := 16) (by kernel_rfl) (by kernel_rfl) (by kernel_rfl) (by kernel_rfl) (fun _ _ _ h => h) (by kernel_rfl) (by assumption) ?_
      try simp only [Act.put, List.setIfInBounds_toArray, List.set_cons_zero, List.set_cons_succ]
      refine takeNot (i := 11) (k := 17) (by kernel_rfl) (by kernel_rfl) (by kernel_rfl) (by kernel_rfl) (fun _ _ _ h => h) (by kernel_rfl) (by assumption) ?_
      try simp only [Act.put, List.setIfInBounds_toArray, List.set_cons_zero, List.set_cons_succ]
      refine takeYes (i := 12) (k := 18) (v := .bool false) rfl (by kernel_rfl) (by kernel_rfl) (by kernel_rfl) (by kernel_rfl) (fun _ _ _ h => h) (by kernel_rfl) ?_ (by assumption) ?_
      · intro W hSw; first | (go_simp; done) | go_simp
      try simp only [Act.put, List.setIfInBounds_toArray, List.set_cons_zero, List.set_cons_succ]
      refine wpAnyH_done (by kernel_rfl) ?_ _
      obtain ⟨w3, hw3⟩ : ∃ w3, wr.drew = w3 := ⟨_, rfl⟩
      rw [hw3] at hHeld ⊢
      have HE := hEnd w3 hHeld (.inl hkl2)
      clear hw3 hHeld hkl2
      clear hEnd
      go_wp2_with fail
      have HS1 : Hid (∀ W, (Instr.sliceAt 22 (.slice a len cap) none (some (.int .i64 (k : Int))) (some (.int .i64 (k : Int)))).run Tryd.prog W = .ok (.slice a k k) W) := Lib.hid fun W => sl_hm5 W _ len cap k hk1 hlc
      have HS2 : Hid (∀ W, (Instr.sliceAt 22 (.slice a len cap) (some (.int .i64 (k : Int))) none none).run Tryd.prog W = .ok (.slice (if cap = k then a else (a : Option Addr).map (·.add (k * 5))) (len - k) (cap - k)) W) := Lib.hid fun W => sl_l5 W _ len cap k hk1 hlc
      have HIN := Lib.hid (HINS.out w3 k HE.out.1 hk1)
      obtain ⟨T, hT⟩ : ∃ T : Value, Value.slice (if cap = k then a else (a : Option Addr).map (·.add (k * 5))) (len - k) (cap - k) = T := ⟨_, rfl⟩
      rw [hT] at HS2 HIN
      clear hT
      refine wp_region_held_drew (S := Below w3.heap.size w3) (by kernel_rfl) (Below.refl _ _).drew (fun hHeld => ?_)
      refine takeYes (i := 0) (k := 21) (v := .slice a len cap) rfl (by kernel_rfl) (by kernel_rfl) (by kernel_rfl) (by kernel_rfl) (fun _ _ _ h => h) (by kernel_rfl) ?_ (by assumption) ?_
      · intro W hSw; first | (go_simp; done) | go_simp
      try simp only [Act.put, List.setIfInBounds_toArray, List.set_cons_zero, List.set_cons_succ]
      refine takeYes (i := 1) (k := 22) (v := .int .i64 (k : Int)) rfl (by kernel_rfl) (by kernel_rfl) (by kernel_rfl) (by kernel_rfl) (fun _ _ _ h => h) (by kernel_rfl) ?_ (by assumption) ?_
      · intro W hSw; first | (go_simp; done) | go_simp
      try simp only [Act.put, List.setIfInBounds_toArray, List.set_cons_zero, List.set_cons_succ]
      refine takeYes (i := 2) (k := 23) (v := .int .i64 (k : Int)) rfl (by kernel_rfl) (by kernel_rfl) (by kernel_rfl) (by kernel_rfl) (fun _ _ _ h => h) (by kernel_rfl) ?_ (by assumption) ?_
      · intro W hSw; first | (go_simp; done) | go_simp
      try simp only [Act.put, List.setIfInBounds_toArray, List.set_cons_zero, List.set_cons_succ]
      refine takeYes (i := 3) (k := 24) (v := .slice a k k) rfl (by kernel_rfl) (by kernel_rfl) (by kernel_rfl) (by kernel_rfl) (fun _ _ _ h => h) (by kernel_rfl) ?_ (by assumption) ?_
      · intro W hSw; have hsl := HS1.out W; first | (go_simp; done) | go_simp
      try simp only [Act.put, List.setIfInBounds_toArray, List.set_cons_zero, List.set_cons_succ]
      refine takeYes (i := 4) (k := 25) (v := .agg #[.string xn, .int .i64 xq, .int .i64 xk, .string xsp, .string xv]) rfl (by kernel_rfl) (by kernel_rfl) (by kernel_rfl) (by kernel_rfl) (fun _ _ _ h => h) (by kernel_rfl) ?_ (by assumption) ?_
      · intro W hSw; obtain ⟨⟨d0, d1, d2, d3, d4⟩, -, -⟩ := HE.out.2.1.below hSw HE.out.2.1.2.2; first | (go_simp; done) | go_simp
      try simp only [Act.put, List.setIfInBounds_toArray, List.set_cons_zero, List.set_cons_succ]
      refine takeYes (i := 6) (k := 27) (v := .slice a len cap) rfl (by kernel_rfl) (by kernel_rfl) (by kernel_rfl) (by kernel_rfl) (fun _ _ _ h => h) (by kernel_rfl) ?_ (by assumption) ?_
      · intro W hSw; first | (go_simp; done) | go_simp
      try simp only [Act.put, List.setIfInBounds_toArray, List.set_cons_zero, List.set_cons_succ]
      refine takeYes (i := 7) (k := 28) (v := .int .i64 (k : Int)) rfl (by kernel_rfl) (by kernel_rfl) (by kernel_rfl) (by kernel_rfl) (fun _ _ _ h => h) (by kernel_rfl) ?_ (by assumption) ?_
      · intro W hSw; first | (go_simp; done) | go_simp
      try simp only [Act.put, List.setIfInBounds_toArray, List.set_cons_zero, List.set_cons_succ]
      refine takeYes (i := 8) (k := 29) (v := T) rfl (by kernel_rfl) (by kernel_rfl) (by kernel_rfl) (by kernel_rfl) (fun _ _ _ h => h) (by kernel_rfl) ?_ (by assumption) ?_
      · intro W hSw; have hsl := HS2.out W; first | (go_simp; done) | go_simp
      try simp only [Act.put, List.setIfInBounds_toArray, List.set_cons_zero, List.set_cons_succ]
      obtain ⟨v1, w4, r1, b1, v2, w5, r2, b2, o2⟩ := HIN.out
      refine wpAnyH_ready (rs := [5]) (by kernel_rfl) (by simp) (AllReadyH.cons rfl (fun K hK => ?_) AllReadyH.nil)
      go_simp
      refine hK.out _ _ ((Below.refl _ w3).alloc (Nat.le_refl _) _).drew (fun hHeld2 => ?_)
      clear hK K hHeld
      try simp only [Act.put, List.setIfInBounds_toArray, List.set_cons_zero, List.set_cons_succ]
      refine wpAnyH_ready (rs := [9]) (by kernel_rfl) (by simp) (AllReadyH.cons rfl (fun K hK => ?_) AllReadyH.nil)
      refine step_appD 30 rfl (by kernel_rfl) (.tmp 26) (.tmp 29) 22 rfl rfl rfl r1 ?_
      refine hK.out _ _ b1 (fun hHeld2 => ?_)
      clear hK K
      try simp only [Act.put, List.setIfInBounds_toArray, List.set_cons_zero, List.set_cons_succ]
      refine wpAnyH_ready (rs := [10]) (by kernel_rfl) (by simp) (AllReadyH.cons rfl (fun K hK => ?_) AllReadyH.nil)
      refine step_appD 31 rfl (by kernel_rfl) (.tmp 24) (.tmp 30) 22 rfl rfl rfl r2 ?_
      refine hK.out _ _ b2 (fun hHeld2 => ?_)
      clear hK K
      try simp only [Act.put, List.setIfInBounds_toArray, List.set_cons_zero, List.set_cons_succ]
      refine takeYes (i := 11) (k := 4) (v := v2) rfl (by kernel_rfl) (by kernel_rfl) (by kernel_rfl) (by kernel_rfl) (fun _ _ _ h => h) (by kernel_rfl) ?_ (by assumption) ?_
      · intro W hSw; first | (go_simp; done) | go_simp
      try simp only [Act.put, List.setIfInBounds_toArray, List.set_cons_zero, List.set_cons_succ]
      refine wpAnyH_done (by kernel_rfl) ?_ _
      have HO : Hid (OwnK encEnt 5 39 w.heap.size w5 v2 ZS ∧ Below w.heap.size w w5) := Lib.hid ⟨by rw [HE.out.2.2]; exact o2, HE.out.1.trans (b2.mono HE.out.1.size)⟩
      clear r1 r2 b1 b2 o2 HS1 HS2 HIN HE
      go_wp2_with fail
      go_ret
      exact ⟨_, rfl, HO.out.1, HO.out.2⟩
end Go.Proofs.YtennpdhnjaemeaaDoor
/- The walk of the laws' Sort. -/
namespace Go.Proofs.YtennpdhnjaemeaaDoor
set_option linter.unusedVariables false
open Go.RowKit
def SortRes (w : World) (e : Ending) (w' : World) : Prop := ∃ v ys, e = .returned v ∧ OwnK encEnt 5 39 w.heap.size w' v ys ∧ ys.length ≤ 30 ∧ srtB ys = true ∧ Below w.heap.size w w'
/-- The same, of so many, with what they are. -/
def SortResN (N : Nat) (w : World) (e : Ending) (w' : World) : Prop := ∃ v ys, e = .returned v ∧ OwnK encEnt 5 39 w.heap.size w' v ys ∧ ys.length ≤ N ∧ GoodL ys ∧ Below w.heap.size w w'
/-- Where a round stands: the list as it was in a world ahead of block g, and what came since leaves it. -/
def Stands (w wx : World) (g : Nat) (v : Value) (ys : List Ent) : Prop := ∃ w2, OwnK encEnt 5 39 w.heap.size w2 v ys ∧ Below w.heap.size w w2 ∧ Below w2.heap.size w2 wx ∧ w2.heap.size ≤ g
theorem Stands.own {w wx : World} {g : Nat} {v : Value} {ys : List Ent} (h : Stands w wx g v ys) : OwnK encEnt 5 39 w.heap.size wx v ys := by
  obtain ⟨w2, h1, h2, h3, h4⟩ := h
  exact h1.below h3
theorem Stands.bel {w wx : World} {g : Nat} {v : Value} {ys : List Ent} (h : Stands w wx g v ys) : Below w.heap.size w wx := by
  obtain ⟨w2, h1, h2, h3, h4⟩ := h
  exact h2.trans (h3.mono h2.size)
theorem Stands.set {w wx : World} {g o : Nat} {v u : Value} {ys : List Ent} (h : Stands w wx g v ys) : Stands w (wx.setCell ⟨g, o, none⟩ u) g v ys := by
  obtain ⟨w2, h1, h2, h3, h4⟩ := h
  exact ⟨w2, h1, h2, h3.setCell h4 _, h4⟩
theorem Stands.drew {w wx : World} {g : Nat} {v : Value} {ys : List Ent} (h : Stands w wx g v ys) (m : Nat) : Stands w (wx.drewN m) g v ys := by
  obtain ⟨w2, h1, h2, h3, h4⟩ := h
  exact ⟨w2, h1, h2, h3.trans (DrN.below ⟨m, rfl⟩ _), h4⟩
theorem Row5.set4 {w : World} {b : Nat} {v0 v1 v2 v3 v4 : Value} (h : Row5 w b v0 v1 v2 v3 v4) (u : Value) : Row5 (w.setCell ⟨b, 4, none⟩ u) b v0 v1 v2 v3 u := by
  obtain ⟨⟨c0, c1, c2, c3, c4⟩, ⟨f0, f1, f2, f3, f4⟩, h5⟩ := h
  refine ⟨⟨?_, ?_, ?_, ?_, ?_⟩, ⟨?_, ?_, ?_, ?_, ?_⟩, by simpa using h5⟩ <;> simp [go_sem, c0, c1, c2, c3, c4, f0, f1, f2, f3, f4]
theorem OwnK.form {w : World} {B : Nat} {v : Value} {ys : List Ent} (h : OwnK encEnt 5 39 B w v ys) : ∃ a len cap, v = .slice a len cap ∧ len = ys.length ∧ len ≤ cap ∧ cap ≤ maxLen := by
  rcases h.blk with ⟨rfl, rfl⟩ | ⟨g, cap, cur, e1, e2, e3, e4, e5, e6, -⟩
  · exact ⟨none, 0, 0, rfl, rfl, Nat.le_refl _, by unfold maxLen; omega⟩
  · exact ⟨_, _, cap, e1, rfl, e5, e6⟩
/-- somebody ahead of place k has that norm and that number -/
def Seen (ys : List Ent) (n : ByteArray) (q : Int) (k : Nat) (t : Bool) : Prop := t = true ↔ ∃ (m : Nat) (y : Ent), m < k ∧ ys[m]? = some y ∧ y.norm = n ∧ y.seq = q
theorem Seen.zero (ys : List Ent) (n : ByteArray) (q : Int) : Seen ys n q 0 false := by
  unfold Seen
  constructor
  · intro h; cases h
  · rintro ⟨m, y, h, -⟩; omega
theorem Seen.next {ys : List Ent} {n : ByteArray} {q : Int} {k : Nat} {t : Bool} (h : Seen ys n q k t) {y : Ent} (hy : ys[k]? = some y) (u : Bool) (hu : u = (t || (decide (y.norm = n) && decide (y.seq = q)))) : Seen ys n q (k + 1) u := by
  subst hu
  unfold Seen at h ⊢
  constructor
  · intro hh
    rcases Bool.or_eq_true_iff.1 hh with h1 | h1
    · obtain ⟨m, z, hm, hz, e⟩ := h.1 h1
      exact ⟨m, z, by omega, hz, e⟩
    · rw [Bool.and_eq_true, decide_eq_true_eq, decide_eq_true_eq] at h1
      exact ⟨k, y, by omega, hy, h1⟩
  · rintro ⟨m, z, hm, hz, e1, e2⟩
    rw [Bool.or_eq_true_iff]
    rcases Nat.lt_or_ge m k with h1 | h1
    · exact .inl (h.2 ⟨m, z, h1, hz, e1, e2⟩)
    · obtain rfl : m = k := by omega
      rw [hy] at hz
      obtain rfl := Option.some.inj hz
      right; simp [e1, e2]
theorem Seen.none {ys : List Ent} {n : ByteArray} {q : Int} {k : Nat} (h : Seen ys n q k false) (hk : ys.length ≤ k) : ∀ x ∈ ys, ¬ (x.norm = n ∧ x.seq = q) := by
  intro x hx hh
  obtain ⟨m, hm, rfl⟩ := List.mem_iff_getElem.1 hx
  have := h.2 ⟨m, _, by omega, List.getElem?_eq_getElem hm, hh⟩
  cases this
set_option maxHeartbeats 8000000 in
set_option maxRecDepth 100000 in
theorem sortN_any (N : Nat) (hN : N ≤ 1000) (v : Value) (xs : List Ent) (hok : ∀ e ∈ xs, e.ok) (w : World) (hrd : RdK encEnt 5 w v xs) :
    Calls Tryd.prog 10 #[v, .int .i64 (N : Int)] w (SortResN N w) := by
  obtain ⟨a, len, cap, rfl, hlen⟩ := rdK_len hrd
  have HOK := Lib.hid hok
  have HRD := Lib.hid hrd
  have HN := Lib.hid hlen
  clear hrd hlen hok
  go_enter Tryd.func10, Tryd.ntmps10
  go_wp2_with fail
  go_loopg [5, 6, 7, 8, 9] len (fun kk vo vi _ _ _ wr => ∃ (i : Nat) (ys : List Ent), vi = .int .i64 i ∧ i ≤ len ∧ i ≤ N ∧ len - i ≤ kk ∧ ys.length ≤ i ∧ Hid (OwnK encEnt 5 39 w.heap.size wr vo ys ∧ Below w.heap.size w wr ∧ GoodL ys))
  case atStart => exact ⟨0, [], rfl, by omega, by omega, by omega, by simp, Lib.hid ⟨OwnK.nil _ _ _ _ _, Below.refl _ _, goodL_nil⟩⟩
  case round =>
    obtain ⟨i, ys, rfl, hi, hi30, hik, hys, HO⟩ := hrel
    have hi0 : (0 : Int) ≤ (i : Int) := by omega
    by_cases h1 : i < len
    · have hd1 : decide (i < len) = true := decide_eq_true h1
      by_cases h2 : i < N
      · have h2i : (i : Int) < (N : Int) := by omega
        have hil : (i : Int) < (len : Int) := by omega
        obtain ⟨x, hx⟩ : ∃ x, xs[i]? = some x := ⟨xs[i]'(by have := HN.out; omega), List.getElem?_eq_getElem _⟩
        obtain ⟨b, off, rfl, hblt, d0, d1, d2, d3, d4⟩ := (HRD.out.below HO.out.2.1).at5 HN.out i x hx
        have HC : Hid (∀ w, Calls Tryd.prog 26 #[x.v] w (CutE x w)) := Lib.hid (ecut_any x (HOK.out x (List.mem_of_getElem? hx)))
        obtain ⟨xn, xq, xk, xsp, xv⟩ := x
        simp only at d0 d1 d2 d3 d4
        clear hx
        obtain ⟨va, vlen, vcap, rfl, hvl, hvc, hvm⟩ := HO.out.1.form
        have HVL := Lib.hid hvl
        have hv30 : vlen ≤ N := by omega
        clear hvl
        unfold maxLen at hvm
        go_upto_region 5 with fail
        go_cut [7] (fun p wx => ∃ (g : Nat) (cn csp cv : ByteArray) (cq ck : Int), p = .pointer (some ⟨g, 0, none⟩) ∧ Hid (cn.size ≤ 30 ∧ csp.size ≤ 30 ∧ cv.size ≤ 60) ∧ Hid (Row5 wx g (.string cn) (.int .i64 cq) (.int .i64 ck) (.string csp) (.string cv)) ∧ Hid (Stands w wx g (.slice va vlen vcap) ys))
        case first =>
          go_wp2_with fail
          refine (HC.out _).mono ?_
          rintro e w2 ⟨⟨cn, cq, ck, csp, cv⟩, rfl, -, -, hz1, hz2, hz3, hb⟩
          have HZ : Hid (cn.size ≤ 30 ∧ csp.size ≤ 30 ∧ cv.size ≤ 60) := Lib.hid ⟨hz1, hz2, hz3⟩
          clear hz1 hz2 hz3
          have HO2 : Hid (OwnK encEnt 5 39 w.heap.size w2 (.slice va vlen vcap) ys ∧ Below w.heap.size w w2) := Lib.hid ⟨HO.out.1.below hb, HO.out.2.1.trans (hb.mono HO.out.2.1.size)⟩
          clear hb d0 d1 d2 d3 d4 HC
          unfold Ent.v
          go_wp2_with fail
          go_meet
          exact ⟨w2.heap.size, cn, csp, cv, cq, ck, rfl, HZ, Lib.hid (Row5.new w2 _ _ _ _ _ _), Lib.hid ⟨w2, HO2.out.1, HO2.out.2, (Below.refl _ w2).alloc (Nat.le_refl _) _, Nat.le_refl _⟩⟩
        case rest =>
        obtain ⟨g, cn, csp, cv, cq, ck, rfl, HZ, HR5, HST⟩ := hcut
        clear d0 d1 d2 d3 d4 HC hblt
        have HOB : Hid (OwnK encEnt 5 39 w.heap.size wc (.slice va vlen vcap) ys ∧ Below w.heap.size w wc ∧ GoodL ys) := Lib.hid ⟨HST.out.own, HST.out.bel, HO.out.2.2⟩
        have HSRT := Lib.hid HO.out.2.2
        clear HO
        obtain ⟨⟨c0, c1, c2, c3, c4⟩, ⟨f0, f1, f2, f3, f4⟩, hg⟩ := id HR5.out
        by_cases q1 : cq < 1
        · clear HR5 HST HSRT f0 f1 f2 f3 f4
          go_wp2_with fail
          go_roundg (len - (i + 1))
          case measure => omega
          case rel => exact ⟨i + 1, ys, by go_num, by omega, by omega, Nat.le_refl _, by have := HVL.out; omega, HOB⟩
        by_cases q2 : 1125899906842624 < cq
        · clear HR5 HST HSRT f0 f1 f2 f3 f4
          go_wp2_with fail
          go_roundg (len - (i + 1))
          case measure => omega
          case rel => exact ⟨i + 1, ys, by go_num, by omega, by omega, Nat.le_refl _, by have := HVL.out; omega, HOB⟩
        by_cases q3 : ck = 1 ∨ ck = 0
        · go_upto_region 6 with fail
          go_cut [43] (fun c wx => c = .bool false ∧ wc = wx)
          case first =>
            clear HR5 HST HSRT HOB
            rcases q3 with rfl | rfl
            · go_wp2_with fail
              go_meet
              exact ⟨rfl, rfl⟩
            · go_wp2_with fail
              go_meet
              exact ⟨rfl, rfl⟩
          case rest =>
          obtain ⟨rfl, rfl⟩ := hcut
          clear HOB
          go_upto_if 46 with fail
          go_cut [] (fun wx => ∃ cv' : ByteArray, Hid (RightE ⟨cn, cq, ck, csp, cv'⟩ ∧ FitE 60 ⟨cn, cq, ck, csp, cv'⟩) ∧ Hid (Row5 wx g (.string cn) (.int .i64 cq) (.int .i64 ck) (.string csp) (.string cv')) ∧ Hid (Stands w wx g (.slice va vlen vcap) ys))
          case first =>
            rcases q3 with rfl | rfl
            · have HRF1 : Hid (RightE ⟨cn, cq, 1, csp, cv⟩ ∧ FitE 60 ⟨cn, cq, 1, csp, cv⟩) := Lib.hid ⟨⟨by show 1 ≤ cq; omega, by show cq ≤ _; omega, .inl rfl⟩, ⟨by show cn.size ≤ 60; have := HZ.out.1; omega, by show csp.size ≤ 60; have := HZ.out.2.1; omega, HZ.out.2.2⟩⟩
              go_wp2_with fail
              go_meet
              exact ⟨cv, HRF1, HR5, HST⟩
            · have HRF0 : Hid (RightE ⟨cn, cq, 0, csp, ⟨#[]⟩⟩ ∧ FitE 60 ⟨cn, cq, 0, csp, ⟨#[]⟩⟩) := Lib.hid ⟨⟨by show 1 ≤ cq; omega, by show cq ≤ _; omega, .inr ⟨rfl, rfl⟩⟩, ⟨by show cn.size ≤ 60; have := HZ.out.1; omega, by show csp.size ≤ 60; have := HZ.out.2.1; omega, Nat.zero_le _⟩⟩
              go_wp2_with fail
              go_meet
              exact ⟨⟨#[]⟩, HRF0, Lib.hid (HR5.out.set4 _), Lib.hid HST.out.set⟩
          case rest =>
          clear HR5 HST c0 c1 c2 c3 c4 f0 f1 f2 f3 f4 hg
          obtain ⟨cv', HRF, HR5, HST⟩ := hcut
          go_wp2_with fail
          go_loopg [8, 9] vlen (fun kk vt vk wr => ∃ (k : Nat) (t : Bool), vt = .bool t ∧ vk = .int .i64 k ∧ k ≤ vlen ∧ vlen - k ≤ kk ∧ Hid (Seen ys cn cq k t) ∧ Hid (Stands w wr g (.slice va vlen vcap) ys) ∧ Hid (Row5 wr g (.string cn) (.int .i64 cq) (.int .i64 ck) (.string csp) (.string cv')))
          case atStart => exact ⟨0, false, rfl, rfl, by omega, by omega, Lib.hid (Seen.zero ..), HST, HR5⟩
          case round =>
            clear HR5 HST
            obtain ⟨k, t, rfl, rfl, hk1, hk2, HS, HST, HR5⟩ := hrel
            have hk0 : (0 : Int) ≤ (k : Int) := by omega
            obtain ⟨⟨c0, c1, c2, c3, c4⟩, -, hg⟩ := id HR5.out
            by_cases hk : k < vlen
            · have hkd : decide (k < vlen) = true := decide_eq_true hk
              have hki : (k : Int) < (vlen : Int) := by omega
              obtain ⟨y, hy⟩ : ∃ y, ys[k]? = some y := ⟨ys[k]'(by have := HVL.out; omega), List.getElem?_eq_getElem _⟩
              obtain ⟨bb, oo, rfl, hblt, e0, e1, e2, e3, e4⟩ := (HST.out.own.rd encEnt_len).at5 HVL.out k y hy
              have HSN : Hid (∀ u : Bool, u = (t || (decide (y.norm = cn) && decide (y.seq = cq))) → Seen ys cn cq (k + 1) u) := Lib.hid fun u hu => HS.out.next hy u hu
              obtain ⟨yn, yq, yk, ysp, yv⟩ := y
              simp only at e0 e1 e2 e3 e4
              clear hy HS
              cases t with
              | true =>
                have HS2 := Lib.hid (HSN.out true (by simp))
                go_wp2_with fail
                go_quiet (fail)
                go_wp2_with fail
                go_roundg (vlen - (k + 1))
                case measure => omega
                case rel => exact ⟨k + 1, true, rfl, by go_num, by omega, Nat.le_refl _, HS2, Lib.hid (HST.out.drew _), HR5⟩
              | false =>
                by_cases h3 : yn = cn
                · subst h3
                  have hnn := bs_refl yn
                  by_cases h4 : yq = cq
                  · subst h4
                    have hqq : (yq == yq) = true := by simp
                    have HS2 := Lib.hid (HSN.out true (by simp))
                    go_wp2_with fail
                    go_quiet (fail)
                    go_wp2_with fail
                    go_roundg (vlen - (k + 1))
                    case measure => omega
                    case rel => exact ⟨k + 1, true, rfl, by go_num, by omega, Nat.le_refl _, HS2, Lib.hid (HST.out.drew _), HR5⟩
                  · have hqq : (yq == cq) = false := by rw [beq_eq_false_iff_ne]; exact h4
                    have HS2 := Lib.hid (HSN.out false (by simp [h4]))
                    go_wp2_with fail
                    go_quiet (fail)
                    go_wp2_with fail
                    go_roundg (vlen - (k + 1))
                    case measure => omega
                    case rel => exact ⟨k + 1, false, rfl, by go_num, by omega, Nat.le_refl _, HS2, Lib.hid (HST.out.drew _), HR5⟩
                · have hnn := bs_ne h3
                  have HS2 := Lib.hid (HSN.out false (by simp [h3]))
                  go_wp2_with fail
                  go_quiet (fail)
                  go_wp2_with fail
                  go_roundg (vlen - (k + 1))
                  case measure => omega
                  case rel => exact ⟨k + 1, false, rfl, by go_num, by omega, Nat.le_refl _, HS2, Lib.hid (HST.out.drew _), HR5⟩
            · have hkd : decide (k < vlen) = false := decide_eq_false hk
              have hkv : ys.length ≤ k := by have := HVL.out; omega
              cases t with
              | true =>
                have HOB : Hid (OwnK encEnt 5 39 w.heap.size wr (.slice va vlen vcap) ys ∧ Below w.heap.size w wr ∧ GoodL ys) := Lib.hid ⟨HST.out.own, HST.out.bel, HSRT.out⟩
                clear HST HR5 HS
                go_wp2_with fail
                go_roundg (len - (i + 1))
                case measure => omega
                case rel => exact ⟨i + 1, ys, by go_num, by omega, by omega, Nat.le_refl _, by have := HVL.out; omega, HOB⟩
              | false =>
                have HNO := Lib.hid (HS.out.none hkv)
                have HI := Lib.hid (into_any va vlen vcap ys (by have := HVL.out; omega) hvc (by unfold maxLen; omega) ⟨cn, cq, ck, csp, cv'⟩ wr (HST.out.own.rd encEnt_len))
                clear HS
                go_wp2_with fail
                refine HI.out.mono ?_
                rintro e w9 ⟨v9, rfl, o9, b9⟩
                have HO9 : Hid (OwnK encEnt 5 39 w.heap.size w9 v9 (intoE ⟨cn, cq, ck, csp, cv'⟩ ys) ∧ Below w.heap.size w w9 ∧ GoodL (intoE ⟨cn, cq, ck, csp, cv'⟩ ys)) := Lib.hid
                  ⟨o9.base HST.out.bel.size, HST.out.bel.trans (b9.mono HST.out.bel.size), goodL_into HSRT.out HRF.out.1 HRF.out.2 HNO.out⟩
                have HL9 : Hid ((intoE ⟨cn, cq, ck, csp, cv'⟩ ys).length ≤ i + 1) := Lib.hid (by rw [intoE_len]; omega)
                clear o9 b9 HI HST HR5 HNO HSRT
                go_wp2_with fail
                go_roundg (len - (i + 1))
                case measure => omega
                case rel => exact ⟨i + 1, _, by go_num, by omega, by omega, Nat.le_refl _, HL9.out, HO9⟩
        · have q4 : ¬ ck = 1 := fun h => q3 (.inl h)
          have q5 : ¬ ck = 0 := fun h => q3 (.inr h)
          have qb1 : (ck != 1) = true := by simp [q4]
          have qb2 : (ck != 0) = true := by simp [q5]
          clear HR5 HST HSRT f0 f1 f2 f3 f4 q3
          go_wp2_with fail
          go_roundg (len - (i + 1))
          case measure => omega
          case rel => exact ⟨i + 1, ys, by go_num, by omega, by omega, Nat.le_refl _, by have := HVL.out; omega, HOB⟩
      · have h2i : ¬ (i : Int) < (N : Int) := by omega
        go_wp2_with fail
        go_ret
        exact ⟨_, _, rfl, HO.out.1, by omega, HO.out.2.2, HO.out.2.1⟩
    · have hd1 : decide (i < len) = false := decide_eq_false h1
      go_wp2_with fail
      go_ret
      exact ⟨_, _, rfl, HO.out.1, by omega, HO.out.2.2, HO.out.2.1⟩
theorem sort_any (v : Value) (xs : List Ent) (hok : ∀ e ∈ xs, e.ok) (w : World) (hrd : RdK encEnt 5 w v xs) :
    Calls Tryd.prog 10 #[v, .int .i64 30] w (SortRes w) := by
  refine (sortN_any 30 (by decide) v xs hok w hrd).mono ?_
  rintro e w' ⟨u, ys, h1, h2, h3, h4, h5⟩
  exact ⟨u, ys, h1, h2, h3, h4.sorted, h5⟩
end Go.Proofs.YtennpdhnjaemeaaDoor
/- Arguments opened: an entry by value, a slice of entries that came in. -/
namespace Go.Proofs.YtennpdhnjaemeaaDoor
set_option linter.unusedVariables false
set_option maxRecDepth 100000
open Go.ChangeShapes Go.WideShapes Go.RowKit Go.Deep
/-- What an entry's cells may be. -/
theorem ent_cells {H : Type} {enc : TypeId × Value → H} {w : World} {base : Nat} {spare : Nat → Bool} {held : Bool} {fuel : Nat} {cs : List Value} {x : DataW H × List MemPlace} (h : DataW.trod enc Tryd.prog w base spare held fuel 39 cs = some x) :
    ∃ e : Ent, cs = encEnt e ∧ e.ok := by
  obtain ⟨ys, n, -, -, hlen, hyl, hf⟩ := DataW.trod_struct Tryd.underlying39 h
  rw [show Tryd.prog.cellsOf 39 = 5 by kernel_rfl] at hlen
  have hs : Tryd.prog.cellsOf 9 = 1 := by kernel_rfl
  have hi : Tryd.prog.cellsOf 2 = 1 := by kernel_rfl
  have hk : Tryd.prog.cellsOf 3 = 1 := by kernel_rfl
  match cs, hlen, ys, hyl with
  | [c0, c1, c2, c3, c4], _, [y0, y1, y2, y3, y4], _ =>
    have k0 : DataW.trod enc Tryd.prog w base spare held n 9 (List.take (Tryd.prog.cellsOf 9) (List.drop 0 [c0, c1, c2, c3, c4])) = some y0 := hf 0 _ rfl
    rw [hs] at k0
    have k1 : DataW.trod enc Tryd.prog w base spare held n 2 (List.take (Tryd.prog.cellsOf 2) (List.drop 1 [c0, c1, c2, c3, c4])) = some y1 := hf 1 _ rfl
    rw [hi] at k1
    have k2 : DataW.trod enc Tryd.prog w base spare held n 3 (List.take (Tryd.prog.cellsOf 3) (List.drop 2 [c0, c1, c2, c3, c4])) = some y2 := hf 2 _ rfl
    rw [hk] at k2
    have k3 : DataW.trod enc Tryd.prog w base spare held n 9 (List.take (Tryd.prog.cellsOf 9) (List.drop 3 [c0, c1, c2, c3, c4])) = some y3 := hf 3 _ rfl
    rw [hs] at k3
    have k4 : DataW.trod enc Tryd.prog w base spare held n 9 (List.take (Tryd.prog.cellsOf 9) (List.drop 4 [c0, c1, c2, c3, c4])) = some y4 := hf 4 _ rfl
    rw [hs] at k4
    obtain ⟨s0, e0, -, w0⟩ := DataW.trod_string Tryd.underlying9 (k0.trans rfl)
    obtain ⟨n1, e1, -, w1⟩ := DataW.trod_int Tryd.underlying2 (k1.trans rfl)
    obtain ⟨n2, e2, -, w2⟩ := DataW.trod_int Tryd.underlying3 (k2.trans rfl)
    obtain ⟨s3, e3, -, w3⟩ := DataW.trod_string Tryd.underlying9 (k3.trans rfl)
    obtain ⟨s4, e4, -, w4⟩ := DataW.trod_string Tryd.underlying9 (k4.trans rfl)
    simp at e0 e1 e2 e3 e4
    subst e0 e1 e2 e3 e4
    exact ⟨⟨s0, n1, n2, s3, s4⟩, rfl, w0, w3, w4, w1, w2⟩
theorem open_ent {H : Type} {enc : TypeId × Value → H} {w : World} {base : Nat} {spare : Nat → Bool} {held : Bool} {r : Reach} {b0 : Nat} {v : Value} {d : DataW H} {p : List MemPlace} (hv : Value.okWide Tryd.prog w r b0 39 v) (h : DataW.Trod enc Tryd.prog w base spare held 39 v d p) :
    ∃ e : Ent, v = e.v ∧ e.ok := by
  obtain ⟨⟨l⟩, rfl, hsz⟩ := okWide_struct Tryd.underlying39 hv
  obtain ⟨fuel, hf⟩ := h
  obtain ⟨e, he, hok⟩ := ent_cells hf
  simp only [Value.cells] at he
  exact ⟨e, by rw [show l = encEnt e from he]; rfl, hok⟩
theorem list_of {α : Type} {P : Nat → α → Prop} : ∀ (n : Nat), (∀ i, i < n → ∃ e, P i e) → ∃ l : List α, l.length = n ∧ ∀ i e, l[i]? = some e → P i e
  | 0, _ => ⟨[], rfl, fun i e h => by simp at h⟩
  | n + 1, h => by
    obtain ⟨l, hl, hp⟩ := list_of n fun i hi => h i (by omega)
    obtain ⟨e, he⟩ := h n (by omega)
    refine ⟨l ++ [e], by simp [hl], fun i x hx => ?_⟩
    rcases Nat.lt_or_ge i n with h1 | h1
    · rw [List.getElem?_append_left (by omega)] at hx
      exact hp i x hx
    · rw [List.getElem?_append_right (by omega)] at hx
      have h2 : i - l.length = 0 := by
        have := (List.getElem?_eq_some_iff.1 hx).1
        simp at this; omega
      rw [h2] at hx
      obtain rfl : e = x := by simpa using hx
      obtain rfl : i = n := by omega
      exact he
theorem open_ents {H : Type} {enc : TypeId × Value → H} {w : World} {base : Nat} {spare : Nat → Bool} {held : Bool} {a : Option Addr} {len cap : Nat} {d : DataW H} {p : List MemPlace} (h : DataW.Trod enc Tryd.prog w base spare held 22 (.slice a len cap) d p) :
    ∃ xs : List Ent, RdK encEnt 5 w (.slice a len cap) xs ∧ ∀ e ∈ xs, e.ok := by
  obtain ⟨fuel, hf⟩ := h
  rcases open_slice Tryd.underlying22 hf with ⟨hcs, -⟩ | ⟨x, l, c, m, n, D, Pl, hcs, -, hl, hm, hmm, -, hi⟩
  · simp [Value.cells] at hcs
    obtain ⟨rfl, rfl, rfl⟩ := hcs
    exact ⟨[], .inl ⟨_, _, rfl, rfl⟩, by simp⟩
  · simp [Value.cells] at hcs
    obtain ⟨rfl, rfl, rfl⟩ := hcs
    rw [show Tryd.prog.cellsOf 39 = 5 by kernel_rfl] at hi
    have hlm : len ≤ m := by rw [hmm]; split <;> omega
    obtain ⟨xs, hxl, hx⟩ := list_of (P := fun i (e : Ent) => (∀ j, j < 5 → w.cell? (x.add (i * 5 + j)) = some ((encEnt e).getD j undef)) ∧ e.ok) len fun i hil => by
      obtain ⟨cs', hc, ht⟩ := hi i (by omega)
      obtain ⟨e, rfl, hok⟩ := ent_cells ht
      obtain ⟨-, -, hat⟩ := World.cells?_some hc
      refine ⟨e, fun j hj => ?_, hok⟩
      rw [← add_add, hat j hj, List.getD_eq_getElem?_getD, List.getElem?_eq_getElem (by rw [encEnt_len]; exact hj)]; rfl
    refine ⟨xs, ?_, fun e he => by obtain ⟨i, hi, rfl⟩ := List.mem_iff_getElem.1 he; exact (hx i _ (List.getElem?_eq_getElem hi)).2⟩
    rcases Nat.eq_zero_or_pos len with h0 | h0
    · subst h0; exact .inl ⟨_, cap, rfl, List.eq_nil_of_length_eq_zero hxl⟩
    · obtain ⟨b, off, spot⟩ := x
      have h00 := (hx 0 xs[0] (List.getElem?_eq_getElem (by omega))).1 0 (by decide)
      have hspot : spot = none := by simpa [Addr.add] using World.cell?_spot h00
      subst hspot
      refine .inr ⟨b, off, cap, by rw [hxl], by omega, by omega, hm, ?_, fun i j e he hj => ?_⟩
      · rw [add_at] at h00
        exact World.block_lt_of_cell? w _ h00
      · have := (hx i e he).1 j hj
        rwa [add_at, ← Nat.add_assoc] at this
end Go.Proofs.YtennpdhnjaemeaaDoor
