/- The canonical order, in lists: plain Lean. -/
import Derived.Test.YtmglnpnkkidnnaaDoorStab2
namespace Go.Proofs.YtmglnpnkkidnnaaDoor
set_option linter.unusedVariables false
open Go.Sort
variable (cl : Int → Int)

/-- x goes ahead, from the end (the list stands the wrong way round). -/
def insR (x : Int) : List Int → List Int
  | [] => [x]
  | y :: R => if 0 < cl x ∧ cl x < cl y then y :: insR x R else x :: y :: R
def ins (X : List Int) (x : Int) : List Int := (insR cl x X.reverse).reverse
def ordF (Z L : List Int) : List Int := L.foldl (ins cl) Z
def orderP (L : List Int) : List Int := ordF cl [] L
variable {cl}
theorem ins_nil (x : Int) : ins cl [] x = [x] := rfl
theorem ins_snoc (X : List Int) (y x : Int) : ins cl (X ++ [y]) x = if 0 < cl x ∧ cl x < cl y then ins cl X x ++ [y] else X ++ [y, x] := by
  unfold ins
  rw [List.reverse_append]
  show (insR cl x (y :: X.reverse)).reverse = _
  rw [insR]
  split <;> simp
theorem ins_pass {X : List Int} {y x : Int} (h : 0 < cl x) (h' : cl x < cl y) : ins cl (X ++ [y]) x = ins cl X x ++ [y] := by rw [ins_snoc, if_pos ⟨h, h'⟩]
theorem ins_stay {X : List Int} {y x : Int} (h : ¬ (0 < cl x ∧ cl x < cl y)) : ins cl (X ++ [y]) x = X ++ [y, x] := by rw [ins_snoc, if_neg h]
theorem snoc_ind {p : List Int → Prop} (h0 : p []) (h1 : ∀ X y, p X → p (X ++ [y])) (X : List Int) : p X := by
  rw [← List.reverse_reverse X]
  induction X.reverse with
  | nil => exact h0
  | cons y R ih => rw [List.reverse_cons]; exact h1 _ _ ih
theorem ins_starter {X : List Int} {x : Int} (h : cl x ≤ 0) : ins cl X x = X ++ [x] := by
  induction X using snoc_ind with
  | h0 => rfl
  | h1 X y ih => rw [ins_stay (by omega)]; simp
theorem ins_feq (X : List Int) (x : Int) : FEq cl (ins cl X x) (X ++ [x]) := by
  induction X using snoc_ind with
  | h0 => exact FEq.refl _
  | h1 X y ih =>
    by_cases h : 0 < cl x ∧ cl x < cl y
    · rw [ins_pass h.1 h.2]
      refine (ih.app (FEq.refl [y])).trans ?_
      rw [List.append_assoc, List.append_assoc]
      exact (FEq.refl X).app (FEq.swap (A := [x]) (B := [y]) (by intro a ha b hb; rw [List.mem_singleton.1 ha, List.mem_singleton.1 hb]; omega))
    · rw [ins_stay h]; simp only [List.append_assoc]; exact FEq.refl _
theorem ins_perm (X : List Int) (x : Int) : (ins cl X x).Perm (X ++ [x]) := by
  induction X using snoc_ind with
  | h0 => exact List.Perm.refl _
  | h1 X y ih =>
    rw [ins_snoc]
    split
    · refine (ih.append_right [y]).trans ?_
      rw [List.append_assoc, List.append_assoc]
      exact (List.Perm.swap y x []).append_left X
    · simp
theorem ordF_nil (Z : List Int) : ordF cl Z [] = Z := rfl
theorem ordF_cons (Z L : List Int) (x : Int) : ordF cl Z (x :: L) = ordF cl (ins cl Z x) L := rfl
theorem ordF_snoc (Z L : List Int) (x : Int) : ordF cl Z (L ++ [x]) = ins cl (ordF cl Z L) x := by simp [ordF]
theorem ordF_app (Z L M : List Int) : ordF cl Z (L ++ M) = ordF cl (ordF cl Z L) M := by simp [ordF]
theorem ordF_perm (Z L : List Int) : (ordF cl Z L).Perm (Z ++ L) := by
  induction L using snoc_ind with
  | h0 => simp [ordF]
  | h1 L x ih => rw [ordF_snoc, ← List.append_assoc]; exact (ins_perm _ x).trans (ih.append_right [x])
theorem ordF_feq (Z L : List Int) : FEq cl (ordF cl Z L) (Z ++ L) := by
  induction L using snoc_ind with
  | h0 => simpa [ordF] using FEq.refl Z
  | h1 L x ih => rw [ordF_snoc, ← List.append_assoc]; exact (ins_feq _ x).trans (ih.app (FEq.refl [x]))
theorem orderP_perm (L : List Int) : (orderP cl L).Perm L := ordF_perm (cl := cl) [] L
theorem orderP_feq (L : List Int) : FEq cl (orderP cl L) L := ordF_feq (cl := cl) [] L
theorem orderP_len (L : List Int) : (orderP cl L).length = L.length := (orderP_perm L).length_eq
theorem orderP_mem (L : List Int) (x : Int) : x ∈ orderP cl L ↔ x ∈ L := (orderP_perm L).mem_iff
theorem orderP_snoc (L : List Int) (x : Int) : orderP cl (L ++ [x]) = ins cl (orderP cl L) x := ordF_snoc [] L x
/-- Behind the last starter. -/
def EndsLow (cl : Int → Int) (Z : List Int) : Prop := ∀ Y y, Z = Y ++ [y] → cl y ≤ 0
theorem ins_run {Z X : List Int} {x : Int} (hZ : EndsLow cl Z) (hx : 0 < cl x) : ins cl (Z ++ X) x = Z ++ ins cl X x := by
  induction X using snoc_ind with
  | h0 =>
    rw [List.append_nil]
    rcases List.eq_nil_or_concat Z with rfl | ⟨Y, y, rfl⟩
    · rfl
    · rw [List.concat_eq_append] at *
      have := hZ Y y rfl
      rw [ins_stay (by omega), ins_nil]; simp
  | h1 X y ih =>
    rw [← List.append_assoc, ins_snoc, ins_snoc]
    split
    · rw [ih]; simp
    · simp
theorem ordF_run {Z : List Int} (hZ : EndsLow cl Z) (L : List Int) (hL : ∀ x ∈ L, 0 < cl x) : ordF cl Z L = Z ++ orderP cl L := by
  induction L using snoc_ind with
  | h0 => simp [ordF, orderP]
  | h1 L x ih =>
    rw [ordF_snoc, orderP_snoc, ih (fun y hy => hL y (by simp [hy])), ins_run hZ (hL x (by simp))]
theorem ins_asc {X : List Int} {x : Int} (hX : Asc cl X) (hx : 0 < cl x) : Asc cl (ins cl X x) := by
  induction X using snoc_ind with
  | h0 => exact List.pairwise_singleton _ _
  | h1 X y ih =>
    have s := hX.split
    rw [ins_snoc]
    split
    · rename_i h
      refine (ih s.1).app s.2.1 fun z hz w hw => ?_
      rw [List.mem_singleton.1 hw]
      rcases List.mem_append.1 ((ins_perm X x).mem_iff.1 hz) with hz | hz
      · exact s.2.2 z hz y (by simp)
      · rw [List.mem_singleton.1 hz]; omega
    · rename_i h
      have : X ++ [y, x] = (X ++ [y]) ++ [x] := by simp
      rw [this]
      refine hX.app (List.pairwise_singleton _ _) fun z hz w hw => ?_
      rw [List.mem_singleton.1 hw]
      rcases List.mem_append.1 hz with hz | hz
      · have := s.2.2 z hz y (by simp); omega
      · rw [List.mem_singleton.1 hz]; omega
theorem orderP_asc (L : List Int) (hL : ∀ x ∈ L, 0 < cl x) : Asc cl (orderP cl L) := by
  induction L using snoc_ind with
  | h0 => exact List.Pairwise.nil
  | h1 L x ih => rw [orderP_snoc]; exact ins_asc (ih fun y hy => hL y (by simp [hy])) (hL x (by simp))
/-- A RUN PUT IN ORDER BY WHATEVER STABLE SORT. -/
theorem orderP_stb {L R : List Int} (hL : ∀ x ∈ L, 0 < cl x) (h : Stb cl R L) : orderP cl L = R :=
  Stb.unique (orderP_asc L hL) h.1 ((orderP_feq L).trans h.2.symm)
/-- Unlike classes above 0 may stand in any order. -/
theorem ins_comm (X : List Int) (a b : Int) (ha : 0 < cl a) (hb : 0 < cl b) (h : cl a ≠ cl b) : ins cl (ins cl X a) b = ins cl (ins cl X b) a := by
  induction X using snoc_ind with
  | h0 =>
    have e1 : ins cl [a] b = if 0 < cl b ∧ cl b < cl a then [b, a] else [a, b] := by
      have := ins_snoc (cl := cl) [] a b; simpa [ins_nil] using this
    have e2 : ins cl [b] a = if 0 < cl a ∧ cl a < cl b then [a, b] else [b, a] := by
      have := ins_snoc (cl := cl) [] b a; simpa [ins_nil] using this
    rw [ins_nil, ins_nil, e1, e2]
    split <;> split <;> first | rfl | omega
  | h1 X y ih =>
    have two : ∀ (u v : Int), X ++ [u, v] = (X ++ [u]) ++ [v] := fun u v => by simp
    by_cases h1 : cl a < cl y <;> by_cases h2 : cl b < cl y
    · rw [ins_pass ha h1, ins_pass hb h2, ins_pass hb h2, ins_pass ha h1, ih]
    · rw [ins_pass ha h1, ins_stay (X := ins cl X a) (by omega), ins_stay (by omega), two y b, ins_pass ha (by omega), ins_pass ha h1]; simp
    · rw [ins_pass hb h2, ins_stay (X := X) (x := a) (by omega), two y a, ins_pass hb (by omega), ins_pass hb h2, ins_stay (by omega)]; simp
    · rw [ins_stay (x := a) (by omega), ins_stay (x := b) (by omega), two y a, two y b, ins_snoc (X ++ [y]) a b, ins_snoc (X ++ [y]) b a, ins_stay (X := X) (x := b) (by omega), ins_stay (X := X) (x := a) (by omega)]
      split <;> split <;> first | omega | simp
theorem ordF_ins (Z X : List Int) (x : Int) : ordF cl Z (ins cl X x) = ordF cl Z (X ++ [x]) := by
  induction X using snoc_ind with
  | h0 => rfl
  | h1 X y ih =>
    rw [ins_snoc]
    split
    · rename_i h
      rw [ordF_snoc, ih, ordF_snoc, ordF_snoc, ordF_snoc, ins_comm _ x y h.1 (by omega) (by omega)]
    · simp
theorem ordF_order (Z L : List Int) : ordF cl Z (orderP cl L) = ordF cl Z L := by
  induction L using snoc_ind with
  | h0 => rfl
  | h1 L x ih => rw [orderP_snoc, ordF_ins, ordF_snoc, ordF_snoc, ih]
theorem orderP_idem (L : List Int) : orderP cl (orderP cl L) = orderP cl L := ordF_order [] L
theorem orderP_app (A B : List Int) : orderP cl (orderP cl A ++ orderP cl B) = orderP cl (A ++ B) := by
  unfold orderP
  rw [ordF_app, ordF_app]
  show ordF cl (orderP cl (orderP cl A)) (orderP cl B) = _
  rw [orderP_idem, ordF_order]; rfl
/-- Equal ones, or one that is a starter: the order is seen. -/
theorem order_seen (X : List Int) (a b : Int) (hn : a ≠ b) (h : cl a ≤ 0 ∨ cl b ≤ 0 ∨ cl a = cl b) : orderP cl (X ++ [a, b]) ≠ orderP cl (X ++ [b, a]) := by
  have two : ∀ (u v : Int), X ++ [u, v] = (X ++ [u]) ++ [v] := fun u v => by simp
  by_cases e : cl a = cl b
  · intro h'
    have f1 := orderP_feq (cl := cl) (X ++ [a, b]) (cl a)
    have f2 := orderP_feq (cl := cl) (X ++ [b, a]) (cl a)
    rw [h', f2] at f1
    simp [e] at f1
    exact hn f1.1.symm
  · rw [two a b, two b a, orderP_snoc, orderP_snoc, orderP_snoc, orderP_snoc]
    intro h'
    -- the starter stays where it is, the other behind it or ahead of it
    by_cases ha : cl a ≤ 0
    · rw [ins_starter (x := a) ha, ins_stay (by omega), ins_starter (X := ins cl _ b) ha] at h'
      have := congrArg List.getLast? h'
      simp at this
      exact hn this.symm
    · by_cases hb : cl b ≤ 0
      · rw [ins_starter (x := b) hb, ins_starter (X := orderP cl X) hb, ins_stay (by omega)] at h'
        have := congrArg List.getLast? h'
        simp at this
        exact hn this.symm
      · omega
end Go.Proofs.YtmglnpnkkidnnaaDoor
