/- The walk of the laws' CutAll; entries inserted: the two appends. -/
import Derived.Test.YtmndhmodcglkjaaEntCut
import Derived.Test.YtmndhmodcglkjaaEntSort
import Derived.Test.YtmndhmodcglkjaaRowsK2
namespace Go.Proofs.Ytmndhmodcglkjaa
set_option linter.unusedVariables false
open Go.RowKit
theorem elem_ent : ElemK Try.prog 24 28 5 64 (.agg #[.string ⟨#[]⟩, .int .i64 0, .int .i64 0, .string ⟨#[]⟩, .string ⟨#[]⟩]) := ⟨Try.underlying24, by kernel_rfl, rfl, by decide⟩
theorem enc_cells (e : Ent) : ∀ u ∈ encEnt e, u.oneCell' = true := fun u hu => encEnt_one [e] u (by simpa using hu)
/-- The two appends that lay e between the first j entries and the others. -/
theorem eins_run {w : World} {a : Option Addr} {n cap : Nat} {xs : List Ent} (h : RdK encEnt 5 w (.slice a n cap) xs) (hn : n = xs.length) {B : Nat} (hB : B ≤ w.heap.size) (j : Nat) (hj : j ≤ n) (hx : xs.length ≤ 1000000) (e : Ent) :
    ∃ v1 w1, (Builtin.append_ #[24, 24] 24 #[.slice (some ⟨w.heap.size, 0, none⟩) 1 1, .slice (if cap = j then a else a.map (·.add (j * 5))) (n - j) (cap - j)]).run Try.prog (w.alloc (.cells (encEnt e).toArray 28)).drew = .ok v1 w1 ∧ Below w.heap.size w w1 ∧
      ∃ v2 w2, (Builtin.append_ #[24, 24] 24 #[.slice a j j, v1]).run Try.prog w1 = .ok v2 w2 ∧ Below w.heap.size w w2 ∧ OwnK encEnt 5 28 B w2 v2 (xs.take j ++ e :: xs.drop j) := by
  have hal : Below w.heap.size w (w.alloc (.cells (encEnt e).toArray 28)).drew := ((Below.refl _ w).alloc (Nat.le_refl _) _).drew
  have hT := (h.rest j hj).below hal
  have hO : OwnK encEnt 5 28 w.heap.size (w.alloc (.cells (encEnt e).toArray 28)).drew (.slice (some ⟨w.heap.size, 0, none⟩) 1 1) [e] := own_oneK (E := 28) encEnt_len w e
  obtain ⟨v1, w1, r1, o1, b1⟩ := run_appK (ty := 24) elem_ent encEnt_len hO hT (encEnt_one _) (by rw [List.length_drop]; simp; omega) (by rw [List.length_drop]; simp [maxLen]; omega) (by simp [World.drew])
  have B1 : Below w.heap.size w w1 := hal.trans b1
  obtain ⟨f1, f2, f3⟩ := h.front j hj
  have hF := f1.below B1
  obtain ⟨v2, w2, r2, o2, b2⟩ := run_appFK (ty := 24) elem_ent encEnt_len (B := B) hF (a := a) (by rw [f2]) f3 (o1.rd encEnt_len) (by simp) (by rw [f2, List.length_append, List.length_drop]; simp; omega) (by rw [f2, List.length_append, List.length_drop]; simp [maxLen]; omega) (Nat.le_trans hB B1.size)
  exact ⟨v1, w1, r1, B1, v2, w2, r2, B1.trans (b2.mono B1.size), o2⟩
/-- What CutAll answers: some entries, of the call's own. -/
def SomeE (n : Nat) (w : World) (e : Ending) (w' : World) : Prop := ∃ v xs, e = .returned v ∧ OwnK encEnt 5 28 w.heap.size w' v xs ∧ xs.length ≤ n ∧ Below w.heap.size w w'
/-- What an entry that was cut is. -/
def CutOk (c : Ent) : Prop := c.norm.size ≤ 30 ∧ c.spell.size ≤ 30 ∧ c.val.size ≤ 60 ∧ (Lit.int .i64 c.seq).wf = true ∧ (Lit.int .i64 c.kind).wf = true
theorem cutOk_snoc {ys : List Ent} (h : ∀ y ∈ ys, CutOk y) {e c : Ent} (he : e.ok) (h1 : c.seq = e.seq) (h2 : c.kind = e.kind) (h3 : c.norm.size ≤ 30) (h4 : c.spell.size ≤ 30) (h5 : c.val.size ≤ 60) : ∀ y ∈ ys ++ [c], CutOk y := fun y hy => by
  rcases List.mem_append.1 hy with hy | hy
  · exact h y hy
  · rw [List.mem_singleton.1 hy]
    exact ⟨h3, h4, h5, by rw [h1]; exact he.2.2.2.1, by rw [h2]; exact he.2.2.2.2⟩
/-- What CutAll answers: some entries, cut, of the call's own. -/
def SomeG (n : Nat) (w : World) (e : Ending) (w' : World) : Prop := ∃ v xs, e = .returned v ∧ OwnK encEnt 5 28 w.heap.size w' v xs ∧ (∀ x ∈ xs, CutOk x) ∧ xs.length ≤ n ∧ Below w.heap.size w w'
set_option maxHeartbeats 4000000 in
set_option maxRecDepth 100000 in
theorem cutallN_any (N : Nat) (hN : N ≤ 1000) (v : Value) (xs : List Ent) (hok : ∀ e ∈ xs, e.ok) (w : World) (hrd : RdK encEnt 5 w v xs) :
    Calls Try.prog 7 #[v, .int .i64 (N : Int)] w (SomeG N w) := by
  obtain ⟨a, len, cap, rfl, hlen⟩ := rdK_len hrd
  have HOK := Lib.hid hok
  have HRD := Lib.hid hrd
  have HN := Lib.hid hlen
  clear hrd hlen hok
  go_enter Try.func7, Try.ntmps7
  go_wp2_with fail
  go_loopg [5, 6] len (fun kk vo vi wr => ∃ (i : Nat) (ys : List Ent), vi = .int .i64 i ∧ i ≤ len ∧ i ≤ N ∧ len - i ≤ kk ∧ ys.length ≤ i ∧ Hid (∀ y ∈ ys, CutOk y) ∧ Hid (OwnK encEnt 5 28 w.heap.size wr vo ys ∧ Below w.heap.size w wr))
  case atStart => exact ⟨0, [], rfl, by omega, by omega, by omega, by simp, Lib.hid (fun y hy => absurd hy List.not_mem_nil), Lib.hid ⟨OwnK.nil _ _ _ _ _, Below.refl _ _⟩⟩
  case round =>
    obtain ⟨i, ys, rfl, hi, hiN, hik, hys, HY, HO⟩ := hrel
    have hi0 : (0 : Int) ≤ (i : Int) := by omega
    by_cases h1 : i < len
    · have hd1 : decide (i < len) = true := decide_eq_true h1
      by_cases h2 : i < N
      · have h2i : (i : Int) < (N : Int) := by omega
        have hil : (i : Int) < (len : Int) := by omega
        obtain ⟨x, hx⟩ : ∃ x, xs[i]? = some x := ⟨xs[i]'(by have := HN.out; omega), List.getElem?_eq_getElem _⟩
        obtain ⟨b, off, rfl, hblt, d0, d1, d2, d3, d4⟩ := (HRD.out.below HO.out.2).at5 HN.out i x hx
        have HC : Hid (∀ w, Calls Try.prog 15 #[x.v] w (CutE x w)) := Lib.hid (ecut_any x (HOK.out x (List.mem_of_getElem? hx)))
        have HXO := Lib.hid (HOK.out x (List.mem_of_getElem? hx))
        obtain ⟨xn, xq, xk, xsp, xv⟩ := x
        simp only at d0 d1 d2 d3 d4
        clear hx
        go_wp2_with fail
        refine (HC.out _).mono ?_
        rintro e w2 ⟨⟨cn, cq, ck, csp, cv⟩, rfl, q1, q2, q3, q4, q5, hb⟩
        have HY2 : Hid (∀ y ∈ ys ++ [(⟨cn, cq, ck, csp, cv⟩ : Ent)], CutOk y) := Lib.hid (cutOk_snoc HY.out HXO.out q1 q2 q3 q4 q5)
        clear q1 q2 q3 q4 q5 HXO HY
        have HO2 : Hid (OwnK encEnt 5 28 w.heap.size w2 _ ys ∧ Below w.heap.size w w2) := Lib.hid ⟨HO.out.1.below hb, HO.out.2.trans (hb.mono HO.out.2.size)⟩
        clear hb HO d0 d1 d2 d3 d4 HC
        unfold Ent.v
        go_wp2_with (at_builtin; refine wp_appHK elem_ent encEnt_len _ _ (by rfl) (by rfl) (by rfl) HO2.out.1 ⟨cn, cq, ck, csp, cv⟩ _ (by rfl) (by rfl) ?c1 ?c2 ?c3 ?c4 ?_)
        case c1 => exact enc_cells _
        case c2 => omega
        case c3 => unfold maxLen; omega
        case c4 => exact HO2.out.2.size
        intro v' w3 o3 b3
        have HO3 : Hid (OwnK encEnt 5 28 w.heap.size w3 v' (ys ++ [⟨cn, cq, ck, csp, cv⟩]) ∧ Below w.heap.size w w3) := Lib.hid ⟨o3, HO2.out.2.trans b3⟩
        clear o3 b3 HO2
        go_wp2_with fail
        go_roundg (len - (i + 1))
        case measure => omega
        case rel => exact ⟨i + 1, _, by go_num, by omega, by omega, Nat.le_refl _, by simp; omega, HY2, HO3⟩
      · have h2i : ¬ (i : Int) < (N : Int) := by omega
        go_wp2_with fail
        go_ret
        exact ⟨_, _, rfl, HO.out.1, HY.out, by omega, HO.out.2⟩
    · have hd1 : decide (i < len) = false := decide_eq_false h1
      go_wp2_with fail
      go_ret
      exact ⟨_, _, rfl, HO.out.1, HY.out, by omega, HO.out.2⟩
theorem cutall_any (v : Value) (xs : List Ent) (hok : ∀ e ∈ xs, e.ok) (w : World) (hrd : RdK encEnt 5 w v xs) :
    Calls Try.prog 7 #[v, .int .i64 30] w (SomeE 30 w) :=
  (cutallN_any 30 (by omega) v xs hok w hrd).mono fun _ _ ⟨v, xs, h1, h2, _, h4, h5⟩ => ⟨v, xs, h1, h2, h4, h5⟩
end Go.Proofs.Ytmndhmodcglkjaa
