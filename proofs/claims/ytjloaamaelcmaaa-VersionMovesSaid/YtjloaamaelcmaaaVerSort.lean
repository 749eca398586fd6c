/- Tables in order: what the library's sort makes of a row of the call's own. -/
import Derived.Test.YtjloaamaelcmaaaVerOrd
import Derived.Test.YtjloaamaelcmaaaVerLays
import Derived.Test.YtjloaamaelcmaaaOwnSort
import Derived.Shelf.SlSortCmp.NoneTotal
namespace Go.Proofs.Ytjloaamaelcmaaa
set_option linter.unusedVariables false
open Go.RowKit Go.Shelf
open Go.Sort (HoldsK PermIn SortedIn SWO)
open Go.Lib (compareBytes)
instance : Inhabited Tbf := ⟨Tbf.none⟩
/-- f stands ahead of g. -/
def vLt (f g : Tbf) : Prop := f.lvl < g.lvl ∨ f.lvl = g.lvl ∧ (f.lvl = 0 ∧ g.num < f.num ∨ f.lvl ≠ 0 ∧ bl f.lo g.lo)
instance (f g : Tbf) : Decidable (vLt f g) := inferInstanceAs (Decidable (_ ∨ _))
theorem cmpI_neg (x y : Int) : cmpI x y < 0 ↔ x < y := by
  unfold cmpI
  split
  · exact ⟨fun _ => by assumption, fun _ => by decide⟩
  · split <;> omega
theorem cmpI_zero (x y : Int) : cmpI x y = 0 ↔ x = y := by
  unfold cmpI
  split
  · omega
  · split <;> omega
theorem cmpB_neg (a b : ByteArray) : compareBytes a.data.toList b.data.toList < 0 ↔ bl a b := by
  rcases bl_tri a b with h | rfl | h
  · rw [(cmpL_lt _ _ h).1]; exact ⟨fun _ => h, fun _ => by decide⟩
  · rw [cmpL_self]; exact ⟨fun h => absurd h (by decide), fun h => absurd h (bl_irr _)⟩
  · rw [(cmpL_lt _ _ h).2]; exact ⟨fun h => absurd h (by decide), fun k => absurd (bl_trans h k) (bl_irr _)⟩
theorem ltOf_vCf (f g : Tbf) : ltOf vCf f g = decide (vLt f g) := by
  unfold ltOf
  rw [decide_eq_decide]
  unfold vCf vLt
  by_cases h0 : f.lvl = 0 ∧ g.lvl = 0
  · rw [if_pos h0, cmpI_neg]
    obtain ⟨h1, h2⟩ := h0
    rw [h1, h2]
    constructor
    · intro h; exact .inr ⟨rfl, .inl ⟨rfl, h⟩⟩
    · rintro (h | ⟨-, h | ⟨h, -⟩⟩)
      · omega
      · exact h.2
      · exact absurd rfl h
  · rw [if_neg h0]
    unfold vOr
    by_cases h1 : f.lvl = g.lvl
    · rw [if_pos ((cmpI_zero _ _).2 h1), cmpB_neg]
      have hn : f.lvl ≠ 0 := fun h => h0 ⟨h, by omega⟩
      constructor
      · intro h; exact .inr ⟨h1, .inr ⟨hn, h⟩⟩
      · rintro (h | ⟨-, h | h⟩)
        · omega
        · exact absurd h.1 hn
        · exact h.2
    · rw [if_neg (fun h => h1 ((cmpI_zero _ _).1 h)), cmpI_neg]
      constructor
      · intro h; exact .inl h
      · rintro (h | ⟨h, -⟩)
        · exact h
        · exact absurd h h1
theorem vLt_irr (f : Tbf) : ¬ vLt f f := by
  rintro (h | ⟨-, ⟨-, h⟩ | ⟨-, h⟩⟩)
  · omega
  · omega
  · exact bl_irr _ h
theorem vLt_trans {f g h : Tbf} (a : vLt f g) (b : vLt g h) : vLt f h := by
  rcases a with a | ⟨a1, a2⟩
  · rcases b with b | ⟨b1, -⟩
    · exact .inl (by omega)
    · exact .inl (by omega)
  · rcases b with b | ⟨b1, b2⟩
    · exact .inl (by omega)
    · refine .inr ⟨by omega, ?_⟩
      rcases a2 with ⟨c1, c2⟩ | ⟨c1, c2⟩
      · rcases b2 with ⟨d1, d2⟩ | ⟨d1, d2⟩
        · exact .inl ⟨c1, by omega⟩
        · exact absurd (show g.lvl = 0 by omega) d1
      · rcases b2 with ⟨d1, d2⟩ | ⟨d1, d2⟩
        · exact absurd (show f.lvl = 0 by omega) c1
        · exact .inr ⟨c1, bl_trans c2 d2⟩
theorem not_vLt {f g : Tbf} (h : ¬ vLt f g) : g.lvl < f.lvl ∨ f.lvl = g.lvl ∧ (f.lvl = 0 ∧ f.num ≤ g.num ∨ f.lvl ≠ 0 ∧ ¬ bl f.lo g.lo) := by
  unfold vLt at h
  rcases Int.lt_trichotomy f.lvl g.lvl with k | k | k
  · exact absurd (.inl k) h
  · refine .inr ⟨k, ?_⟩
    by_cases h0 : f.lvl = 0
    · exact .inl ⟨h0, Int.not_lt.1 fun q => h (.inr ⟨k, .inl ⟨h0, q⟩⟩)⟩
    · exact .inr ⟨h0, fun q => h (.inr ⟨k, .inr ⟨h0, q⟩⟩)⟩
  · exact .inl k
theorem bl_ntrans {a b c : ByteArray} (h : ¬ bl a b) (k : ¬ bl b c) : ¬ bl a c := by
  intro q
  rcases bl_tri a b with r | r | r
  · exact h r
  · subst r; exact k q
  · exact k (bl_trans r q)
theorem vLt_ntrans {f g h : Tbf} (a : ¬ vLt f g) (b : ¬ vLt g h) : ¬ vLt f h := by
  have a' := not_vLt a
  have b' := not_vLt b
  rintro (c | ⟨c1, c2⟩)
  · rcases a' with a' | ⟨a1, -⟩ <;> rcases b' with b' | ⟨b1, -⟩ <;> omega
  · rcases a' with a' | ⟨a1, a2⟩
    · rcases b' with b' | ⟨b1, -⟩ <;> omega
    · rcases b' with b' | ⟨b1, b2⟩
      · omega
      · rcases c2 with ⟨d1, d2⟩ | ⟨d1, d2⟩
        · rcases a2 with ⟨-, a3⟩ | ⟨a3, -⟩
          · rcases b2 with ⟨-, b3⟩ | ⟨b3, -⟩
            · omega
            · exact b3 (by omega)
          · exact a3 d1
        · rcases a2 with ⟨a3, -⟩ | ⟨-, a3⟩
          · exact d1 a3
          · rcases b2 with ⟨b3, -⟩ | ⟨-, b3⟩
            · exact d1 (by omega)
            · exact bl_ntrans a3 b3 d2
theorem swo_vCf : SWO (ltOf vCf) where
  irrefl x := by rw [ltOf_vCf]; exact decide_eq_false (vLt_irr x)
  trans x y z h k := by rw [ltOf_vCf] at *; exact decide_eq_true (vLt_trans (of_decide_eq_true h) (of_decide_eq_true k))
  ntrans x y z h k := by rw [ltOf_vCf] at *; exact decide_eq_false (vLt_ntrans (of_decide_eq_false h) (of_decide_eq_false k))
theorem vorder_lays (blk off size : Nat) (w : World) : CmpLays Try.prog 51 #[] encTbf 5 vCf blk off size w := by
  intro m os dk _ x y
  refine (vorder_any x y _).mono ?_
  rintro e w' ⟨h1, ⟨⟨n, o2⟩, h2⟩⟩
  exact ⟨h1, n, o2, h2⟩
/-- In order, as All tells them. -/
def vSorted (l : List Tbf) : Prop := l.Pairwise fun f g => ¬ vLt g f
def SortTo (B : Nat) (w : World) (v : Value) (xs : List Tbf) (e : Ending) (w' : World) : Prop :=
  e = .returned (.tuple #[]) ∧ ∃ ys : List Tbf, ys.Perm xs ∧ vSorted ys ∧ OwnK encTbf 5 43 B w' v ys ∧ Below B w w'
theorem vsort_some (g n cap B : Nat) (xs : List Tbf) (w : World) (h : OwnK encTbf 5 43 B w (.slice (some ⟨g, 0, none⟩) n cap) xs) (hl : xs.length < 4611686018427387904) :
    Calls Try.prog 50 #[.slice (some ⟨g, 0, none⟩) n cap, .func (.func 51) #[] #[]] w (SortTo B w (.slice (some ⟨g, 0, none⟩) n cap) xs) := by
  have eg : ∀ args w, (callFunc 51 args).run Try.prog w = .ok (.enter 51 args) w := enters_of Try.func51 (by kernel_rfl) rfl
  obtain ⟨cur, hb, hn, h1, h2, h3, hg, hgl, hc⟩ := h.blockS
  have hcon := AnyQ.slices_SortFunc sortF 5 Try.isAgg43 Try.sizeOf43 encTbf encTbf_len (fun x v hv => encTbf_one [x] v (by simpa using hv)) vCf swo_vCf 51 #[] g 0 cap xs.toArray w eg (vorder_lays g 0 _ w) (h.holdsK encTbf_len) hgl (by simpa using hl)
  have hs : xs.toArray.size = n := by rw [hn]; simp
  rw [hs] at hcon
  refine Calls.mono hcon ?_
  rintro e w' ⟨rfl, d', q, os, hp, hS, rfl⟩
  rw [← hs] at hp
  have hpl := perm_list hp
  have hdl : d'.toList.length = xs.length := hpl.length_eq
  have hds : d'.size = xs.length := by rw [← Array.length_toList]; exact hdl
  obtain ⟨o, b⟩ := h.sortedK (w' := sortWorldK encTbf 5 w g 0 q d' os) (ys := d'.toList) encTbf_len ⟨q, os, by rw [Array.toArray_toList]⟩ hdl
  refine ⟨rfl, d'.toList, hpl, ?_, o, b⟩
  rw [hn] at hS
  refine (sorted_list hds hS).imp fun {f g} hh => ?_
  rw [ltOf_vCf] at hh
  exact of_decide_eq_false hh
theorem vsort_any {B : Nat} {w : World} {v : Value} {xs : List Tbf} (hB : B ≤ w.heap.size) (h : OwnK encTbf 5 43 B w v xs) (hl : xs.length < 4611686018427387904) :
    Calls Try.prog 50 #[v, .func (.func 51) #[] #[]] w (SortTo B w v xs) := by
  rcases h.blk with ⟨rfl, rfl⟩ | ⟨g, cap, cur, rfl, -⟩
  · refine Calls.mono (AnyF.slices_SortFunc_none sortF none 0 (.func (.func 51) #[] #[]) w) ?_
    rintro e w' ⟨rfl, rfl⟩
    exact ⟨rfl, [], List.Perm.refl _, List.Pairwise.nil, h, Below.refl _ _⟩
  · exact vsort_some g _ cap B xs w h hl
end Go.Proofs.Ytjloaamaelcmaaa
