/- A table that was built and is opened, whole or spoilt. -/
import Derived.Test.YtennpdhnjaemeaaDoorMTblD
import Derived.Test.YtennpdhnjaemeaaDoorMEnt
namespace Go.Proofs.YtennpdhnjaemeaaDoor
set_option linter.unusedVariables false
set_option maxRecDepth 100000
open Go.RowKit
/-- What Build made. -/
structure MadeT (l : List Ent) (ps : List (List (List Ent))) (ss : List ByteArray) : Prop where
  tb : TbOk 60 l ps
  norms : NormsOf l ss
  srt : srtB l = true
  len : l.length ≤ 1000
  ne : l ≠ []
def madeB (ps : List (List (List Ent))) (ss : List ByteArray) : List UInt8 := togB (blocksB ps) (filterB (ss.map hashN)) (indexB ps)
variable {l : List Ent} {ps : List (List (List Ent))} {ss : List ByteArray}
theorem MadeT.psne (h : MadeT l ps ss) : ps ≠ [] := by
  rintro rfl
  exact h.ne h.tb.flat.symm
theorem MadeT.sz (h : MadeT l ps ss) : (blocksB ps).length ≤ 100000000000 ∧ (indexB ps).length ≤ 100000000000 :=
  tb_size (len := 1000) h.tb.pcs (by rw [h.tb.flat]; exact h.len) (by decide)
theorem MadeT.fl (h : MadeT l ps ss) : (filterB (ss.map hashN)).length ≤ 2000 := by
  rw [filterB_len, List.length_map]
  have h1 := h.norms.len
  have h2 := h.len
  unfold bitsN
  have h3 : max 64 (10 * ss.length) ≤ 64 + 10 * ss.length := by omega
  omega
theorem MadeT.size (h : MadeT l ps ss) : sizeT (blocksB ps) (filterB (ss.map hashN)) (indexB ps) < 2 ^ 63 := by
  have h1 := h.sz
  have h2 := h.fl
  unfold sizeT
  rw [sealB_len, sealB_len, sealB_len, endB_len]
  omega
/-- One byte of the blocks was changed: some block is spoilt. -/
theorem chg_blocks : ∀ {ps : List (List (List Ent))} {B : List UInt8}, Chg (blocksB ps) B → ∃ bss, BlkSt ps bss ∧ bss.flatten = B
  | [], B, h => by
    obtain ⟨p, c, h1, -⟩ := h
    exact absurd h1 (by show ¬ p < 0; omega)
  | gs :: r, B, h => by
    have e : blocksB (gs :: r) = pcB gs ++ blocksB r := rfl
    rw [e] at h
    rcases h.app with ⟨A, hA, rfl⟩ | ⟨R, hR, rfl⟩
    · refine ⟨A :: r.map pcB, ⟨by simp, fun i x b hx hb => ?_⟩, by rw [List.flatten_cons]; rfl⟩
      cases i with
      | zero =>
        obtain rfl : gs = x := by simpa using hx
        obtain rfl : A = b := by simpa using hb
        exact ⟨hA.len, .inr (unseal_chg hA)⟩
      | succ i => exact allGood_st.each i x b (by simpa using hx) (by simpa using hb)
    · obtain ⟨bss, h1, rfl⟩ := chg_blocks hR
      refine ⟨pcB gs :: bss, ⟨by have := h1.len; simp [this], fun i x b hx hb => ?_⟩, by rw [List.flatten_cons]⟩
      cases i with
      | zero =>
        obtain rfl : gs = x := by simpa using hx
        obtain rfl : pcB gs = b := by simpa using hb
        exact ⟨rfl, .inl rfl⟩
      | succ i => exact h1.each i x b (by simpa using hx) (by simpa using hb)
/-- What Open tells of a table that may be spoilt. -/
def OpenSp (l : List Ent) (ps : List (List (List Ent))) (ss : List ByteArray) (w : World) (en : Ending) (w' : World) : Prop :=
  (en = .returned (.tuple #[.pointer none, .int .i64 8]) ∨ ∃ g bss, en = .returned (.tuple #[.pointer (some ⟨g, 0, none⟩), .int .i64 0]) ∧ TOk 60 w' g l ps bss ss) ∧ Below w.heap.size w w'
/-- .. of one that is whole. -/
def OpenGd (l : List Ent) (ps : List (List (List Ent))) (ss : List ByteArray) (w : World) (en : Ending) (w' : World) : Prop :=
  ∃ g, en = .returned (.tuple #[.pointer (some ⟨g, 0, none⟩), .int .i64 0]) ∧ TOk 60 w' g l ps (ps.map pcB) ss ∧ Below w.heap.size w w'
theorem open_bss (h : MadeT l ps ss) {b : List UInt8} {bss : List (List UInt8)} (hst : BlkSt ps bss) (ha : apartB b = some (bss.flatten, filterB (ss.map hashN), indexB ps)) (v : Value) (w : World) (ht : TabAt w) (hv : RdB w v b) :
    Calls Tryd.prog 12 #[v] w fun en w' => ∃ g, en = .returned (.tuple #[.pointer (some ⟨g, 0, none⟩), .int .i64 0]) ∧ TOk 60 w' g l ps bss ss ∧ Below w.heap.size w w' := by
  have h1 := h.sz
  have h2 := h.fl
  refine (open_yes v b bss.flatten (filterB (ss.map hashN)) ps ha (blkSt_len hst) h.psne (fun gs hg => pcfit_of (by decide) (h.tb.pcs gs hg)) (by omega) (by omega) (by omega) w ht hv).mono ?_
  rintro en w' ⟨g, rfl, h3, h4, h5⟩
  exact ⟨g, rfl, ⟨h3, hst, h.tb.pcs, by decide, by have := h.len; omega, by omega, h.psne, h.tb.flat, h.srt, h.norms, ht.below h5⟩, h5⟩
theorem open_good (h : MadeT l ps ss) (v : Value) (w : World) (ht : TabAt w) (hv : RdB w v (madeB ps ss)) : Calls Tryd.prog 12 #[v] w (OpenGd l ps ss w) :=
  open_bss h allGood_st (by unfold madeB; rw [apart_tog h.size]; rfl) v w ht hv
theorem open_chg (h : MadeT l ps ss) {Z : List UInt8} (hz : Chg (madeB ps ss) Z) (v : Value) (w : World) (ht : TabAt w) (hv : RdB w v Z) : Calls Tryd.prog 12 #[v] w (OpenSp l ps ss w) := by
  rcases apart_chg h.size hz with h1 | ⟨B, h1, h2⟩
  · refine (open_no v Z h1 w ht hv).mono ?_
    rintro en w' ⟨rfl, h3⟩
    exact ⟨.inl rfl, h3⟩
  · obtain ⟨bss, h3, rfl⟩ := chg_blocks h1
    refine (open_bss h h3 h2 v w ht hv).mono ?_
    rintro en w' ⟨g, rfl, h4, h5⟩
    exact ⟨.inr ⟨g, bss, rfl, h4⟩, h5⟩
theorem open_cut (h : MadeT l ps ss) {n : Nat} (hn : n < (madeB ps ss).length) (v : Value) (w : World) (ht : TabAt w) (hv : RdB w v ((madeB ps ss).take n)) : Calls Tryd.prog 12 #[v] w (OpenSp l ps ss w) := by
  refine (open_no v _ (apart_cut h.size hn) w ht hv).mono ?_
  rintro en w' ⟨rfl, h3⟩
  exact ⟨.inl rfl, h3⟩
theorem open_same (h : MadeT l ps ss) (v : Value) (w : World) (ht : TabAt w) (hv : RdB w v (madeB ps ss)) : Calls Tryd.prog 12 #[v] w (OpenSp l ps ss w) := by
  refine (open_good h v w ht hv).mono ?_
  rintro en w' ⟨g, rfl, h1, h2⟩
  exact ⟨.inr ⟨g, _, rfl, h1⟩, h2⟩
/-- What Build tells of entries that may stand in a table. -/
def BuildGd (l : List Ent) (w : World) (en : Ending) (w' : World) : Prop := ∃ v ps ss, en = .returned (.tuple #[v, .int .i64 0]) ∧ MadeT l ps ss ∧ OwnB w.heap.size w' v (madeB ps ss) ∧ Below w.heap.size w w'
theorem build_good (l : List Ent) (hne : l ≠ []) (hl : l.length ≤ 1000) (ha : AreP l) (hf : ∀ e ∈ l, FitE 60 e) (v : Value) (w : World) (ht : TabAt w) (hv : RdK encEnt 5 w v l) : Calls Tryd.prog 11 #[v] w (BuildGd l w) := by
  refine (build_yes 60 (by decide) v l (by omega) ?_ ha hf w ht hv).mono ?_
  · have : l.length * (53 * 60 + 2040) ≤ 1000 * (53 * 60 + 2040) := Nat.mul_le_mul_right _ hl
    omega
  · rintro en w' ⟨u, ps, ss, rfl, h1, h2, h3, h4⟩
    exact ⟨u, ps, ss, rfl, ⟨h1, h2, ha.2.1, hl, hne⟩, h3, h4⟩
theorem areP_of {l : List Ent} (hg : GoodL l) (hne : l ≠ []) : AreP l := by
  refine ⟨hne, hg.sorted, fun i e hi => ⟨hg.right e (List.mem_of_getElem? hi), fun j d hj hd hh => ?_⟩⟩
  subst hj
  obtain ⟨h1, e1⟩ := List.getElem?_eq_some_iff.1 hi
  obtain ⟨h2, e2⟩ := List.getElem?_eq_some_iff.1 hd
  have := List.pairwise_iff_getElem.1 hg.apart j (j + 1) h2 h1 (by omega)
  rw [e1, e2] at this
  exact this ⟨hh.1.symm, hh.2.symm⟩
theorem areP_nil : ¬ AreP [] := fun h => h.1 rfl
end Go.Proofs.YtennpdhnjaemeaaDoor
