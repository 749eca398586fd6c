/- Tables that go from level to level: what the law VersionMoves makes. -/
import Derived.Test.YtjloaamaelcmaaaVerLet
import Derived.Test.YtjloaamaelcmaaaVerWout
import Derived.Test.YtjloaamaelcmaaaRowsSet
namespace Go.Proofs.Ytjloaamaelcmaaa
set_option linter.unusedVariables false
set_option maxRecDepth 100000
open Go.RowKit
def mvT (i l : Nat) : Tbf := ⟨(i : Int) + 1, (l : Int), 0, ltr i, ltr i⟩
def mvL (lv : List Nat) : List Tbf := lv.mapIdx mvT
theorem mvL_len (lv : List Nat) : (mvL lv).length = lv.length := List.length_mapIdx
theorem mvL_at (lv : List Nat) (i : Nat) : (mvL lv)[i]? = lv[i]?.map (mvT i) := List.getElem?_mapIdx
theorem mvL_set (lv : List Nat) (k x : Nat) : mvL (lv.set k x) = (mvL lv).set k (mvT k x) := by
  apply List.ext_getElem?
  intro i
  rw [mvL_at, List.getElem?_set, List.getElem?_set, mvL_at, mvL_len]
  by_cases h : k = i
  · subst h
    rw [if_pos rfl, if_pos rfl]
    split <;> rfl
  · rw [if_neg h, if_neg h]
def mvV (lv : List Nat) : Ver := ⟨mvL lv, (lv.length : Int) + 1, 0, 0⟩
theorem mvL_mem {lv : List Nat} {f : Tbf} (h : f ∈ mvL lv) : ∃ i l, f = mvT i l ∧ lv[i]? = some l := by
  obtain ⟨i, hi⟩ := List.mem_iff_getElem?.1 h
  rw [mvL_at] at hi
  obtain ⟨l, hl, rfl⟩ := Option.map_eq_some_iff.1 hi
  exact ⟨i, l, rfl, hl⟩
theorem mvL_pair {R : Tbf → Tbf → Prop} (lv : List Nat) (h : ∀ i j a b, i < j → lv[i]? = some a → lv[j]? = some b → R (mvT i a) (mvT j b)) : (mvL lv).Pairwise R := by
  rw [List.pairwise_iff_getElem]
  intro i j hi hj hij
  rw [mvL_len] at hi hj
  have e1 : (mvL lv)[i]? = some (mvT i lv[i]) := by rw [mvL_at, List.getElem?_eq_getElem hi]; rfl
  have e2 : (mvL lv)[j]? = some (mvT j lv[j]) := by rw [mvL_at, List.getElem?_eq_getElem hj]; rfl
  rw [(List.getElem?_eq_some_iff.1 e1).2, (List.getElem?_eq_some_iff.1 e2).2]
  exact h i j _ _ hij (List.getElem?_eq_getElem hi) (List.getElem?_eq_getElem hj)
theorem mvT_right {i l : Nat} (hi : i < 20) (hl : l ≤ 4) : ¬ badTb (mvT i l) := by
  unfold badTb badTab mvT
  simp only [not_or, ltr_size]
  exact ⟨⟨by omega, by omega⟩, by omega, by omega, by omega, by omega, by omega, by omega, fun h => bl_irr _ h⟩
theorem mv_good {lv : List Nat} (h1 : 1 ≤ lv.length) (h2 : lv.length ≤ 20) (h3 : ∀ l ∈ lv, l ≤ 4) : GoodV (mvV lv) := by
  refine ⟨?_, ?_, by show (mvL lv).length ≤ 200; rw [mvL_len]; omega, fun f hf => ?_, fun f hf => ?_, by show (1 : Int) ≤ _; simp only [mvV]; omega, by simp only [mvV]; omega, by simp [mvV], by simp only [mvV]; omega, by simp [mvV], by simp [mvV]⟩
  · show ((mvL lv).map Tbf.num).Pairwise (· ≠ ·)
    rw [List.pairwise_map]
    refine mvL_pair lv fun i j a b hij _ _ => ?_
    simp only [mvT, ne_eq]
    omega
  · refine mvL_pair lv fun i j a b hij ha hb => ?_
    have hi := (List.getElem?_eq_some_iff.1 ha).1
    have hj := (List.getElem?_eq_some_iff.1 hb).1
    intro hc
    exact hc.2.2.2 ((bl_ltr (by omega) (by omega)).2 hij)
  · obtain ⟨i, l, rfl, hl⟩ := mvL_mem hf
    exact mvT_right (by have := (List.getElem?_eq_some_iff.1 hl).1; omega) (h3 l (List.mem_of_getElem? hl))
  · obtain ⟨i, l, rfl, hl⟩ := mvL_mem hf
    have := (List.getElem?_eq_some_iff.1 hl).1
    simp only [mvT, mvV]
    omega
/-- The edit that all tables come in by. -/
def mvE (n : Nat) : Edt := ⟨(n : Int) + 1, 0, 0, mvL (List.replicate n 0), []⟩
theorem mvE_is {n : Nat} (h1 : 1 ≤ n) (h2 : n ≤ 20) : applyV Ver.new (mvE n) = some (mvV (List.replicate n 0)) := by
  have g := mv_good (lv := List.replicate n 0) (by simpa using h1) (by simpa using h2) (fun l hl => by rw [List.eq_of_mem_replicate hl]; omega)
  have := applyV_edit g (List.Perm.refl _)
  simp only [mvV, List.length_replicate] at this ⊢
  exact this
theorem mvT_ok (i l : Nat) : (mvT i l).ok := ⟨ltr_ok _, ltr_ok _⟩
theorem mvE_ok {n : Nat} (h2 : n ≤ 20) : (mvE n).ok := by
  refine ⟨fun f hf => ?_, by show (mvL _).length ≤ _; rw [mvL_len, List.length_replicate]; omega, by simp [mvE]⟩
  obtain ⟨i, l, rfl, -⟩ := mvL_mem hf
  exact mvT_ok i l
/-- The edit of one move. -/
def mvM (k l : Nat) : Edt := ⟨0, 0, 0, [mvT k l], [(k : Int) + 1]⟩
theorem mvM_ok (k l : Nat) : (mvM k l).ok := ⟨fun f hf => by rw [List.mem_singleton.1 hf]; exact mvT_ok k l, by simp [mvM], by simp [mvM]⟩
theorem erase_snoc {α : Type} (l : List α) (k : Nat) (x : α) (h : k < l.length) : (l.eraseIdx k ++ [x]).Perm (l.set k x) := by
  rw [List.eraseIdx_eq_take_drop_succ, List.set_eq_take_append_cons_drop, if_pos h, List.append_assoc]
  exact List.Perm.append_left _ (List.perm_append_comm (l₁ := l.drop (k + 1)) (l₂ := [x]))
theorem mv_step {lv : List Nat} {k l : Nat} (h1 : 1 ≤ lv.length) (h2 : lv.length ≤ 20) (h3 : ∀ l ∈ lv, l ≤ 4) (hk : lv[k]? = some l) (hl : l < 4) : ∃ N, applyV (mvV lv) (mvM k (l + 1)) = some N ∧ vSame N (mvV (lv.set k (l + 1))) := by
  have hkl := (List.getElem?_eq_some_iff.1 hk).1
  have g2 := mv_good (lv := lv.set k (l + 1)) (by simpa using h1) (by simpa using h2) (fun x hx => by
    rcases List.mem_or_eq_of_mem_set hx with h | h
    · exact h3 x h
    · omega)
  have hp : ((mvL lv).eraseIdx k ++ [mvT k (l + 1)]).Perm (mvL (lv.set k (l + 1))) := by
    rw [mvL_set]
    exact erase_snoc _ k _ (by rw [mvL_len]; exact hkl)
  have hat : (mvL lv)[k]? = some (mvT k l) := by rw [mvL_at, hk]; rfl
  have hd : vDel (mvL lv) ((k : Int) + 1) = (mvL lv).eraseIdx k := by
    unfold vDel
    refine eraseP_at hat rfl fun m y hm hy => ?_
    rw [mvL_at] at hy
    obtain ⟨x, -, rfl⟩ := Option.map_eq_some_iff.1 hy
    simp only [mvT]
    omega
  have hh : vHas (mvL lv) ((k : Int) + 1) := ⟨_, List.mem_of_getElem? hat, rfl⟩
  have hdd : vDels (mvL lv) [(k : Int) + 1] = some ((mvL lv).eraseIdx k) := by
    rw [vDels, if_pos hh, hd]; rfl
  have hn : (((mvL lv).eraseIdx k ++ [mvT k (l + 1)]).map Tbf.num).Nodup := (hp.map _).nodup_iff.2 g2.nums
  have ha := vAdds_some hn
  have hm : mayE (mvM k (l + 1)) := by
    have o0 : okEdN 0 := ⟨by decide, by decide⟩
    refine ⟨⟨o0, o0, o0⟩, ⟨by simp [mvM], by simp [mvM]⟩, fun f hf => ?_, fun n hn => ?_⟩
    · rw [List.mem_singleton.1 hf]
      exact mvT_right (by omega) (by omega)
    · rw [List.mem_singleton.1 hn]
      unfold badTab
      omega
  refine ⟨⟨(mvL lv).eraseIdx k ++ [mvT k (l + 1)], (lv.length : Int) + 1, 0, 0⟩, ?_, ⟨hp, by simp [mvV], rfl, rfl⟩⟩
  unfold applyV
  rw [if_pos hm]
  show (match vDels (mvL lv) [(k : Int) + 1] with | none => none | some l => _) = _
  rw [hdd]
  show (match vAdds ((mvL lv).eraseIdx k) [mvT k (l + 1)] with | none => none | some m => _) = _
  rw [ha]
  refine if_pos ⟨vApart_perm hp.symm g2.apart, by rw [hp.length_eq]; exact g2.few, Int.le_refl _, Int.le_refl _, Int.le_refl _, by show ¬ ((lv.length : Int) + 1 ≤ 0 ∧ (0 : Int) < 0); omega, fun f hf => ?_⟩
  have := g2.below f (hp.mem_iff.1 hf)
  simp only [mvV, List.length_set] at this
  exact this
/-- How many are at a level. -/
def mvC (lv : List Nat) (k : Nat) : Nat := (lv.filter fun x => decide (x = k)).length
theorem mvC_snoc (lv : List Nat) (k x : Nat) : mvC (lv ++ [x]) k = if x = k then mvC lv k + 1 else mvC lv k := by
  unfold mvC
  rw [List.filter_append, List.length_append]
  by_cases h : x = k
  · rw [if_pos h, List.filter_cons_of_pos (by simpa using h)]; rfl
  · rw [if_neg h, List.filter_cons_of_neg (by simpa using h)]; rfl
theorem mvC_le (lv : List Nat) (k : Nat) : mvC lv k ≤ lv.length := List.length_filter_le _ _
theorem mv_count {V : Ver} {lv : List Nat} (h : vSame (mvV lv) V) (k : Nat) : (V.fs.filter fun f => decide (f.lvl = (k : Int))).length = mvC lv k := by
  rw [← (h.1.filter _).length_eq]
  show ((mvL lv).filter _).length = _
  have e : (mvL lv).map Tbf.lvl = lv.map fun (x : Nat) => (x : Int) := by
    apply List.ext_getElem?
    intro i
    rw [List.getElem?_map, List.getElem?_map, mvL_at]
    cases lv[i]? <;> rfl
  have e1 : ((mvL lv).filter fun f => decide (f.lvl = (k : Int))).length = (((mvL lv).map Tbf.lvl).filter fun x => decide (x = (k : Int))).length := by
    rw [List.filter_map, List.length_map]; rfl
  rw [e1, e, List.filter_map, List.length_map]
  unfold mvC
  congr 1
  refine List.filter_congr fun x _ => ?_
  show decide ((x : Int) = (k : Int)) = decide (x = k)
  exact decide_eq_decide.2 (by omega)
theorem mv_order {V : Ver} (g : GoodV V) (hs : vSorted V.fs) (k : Nat) : (V.fs.filter fun f => decide (f.lvl = (k : Int))).Pairwise (vBef k) := by
  rw [ver_level g hs (vSame.refl V) k (by omega)]
  exact levelV_srt g k (by omega)
/-- A row of levels. -/
def encNt (n : Nat) : List Value := [.int .i64 (n : Int)]
theorem encNt_len : EncK encNt 1 := fun _ => rfl
theorem elem_nt : ElemK Try.prog 47 3 1 8 (.int .i64 0) := ⟨Try.underlying47, by kernel_rfl, rfl, by decide⟩
theorem mvL_snoc (lv : List Nat) (x : Nat) : mvL (lv ++ [x]) = mvL lv ++ [mvT lv.length x] := List.mapIdx_concat
theorem mvL_rep (i : Nat) : mvL (List.replicate (i + 1) 0) = mvL (List.replicate i 0) ++ [mvT i 0] := by
  rw [List.replicate_succ', mvL_snoc, List.length_replicate]
/-- What lies in memory between moves: the version, the tables as they came in, the row of levels. -/
structure MvAt (w0 w : World) (c g n : Nat) (al : Option Addr) (cl : Nat) (V : Ver) (lv lw : List Nat) : Prop where
  v : VerAt c w c V
  s : vSame (mvV lv) V
  lev : OwnK encNt 1 3 c w (.slice (some ⟨g, 0, none⟩) n n) lw
  add : OwnK encTbf 5 43 c w (.slice al n cl) (mvL (List.replicate n 0))
  low : ∀ l ∈ lv, l ≤ 4
  len : lv.length = n
  lenw : lw.length = n
  gc : w0.heap.size ≤ c
  bel : Below w0.heap.size w0 w
theorem MvAt.below {w0 w w' : World} {c g n : Nat} {al : Option Addr} {cl : Nat} {V : Ver} {lv lw : List Nat} (h : MvAt w0 w c g n al cl V lv lw) (u : Below w.heap.size w w') : MvAt w0 w' c g n al cl V lv lw :=
  ⟨h.v.below u, h.s, h.lev.below u, h.add.below u, h.low, h.len, h.lenw, h.gc, h.bel.trans (u.mono h.bel.size)⟩
theorem MvAt.store {w0 w : World} {c g n : Nat} {al : Option Addr} {cl : Nat} {V : Ver} {lv lw : List Nat} (h : MvAt w0 w c g n al cl V lv lw) (k x : Nat) (hk : k < lw.length) : MvAt w0 (w.setCell ⟨g, k, none⟩ (.int .i64 (x : Int))) c g n al cl V lv (lw.set k x) := by
  have u : UpdF (fun j => j = g) w (w.setCell ⟨g, k, none⟩ (.int .i64 (x : Int))) := (UpdF.refl _ w).set g k _ rfl
  obtain ⟨g', cap, e, e1, e2, -⟩ := h.lev.place encNt_len k hk
  simp only [Value.slice.injEq, Option.some.injEq, Addr.mk.injEq] at e
  obtain ⟨⟨rfl, -⟩, -⟩ := e
  obtain ⟨-, cur, hg⟩ := h.lev.typed (g := g) rfl
  have hp := OwnK.put encNt_len h.lev k hk x
  rw [Nat.mul_one] at hp
  exact ⟨h.v.aside u hg (by decide) (by decide), h.s, hp, h.add.asideT u hg (by decide), h.low, h.len, by rw [List.length_set]; exact h.lenw, h.gc, h.bel.trans (UpdF.below u h.bel.size fun j hj e => by have := h.gc; omega)⟩
theorem MvAt.apply {w0 w w' : World} {c g n : Nat} {al : Option Addr} {cl : Nat} {V V' : Ver} {lv lw lv' : List Nat} (h : MvAt w0 w c g n al cl V lv lw) (u : UpdF (fun j => j = c) w w') (hv : VerAt c w' c V') (hs : vSame (mvV lv') V') (h4 : ∀ l ∈ lv', l ≤ 4) (hl : lv'.length = n) : MvAt w0 w' c g n al cl V' lv' lw := by
  obtain ⟨tv, n0, hb, -, -⟩ := h.v.blk
  exact ⟨hv, hs, h.lev.asideT u hb (by decide), h.add.asideT u hb (by decide), h4, hl, h.lenw, h.gc, h.bel.trans (UpdF.below u h.bel.size fun j hj e => by have := h.gc; omega)⟩
/-- The cell of a level. -/
theorem MvAt.cell {w0 w : World} {c g n : Nat} {al : Option Addr} {cl : Nat} {V : Ver} {lv lw : List Nat} (h : MvAt w0 w c g n al cl V lv lw) (k x : Nat) (hk : lw[k]? = some x) : w.cell? ⟨g, k, none⟩ = some (.int .i64 (x : Int)) ∧ w.frozen? ⟨g, k, none⟩ = false := by
  obtain ⟨hk1, hk2⟩ := List.getElem?_eq_some_iff.1 hk
  obtain ⟨g', cap, e, e1, e2, -, -, hc⟩ := h.lev.place encNt_len k hk1
  simp only [Value.slice.injEq, Option.some.injEq, Addr.mk.injEq] at e
  obtain ⟨⟨rfl, -⟩, -⟩ := e
  have := hc 0 (by decide)
  rw [hk2, Nat.mul_one, Nat.add_zero] at this
  exact this
/-- A move, whatever order the tables stand in. -/
theorem mv_any {V : Ver} {lv : List Nat} {k l : Nat} (h1 : 1 ≤ lv.length) (h2 : lv.length ≤ 20) (h3 : ∀ l ∈ lv, l ≤ 4) (hk : lv[k]? = some l) (hl : l < 4) (h : vSame (mvV lv) V) : ∃ N, applyV V (mvM k (l + 1)) = some N ∧ vSame (mvV (lv.set k (l + 1))) N := by
  obtain ⟨N, e1, e2⟩ := mv_step h1 h2 h3 hk hl
  rcases applyV_same h (mv_good h1 h2 h3) (mvM k (l + 1)) with ⟨e, -⟩ | ⟨n, m, e3, e4, e5⟩
  · rw [e1] at e; cases e
  · rw [e1] at e3
    obtain rfl := Option.some.inj e3
    exact ⟨m, e4, e2.symm.trans e5⟩
/-- One number in a row that was just laid. -/
theorem num_one (w : World) (x : Int) : RdV (w.alloc (.cells #[.int .i64 x] 2)) (.slice (some ⟨w.heap.size, 0, none⟩) 1 1) ([x].map encI64) := by
  have ho : OwnV 2 w.heap.size (w.alloc (.cells #[.int .i64 x] 2)) (.slice (some ⟨w.heap.size, 0, none⟩) 1 1) [.int .i64 x] := World.ownsRow_lit (base := w.heap.size) (e := 2) (size := 1) w #[.int .i64 x] 1 (Nat.le_refl _) (by unfold maxLen; omega) rfl
  exact ho.rd
end Go.Proofs.Ytjloaamaelcmaaa
