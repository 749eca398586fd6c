/- A list with towers in memory: which block holds what, and where a way along a level leads. -/
import Derived.Test.YtacaofnonmgfoaaUpd
import Derived.Test.YtacaofnonmgfoaaSkipMath
namespace Go.Proofs.Ytacaofnonmgfoaa
set_option linter.unusedVariables false
open Go.RowKit
theorem head_cases {α : Type} (l : List α) : l = [] ∨ ∃ n r, l = n :: r := by
  cases l with
  | nil => exact .inl rfl
  | cons n r => exact .inr ⟨n, r, rfl⟩
/-- A node: its entry, its block, its tower's block, how high the tower is. -/
structure Nd where
  e : Ent
  nb : Nat
  tb : Nat
  h : Nat
/-- The first node whose tower is higher than k. -/
def nx (k : Nat) : List Nd → Option Nat
  | [] => none
  | n :: r => if k < n.h then some n.nb else nx k r
theorem nx_none {k : Nat} : ∀ {l : List Nd}, (∀ m ∈ l, ¬ k < m.h) → nx k l = none
  | [], _ => rfl
  | n :: r, h => by rw [nx, if_neg (h n (List.mem_cons_self ..))]; exact nx_none fun m hm => h m (List.mem_cons_of_mem _ hm)
theorem nx_app {k : Nat} {B : List Nd} : ∀ {l : List Nd}, (∀ m ∈ l, ¬ k < m.h) → nx k (l ++ B) = nx k B
  | [], _ => rfl
  | n :: r, h => by rw [List.cons_append, nx, if_neg (h n (List.mem_cons_self ..))]; exact nx_app fun m hm => h m (List.mem_cons_of_mem _ hm)
theorem nx_hit {k : Nat} : ∀ {l : List Nd} (B C : List Nd), (∃ m ∈ l, k < m.h) → nx k (l ++ B) = nx k (l ++ C)
  | [], _, _, h => by obtain ⟨m, hm, _⟩ := h; cases hm
  | n :: r, B, C, h => by
    rw [List.cons_append, List.cons_append, nx, nx]
    split
    · rfl
    · rename_i hn
      obtain ⟨m, hm, hk⟩ := h
      rcases List.mem_cons.1 hm with rfl | hm
      · exact absurd hk hn
      · exact nx_hit B C ⟨m, hm, hk⟩
theorem nx_cut {k : Nat} : ∀ {l : List Nd}, (nx k l = none ∧ ∀ m ∈ l, ¬ k < m.h) ∨ ∃ M n r, l = M ++ n :: r ∧ (∀ m ∈ M, ¬ k < m.h) ∧ k < n.h ∧ nx k l = some n.nb
  | [] => .inl ⟨rfl, fun _ h => absurd h List.not_mem_nil⟩
  | n :: r => by
    by_cases hn : k < n.h
    · exact .inr ⟨[], n, r, rfl, fun _ h => absurd h List.not_mem_nil, hn, by rw [nx, if_pos hn]⟩
    · rcases nx_cut (k := k) (l := r) with ⟨h1, h2⟩ | ⟨M, m, s, rfl, h2, h3, h4⟩
      · refine .inl ⟨by rw [nx, if_neg hn]; exact h1, fun m hm => ?_⟩
        rcases List.mem_cons.1 hm with rfl | hm
        · exact hn
        · exact h2 m hm
      · refine .inr ⟨n :: M, m, s, rfl, fun x hx => ?_, h3, by rw [nx, if_neg hn]; exact h4⟩
        rcases List.mem_cons.1 hx with rfl | hx
        · exact hn
        · exact h2 x hx
/-- What is the same but for a node's height: the ways on other levels, and those that end ahead of it. -/
theorem nx_grow {k K : Nat} (n : Nd) (B : List Nd) : ∀ (X : List Nd), (k ≠ K ∨ ∃ m ∈ X, k < m.h) → nx k (X ++ { n with h := K + 1 } :: B) = nx k (X ++ { n with h := K } :: B)
  | [], h => by
    rcases h with h | ⟨m, hm, _⟩
    · simp only [List.nil_append, nx]
      have : (k < K + 1) = (k < K) := propext (by omega)
      simp only [this]
    · cases hm
  | y :: X, h => by
    simp only [List.cons_append, nx]
    split
    · rfl
    · rename_i hy
      refine nx_grow n B X ?_
      rcases h with h | ⟨m, hm, hk⟩
      · exact .inl h
      · rcases List.mem_cons.1 hm with rfl | hm
        · exact absurd hk hy
        · exact .inr ⟨m, hm, hk⟩
def frV (b : Nat) : Value := .slice (some ⟨b, 1, none⟩) 8 8
def twV (n : Nd) : Value := .slice (some ⟨n.tb, 0, none⟩) n.h n.h
/-- The last links on level k ahead of what is behind A. -/
def lkN (b k : Nat) (A : List Nd) : Value := match A.reverse.find? fun n => decide (k < n.h) with
  | none => frV b
  | some n => twV n
/-- Where they are. -/
theorem lk_cut (b k : Nat) (A : List Nd) : (lkN b k A = frV b ∧ ∀ m ∈ A, ¬ k < m.h) ∨ ∃ P n M, A = P ++ n :: M ∧ (∀ m ∈ M, ¬ k < m.h) ∧ k < n.h ∧ lkN b k A = twV n := by
  unfold lkN
  cases hf : A.reverse.find? fun n => decide (k < n.h) with
  | none =>
    refine .inl ⟨rfl, fun m hm => ?_⟩
    have := List.find?_eq_none.1 hf m (List.mem_reverse.2 hm)
    simpa using this
  | some n =>
    obtain ⟨h1, xs, ys, h2, h3⟩ := List.find?_eq_some_iff_append.1 hf
    refine .inr ⟨ys.reverse, n, xs.reverse, ?_, fun m hm => ?_, by simpa using h1, rfl⟩
    · have := congrArg List.reverse h2
      rw [List.reverse_reverse] at this
      rw [this]; simp
    · have := h3 m (List.mem_reverse.1 hm)
      simpa using this
theorem lk_shape (b k : Nat) (A : List Nd) : ∃ a n, lkN b k A = .slice (some a) n n := by
  unfold lkN
  split
  · exact ⟨_, _, rfl⟩
  · exact ⟨_, _, rfl⟩
theorem lk_front {b k : Nat} {M : List Nd} (h : ∀ m ∈ M, ¬ k < m.h) : lkN b k M = frV b := by
  rcases lk_cut b k M with ⟨h1, -⟩ | ⟨P, n, Q, rfl, -, h3, -⟩
  · exact h1
  · exact absurd h3 (h n (by simp))
theorem lk_tower {b k : Nat} {P M : List Nd} {n : Nd} (h : ∀ m ∈ M, ¬ k < m.h) (hn : k < n.h) : lkN b k (P ++ n :: M) = twV n := by
  unfold lkN
  have : (P ++ n :: M).reverse.find? (fun n => decide (k < n.h)) = some n := by
    rw [List.find?_eq_some_iff_append]
    refine ⟨by simpa using hn, M.reverse, P.reverse, by simp, fun a ha => ?_⟩
    have := h a (List.mem_reverse.1 ha)
    simpa using this
  rw [this]
def lsV (hv : Value) (fr : Nat → Option Nat) (la : Option Nat) (c s : Int) : Array Value := #[hv, ptrO (fr 0), ptrO (fr 1), ptrO (fr 2), ptrO (fr 3), ptrO (fr 4), ptrO (fr 5), ptrO (fr 6), ptrO (fr 7), ptrO la, .int .i64 c, .int .i64 s]
def ndV (e : Ent) (tw : Value) (pv : Option Nat) : Array Value := #[.string e.norm, .int .i64 e.seq, .int .i64 e.kind, .string e.spell, .string e.val, tw, ptrO pv]
def twA (h : Nat) (f : Nat → Option Nat) : Array Value := ((List.range h).map fun k => ptrO (f k)).toArray
theorem twA_at {h : Nat} {f : Nat → Option Nat} {k : Nat} (hk : k < h) : (twA h f)[k]? = some (ptrO (f k)) := by unfold twA; simp [hk]
theorem twA_eq {h : Nat} {f g : Nat → Option Nat} (hf : ∀ k, k < h → f k = g k) : twA h f = twA h g := by
  unfold twA
  congr 1
  refine List.map_congr_left fun k hk => ?_
  rw [hf k (List.mem_range.1 hk)]
theorem twA_set {h : Nat} {f : Nat → Option Nat} {k : Nat} (hk : k < h) (v : Option Nat) : (twA h f).setIfInBounds k (ptrO v) = twA h (fun j => if j = k then v else f j) := by
  apply Array.ext
  · simp [twA]
  · intro i h1 h2
    simp only [twA, List.setIfInBounds_toArray, List.size_toArray, List.length_set, List.length_map, List.length_range] at h1
    simp only [twA, List.setIfInBounds_toArray, List.getElem_toArray, List.getElem_set, List.getElem_map, List.getElem_range]
    by_cases e : k = i
    · subst e; simp
    · rw [if_neg e, if_neg (fun h => e h.symm)]
theorem lsV_at {hv : Value} {fr : Nat → Option Nat} {la : Option Nat} {c s : Int} {k : Nat} (hk : k < 8) : (lsV hv fr la c s)[1 + k]? = some (ptrO (fr k)) := by
  match k, hk with
  | 0, _ => rfl
  | 1, _ => rfl
  | 2, _ => rfl
  | 3, _ => rfl
  | 4, _ => rfl
  | 5, _ => rfl
  | 6, _ => rfl
  | 7, _ => rfl
theorem lsV_set {hv : Value} {fr : Nat → Option Nat} {la : Option Nat} {c s : Int} {k : Nat} (hk : k < 8) (v : Option Nat) : (lsV hv fr la c s).setIfInBounds (1 + k) (ptrO v) = lsV hv (fun j => if j = k then v else fr j) la c s := by
  match k, hk with
  | 0, _ => rfl
  | 1, _ => rfl
  | 2, _ => rfl
  | 3, _ => rfl
  | 4, _ => rfl
  | 5, _ => rfl
  | 6, _ => rfl
  | 7, _ => rfl
theorem lsV_eq {hv : Value} {fr gr : Nat → Option Nat} {la : Option Nat} {c s : Int} (h : ∀ k, k < 8 → fr k = gr k) : lsV hv fr la c s = lsV hv gr la c s := by
  unfold lsV
  rw [h 0 (by omega), h 1 (by omega), h 2 (by omega), h 3 (by omega), h 4 (by omega), h 5 (by omega), h 6 (by omega), h 7 (by omega)]
/-- The last node's block. -/
def lastB : List Nd → Option Nat
  | [] => none
  | n :: r => (lastB r).or (some n.nb)
theorem lastB_snoc : ∀ (l : List Nd) (n : Nd), lastB (l ++ [n]) = some n.nb
  | [], _ => rfl
  | y :: l, n => by rw [List.cons_append, lastB, lastB_snoc l n]; rfl
theorem lastB_app (l : List Nd) (n : Nd) (r : List Nd) : lastB (l ++ n :: r) = lastB (n :: r) := by
  induction l with
  | nil => rfl
  | cons y l ih =>
    rw [List.cons_append, lastB, ih]
    unfold lastB
    cases lastB r <;> rfl
/-- How many bytes an entry takes. -/
def szE (e : Ent) : Nat := e.norm.size + e.spell.size + e.val.size + 32
def szA : List Ent → Nat
  | [] => 0
  | e :: l => szE e + szA l
theorem szA_app : ∀ (a b : List Ent), szA (a ++ b) = szA a + szA b
  | [], b => by simp [szA]
  | x :: a, b => by rw [List.cons_append, szA, szA_app a b, szA, Nat.add_assoc]
def entsN (N : List Nd) : List Ent := N.map Nd.e
/-- What a block is for. -/
inductive Rl where
  | top | hts
  | node (k : ByteArray × Int)
  | tow (k : ByteArray × Int)
structure NodeAt (w : World) (ρ : Nat → Option Rl) (p : Option Nat) (n : Nd) (r : List Nd) : Prop where
  cell : w.heap[n.nb]? = some (.cells (ndV n.e (twV n) p) 56 (0, 0))
  tow : w.heap[n.tb]? = some (.cells (twA n.h fun k => nx k r) 46 (0, 0))
  pos : 0 < n.h
  small : n.h ≤ 8
  role : ρ n.nb = some (.node (keyE n.e))
  trole : ρ n.tb = some (.tow (keyE n.e))
structure SkLay (w : World) (b : Nat) (ρ : Nat → Option Rl) (hv : Value) (H : List Int) (N : List Nd) : Prop where
  cell : w.heap[b]? = some (.cells (lsV hv (fun k => nx k N) (lastB N) N.length (szA (entsN N) : Nat)) 49 (0, 0))
  role : ρ b = some .top
  hts : OwnV 3 0 w hv (H.map (Value.int .i64))
  hrole : ∀ k, hv.ownBlock = some k → ρ k = some .hts
  node : ∀ A n r, N = A ++ n :: r → NodeAt w ρ (lastB A) n r
  top : ∀ k, ρ k ≠ none → k < w.heap.size
  ord : OrdK (entsN N)
  kinds : ∀ n ∈ N, n.e.kind ≤ 9223372036854775807
  few : N.length ≤ 1000000000
  size : szA (entsN N) ≤ 4000000000000000000
/-- Block b is a list that holds l; ρ tells its blocks. -/
def SkAt (w : World) (b : Nat) (ρ : Nat → Option Rl) (H : List Int) (l : List Ent) : Prop := ∃ hv N, SkLay w b ρ hv H N ∧ l = entsN N
theorem NodeAt.same {w w' : World} {ρ : Nat → Option Rl} {p : Option Nat} {n : Nd} {r : List Nd} (h : NodeAt w ρ p n r) (hs : ∀ k, ρ k ≠ none → w'.heap[k]? = w.heap[k]?) : NodeAt w' ρ p n r :=
  ⟨(hs _ (by rw [h.role]; simp)).trans h.cell, (hs _ (by rw [h.trole]; simp)).trans h.tow, h.pos, h.small, h.role, h.trole⟩
theorem SkLay.same {w w' : World} {b : Nat} {ρ : Nat → Option Rl} {hv : Value} {H : List Int} {N : List Nd} (h : SkLay w b ρ hv H N) (hs : ∀ k, ρ k ≠ none → w'.heap[k]? = w.heap[k]?) (hz : w.heap.size ≤ w'.heap.size) : SkLay w' b ρ hv H N :=
  { cell := (hs b (by rw [h.role]; simp)).trans h.cell, role := h.role, hts := row_same h.hts fun k hk => hs k (by rw [h.hrole k hk]; simp), hrole := h.hrole,
    node := fun A n r e => (h.node A n r e).same hs, top := fun k hk => Nat.lt_of_lt_of_le (h.top k hk) hz, ord := h.ord, kinds := h.kinds, few := h.few, size := h.size }
theorem SkLay.below {w w' : World} {b : Nat} {ρ : Nat → Option Rl} {hv : Value} {H : List Int} {N : List Nd} (h : SkLay w b ρ hv H N) (u : Below w.heap.size w w') : SkLay w' b ρ hv H N :=
  h.same (fun k hk => u.block k (h.top k hk)) u.size
theorem SkAt.upd {F : Nat → Prop} {w w' : World} {b : Nat} {ρ : Nat → Option Rl} {H : List Int} {l : List Ent} (h : SkAt w b ρ H l) (u : UpdF F w w') (hd : ∀ k, F k → ρ k = none) : SkAt w' b ρ H l := by
  obtain ⟨hv, N, h, e⟩ := h
  exact ⟨hv, N, h.same (fun k hk => u.block k (h.top k hk) fun f => hk (hd k f)) u.size, e⟩
theorem SkAt.below {w w' : World} {b : Nat} {ρ : Nat → Option Rl} {H : List Int} {l : List Ent} (h : SkAt w b ρ H l) (u : Below w.heap.size w w') : SkAt w' b ρ H l := by
  obtain ⟨hv, N, h, e⟩ := h
  exact ⟨hv, N, h.below u, e⟩
theorem SkLay.lt {w : World} {b : Nat} {ρ : Nat → Option Rl} {hv : Value} {H : List Int} {N : List Nd} (h : SkLay w b ρ hv H N) : b < w.heap.size := h.top b (by rw [h.role]; simp)
theorem SkAt.lt {w : World} {b : Nat} {ρ : Nat → Option Rl} {H : List Int} {l : List Ent} (h : SkAt w b ρ H l) : b < w.heap.size := by obtain ⟨hv, N, h, -⟩ := h; exact h.lt
/-! ### a block, a cell -/
def BlkAt (w : World) (b : Nat) (vs : Array Value) (t : TypeId) : Prop := w.heap[b]? = some (.cells vs t (0, 0))
theorem BlkAt.lt {w : World} {b : Nat} {vs : Array Value} {t : TypeId} (h : BlkAt w b vs t) : b < w.heap.size := (Array.getElem?_eq_some_iff.1 h).1
theorem BlkAt.below {w w' : World} {b : Nat} {vs : Array Value} {t : TypeId} (h : BlkAt w b vs t) (u : Below w.heap.size w w') : BlkAt w' b vs t := (u.block b h.lt).trans h
theorem BlkAt.at {w : World} {b : Nat} {vs : Array Value} {t : TypeId} (h : BlkAt w b vs t) (i : Nat) : w.cell? ⟨b, i, none⟩ = vs[i]? := cells_at h i
theorem BlkAt.free {w : World} {b : Nat} {vs : Array Value} {t : TypeId} (h : BlkAt w b vs t) (i : Nat) : w.frozen? ⟨b, i, none⟩ = false := cells_free h i
theorem BlkAt.set {w : World} {b o : Nat} {vs : Array Value} {t : TypeId} (h : BlkAt w b vs t) (v : Value) : BlkAt (w.setCell ⟨b, o, none⟩ v) b (vs.setIfInBounds o v) t := cells_set h v
theorem BlkAt.other {w : World} {b c o : Nat} {vs : Array Value} {t : TypeId} (h : BlkAt w b vs t) (v : Value) (hn : b ≠ c) : BlkAt (w.setCell ⟨c, o, none⟩ v) b vs t := (Below.heap_setCell _ _ _ _ hn).trans h
theorem BlkAt.new (w : World) (vs : Array Value) (t : TypeId) : BlkAt (w.alloc (.cells vs t)) w.heap.size vs t := heap_alloc_new w (.cells vs t)
theorem BlkAt.more {w : World} {b : Nat} {vs : Array Value} {t : TypeId} (h : BlkAt w b vs t) (o : Obj) : BlkAt (w.alloc o) b vs t := h.below ((Below.refl _ w).alloc (Nat.le_refl _) o)
def CellAt (w : World) (g o : Nat) (v : Value) : Prop := w.cell? ⟨g, o, none⟩ = some v ∧ g < w.heap.size
theorem CellAt.below {w w' : World} {g o : Nat} {v : Value} (h : CellAt w g o v) (u : Below w.heap.size w w') : CellAt w' g o v := ⟨(u.cell h.2).trans h.1, Nat.lt_of_lt_of_le h.2 u.size⟩
/-! ### what the cells hold -/
theorem SkLay.at {w : World} {b : Nat} {ρ : Nat → Option Rl} {hv : Value} {H : List Int} {N : List Nd} (h : SkLay w b ρ hv H N) (i : Nat) : w.cell? ⟨b, i, none⟩ = (lsV hv (fun k => nx k N) (lastB N) N.length (szA (entsN N) : Nat))[i]? := cells_at h.cell i
theorem SkLay.front {w : World} {b : Nat} {ρ : Nat → Option Rl} {hv : Value} {H : List Int} {N : List Nd} (h : SkLay w b ρ hv H N) (k : Nat) (hk : k < 8) : w.cell? ⟨b, 1 + k, none⟩ = some (ptrO (nx k N)) := by rw [h.at, lsV_at hk]
/-- The five cells of a node's entry, its tower, what is ahead of it. -/
structure NdCells (w : World) (b : Nat) (e : Ent) (tw : Value) (p : Option Nat) : Prop where
  c0 : w.cell? ⟨b, 0, none⟩ = some (.string e.norm)
  c1 : w.cell? ⟨b, 1, none⟩ = some (.int .i64 e.seq)
  c2 : w.cell? ⟨b, 2, none⟩ = some (.int .i64 e.kind)
  c3 : w.cell? ⟨b, 3, none⟩ = some (.string e.spell)
  c4 : w.cell? ⟨b, 4, none⟩ = some (.string e.val)
  c5 : w.cell? ⟨b, 5, none⟩ = some tw
  c6 : w.cell? ⟨b, 6, none⟩ = some (ptrO p)
theorem nd_cells {w : World} {b : Nat} {e : Ent} {tw : Value} {p : Option Nat} (h : w.heap[b]? = some (.cells (ndV e tw p) 56 (0, 0))) : NdCells w b e tw p :=
  ⟨cells_at h 0, cells_at h 1, cells_at h 2, cells_at h 3, cells_at h 4, cells_at h 5, cells_at h 6⟩
/-- A value is links whose cell k leads to the first of R that is higher than k. -/
def LinksTo (w : World) (v : Value) (K : Nat) (R : List Nd) : Prop := ∃ g o h, v = .slice (some ⟨g, o, none⟩) h h ∧ K < h ∧ h ≤ 8 ∧ g < w.heap.size ∧ ∀ k, k < h → w.cell? ⟨g, o + k, none⟩ = some (ptrO (nx k R))
theorem LinksTo.below {w w' : World} {v : Value} {K : Nat} {R : List Nd} (h : LinksTo w v K R) (u : Below w.heap.size w w') : LinksTo w' v K R := by
  obtain ⟨g, o, h, e, h1, h2, h3, h4⟩ := h
  exact ⟨g, o, h, e, h1, h2, Nat.lt_of_lt_of_le h3 u.size, fun k hk => (u.cell h3).trans (h4 k hk)⟩
theorem SkLay.frontTo {w : World} {b : Nat} {ρ : Nat → Option Rl} {hv : Value} {H : List Int} {N : List Nd} (h : SkLay w b ρ hv H N) (K : Nat) (hK : K < 8) : LinksTo w (frV b) K N :=
  ⟨b, 1, 8, rfl, hK, Nat.le_refl _, h.lt, fun k hk => h.front k hk⟩
theorem SkLay.towerTo {w : World} {b : Nat} {ρ : Nat → Option Rl} {hv : Value} {H : List Int} {A r : List Nd} {n : Nd} (h : SkLay w b ρ hv H (A ++ n :: r)) (K : Nat) (hK : K < n.h) : LinksTo w (twV n) K r := by
  have hn := h.node A n r rfl
  exact ⟨n.tb, 0, n.h, rfl, hK, hn.small, h.top _ (by rw [hn.trole]; simp), fun k hk => by rw [Nat.zero_add, cells_at hn.tow, twA_at hk]⟩
/-- What stands ahead of x, and what does not. -/
def aheadN (N : List Nd) (x : Ent) : List Nd := N.takeWhile fun n => decide (ltE n.e x)
def restN (N : List Nd) (x : Ent) : List Nd := N.dropWhile fun n => decide (ltE n.e x)
theorem ahead_rest (N : List Nd) (x : Ent) : aheadN N x ++ restN N x = N := List.takeWhile_append_dropWhile
theorem ord_lt {P r : List Nd} {n : Nd} (h : OrdK (entsN (P ++ n :: r))) : (∀ m ∈ P, ltE m.e n.e) ∧ ∀ m ∈ r, ltE n.e m.e := by
  unfold OrdK entsN at h
  rw [List.map_append, List.map_cons, List.pairwise_append] at h
  obtain ⟨-, h2, h3⟩ := h
  exact ⟨fun m hm => key_lt (h3 _ (List.mem_map.2 ⟨m, hm, rfl⟩) _ (List.mem_cons_self ..)), fun m hm => key_lt ((List.pairwise_cons.1 h2).1 _ (List.mem_map.2 ⟨m, hm, rfl⟩))⟩
/-- All of P stand ahead, what is behind it does not: P is what stands ahead. -/
theorem ahead_is {P R : List Nd} {x : Ent} (h1 : ∀ m ∈ P, ltE m.e x) (h2 : ∀ n r, R = n :: r → ¬ ltE n.e x) : aheadN (P ++ R) x = P ∧ restN (P ++ R) x = R := by
  have e1 : ∀ a ∈ P, decide (ltE a.e x) = true := fun a ha => decide_eq_true (h1 a ha)
  unfold aheadN restN
  rw [List.takeWhile_append_of_pos e1, List.dropWhile_append_of_pos e1]
  cases R with
  | nil => simp
  | cons n r =>
    have := h2 n r rfl
    simp [this]
/-- On level K the way stands behind P (the last of it is higher than K), and there is no more, or the next one does not stand ahead. -/
theorem path_end {N P R : List Nd} {x : Ent} {b K : Nat} {v : Value} (hN : N = P ++ R) (ho : OrdK (entsN N)) (hP : ∀ m ∈ P, ltE m.e x) (hv : v = lkN b K P) (hl : P = [] ∨ ∃ Q n, P = Q ++ [n] ∧ K < n.h)
    (hend : nx K R = none ∧ (∀ m ∈ R, ¬ K < m.h) ∨ ∃ M n r, R = M ++ n :: r ∧ (∀ m ∈ M, ¬ K < m.h) ∧ ¬ ltE n.e x) : lkN b K (aheadN N x) = v := by
  obtain ⟨M1, hM1, hM2⟩ : ∃ M1, aheadN N x = P ++ M1 ∧ ∀ m ∈ M1, ¬ K < m.h := by
    have e1 : ∀ a ∈ P, decide (ltE a.e x) = true := fun a ha => decide_eq_true (hP a ha)
    refine ⟨aheadN R x, by unfold aheadN; rw [hN, List.takeWhile_append_of_pos e1], fun m hm => ?_⟩
    rcases hend with ⟨-, h⟩ | ⟨M, n, r, rfl, h1, h2⟩
    · exact h m ((List.takeWhile_sublist _).subset hm)
    · refine h1 m ?_
      have hlt : ltE m.e x := by
        have := List.all_eq_true.1 List.all_takeWhile m hm
        simpa using this
      have hmem : m ∈ M ++ n :: r := (List.takeWhile_sublist _).subset hm
      rcases List.mem_append.1 hmem with h | h
      · exact h
      · exfalso
        rcases List.mem_cons.1 h with rfl | h
        · exact h2 hlt
        · rw [hN, ← List.append_assoc] at ho
          exact h2 (ltE_trans ((ord_lt ho).2 m h) hlt)
  rw [hM1, hv]
  rcases hl with rfl | ⟨Q, n, rfl, hn⟩
  · rw [List.nil_append, lk_front hM2]; exact (lk_front fun m hm => absurd hm List.not_mem_nil).symm
  · rw [List.append_assoc, List.singleton_append, lk_tower hM2 hn]
    exact (lk_tower (M := []) (fun m hm => absurd hm List.not_mem_nil) hn).symm
end Go.Proofs.Ytacaofnonmgfoaa
