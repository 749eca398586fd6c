/- A list into which a node is just being put: on the way, level by level; when the ways back are laid; when it is counted. -/
import Derived.Test.YtacaofnonmgfoaaSkipFind
import Derived.Test.YtacaofnonmgfoaaSkipPath
namespace Go.Proofs.Ytacaofnonmgfoaa
set_option linter.unusedVariables false
open Go.RowKit
/-- Two places of one row. -/
theorem split3 {α : Type} {m n : α} {A2 M : List α} : ∀ {A1 P : List α}, P ++ n :: M = A1 ++ m :: A2 → (A1 = P ∧ m = n ∧ A2 = M) ∨ (∃ Q, P = A1 ++ m :: Q ∧ A2 = Q ++ n :: M) ∨ ∃ Q, M = Q ++ m :: A2 ∧ A1 = P ++ n :: Q
  | [], [], h => by
    simp only [List.nil_append, List.cons.injEq] at h
    exact .inl ⟨rfl, h.1.symm, h.2.symm⟩
  | [], p :: P, h => by
    simp only [List.nil_append, List.cons_append, List.cons.injEq] at h
    exact .inr (.inl ⟨P, by rw [h.1]; rfl, h.2.symm⟩)
  | a :: A1, [], h => by
    simp only [List.nil_append, List.cons_append, List.cons.injEq] at h
    exact .inr (.inr ⟨A1, h.2, by rw [h.1]; rfl⟩)
  | a :: A1, p :: P, h => by
    simp only [List.cons_append, List.cons.injEq] at h
    obtain ⟨rfl, h⟩ := h
    rcases split3 h with ⟨h1, h2, h3⟩ | ⟨Q, h1, h2⟩ | ⟨Q, h1, h2⟩
    · exact .inl ⟨by rw [h1], h2, h3⟩
    · exact .inr (.inl ⟨Q, by rw [h1]; rfl, h2⟩)
    · exact .inr (.inr ⟨Q, h1, by rw [h2]; rfl⟩)
theorem SkLay.two {w : World} {b : Nat} {ρ : Nat → Option Rl} {hv : Value} {H : List Int} {N X Y Z : List Nd} {x y : Nd} (h : SkLay w b ρ hv H N) (e : N = X ++ x :: (Y ++ y :: Z)) : x.tb ≠ y.tb ∧ x.nb ≠ y.nb := by
  have hx := h.node X x _ e
  have hy := h.node (X ++ x :: Y) y Z (by rw [e]; simp)
  have hlt : ltP (keyE x.e) (keyE y.e) := by
    have ho := h.ord
    rw [e] at ho
    unfold OrdK entsN at ho
    rw [List.map_append, List.map_cons, List.pairwise_append] at ho
    exact (List.pairwise_cons.1 ho.2.1).1 _ (List.mem_map.2 ⟨y, by simp, rfl⟩)
  refine ⟨fun e2 => ?_, fun e2 => ?_⟩
  · have h1 := hx.trole; rw [e2, hy.trole] at h1
    simp only [Option.some.injEq, Rl.tow.injEq] at h1
    rw [h1] at hlt; exact ltP_irr _ hlt
  · have h1 := hx.role; rw [e2, hy.role] at h1
    simp only [Option.some.injEq, Rl.node.injEq] at h1
    rw [h1] at hlt; exact ltP_irr _ hlt
theorem SkLay.mem {w : World} {b : Nat} {ρ : Nat → Option Rl} {hv : Value} {H : List Int} {N : List Nd} (h : SkLay w b ρ hv H N) {n : Nd} (hn : n ∈ N) : ∃ p r, NodeAt w ρ p n r := by
  obtain ⟨A, r, e⟩ := List.append_of_mem hn
  exact ⟨_, r, h.node A n r e⟩
theorem SkLay.nbtb {w : World} {b : Nat} {ρ : Nat → Option Rl} {hv : Value} {H : List Int} {N : List Nd} (h : SkLay w b ρ hv H N) {n m : Nd} (hn : n ∈ N) (hm : m ∈ N) : n.nb ≠ m.tb := fun e => by
  obtain ⟨p, r, h1⟩ := h.mem hn
  obtain ⟨p', r', h2⟩ := h.mem hm
  have := h1.role; rw [e, h2.trole] at this; cases this
theorem SkLay.topnb {w : World} {b : Nat} {ρ : Nat → Option Rl} {hv : Value} {H : List Int} {N : List Nd} (h : SkLay w b ρ hv H N) {n : Nd} (hn : n ∈ N) : b ≠ n.nb ∧ b ≠ n.tb ∧ n.nb < w.heap.size ∧ n.tb < w.heap.size := by
  obtain ⟨p, r, h1⟩ := h.mem hn
  refine ⟨fun e => ?_, fun e => ?_, h.top _ (by rw [h1.role]; simp), h.top _ (by rw [h1.trole]; simp)⟩
  · have := h1.role; rw [← e, h.role] at this; cases this
  · have := h1.trole; rw [← e, h.role] at this; cases this
theorem SkLay.hvb {w : World} {b : Nat} {ρ : Nat → Option Rl} {hv : Value} {H : List Int} {N : List Nd} (h : SkLay w b ρ hv H N) {k : Nat} (hk : hv.ownBlock = some k) : k < w.heap.size ∧ k ≠ b ∧ ∀ n ∈ N, k ≠ n.nb ∧ k ≠ n.tb := by
  have h1 := h.hrole k hk
  refine ⟨h.top k (by rw [h1]; simp), fun e => ?_, fun n hn => ⟨fun e => ?_, fun e => ?_⟩⟩
  · rw [e, h.role] at h1; cases h1
  · obtain ⟨p, r, h2⟩ := h.mem hn
    rw [e, h2.role] at h1; cases h1
  · obtain ⟨p, r, h2⟩ := h.mem hn
    rw [e, h2.trole] at h1; cases h1
theorem hts_set {w : World} {hv : Value} {L : List Value} {E c o : Nat} (h : OwnV E 0 w hv L) (v : Value) (hk : ∀ k, hv.ownBlock = some k → k ≠ c) : OwnV E 0 (w.setCell ⟨c, o, none⟩ v) hv L := row_same h fun k e => Below.heap_setCell _ _ _ _ (hk k e)
def Nd.at (n : Nd) (K : Nat) : Nd := { n with h := K }
def pthV (b : Nat) (A : List Nd) : Array Value := #[lkN b 0 A, lkN b 1 A, lkN b 2 A, lkN b 3 A, lkN b 4 A, lkN b 5 A, lkN b 6 A, lkN b 7 A]
theorem pthV_at (b : Nat) (A : List Nd) {k : Nat} (hk : k < 8) : (pthV b A)[k]? = some (lkN b k A) := by
  match k, hk with
  | 0, _ => rfl
  | 1, _ => rfl
  | 2, _ => rfl
  | 3, _ => rfl
  | 4, _ => rfl
  | 5, _ => rfl
  | 6, _ => rfl
  | 7, _ => rfl
/-- K levels of the new node are linked in. -/
structure MidAt (w0 : World) (b : Nat) (ρ : Nat → Option Rl) (hv : Value) (H : List Int) (A B : List Nd) (nd : Nd) (pb eb K : Nat) (wr : World) : Prop where
  top : BlkAt wr b (lsV hv (fun k => nx k (A ++ nd.at K :: B)) (lastB (A ++ B)) (A ++ B).length (szA (entsN (A ++ B)) : Nat)) 49
  anode : ∀ A1 n A2, A = A1 ++ n :: A2 → BlkAt wr n.nb (ndV n.e (twV n) (lastB A1)) 56 ∧ BlkAt wr n.tb (twA n.h fun k => nx k (A2 ++ nd.at K :: B)) 46
  bnode : ∀ B1 n B2, B = B1 ++ n :: B2 → BlkAt wr n.nb (ndV n.e (twV n) (lastB (A ++ B1))) 56 ∧ BlkAt wr n.tb (twA n.h fun k => nx k B2) 46
  new : BlkAt wr nd.nb (ndV nd.e (twV nd) none) 56
  newt : BlkAt wr nd.tb (twA nd.h fun k => if k < K then nx k B else none) 46
  path : BlkAt wr pb (pthV b A) 53
  ent : BlkAt wr eb (encEnt nd.e).toArray 30
  hts : OwnV 3 0 wr hv (H.map (Value.int .i64))
  upd : UpdF (fun k => ρ k ≠ none) w0 wr
/-- The new blocks. -/
structure NewBs (w0 : World) (nd : Nd) (pb eb : Nat) : Prop where
  n : w0.heap.size ≤ nd.nb
  t : w0.heap.size ≤ nd.tb
  p : w0.heap.size ≤ pb
  e : w0.heap.size ≤ eb
  nt : nd.nb ≠ nd.tb
  pn : pb ≠ nd.nb
  pt : pb ≠ nd.tb
  en : eb ≠ nd.nb
  et : eb ≠ nd.tb
theorem nx_at {k K : Nat} (n : Nd) (B X : List Nd) (h : k ≠ K ∨ ∃ m ∈ X, k < m.h) : nx k (X ++ n.at (K + 1) :: B) = nx k (X ++ n.at K :: B) := nx_grow n B X h
theorem nx_new {K : Nat} (n : Nd) (B X : List Nd) (h : ∀ m ∈ X, ¬ K < m.h) : nx K (X ++ n.at (K + 1) :: B) = some n.nb := by
  rw [nx_app h]
  show (if K < K + 1 then some n.nb else nx K B) = _
  rw [if_pos (by omega)]
theorem nx_not {K : Nat} (n : Nd) (B X : List Nd) (h : ∀ m ∈ X, ¬ K < m.h) : nx K (X ++ n.at K :: B) = nx K B := by
  rw [nx_app h]
  show (if K < K then some n.nb else nx K B) = _
  rw [if_neg (by omega)]
/-- One level more: the new tower's cell, and the links ahead of it. -/
theorem MidAt.step {w0 : World} {b : Nat} {ρ : Nat → Option Rl} {hv : Value} {H : List Int} {A B : List Nd} {nd : Nd} {pb eb K : Nat} {wr : World} (hl : SkLay w0 b ρ hv H (A ++ B)) (hn : NewBs w0 nd pb eb) (hK : K < nd.h) (h8 : nd.h ≤ 8) (m : MidAt w0 b ρ hv H A B nd pb eb K wr) {g o h : Nat} (hlk : lkN b K A = .slice (some ⟨g, o, none⟩) h h) :
    MidAt w0 b ρ hv H A B nd pb eb (K + 1) ((wr.setCell ⟨nd.tb, K, none⟩ (ptrO (nx K B))).setCell ⟨g, o + K, none⟩ (ptrO (some nd.nb))) ∧
      (wr.setCell ⟨nd.tb, K, none⟩ (ptrO (nx K B))).setCell ⟨g, o + K, none⟩ (ptrO (some nd.nb)) = (wr.setCell ⟨g, o + K, none⟩ (ptrO (some nd.nb))).setCell ⟨nd.tb, K, none⟩ (ptrO (nx K B)) := by
  have hbl := hl.lt
  have hAm : ∀ {n : Nd}, n ∈ A → n ∈ A ++ B := fun h => List.mem_append_left _ h
  have hBm : ∀ {n : Nd}, n ∈ B → n ∈ A ++ B := fun h => List.mem_append_right _ h
  have hg : g ≠ nd.tb ∧ g ≠ nd.nb ∧ g ≠ pb ∧ g ≠ eb ∧ ρ g ≠ none ∧ ∀ k, hv.ownBlock = some k → k ≠ g := by
    rcases lk_cut b K A with ⟨h1, -⟩ | ⟨P, n, M, hA, -, -, h1⟩
    · rw [hlk] at h1
      simp only [frV, Value.slice.injEq, Option.some.injEq, Addr.mk.injEq] at h1
      obtain ⟨⟨rfl, -, -⟩, -⟩ := h1
      exact ⟨by have := hn.t; omega, by have := hn.n; omega, by have := hn.p; omega, by have := hn.e; omega, by rw [hl.role]; simp, fun k hk => (hl.hvb hk).2.1⟩
    · rw [hlk] at h1
      simp only [twV, Value.slice.injEq, Option.some.injEq, Addr.mk.injEq] at h1
      obtain ⟨⟨rfl, -, -⟩, -⟩ := h1
      have hmem : n ∈ A ++ B := hAm (by rw [hA]; simp)
      obtain ⟨-, -, -, hlt⟩ := hl.topnb hmem
      obtain ⟨_, _, hno⟩ := hl.mem hmem
      exact ⟨by have := hn.t; omega, by have := hn.n; omega, by have := hn.p; omega, by have := hn.e; omega, by rw [hno.trole]; simp, fun k hk => ((hl.hvb hk).2.2 _ hmem).2⟩
  obtain ⟨g1, g2, g3, g4, g5, g6⟩ := hg
  refine ⟨?_, ?_⟩
  · have hnew : BlkAt ((wr.setCell ⟨nd.tb, K, none⟩ (ptrO (nx K B))).setCell ⟨g, o + K, none⟩ (ptrO (some nd.nb))) nd.nb (ndV nd.e (twV nd) none) 56 := (m.new.other _ hn.nt).other _ (Ne.symm g2)
    have hnewt : BlkAt ((wr.setCell ⟨nd.tb, K, none⟩ (ptrO (nx K B))).setCell ⟨g, o + K, none⟩ (ptrO (some nd.nb))) nd.tb (twA nd.h fun k => if k < K + 1 then nx k B else none) 46 := by
      have h1 := (m.newt.set (o := K) (ptrO (nx K B))).other (o := o + K) (ptrO (some nd.nb)) (Ne.symm g1)
      rw [twA_set hK] at h1
      refine (twA_eq fun k hk => ?_) ▸ h1
      by_cases e : k = K
      · subst e; rw [if_pos rfl, if_pos (by omega)]
      · rw [if_neg e]
        have : (k < K) = (k < K + 1) := propext (by omega)
        simp only [this]
    have hpath := (m.path.other (o := K) (ptrO (nx K B)) hn.pt).other (o := o + K) (ptrO (some nd.nb)) (Ne.symm g3)
    have hent := (m.ent.other (o := K) (ptrO (nx K B)) hn.et).other (o := o + K) (ptrO (some nd.nb)) (Ne.symm g4)
    have hupd : UpdF (fun k => ρ k ≠ none) w0 ((wr.setCell ⟨nd.tb, K, none⟩ (ptrO (nx K B))).setCell ⟨g, o + K, none⟩ (ptrO (some nd.nb))) := by
      refine UpdF.set ?_ g (o + K) _ g5
      refine ⟨m.upd.os, m.upd.tape, m.upd.output, by simpa [World.setCell] using m.upd.size, fun k hk hr => (Below.heap_setCell _ _ _ _ ?_).trans (m.upd.block k hk hr)⟩
      have := hn.t; show k ≠ nd.tb; omega
    have hh1 : ∀ k, hv.ownBlock = some k → k ≠ nd.tb := fun k hk => by have := (hl.hvb hk).1; have := hn.t; omega
    have hhts := hts_set (o := o + K) (hts_set (o := K) m.hts (ptrO (nx K B)) hh1) (ptrO (some nd.nb)) g6
    have hold : ∀ {c : Nat} {vs : Array Value} {t : TypeId}, BlkAt wr c vs t → c < w0.heap.size → c ≠ g → BlkAt ((wr.setCell ⟨nd.tb, K, none⟩ (ptrO (nx K B))).setCell ⟨g, o + K, none⟩ (ptrO (some nd.nb))) c vs t := fun hb hc hg => (hb.other _ (by have := hn.t; omega)).other _ hg
    have hset : ∀ {vs : Array Value} {t : TypeId}, BlkAt wr g vs t → BlkAt ((wr.setCell ⟨nd.tb, K, none⟩ (ptrO (nx K B))).setCell ⟨g, o + K, none⟩ (ptrO (some nd.nb))) g (vs.setIfInBounds (o + K) (ptrO (some nd.nb))) t := fun hb => (hb.other _ g1).set _
    rcases lk_cut b K A with ⟨h1, h2⟩ | ⟨P, n, M, hA, h2, h3, h1⟩
    · rw [hlk] at h1
      simp only [frV, Value.slice.injEq, Option.some.injEq, Addr.mk.injEq] at h1
      obtain ⟨⟨rfl, rfl, -⟩, -⟩ := h1
      refine ⟨?_, fun A1 n A2 e => ?_, fun B1 n B2 e => ?_, hnew, hnewt, hpath, hent, hhts, hupd⟩
      · have h3 := hset m.top
        rw [lsV_set (by omega)] at h3
        refine (lsV_eq fun k hk => ?_) ▸ h3
        by_cases e : k = K
        · subst e; rw [if_pos rfl, nx_new nd B A h2]
        · rw [if_neg e, nx_at nd B A (.inl e)]
      · have hm : n ∈ A := by rw [e]; simp
        obtain ⟨t1, t2, t3, t4⟩ := hl.topnb (hAm hm)
        obtain ⟨a1, a2⟩ := m.anode A1 n A2 e
        refine ⟨hold a1 t3 (Ne.symm t1), ?_⟩
        have h4 := hold a2 t4 (Ne.symm t2)
        refine (twA_eq fun k hk => ?_) ▸ h4
        exact (nx_at nd B A2 (.inl fun e => h2 n hm (by omega))).symm
      · have hm : n ∈ B := by rw [e]; simp
        obtain ⟨t1, t2, t3, t4⟩ := hl.topnb (hBm hm)
        obtain ⟨a1, a2⟩ := m.bnode B1 n B2 e
        exact ⟨hold a1 t3 (Ne.symm t1), hold a2 t4 (Ne.symm t2)⟩
    · rw [hlk] at h1
      simp only [twV, Value.slice.injEq, Option.some.injEq, Addr.mk.injEq] at h1
      obtain ⟨⟨rfl, rfl, -⟩, -⟩ := h1
      have hnA : n ∈ A := by rw [hA]; simp
      obtain ⟨s1, s2, s3, s4⟩ := hl.topnb (hAm hnA)
      refine ⟨?_, fun A1 y A2 e => ?_, fun B1 y B2 e => ?_, hnew, hnewt, hpath, hent, hhts, hupd⟩
      · have h4 := hold m.top hbl s2
        refine (lsV_eq fun k hk => ?_) ▸ h4
        refine (nx_at nd B A ?_).symm
        by_cases e : k = K
        · subst e; exact .inr ⟨n, hnA, h3⟩
        · exact .inl e
      · have hm : y ∈ A := by rw [e]; simp
        obtain ⟨t1, t2, t3, t4⟩ := hl.topnb (hAm hm)
        obtain ⟨a1, a2⟩ := m.anode A1 y A2 e
        refine ⟨hold a1 t3 (hl.nbtb (hAm hm) (hAm hnA)), ?_⟩
        rcases split3 (hA.symm.trans e) with ⟨rfl, rfl, rfl⟩ | ⟨Q, q1, q2⟩ | ⟨Q, q1, q2⟩
        · have h4 := hset a2
          rw [Nat.zero_add, twA_set h3] at h4
          rw [Nat.zero_add]
          refine (twA_eq fun k hk => ?_) ▸ h4
          by_cases e : k = K
          · subst e; rw [if_pos rfl, nx_new nd B A2 h2]
          · rw [if_neg e, nx_at nd B A2 (.inl e)]
        · have hne : y.tb ≠ n.tb := (hl.two (X := A1) (x := y) (Y := Q) (y := n) (Z := M ++ B) (by rw [hA, q1]; simp)).1
          have h4 := hold a2 t4 hne
          refine (twA_eq fun k hk => ?_) ▸ h4
          refine (nx_at nd B A2 ?_).symm
          by_cases e : k = K
          · subst e; exact .inr ⟨n, by rw [q2]; simp, h3⟩
          · exact .inl e
        · have hne : y.tb ≠ n.tb := (hl.two (X := P) (x := n) (Y := Q) (y := y) (Z := A2 ++ B) (by rw [hA, q1]; simp)).1.symm
          have h4 := hold a2 t4 hne
          refine (twA_eq fun k hk => ?_) ▸ h4
          exact (nx_at nd B A2 (.inl fun e => h2 y (by rw [q1]; simp) (by omega))).symm
      · have hm : y ∈ B := by rw [e]; simp
        obtain ⟨t1, t2, t3, t4⟩ := hl.topnb (hBm hm)
        obtain ⟨a1, a2⟩ := m.bnode B1 y B2 e
        have hne : y.tb ≠ n.tb := (hl.two (X := P) (x := n) (Y := M ++ B1) (y := y) (Z := B2) (by rw [hA, e]; simp)).1.symm
        exact ⟨hold a1 t3 (hl.nbtb (hBm hm) (hAm hnA)), hold a2 t4 hne⟩
  · unfold World.setCell
    congr 1
    apply Array.ext_getElem?
    intro i
    simp only [Array.getElem?_modify]
    by_cases e1 : nd.tb = i
    · by_cases e2 : g = i
      · exact absurd (e2.trans e1.symm) g1
      · simp [e1, e2]
    · simp [e1]
end Go.Proofs.Ytacaofnonmgfoaa
