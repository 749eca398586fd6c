/- A list into which a node is just being put: how it begins, the ways back, the counts; the walks of linkBack. -/
import Derived.Test.YtacaofnonmgfoaaSkipMid
import Derived.Test.YtacaofnonmgfoaaSkipOps
namespace Go.Proofs.Ytacaofnonmgfoaa
set_option linter.unusedVariables false
open Go.RowKit
theorem nx_zero {k : Nat} (n : Nd) (B : List Nd) : ∀ X : List Nd, nx k (X ++ n.at 0 :: B) = nx k (X ++ B)
  | [] => by
    show (if k < 0 then some n.nb else nx k B) = nx k B
    rw [if_neg (by omega)]
  | y :: X => by rw [List.cons_append, List.cons_append, nx, nx, nx_zero n B X]
theorem MidAt.begin {w0 : World} {b : Nat} {ρ : Nat → Option Rl} {hv : Value} {H : List Int} {A B : List Nd} {nd : Nd} {pb eb : Nat} {wr : World} (hl : SkLay w0 b ρ hv H (A ++ B)) (u : Below w0.heap.size w0 wr)
    (hnew : BlkAt wr nd.nb (ndV nd.e (twV nd) none) 56) (hnewt : BlkAt wr nd.tb (twA nd.h fun _ => none) 46) (hpath : BlkAt wr pb (pthV b A) 53) (hent : BlkAt wr eb (encEnt nd.e).toArray 30) :
    MidAt w0 b ρ hv H A B nd pb eb 0 wr := by
  have h2 := hl.below u
  refine ⟨?_, fun A1 n A2 e => ?_, fun B1 n B2 e => ?_, hnew, ?_, hpath, hent, h2.hts, UpdF.of u⟩
  · refine (lsV_eq fun k hk => ?_) ▸ h2.cell
    rw [nx_zero]
  · have h3 := h2.node A1 n (A2 ++ B) (by rw [e]; simp)
    exact ⟨h3.cell, (twA_eq fun k hk => (nx_zero nd B A2).symm) ▸ h3.tow⟩
  · have h3 := h2.node (A ++ B1) n B2 (by rw [e]; simp)
    exact ⟨h3.cell, h3.tow⟩
  · exact (twA_eq fun k hk => (if_neg (Nat.not_lt_zero k)).symm) ▸ hnewt
theorem MidAt.below {w0 : World} {b : Nat} {ρ : Nat → Option Rl} {hv : Value} {H : List Int} {A B : List Nd} {nd : Nd} {pb eb K : Nat} {wr w2 : World} (m : MidAt w0 b ρ hv H A B nd pb eb K wr) (u : Below wr.heap.size wr w2) : MidAt w0 b ρ hv H A B nd pb eb K w2 :=
  ⟨m.top.below u, fun A1 n A2 e => ⟨(m.anode A1 n A2 e).1.below u, (m.anode A1 n A2 e).2.below u⟩, fun B1 n B2 e => ⟨(m.bnode B1 n B2 e).1.below u, (m.bnode B1 n B2 e).2.below u⟩, m.new.below u, m.newt.below u, m.path.below u, m.ent.below u, m.hts.below u, m.upd.trans (UpdF.of u)⟩
/-- All links and ways back are laid. -/
structure DoneAt (w0 : World) (b : Nat) (ρ : Nat → Option Rl) (hv : Value) (H : List Int) (A B : List Nd) (nd : Nd) (eb : Nat) (c s : Int) (wr : World) : Prop where
  top : BlkAt wr b (lsV hv (fun k => nx k (A ++ nd :: B)) (lastB (A ++ nd :: B)) c s) 49
  node : ∀ X n Y, A ++ nd :: B = X ++ n :: Y → BlkAt wr n.nb (ndV n.e (twV n) (lastB X)) 56 ∧ BlkAt wr n.tb (twA n.h fun k => nx k Y) 46
  ent : BlkAt wr eb (encEnt nd.e).toArray 30
  hts : OwnV 3 0 wr hv (H.map (Value.int .i64))
  upd : UpdF (fun k => ρ k ≠ none) w0 wr
theorem DoneAt.below {w0 : World} {b : Nat} {ρ : Nat → Option Rl} {hv : Value} {H : List Int} {A B : List Nd} {nd : Nd} {eb : Nat} {c s : Int} {wr w2 : World} (m : DoneAt w0 b ρ hv H A B nd eb c s wr) (u : Below wr.heap.size wr w2) : DoneAt w0 b ρ hv H A B nd eb c s w2 :=
  ⟨m.top.below u, fun X n Y e => ⟨(m.node X n Y e).1.below u, (m.node X n Y e).2.below u⟩, m.ent.below u, m.hts.below u, m.upd.trans (UpdF.of u)⟩
theorem DoneAt.other {w0 : World} {b : Nat} {ρ : Nat → Option Rl} {hv : Value} {H : List Int} {A B : List Nd} {nd : Nd} {pb eb : Nat} {c s : Int} {wr : World} (hl : SkLay w0 b ρ hv H (A ++ B)) (hn : NewBs w0 nd pb eb) (m : DoneAt w0 b ρ hv H A B nd eb c s wr) {o : Nat} {v : Value} {c' s' : Int} (hv' : (lsV hv (fun k => nx k (A ++ nd :: B)) (lastB (A ++ nd :: B)) c s).setIfInBounds o v = lsV hv (fun k => nx k (A ++ nd :: B)) (lastB (A ++ nd :: B)) c' s') :
    DoneAt w0 b ρ hv H A B nd eb c' s' (wr.setCell ⟨b, o, none⟩ v) := by
  have hbl := hl.lt
  refine ⟨by rw [← hv']; exact m.top.set v, fun X n Y e => ?_, m.ent.other _ (by have := hn.e; omega), hts_set m.hts v fun k hk => (hl.hvb hk).2.1, m.upd.set b o v (by rw [hl.role]; simp)⟩
  obtain ⟨h1, h2⟩ := m.node X n Y e
  have hm : n ∈ A ++ nd :: B := by rw [e]; simp
  have : n.nb ≠ b ∧ n.tb ≠ b := by
    rcases List.mem_append.1 hm with hm | hm
    · obtain ⟨t1, t2, -, -⟩ := hl.topnb (n := n) (List.mem_append_left _ hm); exact ⟨Ne.symm t1, Ne.symm t2⟩
    · rcases List.mem_cons.1 hm with rfl | hm
      · exact ⟨by have := hn.n; omega, by have := hn.t; omega⟩
      · obtain ⟨t1, t2, -, -⟩ := hl.topnb (n := n) (List.mem_append_right _ hm); exact ⟨Ne.symm t1, Ne.symm t2⟩
  exact ⟨h1.other _ this.1, h2.other _ this.2⟩
/-- A new list's plan. -/
def newRl (ρ : Nat → Option Rl) (nd : Nd) : Nat → Option Rl := fun k => if k = nd.nb then some (.node (keyE nd.e)) else if k = nd.tb then some (.tow (keyE nd.e)) else ρ k
theorem newRl_or {ρ : Nat → Option Rl} {nd : Nd} {k : Nat} (h : newRl ρ nd k ≠ none) : k = nd.nb ∨ k = nd.tb ∨ ρ k ≠ none := by
  unfold newRl at h
  split at h
  · exact .inl ‹_›
  · split at h
    · exact .inr (.inl ‹_›)
    · exact .inr (.inr h)
theorem ents_app (A B : List Nd) : entsN (A ++ B) = entsN A ++ entsN B := by unfold entsN; rw [List.map_append]
theorem ents_put (A B : List Nd) (nd : Nd) : szA (entsN (A ++ nd :: B)) = szA (entsN (A ++ B)) + szE nd.e := by
  have e : szA (entsN (nd :: B)) = szE nd.e + szA (entsN B) := rfl
  rw [ents_app, ents_app, szA_app, szA_app, e]; omega
theorem DoneAt.lay {w0 : World} {b : Nat} {ρ : Nat → Option Rl} {hv : Value} {H : List Int} {A B : List Nd} {nd : Nd} {pb eb : Nat} {wr : World} (hl : SkLay w0 b ρ hv H (A ++ B)) (hn : NewBs w0 nd pb eb)
    (m : DoneAt w0 b ρ hv H A B nd eb ((A ++ nd :: B).length : Int) ((szA (entsN (A ++ nd :: B)) : Nat) : Int) wr) (hnb : nd.nb < wr.heap.size) (htb : nd.tb < wr.heap.size) (hp : 0 < nd.h) (h8 : nd.h ≤ 8) (ho : OrdK (entsN (A ++ nd :: B))) (hk : nd.e.kind ≤ 9223372036854775807) (hf : (A ++ nd :: B).length ≤ 1000000000) (hs : szA (entsN (A ++ nd :: B)) ≤ 4000000000000000000) :
    SkLay wr b (newRl ρ nd) hv H (A ++ nd :: B) ∧ (∀ k, newRl ρ nd k ≠ none → ρ k ≠ none ∨ w0.heap.size ≤ k) := by
  have hbl := hl.lt
  have hrn : newRl ρ nd nd.nb = some (.node (keyE nd.e)) := if_pos rfl
  have hrt : newRl ρ nd nd.tb = some (.tow (keyE nd.e)) := by unfold newRl; rw [if_neg (Ne.symm hn.nt), if_pos rfl]
  have hro : ∀ k, k < w0.heap.size → newRl ρ nd k = ρ k := fun k hk => by unfold newRl; rw [if_neg (by have := hn.n; omega), if_neg (by have := hn.t; omega)]
  have hh : ∀ k, hv.ownBlock = some k → k < w0.heap.size := fun k hk => hl.top k (by rw [hl.hrole k hk]; simp)
  refine ⟨{ cell := m.top, role := by rw [hro b hbl, hl.role], hts := m.hts, hrole := fun k hk => by rw [hro k (hh k hk)]; exact hl.hrole k hk, node := fun X n Y e => ?_, top := fun k hk => ?_, ord := ho, kinds := fun n h => ?_, few := hf, size := hs }, fun k hk => ?_⟩
  · obtain ⟨h1, h2⟩ := m.node X n Y e
    have hm : n ∈ A ++ nd :: B := by rw [e]; simp
    rcases List.mem_append.1 hm with hm | hm
    · obtain ⟨_, _, h3⟩ := hl.mem (n := n) (List.mem_append_left _ hm)
      obtain ⟨-, -, t3, t4⟩ := hl.topnb (n := n) (List.mem_append_left _ hm)
      exact ⟨h1, h2, h3.pos, h3.small, by rw [hro _ t3]; exact h3.role, by rw [hro _ t4]; exact h3.trole⟩
    · rcases List.mem_cons.1 hm with rfl | hm
      · exact ⟨h1, h2, hp, h8, hrn, hrt⟩
      · obtain ⟨_, _, h3⟩ := hl.mem (n := n) (List.mem_append_right _ hm)
        obtain ⟨-, -, t3, t4⟩ := hl.topnb (n := n) (List.mem_append_right _ hm)
        exact ⟨h1, h2, h3.pos, h3.small, by rw [hro _ t3]; exact h3.role, by rw [hro _ t4]; exact h3.trole⟩
  · rcases newRl_or hk with rfl | rfl | h
    · exact hnb
    · exact htb
    · exact Nat.lt_of_lt_of_le (hl.top k h) m.upd.size
  · rcases List.mem_append.1 h with h | h
    · exact hl.kinds n (List.mem_append_left _ h)
    · rcases List.mem_cons.1 h with rfl | h
      · exact hk
      · exact hl.kinds n (List.mem_append_right _ h)
  · rcases newRl_or hk with rfl | rfl | h
    · exact .inr hn.n
    · exact .inr hn.t
    · exact .inl h
/-- The ways back, where the new one is the last. -/
theorem MidAt.backEnd {w0 : World} {b : Nat} {ρ : Nat → Option Rl} {hv : Value} {H : List Int} {A : List Nd} {nd : Nd} {pb eb : Nat} {wr : World} (hl : SkLay w0 b ρ hv H (A ++ [])) (hn : NewBs w0 nd pb eb) (m : MidAt w0 b ρ hv H A [] nd pb eb nd.h wr) :
    DoneAt w0 b ρ hv H A [] nd eb (A.length : Int) ((szA (entsN A) : Nat) : Int) ((wr.setCell ⟨nd.nb, 6, none⟩ (ptrO (lastB A))).setCell ⟨b, 9, none⟩ (ptrO (some nd.nb))) := by
  have hbl := hl.lt
  have hAm : ∀ {n : Nd}, n ∈ A → n ∈ A ++ [] := fun h => List.mem_append_left _ h
  have b1 : b ≠ nd.nb := by have := hn.n; omega
  have ent := (m.ent.other (o := 6) (ptrO (lastB A)) hn.en).other (o := 9) (ptrO (some nd.nb)) (show eb ≠ b by have := hn.e; omega)
  have hh1 : ∀ k, hv.ownBlock = some k → k ≠ nd.nb := fun k hk => by have := (hl.hvb hk).1; have := hn.n; omega
  have hts := hts_set (o := 9) (hts_set (o := 6) m.hts (ptrO (lastB A)) hh1) (ptrO (some nd.nb)) fun k hk => (hl.hvb hk).2.1
  refine ⟨?_, fun X n Y e => ?_, ent, hts, ?_⟩
  · have h1 := (m.top.other (o := 6) (ptrO (lastB A)) b1).set (o := 9) (ptrO (some nd.nb))
    rw [lastB_snoc]
    have e1 : nd.at nd.h = nd := rfl
    rw [e1, List.append_nil] at h1
    exact h1
  · rcases split3 e with ⟨rfl, rfl, rfl⟩ | ⟨Q, q1, q2⟩ | ⟨Q, q1, q2⟩
    · refine ⟨?_, ?_⟩
      · exact (m.new.set (o := 6) (ptrO (lastB X))).other (o := 9) (ptrO (some n.nb)) (Ne.symm b1)
      · have h1 := (m.newt.other (o := 6) (ptrO (lastB X)) (Ne.symm hn.nt)).other (o := 9) (ptrO (some n.nb)) (show n.tb ≠ b by have := hn.t; omega)
        exact (twA_eq fun k hk => if_pos hk) ▸ h1
    · obtain ⟨h1, h2⟩ := m.anode X n Q q1
      obtain ⟨t1, t2, t3, t4⟩ := hl.topnb (hAm (n := n) (by rw [q1]; simp))
      have := hn.n
      rw [q2]
      exact ⟨(h1.other _ (by omega)).other _ (Ne.symm t1), (h2.other _ (by omega)).other _ (Ne.symm t2)⟩
    · have := congrArg List.length q1; simp at this
  · refine UpdF.set ?_ b 9 _ (by rw [hl.role]; simp)
    refine ⟨m.upd.os, m.upd.tape, m.upd.output, by simpa [World.setCell] using m.upd.size, fun k hk hr => (Below.heap_setCell _ _ _ _ ?_).trans (m.upd.block k hk hr)⟩
    have := hn.n; show k ≠ nd.nb; omega
/-- The ways back, where another is behind the new one. -/
theorem MidAt.backMid {w0 : World} {b : Nat} {ρ : Nat → Option Rl} {hv : Value} {H : List Int} {A B : List Nd} {n1 nd : Nd} {pb eb : Nat} {wr : World} (hl : SkLay w0 b ρ hv H (A ++ n1 :: B)) (hn : NewBs w0 nd pb eb) (m : MidAt w0 b ρ hv H A (n1 :: B) nd pb eb nd.h wr) :
    DoneAt w0 b ρ hv H A (n1 :: B) nd eb ((A ++ n1 :: B).length : Int) ((szA (entsN (A ++ n1 :: B)) : Nat) : Int) ((wr.setCell ⟨nd.nb, 6, none⟩ (ptrO (lastB A))).setCell ⟨n1.nb, 6, none⟩ (ptrO (some nd.nb))) := by
  have hbl := hl.lt
  have b1 : b ≠ nd.nb := by have := hn.n; omega
  have hm1 : n1 ∈ A ++ n1 :: B := by simp
  obtain ⟨s1, s2, s3, s4⟩ := hl.topnb hm1
  have hnn := hn.n
  have hnt := hn.t
  have ent := (m.ent.other (o := 6) (ptrO (lastB A)) hn.en).other (o := 6) (ptrO (some nd.nb)) (show eb ≠ n1.nb by have := hn.e; omega)
  have hh1 : ∀ k, hv.ownBlock = some k → k ≠ nd.nb := fun k hk => by have := (hl.hvb hk).1; have := hn.n; omega
  have hts := hts_set (o := 6) (hts_set (o := 6) m.hts (ptrO (lastB A)) hh1) (ptrO (some nd.nb)) fun k hk => ((hl.hvb hk).2.2 _ hm1).1
  refine ⟨?_, fun X n Y e => ?_, ent, hts, ?_⟩
  · have h1 := (m.top.other (o := 6) (ptrO (lastB A)) b1).other (o := 6) (ptrO (some nd.nb)) s1
    rw [lastB_app]
    have e1 : nd.at nd.h = nd := rfl
    rw [e1, lastB_app] at h1
    have e2 : lastB (nd :: n1 :: B) = lastB (n1 :: B) := by
      rw [show nd :: n1 :: B = [nd] ++ n1 :: B from rfl, lastB_app]
    rw [e2]
    exact h1
  · rcases split3 e with ⟨rfl, rfl, rfl⟩ | ⟨Q, q1, q2⟩ | ⟨Q, q1, q2⟩
    · refine ⟨?_, ?_⟩
      · exact (m.new.set (o := 6) (ptrO (lastB X))).other (o := 6) (ptrO (some n.nb)) (by omega)
      · have h1 := (m.newt.other (o := 6) (ptrO (lastB X)) (Ne.symm hn.nt)).other (o := 6) (ptrO (some n.nb)) (show n.tb ≠ n1.nb by omega)
        exact (twA_eq fun k hk => if_pos hk) ▸ h1
    · have hnA : n ∈ A ++ n1 :: B := by rw [q1]; simp
      obtain ⟨h1, h2⟩ := m.anode X n Q q1
      obtain ⟨t1, t2, t3, t4⟩ := hl.topnb hnA
      have hne := (hl.two (X := X) (x := n) (Y := Q) (y := n1) (Z := B) (by rw [q1]; simp)).2
      rw [q2]
      exact ⟨(h1.other _ (by omega)).other _ hne, (h2.other _ (by omega)).other _ (hl.nbtb hm1 hnA).symm⟩
    · have hnB : n ∈ A ++ n1 :: B := by rw [q1]; simp
      obtain ⟨h1, h2⟩ := m.bnode Q n Y q1
      obtain ⟨t1, t2, t3, t4⟩ := hl.topnb hnB
      cases Q with
      | nil =>
        simp only [List.nil_append, List.cons.injEq] at q1
        obtain ⟨rfl, rfl⟩ := q1
        rw [q2, lastB_snoc]
        rw [List.append_nil] at h1
        refine ⟨?_, (h2.other _ (by omega)).other _ (hl.nbtb hm1 hnB).symm⟩
        exact (h1.other (o := 6) (ptrO (lastB A)) (by omega)).set (o := 6) (ptrO (some nd.nb))
      | cons y Q =>
        simp only [List.cons_append, List.cons.injEq] at q1
        obtain ⟨rfl, q1⟩ := q1
        have hne := (hl.two (X := A) (x := n1) (Y := Q) (y := n) (Z := Y) (by rw [q1])).2.symm
        rw [q2]
        have e3 : lastB (A ++ nd :: n1 :: Q) = lastB (A ++ n1 :: Q) := by
          rw [lastB_app, lastB_app, show nd :: n1 :: Q = [nd] ++ n1 :: Q from rfl, lastB_app]
        rw [e3]
        exact ⟨(h1.other _ (by omega)).other _ hne, (h2.other _ (by omega)).other _ (hl.nbtb hm1 hnB).symm⟩
  · obtain ⟨_, _, h3⟩ := hl.mem hm1
    refine UpdF.set ?_ n1.nb 6 _ (by rw [h3.role]; simp)
    refine ⟨m.upd.os, m.upd.tape, m.upd.output, by simpa [World.setCell] using m.upd.size, fun k hk hr => (Below.heap_setCell _ _ _ _ ?_).trans (m.upd.block k hk hr)⟩
    show k ≠ nd.nb; omega
end Go.Proofs.Ytacaofnonmgfoaa
