/- The walk of a list's pathTo: the last links on each level. -/
import Derived.Test.YtacaofnonmgfoaaSkipAt
import Derived.Test.YtacaofnonmgfoaaEntLess
import Derived.Test.YtacaofnonmgfoaaTake
import Derived.RegionTactic
import Derived.Deep.QuietTactic
import Derived.Deep.LoopGhost
import Derived.Deep.DeepCutAuto
import Derived.Deep.RegionHeld3
namespace Go.Proofs.Ytacaofnonmgfoaa
set_option linter.unusedVariables false
open Go.RowKit
def pathV (b : Nat) (A : List Nd) : Value := .agg #[lkN b 0 A, lkN b 1 A, lkN b 2 A, lkN b 3 A, lkN b 4 A, lkN b 5 A, lkN b 6 A, lkN b 7 A]
def nilS : Value := .slice none 0 0
def pthA (b : Nat) (A : List Nd) (K : Nat) : Array Value := ((List.range 8).map fun j => if K ≤ j then lkN b j A else nilS).toArray
theorem pthA_at (b : Nat) (A : List Nd) (K : Nat) {k : Nat} (hk : k < 8) : ∃ u, (pthA b A K)[k]? = some u := by
  unfold pthA
  simp [hk]
theorem pthA_set (b : Nat) (A : List Nd) {K : Nat} (hK : K < 8) : (pthA b A (K + 1)).setIfInBounds K (lkN b K A) = pthA b A K := by
  match K, hK with
  | 0, _ => rfl
  | 1, _ => rfl
  | 2, _ => rfl
  | 3, _ => rfl
  | 4, _ => rfl
  | 5, _ => rfl
  | 6, _ => rfl
  | 7, _ => rfl
/-- Where pathTo stands: K levels are left. -/
structure PthAt (w : World) (b : Nat) (N : List Nd) (x : Ent) (K : Nat) (wr : World) : Prop where
  path : BlkAt wr (w.heap.size + 1 + 1) (pthA b (aheadN N x) K) 53
  res : BlkAt wr w.heap.size #[nilS, nilS, nilS, nilS, nilS, nilS, nilS, nilS] 53
  sought : BlkAt wr (w.heap.size + 1) #[.string x.norm, .int .i64 x.seq, .int .i64 x.kind, .string x.spell, .string x.val] 30
  below : Below w.heap.size w wr
theorem PthAt.to {w : World} {b : Nat} {N : List Nd} {x : Ent} {K : Nat} {wr w2 : World} (h : PthAt w b N x K wr) (u : Below wr.heap.size wr w2) : PthAt w b N x K w2 :=
  ⟨h.path.below u, h.res.below u, h.sought.below u, h.below.trans (u.mono h.below.size)⟩
theorem PthAt.sougs {w : World} {b : Nat} {N : List Nd} {x : Ent} {K : Nat} {wr : World} (h : PthAt w b N x K wr) : wr.cell? ⟨w.heap.size + 1, 0, none⟩ = some (.string x.norm) ∧ wr.cell? ⟨w.heap.size + 1, 1, none⟩ = some (.int .i64 x.seq) ∧ wr.cell? ⟨w.heap.size + 1, 2, none⟩ = some (.int .i64 x.kind) ∧ wr.cell? ⟨w.heap.size + 1, 3, none⟩ = some (.string x.spell) ∧ wr.cell? ⟨w.heap.size + 1, 4, none⟩ = some (.string x.val) :=
  ⟨h.sought.at 0, h.sought.at 1, h.sought.at 2, h.sought.at 3, h.sought.at 4⟩
theorem PthAt.put {w : World} {b : Nat} {N : List Nd} {x : Ent} {K : Nat} {wr : World} (h : PthAt w b N x (K + 1) wr) (hK : K < 8) {v : Value} (hv : lkN b K (aheadN N x) = v) : PthAt w b N x K (wr.setCell ⟨w.heap.size + 1 + 1, K, none⟩ v) :=
  ⟨by have := h.path.set (o := K) v; rwa [← hv, pthA_set b _ hK, hv] at this, h.res.other v (by omega), h.sought.other v (by omega), h.below.setCell (by show w.heap.size ≤ w.heap.size + 1 + 1; omega) v⟩
/-- The way behind P, on levels below K. -/
def AtV (b K : Nat) (P : List Nd) (v : Value) : Prop := (P = [] ∧ v = frV b) ∨ ∃ Q n, P = Q ++ [n] ∧ K ≤ n.h ∧ v = twV n
theorem AtV.links {w : World} {b : Nat} {ρ : Nat → Option Rl} {hv : Value} {H : List Int} {P R : List Nd} (h : SkLay w b ρ hv H (P ++ R)) {K : Nat} {v : Value} (hk : K < 8) (a : AtV b (K + 1) P v) : LinksTo w v K R := by
  rcases a with ⟨rfl, rfl⟩ | ⟨Q, n, rfl, hn, rfl⟩
  · rw [List.nil_append] at h; exact h.frontTo K hk
  · rw [List.append_assoc, List.singleton_append] at h; exact h.towerTo K hn
theorem AtV.lk {b K : Nat} {P : List Nd} {v : Value} (a : AtV b (K + 1) P v) : v = lkN b K P := by
  rcases a with ⟨rfl, rfl⟩ | ⟨Q, n, rfl, hn, rfl⟩
  · exact (lk_front fun m hm => absurd hm List.not_mem_nil).symm
  · exact (lk_tower (M := []) (fun m hm => absurd hm List.not_mem_nil) hn).symm
theorem AtV.last {b K : Nat} {P : List Nd} {v : Value} (a : AtV b (K + 1) P v) : P = [] ∨ ∃ Q n, P = Q ++ [n] ∧ K < n.h := by
  rcases a with ⟨rfl, rfl⟩ | ⟨Q, n, rfl, hn, rfl⟩
  · exact .inl rfl
  · exact .inr ⟨Q, n, rfl, hn⟩
theorem AtV.less {b K : Nat} {P : List Nd} {v : Value} (a : AtV b (K + 1) P v) : AtV b K P v := by
  rcases a with a | ⟨Q, n, rfl, hn, rfl⟩
  · exact .inl a
  · exact .inr ⟨Q, n, rfl, by omega, rfl⟩
/-- What a round of the way finds: none, or a node. -/
structure StepN (wr : World) (b : Nat) (N : List Nd) (x : Ent) (K g o : Nat) (P M r : List Nd) (n : Nd) (v : Value) (p : Option Nat) : Prop where
  cell : CellAt wr g (o + K) (.pointer (some ⟨n.nb, 0, none⟩))
  nd : BlkAt wr n.nb (ndV n.e (twV n) p) 56
  go : ltE n.e x → N = (P ++ M ++ [n]) ++ r ∧ (∀ m ∈ P ++ M ++ [n], ltE m.e x) ∧ AtV b (K + 1) (P ++ M ++ [n]) (twV n)
  stop : ¬ ltE n.e x → lkN b K (aheadN N x) = v
theorem step_cases {w wr : World} {b : Nat} {ρ : Nat → Option Rl} {hv : Value} {H : List Int} {N P R : List Nd} {x : Ent} {K g o h : Nat} (hl : SkLay w b ρ hv H N) (hb : Below w.heap.size w wr) (hN : N = P ++ R) (hP : ∀ m ∈ P, ltE m.e x) (hK : K < 8) {v : Value} (ha : AtV b (K + 1) P v) (hcell : ∀ k, k < h → wr.cell? ⟨g, o + k, none⟩ = some (ptrO (nx k R))) (hKh : K < h) (hg : g < wr.heap.size) :
    (CellAt wr g (o + K) (.pointer none) ∧ lkN b K (aheadN N x) = v) ∨ ∃ M n r p, R = M ++ n :: r ∧ StepN wr b N x K g o P M r n v p := by
  have hc := hcell K hKh
  rcases nx_cut (k := K) (l := R) with ⟨h1, h2⟩ | ⟨M, n, r, rfl, h2, h3, h4⟩
  · rw [h1] at hc
    exact .inl ⟨⟨hc, hg⟩, path_end hN hl.ord hP ha.lk ha.last (.inl ⟨h1, h2⟩)⟩
  · rw [h4] at hc
    have hl2 := hl.below hb
    have e : N = (P ++ M) ++ n :: r := by rw [hN, List.append_assoc]
    have hn := hl2.node _ _ _ e
    have hord := hl.ord
    rw [e] at hord
    refine .inr ⟨M, n, r, _, rfl, ⟨hc, hg⟩, hn.cell, fun hlt => ⟨by rw [e]; simp, fun m hm => ?_, .inr ⟨P ++ M, n, rfl, h3, rfl⟩⟩, fun hlt => path_end hN hl.ord hP ha.lk ha.last (.inr ⟨M, n, r, rfl, h2, hlt⟩)⟩
    rcases List.mem_append.1 hm with hm | hm
    · exact ltE_trans ((ord_lt hord).1 m hm) hlt
    · rw [List.mem_singleton.1 hm]; exact hlt
set_option maxHeartbeats 4000000 in
set_option maxRecDepth 100000 in
theorem path_any (w : World) (b : Nat) (ρ : Nat → Option Rl) (hv : Value) (H : List Int) (N : List Nd) (h : SkLay w b ρ hv H N) (s : ByteArray) (q kd : Int) :
    Calls Try.prog 26 #[.pointer (some ⟨b, 0, none⟩), .string s, .int .i64 q, .int .i64 kd] w fun e w' => e = .returned (pathV b (aheadN N ⟨s, q, kd, ⟨#[]⟩, ⟨#[]⟩⟩)) ∧ Below w.heap.size w w' := by
  obtain ⟨V, hV⟩ : ∃ V, pathV b (aheadN N ⟨s, q, kd, ⟨#[]⟩, ⟨#[]⟩⟩) = V := ⟨_, rfl⟩
  rw [hV]
  obtain ⟨x, hx⟩ : ∃ x : Ent, x = ⟨s, q, kd, ⟨#[]⟩, ⟨#[]⟩⟩ := ⟨_, rfl⟩
  rw [← hx] at hV
  have HV := Lib.hid hV
  have HX := Lib.hid hx
  have HL := Lib.hid h
  clear hV h hx
  go_enter Try.func26, Try.ntmps26
  go_wp2_with fail
  obtain ⟨W1, hW1⟩ : ∃ W1, ((w.alloc (.cells #[.slice none 0 0, .slice none 0 0, .slice none 0 0, .slice none 0 0, .slice none 0 0, .slice none 0 0, .slice none 0 0, .slice none 0 0] 53)).alloc (.cells #[.string s, .int .i64 q, .int .i64 kd, .string ⟨#[]⟩, .string ⟨#[]⟩] 30)).alloc (.cells #[.slice none 0 0, .slice none 0 0, .slice none 0 0, .slice none 0 0, .slice none 0 0, .slice none 0 0, .slice none 0 0, .slice none 0 0] 53) = W1 := ⟨_, rfl⟩
  have HP1 : Hid (PthAt w b N x 8 W1) := Lib.hid (by
    rw [← hW1, HX.out]
    refine ⟨?_, ((BlkAt.new w _ _).more _).more _, ?_, (((Below.refl _ w).alloc (Nat.le_refl _) _).alloc (by simp) _).alloc (by simp; omega) _⟩
    · have := BlkAt.new ((w.alloc (.cells #[.slice none 0 0, .slice none 0 0, .slice none 0 0, .slice none 0 0, .slice none 0 0, .slice none 0 0, .slice none 0 0, .slice none 0 0] 53)).alloc (.cells #[.string s, .int .i64 q, .int .i64 kd, .string ⟨#[]⟩, .string ⟨#[]⟩] 30)) #[.slice none 0 0, .slice none 0 0, .slice none 0 0, .slice none 0 0, .slice none 0 0, .slice none 0 0, .slice none 0 0, .slice none 0 0] 53
      rw [World.size_alloc, World.size_alloc] at this
      exact this
    · have := (BlkAt.new (w.alloc (.cells #[.slice none 0 0, .slice none 0 0, .slice none 0 0, .slice none 0 0, .slice none 0 0, .slice none 0 0, .slice none 0 0, .slice none 0 0] 53)) #[.string s, .int .i64 q, .int .i64 kd, .string ⟨#[]⟩, .string ⟨#[]⟩] 30).more (.cells #[.slice none 0 0, .slice none 0 0, .slice none 0 0, .slice none 0 0, .slice none 0 0, .slice none 0 0, .slice none 0 0, .slice none 0 0] 53)
      rw [World.size_alloc] at this
      exact this)
  rw [hW1]
  clear hW1
  go_loopg [11, 12] 8 (fun kk va vk wr => ∃ (K : Nat) (P R : List Nd), vk = .int .i64 ((K : Int) - 1) ∧ K ≤ 8 ∧ K ≤ kk ∧ Hid (PthAt w b N x K wr ∧ N = P ++ R ∧ (∀ m ∈ P, ltE m.e x) ∧ AtV b K P va))
  case atStart => exact ⟨8, [], N, by go_num, by omega, by omega, Lib.hid ⟨HP1.out, rfl, fun m hm => absurd hm List.not_mem_nil, .inl ⟨rfl, rfl⟩⟩⟩
  case round =>
    clear HP1
    obtain ⟨K, P, R, rfl, hK8, hkk, HR⟩ := hrel
    rcases Nat.eq_zero_or_pos K with h0 | h0
    · subst h0
      have hz : ((0 : Nat) : Int) - 1 = -1 := by omega
      rw [hz]
      obtain ⟨HPA, -, -, -⟩ := HR.out
      have p0 := HPA.path
      have r0 := HPA.res
      have HB := Lib.hid HPA.below
      have q0 : wr.cell? ⟨w.heap.size + 1 + 1, 0, none⟩ = some (lkN b 0 (aheadN N x)) := p0.at 0
      have q1 : wr.cell? ⟨w.heap.size + 1 + 1, 1, none⟩ = some (lkN b 1 (aheadN N x)) := p0.at 1
      have q2 : wr.cell? ⟨w.heap.size + 1 + 1, 2, none⟩ = some (lkN b 2 (aheadN N x)) := p0.at 2
      have q3 : wr.cell? ⟨w.heap.size + 1 + 1, 3, none⟩ = some (lkN b 3 (aheadN N x)) := p0.at 3
      have q4 : wr.cell? ⟨w.heap.size + 1 + 1, 4, none⟩ = some (lkN b 4 (aheadN N x)) := p0.at 4
      have q5 : wr.cell? ⟨w.heap.size + 1 + 1, 5, none⟩ = some (lkN b 5 (aheadN N x)) := p0.at 5
      have q6 : wr.cell? ⟨w.heap.size + 1 + 1, 6, none⟩ = some (lkN b 6 (aheadN N x)) := p0.at 6
      have q7 : wr.cell? ⟨w.heap.size + 1 + 1, 7, none⟩ = some (lkN b 7 (aheadN N x)) := p0.at 7
      obtain ⟨a0, m0, e0⟩ := lk_shape b 0 (aheadN N x)
      obtain ⟨a1, m1, e1⟩ := lk_shape b 1 (aheadN N x)
      obtain ⟨a2, m2, e2⟩ := lk_shape b 2 (aheadN N x)
      obtain ⟨a3, m3, e3⟩ := lk_shape b 3 (aheadN N x)
      obtain ⟨a4, m4, e4⟩ := lk_shape b 4 (aheadN N x)
      obtain ⟨a5, m5, e5⟩ := lk_shape b 5 (aheadN N x)
      obtain ⟨a6, m6, e6⟩ := lk_shape b 6 (aheadN N x)
      obtain ⟨a7, m7, e7⟩ := lk_shape b 7 (aheadN N x)
      rw [e0] at q0
      rw [e1] at q1
      rw [e2] at q2
      rw [e3] at q3
      rw [e4] at q4
      rw [e5] at q5
      rw [e6] at q6
      rw [e7] at q7
      have HVV : Hid (.agg #[.slice (some a0) m0 m0, .slice (some a1) m1 m1, .slice (some a2) m2 m2, .slice (some a3) m3 m3, .slice (some a4) m4 m4, .slice (some a5) m5 m5, .slice (some a6) m6 m6, .slice (some a7) m7 m7] = V) := Lib.hid (by rw [← HV.out]; unfold pathV; rw [e0, e1, e2, e3, e4, e5, e6, e7])
      have s0 : wr.cell? ⟨w.heap.size, 0, none⟩ = some (.slice none 0 0) := r0.at 0
      have f0 : wr.frozen? ⟨w.heap.size, 0, none⟩ = false := r0.free 0
      have s1 : wr.cell? ⟨w.heap.size, 1, none⟩ = some (.slice none 0 0) := r0.at 1
      have f1 : wr.frozen? ⟨w.heap.size, 1, none⟩ = false := r0.free 1
      have s2 : wr.cell? ⟨w.heap.size, 2, none⟩ = some (.slice none 0 0) := r0.at 2
      have f2 : wr.frozen? ⟨w.heap.size, 2, none⟩ = false := r0.free 2
      have s3 : wr.cell? ⟨w.heap.size, 3, none⟩ = some (.slice none 0 0) := r0.at 3
      have f3 : wr.frozen? ⟨w.heap.size, 3, none⟩ = false := r0.free 3
      have s4 : wr.cell? ⟨w.heap.size, 4, none⟩ = some (.slice none 0 0) := r0.at 4
      have f4 : wr.frozen? ⟨w.heap.size, 4, none⟩ = false := r0.free 4
      have s5 : wr.cell? ⟨w.heap.size, 5, none⟩ = some (.slice none 0 0) := r0.at 5
      have f5 : wr.frozen? ⟨w.heap.size, 5, none⟩ = false := r0.free 5
      have s6 : wr.cell? ⟨w.heap.size, 6, none⟩ = some (.slice none 0 0) := r0.at 6
      have f6 : wr.frozen? ⟨w.heap.size, 6, none⟩ = false := r0.free 6
      have s7 : wr.cell? ⟨w.heap.size, 7, none⟩ = some (.slice none 0 0) := r0.at 7
      have f7 : wr.frozen? ⟨w.heap.size, 7, none⟩ = false := r0.free 7
      clear HPA p0 HR r0 e0 e1 e2 e3 e4 e5 e6 e7 HV
      go_wp2_with fail
      refine bodyPost_ret (v := V) (by rw [← HVV.out]; simp [results, Try.results26, go_sem, s0, s1, s2, s3, s4, s5, s6, s7]) rfl ⟨rfl, ?_⟩
      iterate 8 refine Below.setCell ?_ (by simp) _
      exact HB.out
    · obtain ⟨k, rfl⟩ : ∃ k, K = k + 1 := ⟨K - 1, by omega⟩
      have ek : ((k + 1 : Nat) : Int) - 1 = (k : Int) := by omega
      rw [ek]
      have k0 : (0 : Int) ≤ (k : Int) := by omega
      have k8 : (k : Int) < 8 := by omega
      have hk8 : k < 8 := by omega
      clear ek h0
      go_wp2_with fail
      go_loopg [11] (N.length) (fun jj va wq => ∃ (P R : List Nd), R.length ≤ jj ∧ Hid (PthAt w b N x (k + 1) wq ∧ N = P ++ R ∧ (∀ m ∈ P, ltE m.e x) ∧ AtV b (k + 1) P va))
      case atStart => exact ⟨P, R, by have := congrArg List.length HR.out.2.1; rw [List.length_append] at this; omega, HR⟩
      case round =>
        clear HR
        obtain ⟨P, R, hlen, HR⟩ := hrel
        obtain ⟨hpa, hN, hlt, hat⟩ := id HR.out
        have hat0 := hat
        have hlt0 := hlt
        have hN0 := hN
        obtain ⟨g, o, hh, rfl, hKh, hh8, hg, hc⟩ := hat.links (w := wr) (by rw [← hN]; exact HL.out.below hpa.below) hk8
        have hkh : (k : Int) < (hh : Int) := by omega
        rcases step_cases HL.out hpa.below hN hlt hk8 hat hc hKh hg with ⟨hcell, hend⟩ | ⟨M, n, r, p, hR, hst⟩
        · have HE := Lib.hid hend
          have CC := Lib.hid hcell
          have HPT := Lib.hid hpa
          have HAT := Lib.hid (⟨hN, hlt, hat⟩ : N = P ++ R ∧ (∀ m ∈ P, ltE m.e x) ∧ AtV b (k + 1) P (.slice (some ⟨g, o, none⟩) hh hh))
          clear hN hlt hat hN0 hlt0 hat0 hcell hend hc hpa HR
          go_wp2_with fail
          have B : Below wr.heap.size wr wr := Below.refl _ _
          refine wp_region_held_drew (S := Below wr.heap.size wr) (by kernel_rfl) (Below.refl _ _).drew (fun hHeld => ?_)
          generalize wr.drew = wd2 at hHeld ⊢
          refine wpAnyH_shift hHeld ?_
          replace B : Below wr.heap.size wr wd2 := B.trans (hHeld.mono B.size)
          replace CC := Lib.hid (CC.out.below hHeld)
          replace HPT := Lib.hid (HPT.out.to hHeld)
          clear hHeld
          refine takeYes (i := 0) (k := 25) (v := .slice (some ⟨g, o, none⟩) hh hh) rfl (by kernel_rfl) (by kernel_rfl) (by kernel_rfl) (by kernel_rfl) (fun _ _ _ h => h) (by kernel_rfl) ?_ (Below.refl _ _) ?_
          · intro W hSw; first | (go_simp; done) | go_simp
          try simp only [Act.put, List.setIfInBounds_toArray, List.set_cons_zero, List.set_cons_succ]
          refine takeYes (i := 1) (k := 26) (v := .int .i64 (k : Int)) rfl (by kernel_rfl) (by kernel_rfl) (by kernel_rfl) (by kernel_rfl) (fun _ _ _ h => h) (by kernel_rfl) ?_ (Below.refl _ _) ?_
          · intro W hSw; first | (go_simp; done) | go_simp
          try simp only [Act.put, List.setIfInBounds_toArray, List.set_cons_zero, List.set_cons_succ]
          refine takeYes (i := 2) (k := 27) (v := .pointer (some ⟨g, o + k, none⟩)) rfl (by kernel_rfl) (by kernel_rfl) (by kernel_rfl) (by kernel_rfl) (fun _ _ _ h => h) (by kernel_rfl) ?_ (Below.refl _ _) ?_
          · intro W hSw; first | (go_simp; done) | go_simp
          try simp only [Act.put, List.setIfInBounds_toArray, List.set_cons_zero, List.set_cons_succ]
          refine takeYes (i := 3) (k := 28) (v := .pointer none) rfl (by kernel_rfl) (by kernel_rfl) (by kernel_rfl) (by kernel_rfl) (fun _ _ _ h => h) (by kernel_rfl) ?_ (Below.refl _ _) ?_
          · intro W hSw; have d0 := (CC.out.below hSw).1; first | (go_simp; done) | go_simp
          try simp only [Act.put, List.setIfInBounds_toArray, List.set_cons_zero, List.set_cons_succ]
          refine takeYes (i := 4) (k := 29) (v := .bool false) rfl (by kernel_rfl) (by kernel_rfl) (by kernel_rfl) (by kernel_rfl) (fun _ _ _ h => h) (by kernel_rfl) ?_ (Below.refl _ _) ?_
          · intro W hSw; first | (go_simp; done) | go_simp
          try simp only [Act.put, List.setIfInBounds_toArray, List.set_cons_zero, List.set_cons_succ]
          refine takeYes (i := 5) (k := 30) (v := .bool false) rfl (by kernel_rfl) (by kernel_rfl) (by kernel_rfl) (by kernel_rfl) (fun _ _ _ h => h) (by kernel_rfl) ?_ (Below.refl _ _) ?_
          · intro W hSw; first | (go_simp; done) | go_simp
          try simp only [Act.put, List.setIfInBounds_toArray, List.set_cons_zero, List.set_cons_succ]
          refine takeNot (i := 6) (k := 31) (by kernel_rfl) (by kernel_rfl) (by kernel_rfl) (by kernel_rfl) (fun _ _ _ h => h) (by kernel_rfl) (Below.refl _ _) ?_
          try simp only [Act.put, List.setIfInBounds_toArray, List.set_cons_zero, List.set_cons_succ]
          refine takeNot (i := 7) (k := 32) (by kernel_rfl) (by kernel_rfl) (by kernel_rfl) (by kernel_rfl) (fun _ _ _ h => h) (by kernel_rfl) (Below.refl _ _) ?_
          try simp only [Act.put, List.setIfInBounds_toArray, List.set_cons_zero, List.set_cons_succ]
          refine takeNot (i := 8) (k := 33) (by kernel_rfl) (by kernel_rfl) (by kernel_rfl) (by kernel_rfl) (fun _ _ _ h => h) (by kernel_rfl) (Below.refl _ _) ?_
          try simp only [Act.put, List.setIfInBounds_toArray, List.set_cons_zero, List.set_cons_succ]
          refine takeNot (i := 9) (k := 34) (by kernel_rfl) (by kernel_rfl) (by kernel_rfl) (by kernel_rfl) (fun _ _ _ h => h) (by kernel_rfl) (Below.refl _ _) ?_
          try simp only [Act.put, List.setIfInBounds_toArray, List.set_cons_zero, List.set_cons_succ]
          refine takeNot (i := 10) (k := 35) (by kernel_rfl) (by kernel_rfl) (by kernel_rfl) (by kernel_rfl) (fun _ _ _ h => h) (by kernel_rfl) (Below.refl _ _) ?_
          try simp only [Act.put, List.setIfInBounds_toArray, List.set_cons_zero, List.set_cons_succ]
          refine takeNot (i := 11) (k := 36) (by kernel_rfl) (by kernel_rfl) (by kernel_rfl) (by kernel_rfl) (fun _ _ _ h => h) (by kernel_rfl) (Below.refl _ _) ?_
          try simp only [Act.put, List.setIfInBounds_toArray, List.set_cons_zero, List.set_cons_succ]
          refine takeNot (i := 12) (k := 37) (by kernel_rfl) (by kernel_rfl) (by kernel_rfl) (by kernel_rfl) (fun _ _ _ h => h) (by kernel_rfl) (Below.refl _ _) ?_
          try simp only [Act.put, List.setIfInBounds_toArray, List.set_cons_zero, List.set_cons_succ]
          refine takeNot (i := 13) (k := 38) (by kernel_rfl) (by kernel_rfl) (by kernel_rfl) (by kernel_rfl) (fun _ _ _ h => h) (by kernel_rfl) (Below.refl _ _) ?_
          try simp only [Act.put, List.setIfInBounds_toArray, List.set_cons_zero, List.set_cons_succ]
          refine takeNot (i := 14) (k := 39) (by kernel_rfl) (by kernel_rfl) (by kernel_rfl) (by kernel_rfl) (fun _ _ _ h => h) (by kernel_rfl) (Below.refl _ _) ?_
          try simp only [Act.put, List.setIfInBounds_toArray, List.set_cons_zero, List.set_cons_succ]
          refine takeYes (i := 15) (k := 40) (v := .bool false) rfl (by kernel_rfl) (by kernel_rfl) (by kernel_rfl) (by kernel_rfl) (fun _ _ _ h => h) (by kernel_rfl) ?_ (Below.refl _ _) ?_
          · intro W hSw; first | (go_simp; done) | go_simp
          try simp only [Act.put, List.setIfInBounds_toArray, List.set_cons_zero, List.set_cons_succ]
          refine wpAnyH_done (by kernel_rfl) ?_ _
          obtain ⟨u, hu⟩ := pthA_at b (aheadN N x) (k + 1) hk8
          have hcu : wd2.cell? ⟨w.heap.size + 1 + 1, k, none⟩ = some u := (HPT.out.path.at k).trans hu
          have hcf : wd2.frozen? ⟨w.heap.size + 1 + 1, k, none⟩ = false := HPT.out.path.free k
          clear hu
          go_wp2_with fail
          go_roundg k
          case measure => omega
          case rel => exact ⟨k, P, R, by go_num, by omega, Nat.le_refl _, Lib.hid ⟨HPT.out.put hk8 HE.out, HAT.out.1, HAT.out.2.1, HAT.out.2.2.less⟩⟩
        · have HST := Lib.hid hst
          have CC := Lib.hid hst.cell
          have BN := Lib.hid hst.nd
          have HPT := Lib.hid hpa
          have HAT := Lib.hid (⟨hN, hlt, hat⟩ : N = P ++ R ∧ (∀ m ∈ P, ltE m.e x) ∧ AtV b (k + 1) P (.slice (some ⟨g, o, none⟩) hh hh))
          have hrlen : r.length < R.length := by rw [hR, List.length_append, List.length_cons]; omega
          obtain ⟨rr, hrr⟩ : ∃ rr, ltB n.e x = rr := ⟨_, rfl⟩
          have HC : Hid (∀ w, Calls Try.prog 34 #[.agg #[.string n.e.norm, .int .i64 n.e.seq, .int .i64 n.e.kind, .string n.e.spell, .string n.e.val], .agg #[.string x.norm, .int .i64 x.seq, .int .i64 x.kind, .string x.spell, .string x.val]] w fun e w' => e = .returned (.bool rr) ∧ Below w.heap.size w w') := Lib.hid fun w => by rw [← hrr]; exact less_any n.e x w
          have HRR := Lib.hid hrr
          clear hN hlt hat hN0 hlt0 hat0 hst hc hpa HR hR hrr
          go_wp2_with fail
          have B : Below wr.heap.size wr wr := Below.refl _ _
          refine wp_region_held_drew (S := Below wr.heap.size wr) (by kernel_rfl) (Below.refl _ _).drew (fun hHeld => ?_)
          generalize wr.drew = wd2 at hHeld ⊢
          refine wpAnyH_shift hHeld ?_
          replace B : Below wr.heap.size wr wd2 := B.trans (hHeld.mono B.size)
          replace CC := Lib.hid (CC.out.below hHeld)
          replace HPT := Lib.hid (HPT.out.to hHeld)
          replace BN := Lib.hid (BN.out.below hHeld)
          clear hHeld
          refine takeYes (i := 0) (k := 25) (v := .slice (some ⟨g, o, none⟩) hh hh) rfl (by kernel_rfl) (by kernel_rfl) (by kernel_rfl) (by kernel_rfl) (fun _ _ _ h => h) (by kernel_rfl) ?_ (Below.refl _ _) ?_
          · intro W hSw; first | (go_simp; done) | go_simp
          try simp only [Act.put, List.setIfInBounds_toArray, List.set_cons_zero, List.set_cons_succ]
          refine takeYes (i := 1) (k := 26) (v := .int .i64 (k : Int)) rfl (by kernel_rfl) (by kernel_rfl) (by kernel_rfl) (by kernel_rfl) (fun _ _ _ h => h) (by kernel_rfl) ?_ (Below.refl _ _) ?_
          · intro W hSw; first | (go_simp; done) | go_simp
          try simp only [Act.put, List.setIfInBounds_toArray, List.set_cons_zero, List.set_cons_succ]
          refine takeYes (i := 2) (k := 27) (v := .pointer (some ⟨g, o + k, none⟩)) rfl (by kernel_rfl) (by kernel_rfl) (by kernel_rfl) (by kernel_rfl) (fun _ _ _ h => h) (by kernel_rfl) ?_ (Below.refl _ _) ?_
          · intro W hSw; first | (go_simp; done) | go_simp
          try simp only [Act.put, List.setIfInBounds_toArray, List.set_cons_zero, List.set_cons_succ]
          refine takeYes (i := 3) (k := 28) (v := .pointer (some ⟨n.nb, 0, none⟩)) rfl (by kernel_rfl) (by kernel_rfl) (by kernel_rfl) (by kernel_rfl) (fun _ _ _ h => h) (by kernel_rfl) ?_ (Below.refl _ _) ?_
          · intro W hSw; have d0 := (CC.out.below hSw).1; first | (go_simp; done) | go_simp
          try simp only [Act.put, List.setIfInBounds_toArray, List.set_cons_zero, List.set_cons_succ]
          refine takeYes (i := 4) (k := 29) (v := .bool true) rfl (by kernel_rfl) (by kernel_rfl) (by kernel_rfl) (by kernel_rfl) (fun _ _ _ h => h) (by kernel_rfl) ?_ (Below.refl _ _) ?_
          · intro W hSw; first | (go_simp; done) | go_simp
          try simp only [Act.put, List.setIfInBounds_toArray, List.set_cons_zero, List.set_cons_succ]
          refine takeYes (i := 5) (k := 30) (v := .bool true) rfl (by kernel_rfl) (by kernel_rfl) (by kernel_rfl) (by kernel_rfl) (fun _ _ _ h => h) (by kernel_rfl) ?_ (Below.refl _ _) ?_
          · intro W hSw; first | (go_simp; done) | go_simp
          try simp only [Act.put, List.setIfInBounds_toArray, List.set_cons_zero, List.set_cons_succ]
          refine takeYes (i := 6) (k := 31) (v := .slice (some ⟨g, o, none⟩) hh hh) rfl (by kernel_rfl) (by kernel_rfl) (by kernel_rfl) (by kernel_rfl) (fun _ _ _ h => h) (by kernel_rfl) ?_ (Below.refl _ _) ?_
          · intro W hSw; first | (go_simp; done) | go_simp
          try simp only [Act.put, List.setIfInBounds_toArray, List.set_cons_zero, List.set_cons_succ]
          refine takeYes (i := 7) (k := 32) (v := .int .i64 (k : Int)) rfl (by kernel_rfl) (by kernel_rfl) (by kernel_rfl) (by kernel_rfl) (fun _ _ _ h => h) (by kernel_rfl) ?_ (Below.refl _ _) ?_
          · intro W hSw; first | (go_simp; done) | go_simp
          try simp only [Act.put, List.setIfInBounds_toArray, List.set_cons_zero, List.set_cons_succ]
          refine takeYes (i := 8) (k := 33) (v := .pointer (some ⟨g, o + k, none⟩)) rfl (by kernel_rfl) (by kernel_rfl) (by kernel_rfl) (by kernel_rfl) (fun _ _ _ h => h) (by kernel_rfl) ?_ (Below.refl _ _) ?_
          · intro W hSw; first | (go_simp; done) | go_simp
          try simp only [Act.put, List.setIfInBounds_toArray, List.set_cons_zero, List.set_cons_succ]
          refine takeYes (i := 9) (k := 34) (v := .pointer (some ⟨n.nb, 0, none⟩)) rfl (by kernel_rfl) (by kernel_rfl) (by kernel_rfl) (by kernel_rfl) (fun _ _ _ h => h) (by kernel_rfl) ?_ (Below.refl _ _) ?_
          · intro W hSw; have d0 := (CC.out.below hSw).1; first | (go_simp; done) | go_simp
          try simp only [Act.put, List.setIfInBounds_toArray, List.set_cons_zero, List.set_cons_succ]
          refine takeYes (i := 10) (k := 35) (v := .pointer (some ⟨n.nb, 0, none⟩)) rfl (by kernel_rfl) (by kernel_rfl) (by kernel_rfl) (by kernel_rfl) (fun _ _ _ h => h) (by kernel_rfl) ?_ (Below.refl _ _) ?_
          · intro W hSw; first | (go_simp; done) | go_simp
          try simp only [Act.put, List.setIfInBounds_toArray, List.set_cons_zero, List.set_cons_succ]
          refine takeYes (i := 11) (k := 36) (v := .pointer (some ⟨n.nb, 0, none⟩)) rfl (by kernel_rfl) (by kernel_rfl) (by kernel_rfl) (by kernel_rfl) (fun _ _ _ h => h) (by kernel_rfl) ?_ (Below.refl _ _) ?_
          · intro W hSw; first | (go_simp; done) | go_simp
          try simp only [Act.put, List.setIfInBounds_toArray, List.set_cons_zero, List.set_cons_succ]
          refine takeYes (i := 12) (k := 37) (v := .agg #[.string n.e.norm, .int .i64 n.e.seq, .int .i64 n.e.kind, .string n.e.spell, .string n.e.val]) rfl (by kernel_rfl) (by kernel_rfl) (by kernel_rfl) (by kernel_rfl) (fun _ _ _ h => h) (by kernel_rfl) ?_ (Below.refl _ _) ?_
          · intro W hSw; obtain ⟨d0, d1, d2, d3, d4, -, -⟩ := nd_cells (BN.out.below hSw); first | (go_simp; done) | go_simp
          try simp only [Act.put, List.setIfInBounds_toArray, List.set_cons_zero, List.set_cons_succ]
          refine takeYes (i := 13) (k := 38) (v := .agg #[.string x.norm, .int .i64 x.seq, .int .i64 x.kind, .string x.spell, .string x.val]) rfl (by kernel_rfl) (by kernel_rfl) (by kernel_rfl) (by kernel_rfl) (fun _ _ _ h => h) (by kernel_rfl) ?_ (Below.refl _ _) ?_
          · intro W hSw; obtain ⟨d0, d1, d2, d3, d4⟩ := (HPT.out.to hSw).sougs; first | (go_simp; done) | go_simp
          try simp only [Act.put, List.setIfInBounds_toArray, List.set_cons_zero, List.set_cons_succ]
          refine wpAnyH_ready (rs := [14]) (by kernel_rfl) (by simp) (AllReadyH.cons rfl (fun K hK => ?_) AllReadyH.nil)
          go_simp
          refine (HC.out _).mono ?_
          rintro e wd3 ⟨rfl, hb3⟩
          refine hK.out _ _ hb3 (fun _ => wpAnyH_shift hb3 ?_)
          clear hK K
          replace B : Below wr.heap.size wr wd3 := B.trans (hb3.mono B.size)
          replace CC := Lib.hid (CC.out.below hb3)
          replace HPT := Lib.hid (HPT.out.to hb3)
          replace BN := Lib.hid (BN.out.below hb3)
          clear hb3
          try simp only [Act.put, List.setIfInBounds_toArray, List.set_cons_zero, List.set_cons_succ]
          refine takeYes (i := 15) (k := 40) (v := .bool rr) rfl (by kernel_rfl) (by kernel_rfl) (by kernel_rfl) (by kernel_rfl) (fun _ _ _ h => h) (by kernel_rfl) ?_ (Below.refl _ _) ?_
          · intro W hSw; first | (go_simp; done) | go_simp
          try simp only [Act.put, List.setIfInBounds_toArray, List.set_cons_zero, List.set_cons_succ]
          refine wpAnyH_done (by kernel_rfl) ?_ _
          cases rr
          · have HE : Hid (lkN b k (aheadN N x) = .slice (some ⟨g, o, none⟩) hh hh) := Lib.hid (HST.out.stop (of_decide_eq_false HRR.out))
            obtain ⟨u, hu⟩ := pthA_at b (aheadN N x) (k + 1) hk8
            have hcu : wd3.cell? ⟨w.heap.size + 1 + 1, k, none⟩ = some u := (HPT.out.path.at k).trans hu
            have hcf : wd3.frozen? ⟨w.heap.size + 1 + 1, k, none⟩ = false := HPT.out.path.free k
            clear hu
            go_wp2_with fail
            go_roundg k
            case measure => omega
            case rel => exact ⟨k, P, R, by go_num, by omega, Nat.le_refl _, Lib.hid ⟨HPT.out.put hk8 HE.out, HAT.out.1, HAT.out.2.1, HAT.out.2.2.less⟩⟩
          · have HG := Lib.hid (HST.out.go (of_decide_eq_true HRR.out))
            obtain ⟨cc, -⟩ := CC.out
            have c5 := (nd_cells BN.out).c5
            unfold twV at c5
            go_wp2_with fail
            go_roundg r.length
            case measure => omega
            case rel => exact ⟨_, r, Nat.le_refl _, Lib.hid ⟨HPT.out, HG.out.1, HG.out.2.1, HG.out.2.2⟩⟩
end Go.Proofs.Ytacaofnonmgfoaa
