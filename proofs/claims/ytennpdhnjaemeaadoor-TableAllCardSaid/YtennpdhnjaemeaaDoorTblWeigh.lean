/- A table is not too great: plain mathematics, and the walk of the laws' weigh. -/
import Derived.Test.YtennpdhnjaemeaaDoorTblMade
import Derived.Deep.LoopGhost
namespace Go.Proofs.YtennpdhnjaemeaaDoor
set_option linter.unusedVariables false
set_option maxRecDepth 100000
open Go.RowKit
def wE (e : Ent) : Nat := e.norm.size + e.spell.size + e.val.size
def sumE (c : Nat) : List Ent → Nat
  | [] => 0
  | e :: r => c + wE e + sumE c r
theorem sumE_app (c : Nat) : ∀ a b : List Ent, sumE c (a ++ b) = sumE c a + sumE c b
  | [], b => by simp [sumE]
  | e :: r, b => by rw [List.cons_append, sumE, sumE, sumE_app c r b]; omega
theorem sumE_zero (c : Nat) : ∀ l : List Ent, sumE c l = c * l.length + sumE 0 l
  | [] => by simp [sumE]
  | e :: r => by rw [sumE, sumE, sumE_zero c r, List.length_cons, Nat.mul_add]; omega
theorem verB_sm {e : Ent} (h : RightE e) (hf : FitE 60 e) : (verB e).length ≤ 11 + e.spell.size + e.val.size := by
  have h1 := putN_lt (n := e.seq.toNat) 8 (by decide) (by decide) (by have := h.seq2; omega)
  have h2 := putN_lt (n := e.kind.toNat) 1 (by decide) (by decide) (by rcases h.kind with k | ⟨k, -⟩ <;> rw [k] <;> decide)
  obtain ⟨f1, f2, f3⟩ := hf
  have h3 := putN_lt (n := e.spell.data.toList.length) 1 (by decide) (by decide) (by rw [size_toList]; omega)
  have h4 := putN_lt (n := e.val.data.toList.length) 1 (by decide) (by decide) (by rw [size_toList]; omega)
  rw [verB_len, textE_len, textE_len]
  rw [size_toList] at h3 h4 ⊢
  rw [size_toList]
  omega
theorem verG_sm : ∀ {g : List Ent}, (∀ e ∈ g, RightE e ∧ FitE 60 e) → g ≠ [] → 4 + (normG g).size + (verG g).length ≤ sumE 15 g := by
  intro g
  cases g with
  | nil => intro _ h; exact absurd rfl h
  | cons x r =>
    intro h _
    have H : ∀ l : List Ent, (∀ e ∈ l, RightE e ∧ FitE 60 e) → (verG l).length ≤ sumE 15 l := by
      intro l
      induction l with
      | nil => intro _; exact Nat.zero_le _
      | cons y s ih =>
        intro hl
        have h1 := verB_sm (hl y (by simp)).1 (hl y (by simp)).2
        have h2 := ih fun e he => hl e (List.mem_cons_of_mem _ he)
        rw [verG_cons, List.length_append, sumE]
        unfold wE
        omega
    have h1 := verB_sm (h x (by simp)).1 (h x (by simp)).2
    have h2 := H r fun e he => h e (List.mem_cons_of_mem _ he)
    rw [verG_cons, List.length_append, sumE]
    show 4 + x.norm.size + _ ≤ _
    unfold wE
    omega
theorem body_sm : ∀ (gs : List (List Ent)) (n : Nat) (p : List UInt8), (∀ g ∈ gs, g ≠ [] ∧ (∀ e ∈ g, RightE e ∧ FitE 60 e) ∧ (verG g).length < 16384) → (bodyB n p (gs.map rowE)).length ≤ sumE 15 gs.flatten
  | [], n, p, _ => Nat.zero_le _
  | g :: r, n, p, h => by
    obtain ⟨h1, h2, h3⟩ := h g (by simp)
    have h4 := body_sm r (n + 1) (rowE g).k fun x hx => h x (List.mem_cons_of_mem _ hx)
    have h5 := verG_sm h2 h1
    have hk : (rowE g).k.length = (normG g).size := size_toList _
    have hv : (rowE g).v.length = (verG g).length := rfl
    have hn : (normG g).size ≤ 60 := by
      cases g with
      | nil => exact absurd rfl h1
      | cons x t => exact (h2 x (by simp)).2.norm
    have hs := (shB_le n p (rowE g).k).2
    have h6 := putN_lt (n := shB n p (rowE g).k) 1 (by decide) (by decide) (by omega)
    have h7 := putN_lt (n := (rowE g).k.length - shB n p (rowE g).k) 1 (by decide) (by decide) (by omega)
    have h8 := putN_lt (n := (rowE g).v.length) 2 (by decide) (by decide) (by omega)
    rw [List.map_cons, bodyB, List.length_append, rowB_len, List.flatten_cons, sumE_app]
    omega
theorem one_len2 : ∀ gs : List (List Ent), (∀ g ∈ gs, g ≠ []) → gs.length ≤ gs.flatten.length
  | [], _ => Nat.zero_le _
  | g :: r, H => by
    have h1 := List.length_pos_iff.2 (H g (by simp))
    have h2 := one_len2 r fun x hx => H x (List.mem_cons_of_mem _ hx)
    rw [List.flatten_cons, List.length_append, List.length_cons]
    omega
theorem pc_sm {gs : List (List Ent)} (h : Pc 60 gs) (o : Nat) : (pcB gs).length + (partB ⟨(lastE gs).norm, (lastE gs).seq, o, (pcB gs).length, gs.flatten.length⟩).length ≤ 39 * gs.flatten.length + 2 * sumE 0 gs.flatten := by
  have hl := pcB_le h
  have hv : ∀ g ∈ gs, (verG g).length < 16384 := fun g hg => by
    have h1 := mem_verG hg
    have h2 := verG_flat gs 0 []
    have h3 := blockB_len (gs.map rowE)
    have := hl.1
    omega
  have h1 := body_sm gs 0 [] fun g hg => ⟨(h.ok.one g hg).1, fun e he => h.fit e (List.mem_flatten.2 ⟨g, hg, he⟩), hv g hg⟩
  have h2 := blockB_len (gs.map rowE)
  have h3 := sealB_len (blockB (gs.map rowE))
  have h4 := one_len2 gs fun g hg => (h.ok.one g hg).1
  have h5 := fewB_len h.few
  have hm := lastE_mem (pc_ne h.ok)
  have hz := h.fit _ hm
  have h6 := putN_lt (n := (lastE gs).norm.data.toList.length) 1 (by decide) (by decide) (by rw [size_toList]; have := hz.2.norm; omega)
  have h7 := putN_lt (n := (lastE gs).seq.toNat) 8 (by decide) (by decide) (by have := hz.1.seq2; omega)
  have h8 := putN_lt (n := (pcB gs).length) 2 (by decide) (by decide) (by have := hl.2; omega)
  have h9 := putN_lt (n := gs.flatten.length) 1 (by decide) (by decide) (by omega)
  have hw : ∀ (l : List Ent), lastE gs ∈ l → (lastE gs).norm.size ≤ sumE 0 l := by
    intro l
    induction l with
    | nil => intro h; cases h
    | cons x r ih =>
      intro hx
      rw [sumE]
      rcases List.mem_cons.1 hx with e | e
      · rw [e]; unfold wE; omega
      · have := ih e; omega
  have hw2 := hw _ hm
  have hp := List.length_pos_iff.2 (pc_ne h.ok)
  have hc := sumE_zero 15 gs.flatten
  have e1 : (pcB gs).length = (blockB (gs.map rowE)).length + 4 := h3
  rw [List.length_map] at h2
  rw [partB_len, textE_len]
  simp only
  rw [size_toList] at h6 ⊢
  omega
theorem all_sm : ∀ {ps : List (List (List Ent))} (o : Nat), (∀ gs ∈ ps, Pc 60 gs) → (blocksB ps).length + ((partsFrom o ps).flatMap partB).length ≤ 39 * (flatP ps).length + 2 * sumE 0 (flatP ps)
  | [], _, _ => Nat.zero_le _
  | gs :: r, o, h => by
    have h1 := all_sm (o + (pcB gs).length) fun x hx => h x (List.mem_cons_of_mem _ hx)
    have h2 := pc_sm (h gs (by simp)) o
    rw [blocksB_cons, partsFrom, List.flatMap_cons, List.length_append, flatP_cons, List.length_append, sumE_app]
    omega
theorem made_sm {l : List Ent} {ps : List (List (List Ent))} {ss : List ByteArray} (h : MadeT l ps ss) : (madeB ps ss).length ≤ 2 * sumE 0 l + 60 * l.length + 100 := by
  have h1 : (blocksB ps).length + (indexB ps).length ≤ 39 * (flatP ps).length + 2 * sumE 0 (flatP ps) := all_sm 0 h.tb.pcs
  have h2 : flatP ps = l := h.tb.flat
  rw [h2] at h1
  have h3 : (filterB (ss.map hashN)).length ≤ 2 * l.length + 11 := by
    rw [filterB_len, List.length_map]
    have := h.norms.len
    unfold bitsN
    have h4 : max 64 (10 * ss.length) ≤ 64 + 10 * ss.length := by omega
    omega
  unfold madeB
  rw [togB_len]
  unfold sizeT
  rw [sealB_len, sealB_len, sealB_len, endB_len]
  omega
theorem sumE_take (l : List Ent) (i : Nat) (e : Ent) (h : l[i]? = some e) : sumE 0 (l.take (i + 1)) = sumE 0 (l.take i) + wE e := by
  rw [List.take_add_one, h, sumE_app]
  simp [sumE]
set_option maxHeartbeats 4000000 in
theorem weigh_any (v : Value) (l : List Ent) (hl : l.length ≤ 1000) (hf : ∀ e ∈ l, FitE 60 e) (w : World) (hv : RdK encEnt 5 w v l) : Calls Tryd.prog 13 #[v] w fun e w' => e = .returned (.int .i64 ((sumE 0 l : Nat) : Int)) ∧ Below w.heap.size w w' := by
  obtain ⟨a, len, cap, rfl, hlen⟩ := rdK_len hv
  have HV := Lib.hid hv
  have HLN := Lib.hid hlen
  have HFT := Lib.hid hf
  have hlm : len ≤ 1000 := by omega
  clear hv hlen hl hf
  go_enter Tryd.func13, Tryd.ntmps13
  go_wp2_with fail
  go_loopg [3, 4] len (fun kk vn vi wr => ∃ (i n : Nat), vi = .int .i64 (i : Int) ∧ vn = .int .i64 (n : Int) ∧ i ≤ len ∧ len - i ≤ kk ∧ n ≤ 180 * i ∧ Hid (n = sumE 0 (l.take i)) ∧ Hid (DrN w wr))
  case atStart => exact ⟨0, 0, rfl, rfl, by omega, by omega, by omega, Lib.hid rfl, Lib.hid (DrN.refl _)⟩
  case round =>
    obtain ⟨i, n, rfl, rfl, hi, hik, hn, HN, HD⟩ := hrel
    by_cases h1 : i < len
    · have hi1 : (i : Int) < (len : Int) := by omega
      have hi0 : (0 : Int) ≤ (i : Int) := by omega
      obtain ⟨e, he⟩ : ∃ e, l[i]? = some e := ⟨l[i]'(by have := HLN.out; omega), List.getElem?_eq_getElem _⟩
      obtain ⟨bb, ox, rfl, hblt, d0, d1, d2, d3, d4⟩ := (HV.out.below (HD.out.below _)).at5 HLN.out i e he
      have hfe := HFT.out e (List.mem_of_getElem? he)
      obtain ⟨en, hen⟩ : ∃ x, e.norm = x := ⟨_, rfl⟩
      obtain ⟨es, hes⟩ : ∃ x, e.spell = x := ⟨_, rfl⟩
      obtain ⟨ev, hev⟩ : ∃ x, e.val = x := ⟨_, rfl⟩
      have HN2 : Hid (n + (en.size + es.size + ev.size) = sumE 0 (l.take (i + 1))) := Lib.hid (by
        rw [sumE_take l i e he, ← HN.out]; unfold wE; rw [hen, hes, hev])
      have s1 : en.size ≤ 60 := by rw [← hen]; exact hfe.norm
      have s2 : es.size ≤ 60 := by rw [← hes]; exact hfe.spell
      have s3 : ev.size ≤ 60 := by rw [← hev]; exact hfe.val
      rw [hen] at d0
      rw [hes] at d3
      rw [hev] at d4
      clear he hfe hen hes hev d1 d2 HN
      obtain ⟨N1, hN1⟩ : ∃ x, en.size = x := ⟨_, rfl⟩
      obtain ⟨N2, hN2⟩ : ∃ x, es.size = x := ⟨_, rfl⟩
      obtain ⟨N3, hN3⟩ : ∃ x, ev.size = x := ⟨_, rfl⟩
      rw [hN1, hN2, hN3] at HN2
      go_wp2_with fail
      go_quiet (fail)
      have HD2 := Lib.hid (HD.out.more nq)
      generalize wr.drewN nq = wq at *
      clear HD
      go_wp2_with fail
      go_roundg (len - (i + 1))
      case measure => omega
      case rel => exact ⟨i + 1, n + (N1 + N2 + N3), by go_num, by go_num, by omega, Nat.le_refl _, by omega, HN2, HD2⟩
    · obtain rfl : i = len := by omega
      have hi1 : ¬ (i : Int) < (i : Int) := by omega
      have HE : Hid (n = sumE 0 l) := Lib.hid (by rw [HN.out, List.take_of_length_le (by rw [← HLN.out]; exact Nat.le_refl _)])
      go_wp2_with fail
      go_ret
      exact ⟨by rw [← HE.out]; rfl, HD.out.below _⟩
end Go.Proofs.YtennpdhnjaemeaaDoor
