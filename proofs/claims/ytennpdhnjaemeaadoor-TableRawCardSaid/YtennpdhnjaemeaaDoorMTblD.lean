/- Plain mathematics of a table that is open: its blocks' bytes, of which some may be spoilt; where what is sought stands. -/
import Derived.Test.YtennpdhnjaemeaaDoorTblOpen
import Derived.Test.YtennpdhnjaemeaaDoorMEnt
import Derived.Test.YtennpdhnjaemeaaDoorMTblB
import Derived.Test.YtennpdhnjaemeaaDoorMBase
import Derived.Test.YtennpdhnjaemeaaDoorAppSK
import Derived.Test.YtennpdhnjaemeaaDoorMBloom
import Derived.Deep.LoopGhost
import Derived.Deep.RegionHeld3
import Derived.Deep.CutBlock
namespace Go.Proofs.YtennpdhnjaemeaaDoor
set_option linter.unusedVariables false
/-- A table's blocks, of which some may be spoilt. -/
structure BlkSt (ps : List (List (List Ent))) (bss : List (List UInt8)) : Prop where
  len : bss.length = ps.length
  each : ∀ (i : Nat) (gs : List (List Ent)) (b : List UInt8), ps[i]? = some gs → bss[i]? = some b → b.length = (pcB gs).length ∧ (b = pcB gs ∨ unsealB b = none)
theorem blkSt_tail {gs : List (List Ent)} {ps : List (List (List Ent))} {b : List UInt8} {bss : List (List UInt8)} (h : BlkSt (gs :: ps) (b :: bss)) : BlkSt ps bss ∧ b.length = (pcB gs).length ∧ (b = pcB gs ∨ unsealB b = none) :=
  ⟨⟨by have := h.len; simpa using this, fun i x y hx hy => h.each (i + 1) x y (by simpa using hx) (by simpa using hy)⟩, h.each 0 gs b rfl rfl⟩
theorem blkSt_len : ∀ {ps : List (List (List Ent))} {bss : List (List UInt8)}, BlkSt ps bss → bss.flatten.length = (blocksB ps).length
  | [], [], _ => rfl
  | [], _ :: _, h => by have := h.len; simp at this
  | _ :: _, [], h => by have := h.len; simp at this
  | gs :: ps, b :: bss, h => by
    obtain ⟨h1, h2, -⟩ := blkSt_tail h
    rw [List.flatten_cons, List.length_append, blocksB_cons, blkSt_len h1, h2]
theorem blkSt_at : ∀ {ps : List (List (List Ent))} {bss : List (List UInt8)} {i : Nat} {gs : List (List Ent)} {b : List UInt8}, BlkSt ps bss → ps[i]? = some gs → bss[i]? = some b →
    (bss.flatten.take ((blocksB (ps.take i)).length + (pcB gs).length)).drop (blocksB (ps.take i)).length = b ∧ (blocksB (ps.take i)).length + (pcB gs).length ≤ bss.flatten.length
  | [], _, i, gs, b, _, h, _ => by simp at h
  | _ :: _, [], i, gs, b, h, _, _ => by have := h.len; simp at this
  | x :: ps, y :: bss, 0, gs, b, h, h1, h2 => by
    obtain rfl : x = gs := by simpa using h1
    obtain rfl : y = b := by simpa using h2
    have h3 := (blkSt_tail h).2.1
    rw [List.take_zero, List.flatten_cons, List.length_append]
    show (((y ++ bss.flatten).take (0 + (pcB x).length)).drop 0 = y) ∧ 0 + (pcB x).length ≤ _
    rw [Nat.zero_add, List.drop_zero, ← h3, List.take_left]
    exact ⟨rfl, by omega⟩
  | x :: ps, y :: bss, i + 1, gs, b, h, h1, h2 => by
    obtain ⟨h3, h4, -⟩ := blkSt_tail h
    obtain ⟨h5, h6⟩ := blkSt_at h3 (i := i) (gs := gs) (b := b) (by simpa using h1) (by simpa using h2)
    rw [List.take_succ_cons, blocksB_cons, List.flatten_cons, List.length_append, ← h4]
    refine ⟨?_, by omega⟩
    rw [Nat.add_assoc, List.take_length_add_append, List.drop_length_add_append]
    exact h5
/-- No block is spoilt. -/
def AllGood (ps : List (List (List Ent))) (bss : List (List UInt8)) : Prop := bss = ps.map pcB
theorem allGood_st {ps : List (List (List Ent))} : BlkSt ps (ps.map pcB) := ⟨by rw [List.length_map], fun i gs b h1 h2 => by
  rw [List.getElem?_map, h1] at h2
  obtain rfl : pcB gs = b := by simpa using h2
  exact ⟨rfl, .inl rfl⟩⟩
/-- What is told of a table that may be spoilt. -/
def flatP (ps : List (List (List Ent))) : List Ent := (ps.map List.flatten).flatten
theorem flatP_app (a b : List (List (List Ent))) : flatP (a ++ b) = flatP a ++ flatP b := by unfold flatP; rw [List.map_append, List.flatten_append]
/-- The part as an entry; what is sought as one. -/
def pE (p : Part) : Ent := ⟨p.norm, p.seq, 0, ⟨#[]⟩, ⟨#[]⟩⟩
def sE (n : ByteArray) (q : Int) : Ent := ⟨n, q, 1, ⟨#[]⟩, ⟨#[]⟩⟩
theorem reach_pE (p : Part) (n : ByteArray) (q : Int) : (!ltB (pE p) (sE n q)) = reachB ⟨p.norm, p.seq, 0, ⟨#[]⟩, ⟨#[]⟩⟩ n q := by
  unfold ltB reachB pE sE
  rw [← decide_not]
  congr 1
  apply propext
  unfold ltE
  simp only
  constructor
  · intro h
    rcases bl_tri p.norm n with h1 | h1 | h1
    · exact absurd (.inl h1) h
    · refine .inr ⟨h1, ?_⟩
      rcases Int.lt_or_le q p.seq with h2 | h2
      · exact absurd (.inr ⟨h1, .inl h2⟩) h
      · exact h2
    · exact .inl h1
  · rintro (h | ⟨h, h2⟩) (k | ⟨k, k2⟩)
    · exact bl_irr _ (bl_trans h k)
    · rw [k] at h; exact bl_irr _ h
    · rw [h] at k; exact bl_irr _ k
    · rcases k2 with k2 | ⟨k2, k3⟩
      · omega
      · exact absurd k3 (by decide)
/-- Does the i-th part reach what is sought? -/
def rpP (P : List Part) (n : ByteArray) (q : Int) (i : Nat) : Bool := match P[i]? with
  | some p => !ltB (pE p) (sE n q)
  | none => true
theorem reach_mono {a b : Ent} (h : ltE a b ∨ a = b) {n : ByteArray} {q : Int} (hr : reachB a n q = true) : reachB b n q = true := by
  unfold reachB at hr ⊢
  have hr := of_decide_eq_true hr
  rcases h with h | rfl
  · refine decide_eq_true ?_
    rcases hr with k | ⟨k1, k2⟩
    · rcases h with h | ⟨h, -⟩
      · exact .inl (bl_trans k h)
      · rw [← h]; exact .inl k
    · rcases h with h | ⟨h, h2⟩
      · rw [← k1]; exact .inl h
      · refine .inr ⟨by rw [← h]; exact k1, ?_⟩
        rcases h2 with h2 | ⟨h2, -⟩ <;> omega
  · exact decide_eq_true hr
end Go.Proofs.YtennpdhnjaemeaaDoor
/- The library's Search over the tests of table's reaching and From. -/
namespace Go.Proofs.YtennpdhnjaemeaaDoor
set_option linter.unusedVariables false
open Go.RowKit
set_option maxHeartbeats 4000000 in
theorem tsearch_any (n : Nat) (hn : n ≤ 1000000) (c0 c1 : Value) (p : Nat → Bool) (hp : ∀ i j, i < j → p i = true → p j = true) (w : World)
    (HCC : Hid (∀ W, Below w.heap.size w W → ∀ i, i < n → Calls Tryd.prog 69 #[.int .i64 i, c0, c1] W fun e w' => e = .returned (.bool (p i)) ∧ Below W.heap.size W w')) :
    Calls Tryd.prog 43 #[.int .i64 n, .func (.func 69) #[] #[c0, c1]] w (SearchRes p n w) := by
  have HP := Lib.hid hp
  clear hp
  go_enter Tryd.func43, Tryd.ntmps43
  go_wp2_with fail
  go_loopg [5, 6] n (fun kk vi vj wr => ∃ i j : Nat, vi = .int .i64 i ∧ vj = .int .i64 j ∧ i ≤ j ∧ j ≤ n ∧ j - i ≤ kk ∧ Hid ((∀ m, m < i → p m = false) ∧ ∀ m, j ≤ m → m < n → p m = true) ∧ Hid (Below w.heap.size w wr))
  case atStart => exact ⟨0, n, rfl, rfl, by omega, by omega, by omega, Lib.hid ⟨fun m h => by omega, fun m h h2 => by omega⟩, Lib.hid (Below.refl _ _)⟩
  case round =>
    obtain ⟨i, j, rfl, rfl, hij, hjn, hk, HG, HB⟩ := hrel
    by_cases h : i < j
    · have hi0 : (0 : Int) ≤ (i : Int) := by omega
      have hj0 : (0 : Int) ≤ (j : Int) := by omega
      obtain ⟨m, hm⟩ : ∃ m, (i + j) / 2 = m := ⟨_, rfl⟩
      have em : ((i : Int) + (j : Int)) / 2 = (m : Int) := by omega
      have hm1 : i ≤ m ∧ m < j := by omega
      obtain ⟨r, hr⟩ : ∃ r, p m = r := ⟨_, rfl⟩
      have HR := Lib.hid hr
      have HC : Hid (Calls Tryd.prog 69 #[.int .i64 m, c0, c1] wr fun e w' => e = .returned (.bool r) ∧ Below wr.heap.size wr w') := Lib.hid (by rw [← hr]; exact HCC.out wr HB.out m (by omega))
      clear hr hm
      go_wp2_with fail
      refine HC.out.mono ?_
      rintro e w3 ⟨rfl, hb⟩
      have HB3 := Lib.hid (HB.out.trans (hb.mono HB.out.size))
      clear hb HB HC
      cases r
      · have HG2 : Hid ((∀ l, l < m + 1 → p l = false) ∧ ∀ l, j ≤ l → l < n → p l = true) := Lib.hid ⟨fun l hl => by
          cases hb : p l with
          | false => rfl
          | true =>
            rcases Nat.lt_or_ge l m with h1 | h1
            · have := HP.out l m h1 hb; rw [HR.out] at this; cases this
            · obtain rfl : l = m := by omega
              rw [HR.out] at hb; exact hb.symm, HG.out.2⟩
        clear HR HG
        go_wp2_with fail
        go_roundg (j - (m + 1))
        case measure => omega
        case rel => exact ⟨m + 1, j, by go_num, rfl, by omega, by omega, Nat.le_refl _, HG2, HB3⟩
      · have HG2 : Hid ((∀ l, l < i → p l = false) ∧ ∀ l, m ≤ l → l < n → p l = true) := Lib.hid ⟨HG.out.1, fun l hl hl2 => by
          rcases Nat.lt_or_ge m l with h1 | h1
          · exact HP.out m l h1 HR.out
          · obtain rfl : m = l := by omega
            exact HR.out⟩
        clear HR HG
        go_wp2_with fail
        go_roundg (m - i)
        case measure => omega
        case rel => exact ⟨i, m, rfl, rfl, by omega, by omega, Nat.le_refl _, HG2, HB3⟩
    · have hd : decide (i < j) = false := decide_eq_false h
      have hK : Cuts p n i := ⟨by omega, HG.out.1, fun l hl hl2 => HG.out.2 l (by omega) hl2⟩
      have HK := Lib.hid hK
      clear hK
      go_wp2_with fail
      go_ret
      exact ⟨i, HK.out, rfl, HB.out⟩
set_option maxHeartbeats 4000000 in
theorem fsearch_any (n : Nat) (hn : n ≤ 1000000) (c0 c1 : Value) (p : Nat → Bool) (hp : ∀ i j, i < j → p i = true → p j = true) (w : World)
    (HCC : Hid (∀ W, Below w.heap.size w W → ∀ i, i < n → Calls Tryd.prog 44 #[.int .i64 i, c0, c1] W fun e w' => e = .returned (.bool (p i)) ∧ Below W.heap.size W w')) :
    Calls Tryd.prog 43 #[.int .i64 n, .func (.func 44) #[] #[c0, c1]] w (SearchRes p n w) := by
  have HP := Lib.hid hp
  clear hp
  go_enter Tryd.func43, Tryd.ntmps43
  go_wp2_with fail
  go_loopg [5, 6] n (fun kk vi vj wr => ∃ i j : Nat, vi = .int .i64 i ∧ vj = .int .i64 j ∧ i ≤ j ∧ j ≤ n ∧ j - i ≤ kk ∧ Hid ((∀ m, m < i → p m = false) ∧ ∀ m, j ≤ m → m < n → p m = true) ∧ Hid (Below w.heap.size w wr))
  case atStart => exact ⟨0, n, rfl, rfl, by omega, by omega, by omega, Lib.hid ⟨fun m h => by omega, fun m h h2 => by omega⟩, Lib.hid (Below.refl _ _)⟩
  case round =>
    obtain ⟨i, j, rfl, rfl, hij, hjn, hk, HG, HB⟩ := hrel
    by_cases h : i < j
    · have hi0 : (0 : Int) ≤ (i : Int) := by omega
      have hj0 : (0 : Int) ≤ (j : Int) := by omega
      obtain ⟨m, hm⟩ : ∃ m, (i + j) / 2 = m := ⟨_, rfl⟩
      have em : ((i : Int) + (j : Int)) / 2 = (m : Int) := by omega
      have hm1 : i ≤ m ∧ m < j := by omega
      obtain ⟨r, hr⟩ : ∃ r, p m = r := ⟨_, rfl⟩
      have HR := Lib.hid hr
      have HC : Hid (Calls Tryd.prog 44 #[.int .i64 m, c0, c1] wr fun e w' => e = .returned (.bool r) ∧ Below wr.heap.size wr w') := Lib.hid (by rw [← hr]; exact HCC.out wr HB.out m (by omega))
      clear hr hm
      go_wp2_with fail
      refine HC.out.mono ?_
      rintro e w3 ⟨rfl, hb⟩
      have HB3 := Lib.hid (HB.out.trans (hb.mono HB.out.size))
      clear hb HB HC
      cases r
      · have HG2 : Hid ((∀ l, l < m + 1 → p l = false) ∧ ∀ l, j ≤ l → l < n → p l = true) := Lib.hid ⟨fun l hl => by
          cases hb : p l with
          | false => rfl
          | true =>
            rcases Nat.lt_or_ge l m with h1 | h1
            · have := HP.out l m h1 hb; rw [HR.out] at this; cases this
            · obtain rfl : l = m := by omega
              rw [HR.out] at hb; exact hb.symm, HG.out.2⟩
        clear HR HG
        go_wp2_with fail
        go_roundg (j - (m + 1))
        case measure => omega
        case rel => exact ⟨m + 1, j, by go_num, rfl, by omega, by omega, Nat.le_refl _, HG2, HB3⟩
      · have HG2 : Hid ((∀ l, l < i → p l = false) ∧ ∀ l, m ≤ l → l < n → p l = true) := Lib.hid ⟨HG.out.1, fun l hl hl2 => by
          rcases Nat.lt_or_ge m l with h1 | h1
          · exact HP.out m l h1 HR.out
          · obtain rfl : m = l := by omega
            exact HR.out⟩
        clear HR HG
        go_wp2_with fail
        go_roundg (m - i)
        case measure => omega
        case rel => exact ⟨i, m, rfl, rfl, by omega, by omega, Nat.le_refl _, HG2, HB3⟩
    · have hd : decide (i < j) = false := decide_eq_false h
      have hK : Cuts p n i := ⟨by omega, HG.out.1, fun l hl hl2 => HG.out.2 l (by omega) hl2⟩
      have HK := Lib.hid hK
      clear hK
      go_wp2_with fail
      go_ret
      exact ⟨i, HK.out, rfl, HB.out⟩
end Go.Proofs.YtennpdhnjaemeaaDoor
/- The walks of table's Len, Blocks, isOpen, reaching, and of the tests of reaching and From. -/
namespace Go.Proofs.YtennpdhnjaemeaaDoor
set_option linter.unusedVariables false
set_option maxRecDepth 100000
open Go.RowKit
theorem tlen_any {w : World} {g : Nat} {bs F : List UInt8} {ps : List (List (List Ent))} (h : TbAt w g bs F ps) : Calls Tryd.prog 14 #[.pointer (some ⟨g, 0, none⟩)] w fun en w' => en = .returned (.int .i64 ((flatP ps).length : Int)) ∧ w = w' := by
  obtain ⟨vb, vf, vp, h1, -⟩ := h
  change BlkAt w g #[vb, vf, vp, .int .i64 ((flatP ps).length : Int)] 69 at h1
  have x3 : w.cell? ⟨g, 3, none⟩ = some (.int .i64 ((flatP ps).length : Int)) := h1.at 3
  have hl := h1.lt
  generalize (flatP ps).length = n at *
  clear h1
  go_enter Tryd.func14, Tryd.ntmps14
  go_wp2_with fail
  go_ret
  exact ⟨rfl, rfl⟩
theorem tblocks_any {w : World} {g : Nat} {bs F : List UInt8} {ps : List (List (List Ent))} (h : TbAt w g bs F ps) : Calls Tryd.prog 15 #[.pointer (some ⟨g, 0, none⟩)] w fun en w' => en = .returned (.int .i64 (ps.length : Int)) ∧ w = w' := by
  obtain ⟨vb, vf, vp, h1, -, -, h4⟩ := h
  obtain ⟨a, c, rfl, -⟩ := RdK.len h4
  have x2 : w.cell? ⟨g, 2, none⟩ = some (.slice a (partsT ps).length c) := h1.at 2
  have hp : (partsT ps).length = ps.length := partsFrom_len ps 0
  rw [hp] at x2
  have hl := h1.lt
  generalize ps.length = n at *
  clear h1 h4 hp
  go_enter Tryd.func15, Tryd.ntmps15
  go_wp2_with fail
  go_ret
  exact ⟨rfl, rfl⟩
theorem isopen_any {w : World} {g : Nat} {bs F : List UInt8} {ps : List (List (List Ent))} (h : TbAt w g bs F ps) (hne : ps ≠ []) : Calls Tryd.prog 38 #[.pointer (some ⟨g, 0, none⟩)] w fun en w' => en = .returned (.bool true) ∧ w = w' := by
  have HB := Lib.hid (tblocks_any h)
  have hp : 0 < ps.length := List.length_pos_iff.2 hne
  generalize ps.length = n at *
  have HP := Lib.hid hp
  clear h hne
  go_enter Tryd.func38, Tryd.ntmps38
  go_wp2_with fail
  refine HB.out.mono ?_
  rintro e w' ⟨rfl, rfl⟩
  go_wp2_with fail
  go_ret
  exact ⟨congrArg (fun b => Ending.returned (.bool b)) (by simp), rfl⟩
theorem tlen_nil (w : World) : Calls Tryd.prog 14 #[.pointer none] w fun en w' => en = .returned (.int .i64 0) ∧ w = w' := by
  go_enter Tryd.func14, Tryd.ntmps14
  go_wp2_with fail
  go_ret
  exact ⟨rfl, rfl⟩
theorem tblocks_nil (w : World) : Calls Tryd.prog 15 #[.pointer none] w fun en w' => en = .returned (.int .i64 0) ∧ w = w' := by
  go_enter Tryd.func15, Tryd.ntmps15
  go_wp2_with fail
  go_ret
  exact ⟨rfl, rfl⟩
theorem isopen_nil (w : World) : Calls Tryd.prog 38 #[.pointer none] w fun en w' => en = .returned (.bool false) ∧ w = w' := by
  have HB := Lib.hid (tblocks_nil w)
  go_enter Tryd.func38, Tryd.ntmps38
  go_wp2_with fail
  refine HB.out.mono ?_
  rintro e w' ⟨rfl, rfl⟩
  go_wp2_with fail
  go_ret
  exact ⟨rfl, rfl⟩
set_option maxHeartbeats 4000000 in
theorem reach1_any {w : World} {gt bt bs : Nat} {vb vf vn : Value} {a : Option Addr} {np cp : Nat} {P : List Part} {n : ByteArray} {q : Int} (HTB : BlkAt w gt #[vb, vf, .slice a np cp, vn] 69) (HTP : BlkAt w bt #[.pointer (some ⟨gt, 0, none⟩)] 29)
    (HSE : BlkAt w bs #[.string n, .int .i64 q, .int .i64 1, .string ⟨#[]⟩, .string ⟨#[]⟩] 39) (HPR : RdK encPart 8 w (.slice a np cp) P) (hn : np = P.length) (hnl : np ≤ 1000000) (i : Nat) (hi : i < np) :
    Calls Tryd.prog 69 #[.int .i64 i, .pointer (some ⟨bt, 0, none⟩), .pointer (some ⟨bs, 0, none⟩)] w fun e w' => e = .returned (.bool (rpP P n q i)) ∧ Below w.heap.size w w' := by
  obtain ⟨p, hp⟩ : ∃ p, P[i]? = some p := ⟨P[i]'(by omega), List.getElem?_eq_getElem _⟩
  obtain ⟨r, hr⟩ : ∃ r, rpP P n q i = r := ⟨_, rfl⟩
  rw [hr]
  obtain ⟨lr, hlr⟩ : ∃ x, ltB (pE p) (sE n q) = x := ⟨_, rfl⟩
  have hrr : r = !lr := by rw [← hr, ← hlr]; unfold rpP; rw [hp]
  have HLS := Lib.hid (fun W => less_any (pE p) (sE n q) W)
  rw [hlr] at HLS
  obtain ⟨bb, ox, rfl, hblt, -⟩ := HPR.at8 i p hp
  have HPI : Hid (∀ W, RdK encPart 8 W (.slice (some ⟨bb, ox, none⟩) np cp) P → W.cell? ⟨bb, ox + i * 8, none⟩ = some (.string p.norm) ∧ W.cell? ⟨bb, ox + i * 8 + 1, none⟩ = some (.int .i64 p.seq) ∧ W.cell? ⟨bb, ox + i * 8 + 2, none⟩ = some (.int .i64 0) ∧ W.cell? ⟨bb, ox + i * 8 + 3, none⟩ = some (.string ⟨#[]⟩) ∧ W.cell? ⟨bb, ox + i * 8 + 4, none⟩ = some (.string ⟨#[]⟩)) := Lib.hid (fun W hW => by
    obtain ⟨b2, o2, e2, -, d0, d1, d2, d3, d4, -⟩ := hW.at8 i p hp
    cases e2
    exact ⟨d0, d1, d2, d3, d4⟩)
  have hi0 : (0 : Int) ≤ (i : Int) := by omega
  have hil : (i : Int) < (np : Int) := by omega
  obtain ⟨pn, hpn⟩ : ∃ x, p.norm = x := ⟨_, rfl⟩
  obtain ⟨pq, hpq⟩ : ∃ x, p.seq = x := ⟨_, rfl⟩
  unfold pE sE Ent.v at HLS
  rw [hpn, hpq] at HPI HLS
  simp only at HLS
  have B : Below w.heap.size w w := Below.refl _ _
  clear hr hlr hpn hpq hp hn
  go_enter Tryd.func69, Tryd.ntmps69
  go_wp2_with fail
  refine wp_region_held_drew (S := Below w.heap.size w) (by kernel_rfl) (Below.refl _ _).drew (fun hHeld => ?_)
  generalize w.drew = wd2 at hHeld ⊢
  refine wpAnyH_shift hHeld ?_
  replace B : Below w.heap.size w wd2 := B.trans (hHeld.mono B.size)
  replace HTP := HTP.below hHeld
  replace HTB := HTB.below hHeld
  replace HPR := HPR.below hHeld
  replace HSE := HSE.below hHeld
  clear hHeld
  refine takeYes (i := 0) (k := 5) (v := .pointer (some ⟨gt, 0, none⟩)) rfl (by kernel_rfl) (by kernel_rfl) (by kernel_rfl) (by kernel_rfl) (fun _ _ _ h => h) (by kernel_rfl) ?_ (Below.refl _ _) ?_
  · intro W hSw; have x0 : W.cell? ⟨bt, 0, none⟩ = some (.pointer (some ⟨gt, 0, none⟩)) := (HTP.below hSw).at 0; first | (go_simp; done) | go_simp
  try simp only [Act.put, List.setIfInBounds_toArray, List.set_cons_zero, List.set_cons_succ]
  refine takeYes (i := 1) (k := 6) (v := .pointer (some ⟨gt, 0, none⟩)) rfl (by kernel_rfl) (by kernel_rfl) (by kernel_rfl) (by kernel_rfl) (fun _ _ _ h => h) (by kernel_rfl) ?_ (Below.refl _ _) ?_
  · intro W hSw; first | (go_simp; done) | go_simp
  try simp only [Act.put, List.setIfInBounds_toArray, List.set_cons_zero, List.set_cons_succ]
  refine takeYes (i := 2) (k := 7) (v := .pointer (some ⟨gt, 2, none⟩)) rfl (by kernel_rfl) (by kernel_rfl) (by kernel_rfl) (by kernel_rfl) (fun _ _ _ h => h) (by kernel_rfl) ?_ (Below.refl _ _) ?_
  · intro W hSw; first | (go_simp; done) | go_simp
  try simp only [Act.put, List.setIfInBounds_toArray, List.set_cons_zero, List.set_cons_succ]
  refine takeYes (i := 3) (k := 8) (v := .slice (some ⟨bb, ox, none⟩) np cp) rfl (by kernel_rfl) (by kernel_rfl) (by kernel_rfl) (by kernel_rfl) (fun _ _ _ h => h) (by kernel_rfl) ?_ (Below.refl _ _) ?_
  · intro W hSw; have x2 : W.cell? ⟨gt, 2, none⟩ = some (.slice (some ⟨bb, ox, none⟩) np cp) := (HTB.below hSw).at 2; first | (go_simp; done) | go_simp
  try simp only [Act.put, List.setIfInBounds_toArray, List.set_cons_zero, List.set_cons_succ]
  refine takeYes (i := 4) (k := 9) (v := .int .i64 (i : Int)) rfl (by kernel_rfl) (by kernel_rfl) (by kernel_rfl) (by kernel_rfl) (fun _ _ _ h => h) (by kernel_rfl) ?_ (Below.refl _ _) ?_
  · intro W hSw; first | (go_simp; done) | go_simp
  try simp only [Act.put, List.setIfInBounds_toArray, List.set_cons_zero, List.set_cons_succ]
  refine takeYes (i := 5) (k := 10) (v := .pointer (some ⟨bb, ox + i * 8, none⟩)) rfl (by kernel_rfl) (by kernel_rfl) (by kernel_rfl) (by kernel_rfl) (fun _ _ _ h => h) (by kernel_rfl) ?_ (Below.refl _ _) ?_
  · intro W hSw; first | (go_simp; done) | go_simp
  try simp only [Act.put, List.setIfInBounds_toArray, List.set_cons_zero, List.set_cons_succ]
  refine takeYes (i := 6) (k := 11) (v := .pointer (some ⟨bb, ox + i * 8, none⟩)) rfl (by kernel_rfl) (by kernel_rfl) (by kernel_rfl) (by kernel_rfl) (fun _ _ _ h => h) (by kernel_rfl) ?_ (Below.refl _ _) ?_
  · intro W hSw; first | (go_simp; done) | go_simp
  try simp only [Act.put, List.setIfInBounds_toArray, List.set_cons_zero, List.set_cons_succ]
  refine takeYes (i := 7) (k := 12) (v := .agg #[.string pn, .int .i64 pq, .int .i64 0, .string ⟨#[]⟩, .string ⟨#[]⟩]) rfl (by kernel_rfl) (by kernel_rfl) (by kernel_rfl) (by kernel_rfl) (fun _ _ _ h => h) (by kernel_rfl) ?_ (Below.refl _ _) ?_
  · intro W hSw; obtain ⟨d0, d1, d2, d3, d4⟩ := HPI.out _ (HPR.below hSw); first | (go_simp; done) | go_simp
  try simp only [Act.put, List.setIfInBounds_toArray, List.set_cons_zero, List.set_cons_succ]
  refine takeYes (i := 8) (k := 13) (v := .agg #[.string n, .int .i64 q, .int .i64 1, .string ⟨#[]⟩, .string ⟨#[]⟩]) rfl (by kernel_rfl) (by kernel_rfl) (by kernel_rfl) (by kernel_rfl) (fun _ _ _ h => h) (by kernel_rfl) ?_ (Below.refl _ _) ?_
  · intro W hSw; obtain ⟨y0, y1, y2, y3, y4⟩ := blk5 (HSE.below hSw); first | (go_simp; done) | go_simp
  try simp only [Act.put, List.setIfInBounds_toArray, List.set_cons_zero, List.set_cons_succ]
  refine wpAnyH_ready (rs := [9]) (by kernel_rfl) (by simp) (AllReadyH.cons rfl (fun K hK => ?_) AllReadyH.nil)
  go_simp
  refine (HLS.out _).mono ?_
  rintro e wd3 ⟨rfl, hb3⟩
  refine hK.out _ _ hb3 (fun _ => wpAnyH_shift hb3 ?_)
  clear hK K
  replace B : Below w.heap.size w wd3 := B.trans (hb3.mono B.size)
  replace HTP := HTP.below hb3
  replace HTB := HTB.below hb3
  replace HPR := HPR.below hb3
  replace HSE := HSE.below hb3
  clear hb3
  try simp only [Act.put, List.setIfInBounds_toArray, List.set_cons_zero, List.set_cons_succ]
  refine takeYes (i := 10) (k := 15) (v := .bool r) rfl (by kernel_rfl) (by kernel_rfl) (by kernel_rfl) (by kernel_rfl) (fun _ _ _ h => h) (by kernel_rfl) ?_ (Below.refl _ _) ?_
  · intro W hSw; first | (go_simp; done) | go_simp
  try simp only [Act.put, List.setIfInBounds_toArray, List.set_cons_zero, List.set_cons_succ]
  refine takeYes (i := 11) (k := 4) (v := .bool r) rfl (by kernel_rfl) (by kernel_rfl) (by kernel_rfl) (by kernel_rfl) (fun _ _ _ h => h) (by kernel_rfl) ?_ (Below.refl _ _) ?_
  · intro W hSw; first | (go_simp; done) | go_simp
  try simp only [Act.put, List.setIfInBounds_toArray, List.set_cons_zero, List.set_cons_succ]
  refine wpAnyH_done (by kernel_rfl) ?_ _
  go_wp2_with fail
  go_ret
  exact ⟨rfl, B⟩
end Go.Proofs.YtennpdhnjaemeaaDoor
/- The walks of table's reaching and entries. -/
namespace Go.Proofs.YtennpdhnjaemeaaDoor
set_option linter.unusedVariables false
set_option maxRecDepth 100000
open Go.RowKit
/-- What reaching tells: where the search ends. -/
def ReachRes (P : List Part) (n : ByteArray) (q : Int) (w : World) (en : Ending) (w' : World) : Prop := ∃ k : Nat, Cuts (rpP P n q) P.length k ∧ en = .returned (.int .i64 (k : Int)) ∧ Below w.heap.size w w'
set_option maxHeartbeats 4000000 in
theorem reaching_any {w : World} {g : Nat} {bs F : List UInt8} {ps : List (List (List Ent))} (h : TbAt w g bs F ps) (hl : (partsT ps).length ≤ 1000000) (n : ByteArray) (q : Int) (hm : ∀ i j, i < j → rpP (partsT ps) n q i = true → rpP (partsT ps) n q j = true) :
    Calls Tryd.prog 42 #[.pointer (some ⟨g, 0, none⟩), .string n, .int .i64 q] w (ReachRes (partsT ps) n q w) := by
  obtain ⟨vb, vf, vp, h1, -, -, h4⟩ := h
  obtain ⟨a, c, rfl, -⟩ := RdK.len h4
  generalize partsT ps = P at *
  obtain ⟨np, hnp⟩ : ∃ x, P.length = x := ⟨_, rfl⟩
  rw [hnp] at h1 h4 hl
  have HNP := Lib.hid hnp
  have HT := Lib.hid h1
  have HP := Lib.hid h4
  have HM := Lib.hid hm
  clear h1 h4 hnp hm
  go_enter Tryd.func42, Tryd.ntmps42
  go_upto_region 2 with fail
  have hbx : BlkAt (w.alloc (.cells #[.pointer (some ⟨g, 0, none⟩)] 29)) w.heap.size #[.pointer (some ⟨g, 0, none⟩)] 29 := BlkAt.new _ _ _
  have hal1 : Below w.heap.size w (w.alloc (.cells #[.pointer (some ⟨g, 0, none⟩)] 29)) := (Below.refl _ w).alloc (Nat.le_refl _) _
  obtain ⟨b0, hb0⟩ : ∃ x, w.heap.size = x := ⟨_, rfl⟩
  rw [hb0] at hbx ⊢
  obtain ⟨w1, hw1⟩ : ∃ x, w.alloc (.cells #[.pointer (some ⟨g, 0, none⟩)] 29) = x := ⟨_, rfl⟩
  rw [hw1] at hbx hal1 ⊢
  have hso : BlkAt (w1.alloc (.cells #[.string n, .int .i64 q, .int .i64 1, .string ⟨#[]⟩, .string ⟨#[]⟩] 39)) w1.heap.size #[.string n, .int .i64 q, .int .i64 1, .string ⟨#[]⟩, .string ⟨#[]⟩] 39 := BlkAt.new _ _ _
  have hbx2 := hbx.more (.cells #[.string n, .int .i64 q, .int .i64 1, .string ⟨#[]⟩, .string ⟨#[]⟩] 39)
  have hal2 := hal1.alloc hal1.size (.cells #[.string n, .int .i64 q, .int .i64 1, .string ⟨#[]⟩, .string ⟨#[]⟩] 39)
  have hs1 : w1.heap.size = b0 + 1 := by rw [← hw1, ← hb0]; simp
  rw [hs1] at hso
  try rw [hs1]
  obtain ⟨w2, hw2⟩ : ∃ x, w1.alloc (.cells #[.string n, .int .i64 q, .int .i64 1, .string ⟨#[]⟩, .string ⟨#[]⟩] 39) = x := ⟨_, rfl⟩
  rw [hw2] at hso hbx2 hal2 ⊢
  have HB2 := Lib.hid hal2
  have HT2 := HT.out.below hal2
  have HP2 := HP.out.below hal2
  have x0 : w2.cell? ⟨b0, 0, none⟩ = some (.pointer (some ⟨g, 0, none⟩)) := hbx2.at 0
  have x2 : w2.cell? ⟨g, 2, none⟩ = some (.slice a np c) := HT2.at 2
  have hgl := HT2.lt
  have hbl := hbx2.lt
  have HSR := Lib.hid (tsearch_any np hl (.pointer (some ⟨b0, 0, none⟩)) (.pointer (some ⟨b0 + 1, 0, none⟩)) (rpP P n q) HM.out w2 (Lib.hid fun W hW i hi =>
    reach1_any (HT2.below hW) (hbx2.below hW) (hso.below hW) (HP2.below hW) HNP.out.symm hl i hi))
  clear hbx hal1 hso hbx2 hal2 hs1 hw1 hw2 HT2 HP2 hb0 HT HP
  go_wp2_with fail
  refine HSR.out.mono ?_
  rintro e w3 ⟨k, hk, rfl, b3⟩
  have HK := Lib.hid hk
  have HB3 := Lib.hid (HB2.out.trans (b3.mono HB2.out.size))
  clear hk b3 HSR x0 x2
  go_wp2_with fail
  go_ret
  exact ⟨k, by rw [HNP.out]; exact HK.out, rfl, HB3.out⟩
end Go.Proofs.YtennpdhnjaemeaaDoor
/- The walk of table's entries. -/
namespace Go.Proofs.YtennpdhnjaemeaaDoor
set_option linter.unusedVariables false
set_option maxRecDepth 100000
open Go.RowKit
theorem sl_lhP (W : World) (a : Option Addr) (n cap j k : Nat) (h : j ≤ k) (hc : k ≤ cap) :
    (Instr.sliceAt 65 (.slice a n cap) (some (.int .i64 (j : Int))) (some (.int .i64 (k : Int))) none).run Tryd.prog W = .ok (.slice (if cap = j then a else a.map (·.add (j * 8))) (k - j) (cap - j)) W := by
  have hT : Tryd.prog.underlying 65 = some (.slice (Tryd.prog.elem 65)) := by kernel_rfl
  have hS : (sizeOf (Tryd.prog.elem 65)).run Tryd.prog W = .ok 8 W := by kernel_rfl
  rw [run_sliceAt_slice (h := hT), run_slice_lh (w := W) (t := 65) (a := a) (len := n) (cap := cap) (ht := hT) (kl := .i64) (kh := .i64) (l := j) (h := k) (h0 := by omega) (h1 := by omega) (h2 := by omega), hS]
  simp [Result.andThen, sliced]
theorem RdK.takeC {α : Type} {enc : α → List Value} {k : Nat} {w : World} {a : Option Addr} {n cap : Nat} {xs : List α} (h : RdK enc k w (.slice a n cap) xs) (j : Nat) (hj : j ≤ n) : RdK enc k w (.slice a j cap) (xs.take j) := by
  rcases Nat.eq_zero_or_pos j with rfl | h0
  · exact .inl ⟨_, _, rfl, by simp⟩
  · rcases h with ⟨_, _, e, rfl⟩ | ⟨b, off, c, e, h1, h2, h3, h4, h5⟩
    · simp only [Value.slice.injEq] at e; omega
    · simp only [Value.slice.injEq] at e
      obtain ⟨rfl, rfl, rfl⟩ := e
      have hl : (xs.take j).length = j := by rw [List.length_take]; omega
      refine .inr ⟨b, off, cap, by rw [hl], by omega, by omega, h3, h4, fun i m x hx hm => h5 i m x ?_ hm⟩
      rw [List.getElem?_take] at hx
      split at hx
      · exact hx
      · cases hx
/-- What is told of a table: entries, or, where some block is spoilt, that it is so. -/
def AskRes (es : List Ent) (good : Prop) (w : World) (en : Ending) (w' : World) : Prop :=
  (∃ v, en = .returned (.tuple #[v, .int .i64 0]) ∧ OwnK encEnt 5 39 w.heap.size w' v es ∧ Below w.heap.size w w') ∨ (¬ good ∧ en = .returned (.tuple #[.slice none 0 0, .int .i64 8]) ∧ Below w.heap.size w w')
theorem flatP_take (qs : List (List (List Ent))) (i : Nat) (gs : List (List Ent)) (h : qs[i]? = some gs) : flatP (qs.take (i + 1)) = flatP (qs.take i) ++ gs.flatten := by
  rw [List.take_add_one, h, flatP_app]
  congr 1
  unfold flatP; simp
theorem flatP_len_le (qs : List (List (List Ent))) (i : Nat) : (flatP (qs.take i)).length ≤ (flatP qs).length := by
  conv => rhs; rw [← List.take_append_drop i qs, flatP_app, List.length_append]
  omega
set_option maxHeartbeats 16000000 in
theorem entries_any {K : Nat} {w : World} {g : Nat} {bss : List (List UInt8)} {F : List UInt8} {ps : List (List (List Ent))} (h : TbAt w g bss.flatten F ps) (hst : BlkSt ps bss) (hpc : ∀ gs ∈ ps, Pc K gs) (hK : K ≤ 1000000) (hl : (flatP ps).length ≤ 1000000) (hb : (blocksB ps).length ≤ 1000000000000) (ht : TabAt w)
    (f e : Nat) (hfe : f ≤ e) (he : e ≤ ps.length) :
    Calls Tryd.prog 39 #[.pointer (some ⟨g, 0, none⟩), .int .i64 (f : Int), .int .i64 (e : Int)] w (AskRes (flatP ((ps.take e).drop f)) (AllGood ps bss) w) := by
  have HPC := Lib.hid hpc
  have HST := Lib.hid hst
  have HTA := Lib.hid ht
  have HKK : Hid (K ≤ 1000000) := Lib.hid hK
  have HFL : Hid ((flatP ((ps.take e).drop f)).length ≤ 1000000) := Lib.hid (by
    have h1 := flatP_len_le ps e
    have h2 : flatP (ps.take e) = flatP ((ps.take e).take f) ++ flatP ((ps.take e).drop f) := by rw [← flatP_app, List.take_append_drop]
    rw [h2, List.length_append] at h1
    omega)
  have hpl : (partsT ps).length = ps.length := partsFrom_len ps 0
  have hpm : ps.length ≤ 1000000 := Nat.le_trans (ps_le hpc) hl
  have HBL : Hid (bss.flatten.length ≤ 1000000000000) := Lib.hid (by rw [blkSt_len hst]; exact hb)
  obtain ⟨vb, vf, vp, h1, h2, -, h4⟩ := h
  obtain ⟨ab, nb, cb, rfl, -⟩ := h2.form
  obtain ⟨hnb, hcb⟩ := rdB_sl h2
  obtain ⟨a0, cp, rfl, hcp⟩ := RdK.len h4
  obtain ⟨vn, hvn⟩ : ∃ x, (Value.int .i64 (((ps.map List.flatten).flatten.length : Nat) : Int)) = x := ⟨_, rfl⟩
  rw [hvn] at h1
  rw [hpl] at h1 h4
  obtain ⟨np, hnp⟩ : ∃ x, ps.length = x := ⟨_, rfl⟩
  rw [hnp] at h1 h4 he hpm
  have hec : e ≤ cp := by
    rcases hcp with h | ⟨h, -⟩
    · have : (partsT ps).length = 0 := by rw [h]; rfl
      omega
    · omega
  have hsp := fun W => sl_lhP W a0 np cp f e hfe hec
  have HSB := (h4.takeC e he).rest f hfe
  generalize hPT : (if cp = f then a0 else a0.map (·.add (f * 8))) = PT at hsp HSB
  obtain ⟨m, hm⟩ : ∃ x, e - f = x := ⟨_, rfl⟩
  obtain ⟨cm, hcm⟩ : ∃ x, cp - f = x := ⟨_, rfl⟩
  rw [hm, hcm] at HSB
  simp only [hm, hcm] at hsp
  have x2 : w.cell? ⟨g, 2, none⟩ = some (.slice a0 np cp) := h1.at 2
  have hgl := h1.lt
  have HTB := Lib.hid h1
  have HRB := Lib.hid h2
  have HSR := Lib.hid HSB
  have HNP := Lib.hid hnp
  have HME : Hid (e = f + m ∧ e ≤ np) := Lib.hid ⟨by omega, he⟩
  have HNB : Hid (nb = bss.flatten.length ∧ nb ≤ cb) := Lib.hid ⟨hnb, hcb⟩
  have hmm : m ≤ 1000000 := by omega
  clear hpc hst ht hK hl hb hpl hnp h1 h2 h4 hcp hPT hm hcm HSB hnb hcb hvn hpm hec hfe
  go_enter Tryd.func39, Tryd.ntmps39
  go_wp2_with fail
  clear x2 hsp
  go_loopg [8, 21] m (fun kk vl vi wr => ∃ (i n8 c8 : Nat) (a8 : Option Addr), vi = .int .i64 (i : Int) ∧ vl = .slice a8 n8 c8 ∧ i ≤ m ∧ m - i ≤ kk ∧ Hid (n8 = (flatP (((ps.take e).drop f).take i)).length) ∧ Hid (OwnK encEnt 5 39 w.heap.size wr (.slice a8 n8 c8) (flatP (((ps.take e).drop f).take i))) ∧ Hid (Below w.heap.size w wr))
  case atStart => exact ⟨0, 0, 0, none, rfl, rfl, by omega, by omega, Lib.hid rfl, Lib.hid (OwnK.nil _ _ _ _ _), Lib.hid (Below.refl _ _)⟩
  case round =>
    obtain ⟨i, n8, c8, a8, rfl, rfl, hi, hik, HN8, HO, HB⟩ := hrel
    by_cases h1 : i < m
    · have hi1 : (i : Int) < (m : Int) := by omega
      have hi0 : (0 : Int) ≤ (i : Int) := by omega
      have hfi : f + i < ps.length := by have := HME.out; have := HNP.out; omega
      obtain ⟨gs, hgs⟩ : ∃ x, ps[f + i]? = some x := ⟨_, List.getElem?_eq_getElem hfi⟩
      obtain ⟨b, hbb⟩ : ∃ x, bss[f + i]? = some x := ⟨bss[f + i]'(by rw [HST.out.len]; exact hfi), List.getElem?_eq_getElem _⟩
      have hqi : ((ps.take e).drop f)[i]? = some gs := by rw [List.getElem?_drop, List.getElem?_take_of_lt (by have := HME.out; omega)]; exact hgs
      have hpi : (((partsT ps).take e).drop f)[i]? = some ⟨(lastE gs).norm, (lastE gs).seq, 0 + (blocksB (ps.take (f + i))).length, (pcB gs).length, gs.flatten.length⟩ := by
        rw [List.getElem?_drop, List.getElem?_take_of_lt (by have := HME.out; omega)]
        exact partsFrom_at ps 0 (f + i) gs hgs
      have hgm := List.mem_of_getElem? hgs
      obtain ⟨hbl, hbg⟩ := HST.out.each _ _ _ hgs hbb
      obtain ⟨hat, hae⟩ := blkSt_at HST.out hgs hbb
      rw [Nat.zero_add] at hpi
      obtain ⟨pa, hpa⟩ : ∃ x, (blocksB (ps.take (f + i))).length = x := ⟨_, rfl⟩
      obtain ⟨pz, hpz⟩ : ∃ x, (pcB gs).length = x := ⟨_, rfl⟩
      obtain ⟨es, hes⟩ : ∃ x, gs.flatten = x := ⟨_, rfl⟩
      obtain ⟨pn, hpn⟩ : ∃ x, (lastE gs).norm = x := ⟨_, rfl⟩
      obtain ⟨pq, hpq⟩ : ∃ x, (lastE gs).seq = x := ⟨_, rfl⟩
      rw [hpa, hpz, hes, hpn, hpq] at hpi
      rw [hpa, hpz] at hat hae
      have HFT : Hid (flatP (((ps.take e).drop f).take (i + 1)) = flatP (((ps.take e).drop f).take i) ++ es) := Lib.hid (by rw [flatP_take _ _ _ hqi, hes])
      have HLN : Hid ((flatP (((ps.take e).drop f).take i)).length + es.length ≤ 1000000) := Lib.hid (by
        rw [← List.length_append, ← HFT.out]; exact Nat.le_trans (flatP_len_le _ _) HFL.out)
      obtain ⟨bb, ox, rfl, hblt, d0, d1, d2, d3, d4, d5, d6, d7⟩ := (HSR.out.below HB.out).at8 i _ hpi
      simp only at d0 d1 d5 d6 d7
      have HMD := HRB.out.mid pa (pa + pz) (by omega) (by have := HNB.out.1; omega)
      have hsl := fun W => sl_lhB W ab nb cb pa (pa + pz) (by omega) (by have := HNB.out; omega)
      rw [hat] at HMD
      generalize (if cb = pa then ab else ab.map (·.add pa)) = T at HMD hsl
      obtain ⟨Q, hQ⟩ : ∃ x, pa + pz - pa = x := ⟨_, rfl⟩
      obtain ⟨C, hC⟩ : ∃ x, cb - pa = x := ⟨_, rfl⟩
      rw [hQ, hC] at HMD
      simp only [hQ, hC] at hsl
      obtain ⟨pe, hpe⟩ : ∃ x, pa + pz = x := ⟨_, rfl⟩
      simp only [hpe] at hsl
      have hae2 : pe ≤ 1000000000000 := by have := HBL.out; omega
      have hadd : (pa : Int) + (pz : Int) = (pe : Int) := by omega
      have haw : IntKind.i64.wrap ((pa : Int) + (pz : Int)) = (pe : Int) := by rw [IntWalk.i64_in _ (by omega)]; exact hadd
      have HMB := Lib.hid HMD
      have HBG : Hid (b = pcB gs ∨ unsealB b = none) := Lib.hid hbg
      have HGM := Lib.hid hgm
      have HBI := Lib.hid hbb
      have HGI := Lib.hid hgs
      have HES := Lib.hid hes
      clear hgs hbb hqi hpi hgm hbl hbg hat hae hpa hpz hes hpn hpq HMD hQ hC hpe hfi hae2 hadd
      go_upto_region 5 with fail
      have hpk : BlkAt (wr.alloc (.cells #[.string pn, .int .i64 pq, .int .i64 0, .string ⟨#[]⟩, .string ⟨#[]⟩, .int .i64 (pa : Int), .int .i64 (pz : Int), .int .i64 (es.length : Int)] 58)) wr.heap.size #[.string pn, .int .i64 pq, .int .i64 0, .string ⟨#[]⟩, .string ⟨#[]⟩, .int .i64 (pa : Int), .int .i64 (pz : Int), .int .i64 (es.length : Int)] 58 := BlkAt.new _ _ _
      have hb8 := HB.out.alloc HB.out.size (.cells #[.string pn, .int .i64 pq, .int .i64 0, .string ⟨#[]⟩, .string ⟨#[]⟩, .int .i64 (pa : Int), .int .i64 (pz : Int), .int .i64 (es.length : Int)] 58)
      have ho8 := HO.out.below ((Below.refl _ wr).alloc (Nat.le_refl _) (.cells #[.string pn, .int .i64 pq, .int .i64 0, .string ⟨#[]⟩, .string ⟨#[]⟩, .int .i64 (pa : Int), .int .i64 (pz : Int), .int .i64 (es.length : Int)] 58))
      obtain ⟨gp, hgp⟩ : ∃ g, wr.heap.size = g := ⟨_, rfl⟩
      rw [hgp] at hpk ⊢
      obtain ⟨wa, hwa⟩ : ∃ x, wr.alloc (.cells #[.string pn, .int .i64 pq, .int .i64 0, .string ⟨#[]⟩, .string ⟨#[]⟩, .int .i64 (pa : Int), .int .i64 (pz : Int), .int .i64 (es.length : Int)] 58) = x := ⟨_, rfl⟩
      rw [hwa] at hpk hb8 ho8 ⊢
      have HPB := hpk
      have B := hb8
      have HOL := ho8
      have HTT := HTB.out.below hb8
      clear hpk hb8 ho8 hwa hgp HB HO d0 d1 d2 d3 d4 d5 d6 d7 hblt
      rcases HBG.out with hg | hg
      · have HGB := Lib.hid (fun W (hW : Below w.heap.size w W) => getblk_any (K := K) (.slice T Q C) gs (HPC.out gs HGM.out).ok (fun x hx e he => (HPC.out gs HGM.out).fit e (List.mem_flatten.2 ⟨x, hx, he⟩)) (by have := HKK.out; omega) (by have := (pcB_le (HPC.out gs HGM.out)).1; have := HKK.out; omega) W (HTA.out.below hW) (by rw [← hg]; exact HMB.out.below hW))
        rw [HES.out] at HGB
        clear hg HBG
        go_wp2_with fail
        refine wp_region_held_drew (S := Below wa.heap.size wa) (by kernel_rfl) (Below.refl _ _).drew (fun hHeld => ?_)
        generalize wa.drew = wd2 at hHeld ⊢
        refine wpAnyH_shift hHeld ?_
        replace B : Below w.heap.size w wd2 := B.trans (hHeld.mono B.size)
        replace HTT := HTT.below hHeld
        replace HPB := HPB.below hHeld
        replace HOL := HOL.below hHeld
        clear hHeld
        refine takeYes (i := 0) (k := 26) (v := .pointer (some ⟨g, 0, none⟩)) rfl (by kernel_rfl) (by kernel_rfl) (by kernel_rfl) (by kernel_rfl) (fun _ _ _ h => h) (by kernel_rfl) ?_ (Below.refl _ _) ?_
        · intro W hSw; first | (go_simp; done) | go_simp
        try simp only [Act.put, List.setIfInBounds_toArray, List.set_cons_zero, List.set_cons_succ]
        refine takeYes (i := 1) (k := 27) (v := .pointer (some ⟨g, 0, none⟩)) rfl (by kernel_rfl) (by kernel_rfl) (by kernel_rfl) (by kernel_rfl) (fun _ _ _ h => h) (by kernel_rfl) ?_ (Below.refl _ _) ?_
        · intro W hSw; first | (go_simp; done) | go_simp
        try simp only [Act.put, List.setIfInBounds_toArray, List.set_cons_zero, List.set_cons_succ]
        refine takeYes (i := 2) (k := 28) (v := .pointer (some ⟨g, 0, none⟩)) rfl (by kernel_rfl) (by kernel_rfl) (by kernel_rfl) (by kernel_rfl) (fun _ _ _ h => h) (by kernel_rfl) ?_ (Below.refl _ _) ?_
        · intro W hSw; first | (go_simp; done) | go_simp
        try simp only [Act.put, List.setIfInBounds_toArray, List.set_cons_zero, List.set_cons_succ]
        refine takeYes (i := 3) (k := 29) (v := .slice ab nb cb) rfl (by kernel_rfl) (by kernel_rfl) (by kernel_rfl) (by kernel_rfl) (fun _ _ _ h => h) (by kernel_rfl) ?_ (Below.refl _ _) ?_
        · intro W hSw; have x0 : W.cell? ⟨g, 0, none⟩ = some (.slice ab nb cb) := (HTT.below hSw).at 0; first | (go_simp; done) | go_simp
        try simp only [Act.put, List.setIfInBounds_toArray, List.set_cons_zero, List.set_cons_succ]
        refine takeYes (i := 4) (k := 30) (v := .pointer (some ⟨gp, 5, none⟩)) rfl (by kernel_rfl) (by kernel_rfl) (by kernel_rfl) (by kernel_rfl) (fun _ _ _ h => h) (by kernel_rfl) ?_ (Below.refl _ _) ?_
        · intro W hSw; first | (go_simp; done) | go_simp
        try simp only [Act.put, List.setIfInBounds_toArray, List.set_cons_zero, List.set_cons_succ]
        refine takeYes (i := 5) (k := 31) (v := .int .i64 (pa : Int)) rfl (by kernel_rfl) (by kernel_rfl) (by kernel_rfl) (by kernel_rfl) (fun _ _ _ h => h) (by kernel_rfl) ?_ (Below.refl _ _) ?_
        · intro W hSw; have y5 : W.cell? ⟨gp, 5, none⟩ = some (.int .i64 (pa : Int)) := (HPB.below hSw).at 5; first | (go_simp; done) | go_simp
        try simp only [Act.put, List.setIfInBounds_toArray, List.set_cons_zero, List.set_cons_succ]
        refine takeYes (i := 6) (k := 32) (v := .pointer (some ⟨gp, 5, none⟩)) rfl (by kernel_rfl) (by kernel_rfl) (by kernel_rfl) (by kernel_rfl) (fun _ _ _ h => h) (by kernel_rfl) ?_ (Below.refl _ _) ?_
        · intro W hSw; first | (go_simp; done) | go_simp
        try simp only [Act.put, List.setIfInBounds_toArray, List.set_cons_zero, List.set_cons_succ]
        refine takeYes (i := 7) (k := 33) (v := .int .i64 (pa : Int)) rfl (by kernel_rfl) (by kernel_rfl) (by kernel_rfl) (by kernel_rfl) (fun _ _ _ h => h) (by kernel_rfl) ?_ (Below.refl _ _) ?_
        · intro W hSw; have y5 : W.cell? ⟨gp, 5, none⟩ = some (.int .i64 (pa : Int)) := (HPB.below hSw).at 5; first | (go_simp; done) | go_simp
        try simp only [Act.put, List.setIfInBounds_toArray, List.set_cons_zero, List.set_cons_succ]
        refine takeYes (i := 8) (k := 34) (v := .pointer (some ⟨gp, 6, none⟩)) rfl (by kernel_rfl) (by kernel_rfl) (by kernel_rfl) (by kernel_rfl) (fun _ _ _ h => h) (by kernel_rfl) ?_ (Below.refl _ _) ?_
        · intro W hSw; first | (go_simp; done) | go_simp
        try simp only [Act.put, List.setIfInBounds_toArray, List.set_cons_zero, List.set_cons_succ]
        refine takeYes (i := 9) (k := 35) (v := .int .i64 (pz : Int)) rfl (by kernel_rfl) (by kernel_rfl) (by kernel_rfl) (by kernel_rfl) (fun _ _ _ h => h) (by kernel_rfl) ?_ (Below.refl _ _) ?_
        · intro W hSw; have y6 : W.cell? ⟨gp, 6, none⟩ = some (.int .i64 (pz : Int)) := (HPB.below hSw).at 6; first | (go_simp; done) | go_simp
        try simp only [Act.put, List.setIfInBounds_toArray, List.set_cons_zero, List.set_cons_succ]
        refine takeYes (i := 10) (k := 36) (v := .int .i64 (pe : Int)) rfl (by kernel_rfl) (by kernel_rfl) (by kernel_rfl) (by kernel_rfl) (fun _ _ _ h => h) (by kernel_rfl) ?_ (Below.refl _ _) ?_
        · intro W hSw; first | (go_simp; done) | go_simp
        try simp only [Act.put, List.setIfInBounds_toArray, List.set_cons_zero, List.set_cons_succ]
        refine takeYes (i := 11) (k := 37) (v := .slice T Q C) rfl (by kernel_rfl) (by kernel_rfl) (by kernel_rfl) (by kernel_rfl) (fun _ _ _ h => h) (by kernel_rfl) ?_ (Below.refl _ _) ?_
        · intro W hSw; have hsl2 := hsl W; first | (go_simp; done) | go_simp
        try simp only [Act.put, List.setIfInBounds_toArray, List.set_cons_zero, List.set_cons_succ]
        refine wpAnyH_ready (rs := [12]) (by kernel_rfl) (by simp) (AllReadyH.cons rfl (fun K hK => ?_) AllReadyH.nil)
        go_simp
        refine (HGB.out _ B).mono ?_
        rintro e wd3 ⟨u, rfl, ou, hb3⟩
        obtain ⟨au, cu, rfl, -⟩ := ou.kform
        have HSU := ou.rd encEnt_len
        clear ou
        refine hK.out _ _ hb3 (fun _ => wpAnyH_shift hb3 ?_)
        clear hK K
        replace B : Below w.heap.size w wd3 := B.trans (hb3.mono B.size)
        replace HTT := HTT.below hb3
        replace HPB := HPB.below hb3
        replace HOL := HOL.below hb3
        clear hb3
        try simp only [Act.put, List.setIfInBounds_toArray, List.set_cons_zero, List.set_cons_succ]
        refine takeYes (i := 13) (k := 25) (v := .tuple #[.slice au es.length cu, .bool true]) rfl (by kernel_rfl) (by kernel_rfl) (by kernel_rfl) (by kernel_rfl) (fun _ _ _ h => h) (by kernel_rfl) ?_ (Below.refl _ _) ?_
        · intro W hSw; first | (go_simp; done) | go_simp
        try simp only [Act.put, List.setIfInBounds_toArray, List.set_cons_zero, List.set_cons_succ]
        refine takeYes (i := 14) (k := 39) (v := .slice au es.length cu) rfl (by kernel_rfl) (by kernel_rfl) (by kernel_rfl) (by kernel_rfl) (fun _ _ _ h => h) (by kernel_rfl) ?_ (Below.refl _ _) ?_
        · intro W hSw; first | (go_simp; done) | go_simp
        try simp only [Act.put, List.setIfInBounds_toArray, List.set_cons_zero, List.set_cons_succ]
        refine takeYes (i := 15) (k := 40) (v := .bool true) rfl (by kernel_rfl) (by kernel_rfl) (by kernel_rfl) (by kernel_rfl) (fun _ _ _ h => h) (by kernel_rfl) ?_ (Below.refl _ _) ?_
        · intro W hSw; first | (go_simp; done) | go_simp
        try simp only [Act.put, List.setIfInBounds_toArray, List.set_cons_zero, List.set_cons_succ]
        refine takeYes (i := 16) (k := 11) (v := .slice au es.length cu) rfl (by kernel_rfl) (by kernel_rfl) (by kernel_rfl) (by kernel_rfl) (fun _ _ _ h => h) (by kernel_rfl) ?_ (Below.refl _ _) ?_
        · intro W hSw; first | (go_simp; done) | go_simp
        try simp only [Act.put, List.setIfInBounds_toArray, List.set_cons_zero, List.set_cons_succ]
        refine takeYes (i := 17) (k := 12) (v := .bool true) rfl (by kernel_rfl) (by kernel_rfl) (by kernel_rfl) (by kernel_rfl) (fun _ _ _ h => h) (by kernel_rfl) ?_ (Below.refl _ _) ?_
        · intro W hSw; first | (go_simp; done) | go_simp
        try simp only [Act.put, List.setIfInBounds_toArray, List.set_cons_zero, List.set_cons_succ]
        refine wpAnyH_done (by kernel_rfl) ?_ _
        have HTO := Lib.hid HOL
        have HUS := Lib.hid HSU
        have HBZ := Lib.hid B
        have hnn : ((es.length : Int) != (es.length : Int)) = false := by simp
        have hz7 := HPB.at 7
        have z7 : wd3.cell? ⟨gp, 7, none⟩ = some (.int .i64 (es.length : Int)) := hz7
        clear hz7 HOL HSU B HPB HTT HGB hsl haw
        go_wp2_with (at_builtin; refine wp_appSK elem_ent encEnt_len _ _ (by rfl) (by rfl) (by rfl) HTO.out (by rfl) HUS.out (encEnt_one _) ?c1 ?c2 HBZ.out.size ?_)
        case c1 => have := HLN.out; omega
        case c2 => have := HLN.out; unfold maxLen; omega
        intro v6 w6 o6 b6
        have HB6 := Lib.hid (HBZ.out.trans b6)
        rw [← HFT.out] at o6
        obtain ⟨a6, c6, rfl, -⟩ := o6.kform
        have HO6 := Lib.hid o6
        obtain ⟨n6, hn6⟩ : ∃ x, (flatP (((ps.take e).drop f).take (i + 1))).length = x := ⟨_, rfl⟩
        have HN6 := Lib.hid hn6.symm
        rw [hn6] at HO6 ⊢
        clear o6 b6 hn6 HTO HUS HBZ z7
        go_wp2_with fail
        go_roundg (m - (i + 1))
        case measure => omega
        case rel => exact ⟨i + 1, n6, c6, a6, by go_num, rfl, by omega, Nat.le_refl _, HN6, HO6, HB6⟩
      · have HGB := Lib.hid (fun W (hW : Below w.heap.size w W) => getblk_bad (.slice T Q C) b hg W (HTA.out.below hW) (HMB.out.below hW))
        have HNG : Hid (¬ AllGood ps bss) := Lib.hid fun h => by
          have h2 := HBI.out
          rw [h, List.getElem?_map, HGI.out] at h2
          have h3 : pcB gs = b := by simpa using h2
          rw [← h3] at hg
          unfold pcB at hg
          rw [unseal_seal] at hg
          cases hg
        clear hg HBG
        go_wp2_with fail
        refine wp_region_held_drew (S := Below wa.heap.size wa) (by kernel_rfl) (Below.refl _ _).drew (fun hHeld => ?_)
        generalize wa.drew = wd2 at hHeld ⊢
        refine wpAnyH_shift hHeld ?_
        replace B : Below w.heap.size w wd2 := B.trans (hHeld.mono B.size)
        replace HTT := HTT.below hHeld
        replace HPB := HPB.below hHeld
        replace HOL := HOL.below hHeld
        clear hHeld
        refine takeYes (i := 0) (k := 26) (v := .pointer (some ⟨g, 0, none⟩)) rfl (by kernel_rfl) (by kernel_rfl) (by kernel_rfl) (by kernel_rfl) (fun _ _ _ h => h) (by kernel_rfl) ?_ (Below.refl _ _) ?_
        · intro W hSw; first | (go_simp; done) | go_simp
        try simp only [Act.put, List.setIfInBounds_toArray, List.set_cons_zero, List.set_cons_succ]
        refine takeYes (i := 1) (k := 27) (v := .pointer (some ⟨g, 0, none⟩)) rfl (by kernel_rfl) (by kernel_rfl) (by kernel_rfl) (by kernel_rfl) (fun _ _ _ h => h) (by kernel_rfl) ?_ (Below.refl _ _) ?_
        · intro W hSw; first | (go_simp; done) | go_simp
        try simp only [Act.put, List.setIfInBounds_toArray, List.set_cons_zero, List.set_cons_succ]
        refine takeYes (i := 2) (k := 28) (v := .pointer (some ⟨g, 0, none⟩)) rfl (by kernel_rfl) (by kernel_rfl) (by kernel_rfl) (by kernel_rfl) (fun _ _ _ h => h) (by kernel_rfl) ?_ (Below.refl _ _) ?_
        · intro W hSw; first | (go_simp; done) | go_simp
        try simp only [Act.put, List.setIfInBounds_toArray, List.set_cons_zero, List.set_cons_succ]
        refine takeYes (i := 3) (k := 29) (v := .slice ab nb cb) rfl (by kernel_rfl) (by kernel_rfl) (by kernel_rfl) (by kernel_rfl) (fun _ _ _ h => h) (by kernel_rfl) ?_ (Below.refl _ _) ?_
        · intro W hSw; have x0 : W.cell? ⟨g, 0, none⟩ = some (.slice ab nb cb) := (HTT.below hSw).at 0; first | (go_simp; done) | go_simp
        try simp only [Act.put, List.setIfInBounds_toArray, List.set_cons_zero, List.set_cons_succ]
        refine takeYes (i := 4) (k := 30) (v := .pointer (some ⟨gp, 5, none⟩)) rfl (by kernel_rfl) (by kernel_rfl) (by kernel_rfl) (by kernel_rfl) (fun _ _ _ h => h) (by kernel_rfl) ?_ (Below.refl _ _) ?_
        · intro W hSw; first | (go_simp; done) | go_simp
        try simp only [Act.put, List.setIfInBounds_toArray, List.set_cons_zero, List.set_cons_succ]
        refine takeYes (i := 5) (k := 31) (v := .int .i64 (pa : Int)) rfl (by kernel_rfl) (by kernel_rfl) (by kernel_rfl) (by kernel_rfl) (fun _ _ _ h => h) (by kernel_rfl) ?_ (Below.refl _ _) ?_
        · intro W hSw; have y5 : W.cell? ⟨gp, 5, none⟩ = some (.int .i64 (pa : Int)) := (HPB.below hSw).at 5; first | (go_simp; done) | go_simp
        try simp only [Act.put, List.setIfInBounds_toArray, List.set_cons_zero, List.set_cons_succ]
        refine takeYes (i := 6) (k := 32) (v := .pointer (some ⟨gp, 5, none⟩)) rfl (by kernel_rfl) (by kernel_rfl) (by kernel_rfl) (by kernel_rfl) (fun _ _ _ h => h) (by kernel_rfl) ?_ (Below.refl _ _) ?_
        · intro W hSw; first | (go_simp; done) | go_simp
        try simp only [Act.put, List.setIfInBounds_toArray, List.set_cons_zero, List.set_cons_succ]
        refine takeYes (i := 7) (k := 33) (v := .int .i64 (pa : Int)) rfl (by kernel_rfl) (by kernel_rfl) (by kernel_rfl) (by kernel_rfl) (fun _ _ _ h => h) (by kernel_rfl) ?_ (Below.refl _ _) ?_
        · intro W hSw; have y5 : W.cell? ⟨gp, 5, none⟩ = some (.int .i64 (pa : Int)) := (HPB.below hSw).at 5; first | (go_simp; done) | go_simp
        try simp only [Act.put, List.setIfInBounds_toArray, List.set_cons_zero, List.set_cons_succ]
        refine takeYes (i := 8) (k := 34) (v := .pointer (some ⟨gp, 6, none⟩)) rfl (by kernel_rfl) (by kernel_rfl) (by kernel_rfl) (by kernel_rfl) (fun _ _ _ h => h) (by kernel_rfl) ?_ (Below.refl _ _) ?_
        · intro W hSw; first | (go_simp; done) | go_simp
        try simp only [Act.put, List.setIfInBounds_toArray, List.set_cons_zero, List.set_cons_succ]
        refine takeYes (i := 9) (k := 35) (v := .int .i64 (pz : Int)) rfl (by kernel_rfl) (by kernel_rfl) (by kernel_rfl) (by kernel_rfl) (fun _ _ _ h => h) (by kernel_rfl) ?_ (Below.refl _ _) ?_
        · intro W hSw; have y6 : W.cell? ⟨gp, 6, none⟩ = some (.int .i64 (pz : Int)) := (HPB.below hSw).at 6; first | (go_simp; done) | go_simp
        try simp only [Act.put, List.setIfInBounds_toArray, List.set_cons_zero, List.set_cons_succ]
        refine takeYes (i := 10) (k := 36) (v := .int .i64 (pe : Int)) rfl (by kernel_rfl) (by kernel_rfl) (by kernel_rfl) (by kernel_rfl) (fun _ _ _ h => h) (by kernel_rfl) ?_ (Below.refl _ _) ?_
        · intro W hSw; first | (go_simp; done) | go_simp
        try simp only [Act.put, List.setIfInBounds_toArray, List.set_cons_zero, List.set_cons_succ]
        refine takeYes (i := 11) (k := 37) (v := .slice T Q C) rfl (by kernel_rfl) (by kernel_rfl) (by kernel_rfl) (by kernel_rfl) (fun _ _ _ h => h) (by kernel_rfl) ?_ (Below.refl _ _) ?_
        · intro W hSw; have hsl2 := hsl W; first | (go_simp; done) | go_simp
        try simp only [Act.put, List.setIfInBounds_toArray, List.set_cons_zero, List.set_cons_succ]
        refine wpAnyH_ready (rs := [12]) (by kernel_rfl) (by simp) (AllReadyH.cons rfl (fun K hK => ?_) AllReadyH.nil)
        go_simp
        refine (HGB.out _ B).mono ?_
        rintro e wd3 ⟨rfl, hb3⟩
        refine hK.out _ _ hb3 (fun _ => wpAnyH_shift hb3 ?_)
        clear hK K
        replace B : Below w.heap.size w wd3 := B.trans (hb3.mono B.size)
        replace HTT := HTT.below hb3
        replace HPB := HPB.below hb3
        replace HOL := HOL.below hb3
        clear hb3
        try simp only [Act.put, List.setIfInBounds_toArray, List.set_cons_zero, List.set_cons_succ]
        refine takeYes (i := 13) (k := 25) (v := .tuple #[.slice none 0 0, .bool false]) rfl (by kernel_rfl) (by kernel_rfl) (by kernel_rfl) (by kernel_rfl) (fun _ _ _ h => h) (by kernel_rfl) ?_ (Below.refl _ _) ?_
        · intro W hSw; first | (go_simp; done) | go_simp
        try simp only [Act.put, List.setIfInBounds_toArray, List.set_cons_zero, List.set_cons_succ]
        refine takeYes (i := 14) (k := 39) (v := .slice none 0 0) rfl (by kernel_rfl) (by kernel_rfl) (by kernel_rfl) (by kernel_rfl) (fun _ _ _ h => h) (by kernel_rfl) ?_ (Below.refl _ _) ?_
        · intro W hSw; first | (go_simp; done) | go_simp
        try simp only [Act.put, List.setIfInBounds_toArray, List.set_cons_zero, List.set_cons_succ]
        refine takeYes (i := 15) (k := 40) (v := .bool false) rfl (by kernel_rfl) (by kernel_rfl) (by kernel_rfl) (by kernel_rfl) (fun _ _ _ h => h) (by kernel_rfl) ?_ (Below.refl _ _) ?_
        · intro W hSw; first | (go_simp; done) | go_simp
        try simp only [Act.put, List.setIfInBounds_toArray, List.set_cons_zero, List.set_cons_succ]
        refine takeYes (i := 16) (k := 11) (v := .slice none 0 0) rfl (by kernel_rfl) (by kernel_rfl) (by kernel_rfl) (by kernel_rfl) (fun _ _ _ h => h) (by kernel_rfl) ?_ (Below.refl _ _) ?_
        · intro W hSw; first | (go_simp; done) | go_simp
        try simp only [Act.put, List.setIfInBounds_toArray, List.set_cons_zero, List.set_cons_succ]
        refine takeYes (i := 17) (k := 12) (v := .bool false) rfl (by kernel_rfl) (by kernel_rfl) (by kernel_rfl) (by kernel_rfl) (fun _ _ _ h => h) (by kernel_rfl) ?_ (Below.refl _ _) ?_
        · intro W hSw; first | (go_simp; done) | go_simp
        try simp only [Act.put, List.setIfInBounds_toArray, List.set_cons_zero, List.set_cons_succ]
        refine wpAnyH_done (by kernel_rfl) ?_ _
        have HBZ := Lib.hid B
        clear HOL B HPB HTT HGB hsl haw
        go_wp2_with fail
        go_ret2
        exact .inr ⟨HNG.out, rfl, HBZ.out⟩
    · obtain rfl : i = m := by omega
      have hi1 : ¬ (i : Int) < (i : Int) := by omega
      have HFE : Hid (flatP (((ps.take e).drop f).take i) = flatP ((ps.take e).drop f)) := Lib.hid (by
        rw [List.take_of_length_le]
        rw [List.length_drop, List.length_take]
        have := HME.out
        omega)
      rw [HFE.out] at HO
      go_wp2_with fail
      go_ret2
      exact .inl ⟨_, rfl, HO.out, HB.out⟩
end Go.Proofs.YtennpdhnjaemeaaDoor
/- Plain mathematics: in which block what is sought stands. -/
namespace Go.Proofs.YtennpdhnjaemeaaDoor
set_option linter.unusedVariables false
theorem last_ge {es : List Ent} (hp : es.Pairwise ltE) {e : Ent} (he : e ∈ es) : ltE e (es.getLast?.getD Ent.none) ∨ e = es.getLast?.getD Ent.none := by
  rcases List.eq_nil_or_concat es with rfl | ⟨ys, z, rfl⟩
  · cases he
  · rw [List.concat_eq_append] at *
    rw [List.getLast?_concat, Option.getD_some]
    rcases List.mem_append.1 he with h | h
    · exact .inl ((List.pairwise_append.1 hp).2.2 e h z (by simp))
    · exact .inr (by simpa using h)
theorem flatP_cons (gs : List (List Ent)) (r : List (List (List Ent))) : flatP (gs :: r) = gs.flatten ++ flatP r := by unfold flatP; rw [List.map_cons, List.flatten_cons]
theorem flatP_split {ps : List (List (List Ent))} {i : Nat} {gs : List (List Ent)} (h : ps[i]? = some gs) : flatP ps = flatP (ps.take i) ++ (gs.flatten ++ flatP (ps.drop (i + 1))) := by
  obtain ⟨h1, h2⟩ := List.getElem?_eq_some_iff.1 h
  conv => lhs; rw [← List.take_append_drop i ps, flatP_app, List.drop_eq_getElem_cons h1, h2, flatP_cons]
theorem mem_flatP {ps : List (List (List Ent))} {e : Ent} (h : e ∈ flatP ps) : ∃ (i : Nat) (gs : List (List Ent)), ps[i]? = some gs ∧ e ∈ gs.flatten := by
  unfold flatP at h
  obtain ⟨m, hm, he⟩ := List.mem_flatten.1 h
  obtain ⟨gs, hg, rfl⟩ := List.mem_map.1 hm
  obtain ⟨i, hi⟩ := List.mem_iff_getElem?.1 hg
  exact ⟨i, gs, hi, he⟩
/-- A sorted table's facts. -/
structure SrtP (ps : List (List (List Ent))) : Prop where
  srt : (flatP ps).Pairwise ltE
  ne : ∀ gs ∈ ps, gs.flatten ≠ []
theorem rp_at {ps : List (List (List Ent))} {i : Nat} {gs : List (List Ent)} (h : ps[i]? = some gs) (n : ByteArray) (q : Int) : rpP (partsT ps) n q i = reachB (lastE gs) n q := by
  have h1 := partsFrom_at ps 0 i gs h
  unfold rpP
  rw [show partsT ps = partsFrom 0 ps from rfl, h1]
  simp only
  rw [reach_pE]
  rfl
theorem srt_gs {ps : List (List (List Ent))} (hs : SrtP ps) {i : Nat} {gs : List (List Ent)} (h : ps[i]? = some gs) : gs.flatten.Pairwise ltE := by
  have h1 := hs.srt
  rw [flatP_split h] at h1
  exact (List.pairwise_append.1 (List.pairwise_append.1 h1).2.1).1
theorem last_lt {ps : List (List (List Ent))} (hs : SrtP ps) {i j : Nat} {gs hs' : List (List Ent)} (hij : i < j) (h : ps[i]? = some gs) (k : ps[j]? = some hs') {e : Ent} (he : e ∈ hs'.flatten) : ltE (lastE gs) e := by
  have h1 := hs.srt
  rw [flatP_split h] at h1
  have h2 := (List.pairwise_append.1 (List.pairwise_append.1 h1).2.1).2.2
  refine h2 _ (lastE_mem (hs.ne gs (List.mem_of_getElem? h))) e ?_
  unfold flatP
  refine List.mem_flatten.2 ⟨hs'.flatten, List.mem_map.2 ⟨hs', List.mem_of_getElem? (i := j - (i + 1)) ?_, rfl⟩, he⟩
  rw [List.getElem?_drop, show i + 1 + (j - (i + 1)) = j by omega]
  exact k
theorem rp_mono {ps : List (List (List Ent))} (hs : SrtP ps) (n : ByteArray) (q : Int) : ∀ i j, i < j → rpP (partsT ps) n q i = true → rpP (partsT ps) n q j = true := by
  intro i j hij hi
  have hl : (partsT ps).length = ps.length := partsFrom_len ps 0
  rcases Nat.lt_or_ge j ps.length with hj | hj
  · have h1 := List.getElem?_eq_getElem hj
    have h2 : ps[i]? = some ps[i] := List.getElem?_eq_getElem (by omega)
    rw [rp_at h2] at hi
    rw [rp_at h1]
    exact reach_mono (.inl (last_lt hs hij h2 h1 (lastE_mem (hs.ne _ (List.getElem_mem hj))))) hi
  · unfold rpP
    rw [List.getElem?_eq_none (by omega)]
theorem not_reach {e : Ent} {n : ByteArray} {q : Int} (h : reachB e n q = false) : ¬ (e.norm = n ∧ e.seq ≤ q) ∧ ¬ bl n e.norm := by
  unfold reachB at h
  have h1 := of_decide_eq_false h
  exact ⟨fun k => h1 (.inr k), fun k => h1 (.inl k)⟩
/-- The entries ahead of the block that reaches what is sought do not reach it. -/
theorem ahead_no {ps : List (List (List Ent))} (hs : SrtP ps) {n : ByteArray} {q : Int} {k : Nat} (hc : Cuts (rpP (partsT ps) n q) (partsT ps).length k) {e : Ent} (he : e ∈ flatP (ps.take k)) : reachB e n q = false := by
  obtain ⟨i, gs, hi, hm⟩ := mem_flatP he
  have hik : i < k := by
    rcases Nat.lt_or_ge i k with h | h
    · exact h
    · rw [List.getElem?_eq_none (by rw [List.length_take]; omega)] at hi; cases hi
  rw [List.getElem?_take_of_lt hik] at hi
  have h1 := hc.2.1 i hik
  rw [rp_at hi] at h1
  cases hr : reachB e n q with
  | false => rfl
  | true =>
    have h2 : reachB (lastE gs) n q = true := reach_mono (last_ge (srt_gs hs hi) hm) hr
    rw [h2] at h1; cases h1
theorem find_no {es : List Ent} {n : ByteArray} {q : Int} (h : ∀ e ∈ es, ¬ (e.norm = n ∧ e.seq ≤ q)) : findE es n q = none := by
  unfold findE
  rw [List.find?_eq_none]
  intro e he
  have := h e he
  simp only [Bool.and_eq_true, decide_eq_true_eq]
  exact this
/-- What is sought is told of one block, or of none. -/
theorem find_piece {ps : List (List (List Ent))} (hs : SrtP ps) {n : ByteArray} {q : Int} {k : Nat} (hc : Cuts (rpP (partsT ps) n q) (partsT ps).length k) :
    findE (flatP ((ps.take (min (k + 1) ps.length)).drop k)) n q = findE (flatP ps) n q := by
  have hl : (partsT ps).length = ps.length := partsFrom_len ps 0
  have hA : findE (flatP (ps.take k)) n q = none := find_no fun e he => (not_reach (ahead_no hs hc he)).1
  have hk := hc.1
  rw [hl] at hk
  have hsplit : findE (flatP ps) n q = findE (flatP (ps.drop k)) n q := by
    conv => lhs; rw [← List.take_append_drop k ps, flatP_app]
    unfold findE at hA ⊢
    rw [List.find?_append, hA]; rfl
  rw [hsplit]
  rcases Nat.lt_or_ge k ps.length with h | h
  · have h1 := List.getElem?_eq_getElem h
    have e1 : (ps.take (min (k + 1) ps.length)).drop k = [ps[k]] := by
      rw [Nat.min_eq_left (by omega), List.drop_take, Nat.add_sub_cancel_left, List.drop_eq_getElem_cons h]; rfl
    rw [e1, List.drop_eq_getElem_cons h, flatP_cons, flatP_cons]
    show findE (ps[k].flatten ++ []) n q = _
    rw [List.append_nil]
    unfold findE
    rw [List.find?_append]
    cases hf : ps[k].flatten.find? (fun e => decide (e.norm = n) && decide (e.seq ≤ q)) with
    | some x => rfl
    | none =>
      rw [Option.none_or]
      refine (find_no fun e he => ?_).symm
      have h2 := hc.2.2 k (Nat.le_refl _) (by omega)
      rw [rp_at h1] at h2
      have h3 := lastE_mem (hs.ne _ (List.getElem_mem h))
      rw [List.find?_eq_none] at hf
      have h4 := hf _ h3
      unfold reachB at h2
      have h5 : bl n (lastE ps[k]).norm := by
        rcases of_decide_eq_true h2 with h | ⟨h, h'⟩
        · exact h
        · exact absurd (by simp [h, h']) h4
      obtain ⟨j, gs, hj, hm⟩ := mem_flatP he
      rw [List.getElem?_drop] at hj
      have h6 := last_lt hs (i := k) (j := k + 1 + j) (by omega) h1 hj hm
      rintro ⟨h7, -⟩
      rcases h6 with h | ⟨h, -⟩
      · exact bl_irr _ (bl_trans h5 (h7 ▸ h))
      · rw [h, h7] at h5; exact bl_irr _ h5
  · have e1 : (ps.take (min (k + 1) ps.length)).drop k = [] := List.drop_of_length_le (by rw [List.length_take]; omega)
    rw [e1, List.drop_of_length_le h]
theorem piece_srt {ps : List (List (List Ent))} (hs : SrtP ps) (a b : Nat) : srtB (flatP ((ps.take a).drop b)) = true := by
  have h := hs.srt
  rw [← List.take_append_drop a ps, flatP_app] at h
  have h2 := (List.pairwise_append.1 h).1
  rw [← List.take_append_drop b (ps.take a), flatP_app] at h2
  exact (srtB_pair _).2 (List.pairwise_append.1 h2).2.1
/-- From a norm on. -/
def fromE (l : List Ent) (n : ByteArray) : List Ent := l.dropWhile fun e => decide (bl e.norm n)
theorem from_app {a b : List Ent} {n : ByteArray} (h : ∀ e ∈ a, bl e.norm n) : fromE (a ++ b) n = fromE b n := by
  induction a with
  | nil => rfl
  | cons x r ih =>
    unfold fromE at ih ⊢
    rw [List.cons_append, List.dropWhile_cons, if_pos (decide_eq_true (h x (by simp)))]
    exact ih fun e he => h e (List.mem_cons_of_mem _ he)
def ngB (es : List Ent) (n : ByteArray) (i : Nat) : Bool := match es[i]? with
  | some e => !decide (bl e.norm n)
  | none => true
theorem from_cut : ∀ {es : List Ent} {n : ByteArray} {k : Nat}, Cuts (ngB es n) es.length k → es.drop k = fromE es n
  | [], n, k, h => by simp [fromE]
  | x :: r, n, 0, h => by
    have h1 := h.2.2 0 (Nat.le_refl _) (by simp)
    unfold ngB at h1
    simp only [List.getElem?_cons_zero] at h1
    have h2 : decide (bl x.norm n) = false := by simpa using h1
    unfold fromE
    rw [List.dropWhile_cons, h2]; rfl
  | x :: r, n, k + 1, h => by
    have h1 := h.2.1 0 (by omega)
    unfold ngB at h1
    simp only [List.getElem?_cons_zero] at h1
    have h2 : decide (bl x.norm n) = true := by simpa using h1
    have h3 : Cuts (ngB r n) r.length k := by
      obtain ⟨a, b, c⟩ := h
      refine ⟨by simpa using a, fun i hi => ?_, fun i hi hl => ?_⟩
      · have := b (i + 1) (by omega)
        unfold ngB at this ⊢
        simpa using this
      · have := c (i + 1) (by omega) (by simpa using hl)
        unfold ngB at this ⊢
        simpa using this
    unfold fromE
    rw [List.dropWhile_cons, h2, List.drop_succ_cons, from_cut h3]
    rfl
theorem ng_mono {es : List Ent} (hs : srtB es = true) (n : ByteArray) : ∀ i j, i < j → ngB es n i = true → ngB es n j = true := by
  intro i j hij hi
  unfold ngB at hi ⊢
  rcases Nat.lt_or_ge j es.length with hj | hj
  · rw [List.getElem?_eq_getElem (by omega)] at hi
    rw [List.getElem?_eq_getElem hj]
    have h1 := List.pairwise_iff_getElem.1 ((srtB_pair _).1 hs) i j (by omega) hj hij
    simp only [Bool.not_eq_true', decide_eq_false_iff_not] at hi ⊢
    intro h2
    rcases h1 with h | ⟨h, -⟩
    · exact hi (bl_trans h h2)
    · exact hi (h ▸ h2)
  · rw [List.getElem?_eq_none hj]
/-- The blocks from the one that reaches a norm hold all from that norm on. -/
theorem from_piece {ps : List (List (List Ent))} (hs : SrtP ps) (hr : ∀ gs ∈ ps, ∀ e ∈ gs.flatten, e.seq ≤ 1125899906842624) {n : ByteArray} {k : Nat} (hc : Cuts (rpP (partsT ps) n 9223372036854775807) (partsT ps).length k) :
    fromE (flatP ((ps.take ps.length).drop k)) n = fromE (flatP ps) n := by
  rw [List.take_length]
  conv => rhs; rw [← List.take_append_drop k ps, flatP_app]
  refine (from_app fun e he => ?_).symm
  obtain ⟨h1, h2⟩ := not_reach (ahead_no hs hc he)
  obtain ⟨i, gs, hi, hm⟩ := mem_flatP he
  have h3 := hr gs (List.mem_of_mem_take (List.mem_of_getElem? hi)) e hm
  rcases bl_tri e.norm n with h | h | h
  · exact h
  · exact absurd ⟨h, by omega⟩ h1
  · exact absurd h h2
end Go.Proofs.YtennpdhnjaemeaaDoor
/- The walks of table's All, Get, From, on an open table and on none. -/
namespace Go.Proofs.YtennpdhnjaemeaaDoor
set_option linter.unusedVariables false
set_option maxRecDepth 100000
open Go.RowKit
/-- An open table of l, of which blocks may be spoilt. -/
structure TOk (K : Nat) (w : World) (g : Nat) (l : List Ent) (ps : List (List (List Ent))) (bss : List (List UInt8)) (ss : List ByteArray) : Prop where
  at' : TbAt w g bss.flatten (filterB (ss.map hashN)) ps
  st : BlkSt ps bss
  pcs : ∀ gs ∈ ps, Pc K gs
  hK : K ≤ 1000000
  len : l.length ≤ 1000000
  blk : (blocksB ps).length ≤ 1000000000000
  ne : ps ≠ []
  flat : flatP ps = l
  srt : srtB l = true
  norms : NormsOf l ss
  tab : TabAt w
theorem TOk.below {K : Nat} {w w' : World} {g : Nat} {l : List Ent} {ps : List (List (List Ent))} {bss : List (List UInt8)} {ss : List ByteArray} (h : TOk K w g l ps bss ss) (hb : Below w.heap.size w w') : TOk K w' g l ps bss ss :=
  ⟨h.at'.below hb, h.st, h.pcs, h.hK, h.len, h.blk, h.ne, h.flat, h.srt, h.norms, h.tab.below hb⟩
variable {K : Nat} {w : World} {g : Nat} {l : List Ent} {ps : List (List (List Ent))} {bss : List (List UInt8)} {ss : List ByteArray}
theorem TOk.srtP (h : TOk K w g l ps bss ss) : SrtP ps := ⟨by rw [h.flat]; exact (srtB_pair _).1 h.srt, fun gs hg => pc_ne (h.pcs gs hg).ok⟩
theorem TOk.ents (h : TOk K w g l ps bss ss) (f e : Nat) (hfe : f ≤ e) (he : e ≤ ps.length) : Calls Tryd.prog 39 #[.pointer (some ⟨g, 0, none⟩), .int .i64 (f : Int), .int .i64 (e : Int)] w (AskRes (flatP ((ps.take e).drop f)) (AllGood ps bss) w) :=
  entries_any h.at' h.st h.pcs h.hK (by rw [h.flat]; exact h.len) h.blk h.tab f e hfe he
theorem TOk.part (h : TOk K w g l ps bss ss) : ∃ a c vb vf, BlkAt w g #[vb, vf, .slice a ps.length c, .int .i64 (l.length : Int)] 69 ∧ RdB w vf (filterB (ss.map hashN)) := by
  obtain ⟨vb, vf, vp, h1, -, h3, h4⟩ := h.at'
  obtain ⟨a, c, rfl, -⟩ := RdK.len h4
  have hp : (partsT ps).length = ps.length := partsFrom_len ps 0
  have hf : ((ps.map List.flatten).flatten.length : Nat) = l.length := by rw [← h.flat]; rfl
  rw [hp, hf] at h1
  exact ⟨a, c, vb, vf, h1, h3⟩
theorem tall_any (h : TOk K w g l ps bss ss) : Calls Tryd.prog 16 #[.pointer (some ⟨g, 0, none⟩)] w (AskRes l (AllGood ps bss) w) := by
  have HO := Lib.hid (isopen_any h.at' h.ne)
  have HE := Lib.hid (h.ents 0 ps.length (Nat.zero_le _) (Nat.le_refl _))
  rw [List.take_length, List.drop_zero, h.flat] at HE
  obtain ⟨a, c, vb, vf, h1, -⟩ := h.part
  generalize ps.length = np at *
  have x2 : w.cell? ⟨g, 2, none⟩ = some (.slice a np c) := h1.at 2
  have hgl := h1.lt
  generalize AllGood ps bss = G at *
  clear h1 h
  go_enter Tryd.func16, Tryd.ntmps16
  go_wp2_with fail
  refine HO.out.mono ?_
  rintro e w' ⟨rfl, rfl⟩
  go_wp2_with fail
  refine HE.out.mono ?_
  rintro e w1 (⟨v, rfl, hv, hb⟩ | ⟨hg, rfl, hb⟩)
  · obtain ⟨av, cv, rfl, -⟩ := hv.kform
    have HV := Lib.hid hv
    have HB := Lib.hid hb
    clear hv hb x2 HO HE
    go_wp2_with fail
    go_ret2
    exact .inl ⟨_, rfl, HV.out, HB.out⟩
  · have HG := Lib.hid hg
    have HB := Lib.hid hb
    clear hg hb x2 HO HE
    go_wp2_with fail
    go_ret2
    exact .inr ⟨HG.out, rfl, HB.out⟩
/-- What Get tells. -/
def TGetRes (o : Option Ent) (good : Prop) (w : World) (en : Ending) (w' : World) : Prop :=
  (en = .returned (.tuple #[.agg #[.string (o.getD Ent.none).norm, .int .i64 (o.getD Ent.none).seq, .int .i64 (o.getD Ent.none).kind, .string (o.getD Ent.none).spell, .string (o.getD Ent.none).val], .bool o.isSome, .int .i64 0]) ∨
    ¬ good ∧ en = .returned (.tuple #[.agg #[.string ⟨#[]⟩, .int .i64 0, .int .i64 0, .string ⟨#[]⟩, .string ⟨#[]⟩], .bool false, .int .i64 8])) ∧ Below w.heap.size w w'
set_option maxHeartbeats 8000000 in
theorem tget_any (h : TOk K w g l ps bss ss) (n : ByteArray) (hn : n.size ≤ maxLen) (q : Int) : Calls Tryd.prog 23 #[.pointer (some ⟨g, 0, none⟩), .string n, .int .i64 q] w (TGetRes (findE l n q) (AllGood ps bss) w) := by
  have HO := Lib.hid (fun W (hW : Below w.heap.size w W) => isopen_any (h.at'.below hW) h.ne)
  have HR := Lib.hid (fun W (hW : Below w.heap.size w W) => reaching_any (h.at'.below hW) (by rw [show (partsT ps).length = ps.length from partsFrom_len ps 0]; exact Nat.le_trans (ps_le h.pcs) (by rw [show (ps.map List.flatten).flatten = flatP ps from rfl, h.flat]; exact h.len)) n q (rp_mono h.srtP n q))
  have HE := Lib.hid (fun W (hW : Below w.heap.size w W) f e hfe he => (h.below hW).ents f e hfe he)
  have HFP := Lib.hid (fun k (hc : Cuts (rpP (partsT ps) n q) (partsT ps).length k) => find_piece h.srtP hc)
  have HPS := Lib.hid (fun a b => piece_srt h.srtP a b)
  obtain ⟨a, c, vb, vf, h1, h2⟩ := h.part
  obtain ⟨fa, fl, fc, rfl, -⟩ := h2.form
  have hssl := h.norms.len
  have HM := Lib.hid (fun W (hW : Below w.heap.size w W) => may_any W (.slice fa fl fc) (filterB (ss.map hashN)) (h2.below hW) (by
    rw [filterB_len, List.length_map]
    have h1 := h.len
    unfold bitsN
    have h2 : max 64 (10 * ss.length) ≤ 64 + 10 * ss.length := by omega
    omega) n hn)
  have HNO : Hid (mayB (filterB (ss.map hashN)) (hashN n) = false → findE l n q = none) := Lib.hid fun hm => find_no fun e he hh => by
    have h3 := mayB_has (List.mem_map.2 ⟨n, by rw [← hh.1]; exact h.norms.all e he, rfl⟩ : hashN n ∈ ss.map hashN)
    rw [h3] at hm
    cases hm
  obtain ⟨mb, hmb⟩ : ∃ x, mayB (filterB (ss.map hashN)) (hashN n) = x := ⟨_, rfl⟩
  rw [hmb] at HM HNO
  have hpl : (partsT ps).length = ps.length := partsFrom_len ps 0
  have HPL := Lib.hid hpl
  have HFL : Hid ((flatP ps).length ≤ 1000000 ∧ ps.length ≤ 1000000) := Lib.hid ⟨by rw [h.flat]; exact h.len, Nat.le_trans (ps_le h.pcs) (by rw [show (ps.map List.flatten).flatten = flatP ps from rfl, h.flat]; exact h.len)⟩
  rw [h.flat] at HFP
  generalize AllGood ps bss = G at *
  generalize findE l n q = fo at *
  have HT := Lib.hid h1
  clear h1 h2 hssl hpl hmb h
  go_enter Tryd.func23, Tryd.ntmps23
  go_upto_region 1 with fail
  have hbk : BlkAt (w.alloc (.cells #[.string ⟨#[]⟩, .int .i64 0, .int .i64 0, .string ⟨#[]⟩, .string ⟨#[]⟩] 39)) w.heap.size #[.string ⟨#[]⟩, .int .i64 0, .int .i64 0, .string ⟨#[]⟩, .string ⟨#[]⟩] 39 := BlkAt.new _ _ _
  have hb1 : Below w.heap.size w (w.alloc (.cells #[.string ⟨#[]⟩, .int .i64 0, .int .i64 0, .string ⟨#[]⟩, .string ⟨#[]⟩] 39)) := (Below.refl _ w).alloc (Nat.le_refl _) _
  obtain ⟨w1, hw1⟩ : ∃ x, w.alloc (.cells #[.string ⟨#[]⟩, .int .i64 0, .int .i64 0, .string ⟨#[]⟩, .string ⟨#[]⟩] 39) = x := ⟨_, rfl⟩
  rw [hw1] at hbk hb1 ⊢
  have HBK := Lib.hid hbk
  have HB1 := Lib.hid hb1
  have HO1 := Lib.hid (HO.out w1 hb1)
  have HM1 := Lib.hid (HM.out w1 hb1)
  have ht1 := HT.out.below hb1
  have x1 : w1.cell? ⟨g, 1, none⟩ = some (.slice fa fl fc) := ht1.at 1
  have hgl := ht1.lt
  clear hbk hb1 hw1 ht1 HO HM
  go_wp2_with fail
  refine HO1.out.mono ?_
  rintro e w' ⟨rfl, rfl⟩
  go_wp2_with fail
  refine HM1.out.mono ?_
  rintro e w2 ⟨rfl, b2⟩
  have HB2 := Lib.hid (HB1.out.trans (b2.mono HB1.out.size))
  have hk2 := HBK.out.below b2
  clear b2 HO1 HM1 x1 hgl HBK HB1
  cases mb with
  | false =>
    have HN1 := Lib.hid (HNO.out rfl)
    clear HR HE HFP HPS HNO
    obtain ⟨c0, c1, c2, c3, c4⟩ := blk5 hk2
    have f0 := BlkAt.free hk2 0
    have f1 := BlkAt.free hk2 1
    have f2 := BlkAt.free hk2 2
    have f3 := BlkAt.free hk2 3
    have f4 := BlkAt.free hk2 4
    have hbl := BlkAt.lt hk2
    go_wp2_with fail
    refine bodyPost_ret (v := .tuple #[.agg #[.string ⟨#[]⟩, .int .i64 0, .int .i64 0, .string ⟨#[]⟩, .string ⟨#[]⟩], .bool false, .int .i64 0]) (by simp [results, Tryd.results23, go_sem, c0, c1, c2, c3, c4]) rfl ⟨by rw [HN1.out]; exact .inl rfl, ?_⟩
    iterate 5 refine Below.setCell ?_ (by simp) _
    exact HB2.out
  | true =>
    have HK2 := Lib.hid hk2
    have HR2 := Lib.hid (HR.out w2 HB2.out)
    clear HNO HR hk2
    go_wp2_with fail
    refine HR2.out.mono ?_
    rintro e w3 ⟨k, hk, rfl, b3⟩
    have HFK := Lib.hid (HFP.out k hk)
    have hkn : k ≤ ps.length := by have := hk.1; have h2 := HPL.out; omega
    have HB3 := Lib.hid (HB2.out.trans (b3.mono HB2.out.size))
    have HK3 := Lib.hid (HK2.out.below b3)
    have HE3 := Lib.hid (HE.out w3 HB3.out k (min (k + 1) ps.length) (by omega) (by omega))
    have HPK := Lib.hid (HPS.out (min (k + 1) ps.length) k)
    have HLK : Hid ((flatP ((ps.take (min (k + 1) ps.length)).drop k)).length ≤ 1000000) := Lib.hid (by
      have h1 := flatP_len_le ps (min (k + 1) ps.length)
      have h2 : flatP (ps.take (min (k + 1) ps.length)) = flatP ((ps.take (min (k + 1) ps.length)).take k) ++ flatP ((ps.take (min (k + 1) ps.length)).drop k) := by rw [← flatP_app, List.take_append_drop]
      rw [h2, List.length_append] at h1
      have := HFL.out
      omega)
    have ht3 := HT.out.below HB3.out
    obtain ⟨np, hnp⟩ : ∃ x, ps.length = x := ⟨_, rfl⟩
    have hnpl : np ≤ 1000000 := by rw [← hnp]; exact HFL.out.2
    rw [hnp] at HE3 HPK HLK ht3 hkn HFK
    generalize flatP ((ps.take (min (k + 1) np)).drop k) = es at *
    have x2 : w3.cell? ⟨g, 2, none⟩ = some (.slice a np c) := ht3.at 2
    have hgl := ht3.lt
    obtain ⟨m, hm⟩ : ∃ x, min (k + 1) np = x := ⟨_, rfl⟩
    rw [hm] at HE3
    have hmi : min ((k : Int) + 1) (np : Int) = (m : Int) := by omega
    clear hk b3 ht3 hnp HR2 HK2 HB2 HE HFP HPS HT HPL HFL hm
    go_wp2_with fail
    refine HE3.out.mono ?_
    rintro e w4 (⟨v, rfl, hv, hb⟩ | ⟨hg, rfl, hb⟩)
    · obtain ⟨av, cv, rfl, -⟩ := hv.kform
      have HFN := Lib.hid (find_any _ es HLK.out HPK.out n q w4 (hv.rd encEnt_len))
      rw [HFK.out] at HFN
      have HB4 := Lib.hid (HB3.out.trans (hb.mono HB3.out.size))
      have HK4 := Lib.hid (HK3.out.below hb)
      obtain ⟨fb, hfb⟩ : ∃ x, fo.isSome = x := ⟨_, rfl⟩
      obtain ⟨fe, hfe⟩ : ∃ x, fo.getD Ent.none = x := ⟨_, rfl⟩
      obtain ⟨xn, xq, xk, xs, xv⟩ := fe
      have HFO := Lib.hid (And.intro hfe hfb)
      unfold findV at HFN
      rw [hfe, hfb] at HFN
      unfold Ent.v at HFN
      simp only at HFN
      clear hv hb hfb hfe HE3 HB3 HK3 x2 hgl HFK HPK
      go_wp2_with fail
      refine HFN.out.mono ?_
      rintro e w5 ⟨rfl, b5⟩
      have HB5 := Lib.hid (HB4.out.trans (b5.mono HB4.out.size))
      have HK5 := Lib.hid (HK4.out.below b5)
      clear b5 HFN HB4 HK4
      go_upto_region 10 with fail
      have hxk : BlkAt (w5.alloc (.cells #[.string xn, .int .i64 xq, .int .i64 xk, .string xs, .string xv] 39)) w5.heap.size #[.string xn, .int .i64 xq, .int .i64 xk, .string xs, .string xv] 39 := BlkAt.new _ _ _
      have hk6 := HK5.out.more (.cells #[.string xn, .int .i64 xq, .int .i64 xk, .string xs, .string xv] 39)
      have hb6 := HB5.out.alloc HB5.out.size (.cells #[.string xn, .int .i64 xq, .int .i64 xk, .string xs, .string xv] 39)
      obtain ⟨gx, hgx⟩ : ∃ x, w5.heap.size = x := ⟨_, rfl⟩
      rw [hgx] at hxk ⊢
      obtain ⟨w6, hw6⟩ : ∃ x, w5.alloc (.cells #[.string xn, .int .i64 xq, .int .i64 xk, .string xs, .string xv] 39) = x := ⟨_, rfl⟩
      rw [hw6] at hxk hk6 hb6 ⊢
      have HB6 := Lib.hid hb6
      obtain ⟨y0, y1, y2, y3, y4⟩ := blk5 hxk
      clear hxk hb6 hw6 hgx HB5 HK5
      obtain ⟨c0, c1, c2, c3, c4⟩ := blk5 hk6
      have f0 := BlkAt.free hk6 0
      have f1 := BlkAt.free hk6 1
      have f2 := BlkAt.free hk6 2
      have f3 := BlkAt.free hk6 3
      have f4 := BlkAt.free hk6 4
      have hbl := BlkAt.lt hk6
      clear hk6
      go_wp2_with fail
      refine bodyPost_ret (v := .tuple #[.agg #[.string xn, .int .i64 xq, .int .i64 xk, .string xs, .string xv], .bool fb, .int .i64 0]) (by simp [results, Tryd.results23, go_sem, c0, c1, c2, c3, c4]) rfl ⟨by obtain ⟨h1, h2⟩ := HFO.out; rw [h1, h2]; exact .inl rfl, ?_⟩
      iterate 5 refine Below.setCell ?_ (by simp) _
      exact HB6.out
    · have HB4 := Lib.hid (HB3.out.trans (hb.mono HB3.out.size))
      have hk4 := HK3.out.below hb
      have HG := Lib.hid hg
      clear hb hg HE3 HB3 HK3 x2 hgl HFK HPK
      obtain ⟨c0, c1, c2, c3, c4⟩ := blk5 hk4
      have f0 := BlkAt.free hk4 0
      have f1 := BlkAt.free hk4 1
      have f2 := BlkAt.free hk4 2
      have f3 := BlkAt.free hk4 3
      have f4 := BlkAt.free hk4 4
      have hbl := BlkAt.lt hk4
      clear hk4
      go_wp2_with fail
      refine bodyPost_ret (v := .tuple #[.agg #[.string ⟨#[]⟩, .int .i64 0, .int .i64 0, .string ⟨#[]⟩, .string ⟨#[]⟩], .bool false, .int .i64 8]) (by simp [results, Tryd.results23, go_sem, c0, c1, c2, c3, c4]) rfl ⟨.inr ⟨HG.out, rfl⟩, ?_⟩
      iterate 5 refine Below.setCell ?_ (by simp) _
      exact HB4.out
end Go.Proofs.YtennpdhnjaemeaaDoor
/- The walk of table's From. -/
namespace Go.Proofs.YtennpdhnjaemeaaDoor
set_option linter.unusedVariables false
set_option maxRecDepth 100000
open Go.RowKit
theorem sl_l5b (W : World) (a : Option Addr) (n cap k : Nat) (h : k ≤ n) (hc : n ≤ cap) :
    (Instr.sliceAt 22 (.slice a n cap) (some (.int .i64 (k : Int))) none none).run Tryd.prog W = .ok (.slice (if cap = k then a else a.map (·.add (k * 5))) (n - k) (cap - k)) W := sl_l5 W a n cap k h hc
/-- What entries has told, while the walk goes on. -/
def AskMid (B : Nat) (es : List Ent) (good : Prop) (w : World) (v : Value) (c : Int) : Prop := (c = 0 ∧ OwnK encEnt 5 39 B w v es) ∨ (¬ good ∧ c = 8 ∧ v = .slice none 0 0)
theorem AskMid.base {B B' : Nat} {es : List Ent} {good : Prop} {w : World} {v : Value} {c : Int} (h : AskMid B es good w v c) (hB : B' ≤ B) : AskMid B' es good w v c := by
  rcases h with ⟨h1, h2⟩ | h
  · exact .inl ⟨h1, h2.base hB⟩
  · exact .inr h
theorem AskMid.below {B : Nat} {es : List Ent} {good : Prop} {w w' : World} {v : Value} {c : Int} (h : AskMid B es good w v c) (hb : Below w.heap.size w w') : AskMid B es good w' v c := by
  rcases h with ⟨h1, h2⟩ | h
  · exact .inl ⟨h1, h2.below hb⟩
  · exact .inr h
theorem AskMid.set {B : Nat} {es : List Ent} {good : Prop} {w : World} {v : Value} {c : Int} (h : AskMid B es good w v c) {g : Nat} {vs : Array Value} {t : TypeId} (hz : BlkAt w g vs t) (ht : t ≠ 39) (u : Value) (o : Nat) : AskMid B es good (w.setCell ⟨g, o, none⟩ u) v c := by
  rcases h with ⟨h1, h2⟩ | h
  · refine .inl ⟨h1, row_same h2 fun x hx => Below.heap_setCell _ _ _ _ fun he => ?_⟩
    subst he
    rcases h2.blk with ⟨rfl, -⟩ | ⟨g', cap, cur, rfl, -, -, h3, -⟩
    · cases hx
    · obtain rfl : g' = x := Option.some.inj hx
      unfold BlkAt at hz
      rw [h3] at hz
      simp only [Option.some.injEq, Obj.cells.injEq] at hz
      exact ht hz.2.1.symm
  · exact .inr h
theorem ask_mid {es : List Ent} {good : Prop} {w : World} {en : Ending} {w' : World} (h : AskRes es good w en w') : ∃ a n c ec, en = .returned (.tuple #[.slice a n c, .int .i64 ec]) ∧ AskMid w.heap.size es good w' (.slice a n c) ec ∧ Below w.heap.size w w' := by
  rcases h with ⟨v, rfl, h1, h2⟩ | ⟨h1, rfl, h2⟩
  · obtain ⟨a, c, rfl, -⟩ := h1.kform
    exact ⟨a, _, c, 0, rfl, .inl ⟨rfl, h1⟩, h2⟩
  · exact ⟨_, _, _, 8, rfl, .inr ⟨h1, rfl, rfl⟩, h2⟩
set_option maxHeartbeats 4000000 in
theorem from1_any (es : List Ent) (a : Option Addr) (len cap : Nat) (hn : len = es.length) (hlm : len ≤ 1000000) (n : ByteArray) (i : Nat) (hi : i < len) (b0 b1 : Nat) (w : World) (hrd : RdK encEnt 5 w (.slice a len cap) es)
    (h0 : w.cell? ⟨b0, 0, none⟩ = some (.slice a len cap)) (h1 : w.cell? ⟨b1, 0, none⟩ = some (.string n)) :
    Calls Tryd.prog 44 #[.int .i64 i, .pointer (some ⟨b0, 0, none⟩), .pointer (some ⟨b1, 0, none⟩)] w fun e w' => e = .returned (.bool (ngB es n i)) ∧ Below w.heap.size w w' := by
  obtain ⟨x, hx⟩ : ∃ x, es[i]? = some x := ⟨es[i]'(by omega), List.getElem?_eq_getElem _⟩
  obtain ⟨r, hr⟩ : ∃ r, ngB es n i = r := ⟨_, rfl⟩
  have hr2 : (!Op.bytesLess x.norm.toList n.toList) = r := by
    rw [← hr, less_eq]; unfold ngB; rw [hx]; rfl
  rw [hr]
  obtain ⟨b, off, rfl, hblt, d0, d1, d2, d3, d4⟩ := hrd.at5 hn i x hx
  have hi0 : (0 : Int) ≤ (i : Int) := by omega
  have hil : (i : Int) < (len : Int) := by omega
  obtain ⟨xn, hxn⟩ : ∃ y, x.norm = y := ⟨_, rfl⟩
  rw [hxn] at d0 hr2
  clear hx hr hrd hn d1 d2 d3 d4 hxn
  go_enter Tryd.func44, Tryd.ntmps44
  go_wp2_with fail
  go_quiet (fail)
  generalize hw2 : w.drewN nq = w2
  have hb : Below w.heap.size w w2 := by rw [← hw2]; exact DrN.below ⟨nq, rfl⟩ _
  clear hw2
  go_wp2_with fail
  go_ret
  exact ⟨rfl, hb⟩
/-- What From tells. -/
def TFromRes (es : List Ent) (good : Prop) (w : World) (en : Ending) (w' : World) : Prop :=
  ((∃ v, en = .returned (.tuple #[v, .int .i64 0]) ∧ RdK encEnt 5 w' v es) ∨ ¬ good ∧ en = .returned (.tuple #[.slice none 0 0, .int .i64 8])) ∧ Below w.heap.size w w'
variable {K : Nat} {w : World} {g : Nat} {l : List Ent} {ps : List (List (List Ent))} {bss : List (List UInt8)} {ss : List ByteArray}
set_option maxHeartbeats 8000000 in
theorem tfrom_any (h : TOk K w g l ps bss ss) (n : ByteArray) : Calls Tryd.prog 22 #[.pointer (some ⟨g, 0, none⟩), .string n] w (TFromRes (fromE l n) (AllGood ps bss) w) := by
  have HO := Lib.hid (fun W (hW : Below w.heap.size w W) => isopen_any (h.at'.below hW) h.ne)
  have hpl : (partsT ps).length = ps.length := partsFrom_len ps 0
  have hpm : ps.length ≤ 1000000 := Nat.le_trans (ps_le h.pcs) (by rw [show (ps.map List.flatten).flatten = flatP ps from rfl, h.flat]; exact h.len)
  have HR0 := Lib.hid (fun W (hW : Below w.heap.size w W) => reaching_any (h.at'.below hW) (by rw [hpl]; exact hpm) n 9223372036854775807 (rp_mono h.srtP n _))
  have HE0 := Lib.hid (fun W (hW : Below w.heap.size w W) f (hf : f ≤ ps.length) => ((h.below hW).ents f ps.length hf (Nat.le_refl _)).mono fun en w' hh => ask_mid hh)
  have HFP := Lib.hid (fun k (hc : Cuts (rpP (partsT ps) n 9223372036854775807) (partsT ps).length k) => from_piece h.srtP (fun gs hg e he => ((h.pcs gs hg).fit e he).1.seq2) hc)
  have HPS := Lib.hid (fun a b => piece_srt h.srtP a b)
  have HLK := Lib.hid (fun k => (by
    have h1 := flatP_len_le ps ps.length
    have h2 : flatP (ps.take ps.length) = flatP ((ps.take ps.length).take k) ++ flatP ((ps.take ps.length).drop k) := by rw [← flatP_app, List.take_append_drop]
    rw [h2, List.length_append, h.flat] at h1
    have := h.len
    omega : (flatP ((ps.take ps.length).drop k)).length ≤ 1000000))
  rw [h.flat] at HFP
  obtain ⟨a, c, vb, vf, h1, -⟩ := h.part
  generalize AllGood ps bss = G at *
  obtain ⟨np, hnp⟩ : ∃ x, ps.length = x := ⟨_, rfl⟩
  rw [hnp] at HE0 HFP HLK h1 hpl hpm
  have HPL := Lib.hid hpl
  have HT0 := Lib.hid h1
  clear h1 hpl h hnp
  go_enter Tryd.func22, Tryd.ntmps22
  go_upto_region 1 with fail
  have hbx : BlkAt (w.alloc (.cells #[.string n] 9)) w.heap.size #[.string n] 9 := BlkAt.new _ _ _
  have hb1 : Below w.heap.size w (w.alloc (.cells #[.string n] 9)) := (Below.refl _ w).alloc (Nat.le_refl _) _
  obtain ⟨b0, hb0⟩ : ∃ x, w.heap.size = x := ⟨_, rfl⟩
  rw [hb0] at hbx ⊢
  obtain ⟨w1, hw1⟩ : ∃ x, w.alloc (.cells #[.string n] 9) = x := ⟨_, rfl⟩
  rw [hw1] at hbx hb1 ⊢
  have HO1 := Lib.hid (HO.out w1 hb1)
  have HBX := Lib.hid hbx
  have HB1 := Lib.hid hb1
  have HT := Lib.hid (HT0.out.below hb1)
  have HR := Lib.hid (fun W (hW : Below w1.heap.size w1 W) => HR0.out W (hb1.trans (hW.mono hb1.size)))
  have HE := Lib.hid (fun W (hW : Below w1.heap.size w1 W) => HE0.out W (hb1.trans (hW.mono hb1.size)))
  clear hbx hb1 hw1 hb0 HO HR0 HE0 HT0
  go_wp2_with fail
  refine HO1.out.mono ?_
  rintro e w' ⟨rfl, rfl⟩
  clear HO1
  go_upto_region 3 with fail
  go_cut [6, 7] (fun vp vc wx => ∃ (vx : Nat) (v : Value) (ec : Int) (k : Nat), vp = .pointer (some ⟨vx, 0, none⟩) ∧ vc = .int .i64 ec ∧ Hid (BlkAt wx vx #[v] 22 ∧ AskMid w1.heap.size (flatP ((ps.take np).drop k)) G wx v ec ∧ Cuts (rpP (partsT ps) n 9223372036854775807) (partsT ps).length k ∧ Below w1.heap.size w1 wx))
  case first =>
    as_aux_lemma =>
    refine wp_region_held_drew (S := Below w1.heap.size w1) (by kernel_rfl) (Below.refl _ _).drew (fun hHeld => ?_)
    generalize w1.drew = wq0 at hHeld ⊢
    refine takeYes (i := 0) (k := 13) (v := .pointer (some ⟨g, 0, none⟩)) rfl (by kernel_rfl) (by kernel_rfl) (by kernel_rfl) (by kernel_rfl) (fun _ _ _ h => h) (by kernel_rfl) ?_ hHeld ?_
    · intro W hSw; first | (go_simp; done) | go_simp
    try simp only [Act.put, List.setIfInBounds_toArray, List.set_cons_zero, List.set_cons_succ]
    refine takeYes (i := 1) (k := 14) (v := .pointer (some ⟨g, 0, none⟩)) rfl (by kernel_rfl) (by kernel_rfl) (by kernel_rfl) (by kernel_rfl) (fun _ _ _ h => h) (by kernel_rfl) ?_ hHeld ?_
    · intro W hSw; first | (go_simp; done) | go_simp
    try simp only [Act.put, List.setIfInBounds_toArray, List.set_cons_zero, List.set_cons_succ]
    refine takeYes (i := 2) (k := 15) (v := .string n) rfl (by kernel_rfl) (by kernel_rfl) (by kernel_rfl) (by kernel_rfl) (fun _ _ _ h => h) (by kernel_rfl) ?_ hHeld ?_
    · intro W hSw; have x0 : W.cell? ⟨b0, 0, none⟩ = some (.string n) := (HBX.out.below hSw).at 0; first | (go_simp; done) | go_simp
    try simp only [Act.put, List.setIfInBounds_toArray, List.set_cons_zero, List.set_cons_succ]
    refine takeYes (i := 4) (k := 17) (v := .pointer (some ⟨g, 0, none⟩)) rfl (by kernel_rfl) (by kernel_rfl) (by kernel_rfl) (by kernel_rfl) (fun _ _ _ h => h) (by kernel_rfl) ?_ hHeld ?_
    · intro W hSw; first | (go_simp; done) | go_simp
    try simp only [Act.put, List.setIfInBounds_toArray, List.set_cons_zero, List.set_cons_succ]
    refine takeYes (i := 5) (k := 18) (v := .pointer (some ⟨g, 0, none⟩)) rfl (by kernel_rfl) (by kernel_rfl) (by kernel_rfl) (by kernel_rfl) (fun _ _ _ h => h) (by kernel_rfl) ?_ hHeld ?_
    · intro W hSw; first | (go_simp; done) | go_simp
    try simp only [Act.put, List.setIfInBounds_toArray, List.set_cons_zero, List.set_cons_succ]
    refine takeYes (i := 6) (k := 19) (v := .pointer (some ⟨g, 2, none⟩)) rfl (by kernel_rfl) (by kernel_rfl) (by kernel_rfl) (by kernel_rfl) (fun _ _ _ h => h) (by kernel_rfl) ?_ hHeld ?_
    · intro W hSw; first | (go_simp; done) | go_simp
    try simp only [Act.put, List.setIfInBounds_toArray, List.set_cons_zero, List.set_cons_succ]
    refine takeYes (i := 7) (k := 20) (v := .slice a np c) rfl (by kernel_rfl) (by kernel_rfl) (by kernel_rfl) (by kernel_rfl) (fun _ _ _ h => h) (by kernel_rfl) ?_ hHeld ?_
    · intro W hSw; have x2 : W.cell? ⟨g, 2, none⟩ = some (.slice a np c) := (HT.out.below hSw).at 2; first | (go_simp; done) | go_simp
    try simp only [Act.put, List.setIfInBounds_toArray, List.set_cons_zero, List.set_cons_succ]
    refine takeYes (i := 8) (k := 21) (v := .int .i64 (np : Int)) rfl (by kernel_rfl) (by kernel_rfl) (by kernel_rfl) (by kernel_rfl) (fun _ _ _ h => h) (by kernel_rfl) ?_ hHeld ?_
    · intro W hSw; first | (go_simp; done) | go_simp
    try simp only [Act.put, List.setIfInBounds_toArray, List.set_cons_zero, List.set_cons_succ]
    refine wpAnyH_ready (rs := [3, 13]) (by kernel_rfl) (by simp) (AllReadyH.cons rfl (fun K hK => ?_) (AllReadyH.cons rfl (fun K hK => ?_) (AllReadyH.nil)))
    · go_simp
      refine (HR.out wq0 hHeld).mono ?_
      rintro e wq1 ⟨k, hk, rfl, hb⟩
      have hq1 : Below w1.heap.size w1 wq1 := hHeld.trans (hb.mono hHeld.size)
      refine hK.out _ _ hq1 (fun _ => ?_)
      clear hK K
      try simp only [Act.put, List.setIfInBounds_toArray, List.set_cons_zero, List.set_cons_succ]
      refine wpAnyH_ready (rs := [9, 13]) (by kernel_rfl) (by simp) (AllReadyH.cons rfl (fun K hK => ?_) (AllReadyH.cons rfl (fun K hK => ?_) (AllReadyH.nil)))
      · go_simp
        have hkn : k ≤ np := by rw [← HPL.out]; exact hk.1
        refine (HE.out wq1 hq1 k hkn).mono ?_
        rintro e wq2 ⟨av, nv, cv, ec, rfl, hm0, hb⟩
        have hq2 : Below w1.heap.size w1 wq2 := hq1.trans (hb.mono hq1.size)
        have hm := hm0.base hq1.size
        refine hK.out _ _ hq2 (fun _ => ?_)
        clear hK K hm0
        try simp only [Act.put, List.setIfInBounds_toArray, List.set_cons_zero, List.set_cons_succ]
        refine takeYes (i := 10) (k := 12) (v := .tuple #[.slice av nv cv, .int .i64 ec]) rfl (by kernel_rfl) (by kernel_rfl) (by kernel_rfl) (by kernel_rfl) (fun _ _ _ h => h) (by kernel_rfl) ?_ hq2 ?_
        · intro W hSw; first | (go_simp; done) | go_simp
        try simp only [Act.put, List.setIfInBounds_toArray, List.set_cons_zero, List.set_cons_succ]
        refine takeYes (i := 11) (k := 23) (v := .slice av nv cv) rfl (by kernel_rfl) (by kernel_rfl) (by kernel_rfl) (by kernel_rfl) (fun _ _ _ h => h) (by kernel_rfl) ?_ hq2 ?_
        · intro W hSw; first | (go_simp; done) | go_simp
        try simp only [Act.put, List.setIfInBounds_toArray, List.set_cons_zero, List.set_cons_succ]
        refine takeYes (i := 12) (k := 24) (v := .int .i64 ec) rfl (by kernel_rfl) (by kernel_rfl) (by kernel_rfl) (by kernel_rfl) (fun _ _ _ h => h) (by kernel_rfl) ?_ hq2 ?_
        · intro W hSw; first | (go_simp; done) | go_simp
        try simp only [Act.put, List.setIfInBounds_toArray, List.set_cons_zero, List.set_cons_succ]
        refine wpAnyH_ready (rs := [13]) (by kernel_rfl) (by simp) (AllReadyH.cons rfl (fun K hK => ?_) (AllReadyH.nil))
        go_simp
        have hz : BlkAt (wq2.alloc (.cells #[.slice none 0 0] 22)) wq2.heap.size #[.slice none 0 0] 22 := BlkAt.new _ _ _
        have hv0 : w1.heap.size ≤ wq2.heap.size := hq2.size
        have hq3 : Below w1.heap.size w1 (wq2.alloc (.cells #[.slice none 0 0] 22)) := hq2.alloc hq2.size _
        replace hm := hm.below ((Below.refl _ wq2).alloc (Nat.le_refl _) (.cells #[.slice none 0 0] 22))
        obtain ⟨vx, hvx⟩ : ∃ v, wq2.heap.size = v := ⟨_, rfl⟩
        rw [hvx] at hz hv0 ⊢
        obtain ⟨wq3, hwx⟩ : ∃ x, wq2.alloc (.cells #[.slice none 0 0] 22) = x := ⟨_, rfl⟩
        rw [hwx] at hz hq3 ⊢
        rw [hwx] at hm
        refine hK.out _ _ hq3 (fun _ => ?_)
        clear hK K hvx hwx
        try simp only [Act.put, List.setIfInBounds_toArray, List.set_cons_zero, List.set_cons_succ]
        refine wpAnyH_ready (rs := [14]) (by kernel_rfl) (by simp) (AllReadyH.cons rfl (fun K hK => ?_) (AllReadyH.nil))
        have z0 : wq3.cell? ⟨vx, 0, none⟩ = some (.slice none 0 0) := hz.at 0
        have f0 := hz.free 0
        have hzl := hz.lt
        go_simp
        have hq4 := hq3.setCell (p := ⟨vx, 0, none⟩) hv0 (.slice av nv cv)
        replace hm := hm.set hz (by decide) (.slice av nv cv) 0
        replace hz : BlkAt _ vx #[.slice av nv cv] 22 := hz.set (o := 0) (.slice av nv cv)
        refine hK.out _ _ hq4 (fun _ => ?_)
        clear hK K z0 f0 hzl
        try simp only [Act.put, List.setIfInBounds_toArray, List.set_cons_zero, List.set_cons_succ]
        refine takeYes (i := 15) (k := 7) (v := .int .i64 ec) rfl (by kernel_rfl) (by kernel_rfl) (by kernel_rfl) (by kernel_rfl) (fun _ _ _ h => h) (by kernel_rfl) ?_ hq4 ?_
        · intro W hSw; first | (go_simp; done) | go_simp
        try simp only [Act.put, List.setIfInBounds_toArray, List.set_cons_zero, List.set_cons_succ]
        refine wpAnyH_done (by kernel_rfl) ?_ _
        go_wp2_with fail
        go_meet
        exact ⟨vx, .slice av nv cv, ec, k, rfl, rfl, Lib.hid ⟨hz, hm, hk, hq4⟩⟩
      · go_simp
        have hz : BlkAt (wq1.alloc (.cells #[.slice none 0 0] 22)) wq1.heap.size #[.slice none 0 0] 22 := BlkAt.new _ _ _
        have hv0 : w1.heap.size ≤ wq1.heap.size := hq1.size
        have hq2 : Below w1.heap.size w1 (wq1.alloc (.cells #[.slice none 0 0] 22)) := hq1.alloc hq1.size _
        obtain ⟨vx, hvx⟩ : ∃ v, wq1.heap.size = v := ⟨_, rfl⟩
        rw [hvx] at hz hv0 ⊢
        obtain ⟨wq2, hwx⟩ : ∃ x, wq1.alloc (.cells #[.slice none 0 0] 22) = x := ⟨_, rfl⟩
        rw [hwx] at hz hq2 ⊢
        refine hK.out _ _ hq2 (fun _ => ?_)
        clear hK K hvx hwx
        try simp only [Act.put, List.setIfInBounds_toArray, List.set_cons_zero, List.set_cons_succ]
        refine wpAnyH_ready (rs := [9]) (by kernel_rfl) (by simp) (AllReadyH.cons rfl (fun K hK => ?_) (AllReadyH.nil))
        go_simp
        have hkn : k ≤ np := by rw [← HPL.out]; exact hk.1
        refine (HE.out wq2 hq2 k hkn).mono ?_
        rintro e wq3 ⟨av, nv, cv, ec, rfl, hm0, hb⟩
        have hq3 : Below w1.heap.size w1 wq3 := hq2.trans (hb.mono hq2.size)
        have hm := hm0.base hq2.size
        replace hz := BlkAt.below hz hb
        refine hK.out _ _ hq3 (fun _ => ?_)
        clear hK K hm0
        try simp only [Act.put, List.setIfInBounds_toArray, List.set_cons_zero, List.set_cons_succ]
        refine takeYes (i := 10) (k := 12) (v := .tuple #[.slice av nv cv, .int .i64 ec]) rfl (by kernel_rfl) (by kernel_rfl) (by kernel_rfl) (by kernel_rfl) (fun _ _ _ h => h) (by kernel_rfl) ?_ hq3 ?_
        · intro W hSw; first | (go_simp; done) | go_simp
        try simp only [Act.put, List.setIfInBounds_toArray, List.set_cons_zero, List.set_cons_succ]
        refine takeYes (i := 11) (k := 23) (v := .slice av nv cv) rfl (by kernel_rfl) (by kernel_rfl) (by kernel_rfl) (by kernel_rfl) (fun _ _ _ h => h) (by kernel_rfl) ?_ hq3 ?_
        · intro W hSw; first | (go_simp; done) | go_simp
        try simp only [Act.put, List.setIfInBounds_toArray, List.set_cons_zero, List.set_cons_succ]
        refine takeYes (i := 12) (k := 24) (v := .int .i64 ec) rfl (by kernel_rfl) (by kernel_rfl) (by kernel_rfl) (by kernel_rfl) (fun _ _ _ h => h) (by kernel_rfl) ?_ hq3 ?_
        · intro W hSw; first | (go_simp; done) | go_simp
        try simp only [Act.put, List.setIfInBounds_toArray, List.set_cons_zero, List.set_cons_succ]
        refine wpAnyH_ready (rs := [14]) (by kernel_rfl) (by simp) (AllReadyH.cons rfl (fun K hK => ?_) (AllReadyH.nil))
        have z0 : wq3.cell? ⟨vx, 0, none⟩ = some (.slice none 0 0) := hz.at 0
        have f0 := hz.free 0
        have hzl := hz.lt
        go_simp
        have hq4 := hq3.setCell (p := ⟨vx, 0, none⟩) hv0 (.slice av nv cv)
        replace hm := hm.set hz (by decide) (.slice av nv cv) 0
        replace hz : BlkAt _ vx #[.slice av nv cv] 22 := hz.set (o := 0) (.slice av nv cv)
        refine hK.out _ _ hq4 (fun _ => ?_)
        clear hK K z0 f0 hzl
        try simp only [Act.put, List.setIfInBounds_toArray, List.set_cons_zero, List.set_cons_succ]
        refine takeYes (i := 15) (k := 7) (v := .int .i64 ec) rfl (by kernel_rfl) (by kernel_rfl) (by kernel_rfl) (by kernel_rfl) (fun _ _ _ h => h) (by kernel_rfl) ?_ hq4 ?_
        · intro W hSw; first | (go_simp; done) | go_simp
        try simp only [Act.put, List.setIfInBounds_toArray, List.set_cons_zero, List.set_cons_succ]
        refine wpAnyH_done (by kernel_rfl) ?_ _
        go_wp2_with fail
        go_meet
        exact ⟨vx, .slice av nv cv, ec, k, rfl, rfl, Lib.hid ⟨hz, hm, hk, hq4⟩⟩
    · go_simp
      have hz : BlkAt (wq0.alloc (.cells #[.slice none 0 0] 22)) wq0.heap.size #[.slice none 0 0] 22 := BlkAt.new _ _ _
      have hv0 : w1.heap.size ≤ wq0.heap.size := hHeld.size
      have hq1 : Below w1.heap.size w1 (wq0.alloc (.cells #[.slice none 0 0] 22)) := hHeld.alloc hHeld.size _
      obtain ⟨vx, hvx⟩ : ∃ v, wq0.heap.size = v := ⟨_, rfl⟩
      rw [hvx] at hz hv0 ⊢
      obtain ⟨wq1, hwx⟩ : ∃ x, wq0.alloc (.cells #[.slice none 0 0] 22) = x := ⟨_, rfl⟩
      rw [hwx] at hz hq1 ⊢
      refine hK.out _ _ hq1 (fun _ => ?_)
      clear hK K hvx hwx
      try simp only [Act.put, List.setIfInBounds_toArray, List.set_cons_zero, List.set_cons_succ]
      refine wpAnyH_ready (rs := [3]) (by kernel_rfl) (by simp) (AllReadyH.cons rfl (fun K hK => ?_) (AllReadyH.nil))
      go_simp
      refine (HR.out wq1 hq1).mono ?_
      rintro e wq2 ⟨k, hk, rfl, hb⟩
      have hq2 : Below w1.heap.size w1 wq2 := hq1.trans (hb.mono hq1.size)
      replace hz := BlkAt.below hz hb
      refine hK.out _ _ hq2 (fun _ => ?_)
      clear hK K
      try simp only [Act.put, List.setIfInBounds_toArray, List.set_cons_zero, List.set_cons_succ]
      refine wpAnyH_ready (rs := [9]) (by kernel_rfl) (by simp) (AllReadyH.cons rfl (fun K hK => ?_) (AllReadyH.nil))
      go_simp
      have hkn : k ≤ np := by rw [← HPL.out]; exact hk.1
      refine (HE.out wq2 hq2 k hkn).mono ?_
      rintro e wq3 ⟨av, nv, cv, ec, rfl, hm0, hb⟩
      have hq3 : Below w1.heap.size w1 wq3 := hq2.trans (hb.mono hq2.size)
      have hm := hm0.base hq2.size
      replace hz := BlkAt.below hz hb
      refine hK.out _ _ hq3 (fun _ => ?_)
      clear hK K hm0
      try simp only [Act.put, List.setIfInBounds_toArray, List.set_cons_zero, List.set_cons_succ]
      refine takeYes (i := 10) (k := 12) (v := .tuple #[.slice av nv cv, .int .i64 ec]) rfl (by kernel_rfl) (by kernel_rfl) (by kernel_rfl) (by kernel_rfl) (fun _ _ _ h => h) (by kernel_rfl) ?_ hq3 ?_
      · intro W hSw; first | (go_simp; done) | go_simp
      try simp only [Act.put, List.setIfInBounds_toArray, List.set_cons_zero, List.set_cons_succ]
      refine takeYes (i := 11) (k := 23) (v := .slice av nv cv) rfl (by kernel_rfl) (by kernel_rfl) (by kernel_rfl) (by kernel_rfl) (fun _ _ _ h => h) (by kernel_rfl) ?_ hq3 ?_
      · intro W hSw; first | (go_simp; done) | go_simp
      try simp only [Act.put, List.setIfInBounds_toArray, List.set_cons_zero, List.set_cons_succ]
      refine takeYes (i := 12) (k := 24) (v := .int .i64 ec) rfl (by kernel_rfl) (by kernel_rfl) (by kernel_rfl) (by kernel_rfl) (fun _ _ _ h => h) (by kernel_rfl) ?_ hq3 ?_
      · intro W hSw; first | (go_simp; done) | go_simp
      try simp only [Act.put, List.setIfInBounds_toArray, List.set_cons_zero, List.set_cons_succ]
      refine wpAnyH_ready (rs := [14]) (by kernel_rfl) (by simp) (AllReadyH.cons rfl (fun K hK => ?_) (AllReadyH.nil))
      have z0 : wq3.cell? ⟨vx, 0, none⟩ = some (.slice none 0 0) := hz.at 0
      have f0 := hz.free 0
      have hzl := hz.lt
      go_simp
      have hq4 := hq3.setCell (p := ⟨vx, 0, none⟩) hv0 (.slice av nv cv)
      replace hm := hm.set hz (by decide) (.slice av nv cv) 0
      replace hz : BlkAt _ vx #[.slice av nv cv] 22 := hz.set (o := 0) (.slice av nv cv)
      refine hK.out _ _ hq4 (fun _ => ?_)
      clear hK K z0 f0 hzl
      try simp only [Act.put, List.setIfInBounds_toArray, List.set_cons_zero, List.set_cons_succ]
      refine takeYes (i := 15) (k := 7) (v := .int .i64 ec) rfl (by kernel_rfl) (by kernel_rfl) (by kernel_rfl) (by kernel_rfl) (fun _ _ _ h => h) (by kernel_rfl) ?_ hq4 ?_
      · intro W hSw; first | (go_simp; done) | go_simp
      try simp only [Act.put, List.setIfInBounds_toArray, List.set_cons_zero, List.set_cons_succ]
      refine wpAnyH_done (by kernel_rfl) ?_ _
      go_wp2_with fail
      go_meet
      exact ⟨vx, .slice av nv cv, ec, k, rfl, rfl, Lib.hid ⟨hz, hm, hk, hq4⟩⟩
  case rest =>
  obtain ⟨vx, v, ec, k, rfl, rfl, HC⟩ := hcut
  have HFK := Lib.hid (HFP.out k HC.out.2.2.1)
  have HLK2 := Lib.hid (HLK.out k)
  have HPK := Lib.hid (HPS.out np k)
  have HBC := Lib.hid (HB1.out.trans (HC.out.2.2.2.mono HB1.out.size))
  have hxc := HC.out.1
  have hbc := HBX.out.below HC.out.2.2.2
  have hmid := HC.out.2.1
  generalize flatP ((ps.take np).drop k) = es at *
  clear HC HR HE HFP HPS HLK HT HPL HBX HB1
  rcases hmid with ⟨rfl, hv⟩ | ⟨hg, rfl, rfl⟩
  · obtain ⟨av, cv, rfl, hcv, -⟩ := hv.kform
    have HV := Lib.hid (hv.rd encEnt_len)
    obtain ⟨nv, hnv⟩ : ∃ x, es.length = x := ⟨_, rfl⟩
    rw [hnv] at HV hxc hcv
    have HNV := Lib.hid hnv
    have hnl : nv ≤ 1000000 := by rw [← hnv]; exact HLK2.out
    have x6 : wc.cell? ⟨vx, 0, none⟩ = some (.slice av nv cv) := hxc.at 0
    have x3 : wc.cell? ⟨b0, 0, none⟩ = some (.string n) := hbc.at 0
    have hxl := hxc.lt
    have hbl := hbc.lt
    have HSR := Lib.hid (fsearch_any nv hnl (.pointer (some ⟨vx, 0, none⟩)) (.pointer (some ⟨b0, 0, none⟩)) (ngB es n) (ng_mono HPK.out n) wc (Lib.hid fun W hW i hi =>
      from1_any es av nv cv HNV.out.symm hnl n i hi vx b0 W (HV.out.below hW) ((hW.cell (p := ⟨vx, 0, none⟩) hxl).trans x6) ((hW.cell (p := ⟨b0, 0, none⟩) hbl).trans x3)))
    have HXC := Lib.hid hxc
    clear hv hxc hbc hnv
    go_wp2_with fail
    refine HSR.out.mono ?_
    rintro e w5 ⟨k2, hk2, rfl, b5⟩
    have hk2n : k2 ≤ nv := hk2.1
    have HDR : Hid (es.drop k2 = fromE l n) := Lib.hid (by rw [from_cut (by rw [HNV.out]; exact hk2)]; exact HFK.out)
    have HB5 := Lib.hid (HBC.out.trans (b5.mono HBC.out.size))
    have y6 : w5.cell? ⟨vx, 0, none⟩ = some (.slice av nv cv) := (HXC.out.below b5).at 0
    have hxl5 := (HXC.out.below b5).lt
    have HRS := (HV.out.below b5).rest k2 hk2n
    have hsl := fun W => sl_l5b W av nv cv k2 hk2n hcv
    generalize (if cv = k2 then av else av.map (·.add (k2 * 5))) = T at HRS hsl
    rw [HDR.out] at HRS
    have HRR := Lib.hid HRS
    clear hk2 b5 HRS HSR x6 x3 hxl hbl HBC HV
    go_wp2_with fail
    go_ret2
    exact ⟨.inl ⟨_, rfl, HRR.out⟩, HB5.out⟩
  · have HG := Lib.hid hg
    clear hg hxc hbc
    go_wp2_with fail
    go_ret2
    exact ⟨.inr ⟨HG.out, rfl⟩, HBC.out⟩
end Go.Proofs.YtennpdhnjaemeaaDoor
