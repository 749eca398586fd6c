/- The walk of block.Read: the rows of just such bytes, or none. -/
import Derived.Test.YtaddihabjdoihaaBlkGet
import Derived.Test.YtaddihabjdoihaaBlk
import Derived.Test.YtaddihabjdoihaaTake
import Derived.Deep.CutBlock
namespace Go.Proofs.Ytaddihabjdoihaa
set_option linter.unusedVariables false
set_option maxRecDepth 100000
open Go.RowKit
/-- How far a block is read: e is where its rows end. -/
structure RInv (b : List UInt8) (e : Nat) (rs : List Kv) (p : List UInt8) (at' : Nat) : Prop where
  le : at' ≤ e
  at_len : at' = (bodyB 0 [] rs).length
  last : p = lastK [] rs
  small : p.length + (e - at') ≤ e
  rows : rs.length ≤ at'
  more : rowsC e 0 [] (b.take e) = (rowsC (e - rs.length) rs.length p ((b.take e).drop at')).map (rs ++ ·)
theorem rinv_nil (b : List UInt8) (e : Nat) : RInv b e [] [] 0 := ⟨Nat.zero_le _, rfl, rfl, by simp, Nat.zero_le _, by simp⟩
theorem rinv_step {b : List UInt8} {e : Nat} (he : e ≤ b.length) {rs : List Kv} {p : List UInt8} {o : Nat} (h : RInv b e rs p o) {r : Kv} {k : Nat} (hr : rowCk rs.length p ((b.take e).drop o) = some (r, k)) :
    RInv b e (rs ++ [r]) r.k (o + k) ∧ 3 ≤ k ∧ o + k ≤ e ∧ bkEnds (rs ++ [r]) = bkEnds rs ++ if rs.length % 4 = 0 then [o] else [] := by
  obtain ⟨h1, h2, h3, h4, h5, h6⟩ := rowC_some hr
  obtain ⟨g1, g2, g3, g4, g5, g6⟩ := h
  have hl : ((b.take e).drop o).length = e - o := by rw [List.length_drop, List.length_take]; omega
  rw [hl] at h2 h5
  rw [List.length_drop, hl] at h2
  have hk : k = (rowB rs.length p r).length := by
    rw [← h6, List.length_take, hl]; omega
  refine ⟨⟨by omega, ?_, (lastK_snoc rs [] r).symm, by omega, by rw [List.length_append, List.length_singleton]; omega, ?_⟩, h4, by omega, ?_⟩
  · rw [bodyB_snoc, List.length_append, ← g2, Nat.zero_add, ← g3, ← hk]
  · rw [g6, show e - rs.length = (e - (rs ++ [r]).length) + 1 by rw [List.length_append, List.length_singleton]; omega, rowsC_row hr, List.drop_drop]
    rw [List.length_append, List.length_singleton, Option.map_map]
    congr 1
    funext x
    simp
  · unfold bkEnds
    rw [endsB_snoc, Nat.zero_add, Nat.zero_add, ← g2]
theorem rinv_fail {b : List UInt8} {e : Nat} (hE : endC b = some e) {rs : List Kv} {p : List UInt8} {o : Nat} (h : RInv b e rs p o) (ho : o < e) (hr : rowCk rs.length p ((b.take e).drop o) = none) : readCk b = none := by
  have he := endC_le hE
  have hn : (b.take e).drop o ≠ [] := fun c => by
    have := congrArg List.length c
    rw [List.length_drop, List.length_take, List.length_nil] at this; omega
  have hm := h.more
  rw [rowsC_none hr hn, Option.map_none] at hm
  unfold readCk
  rw [hE, Option.bind_some, rowsC_len he, hm, Option.bind_none]
theorem rinv_end {b : List UInt8} {e : Nat} (hE : endC b = some e) {rs : List Kv} {p : List UInt8} (h : RInv b e rs p e) : readCk b = if b.drop e = placesB (bkEnds rs) then some rs else none := by
  have he := endC_le hE
  have hn : (b.take e).drop e = [] := List.drop_of_length_le (by rw [List.length_take]; omega)
  have hm := h.more
  have h0 : rowsC (e - rs.length) rs.length p [] = some [] := by cases e - rs.length <;> rfl
  rw [hn, h0, Option.map_some, List.append_nil] at hm
  unfold readCk
  rw [hE, Option.bind_some, rowsC_len he, hm, Option.bind_some]
def BkReadRes (r : Option (List Kv)) (w : World) (e : Ending) (w' : World) : Prop :=
  ∃ v, e = .returned (.tuple #[v, .int .i64 (if r.isSome then 0 else 8)]) ∧ OwnK encKv 2 29 w.heap.size w' v (r.getD []) ∧ Below w.heap.size w w'
theorem endsOf_bd {b : List UInt8} {e : Nat} {rs : List Kv} {p : List UInt8} {o : Nat} (h : RInv b e rs p o) : ∀ x ∈ bkEnds rs, x ≤ o := by
  rw [h.at_len]
  exact ends_bd rs
theorem bkBlk2 {W : World} {g : Nat} {x y : Value} {t : TypeId} (h : BlkAt W g #[x, y] t) : W.cell? ⟨g, 0, none⟩ = some x ∧ W.cell? ⟨g, 1, none⟩ = some y := ⟨h.at 0, h.at 1⟩
set_option maxHeartbeats 8000000 in
theorem bkRead_any (v : Value) (b : List UInt8) (hb : b.length ≤ 1000000000) (w : World) (h : RdB w v b) : Calls Try.prog 13 #[v] w (BkReadRes (readCk b) w) := by
  obtain ⟨a, len, cap, rfl, hlen, hcap⟩ := h.form
  obtain ⟨R, hR⟩ : ∃ R, readCk b = R := ⟨_, rfl⟩
  rw [hR]
  have HR := Lib.hid hR
  have HEO : Hid (∀ W, Below w.heap.size w W → Calls Try.prog 27 #[.slice a len cap] W fun e w' => e = .returned (.tuple #[.int .i64 (((endC b).getD 0 : Nat) : Int), .bool (endC b).isSome]) ∧ W = w') := Lib.hid fun W hW => (endOf_any _ b (by omega) W (h.below hW)).mono fun e w' hh => ⟨hh.1, hh.2.symm⟩
  have hcl : len ≤ cap := by
    rcases Nat.eq_zero_or_pos len with e | e
    · omega
    · exact (hcap e).1
  have hlb : len ≤ 1000000000 := by omega
  have HRD := Lib.hid h
  have HLL := Lib.hid hlen
  clear hR h hcap
  cases hE : endC b with
  | none =>
    rw [hE] at HEO
    have HE : Hid (R = none) := Lib.hid (by rw [← HR.out]; unfold readCk; rw [hE]; rfl)
    clear hlen hb hE HR
    go_enter Try.func13, Try.ntmps13
    go_wp2_with fail
    refine (HEO.out _ (Below.refl _ _)).mono ?_
    rintro e w' ⟨rfl, rfl⟩
    go_wp2_with fail
    go_ret2
    rw [HE.out]
    exact ⟨_, rfl, OwnK.nil _ _ _ _ _, Below.refl _ _⟩
  | some e0 =>
    rw [hE] at HEO
    have he := endC_le hE
    have he0 : e0 ≤ len := by omega
    have HEE := Lib.hid hE
    clear hlen hb hE he
    go_enter Try.func13, Try.ntmps13
    go_wp2_with fail
    refine (HEO.out _ (Below.refl _ _)).mono ?_
    rintro e w' ⟨rfl, rfl⟩
    go_wp2_with fail
    go_loopg [6, 7, 8, 9] e0 (fun kk vr vp vl va wr => ∃ (rs : List Kv) (p : List UInt8) (o : Nat) (a6 a7 : Option Addr) (n6 c6 n7 c7 : Nat), vr = .slice a6 n6 c6 ∧ vp = .slice a7 n7 c7 ∧ vl = .string ⟨p.toArray⟩ ∧ va = .int .i64 (o : Int) ∧ o ≤ e0 ∧ e0 - o ≤ kk ∧ n6 ≤ o ∧ Hid (n6 = rs.length) ∧ Hid (RInv b e0 rs p o) ∧ Hid (OwnK encKv 2 29 w.heap.size wr (.slice a6 n6 c6) rs) ∧ Hid (OwnK encN 1 3 w.heap.size wr (.slice a7 n7 c7) (bkEnds rs)) ∧ Hid (Below w.heap.size w wr))
    case atStart => exact ⟨[], [], 0, none, none, 0, 0, 0, 0, rfl, rfl, rfl, rfl, by omega, by omega, by omega, Lib.hid rfl, Lib.hid (rinv_nil _ _), Lib.hid (OwnK.nil _ _ _ _ _), Lib.hid (OwnK.nil _ _ _ _ _), Lib.hid (Below.refl _ _)⟩
    case round =>
      clear HEO
      obtain ⟨rs, p, o, a6, a7, n6, c6, n7, c7, rfl, rfl, rfl, rfl, ho, hkk, hn6, HN6, HI, HOR, HOP, HB⟩ := hrel
      have hwr := HB.out.size
      by_cases h1 : o < e0
      · have hz1 : (o : Int) < (e0 : Int) := by omega
        have hsl := fun W => sl_lhB W a len cap o e0 (by omega) (by omega)
        have HM := (HRD.out.below HB.out).mid o e0 (by omega) he0
        generalize hT : (if cap = o then a else a.map (·.add o)) = T at hsl HM
        have HG : Hid (Calls Try.prog 28 #[.slice T (e0 - o) (cap - o), .int .i64 (n6 : Int), .string ⟨p.toArray⟩] wr fun e w' => e = .returned (bkRowV (rowCk rs.length p ((b.take e0).drop o))) ∧ Below wr.heap.size wr w') := Lib.hid (by
          have hs := HI.out.small
          have hbl : ((b.take e0).drop o).length = e0 - o := by rw [List.length_drop, List.length_take]; have := HLL.out; omega
          have hps : ((⟨p.toArray⟩ : ByteArray)).size = p.length := List.size_toArray
          rw [HN6.out]
          exact getRow_any _ ((b.take e0).drop o) (by omega) rs.length (by have := HN6.out; omega) ⟨p.toArray⟩ (by rw [hps, hbl]; omega) wr HM)
        obtain ⟨Q, hQ⟩ : ∃ Q, e0 - o = Q := ⟨_, rfl⟩
        obtain ⟨C, hC⟩ : ∃ C, cap - o = C := ⟨_, rfl⟩
        rw [hQ, hC] at HG
        simp only [hQ, hC] at hsl
        clear HM hT hQ hC
        cases hrow : rowCk rs.length p ((b.take e0).drop o) with
        | none =>
          have HE : Hid (R = none) := Lib.hid (by rw [← HR.out]; exact rinv_fail HEE.out HI.out h1 hrow)
          rw [hrow] at HG
          unfold bkRowV at HG
          clear hrow HI HR
          go_wp2_with fail
          refine HG.out.mono ?_
          rintro e w2 ⟨rfl, b2⟩
          have HB2 := Lib.hid (HB.out.trans (b2.mono hwr))
          clear b2 HG
          go_wp2_with fail
          go_ret2
          rw [HE.out]
          exact ⟨_, rfl, OwnK.nil _ _ _ _ _, HB2.out.alloc HB2.out.size _⟩
        | some q =>
          obtain ⟨r, k⟩ := q
          obtain ⟨s1, s2, s3, s4⟩ := rinv_step (by have := endC_le HEE.out; exact this) HI.out hrow
          have HI2 := Lib.hid s1
          have HEN := Lib.hid s4
          rw [hrow] at HG
          unfold bkRowV at HG
          clear hrow HI HR s1 s4
          have hk0 : ((k : Int) == 0) = false := by rw [beq_eq_false_iff_ne]; omega
          have hkb : k ≤ 1000000000 := by omega
          have hob : o ≤ 1000000000 := by omega
          have hn6b : n6 ≤ 1000000000 := by omega
          obtain ⟨q4, hq4⟩ : ∃ q, decide (n6 % 4 = 0) = q := ⟨_, rfl⟩
          have HQ4 := Lib.hid hq4
          have HW : Hid (∀ w, Calls Try.prog 21 #[.int .i64 (n6 : Int)] w fun e w' => e = .returned (.bool q4) ∧ w' = w) := Lib.hid (by rw [← hq4]; exact isWhole_any n6 (by omega))
          clear hq4
          go_wp2_with fail
          refine HG.out.mono ?_
          rintro e w2 ⟨rfl, b2⟩
          have HB2 := Lib.hid (HB.out.trans (b2.mono hwr))
          have HOR2 := Lib.hid (HOR.out.below b2)
          have HOP2 := Lib.hid (HOP.out.below b2)
          clear b2 HG HOR HOP HB hsl
          go_wp2_with fail
          have HBK : Hid (BlkAt (w2.alloc (.cells #[.string ⟨r.k.toArray⟩, .string ⟨r.v.toArray⟩] 29)) w2.heap.size #[.string ⟨r.k.toArray⟩, .string ⟨r.v.toArray⟩] 29) := Lib.hid (BlkAt.new _ _ _)
          have hal : Below w2.heap.size w2 (w2.alloc (.cells #[.string ⟨r.k.toArray⟩, .string ⟨r.v.toArray⟩] 29)) := (Below.refl _ w2).alloc (Nat.le_refl _) _
          have HB3 := Lib.hid (HB2.out.trans (hal.mono HB2.out.size))
          have HOR3 := Lib.hid (HOR2.out.below hal)
          have HOP3 := Lib.hid (HOP2.out.below hal)
          have hgr : Hid (∀ g, (Value.slice a6 n6 c6).ownBlock = some g → g < w2.heap.size) := Lib.hid fun g hg => row_lt HOR2.out g hg
          have hgp : Hid (∀ g, (Value.slice a7 n7 c7).ownBlock = some g → g < w2.heap.size) := Lib.hid fun g hg => row_lt HOP2.out g hg
          have hw2 := HB2.out.size
          clear hal HB2 HOR2 HOP2
          generalize w2.heap.size = g at *
          generalize w2.alloc (.cells #[.string ⟨r.k.toArray⟩, .string ⟨r.v.toArray⟩] 29) = w3 at *
          refine (HW.out _).mono ?_
          rintro e w3' ⟨rfl, hw3⟩
          subst hw3
          clear HW
          go_upto_if 37 with fail
          go_cut [7] (fun vp wx => ∃ (a8 : Option Addr) (n8 c8 : Nat), vp = .slice a8 n8 c8 ∧ Hid (OwnK encKv 2 29 w.heap.size wx (.slice a6 n6 c6) rs) ∧ Hid (OwnK encN 1 3 w.heap.size wx (.slice a8 n8 c8) (bkEnds (rs ++ [r]))) ∧ Hid (Below w.heap.size w wx) ∧ Hid (BlkAt wx g #[.string ⟨r.k.toArray⟩, .string ⟨r.v.toArray⟩] 29))
          case first =>
            as_aux_lemma =>
            cases q4 with
            | true =>
              have HEN2 : Hid (bkEnds (rs ++ [r]) = bkEnds rs ++ [o]) := Lib.hid (by rw [HEN.out, if_pos (by rw [← HN6.out]; exact of_decide_eq_true HQ4.out)])
              have hel : Hid ((bkEnds rs).length ≤ 1000000000) := Lib.hid (by rw [bkEnds_len]; have := HN6.out; omega)
              go_wp2_with (at_builtin; refine wp_oneK elemK_n encN_len _ _ (by rfl) (by rfl) (by rfl) HOP3.out o _ (by rfl) _ (by rfl) (by rfl) (encN_one _) ?c1 ?c2 HB3.out.size ?_)
              case c1 => have := hel.out; omega
              case c2 => have := hel.out; unfold maxLen; omega
              intro v5 w5 o5 b5 u5 n5
              have HOR5 := Lib.hid (HOP3.out.beside HOR3.out (by decide) u5)
              have HBK5 : Hid (BlkAt w5 g #[.string ⟨r.k.toArray⟩, .string ⟨r.v.toArray⟩] 29) := Lib.hid ((u5.block g HBK.out.lt (fun e => by have := hgp.out g e; omega)).trans HBK.out)
              have HB5 := Lib.hid (HB3.out.trans b5)
              rw [← HEN2.out] at o5
              obtain ⟨a5, c5, rfl, -⟩ := o5.kform
              have HO5 := Lib.hid o5
              clear o5 b5 u5 n5
              go_wp2_with fail
              go_meet
              exact ⟨_, _, _, rfl, HOR5, HO5, HB5, HBK5⟩
            | false =>
              have HEN2 : Hid (bkEnds (rs ++ [r]) = bkEnds rs) := Lib.hid (by rw [HEN.out, if_neg (by rw [← HN6.out]; exact of_decide_eq_false HQ4.out), List.append_nil])
              rw [← HEN2.out] at HOP3
              go_wp2_with fail
              go_meet
              exact ⟨_, _, _, rfl, HOR3, HOP3, HB3, HBK⟩
          case rest =>
          clear HBK HB3 HOR3 HOP3 hgp HEN
          obtain ⟨a8, n8, c8, rfl, HOR, HOP, HB, HBK⟩ := hcut
          have hwc := HB.out.size
          have hgl := HBK.out.lt
          obtain ⟨v4, w4, hrun, o4, b4, u4, -⟩ := run_oneK (ty := 22) elemK_row encKv_len (w := wc.drew) HOR.out r (encKv_one r) (by have := HN6.out; omega) (by have := HN6.out; unfold maxLen; omega) hwc
          have HRUN := Lib.hid hrun
          have HOP4 := Lib.hid (HOR.out.beside (w := wc.drew) HOP.out (by decide) u4)
          have HB4 := Lib.hid (HB.out.drew.trans b4)
          have HBK2 : Hid (BlkAt (wc.drew.alloc (.cells (encKv r).toArray 29)) g #[.string ⟨r.k.toArray⟩, .string ⟨r.v.toArray⟩] 29) := Lib.hid (BlkAt.more (w := wc.drew) HBK.out _)
          have HBK4 : Hid (BlkAt w4 g #[.string ⟨r.k.toArray⟩, .string ⟨r.v.toArray⟩] 29) := Lib.hid ((u4.block g hgl (fun e => by have := hgr.out g e; omega)).trans HBK.out)
          obtain ⟨a9, c9, rfl, -⟩ := o4.kform
          obtain ⟨n9, hn9⟩ : ∃ n9, (rs ++ [r]).length = n9 := ⟨_, rfl⟩
          have HN9 : Hid (n9 = (rs ++ [r]).length) := Lib.hid hn9.symm
          have hn9b : n9 ≤ o + k := by have := HN6.out; rw [← hn9, List.length_append, List.length_singleton]; omega
          have HO4 := Lib.hid o4
          rw [hn9] at HO4 HRUN
          clear hrun o4 b4 u4 hn9 HOR HOP
          go_wp2_with fail
          refine wp_region_held_drew (S := fun W => BlkAt W g #[.string ⟨r.k.toArray⟩, .string ⟨r.v.toArray⟩] 29) (by kernel_rfl) HBK.out (fun hHeld => ?_)
          refine takeYes (i := 0) (k := 42) (v := .slice a6 n6 c6) rfl (by kernel_rfl) (by kernel_rfl) (by kernel_rfl) (by kernel_rfl) (fun _ _ _ h => h) (by kernel_rfl) ?_ (by assumption) ?_
          · intro W hSw; first | (go_simp; done) | go_simp
          try simp only [Act.put, List.setIfInBounds_toArray, List.set_cons_zero, List.set_cons_succ]
          refine takeYes (i := 1) (k := 43) (v := .agg #[.string ⟨r.k.toArray⟩, .string ⟨r.v.toArray⟩]) rfl (by kernel_rfl) (by kernel_rfl) (by kernel_rfl) (by kernel_rfl) (fun _ _ _ h => h) (by kernel_rfl) ?_ (by assumption) ?_
          · intro W hSw; obtain ⟨d0, d1⟩ := bkBlk2 hSw; first | (go_simp; done) | go_simp
          try simp only [Act.put, List.setIfInBounds_toArray, List.set_cons_zero, List.set_cons_succ]
          refine takeYes (i := 4) (k := 46) (v := .pointer (some ⟨g, 0, none⟩)) rfl (by kernel_rfl) (by kernel_rfl) (by kernel_rfl) (by kernel_rfl) (fun _ _ _ h => h) (by kernel_rfl) ?_ (by assumption) ?_
          · intro W hSw; first | (go_simp; done) | go_simp
          try simp only [Act.put, List.setIfInBounds_toArray, List.set_cons_zero, List.set_cons_succ]
          refine takeYes (i := 5) (k := 47) (v := .string ⟨r.k.toArray⟩) rfl (by kernel_rfl) (by kernel_rfl) (by kernel_rfl) (by kernel_rfl) (fun _ _ _ h => h) (by kernel_rfl) ?_ (by assumption) ?_
          · intro W hSw; obtain ⟨d0, d1⟩ := bkBlk2 hSw; first | (go_simp; done) | go_simp
          try simp only [Act.put, List.setIfInBounds_toArray, List.set_cons_zero, List.set_cons_succ]
          refine takeYes (i := 6) (k := 48) (v := .int .i64 (o : Int)) rfl (by kernel_rfl) (by kernel_rfl) (by kernel_rfl) (by kernel_rfl) (fun _ _ _ h => h) (by kernel_rfl) ?_ (by assumption) ?_
          · intro W hSw; first | (go_simp; done) | go_simp
          try simp only [Act.put, List.setIfInBounds_toArray, List.set_cons_zero, List.set_cons_succ]
          refine takeYes (i := 7) (k := 49) (v := .int .i64 (k : Int)) rfl (by kernel_rfl) (by kernel_rfl) (by kernel_rfl) (by kernel_rfl) (fun _ _ _ h => h) (by kernel_rfl) ?_ (by assumption) ?_
          · intro W hSw; first | (go_simp; done) | go_simp
          try simp only [Act.put, List.setIfInBounds_toArray, List.set_cons_zero, List.set_cons_succ]
          refine takeYes (i := 8) (k := 50) (v := .int .i64 ((o : Int) + (k : Int))) rfl (by kernel_rfl) (by kernel_rfl) (by kernel_rfl) (by kernel_rfl) (fun _ _ _ h => h) (by kernel_rfl) ?_ (by assumption) ?_
          · intro W hSw; have hwp : IntKind.i64.wrap ((o : Int) + (k : Int)) = (o : Int) + (k : Int) := IntWalk.i64_in _ (by omega)
            first | (go_simp; done) | (go_simp; first | done | rw [hwp])
          try simp only [Act.put, List.setIfInBounds_toArray, List.set_cons_zero, List.set_cons_succ]
          refine wpAnyH_ready (rs := [2]) (by kernel_rfl) (by simp) (AllReadyH.cons rfl (fun K hK => ?_) AllReadyH.nil)
          go_simp
          refine hK.out _ _ HBK2.out (fun hHeld2 => ?_)
          clear hK K hHeld
          try simp only [Act.put, List.setIfInBounds_toArray, List.set_cons_zero, List.set_cons_succ]
          refine wpAnyH_ready (rs := [3]) (by kernel_rfl) (by simp) (AllReadyH.cons rfl (fun K hK => ?_) AllReadyH.nil)
          refine step_appD 45 rfl (by kernel_rfl) (.tmp 42) (.tmp 44) 22 rfl rfl rfl HRUN.out ?_
          refine hK.out _ _ HBK4.out (fun hHeld3 => ?_)
          clear hK K hHeld2
          try simp only [Act.put, List.setIfInBounds_toArray, List.set_cons_zero, List.set_cons_succ]
          refine takeYes (i := 9) (k := 6) (v := .slice a9 n9 c9) rfl (by kernel_rfl) (by kernel_rfl) (by kernel_rfl) (by kernel_rfl) (fun _ _ _ h => h) (by kernel_rfl) ?_ (by assumption) ?_
          · intro W hSw; first | (go_simp; done) | go_simp
          try simp only [Act.put, List.setIfInBounds_toArray, List.set_cons_zero, List.set_cons_succ]
          refine takeYes (i := 10) (k := 8) (v := .string ⟨r.k.toArray⟩) rfl (by kernel_rfl) (by kernel_rfl) (by kernel_rfl) (by kernel_rfl) (fun _ _ _ h => h) (by kernel_rfl) ?_ (by assumption) ?_
          · intro W hSw; first | (go_simp; done) | go_simp
          try simp only [Act.put, List.setIfInBounds_toArray, List.set_cons_zero, List.set_cons_succ]
          refine takeYes (i := 11) (k := 9) (v := .int .i64 ((o : Int) + (k : Int))) rfl (by kernel_rfl) (by kernel_rfl) (by kernel_rfl) (by kernel_rfl) (fun _ _ _ h => h) (by kernel_rfl) ?_ (by assumption) ?_
          · intro W hSw; first | (go_simp; done) | go_simp
          try simp only [Act.put, List.setIfInBounds_toArray, List.set_cons_zero, List.set_cons_succ]
          refine wpAnyH_done (by kernel_rfl) ?_ _
          clear hHeld3
          go_wp2_with fail
          go_roundg (e0 - (o + k))
          case measure => omega
          case rel => exact ⟨rs ++ [r], r.k, o + k, a9, a8, n9, c9, n8, c8, rfl, rfl, rfl, by go_num, by omega, by omega, hn9b, HN9, HI2, HO4, HOP4, HB4⟩
      · obtain rfl : o = e0 := by omega
        have hz1 : ¬ (o : Int) < (o : Int) := by omega
        have HE : Hid (R = if b.drop o = placesB (bkEnds rs) then some rs else none) := Lib.hid (by rw [← HR.out]; exact rinv_end HEE.out HI.out)
        have hsl := fun W => sl_lB W a len cap o (by omega) (by omega)
        have HM := (HRD.out.below HB.out).drop o (by omega)
        generalize hT : (if cap = o then a else a.map (·.add o)) = T at hsl HM
        obtain ⟨Q, hQ⟩ : ∃ Q, len - o = Q := ⟨_, rfl⟩
        obtain ⟨C, hC⟩ : ∃ C, cap - o = C := ⟨_, rfl⟩
        rw [hQ, hC] at HM
        simp only [hQ, hC] at hsl
        obtain ⟨q, hq⟩ : ∃ q, decide (b.drop o = placesB (bkEnds rs)) = q := ⟨_, rfl⟩
        have HE2 : Hid (q = true → R = some rs) := Lib.hid fun h => by rw [HE.out, if_pos (of_decide_eq_true (by rw [hq]; exact h))]
        have HE3 : Hid (q = false → R = none) := Lib.hid fun h => by rw [HE.out, if_neg (of_decide_eq_false (by rw [hq]; exact h))]
        have HMM := Lib.hid (show RdB wr.drew (.slice T Q C) (b.drop o) from HM)
        have HPP : Hid (Calls Try.prog 26 #[.slice a7 n7 c7] wr.drew (MkB (placesB (bkEnds rs)) wr.drew)) := Lib.hid (by
          refine putPlaces_any _ (bkEnds rs) ?_ ?_ wr.drew (OwnV.rd (w := wr.drew) HOP.out.places)
          · rw [bkEnds_len]; have := HN6.out; omega
          · intro x hx
            have := endsOf_bd HI.out x hx
            omega)
        clear hT hQ hC HM HE HR HI HOP
        go_wp2_with fail
        refine wp_region_held_drew (S := fun _ => True) (by kernel_rfl) trivial (fun hHeld => ?_)
        refine takeYes (i := 0) (k := 51) (v := .slice a len cap) rfl (by kernel_rfl) (by kernel_rfl) (by kernel_rfl) (by kernel_rfl) (fun _ _ _ h => h) (by kernel_rfl) ?_ (by assumption) ?_
        · intro W hSw; first | (go_simp; done) | go_simp
        try simp only [Act.put, List.setIfInBounds_toArray, List.set_cons_zero, List.set_cons_succ]
        refine takeYes (i := 1) (k := 52) (v := .int .i64 (o : Int)) rfl (by kernel_rfl) (by kernel_rfl) (by kernel_rfl) (by kernel_rfl) (fun _ _ _ h => h) (by kernel_rfl) ?_ (by assumption) ?_
        · intro W hSw; first | (go_simp; done) | go_simp
        try simp only [Act.put, List.setIfInBounds_toArray, List.set_cons_zero, List.set_cons_succ]
        refine takeYes (i := 2) (k := 53) (v := .slice T Q C) rfl (by kernel_rfl) (by kernel_rfl) (by kernel_rfl) (by kernel_rfl) (fun _ _ _ h => h) (by kernel_rfl) ?_ (by assumption) ?_
        · intro W hSw; have hsl2 := hsl W; first | (go_simp; done) | go_simp
        try simp only [Act.put, List.setIfInBounds_toArray, List.set_cons_zero, List.set_cons_succ]
        refine takeYes (i := 3) (k := 54) (v := .slice a7 n7 c7) rfl (by kernel_rfl) (by kernel_rfl) (by kernel_rfl) (by kernel_rfl) (fun _ _ _ h => h) (by kernel_rfl) ?_ (by assumption) ?_
        · intro W hSw; first | (go_simp; done) | go_simp
        try simp only [Act.put, List.setIfInBounds_toArray, List.set_cons_zero, List.set_cons_succ]
        refine wpAnyH_ready (rs := [4]) (by kernel_rfl) (by simp) (AllReadyH.cons rfl (fun K hK => ?_) AllReadyH.nil)
        go_simp
        refine HPP.out.mono ?_
        rintro e w5 ⟨v5, rfl, o5, b5⟩
        refine hK.out _ _ trivial (fun hHeld2 => ?_)
        clear hK K hHeld
        try simp only [Act.put, List.setIfInBounds_toArray, List.set_cons_zero, List.set_cons_succ]
        obtain ⟨a5, n5, c5, rfl, -⟩ := o5.form
        have HBE : Hid (Calls Try.prog 29 #[.slice T Q C, .slice a5 n5 c5] w5 fun e w' => e = .returned (.bool q) ∧ DrN w5 w') := Lib.hid (by rw [← hq]; exact bequal_any _ _ _ _ _ (HMM.out.below b5) o5.rd)
        have HB5 := Lib.hid (HB.out.drew.trans (b5.mono hwr))
        have HOR5 := Lib.hid (OwnK.below (w := wr.drew) HOR.out b5)
        clear o5 b5 HPP HB HOR
        refine wpAnyH_ready (rs := [5]) (by kernel_rfl) (by simp) (AllReadyH.cons rfl (fun K hK => ?_) AllReadyH.nil)
        go_simp
        refine HBE.out.mono ?_
        rintro e w6 ⟨rfl, d6⟩
        refine hK.out _ _ trivial (fun hHeld3 => ?_)
        clear hK K hHeld2
        try simp only [Act.put, List.setIfInBounds_toArray, List.set_cons_zero, List.set_cons_succ]
        refine takeYes (i := 6) (k := 57) (v := .bool (!q)) rfl (by kernel_rfl) (by kernel_rfl) (by kernel_rfl) (by kernel_rfl) (fun _ _ _ h => h) (by kernel_rfl) ?_ (by assumption) ?_
        · intro W hSw; first | (go_simp; done) | go_simp
        try simp only [Act.put, List.setIfInBounds_toArray, List.set_cons_zero, List.set_cons_succ]
        refine wpAnyH_done (by kernel_rfl) ?_ _
        have b6 := d6.below w5.heap.size
        have HB6 := Lib.hid (HB5.out.trans (b6.mono HB5.out.size))
        have HOR6 := Lib.hid (HOR5.out.below b6)
        clear hHeld3 HB5 HOR5 d6 b6 HBE
        cases q with
        | true =>
          have HV := Lib.hid (HE2.out rfl)
          clear HE2 HE3
          go_wp2_with fail
          go_ret2
          rw [HV.out]
          exact ⟨_, rfl, HOR6.out, HB6.out⟩
        | false =>
          have HV := Lib.hid (HE3.out rfl)
          clear HE2 HE3
          go_wp2_with fail
          go_ret2
          rw [HV.out]
          exact ⟨_, rfl, OwnK.nil _ _ _ _ _, HB6.out⟩
end Go.Proofs.Ytaddihabjdoihaa
