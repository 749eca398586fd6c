/- What every law of streams begins with. -/
import Derived.Test.YtnooloojnhodiaaGreatDoorMStrm
import Derived.Test.YtnooloojnhodiaaGreatDoorMNormB
import Derived.Lib.SlBytesConst
namespace Go.Proofs.YtnooloojnhodiaaGreatDoor
set_option linter.unusedVariables false
open Go.RowKit
theorem open_at {w : World} {b : Nat} {p out o : List UInt8} {l S H : List Int} {r : List UInt8} (h : OpenAt w b p out) (hd : Dec p l r) (hr : (firstP r).2 = 0) (hrun : runH [] [] (partsP l) = some (S, H)) (hw : writeP S = some o) : out = o ∧ ∃ cut, StrmAt w b cut H := by
  obtain ⟨l', cut, S', H', h1, h2, h3, h4, h5, h6, h7⟩ := h
  obtain ⟨rfl, -⟩ := dec_unique h1 hd h3 hr
  rw [hrun] at h2
  simp only [Option.some.injEq, Prod.mk.injEq] at h2
  obtain ⟨rfl, rfl⟩ := h2
  rw [hw] at h5
  exact ⟨(Option.some.inj h5).symm, cut, h6⟩
theorem lit_by (w : World) (bs : List UInt8) (cs : Array Value) (fr : Nat × Nat) (n B : Nat) (hn : bs.length = n) (hc : (bs.map bv).toArray = cs) (hB : B ≤ w.heap.size) : BySl B (w.alloc (.cells cs 5 fr)) (.slice (some ⟨w.heap.size, 0, none⟩) n n) bs := by
  subst hn hc
  refine .inr ⟨w.heap.size, 0, bs.length, rfl, hB, by simp, fun i hi => ?_⟩
  unfold World.cell?
  rw [heap_alloc_new]
  simp [List.getD_eq_getElem?_getD, List.getElem?_eq_getElem hi, bv]
theorem StepRes.ok {w w' : World} {b : Nat} {p out s x T : List UInt8} {L : List Int} {e : Ending} (h : StepRes w b p out s e w') (g : Good T L) (hx : (p ++ s) ++ x = T) : Upd b w w' ∧ ∃ v o, e = .returned (.tuple #[v, .int .i64 0]) ∧ BySl w.heap.size w' v o ∧ OpenAt w' b (p ++ s) (out ++ o) := by
  obtain ⟨hU, h | h | ⟨v, o, h1, h2, h3⟩⟩ := h
  · exact absurd h.1 (good_many g hx)
  · exact absurd h.1 (good_begin g hx)
  · exact ⟨hU, v, o, h1, BySl.own h2, h3⟩
theorem EndRes.ok {w w' : World} {b : Nat} {p out f : List UInt8} {L : List Int} {e : Ending} (h : EndRes w b p out e w') (g : readP p = some L) (hf : textP p = some f) : Upd b w w' ∧ ∃ v bs, e = .returned (.tuple #[v, .int .i64 0]) ∧ BySl w.heap.size w' v bs ∧ out ++ bs = f ∧ DeadAt w' b 11 := by
  obtain ⟨hU, ⟨h1, -⟩ | ⟨L', v, bs, h1, h2, h3, h4, h5⟩⟩ := h
  · rw [g] at h1; cases h1
  · rw [hf] at h2; exact ⟨hU, v, bs, h3, h4, (Option.some.inj h2).symm, h5⟩
theorem bg_good : Good [120, 97, 204, 129] [120, 97, 769] := ⟨by decide +kernel, by decide +kernel⟩
theorem bg_text' : textP [120, 97, 204, 129] = some [120, 97, 204, 129] := by decide +kernel
theorem bg_run1 : runH [] [] (partsP [120, 97]) = some ([120], [97]) := by decide +kernel
theorem bg_run2 : runH [] [] (partsP [120, 97, 769]) = some ([120], [97, 769]) := by decide +kernel
set_option maxHeartbeats 8000000 in
set_option maxRecDepth 100000 in
theorem sbegun_any (w : World) (hE : ErrAt w) (hSp : SpAt w) :
    Calls Tryz.prog 6 #[] w fun e w' => e = .returned (.bool true) ∧ Below w.heap.size w w' := by
  have HW : Hid (∀ (w' : World) (p out : List UInt8) (v : Value) (B : Nat) (s : ByteArray), Below w.heap.size w w' → OpenAt w' w.heap.size p out → BySl B w' v s.data.toList → s.size ≤ 10000 → Calls Tryz.prog 12 #[.pointer (some ⟨w.heap.size, 0, none⟩), v] w' (StepRes w' w.heap.size p out s.data.toList)) := Lib.hid fun w' p out v B s hb h hv hl => write_step w w' hE hSp hb _ (Nat.le_refl _) p out h v B s hv hl
  have HCl : Hid (∀ (w' : World) (p out : List UInt8), Below w.heap.size w w' → OpenAt w' w.heap.size p out → Calls Tryz.prog 14 #[.pointer (some ⟨w.heap.size, 0, none⟩)] w' (EndRes w' w.heap.size p out)) := Lib.hid fun w' p out hb h => close_step w w' hE hSp hb _ (Nat.le_refl _) p out h
  clear hE hSp
  go_enter Tryz.func6, Tryz.ntmps6
  go_wp2_with fail
  refine (new_any w).mono ?_
  rintro e w1 ⟨rfl, hb1, hz1, hst1⟩
  have hal : Below w1.heap.size w1 (w1.alloc (.cells #[.int .u8 120, .int .u8 97] 5 (2, 3))) := (Below.refl _ _).alloc (Nat.le_refl _) _
  have HA1 := Lib.hid (HW.out (w1.alloc (.cells #[.int .u8 120, .int .u8 97] 5 (2, 3))) [] [] _ 0 ⟨#[120, 97]⟩ (hb1.trans (hal.mono hb1.size)) ((open_new hst1).below hal) (lit_by w1 [120, 97] _ _ 2 0 rfl rfl (Nat.zero_le _)) (by show 2 ≤ 10000; omega))
  have HB1 : Hid (Below w.heap.size w (w1.alloc (.cells #[.int .u8 120, .int .u8 97] 5 (2, 3)))) := Lib.hid (hb1.trans (hal.mono hb1.size))
  have hcv1 := Lib.run_convert_bytes_const (P := Tryz.prog) w1 32 5 #[.int .u8 120, .int .u8 97] 2 2 Tryz.underlying32 Tryz.underlying5
  have HZ := Lib.hid hz1
  clear hal hst1 hb1 hz1
  go_wp2_with fail
  refine HA1.out.mono ?_
  intro e w2 hr
  obtain ⟨hU, va, oa, rfl, hva, hop⟩ := hr.ok (x := [204, 129]) bg_good rfl
  obtain ⟨eo, cut2, hst2⟩ := open_at hop (l := [120, 97]) (r := []) ⟨[120, 97], by decide +kernel, rfl⟩ rfl bg_run1 (o := [120]) (by decide +kernel)
  have eo2 : oa = [120] := eo
  subst eo2
  have HB2 : Hid (Below w.heap.size w w2) := Lib.hid (hU.below HB1.out (Nat.le_refl _) HB1.out.size)
  have hblt : w.heap.size < w2.heap.size := hst2.lt
  have HHD := Lib.hid (held_open w2 w.heap.size cut2 _ hst2)
  have HVA : Hid (BySl (w.heap.size + 1) w2 va [120]) := Lib.hid (by
    rcases hva with h | ⟨g, off, cap, k1, k2, k3, k4⟩
    · exact .inl h
    · exact .inr ⟨g, off, cap, k1, by have := HZ.out; simp at k2; omega, k3, k4⟩)
  have HOP := Lib.hid hop
  clear hr hU hva hop eo hst2 HA1 HB1
  go_wp2_with fail
  refine HHD.out.mono ?_
  rintro e w' ⟨rfl, rfl⟩
  have hal : Below w2.heap.size w2 (w2.alloc (.cells #[.int .u8 204, .int .u8 129] 5 (2, 3))) := (Below.refl _ _).alloc (Nat.le_refl _) _
  have HA2 := Lib.hid (HW.out (w2.alloc (.cells #[.int .u8 204, .int .u8 129] 5 (2, 3))) _ _ _ 0 ⟨#[204, 129]⟩ (HB2.out.trans (hal.mono HB2.out.size)) (HOP.out.below hal) (lit_by w2 [204, 129] _ _ 2 0 rfl rfl (Nat.zero_le _)) (by show 2 ≤ 10000; omega))
  have HB3 : Hid (Below w.heap.size w (w2.alloc (.cells #[.int .u8 204, .int .u8 129] 5 (2, 3)))) := Lib.hid (HB2.out.trans (hal.mono HB2.out.size))
  have HVA2 := Lib.hid (HVA.out.below hal)
  have hcv2 := Lib.run_convert_bytes_const (P := Tryz.prog) w2 32 5 #[.int .u8 204, .int .u8 129] 2 2 Tryz.underlying32 Tryz.underlying5
  clear hal HHD HVA HOP HB2
  go_wp2_with fail
  refine HA2.out.mono ?_
  intro e w3 hr
  obtain ⟨hU, vb, ob, rfl, hvb, hop⟩ := hr.ok (x := []) bg_good rfl
  obtain ⟨eo, cut3, hst3⟩ := open_at hop (l := [120, 97, 769]) (r := []) ⟨[120, 97, 204, 129], by decide +kernel, rfl⟩ rfl bg_run2 (o := [120]) (by decide +kernel)
  have eo2 : ob = [] := by simpa using eo
  subst eo2
  have HB4 : Hid (Below w.heap.size w w3) := Lib.hid (hU.below HB3.out (Nat.le_refl _) HB3.out.size)
  have HVA3 := Lib.hid (HVA2.out.upd hU (by omega))
  obtain ⟨ab, capb, evb⟩ := hvb.len
  subst evb
  have HCL := Lib.hid (HCl.out w3 _ _ HB4.out hop)
  clear hr hU hvb hop eo hst3 HA2 HB3 HVA2
  go_wp2_with fail
  refine HCL.out.mono ?_
  intro e w4 hr
  obtain ⟨hU, vc, oc, rfl, hvc, hf, hd⟩ := hr.ok (L := [120, 97, 769]) bg_good.1 bg_text'
  have eo2 : oc = [97, 204, 129] := by simpa using hf
  subst eo2
  have HB5 : Hid (Below w.heap.size w w4) := Lib.hid (hU.below HB4.out (Nat.le_refl _) HB4.out.size)
  have HCA := Lib.hid (conv_by (HVA3.out.upd hU (by omega)))
  have HCC := Lib.hid (conv_by hvc)
  have HWD := Lib.hid (write_dead w4 w.heap.size 11 (by decide) hd (.slice none 0 0))
  clear hr hU hvc hf hd HVA3 HCL HB4
  go_wp2_with fail
  refine HWD.out.mono ?_
  rintro e w5 ⟨rfl, rfl⟩
  have hca := HCA.out
  have hcc := HCC.out
  clear HCA HCC
  go_wp2_with fail
  go_ret
  exact ⟨rfl, HB5.out⟩
end Go.Proofs.YtnooloojnhodiaaGreatDoor
/- The walk of the statements' marks: do more than thirty marks stand behind one another. -/
namespace Go.Proofs.YtnooloojnhodiaaGreatDoor
set_option linter.unusedVariables false
open Go.RowKit
theorem rk_yes {k : Nat} {x : Int} {L : List Int} (h : classP x = 0) : rk k (x :: L) = rk 0 L := by
  unfold rk; rw [List.map_cons, rkB, if_pos (stB_yes.2 h)]
theorem rk_no {k : Nat} {x : Int} {L : List Int} (h : classP x ≠ 0) : rk k (x :: L) = if k < 30 then rk (k + 1) L else false := by
  unfold rk; rw [List.map_cons, rkB, if_neg (by rw [stB_yes]; exact h)]
theorem drop_bang (L : List Int) (k : Nat) (h : k < L.length) : L.drop k = L[k]! :: L.drop (k + 1) := by
  rw [List.drop_eq_getElem_cons h, getElem!_pos L k h]
set_option maxHeartbeats 4000000 in
set_option maxRecDepth 100000 in
theorem marks_any (w : World) (v : Value) (xs : List Int) (hv : RdI w v xs) (hok : IntOk xs) (hl : xs.length ≤ 1000000) :
    Calls Tryz.prog 10 #[v, .int .i64 30] w fun e w' => e = .returned (.bool (!rk 0 xs)) ∧ Below w.heap.size w w' := by
  obtain ⟨a, n, cap, rfl, hn, hc⟩ := hv.walk
  have HC := Lib.hid hc
  have HN : Hid (n = xs.length) := hn
  have hnl : n ≤ 1000000 := by omega
  have HOK := Lib.hid hok
  obtain ⟨r, hr⟩ : ∃ r, (!rk 0 xs) = r := ⟨_, rfl⟩
  have HR : Hid (r = !rk 0 (xs.drop 0)) := Lib.hid (by rw [List.drop_zero, hr])
  rw [hr]
  clear hr hv hc hn hok hl
  go_enter Tryz.func10, Tryz.ntmps10
  go_wp2_with fail
  go_loopw [5, 6] (fun kv iv wr => ∃ (k i : Nat), kv = .int .i64 k ∧ iv = .int .i64 i ∧ i ≤ n ∧ k ≤ 30 ∧ Below w.heap.size w wr ∧ Hid (r = !rk k (xs.drop i))) (fun _ i _ => n - (intOf i).toNat)
  case atStart => exact ⟨0, 0, rfl, rfl, Nat.zero_le _, Nat.zero_le _, Below.refl _ _, HR⟩
  case round =>
    clear HR
    obtain ⟨k, i, rfl, rfl, hi, hk, hb, HRt⟩ := hrel
    by_cases hlt : i < n
    · obtain ⟨g, off, rfl, hg, c1⟩ := HC.out i (by have := HN.out; omega)
      have hm : xs[i]! ∈ xs := by rw [getElem!_pos xs i (by have := HN.out; omega)]; exact List.getElem_mem _
      have hok := HOK.out _ hm
      have hdr := drop_bang xs i (by have := HN.out; omega)
      obtain ⟨x, hx⟩ : ∃ x, xs[i]! = x := ⟨_, rfl⟩
      rw [hx] at c1 hok hdr
      have HD := Lib.hid hdr
      have d1 : wr.cell? ⟨g, off + i, none⟩ = some (.int .i64 x) := (hb.cell hg).trans c1
      have HK : Hid (Calls Tryz.prog 19 #[.int .i64 x] wr (IntRes (classP x) wr)) := Lib.hid (rclass_any x hok.1 hok.2 wr)
      have h0i : (0 : Int) ≤ (i : Int) := by omega
      have hin : (i : Int) < (n : Int) := by omega
      obtain ⟨q, hq⟩ : ∃ q, classP x = q := ⟨_, rfl⟩
      rw [hq] at HK
      have HQ := Lib.hid hq
      clear hm hok hdr hx c1 hq
      by_cases h0 : q = 0
      · subst h0
        go_wp2_with fail
        refine HK.out.mono ?_
        rintro e w2 ⟨rfl, hb2⟩
        have HB2 := Lib.hid (hb.trans (hb2.mono hb.size))
        clear hb2
        go_wp2_with fail
        go_roundw
        case rel => exact ⟨0, i + 1, rfl, by go_num, hlt, Nat.zero_le _, HB2.out, Lib.hid (by rw [HRt.out, HD.out, rk_yes HQ.out])⟩
        case measure => simp [intOf]; omega
      · have h0b : (q == 0) = false := by simpa using h0
        by_cases hk30 : k < 30
        · have hkk : ¬ (30 < (k : Int) + 1) := by omega
          go_wp2_with fail
          refine HK.out.mono ?_
          rintro e w2 ⟨rfl, hb2⟩
          have HB2 := Lib.hid (hb.trans (hb2.mono hb.size))
          clear hb2
          go_wp2_with fail
          go_roundw
          case rel => exact ⟨k + 1, i + 1, by go_num, by go_num, hlt, hk30, HB2.out, Lib.hid (by rw [HRt.out, HD.out, rk_no (by rw [HQ.out]; exact h0), if_pos hk30])⟩
          case measure => simp [intOf]; omega
        · have hkk : 30 < (k : Int) + 1 := by omega
          have hr : r = true := by rw [HRt.out, HD.out, rk_no (by rw [HQ.out]; exact h0), if_neg hk30]; rfl
          subst hr
          clear HRt
          go_wp2_with fail
          refine HK.out.mono ?_
          rintro e w2 ⟨rfl, hb2⟩
          have HB2 := Lib.hid (hb.trans (hb2.mono hb.size))
          clear hb2
          go_wp2_with fail
          go_ret
          exact ⟨rfl, HB2.out⟩
    · obtain rfl : i = n := by omega
      have hr : r = false := by rw [HRt.out, List.drop_of_length_le (by have := HN.out; omega)]; rfl
      subst hr
      clear HRt
      go_wp2_with fail
      go_ret
      exact ⟨rfl, hb⟩
end Go.Proofs.YtnooloojnhodiaaGreatDoor
/- What the laws of streams ask of a text first. -/
namespace Go.Proofs.YtnooloojnhodiaaGreatDoor
set_option linter.unusedVariables false
open Go.RowKit
theorem swf_bd {c : Int} (wf : (Lit.int .i64 c).wf = true) : -9223372036854775808 ≤ c ∧ c ≤ 9223372036854775807 := by
  simp [Lit.wf, IntKind.min, IntKind.max, IntKind.signed, IntKind.bits] at wf; omega
/-- A text: none, or with its form, which has too many marks or not. -/
inductive TextCase (T : List UInt8) : Prop
  | bad (h1 : textP T = none) (h2 : ∀ L, ¬ Good T L)
  | many (L : List Int) (f : List UInt8) (h1 : readP T = some L) (h2 : textP T = some f) (h3 : readP f = some (charsP L)) (h4 : rk 0 (charsP L) = false) (h5 : ∀ L, ¬ Good T L) (h6 : f.length ≤ 40 * T.length) (h7 : (charsP L).length ≤ 10 * T.length) (h8 : IntOk (charsP L))
  | good (L : List Int) (f : List UInt8) (h1 : readP T = some L) (h2 : textP T = some f) (h3 : readP f = some (charsP L)) (h4 : rk 0 (charsP L) = true) (h6 : f.length ≤ 40 * T.length) (h7 : (charsP L).length ≤ 10 * T.length) (h8 : IntOk (charsP L))
theorem text_case (T : List UInt8) : TextCase T := by
  cases hr : readP T with
  | none => exact .bad (text_none T hr) fun L g => by have := g.1; rw [hr] at this; cases this
  | some L =>
    obtain ⟨f, e1, e2, e3⟩ := text_some T L hr
    have h6 : f.length ≤ 40 * T.length := by
      have a1 := wr_le _ _ e1
      have a2 := read_len T L hr
      have a3 := flat_len L
      rw [chars_len] at a1; omega
    have h7 : (charsP L).length ≤ 10 * T.length := by
      have a2 := read_len T L hr
      have a3 := flat_len L
      rw [chars_len]; omega
    have h8 : IntOk (charsP L) := valid_range (chars_valid L (read_valid T L hr))
    cases hk : rk 0 (charsP L) with
    | true => exact .good L f hr e2 e3 hk h6 h7 h8
    | false => exact .many L f hr e2 e3 hk (fun L' g => by
        have := g.1; rw [hr] at this; obtain rfl := Option.some.inj this
        have := g.2; rw [hk] at this; cases this) h6 h7 h8
theorem open_len {w : World} {b : Nat} {p out : List UInt8} (h : OpenAt w b p out) : out.length ≤ 40 * p.length := by
  obtain ⟨l, cut, S, H, ⟨a, h1, h1'⟩, h2, h3, h4, h5, h6, h7⟩ := h
  have e1 := runH_len _ _ _ _ _ h2
  have e2 := wr_le _ _ h5
  have e3 := parts_len l
  have e4 := read_len a l (read_write' l a h1)
  have e5 := congrArg List.length h1'
  rw [List.length_append] at e5
  simp only [List.length_nil] at e1
  omega
theorem TextRes.none {w w' : World} {e : Ending} (h : TextRes w none e w') : e = .returned (.tuple #[.string ⟨#[]⟩, .bool false]) ∧ Below w.heap.size w w' := h
theorem TextRes.some {w w' : World} {e : Ending} {f : List UInt8} (h : TextRes w (some f) e w') : e = .returned (.tuple #[.string ⟨f.toArray⟩, .bool true]) ∧ Below w.heap.size w w' := h
end Go.Proofs.YtnooloojnhodiaaGreatDoor
/- The walk of the statements' early: all that can stand has come, and the rest is held. -/
namespace Go.Proofs.YtnooloojnhodiaaGreatDoor
set_option linter.unusedVariables false
open Go.RowKit
/-- What is known of a Stream, read off all characters that were written. -/
theorem early_parts {l S H : List Int} (h : runH [] [] (partsP l) = some (S, H)) : ∃ H', charsP l = S ++ H' ∧ H'.length = H.length ∧ ((∃ x M, H' = x :: M ∧ classP x = 0 ∧ ∀ y ∈ M, classP y ≠ 0) ∨ (S = [] ∧ ∀ y ∈ H', classP y ≠ 0)) := by
  obtain ⟨A, a1, a2, a3⟩ := runH_inv _ _ _ h
  have hs := runH_shp _ _ _ shp_nil _ h
  have star : ∀ y M, H = y :: M → classP y = 0 → ∃ M', orderP classP H = y :: M' ∧ (∀ z ∈ M', classP z ≠ 0) ∧ charsP l = S ++ orderP classP H := fun y M e hy => by
    subst e
    have h1 := order_starter [] y M hy (by simpa using hs.1)
    rw [List.nil_append] at h1
    refine ⟨orderP classP M, h1, fun z hz => by rw [orderP_mem] at hz; exact hs.1 z (by simpa using hz), ?_⟩
    rw [← order_parts, a1, a2, order_starter A y M hy (by simpa using hs.1), h1]; rfl
  rcases a3 with rfl | ⟨y, M, e, hy⟩
  · have e0 : S = [] := by rw [a2]; rfl
    have ec : charsP l = S ++ orderP classP H := by rw [← order_parts, a1, e0]; rfl
    refine ⟨orderP classP H, ec, orderP_len H, ?_⟩
    cases H with
    | nil => exact .inr ⟨e0, fun y hy => by cases hy⟩
    | cons y M =>
      by_cases hy : classP y = 0
      · obtain ⟨M', k1, k2, -⟩ := star y M rfl hy
        exact .inl ⟨y, M', k1, hy, k2⟩
      · refine .inr ⟨e0, fun z hz => ?_⟩
        rw [orderP_mem] at hz
        rcases List.mem_cons.1 hz with rfl | hz
        · exact hy
        · exact hs.1 z (by simpa using hz)
  · obtain ⟨M', k1, k2, k3⟩ := star y M e hy
    exact ⟨orderP classP H, k3, orderP_len H, .inl ⟨y, M', k1, hy, k2⟩⟩
theorem early_last {C S H' : List Int} (hC : C = S ++ H') (h : (∃ x M, H' = x :: M ∧ classP x = 0 ∧ ∀ y ∈ M, classP y ≠ 0) ∨ (S = [] ∧ ∀ y ∈ H', classP y ≠ 0)) (m : Nat) (hm : m ≤ C.length)
    (h1 : ∀ i, m ≤ i → i < C.length → classP C[i]! ≠ 0) (h2 : 0 < m → classP C[m - 1]! = 0) : C.take (m - 1) = S ∧ C.length - (m - 1) = H'.length ∧ m - 1 ≤ C.length := by
  have hmark : ∀ i, i < C.length → (∃ y, y ∈ H' ∧ classP y ≠ 0 ∧ C[i]! = y) → classP C[i]! ≠ 0 := fun i _ ⟨y, _, h3, h4⟩ => by rw [h4]; exact h3
  rcases h with ⟨x, M, rfl, hx, hM⟩ | ⟨rfl, hH⟩
  · have hN : C.length = S.length + (M.length + 1) := by rw [hC]; simp
    have hat : C[S.length]! = x := by rw [getElem!_pos C _ (by omega)]; subst hC; simp
    have g1 : S.length < m := by
      rcases Nat.lt_or_ge S.length m with g | g
      · exact g
      · exact absurd hx (by have := h1 _ g (by omega); rwa [hat] at this)
    have g2 : m - 1 ≤ S.length := by
      rcases Nat.lt_or_ge S.length (m - 1) with g | g
      · exfalso
        have h3 := h2 (by omega)
        rw [getElem!_pos C _ (by omega)] at h3
        subst hC
        rw [List.getElem_append_right (by omega)] at h3
        obtain ⟨j, hj⟩ : ∃ j, m - 1 - S.length = j + 1 := ⟨m - 1 - S.length - 1, by omega⟩
        simp only [hj, List.getElem_cons_succ] at h3
        exact hM _ (List.getElem_mem _) h3
      · exact g
    have e : m - 1 = S.length := by omega
    rw [e]
    refine ⟨by subst hC; simp, by simp; omega, by omega⟩
  · rw [List.nil_append] at hC
    subst hC
    have g : m = 0 := by
      rcases Nat.eq_zero_or_pos m with g | g
      · exact g
      · exfalso
        have h3 := h2 g
        rw [getElem!_pos C _ (by omega)] at h3
        exact hH _ (List.getElem_mem _) h3
    subst g
    simp
theorem sub_rd {B g m cap : Nat} {w : World} {C : List Int} {n : Nat} (h : OwnV 3 B w (.slice (some ⟨g, 0, none⟩) n cap) (C.map (Value.int .i64))) (hn : n = C.length) (hm : m ≤ C.length) : RdI w (.slice (some ⟨g, 0, none⟩) m cap) (C.take m) := by
  rcases Nat.eq_zero_or_pos m with h0 | h0
  · subst h0; exact .inl ⟨_, cap, rfl, by simp⟩
  · have hr : RdI w (.slice (some ⟨g, 0, none⟩) n cap) C := h.rd
    rcases hr.cases with ⟨a, c, e1, e2⟩ | ⟨b', off, c, e1, e2, e3, e4, e5, e6⟩
    · subst e2; simp at hm; omega
    · simp only [Value.slice.injEq, Option.some.injEq, Addr.mk.injEq] at e1
      obtain ⟨⟨rfl, rfl, -⟩, -, rfl⟩ := e1
      have hl : ((C.take m).map (Value.int .i64)).length = m := by rw [List.length_map, List.length_take]; omega
      refine .inr ⟨g, 0, cap, by rw [hl], by rw [hl]; exact h0, by rw [hl]; omega, e4, e5, fun i hi => ?_⟩
      rw [hl] at hi
      rw [getD_map _ i (by rw [List.length_take]; omega), e6 i (by omega)]
      congr 2
      rw [List.getD_eq_getElem?_getD, List.getD_eq_getElem?_getD, List.getElem?_take, if_pos hi]
theorem front_none {a cut : List UInt8} {l : List Int} {k : Nat} (h : writeP l = some a) (hc : (firstP cut).2 = 0) (hk : k < cut.length) : readP (a ++ cut.take (cut.length - k)) = none := by
  rw [read_write l a _ h]
  have h1 : (firstP (cut.take (cut.length - k))).2 = 0 := first_none_app _ (cut.drop (cut.length - k)) (by rw [List.take_append_drop]; exact hc)
  rw [none_read h1 (by intro e; have := congrArg List.length e; rw [List.length_take] at this; simp at this; omega)]; rfl
set_option maxHeartbeats 8000000 in
set_option maxRecDepth 100000 in
theorem early_any (w : World) (b : Nat) (s : ByteArray) (out : List UInt8) (h : OpenAt w b s.data.toList out) (hs : s.size ≤ 300) :
    Calls Tryz.prog 13 #[.pointer (some ⟨b, 0, none⟩), .string s, .string ⟨out.toArray⟩] w fun e w' => e = .returned (.bool true) ∧ Below w.heap.size w w' := by
  obtain ⟨l, cut, S, H, ⟨a, h1, h1'⟩, h2, h3, h4, h5, h6, h7⟩ := h
  have hc3 := cut_short h3 h4
  obtain ⟨H', p1, p2, p3⟩ := early_parts h2
  have hal : a.length + cut.size ≤ 300 := by
    have := congrArg List.length h1'
    rw [size_toList, List.length_append, size_toList] at this
    omega
  have hll : l.length ≤ 300 := by
    have := read_len a l (read_write' l a h1); omega
  have hval := (write_valid l).2 ⟨a, h1⟩
  have hfl := flat_len l
  have hcl : (charsP l).length ≤ 10 * l.length := by rw [chars_len]; exact hfl
  have HCH : Hid (∀ w v, RdI w v l → Calls Tryz.prog 17 #[v] w (NewRes (charsP l) w)) := Lib.hid fun w v hv => rchars_any w v l hv (valid_range hval) (by omega) (by omega)
  have HSV : Hid (∀ i, i < (charsP l).length → -9223372036854775808 ≤ (charsP l)[i]! ∧ (charsP l)[i]! ≤ 9223372036854775807) := Lib.hid fun i hi => valid_range (chars_valid l hval) _ (by rw [getElem!_pos _ i hi]; exact List.getElem_mem _)
  have HNO : Hid (∀ k, k < cut.size → readP (a ++ cut.data.toList.take (cut.size - k)) = none) := Lib.hid fun k hk => by
    have := front_none (k := k) h1 h3 (by rw [size_toList]; exact hk)
    rwa [size_toList] at this
  have HYE : Hid (readP a = some l) := Lib.hid (read_write' l a h1)
  have H0 : Hid (s.data.toList = a ++ cut.data.toList.take (cut.size - 0)) := Lib.hid (by rw [h1', List.take_of_length_le (by rw [size_toList]; omega)])
  have HST := Lib.hid h6
  have HWR : Hid (∀ w v, RdI w v S → Calls Tryz.prog 16 #[v] w (WriteRes w (some out))) := Lib.hid fun w v hv => by
    have := rwrite_any v S (by have := congrArg List.length p1; rw [List.length_append] at this; omega) w hv
    rwa [h5] at this
  have HSB := Lib.hid h5
  have HEL : Hid (∀ m, m ≤ (charsP l).length → (∀ i, m ≤ i → i < (charsP l).length → classP (charsP l)[i]! ≠ 0) → (0 < m → classP (charsP l)[m - 1]! = 0) → (charsP l).take (m - 1) = S ∧ (charsP l).length - (m - 1) = H.length ∧ m - 1 ≤ (charsP l).length) := Lib.hid fun m k1 k2 k3 => by
    have := early_last p1 p3 m k1 k2 k3
    rw [p2] at this; exact this
  have hHl := h6.len
  have hblt := h6.lt
  clear h1 h1' h2 h3 h4 h5 h6 h7 p1 p2 p3 hval hfl
  obtain ⟨C, hC⟩ : ∃ C, charsP l = C := ⟨_, rfl⟩
  rw [hC] at HCH HSV HEL hcl
  obtain ⟨cn, hcn⟩ : ∃ cn, cut.size = cn := ⟨_, rfl⟩
  rw [hcn] at hc3 hal HNO H0
  have HCN := Lib.hid hcn
  clear hC hcn
  have hAA : (out == out) = true := by simp
  go_enter Tryz.func13, Tryz.ntmps13
  go_wp2_with fail
  go_loopw [1, 7] (fun av kv wr => ∃ (t : ByteArray) (k : Nat), av = .string t ∧ kv = .int .i64 k ∧ k ≤ cn ∧ t.size ≤ 300 ∧ Below w.heap.size w wr ∧ Hid (t.data.toList = a ++ cut.data.toList.take (cn - k))) (fun _ kv _ => 4 - (intOf kv).toNat)
  case atStart => exact ⟨s, 0, rfl, rfl, Nat.zero_le _, hs, Below.refl _ _, H0⟩
  case round =>
    clear H0 hs
    obtain ⟨t, k, rfl, rfl, hk, hts, hb, HT⟩ := hrel
    have hk4 : (k : Int) < 4 := by omega
    by_cases hlt : k < cn
    · have HRD : Hid (Calls Tryz.prog 9 #[.string t] wr (ReadRes wr none)) := Lib.hid (by
        have := rread_any t (by omega) wr
        rwa [HT.out, HNO.out k hlt] at this)
      have htl : 0 < t.size := by
        have := congrArg List.length HT.out
        have hcn := HCN.out
        rw [size_toList, List.length_append, List.length_take, size_toList] at this
        omega
      have hemp := isEmpty_no htl
      have HNX : Hid ((t.extract 0 (t.size - 1)).data.toList = a ++ cut.data.toList.take (cn - (k + 1))) := Lib.hid (by
        rw [Lib.extract_data, HT.out]
        have hl := congrArg List.length HT.out
        rw [size_toList] at hl
        obtain ⟨j, hj⟩ : ∃ j, cn - k = j + 1 := ⟨cn - k - 1, by omega⟩
        have hj2 : cn - (k + 1) = j := by omega
        have hcn := HCN.out
        rw [hj] at hl ⊢
        rw [hj2]
        rw [List.length_append, List.length_take, size_toList] at hl
        have e : t.size - 1 - 0 = a.length + j := by omega
        rw [List.drop_zero, e, List.take_append, List.take_of_length_le (by omega), Nat.add_sub_cancel_left, List.take_take, Nat.min_eq_left (by omega)])
      have hex : (t.extract 0 (t.size - 1)).size ≤ 300 := by rw [ByteArray.size_extract]; omega
      go_wp2_with fail
      refine HRD.out.mono ?_
      intro e w1 hr
      obtain ⟨v, rfl, hv, hb1⟩ := hr.cases
      have HB1 := Lib.hid (hb.trans (hb1.mono hb.size))
      clear hr hv hb1 HRD
      go_wp2_with fail
      go_roundw
      case rel => exact ⟨t.extract 0 (t.size - 1), k + 1, by go_num, by go_num, hlt, hex, HB1.out, HNX⟩
      case measure => simp [intOf]; omega
    · obtain rfl : k = cn := by omega
      have HRD : Hid (Calls Tryz.prog 9 #[.string t] wr (ReadRes wr (some l))) := Lib.hid (by
        have := rread_any t (by omega) wr
        rwa [HT.out, Nat.sub_self, List.take_zero, List.append_nil, HYE.out] at this)
      go_wp2_with fail
      refine HRD.out.mono ?_
      intro e w1 hr
      obtain ⟨v, rfl, hv, hb1⟩ := hr.cases
      have HB1 := Lib.hid (hb.trans (hb1.mono hb.size))
      have HCH1 := Lib.hid (HCH.out w1 v hv)
      clear hr hv hb1 HRD
      go_wp2_with fail
      refine HCH1.out.mono ?_
      rintro e w2 ⟨v2, rfl, ho, hnil, hb2⟩
      have HB2 : Hid (Below w.heap.size w w2) := Lib.hid (HB1.out.trans (hb2.mono HB1.out.size))
      clear hb2 HCH1 HCH
      by_cases hC0 : C = []
      · have ev := hnil.2 hC0
        subst ev
        subst hC0
        have hS := HEL.out 0 (by simp) (fun i _ hi => by simp at hi) (fun h => absurd h (by omega))
        have e1 : S = [] := by rw [← hS.1]; rfl
        have e2 : H = [] := List.eq_nil_of_length_eq_zero (by have := hS.2.1; simp at this; omega)
        subst e1 e2
        have HWR2 := Lib.hid (HWR.out w2 (.slice none 0 0) (.inl ⟨_, _, rfl, rfl⟩))
        clear hS hnil ho HEL HSV
        go_wp2_with fail
        refine wp_loop_rounds 1 ?_
        rw [rounds_succ]
        go_wp2_with fail
        refine HWR2.out.mono ?_
        rintro e w3 ⟨hb3, rfl⟩
        have HB3 : Hid (Below w.heap.size w w3) := Lib.hid (HB2.out.trans (hb3.mono HB2.out.size))
        have HHD := Lib.hid (held_open w3 b cut [] (HST.out.below HB3.out))
        clear hb3 HWR2 HB2 HB1
        go_wp2_with fail
        refine HHD.out.mono ?_
        rintro e w4 ⟨rfl, rfl⟩
        go_wp2_with fail
        go_ret
        exact ⟨rfl, HB3.out⟩
      · obtain ⟨g, cap, rfl, hg, hcap⟩ := own_some ho hC0
        obtain ⟨n, hn⟩ : ∃ n, C.length = n := ⟨_, rfl⟩
        have HCC : Hid (∀ i, i < n → w2.cell? ⟨g, i, none⟩ = some (.int .i64 C[i]!)) := Lib.hid fun i hi => ho.cellI i (by omega)
        have hgl : g < w2.heap.size := by
          rcases ho.nilOr with ⟨h, _⟩ | ⟨g', cap', h, _, hl, _⟩
          · cases h
          · simp at h; omega
        rw [hn] at ho hcap HEL HSV ⊢
        have HCL := Lib.hid hn
        have ho2 := Lib.hid ho
        have hn3 : n ≤ 3000 := by omega
        clear hn ho hnil hC0 hg
        have hk4d : decide ((k : Int) < 4) = true := by simpa using hk4
        obtain ⟨hl, ehl⟩ : ∃ x, H.length = x := ⟨_, rfl⟩
        have HHL := Lib.hid ehl
        rw [ehl] at HEL
        clear ehl
        go_wp2_with fail
        go_loopw [11] (fun mv wx => ∃ m : Nat, mv = .int .i64 m ∧ m ≤ n ∧ Below w2.heap.size w2 wx ∧ Hid (∀ i, m ≤ i → i < n → classP C[i]! ≠ 0)) (fun mv _ => (intOf mv).toNat)
        case atStart => exact ⟨n, rfl, Nat.le_refl _, Below.refl _ _, Lib.hid fun i h1 h2 => by omega⟩
        case round =>
          obtain ⟨m, rfl, hm, hbx, HM⟩ := hrel
          rcases Nat.eq_zero_or_pos m with hm0 | hm0
          · subst hm0
            have hT : C.take 0 = S ∧ n - 0 = hl ∧ 0 ≤ n := HEL.out 0 (by omega) (fun i _ h2 => HM.out i (by omega) h2) (fun h => absurd h (by omega))
            obtain ⟨e1, e2, e3⟩ := hT
            have HRS : Hid (RdI wr (.slice (some ⟨g, 0, none⟩) 0 cap) S) := Lib.hid (by
              have := sub_rd (m := 0) (ho2.out.below hbx) HCL.out.symm (by have := HCL.out; omega)
              rwa [e1] at this)
            have HWR2 := Lib.hid (HWR.out wr _ HRS.out)
            have hrc : 0 ≤ cap := by omega
            have hEq : ((hl : Int) == (n : Int)) = true := by simp; omega
            have HBX : Hid (Below w.heap.size w wr) := Lib.hid (HB2.out.trans (hbx.mono HB2.out.size))
            clear e1 e2 hbx
            go_wp2_with fail
            refine HWR2.out.mono ?_
            rintro e w3 ⟨hb3, rfl⟩
            have HB3 : Hid (Below w.heap.size w w3) := Lib.hid (HBX.out.trans (hb3.mono HBX.out.size))
            have HHD : Hid (Calls Tryz.prog 15 #[.pointer (some ⟨b, 0, none⟩)] w3 fun e w' => e = .returned (.int .i64 hl) ∧ w3 = w') := Lib.hid (by
              have := held_open w3 b cut H (HST.out.below HB3.out)
              rwa [HHL.out] at this)
            clear hb3 HWR2 HB2 HB1
            go_wp2_with fail
            refine HHD.out.mono ?_
            rintro e w4 ⟨rfl, rfl⟩
            go_wp2_with fail
            go_ret
            exact ⟨rfl, HB3.out⟩
          · obtain ⟨m0, rfl⟩ : ∃ j, m = j + 1 := ⟨m - 1, by omega⟩
            have hpos : (0 : Int) < (m0 : Int) + 1 := by omega
            have h0m : (0 : Int) ≤ (m0 : Int) := by omega
            have hmn : (m0 : Int) < (n : Int) := by omega
            have hok := HSV.out m0 (by omega)
            have c1 := (hbx.cell (p := ⟨g, m0, none⟩) hgl).trans (HCC.out m0 (by omega))
            obtain ⟨x, hx⟩ : ∃ x, C[m0]! = x := ⟨_, rfl⟩
            rw [hx] at c1 hok
            have HK : Hid (Calls Tryz.prog 19 #[.int .i64 x] wr (IntRes (classP x) wr)) := Lib.hid (rclass_any x hok.1 hok.2 wr)
            obtain ⟨q, hq⟩ : ∃ q, classP x = q := ⟨_, rfl⟩
            rw [hq] at HK
            have HQ : Hid (classP C[m0]! = q) := Lib.hid (by rw [hx]; exact hq)
            have hq0 : 0 ≤ q := by rw [← hq]; exact cls_nn x
            clear hok hx hq
            by_cases h0 : 0 < q
            · have hqd : decide (0 < q) = true := decide_eq_true h0
              go_wp2_with fail
              refine HK.out.mono ?_
              rintro e w3 ⟨rfl, hb3⟩
              have HB3 := Lib.hid (hbx.trans (hb3.mono hbx.size))
              clear hb3
              go_wp2_with fail
              go_roundw
              case rel => exact ⟨m0, by go_num, by omega, HB3.out, Lib.hid fun i k1 k2 => by
                rcases Nat.eq_or_lt_of_le k1 with k | k
                · subst k; rw [HQ.out]; omega
                · exact HM.out i k k2⟩
              case measure => simp [intOf]
            · have hqe : q = 0 := by omega
              subst hqe
              go_wp2_with fail
              refine HK.out.mono ?_
              rintro e w3x ⟨rfl, hb3⟩
              have hbx3 := hbx.trans (hb3.mono hbx.size)
              clear hb3 hbx HK c1
              obtain ⟨wr, ew⟩ : ∃ y, y = w3x := ⟨_, rfl⟩
              subst ew
              have hbx := hbx3
              clear hbx3
              have hT : C.take m0 = S ∧ n - m0 = hl ∧ m0 ≤ n := HEL.out (m0 + 1) (by omega) HM.out (fun _ => HQ.out)
              obtain ⟨e1, e2, e3⟩ := hT
              have HRS : Hid (RdI wr (.slice (some ⟨g, 0, none⟩) m0 cap) S) := Lib.hid (by
                have := sub_rd (m := m0) (ho2.out.below hbx) HCL.out.symm (by have := HCL.out; omega)
                rwa [e1] at this)
              have HWR2 := Lib.hid (HWR.out wr _ HRS.out)
              have hrc : m0 ≤ cap := by omega
              have hEq : ((hl : Int) == (n : Int) - ((m0 : Nat) : Int)) = true := by simp; omega
              have HBX : Hid (Below w.heap.size w wr) := Lib.hid (HB2.out.trans (hbx.mono HB2.out.size))
              clear e1 e2 hbx
              go_wp2_with fail
              refine HWR2.out.mono ?_
              rintro e w3 ⟨hb3, rfl⟩
              have HB3 : Hid (Below w.heap.size w w3) := Lib.hid (HBX.out.trans (hb3.mono HBX.out.size))
              have HHD : Hid (Calls Tryz.prog 15 #[.pointer (some ⟨b, 0, none⟩)] w3 fun e w' => e = .returned (.int .i64 hl) ∧ w3 = w') := Lib.hid (by
                have := held_open w3 b cut H (HST.out.below HB3.out)
                rwa [HHL.out] at this)
              clear hb3 HWR2 HB2 HB1
              go_wp2_with fail
              refine HHD.out.mono ?_
              rintro e w4 ⟨rfl, rfl⟩
              go_wp2_with fail
              go_ret
              exact ⟨rfl, HB3.out⟩
end Go.Proofs.YtnooloojnhodiaaGreatDoor
