/- What every law of streams begins with. -/
import Derived.Test.YtnooloojnhodiaaDoorMStrm
import Derived.Lib.SlBytesConst
namespace Go.Proofs.YtnooloojnhodiaaDoor
set_option linter.unusedVariables false
open Go.RowKit
theorem open_at {w : World} {b : Nat} {p out o : List UInt8} {l S H : List Int} {r : List UInt8} (h : OpenAt w b p out) (hd : Dec p l r) (hr : (firstP r).2 = 0) (hrun : runH [] [] (partsP l) = some (S, H)) (hw : writeP S = some o) : out = o ∧ ∃ cut, StrmAt w b cut H := by
  obtain ⟨l', cut, S', H', h1, h2, h3, h4, h5, h6, h7⟩ := h
  obtain ⟨rfl, -⟩ := dec_unique h1 hd h3 hr
  rw [hrun] at h2
  simp only [Option.some.injEq, Prod.mk.injEq] at h2
  obtain ⟨rfl, rfl⟩ := h2
  rw [hw] at h5
  exact ⟨(Option.some.inj h5).symm, cut, h6⟩
theorem lit_by (w : World) (bs : List UInt8) (cs : Array Value) (fr : Nat × Nat) (n B : Nat) (hn : bs.length = n) (hc : (bs.map bv).toArray = cs) (hB : B ≤ w.heap.size) : BySl B (w.alloc (.cells cs 5 fr)) (.slice (some ⟨w.heap.size, 0, none⟩) n n) bs := by
  subst hn hc
  refine .inr ⟨w.heap.size, 0, bs.length, rfl, hB, by simp, fun i hi => ?_⟩
  unfold World.cell?
  rw [heap_alloc_new]
  simp [List.getD_eq_getElem?_getD, List.getElem?_eq_getElem hi, bv]
theorem StepRes.ok {w w' : World} {b : Nat} {p out s x T : List UInt8} {L : List Int} {e : Ending} (h : StepRes w b p out s e w') (g : Good T L) (hx : (p ++ s) ++ x = T) : Upd b w w' ∧ ∃ v o, e = .returned (.tuple #[v, .int .i64 0]) ∧ BySl w.heap.size w' v o ∧ OpenAt w' b (p ++ s) (out ++ o) := by
  obtain ⟨hU, h | h | ⟨v, o, h1, h2, h3⟩⟩ := h
  · exact absurd h.1 (good_many g hx)
  · exact absurd h.1 (good_begin g hx)
  · exact ⟨hU, v, o, h1, BySl.own h2, h3⟩
theorem EndRes.ok {w w' : World} {b : Nat} {p out f : List UInt8} {L : List Int} {e : Ending} (h : EndRes w b p out e w') (g : readP p = some L) (hf : textP p = some f) : Upd b w w' ∧ ∃ v bs, e = .returned (.tuple #[v, .int .i64 0]) ∧ BySl w.heap.size w' v bs ∧ out ++ bs = f ∧ DeadAt w' b 11 := by
  obtain ⟨hU, ⟨h1, -⟩ | ⟨L', v, bs, h1, h2, h3, h4, h5⟩⟩ := h
  · rw [g] at h1; cases h1
  · rw [hf] at h2; exact ⟨hU, v, bs, h3, h4, (Option.some.inj h2).symm, h5⟩
theorem bg_good : Good [120, 97, 204, 129] [120, 97, 769] := ⟨by decide +kernel, by decide +kernel⟩
theorem bg_text' : textP [120, 97, 204, 129] = some [120, 97, 204, 129] := by decide +kernel
theorem bg_run1 : runH [] [] (partsP [120, 97]) = some ([120], [97]) := by decide +kernel
theorem bg_run2 : runH [] [] (partsP [120, 97, 769]) = some ([120], [97, 769]) := by decide +kernel
set_option maxHeartbeats 8000000 in
set_option maxRecDepth 100000 in
theorem sbegun_any (w : World) (hE : ErrAt w) (hSp : SpAt w) :
    Calls Tryd.prog 5 #[] w fun e w' => e = .returned (.bool true) ∧ Below w.heap.size w w' := by
  have HW : Hid (∀ (w' : World) (p out : List UInt8) (v : Value) (B : Nat) (s : ByteArray), Below w.heap.size w w' → OpenAt w' w.heap.size p out → BySl B w' v s.data.toList → s.size ≤ 10000 → Calls Tryd.prog 7 #[.pointer (some ⟨w.heap.size, 0, none⟩), v] w' (StepRes w' w.heap.size p out s.data.toList)) := Lib.hid fun w' p out v B s hb h hv hl => write_step w w' hE hSp hb _ (Nat.le_refl _) p out h v B s hv hl
  have HCl : Hid (∀ (w' : World) (p out : List UInt8), Below w.heap.size w w' → OpenAt w' w.heap.size p out → Calls Tryd.prog 8 #[.pointer (some ⟨w.heap.size, 0, none⟩)] w' (EndRes w' w.heap.size p out)) := Lib.hid fun w' p out hb h => close_step w w' hE hSp hb _ (Nat.le_refl _) p out h
  clear hE hSp
  go_enter Tryd.func5, Tryd.ntmps5
  go_wp2_with fail
  refine (new_any w).mono ?_
  rintro e w1 ⟨rfl, hb1, hz1, hst1⟩
  have hal : Below w1.heap.size w1 (w1.alloc (.cells #[.int .u8 120, .int .u8 97] 5 (2, 3))) := (Below.refl _ _).alloc (Nat.le_refl _) _
  have HA1 := Lib.hid (HW.out (w1.alloc (.cells #[.int .u8 120, .int .u8 97] 5 (2, 3))) [] [] _ 0 ⟨#[120, 97]⟩ (hb1.trans (hal.mono hb1.size)) ((open_new hst1).below hal) (lit_by w1 [120, 97] _ _ 2 0 rfl rfl (Nat.zero_le _)) (by show 2 ≤ 10000; omega))
  have HB1 : Hid (Below w.heap.size w (w1.alloc (.cells #[.int .u8 120, .int .u8 97] 5 (2, 3)))) := Lib.hid (hb1.trans (hal.mono hb1.size))
  have hcv1 := Lib.run_convert_bytes_const (P := Tryd.prog) w1 25 5 #[.int .u8 120, .int .u8 97] 2 2 Tryd.underlying25 Tryd.underlying5
  have HZ := Lib.hid hz1
  clear hal hst1 hb1 hz1
  go_wp2_with fail
  refine HA1.out.mono ?_
  intro e w2 hr
  obtain ⟨hU, va, oa, rfl, hva, hop⟩ := hr.ok (x := [204, 129]) bg_good rfl
  obtain ⟨eo, cut2, hst2⟩ := open_at hop (l := [120, 97]) (r := []) ⟨[120, 97], by decide +kernel, rfl⟩ rfl bg_run1 (o := [120]) (by decide +kernel)
  have eo2 : oa = [120] := eo
  subst eo2
  have HB2 : Hid (Below w.heap.size w w2) := Lib.hid (hU.below HB1.out (Nat.le_refl _) HB1.out.size)
  have hblt : w.heap.size < w2.heap.size := hst2.lt
  have HHD := Lib.hid (held_open w2 w.heap.size cut2 _ hst2)
  have HVA : Hid (BySl (w.heap.size + 1) w2 va [120]) := Lib.hid (by
    rcases hva with h | ⟨g, off, cap, k1, k2, k3, k4⟩
    · exact .inl h
    · exact .inr ⟨g, off, cap, k1, by have := HZ.out; simp at k2; omega, k3, k4⟩)
  have HOP := Lib.hid hop
  clear hr hU hva hop eo hst2 HA1 HB1
  go_wp2_with fail
  refine HHD.out.mono ?_
  rintro e w' ⟨rfl, rfl⟩
  have hal : Below w2.heap.size w2 (w2.alloc (.cells #[.int .u8 204, .int .u8 129] 5 (2, 3))) := (Below.refl _ _).alloc (Nat.le_refl _) _
  have HA2 := Lib.hid (HW.out (w2.alloc (.cells #[.int .u8 204, .int .u8 129] 5 (2, 3))) _ _ _ 0 ⟨#[204, 129]⟩ (HB2.out.trans (hal.mono HB2.out.size)) (HOP.out.below hal) (lit_by w2 [204, 129] _ _ 2 0 rfl rfl (Nat.zero_le _)) (by show 2 ≤ 10000; omega))
  have HB3 : Hid (Below w.heap.size w (w2.alloc (.cells #[.int .u8 204, .int .u8 129] 5 (2, 3)))) := Lib.hid (HB2.out.trans (hal.mono HB2.out.size))
  have HVA2 := Lib.hid (HVA.out.below hal)
  have hcv2 := Lib.run_convert_bytes_const (P := Tryd.prog) w2 25 5 #[.int .u8 204, .int .u8 129] 2 2 Tryd.underlying25 Tryd.underlying5
  clear hal HHD HVA HOP HB2
  go_wp2_with fail
  refine HA2.out.mono ?_
  intro e w3 hr
  obtain ⟨hU, vb, ob, rfl, hvb, hop⟩ := hr.ok (x := []) bg_good rfl
  obtain ⟨eo, cut3, hst3⟩ := open_at hop (l := [120, 97, 769]) (r := []) ⟨[120, 97, 204, 129], by decide +kernel, rfl⟩ rfl bg_run2 (o := [120]) (by decide +kernel)
  have eo2 : ob = [] := by simpa using eo
  subst eo2
  have HB4 : Hid (Below w.heap.size w w3) := Lib.hid (hU.below HB3.out (Nat.le_refl _) HB3.out.size)
  have HVA3 := Lib.hid (HVA2.out.upd hU (by omega))
  obtain ⟨ab, capb, evb⟩ := hvb.len
  subst evb
  have HCL := Lib.hid (HCl.out w3 _ _ HB4.out hop)
  clear hr hU hvb hop eo hst3 HA2 HB3 HVA2
  go_wp2_with fail
  refine HCL.out.mono ?_
  intro e w4 hr
  obtain ⟨hU, vc, oc, rfl, hvc, hf, hd⟩ := hr.ok (L := [120, 97, 769]) bg_good.1 bg_text'
  have eo2 : oc = [97, 204, 129] := by simpa using hf
  subst eo2
  have HB5 : Hid (Below w.heap.size w w4) := Lib.hid (hU.below HB4.out (Nat.le_refl _) HB4.out.size)
  have HCA := Lib.hid (conv_by (HVA3.out.upd hU (by omega)))
  have HCC := Lib.hid (conv_by hvc)
  have HWD := Lib.hid (write_dead w4 w.heap.size 11 (by decide) hd (.slice none 0 0))
  clear hr hU hvc hf hd HVA3 HCL HB4
  go_wp2_with fail
  refine HWD.out.mono ?_
  rintro e w5 ⟨rfl, rfl⟩
  have hca := HCA.out
  have hcc := HCC.out
  clear HCA HCC
  go_wp2_with fail
  go_ret
  exact ⟨rfl, HB5.out⟩
end Go.Proofs.YtnooloojnhodiaaDoor
