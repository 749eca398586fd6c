/- The walk of a reader's file. -/
import Derived.Test.YtpaoabdjbdlalaaEdtRd
namespace Go.Proofs.Ytpaoabdjbdlalaa
set_option linter.unusedVariables false
set_option maxRecDepth 100000
open Go.RowKit
theorem RdrAt.aside {w0 w wl : World} {g : Nat} {s : Option (List UInt8)} {G : Nat → Prop} (h : RdrAt w0 w g s) (u : UpdF G w wl) (hg : ¬ G g) (h0 : ∀ k, k < w0.heap.size → ¬ G k) : RdrAt w0 wl g s := by
  have hlt := h.lt
  obtain ⟨h1, h2, v, h3, h4⟩ := h
  exact ⟨h1, h2.trans (UpdF.below u h2.size h0), v, (u.block g hlt hg).trans h3, h4⟩
/-- Behind a call: what is new beside may be written. -/
theorem RdrTo.aside {w0 w w1 w2 : World} {g : Nat} {s : Option (List UInt8)} (h : RdrTo w0 w g s w1) (u : UpdF (fun k => w.heap.size ≤ k) w1 w2) (hg : g < w.heap.size) (h0 : w0.heap.size ≤ w.heap.size) : RdrTo w0 w g s w2 :=
  ⟨h.1.aside u (by omega) fun k hk e => by omega, h.2.then u fun i hi => .inr hi⟩
/-- On the way through file: the reader, the table that is filled, the answer's place. -/
structure TbfL (w0 w : World) (g : Nat) (wk : World) (f r : Nat) (s : Option (List UInt8)) (vs : Array Value) : Prop where
  rdr : RdrTo w0 w g s wk
  tab : BlkAt wk f vs 39
  res : BlkAt wk r #[.int .i64 0, .int .i64 0, .int .i64 0, .string ⟨#[]⟩, .string ⟨#[]⟩] 39
  gw : g < w.heap.size
  gf : w.heap.size ≤ f
  gr : w.heap.size ≤ r
  fr : f ≠ r
  w0w : w0.heap.size ≤ w.heap.size
theorem TbfL.call {w0 w : World} {g : Nat} {wk wl : World} {f r : Nat} {s s' : Option (List UInt8)} {vs : Array Value} (h : TbfL w0 w g wk f r s vs) (k : RdrTo w0 wk g s' wl) : TbfL w0 w g wl f r s' vs := by
  have hg := h.gw
  have hf := h.gf
  have hr := h.gr
  exact { h with rdr := h.rdr.trans k, tab := (k.2.block f h.tab.lt (by omega)).trans h.tab, res := (k.2.block r h.res.lt (by omega)).trans h.res }
theorem TbfL.set {w0 w : World} {g : Nat} {wk : World} {f r : Nat} {s : Option (List UInt8)} {vs : Array Value} (h : TbfL w0 w g wk f r s vs) (o : Nat) (v : Value) : TbfL w0 w g (wk.setCell ⟨f, o, none⟩ v) f r s (vs.setIfInBounds o v) :=
  { h with rdr := h.rdr.aside ((UpdF.refl (fun k => w.heap.size ≤ k) wk).set f o v h.gf) h.gw h.w0w, tab := h.tab.set v, res := h.res.other v h.fr.symm }
theorem TbfL.start {w0 w : World} {g : Nat} {s : Option (List UInt8)} (h : RdrAt w0 w g s) (vs : Array Value) : TbfL w0 w g ((w.alloc (.cells #[.int .i64 0, .int .i64 0, .int .i64 0, .string ⟨#[]⟩, .string ⟨#[]⟩] 39)).alloc (.cells vs 39)) (w.heap.size + 1) w.heap.size s vs := by
  have b1 : Below w.heap.size w (w.alloc (.cells #[.int .i64 0, .int .i64 0, .int .i64 0, .string ⟨#[]⟩, .string ⟨#[]⟩] 39)) := (Below.refl _ w).alloc (Nat.le_refl _) _
  have n1 := BlkAt.new w #[.int .i64 0, .int .i64 0, .int .i64 0, .string ⟨#[]⟩, .string ⟨#[]⟩] 39
  have n2 := BlkAt.new (w.alloc (.cells #[.int .i64 0, .int .i64 0, .int .i64 0, .string ⟨#[]⟩, .string ⟨#[]⟩] 39)) vs 39
  have e : (w.alloc (.cells #[.int .i64 0, .int .i64 0, .int .i64 0, .string ⟨#[]⟩, .string ⟨#[]⟩] 39)).heap.size = w.heap.size + 1 := by simp
  rw [e] at n2
  exact { rdr := (h.self.below b1).below ((Below.refl _ _).alloc (Nat.le_refl _) _), tab := n2, res := n1.more _, gw := h.lt, gf := by omega, gr := Nat.le_refl _, fr := by omega, w0w := h.2.1.size }
structure Cells5 (w : World) (b : Nat) (v0 v1 v2 v3 v4 : Value) : Prop where
  c0 : w.cell? ⟨b, 0, none⟩ = some v0
  c1 : w.cell? ⟨b, 1, none⟩ = some v1
  c2 : w.cell? ⟨b, 2, none⟩ = some v2
  c3 : w.cell? ⟨b, 3, none⟩ = some v3
  c4 : w.cell? ⟨b, 4, none⟩ = some v4
  f0 : w.frozen? ⟨b, 0, none⟩ = false
  f1 : w.frozen? ⟨b, 1, none⟩ = false
  f2 : w.frozen? ⟨b, 2, none⟩ = false
  f3 : w.frozen? ⟨b, 3, none⟩ = false
  f4 : w.frozen? ⟨b, 4, none⟩ = false
theorem BlkAt.cells5 {w : World} {b : Nat} {v0 v1 v2 v3 v4 : Value} {t : TypeId} (h : BlkAt w b #[v0, v1, v2, v3, v4] t) : Cells5 w b v0 v1 v2 v3 v4 :=
  ⟨h.at 0, h.at 1, h.at 2, h.at 3, h.at 4, h.free 0, h.free 1, h.free 2, h.free 3, h.free 4⟩
def FileTo (w0 w : World) (g : Nat) (r : Tbf × Option (List UInt8)) (e : Ending) (w' : World) : Prop := e = .returned r.1.v ∧ RdrTo w0 w g r.2 w'
set_option maxHeartbeats 8000000 in
theorem edFile_any {w0 w : World} {g : Nat} {s : Option (List UInt8)} (h : RdrAt w0 w g s) : Calls Try.prog 35 #[.pointer (some ⟨g, 0, none⟩)] w (FileTo w0 w g (edFl s)) := by
  have HN : Hid (∀ W t, RdrAt w0 W g t → Calls Try.prog 22 #[.pointer (some ⟨g, 0, none⟩)] W (NumTo w0 W g (edNm t))) := Lib.hid fun W t h => edNumber_any h
  have HT : Hid (∀ W t, RdrAt w0 W g t → Calls Try.prog 38 #[.pointer (some ⟨g, 0, none⟩)] W (TxtTo w0 W g (edTx t))) := Lib.hid fun W t h => edText_any h
  obtain ⟨R, hR⟩ : ∃ R, edFl s = R := ⟨_, rfl⟩
  rw [hR]
  unfold edFl at hR
  simp only at hR
  obtain ⟨⟨x1, s1⟩, e1⟩ : ∃ p, edNm s = p := ⟨_, rfl⟩
  rw [e1] at hR; simp only at hR
  obtain ⟨⟨x2, s2⟩, e2⟩ : ∃ p, edNm s1 = p := ⟨_, rfl⟩
  rw [e2] at hR; simp only at hR
  obtain ⟨⟨x3, s3⟩, e3⟩ : ∃ p, edNm s2 = p := ⟨_, rfl⟩
  rw [e3] at hR; simp only at hR
  obtain ⟨⟨x4, s4⟩, e4⟩ : ∃ p, edTx s3 = p := ⟨_, rfl⟩
  rw [e4] at hR; simp only at hR
  obtain ⟨⟨x5, s5⟩, e5⟩ : ∃ p, edTx s4 = p := ⟨_, rfl⟩
  rw [e5] at hR; simp only at hR
  have HE := Lib.hid (And.intro e1 (And.intro e2 (And.intro e3 (And.intro e4 e5))))
  have HL := Lib.hid (TbfL.start h #[.int .i64 0, .int .i64 0, .int .i64 0, .string ⟨#[]⟩, .string ⟨#[]⟩])
  have HC1 := Lib.hid (HN.out _ s HL.out.rdr.1)
  rw [e1] at HC1
  subst hR
  clear h e1 e2 e3 e4 e5
  unfold FileTo Tbf.v
  go_enter Try.func35, Try.ntmps35
  go_wp2_with fail
  refine HC1.out.mono ?_
  rintro e w1 ⟨rfl, h1⟩
  have HL1 := Lib.hid (HL.out.call h1)
  have c := HL1.out.tab.cells5
  obtain ⟨c0, c1, c2, c3, c4, f0, f1, f2, f3, f4⟩ := c
  have HL1s := Lib.hid (HL1.out.set 0 (.int .i64 x1))
  clear h1 HL HC1 HL1
  have HC2 := Lib.hid (HN.out _ s1 HL1s.out.rdr.1)
  rw [HE.out.2.1] at HC2
  go_wp2_with fail
  refine HC2.out.mono ?_
  rintro e w2 ⟨rfl, h1⟩
  have HL1 := Lib.hid (HL1s.out.call h1)
  clear c0 c1 c2 c3 c4 f0 f1 f2 f3 f4
  have c := HL1.out.tab.cells5
  obtain ⟨c0, c1, c2, c3, c4, f0, f1, f2, f3, f4⟩ := c
  have HL2s := Lib.hid (HL1.out.set 1 (.int .i64 x2))
  clear h1 HL1s HC2 HL1
  have HC3 := Lib.hid (HN.out _ s2 HL2s.out.rdr.1)
  rw [HE.out.2.2.1] at HC3
  go_wp2_with fail
  refine HC3.out.mono ?_
  rintro e w3 ⟨rfl, h1⟩
  have HL1 := Lib.hid (HL2s.out.call h1)
  clear c0 c1 c2 c3 c4 f0 f1 f2 f3 f4
  have c := HL1.out.tab.cells5
  obtain ⟨c0, c1, c2, c3, c4, f0, f1, f2, f3, f4⟩ := c
  have HL3s := Lib.hid (HL1.out.set 2 (.int .i64 x3))
  clear h1 HL2s HC3 HL1
  have HC4 := Lib.hid (HT.out _ s3 HL3s.out.rdr.1)
  rw [HE.out.2.2.2.1] at HC4
  go_wp2_with fail
  refine HC4.out.mono ?_
  rintro e w4 ⟨rfl, h1⟩
  have HL1 := Lib.hid (HL3s.out.call h1)
  clear c0 c1 c2 c3 c4 f0 f1 f2 f3 f4
  have c := HL1.out.tab.cells5
  obtain ⟨c0, c1, c2, c3, c4, f0, f1, f2, f3, f4⟩ := c
  have HL4s := Lib.hid (HL1.out.set 3 (.string x4))
  clear h1 HL3s HC4 HL1
  have HC5 := Lib.hid (HT.out _ s4 HL4s.out.rdr.1)
  rw [HE.out.2.2.2.2] at HC5
  go_wp2_with fail
  refine HC5.out.mono ?_
  rintro e w5 ⟨rfl, h1⟩
  have HL1 := Lib.hid (HL4s.out.call h1)
  clear c0 c1 c2 c3 c4 f0 f1 f2 f3 f4
  have c := HL1.out.tab.cells5
  obtain ⟨c0, c1, c2, c3, c4, f0, f1, f2, f3, f4⟩ := c
  have HL5s := Lib.hid (HL1.out.set 4 (.string x5))
  have hr := HL5s.out.res.cells5
  obtain ⟨r0, r1, r2, r3, r4, q0, q1, q2, q3, q4⟩ := hr
  have hc := HL5s.out.tab.cells5
  obtain ⟨d0, d1, d2, d3, d4, -, -, -, -, -⟩ := hc
  clear h1 HL4s HC5 HL1 HE HN HT
  go_wp2_with fail
  refine bodyPost_ret (v := .agg #[.int .i64 x1, .int .i64 x2, .int .i64 x3, .string x4, .string x5]) (by simp [results, Try.results35, go_sem, r0, r1, r2, r3, r4]) rfl ⟨rfl, ?_⟩
  refine HL5s.out.rdr.aside ?_ HL5s.out.gw HL5s.out.w0w
  have hR := HL5s.out.gr
  exact (((((UpdF.refl _ _).set _ 0 _ hR).set _ 1 _ hR).set _ 2 _ hR).set _ 3 _ hR).set _ 4 _ hR
end Go.Proofs.Ytpaoabdjbdlalaa
