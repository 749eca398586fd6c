/- For the law ManifestOld: a manifest beside an edit that grows. -/
import Derived.Test.YtmmkgopnccfiiaaGreatDoorManOldV
import Derived.Test.YtmmkgopnccfiiaaGreatDoorMBase
namespace Go.Proofs.YtmmkgopnccfiiaaGreatDoor
set_option linter.unusedVariables false
open Go.RowKit Go.Maps
/-- A manifest's state, the row of its tables below H. -/
structure OG (F : Nat → Prop) (w0 w : World) (H b mb : Nat) (S : Fs) (u : Nat) (V : Ver) (es : List Edt) (N L W : Nat) : Prop where
  ex : ∃ ρ, ManP ρ mb = F ∧ ManAt w0.heap.size w b mb ρ S (manM u es) V ∧ HighP w0 ρ mb
  blw : Below w0.heap.size w0 w
  std : Std smN S u V es N L W 1048576
  log : (logB smN es).length ≤ L
  tv : ∀ v, w.cell? ⟨mb, 3, none⟩ = some v → ∀ k, v.ownBlock = some k → k < H
  top : H ≤ w.heap.size
  base : w0.heap.size ≤ H
theorem OG.mg {F : Nat → Prop} {w0 w : World} {H b mb : Nat} {S : Fs} {u : Nat} {V : Ver} {es : List Edt} {N L W : Nat} (h : OG F w0 w H b mb S u V es N L W) : MG F w0 w b mb S u V es N L W := ⟨h.ex, h.blw, h.std, h.log⟩
theorem OG.of {F : Nat → Prop} {w0 w : World} {b mb : Nat} {S : Fs} {u : Nat} {V : Ver} {es : List Edt} {N L W : Nat} (h : MG F w0 w b mb S u V es N L W) : OG F w0 w w.heap.size b mb S u V es N L W := by
  obtain ⟨ρ, h1, h2, h3⟩ := h.ex
  refine ⟨⟨ρ, h1, h2, h3⟩, h.blw, h.std, h.log, fun v hv k hk => ?_, Nat.le_refl _, h.blw.size⟩
  obtain ⟨tv, n0, q1, q2, -⟩ := h2.blk
  rw [(man_cells q1).c3] at hv
  obtain rfl := Option.some.inj hv
  exact row_lt q2.row k hk
theorem OG.mbl {F : Nat → Prop} {w0 w : World} {H b mb : Nat} {S : Fs} {u : Nat} {V : Ver} {es : List Edt} {N L W : Nat} (h : OG F w0 w H b mb S u V es N L W) : mb < w.heap.size := by
  obtain ⟨ρ, -, h2, -⟩ := h.ex
  exact h2.lt
theorem OG.high {F : Nat → Prop} {w0 w : World} {H b mb : Nat} {S : Fs} {u : Nat} {V : Ver} {es : List Edt} {N L W : Nat} (h : OG F w0 w H b mb S u V es N L W) : ∀ k, F k → k < w.heap.size := fun k hk => (h.mg.high k hk).2
theorem OG.below {F : Nat → Prop} {w0 w w' : World} {H b mb : Nat} {S : Fs} {u : Nat} {V : Ver} {es : List Edt} {N L W : Nat} (h : OG F w0 w H b mb S u V es N L W) (hb : Below w.heap.size w w') : OG F w0 w' H b mb S u V es N L W := by
  have h2 := h.mg.below hb
  exact ⟨h2.ex, h2.blw, h2.std, h2.log, fun v hv => h.tv v (by rw [← hb.cell (p := ⟨mb, 3, none⟩) h.mbl]; exact hv), Nat.le_trans h.top hb.size, h.base⟩
theorem OG.more {F : Nat → Prop} {w0 w : World} {H b mb : Nat} {S : Fs} {u : Nat} {V : Ver} {es : List Edt} {N L W N' W' : Nat} (h : OG F w0 w H b mb S u V es N L W) (hN : N ≤ N') (hW : W ≤ W') : OG F w0 w H b mb S u V es N' L W' := { h with std := h.std.more hN (Nat.le_refl _) hW }
/-- What lies from H on and is none of its blocks is written. -/
theorem OG.upd {F G : Nat → Prop} {w0 w w' : World} {H b mb : Nat} {S : Fs} {u : Nat} {V : Ver} {es : List Edt} {N L W : Nat} (h : OG F w0 w H b mb S u V es N L W) (hu : UpdF G w w') (hG : ∀ k, G k → H ≤ k) (hd : ∀ k, G k → ¬ F k) : OG F w0 w' H b mb S u V es N L W := by
  obtain ⟨ρ, rfl, h2, h3⟩ := h.ex
  obtain ⟨tv, n0, q1, q2, q3⟩ := h2.blk
  have htv := h.tv tv (man_cells q1).c3
  have q1' : BlkAt w' mb (manC b (manM u es) tv n0 V.lg V.ls) 65 := (hu.block mb h2.lt fun g => hd mb g (.inr rfl)).trans q1
  refine ⟨⟨ρ, rfl, ⟨h2.fs.upd hu fun i hi => ?_, h2.out, tv, n0, q1', q2.upd hu fun k hk g => ?_, q3⟩, h3⟩, h.blw.trans (hu.below h.blw.size fun i hi g => by have := hG i g; have := h.base; omega), h.std, h.log, fun v hv => ?_, Nat.le_trans h.top hu.size, h.base⟩
  · cases e : ρ i with
    | none => rfl
    | some r => exact absurd (Or.inl (by rw [e]; simp)) (hd i hi)
  · have := htv k hk; have := hG k g; omega
  · rw [(man_cells q1').c3] at hv
    obtain rfl := Option.some.inj hv
    exact htv
/-- What Create of another file leaves. -/
def OMake (F : Nat → Prop) (w0 w : World) (H b mb : Nat) (S : Fs) (u : Nat) (V : Ver) (es : List Edt) (N L W : Nat) (x : ByteArray) (e : Ending) (w' : World) : Prop :=
  ∃ (F' : Nat → Prop) (S' : Fs), e = .returned (.int .i64 0) ∧ Step F F' w w' ∧ OG F' w0 w' H b mb S' u V es (N + 1) L (W + 1) ∧ S'.fails = none ∧ (∀ y, y ≠ x → y ≠ ⟨#[]⟩ → dget y S'.now = dget y S.now) ∧ dget ⟨#[]⟩ S'.now = none
theorem omake_g {F : Nat → Prop} {w0 w : World} {H b mb : Nat} {S : Fs} {u : Nat} {V : Ver} {es : List Edt} {N L W : Nat} (h : OG F w0 w H b mb S u V es N L W) (hf : S.fails = none) {x : ByteArray} (hx : nameOk x = true) (hs : x.size ≤ 1000) (h1 : x ≠ curN) (h2 : x ≠ manN u) (hN : N < 200) (hL2 : L ≤ 16777216) (hW : W ≤ 1000) :
    Calls Tryz.prog 7 #[.pointer (some ⟨b, 0, none⟩), .string x] w (OMake F w0 w H b mb S u V es N L W x) := by
  obtain ⟨ρ, rfl, k2, k3⟩ := h.ex
  have hw := h.std.disk.wait
  refine (create_any w b ρ S k2.fs x (by unfold maxLen; omega) (by omega)).mono ?_
  rintro e w' ⟨rfl, ht⟩
  obtain ⟨c1, c2, c3, c4, c5⟩ := std_create h.std hf hx (by omega) h1 h2 hN hL2
  have hmb : w'.heap[mb]? = w.heap[mb]? := by
    obtain ⟨ρ', -, t2, -⟩ := ht
    exact t2.block mb k2.lt fun f => f k2.out
  obtain ⟨ρ', m1, m2, m3⟩ := k2.fsTo ht
  refine ⟨ManP ρ' mb, _, by rw [c1], ⟨m2, m3⟩, ⟨⟨ρ', rfl, m1, k3.to h.blw m3⟩, k3.blw h.blw m2, c2, h.log, fun v hv => h.tv v ?_, Nat.le_trans h.top m2.size, h.base⟩, c3, c4, c5⟩
  rw [← hv]
  exact (World.cell?_of_block (w := w) (a := ⟨mb, 3, none⟩) hmb).symm
/-- The edit that grows lies from H on, beside a manifest's blocks F. -/
structure OX (F : Nat → Prop) (H : Nat) (w : World) (xb : Nat) (lg : Int) (ds : List Nat) (vA : Value) : Prop where
  blk : BlkAt w xb #[.int .i64 100, .int .i64 lg, .int .i64 0, vA, .slice none 0 0] 32
  row : OwnK encTbf 5 35 H w vA (ds.map tF)
  out : ¬ F xb
  apart : ∀ k, vA.ownBlock = some k → ¬ F k
  high : H ≤ xb
theorem OX.below {F : Nat → Prop} {H : Nat} {w w' : World} {xb : Nat} {lg : Int} {ds : List Nat} {vA : Value} (h : OX F H w xb lg ds vA) (hb : Below w.heap.size w w') : OX F H w' xb lg ds vA := { h with blk := h.blk.below hb, row := h.row.below hb }
theorem OX.step {F F' : Nat → Prop} {H : Nat} {w w' : World} {xb : Nat} {lg : Int} {ds : List Nat} {vA : Value} (h : OX F H w xb lg ds vA) (s : Step F F' w w') : OX F' H w' xb lg ds vA :=
  ⟨(s.keep h.blk.lt h.out).2.trans h.blk, row_same h.row fun k hk => (s.keep (row_lt h.row k hk) (h.apart k hk)).2, (s.keep h.blk.lt h.out).1, fun k hk => (s.keep (row_lt h.row k hk) (h.apart k hk)).1, h.high⟩
/-- One table more. -/
theorem OX.push {F : Nat → Prop} {H : Nat} {w w8 : World} {xb : Nat} {lg : Int} {ds : List Nat} {vA v8 : Value} {us : List Value} {d : Nat} (h : OX F H w xb lg ds vA) (hF : ∀ k, F k → k < w.heap.size) (hH : H ≤ w.heap.size) (o8 : OwnK encTbf 5 35 H w8 v8 ((ds ++ [d]).map tF))
    (g8 : (w.alloc (.cells us.toArray 35)).grownBy w8 vA.ownBlock) (n8 : ∀ g, v8.ownBlock = some g → vA.ownBlock = some g ∨ w.heap.size ≤ g) :
    OX F H (w8.setCell ⟨xb, 3, none⟩ v8) xb lg (ds ++ [d]) v8 ∧ UpdF (fun k => vA.ownBlock = some k ∨ k = xb) w (w8.setCell ⟨xb, 3, none⟩ v8) ∧ (∀ k, (vA.ownBlock = some k ∨ k = xb) → H ≤ k ∧ ¬ F k) ∧ BlkAt w8 xb #[.int .i64 100, .int .i64 lg, .int .i64 0, vA, .slice none 0 0] 32 := by
  have hal : Below w.heap.size w (w.alloc (.cells us.toArray 35)) := (Below.refl _ w).alloc (Nat.le_refl _) _
  have u1 : UpdF (fun k => vA.ownBlock = some k) w w8 := (UpdF.of hal).trans (UpdF.grown g8 fun k hk => hk)
  have hne : ∀ k, vA.ownBlock = some k → k ≠ xb := fun k hk e => by
    obtain ⟨h1, cur, h2⟩ := h.row.typed hk
    have hb := h.blk
    unfold BlkAt at hb
    rw [e, hb] at h2
    simp only [Option.some.injEq, Obj.cells.injEq] at h2
    exact absurd h2.2.1 (by decide)
  have b8 : BlkAt w8 xb #[.int .i64 100, .int .i64 lg, .int .i64 0, vA, .slice none 0 0] 32 := (u1.block xb h.blk.lt fun e => hne xb e rfl).trans h.blk
  have u2 : UpdF (fun k => k = xb) w8 (w8.setCell ⟨xb, 3, none⟩ v8) := (UpdF.refl _ w8).set xb 3 v8 rfl
  refine ⟨⟨b8.set (o := 3) v8, o8.asideT u2 b8 (by decide), h.out, fun k hk f => ?_, h.high⟩, (u1.mono fun k _ e => .inl e).trans (u2.mono fun k _ e => .inr e), fun k hk => ?_, b8⟩
  · rcases n8 k hk with e | e
    · exact h.apart k e f
    · have := hF k f; omega
  · rcases hk with e | rfl
    · exact ⟨(World.ownsRow.lt h.row k e).1, h.apart k e⟩
    · exact ⟨h.high, h.out⟩
end Go.Proofs.YtmmkgopnccfiiaaGreatDoor
