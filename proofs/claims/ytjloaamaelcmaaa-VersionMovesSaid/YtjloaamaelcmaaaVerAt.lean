/- A version in memory, and its small methods: New, Next, Log, Last, All. -/
import Derived.Test.YtjloaamaelcmaaaVerSort
import Derived.Test.YtjloaamaelcmaaaFilSl
import Derived.Test.YtjloaamaelcmaaaMEdt
namespace Go.Proofs.Ytjloaamaelcmaaa
set_option linter.unusedVariables false
set_option maxRecDepth 100000
open Go.RowKit
/-- Block b holds the version V; its tables stand in a row from block B on. -/
structure VerAt (B : Nat) (w : World) (b : Nat) (V : Ver) : Prop where
  blk : ∃ (tv : Value) (n0 : Int), BlkAt w b #[tv, .int .i64 n0, .int .i64 V.lg, .int .i64 V.ls] 58 ∧ OwnK encTbf 5 43 B w tv V.fs ∧ V.nx = vOr n0 1
  srt : vSorted V.fs
  good : GoodV V
/-- A row's block is one of its type. -/
theorem OwnK.typed {α : Type} {enc : α → List Value} {k E B : Nat} {w : World} {v : Value} {xs : List α} (h : OwnK enc k E B w v xs) {g : Nat} (hg : v.ownBlock = some g) : g < w.heap.size ∧ ∃ cur, w.heap[g]? = some (.cells cur E (0, 0)) := by
  rcases h.blk with ⟨rfl, -⟩ | ⟨g', cap, cur, rfl, e2, e3, e4, -⟩
  · simp [Value.ownBlock] at hg
  · simp only [Value.ownBlock, Option.some.injEq] at hg
    subst hg
    exact ⟨e3, cur, e4⟩
/-- A row holds where one block of another type is written. -/
theorem OwnK.asideT {α : Type} {enc : α → List Value} {k E B c : Nat} {w w' : World} {v : Value} {xs : List α} {vs : Array Value} {t : TypeId} (h : OwnK enc k E B w v xs) (u : UpdF (fun j => j = c) w w') (hc : BlkAt w c vs t) (ht : t ≠ E) : OwnK enc k E B w' v xs :=
  row_same h fun g hg => by
    obtain ⟨h1, cur, h2⟩ := h.typed hg
    refine u.block g h1 fun e => ?_
    subst e
    unfold BlkAt at hc
    rw [hc] at h2
    simp only [Option.some.injEq, Obj.cells.injEq] at h2
    exact ht h2.2.1
theorem VerAt.lt {B : Nat} {w : World} {b : Nat} {V : Ver} (h : VerAt B w b V) : b < w.heap.size := by obtain ⟨tv, n0, h, -⟩ := h.blk; exact h.lt
theorem VerAt.below {B : Nat} {w w' : World} {b : Nat} {V : Ver} (h : VerAt B w b V) (u : Below w.heap.size w w') : VerAt B w' b V := by
  obtain ⟨⟨tv, n0, h1, h2, h3⟩, h4, h5⟩ := h
  exact ⟨⟨tv, n0, h1.below u, h2.below u, h3⟩, h4, h5⟩
/-- .. and where one block of another type is written. -/
theorem VerAt.aside {B : Nat} {w w' : World} {b c : Nat} {V : Ver} {vs : Array Value} {t : TypeId} (h : VerAt B w b V) (u : UpdF (fun j => j = c) w w') (hc : BlkAt w c vs t) (ht : t ≠ 43) (ht2 : t ≠ 58) : VerAt B w' b V := by
  obtain ⟨⟨tv, n0, h1, h2, h3⟩, h4, h5⟩ := h
  refine ⟨⟨tv, n0, (u.block b h1.lt fun e => ?_).trans h1, h2.asideT u hc ht, h3⟩, h4, h5⟩
  subst e
  unfold BlkAt at h1 hc
  rw [h1] at hc
  simp only [Option.some.injEq, Obj.cells.injEq] at hc
  exact ht2 hc.2.1.symm
theorem VerAt.base {B B' : Nat} {w : World} {b : Nat} {V : Ver} (h : VerAt B w b V) (hB : B' ≤ B) : VerAt B' w b V := by
  obtain ⟨⟨tv, n0, h1, h2, h3⟩, h4, h5⟩ := h
  exact ⟨⟨tv, n0, h1, h2.base hB, h3⟩, h4, h5⟩
/-- The four cells. -/
structure Cell4 (w : World) (b : Nat) (v0 v1 v2 v3 : Value) : Prop where
  c0 : w.cell? ⟨b, 0, none⟩ = some v0
  c1 : w.cell? ⟨b, 1, none⟩ = some v1
  c2 : w.cell? ⟨b, 2, none⟩ = some v2
  c3 : w.cell? ⟨b, 3, none⟩ = some v3
theorem cell4_of {w : World} {b : Nat} {v0 v1 v2 v3 : Value} {t : TypeId} (h : BlkAt w b #[v0, v1, v2, v3] t) : Cell4 w b v0 v1 v2 v3 := ⟨h.at 0, h.at 1, h.at 2, h.at 3⟩
theorem vnew_any (w : World) : Calls Try.prog 13 #[] w fun e w' => e = .returned (.pointer (some ⟨w.heap.size, 0, none⟩)) ∧ w' = w.alloc (.cells #[.slice none 0 0, .int .i64 0, .int .i64 0, .int .i64 0] 58) := by
  go_enter Try.func13, Try.ntmps13
  go_wp2_with fail
  go_ret
  exact ⟨rfl, rfl⟩
theorem vnew_at (w : World) (B : Nat) : VerAt B (w.alloc (.cells #[.slice none 0 0, .int .i64 0, .int .i64 0, .int .i64 0] 58)) w.heap.size Ver.new :=
  ⟨⟨_, 0, BlkAt.new _ _ _, OwnK.nil _ _ _ _ _, rfl⟩, List.Pairwise.nil, new_good⟩
set_option maxHeartbeats 1000000 in
/-- Of any block of this make: the number, or 1. -/
theorem vnext_raw {w : World} {b : Nat} {tv : Value} {n0 l0 s0 : Int} (h : BlkAt w b #[tv, .int .i64 n0, .int .i64 l0, .int .i64 s0] 58) :
    Calls Try.prog 19 #[.pointer (some ⟨b, 0, none⟩)] w fun e w' => e = .returned (.int .i64 (vOr n0 1)) ∧ Below w.heap.size w w' := by
  obtain ⟨c0, c1, c2, c3⟩ := cell4_of h
  have HC := Lib.hid (vor64_any w.heap.size n0 1 _ (BlkAt.new w #[.int .i64 n0, .int .i64 1] 2))
  have HB := Lib.hid ((Below.refl w.heap.size w).alloc (Nat.le_refl _) (.cells #[.int .i64 n0, .int .i64 1] 2))
  generalize vOr n0 1 = V at *
  clear h
  go_enter Try.func19, Try.ntmps19
  go_wp2_with fail
  refine HC.out.mono ?_
  rintro e w' ⟨rfl, rfl⟩
  clear HC
  go_wp2_with fail
  go_ret
  exact ⟨rfl, HB.out⟩
theorem vlog_raw {w : World} {b : Nat} {tv : Value} {n0 l0 s0 : Int} (h : BlkAt w b #[tv, .int .i64 n0, .int .i64 l0, .int .i64 s0] 58) :
    Calls Try.prog 20 #[.pointer (some ⟨b, 0, none⟩)] w fun e w' => e = .returned (.int .i64 l0) ∧ w' = w := by
  obtain ⟨c0, c1, c2, c3⟩ := cell4_of h
  clear h
  go_enter Try.func20, Try.ntmps20
  go_wp2_with fail
  go_ret
  exact ⟨rfl, rfl⟩
theorem vlast_raw {w : World} {b : Nat} {tv : Value} {n0 l0 s0 : Int} (h : BlkAt w b #[tv, .int .i64 n0, .int .i64 l0, .int .i64 s0] 58) :
    Calls Try.prog 21 #[.pointer (some ⟨b, 0, none⟩)] w fun e w' => e = .returned (.int .i64 s0) ∧ w' = w := by
  obtain ⟨c0, c1, c2, c3⟩ := cell4_of h
  clear h
  go_enter Try.func21, Try.ntmps21
  go_wp2_with fail
  go_ret
  exact ⟨rfl, rfl⟩
theorem vnext_any {B : Nat} {w : World} {b : Nat} {V : Ver} (h : VerAt B w b V) : Calls Try.prog 19 #[.pointer (some ⟨b, 0, none⟩)] w fun e w' => e = .returned (.int .i64 V.nx) ∧ Below w.heap.size w w' := by
  obtain ⟨tv, n0, h1, -, h3⟩ := h.blk
  rw [h3]; exact vnext_raw h1
theorem vlog_any {B : Nat} {w : World} {b : Nat} {V : Ver} (h : VerAt B w b V) : Calls Try.prog 20 #[.pointer (some ⟨b, 0, none⟩)] w fun e w' => e = .returned (.int .i64 V.lg) ∧ w' = w := by
  obtain ⟨tv, n0, h1, -, h3⟩ := h.blk
  exact vlog_raw h1
theorem vlast_any {B : Nat} {w : World} {b : Nat} {V : Ver} (h : VerAt B w b V) : Calls Try.prog 21 #[.pointer (some ⟨b, 0, none⟩)] w fun e w' => e = .returned (.int .i64 V.ls) ∧ w' = w := by
  obtain ⟨tv, n0, h1, -, h3⟩ := h.blk
  exact vlast_raw h1
/-- What tells tables: a new row of those. -/
def FilsTo (w : World) (l : List Tbf) (e : Ending) (w' : World) : Prop := ∃ u, e = .returned u ∧ OwnK encTbf 5 43 w.heap.size w' u l ∧ Below w.heap.size w w'
set_option maxHeartbeats 1000000 in
theorem vall_any {B : Nat} {w : World} {b : Nat} {V : Ver} (h : VerAt B w b V) : Calls Try.prog 18 #[.pointer (some ⟨b, 0, none⟩)] w (FilsTo w V.fs) := by
  obtain ⟨tv, n0, h1, h2, h3⟩ := h.blk
  obtain ⟨c0, c1, c2, c3⟩ := cell4_of h1
  have HC := Lib.hid (fclone_any tv V.fs w (h2.rd encTbf_len) (by have := h.good.few; omega))
  obtain ⟨a, cap, rfl⟩ := fil_form h2
  clear h h1 h2 h3
  generalize V.fs = l at *
  generalize l.length = n at *
  unfold FilsTo
  go_enter Try.func18, Try.ntmps18
  go_wp2_with fail
  refine HC.out.mono ?_
  rintro e w' ⟨u, rfl, ho, hb⟩
  have HO := Lib.hid (And.intro ho hb)
  clear ho hb HC
  go_wp2_with fail
  go_ret
  exact ⟨_, rfl, HO.out.1, HO.out.2⟩
/-- On no version. -/
theorem vnil_any (w : World) : Calls Try.prog 19 #[.pointer none] w (fun e w' => e = .returned (.int .i64 0) ∧ w' = w) ∧ Calls Try.prog 20 #[.pointer none] w (fun e w' => e = .returned (.int .i64 0) ∧ w' = w) ∧ Calls Try.prog 21 #[.pointer none] w (fun e w' => e = .returned (.int .i64 0) ∧ w' = w) ∧
    Calls Try.prog 18 #[.pointer none] w (fun e w' => e = .returned (.slice none 0 0) ∧ w' = w) := by
  refine ⟨?_, ?_, ?_, ?_⟩
  · go_enter Try.func19, Try.ntmps19
    go_wp2_with fail
    go_ret
    exact ⟨rfl, rfl⟩
  · go_enter Try.func20, Try.ntmps20
    go_wp2_with fail
    go_ret
    exact ⟨rfl, rfl⟩
  · go_enter Try.func21, Try.ntmps21
    go_wp2_with fail
    go_ret
    exact ⟨rfl, rfl⟩
  · go_enter Try.func18, Try.ntmps18
    go_wp2_with fail
    go_ret
    exact ⟨rfl, rfl⟩
end Go.Proofs.Ytjloaamaelcmaaa
