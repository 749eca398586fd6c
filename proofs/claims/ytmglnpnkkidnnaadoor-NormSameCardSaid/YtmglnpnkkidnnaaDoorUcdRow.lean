/- The walks of ucd.classRow and ucd.mapRow: a line, read. -/
import Derived.Test.YtmglnpnkkidnnaaDoorUcdCut
import Derived.Test.YtmglnpnkkidnnaaDoorUcdNum2
namespace Go.Proofs.YtmglnpnkkidnnaaDoor
set_option linter.unusedVariables false
open Go.RowKit

def rowV (r : Row) : Value := .agg #[.int .i64 (r.1 : Nat), .int .i64 (r.2.1 : Nat), .string (bs r.2.2)]
def URowRes (r : Row) (w : World) (e : Ending) (w' : World) : Prop := e = .returned (rowV r) ∧ Below w.heap.size w w'
theorem blk3 {w w4 : World} {T : TypeId} {a b c : Value} (h : Below (w.heap.size + 1) (w.alloc (.cells #[a, b, c] T)) w4) :
    (w4.cell? ⟨w.heap.size, 0, none⟩ = some a ∧ w4.cell? ⟨w.heap.size, 1, none⟩ = some b ∧ w4.cell? ⟨w.heap.size, 2, none⟩ = some c) ∧
    (w4.frozen? ⟨w.heap.size, 0, none⟩ = false ∧ w4.frozen? ⟨w.heap.size, 1, none⟩ = false ∧ w4.frozen? ⟨w.heap.size, 2, none⟩ = false) ∧ w.heap.size < w4.heap.size := by
  have hb := h.block w.heap.size (by omega)
  have hs := h.size
  rw [World.size_alloc] at hs
  rw [heap_alloc_new] at hb
  refine ⟨⟨?_, ?_, ?_⟩, ⟨?_, ?_, ?_⟩, by omega⟩
  all_goals first | (unfold World.cell?; rw [hb]; rfl) | (unfold World.frozen?; rw [hb]; rfl)
theorem cut32 (l : List UInt8) (h : l.contains 32 = true) (hl : l.length ≤ 1000000) (w : World) :
    Calls Tryd.prog 54 #[.string (bs l), .string ⟨#[32]⟩] w (CutRes (bs (cutA l)) (bs (cutB l)) w) := by
  have hm : (32 : UInt8) ∈ l := by simpa using h
  obtain ⟨h1, h2⟩ := span_at hm
  exact scut_any (bs l) 32 (cutA l) (cutB l) (by rw [bs_data]; exact h1) h2 (by rw [bs_size]; exact hl) w
theorem cutA_le (l : List UInt8) : (cutA l).length ≤ l.length := (List.takeWhile_sublist _).length_le
theorem cutB_le (l : List UInt8) : (cutB l).length ≤ l.length := by
  unfold cutB; rw [List.length_drop]; have := (List.dropWhile_sublist (fun x : UInt8 => x != 32) (l := l)).length_le; omega
theorem num_row (b : Nat) (hb : b = 10 ∨ b = 16) (l : List UInt8) (h : digsB b l = true) (w : World) (hE : ErrAt w) :
    Calls Tryd.prog 39 #[.string (bs l), .int .i64 b] w (IntRes (numB b l : Nat) w) := by
  have := number_any b hb (bs l) (by rw [bs_data]; exact digsB_ok h) w hE
  rwa [bs_data] at this
set_option maxHeartbeats 2000000 in
set_option maxRecDepth 100000 in
theorem classRow_any (l : List UInt8) (h : okC l = true) (w : World) (hE : ErrAt w) :
    Calls Tryd.prog 41 #[.string (bs l)] w (URowRes (rdC l) w) := by
  unfold okC at h
  simp only [Bool.and_eq_true, decide_eq_true_eq] at h
  obtain ⟨⟨⟨⟨⟨⟨h1, h2⟩, h3⟩, h4⟩, h5⟩, h6⟩, h7⟩ := h
  have l2 := cutB_le l
  have l3 := cutA_le (cutB l)
  have HC1 := Lib.hid (cut32 l h1 (by omega))
  have HC2 := Lib.hid (cut32 (cutB l) h2 (by omega))
  have HN1 := Lib.hid (num_row 16 (by decide) (cutA l) h3)
  have HN2 := Lib.hid (num_row 16 (by decide) (cutA (cutB l)) h4)
  have HP : Hid (rowV (rdC l) = .agg #[.int .i64 (numB 16 (cutA l) : Nat), .int .i64 (numB 16 (cutA (cutB l)) : Nat), .string (bs (cutB (cutB l)))]) := Lib.hid rfl
  unfold URowRes
  generalize rowV (rdC l) = R at *
  generalize cutB (cutB l) = r2 at *
  generalize (numB 16 (cutA l)) = n1 at *
  generalize (numB 16 (cutA (cutB l))) = n2 at *
  generalize cutA (cutB l) = a2 at *
  generalize cutB l = r1 at *
  generalize cutA l = a1 at *
  generalize bs l = L at *
  clear h1 h2 h3 h4 h5 h6 h7 l2 l3
  go_enter Tryd.func41, Tryd.ntmps41
  go_wp2_with fail
  refine (HC1.out _).mono ?_
  rintro e w1 ⟨hw1, rfl⟩
  go_wp2_with fail
  refine (HC2.out _).mono ?_
  rintro e w2 ⟨hw2, rfl⟩
  have b2 : Below (w.heap.size + 1) (w.alloc (.cells #[.int .i64 0, .int .i64 0, .string { data := #[] }] 70)) w2 := (hw1.trans hw2).below _
  have b0 : Below w.heap.size w (w.alloc (.cells #[.int .i64 0, .int .i64 0, .string { data := #[] }] 70)) := (Below.refl _ _).alloc (Nat.le_refl _) _
  have hE2 : ErrAt w2 := (hE.below b0).below ((hw1.trans hw2).below _)
  have z2 : w.heap.size + 1 ≤ w2.heap.size := by have := b2.size; rwa [World.size_alloc] at this
  go_wp2_with fail
  refine (HN1.out _ hE2).mono ?_
  rintro e w3 ⟨rfl, hb3⟩
  go_wp2_with fail
  refine (HN2.out _ (hE2.below hb3)).mono ?_
  rintro e w4 ⟨rfl, hb4⟩
  have b4 := (b2.trans (hb3.mono z2)).trans (hb4.mono (Nat.le_trans z2 hb3.size))
  obtain ⟨⟨c0, c1, c2⟩, ⟨f0, f1, f2⟩, hz⟩ := blk3 b4
  have bb := b0.trans (b4.mono (Nat.le_succ _))
  clear hw1 hw2 b2 b0 hb3 hb4 z2
  go_wp2
  refine bodyPost_ret (v := .agg #[.int .i64 n1, .int .i64 n2, .string (bs r2)]) (by simp [results, Tryd.results41, go_sem, c0, c1, c2]) rfl ⟨by rw [HP.out], ?_⟩
  exact ((bb.setCell (p := ⟨w.heap.size, 0, none⟩) (Nat.le_refl _) _).setCell (p := ⟨w.heap.size, 1, none⟩) (Nat.le_refl _) _).setCell (p := ⟨w.heap.size, 2, none⟩) (Nat.le_refl _) _
set_option maxHeartbeats 2000000 in
set_option maxRecDepth 100000 in
theorem mapRow_any (l : List UInt8) (h : okM l = true) (w : World) (hE : ErrAt w) :
    Calls Tryd.prog 51 #[.string (bs l)] w (URowRes (rdM l) w) := by
  unfold okM at h
  simp only [Bool.and_eq_true, decide_eq_true_eq] at h
  obtain ⟨⟨⟨h1, h3⟩, h6⟩, h7⟩ := h
  have HC1 := Lib.hid (cut32 l h1 (by omega))
  have HN1 := Lib.hid (num_row 16 (by decide) (cutA l) h3)
  have HP : Hid (rowV (rdM l) = .agg #[.int .i64 (numB 16 (cutA l) : Nat), .int .i64 (numB 16 (cutA l) : Nat), .string (bs (cutB l))]) := Lib.hid rfl
  unfold URowRes
  generalize rowV (rdM l) = R at *
  generalize (numB 16 (cutA l)) = n1 at *
  generalize cutB l = r2 at *
  generalize cutA l = a1 at *
  generalize bs l = L at *
  clear h1 h3 h6 h7
  go_enter Tryd.func51, Tryd.ntmps51
  go_wp2_with fail
  refine (HC1.out _).mono ?_
  rintro e w2 ⟨hw2, rfl⟩
  have b2 : Below (w.heap.size + 1) (w.alloc (.cells #[.int .i64 0, .int .i64 0, .string { data := #[] }] 70)) w2 := hw2.below _
  have b0 : Below w.heap.size w (w.alloc (.cells #[.int .i64 0, .int .i64 0, .string { data := #[] }] 70)) := (Below.refl _ _).alloc (Nat.le_refl _) _
  have hE2 : ErrAt w2 := (hE.below b0).below (hw2.below _)
  have z2 : w.heap.size + 1 ≤ w2.heap.size := by have := b2.size; rwa [World.size_alloc] at this
  go_wp2_with fail
  refine (HN1.out _ hE2).mono ?_
  rintro e w4 ⟨rfl, hb4⟩
  have b4 := b2.trans (hb4.mono z2)
  obtain ⟨⟨c0, c1, c2⟩, ⟨f0, f1, f2⟩, hz⟩ := blk3 b4
  have bb := b0.trans (b4.mono (Nat.le_succ _))
  clear hw2 b2 b0 hb4 z2
  go_wp2
  refine bodyPost_ret (v := .agg #[.int .i64 n1, .int .i64 n1, .string (bs r2)]) (by simp [results, Tryd.results51, go_sem, c0, c1, c2]) rfl ⟨by rw [HP.out], ?_⟩
  exact ((bb.setCell (p := ⟨w.heap.size, 0, none⟩) (Nat.le_refl _) _).setCell (p := ⟨w.heap.size, 1, none⟩) (Nat.le_refl _) _).setCell (p := ⟨w.heap.size, 2, none⟩) (Nat.le_refl _) _
end Go.Proofs.YtmglnpnkkidnnaaDoor
