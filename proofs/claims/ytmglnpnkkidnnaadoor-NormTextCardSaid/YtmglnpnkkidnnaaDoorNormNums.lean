/- The walks of norm.order at any slice, norm.numbers. -/
import Derived.Test.YtmglnpnkkidnnaaDoorNormOrder
import Derived.Test.YtmglnpnkkidnnaaDoorNormApart
namespace Go.Proofs.YtmglnpnkkidnnaaDoor
set_option linter.unusedVariables false
open Go.RowKit
theorem OwnC.form {cl : Int → Int} {B : Nat} {w : World} {v : Value} {L : List Int} (h : OwnC cl B w v L) : (v = .slice none 0 0 ∧ L = []) ∨ ∃ g cap, v = .slice (some ⟨g, 0, none⟩) L.length cap ∧ B ≤ g ∧ g < w.heap.size := by
  rcases h.2 with ⟨h1, h2⟩ | ⟨g, cap, cur, h1, h2, h3, _⟩
  · exact .inl ⟨h1, List.eq_nil_of_length_eq_zero h2⟩
  · exact .inr ⟨g, cap, h1, h2, (Array.getElem?_eq_some_iff.1 h3).1⟩
theorem OwnC.below {cl : Int → Int} {B : Nat} {w w' : World} {v : Value} {L : List Int} (h : OwnC cl B w v L) (hb : Below w.heap.size w w') : OwnC cl B w' v L := by
  refine ⟨h.1, ?_⟩
  rcases h.2 with h | ⟨g, cap, cur, h1, h2, h3, h4⟩
  · exact .inl h
  · exact .inr ⟨g, cap, cur, h1, h2, (hb.block g (Array.getElem?_eq_some_iff.1 h3).1).trans h3, h4⟩
theorem order_any (B : Nat) (w : World) (v : Value) (L : List Int) (h : OwnC classP B w v L) (hl : L.length ≤ 100000) :
    Calls Tryd.prog 26 #[v] w fun e w' => e = .returned (.tuple #[]) ∧ OwnC classP B w' v (orderP classP L) ∧ Below B w w' := by
  rcases h.form with ⟨rfl, rfl⟩ | ⟨g, cap, rfl, _⟩
  · have HO := Lib.hid h
    clear h hl
    go_enter Tryd.func26, Tryd.ntmps26
    go_wp2
    go_loopg [2] 0 (fun k vs wr => vs = .int .i64 0 ∧ w = wr)
    case atStart => exact ⟨rfl, rfl⟩
    case round =>
      obtain ⟨rfl, rfl⟩ := hrel
      go_wp2
      go_end0
      exact ⟨rfl, HO.out, Below.refl _ _⟩
  · exact order_some B w g cap _ L h hl
set_option maxHeartbeats 2000000 in
set_option maxRecDepth 100000 in
theorem numbers_any (B : Nat) (w : World) (v : Value) (L : List Int) (h : OwnC classP B w v L) (hl : L.length ≤ 100000) :
    Calls Tryd.prog 27 #[v] w (NewRes L w) := by
  obtain ⟨a, n, cap, rfl, hn, HC⟩ : ∃ a n cap, v = .slice a n cap ∧ n = L.length ∧ Hid (∀ i, i < L.length → ∃ g, a = some ⟨g, 0, none⟩ ∧ g < w.heap.size ∧ w.cell? ⟨g, i * 2, none⟩ = some (.int .i64 L[i]!) ∧ w.cell? ⟨g, i * 2 + 1, none⟩ = some (.int .i64 (classP L[i]!))) := by
    rcases h.form with ⟨rfl, rfl⟩ | ⟨g, cap, rfl, _⟩
    · exact ⟨none, 0, 0, rfl, rfl, Lib.hid fun i hi => by simp at hi⟩
    · obtain ⟨cur, hb, _, _, _, hsz, _, hc⟩ := h.block
      refine ⟨_, _, _, rfl, rfl, Lib.hid fun i hi => ⟨g, rfl, (Array.getElem?_eq_some_iff.1 hb).1, ?_, ?_⟩⟩
      · have := hc (i * 2) (by omega)
        rw [show i * 2 / 2 = i by omega, show i * 2 % 2 = 0 by omega] at this
        simp only [World.cell?, hb, Option.isSome_none, Bool.false_eq_true, if_false]
        rw [this]; rfl
      · have := hc (i * 2 + 1) (by omega)
        rw [show (i * 2 + 1) / 2 = i by omega, show (i * 2 + 1) % 2 = 1 by omega] at this
        simp only [World.cell?, hb, Option.isSome_none, Bool.false_eq_true, if_false]
        rw [this]; rfl
  have HN : Hid (n = L.length) := hn
  have hn1 : n ≤ 100000 := by omega
  clear h hn hl
  go_enter Tryd.func27, Tryd.ntmps27
  go_wp2
  go_loopw [3, 8] (fun l vi wr => ∃ (i : Nat), vi = .int .i64 i ∧ i ≤ n ∧ OwnV 3 w.heap.size wr l ((L.take i).map (Value.int .i64)) ∧ (l = .slice none 0 0 ↔ i = 0) ∧ Below w.heap.size w wr) (fun _ vi _ => n - (intOf vi).toNat)
  case atStart => exact ⟨0, rfl, by omega, by simpa using OwnV.nil _ _ _, ⟨fun _ => rfl, fun _ => rfl⟩, Below.refl _ _⟩
  case round =>
    obtain ⟨i, rfl, hi, hown, hnil, hbel⟩ := hrel
    have HNI : Hid _ := Lib.hid hnil
    have hwr := hbel.size
    clear hnil
    by_cases hlt : i < n
    · have hz : (i : Int) < (n : Int) := by omega
      obtain ⟨g, rfl, hg, c1, c2⟩ := HC.out i (by have := HN.out; omega)
      have d1 : wr.cell? ⟨g, i * 2, none⟩ = some (.int .i64 L[i]!) := (hbel.cell hg).trans c1
      have d2 : wr.cell? ⟨g, i * 2 + 1, none⟩ = some (.int .i64 (classP L[i]!)) := (hbel.cell hg).trans c2
      clear c1 c2
      obtain ⟨c, hc⟩ : ∃ c, L[i]! = c := ⟨_, rfl⟩
      rw [hc] at d1 d2
      generalize classP c = k at d2
      have HL : Hid (L[i]! = c) := hc
      clear hc
      have hown2 : OwnV 3 w.heap.size (wr.alloc (.cells #[.int .i64 c, .int .i64 k] 43)) _ _ := World.ownsRow.alloc hown _
      have hB2 : w.heap.size ≤ (wr.alloc (.cells #[.int .i64 c, .int .i64 k] 43)).heap.size := by simp; omega
      have hbel2 : Below w.heap.size w (wr.alloc (.cells #[.int .i64 c, .int .i64 k] 43)) := hbel.alloc hwr _
      have hlen : ((L.take i).map (Value.int .i64)).length ≤ 100000 := by simp; omega
      have HOB : Hid (OwnV 3 w.heap.size (wr.alloc (.cells #[.int .i64 c, .int .i64 k] 43)) _ _ ∧ Below w.heap.size w (wr.alloc (.cells #[.int .i64 c, .int .i64 k] 43))) := ⟨hown2, hbel2⟩
      have HSZ : Hid ((wr.alloc (.cells #[.int .i64 c, .int .i64 k] 43)).heap.size = wr.heap.size + 1) := by show _ = _; simp
      clear hown hown2 hbel2 hbel
      go_wp2_with (at_builtin; refine wp_app elem_int _ _ (by rfl) (by rfl) (by rfl) HOB.out.1 [_] 1 rfl (by rw [HSZ.out]; rfl) ?c1 ?c2 ?c3 ?c4 (by decide) ?_)
      case c1 => simp [Value.oneCell']
      case c2 => simp only [List.length_singleton]; omega
      case c3 => simp only [List.length_singleton, maxLen]; omega
      case c4 => exact hB2
      intro v' w2 hown3 hbel3 hnn
      go_wp2
      go_roundw
      case rel =>
        refine ⟨i + 1, by go_num, by omega, ?_, ⟨fun h => absurd h hnn, fun h => by omega⟩, HOB.out.2.trans hbel3⟩
        have hlt' : i < L.length := by have := HN.out; omega
        rw [take_at hlt', HL.out, List.map_append, List.map_take]
        exact hown3
      case measure => simp only [intOf]; omega
    · have hz : ¬ (i : Int) < (n : Int) := by omega
      obtain rfl : i = n := by omega
      go_wp2
      go_ret
      have e : L.take i = L := List.take_of_length_le (by have := HN.out; omega)
      rw [e] at hown
      exact ⟨_, rfl, hown, ⟨fun h => List.eq_nil_of_length_eq_zero (by have := HN.out; have := HNI.out.1 h; omega), fun h => HNI.out.2 (by have := HN.out; rw [h] at this; simpa using this)⟩, hbel⟩
end Go.Proofs.YtmglnpnkkidnnaaDoor
