/- The walks of norm.apart and the reference's Apart: what a character is made of in the end. -/
import Derived.Test.YtmglnpnkkidnnaaDoorNormMath
namespace Go.Proofs.YtmglnpnkkidnnaaDoor
set_option linter.unusedVariables false
open Go.RowKit
theorem NewRes.open {l : List Int} {w w' : World} {e : Ending} (h : NewRes l w e w') : Below w.heap.size w w' ∧ ((l = [] ∧ e = .returned (.slice none 0 0)) ∨ (l ≠ [] ∧ ∃ g n cap, e = .returned (.slice (some ⟨g, 0, none⟩) n cap) ∧ OwnV 3 w.heap.size w' (.slice (some ⟨g, 0, none⟩) n cap) (l.map (Value.int .i64)))) := by
  obtain ⟨v, rfl, ho, hn, hb⟩ := h
  refine ⟨hb, ?_⟩
  by_cases hl : l = []
  · exact .inl ⟨hl, by rw [hn.2 hl]⟩
  · rcases ho.nilOr with ⟨rfl, h⟩ | ⟨g, cap, rfl, _⟩
    · exact absurd (hn.1 rfl) hl
    · exact .inr ⟨hl, g, _, cap, rfl, ho⟩
theorem MapRes.new {l : List Int} {w w' : World} {e : Ending} (h : MapRes l w e w') : NewRes l w e w' := h
/-- .. and back. -/
theorem NewRes.of {l : List Int} {w w' : World} {g n cap : Nat} (hl : l ≠ []) (ho : OwnV 3 w.heap.size w' (.slice (some ⟨g, 0, none⟩) n cap) (l.map (Value.int .i64))) (hb : Below w.heap.size w w') : NewRes l w (.returned (.slice (some ⟨g, 0, none⟩) n cap)) w' :=
  ⟨_, rfl, ho, ⟨fun h => by simp at h, fun h => absurd h hl⟩, hb⟩
theorem apartP_split {c : Int} (h : splitP c ≠ []) : apartP c = splitP c := by unfold apartP; rw [if_pos h]
theorem apartP_map {c : Int} (h : splitP c = []) (h2 : mapP c ≠ []) : apartP c = mapP c := by unfold apartP; rw [if_neg (by simp [h]), if_pos h2]
theorem apartP_self {c : Int} (h : splitP c = []) (h2 : mapP c = []) : apartP c = [c] := by unfold apartP; rw [if_neg (by simp [h]), if_neg (by simp [h2])]
theorem one_new {w w1 : World} (c : Int) (hb : Below w.heap.size w w1) : NewRes [c] w (.returned (.slice (some ⟨w1.heap.size, 0, none⟩) 1 1)) (w1.alloc (.cells #[.int .i64 c] 3)) :=
  NewRes.of (by simp) ((own_fresh (E := 3) w1 [.int .i64 c] 1 rfl (by omega) (by unfold maxLen; omega)).base hb.size) (hb.alloc hb.size _)
set_option maxRecDepth 100000 in
set_option maxHeartbeats 1000000 in
theorem apart_any (c : Int) (hc0 : -9223372036854775808 ≤ c) (hc1 : c ≤ 9223372036854775807) (w : World) (hE : ErrAt w) (hSp : SpAt w) :
    Calls Tryd.prog 24 #[.int .i64 c] w (NewRes (apartP c) w) := by
  have HS : Hid (∀ w, Calls Tryd.prog 37 #[.int .i64 c] w (NewRes (splitP c) w)) := Lib.hid fun w => split_any c hc0 hc1 w
  have HM : Hid (∀ w, ErrAt w → SpAt w → Calls Tryd.prog 38 #[.int .i64 c] w (MapRes (mapP c) w)) := Lib.hid fun w h g => map_any c hc0 hc1 w h g
  have HE := Lib.hid hE
  have HSp := Lib.hid hSp
  clear hE hSp hc0 hc1
  go_enter Tryd.func24, Tryd.ntmps24
  go_wp2_with fail
  refine (HS.out _).mono ?_
  intro e w1 hr
  obtain ⟨hb, ⟨h1, rfl⟩ | ⟨h1, g, n, cap, rfl, ho⟩⟩ := hr.open
  · clear hr
    have HE1 := Lib.hid (HE.out.below hb)
    have HSp1 := Lib.hid (HSp.out.below hb HSp.out.1)
    have H1 := Lib.hid h1
    clear h1
    go_wp2_with fail
    refine (HM.out _ HE1.out HSp1.out).mono ?_
    intro e w2 hr
    obtain ⟨hb2, ⟨h2, rfl⟩ | ⟨h2, g, n, cap, rfl, ho⟩⟩ := hr.new.open
    · clear hr
      have HX : Hid (NewRes (apartP c) w (.returned (.slice (some ⟨w2.heap.size, 0, none⟩) 1 1)) (w2.alloc (.cells #[.int .i64 c] 3))) := Lib.hid (by
        rw [apartP_self H1.out h2]; exact one_new c (hb.trans (hb2.mono hb.size)))
      clear h2 hb hb2
      go_wp2_with fail
      go_ret
      exact HX.out
    · clear hr
      have HX : Hid (NewRes (apartP c) w (.returned (.slice (some ⟨g, 0, none⟩) n cap)) w2) := Lib.hid (by
        rw [apartP_map H1.out h2]; exact NewRes.of h2 (ho.base hb.size) (hb.trans (hb2.mono hb.size)))
      clear h2 hb hb2 ho
      go_wp2_with fail
      go_ret
      exact HX.out
  · clear hr
    have HX : Hid (NewRes (apartP c) w (.returned (.slice (some ⟨g, 0, none⟩) n cap)) w1) := Lib.hid (by
      rw [apartP_split h1]; exact NewRes.of h1 ho hb)
    clear h1 hb ho
    go_wp2_with fail
    go_ret
    exact HX.out
set_option maxRecDepth 100000 in
set_option maxHeartbeats 1000000 in
theorem rapart_any (c : Int) (hc0 : -9223372036854775808 ≤ c) (hc1 : c ≤ 9223372036854775807) (w : World) :
    Calls Tryd.prog 21 #[.int .i64 c] w (NewRes (apartP c) w) := by
  have HS : Hid (∀ w, Calls Tryd.prog 32 #[.int .i64 c] w (NewRes (splitP c) w)) := Lib.hid fun w => rsplit_any c hc0 hc1 w
  have HM : Hid (∀ w, Calls Tryd.prog 33 #[.int .i64 c] w (MapRes (mapP c) w)) := Lib.hid fun w => rmap_any c hc0 hc1 w
  clear hc0 hc1
  have hq1 : ∀ w, (binOp .eql 22 (.slice none 0 0) (.slice none 0 0)).run Tryd.prog w = .ok (.bool true) w := fun w => Lib.run_eql_slice_nil w 22 3 none 0 0 0 0 Tryd.underlying22
  have hq2 : ∀ g n c w, (binOp .eql 22 (.slice (some ⟨g, 0, none⟩) n c) (.slice none 0 0)).run Tryd.prog w = .ok (.bool false) w := fun g n c w => Lib.run_eql_slice_nil w 22 3 (some ⟨g, 0, none⟩) n c 0 0 Tryd.underlying22
  go_enter Tryd.func21, Tryd.ntmps21
  go_wp2_with fail
  refine (HS.out _).mono ?_
  intro e w1 hr
  obtain ⟨hb, ⟨h1, rfl⟩ | ⟨h1, g, n, cap, rfl, ho⟩⟩ := hr.open
  · clear hr
    have H1 := Lib.hid h1
    clear h1
    go_wp2_with fail
    refine (HM.out _).mono ?_
    intro e w2 hr
    obtain ⟨hb2, ⟨h2, rfl⟩ | ⟨h2, g, n, cap, rfl, ho⟩⟩ := hr.new.open
    · clear hr
      have HX : Hid (NewRes (apartP c) w (.returned (.slice (some ⟨w2.heap.size, 0, none⟩) 1 1)) (w2.alloc (.cells #[.int .i64 c] 3))) := Lib.hid (by
        rw [apartP_self H1.out h2]; exact one_new c (hb.trans (hb2.mono hb.size)))
      clear h2 hb hb2
      go_wp2_with fail
      go_ret
      exact HX.out
    · clear hr
      have HX : Hid (NewRes (apartP c) w (.returned (.slice (some ⟨g, 0, none⟩) n cap)) w2) := Lib.hid (by
        rw [apartP_map H1.out h2]; exact NewRes.of h2 (ho.base hb.size) (hb.trans (hb2.mono hb.size)))
      clear h2 hb hb2 ho
      go_wp2_with fail
      go_ret
      exact HX.out
  · clear hr
    have HX : Hid (NewRes (apartP c) w (.returned (.slice (some ⟨g, 0, none⟩) n cap)) w1) := Lib.hid (by
      rw [apartP_split h1]; exact NewRes.of h1 ho hb)
    clear h1 hb ho
    go_wp2_with fail
    go_ret
    exact HX.out
end Go.Proofs.YtmglnpnkkidnnaaDoor
