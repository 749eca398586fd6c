/- What a slice of integers holds, and the walk of incipitlaw1.Ints: are two of them the same. -/
import Derived.Test.YtmglnpnkkidnnaaDoorSlices
import Derived.BigQuiet
import Derived.Deep.QuietTactic
import Derived.Deep.DeepCutAuto
namespace Go.Proofs.YtmglnpnkkidnnaaDoor
set_option linter.unusedVariables false
open Go.RowKit
/-- what a slice of integers holds -/
def RdI (w : World) (v : Value) (xs : List Int) : Prop := RdV w v (xs.map (Value.int .i64))
theorem getD_map (xs : List Int) (k : Nat) (hk : k < xs.length) : (xs.map (Value.int .i64)).getD k undef = .int .i64 (xs.getD k 0) := by
  rw [List.getD_eq_getElem?_getD, List.getD_eq_getElem?_getD, List.getElem?_map, List.getElem?_eq_getElem hk]; rfl
theorem RdI.cases {w : World} {v : Value} {xs : List Int} (h : RdI w v xs) : (∃ a cap, v = .slice a 0 cap ∧ xs = []) ∨
    ∃ b off cap, v = .slice (some ⟨b, off, none⟩) xs.length cap ∧ 0 < xs.length ∧ xs.length ≤ cap ∧ cap ≤ maxLen ∧ b < w.heap.size ∧ ∀ i, i < xs.length → w.cell? ⟨b, off + i, none⟩ = some (.int .i64 (xs.getD i 0)) := by
  rcases h with ⟨a, cap, h1, h2⟩ | ⟨b, off, cap, h1, h2, h3, h4, h5, h6⟩
  · exact .inl ⟨a, cap, h1, by simpa using h2⟩
  · rw [List.length_map] at h1 h2 h3 h6
    exact .inr ⟨b, off, cap, h1, h2, h3, h4, h5, fun i hi => by rw [h6 i hi, getD_map xs i hi]⟩
theorem ne_of_at {xs ys : List Int} {k : Nat} (h1 : k < xs.length) (h2 : k < ys.length) (h : (xs.getD k 0 != ys.getD k 0) = true) : xs ≠ ys := by
  rintro rfl; simp at h
theorem take_more {xs ys : List Int} {k : Nat} (h1 : k < xs.length) (h2 : k < ys.length) (h : (xs.getD k 0 != ys.getD k 0) = false) (ht : xs.take k = ys.take k) : xs.take (k + 1) = ys.take (k + 1) := by
  rw [List.take_succ_eq_append_getElem h1, List.take_succ_eq_append_getElem h2, ht]
  rw [bne_eq_false_iff_eq, List.getD_eq_getElem?_getD, List.getD_eq_getElem?_getD, List.getElem?_eq_getElem h1, List.getElem?_eq_getElem h2] at h
  simp only [Option.getD_some] at h
  rw [h]
def IntsRes (w : World) (q : Bool) (e : Ending) (w' : World) : Prop := e = .returned (.bool q) ∧ ∃ m, w' = w.drewN m
set_option maxHeartbeats 1000000 in
set_option maxRecDepth 100000 in
theorem ints_any (v u : Value) (xs ys : List Int) (hx : xs.length ≤ 1000000) (hy : ys.length ≤ 1000000) (w : World) (hv : RdI w v xs) (hu : RdI w u ys) :
    Calls Tryd.prog 12 #[v, u] w (IntsRes w (decide (xs = ys))) := by
  by_cases hl : xs.length = ys.length
  · rcases hv.cases with ⟨a, cap, rfl, rfl⟩ | ⟨b, off, cap, rfl, hpos, hcap, hmax, hb, hcell⟩
    · obtain rfl : ys = [] := List.eq_nil_of_length_eq_zero hl.symm
      rcases hu.cases with ⟨a', cap', rfl, -⟩ | ⟨b', off', cap', rfl, hpos', -⟩
      · go_enter Tryd.func12, Tryd.ntmps12
        go_wp2
        refine wp_loop_rounds 1 ?_
        rw [rounds_succ]
        go_wp2
        go_ret
        exact ⟨rfl, 0, rfl⟩
      · exact absurd hpos' (by simp)
    · rcases hu.cases with ⟨a', cap', rfl, rfl⟩ | ⟨b', off', cap', rfl, hpos', hcap', hmax', hb', hcell'⟩
      · exact absurd hl (by rw [List.length_nil]; omega)
      · have HC : Hid (∀ i, i < xs.length → w.cell? ⟨b, off + i, none⟩ = some (.int .i64 (xs.getD i 0))) := Lib.hid hcell
        have HC' : Hid (∀ i, i < ys.length → w.cell? ⟨b', off' + i, none⟩ = some (.int .i64 (ys.getD i 0))) := Lib.hid hcell'
        clear hcell hcell' hmax hmax' hv hu
        obtain ⟨n, hn⟩ : ∃ n, n = ys.length := ⟨_, rfl⟩
        have HN := Lib.hid hn
        rw [hl, ← hn]
        rw [hl, ← hn] at hpos hcap hx
        rw [← hn] at hpos' hcap' hy
        have HL : Hid (xs.length = n) := Lib.hid (by rw [hl, hn])
        clear hl hn
        have hne : ((n : Int) != (n : Int)) = false := by simp
        go_enter Tryd.func12, Tryd.ntmps12
        go_wp2
        go_loopw [5] (fun i wr => ∃ (k m : Nat), i = .int .i64 k ∧ k ≤ n ∧ wr = w.drewN m ∧ Hid (xs.take k = ys.take k)) (fun i _ => n - (intOf i).toNat)
        case atStart => exact ⟨0, 0, rfl, Nat.zero_le _, rfl, Lib.hid (by simp)⟩
        case round =>
          obtain ⟨k, m, rfl, hk, rfl, HT⟩ := hrel
          by_cases hlt : k < n
          · have hc : w.cell? ⟨b, off + k, none⟩ = some (.int .i64 (xs.getD k 0)) := HC.out k (by have := HL.out; omega)
            have hc' : w.cell? ⟨b', off' + k, none⟩ = some (.int .i64 (ys.getD k 0)) := HC'.out k (by have := HN.out; omega)
            have HNo : Hid ((xs.getD k 0 != ys.getD k 0) = true → xs ≠ ys) := Lib.hid (ne_of_at (by have := HL.out; omega) (by have := HN.out; omega))
            have HYe : Hid ((xs.getD k 0 != ys.getD k 0) = false → xs.take (k + 1) = ys.take (k + 1)) := Lib.hid fun h => take_more (by have := HL.out; omega) (by have := HN.out; omega) h HT.out
            generalize xs.getD k 0 = x at *
            generalize ys.getD k 0 = y at *
            have h0k : (0 : Int) ≤ (k : Int) := by omega
            have hkn : (k : Int) < (n : Int) := by omega
            cases hq : (x != y) with
            | true =>
              go_wp2
              go_quiet (fail)
              go_wp2
              go_ret
              exact ⟨ret_bool (by rw [decide_eq_false_iff_not.2 (HNo.out hq)]), _, by rw [World.drewN_drewN]⟩
            | false =>
              go_wp2
              go_quiet (fail)
              go_wp2
              go_roundw
              case rel => exact ⟨k + 1, _, by go_num, hlt, rfl, Lib.hid (HYe.out hq)⟩
              case measure => simp [intOf]; omega
          · obtain rfl : k = n := by omega
            have he : xs = ys := by
              have := HT.out
              rwa [List.take_of_length_le (by have := HL.out; omega), List.take_of_length_le (by have := HN.out; omega)] at this
            go_wp2
            go_ret
            exact ⟨ret_bool (by rw [decide_eq_true he]), _, rfl⟩
  · have hne : xs ≠ ys := fun e => hl (by rw [e])
    have HNE := Lib.hid hne
    have hlb : ((xs.length : Int) != (ys.length : Int)) = true := by rw [bne_iff_ne]; omega
    obtain ⟨a, cap, e1⟩ : ∃ a cap, v = .slice a xs.length cap := by
      rcases hv.cases with ⟨a, cap, rfl, rfl⟩ | ⟨b, off, cap, rfl, -⟩
      · exact ⟨_, _, rfl⟩
      · exact ⟨_, _, rfl⟩
    obtain ⟨a', cap', e1'⟩ : ∃ a cap, u = .slice a ys.length cap := by
      rcases hu.cases with ⟨a, cap, rfl, rfl⟩ | ⟨b, off, cap, rfl, -⟩
      · exact ⟨_, _, rfl⟩
      · exact ⟨_, _, rfl⟩
    subst e1 e1'
    rw [decide_eq_false hne]
    clear hv hu hne hl
    generalize xs.length = n at *
    generalize ys.length = n' at *
    go_enter Tryd.func12, Tryd.ntmps12
    go_wp2
    go_ret
    exact ⟨rfl, 0, rfl⟩
end Go.Proofs.YtmglnpnkkidnnaaDoor
