/- The walks of the laws UtfRead and UtfJoin. -/
import Derived.Test.YtcgknggmbfnpeaaUtfBegun
namespace Go.Proofs.Ytcgknggmbfnpeaa
set_option linter.unusedVariables false
open Go.RowKit
theorem ReadRes.cases {w w' : World} {r : Option (List Int)} {e : Ending} (h : ReadRes w r e w') : ∃ v, e = .returned (.tuple #[v, .bool r.isSome]) ∧ RdI w' v (r.getD []) ∧ Below w.heap.size w w' := by
  obtain ⟨hb, h⟩ := h
  cases r with
  | none => exact ⟨_, h, .inl ⟨none, 0, rfl, rfl⟩, hb⟩
  | some xs => obtain ⟨v, he, ho⟩ := h; exact ⟨v, he, ho.rd, hb⟩
theorem readF_len (f : Nat) : ∀ (l : List UInt8) (xs : List Int), readF f l = some xs → xs.length ≤ f := by
  induction f with
  | zero => intro l xs h; simp [readF] at h; subst h; exact Nat.le_refl _
  | succ f ih =>
    intro l xs h
    unfold readF at h
    split at h
    · simp at h; subst h; exact Nat.zero_le _
    · split at h
      · simp at h
      · obtain ⟨ys, hy, rfl⟩ := Option.map_eq_some_iff.1 h
        have := ih _ _ hy
        simp; omega
theorem readP_len (l : List UInt8) : ((readP l).getD []).length ≤ l.length := by
  cases h : readP l with
  | none => exact Nat.zero_le _
  | some xs => exact readF_len _ _ _ h
theorem bb (b : Bool) : (b == b) = true := by simp
set_option maxHeartbeats 1000000 in
set_option maxRecDepth 100000 in
theorem utfRead_walk (w : World) (s : ByteArray) (hs : s.size ≤ maxLen) :
    Calls Try.prog 3 #[.string s] w fun e w' => e = .returned (.bool true) ∧ Below w.heap.size w w' := by
  have HCut : Hid (∀ w, Calls Try.prog 10 #[.string s, .int .i64 200] w fun e w' => ∃ t : ByteArray, e = .returned (.string t) ∧ t.size ≤ 200 ∧ w = w') := Lib.hid (cut_any s 200 (by omega) hs)
  clear hs
  go_enter Try.func3, Try.ntmps3
  go_wp2_with fail
  refine (begun_any _).mono ?_
  rintro e w1 ⟨rfl, hb1⟩
  go_wp2_with fail
  refine (HCut.out _).mono ?_
  rintro e w' ⟨t, rfl, ht, rfl⟩
  have hlen := readP_len t.data.toList
  rw [size_toList] at hlen
  have HA : Hid (∀ w, Calls Try.prog 11 #[.string t] w (ReadRes w (readP t.data.toList))) := Lib.hid (read_any t (by omega))
  have HB : Hid (∀ w, Calls Try.prog 12 #[.string t] w (ReadRes w (readP t.data.toList))) := Lib.hid (rread_any t (by omega))
  have HF : Hid (∀ w, Calls Try.prog 13 #[.string t] w fun e w' => e = .returned (.tuple #[.int .i64 (firstP t.data.toList).1, .int .i64 ((firstP t.data.toList).2 : Nat)]) ∧ w = w') := Lib.hid (first_any _ (by unfold maxLen; omega))
  have HG : Hid (∀ w, Calls Try.prog 14 #[.string t] w fun e w' => e = .returned (.tuple #[.int .i64 (firstP t.data.toList).1, .int .i64 ((firstP t.data.toList).2 : Nat)]) ∧ Below w.heap.size w w') := Lib.hid (rfirst_any _ (by unfold maxLen; omega))
  generalize readP t.data.toList = r at *
  generalize firstP t.data.toList = p at *
  obtain ⟨c, n⟩ := p
  go_wp2_with fail
  refine (HA.out _).mono ?_
  intro e w2 hr
  obtain ⟨v, rfl, hv, hb2⟩ := hr.cases
  clear hr
  go_wp2_with fail
  refine (HB.out _).mono ?_
  intro e w3 hr
  obtain ⟨u, rfl, hu, hb3⟩ := hr.cases
  clear hr
  have hv3 : RdI w3 v (r.getD []) := hv.below hb3
  have hb13 := (hb1.trans (hb2.mono hb1.size)).trans (hb3.mono (Nat.le_trans hb1.size hb2.size))
  go_wp2_with fail
  refine (HF.out _).mono ?_
  rintro e w' ⟨rfl, rfl⟩
  go_wp2_with fail
  refine (HG.out _).mono ?_
  rintro e w4 ⟨rfl, hb4⟩
  have HI : Hid (∀ w, w = w4 → Calls Try.prog 15 #[v, u] w (IntsRes w true)) := Lib.hid fun w e => by
    subst e
    have := ints_any v u _ _ (by omega) (by omega) _ (hv3.below hb4) (hu.below hb4)
    rwa [decide_eq_true rfl] at this
  have hbb := hb13.trans (hb4.mono hb13.size)
  have e0 := bb r.isSome
  have e1 : (c == c) = true := by simp
  have e2 : ((n : Int) == (n : Int)) = true := by simp
  clear hv hu hv3 hb1 hb2 hb3 hb4 hb13 HA HB HF HG HCut
  go_wp2_with (go_at_call 15; refine (HI.out _ rfl).mono ?_; rintro e w5 ⟨rfl, m, rfl⟩)
  go_ret
  exact ⟨rfl, below_drewN hbb _⟩
end Go.Proofs.Ytcgknggmbfnpeaa
