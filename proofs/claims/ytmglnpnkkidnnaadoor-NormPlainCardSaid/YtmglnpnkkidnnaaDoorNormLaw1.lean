/- The walk of the law NormChars. -/
import Derived.Test.YtmglnpnkkidnnaaDoorNormText
namespace Go.Proofs.YtmglnpnkkidnnaaDoor
set_option linter.unusedVariables false
open Go.RowKit
theorem nwf_bd {c : Int} (wf : (Lit.int .i64 c).wf = true) : -9223372036854775808 ≤ c ∧ c ≤ 9223372036854775807 := by
  simp [Lit.wf, IntKind.min, IntKind.max, IntKind.signed, IntKind.bits] at wf; omega
theorem rdI_take {w : World} {b off len cap : Nat} {xs : List Int} (h : RdI w (.slice (some ⟨b, off, none⟩) len cap) xs) (n : Nat) (hn : n ≤ len) : RdI w (.slice (some ⟨b, off, none⟩) n cap) (xs.take n) := by
  rcases h.cases with ⟨a, c, h1, h2⟩ | ⟨b', off', c, h1, h2, h3, h4, h5, h6⟩
  · simp only [Value.slice.injEq] at h1
    obtain ⟨-, h1, -⟩ := h1
    subst h1
    obtain rfl : n = 0 := by omega
    exact .inl ⟨_, cap, rfl, by simp⟩
  · simp only [Value.slice.injEq, Option.some.injEq, Addr.mk.injEq, and_true] at h1
    obtain ⟨⟨rfl, rfl⟩, rfl, rfl⟩ := h1
    rcases Nat.eq_zero_or_pos n with h0 | h0
    · subst h0; exact .inl ⟨_, cap, rfl, by simp⟩
    · have hl : (xs.take n).length = n := by rw [List.length_take]; omega
      refine .inr ⟨b, off, cap, by rw [List.length_map, hl], by rw [List.length_map, hl]; exact h0, by rw [List.length_map, hl]; omega, h4, h5, fun i hi => ?_⟩
      rw [List.length_map, hl] at hi
      rw [h6 i (by omega), getD_map (xs.take n) i (by omega)]
      congr 2
      rw [List.getD_eq_getElem?_getD, List.getD_eq_getElem?_getD, List.getElem?_take_of_lt hi]
theorem rdI_len {w : World} {a : Option Addr} {len cap : Nat} {xs : List Int} (h : RdI w (.slice a len cap) xs) : len = xs.length ∧ (0 < len → (∃ b off, a = some ⟨b, off, none⟩) ∧ len ≤ cap) := by
  rcases h.cases with ⟨a, c, h1, h2⟩ | ⟨b', off', c, h1, h2, h3, h4, h5, h6⟩
  · simp only [Value.slice.injEq] at h1; subst h2; exact ⟨h1.2.1, fun h => by omega⟩
  · simp only [Value.slice.injEq] at h1; exact ⟨h1.2.1, fun _ => ⟨⟨_, _, h1.1⟩, by omega⟩⟩
def NCut (zs : List Int) (w : World) (e : Ending) (w' : World) : Prop := ∃ v xs, e = .returned v ∧ RdI w v xs ∧ xs.length ≤ 40 ∧ (∀ x ∈ xs, x ∈ zs) ∧ w = w'
set_option maxHeartbeats 1000000 in
theorem ncut_any (w : World) (a : Option Addr) (len cap : Nat) (zs : List Int) (hz : RdI w (.slice a len cap) zs) :
    Calls Tryd.prog 11 #[.slice a len cap] w (NCut zs w) := by
  obtain ⟨h1, h2⟩ := rdI_len hz
  by_cases h40 : 40 < len
  · obtain ⟨⟨b, off, rfl⟩, hc⟩ := h2 (by omega)
    have HT : Hid (RdI w (.slice (some ⟨b, off, none⟩) 40 cap) (zs.take 40)) := Lib.hid (rdI_take hz 40 (by omega))
    have hc60 : (40 : Int) ≤ (cap : Int) := by omega
    have hz40 : (40 : Int) < (len : Int) := by omega
    clear hz h1 h2
    go_enter Tryd.func11, Tryd.ntmps11
    go_wp2
    go_ret
    exact ⟨_, zs.take 40, rfl, HT.out, by rw [List.length_take]; omega, fun x hx => List.mem_of_mem_take hx, rfl⟩
  · have HT := Lib.hid hz
    have HL : Hid (zs.length ≤ 40) := Lib.hid (by omega)
    have hz40 : ¬ (40 : Int) < (len : Int) := by omega
    clear hz h1 h2
    go_enter Tryd.func11, Tryd.ntmps11
    go_wp2
    go_ret
    exact ⟨_, _, rfl, HT.out, HL.out, fun x hx => hx, rfl⟩
set_option maxHeartbeats 1000000 in
set_option maxRecDepth 100000 in
theorem normChars_walk (w : World) (hE : ErrAt w) (hSp : SpAt w) (a : Option Addr) (len cap : Nat) (zs : List Int) (hz : RdI w (.slice a len cap) zs) (hw : ∀ n ∈ zs, (Lit.int .i64 n).wf = true) :
    Calls Tryd.prog 3 #[.slice a len cap] w fun e w' => e = .returned (.bool true) ∧ Below w.heap.size w w' := by
  have HES : Hid (∀ w', Below w.heap.size w w' → ErrAt w' ∧ SpAt w') := Lib.hid fun w' hb => ⟨hE.below hb, hSp.below hb hSp.1⟩
  have HB := Lib.hid (nbegun_any w hE hSp)
  have HZ := Lib.hid hz
  have HW : Hid (IntOk zs) := Lib.hid fun c hc => nwf_bd (hw c hc)
  clear hE hSp hz hw
  go_enter Tryd.func3, Tryd.ntmps3
  go_wp2_with fail
  refine HB.out.mono ?_
  rintro e w1 ⟨rfl, hb1⟩
  have HC := Lib.hid (ncut_any w1 a len cap zs (HZ.out.below hb1))
  clear HB HZ
  go_wp2_with fail
  refine HC.out.mono ?_
  rintro e w' ⟨v, xs, rfl, hv, h40, hm, rfl⟩
  have hok : IntOk xs := fun c hc => HW.out c (hm c hc)
  have hfl := flat_len xs
  have H1 := Lib.hid (chars_any w1 v xs hv hok (HES.out _ hb1).1 (HES.out _ hb1).2 (by omega) (by omega))
  have H2 : Hid (∀ w2, Below w1.heap.size w1 w2 → Calls Tryd.prog 14 #[v] w2 (NewRes (charsP xs) w2)) := Lib.hid fun w2 hb => rchars_any w2 v xs (hv.below hb) hok (by omega) (by omega)
  have HL : Hid ((charsP xs).length ≤ 1000000) := Lib.hid (by rw [chars_len]; omega)
  clear HC hv hm hok hfl h40 HW
  generalize charsP xs = L at *
  go_wp2_with fail
  refine H1.out.mono ?_
  intro e w2 hr
  obtain ⟨v1, rfl, hv1, hb2⟩ := hr.rd
  have H3 := Lib.hid (H2.out w2 hb2)
  clear hr H1 H2
  go_wp2_with fail
  refine H3.out.mono ?_
  intro e w3 hr
  obtain ⟨v2, rfl, hv2, hb3⟩ := hr.rd
  have H4 : Hid (Calls Tryd.prog 12 #[v1, v2] w3 (IntsRes w3 true)) := Lib.hid (by
    have := ints_any v1 v2 L L HL.out HL.out w3 (hv1.below hb3) hv2
    rwa [decide_eq_true rfl] at this)
  have hbb : Below w.heap.size w w3 := (hb1.trans (hb2.mono hb1.size)).trans (hb3.mono (Nat.le_trans hb1.size hb2.size))
  clear hr H3 hv1 hv2 hb1 hb2 hb3
  go_wp2_with fail
  refine H4.out.mono ?_
  rintro e w4 ⟨rfl, q, rfl⟩
  go_wp2_with fail
  go_ret
  exact ⟨rfl, hbb.trans ((DrN.refl w3).more q |>.below _)⟩
end Go.Proofs.YtmglnpnkkidnnaaDoor
