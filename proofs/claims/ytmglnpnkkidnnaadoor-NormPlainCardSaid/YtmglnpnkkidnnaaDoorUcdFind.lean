/- The walk of ucd.find, at each of its two readers of lines. -/
import Derived.Test.YtmglnpnkkidnnaaDoorUcdRow
namespace Go.Proofs.YtmglnpnkkidnnaaDoor
set_option linter.unusedVariables false
open Go.RowKit

def StrRes (l : List UInt8) (w : World) (e : Ending) (w' : World) : Prop := e = .returned (.string (bs l)) ∧ Below w.heap.size w w'
/-- lines that the search may be handed: whole, rising, readable. -/
def TabOk (rd : List UInt8 → Row) (ok : List UInt8 → Bool) (ls : List (List UInt8)) : Prop := Lined ls ∧ Rise rd ls ∧ (∀ l ∈ ls, ok l = true) ∧ (textL ls).length ≤ 1000000
theorem TabOk.left {rd : List UInt8 → Row} {ok : List UInt8 → Bool} {A B : List (List UInt8)} (h : TabOk rd ok (A ++ B)) : TabOk rd ok A :=
  ⟨fun l hl => h.1 l (List.mem_append_left _ hl), h.2.1.left, fun l hl => h.2.2.1 l (List.mem_append_left _ hl), by have := h.2.2.2; rw [textL_append, List.length_append] at this; omega⟩
theorem TabOk.right {rd : List UInt8 → Row} {ok : List UInt8 → Bool} {A B : List (List UInt8)} (h : TabOk rd ok (A ++ B)) : TabOk rd ok B :=
  ⟨fun l hl => h.1 l (List.mem_append_right _ hl), h.2.1.right, fun l hl => h.2.2.1 l (List.mem_append_right _ hl), by have := h.2.2.2; rw [textL_append, List.length_append] at this; omega⟩
theorem TabOk.next {rd : List UInt8 → Row} {ok : List UInt8 → Bool} {l : List UInt8} {B : List (List UInt8)} (h : TabOk rd ok (l :: B)) : TabOk rd ok B := TabOk.right (A := [l]) h
theorem textL_pos {ls : List (List UInt8)} (h : ls ≠ []) : 0 < (textL ls).length := by
  cases ls with
  | nil => exact absurd rfl h
  | cons l r => simp only [textL, List.length_append, List.length_cons]; omega
/-- what one round of the search learns. -/
theorem round_cut {rd : List UInt8 → Row} {ok : List UInt8 → Bool} {ls : List (List UInt8)} (h : TabOk rd ok ls) {T : ByteArray} (hT : T.data.toList = textL ls) {n k : Nat} (hn : n < T.size) (hk : k ≤ n) (h1 : (10 : UInt8) ∉ ((T.extract 0 n).data.toList).drop k)
    (h2 : k = 0 ∨ ((T.extract 0 n).data.toList)[k - 1]? = some 10) : ∃ A l B, ls = A ++ l :: B ∧ T.extract 0 k = bs (textL A) ∧ (T.extract k T.size).data.toList = l ++ 10 :: textL B ∧ (10 : UInt8) ∉ l ∧ ok l = true := by
  have e : (T.extract 0 n).data.toList = (textL ls).take n := by rw [Lib.extract_data, hT]; simp
  rw [e] at h1 h2
  have hs := size_toList T
  rw [hT] at hs
  obtain ⟨A, l, B, rfl, rfl⟩ := middle ls n k h.1 (by omega) hk h1 h2
  refine ⟨A, l, B, rfl, bs_ext ?_, ?_, h.1 l (by simp), h.2.2.1 l (by simp)⟩
  · rw [Lib.extract_data, hT, textL_append]; simp
  · rw [rest_data', hT, textL_append]; simp [textL]

set_option maxHeartbeats 4000000 in
set_option maxRecDepth 100000 in
theorem findC_any (c : Int) (hc0 : -9223372036854775808 ≤ c) (hc1 : c ≤ 9223372036854775807) (T0 : ByteArray) (ls0 : List (List UInt8)) (hT0 : T0.data.toList = textL ls0) (h0 : TabOk rdC okC ls0) (w : World) (hE0 : ErrAt w) :
    Calls Tryd.prog 40 #[.string T0, .int .i64 c, .func (.func 41) #[] #[]] w (StrRes (findP rdC c ls0) w) := by
  obtain ⟨r, hr⟩ : ∃ r, findP rdC c ls0 = r := ⟨_, rfl⟩
  have HR : Hid (findP rdC c ls0 = r) := Lib.hid hr
  have HT0 := Lib.hid hT0
  have HT0' := Lib.hid h0
  rw [hr]
  clear hr hT0 h0
  go_enter Tryd.func40, Tryd.ntmps40
  go_wp2
  go_loopw [0] (fun t wr => ∃ (T : ByteArray) (ls : List (List UInt8)), t = .string T ∧ Hid (T.data.toList = textL ls) ∧ Hid (TabOk rdC okC ls) ∧ Hid (findP rdC c ls = r) ∧ Below w.heap.size w wr)
    (fun t _ => match t with | .string t => t.size | _ => 0)
  case atStart => exact ⟨T0, ls0, rfl, HT0, HT0', HR, Below.refl _ _⟩
  case round =>
    obtain ⟨T, ls, rfl, HT, HO, HF, hbel⟩ := hrel
    have hsz : T.size ≤ 1000000 := by have := HO.out.2.2.2; rw [← HT.out, size_toList] at this; exact this
    by_cases ht : 0 < T.size
    · have htd := isEmpty_no ht
      have HL := Lib.hid (lastIx_any (T.extract 0 (T.size / 2)) 10 (by rw [ByteArray.size_extract]; omega))
      have hdv : T.size / 2 < T.size := by omega
      have hex : (T.extract 0 (T.size / 2)).size = T.size / 2 := by rw [ByteArray.size_extract]; omega
      go_wp2_with fail
      refine (HL.out _).mono ?_
      rintro e w' ⟨rfl, k, hk, rfl, hk1, hk2⟩
      rw [size_toList, hex] at hk
      obtain ⟨A, l, B, rfl, eA, eB, hl, hokl⟩ := round_cut HO.out HT.out hdv hk hk1 hk2
      have HA := Lib.hid eA
      have HC := Lib.hid (scut_any (T.extract k T.size) 10 l (textL B) eB hl (by rw [ByteArray.size_extract]; omega))
      have HRow := Lib.hid (classRow_any l hokl)
      have hBs : (bs (textL B)).size < T.size := by
        have h1 := size_toList (T.extract k T.size); rw [eB] at h1
        rw [bs_size]; simp [ByteArray.size_extract] at h1; omega
      have hAs : (bs (textL A)).size < T.size := by rw [← HA.out, ByteArray.size_extract]; omega
      have hEr : ErrAt wr := hE0.below hbel
      have ekk : (k : Int) - 1 + 1 = k := by omega
      clear hk1 hk2 eA eB hl hokl HL hex
      go_wp2_with fail
      refine (HC.out _).mono ?_
      rintro e w1 ⟨hw1, rfl⟩
      go_wp2_with fail
      refine (HRow.out _ (hEr.below (hw1.below _))).mono ?_
      rintro e w2 ⟨rfl, hb2⟩
      have hbel2 := hbel.trans ((hw1.below wr.heap.size).trans (hb2.mono (hw1.below 0).size) |>.mono hbel.size)
      have hz2 := hbel2.size
      clear hw1 hb2 HC HRow hEr
      unfold rowV
      have HX : Hid (Rise rdC (A ++ l :: B)) := Lib.hid HO.out.2.1
      have HOA : Hid (TabOk rdC okC A) := Lib.hid HO.out.left
      have HOB : Hid (TabOk rdC okC B) := Lib.hid HO.out.right.next
      by_cases g1 : c < ((rdC l).1 : Int)
      · have HF2 : Hid (findP rdC c A = r) := Lib.hid (by rw [← find_lower HX.out g1]; exact HF.out)
        clear HF HX HO HT
        generalize rdC l = q at *
        go_wp2
        go_roundw
        case rel => exact ⟨_, A, rfl, Lib.hid (by rw [HA.out, bs_data]), HOA, HF2, hbel2.alloc hz2 _⟩
        case measure => simp only [HA.out]; exact hAs
      · by_cases g2 : ((rdC l).2.1 : Int) < c
        · have HF2 : Hid (findP rdC c B = r) := Lib.hid (by rw [← find_upper HX.out g2]; exact HF.out)
          clear HF HX HO HT
          generalize rdC l = q at *
          go_wp2
          go_roundw
          case rel => exact ⟨_, B, rfl, Lib.hid (bs_data _), HOB, HF2, hbel2.alloc hz2 _⟩
          case measure => exact hBs
        · have HF2 : Hid ((rdC l).2.2 = r) := Lib.hid (by rw [← find_here HX.out (Int.not_lt.1 g1) (Int.not_lt.1 g2)]; exact HF.out)
          clear HF HX HO HT
          generalize rdC l = q at *
          go_wp2
          go_ret
          exact ⟨by rw [← HF2.out]; rfl, hbel2.alloc hz2 _⟩
    · have ht0 := isEmpty_yes ht
      have el : ls = [] := by
        rcases Decidable.em (ls = []) with h | h
        · exact h
        · have := textL_pos h; rw [← HT.out, size_toList] at this; exact absurd this ht
      subst el
      have e : r = [] := HF.out.symm
      subst e
      clear HT HO HF
      go_wp2
      go_ret
      exact ⟨rfl, hbel⟩
set_option maxHeartbeats 4000000 in
set_option maxRecDepth 100000 in
theorem findM_any (c : Int) (hc0 : -9223372036854775808 ≤ c) (hc1 : c ≤ 9223372036854775807) (T0 : ByteArray) (ls0 : List (List UInt8)) (hT0 : T0.data.toList = textL ls0) (h0 : TabOk rdM okM ls0) (w : World) (hE0 : ErrAt w) :
    Calls Tryd.prog 40 #[.string T0, .int .i64 c, .func (.func 51) #[] #[]] w (StrRes (findP rdM c ls0) w) := by
  obtain ⟨r, hr⟩ : ∃ r, findP rdM c ls0 = r := ⟨_, rfl⟩
  have HR : Hid (findP rdM c ls0 = r) := Lib.hid hr
  have HT0 := Lib.hid hT0
  have HT0' := Lib.hid h0
  rw [hr]
  clear hr hT0 h0
  go_enter Tryd.func40, Tryd.ntmps40
  go_wp2
  go_loopw [0] (fun t wr => ∃ (T : ByteArray) (ls : List (List UInt8)), t = .string T ∧ Hid (T.data.toList = textL ls) ∧ Hid (TabOk rdM okM ls) ∧ Hid (findP rdM c ls = r) ∧ Below w.heap.size w wr)
    (fun t _ => match t with | .string t => t.size | _ => 0)
  case atStart => exact ⟨T0, ls0, rfl, HT0, HT0', HR, Below.refl _ _⟩
  case round =>
    obtain ⟨T, ls, rfl, HT, HO, HF, hbel⟩ := hrel
    have hsz : T.size ≤ 1000000 := by have := HO.out.2.2.2; rw [← HT.out, size_toList] at this; exact this
    by_cases ht : 0 < T.size
    · have htd := isEmpty_no ht
      have HL := Lib.hid (lastIx_any (T.extract 0 (T.size / 2)) 10 (by rw [ByteArray.size_extract]; omega))
      have hdv : T.size / 2 < T.size := by omega
      have hex : (T.extract 0 (T.size / 2)).size = T.size / 2 := by rw [ByteArray.size_extract]; omega
      go_wp2_with fail
      refine (HL.out _).mono ?_
      rintro e w' ⟨rfl, k, hk, rfl, hk1, hk2⟩
      rw [size_toList, hex] at hk
      obtain ⟨A, l, B, rfl, eA, eB, hl, hokl⟩ := round_cut HO.out HT.out hdv hk hk1 hk2
      have HA := Lib.hid eA
      have HC := Lib.hid (scut_any (T.extract k T.size) 10 l (textL B) eB hl (by rw [ByteArray.size_extract]; omega))
      have HRow := Lib.hid (mapRow_any l hokl)
      have hBs : (bs (textL B)).size < T.size := by
        have h1 := size_toList (T.extract k T.size); rw [eB] at h1
        rw [bs_size]; simp [ByteArray.size_extract] at h1; omega
      have hAs : (bs (textL A)).size < T.size := by rw [← HA.out, ByteArray.size_extract]; omega
      have hEr : ErrAt wr := hE0.below hbel
      have ekk : (k : Int) - 1 + 1 = k := by omega
      clear hk1 hk2 eA eB hl hokl HL hex
      go_wp2_with fail
      refine (HC.out _).mono ?_
      rintro e w1 ⟨hw1, rfl⟩
      go_wp2_with fail
      refine (HRow.out _ (hEr.below (hw1.below _))).mono ?_
      rintro e w2 ⟨rfl, hb2⟩
      have hbel2 := hbel.trans ((hw1.below wr.heap.size).trans (hb2.mono (hw1.below 0).size) |>.mono hbel.size)
      have hz2 := hbel2.size
      clear hw1 hb2 HC HRow hEr
      unfold rowV
      have HX : Hid (Rise rdM (A ++ l :: B)) := Lib.hid HO.out.2.1
      have HOA : Hid (TabOk rdM okM A) := Lib.hid HO.out.left
      have HOB : Hid (TabOk rdM okM B) := Lib.hid HO.out.right.next
      by_cases g1 : c < ((rdM l).1 : Int)
      · have HF2 : Hid (findP rdM c A = r) := Lib.hid (by rw [← find_lower HX.out g1]; exact HF.out)
        clear HF HX HO HT
        generalize rdM l = q at *
        go_wp2
        go_roundw
        case rel => exact ⟨_, A, rfl, Lib.hid (by rw [HA.out, bs_data]), HOA, HF2, hbel2.alloc hz2 _⟩
        case measure => simp only [HA.out]; exact hAs
      · by_cases g2 : ((rdM l).2.1 : Int) < c
        · have HF2 : Hid (findP rdM c B = r) := Lib.hid (by rw [← find_upper HX.out g2]; exact HF.out)
          clear HF HX HO HT
          generalize rdM l = q at *
          go_wp2
          go_roundw
          case rel => exact ⟨_, B, rfl, Lib.hid (bs_data _), HOB, HF2, hbel2.alloc hz2 _⟩
          case measure => exact hBs
        · have HF2 : Hid ((rdM l).2.2 = r) := Lib.hid (by rw [← find_here HX.out (Int.not_lt.1 g1) (Int.not_lt.1 g2)]; exact HF.out)
          clear HF HX HO HT
          generalize rdM l = q at *
          go_wp2
          go_ret
          exact ⟨by rw [← HF2.out]; rfl, hbel2.alloc hz2 _⟩
    · have ht0 := isEmpty_yes ht
      have el : ls = [] := by
        rcases Decidable.em (ls = []) with h | h
        · exact h
        · have := textL_pos h; rw [← HT.out, size_toList] at this; exact absurd this ht
      subst el
      have e : r = [] := HF.out.symm
      subst e
      clear HT HO HF
      go_wp2
      go_ret
      exact ⟨rfl, hbel⟩
end Go.Proofs.YtmglnpnkkidnnaaDoor
