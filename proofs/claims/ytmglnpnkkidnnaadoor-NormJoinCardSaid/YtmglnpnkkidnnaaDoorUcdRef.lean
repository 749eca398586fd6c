/- The walks of the reference's number, words and lines. -/
import Derived.Test.YtmglnpnkkidnnaaDoorUcdTabs
import Derived.Test.YtmglnpnkkidnnaaDoorSrc
import Derived.Laws.BytesArg
import Derived.Laws.OwnMore
import Derived.Handy
import Derived.RegionTactic
import Derived.Deep.DeepCutAuto
namespace Go.Proofs.YtmglnpnkkidnnaaDoor
set_option linter.unusedVariables false
open Go.RowKit

set_option maxHeartbeats 4000000 in
set_option maxRecDepth 100000 in
theorem rnumber_any (b : Nat) (hb : b = 10 ∨ b = 16) (s : ByteArray) (hd : DigsOk b s.data.toList) (w : World) :
    Calls Tryd.prog 36 #[.string s, .int .i64 b] w fun e w' => e = .returned (.int .i64 (numB b s.data.toList : Nat)) ∧ w = w' := by
  have hsz : s.size ≤ 10 := by have := hd.2; rw [size_toList] at this; exact this
  have HD := Lib.hid hd
  have hll := size_toList s
  have hb16 : (b : Int) ≤ 16 := by omega
  have hb0 : 0 ≤ (b : Int) := by omega
  clear hd
  go_enter Tryd.func36, Tryd.ntmps36
  go_wp2
  go_loop [5, 6] (fun n i => ∃ (k : Nat) (a : Int), n = .int .i64 a ∧ i = .int .i64 k ∧ k ≤ s.size ∧ Hid (a = (numB b (s.data.toList.take k) : Nat))) (fun _ i => s.size - (intOf i).toNat)
  case atStart => exact ⟨0, 0, rfl, rfl, Nat.zero_le _, Lib.hid rfl⟩
  case round =>
    obtain ⟨k, a, rfl, rfl, hk, hh⟩ := hrel
    have ha := hh.out
    have hbd := numB_bd hb (digsOk_take HD.out k)
    have a0 : 0 ≤ a := by omega
    have a1 : a < 1099511627776 := by omega
    have am : 0 ≤ a * b := Int.mul_nonneg a0 hb0
    have am2 : a * b ≤ 1099511627776 * 16 := Int.mul_le_mul (by omega) hb16 hb0 (by omega)
    clear hh hbd
    by_cases hkn : k < s.size
    · have htk : s.data.toList.take (k + 1) = s.data.toList.take k ++ [s[k]] := by rw [List.take_succ_eq_append_getElem (by omega)]; rfl
      have hok : digOk b s[k] = true := List.all_eq_true.1 HD.out.1 _ (by rw [← at_toList s k hkn]; exact List.getElem_mem _)
      have hsn : numB b (s.data.toList.take (k + 1)) = numB b (s.data.toList.take k) * b + dig s[k] := by rw [htk, numB_snoc]
      have hcase : 48 ≤ s[k].toNat ∧ s[k].toNat ≤ 57 ∨ b = 16 ∧ 65 ≤ s[k].toNat ∧ s[k].toNat ≤ 70 := of_decide_eq_true hok
      clear htk hok
      by_cases hdig : s[k].toNat ≤ 57
      · have hd0 : 48 ≤ s[k].toNat := by omega
        have HN : Hid (a * b + ((s[k].toNat : Int) - 48) = (numB b (s.data.toList.take (k + 1)) : Nat)) := Lib.hid (by rw [hsn]; unfold dig; rw [if_pos (by omega), ha]; push_cast; omega)
        clear hsn ha hcase
        go_wp2
        all_goals first
          | (exfalso; omega)
          | (go_round
             case rel => exact ⟨k + 1, _, by first | rfl | go_num, by go_num, by omega, HN⟩
             case measure => simp [intOf]; omega)
      · have hd0 : 65 ≤ s[k].toNat := by omega
        have hd1 : s[k].toNat ≤ 70 := by omega
        have HN : Hid (a * b + ((s[k].toNat : Int) - 65 + 10) = (numB b (s.data.toList.take (k + 1)) : Nat)) := Lib.hid (by rw [hsn]; unfold dig; rw [if_neg (by omega), ha]; push_cast; omega)
        clear hsn ha hcase
        go_wp2
        all_goals first
          | (exfalso; omega)
          | (go_round
             case rel => exact ⟨k + 1, _, by first | rfl | go_num, by go_num, by omega, HN⟩
             case measure => simp [intOf]; omega)
    · obtain rfl : k = s.size := by omega
      have e : s.data.toList.take s.size = s.data.toList := List.take_of_length_le (by omega)
      rw [e] at ha
      subst ha
      clear a0 a1 am am2
      go_wp2
      go_ret
      exact ⟨rfl, rfl⟩
def strV (l : List UInt8) : Value := .string (bs l)
theorem elem_str : ElemOk Tryd.prog 49 9 16 (.string ⟨#[]⟩) := ⟨Tryd.underlying49, by kernel_rfl, rfl⟩
def wstep (ws : List (List UInt8)) (c : UInt8) : List (List UInt8) := if c = 32 then ws ++ [[]] else ws.set (ws.length - 1) (ws.getD (ws.length - 1) [] ++ [c])
/-- the words of a line, apart by blanks. -/
def wordsP (l : List UInt8) : List (List UInt8) := l.foldl wstep [[]]
theorem wstep_len (ws : List (List UInt8)) (c : UInt8) : ws.length ≤ (wstep ws c).length ∧ (wstep ws c).length ≤ ws.length + 1 := by unfold wstep; split <;> simp
theorem words_snoc (l : List UInt8) (c : UInt8) : wordsP (l ++ [c]) = wstep (wordsP l) c := by simp [wordsP]
theorem words_size (l : List UInt8) : ∀ w ∈ wordsP l, w.length ≤ l.length := by
  rcases Nat.exists_eq_add_of_le (Nat.zero_le l.length) with ⟨n, hn⟩
  rw [Nat.zero_add] at hn
  induction n generalizing l with
  | zero =>
    intro w hw
    have e : l = [] := List.eq_nil_of_length_eq_zero hn
    subst e
    have : w = [] := by simpa [wordsP] using hw
    subst this; exact Nat.le_refl _
  | succ n ih =>
    intro w hw
    obtain ⟨l, c, rfl⟩ : ∃ l' c, l = l' ++ [c] := by
      rcases List.eq_nil_or_concat l with rfl | ⟨l', c, rfl⟩
      · simp at hn
      · exact ⟨l', c, List.concat_eq_append⟩
    have ih := ih l (by simp at hn; omega)
    rw [words_snoc] at hw
    unfold wstep at hw
    simp only [List.length_append, List.length_cons, List.length_nil]
    split at hw
    · rcases List.mem_append.1 hw with hw | hw
      · have := ih w hw; omega
      · have : w = [] := by simpa using hw
        subst this; simp
    · rcases List.mem_or_eq_of_mem_set hw with hw | rfl
      · have := ih w hw; omega
      · rw [List.length_append, List.getD_eq_getElem?_getD]
        cases e : (wordsP l)[(wordsP l).length - 1]? with
        | none => simp
        | some v => have := ih v (List.mem_of_getElem? e); simp; omega
theorem own_one (w : World) (T : TypeId) (u : Value) : (w.alloc (.cells #[u] T)).ownsRow w.heap.size T 1 (.slice (some ⟨w.heap.size, 0, none⟩) 1 1) 1 [u] :=
  ⟨rfl, .inr ⟨w.heap.size, 1, #[u], rfl, Nat.le_refl _, by rw [heap_alloc_new], Nat.le_refl _, by simp [maxLen], rfl, rfl⟩⟩
theorem nums_one (c : UInt8) : strOfNums [(c.toNat : Int)] = bs [c] := by
  unfold strOfNums bs
  simp only [List.map_cons, List.map_nil, Int.toNat_natCast, UInt8.ofNat_toNat]
theorem bs_app (a b : List UInt8) : bs a ++ bs b = bs (a ++ b) := by
  apply ByteArray.ext
  rw [ByteArray.data_append]
  simp [bs]
theorem conv_byte (w : World) (c : UInt8) : (convert 36 9 (.slice (some ⟨w.heap.size, 0, none⟩) 1 1)).run Tryd.prog (w.alloc (.cells #[.int .u8 c.toNat] 5)) = .ok (.string (bs [c])) (w.alloc (.cells #[.int .u8 c.toNat] 5)) := by
  rw [← nums_one]
  refine run_convert_bytes_arg _ 36 5 Tryd.underlying36 Tryd.underlying5 w.heap.size 0 1 1 [c.toNat] rfl ?_ 9 Tryd.underlying9
  intro i hi
  have : i = 0 := by simpa using hi
  subst this
  unfold World.cell?
  rw [heap_alloc_new]; rfl
set_option maxHeartbeats 4000000 in
set_option maxRecDepth 100000 in
theorem rwords_any (s : ByteArray) (hs : s.size ≤ 100) (w : World) :
    Calls Tryd.prog 35 #[.string s] w fun e w' => ∃ g cap, e = .returned (.slice (some ⟨g, 0, none⟩) (wordsP s.data.toList).length cap) ∧ w'.ownsRow w.heap.size 9 1 (.slice (some ⟨g, 0, none⟩) (wordsP s.data.toList).length cap) (wordsP s.data.toList).length ((wordsP s.data.toList).map strV) ∧ Below w.heap.size w w' := by
  have hll := size_toList s
  have h0 : (w.alloc (.cells #[strV []] 9)).ownsRow w.heap.size 9 1 (.slice (some ⟨w.heap.size, 0, none⟩) 1 1) 1 [strV []] := own_one w _ _
  go_enter Tryd.func35, Tryd.ntmps35
  go_wp2
  go_loopw [3, 4] (fun l i wr => ∃ (k g cap : Nat) (ws : List (List UInt8)), l = .slice (some ⟨g, 0, none⟩) ws.length cap ∧ i = .int .i64 k ∧ k ≤ s.size ∧ 1 ≤ ws.length ∧ ws.length ≤ k + 1 ∧ Hid (ws = wordsP (s.data.toList.take k)) ∧ wr.ownsRow w.heap.size 9 1 (.slice (some ⟨g, 0, none⟩) ws.length cap) ws.length (ws.map strV) ∧ Below w.heap.size w wr)
    (fun _ i _ => s.size - (intOf i).toNat)
  case atStart => exact ⟨0, w.heap.size, 1, [[]], rfl, rfl, Nat.zero_le _, Nat.le_refl _, Nat.le_refl _, Lib.hid rfl, h0, (Below.refl _ _).alloc (Nat.le_refl _) _⟩
  case round =>
    obtain ⟨k, g, cap, ws, rfl, rfl, hk, hw1, hw2, HW, hown, hbel⟩ := hrel
    have hwr := hbel.size
    clear h0
    by_cases hkn : k < s.size
    · have htk : s.data.toList.take (k + 1) = s.data.toList.take k ++ [s[k]] := by rw [List.take_succ_eq_append_getElem (by omega)]; rfl
      have HN : Hid (wstep ws s[k] = wordsP (s.data.toList.take (k + 1))) := Lib.hid (by rw [htk, words_snoc, HW.out])
      have hsl := wstep_len ws s[k]
      have HZ : Hid (∀ w ∈ ws, w.length ≤ 100) := Lib.hid (by rw [HW.out]; intro w hw; have := words_size _ w hw; rw [List.length_take] at this; omega)
      clear HW htk
      by_cases hc : s[k] = 32
      · have hcd : ((s[k].toNat : Int) == 32) = true := by rw [hc]; rfl
        have e : wstep ws s[k] = ws ++ [[]] := by unfold wstep; rw [if_pos hc]
        rw [e] at HN hsl
        have hownV : OwnV 9 w.heap.size wr (.slice (some ⟨g, 0, none⟩) ws.length cap) (ws.map strV) := by unfold OwnV; simpa using hown
        clear e hc
        go_wp2_with (at_builtin; refine wp_app elem_str _ _ (by rfl) (by rfl) (by rfl) hownV [strV []] 1 rfl (by rfl) ?c1 ?c2 ?c3 ?c4 (by decide) ?_)
        case c1 => simp [Value.oneCell', strV]
        case c2 => simp; omega
        case c3 => simp [maxLen]; omega
        case c4 => exact hwr
        intro v' w2 hown2 hbel2 hnn
        obtain ⟨g', cap', rfl⟩ : ∃ g' cap', v' = .slice (some ⟨g', 0, none⟩) (ws.length + 1) cap' := by
          rcases hown2.nilOr with ⟨e, -⟩ | ⟨g', cap', e, -⟩
          · exact absurd e hnn
          · exact ⟨g', cap', by rw [e]; simp⟩
        go_wp2
        go_roundw
        case rel => exact ⟨k + 1, g', cap', ws ++ [[]], by simp, by go_num, by omega, by simp, by simp; omega, HN, by unfold OwnV at hown2; simpa using hown2, hbel.trans hbel2⟩
        case measure => simp [intOf]; omega
      · have hcd : ((s[k].toNat : Int) == 32) = false := by
          rw [beq_eq_false_iff_ne]; intro e; exact hc (UInt8.toNat_inj.1 (show s[k].toNat = 32 by omega))
        have e : wstep ws s[k] = ws.set (ws.length - 1) (ws.getD (ws.length - 1) [] ++ [s[k]]) := by unfold wstep; rw [if_neg hc]
        rw [e] at HN hsl
        obtain ⟨m, hm⟩ : ∃ m, ws.length = m + 1 := ⟨ws.length - 1, by omega⟩
        have hcell : wr.cell? ⟨g, m, none⟩ = some (.string (bs (ws.getD m []))) := by
          rw [hown.cellAt m (by omega), List.getElem?_map, List.getD_eq_getElem?_getD, List.getElem?_eq_getElem (show m < ws.length by omega)]; rfl
        have hfr : wr.frozen? ⟨g, m, none⟩ = false := hown.frozenAt m
        have hz1 : (bs (ws.getD m [])).size ≤ 100 := by
          rw [bs_size, List.getD_eq_getElem?_getD, List.getElem?_eq_getElem (show m < ws.length by omega)]
          exact HZ.out _ (List.getElem_mem _)
        have hz2 : (bs [s[k]]).size = 1 := bs_size _
        have HN2 : Hid (ws.set m (ws.getD m [] ++ [s[k]]) = ws.set m (ws.getD m [] ++ [s[k]])) := Lib.hid rfl
        have kc := conv_byte wr s[k]
        have kd : (convert 36 9 (.slice (some ⟨wr.heap.size, 0, none⟩) 1 1)).run Tryd.prog (wr.alloc (.cells #[.int .u8 s[k].toNat] 5)).drew = .ok (.string (bs [s[k]])) (wr.alloc (.cells #[.int .u8 s[k].toNat] 5)).drew := conv_byte wr.drew s[k]
        have e1 : (ws.length : Int) - 1 = (m : Int) := by omega
        have hgl : g < wr.heap.size := World.block_lt_of_cell? wr _ hcell
        have b1 : Below wr.heap.size wr (wr.alloc (.cells #[.int .u8 s[k].toNat] 5)).drew := ((Below.refl _ wr).alloc (Nat.le_refl _) _).drew
        have hcell2 : (wr.alloc (.cells #[.int .u8 s[k].toNat] 5)).drew.cell? ⟨g, m, none⟩ = some (.string (bs (ws.getD m []))) := (b1.cell (p := ⟨g, m, none⟩) hgl).trans hcell
        have hfr2 : (wr.alloc (.cells #[.int .u8 s[k].toNat] 5)).drew.frozen? ⟨g, m, none⟩ = false := (b1.frozen (p := ⟨g, m, none⟩) hgl).trans hfr
        have hcell3 : wr.drew.cell? ⟨g, m, none⟩ = some (.string (bs (ws.getD m []))) := hcell
        have hmw : IntKind.i64.wrap (m : Int) = m := i64_small m (by omega)
        have HB := Lib.hid (bs_app (ws.getD m []) [s[k]])
        have e2 : ws.length - 1 = m := by omega
        rw [e2] at HN hsl
        generalize ws.getD m [] = W0 at *
        clear e hc e2 HN2
        go_wp2
        go_region
        have hst := (hown.stored m (.string (bs W0 ++ bs [s[k]]))).1.alloc (.cells #[.int .u8 s[k].toNat] 5)
        have hown5 : ((wr.setCell ⟨g, m, none⟩ (.string (bs W0 ++ bs [s[k]]))).alloc (.cells #[.int .u8 s[k].toNat] 5)).drew.ownsRow w.heap.size 9 1 (.slice (some ⟨g, 0, none⟩) (ws.set m (W0 ++ [s[k]])).length cap) (ws.set m (W0 ++ [s[k]])).length ((ws.set m (W0 ++ [s[k]])).map strV) := by
          rw [List.length_set, List.map_set]
          unfold strV
          rw [← HB.out]; exact hst
        have hgb : w.heap.size ≤ g := by
          rcases hown.2 with ⟨e, -⟩ | ⟨g', cap', cur, e, h1, -⟩
          · cases e
          · cases e; exact h1
        have hbel5 : Below w.heap.size w ((wr.setCell ⟨g, m, none⟩ (.string (bs W0 ++ bs [s[k]]))).alloc (.cells #[.int .u8 s[k].toNat] 5)).drew := ((hbel.setCell (p := ⟨g, m, none⟩) hgb _).alloc (by simpa using hwr) _).drew
        clear kc kd b1 hcell2 hfr2 hcell3 hst
        go_wp2
        go_roundw
        case rel => exact ⟨k + 1, g, cap, ws.set m (W0 ++ [s[k]]), by rw [List.length_set], by go_num, by omega, by rw [List.length_set]; exact hw1, by rw [List.length_set]; omega, HN, hown5, hbel5⟩
        case measure => simp [intOf]; omega
    · obtain rfl : k = s.size := by omega
      have e : s.data.toList.take s.size = s.data.toList := List.take_of_length_le (by omega)
      have ew : ws = wordsP s.data.toList := by rw [HW.out, e]
      subst ew
      clear HW e
      go_wp2
      go_ret
      exact ⟨g, cap, rfl, hown, hbel⟩
theorem first_ten {l r : List UInt8} {j : Nat} (hl : (10 : UInt8) ∉ l) (h1 : (10 : UInt8) ∉ (l ++ 10 :: r).take j) (h2 : (l ++ 10 :: r)[j]? = some 10) : j = l.length := by
  rcases Nat.lt_trichotomy j l.length with h | h | h
  · rw [List.getElem?_append_left h] at h2
    exact absurd (List.mem_of_getElem? h2) hl
  · exact h
  · refine absurd ?_ h1
    obtain ⟨m, rfl⟩ : ∃ m, j = l.length + (m + 1) := ⟨j - l.length - 1, by omega⟩
    rw [List.take_length_add_append, List.take_succ_cons]; simp
/-- what the reference's loop over a text of lines knows when i stands at k, the last line having begun at a. -/
def LinesAt (l : List UInt8) (ls A B : List (List UInt8)) (a k : Nat) : Prop := l = textL ls ∧ Lined ls ∧ ls = A ++ B ∧ a = (textL A).length ∧ (10 : UInt8) ∉ (l.drop a).take (k - a)
theorem LinesAt.rest {l : List UInt8} {ls A B : List (List UInt8)} {a k : Nat} (h : LinesAt l ls A B a k) : l.drop a = textL B := by
  obtain ⟨rfl, -, rfl, rfl, -⟩ := h
  rw [textL_append, List.drop_append_of_le_length (Nat.le_refl _), List.drop_length, List.nil_append]
theorem LinesAt.hit {l : List UInt8} {ls A B : List (List UInt8)} {a k : Nat} (h : LinesAt l ls A B a k) (ha : a ≤ k) (hk : k < l.length) (hc : l[k]? = some 10) :
    ∃ x B', B = x :: B' ∧ (l.drop a).take (k - a) = x ∧ LinesAt l ls (A ++ [x]) B' (k + 1) (k + 1) := by
  have hr := h.rest
  obtain ⟨h1, h2, h3, h4, h5⟩ := h
  have hj : (l.drop a)[k - a]? = some 10 := by rw [List.getElem?_drop]; rw [show a + (k - a) = k by omega]; exact hc
  cases B with
  | nil => rw [hr] at hj; simp [textL] at hj
  | cons x B' =>
    have hx : (10 : UInt8) ∉ x := h2 x (by rw [h3]; simp)
    rw [hr] at hj h5
    have e := first_ten (r := textL B') hx h5 hj
    refine ⟨x, B', rfl, ?_, h1, h2, by rw [h3]; simp, ?_, by simp⟩
    · rw [hr, e]; simp [textL]
    · rw [textL_append, List.length_append, ← h4]; simp [textL]; omega
theorem LinesAt.miss {l : List UInt8} {ls A B : List (List UInt8)} {a k : Nat} (h : LinesAt l ls A B a k) (ha : a ≤ k) (hk : k < l.length) (hc : l[k] ≠ 10) : LinesAt l ls A B a (k + 1) := by
  obtain ⟨h1, h2, h3, h4, h5⟩ := h
  refine ⟨h1, h2, h3, h4, ?_⟩
  rw [show k + 1 - a = (k - a) + 1 by omega, List.take_succ_eq_append_getElem (by rw [List.length_drop]; omega), List.mem_append, not_or]
  refine ⟨h5, ?_⟩
  rw [List.getElem_drop]
  simp only [show a + (k - a) = k by omega, List.mem_singleton]
  exact fun e => hc e.symm
theorem LinesAt.over {l : List UInt8} {ls A B : List (List UInt8)} {a : Nat} (h : LinesAt l ls A B a l.length) : A = ls := by
  have hr := h.rest
  obtain ⟨h1, h2, h3, h4, h5⟩ := h
  cases B with
  | nil => rw [h3]; simp
  | cons x B' =>
    rw [hr, List.take_of_length_le (by have := congrArg List.length hr; rw [List.length_drop] at this; omega)] at h5
    simp [textL] at h5
theorem lines_fewer (ls : List (List UInt8)) : ls.length ≤ (textL ls).length := by
  induction ls with
  | nil => exact Nat.le_refl _
  | cons l r ih => simp [textL]; omega
set_option maxHeartbeats 4000000 in
set_option maxRecDepth 100000 in
theorem rlines_any (s : ByteArray) (ls : List (List UInt8)) (hs : s.data.toList = textL ls) (hL : Lined ls) (hz : s.size ≤ 1000000) (w : World) :
    Calls Tryd.prog 34 #[.string s] w fun e w' => ∃ v, e = .returned v ∧ OwnV 9 w.heap.size w' v (ls.map strV) ∧ Below w.heap.size w w' := by
  have hll := size_toList s
  have H0 : Hid (LinesAt s.data.toList ls [] ls 0 0) := Lib.hid ⟨hs, hL, rfl, rfl, by simp⟩
  have HA : Hid (∀ A B : List (List UInt8), ls = A ++ B → A.length ≤ s.size) := Lib.hid fun A B e => by
    have h1 := lines_fewer ls; rw [← hs, hll] at h1
    have h2 := congrArg List.length e; rw [List.length_append] at h2; omega
  clear hs hL
  go_enter Tryd.func34, Tryd.ntmps34
  go_wp2
  go_loopw [3, 4, 5] (fun l at_ i wr => ∃ (a k : Nat) (A B : List (List UInt8)), i = .int .i64 k ∧ at_ = .int .i64 a ∧ a ≤ k ∧ k ≤ s.size ∧ Hid (LinesAt s.data.toList ls A B a k) ∧ OwnV 9 w.heap.size wr l (A.map strV) ∧ Below w.heap.size w wr)
    (fun _ _ i _ => s.size - (intOf i).toNat)
  case atStart => exact ⟨0, 0, [], ls, rfl, rfl, Nat.le_refl _, Nat.zero_le _, H0, OwnV.nil _ _ _, Below.refl _ _⟩
  case round =>
    obtain ⟨a, k, A, B, rfl, rfl, hak, hk, HR, hown, hbel⟩ := hrel
    have hwr := hbel.size
    clear H0
    by_cases hkn : k < s.size
    · by_cases hc : s[k] = 10
      · have hcd : ((s[k].toNat : Int) == 10) = true := by rw [hc]; rfl
        obtain ⟨x, B', rfl, hx, hR2⟩ := HR.out.hit hak (by omega) (by rw [at_list s k hkn, hc])
        have HX : Hid (s.extract a k = bs x) := Lib.hid (by rw [ext_bs, hx])
        have HR2 := Lib.hid hR2
        have hAl := HA.out (A ++ [x]) B' hR2.2.2.1
        rw [List.length_append, List.length_cons, List.length_nil] at hAl
        have hxz : OwnV 9 w.heap.size wr = OwnV 9 w.heap.size wr := rfl
        clear hc hR2 hx HR hxz
        go_wp2_with (at_builtin; refine wp_app elem_str _ _ (by rfl) (by rfl) (by rfl) hown [.string (s.extract a k)] 1 rfl (by rfl) ?c1 ?c2 ?c3 ?c4 (by decide) ?_)
        case c1 => simp [Value.oneCell']
        case c2 => simp; omega
        case c3 => simp [maxLen]; omega
        case c4 => exact hwr
        intro v' w2 hown2 hbel2 hnn
        rw [HX.out] at hown2
        go_wp2
        go_roundw
        case rel => exact ⟨k + 1, k + 1, A ++ [x], B', by go_num, by go_num, Nat.le_refl _, by omega, HR2, by rw [List.map_append]; exact hown2, hbel.trans hbel2⟩
        case measure => simp [intOf]; omega
      · have hcd : ((s[k].toNat : Int) == 10) = false := by
          rw [beq_eq_false_iff_ne]; intro e; exact hc (UInt8.toNat_inj.1 (show s[k].toNat = 10 by omega))
        have HR2 := Lib.hid (HR.out.miss hak (by omega) (by rw [at_toList s k hkn]; exact hc))
        clear hc HR
        go_wp2
        go_roundw
        case rel => exact ⟨a, k + 1, A, B, by go_num, rfl, by omega, by omega, HR2, hown, hbel⟩
        case measure => simp [intOf]; omega
    · obtain rfl : k = s.size := by omega
      have hR := HR.out
      rw [← hll] at hR
      obtain rfl := hR.over
      clear HR hR
      go_wp2
      go_ret
      exact ⟨_, rfl, hown, hbel⟩
end Go.Proofs.YtmglnpnkkidnnaaDoor
