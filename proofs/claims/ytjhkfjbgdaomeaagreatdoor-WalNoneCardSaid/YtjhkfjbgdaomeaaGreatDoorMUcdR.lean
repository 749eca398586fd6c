/- The walks of the reference's number, words and lines. -/
import Derived.Test.YtjhkfjbgdaomeaaGreatDoorMUcd
import Derived.Test.YtjhkfjbgdaomeaaGreatDoorMBase
import Derived.Laws.BytesArg
import Derived.Laws.OwnMore
import Derived.Handy
import Derived.RegionTactic
import Derived.Deep.DeepCutAuto
namespace Go.Proofs.YtjhkfjbgdaomeaaGreatDoor
set_option linter.unusedVariables false
open Go.RowKit

set_option maxHeartbeats 4000000 in
set_option maxRecDepth 100000 in
theorem rnumber_any (b : Nat) (hb : b = 10 ∨ b = 16) (s : ByteArray) (hd : DigsOk b s.data.toList) (w : World) :
    Calls Tryz.prog 112 #[.string s, .int .i64 b] w fun e w' => e = .returned (.int .i64 (numB b s.data.toList : Nat)) ∧ w = w' := by
  have hsz : s.size ≤ 10 := by have := hd.2; rw [size_toList] at this; exact this
  have HD := Lib.hid hd
  have hll := size_toList s
  have hb16 : (b : Int) ≤ 16 := by omega
  have hb0 : 0 ≤ (b : Int) := by omega
  clear hd
  go_enter Tryz.func112, Tryz.ntmps112
  go_wp2
  go_loop [5, 6] (fun n i => ∃ (k : Nat) (a : Int), n = .int .i64 a ∧ i = .int .i64 k ∧ k ≤ s.size ∧ Hid (a = (numB b (s.data.toList.take k) : Nat))) (fun _ i => s.size - (intOf i).toNat)
  case atStart => exact ⟨0, 0, rfl, rfl, Nat.zero_le _, Lib.hid rfl⟩
  case round =>
    obtain ⟨k, a, rfl, rfl, hk, hh⟩ := hrel
    have ha := hh.out
    have hbd := numB_bd hb (digsOk_take HD.out k)
    have a0 : 0 ≤ a := by omega
    have a1 : a < 1099511627776 := by omega
    have am : 0 ≤ a * b := Int.mul_nonneg a0 hb0
    have am2 : a * b ≤ 1099511627776 * 16 := Int.mul_le_mul (by omega) hb16 hb0 (by omega)
    clear hh hbd
    by_cases hkn : k < s.size
    · have htk : s.data.toList.take (k + 1) = s.data.toList.take k ++ [s[k]] := by rw [List.take_succ_eq_append_getElem (by omega)]; rfl
      have hok : digOk b s[k] = true := List.all_eq_true.1 HD.out.1 _ (by rw [← at_toList s k hkn]; exact List.getElem_mem _)
      have hsn : numB b (s.data.toList.take (k + 1)) = numB b (s.data.toList.take k) * b + dig s[k] := by rw [htk, numB_snoc]
      have hcase : 48 ≤ s[k].toNat ∧ s[k].toNat ≤ 57 ∨ b = 16 ∧ 65 ≤ s[k].toNat ∧ s[k].toNat ≤ 70 := of_decide_eq_true hok
      clear htk hok
      by_cases hdig : s[k].toNat ≤ 57
      · have hd0 : 48 ≤ s[k].toNat := by omega
        have HN : Hid (a * b + ((s[k].toNat : Int) - 48) = (numB b (s.data.toList.take (k + 1)) : Nat)) := Lib.hid (by rw [hsn]; unfold dig; rw [if_pos (by omega), ha]; push_cast; omega)
        clear hsn ha hcase
        go_wp2
        all_goals first
          | (exfalso; omega)
          | (go_round
             case rel => exact ⟨k + 1, _, by first | rfl | go_num, by go_num, by omega, HN⟩
             case measure => simp [intOf]; omega)
      · have hd0 : 65 ≤ s[k].toNat := by omega
        have hd1 : s[k].toNat ≤ 70 := by omega
        have HN : Hid (a * b + ((s[k].toNat : Int) - 65 + 10) = (numB b (s.data.toList.take (k + 1)) : Nat)) := Lib.hid (by rw [hsn]; unfold dig; rw [if_neg (by omega), ha]; push_cast; omega)
        clear hsn ha hcase
        go_wp2
        all_goals first
          | (exfalso; omega)
          | (go_round
             case rel => exact ⟨k + 1, _, by first | rfl | go_num, by go_num, by omega, HN⟩
             case measure => simp [intOf]; omega)
    · obtain rfl : k = s.size := by omega
      have e : s.data.toList.take s.size = s.data.toList := List.take_of_length_le (by omega)
      rw [e] at ha
      subst ha
      clear a0 a1 am am2
      go_wp2
      go_ret
      exact ⟨rfl, rfl⟩
def strV (l : List UInt8) : Value := .string (bs l)
theorem elem_str : ElemOk Tryz.prog 81 9 16 (.string ⟨#[]⟩) := ⟨Tryz.underlying81, by kernel_rfl, rfl⟩
def wstep (ws : List (List UInt8)) (c : UInt8) : List (List UInt8) := if c = 32 then ws ++ [[]] else ws.set (ws.length - 1) (ws.getD (ws.length - 1) [] ++ [c])
/-- the words of a line, apart by blanks. -/
def wordsP (l : List UInt8) : List (List UInt8) := l.foldl wstep [[]]
theorem wstep_len (ws : List (List UInt8)) (c : UInt8) : ws.length ≤ (wstep ws c).length ∧ (wstep ws c).length ≤ ws.length + 1 := by unfold wstep; split <;> simp
theorem words_snoc (l : List UInt8) (c : UInt8) : wordsP (l ++ [c]) = wstep (wordsP l) c := by simp [wordsP]
theorem words_size (l : List UInt8) : ∀ w ∈ wordsP l, w.length ≤ l.length := by
  rcases Nat.exists_eq_add_of_le (Nat.zero_le l.length) with ⟨n, hn⟩
  rw [Nat.zero_add] at hn
  induction n generalizing l with
  | zero =>
    intro w hw
    have e : l = [] := List.eq_nil_of_length_eq_zero hn
    subst e
    have : w = [] := by simpa [wordsP] using hw
    subst this; exact Nat.le_refl _
  | succ n ih =>
    intro w hw
    obtain ⟨l, c, rfl⟩ : ∃ l' c, l = l' ++ [c] := by
      rcases List.eq_nil_or_concat l with rfl | ⟨l', c, rfl⟩
      · simp at hn
      · exact ⟨l', c, List.concat_eq_append⟩
    have ih := ih l (by simp at hn; omega)
    rw [words_snoc] at hw
    unfold wstep at hw
    simp only [List.length_append, List.length_cons, List.length_nil]
    split at hw
    · rcases List.mem_append.1 hw with hw | hw
      · have := ih w hw; omega
      · have : w = [] := by simpa using hw
        subst this; simp
    · rcases List.mem_or_eq_of_mem_set hw with hw | rfl
      · have := ih w hw; omega
      · rw [List.length_append, List.getD_eq_getElem?_getD]
        cases e : (wordsP l)[(wordsP l).length - 1]? with
        | none => simp
        | some v => have := ih v (List.mem_of_getElem? e); simp; omega
theorem own_one (w : World) (T : TypeId) (u : Value) : (w.alloc (.cells #[u] T)).ownsRow w.heap.size T 1 (.slice (some ⟨w.heap.size, 0, none⟩) 1 1) 1 [u] :=
  ⟨rfl, .inr ⟨w.heap.size, 1, #[u], rfl, Nat.le_refl _, by rw [heap_alloc_new], Nat.le_refl _, by simp [maxLen], rfl, rfl⟩⟩
theorem nums_one (c : UInt8) : strOfNums [(c.toNat : Int)] = bs [c] := by
  unfold strOfNums bs
  simp only [List.map_cons, List.map_nil, Int.toNat_natCast, UInt8.ofNat_toNat]
theorem bs_app (a b : List UInt8) : bs a ++ bs b = bs (a ++ b) := by
  apply ByteArray.ext
  rw [ByteArray.data_append]
  simp [bs]
theorem conv_byte (w : World) (c : UInt8) : (convert 38 9 (.slice (some ⟨w.heap.size, 0, none⟩) 1 1)).run Tryz.prog (w.alloc (.cells #[.int .u8 c.toNat] 5)) = .ok (.string (bs [c])) (w.alloc (.cells #[.int .u8 c.toNat] 5)) := by
  rw [← nums_one]
  refine run_convert_bytes_arg _ 38 5 Tryz.underlying38 Tryz.underlying5 w.heap.size 0 1 1 [c.toNat] rfl ?_ 9 Tryz.underlying9
  intro i hi
  have : i = 0 := by simpa using hi
  subst this
  unfold World.cell?
  rw [heap_alloc_new]; rfl
set_option maxHeartbeats 4000000 in
set_option maxRecDepth 100000 in
theorem rwords_any (s : ByteArray) (hs : s.size ≤ 100) (w : World) :
    Calls Tryz.prog 111 #[.string s] w fun e w' => ∃ g cap, e = .returned (.slice (some ⟨g, 0, none⟩) (wordsP s.data.toList).length cap) ∧ w'.ownsRow w.heap.size 9 1 (.slice (some ⟨g, 0, none⟩) (wordsP s.data.toList).length cap) (wordsP s.data.toList).length ((wordsP s.data.toList).map strV) ∧ Below w.heap.size w w' := by
  have hll := size_toList s
  have h0 : (w.alloc (.cells #[strV []] 9)).ownsRow w.heap.size 9 1 (.slice (some ⟨w.heap.size, 0, none⟩) 1 1) 1 [strV []] := own_one w _ _
  go_enter Tryz.func111, Tryz.ntmps111
  go_wp2
  go_loopw [3, 4] (fun l i wr => ∃ (k g cap : Nat) (ws : List (List UInt8)), l = .slice (some ⟨g, 0, none⟩) ws.length cap ∧ i = .int .i64 k ∧ k ≤ s.size ∧ 1 ≤ ws.length ∧ ws.length ≤ k + 1 ∧ Hid (ws = wordsP (s.data.toList.take k)) ∧ wr.ownsRow w.heap.size 9 1 (.slice (some ⟨g, 0, none⟩) ws.length cap) ws.length (ws.map strV) ∧ Below w.heap.size w wr)
    (fun _ i _ => s.size - (intOf i).toNat)
  case atStart => exact ⟨0, w.heap.size, 1, [[]], rfl, rfl, Nat.zero_le _, Nat.le_refl _, Nat.le_refl _, Lib.hid rfl, h0, (Below.refl _ _).alloc (Nat.le_refl _) _⟩
  case round =>
    obtain ⟨k, g, cap, ws, rfl, rfl, hk, hw1, hw2, HW, hown, hbel⟩ := hrel
    have hwr := hbel.size
    clear h0
    by_cases hkn : k < s.size
    · have htk : s.data.toList.take (k + 1) = s.data.toList.take k ++ [s[k]] := by rw [List.take_succ_eq_append_getElem (by omega)]; rfl
      have HN : Hid (wstep ws s[k] = wordsP (s.data.toList.take (k + 1))) := Lib.hid (by rw [htk, words_snoc, HW.out])
      have hsl := wstep_len ws s[k]
      have HZ : Hid (∀ w ∈ ws, w.length ≤ 100) := Lib.hid (by rw [HW.out]; intro w hw; have := words_size _ w hw; rw [List.length_take] at this; omega)
      clear HW htk
      by_cases hc : s[k] = 32
      · have hcd : ((s[k].toNat : Int) == 32) = true := by rw [hc]; rfl
        have e : wstep ws s[k] = ws ++ [[]] := by unfold wstep; rw [if_pos hc]
        rw [e] at HN hsl
        have hownV : OwnV 9 w.heap.size wr (.slice (some ⟨g, 0, none⟩) ws.length cap) (ws.map strV) := by unfold OwnV; simpa using hown
        clear e hc
        go_wp2_with (at_builtin; refine wp_app elem_str _ _ (by rfl) (by rfl) (by rfl) hownV [strV []] 1 rfl (by rfl) ?c1 ?c2 ?c3 ?c4 (by decide) ?_)
        case c1 => simp [Value.oneCell', strV]
        case c2 => simp; omega
        case c3 => simp [maxLen]; omega
        case c4 => exact hwr
        intro v' w2 hown2 hbel2 hnn
        obtain ⟨g', cap', rfl⟩ : ∃ g' cap', v' = .slice (some ⟨g', 0, none⟩) (ws.length + 1) cap' := by
          rcases hown2.nilOr with ⟨e, -⟩ | ⟨g', cap', e, -⟩
          · exact absurd e hnn
          · exact ⟨g', cap', by rw [e]; simp⟩
        go_wp2
        go_roundw
        case rel => exact ⟨k + 1, g', cap', ws ++ [[]], by simp, by go_num, by omega, by simp, by simp; omega, HN, by unfold OwnV at hown2; simpa using hown2, hbel.trans hbel2⟩
        case measure => simp [intOf]; omega
      · have hcd : ((s[k].toNat : Int) == 32) = false := by
          rw [beq_eq_false_iff_ne]; intro e; exact hc (UInt8.toNat_inj.1 (show s[k].toNat = 32 by omega))
        have e : wstep ws s[k] = ws.set (ws.length - 1) (ws.getD (ws.length - 1) [] ++ [s[k]]) := by unfold wstep; rw [if_neg hc]
        rw [e] at HN hsl
        obtain ⟨m, hm⟩ : ∃ m, ws.length = m + 1 := ⟨ws.length - 1, by omega⟩
        have hcell : wr.cell? ⟨g, m, none⟩ = some (.string (bs (ws.getD m []))) := by
          rw [hown.cellAt m (by omega), List.getElem?_map, List.getD_eq_getElem?_getD, List.getElem?_eq_getElem (show m < ws.length by omega)]; rfl
        have hfr : wr.frozen? ⟨g, m, none⟩ = false := hown.frozenAt m
        have hz1 : (bs (ws.getD m [])).size ≤ 100 := by
          rw [bs_size, List.getD_eq_getElem?_getD, List.getElem?_eq_getElem (show m < ws.length by omega)]
          exact HZ.out _ (List.getElem_mem _)
        have hz2 : (bs [s[k]]).size = 1 := bs_size _
        have HN2 : Hid (ws.set m (ws.getD m [] ++ [s[k]]) = ws.set m (ws.getD m [] ++ [s[k]])) := Lib.hid rfl
        have kc := conv_byte wr s[k]
        have kd : (convert 38 9 (.slice (some ⟨wr.heap.size, 0, none⟩) 1 1)).run Tryz.prog (wr.alloc (.cells #[.int .u8 s[k].toNat] 5)).drew = .ok (.string (bs [s[k]])) (wr.alloc (.cells #[.int .u8 s[k].toNat] 5)).drew := conv_byte wr.drew s[k]
        have e1 : (ws.length : Int) - 1 = (m : Int) := by omega
        have hgl : g < wr.heap.size := World.block_lt_of_cell? wr _ hcell
        have b1 : Below wr.heap.size wr (wr.alloc (.cells #[.int .u8 s[k].toNat] 5)).drew := ((Below.refl _ wr).alloc (Nat.le_refl _) _).drew
        have hcell2 : (wr.alloc (.cells #[.int .u8 s[k].toNat] 5)).drew.cell? ⟨g, m, none⟩ = some (.string (bs (ws.getD m []))) := (b1.cell (p := ⟨g, m, none⟩) hgl).trans hcell
        have hfr2 : (wr.alloc (.cells #[.int .u8 s[k].toNat] 5)).drew.frozen? ⟨g, m, none⟩ = false := (b1.frozen (p := ⟨g, m, none⟩) hgl).trans hfr
        have hcell3 : wr.drew.cell? ⟨g, m, none⟩ = some (.string (bs (ws.getD m []))) := hcell
        have hmw : IntKind.i64.wrap (m : Int) = m := i64_small m (by omega)
        have HB := Lib.hid (bs_app (ws.getD m []) [s[k]])
        have e2 : ws.length - 1 = m := by omega
        rw [e2] at HN hsl
        generalize ws.getD m [] = W0 at *
        clear e hc e2 HN2
        go_wp2
        go_region
        have hst := (hown.stored m (.string (bs W0 ++ bs [s[k]]))).1.alloc (.cells #[.int .u8 s[k].toNat] 5)
        have hown5 : ((wr.setCell ⟨g, m, none⟩ (.string (bs W0 ++ bs [s[k]]))).alloc (.cells #[.int .u8 s[k].toNat] 5)).drew.ownsRow w.heap.size 9 1 (.slice (some ⟨g, 0, none⟩) (ws.set m (W0 ++ [s[k]])).length cap) (ws.set m (W0 ++ [s[k]])).length ((ws.set m (W0 ++ [s[k]])).map strV) := by
          rw [List.length_set, List.map_set]
          unfold strV
          rw [← HB.out]; exact hst
        have hgb : w.heap.size ≤ g := by
          rcases hown.2 with ⟨e, -⟩ | ⟨g', cap', cur, e, h1, -⟩
          · cases e
          · cases e; exact h1
        have hbel5 : Below w.heap.size w ((wr.setCell ⟨g, m, none⟩ (.string (bs W0 ++ bs [s[k]]))).alloc (.cells #[.int .u8 s[k].toNat] 5)).drew := ((hbel.setCell (p := ⟨g, m, none⟩) hgb _).alloc (by simpa using hwr) _).drew
        clear kc kd b1 hcell2 hfr2 hcell3 hst
        go_wp2
        go_roundw
        case rel => exact ⟨k + 1, g, cap, ws.set m (W0 ++ [s[k]]), by rw [List.length_set], by go_num, by omega, by rw [List.length_set]; exact hw1, by rw [List.length_set]; omega, HN, hown5, hbel5⟩
        case measure => simp [intOf]; omega
    · obtain rfl : k = s.size := by omega
      have e : s.data.toList.take s.size = s.data.toList := List.take_of_length_le (by omega)
      have ew : ws = wordsP s.data.toList := by rw [HW.out, e]
      subst ew
      clear HW e
      go_wp2
      go_ret
      exact ⟨g, cap, rfl, hown, hbel⟩
theorem first_ten {l r : List UInt8} {j : Nat} (hl : (10 : UInt8) ∉ l) (h1 : (10 : UInt8) ∉ (l ++ 10 :: r).take j) (h2 : (l ++ 10 :: r)[j]? = some 10) : j = l.length := by
  rcases Nat.lt_trichotomy j l.length with h | h | h
  · rw [List.getElem?_append_left h] at h2
    exact absurd (List.mem_of_getElem? h2) hl
  · exact h
  · refine absurd ?_ h1
    obtain ⟨m, rfl⟩ : ∃ m, j = l.length + (m + 1) := ⟨j - l.length - 1, by omega⟩
    rw [List.take_length_add_append, List.take_succ_cons]; simp
/-- what the reference's loop over a text of lines knows when i stands at k, the last line having begun at a. -/
def LinesAt (l : List UInt8) (ls A B : List (List UInt8)) (a k : Nat) : Prop := l = textL ls ∧ Lined ls ∧ ls = A ++ B ∧ a = (textL A).length ∧ (10 : UInt8) ∉ (l.drop a).take (k - a)
theorem LinesAt.rest {l : List UInt8} {ls A B : List (List UInt8)} {a k : Nat} (h : LinesAt l ls A B a k) : l.drop a = textL B := by
  obtain ⟨rfl, -, rfl, rfl, -⟩ := h
  rw [textL_append, List.drop_append_of_le_length (Nat.le_refl _), List.drop_length, List.nil_append]
theorem LinesAt.hit {l : List UInt8} {ls A B : List (List UInt8)} {a k : Nat} (h : LinesAt l ls A B a k) (ha : a ≤ k) (hk : k < l.length) (hc : l[k]? = some 10) :
    ∃ x B', B = x :: B' ∧ (l.drop a).take (k - a) = x ∧ LinesAt l ls (A ++ [x]) B' (k + 1) (k + 1) := by
  have hr := h.rest
  obtain ⟨h1, h2, h3, h4, h5⟩ := h
  have hj : (l.drop a)[k - a]? = some 10 := by rw [List.getElem?_drop]; rw [show a + (k - a) = k by omega]; exact hc
  cases B with
  | nil => rw [hr] at hj; simp [textL] at hj
  | cons x B' =>
    have hx : (10 : UInt8) ∉ x := h2 x (by rw [h3]; simp)
    rw [hr] at hj h5
    have e := first_ten (r := textL B') hx h5 hj
    refine ⟨x, B', rfl, ?_, h1, h2, by rw [h3]; simp, ?_, by simp⟩
    · rw [hr, e]; simp [textL]
    · rw [textL_append, List.length_append, ← h4]; simp [textL]; omega
theorem LinesAt.miss {l : List UInt8} {ls A B : List (List UInt8)} {a k : Nat} (h : LinesAt l ls A B a k) (ha : a ≤ k) (hk : k < l.length) (hc : l[k] ≠ 10) : LinesAt l ls A B a (k + 1) := by
  obtain ⟨h1, h2, h3, h4, h5⟩ := h
  refine ⟨h1, h2, h3, h4, ?_⟩
  rw [show k + 1 - a = (k - a) + 1 by omega, List.take_succ_eq_append_getElem (by rw [List.length_drop]; omega), List.mem_append, not_or]
  refine ⟨h5, ?_⟩
  rw [List.getElem_drop]
  simp only [show a + (k - a) = k by omega, List.mem_singleton]
  exact fun e => hc e.symm
theorem LinesAt.over {l : List UInt8} {ls A B : List (List UInt8)} {a : Nat} (h : LinesAt l ls A B a l.length) : A = ls := by
  have hr := h.rest
  obtain ⟨h1, h2, h3, h4, h5⟩ := h
  cases B with
  | nil => rw [h3]; simp
  | cons x B' =>
    rw [hr, List.take_of_length_le (by have := congrArg List.length hr; rw [List.length_drop] at this; omega)] at h5
    simp [textL] at h5
theorem lines_fewer (ls : List (List UInt8)) : ls.length ≤ (textL ls).length := by
  induction ls with
  | nil => exact Nat.le_refl _
  | cons l r ih => simp [textL]; omega
set_option maxHeartbeats 4000000 in
set_option maxRecDepth 100000 in
theorem rlines_any (s : ByteArray) (ls : List (List UInt8)) (hs : s.data.toList = textL ls) (hL : Lined ls) (hz : s.size ≤ 1000000) (w : World) :
    Calls Tryz.prog 110 #[.string s] w fun e w' => ∃ v, e = .returned v ∧ OwnV 9 w.heap.size w' v (ls.map strV) ∧ Below w.heap.size w w' := by
  have hll := size_toList s
  have H0 : Hid (LinesAt s.data.toList ls [] ls 0 0) := Lib.hid ⟨hs, hL, rfl, rfl, by simp⟩
  have HA : Hid (∀ A B : List (List UInt8), ls = A ++ B → A.length ≤ s.size) := Lib.hid fun A B e => by
    have h1 := lines_fewer ls; rw [← hs, hll] at h1
    have h2 := congrArg List.length e; rw [List.length_append] at h2; omega
  clear hs hL
  go_enter Tryz.func110, Tryz.ntmps110
  go_wp2
  go_loopw [3, 4, 5] (fun l at_ i wr => ∃ (a k : Nat) (A B : List (List UInt8)), i = .int .i64 k ∧ at_ = .int .i64 a ∧ a ≤ k ∧ k ≤ s.size ∧ Hid (LinesAt s.data.toList ls A B a k) ∧ OwnV 9 w.heap.size wr l (A.map strV) ∧ Below w.heap.size w wr)
    (fun _ _ i _ => s.size - (intOf i).toNat)
  case atStart => exact ⟨0, 0, [], ls, rfl, rfl, Nat.le_refl _, Nat.zero_le _, H0, OwnV.nil _ _ _, Below.refl _ _⟩
  case round =>
    obtain ⟨a, k, A, B, rfl, rfl, hak, hk, HR, hown, hbel⟩ := hrel
    have hwr := hbel.size
    clear H0
    by_cases hkn : k < s.size
    · by_cases hc : s[k] = 10
      · have hcd : ((s[k].toNat : Int) == 10) = true := by rw [hc]; rfl
        obtain ⟨x, B', rfl, hx, hR2⟩ := HR.out.hit hak (by omega) (by rw [at_list s k hkn, hc])
        have HX : Hid (s.extract a k = bs x) := Lib.hid (by rw [ext_bs, hx])
        have HR2 := Lib.hid hR2
        have hAl := HA.out (A ++ [x]) B' hR2.2.2.1
        rw [List.length_append, List.length_cons, List.length_nil] at hAl
        have hxz : OwnV 9 w.heap.size wr = OwnV 9 w.heap.size wr := rfl
        clear hc hR2 hx HR hxz
        go_wp2_with (at_builtin; refine wp_app elem_str _ _ (by rfl) (by rfl) (by rfl) hown [.string (s.extract a k)] 1 rfl (by rfl) ?c1 ?c2 ?c3 ?c4 (by decide) ?_)
        case c1 => simp [Value.oneCell']
        case c2 => simp; omega
        case c3 => simp [maxLen]; omega
        case c4 => exact hwr
        intro v' w2 hown2 hbel2 hnn
        rw [HX.out] at hown2
        go_wp2
        go_roundw
        case rel => exact ⟨k + 1, k + 1, A ++ [x], B', by go_num, by go_num, Nat.le_refl _, by omega, HR2, by rw [List.map_append]; exact hown2, hbel.trans hbel2⟩
        case measure => simp [intOf]; omega
      · have hcd : ((s[k].toNat : Int) == 10) = false := by
          rw [beq_eq_false_iff_ne]; intro e; exact hc (UInt8.toNat_inj.1 (show s[k].toNat = 10 by omega))
        have HR2 := Lib.hid (HR.out.miss hak (by omega) (by rw [at_toList s k hkn]; exact hc))
        clear hc HR
        go_wp2
        go_roundw
        case rel => exact ⟨a, k + 1, A, B, by go_num, rfl, by omega, by omega, HR2, hown, hbel⟩
        case measure => simp [intOf]; omega
    · obtain rfl : k = s.size := by omega
      have hR := HR.out
      rw [← hll] at hR
      obtain rfl := hR.over
      clear HR hR
      go_wp2
      go_ret
      exact ⟨_, rfl, hown, hbel⟩
end Go.Proofs.YtjhkfjbgdaomeaaGreatDoor
/- The walks of the reference's Class and Map. -/
namespace Go.Proofs.YtjhkfjbgdaomeaaGreatDoor
set_option linter.unusedVariables false
open Go.RowKit

theorem rnum_row (b : Nat) (hb : b = 10 ∨ b = 16) (l : List UInt8) (h : digsB b l = true) (w : World) :
    Calls Tryz.prog 112 #[.string (bs l), .int .i64 b] w fun e w' => e = .returned (.int .i64 (numB b l : Nat)) ∧ w = w' := by
  have := rnumber_any b hb (bs l) (by rw [bs_data]; exact digsB_ok h) w
  rwa [bs_data] at this
/-- the reference's words of a line of the classes. -/
def fitC (l : List UInt8) : Bool := decide (wordsP l = [cutA l, cutA (cutB l), cutB (cutB l)]) && okC l
theorem fitsC : classLines.all fitC = true := by decide +kernel
theorem lowC : ∀ l ∈ classLines, 768 ≤ (rdC l).1 := by decide +kernel
theorem class_low (c : Int) (h : c < 768) : classP c = 0 := by
  unfold classP
  have : findP rdC c classLines = [] := by
    rcases find_mem rdC c classLines with h' | ⟨l, hl, h', h1, h2⟩
    · exact h'
    · have := lowC l hl; omega
  rw [this]; rfl
theorem find_cons (rd : List UInt8 → Row) (c : Int) (l : List UInt8) (r : List (List UInt8)) : findP rd c (l :: r) = if ((rd l).1 : Int) ≤ c ∧ c ≤ ((rd l).2.1 : Int) then (rd l).2.2 else findP rd c r := by
  unfold findP
  by_cases h : ((rd l).1 : Int) ≤ c ∧ c ≤ ((rd l).2.1 : Int)
  · rw [if_pos h, List.find?_cons_of_pos (by simpa using h)]
  · rw [if_neg h, List.find?_cons_of_neg (by simpa using h)]
theorem rowsCell {w : World} {E B g n cap : Nat} {vs : List Value} (h : w.ownsRow B E 1 (.slice (some ⟨g, 0, none⟩) n cap) n vs) (j : Nat) (u : Value) (hj : j < n) (hu : vs[j]? = some u) : w.cell? ⟨g, j, none⟩ = some u := by
  rw [h.cellAt j (by omega), hu]
set_option maxHeartbeats 4000000 in
set_option maxRecDepth 100000 in
theorem rclass_any (c : Int) (hc0 : -9223372036854775808 ≤ c) (hc1 : c ≤ 9223372036854775807) (w : World) :
    Calls Tryz.prog 96 #[.int .i64 c] w (IntRes (classP c) w) := by
  by_cases hlow : c < 768
  · have HV := Lib.hid (class_low c hlow)
    generalize classP c = V at *
    go_enter Tryz.func96, Tryz.ntmps96
    go_wp2
    go_ret
    exact ⟨by rw [HV.out]; rfl, Below.refl _ _⟩
  have HLn : Hid (∀ t : ByteArray, t.data.toList = textL classLines → ∀ w, Calls Tryz.prog 110 #[.string t] w fun e w' => ∃ v, e = .returned v ∧ OwnV 9 w.heap.size w' v (classLines.map strV) ∧ Below w.heap.size w w') := Lib.hid fun t ht w => rlines_any t classLines ht classTab.1 (by rw [← size_toList, ht]; exact classTab.2.2.2) w
  have HF : Hid (∀ l ∈ classLines, fitC l = true) := Lib.hid (List.all_eq_true.1 fitsC)
  have hlen : classLines.length = 31 := by decide +kernel
  obtain ⟨V, hV⟩ : ∃ V, classP c = V := ⟨_, rfl⟩
  have HV : Hid ((numB 10 (findP rdC c (classLines.drop 0)) : Nat) = V) := Lib.hid hV
  rw [hV]
  obtain ⟨lit, hlit⟩ : ∃ t : ByteArray, t = bs (textL classLines) := ⟨_, rfl⟩
  clear hV
  go_enter Tryz.func96, Tryz.ntmps96
  go_wp2_with fail
  refine (HLn.out _ (by kernel_rfl) _).mono ?_
  rintro e w1 ⟨v, rfl, hown, hb1⟩
  clear HLn
  generalize hls : classLines = ls at *
  clear hls hlit lit
  obtain ⟨g, cap, rfl⟩ : ∃ g cap, v = .slice (some ⟨g, 0, none⟩) 31 cap := by
    rcases hown.nilOr with ⟨-, e⟩ | ⟨g, cap, e, -⟩
    · have := congrArg List.length e; simp [hlen] at this
    · exact ⟨g, cap, by rw [e]; simp [hlen]⟩
  have hrow : w1.ownsRow w.heap.size 9 1 (.slice (some ⟨g, 0, none⟩) 31 cap) 31 (ls.map strV) := by unfold OwnV at hown; simpa [hlen] using hown
  clear hown
  go_wp2
  go_loopw [4] (fun i wr => ∃ k : Nat, i = .int .i64 k ∧ k ≤ 31 ∧ wr.ownsRow w.heap.size 9 1 (.slice (some ⟨g, 0, none⟩) 31 cap) 31 (ls.map strV) ∧ Below w.heap.size w wr ∧ Hid ((numB 10 (findP rdC c (ls.drop k)) : Nat) = V)) (fun i _ => 31 - (intOf i).toNat)
  case atStart => exact ⟨0, rfl, by omega, hrow, hb1, HV⟩
  case round =>
    obtain ⟨k, rfl, hk, hown, hbel, HK⟩ := hrel
    have hwr := hbel.size
    clear HV hrow
    by_cases hkn : k < 31
    · obtain ⟨L, hL⟩ : ∃ L, ls[k]? = some L := ⟨_, List.getElem?_eq_getElem (by omega)⟩
      obtain ⟨hlt, hget⟩ := List.getElem?_eq_some_iff.1 hL
      have hcell : wr.cell? ⟨g, k, none⟩ = some (.string (bs L)) := rowsCell hown k _ hkn (by rw [List.getElem?_map, hL]; rfl)
      have hdrop : ls.drop k = L :: ls.drop (k + 1) := by rw [List.drop_eq_getElem_cons hlt, hget]
      have hfit := HF.out L (List.mem_of_getElem? hL)
      unfold fitC at hfit
      rw [Bool.and_eq_true, decide_eq_true_eq] at hfit
      obtain ⟨hwd, hok⟩ := hfit
      unfold okC at hok
      simp only [Bool.and_eq_true, decide_eq_true_eq] at hok
      obtain ⟨⟨⟨⟨⟨⟨-, -⟩, h3⟩, h4⟩, h5⟩, -⟩, h7⟩ := hok
      have HW : Hid (∀ w, Calls Tryz.prog 111 #[.string (bs L)] w fun e w' => ∃ g cap, e = .returned (.slice (some ⟨g, 0, none⟩) 3 cap) ∧ w'.ownsRow w.heap.size 9 1 (.slice (some ⟨g, 0, none⟩) 3 cap) 3 [strV (cutA L), strV (cutA (cutB L)), strV (cutB (cutB L))] ∧ Below w.heap.size w w') := Lib.hid fun w => by
        have := rwords_any (bs L) (by rw [bs_size]; exact h7) w
        rw [bs_data, hwd] at this; exact this
      have HN1 := Lib.hid (rnum_row 16 (by decide) (cutA L) h3)
      have HN2 := Lib.hid (rnum_row 16 (by decide) (cutA (cutB L)) h4)
      have HN3 := Lib.hid (rnum_row 10 (by decide) (cutB (cutB L)) h5)
      have HK2 : Hid ((numB 10 (if (((numB 16 (cutA L) : Nat) : Int) ≤ c ∧ c ≤ ((numB 16 (cutA (cutB L)) : Nat) : Int)) then cutB (cutB L) else findP rdC c (ls.drop (k + 1))) : Nat) = V) := Lib.hid (by have := HK.out; rw [hdrop, find_cons] at this; exact this)
      clear HK hdrop hwd h3 h4 h5 h7 hL hlt hget
      generalize numB 16 (cutA L) = n1 at *
      generalize numB 16 (cutA (cutB L)) = n2 at *
      generalize cutB (cutB L) = r3 at *
      generalize cutA (cutB L) = r2 at *
      generalize cutA L = r1 at *
      generalize bs L = Ls at *
      go_wp2_with fail
      refine (HW.out _).mono ?_
      rintro e w2 ⟨g2, cap2, rfl, hrow2, hb2⟩
      have q0 : w2.cell? ⟨g2, 0, none⟩ = some (.string (bs r1)) := rowsCell hrow2 0 _ (by omega) rfl
      have q1 : w2.cell? ⟨g2, 1, none⟩ = some (.string (bs r2)) := rowsCell hrow2 1 _ (by omega) rfl
      have q2 : w2.cell? ⟨g2, 2, none⟩ = some (.string (bs r3)) := rowsCell hrow2 2 _ (by omega) rfl
      have hown2 := ownsBelow hown hb2
      have hbel2 := hbel.trans (hb2.mono hwr)
      clear hrow2 hb2 hown hbel HW hcell
      by_cases g1 : (n1 : Int) ≤ c
      · by_cases g2' : c ≤ (n2 : Int)
        · have HK3 : Hid ((numB 10 r3 : Nat) = V) := Lib.hid (by have := HK2.out; rwa [if_pos ⟨g1, g2'⟩] at this)
          clear HK2
          go_wp2_with fail
          refine (HN1.out _).mono ?_
          rintro e w' ⟨rfl, rfl⟩
          go_wp2_with fail
          refine (HN2.out _).mono ?_
          rintro e w' ⟨rfl, rfl⟩
          go_wp2_with fail
          refine (HN3.out _).mono ?_
          rintro e w' ⟨rfl, rfl⟩
          go_wp2
          go_ret
          exact ⟨ret_int (by have := HK3.out; omega), hbel2⟩
        · have HK3 : Hid ((numB 10 (findP rdC c (ls.drop (k + 1))) : Nat) = V) := Lib.hid (by have := HK2.out; rwa [if_neg (fun x => g2' x.2)] at this)
          clear HK2
          go_wp2_with fail
          refine (HN1.out _).mono ?_
          rintro e w' ⟨rfl, rfl⟩
          go_wp2_with fail
          refine (HN2.out _).mono ?_
          rintro e w' ⟨rfl, rfl⟩
          go_wp2
          go_roundw
          case rel => exact ⟨k + 1, by go_num, by omega, hown2, hbel2, HK3⟩
          case measure => simp [intOf]; omega
      · have HK3 : Hid ((numB 10 (findP rdC c (ls.drop (k + 1))) : Nat) = V) := Lib.hid (by have := HK2.out; rwa [if_neg (fun x => g1 x.1)] at this)
        clear HK2
        go_wp2_with fail
        refine (HN1.out _).mono ?_
        rintro e w' ⟨rfl, rfl⟩
        go_wp2
        go_roundw
        case rel => exact ⟨k + 1, by go_num, by omega, hown2, hbel2, HK3⟩
        case measure => simp [intOf]; omega
    · obtain rfl : k = 31 := by omega
      have e : ls.drop 31 = [] := List.drop_eq_nil_of_le (by omega)
      have hv0 := HK.out
      rw [e] at hv0
      have HV0 : Hid (V = 0) := Lib.hid (by rw [← hv0]; rfl)
      clear hv0 HK e
      go_wp2
      go_ret
      exact ⟨ret_int HV0.out.symm, hbel⟩
/-- the reference's words of a line of the maps. -/
def fitR (l : List UInt8) : Bool := (wordsP l).all (digsB 16) && decide (1 ≤ (wordsP l).length) && decide ((wordsP l).length ≤ 10) && decide (numB 16 ((wordsP l).getD 0 []) = (rdM l).1) && decide (((wordsP l).drop 1).map (numB 16) = (fieldsP (rdM l).2.2).map (numB 16)) && decide ((rdM l).1 = (rdM l).2.1) && decide (l.length ≤ 100)
theorem fitsR : mapLines.all fitR = true := by decide +kernel
theorem lowM : ∀ l ∈ mapLines, 192 ≤ (rdM l).1 := by decide +kernel
def numI (f : List UInt8) : Int := ((numB 16 f : Nat) : Int)
def numVs (l : List (List UInt8)) : List Value := (l.map numI).map (Value.int .i64)
theorem numVs_snoc (l : List (List UInt8)) (x : List UInt8) : numVs (l ++ [x]) = numVs l ++ [.int .i64 (numI x)] := by simp [numVs]
theorem numVs_len (l : List (List UInt8)) : (numVs l).length = l.length := by simp [numVs]
theorem map_low (c : Int) (h : c < 192) : mapP c = [] := by
  unfold mapP
  have : findP rdM c mapLines = [] := by
    rcases find_mem rdM c mapLines with h' | ⟨l, hl, h', h1, h2⟩
    · exact h'
    · have := lowM l hl; omega
  rw [this]; rfl
theorem mapP_num (c : Int) : mapP c = (fieldsP (findP rdM c mapLines)).map numI := rfl
set_option maxHeartbeats 4000000 in
set_option maxRecDepth 100000 in
theorem rmap_any (c : Int) (hc0 : -9223372036854775808 ≤ c) (hc1 : c ≤ 9223372036854775807) (w : World) :
    Calls Tryz.prog 109 #[.int .i64 c] w (MapRes (mapP c) w) := by
  by_cases hlow : c < 192
  · have HV := Lib.hid (map_low c hlow)
    generalize mapP c = V at *
    go_enter Tryz.func109, Tryz.ntmps109
    go_wp2
    go_ret
    exact ⟨_, rfl, by rw [HV.out]; exact OwnV.nil _ _ _, by rw [HV.out]; exact ⟨fun _ => rfl, fun _ => rfl⟩, Below.refl _ _⟩
  have HLn : Hid (∀ t : ByteArray, t.data.toList = textL mapLines → ∀ w, Calls Tryz.prog 110 #[.string t] w fun e w' => ∃ v, e = .returned v ∧ OwnV 9 w.heap.size w' v (mapLines.map strV) ∧ Below w.heap.size w w') := Lib.hid fun t ht w => rlines_any t mapLines ht mapTab.1 (by rw [← size_toList, ht]; exact mapTab.2.2.2) w
  have HF : Hid (∀ l ∈ mapLines, fitR l = true) := Lib.hid (List.all_eq_true.1 fitsR)
  have hlen : mapLines.length = 112 := by decide +kernel
  obtain ⟨V, hV⟩ : ∃ V, mapP c = V := ⟨_, rfl⟩
  have HV : Hid ((fieldsP (findP rdM c (mapLines.drop 0))).map numI = V) := Lib.hid hV
  rw [hV]
  clear hV
  go_enter Tryz.func109, Tryz.ntmps109
  go_wp2_with fail
  refine (HLn.out _ (by kernel_rfl) _).mono ?_
  rintro e w1 ⟨v, rfl, hown, hb1⟩
  clear HLn
  generalize hls : mapLines = ls at *
  clear hls
  obtain ⟨g, cap, rfl⟩ : ∃ g cap, v = .slice (some ⟨g, 0, none⟩) 112 cap := by
    rcases hown.nilOr with ⟨-, e⟩ | ⟨g, cap, e, -⟩
    · have := congrArg List.length e; simp [hlen] at this
    · exact ⟨g, cap, by rw [e]; simp [hlen]⟩
  have hrow : w1.ownsRow w.heap.size 9 1 (.slice (some ⟨g, 0, none⟩) 112 cap) 112 (ls.map strV) := by unfold OwnV at hown; simpa [hlen] using hown
  clear hown
  go_wp2
  go_loopw [4] (fun i wr => ∃ k : Nat, i = .int .i64 k ∧ k ≤ 112 ∧ wr.ownsRow w.heap.size 9 1 (.slice (some ⟨g, 0, none⟩) 112 cap) 112 (ls.map strV) ∧ Below w.heap.size w wr ∧ Hid ((fieldsP (findP rdM c (ls.drop k))).map numI = V)) (fun i _ => 112 - (intOf i).toNat)
  case atStart => exact ⟨0, rfl, by omega, hrow, hb1, HV⟩
  case round =>
    obtain ⟨k, rfl, hk, hown, hbel, HK⟩ := hrel
    have hwr := hbel.size
    clear HV hrow
    by_cases hkn : k < 112
    · obtain ⟨L, hL⟩ : ∃ L, ls[k]? = some L := ⟨_, List.getElem?_eq_getElem (by omega)⟩
      obtain ⟨hlt, hget⟩ := List.getElem?_eq_some_iff.1 hL
      have hcell : wr.cell? ⟨g, k, none⟩ = some (.string (bs L)) := rowsCell hown k _ hkn (by rw [List.getElem?_map, hL]; rfl)
      have hdrop : ls.drop k = L :: ls.drop (k + 1) := by rw [List.drop_eq_getElem_cons hlt, hget]
      have hfit := HF.out L (List.mem_of_getElem? hL)
      unfold fitR at hfit
      simp only [Bool.and_eq_true, decide_eq_true_eq] at hfit
      obtain ⟨⟨⟨⟨⟨⟨h1, h2⟩, h3⟩, h4⟩, h5⟩, h6⟩, h7⟩ := hfit
      have HW : Hid (∀ w, Calls Tryz.prog 111 #[.string (bs L)] w fun e w' => ∃ g cap, e = .returned (.slice (some ⟨g, 0, none⟩) (wordsP L).length cap) ∧ w'.ownsRow w.heap.size 9 1 (.slice (some ⟨g, 0, none⟩) (wordsP L).length cap) (wordsP L).length ((wordsP L).map strV) ∧ Below w.heap.size w w') := Lib.hid fun w => by
        have := rwords_any (bs L) (by rw [bs_size]; exact h7) w
        rw [bs_data] at this; exact this
      have HK2 : Hid ((if ((rdM L).1 : Int) = c then ((wordsP L).drop 1).map numI else (fieldsP (findP rdM c (ls.drop (k + 1)))).map numI) = V) := Lib.hid (by
        have := HK.out; rw [hdrop, find_cons] at this
        by_cases e : ((rdM L).1 : Int) = c
        · rw [if_pos ⟨by omega, by omega⟩] at this
          rw [if_pos e, ← this]
          have hX : ∀ X : List (List UInt8), X.map numI = (X.map (numB 16)).map (fun n : Nat => (n : Int)) := fun X => by rw [List.map_map]; rfl
          rw [hX, hX, h5]
        · rw [if_neg (by omega)] at this
          rw [if_neg e, this])
      have HD : Hid (∀ x ∈ wordsP L, digsB 16 x = true) := Lib.hid (List.all_eq_true.1 h1)
      rw [← h4] at HK2
      clear HK hdrop h1 h4 h5 h6 h7 hL hlt hget
      generalize wordsP L = ws at *
      generalize bs L = Ls at *
      go_wp2_with fail
      refine (HW.out _).mono ?_
      rintro e w2 ⟨g2, cap2, rfl, hrow2, hb2⟩
      have hown2 := ownsBelow hown hb2
      have hbel2 := hbel.trans (hb2.mono hwr)
      obtain ⟨a, ws', rfl⟩ : ∃ a r, ws = a :: r := by
        cases ws with
        | nil => simp at h2
        | cons a r => exact ⟨a, r, rfl⟩
      have q0 : w2.cell? ⟨g2, 0, none⟩ = some (.string (bs a)) := rowsCell hrow2 0 _ (by omega) rfl
      have HN1 := Lib.hid (rnum_row 16 (by decide) a (HD.out a (by simp)))
      have hcl : 0 < (a :: ws').length := by simp
      clear hb2 hown hbel HW hcell
      simp only [List.getD_cons_zero, List.drop_succ_cons, List.drop_zero] at HK2
      by_cases g1 : ((numB 16 a : Nat) : Int) = c
      · have HK3 : Hid (ws'.map numI = V) := Lib.hid (by have := HK2.out; rwa [if_pos g1] at this)
        rw [g1] at HN1
        clear HK2 g1 hown2
        obtain ⟨m, hm⟩ : ∃ m, (a :: ws').length = m := ⟨_, rfl⟩
        have hm2 : m = ws'.length + 1 := by rw [← hm]; rfl
        rw [hm] at hrow2 h2 h3 hcl ⊢
        have HM := Lib.hid hm2
        clear hm hm2
        go_wp2_with fail
        refine (HN1.out _).mono ?_
        rintro e w' ⟨rfl, rfl⟩
        go_wp2
        obtain ⟨wo, rfl⟩ : ∃ wo : World, wo = w2 := ⟨_, rfl⟩
        go_loopw [6, 7] (fun out kk wr => ∃ j : Nat, kk = .int .i64 (j : Int) ∧ 1 ≤ j ∧ j ≤ m ∧ OwnV 3 wo.heap.size wr out (numVs (ws'.take (j - 1))) ∧ (out = .slice none 0 0 ↔ j = 1) ∧ Below wo.heap.size wo wr) (fun _ kk _ => m - (intOf kk).toNat)
        case atStart => exact ⟨1, rfl, Nat.le_refl _, hcl, OwnV.nil _ _ _, by simp, Below.refl _ _⟩
        case round =>
          obtain ⟨j, rfl, hj1, hj2, hout, hnil, hb⟩ := hrel
          have hrw := ownsBelow hrow2 hb
          have hm2 := HM.out
          have hwo := hb.size
          by_cases hjm : j < m
          · obtain ⟨x, hx⟩ : ∃ x, ws'[j - 1]? = some x := ⟨_, List.getElem?_eq_getElem (by omega)⟩
            have hx2 : (a :: ws')[j]? = some x := by
              obtain ⟨j', rfl⟩ : ∃ j', j = j' + 1 := ⟨j - 1, by omega⟩
              simpa using hx
            have hcell : wr.cell? ⟨g2, j, none⟩ = some (.string (bs x)) := rowsCell hrw j _ hjm (by rw [List.getElem?_map, hx2]; rfl)
            have HNx : Hid (∀ w, Calls Tryz.prog 112 #[.string (bs x), .int .i64 16] w fun e w' => e = .returned (.int .i64 (numI x)) ∧ w = w') := Lib.hid (rnum_row 16 (by decide) x (HD.out x (List.mem_of_getElem? hx2)))
            have htk : (ws'.take (j + 1 - 1)) = ws'.take (j - 1) ++ [x] := by
              obtain ⟨j', rfl⟩ : ∃ j', j = j' + 1 := ⟨j - 1, by omega⟩
              rw [Nat.add_sub_cancel, Nat.add_sub_cancel] at *
              obtain ⟨hl, he⟩ := List.getElem?_eq_some_iff.1 hx
              rw [List.take_succ_eq_append_getElem hl, he]
            have HT := Lib.hid htk
            have hol : (numVs (ws'.take (j - 1))).length ≤ 10 := by rw [numVs_len, List.length_take]; omega
            clear hx hx2 htk hm2
            go_wp2_with fail
            refine (HNx.out _).mono ?_
            rintro e w' ⟨rfl, rfl⟩
            go_wp2_with (at_builtin; refine wp_app elem_int _ _ (by rfl) (by rfl) (by rfl) hout [.int .i64 (numI x)] 1 rfl (by rfl) ?c1 ?c2 ?c3 ?c4 (by decide) ?_)
            case c1 => simp [Value.oneCell']
            case c2 => simp only [List.length_cons, List.length_nil]; omega
            case c3 => simp only [List.length_cons, List.length_nil]; unfold maxLen; omega
            case c4 => exact hwo
            intro v' w5 hout5 hb5 hnn
            go_wp2
            go_roundw
            case rel => exact ⟨j + 1, by go_num, by omega, by omega, by rw [HT.out, numVs_snoc]; exact hout5, ⟨fun e => absurd e hnn, fun e => by omega⟩, hb.trans hb5⟩
            case measure => simp [intOf]; omega
          · obtain rfl : j = m := by omega
            have e : ws'.take (j - 1) = ws' := List.take_of_length_le (by omega)
            rw [e] at hout
            have hbe : Below w.heap.size w wr := hbel2.trans (hb.mono hbel2.size)
            have hn2 := hnil.trans (show j = 1 ↔ V = [] by
              rw [← HK3.out]; constructor
              · intro h; have : ws' = [] := List.eq_nil_of_length_eq_zero (by omega)
                rw [this]; rfl
              · intro h; have : ws'.length = 0 := by have := congrArg List.length h; simpa using this
                omega)
            have hoV := OwnV.base hout hbel2.size
            unfold numVs at hoV
            rw [HK3.out] at hoV
            clear hnil hout e hm2 hcl
            go_wp2
            go_ret
            exact ⟨_, rfl, hoV, hn2, hbe⟩
      · have HK3 : Hid ((fieldsP (findP rdM c (ls.drop (k + 1)))).map numI = V) := Lib.hid (by have := HK2.out; rwa [if_neg g1] at this)
        have gne : (((numB 16 a : Nat) : Int) == c) = false := by simpa using g1
        have gne2 : (((numB 16 a : Nat) : Int) != c) = true := by simpa using g1
        clear HK2
        generalize ((numB 16 a : Nat) : Int) = N at *
        clear g1
        go_wp2_with fail
        refine (HN1.out _).mono ?_
        rintro e w' ⟨rfl, rfl⟩
        go_wp2
        go_roundw
        case rel => exact ⟨k + 1, by go_num, by omega, hown2, hbel2, HK3⟩
        case measure => simp [intOf]; omega
    · obtain rfl : k = 112 := by omega
      have e : ls.drop 112 = [] := List.drop_eq_nil_of_le (by omega)
      have hv0 := HK.out
      rw [e] at hv0
      have HV0 : Hid (V = []) := Lib.hid (by rw [← hv0]; rfl)
      clear hv0 HK e
      go_wp2
      go_ret
      exact ⟨_, rfl, by rw [HV0.out]; exact OwnV.nil _ _ _, by rw [HV0.out]; exact ⟨fun _ => rfl, fun _ => rfl⟩, hbel⟩
end Go.Proofs.YtjhkfjbgdaomeaaGreatDoor
