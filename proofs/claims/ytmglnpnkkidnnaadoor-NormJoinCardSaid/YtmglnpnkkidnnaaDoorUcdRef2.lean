/- The walks of the reference's Class and Map. -/
import Derived.Test.YtmglnpnkkidnnaaDoorUcdRef
import Derived.Test.YtmglnpnkkidnnaaDoorUcdMap
namespace Go.Proofs.YtmglnpnkkidnnaaDoor
set_option linter.unusedVariables false
open Go.RowKit

theorem rnum_row (b : Nat) (hb : b = 10 ∨ b = 16) (l : List UInt8) (h : digsB b l = true) (w : World) :
    Calls Tryd.prog 36 #[.string (bs l), .int .i64 b] w fun e w' => e = .returned (.int .i64 (numB b l : Nat)) ∧ w = w' := by
  have := rnumber_any b hb (bs l) (by rw [bs_data]; exact digsB_ok h) w
  rwa [bs_data] at this
/-- the reference's words of a line of the classes. -/
def fitC (l : List UInt8) : Bool := decide (wordsP l = [cutA l, cutA (cutB l), cutB (cutB l)]) && okC l
theorem fitsC : classLines.all fitC = true := by decide +kernel
theorem lowC : ∀ l ∈ classLines, 768 ≤ (rdC l).1 := by decide +kernel
theorem class_low (c : Int) (h : c < 768) : classP c = 0 := by
  unfold classP
  have : findP rdC c classLines = [] := by
    rcases find_mem rdC c classLines with h' | ⟨l, hl, h', h1, h2⟩
    · exact h'
    · have := lowC l hl; omega
  rw [this]; rfl
theorem find_cons (rd : List UInt8 → Row) (c : Int) (l : List UInt8) (r : List (List UInt8)) : findP rd c (l :: r) = if ((rd l).1 : Int) ≤ c ∧ c ≤ ((rd l).2.1 : Int) then (rd l).2.2 else findP rd c r := by
  unfold findP
  by_cases h : ((rd l).1 : Int) ≤ c ∧ c ≤ ((rd l).2.1 : Int)
  · rw [if_pos h, List.find?_cons_of_pos (by simpa using h)]
  · rw [if_neg h, List.find?_cons_of_neg (by simpa using h)]
theorem rowsCell {w : World} {E B g n cap : Nat} {vs : List Value} (h : w.ownsRow B E 1 (.slice (some ⟨g, 0, none⟩) n cap) n vs) (j : Nat) (u : Value) (hj : j < n) (hu : vs[j]? = some u) : w.cell? ⟨g, j, none⟩ = some u := by
  rw [h.cellAt j (by omega), hu]
set_option maxHeartbeats 4000000 in
set_option maxRecDepth 100000 in
theorem rclass_any (c : Int) (hc0 : -9223372036854775808 ≤ c) (hc1 : c ≤ 9223372036854775807) (w : World) :
    Calls Tryd.prog 22 #[.int .i64 c] w (IntRes (classP c) w) := by
  by_cases hlow : c < 768
  · have HV := Lib.hid (class_low c hlow)
    generalize classP c = V at *
    go_enter Tryd.func22, Tryd.ntmps22
    go_wp2
    go_ret
    exact ⟨by rw [HV.out]; rfl, Below.refl _ _⟩
  have HLn : Hid (∀ t : ByteArray, t.data.toList = textL classLines → ∀ w, Calls Tryd.prog 34 #[.string t] w fun e w' => ∃ v, e = .returned v ∧ OwnV 9 w.heap.size w' v (classLines.map strV) ∧ Below w.heap.size w w') := Lib.hid fun t ht w => rlines_any t classLines ht classTab.1 (by rw [← size_toList, ht]; exact classTab.2.2.2) w
  have HF : Hid (∀ l ∈ classLines, fitC l = true) := Lib.hid (List.all_eq_true.1 fitsC)
  have hlen : classLines.length = 31 := by decide +kernel
  obtain ⟨V, hV⟩ : ∃ V, classP c = V := ⟨_, rfl⟩
  have HV : Hid ((numB 10 (findP rdC c (classLines.drop 0)) : Nat) = V) := Lib.hid hV
  rw [hV]
  obtain ⟨lit, hlit⟩ : ∃ t : ByteArray, t = bs (textL classLines) := ⟨_, rfl⟩
  clear hV
  go_enter Tryd.func22, Tryd.ntmps22
  go_wp2_with fail
  refine (HLn.out _ (by kernel_rfl) _).mono ?_
  rintro e w1 ⟨v, rfl, hown, hb1⟩
  clear HLn
  generalize hls : classLines = ls at *
  clear hls hlit lit
  obtain ⟨g, cap, rfl⟩ : ∃ g cap, v = .slice (some ⟨g, 0, none⟩) 31 cap := by
    rcases hown.nilOr with ⟨-, e⟩ | ⟨g, cap, e, -⟩
    · have := congrArg List.length e; simp [hlen] at this
    · exact ⟨g, cap, by rw [e]; simp [hlen]⟩
  have hrow : w1.ownsRow w.heap.size 9 1 (.slice (some ⟨g, 0, none⟩) 31 cap) 31 (ls.map strV) := by unfold OwnV at hown; simpa [hlen] using hown
  clear hown
  go_wp2
  go_loopw [4] (fun i wr => ∃ k : Nat, i = .int .i64 k ∧ k ≤ 31 ∧ wr.ownsRow w.heap.size 9 1 (.slice (some ⟨g, 0, none⟩) 31 cap) 31 (ls.map strV) ∧ Below w.heap.size w wr ∧ Hid ((numB 10 (findP rdC c (ls.drop k)) : Nat) = V)) (fun i _ => 31 - (intOf i).toNat)
  case atStart => exact ⟨0, rfl, by omega, hrow, hb1, HV⟩
  case round =>
    obtain ⟨k, rfl, hk, hown, hbel, HK⟩ := hrel
    have hwr := hbel.size
    clear HV hrow
    by_cases hkn : k < 31
    · obtain ⟨L, hL⟩ : ∃ L, ls[k]? = some L := ⟨_, List.getElem?_eq_getElem (by omega)⟩
      obtain ⟨hlt, hget⟩ := List.getElem?_eq_some_iff.1 hL
      have hcell : wr.cell? ⟨g, k, none⟩ = some (.string (bs L)) := rowsCell hown k _ hkn (by rw [List.getElem?_map, hL]; rfl)
      have hdrop : ls.drop k = L :: ls.drop (k + 1) := by rw [List.drop_eq_getElem_cons hlt, hget]
      have hfit := HF.out L (List.mem_of_getElem? hL)
      unfold fitC at hfit
      rw [Bool.and_eq_true, decide_eq_true_eq] at hfit
      obtain ⟨hwd, hok⟩ := hfit
      unfold okC at hok
      simp only [Bool.and_eq_true, decide_eq_true_eq] at hok
      obtain ⟨⟨⟨⟨⟨⟨-, -⟩, h3⟩, h4⟩, h5⟩, -⟩, h7⟩ := hok
      have HW : Hid (∀ w, Calls Tryd.prog 35 #[.string (bs L)] w fun e w' => ∃ g cap, e = .returned (.slice (some ⟨g, 0, none⟩) 3 cap) ∧ w'.ownsRow w.heap.size 9 1 (.slice (some ⟨g, 0, none⟩) 3 cap) 3 [strV (cutA L), strV (cutA (cutB L)), strV (cutB (cutB L))] ∧ Below w.heap.size w w') := Lib.hid fun w => by
        have := rwords_any (bs L) (by rw [bs_size]; exact h7) w
        rw [bs_data, hwd] at this; exact this
      have HN1 := Lib.hid (rnum_row 16 (by decide) (cutA L) h3)
      have HN2 := Lib.hid (rnum_row 16 (by decide) (cutA (cutB L)) h4)
      have HN3 := Lib.hid (rnum_row 10 (by decide) (cutB (cutB L)) h5)
      have HK2 : Hid ((numB 10 (if (((numB 16 (cutA L) : Nat) : Int) ≤ c ∧ c ≤ ((numB 16 (cutA (cutB L)) : Nat) : Int)) then cutB (cutB L) else findP rdC c (ls.drop (k + 1))) : Nat) = V) := Lib.hid (by have := HK.out; rw [hdrop, find_cons] at this; exact this)
      clear HK hdrop hwd h3 h4 h5 h7 hL hlt hget
      generalize numB 16 (cutA L) = n1 at *
      generalize numB 16 (cutA (cutB L)) = n2 at *
      generalize cutB (cutB L) = r3 at *
      generalize cutA (cutB L) = r2 at *
      generalize cutA L = r1 at *
      generalize bs L = Ls at *
      go_wp2_with fail
      refine (HW.out _).mono ?_
      rintro e w2 ⟨g2, cap2, rfl, hrow2, hb2⟩
      have q0 : w2.cell? ⟨g2, 0, none⟩ = some (.string (bs r1)) := rowsCell hrow2 0 _ (by omega) rfl
      have q1 : w2.cell? ⟨g2, 1, none⟩ = some (.string (bs r2)) := rowsCell hrow2 1 _ (by omega) rfl
      have q2 : w2.cell? ⟨g2, 2, none⟩ = some (.string (bs r3)) := rowsCell hrow2 2 _ (by omega) rfl
      have hown2 := ownsBelow hown hb2
      have hbel2 := hbel.trans (hb2.mono hwr)
      clear hrow2 hb2 hown hbel HW hcell
      by_cases g1 : (n1 : Int) ≤ c
      · by_cases g2' : c ≤ (n2 : Int)
        · have HK3 : Hid ((numB 10 r3 : Nat) = V) := Lib.hid (by have := HK2.out; rwa [if_pos ⟨g1, g2'⟩] at this)
          clear HK2
          go_wp2_with fail
          refine (HN1.out _).mono ?_
          rintro e w' ⟨rfl, rfl⟩
          go_wp2_with fail
          refine (HN2.out _).mono ?_
          rintro e w' ⟨rfl, rfl⟩
          go_wp2_with fail
          refine (HN3.out _).mono ?_
          rintro e w' ⟨rfl, rfl⟩
          go_wp2
          go_ret
          exact ⟨ret_int (by have := HK3.out; omega), hbel2⟩
        · have HK3 : Hid ((numB 10 (findP rdC c (ls.drop (k + 1))) : Nat) = V) := Lib.hid (by have := HK2.out; rwa [if_neg (fun x => g2' x.2)] at this)
          clear HK2
          go_wp2_with fail
          refine (HN1.out _).mono ?_
          rintro e w' ⟨rfl, rfl⟩
          go_wp2_with fail
          refine (HN2.out _).mono ?_
          rintro e w' ⟨rfl, rfl⟩
          go_wp2
          go_roundw
          case rel => exact ⟨k + 1, by go_num, by omega, hown2, hbel2, HK3⟩
          case measure => simp [intOf]; omega
      · have HK3 : Hid ((numB 10 (findP rdC c (ls.drop (k + 1))) : Nat) = V) := Lib.hid (by have := HK2.out; rwa [if_neg (fun x => g1 x.1)] at this)
        clear HK2
        go_wp2_with fail
        refine (HN1.out _).mono ?_
        rintro e w' ⟨rfl, rfl⟩
        go_wp2
        go_roundw
        case rel => exact ⟨k + 1, by go_num, by omega, hown2, hbel2, HK3⟩
        case measure => simp [intOf]; omega
    · obtain rfl : k = 31 := by omega
      have e : ls.drop 31 = [] := List.drop_eq_nil_of_le (by omega)
      have hv0 := HK.out
      rw [e] at hv0
      have HV0 : Hid (V = 0) := Lib.hid (by rw [← hv0]; rfl)
      clear hv0 HK e
      go_wp2
      go_ret
      exact ⟨ret_int HV0.out.symm, hbel⟩
/-- the reference's words of a line of the maps. -/
def fitR (l : List UInt8) : Bool := (wordsP l).all (digsB 16) && decide (1 ≤ (wordsP l).length) && decide ((wordsP l).length ≤ 10) && decide (numB 16 ((wordsP l).getD 0 []) = (rdM l).1) && decide (((wordsP l).drop 1).map (numB 16) = (fieldsP (rdM l).2.2).map (numB 16)) && decide ((rdM l).1 = (rdM l).2.1) && decide (l.length ≤ 100)
theorem fitsR : mapLines.all fitR = true := by decide +kernel
theorem lowM : ∀ l ∈ mapLines, 192 ≤ (rdM l).1 := by decide +kernel
def numI (f : List UInt8) : Int := ((numB 16 f : Nat) : Int)
def numVs (l : List (List UInt8)) : List Value := (l.map numI).map (Value.int .i64)
theorem numVs_snoc (l : List (List UInt8)) (x : List UInt8) : numVs (l ++ [x]) = numVs l ++ [.int .i64 (numI x)] := by simp [numVs]
theorem numVs_len (l : List (List UInt8)) : (numVs l).length = l.length := by simp [numVs]
theorem map_low (c : Int) (h : c < 192) : mapP c = [] := by
  unfold mapP
  have : findP rdM c mapLines = [] := by
    rcases find_mem rdM c mapLines with h' | ⟨l, hl, h', h1, h2⟩
    · exact h'
    · have := lowM l hl; omega
  rw [this]; rfl
theorem mapP_num (c : Int) : mapP c = (fieldsP (findP rdM c mapLines)).map numI := rfl
set_option maxHeartbeats 4000000 in
set_option maxRecDepth 100000 in
theorem rmap_any (c : Int) (hc0 : -9223372036854775808 ≤ c) (hc1 : c ≤ 9223372036854775807) (w : World) :
    Calls Tryd.prog 33 #[.int .i64 c] w (MapRes (mapP c) w) := by
  by_cases hlow : c < 192
  · have HV := Lib.hid (map_low c hlow)
    generalize mapP c = V at *
    go_enter Tryd.func33, Tryd.ntmps33
    go_wp2
    go_ret
    exact ⟨_, rfl, by rw [HV.out]; exact OwnV.nil _ _ _, by rw [HV.out]; exact ⟨fun _ => rfl, fun _ => rfl⟩, Below.refl _ _⟩
  have HLn : Hid (∀ t : ByteArray, t.data.toList = textL mapLines → ∀ w, Calls Tryd.prog 34 #[.string t] w fun e w' => ∃ v, e = .returned v ∧ OwnV 9 w.heap.size w' v (mapLines.map strV) ∧ Below w.heap.size w w') := Lib.hid fun t ht w => rlines_any t mapLines ht mapTab.1 (by rw [← size_toList, ht]; exact mapTab.2.2.2) w
  have HF : Hid (∀ l ∈ mapLines, fitR l = true) := Lib.hid (List.all_eq_true.1 fitsR)
  have hlen : mapLines.length = 112 := by decide +kernel
  obtain ⟨V, hV⟩ : ∃ V, mapP c = V := ⟨_, rfl⟩
  have HV : Hid ((fieldsP (findP rdM c (mapLines.drop 0))).map numI = V) := Lib.hid hV
  rw [hV]
  clear hV
  go_enter Tryd.func33, Tryd.ntmps33
  go_wp2_with fail
  refine (HLn.out _ (by kernel_rfl) _).mono ?_
  rintro e w1 ⟨v, rfl, hown, hb1⟩
  clear HLn
  generalize hls : mapLines = ls at *
  clear hls
  obtain ⟨g, cap, rfl⟩ : ∃ g cap, v = .slice (some ⟨g, 0, none⟩) 112 cap := by
    rcases hown.nilOr with ⟨-, e⟩ | ⟨g, cap, e, -⟩
    · have := congrArg List.length e; simp [hlen] at this
    · exact ⟨g, cap, by rw [e]; simp [hlen]⟩
  have hrow : w1.ownsRow w.heap.size 9 1 (.slice (some ⟨g, 0, none⟩) 112 cap) 112 (ls.map strV) := by unfold OwnV at hown; simpa [hlen] using hown
  clear hown
  go_wp2
  go_loopw [4] (fun i wr => ∃ k : Nat, i = .int .i64 k ∧ k ≤ 112 ∧ wr.ownsRow w.heap.size 9 1 (.slice (some ⟨g, 0, none⟩) 112 cap) 112 (ls.map strV) ∧ Below w.heap.size w wr ∧ Hid ((fieldsP (findP rdM c (ls.drop k))).map numI = V)) (fun i _ => 112 - (intOf i).toNat)
  case atStart => exact ⟨0, rfl, by omega, hrow, hb1, HV⟩
  case round =>
    obtain ⟨k, rfl, hk, hown, hbel, HK⟩ := hrel
    have hwr := hbel.size
    clear HV hrow
    by_cases hkn : k < 112
    · obtain ⟨L, hL⟩ : ∃ L, ls[k]? = some L := ⟨_, List.getElem?_eq_getElem (by omega)⟩
      obtain ⟨hlt, hget⟩ := List.getElem?_eq_some_iff.1 hL
      have hcell : wr.cell? ⟨g, k, none⟩ = some (.string (bs L)) := rowsCell hown k _ hkn (by rw [List.getElem?_map, hL]; rfl)
      have hdrop : ls.drop k = L :: ls.drop (k + 1) := by rw [List.drop_eq_getElem_cons hlt, hget]
      have hfit := HF.out L (List.mem_of_getElem? hL)
      unfold fitR at hfit
      simp only [Bool.and_eq_true, decide_eq_true_eq] at hfit
      obtain ⟨⟨⟨⟨⟨⟨h1, h2⟩, h3⟩, h4⟩, h5⟩, h6⟩, h7⟩ := hfit
      have HW : Hid (∀ w, Calls Tryd.prog 35 #[.string (bs L)] w fun e w' => ∃ g cap, e = .returned (.slice (some ⟨g, 0, none⟩) (wordsP L).length cap) ∧ w'.ownsRow w.heap.size 9 1 (.slice (some ⟨g, 0, none⟩) (wordsP L).length cap) (wordsP L).length ((wordsP L).map strV) ∧ Below w.heap.size w w') := Lib.hid fun w => by
        have := rwords_any (bs L) (by rw [bs_size]; exact h7) w
        rw [bs_data] at this; exact this
      have HK2 : Hid ((if ((rdM L).1 : Int) = c then ((wordsP L).drop 1).map numI else (fieldsP (findP rdM c (ls.drop (k + 1)))).map numI) = V) := Lib.hid (by
        have := HK.out; rw [hdrop, find_cons] at this
        by_cases e : ((rdM L).1 : Int) = c
        · rw [if_pos ⟨by omega, by omega⟩] at this
          rw [if_pos e, ← this]
          have hX : ∀ X : List (List UInt8), X.map numI = (X.map (numB 16)).map (fun n : Nat => (n : Int)) := fun X => by rw [List.map_map]; rfl
          rw [hX, hX, h5]
        · rw [if_neg (by omega)] at this
          rw [if_neg e, this])
      have HD : Hid (∀ x ∈ wordsP L, digsB 16 x = true) := Lib.hid (List.all_eq_true.1 h1)
      rw [← h4] at HK2
      clear HK hdrop h1 h4 h5 h6 h7 hL hlt hget
      generalize wordsP L = ws at *
      generalize bs L = Ls at *
      go_wp2_with fail
      refine (HW.out _).mono ?_
      rintro e w2 ⟨g2, cap2, rfl, hrow2, hb2⟩
      have hown2 := ownsBelow hown hb2
      have hbel2 := hbel.trans (hb2.mono hwr)
      obtain ⟨a, ws', rfl⟩ : ∃ a r, ws = a :: r := by
        cases ws with
        | nil => simp at h2
        | cons a r => exact ⟨a, r, rfl⟩
      have q0 : w2.cell? ⟨g2, 0, none⟩ = some (.string (bs a)) := rowsCell hrow2 0 _ (by omega) rfl
      have HN1 := Lib.hid (rnum_row 16 (by decide) a (HD.out a (by simp)))
      have hcl : 0 < (a :: ws').length := by simp
      clear hb2 hown hbel HW hcell
      simp only [List.getD_cons_zero, List.drop_succ_cons, List.drop_zero] at HK2
      by_cases g1 : ((numB 16 a : Nat) : Int) = c
      · have HK3 : Hid (ws'.map numI = V) := Lib.hid (by have := HK2.out; rwa [if_pos g1] at this)
        rw [g1] at HN1
        clear HK2 g1 hown2
        obtain ⟨m, hm⟩ : ∃ m, (a :: ws').length = m := ⟨_, rfl⟩
        have hm2 : m = ws'.length + 1 := by rw [← hm]; rfl
        rw [hm] at hrow2 h2 h3 hcl ⊢
        have HM := Lib.hid hm2
        clear hm hm2
        go_wp2_with fail
        refine (HN1.out _).mono ?_
        rintro e w' ⟨rfl, rfl⟩
        go_wp2
        obtain ⟨wo, rfl⟩ : ∃ wo : World, wo = w2 := ⟨_, rfl⟩
        go_loopw [6, 7] (fun out kk wr => ∃ j : Nat, kk = .int .i64 (j : Int) ∧ 1 ≤ j ∧ j ≤ m ∧ OwnV 3 wo.heap.size wr out (numVs (ws'.take (j - 1))) ∧ (out = .slice none 0 0 ↔ j = 1) ∧ Below wo.heap.size wo wr) (fun _ kk _ => m - (intOf kk).toNat)
        case atStart => exact ⟨1, rfl, Nat.le_refl _, hcl, OwnV.nil _ _ _, by simp, Below.refl _ _⟩
        case round =>
          obtain ⟨j, rfl, hj1, hj2, hout, hnil, hb⟩ := hrel
          have hrw := ownsBelow hrow2 hb
          have hm2 := HM.out
          have hwo := hb.size
          by_cases hjm : j < m
          · obtain ⟨x, hx⟩ : ∃ x, ws'[j - 1]? = some x := ⟨_, List.getElem?_eq_getElem (by omega)⟩
            have hx2 : (a :: ws')[j]? = some x := by
              obtain ⟨j', rfl⟩ : ∃ j', j = j' + 1 := ⟨j - 1, by omega⟩
              simpa using hx
            have hcell : wr.cell? ⟨g2, j, none⟩ = some (.string (bs x)) := rowsCell hrw j _ hjm (by rw [List.getElem?_map, hx2]; rfl)
            have HNx : Hid (∀ w, Calls Tryd.prog 36 #[.string (bs x), .int .i64 16] w fun e w' => e = .returned (.int .i64 (numI x)) ∧ w = w') := Lib.hid (rnum_row 16 (by decide) x (HD.out x (List.mem_of_getElem? hx2)))
            have htk : (ws'.take (j + 1 - 1)) = ws'.take (j - 1) ++ [x] := by
              obtain ⟨j', rfl⟩ : ∃ j', j = j' + 1 := ⟨j - 1, by omega⟩
              rw [Nat.add_sub_cancel, Nat.add_sub_cancel] at *
              obtain ⟨hl, he⟩ := List.getElem?_eq_some_iff.1 hx
              rw [List.take_succ_eq_append_getElem hl, he]
            have HT := Lib.hid htk
            have hol : (numVs (ws'.take (j - 1))).length ≤ 10 := by rw [numVs_len, List.length_take]; omega
            clear hx hx2 htk hm2
            go_wp2_with fail
            refine (HNx.out _).mono ?_
            rintro e w' ⟨rfl, rfl⟩
            go_wp2_with (at_builtin; refine wp_app elem_int _ _ (by rfl) (by rfl) (by rfl) hout [.int .i64 (numI x)] 1 rfl (by rfl) ?c1 ?c2 ?c3 ?c4 (by decide) ?_)
            case c1 => simp [Value.oneCell']
            case c2 => simp only [List.length_cons, List.length_nil]; omega
            case c3 => simp only [List.length_cons, List.length_nil]; unfold maxLen; omega
            case c4 => exact hwo
            intro v' w5 hout5 hb5 hnn
            go_wp2
            go_roundw
            case rel => exact ⟨j + 1, by go_num, by omega, by omega, by rw [HT.out, numVs_snoc]; exact hout5, ⟨fun e => absurd e hnn, fun e => by omega⟩, hb.trans hb5⟩
            case measure => simp [intOf]; omega
          · obtain rfl : j = m := by omega
            have e : ws'.take (j - 1) = ws' := List.take_of_length_le (by omega)
            rw [e] at hout
            have hbe : Below w.heap.size w wr := hbel2.trans (hb.mono hbel2.size)
            have hn2 := hnil.trans (show j = 1 ↔ V = [] by
              rw [← HK3.out]; constructor
              · intro h; have : ws' = [] := List.eq_nil_of_length_eq_zero (by omega)
                rw [this]; rfl
              · intro h; have : ws'.length = 0 := by have := congrArg List.length h; simpa using this
                omega)
            have hoV := OwnV.base hout hbel2.size
            unfold numVs at hoV
            rw [HK3.out] at hoV
            clear hnil hout e hm2 hcl
            go_wp2
            go_ret
            exact ⟨_, rfl, hoV, hn2, hbe⟩
      · have HK3 : Hid ((fieldsP (findP rdM c (ls.drop (k + 1)))).map numI = V) := Lib.hid (by have := HK2.out; rwa [if_neg g1] at this)
        have gne : (((numB 16 a : Nat) : Int) == c) = false := by simpa using g1
        have gne2 : (((numB 16 a : Nat) : Int) != c) = true := by simpa using g1
        clear HK2
        generalize ((numB 16 a : Nat) : Int) = N at *
        clear g1
        go_wp2_with fail
        refine (HN1.out _).mono ?_
        rintro e w' ⟨rfl, rfl⟩
        go_wp2
        go_roundw
        case rel => exact ⟨k + 1, by go_num, by omega, hown2, hbel2, HK3⟩
        case measure => simp [intOf]; omega
    · obtain rfl : k = 112 := by omega
      have e : ls.drop 112 = [] := List.drop_eq_nil_of_le (by omega)
      have hv0 := HK.out
      rw [e] at hv0
      have HV0 : Hid (V = []) := Lib.hid (by rw [← hv0]; rfl)
      clear hv0 HK e
      go_wp2
      go_ret
      exact ⟨_, rfl, by rw [HV0.out]; exact OwnV.nil _ _ _, by rw [HV0.out]; exact ⟨fun _ => rfl, fun _ => rfl⟩, hbel⟩
end Go.Proofs.YtmglnpnkkidnnaaDoor
