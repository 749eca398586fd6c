/- block's small functions: which rows may follow, whose keys are laid whole, what is shared, the places, where the rows end; bytes.Equal. -/
import Derived.Test.YtaddihabjdoihaaKvRow
import Derived.Test.YtaddihabjdoihaaNumText
import Derived.Test.YtaddihabjdoihaaBytesOrd
import Derived.RegionTactic
import Derived.Deep.QuietTactic
import Derived.Deep.LoopGhost
import Derived.Deep.DeepCutAuto
namespace Go.Proofs.Ytaddihabjdoihaa
set_option linter.unusedVariables false
set_option maxRecDepth 100000
open Go.RowKit
theorem gt_eq (a b : ByteArray) : (!Op.bytesLess a.toList b.toList && !(a.toList == b.toList)) = decide (bl b a) := by
  rw [less_eq, bs_eq]
  rcases bl_tri a b with h | rfl | h
  · rw [decide_eq_true (show a.data.toList < b.data.toList from h), decide_eq_false (fun k => bl_irr a (bl_trans h k))]; rfl
  · rw [decide_eq_false (show ¬ a.data.toList < a.data.toList from bl_irr a), decide_eq_false (bl_irr a)]; simp
  · have h1 : ¬ a.data.toList < b.data.toList := fun k => bl_irr a (bl_trans k h)
    have h2 : ¬ a = b := fun k => by subst k; exact bl_irr a h
    rw [decide_eq_false h1, decide_eq_false h2, decide_eq_true h]; rfl
set_option maxHeartbeats 400000 in
theorem isNext_any (n : Nat) (hn : n ≤ 1000000000000) (a b : ByteArray) (w : World) : Calls Try.prog 20 #[.int .i64 (n : Int), .string a, .string b] w fun e w' => e = .returned (.bool (decide (n = 0 ∨ bl a b))) ∧ w' = w := by
  by_cases h : n = 0
  · subst h
    rw [decide_eq_true (Or.inl rfl)]
    go_enter Try.func20, Try.ntmps20
    go_wp2
    go_ret
    exact ⟨rfl, rfl⟩
  · have h1 : ((n : Int) == 0) = false := by rw [beq_eq_false_iff_ne]; omega
    have h2 := gt_eq b a
    have e : decide (n = 0 ∨ bl a b) = decide (bl a b) := by
      by_cases hb : bl a b
      · rw [decide_eq_true (Or.inr hb), decide_eq_true hb]
      · rw [decide_eq_false hb, decide_eq_false (fun k => k.elim h hb)]
    rw [e]
    generalize decide (bl a b) = r at *
    go_enter Try.func20, Try.ntmps20
    go_wp2
    go_ret
    exact ⟨rfl, rfl⟩
set_option maxHeartbeats 400000 in
theorem isWhole_any (n : Nat) (hn : n ≤ 1000000000000) (w : World) : Calls Try.prog 21 #[.int .i64 (n : Int)] w fun e w' => e = .returned (.bool (decide (n % 4 = 0))) ∧ w' = w := by
  have e : (((n : Int) % 4) == 0) = decide (n % 4 = 0) := by
    by_cases h : n % 4 = 0
    · rw [decide_eq_true h, beq_iff_eq]; omega
    · rw [decide_eq_false h, beq_eq_false_iff_ne]; omega
  generalize decide (n % 4 = 0) = r at *
  go_enter Try.func21, Try.ntmps21
  go_wp2
  go_ret
  exact ⟨rfl, rfl⟩
set_option maxHeartbeats 2000000 in
theorem shared_any (n : Nat) (hn : n ≤ 1000000000000) (a b : ByteArray) (ha : a.size ≤ 1000000000000) (hb : b.size ≤ 1000000000000) (w : World) :
    Calls Try.prog 22 #[.int .i64 (n : Int), .string a, .string b] w fun e w' => e = .returned (.int .i64 (shB n a.data.toList b.data.toList : Nat)) ∧ DrN w w' := by
  have HW : Hid (∀ w, Calls Try.prog 21 #[.int .i64 (n : Int)] w fun e w' => e = .returned (.bool (decide (n % 4 = 0))) ∧ w' = w) := Lib.hid (isWhole_any n hn)
  obtain ⟨r, hr⟩ : ∃ r, shB n a.data.toList b.data.toList = r := ⟨_, rfl⟩
  have HR := Lib.hid hr
  rw [hr]
  clear hr
  by_cases h : n % 4 = 0
  · rw [decide_eq_true h] at HW
    obtain rfl : r = 0 := by rw [← HR.out]; unfold shB; rw [if_pos h]
    clear HR
    go_enter Try.func22, Try.ntmps22
    go_wp2_with fail
    refine (HW.out _).mono ?_
    rintro e w' ⟨rfl, rfl⟩
    go_wp2_with fail
    go_ret
    exact ⟨rfl, DrN.refl _⟩
  · rw [decide_eq_false h] at HW
    have HR2 : Hid (shareN a.data.toList b.data.toList = r) := Lib.hid (by rw [← HR.out]; unfold shB; rw [if_neg h])
    clear HR
    obtain ⟨m, hm⟩ : ∃ m, min a.size b.size = m := ⟨_, rfl⟩
    have HM : Hid (m ≤ a.size ∧ m ≤ b.size ∧ (m = a.size ∨ m = b.size)) := Lib.hid (by omega)
    have hmi : min (a.size : Int) (b.size : Int) = (m : Int) := by omega
    have hmb : m ≤ 1000000000000 := by omega
    clear hm
    go_enter Try.func22, Try.ntmps22
    go_wp2_with fail
    refine (HW.out _).mono ?_
    rintro e w' ⟨rfl, rfl⟩
    go_wp2_with fail
    go_loopg [8] m (fun kk vi wr => ∃ i : Nat, vi = .int .i64 (i : Int) ∧ i ≤ m ∧ m - i ≤ kk ∧ Hid (DrN w' wr) ∧ Hid (a.data.toList.take i = b.data.toList.take i))
    case atStart => exact ⟨0, rfl, by omega, by omega, Lib.hid (DrN.refl _), Lib.hid (by simp)⟩
    case round =>
      obtain ⟨i, rfl, him, hik, HD, HT⟩ := hrel
      by_cases h1 : i < m
      · have hi1 : (i : Int) < (m : Int) := by omega
        have hia : i < a.size := by have := HM.out; omega
        have hib : i < b.size := by have := HM.out; omega
        obtain ⟨x, hx⟩ : ∃ x, a[i] = x := ⟨_, rfl⟩
        obtain ⟨y, hy⟩ : ∃ y, b[i] = y := ⟨_, rfl⟩
        have HX : Hid (a.data.toList[i]? = some x) := Lib.hid (by rw [List.getElem?_eq_getElem (by rw [size_toList]; exact hia), at_toList a i hia, hx])
        have HY : Hid (b.data.toList[i]? = some y) := Lib.hid (by rw [List.getElem?_eq_getElem (by rw [size_toList]; exact hib), at_toList b i hib, hy])
        by_cases hxy : x = y
        · have HT2 : Hid (a.data.toList.take (i + 1) = b.data.toList.take (i + 1)) := Lib.hid (by rw [List.take_add_one, List.take_add_one, HT.out, HX.out, HY.out, hxy])
          have hE : ((x.toNat : Int) == (y.toNat : Int)) = true := by rw [hxy]; exact beq_self_eq_true _
          clear hxy HT HX HY
          go_wp2_with fail
          go_quiet (fail)
          have HD2 := Lib.hid (HD.out.more nq)
          generalize wr.drewN nq = wq at *
          clear HD
          go_wp2_with fail
          go_roundg (m - (i + 1))
          case measure => omega
          case rel => exact ⟨i + 1, by go_num, by omega, Nat.le_refl _, HD2, HT2⟩
        · have HE : Hid (r = i) := Lib.hid (by
            rw [← HR2.out]
            exact shareN_at HT.out (by rw [size_toList]; omega) (by rw [size_toList]; omega) fun c d hc hd => by
              rw [HX.out] at hc; rw [HY.out] at hd
              rw [← Option.some.inj hc, ← Option.some.inj hd]; exact hxy)
          have hE : ((x.toNat : Int) == (y.toNat : Int)) = false := by rw [beq_eq_false_iff_ne]; exact fun e => hxy (byte_ext e)
          clear hxy HT HX HY HR2
          go_wp2_with fail
          go_quiet (fail)
          have HD2 := Lib.hid (HD.out.more nq)
          generalize wr.drewN nq = wq at *
          go_wp2_with fail
          go_ret
          exact ⟨by rw [HE.out]; rfl, HD2.out⟩
      · have HE : Hid (r = i) := Lib.hid (by
          rw [← HR2.out]
          have hm := HM.out
          refine shareN_at HT.out (by rw [size_toList]; omega) (by rw [size_toList]; omega) fun c d hc hd => ?_
          have e1 := (List.getElem?_eq_some_iff.1 hc).1
          have e2 := (List.getElem?_eq_some_iff.1 hd).1
          rw [size_toList] at e1 e2
          omega)
        have hd1 : ¬ (i : Int) < (m : Int) := by omega
        clear HT HR2
        go_wp2_with fail
        go_quiet (fail)
        have HD2 := Lib.hid (HD.out.more nq)
        generalize wr.drewN nq = wq at *
        go_wp2_with fail
        go_ret
        exact ⟨by rw [HE.out]; rfl, HD2.out⟩
set_option maxHeartbeats 400000 in
theorem endOf_any (v : Value) (l : List UInt8) (hl : l.length ≤ 1000000000000) (w : World) (h : RdB w v l) :
    Calls Try.prog 27 #[v] w fun e w' => e = .returned (.tuple #[.int .i64 (((endC l).getD 0 : Nat) : Int), .bool (endC l).isSome]) ∧ w' = w := by
  obtain ⟨a, len, cap, rfl, hlen, hcap⟩ := h.form
  have HRD := Lib.hid h
  by_cases h4 : l.length < 4
  · have e : endC l = none := by unfold endC; rw [if_pos h4]
    rw [e]
    have hz : ((len : Int) - 4) < 0 := by omega
    have hz2 : len ≤ 3 := by omega
    clear h HRD
    go_enter Try.func27, Try.ntmps27
    go_wp2_with fail
    go_ret2
    exact ⟨rfl, rfl⟩
  · obtain ⟨m, rfl⟩ : ∃ m, len = m + 4 := ⟨len - 4, by omega⟩
    have HLL : Hid (m + 4 = l.length) := Lib.hid hlen
    have hlm : ((m + 4 : Nat) : Int) - 4 = (m : Int) := by omega
    have hc2 := hcap (by omega)
    have hc3 := hc2.1
    have hlb : m ≤ 1000000000000 := by omega
    have HD : Hid (RdB w (.slice (if cap = m then a else a.map (·.add m)) (m + 4 - m) (cap - m)) (l.drop m)) := Lib.hid (h.drop m (by omega))
    have hsl := sl_lB w a (m + 4) cap m (by omega) hc2.1
    rw [Nat.add_sub_cancel_left] at HD hsl
    generalize hT : (if cap = m then a else a.map (·.add m)) = T at HD hsl
    have HG : Hid (∀ w', w' = w → Calls Try.prog 38 #[.slice T 4 (cap - m)] w' fun e w'' => e = .returned (.int .u32 (unfK 4 (l.drop m) : Int)) ∧ w' = w'') := Lib.hid fun w' e => by subst e; exact get32_any _ _ _ HD.out
    have hu : unfK 4 (l.drop m) = unfN (l.drop (l.length - 4)) := by
      have e : (l.drop m).length = 4 := by rw [List.length_drop]; omega
      unfold unfK
      rw [if_pos (by omega), List.take_of_length_le (by omega), show l.length - 4 = m by omega]
    have hub := unfK_lt4 (l.drop m)
    rw [hu] at HG hub
    have HE : Hid (endC l = if m / 4 < unfN (l.drop (l.length - 4)) then none else some (m - 4 * unfN (l.drop (l.length - 4)))) := Lib.hid (by
      unfold endC
      rw [if_neg h4, show l.length - 4 = m by omega])
    generalize unfN (l.drop (l.length - 4)) = u at *
    clear hu h HD hlen hl h4 hcap hc2
    by_cases h5 : m / 4 < u
    · rw [if_pos h5] at HE
      have h6 : (m : Int) / 4 < (u : Int) := by omega
      rw [HE.out]
      go_enter Try.func27, Try.ntmps27
      go_wp2_with fail
      refine (HG.out _ rfl).mono ?_
      rintro e w' ⟨rfl, rfl⟩
      go_wp2_with fail
      go_ret2
      exact ⟨rfl, rfl⟩
    · rw [if_neg h5] at HE
      have h6 : ¬ (m : Int) / 4 < (u : Int) := by omega
      have h7 : ((m : Int) - (u : Int) * 4) = ((m - 4 * u : Nat) : Int) := by omega
      rw [HE.out]
      go_enter Try.func27, Try.ntmps27
      go_wp2_with fail
      refine (HG.out _ rfl).mono ?_
      rintro e w' ⟨rfl, rfl⟩
      go_wp2_with fail
      go_ret2
      exact ⟨rfl, rfl⟩
theorem bequal_any (u v : Value) (x y : List UInt8) (w : World) (hx : RdB w u x) (hy : RdB w v y) :
    Calls Try.prog 29 #[u, v] w fun e w' => e = .returned (.bool (decide (x = y))) ∧ DrN w w' := by
  have x1 : ∀ j, (convert 33 9 u).run Try.prog (w.drewN j) = .ok (.string ⟨x.toArray⟩) (w.drewN j) := fun j => (hx.below (DrN.below ⟨j, rfl⟩ _)).text
  have x2 : ∀ j, (convert 33 9 v).run Try.prog (w.drewN j) = .ok (.string ⟨y.toArray⟩) (w.drewN j) := fun j => (hy.below (DrN.below ⟨j, rfl⟩ _)).text
  have x3 := hx.text
  have x4 := hy.text
  have hE : (x == y) = decide (x = y) := by rw [Bool.eq_iff_iff, beq_iff_eq, decide_eq_true_eq]
  obtain ⟨a1, n1, c1, rfl, -⟩ := hx.form
  obtain ⟨a2, n2, c2, rfl, -⟩ := hy.form
  generalize decide (x = y) = r at *
  clear hx hy
  go_enter Try.func29, Try.ntmps29
  go_wp2_with fail
  go_ret
  exact ⟨rfl, DrN.refl _⟩
/-- 'append' of the places, four bytes each. -/
theorem places_snoc (l : List Nat) (i x : Nat) (h : l[i]? = some x) : (l.take (i + 1)).flatMap (fixN 4) = (l.take i).flatMap (fixN 4) ++ fixN 4 x := by
  rw [List.take_add_one, h, List.flatMap_append]; simp
set_option maxHeartbeats 2000000 in
theorem putPlaces_any (v : Value) (l : List Nat) (hl : l.length ≤ 1000000000) (hs : ∀ x ∈ l, x < 2 ^ 32) (w : World) (h : RdV w v (l.map natV)) :
    Calls Try.prog 26 #[v] w (MkB (placesB l) w) := by
  obtain ⟨R, hR⟩ : ∃ R, placesB l = R := ⟨_, rfl⟩
  have HR := Lib.hid hR
  rw [hR]
  clear hR
  have HS := Lib.hid hs
  have HRD := Lib.hid h
  obtain ⟨a, len, cap, rfl, hlen⟩ : ∃ a len cap, v = .slice a len cap ∧ len = l.length := by
    rcases h with ⟨a, cap, rfl, e⟩ | ⟨b, off, cap, rfl, -⟩
    · exact ⟨a, 0, cap, rfl, by have := congrArg List.length e; simpa using this.symm⟩
    · exact ⟨_, _, cap, rfl, List.length_map _⟩
  have HN := Lib.hid hlen
  have hlb : len ≤ 1000000000 := by omega
  clear hs h hl hlen
  go_enter Try.func26, Try.ntmps26
  go_wp2_with fail
  go_loopg [3, 8] len (fun kk vb vi wr => ∃ (i : Nat) (L : List UInt8) (ab : Option Addr) (nb cb : Nat), vi = .int .i64 (i : Int) ∧ vb = .slice ab nb cb ∧ i ≤ len ∧ len - i ≤ kk ∧ L.length = i * 4 ∧ Hid (L = (l.take i).flatMap (fixN 4)) ∧ Hid (OwnB w.heap.size wr (.slice ab nb cb) L) ∧ Hid (Below w.heap.size w wr))
  case atStart => exact ⟨0, [], none, 0, 0, rfl, rfl, by omega, by omega, rfl, Lib.hid rfl, Lib.hid (OwnB.nil _ _), Lib.hid (Below.refl _ _)⟩
  case round =>
    obtain ⟨i, L, ab, nb, cb, rfl, rfl, hi, hik, hLl, HL, HO, HB⟩ := hrel
    by_cases h1 : i < len
    · have hi1 : (i : Int) < (len : Int) := by omega
      have hi0 : (0 : Int) ≤ (i : Int) := by omega
      have hlx : i < l.length := by have := HN.out; omega
      obtain ⟨x, hx⟩ : ∃ x, l[i]? = some x := ⟨l[i], List.getElem?_eq_getElem hlx⟩
      have hxs := HS.out x (List.mem_of_getElem? hx)
      have hxb : x < 4294967296 := hxs
      obtain ⟨g, off, rfl, hg, hc⟩ := rdV_cells (HRD.out.below HB.out) (by rw [List.length_map]; omega)
      have hci := hc i (by rw [List.length_map]; omega)
      rw [List.getD_eq_getElem?_getD, List.getElem?_map, hx] at hci
      have hci2 : wr.cell? ⟨g, off + i, none⟩ = some (.int .i64 (x : Int)) := hci
      have HP : Hid (∀ w, Calls Try.prog 37 #[.int .u32 (x : Int)] w (MkB (fixN 4 x) w)) := Lib.hid (put32_any x hxs)
      have HTK := Lib.hid (places_snoc l i x hx)
      clear hx hc hci hxs hlx
      go_wp2_with fail
      refine (HP.out _).mono ?_
      rintro e w2 ⟨v2, rfl, o2, b2⟩
      have HB2 := Lib.hid (HB.out.trans (b2.mono HB.out.size))
      have HO2 := Lib.hid (HO.out.below b2)
      have HV2 := Lib.hid o2.rd
      clear o2 b2 HP HB HO
      go_wp2_with (at_builtin; refine wp_appSB _ _ (by rfl) (by rfl) (by rfl) HO2.out (by rfl) HV2.out ?c1 HB2.out.size ?_)
      case c1 => rw [fixN_len]; omega
      intro v3 w3 o3 b3
      have HB3 := Lib.hid (HB2.out.trans b3)
      obtain ⟨a3, n3, c3, rfl, -⟩ := o3.form
      have HO3 := Lib.hid o3
      clear o3 b3 HV2 HO2 HB2
      go_wp2_with fail
      go_roundg (len - (i + 1))
      case measure => omega
      case rel => exact ⟨i + 1, _, a3, n3, c3, by go_num, rfl, by omega, Nat.le_refl _, by rw [List.length_append, fixN_len, hLl]; omega, Lib.hid (by rw [HTK.out, HL.out]), HO3, HB3⟩
    · obtain rfl : i = len := by omega
      have hi1 : ¬ (i : Int) < (i : Int) := by omega
      have HL2 : Hid (R = L ++ fixN 4 i) := Lib.hid (by rw [← HR.out, HL.out, List.take_of_length_le (by have := HN.out; omega)]; unfold placesB; rw [← HN.out])
      have HP : Hid (∀ w, Calls Try.prog 37 #[.int .u32 (i : Int)] w (MkB (fixN 4 i) w)) := Lib.hid (put32_any i (by omega))
      clear HL HR hik h1
      go_wp2_with fail
      refine (HP.out _).mono ?_
      rintro e w2 ⟨v2, rfl, o2, b2⟩
      have HB2 := Lib.hid (HB.out.trans (b2.mono HB.out.size))
      have HO2 := Lib.hid (HO.out.below b2)
      have HV2 := Lib.hid o2.rd
      clear o2 b2 HP HB HO
      go_wp2_with (at_builtin; refine wp_appSB _ _ (by rfl) (by rfl) (by rfl) HO2.out (by rfl) HV2.out ?c1 HB2.out.size ?_)
      case c1 => rw [fixN_len]; omega
      intro v3 w3 o3 b3
      go_wp2_with fail
      go_ret
      exact ⟨_, rfl, by rw [HL2.out]; exact o3, HB2.out.trans b3⟩
end Go.Proofs.Ytaddihabjdoihaa
