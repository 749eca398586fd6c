/- The walk of the law EntryVersions. -/
import Derived.Test.YtgofniepdpbciaaEntLawF
namespace Go.Proofs.Ytgofniepdpbciaa
set_option linter.unusedVariables false
open Go.RowKit
def ver (st : Int) (j : Nat) : Ent := ⟨⟨#[107]⟩, (j : Int) * st, 1, ⟨#[]⟩, ⟨#[]⟩⟩
def down (st : Int) : Nat → List Ent
  | 0 => []
  | k + 1 => ver st (k + 1) :: down st k
def wnt (st q : Int) : Nat → Int
  | 0 => 0
  | k + 1 => if ((k + 1 : Nat) : Int) * st ≤ q then ((k + 1 : Nat) : Int) * st else wnt st q k
theorem down_len (st : Int) : ∀ n, (down st n).length = n
  | 0 => rfl
  | n + 1 => by rw [down, List.length_cons, down_len st n]
theorem wnt_le {st : Int} (hs : 1 ≤ st) (q : Int) : ∀ n : Nat, 0 ≤ wnt st q n ∧ wnt st q n ≤ (n : Int) * st
  | 0 => by simp [wnt]
  | n + 1 => by
    obtain ⟨h1, h2⟩ := wnt_le hs q n
    have h3 : ((n + 1 : Nat) : Int) * st = (n : Int) * st + st := by rw [Int.natCast_add, Int.add_mul]; simp
    have h4 : 0 ≤ (n : Int) * st := Int.mul_nonneg (by omega) (by omega)
    unfold wnt
    split <;> omega
theorem down_find {st : Int} (hs : 1 ≤ st) (q : Int) : ∀ n : Nat, ∃ e : Ent, findV (findE (down st n) ⟨#[107]⟩ q) = .tuple #[.agg #[.string e.norm, .int .i64 e.seq, .int .i64 e.kind, .string e.spell, .string e.val], .bool (decide (0 < wnt st q n))] ∧ e.seq = wnt st q n
  | 0 => ⟨Ent.none, rfl, rfl⟩
  | n + 1 => by
    have h3 : ((n + 1 : Nat) : Int) * st = (n : Int) * st + st := by rw [Int.natCast_add, Int.add_mul]; simp
    have h4 : 0 ≤ (n : Int) * st := Int.mul_nonneg (by omega) (by omega)
    by_cases h : ((n + 1 : Nat) : Int) * st ≤ q
    · refine ⟨ver st (n + 1), ?_, ?_⟩
      · have e1 : findE (down st (n + 1)) ⟨#[107]⟩ q = some (ver st (n + 1)) := by
          unfold findE down
          rw [List.find?_cons_of_pos]
          simp only [ver, Bool.and_eq_true, decide_eq_true_eq]
          exact ⟨trivial, decide_eq_true h⟩
        have e2 : wnt st q (n + 1) = ((n + 1 : Nat) : Int) * st := by rw [wnt, if_pos h]
        rw [e1, e2, findV_some]
        simp only [decide_eq_true (show 0 < ((n + 1 : Nat) : Int) * st by omega)]
      · rw [wnt, if_pos h]; rfl
    · obtain ⟨e, h1, h2⟩ := down_find hs q n
      have e1 : findE (down st (n + 1)) ⟨#[107]⟩ q = findE (down st n) ⟨#[107]⟩ q := by
        unfold findE
        rw [down, List.find?_cons_of_neg]
        simp only [ver, Bool.and_eq_true, decide_eq_true_eq]
        exact fun k => h (of_decide_eq_true k.2)
      have e2 : wnt st q (n + 1) = wnt st q n := by rw [wnt, if_neg h]
      exact ⟨e, by rw [e1, e2]; exact h1, by rw [e2]; exact h2⟩
theorem down_other (st q : Int) : ∀ n : Nat, findE (down st n) ⟨#[106]⟩ q = none
  | 0 => rfl
  | n + 1 => by
    have := down_other st q n
    unfold findE at this ⊢
    rw [down, List.find?_cons_of_neg]
    · exact this
    · simp [ver]
theorem down_mem {st : Int} (hs : 1 ≤ st) : ∀ (n : Nat) (x : Ent), x ∈ down st n → x.norm = ⟨#[107]⟩ ∧ x.seq ≤ (n : Int) * st
  | 0, x, h => by simp [down] at h
  | n + 1, x, h => by
    have h3 : ((n + 1 : Nat) : Int) * st = (n : Int) * st + st := by rw [Int.natCast_add, Int.add_mul]; simp
    rw [down] at h
    rcases List.mem_cons.1 h with rfl | h
    · exact ⟨rfl, Int.le_refl _⟩
    · obtain ⟨h1, h2⟩ := down_mem hs n x h
      exact ⟨h1, by omega⟩
theorem down_srt {st : Int} (hs : 1 ≤ st) : ∀ n : Nat, (down st n).Pairwise ltE
  | 0 => List.Pairwise.nil
  | n + 1 => by
    rw [down]
    refine List.pairwise_cons.2 ⟨fun x hx => ?_, down_srt hs n⟩
    obtain ⟨h1, h2⟩ := down_mem hs n x hx
    have h3 : ((n + 1 : Nat) : Int) * st = (n : Int) * st + st := by rw [Int.natCast_add, Int.add_mul]; simp
    exact .inr ⟨h1.symm, .inl (by show x.seq < ((n + 1 : Nat) : Int) * st; omega)⟩
theorem mul_bd {st : Int} (hs : 1 ≤ st) (ht : st ≤ 1000) (j : Nat) (hj : j ≤ 30) : 0 ≤ (j : Int) * st ∧ (j : Int) * st ≤ 30000 := by
  refine ⟨Int.mul_nonneg (by omega) (by omega), ?_⟩
  have h1 : (j : Int) * st ≤ (j : Int) * 1000 := Int.mul_le_mul_of_nonneg_left ht (by omega)
  omega
set_option maxHeartbeats 8000000 in
set_option maxRecDepth 100000 in
theorem entryVersions_walk (w : World) (n : Int) (_hn : (Lit.int .i64 n).wf = true) (st : Int) (_hs : (Lit.int .i64 st).wf = true) (q : Int) (_hq : (Lit.int .i64 q).wf = true) :
    Calls Try.prog 6 #[.int .i64 n, .int .i64 st, .int .i64 q] w fun e w' => e = .returned (.bool true) ∧ Below w.heap.size w w' := by
  clear _hn _hs _hq
  go_enter Try.func6, Try.ntmps6
  go_wp2_with fail
  refine (ebegun_any _).mono ?_
  rintro e w1 ⟨rfl, hb⟩
  have H1 := Lib.hid hb
  clear hb
  by_cases n1 : n < 0
  · go_wp2_with fail
    go_ret
    exact ⟨rfl, H1.out⟩
  by_cases n2 : 30 < n
  · go_wp2_with fail
    go_ret
    exact ⟨rfl, H1.out⟩
  by_cases s1 : st < 1
  · go_wp2_with fail
    go_ret
    exact ⟨rfl, H1.out⟩
  by_cases s2 : 1000 < st
  · go_wp2_with fail
    go_ret
    exact ⟨rfl, H1.out⟩
  obtain ⟨m, rfl⟩ : ∃ m : Nat, n = (m : Int) := ⟨n.toNat, by omega⟩
  have hm30 : m ≤ 30 := by omega
  go_wp2_with fail
  go_loopg [8, 9] m (fun kk vl vi wr => ∃ (i : Nat) (ys : List Ent), vi = .int .i64 i ∧ i ≤ m ∧ i ≤ kk ∧ Hid (ys ++ down st i = down st m) ∧ Hid (OwnK encEnt 5 23 w.heap.size wr vl ys ∧ Below w.heap.size w wr))
  case atStart => exact ⟨m, [], rfl, by omega, by omega, Lib.hid (by simp), Lib.hid ⟨OwnK.nil _ _ _ _ _, H1.out⟩⟩
  case round =>
    clear H1
    obtain ⟨i, ys, rfl, hi, hik, HD, HO⟩ := hrel
    have hyl : ys.length + i = m := by have := congrArg List.length HD.out; rw [List.length_append, down_len, down_len] at this; exact this
    by_cases h1 : 1 ≤ i
    · have hi1 : (1 : Int) ≤ (i : Int) := by omega
      have hmb := mul_bd (st := st) (by omega) (by omega) i (by omega)
      have hmw : IntKind.i64.wrap ((i : Int) * st) = (i : Int) * st := IntWalk.i64_in _ (by omega)
      obtain ⟨z, hz⟩ : ∃ z, (i : Int) * st = z := ⟨_, rfl⟩
      rw [hz] at hmb hmw
      have HY : Hid (ver st i = ⟨⟨#[107]⟩, z, 1, ⟨#[]⟩, ⟨#[]⟩⟩) := Lib.hid (by rw [← hz]; rfl)
      have HD2 : Hid (ys ++ [ver st i] ++ down st (i - 1) = down st m) := Lib.hid (by
        rw [← HD.out]
        obtain ⟨j, rfl⟩ : ∃ j, i = j + 1 := ⟨i - 1, by omega⟩
        simp [down])
      clear HD
      go_wp2_with (at_builtin; refine wp_appHK elem_ent encEnt_len _ _ (by rfl) (by rfl) (by rfl) HO.out.1 ⟨⟨#[107]⟩, z, 1, ⟨#[]⟩, ⟨#[]⟩⟩ _ (by rfl) (by rfl) ?c1 ?c2 ?c3 ?c4 ?_)
      case c1 => exact enc_cells _
      case c2 => omega
      case c3 => unfold maxLen; omega
      case c4 => exact HO.out.2.size
      intro v' w3 o3 b3
      have HO3 : Hid (OwnK encEnt 5 23 w.heap.size w3 v' (ys ++ [ver st i]) ∧ Below w.heap.size w w3) := Lib.hid ⟨by rw [HY.out]; exact o3, HO.out.2.trans b3⟩
      clear o3 b3 HO HY hz hmw
      go_wp2_with fail
      go_roundg (i - 1)
      case measure => omega
      case rel => exact ⟨i - 1, _, by rw [show ((i - 1 : Nat) : Int) = (i : Int) - 1 by omega], by omega, Nat.le_refl _, HD2, HO3⟩
    · have hi0 : i = 0 := by omega
      subst hi0
      have hd1 : ¬ (1 : Int) ≤ ((0 : Nat) : Int) := by omega
      have hys : ys = down st m := by have := HD.out; rw [down, List.append_nil] at this; exact this
      subst hys
      obtain ⟨va, vlen, vcap, rfl, -, -, -⟩ := HO.out.1.form
      have HR := Lib.hid (HO.out.1.rd encEnt_len)
      have HB := Lib.hid HO.out.2
      have hst1 : 1 ≤ st := by omega
      have hsrt := (srtB_pair _).2 (down_srt hst1 m)
      obtain ⟨e, he1, he2⟩ := down_find hst1 q m
      have hlen := down_len st m
      have F1 : Hid (∀ w, RdK encEnt 5 w (.slice va vlen vcap) (down st m) → Calls Try.prog 15 #[.slice va vlen vcap, .string ⟨#[107]⟩, .int .i64 q] w fun e' w' => e' = .returned (.tuple #[.agg #[.string e.norm, .int .i64 e.seq, .int .i64 e.kind, .string e.spell, .string e.val], .bool (decide (0 < wnt st q m))]) ∧ Below w.heap.size w w') := Lib.hid fun w h => by
        have := find_any (.slice va vlen vcap) (down st m) (by omega) hsrt ⟨#[107]⟩ q w h
        rwa [he1] at this
      have F2 : Hid (∀ w, RdK encEnt 5 w (.slice va vlen vcap) (down st m) → Calls Try.prog 15 #[.slice va vlen vcap, .string ⟨#[106]⟩, .int .i64 q] w fun e' w' => e' = .returned (.tuple #[.agg #[.string ⟨#[]⟩, .int .i64 0, .int .i64 0, .string ⟨#[]⟩, .string ⟨#[]⟩], .bool false]) ∧ Below w.heap.size w w') := Lib.hid fun w h => by
        have := find_any (.slice va vlen vcap) (down st m) (by omega) hsrt ⟨#[106]⟩ q w h
        rwa [down_other] at this
      have S1 : Hid (∀ w, RdK encEnt 5 w (.slice va vlen vcap) (down st m) → Calls Try.prog 17 #[.slice va vlen vcap] w fun e w' => e = .returned (.bool true) ∧ Below w.heap.size w w') := Lib.hid fun w h => by
        have := sorted_any (.slice va vlen vcap) (down st m) (by omega) w h
        rwa [hsrt] at this
      have S2 : Hid (∀ w, RdK encEnt 5 w (.slice va vlen vcap) (down st m) → Calls Try.prog 18 #[.slice va vlen vcap] w fun e w' => e = .returned (.bool true) ∧ Below w.heap.size w w') := Lib.hid fun w h => by
        have := rsorted_any (.slice va vlen vcap) (down st m) (by omega) w h
        rwa [hsrt] at this
      obtain ⟨en, eq, ek, esp, ev⟩ := e
      simp only at he2 F1
      subst he2
      obtain ⟨W, hW⟩ : ∃ W, wnt st q m = W := ⟨_, rfl⟩
      have HWW := Lib.hid hW
      rw [hW] at F1
      clear hW he1 hsrt hlen HD HO hyl
      go_wp2_with fail
      refine (F1.out _ HR.out).mono ?_
      rintro e w4 ⟨rfl, hb⟩
      have H4 : Hid (Below w.heap.size w w4 ∧ RdK encEnt 5 w4 (.slice va vlen vcap) (down st m)) := Lib.hid ⟨HB.out.trans (hb.mono HB.out.size), HR.out.below hb⟩
      clear hb HB HR F1
      go_wp2_with fail
      have hWW := (Below.refl _ w4).alloc (Nat.le_refl _) (.cells #[.string en, .int .i64 W, .int .i64 ek, .string esp, .string ev] 23)
      have hR5 := Row5.new w4 (.string en) (.int .i64 W) (.int .i64 ek) (.string esp) (.string ev) 23
      refine (F2.out _ (H4.out.2.below hWW)).mono ?_
      rintro e w5 ⟨rfl, hb⟩
      have hb5 := below_via hWW hb
      have H5 : Hid (Below w.heap.size w w5 ∧ RdK encEnt 5 w5 (.slice va vlen vcap) (down st m) ∧ Row5 w5 w4.heap.size (.string en) (.int .i64 W) (.int .i64 ek) (.string esp) (.string ev)) := Lib.hid ⟨H4.out.1.trans (hb5.mono H4.out.1.size), H4.out.2.below hb5, hR5.below hb hR5.2.2⟩
      clear hb hb5 hWW hR5 H4 F2
      go_wp2_with fail
      obtain ⟨w6, hw6⟩ : ∃ w6, w5.alloc (.cells #[.string ⟨#[]⟩, .int .i64 0, .int .i64 0, .string ⟨#[]⟩, .string ⟨#[]⟩] 23) = w6 := ⟨_, rfl⟩
      have H6 : Hid (Below w.heap.size w w6 ∧ RdK encEnt 5 w6 (.slice va vlen vcap) (down st m) ∧ Row5 w6 w4.heap.size (.string en) (.int .i64 W) (.int .i64 ek) (.string esp) (.string ev)) := Lib.hid (by
        rw [← hw6]
        have hb := (Below.refl _ w5).alloc (Nat.le_refl _) (.cells #[.string ⟨#[]⟩, .int .i64 0, .int .i64 0, .string ⟨#[]⟩, .string ⟨#[]⟩] 23)
        exact ⟨H5.out.1.trans (hb.mono H5.out.1.size), H5.out.2.1.below hb, H5.out.2.2.below hb H5.out.2.2.2.2⟩)
      rw [hw6]
      clear hw6 H5 hd1
      have HN : Hid (∀ k : Nat, wnt st q (k + 1) = if ((k + 1 : Nat) : Int) * st ≤ q then ((k + 1 : Nat) : Int) * st else wnt st q k) := Lib.hid fun k => rfl
      go_loopg [14, 15] m (fun kk vw vi wr => ∃ k : Nat, vi = .int .i64 (k + 1 : Nat) ∧ vw = .int .i64 (wnt st q k) ∧ k ≤ m ∧ m - k ≤ kk ∧ wr = w6)
      case atStart => exact ⟨0, by go_num, rfl, by omega, by omega, rfl⟩
      case round =>
        obtain ⟨k, rfl, rfl, hkm, hkk, rfl⟩ := hrel
        by_cases hk : k < m
        · have hki : ((k + 1 : Nat) : Int) ≤ (m : Int) := by omega
          have hmb := mul_bd hst1 s2 (k + 1) (by omega)
          have HNK := Lib.hid (HN.out k)
          obtain ⟨z, hz⟩ : ∃ z, ((k + 1 : Nat) : Int) * st = z := ⟨_, rfl⟩
          have hmw : IntKind.i64.wrap z = z := IntWalk.i64_in _ (by rw [hz] at hmb; omega)
          rw [hz] at hmb HNK
          have eq2 : ((k + 1 : Nat) : Int) = (k : Int) + 1 := by omega
          have hz2 : ((k : Int) + 1) * st = z := by rw [← eq2]; exact hz
          by_cases hq : z ≤ q
          · have HNV : Hid (wnt st q (k + 1) = z) := Lib.hid (by rw [HNK.out, if_pos hq])
            clear HNK
            go_wp2_with fail
            go_roundg (m - (k + 1))
            case measure => omega
            case rel => exact ⟨k + 1, by go_num, by rw [HNV.out], by omega, Nat.le_refl _, rfl⟩
          · have HNV : Hid (wnt st q (k + 1) = wnt st q k) := Lib.hid (by rw [HNK.out, if_neg hq])
            clear HNK
            go_wp2_with fail
            go_roundg (m - (k + 1))
            case measure => omega
            case rel => exact ⟨k + 1, by go_num, by rw [HNV.out], by omega, Nat.le_refl _, rfl⟩
        · have hkm2 : k = m := by omega
          subst hkm2
          have hki : ¬ ((k + 1 : Nat) : Int) ≤ (k : Int) := by omega
          obtain ⟨⟨a0, a1, a2, a3, a4⟩, -, hga⟩ := id H6.out.2.2
          have hWq := HWW.out
          rw [hWq]
          clear hWq HWW HN
          have hww : (W == W) = true := by simp
          have hwd : (decide (0 < W) == decide (0 < W)) = true := by simp
          go_wp2_with fail
          refine (S2.out _ H6.out.2.1).mono ?_
          rintro e w7 ⟨rfl, hb⟩
          have H7 : Hid (Below w.heap.size w w7 ∧ RdK encEnt 5 w7 (.slice va vlen vcap) (down st k)) := Lib.hid ⟨H6.out.1.trans (hb.mono H6.out.1.size), H6.out.2.1.below hb⟩
          clear hb H6 S2 a0 a1 a2 a3 a4 hga
          go_wp2_with fail
          refine (S1.out _ H7.out.2).mono ?_
          rintro e w8 ⟨rfl, hb⟩
          have H8 : Hid (Below w.heap.size w w8) := Lib.hid (H7.out.1.trans (hb.mono H7.out.1.size))
          clear hb H7 S1
          go_wp2_with fail
          go_ret
          exact ⟨rfl, H8.out⟩
end Go.Proofs.Ytgofniepdpbciaa
