/- The walk of the law StreamAll. -/
import Derived.Test.YtnooloojnhodiaaGreatDoorMStrmB
import Derived.Deep.DeepCutAuto
import Derived.Deep.CutBlock
import Derived.WalkLawsBesides
namespace Go.Proofs.YtnooloojnhodiaaGreatDoor
set_option linter.unusedVariables false
open Go.RowKit
def AllSt (T : List UInt8) (b : Nat) (at_ : Nat) (out : List UInt8) (fell : Bool) (w : World) : Prop :=
  out.length ≤ 40 * T.length ∧ if fell = true then (∀ L, ¬ Good T L) ∧ ∃ n, n ≠ 0 ∧ DeadAt w b n else OpenAt w b (T.take at_) out
def AllRes (T : List UInt8) (w : World) (b : Nat) (nx : Nat) (out : List UInt8) (fell : Bool) (e : Ending) (w' : World) : Prop :=
  ∃ v o n, e = .returned (.tuple #[v, .int .i64 n]) ∧ BySl 0 w' v o ∧ Upd b w w' ∧ AllSt T b nx (out ++ o) (fell || (n != 0)) w'
theorem BySl.zero {B : Nat} {w : World} {v : Value} {bs : List UInt8} (h : BySl B w v bs) : BySl 0 w v bs := by
  rcases h with h | ⟨g, off, cap, k1, k2, k3, k4⟩
  · exact .inl h
  · exact .inr ⟨g, off, cap, k1, Nat.zero_le _, k3, k4⟩
theorem all_write (T : List UInt8) (u w : World) (hE : ErrAt u) (hSp : SpAt u) (hu : Below u.heap.size u w) (b : Nat) (hub : u.heap.size ≤ b) (at_ nx : Nat) (hto : at_ ≤ nx) (hT : nx ≤ T.length) (out : List UInt8) (fell : Bool) (h : AllSt T b at_ out fell w) (v : Value) (s : ByteArray) (hs : s.data.toList = (T.take nx).drop at_) (hv : BySl 0 w v s.data.toList) (hlen : T.length ≤ 200) :
    Calls Tryz.prog 12 #[.pointer (some ⟨b, 0, none⟩), v] w (AllRes T w b nx out fell) := by
  obtain ⟨hl, h⟩ := h
  cases fell with
  | true =>
    rw [if_pos rfl] at h
    obtain ⟨h1, n, h2, h3⟩ := h
    refine (write_dead w b n h2 h3 v).mono ?_
    rintro e w' ⟨k1, rfl⟩
    refine ⟨_, [], n, k1, .inl ⟨rfl, rfl⟩, Upd.refl _ _, by rw [List.append_nil]; exact hl, ?_⟩
    rw [if_pos (by simp)]
    exact ⟨h1, n, h2, h3⟩
  | false =>
    rw [if_neg (by simp)] at h
    have hsz : s.size ≤ 10000 := by
      rw [← size_toList, hs, List.length_drop, List.length_take]; omega
    have happ : T.take at_ ++ s.data.toList = T.take nx := by
      rw [hs]
      have e : T.take at_ = (T.take nx).take at_ := by rw [List.take_take, Nat.min_eq_left hto]
      rw [e, List.take_append_drop]
    refine (write_step u w hE hSp hu b hub _ out h v 0 s hv hsz).mono ?_
    rintro e w' ⟨hU, k⟩
    rw [happ] at k
    rcases k with ⟨k1, k2, k3⟩ | ⟨k1, k2, k3⟩ | ⟨v', o, k1, k2, k3⟩
    · refine ⟨_, [], 2, k2, .inl ⟨rfl, rfl⟩, hU, by rw [List.append_nil]; exact hl, ?_⟩
      rw [if_pos (by simp)]
      exact ⟨fun L g => good_many g (List.take_append_drop nx T) k1, 2, by decide, k3⟩
    · refine ⟨_, [], 1, k2, .inl ⟨rfl, rfl⟩, hU, by rw [List.append_nil]; exact hl, ?_⟩
      rw [if_pos (by simp)]
      exact ⟨fun L g => good_begin g (List.take_append_drop nx T) k1, 1, by decide, k3⟩
    · refine ⟨v', o, 0, k1, (BySl.own k2).zero, hU, ?_, ?_⟩
      · have := open_len k3
        rw [List.length_take] at this; omega
      · rw [if_neg (by simp)]; exact k3
/-- What Close gives at the end. -/
def AllEnd (T : List UInt8) (w : World) (b : Nat) (g : Bool) (f out : List UInt8) (fell : Bool) (e : Ending) (w' : World) : Prop :=
  ∃ v o n, e = .returned (.tuple #[v, .int .i64 n]) ∧ BySl 0 w' v o ∧ Upd b w w' ∧ (out ++ o).length ≤ 100000 ∧ (g = true → fell = false ∧ n = 0 ∧ out ++ o = f) ∧ (g = false → (fell || (n != 0)) = true)
theorem all_close (T f : List UInt8) (u w : World) (hE : ErrAt u) (hSp : SpAt u) (hu : Below u.heap.size u w) (b : Nat) (hub : u.heap.size ≤ b) (out : List UInt8) (fell g : Bool) (h : AllSt T b T.length out fell w) (hlen : T.length ≤ 200)
    (hg1 : g = true → ∃ L, Good T L ∧ textP T = some f) (hg0 : g = false → ∀ L, ¬ Good T L) :
    Calls Tryz.prog 14 #[.pointer (some ⟨b, 0, none⟩)] w (AllEnd T w b g f out fell) := by
  obtain ⟨hl, h⟩ := h
  cases fell with
  | true =>
    rw [if_pos rfl] at h
    obtain ⟨h1, n, h2, h3⟩ := h
    refine (close_dead w b n h2 h3).mono ?_
    rintro e w' ⟨k1, rfl⟩
    refine ⟨_, [], n, k1, .inl ⟨rfl, rfl⟩, Upd.refl _ _, by rw [List.append_nil]; omega, fun hg => ?_, fun _ => by simp⟩
    obtain ⟨L, hL, _⟩ := hg1 hg
    exact absurd hL (h1 L)
  | false =>
    rw [if_neg (by simp), List.take_length] at h
    refine (close_step u w hE hSp hu b hub T out h).mono ?_
    rintro e w' ⟨hU, ⟨k1, k2, k3⟩ | ⟨L, v, bs, k1, k2, k3, k4, k5⟩⟩
    · refine ⟨_, [], 1, k2, .inl ⟨rfl, rfl⟩, hU, by rw [List.append_nil]; omega, fun hg => ?_, fun _ => by simp⟩
      obtain ⟨L, hL, _⟩ := hg1 hg
      rw [hL.1] at k1; cases k1
    · refine ⟨v, bs, 0, k3, k4.zero, hU, ?_, fun hg => ?_, fun hg => absurd k1 (hg0 hg L)⟩
      · rcases text_case T with ⟨h1, _⟩ | ⟨L', f', _, h2, _, _, h5, _, _, _⟩ | ⟨L', f', _, h2, _, _, h6, _, _⟩
        · rw [h1] at k2; cases k2
        · exact absurd k1 (h5 L)
        · rw [h2] at k2
          have := congrArg List.length (Option.some.inj k2)
          omega
      · obtain ⟨L', _, h2⟩ := hg1 hg
        rw [h2] at k2
        exact ⟨rfl, rfl, (Option.some.inj k2).symm⟩
theorem bool_ways {gd mk good q : Bool} (h1 : (gd && !mk) = good) (h2 : q = (gd && mk)) : (q = false → gd = good) ∧ (q = true → good = false) := by
  subst h1 h2; cases gd <;> cases mk <;> simp
theorem all_below {T out : List UInt8} {b at_ : Nat} {fell : Bool} {w w' : World} (h : AllSt T b at_ out fell w) (k : Below w.heap.size w w') : AllSt T b at_ out fell w' := by
  obtain ⟨h1, h2⟩ := h
  refine ⟨h1, ?_⟩
  cases fell with
  | true => rw [if_pos rfl] at h2 ⊢; obtain ⟨g, n, hn, hd⟩ := h2; exact ⟨g, n, hn, hd.below k⟩
  | false => rw [if_neg (by simp)] at h2 ⊢; exact h2.below k
theorem all_good {T out : List UInt8} {b at_ : Nat} {q : Bool} {w : World} {L : List Int} (h : AllSt T b at_ out q w) (g : Good T L) : q = false := by
  cases q with
  | false => rfl
  | true => have := h.2; rw [if_pos rfl] at this; exact absurd g (this.1 L)
theorem bool_zero {fell : Bool} {n : Int} (h : (fell || (n != 0)) = false) : fell = false ∧ n = 0 := by
  rw [Bool.or_eq_false_iff] at h
  exact ⟨h.1, by simpa using h.2⟩
set_option maxHeartbeats 8000000 in
set_option maxRecDepth 100000 in
theorem streamAll_walk (w : World) (hE : ErrAt w) (hSp : SpAt w) (s : ByteArray) (hs : s.size ≤ maxLen) (a : Option Addr) (len cap : Nat) (zs : List Int) (hz : RdI w (.slice a len cap) zs) (hw : ∀ n ∈ zs, (Lit.int .i64 n).wf = true) :
    Calls Tryz.prog 3 #[.string s, .slice a len cap] w fun e w' => e = .returned (.bool true) ∧ Below w.heap.size w w' := by
  have HES : Hid (ErrAt w ∧ SpAt w) := ⟨hE, hSp⟩
  have HB := Lib.hid (sbegun_any w hE hSp)
  have HC1 : Hid (∀ w, Calls Tryz.prog 7 #[.string s, .int .i64 200] w fun e w' => ∃ t : ByteArray, e = .returned (.string t) ∧ t.size ≤ 200 ∧ w = w') := Lib.hid (cut_any s 200 (by omega) hs)
  obtain ⟨aa, n, cap', e, hn, hc⟩ := hz.walk
  simp only [Value.slice.injEq] at e
  obtain ⟨rfl, rfl, rfl⟩ := e
  have HC := Lib.hid hc
  have HN : Hid (len = zs.length) := hn
  have hlm : len ≤ 9223372036854775807 := by
    rcases hz.cases with ⟨a', c', e1, e2⟩ | ⟨b', off', c', e1, e2, e3, e4, _⟩
    · simp only [Value.slice.injEq] at e1; omega
    · unfold maxLen at e4; omega
  have HW : Hid (∀ x ∈ zs, -9223372036854775808 ≤ x ∧ x ≤ 9223372036854775807) := Lib.hid fun c hc => swf_bd (hw c hc)
  clear hE hSp hz hw hs hc hn
  go_enter Tryz.func3, Tryz.ntmps3
  go_wp2_with fail
  refine HB.out.mono ?_
  rintro e w1 ⟨rfl, hb1⟩
  clear HB
  go_wp2_with fail
  refine (HC1.out _).mono ?_
  rintro e w' ⟨t, rfl, ht, rfl⟩
  clear HC1
  have HRT := Lib.hid (rtext_any t w1 (short_of (by rw [size_toList]; omega)))
  obtain ⟨T, hT⟩ : ∃ T, t.data.toList = T := ⟨_, rfl⟩
  have hTl : T.length = t.size := by rw [← hT]; exact size_toList t
  rw [hT] at HRT
  have HT := Lib.hid hT
  have HTL := Lib.hid hTl
  clear hT
  have hcase : ∃ (f ls : List UInt8 × List Int) , True := ⟨([], []), ([], []), trivial⟩
  obtain ⟨f, ls, good, hfr, hfl, hls, hrd, hok, hg1, hg0⟩ : ∃ (f : List UInt8) (ls : List Int) (good : Bool), (textP T).getD [] = f ∧ f.length ≤ 8000 ∧ ls.length ≤ 2000 ∧ readP f = some ls ∧ IntOk ls ∧
      (((textP T).isSome && !(!rk 0 ls)) = good ∧ (good = true → ∃ L, Good T L ∧ textP T = some f)) ∧ (good = false → ∀ L, ¬ Good T L) := by
    rcases text_case T with ⟨h1, h2⟩ | ⟨L, f, h1, h2, h3, h4, h5, h6, h7, h8⟩ | ⟨L, f, h1, h2, h3, h4, h6, h7, h8⟩
    · exact ⟨[], [], false, by rw [h1]; rfl, by simp, by simp, rfl, (fun _ h => by cases h), ⟨by rw [h1]; rfl, (fun h => by cases h)⟩, fun _ => h2⟩
    · exact ⟨f, charsP L, false, by rw [h2]; rfl, by omega, by omega, h3, h8, ⟨by rw [h2, h4]; rfl, (fun h => by cases h)⟩, fun _ => h5⟩
    · exact ⟨f, charsP L, true, by rw [h2]; rfl, by omega, by omega, h3, h8, ⟨by rw [h2, h4]; rfl, fun _ => ⟨L, ⟨h1, h4⟩, h2⟩⟩, (fun h => by cases h)⟩
  obtain ⟨gd, hgd⟩ : ∃ x, (textP T).isSome = x := ⟨_, rfl⟩
  rw [hgd] at hg1
  have HRT2 : Hid (Calls Tryz.prog 8 #[.string t] w1 fun e w' => e = .returned (.tuple #[.string ⟨f.toArray⟩, .bool gd]) ∧ Below w1.heap.size w1 w') := Lib.hid (by
    have := HRT.out
    unfold TextRes at this
    rwa [hfr, hgd] at this)
  have HRD : Hid (∀ w, Calls Tryz.prog 9 #[.string ⟨f.toArray⟩] w (ReadRes w (some ls))) := Lib.hid fun w => by
    have := rread_any ⟨f.toArray⟩ (by show f.toArray.size ≤ 1000000; rw [List.size_toArray]; omega) w
    rwa [show (⟨f.toArray⟩ : ByteArray).data.toList = f from rfl, hrd] at this
  have HMK : Hid (∀ w v, RdI w v ls → Calls Tryz.prog 10 #[v, .int .i64 30] w fun e w' => e = .returned (.bool (!rk 0 ls)) ∧ Below w.heap.size w w') := Lib.hid fun w v hv => marks_any w v ls hv hok (by omega)
  have HG := Lib.hid hg1
  have HG0 := Lib.hid hg0
  clear hcase hfr hrd hok hg1 hg0 hgd HRT hls
  go_wp2_with fail
  refine HRT2.out.mono ?_
  rintro e w2 ⟨rfl, hb2⟩
  have HB2 : Hid (Below w.heap.size w w2) := Lib.hid (hb1.trans (hb2.mono hb1.size))
  clear hb1 hb2 HRT2
  go_wp2_with fail
  refine (HRD.out w2).mono ?_
  intro e w3 hr
  obtain ⟨lv, rfl, hlv, hb3⟩ := hr.cases
  have HB3 : Hid (Below w.heap.size w w3) := Lib.hid (HB2.out.trans (hb3.mono HB2.out.size))
  have HMK3 := Lib.hid (HMK.out w3 lv hlv)
  obtain ⟨mk, hmk⟩ : ∃ x, (!rk 0 ls) = x := ⟨_, rfl⟩
  have HG1 : Hid ((gd && !mk) = good ∧ (good = true → ∃ L, Good T L ∧ textP T = some f)) := Lib.hid (by have := HG.out; rwa [hmk] at this)
  have HMK4 : Hid (Calls Tryz.prog 10 #[lv, .int .i64 30] w3 fun e w' => e = .returned (.bool mk) ∧ Below w3.heap.size w3 w') := Lib.hid (by have := HMK3.out; rwa [hmk] at this)
  clear hr hb3 hlv hmk HG HRD HMK HMK3 HB2
  go_upto_region 7 with fail
  go_cut [39] (fun qv wx => ∃ q, qv = .bool q ∧ Hid (q = (gd && mk)) ∧ Hid (Below w.heap.size w wx))
  case first =>
    cases gd with
    | false =>
      go_wp2_with fail
      go_meet
      exact ⟨false, rfl, Lib.hid rfl, HB3⟩
    | true =>
      go_wp2_with fail
      refine HMK4.out.mono ?_
      rintro e w4 ⟨rfl, hb4⟩
      have HB4 : Hid (Below w.heap.size w w4) := Lib.hid (HB3.out.trans (hb4.mono HB3.out.size))
      clear hb4
      go_wp2_with fail
      go_meet
      exact ⟨mk, rfl, Lib.hid (by cases mk <;> rfl), HB4⟩
  case rest =>
  obtain ⟨q, rfl, HQ, HB4⟩ := hcut
  obtain ⟨w4, hw4⟩ : ∃ W, wc = W := ⟨_, rfl⟩
  rw [hw4] at HB4 ⊢
  clear hw4 HMK4 HB3
  go_upto_if 39 with fail
  go_cut [7] (fun gv wx => gv = .bool good ∧ w4 = wx)
  case first =>
    cases q with
    | false =>
      have hgf : gd = good := (bool_ways HG1.out.1 HQ.out).1 rfl
      subst hgf
      clear HG1 HQ
      go_wp2_with fail
      go_meet
      exact ⟨rfl, rfl⟩
    | true =>
      have hgf : good = false := (bool_ways HG1.out.1 HQ.out).2 rfl
      subst hgf
      clear HG1 HQ
      go_wp2_with fail
      go_meet
      exact ⟨rfl, rfl⟩
  case rest =>
  obtain ⟨rfl, rfl⟩ := hcut
  have HG2 : Hid (good = true → ∃ L, Good T L ∧ textP T = some f) := Lib.hid HG1.out.2
  clear HG1
  go_wp2_with fail
  refine (new_any w4).mono ?_
  rintro e w5 ⟨rfl, hb5, hz5, hst5⟩
  obtain ⟨b, hbb⟩ : ∃ b, w4.heap.size = b := ⟨_, rfl⟩
  rw [hbb] at hst5 ⊢
  have HUB : Hid (w.heap.size ≤ b) := Lib.hid (by rw [← hbb]; exact HB4.out.size)
  have HB5 : Hid (Below w.heap.size w w5) := Lib.hid (HB4.out.trans (hb5.mono HB4.out.size))
  have HS5 : Hid (AllSt T b 0 [] false w5) := Lib.hid ⟨Nat.zero_le _, open_new hst5⟩
  have HTT : Hid (T.length ≤ 200) := Lib.hid (by omega)
  clear hb5 hz5 hst5 hbb HB4
  go_wp2_with fail
  go_loopg [11, 12, 13, 14] 62 (fun kk ov av fv iv wr => ∃ (ob : ByteArray) (at_ : Nat) (fell : Bool) (i : Nat), ov = .string ob ∧ av = .int .i64 at_ ∧ fv = .bool fell ∧ iv = .int .i64 i ∧ at_ ≤ t.size ∧ i ≤ 61 ∧ i ≤ len + 1 ∧ 62 - i ≤ kk ∧ ob.size ≤ 8000 ∧ Below w.heap.size w wr ∧ Hid ((i = len + 1 ∨ i = 61) → at_ = T.length) ∧ Hid (AllSt T b at_ ob.data.toList fell wr))
  case atStart => exact ⟨⟨#[]⟩, 0, false, 0, rfl, rfl, rfl, rfl, Nat.zero_le _, by omega, by omega, by omega, Nat.zero_le _, HB5.out, Lib.hid (fun h => by omega), HS5⟩
  case round =>
    clear HB5 HS5
    obtain ⟨ob, at_, fell, i, rfl, rfl, rfl, rfl, hat, hi61, hil, hkk, hob, hb, HE, HSt⟩ := hrel
    have h0i : (0 : Int) ≤ (i : Int) := by omega
    by_cases hgo : i ≤ len ∧ i ≤ 60
    · obtain ⟨hgo1, hgo2⟩ := hgo
      have g1 : (i : Int) ≤ (len : Int) := by omega
      have g2 : (i : Int) ≤ 60 := by omega
      go_upto_region 17 with fail
      go_cut [60] (fun qv wx => ∃ q, qv = .bool q ∧ Hid (q = true ↔ (i < len ∧ i < 60)) ∧ wr = wx)
      case first =>
        by_cases hc1 : i < len
        · have g3 : (i : Int) < (len : Int) := by omega
          by_cases hc2 : i < 60
          · have g4 : (i : Int) < 60 := by omega
            go_wp2_with fail
            go_meet
            exact ⟨true, rfl, Lib.hid ⟨fun _ => ⟨hc1, hc2⟩, fun _ => rfl⟩, rfl⟩
          · have g4 : ¬ (i : Int) < 60 := by omega
            go_wp2_with fail
            go_meet
            exact ⟨false, rfl, Lib.hid ⟨fun h => (by cases h), fun h => absurd h.2 hc2⟩, rfl⟩
        · have g3 : ¬ (i : Int) < (len : Int) := by omega
          go_wp2_with fail
          go_meet
          exact ⟨false, rfl, Lib.hid ⟨fun h => (by cases h), fun h => absurd h.1 hc1⟩, rfl⟩
      case rest =>
      obtain ⟨q, rfl, HQ, rfl⟩ := hcut
      go_upto_if 60 with fail
      go_cut [15] (fun tv wx => ∃ nx : Nat, tv = .int .i64 nx ∧ at_ ≤ nx ∧ nx ≤ t.size ∧ Hid ((i + 1 = len + 1 ∨ i + 1 = 61) → nx = T.length) ∧ wr = wx)
      case first =>
        cases q with
        | true =>
          obtain ⟨hc1, hc2⟩ := HQ.out.1 rfl
          have g3 : (i : Int) < (len : Int) := by omega
          have g4 : (i : Int) < 60 := by omega
          obtain ⟨g, off, rfl, hg, c1⟩ := HC.out i (by have := HN.out; omega)
          have hzi := HW.out zs[i]! (by rw [getElem!_pos zs i (by have := HN.out; omega)]; exact List.getElem_mem _)
          obtain ⟨z, hz⟩ : ∃ z, zs[i]! = z := ⟨_, rfl⟩
          rw [hz] at c1 hzi
          have d1 : wr.cell? ⟨g, off + i, none⟩ = some (.int .i64 z) := (hb.cell hg).trans c1
          clear c1 hz
          obtain ⟨hz1, hz2⟩ := hzi
          go_wp2_with fail
          go_meet
          obtain ⟨nx, hnx⟩ : ∃ nx : Nat, min (t.size : Int) ((at_ : Int) + max 0 (min z 50)) = (nx : Int) := ⟨(min (t.size : Int) ((at_ : Int) + max 0 (min z 50))).toNat, by omega⟩
          exact ⟨nx, by rw [hnx], by omega, by omega, Lib.hid fun h => by omega, rfl⟩
        | false =>
          have hno : ¬ (i < len ∧ i < 60) := fun h => by have := HQ.out.2 h; cases this
          go_wp2_with fail
          go_meet
          exact ⟨t.size, rfl, hat, Nat.le_refl _, Lib.hid fun _ => by have := HTL.out; omega, rfl⟩
      case rest =>
      obtain ⟨nx, rfl, hnx1, hnx2, HEND, rfl⟩ := hcut
      have d1c : True := trivial
      have hlx : at_ ≤ nx ∧ nx ≤ t.size := ⟨hnx1, hnx2⟩
      obtain ⟨X, hX⟩ : ∃ X, t.extract at_ nx = X := ⟨_, rfl⟩
      have hXd : X.data.toList = (T.take nx).drop at_ := by
        rw [← hX, Lib.extract_data, HT.out, List.drop_take]
      have hcv := Lib.run_convert_string_bytes (P := Tryz.prog) wr 9 32 5 X (u := .string) Tryz.underlying9 Tryz.underlying32 Tryz.underlying5
      have hbc := below_conv wr 5 X
      have hby := conv_new_by wr X (Nat.zero_le _)
      obtain ⟨w6, e6⟩ : ∃ w6, Lib.bytesWorld wr 5 X = w6 := ⟨_, rfl⟩
      obtain ⟨v6, ev6⟩ : ∃ v6, Value.slice (some ⟨wr.heap.size, 0, none⟩) X.size (grownCap wr X.size 0 5) = v6 := ⟨_, rfl⟩
      rw [e6, ev6] at hcv hby
      rw [e6] at hbc
      have hst6 : AllSt T b at_ ob.data.toList fell w6 := all_below HSt.out hbc
      have HB6 : Hid (Below w.heap.size w w6) := Lib.hid (hb.trans (hbc.mono hb.size))
      have HWr := Lib.hid (all_write T w w6 HES.out.1 HES.out.2 HB6.out b HUB.out at_ nx hnx1 (by rw [hTl]; exact hnx2) ob.data.toList fell hst6 v6 X hXd hby HTT.out)
      clear e6 ev6 hbc hby hst6 hXd HSt hb d1c
      go_wp2_with fail
      refine HWr.out.mono ?_
      rintro e w7 ⟨v7, o, n7, rfl, hby7, hU7, hst7⟩
      obtain ⟨so, eso⟩ : ∃ so : ByteArray, (⟨o.toArray⟩ : ByteArray) = so := ⟨_, rfl⟩
      have hcv7 := conv_by hby7
      rw [eso] at hcv7
      have eo : o = so.data.toList := by rw [← eso]
      subst eo
      have HST7 : Hid (AllSt T b nx (ob ++ so).data.toList (fell || (n7 != 0)) w7) := Lib.hid (by rw [show (ob ++ so).data.toList = ob.data.toList ++ so.data.toList by simp]; exact hst7)
      have hsz : ob.size + so.size ≤ 8000 := by
        have := HST7.out.1
        have h200 := HTT.out
        rw [size_toList, ByteArray.size_append] at this
        omega
      have hsum : ob.size + so.size ≤ 9223372036854775807 := by omega
      have HB7 : Hid (Below w.heap.size w w7) := Lib.hid (hU7.below HB6.out HUB.out HB6.out.size)
      clear eso hby7 hU7 hst7 HWr HB6 hcv
      cases good with
      | true =>
        obtain ⟨L, hgL, hgf⟩ := HG2.out rfl
        have hq := all_good HST7.out hgL
        rw [hq] at HST7
        obtain ⟨rfl, rfl⟩ := bool_zero hq
        have HEA : Hid (Calls Tryz.prog 13 #[.pointer (some ⟨b, 0, none⟩), .string (t.extract 0 nx), .string (ob ++ so)] w7 fun e w' => e = .returned (.bool true) ∧ Below w7.heap.size w7 w') := Lib.hid (early_any w7 b (t.extract 0 nx) (ob ++ so).data.toList (by
          have := HST7.out.2
          rw [if_neg (by simp)] at this
          rwa [show (t.extract 0 nx).data.toList = T.take nx by rw [Lib.extract_data, HT.out]; simp]) (by rw [ByteArray.size_extract]; omega))
        clear hq hgL hgf
        go_wp2_with fail
        refine HEA.out.mono ?_
        rintro e w8 ⟨rfl, hb8⟩
        have HB8 : Hid (Below w.heap.size w w8) := Lib.hid (HB7.out.trans (hb8.mono HB7.out.size))
        have HST8 := Lib.hid (all_below HST7.out hb8)
        clear hb8 HEA
        go_wp2_with fail
        go_roundg (62 - (i + 1))
        case rel => exact ⟨ob ++ so, nx, false, i + 1, rfl, rfl, rfl, by go_num, hnx2, by omega, by omega, Nat.le_refl _, by rw [ByteArray.size_append]; exact hsz, HB8.out, Lib.hid HEND.out, HST8⟩
        case measure => omega
      | false =>
        cases fell with
        | true =>
          go_wp2_with fail
          go_roundg (62 - (i + 1))
          case rel => exact ⟨ob ++ so, nx, true, i + 1, rfl, rfl, rfl, by go_num, hnx2, by omega, by omega, Nat.le_refl _, by rw [ByteArray.size_append]; exact hsz, HB7.out, Lib.hid HEND.out, HST7⟩
          case measure => omega
        | false =>
          go_wp2_with fail
          go_roundg (62 - (i + 1))
          case rel => exact ⟨ob ++ so, nx, n7 != 0, i + 1, rfl, rfl, rfl, by go_num, hnx2, by omega, by omega, Nat.le_refl _, by rw [ByteArray.size_append]; exact hsz, HB7.out, Lib.hid HEND.out, HST7⟩
          case measure => omega
    · by_cases h1 : i ≤ len
      · have g1 : (i : Int) ≤ (len : Int) := by omega
        have g2 : ¬ (i : Int) ≤ 60 := by omega
        have hend : at_ = T.length := HE.out (by omega)
        subst hend
        have HCLs := Lib.hid (all_close T f w wr HES.out.1 HES.out.2 hb b HUB.out ob.data.toList fell good HSt.out HTT.out HG2.out HG0.out)
        have HB0 := Lib.hid hb
        clear hb HSt
        go_wp2_with fail
        refine HCLs.out.mono ?_
        rintro e w6 ⟨v6, o, n6, rfl, hby6, hU6, hl6, hg1, hg0⟩
        obtain ⟨so, eso⟩ : ∃ so : ByteArray, (⟨o.toArray⟩ : ByteArray) = so := ⟨_, rfl⟩
        have hcv6 := conv_by hby6
        rw [eso] at hcv6
        have eo : o = so.data.toList := by rw [← eso]
        subst eo
        have HB6 : Hid (Below w.heap.size w w6) := Lib.hid (hU6.below HB0.out HUB.out HB0.out.size)
        have hsum : ob.size + so.size ≤ 9223372036854775807 := by
          rw [List.length_append, size_toList, size_toList] at hl6; omega
        cases good with
        | true =>
          obtain ⟨rfl, rfl, hf⟩ := hg1 rfl
          have hof : ob ++ so = ⟨f.toArray⟩ := by
            apply ByteArray.ext
            rw [← hf]; simp
          have hff : (f == f) = true := by simp
          clear hg1 hg0 hby6 hU6 hl6 eso hf HCLs
          go_wp2_with fail
          go_ret
          exact ⟨rfl, HB6.out⟩
        | false =>
          have hq := hg0 rfl
          cases fell with
          | true =>
            clear hg1 hg0 hby6 hU6 hl6 eso HCLs hq
            go_wp2_with fail
            go_ret
            exact ⟨rfl, HB6.out⟩
          | false =>
            have hnz : (n6 != 0) = true := by simpa using hq
            clear hg1 hg0 hby6 hU6 hl6 eso HCLs hq
            go_wp2_with fail
            go_ret
            exact ⟨rfl, HB6.out⟩
      · have g1 : ¬ (i : Int) ≤ (len : Int) := by omega
        have hend : at_ = T.length := HE.out (by omega)
        subst hend
        have HCLs := Lib.hid (all_close T f w wr HES.out.1 HES.out.2 hb b HUB.out ob.data.toList fell good HSt.out HTT.out HG2.out HG0.out)
        have HB0 := Lib.hid hb
        clear hb HSt
        go_wp2_with fail
        refine HCLs.out.mono ?_
        rintro e w6 ⟨v6, o, n6, rfl, hby6, hU6, hl6, hg1, hg0⟩
        obtain ⟨so, eso⟩ : ∃ so : ByteArray, (⟨o.toArray⟩ : ByteArray) = so := ⟨_, rfl⟩
        have hcv6 := conv_by hby6
        rw [eso] at hcv6
        have eo : o = so.data.toList := by rw [← eso]
        subst eo
        have HB6 : Hid (Below w.heap.size w w6) := Lib.hid (hU6.below HB0.out HUB.out HB0.out.size)
        have hsum : ob.size + so.size ≤ 9223372036854775807 := by
          rw [List.length_append, size_toList, size_toList] at hl6; omega
        cases good with
        | true =>
          obtain ⟨rfl, rfl, hf⟩ := hg1 rfl
          have hof : ob ++ so = ⟨f.toArray⟩ := by
            apply ByteArray.ext
            rw [← hf]; simp
          have hff : (f == f) = true := by simp
          clear hg1 hg0 hby6 hU6 hl6 eso hf HCLs
          go_wp2_with fail
          go_ret
          exact ⟨rfl, HB6.out⟩
        | false =>
          have hq := hg0 rfl
          cases fell with
          | true =>
            clear hg1 hg0 hby6 hU6 hl6 eso HCLs hq
            go_wp2_with fail
            go_ret
            exact ⟨rfl, HB6.out⟩
          | false =>
            have hnz : (n6 != 0) = true := by simpa using hq
            clear hg1 hg0 hby6 hU6 hl6 eso HCLs hq
            go_wp2_with fail
            go_ret
            exact ⟨rfl, HB6.out⟩
end Go.Proofs.YtnooloojnhodiaaGreatDoor
