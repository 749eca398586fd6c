/- The walks of norm.order at any slice, norm.numbers. -/
import Derived.Test.YtjhkfjbgdaomeaaGreatDoorMSortS
import Derived.Test.YtjhkfjbgdaomeaaGreatDoorMNormA
import Derived.Test.YtjhkfjbgdaomeaaGreatDoorMUtf
import Derived.Maps.AppendAt
import Derived.Laws.OwnMore
import Derived.Deep.QuietTactic
import Derived.BigQuiet
namespace Go.Proofs.YtjhkfjbgdaomeaaGreatDoor
set_option linter.unusedVariables false
open Go.RowKit
theorem OwnC.form {cl : Int → Int} {B : Nat} {w : World} {v : Value} {L : List Int} (h : OwnC cl B w v L) : (v = .slice none 0 0 ∧ L = []) ∨ ∃ g cap, v = .slice (some ⟨g, 0, none⟩) L.length cap ∧ B ≤ g ∧ g < w.heap.size := by
  rcases h.2 with ⟨h1, h2⟩ | ⟨g, cap, cur, h1, h2, h3, _⟩
  · exact .inl ⟨h1, List.eq_nil_of_length_eq_zero h2⟩
  · exact .inr ⟨g, cap, h1, h2, (Array.getElem?_eq_some_iff.1 h3).1⟩
theorem OwnC.below {cl : Int → Int} {B : Nat} {w w' : World} {v : Value} {L : List Int} (h : OwnC cl B w v L) (hb : Below w.heap.size w w') : OwnC cl B w' v L := by
  refine ⟨h.1, ?_⟩
  rcases h.2 with h | ⟨g, cap, cur, h1, h2, h3, h4⟩
  · exact .inl h
  · exact .inr ⟨g, cap, cur, h1, h2, (hb.block g (Array.getElem?_eq_some_iff.1 h3).1).trans h3, h4⟩
theorem order_any (B : Nat) (w : World) (v : Value) (L : List Int) (h : OwnC classP B w v L) (hl : L.length ≤ 100000) :
    Calls Tryz.prog 139 #[v] w fun e w' => e = .returned (.tuple #[]) ∧ OwnC classP B w' v (orderP classP L) ∧ Below B w w' := by
  rcases h.form with ⟨rfl, rfl⟩ | ⟨g, cap, rfl, _⟩
  · have HO := Lib.hid h
    clear h hl
    go_enter Tryz.func139, Tryz.ntmps139
    go_wp2
    go_loopg [2] 0 (fun k vs wr => vs = .int .i64 0 ∧ w = wr)
    case atStart => exact ⟨rfl, rfl⟩
    case round =>
      obtain ⟨rfl, rfl⟩ := hrel
      go_wp2
      go_end0
      exact ⟨rfl, HO.out, Below.refl _ _⟩
  · exact order_some B w g cap _ L h hl
set_option maxHeartbeats 2000000 in
set_option maxRecDepth 100000 in
theorem numbers_any (B : Nat) (w : World) (v : Value) (L : List Int) (h : OwnC classP B w v L) (hl : L.length ≤ 100000) :
    Calls Tryz.prog 140 #[v] w (NewRes L w) := by
  obtain ⟨a, n, cap, rfl, hn, HC⟩ : ∃ a n cap, v = .slice a n cap ∧ n = L.length ∧ Hid (∀ i, i < L.length → ∃ g, a = some ⟨g, 0, none⟩ ∧ g < w.heap.size ∧ w.cell? ⟨g, i * 2, none⟩ = some (.int .i64 L[i]!) ∧ w.cell? ⟨g, i * 2 + 1, none⟩ = some (.int .i64 (classP L[i]!))) := by
    rcases h.form with ⟨rfl, rfl⟩ | ⟨g, cap, rfl, _⟩
    · exact ⟨none, 0, 0, rfl, rfl, Lib.hid fun i hi => by simp at hi⟩
    · obtain ⟨cur, hb, _, _, _, hsz, _, hc⟩ := h.block
      refine ⟨_, _, _, rfl, rfl, Lib.hid fun i hi => ⟨g, rfl, (Array.getElem?_eq_some_iff.1 hb).1, ?_, ?_⟩⟩
      · have := hc (i * 2) (by omega)
        rw [show i * 2 / 2 = i by omega, show i * 2 % 2 = 0 by omega] at this
        simp only [World.cell?, hb, Option.isSome_none, Bool.false_eq_true, if_false]
        rw [this]; rfl
      · have := hc (i * 2 + 1) (by omega)
        rw [show (i * 2 + 1) / 2 = i by omega, show (i * 2 + 1) % 2 = 1 by omega] at this
        simp only [World.cell?, hb, Option.isSome_none, Bool.false_eq_true, if_false]
        rw [this]; rfl
  have HN : Hid (n = L.length) := hn
  have hn1 : n ≤ 100000 := by omega
  clear h hn hl
  go_enter Tryz.func140, Tryz.ntmps140
  go_wp2
  go_loopw [3, 8] (fun l vi wr => ∃ (i : Nat), vi = .int .i64 i ∧ i ≤ n ∧ OwnV 3 w.heap.size wr l ((L.take i).map (Value.int .i64)) ∧ (l = .slice none 0 0 ↔ i = 0) ∧ Below w.heap.size w wr) (fun _ vi _ => n - (intOf vi).toNat)
  case atStart => exact ⟨0, rfl, by omega, by simpa using OwnV.nil _ _ _, ⟨fun _ => rfl, fun _ => rfl⟩, Below.refl _ _⟩
  case round =>
    obtain ⟨i, rfl, hi, hown, hnil, hbel⟩ := hrel
    have HNI : Hid _ := Lib.hid hnil
    have hwr := hbel.size
    clear hnil
    by_cases hlt : i < n
    · have hz : (i : Int) < (n : Int) := by omega
      obtain ⟨g, rfl, hg, c1, c2⟩ := HC.out i (by have := HN.out; omega)
      have d1 : wr.cell? ⟨g, i * 2, none⟩ = some (.int .i64 L[i]!) := (hbel.cell hg).trans c1
      have d2 : wr.cell? ⟨g, i * 2 + 1, none⟩ = some (.int .i64 (classP L[i]!)) := (hbel.cell hg).trans c2
      clear c1 c2
      obtain ⟨c, hc⟩ : ∃ c, L[i]! = c := ⟨_, rfl⟩
      rw [hc] at d1 d2
      generalize classP c = k at d2
      have HL : Hid (L[i]! = c) := hc
      clear hc
      have hown2 : OwnV 3 w.heap.size (wr.alloc (.cells #[.int .i64 c, .int .i64 k] 180)) _ _ := World.ownsRow.alloc hown _
      have hB2 : w.heap.size ≤ (wr.alloc (.cells #[.int .i64 c, .int .i64 k] 180)).heap.size := by simp; omega
      have hbel2 : Below w.heap.size w (wr.alloc (.cells #[.int .i64 c, .int .i64 k] 180)) := hbel.alloc hwr _
      have hlen : ((L.take i).map (Value.int .i64)).length ≤ 100000 := by simp; omega
      have HOB : Hid (OwnV 3 w.heap.size (wr.alloc (.cells #[.int .i64 c, .int .i64 k] 180)) _ _ ∧ Below w.heap.size w (wr.alloc (.cells #[.int .i64 c, .int .i64 k] 180))) := ⟨hown2, hbel2⟩
      have HSZ : Hid ((wr.alloc (.cells #[.int .i64 c, .int .i64 k] 180)).heap.size = wr.heap.size + 1) := by show _ = _; simp
      clear hown hown2 hbel2 hbel
      go_wp2_with (at_builtin; refine wp_app elem_int _ _ (by rfl) (by rfl) (by rfl) HOB.out.1 [_] 1 rfl (by rw [HSZ.out]; rfl) ?c1 ?c2 ?c3 ?c4 (by decide) ?_)
      case c1 => simp [Value.oneCell']
      case c2 => simp only [List.length_singleton]; omega
      case c3 => simp only [List.length_singleton, maxLen]; omega
      case c4 => exact hB2
      intro v' w2 hown3 hbel3 hnn
      go_wp2
      go_roundw
      case rel =>
        refine ⟨i + 1, by go_num, by omega, ?_, ⟨fun h => absurd h hnn, fun h => by omega⟩, HOB.out.2.trans hbel3⟩
        have hlt' : i < L.length := by have := HN.out; omega
        rw [take_at hlt', HL.out, List.map_append, List.map_take]
        exact hown3
      case measure => simp only [intOf]; omega
    · have hz : ¬ (i : Int) < (n : Int) := by omega
      obtain rfl : i = n := by omega
      go_wp2
      go_ret
      have e : L.take i = L := List.take_of_length_le (by have := HN.out; omega)
      rw [e] at hown
      exact ⟨_, rfl, hown, ⟨fun h => List.eq_nil_of_length_eq_zero (by have := HN.out; have := HNI.out.1 h; omega), fun h => HNI.out.2 (by have := HN.out; rw [h] at this; simpa using this)⟩, hbel⟩
end Go.Proofs.YtjhkfjbgdaomeaaGreatDoor
/- Append to a slice of chars of the call's own; what such an append leaves. -/
namespace Go.Proofs.YtjhkfjbgdaomeaaGreatDoor
set_option linter.unusedVariables false
open Go.RowKit
/-- Rows of ints stay as they are. -/
def KeepI (w w' : World) : Prop := ∀ (p : Nat) (cur : Array Value), w.heap[p]? = some (Obj.cells cur 3 (0, 0)) → w'.heap[p]? = some (Obj.cells cur 3 (0, 0))
theorem KeepI.refl (w : World) : KeepI w w := fun _ _ h => h
theorem KeepI.trans {a b c : World} (h : KeepI a b) (k : KeepI b c) : KeepI a c := fun p cur e => k p cur (h p cur e)
theorem KeepI.below {w w' : World} (h : Below w.heap.size w w') : KeepI w w' := fun p cur e => (h.block p (Array.getElem?_eq_some_iff.1 e).1).trans e
theorem OwnV.keepI {B : Nat} {w w' : World} {v : Value} {vs : List Value} (h : OwnV 3 B w v vs) (k : KeepI w w') : OwnV 3 B w' v vs := by
  refine ⟨h.1, ?_⟩
  rcases h.2 with h | ⟨g, cap, cur, h1, h2, h3, h4⟩
  · exact .inl h
  · exact .inr ⟨g, cap, cur, h1, h2, k g cur h3, h4⟩
theorem info_char : (Tryz.prog.info? 180).map (fun i => (i.zero, i.size, i.bytes)) = some (some (.agg #[.int .i64 0, .int .i64 0]), 2, 16) := by kernel_rfl
/-- 'append(chars, char{c, class})'. -/
theorem wp_appC {cl : Int → Int} {ops : Array Oper} {rest : List Oper} {o : Oper} {a : Act} {Q : Exit → Act → World → Prop}
    (s x : Operand) (ho : o.op = .call { callee := .builtin .append, args := #[s, x], argTypes := #[178, 178] }) (hgd : o.guard = none)
    {B : Nat} {w : World} {v : Value} {L : List Int} (hs : a.eval s = v) (hown : OwnC cl B w v L) (c : Int) (hx : a.eval x = .slice (some ⟨w.heap.size, 0, none⟩) 1 1)
    (hlen : L.length ≤ 1000000) (hB : B ≤ w.heap.size)
    (h : ∀ v' w', OwnC cl B w' v' (L ++ [c]) → Below B w w' → KeepI w w' → wpList Tryz.prog ops Q rest (a.put o.dst v') w') : wpList Tryz.prog ops Q (o :: rest) a (w.alloc (.cells #[.int .i64 c, .int .i64 (cl c)] 180)) := by
  obtain ⟨i0, hi, hz0, hz1, hz2⟩ := info_parts info_char
  have hown2 : (w.alloc (.cells #[.int .i64 c, .int .i64 (cl c)] 180)).ownsRow B 180 2 v L.length (L.flatMap (encC cl)) := World.ownsRow.alloc hown _
  refine wpList_append_own _ hgd s x 178 ho B 180 i0 _ 2 16 Tryz.underlying178 hi hz0 hz1 hz2 rfl (by decide) v L.length _ hs hown2 ⟨w.heap.size, 0, none⟩ 1 1 (encC cl c) hx rfl ?_ ?_ (by simp only [maxLen]; omega) (by omega) (by simp; omega) ?_
  · intro j u hj
    have e : (⟨w.heap.size, 0, none⟩ : Addr).add j = ⟨w.heap.size, j, none⟩ := by unfold Addr.add; split <;> simp_all
    rw [e]
    unfold World.cell?
    rw [heap_alloc_new]
    simpa [encC] using hj
  · intro u hu
    simp [encC] at hu
    rcases hu with rfl | rfl <;> rfl
  · intro v' w' g1 g2 g3
    have hb : Below B w w' := ((Below.refl B w).alloc hB _).grown g2 (by simp; omega) fun k hk => (World.ownsRow.lt hown k hk).1
    refine h v' w' ?_ hb ?_
    · unfold OwnC
      rw [List.length_append, List.flatMap_append]
      simpa using g1
    · intro p cur e
      have hp : p < w.heap.size := (Array.getElem?_eq_some_iff.1 e).1
      have e1 : (w.alloc (.cells #[.int .i64 c, .int .i64 (cl c)] 180)).heap[p]? = w.heap[p]? := ((Below.refl w.heap.size w).alloc (Nat.le_refl _) _).block p hp
      rw [g2.block p (by simp; omega) ?_, e1, e]
      intro hpo
      rcases hown.2 with ⟨h1, _⟩ | ⟨g, cap, cur', h1, _, h3, _⟩
      · rw [h1] at hpo; cases hpo
      · rw [h1] at hpo
        have : p = g := by simpa [Value.ownBlock] using hpo
        subst this
        rw [e] at h3; simp at h3
end Go.Proofs.YtjhkfjbgdaomeaaGreatDoor
/- The walk of norm.Chars. -/
namespace Go.Proofs.YtjhkfjbgdaomeaaGreatDoor
set_option linter.unusedVariables false
open Go.RowKit
/-- Numbers that fit an int. -/
def IntOk (l : List Int) : Prop := ∀ c ∈ l, -9223372036854775808 ≤ c ∧ c ≤ 9223372036854775807
theorem apart_range {c : Int} (h : -9223372036854775808 ≤ c ∧ c ≤ 9223372036854775807) : IntOk (apartP c) := fun x hx => by
  unfold apartP at hx
  split at hx
  · have := split_parts c x hx; omega
  · split at hx
    · have := (vldB_iff x).1 ((map_facts c).1 x hx).2.2; omega
    · rw [List.mem_singleton.1 hx]; exact h
theorem NewRes.from {l : List Int} {w w1 w' : World} {e : Ending} (h : NewRes l w1 e w') (hb : Below w.heap.size w w1) : NewRes l w e w' := by
  obtain ⟨v, rfl, ho, hn, hb2⟩ := h
  exact ⟨v, rfl, ho.base hb.size, hn, hb.trans (hb2.mono hb.size)⟩
theorem getD_bang (l : List Int) (i : Nat) (h : i < l.length) : l.getD i 0 = l[i]! := by
  rw [getElem!_pos l i h, List.getD_eq_getElem?_getD, List.getElem?_eq_getElem h]; rfl
theorem OwnV.cellI {B : Nat} {w : World} {p m cap : Nat} {l : List Int} (h : OwnV 3 B w (.slice (some ⟨p, 0, none⟩) m cap) (l.map (Value.int .i64))) (k : Nat) (hk : k < l.length) : w.cell? ⟨p, k, none⟩ = some (.int .i64 l[k]!) := by
  rcases RdI.cases (xs := l) h.rd with ⟨a, c, h1, h2⟩ | ⟨b, off, c, h1, h2, h3, h4, h5, h6⟩
  · subst h2; simp at hk
  · simp only [Value.slice.injEq, Option.some.injEq, Addr.mk.injEq, and_true] at h1
    obtain ⟨⟨rfl, rfl⟩, -, -⟩ := h1
    have := h6 k hk
    rwa [Nat.zero_add, getD_bang l k hk] at this
/-- A slice that reads as l, to be walked. -/
theorem RdI.walk {w : World} {v : Value} {l : List Int} (h : RdI w v l) : ∃ a n cap, v = .slice a n cap ∧ n = l.length ∧ ∀ i, i < l.length → ∃ g off, a = some ⟨g, off, none⟩ ∧ g < w.heap.size ∧ w.cell? ⟨g, off + i, none⟩ = some (.int .i64 l[i]!) := by
  rcases h.cases with ⟨a, cap, rfl, rfl⟩ | ⟨b, off, cap, rfl, h2, h3, h4, h5, h6⟩
  · exact ⟨a, 0, cap, rfl, rfl, fun i hi => by simp at hi⟩
  · exact ⟨_, _, cap, rfl, rfl, fun i hi => ⟨b, off, rfl, h5, by rw [h6 i hi, getD_bang l i hi]⟩⟩
theorem flat_take (l : List Int) (i : Nat) (h : i < l.length) : (l.take (i + 1)).flatMap apartP = (l.take i).flatMap apartP ++ apartP l[i]! := by
  rw [take_at h, List.flatMap_append]; simp
theorem flat_le (l : List Int) (i : Nat) (h : i < l.length) : ((l.take i).flatMap apartP).length + (apartP l[i]!).length ≤ (l.flatMap apartP).length := by
  have e : l.flatMap apartP = (l.take (i + 1)).flatMap apartP ++ (l.drop (i + 1)).flatMap apartP := by rw [← List.flatMap_append, List.take_append_drop]
  rw [e, flat_take l i h, List.length_append, List.length_append]; omega
set_option maxHeartbeats 4000000 in
set_option maxRecDepth 100000 in
theorem chars_any (w : World) (v : Value) (l : List Int) (hv : RdI w v l) (hr : IntOk l) (hE : ErrAt w) (hSp : SpAt w) (hl : (l.flatMap apartP).length ≤ 100000) (hl2 : l.length ≤ 100000) :
    Calls Tryz.prog 125 #[v] w (NewRes (charsP l) w) := by
  obtain ⟨a, n, cap, rfl, hn, hc⟩ := hv.walk
  have HC := Lib.hid hc
  have HN : Hid (n = l.length) := hn
  have HR := Lib.hid hr
  have HES : Hid (∀ w', Below w.heap.size w w' → ErrAt w' ∧ SpAt w') := Lib.hid fun w' hb => ⟨hE.below hb, hSp.below hb hSp.1⟩
  have HL : Hid ((l.flatMap apartP).length ≤ 100000) := Lib.hid hl
  have hn1 : n ≤ 100000 := by omega
  clear hc hn hv hr hE hSp hl hl2
  go_enter Tryz.func125, Tryz.ntmps125
  go_wp2
  go_loopw [3, 10] (fun cv vi wr => ∃ (i : Nat), vi = .int .i64 i ∧ i ≤ n ∧ Hid (OwnC classP w.heap.size wr cv ((l.take i).flatMap apartP)) ∧ Below w.heap.size w wr) (fun _ vi _ => n - (intOf vi).toNat)
  case atStart => exact ⟨0, rfl, by omega, (show Hid _ from ⟨rfl, .inl ⟨rfl, rfl⟩⟩), Below.refl _ _⟩
  case round =>
    obtain ⟨i, rfl, hi, HO, hbel⟩ := hrel
    have hwr := hbel.size
    by_cases hlt : i < n
    · have hz : (i : Int) < (n : Int) := by omega
      have hil : i < l.length := by have := HN.out; omega
      obtain ⟨g, off, rfl, hg, c1⟩ := HC.out i hil
      have d1 : wr.cell? ⟨g, off + i, none⟩ = some (.int .i64 l[i]!) := (hbel.cell hg).trans c1
      clear c1
      have hrc := HR.out l[i]! (by rw [getElem!_pos l i hil]; exact List.getElem_mem hil)
      have hfl := Lib.hid (flat_le l i hil)
      have hft := Lib.hid (flat_take l i hil)
      have HIL := Lib.hid hil
      clear hil
      obtain ⟨c, hc⟩ : ∃ c, l[i]! = c := ⟨_, rfl⟩
      rw [hc] at d1 hrc hfl hft
      have HRP : Hid (IntOk (apartP c)) := Lib.hid (apart_range hrc)
      have HA : Hid (∀ w, ErrAt w → SpAt w → Calls Tryz.prog 137 #[.int .i64 c] w (NewRes (apartP c) w)) := Lib.hid fun w h1 h2 => apart_any c hrc.1 hrc.2 w h1 h2
      have HNE := Lib.hid (apart_len c)
      have HBL := Lib.hid hbel
      clear hc hrc
      generalize apartP c = parts at *
      go_wp2_with fail
      refine (HA.out _ (HES.out _ HBL.out).1 (HES.out _ HBL.out).2).mono ?_
      rintro e w2 ⟨v15, rfl, ho, hnil, hb2⟩
      obtain ⟨p, cap2, rfl, -⟩ : ∃ p cap2, v15 = .slice (some ⟨p, 0, none⟩) (parts.map (Value.int .i64)).length cap2 ∧ True := by
        rcases ho.nilOr with ⟨rfl, h⟩ | ⟨p, cap2, h, _⟩
        · exact absurd (by simpa using h) HNE.out.2
        · exact ⟨p, cap2, h, trivial⟩
      obtain ⟨m, hm⟩ : ∃ m, (parts.map (Value.int .i64)).length = m := ⟨_, rfl⟩
      rw [hm]
      rw [hm] at ho
      have HM : Hid (parts.length = m) := by show _ = _; rw [← hm]; simp
      have hm10 : m ≤ 10 := by have := HNE.out.1; have := HM.out; omega
      obtain ⟨Bp, hBp⟩ : ∃ b, wr.heap.size = b := ⟨_, rfl⟩
      rw [hBp] at ho
      have HP2 : Hid (OwnV 3 Bp w2 (.slice (some ⟨p, 0, none⟩) m cap2) (parts.map (Value.int .i64))) := Lib.hid ho
      have HO2 : Hid (OwnC classP w.heap.size w2 u3 ((l.take i).flatMap apartP)) := Lib.hid (HO.out.below hb2)
      have hbel2 : Below w.heap.size w w2 := hbel.trans (hb2.mono hwr)
      obtain ⟨X, hX⟩ : ∃ X, (l.take i).flatMap apartP = X := ⟨_, rfl⟩
      rw [hX] at HO2 hfl hft
      clear hX hm ho hnil hb2 HO hbel HA d1 hBp
      go_wp2
      go_loopw [3, 17] (fun cv vk wr2 => ∃ (k : Nat), vk = .int .i64 k ∧ k ≤ m ∧ Hid (OwnC classP w.heap.size wr2 cv (X ++ parts.take k)) ∧ Below w.heap.size w wr2 ∧ Hid (OwnV 3 Bp wr2 (.slice (some ⟨p, 0, none⟩) m cap2) (parts.map (Value.int .i64)))) (fun _ vk _ => m - (intOf vk).toNat)
      case atStart => exact ⟨0, rfl, by omega, (show Hid _ from by show OwnC _ _ _ _ _; simpa using HO2.out), hbel2, HP2⟩
      case round =>
        clear HO2 HP2 hbel2
        obtain ⟨k, rfl, hk, HO, hbel, HP⟩ := hrel
        by_cases hkm : k < m
        · have hz2 : (k : Int) < (m : Int) := by omega
          have hkl : k < parts.length := by have := HM.out; omega
          have d2 := HP.out.cellI k hkl
          have hrc := HRP.out parts[k]! (by rw [getElem!_pos parts k hkl]; exact List.getElem_mem hkl)
          have HT := Lib.hid (take_at hkl)
          obtain ⟨c', hc'⟩ : ∃ c, parts[k]! = c := ⟨_, rfl⟩
          rw [hc'] at d2 hrc HT
          have HK : Hid (∀ w, ErrAt w → Calls Tryz.prog 138 #[.int .i64 c'] w (IntRes (classP c') w)) := Lib.hid fun w h => class_any c' hrc.1 hrc.2 w h
          have HBL2 := Lib.hid hbel
          clear hc' hrc hkl
          go_wp2_with fail
          refine (HK.out _ (HES.out _ HBL2.out).1).mono ?_
          rintro e w3 ⟨rfl, hb3⟩
          have hw3 : w.heap.size ≤ w3.heap.size := Nat.le_trans hbel.size hb3.size
          have HO3 : Hid (OwnC classP w.heap.size w3 u3 (X ++ parts.take k)) := Lib.hid (HO.out.below hb3)
          have HP3 : Hid (OwnV 3 Bp w3 (.slice (some ⟨p, 0, none⟩) m cap2) (parts.map (Value.int .i64))) := Lib.hid (HP.out.keepI (KeepI.below hb3))
          have HB3 : Hid (Below w.heap.size w w3) := Lib.hid (hbel.trans (hb3.mono hbel.size))
          have HLN : Hid ((X ++ parts.take k).length ≤ 1000000) := Lib.hid (by rw [List.length_append, List.length_take]; have := hfl.out; have := HL.out; omega)
          clear HO HP hbel hb3 HK d2
          go_wp2_with (at_builtin; refine wp_appC _ _ (by rfl) (by rfl) (by rfl) HO3.out c' (by rfl) HLN.out hw3 ?_)
          intro v' w4 hown4 hbel4 hkeep4
          have HO4 : Hid (OwnC classP w.heap.size w4 v' (X ++ parts.take (k + 1))) := Lib.hid (by rw [HT.out]; simpa using hown4)
          have HB4 : Below w.heap.size w w4 := HB3.out.trans hbel4
          have HP4 : Hid (OwnV 3 Bp w4 (.slice (some ⟨p, 0, none⟩) m cap2) (parts.map (Value.int .i64))) := Lib.hid (HP3.out.keepI hkeep4)
          clear hown4 hkeep4 hbel4
          go_wp2
          go_roundw
          case rel => exact ⟨k + 1, by go_num, by omega, HO4, HB4, HP4⟩
          case measure => simp only [intOf]; omega
        · have hz2 : ¬ (k : Int) < (m : Int) := by omega
          have HO5 : Hid (OwnC classP w.heap.size wr u3 ((l.take (i + 1)).flatMap apartP)) := Lib.hid (by
            rw [hft.out]
            have := HO.out
            rwa [List.take_of_length_le (by have := HM.out; omega)] at this)
          clear HO HP
          go_wp2
          go_roundw
          case rel => exact ⟨i + 1, by go_num, by omega, HO5, hbel⟩
          case measure => simp only [intOf]; omega
    · have hz : ¬ (i : Int) < (n : Int) := by omega
      have HO2 : Hid (OwnC classP w.heap.size wr u3 (l.flatMap apartP)) := Lib.hid (by
        have := HO.out
        rwa [List.take_of_length_le (by have := HN.out; omega)] at this)
      have HQ := Lib.hid (order_any w.heap.size wr u3 _ HO2.out HL.out)
      clear HO
      go_wp2_with fail
      refine HQ.out.mono ?_
      rintro e w2 ⟨rfl, ho, hb2⟩
      have HNum := Lib.hid (numbers_any w.heap.size w2 u3 _ ho (by rw [orderP_len]; exact HL.out))
      have hb := hbel.trans hb2
      clear ho hb2 hbel HQ HO2
      go_wp2_with fail
      refine HNum.out.mono ?_
      intro e w3 hres
      have := hres.from hb
      obtain ⟨v', rfl, h1, h2, h3⟩ := this
      have HF : Hid (NewRes (charsP l) w (.returned v') w3) := Lib.hid ⟨v', rfl, h1, h2, h3⟩
      clear h1 h2 h3 hres hb
      go_wp2_with fail
      go_ret
      exact HF.out
end Go.Proofs.YtjhkfjbgdaomeaaGreatDoor
/- Slices of ints of the call's own, apart from one another: append, exchange. -/
namespace Go.Proofs.YtjhkfjbgdaomeaaGreatDoor
set_option linter.unusedVariables false
open Go.RowKit
/-- They lie in blocks of their own. -/
def Dj (u v : Value) : Prop := u.ownBlock = none ∨ u.ownBlock ≠ v.ownBlock
theorem Dj.symm {u v : Value} (h : Dj u v) : Dj v u := by
  unfold Dj at *
  rcases h with h | h
  · cases hv : v.ownBlock with
    | none => exact .inl rfl
    | some g => rw [h]; exact .inr (by simp)
  · exact .inr fun e => h e.symm
abbrev OwnI (B : Nat) (w : World) (v : Value) (L : List Int) : Prop := OwnV 3 B w v (L.map (Value.int .i64))
theorem OwnI.lt {B : Nat} {w : World} {v : Value} {L : List Int} (h : OwnI B w v L) : ∀ k, v.ownBlock = some k → B ≤ k ∧ k < w.heap.size := World.ownsRow.lt h
/-- What an append leaves. -/
structure Grew (B : Nat) (w w' : World) (v v' : Value) : Prop where
  below : Below B w w'
  kept : ∀ (B' : Nat) (u : Value) (us : List Int), OwnI B' w u us → Dj v u → OwnI B' w' u us
  apart : ∀ (B' : Nat) (u : Value) (us : List Int), OwnI B' w u us → Dj v u → Dj v' u
  some' : v' ≠ .slice none 0 0
theorem wp_appI {ops : Array Oper} {rest : List Oper} {o : Oper} {a : Act} {Q : Exit → Act → World → Prop}
    (s x : Operand) (ho : o.op = .call { callee := .builtin .append, args := #[s, x], argTypes := #[44, 44] }) (hgd : o.guard = none)
    {B : Nat} {w : World} {v : Value} {L : List Int} (hs : a.eval s = v) (hown : OwnI B w v L) (c : Int) (hx : a.eval x = .slice (some ⟨w.heap.size, 0, none⟩) 1 1)
    (hlen : L.length ≤ 1000000) (hB : B ≤ w.heap.size)
    (h : ∀ v' w', OwnI B w' v' (L ++ [c]) → Grew B w w' v v' → wpList Tryz.prog ops Q rest (a.put o.dst v') w') : wpList Tryz.prog ops Q (o :: rest) a (w.alloc (.cells #[.int .i64 c] 3)) := by
  obtain ⟨f1, f2, f3⟩ := elem_int
  obtain ⟨i0, hi, hz0, hz1, hz2⟩ := info_parts f2
  have hown2 : (w.alloc (.cells #[.int .i64 c] 3)).ownsRow B 3 1 v (L.map (Value.int .i64)).length (L.map (Value.int .i64)) := World.ownsRow.alloc hown _
  refine wpList_append_own_at _ hgd s x 44 ho B 3 i0 _ 1 8 f1 hi hz0 hz1 hz2 f3 (by decide) v _ _ hs hown2 ⟨w.heap.size, 0, none⟩ 1 1 [.int .i64 c] hx rfl ?_ ?_ (by simp only [maxLen, List.length_map]; omega) (by rw [List.length_map]; omega) (by simp; omega) ?_
  · intro j u hj
    have e : (⟨w.heap.size, 0, none⟩ : Addr).add j = ⟨w.heap.size, j, none⟩ := by unfold Addr.add; split <;> simp_all
    rw [e]
    unfold World.cell?
    rw [heap_alloc_new]
    simpa using hj
  · intro u hu
    rw [List.mem_singleton.1 hu]; rfl
  · intro v' w' g1 g2 g3 g4
    have hlt := OwnI.lt hown
    have hsz : (w.alloc (.cells #[.int .i64 c] 3)).heap.size = w.heap.size + 1 := by simp
    have hb : Below B w w' := ((Below.refl B w).alloc hB _).grown g2 (by rw [hsz]; omega) fun k hk => (hlt k hk).1
    refine h v' w' ?_ ⟨hb, ?_, ?_, fun e => by have := (g3.1 e).2; omega⟩
    · show OwnV _ _ _ _ _
      rw [List.map_append]
      unfold OwnV
      rw [List.length_append]
      exact g1
    · intro B' u us hu hd
      have hu2 : (w.alloc (.cells #[.int .i64 c] 3)).ownsRow B' 3 1 u (us.map (Value.int .i64)).length (us.map (Value.int .i64)) := World.ownsRow.alloc hu _
      exact World.ownsRow.kept hu2 g2 hd.symm
    · intro B' u us hu hd
      rcases g4 with g4 | g4
      · unfold Dj; rw [g4]; exact hd
      · refine .inr ?_
        rw [g4, hsz]
        intro e
        have := (OwnI.lt hu _ e.symm).2
        omega
theorem stored_other {B : Nat} {w : World} {v : Value} {L : List Int} (h : OwnI B w v L) (g j : Nat) (u : Value) (hne : v.ownBlock ≠ some g) : OwnI B (w.setCell ⟨g, j, none⟩ u) v L := by
  refine World.ownsRow.kept h (row := some g) ⟨rfl, rfl, rfl, by simp, fun k _ hk => heap_setCell_other w ⟨g, j, none⟩ k u (fun e => hk (by simp [e]))⟩ (.inr hne)
theorem stored_own {B : Nat} {w : World} {g n cap : Nat} {L : List Int} (h : OwnI B w (.slice (some ⟨g, 0, none⟩) n cap) L) (j : Nat) (c : Int) : OwnI B (w.setCell ⟨g, j, none⟩ (.int .i64 c)) (.slice (some ⟨g, 0, none⟩) n cap) (L.set j c) := by
  have hn : n = (L.map (Value.int .i64)).length := by
    rcases h.2 with ⟨e, _⟩ | ⟨_, _, _, e, _⟩
    · simp at e
    · simp at e; simp [e.2.1]
  subst hn
  have := (World.ownsRow.stored h j (.int .i64 c)).1
  show World.ownsRow _ _ _ _ _ _ _
  rw [List.map_set, List.length_set]
  exact this
/-- The exchange of two neighbours in two slices. -/
theorem two_swap {B Bp : Nat} {w0 W : World} {g1 n1 c1 g2 n2 c2 : Nat} {v6 : Value} {L R KL KR parts : List Int} {x y kx ky : Int} {q : Nat} (hq : L.length = q) (hq2 : KL.length = q) (hne : g1 ≠ g2) (hB1 : B ≤ g1) (hB2 : B ≤ g2)
    (h1 : OwnI B W (.slice (some ⟨g1, 0, none⟩) n1 c1) (L ++ y :: x :: R)) (h2 : OwnI B W (.slice (some ⟨g2, 0, none⟩) n2 c2) (KL ++ ky :: kx :: KR)) (h6 : OwnI Bp W v6 parts) (hd1 : v6.ownBlock ≠ some g1) (hd2 : v6.ownBlock ≠ some g2) (hb : Below B w0 W)
    (W' : World) (hW : W' = (((W.setCell ⟨g1, q, none⟩ (.int .i64 x)).setCell ⟨g2, q, none⟩ (.int .i64 kx)).setCell ⟨g1, q + 1, none⟩ (.int .i64 y)).setCell ⟨g2, q + 1, none⟩ (.int .i64 ky)) :
    OwnI B W' (.slice (some ⟨g1, 0, none⟩) n1 c1) (L ++ x :: y :: R) ∧ OwnI B W' (.slice (some ⟨g2, 0, none⟩) n2 c2) (KL ++ kx :: ky :: KR) ∧ OwnI Bp W' v6 parts ∧ Below B w0 W' := by
  subst hW
  have set2 : ∀ (L R : List Int) (x y : Int), L.length = q → ((L ++ y :: x :: R).set q x).set (q + 1) y = L ++ x :: y :: R := fun L R x y h => by
    subst h; simp
  refine ⟨?_, ?_, ?_, ?_⟩
  · have := stored_other (stored_own (stored_other (stored_own h1 q x) g2 q (.int .i64 kx) (by simpa [Value.ownBlock] using hne)) (q + 1) y) g2 (q + 1) (.int .i64 ky) (by simpa [Value.ownBlock] using hne)
    rwa [set2 L R x y hq] at this
  · have := stored_own (stored_other (stored_own (stored_other h2 g1 q (.int .i64 x) (by simpa [Value.ownBlock] using Ne.symm hne)) q kx) g1 (q + 1) (.int .i64 y) (by simpa [Value.ownBlock] using Ne.symm hne)) (q + 1) ky
    rwa [set2 KL KR kx ky hq2] at this
  · exact stored_other (stored_other (stored_other (stored_other h6 g1 q _ hd1) g2 q _ hd2) g1 (q + 1) _ hd1) g2 (q + 1) _ hd2
  · exact (((hb.setCell (p := ⟨g1, q, none⟩) hB1 _).setCell (p := ⟨g2, q, none⟩) hB2 _).setCell (p := ⟨g1, q + 1, none⟩) hB1 _).setCell (p := ⟨g2, q + 1, none⟩) hB2 _
end Go.Proofs.YtjhkfjbgdaomeaaGreatDoor
/- The walk of the reference's Chars. -/
namespace Go.Proofs.YtjhkfjbgdaomeaaGreatDoor
set_option linter.unusedVariables false
open Go.RowKit
/-- Where the reference stands: what it has put in order, with the classes. -/
def RSt (w0 wr : World) (o c : Value) (D : List Int) : Prop :=
  OwnI w0.heap.size wr o D ∧ OwnI w0.heap.size wr c (D.map classP) ∧ Dj o c ∧ (D = [] → o = .slice none 0 0) ∧ Below w0.heap.size w0 wr
theorem RSt.below {w0 wr w' : World} {o c : Value} {D : List Int} (h : RSt w0 wr o c D) (hb : Below wr.heap.size wr w') : RSt w0 w' o c D :=
  ⟨h.1.below hb, h.2.1.below hb, h.2.2.1, h.2.2.2.1, h.2.2.2.2.trans (hb.mono h.2.2.2.2.size)⟩
/-- Two slices of the call's own that are not empty, the third beside them. -/
def Two (B Bp : Nat) (w0 wr : World) (g1 n1 c1 g2 n2 c2 : Nat) (v6 : Value) (D parts : List Int) (x : Int) (j : Nat) : Prop :=
  OwnI B wr (.slice (some ⟨g1, 0, none⟩) n1 c1) (D.take j ++ x :: D.drop j) ∧ OwnI B wr (.slice (some ⟨g2, 0, none⟩) n2 c2) ((D.take j ++ x :: D.drop j).map classP) ∧ OwnI Bp wr v6 parts ∧ Below B w0 wr
theorem Two.drewN {B Bp : Nat} {w0 wr : World} {g1 n1 c1 g2 n2 c2 : Nat} {v6 : Value} {D parts : List Int} {x : Int} {j : Nat} (h : Two B Bp w0 wr g1 n1 c1 g2 n2 c2 v6 D parts x j) (q : Nat) : Two B Bp w0 (wr.drewN q) g1 n1 c1 g2 n2 c2 v6 D parts x j :=
  ⟨h.1, h.2.1, h.2.2.1, h.2.2.2.trans ((DrN.refl wr).more q |>.below B)⟩
theorem Two.swap {B Bp : Nat} {w0 wr : World} {g1 n1 c1 g2 n2 c2 : Nat} {v6 : Value} {D parts : List Int} {x : Int} {q : Nat} (h : Two B Bp w0 wr g1 n1 c1 g2 n2 c2 v6 D parts x (q + 1)) (hq : q < D.length) (hne : g1 ≠ g2) (hB1 : B ≤ g1) (hB2 : B ≤ g2) (hd1 : v6.ownBlock ≠ some g1) (hd2 : v6.ownBlock ≠ some g2) :
    Two B Bp w0 ((((wr.setCell ⟨g1, q, none⟩ (.int .i64 x)).setCell ⟨g2, q, none⟩ (.int .i64 (classP x))).setCell ⟨g1, q + 1, none⟩ (.int .i64 D[q]!)).setCell ⟨g2, q + 1, none⟩ (.int .i64 (classP D[q]!))) g1 n1 c1 g2 n2 c2 v6 D parts x q := by
  obtain ⟨h1, h2, h3, h4⟩ := h
  have e : D.take (q + 1) ++ x :: D.drop (q + 1) = D.take q ++ D[q]! :: x :: D.drop (q + 1) := by rw [take_at hq]; simp
  rw [e] at h1 h2
  rw [List.map_append, List.map_cons, List.map_cons] at h2
  have t1 : (D.take q).length = q := by rw [List.length_take]; omega
  have t2 : ((D.take q).map classP).length = q := by rw [List.length_map]; exact t1
  obtain ⟨kx, hkx⟩ : ∃ k, classP x = k := ⟨_, rfl⟩
  obtain ⟨ky, hky⟩ : ∃ k, classP D[q]! = k := ⟨_, rfl⟩
  rw [hkx, hky] at h2
  rw [hkx, hky]
  obtain ⟨k1, k2, k3, k4⟩ := two_swap (L := D.take q) (R := D.drop (q + 1)) (KL := (D.take q).map classP) (KR := (D.drop (q + 1)).map classP) (x := x) (y := D[q]!) (kx := kx) (ky := ky) t1 t2 hne hB1 hB2 h1 h2 h3 hd1 hd2 h4 _ rfl
  have e2 : D.take q ++ x :: D.drop q = D.take q ++ x :: D[q]! :: D.drop (q + 1) := by rw [drop_at hq]
  refine ⟨by rw [e2]; exact k1, ?_, k3, k4⟩
  rw [e2, List.map_append, List.map_cons, List.map_cons, hkx, hky]
  exact k2
theorem Two.cells {B Bp : Nat} {w0 wr : World} {g1 n1 c1 g2 n2 c2 : Nat} {v6 : Value} {D parts : List Int} {x : Int} {j : Nat} (h : Two B Bp w0 wr g1 n1 c1 g2 n2 c2 v6 D parts x j) (hj : j ≤ D.length) :
    wr.cell? ⟨g1, j, none⟩ = some (.int .i64 x) ∧ wr.cell? ⟨g2, j, none⟩ = some (.int .i64 (classP x)) ∧ ∀ q, j = q + 1 → wr.cell? ⟨g1, q, none⟩ = some (.int .i64 D[q]!) ∧ wr.cell? ⟨g2, q, none⟩ = some (.int .i64 (classP D[q]!)) := by
  obtain ⟨h1, h2, -, -⟩ := h
  have lt : (D.take j).length = j := by rw [List.length_take]; omega
  have gx : (D.take j ++ x :: D.drop j)[j]! = x := by
    rw [getElem!_pos _ j (by simp; omega), List.getElem_append_right (by omega)]; simp [lt]
  have gm : ∀ i, i < (D.take j ++ x :: D.drop j).length → ((D.take j ++ x :: D.drop j).map classP)[i]! = classP (D.take j ++ x :: D.drop j)[i]! := fun i hi => by
    rw [getElem!_pos _ i (by simpa using hi), getElem!_pos _ i hi, List.getElem_map]
  have hl : j < (D.take j ++ x :: D.drop j).length := by simp; omega
  refine ⟨by rw [h1.cellI j hl, gx], by rw [h2.cellI j (by simpa using hl), gm j hl, gx], fun q hq => ?_⟩
  subst hq
  have gq : (D.take (q + 1) ++ x :: D.drop (q + 1))[q]! = D[q]! := by
    rw [getElem!_pos _ q (by simp; omega), List.getElem_append_left (by omega), getElem!_pos D q (by omega)]; simp
  exact ⟨by rw [h1.cellI q (by omega), gq], by rw [h2.cellI q (by simp; omega), gm q (by omega), gq]⟩
theorem Two.frozen {B Bp : Nat} {w0 wr : World} {g1 n1 c1 g2 n2 c2 : Nat} {v6 : Value} {D parts : List Int} {x : Int} {j : Nat} (h : Two B Bp w0 wr g1 n1 c1 g2 n2 c2 v6 D parts x j) (i : Nat) : wr.frozen? ⟨g1, i, none⟩ = false ∧ wr.frozen? ⟨g2, i, none⟩ = false := by
  obtain ⟨h1, h2, -, -⟩ := h
  have fr : ∀ {g n c : Nat} {L : List Int}, OwnI B wr (.slice (some ⟨g, 0, none⟩) n c) L → wr.frozen? ⟨g, i, none⟩ = false := fun {g n c L} h => by
    have hn : n = (L.map (Value.int .i64)).length := by
      rcases h.2 with ⟨e, _⟩ | ⟨_, _, _, e, _⟩
      · simp at e
      · simp at e; simp [e.2.1]
    subst hn
    exact World.ownsRow.frozenAt h i
  exact ⟨fr h1, fr h2⟩
/-- x has come to its place. -/
theorem Two.done {B Bp : Nat} {w0 wr : World} {g1 n1 c1 g2 n2 c2 : Nat} {v6 : Value} {D parts : List Int} {x : Int} {j : Nat} (h : Two B Bp w0 wr g1 n1 c1 g2 n2 c2 v6 D parts x j) (hB : B = w0.heap.size) (hj : j ≤ D.length) (hne : g1 ≠ g2) (hi : ins classP D x = ins classP (D.take j) x ++ D.drop j)
    (hs : j = 0 ∨ ¬ (0 < classP x ∧ classP x < classP D[j - 1]!)) : RSt w0 wr (.slice (some ⟨g1, 0, none⟩) n1 c1) (.slice (some ⟨g2, 0, none⟩) n2 c2) (ins classP D x) ∧ OwnI Bp wr v6 parts := by
  obtain ⟨h1, h2, h3, h4⟩ := h
  have e : ins classP D x = D.take j ++ x :: D.drop j := by
    rw [hi]
    rcases hs with rfl | hs
    · simp [ins_nil]
    · rcases Nat.eq_zero_or_pos j with rfl | hp
      · simp [ins_nil]
      · obtain ⟨q, rfl⟩ : ∃ q, j = q + 1 := ⟨j - 1, by omega⟩
        rw [take_at (show q < D.length by omega), ins_stay (by simpa using hs)]; simp
  subst hB
  rw [e]
  exact ⟨⟨h1, h2, .inr (by simpa [Value.ownBlock] using hne), fun h => by simp at h, h4⟩, h3⟩
theorem own_some {B : Nat} {w : World} {v : Value} {L : List Int} (h : OwnI B w v L) (hL : L ≠ []) : ∃ g cap, v = .slice (some ⟨g, 0, none⟩) L.length cap ∧ B ≤ g ∧ L.length ≤ cap := by
  rcases h.nilOr with ⟨_, e⟩ | ⟨g, cap, e, h1, _, h2, _⟩
  · exact absurd (by simpa using e) hL
  · rw [List.length_map] at e h2; exact ⟨g, cap, e, h1, h2⟩
set_option maxHeartbeats 4000000 in
set_option maxRecDepth 200000 in
theorem rchars_any (w : World) (v : Value) (l : List Int) (hv : RdI w v l) (hr : IntOk l) (hl : (l.flatMap apartP).length ≤ 100000) (hl2 : l.length ≤ 100000) :
    Calls Tryz.prog 75 #[v] w (NewRes (charsP l) w) := by
  have mixed : Tryz.prog.follows .mixedOrders = true := by kernel_rfl
  obtain ⟨a, n, cap, rfl, hn, hc⟩ := hv.walk
  have HC := Lib.hid hc
  have HN : Hid (n = l.length) := hn
  have HR := Lib.hid hr
  have HL : Hid ((l.flatMap apartP).length ≤ 100000) := Lib.hid hl
  have hn1 : n ≤ 100000 := by omega
  clear hc hn hv hr hl hl2
  go_enter Tryz.func75, Tryz.ntmps75
  go_wp2
  go_loopg [3, 4, 5, 6, 7, 8, 9, 10] n (fun kk ov cv vi _ _ _ _ _ wr => ∃ (i : Nat), vi = .int .i64 i ∧ i ≤ n ∧ n - i ≤ kk ∧ Hid (RSt w wr ov cv (orderP classP ((l.take i).flatMap apartP))))
  case atStart => exact ⟨0, rfl, by omega, by omega, (show Hid _ from ⟨OwnV.nil _ _ _, OwnV.nil _ _ _, .inl rfl, fun _ => rfl, Below.refl _ _⟩)⟩
  case round =>
    obtain ⟨i, rfl, hi, hkk, HS⟩ := hrel
    by_cases hlt : i < n
    · have hz : (i : Int) < (n : Int) := by omega
      have hil : i < l.length := by have := HN.out; omega
      obtain ⟨g, off, rfl, hg, c1⟩ := HC.out i hil
      have d1 : wr.cell? ⟨g, off + i, none⟩ = some (.int .i64 l[i]!) := (HS.out.2.2.2.2.cell hg).trans c1
      clear c1
      have hrc := HR.out l[i]! (by rw [getElem!_pos l i hil]; exact List.getElem_mem hil)
      have hfl := Lib.hid (flat_le l i hil)
      have hft := Lib.hid (flat_take l i hil)
      have HIL := Lib.hid hil
      clear hil
      obtain ⟨c, hc⟩ : ∃ c, l[i]! = c := ⟨_, rfl⟩
      rw [hc] at d1 hrc hfl hft
      have HRP : Hid (IntOk (apartP c)) := Lib.hid (apart_range hrc)
      have HA : Hid (∀ w, Calls Tryz.prog 95 #[.int .i64 c] w (NewRes (apartP c) w)) := Lib.hid fun w => rapart_any c hrc.1 hrc.2 w
      have HNE := Lib.hid (apart_len c)
      clear hc hrc
      generalize apartP c = parts at *
      go_wp2_with fail
      refine (HA.out _).mono ?_
      rintro e w2 ⟨v6, rfl, ho, hnil, hb2⟩
      obtain ⟨p, cap2, rfl, hBp, -⟩ := own_some ho HNE.out.2
      obtain ⟨m, hm⟩ : ∃ m, parts.length = m := ⟨_, rfl⟩
      rw [hm]
      rw [hm] at ho
      have HM : Hid (parts.length = m) := hm
      have hm10 : m ≤ 10 := by have := HNE.out.1; omega
      obtain ⟨X, hX⟩ : ∃ X, (l.take i).flatMap apartP = X := ⟨_, rfl⟩
      rw [hX] at HS hfl hft
      have HDJ : Hid (u3.ownBlock ≠ some p ∧ u4.ownBlock ≠ some p) := by
        obtain ⟨s1, s2, _⟩ := HS.out
        exact ⟨fun e => by have := (s1.lt p e).2; omega, fun e => by have := (s2.lt p e).2; omega⟩
      obtain ⟨Bp, hBp'⟩ : ∃ b, wr.heap.size = b := ⟨_, rfl⟩
      rw [hBp'] at ho
      have HP2 : Hid (OwnI Bp w2 (.slice (some ⟨p, 0, none⟩) m cap2) parts ∧ RSt w w2 u3 u4 (orderP classP (X ++ parts.take 0)) ∧ u3.ownBlock ≠ some p ∧ u4.ownBlock ≠ some p) := ⟨ho, by rw [List.take_zero, List.append_nil]; exact HS.out.below hb2, HDJ.out⟩
      clear hX hm ho hnil hb2 HS HA d1 HDJ hBp hBp'
      go_wp2
      go_loopg [3, 4, 7, 8, 9, 10] m (fun kk ov cv vk _ _ _ wr2 => ∃ (k : Nat), vk = .int .i64 k ∧ k ≤ m ∧ m - k ≤ kk ∧ Hid (OwnI Bp wr2 (.slice (some ⟨p, 0, none⟩) m cap2) parts ∧ RSt w wr2 ov cv (orderP classP (X ++ parts.take k)) ∧ ov.ownBlock ≠ some p ∧ cv.ownBlock ≠ some p))
      case atStart => exact ⟨0, rfl, by omega, by omega, HP2⟩
      case round =>
        clear HP2
        obtain ⟨k, rfl, hk, hkk2, HP⟩ := hrel
        by_cases hkm : k < m
        · have hz2 : (k : Int) < (m : Int) := by omega
          have hkl : k < parts.length := by have := HM.out; omega
          have d2 := HP.out.1.cellI k hkl
          have hrc := HRP.out parts[k]! (by rw [getElem!_pos parts k hkl]; exact List.getElem_mem hkl)
          have HT := Lib.hid (take_at hkl)
          obtain ⟨x, hc'⟩ : ∃ c, parts[k]! = c := ⟨_, rfl⟩
          have HXK : Hid (parts[k]! = x ∧ k < parts.length) := ⟨hc', hkl⟩
          rw [hc'] at d2 hrc HT
          have HK : Hid (∀ w, Calls Tryz.prog 96 #[.int .i64 x] w (IntRes (classP x) w)) := Lib.hid fun w => rclass_any x hrc.1 hrc.2 w
          obtain ⟨D, hD⟩ : ∃ D, orderP classP (X ++ parts.take k) = D := ⟨_, rfl⟩
          have HDD : Hid (orderP classP (X ++ parts.take (k + 1)) = ins classP D x) := Lib.hid (by rw [HT.out, ← List.append_assoc, orderP_snoc, hD])
          have HDL : Hid (D.length ≤ 100000) := Lib.hid (by rw [← hD, orderP_len, List.length_append, List.length_take]; have := hfl.out; have := HL.out; have := HM.out; omega)
          rw [hD] at HP
          clear hc' hrc hkl hD HT
          have hBw : w.heap.size ≤ wr.heap.size := HP.out.2.1.2.2.2.2.size
          go_wp2_with (at_builtin; refine wp_appI _ _ (by rfl) (by rfl) (by rfl) HP.out.2.1.1 x (by rfl) (by have := HDL.out; omega) hBw ?_)
          intro o' w4 hown4 G1
          have HP4 : Hid (OwnI w.heap.size w4 o' (D ++ [x]) ∧ OwnI w.heap.size w4 u4 (D.map classP) ∧ OwnI Bp w4 (.slice (some ⟨p, 0, none⟩) m cap2) parts ∧ Dj o' u4 ∧ o'.ownBlock ≠ some p ∧ u4.ownBlock ≠ some p ∧ Below w.heap.size w w4) := by
            obtain ⟨p1, ⟨s1, s2, s3, s4, s5⟩, p2, p3⟩ := HP.out
            refine ⟨hown4, G1.kept _ _ _ s2 s3, G1.kept _ _ _ p1 (.inr (by simpa [Value.ownBlock] using p2)), G1.apart _ _ _ s2 s3, ?_, p3, s5.trans G1.below⟩
            rcases G1.apart _ _ _ p1 (.inr (by simpa [Value.ownBlock] using p2)) with h | h
            · rw [h]; simp
            · simpa [Value.ownBlock] using h
          have d4 := HP4.out.2.2.1.cellI k HXK.out.2
          rw [HXK.out.1] at d4
          clear hown4 G1 HP d2
          go_wp2_with fail
          refine (HK.out _).mono ?_
          rintro e w5 ⟨rfl, hb5⟩
          have HP5 : Hid (OwnI w.heap.size w5 o' (D ++ [x]) ∧ OwnI w.heap.size w5 u4 (D.map classP) ∧ OwnI Bp w5 (.slice (some ⟨p, 0, none⟩) m cap2) parts ∧ Dj o' u4 ∧ o'.ownBlock ≠ some p ∧ u4.ownBlock ≠ some p ∧ Below w.heap.size w w5) := by
            obtain ⟨p1, p2, p3, p4, p5, p6, p7⟩ := HP4.out
            exact ⟨p1.below hb5, p2.below hb5, p3.below hb5, p4, p5, p6, p7.trans (hb5.mono p7.size)⟩
          have hBw5 : w.heap.size ≤ w5.heap.size := HP5.out.2.2.2.2.2.2.size
          have HLK : Hid ((D.map classP).length ≤ 1000000) := Lib.hid (by rw [List.length_map]; have := HDL.out; omega)
          clear HP4 d4 hb5 HK
          go_wp2_with (at_builtin; refine wp_appI _ _ (by rfl) (by rfl) (by rfl) HP5.out.2.1 (classP x) (by rfl) HLK.out hBw5 ?_)
          intro c' w6 hown6 G2
          obtain ⟨p1, p2, p3, p4, p5, p6, p7⟩ := HP5.out
          have q1 := G2.kept _ _ _ p1 p4.symm
          have q3 := G2.kept _ _ _ p3 (.inr (by simpa [Value.ownBlock] using p6))
          have qd := G2.apart _ _ _ p1 p4.symm
          have qp : c'.ownBlock ≠ some p := by
            rcases G2.apart _ _ _ p3 (.inr (by simpa [Value.ownBlock] using p6)) with h | h
            · rw [h]; simp
            · simpa [Value.ownBlock] using h
          have qb := p7.trans G2.below
          obtain ⟨g1, cap1, rfl, hg1, hc1⟩ := own_some q1 (by simp)
          obtain ⟨g2, cap3, rfl, hg2, hc2⟩ := own_some hown6 (by simp)
          have hne : g1 ≠ g2 := by
            rcases qd with h | h
            · simp [Value.ownBlock] at h
            · intro e; subst e; simp [Value.ownBlock] at h
          have hp1 : (Value.slice (some ⟨p, 0, none⟩) m cap2).ownBlock ≠ some g1 := by
            intro e; simp [Value.ownBlock] at e; subst e; simp [Value.ownBlock] at p5
          have hp2 : (Value.slice (some ⟨p, 0, none⟩) m cap2).ownBlock ≠ some g2 := by
            intro e; simp [Value.ownBlock] at e; subst e; simp [Value.ownBlock] at qp
          have HG : Hid (g1 ≠ g2 ∧ w.heap.size ≤ g1 ∧ w.heap.size ≤ g2 ∧ (Value.slice (some ⟨p, 0, none⟩) m cap2).ownBlock ≠ some g1 ∧ (Value.slice (some ⟨p, 0, none⟩) m cap2).ownBlock ≠ some g2) := ⟨hne, hg1, hg2, hp1, hp2⟩
          have e1 : (D ++ [x]).length = D.length + 1 := by simp
          have e2 : (D.map classP ++ [classP x]).length = D.length + 1 := by simp
          rw [e1] at q1 hc1 ⊢
          rw [e2] at hown6 hc2 ⊢
          obtain ⟨dl, hdl⟩ : ∃ d, D.length = d := ⟨_, rfl⟩
          rw [hdl] at q1 hc1 hown6 hc2 ⊢
          have HDl : Hid (D.length = dl) := hdl
          have hdl1 : dl ≤ 100000 := by have := HDL.out; omega
          have HT6 : Hid (Two w.heap.size Bp w w6 g1 (dl + 1) cap1 g2 (dl + 1) cap3 (.slice (some ⟨p, 0, none⟩) m cap2) D parts x dl) := by
            refine ⟨?_, ?_, q3, qb⟩
            · rw [List.take_of_length_le (by omega), List.drop_of_length_le (by omega)]; exact q1
            · rw [List.take_of_length_le (by omega), List.drop_of_length_le (by omega), List.map_append]; exact hown6
          have HI6 : Hid (ins classP D x = ins classP (D.take dl) x ++ D.drop dl) := Lib.hid (by rw [List.take_of_length_le (by omega), List.drop_of_length_le (by omega)]; simp)
          obtain ⟨kx, hkx⟩ : ∃ k, classP x = k := ⟨_, rfl⟩
          have HKX : Hid (classP x = kx) := hkx
          rw [hkx]
          clear p1 p2 p3 p4 p5 p6 p7 q1 q3 qd qp qb hown6 G2 HP5 hne hp1 hp2 hg1 hg2 e1 e2 hdl hkx HLK
          go_wp2
          go_loopg [8, 9, 10] dl (fun kk vj _ _ wr => ∃ j : Nat, vj = .int .i64 j ∧ j ≤ dl ∧ j ≤ kk ∧ Hid (Two w.heap.size Bp w wr g1 (dl + 1) cap1 g2 (dl + 1) cap3 (.slice (some ⟨p, 0, none⟩) m cap2) D parts x j) ∧ Hid (ins classP D x = ins classP (D.take j) x ++ D.drop j))
          case atStart => exact ⟨dl, by go_num, Nat.le_refl _, Nat.le_refl _, HT6, HI6⟩
          case round =>
            clear HT6 HI6
            obtain ⟨j, rfl, hjd, hjk, HT, HI⟩ := hrel
            have fin : ∀ q, (j = 0 ∨ ¬ (0 < classP x ∧ classP x < classP D[j - 1]!)) → Hid (OwnI Bp (wr.drewN q) (.slice (some ⟨p, 0, none⟩) m cap2) parts ∧ RSt w (wr.drewN q) (.slice (some ⟨g1, 0, none⟩) (dl + 1) cap1) (.slice (some ⟨g2, 0, none⟩) (dl + 1) cap3) (orderP classP (X ++ parts.take (k + 1))) ∧ (Value.slice (some ⟨g1, 0, none⟩) (dl + 1) cap1).ownBlock ≠ some p ∧ (Value.slice (some ⟨g2, 0, none⟩) (dl + 1) cap3).ownBlock ≠ some p) := fun q hs => by
              obtain ⟨h1, h2⟩ := (HT.out.drewN q).done rfl (by have := HDl.out; omega) HG.out.1 HI.out hs
              refine ⟨h2, by rw [HDD.out]; exact h1, ?_, ?_⟩
              · have := HG.out.2.2.2.1; intro e; simp [Value.ownBlock] at e this; exact this e.symm
              · have := HG.out.2.2.2.2; intro e; simp [Value.ownBlock] at e this; exact this e.symm
            have FIN := Lib.hid fin
            clear fin
            obtain ⟨a1, a2, a3⟩ := HT.out.cells (by have := HDl.out; omega)
            rw [HKX.out] at a2
            by_cases hj0 : j = 0
            · subst hj0
              have hzj : ¬ (0 : Int) < ((0 : Nat) : Int) := by omega
              have F := FIN.out
              have FF := Lib.hid (fun q => (FIN.out q (.inl rfl)).out)
              clear FIN a3 F
              go_wp2_with fail
              go_quiet (fail)
              go_wp2
              go_roundg (m - (k + 1))
              case measure => omega
              case rel => exact ⟨k + 1, by go_num, by omega, Nat.le_refl _, Lib.hid (FF.out _)⟩
            · obtain ⟨q, rfl⟩ : ∃ q, j = q + 1 := ⟨j - 1, by omega⟩
              obtain ⟨b1, b2⟩ := a3 q rfl
              have hzj : (0 : Int) < ((q + 1 : Nat) : Int) := by omega
              have eq1 : ((q + 1 : Nat) : Int) - 1 = (q : Int) := by omega
              have eq2 : ((q + 1 : Nat) : Int) = (q : Int) + 1 := by omega
              have eq3 : (q : Int) + 1 - 1 = (q : Int) := by omega
              have wq : IntKind.i64.wrap (q : Int) = (q : Int) := by rw [IntKind.wrap_i64]; omega
              have bq1 : (q : Int) + 1 < (dl : Int) + 1 := by omega
              have bq2 : (q : Int) < (dl : Int) + 1 := by omega
              have tq : ((q : Int) + 1).toNat = q + 1 := by omega
              have HY : Hid (D[q + 1 - 1]! = D[q]!) := by show _ = _; rw [Nat.add_sub_cancel]
              obtain ⟨y, hy⟩ : ∃ y, D[q]! = y := ⟨_, rfl⟩
              obtain ⟨ky, hky⟩ : ∃ k, classP y = k := ⟨_, rfl⟩
              rw [hy] at b1 b2
              rw [hky] at b2
              have HYY : Hid (D[q]! = y ∧ classP y = ky) := ⟨hy, hky⟩
              clear hy hky a3
              by_cases hpx : 0 < kx
              · have hpd : decide (0 < kx) = true := decide_eq_true hpx
                by_cases hlt2 : kx < ky
                · have hld : decide (kx < ky) = true := decide_eq_true hlt2
                  clear FIN HY
                  go_wp2_with fail
                  go_quiet (fail)
                  have HT2 := Lib.hid (HT.out.drewN nq)
                  clear a1 a2 b1 b2 HT
                  generalize wr.drewN nq = w7 at HT2 ⊢
                  obtain ⟨a1, a2, a3⟩ := HT2.out.cells (by have := HDl.out; omega)
                  obtain ⟨b1, b2⟩ := a3 q rfl
                  rw [HKX.out] at a2
                  rw [HYY.out.1] at b1 b2
                  rw [HYY.out.2] at b2
                  clear a3 nq
                  go_wp2_with fail
                  go_quiet (fail)
                  have HT3 := Lib.hid (HT2.out.drewN nq)
                  clear a1 a2 b1 b2 HT2
                  generalize w7.drewN nq = w8 at HT3 ⊢
                  clear w7 nq
                  obtain ⟨a1, a2, a3⟩ := HT3.out.cells (by have := HDl.out; omega)
                  obtain ⟨b1, b2⟩ := a3 q rfl
                  rw [HKX.out] at a2
                  rw [HYY.out.1] at b1 b2
                  rw [HYY.out.2] at b2
                  obtain ⟨f1, f2⟩ := HT3.out.frozen q
                  obtain ⟨f3, f4⟩ := HT3.out.frozen (q + 1)
                  have n1 : ¬ g1 = g2 := HG.out.1
                  have n2 : ¬ g2 = g1 := fun h => HG.out.1 h.symm
                  have HT4 := Lib.hid (HT3.out.swap (by have := HDl.out; omega) HG.out.1 HG.out.2.1 HG.out.2.2.1 HG.out.2.2.2.1 HG.out.2.2.2.2)
                  rw [HYY.out.1, HYY.out.2, HKX.out] at HT4
                  have HI4 : Hid (ins classP D x = ins classP (D.take q) x ++ D.drop q) := Lib.hid (by
                    rw [HI.out, take_at (show q < D.length by have := HDl.out; omega), ins_pass (by rw [HKX.out]; exact hpx) (by rw [HYY.out.1, HYY.out.2, HKX.out]; exact hlt2), drop_at (A := D) (i := q) (by have := HDl.out; omega)]
                    simp)
                  clear HT3 HI a3
                  go_wp2
                  go_roundg q
                  case measure => omega
                  case rel => exact ⟨q, by go_num, by omega, Nat.le_refl _, HT4, HI4⟩
                · have hld : decide (kx < ky) = false := decide_eq_false hlt2
                  have FF := Lib.hid (fun q' => (FIN.out q' (.inr (by rw [HY.out, HYY.out.1, HYY.out.2, HKX.out]; omega))).out)
                  clear FIN
                  go_wp2_with fail
                  go_quiet (fail)
                  go_wp2
                  go_roundg (m - (k + 1))
                  case measure => omega
                  case rel => exact ⟨k + 1, by go_num, by omega, Nat.le_refl _, Lib.hid (FF.out _)⟩
              · have hpd : decide (0 < kx) = false := decide_eq_false hpx
                have FF := Lib.hid (fun q' => (FIN.out q' (.inr (by rw [HKX.out]; omega))).out)
                clear FIN
                go_wp2_with fail
                go_quiet (fail)
                go_wp2
                go_roundg (m - (k + 1))
                case measure => omega
                case rel => exact ⟨k + 1, by go_num, by omega, Nat.le_refl _, Lib.hid (FF.out _)⟩
        · have hz2 : ¬ (k : Int) < (m : Int) := by omega
          have HO5 : Hid (RSt w wr u3 u4 (orderP classP ((l.take (i + 1)).flatMap apartP))) := Lib.hid (by
            rw [hft.out]
            have := HP.out.2.1
            rwa [List.take_of_length_le (by have := HM.out; omega)] at this)
          clear HP
          go_wp2
          go_roundg (n - (i + 1))
          case measure => omega
          case rel => exact ⟨i + 1, by go_num, by omega, Nat.le_refl _, HO5⟩
    · have hz : ¬ (i : Int) < (n : Int) := by omega
      have HF : Hid (NewRes (charsP l) w (.returned u3) wr) := by
        obtain ⟨s1, s2, s3, s4, s5⟩ := HS.out
        rw [List.take_of_length_le (by have := HN.out; omega)] at s1 s4
        refine ⟨u3, rfl, s1, ⟨fun h => ?_, s4⟩, s5⟩
        rcases s1.nilOr with ⟨_, e⟩ | ⟨g, cap, e, _⟩
        · exact List.map_eq_nil_iff.1 e
        · rw [h] at e; simp at e
      clear HS
      go_wp2
      go_ret
      exact HF.out
end Go.Proofs.YtjhkfjbgdaomeaaGreatDoor
/- The walks of norm.Text, Is, Same and the reference's Text. -/
namespace Go.Proofs.YtjhkfjbgdaomeaaGreatDoor
set_option linter.unusedVariables false
open Go.RowKit
theorem ReadRes.cases {w w' : World} {r : Option (List Int)} {e : Ending} (h : ReadRes w r e w') : ∃ v, e = .returned (.tuple #[v, .bool r.isSome]) ∧ RdI w' v (r.getD []) ∧ Below w.heap.size w w' := by
  obtain ⟨hb, h⟩ := h
  cases r with
  | none => exact ⟨_, h, .inl ⟨none, 0, rfl, rfl⟩, hb⟩
  | some xs => obtain ⟨v, he, ho⟩ := h; exact ⟨v, he, ho.rd, hb⟩
theorem readF_len (f : Nat) : ∀ (l : List UInt8) (xs : List Int), readF f l = some xs → xs.length ≤ f := by
  induction f with
  | zero => intro l xs h; simp [readF] at h; subst h; exact Nat.le_refl _
  | succ f ih =>
    intro l xs h
    unfold readF at h
    split at h
    · simp at h; subst h; exact Nat.zero_le _
    · split at h
      · simp at h
      · obtain ⟨ys, hy, rfl⟩ := Option.map_eq_some_iff.1 h
        have := ih _ _ hy
        simp; omega
theorem read_len (l : List UInt8) (xs : List Int) (h : readP l = some xs) : xs.length ≤ l.length := readF_len _ _ _ h
/-- what Text answers. -/
def TextRes (w : World) (r : Option (List UInt8)) (e : Ending) (w' : World) : Prop :=
  e = .returned (.tuple #[.string ⟨(r.getD []).toArray⟩, .bool r.isSome]) ∧ Below w.heap.size w w'
/-- A text of which not too many characters come. -/
def Short' (l : List UInt8) : Prop := l.length ≤ 100000 ∧ ∀ xs, readP l = some xs → (xs.flatMap apartP).length ≤ 100000
theorem short_of {l : List UInt8} (h : l.length ≤ 10000) : Short' l := ⟨by omega, fun xs hx => by have := flat_len xs; have := read_len l xs hx; omega⟩
theorem valid_range {l : List Int} (h : ∀ c ∈ l, vldB c = true) : IntOk l := fun c hc => by have := (vldB_iff c).1 (h c hc); omega
theorem NewRes.rd {l : List Int} {w w' : World} {e : Ending} (h : NewRes l w e w') : ∃ v, e = .returned v ∧ RdI w' v l ∧ Below w.heap.size w w' := by
  obtain ⟨v, rfl, ho, _, hb⟩ := h; exact ⟨v, rfl, ho.rd, hb⟩
set_option maxHeartbeats 1000000 in
set_option maxRecDepth 100000 in
theorem text_any (s : ByteArray) (w : World) (hS : Short' s.data.toList) (hE : ErrAt w) (hSp : SpAt w) :
    Calls Tryz.prog 102 #[.string s] w (TextRes w (textP s.data.toList)) := by
  have HES : Hid (∀ w', Below w.heap.size w w' → ErrAt w' ∧ SpAt w') := Lib.hid fun w' hb => ⟨hE.below hb, hSp.below hb hSp.1⟩
  have HR : Hid (∀ w, Calls Tryz.prog 123 #[.string s] w (ReadRes w (readP s.data.toList))) := Lib.hid fun w => read_any s (by have := hS.1; rw [size_toList] at this; omega) w
  have HSS := Lib.hid hS
  clear hS hE hSp
  generalize s.data.toList = l at *
  go_enter Tryz.func102, Tryz.ntmps102
  go_wp2_with fail
  refine (HR.out _).mono ?_
  intro e w1 hr
  obtain ⟨v, rfl, hv, hb⟩ := hr.cases
  clear hr HR
  cases hx : readP l with
  | none =>
    rw [hx] at hv
    have HT := Lib.hid (text_none l hx)
    clear hx hv
    go_wp2_with fail
    go_ret2
    rw [HT.out]
    exact ⟨rfl, hb⟩
  | some xs =>
    rw [hx] at hv
    obtain ⟨bs, t1, t2, t3⟩ := text_some l xs hx
    have hxl := read_len l xs hx
    have HC := Lib.hid (chars_any w1 v xs hv (valid_range (read_valid l xs hx)) (HES.out _ hb).1 (HES.out _ hb).2 (by have := HSS.out.2 xs hx; omega) (by have := HSS.out.1; omega))
    have HT := Lib.hid t2
    have HW : Hid (∀ w v, RdI w v (charsP xs) → Calls Tryz.prog 124 #[v] w (WriteRes w (some bs))) := Lib.hid fun w v h => by
      have := write_any v (charsP xs) (by rw [chars_len]; exact HSS.out.2 xs hx) w h
      rwa [t1] at this
    clear hx hv t1 t2 t3
    go_wp2_with fail
    refine HC.out.mono ?_
    intro e w2 hr
    obtain ⟨v2, rfl, hv2, hb2⟩ := hr.rd
    clear hr HC
    have HW2 := Lib.hid (HW.out w2 v2 hv2)
    clear HW hv2
    go_wp2_with fail
    refine HW2.out.mono ?_
    rintro e w3 ⟨hb3, rfl⟩
    have hbb : Below w.heap.size w w3 := (hb.trans (hb2.mono hb.size)).trans (hb3.mono (Nat.le_trans hb.size hb2.size))
    clear hb hb2 hb3 HW2
    go_wp2_with fail
    go_ret2
    rw [HT.out]
    exact ⟨rfl, hbb⟩
set_option maxHeartbeats 1000000 in
set_option maxRecDepth 100000 in
theorem rtext_any (s : ByteArray) (w : World) (hS : Short' s.data.toList) :
    Calls Tryz.prog 54 #[.string s] w (TextRes w (textP s.data.toList)) := by
  have HR : Hid (∀ w, Calls Tryz.prog 73 #[.string s] w (ReadRes w (readP s.data.toList))) := Lib.hid fun w => rread_any s (by have := hS.1; rw [size_toList] at this; omega) w
  have HSS := Lib.hid hS
  clear hS
  generalize s.data.toList = l at *
  go_enter Tryz.func54, Tryz.ntmps54
  go_wp2_with fail
  refine (HR.out _).mono ?_
  intro e w1 hr
  obtain ⟨v, rfl, hv, hb⟩ := hr.cases
  clear hr HR
  cases hx : readP l with
  | none =>
    rw [hx] at hv
    have HT := Lib.hid (text_none l hx)
    clear hx hv
    go_wp2_with fail
    go_ret2
    rw [HT.out]
    exact ⟨rfl, hb⟩
  | some xs =>
    rw [hx] at hv
    obtain ⟨bs, t1, t2, t3⟩ := text_some l xs hx
    have hxl := read_len l xs hx
    have HC := Lib.hid (rchars_any w1 v xs hv (valid_range (read_valid l xs hx)) (by have := HSS.out.2 xs hx; omega) (by have := HSS.out.1; omega))
    have HT := Lib.hid t2
    have HW : Hid (∀ w v, RdI w v (charsP xs) → Calls Tryz.prog 74 #[v] w (WriteRes w (some bs))) := Lib.hid fun w v h => by
      have := rwrite_any v (charsP xs) (by rw [chars_len]; exact HSS.out.2 xs hx) w h
      rwa [t1] at this
    clear hx hv t1 t2 t3
    go_wp2_with fail
    refine HC.out.mono ?_
    intro e w2 hr
    obtain ⟨v2, rfl, hv2, hb2⟩ := hr.rd
    clear hr HC
    have HW2 := Lib.hid (HW.out w2 v2 hv2)
    clear HW hv2
    go_wp2_with fail
    refine HW2.out.mono ?_
    rintro e w3 ⟨hb3, rfl⟩
    have hbb : Below w.heap.size w w3 := (hb.trans (hb2.mono hb.size)).trans (hb3.mono (Nat.le_trans hb.size hb2.size))
    clear hb hb2 hb3 HW2
    go_wp2_with fail
    go_ret2
    rw [HT.out]
    exact ⟨rfl, hbb⟩
/-- Are both UTF-8, with equal forms? -/
def sameP (l m : List UInt8) : Bool := (textP l).isSome && (textP m).isSome && decide (textP l = textP m)
/-! ### what every law begins with -/
theorem bt1 : textP [225, 185, 169] = some [115, 204, 163, 204, 135] := by decide +kernel
theorem bt2 : textP [115, 204, 163, 204, 135] = some [115, 204, 163, 204, 135] := text_idem _ _ bt1
theorem bt3 : textP [195, 169] = some [101, 204, 129] := by decide +kernel
theorem bt4 : textP [115, 204, 135, 204, 163] = some [115, 204, 163, 204, 135] := by decide +kernel
end Go.Proofs.YtjhkfjbgdaomeaaGreatDoor
/- A text of bytes below 80 (hexadecimal) is its own form. -/
namespace Go.Proofs.YtjhkfjbgdaomeaaGreatDoor
set_option linter.unusedVariables false
open Go.RowKit
theorem orderP_low (L : List Int) (h : ∀ x ∈ L, classP x ≤ 0) : orderP classP L = L := by
  induction L using snoc_ind with
  | h0 => rfl
  | h1 L x ih => rw [orderP_snoc, ih fun y hy => h y (by simp [hy]), ins_starter (h x (by simp))]
theorem read_plain (l : List UInt8) (h : ∀ b ∈ l, b.toNat < 128) : readP l = some (l.map fun b => (b.toNat : Int)) := by
  induction l with
  | nil => rfl
  | cons b r ih =>
    rw [readP_step (by simp), first1 b r (h b (by simp)), if_neg (by omega)]
    show (readP r).map _ = _
    rw [ih fun c hc => h c (by simp [hc])]; rfl
theorem text_plain (l : List UInt8) (h : ∀ b ∈ l, b.toNat < 128) : textP l = some l := by
  have hr := read_plain l h
  have lowx : ∀ x ∈ l.map (fun b => (b.toNat : Int)), x < 128 := fun x hx => by
    obtain ⟨b, hb, rfl⟩ := List.mem_map.1 hx
    have := h b hb; omega
  have hc : charsP (l.map fun b => (b.toNat : Int)) = l.map fun b => (b.toNat : Int) := by
    show orderP classP ((l.map fun b => (b.toNat : Int)).flatMap apartP) = _
    rw [flat_self _ fun x hx => apart_low x (lowx x hx)]
    exact orderP_low _ fun x hx => by rw [class_low x (by have := lowx x hx; omega)]; exact Int.le_refl _
  unfold textP
  rw [hr]
  show writeP (charsP _) = _
  rw [hc]
  exact write_read l _ hr
end Go.Proofs.YtjhkfjbgdaomeaaGreatDoor
