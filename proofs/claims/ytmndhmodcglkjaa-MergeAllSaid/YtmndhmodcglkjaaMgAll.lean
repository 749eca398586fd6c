/- The walk of All. -/
import Derived.Test.YtmndhmodcglkjaaMgNew
import Derived.Test.YtmndhmodcglkjaaEntAll
import Derived.Laws.MakeOwn
namespace Go.Proofs.Ytmndhmodcglkjaa
set_option linter.unusedVariables false
set_option maxRecDepth 100000
open Go.RowKit
def encS (x : Pl) : List Value := [x.iv]
theorem encS_len : EncK encS 1 := fun _ => rfl
theorem encS_flat (ss : List Pl) : ss.flatMap encS = ss.map Pl.iv := by
  induction ss with
  | nil => rfl
  | cons p q ih => rw [List.flatMap_cons, ih]; rfl
theorem encS_one (x : Pl) : ∀ u ∈ encS x, u.oneCell' = true := fun u hu => by
  rcases List.mem_cons.1 hu with rfl | hu
  · unfold Pl.iv; split <;> rfl
  · cases hu
theorem elemK_src : ElemK Try.prog 31 47 1 16 .nilIface := ⟨by kernel_rfl, by kernel_rfl, rfl, by decide⟩
theorem src_rows {B : Nat} {w : World} {v : Value} {ss : List Pl} : OwnV 47 B w v (ss.map Pl.iv) ↔ OwnK encS 1 47 B w v ss := by
  unfold OwnK OwnV
  rw [encS_flat, List.length_map]
theorem mk_src (w : World) (n : Nat) (hn : n ≤ 1000000000) : ∃ w', (Instr.makeSlice 31 (.int .i64 0) (.int .i64 (n : Int))).run Try.prog w = .ok (.slice (some ⟨w.heap.size, 0, none⟩) 0 n) w' ∧ OwnK encS 1 47 w.heap.size w' (.slice (some ⟨w.heap.size, 0, none⟩) 0 n) [] ∧ Below w.heap.size w w' := by
  obtain ⟨f1, f3, f4, i0, hi, hz0, hz1, hz2⟩ := elemK_src.parts
  obtain ⟨w', h1, h2, h3⟩ := run_make_own (P := Try.prog) w w.heap.size _ _ i0 _ 1 f1 hi hz0 hz1 .i64 .i64 n (by rw [hz2]; omega) (by unfold maxLen; omega) (Nat.le_refl _)
  exact ⟨w', h1, h2, (Below.refl _ w).grown h3 (Nat.le_refl _) fun k hk => by cases hk⟩
theorem mk_ent (w : World) (B n : Nat) (hn : n ≤ 1000000000) (hB : B ≤ w.heap.size) : ∃ w', (Instr.makeSlice 24 (.int .i64 0) (.int .i64 (n : Int))).run Try.prog w = .ok (.slice (some ⟨w.heap.size, 0, none⟩) 0 n) w' ∧ OwnK encEnt 5 28 B w' (.slice (some ⟨w.heap.size, 0, none⟩) 0 n) [] ∧ Below w.heap.size w w' := by
  obtain ⟨f1, f3, f4, i0, hi, hz0, hz1, hz2⟩ := elem_ent.parts
  obtain ⟨w', h1, h2, h3⟩ := run_make_own (P := Try.prog) w B _ _ i0 _ 5 f1 hi hz0 hz1 .i64 .i64 n (by rw [hz2]; omega) (by unfold maxLen; omega) hB
  exact ⟨w', h1, h2, (Below.refl _ w).grown h3 (Nat.le_refl _) fun k hk => by cases hk⟩
/-- On the way: a source of each list. -/
structure AllW (w : World) (ls : List (List Ent)) (ss : List Pl) (vS : Value) (i : Nat) (wr : World) : Prop where
  len : ss.length = i
  src : ∀ (p : Nat) (x : Pl), ss[p]? = some x → ls[p]? = some x.rest ∧ x.k = 2 ∧ x.cur = none ∧ w.heap.size ≤ x.sb ∧ ∃ v, BlkAt wr x.sb #[v] 52 ∧ RdK encEnt 5 w v x.rest
  apart : ∀ (p p' : Nat) (x x' : Pl), ss[p]? = some x → ss[p']? = some x' → p ≠ p' → x.sb ≠ x'.sb
  row : OwnK encS 1 47 w.heap.size wr vS ss
  base : Below w.heap.size w wr
section
variable {w0 w w' w2 w3 wq wr : World} {mb qb i p0 B : Nat} {ps ss : List Pl} {ls : List (List Ent)} {v v2 vS : Value} {q q' : List Nat} {F : Nat → Fnt}
theorem AllW.below (h : AllW w ls ss vS i wr) (u : Below wr.heap.size wr w') : AllW w ls ss vS i w' :=
  ⟨h.len, fun p x hx => by
    obtain ⟨h1, h2, h3, h4, v, h5, h6⟩ := h.src p x hx
    exact ⟨h1, h2, h3, h4, v, h5.below u, h6⟩, h.apart, h.row.below u, h.base.trans (u.mono h.base.size)⟩
/-- One more. -/
theorem AllW.step (h : AllW w ls ss vS i wr) {l : List Ent} {u : Value} (hl : ls[i]? = some l) (hu : RdK encEnt 5 w u l) (b1 : Below wr.heap.size wr w2) (hb : BlkAt w2 wr.heap.size #[u] 52)
    (o : OwnK encS 1 47 w.heap.size wq v2 (ss ++ [⟨wr.heap.size, 0, 0, 2, none, l⟩])) (b : Below w.heap.size w2 wq) (uf : UpdF (fun g => vS.ownBlock = some g) w2 wq) : AllW w ls (ss ++ [⟨wr.heap.size, 0, 0, 2, none, l⟩]) v2 (i + 1) wq := by
  have h2 := h.below b1
  have keep : ∀ {sb : Nat} {v : Value}, BlkAt w2 sb #[v] 52 → BlkAt wq sb #[v] 52 := fun {sb v} hk => by
    refine (uf.block sb hk.lt ?_).trans hk
    intro e
    rcases h2.row.blk with ⟨rfl, -⟩ | ⟨g, cap, cur, rfl, -, -, k4, -⟩
    · cases e
    · obtain rfl : g = sb := Option.some.inj e
      unfold BlkAt at hk; rw [k4] at hk; cases hk
  have cases : ∀ (p : Nat) (x : Pl), (ss ++ [⟨wr.heap.size, 0, 0, 2, none, l⟩])[p]? = some x → ss[p]? = some x ∨ (p = i ∧ x = ⟨wr.heap.size, 0, 0, 2, none, l⟩) := fun p x hx => by
    rcases Nat.lt_or_ge p ss.length with e | e
    · rw [List.getElem?_append_left e] at hx; exact .inl hx
    · rw [List.getElem?_append_right e] at hx
      rcases Nat.eq_zero_or_pos (p - ss.length) with e2 | e2
      · rw [e2] at hx
        exact .inr ⟨by have := h.len; omega, (Option.some.inj hx).symm⟩
      · rw [List.getElem?_eq_none (by simp; omega)] at hx; cases hx
  have old : ∀ (p : Nat) (x : Pl), ss[p]? = some x → x.sb < wr.heap.size := fun p x hx => by
    obtain ⟨-, -, -, -, v, h5, -⟩ := h.src p x hx
    exact h5.lt
  refine ⟨by simp [h.len], fun p x hx => ?_, fun p p' x x' hx hx' hne => ?_, o, h2.base.trans b⟩
  · rcases cases p x hx with hx | ⟨rfl, rfl⟩
    · obtain ⟨h1, h3, h4, h5, v, h6, h7⟩ := h2.src p x hx
      exact ⟨h1, h3, h4, h5, v, keep h6, h7⟩
    · exact ⟨hl, rfl, rfl, h.base.size, u, keep hb, hu⟩
  · rcases cases p x hx with k | ⟨rfl, rfl⟩
    · rcases cases p' x' hx' with k' | ⟨rfl, rfl⟩
      · exact h.apart p p' x x' k k' hne
      · have := old p x k
        show x.sb ≠ wr.heap.size
        omega
    · rcases cases p' x' hx' with k' | ⟨rfl, rfl⟩
      · have := old p' x' k'
        show wr.heap.size ≠ x'.sb
        omega
      · exact absurd rfl hne
theorem AllW.srcs (h : AllW w ls ss vS i wr) (hs : ∀ l, l ∈ ls → SrtW l) : SrcsAt w wr ss := by
  refine ⟨fun p x hx hk => ?_, fun p x hx => ?_, fun p p' x x' hx hx' hne _ _ => h.apart p p' x x' hx hx' hne, h.base⟩
  · obtain ⟨-, h2, -, h4, v, h5, h6⟩ := h.src p x hx
    exact ⟨.inr ⟨h2, v, h5, h6⟩, h4⟩
  · obtain ⟨h1, h2, h3, h4, -⟩ := h.src p x hx
    refine ⟨h3, ?_, fun e => by omega⟩
    unfold Pl.tot
    rw [h3]
    exact hs _ (List.mem_of_getElem? h1)
theorem AllW.sum (h : AllW w ls ss vS ls.length wr) (hl : ps.length = ss.length) (ho : ∀ (p : Nat) (x' : Pl), ps[p]? = some x' → ∃ x, ss[p]? = some x ∧ Asked x x') : ps.flatMap Pl.tot = ls.flatten := by
  have e : ps.map Pl.tot = ls := by
    apply List.ext_getElem?
    intro p
    rw [List.getElem?_map]
    rcases Nat.lt_or_ge p ps.length with hp | hp
    · obtain ⟨x, hx, ha⟩ := ho p ps[p] (List.getElem?_eq_getElem hp)
      obtain ⟨h1, -, h3, -⟩ := h.src p x hx
      rw [List.getElem?_eq_getElem hp, Option.map_some, ha.tot, h1]
      unfold Pl.tot; rw [h3]; rfl
    · rw [List.getElem?_eq_none hp, List.getElem?_eq_none (by have := h.len; omega)]; rfl
  rw [List.flatMap_def, e]
/-- What a Next tells, either way. -/
theorem NextTo.out {e : Ending} (h : NextTo w0 mb ps w e w') : ∃ oc ps', e = .returned (nxV oc) ∧ MgAt w0 w' mb ps' ∧ oc.toList ++ allL ps' = allL ps ∧ (oc = none → allL ps' = []) ∧ ps'.length = ps.length ∧ UpdT mS w0.heap.size w w' := by
  obtain ⟨u, ⟨h1, h2, h3⟩ | ⟨p, x, m, h1, h2, h3, h4, h5⟩⟩ := h
  · exact ⟨none, ps, h2, h3, rfl, fun _ => h1, rfl, u⟩
  · exact ⟨some m, _, h4, h5, h3.symm, fun e => (by cases e), List.length_set .., u⟩
theorem MgAt.updE (h : MgAt w0 w mb ps) (u : UpdT eT w0.heap.size w w') : MgAt w0 w' mb ps := by
  obtain ⟨qb, v, q, h1, h2, h3, h4, h5⟩ := h
  exact ⟨qb, v, q, u.blk h1 (.inr (by decide)), h2.updE u, h3, h4, h5⟩
theorem MgAt.base (h : MgAt w0 w mb ps) : Below w0.heap.size w0 w := by
  obtain ⟨qb, v, q, h1, h2, h3⟩ := h
  exact h2.st.base
theorem MgAt.below (h : MgAt w0 w mb ps) (u : Below w.heap.size w w') : MgAt w0 w' mb ps := h.updE (.of u)
def eArr (o : Option Ent) : Array Value := #[.string (o.getD Ent.none).norm, .int .i64 (o.getD Ent.none).seq, .int .i64 (o.getD Ent.none).kind, .string (o.getD Ent.none).spell, .string (o.getD Ent.none).val]
/-- On the way through what is told. -/
structure LpW (w0 : World) (mb : Nat) (tl : List Ent) (va : Value) (eb : Nat) (oc : Option Ent) (ps : List Pl) (dn : List Ent) (wr : World) : Prop where
  mg : MgAt w0 wr mb ps
  pl : ps.length ≤ 1000000000
  row : OwnK encEnt 5 28 w0.heap.size wr va dn
  e : BlkAt wr eb (eArr oc) 28
  eB : w0.heap.size ≤ eb
  ap : ∀ g, va.ownBlock = some g → g ≠ eb
  sum : dn ++ oc.toList ++ allL ps = tl
  fin : oc = none → allL ps = []
theorem LpW.start {va : Value} {dn tl : List Ent} {oc : Option Ent} (h : MgAt w0 w mb ps) (hp : ps.length ≤ 1000000000) (ho : OwnK encEnt 5 28 w0.heap.size w va dn) (hs : dn ++ oc.toList ++ allL ps = tl) (hf : oc = none → allL ps = []) : LpW w0 mb tl va w.heap.size oc ps dn (w.alloc (.cells (eArr oc) 28)) := by
  have u : Below w.heap.size w (w.alloc (.cells (eArr oc) 28)) := (Below.refl _ w).alloc (Nat.le_refl _) _
  exact ⟨h.below u, hp, ho.below u, BlkAt.new _ _ _, h.base.size, fun g hg => by have := row_lt ho g hg; omega, hs, hf⟩
/-- Next was asked, and its answer stored. -/
theorem LpW.next {va : Value} {dn tl : List Ent} {eb : Nat} {oc : Option Ent} {ps' : List Pl} {cs : Array Value} (he : BlkAt w eb cs 28) (hc : cs.size = 5) (hB : w0.heap.size ≤ eb) (hp : ps.length ≤ 1000000000) (hs : dn ++ allL ps = tl) (m : MgAt w0 w2 mb ps') (h1 : oc.toList ++ allL ps' = allL ps) (h2 : oc = none → allL ps' = []) (h3 : ps'.length = ps.length)
    (u : UpdT mS w0.heap.size w w2) (ho : OwnK encEnt 5 28 w0.heap.size w va dn) (ha : ∀ g, va.ownBlock = some g → g ≠ eb) :
    LpW w0 mb tl va eb oc ps' dn (((((w2.setCell ⟨eb, 0, none⟩ (.string (oc.getD Ent.none).norm)).setCell ⟨eb, 1, none⟩ (.int .i64 (oc.getD Ent.none).seq)).setCell ⟨eb, 2, none⟩ (.int .i64 (oc.getD Ent.none).kind)).setCell ⟨eb, 3, none⟩ (.string (oc.getD Ent.none).spell)).setCell ⟨eb, 4, none⟩ (.string (oc.getD Ent.none).val)) := by
  have he2 := u.blk he (.inr (by decide))
  have u5 := set5 he2 w0.heap.size hB (.string (oc.getD Ent.none).norm) (.int .i64 (oc.getD Ent.none).seq) (.int .i64 (oc.getD Ent.none).kind) (.string (oc.getD Ent.none).spell) (.string (oc.getD Ent.none).val)
  obtain ⟨c0, c1, c2, c3, c4, rfl⟩ : ∃ c0 c1 c2 c3 c4, cs = #[c0, c1, c2, c3, c4] := by
    obtain ⟨l⟩ := cs
    match l, hc with
    | [c0, c1, c2, c3, c4], _ => exact ⟨_, _, _, _, _, rfl⟩
  refine ⟨m.updE u5, by rw [h3]; exact hp, ?_, ((((he2.set (o := 0) _).set (o := 1) _).set (o := 2) _).set (o := 3) _).set (o := 4) _, hB, ha, ?_, h2⟩
  · refine row_same (u.own ho (by decide)) fun g hg => ?_
    have := ha g hg
    rw [Below.heap_setCell _ _ _ _ this, Below.heap_setCell _ _ _ _ this, Below.heap_setCell _ _ _ _ this, Below.heap_setCell _ _ _ _ this, Below.heap_setCell _ _ _ _ this]
  · rw [List.append_assoc, h1, hs]
theorem own_updE {va : Value} {dn : List Ent} (o : OwnK encEnt 5 28 B w va dn) (u : UpdF (fun g => va.ownBlock = some g) w wq) : UpdT eT B w wq :=
  UpdF.mono u fun k _ e => by
    rcases o.blk with ⟨rfl, -⟩ | ⟨g, cap, cur, rfl, h1, -, h2, -⟩
    · cases e
    · obtain rfl : g = k := Option.some.inj e
      exact ⟨h1, cur, _, _, h2, by decide⟩
theorem take_len (ls : List (List Ent)) (i : Nat) : (ls.take i).flatten.length ≤ ls.flatten.length := by
  conv => rhs; rw [← List.take_append_drop i ls]
  rw [List.flatten_append, List.length_append]; omega
theorem take_next {ls : List (List Ent)} {i : Nat} {l : List Ent} (h : ls[i]? = some l) : (ls.take (i + 1)).flatten = (ls.take i).flatten ++ l := by
  have hlt := (List.getElem?_eq_some_iff.1 h).1
  rw [List.take_succ_eq_append_getElem hlt, List.flatten_append]
  rw [List.getElem?_eq_getElem hlt] at h
  rw [Option.some.inj h]; simp
set_option maxHeartbeats 8000000 in
theorem mgAll_any (ls : List (List Ent)) (vL : Value) (hr : RdLs encEnt 5 w vL ls) (hs : ∀ l, l ∈ ls → SrtW l) (hn : ls.length ≤ 1000000) (ht : ls.flatten.length ≤ 1000000000) :
    Calls Try.prog 10 #[vL] w fun e w' => (∃ v, e = .returned v ∧ OwnK encEnt 5 28 w.heap.size w' v (mrgL ls.flatten)) ∧ Below w.heap.size w w' := by
  obtain ⟨aL, capL, rfl⟩ := hr.form
  obtain ⟨w1, hmk, k1, k2⟩ := mk_src w ls.length (by omega)
  obtain ⟨L, hL⟩ : ∃ L, ls.length = L := ⟨_, rfl⟩
  have HL := Lib.hid hL
  have HR : Hid (∀ W, Below w.heap.size w W → RdLs encEnt 5 W (.slice aL L capL) ls) := Lib.hid fun W hW => by rw [← hL]; exact hr.below hW
  have HR0 : Hid (RdLs encEnt 5 w (.slice aL L capL) ls) := Lib.hid (by rw [← hL]; exact hr)
  have HS := Lib.hid hs
  have HT := Lib.hid ht
  rw [hL] at hmk k1 hn ⊢
  have HW : Hid (AllW w ls [] (.slice (some ⟨w.heap.size, 0, none⟩) 0 L) 0 w1) := Lib.hid ⟨rfl, fun p x hx => by simp at hx, fun p p' x x' hx => by simp at hx, k1, k2⟩
  clear hr hs ht k1 k2 hL
  go_enter Try.func10, Try.ntmps10
  go_wp2_with fail
  go_loopg [3, 4, 16] L (fun kk vs vc vi wr => ∃ (i n c a : Nat) (ao : Option Addr), vi = .int .i64 i ∧ vc = .int .i64 (c : Int) ∧ vs = .slice ao n a ∧ i ≤ L ∧ L - i ≤ kk ∧ c ≤ 1000000000 ∧ Hid (c = (ls.take i).flatten.length ∧ ∃ ss, AllW w ls ss (.slice ao n a) i wr))
  case atStart => exact ⟨0, 0, 0, L, _, rfl, rfl, rfl, by omega, by omega, by omega, Lib.hid ⟨rfl, [], HW.out⟩⟩
  case round =>
    obtain ⟨i, n, c, a, ao, rfl, rfl, rfl, hi, hkk, hc, HN⟩ := hrel
    have hi0 : (0 : Int) ≤ (i : Int) := by omega
    clear HW hmk
    by_cases hiL : i < L
    · have hiI : (i : Int) < (L : Int) := by omega
      have hid : decide (i < L) = true := decide_eq_true hiL
      obtain ⟨HC, ss, HA⟩ := HN.out
      obtain ⟨l, hl⟩ : ∃ l, ls[i]? = some l := ⟨ls[i]'(by have := HL.out; omega), List.getElem?_eq_getElem _⟩
      obtain ⟨g, off, u, e, hg, hcell0, hu⟩ := HR0.out.at i l hl
      obtain rfl := e
      have hcell := (HA.base.cell (p := ⟨g, off + i, none⟩) hg).trans hcell0
      obtain ⟨au, cu, rfl, -⟩ := hu.len
      have hsum : c + l.length ≤ 1000000000 := by
        have h1 := take_len ls (i + 1)
        rw [take_next hl, List.length_append, ← HC] at h1
        have := HT.out
        omega
      obtain ⟨sb, hsb⟩ : ∃ sb, wr.heap.size = sb := ⟨_, rfl⟩
      obtain ⟨N1, hN1⟩ : ∃ N1, l.length = N1 := ⟨_, rfl⟩
      rw [hN1] at hu hcell hsum
      obtain ⟨w2, hw2⟩ : ∃ w2, wr.alloc (.cells #[.slice au N1 cu] 52) = w2 := ⟨_, rfl⟩
      have b1 : Below wr.heap.size wr w2 := by rw [← hw2]; exact (Below.refl _ _).alloc (Nat.le_refl _) _
      have hb2 : BlkAt w2 wr.heap.size #[.slice au N1 cu] 52 := by rw [← hw2]; exact BlkAt.new _ _ _
      have HK := Lib.hid (And.intro HA (And.intro hl (And.intro hu (And.intro b1 (And.intro hb2 (And.intro HC hN1))))))
      have HOW := Lib.hid (HA.row.below b1)
      have HCS : Hid ((encS ⟨sb, 0, 0, 2, none, l⟩).toArray = #[.iface 50 (.pointer (some ⟨sb, 0, none⟩))]) := Lib.hid rfl
      have HSB := Lib.hid hsb
      have hwc : IntKind.i64.wrap ((c : Int) + (N1 : Int)) = ((c + N1 : Nat) : Int) := (IntWalk.i64_in _ (by omega)).trans (by omega)
      clear HA HN hl hcell0 hu b1 hb2 HC hN1
      go_wp2_with (at_builtin; refine wp_oneK elemK_src encS_len _ _ (by rfl) (by rfl) (by rfl) HOW.out (⟨sb, 0, 0, 2, none, l⟩ : Pl) _ HCS.out _ (by rfl) (by rfl) (encS_one _) ?c1 ?c2 (HK.out.1.base.trans (HK.out.2.2.2.1.mono HK.out.1.base.size)).size ?_)
      case c1 => have := HK.out.1.len; omega
      case c2 => have := HK.out.1.len; unfold maxLen; omega
      intro v5 wq o5 b5 u5 n5
      have hst := HK.out.1.step HK.out.2.1 HK.out.2.2.1 HK.out.2.2.2.1 HK.out.2.2.2.2.1 (v2 := v5) (wq := wq) (by rw [HSB.out]; exact o5) b5 u5
      obtain ⟨a5, c5, rfl, -, -⟩ := o5.kform
      have HN2 : Hid (c + N1 = (ls.take (i + 1)).flatten.length ∧ ∃ ss', AllW w ls ss' (.slice a5 ((ss ++ [(⟨sb, 0, 0, 2, none, l⟩ : Pl)]).length) c5) (i + 1) wq) := Lib.hid ⟨by rw [take_next HK.out.2.1, List.length_append, ← HK.out.2.2.2.2.2.1, HK.out.2.2.2.2.2.2], _, by rw [HSB.out] at hst; exact hst⟩
      clear o5 b5 u5 n5 hst HK HOW HCS hw2
      generalize (ss ++ [(⟨sb, 0, 0, 2, none, l⟩ : Pl)]).length = n5 at HN2 ⊢
      go_wp2_with fail
      go_roundg (L - (i + 1))
      case measure => omega
      case rel => exact ⟨i + 1, n5, c + N1, c5, a5, by go_num, by go_num, rfl, by omega, Nat.le_refl _, by omega, HN2⟩
    · obtain rfl : i = L := by omega
      have hnI : ¬ (i : Int) < (i : Int) := by omega
      have hid : decide (i < i) = false := decide_eq_false hiL
      obtain ⟨HC, ss, HA⟩ := HN.out
      obtain ⟨w4, hmk2, k1, k2⟩ := mk_ent wr w.heap.size c hc HA.base.size
      have HLs := HL.out
      have HA4 := HA.below k2
      have hrow4 : OwnV 47 0 w4 (.slice ao n a) (ss.map Pl.iv) := OwnV.base (src_rows.2 HA4.row) (Nat.zero_le _)
      have HNew := Lib.hid (mgNew_any (HA4.srcs HS.out) hrow4 (by rw [HA4.len]; omega))
      have HSUM : Hid (∀ ps, ps.length = ss.length → (∀ (p : Nat) (x' : Pl), ps[p]? = some x' → ∃ x, ss[p]? = some x ∧ Asked x x') → allL ps = mrgL ls.flatten) := Lib.hid fun ps h1 h2 => by
        unfold allL
        rw [AllW.sum (w := w) (vS := .slice ao n a) (wr := w4) (by rw [HLs]; exact HA4) h1 h2]
      have HSL : Hid (ss.length ≤ 1000000000) := Lib.hid (by rw [HA4.len]; omega)
      have HRow := Lib.hid k1
      have HB4 := Lib.hid HA4.base
      clear HA HA4 HN k1 k2 hrow4 HC HLs
      go_wp2_with fail
      refine HNew.out.mono ?_
      rintro e w5 ⟨mb, ps, rfl, m1, m2, m3, m4, m5⟩
      have hpl : ps.length ≤ 1000000000 := by rw [m3]; exact HSL.out
      have hTL := HSUM.out ps m3 m4
      have row5 : OwnK encEnt 5 28 w.heap.size w5 (.slice (some ⟨wr.heap.size, 0, none⟩) 0 c) [] := m5.own HRow.out (by decide)
      have HN1 := Lib.hid (mgNext_any m2 hpl)
      have HK := Lib.hid (And.intro hpl (And.intro hTL row5))
      obtain ⟨TL, hTLn⟩ : ∃ TL, mrgL ls.flatten = TL := ⟨_, rfl⟩
      have HTL := Lib.hid hTLn
      rw [hTLn] at HK
      have HQ : Hid (∀ v W, OwnK encEnt 5 28 w.heap.size W v TL → Below w.heap.size w W → (∃ v', Ending.returned v = .returned v' ∧ OwnK encEnt 5 28 w.heap.size W v' (mrgL ls.flatten)) ∧ Below w.heap.size w W) := Lib.hid fun v W h1 h2 => ⟨⟨v, rfl, by rw [HTL.out]; exact h1⟩, h2⟩
      obtain ⟨ai, hai⟩ : ∃ ai : Option Addr, some ⟨wr.heap.size, 0, none⟩ = ai := ⟨_, rfl⟩
      rw [hai] at hmk2 HK
      clear hpl hTL row5 m1 m2 m3 m4 m5 HNew HSUM HSL HRow HB4 hTLn
      go_wp2_with fail
      refine HN1.out.mono ?_
      rintro e w6 hnext
      obtain ⟨oc, ps1, rfl, n1, n2, n3, n4, n5⟩ := hnext.out
      have row6 := n5.own HK.out.2.2 (by decide)
      obtain ⟨x, hx⟩ : ∃ x : Ent, oc.getD Ent.none = x := ⟨_, rfl⟩
      obtain ⟨b, hbb⟩ : ∃ b, oc.isSome = b := ⟨_, rfl⟩
      have hnx : nxV oc = .tuple #[.agg #[.string x.norm, .int .i64 x.seq, .int .i64 x.kind, .string x.spell, .string x.val], .bool b] := by unfold nxV; rw [hx, hbb]; rfl
      obtain ⟨w7, hw7⟩ : ∃ w7, w6.alloc (.cells #[.string x.norm, .int .i64 x.seq, .int .i64 x.kind, .string x.spell, .string x.val] 28) = w7 := ⟨_, rfl⟩
      have LS : LpW w mb TL (.slice ai 0 c) w6.heap.size oc ps1 [] w7 := by
        have := LpW.start (oc := oc) (tl := TL) n1 (by rw [n4]; exact HK.out.1) row6 (by rw [List.nil_append, n2]; exact HK.out.2.1) n3
        unfold eArr at this
        rw [hx, hw7] at this; exact this
      have HL2 : Hid (∃ oc ps dn, b = oc.isSome ∧ LpW w mb TL (.slice ai 0 c) w6.heap.size oc ps dn w7 ∧ TL.length = dn.length + TL.length) := Lib.hid ⟨oc, ps1, [], hbb.symm, LS, by simp⟩
      have HTm : Hid (TL.length ≤ 1000000000) := Lib.hid (by rw [← HTL.out, mrgL_len]; exact HT.out)
      rw [hnx]
      clear hnext n1 n2 n3 n4 n5 row6 hx hbb hnx LS HK HN1 hai
      go_wp2_with fail
      clear hw7 hmk2
      go_loopg [7, 9, 10] TL.length (fun kk va ve vo wr => ∃ (n a eb d : Nat) (ao : Option Addr) (b : Bool), va = .slice ao n a ∧ ve = .pointer (some ⟨eb, 0, none⟩) ∧ vo = .bool b ∧ d ≤ kk ∧ Hid (∃ oc ps dn, b = oc.isSome ∧ LpW w mb TL (.slice ao n a) eb oc ps dn wr ∧ TL.length = dn.length + d))
      case atStart => exact ⟨0, c, _, TL.length, ai, b, rfl, rfl, rfl, Nat.le_refl _, HL2⟩
      case round =>
        obtain ⟨n, a, eb, d, ao, b, rfl, rfl, rfl, hd, HN⟩ := hrel
        clear HL2
        obtain ⟨oc, ps, dn, hb, LW, hdn⟩ := HN.out
        cases b
        · have hoc : oc = none := by cases oc with
            | none => rfl
            | some m => cases hb
          have hdone : dn = TL := by
            have h1 := LW.sum
            rw [LW.fin hoc, hoc] at h1
            simpa using h1
          have HE := Lib.hid (HQ.out _ _ (hdone ▸ LW.row) LW.mg.base)
          clear LW HN hb hdn hoc hdone HQ
          go_wp2_with fail
          go_ret
          exact HE.out
        · obtain ⟨m, rfl⟩ : ∃ m, oc = some m := by cases oc with
            | none => cases hb
            | some m => exact ⟨m, rfl⟩
          have hd1 : 1 ≤ d := by
            have h1 := congrArg List.length LW.sum
            simp at h1; omega
          have e0 : wr.cell? ⟨eb, 0, none⟩ = some (.string m.norm) := LW.e.at 0
          have e1 : wr.cell? ⟨eb, 1, none⟩ = some (.int .i64 m.seq) := LW.e.at 1
          have e2 : wr.cell? ⟨eb, 2, none⟩ = some (.int .i64 m.kind) := LW.e.at 2
          have e3 : wr.cell? ⟨eb, 3, none⟩ = some (.string m.spell) := LW.e.at 3
          have e4 : wr.cell? ⟨eb, 4, none⟩ = some (.string m.val) := LW.e.at 4
          have HCS : Hid ((encEnt m).toArray = #[.string m.norm, .int .i64 m.seq, .int .i64 m.kind, .string m.spell, .string m.val]) := Lib.hid rfl
          have HLW := Lib.hid LW
          have HDN := Lib.hid hdn
          have HQ2 := Lib.hid HQ
          clear LW HN hb hdn HQ
          go_wp2_with (at_builtin; refine wp_oneK elem_ent encEnt_len _ _ (by rfl) (by rfl) (by rfl) HLW.out.row m _ HCS.out _ (by rfl) (by rfl) (enc_cells m) ?c1 ?c2 HLW.out.mg.base.size ?_)
          case c1 => have := HDN.out; have := HTm.out; omega
          case c2 => have := HDN.out; have := HTm.out; unfold maxLen; omega
          intro v5 wq o5 b5 u5 n5
          obtain ⟨a5, c5, rfl, -, -⟩ := o5.kform
          have heb : BlkAt wq eb (eArr (some m)) 28 := (u5.block eb HLW.out.e.lt (fun e => HLW.out.ap eb e rfl)).trans HLW.out.e
          clear e0 e1 e2 e3 e4
          have e0 : wq.cell? ⟨eb, 0, none⟩ = some (.string m.norm) := heb.at 0
          have e1 : wq.cell? ⟨eb, 1, none⟩ = some (.int .i64 m.seq) := heb.at 1
          have e2 : wq.cell? ⟨eb, 2, none⟩ = some (.int .i64 m.kind) := heb.at 2
          have e3 : wq.cell? ⟨eb, 3, none⟩ = some (.string m.spell) := heb.at 3
          have e4 : wq.cell? ⟨eb, 4, none⟩ = some (.string m.val) := heb.at 4
          obtain ⟨eb2, heb2⟩ : ∃ eb2, wq.heap.size = eb2 := ⟨_, rfl⟩
          obtain ⟨w8, hw8⟩ : ∃ w8, wq.alloc (.cells #[.string m.norm, .int .i64 m.seq, .int .i64 m.kind, .string m.spell, .string m.val] 28) = w8 := ⟨_, rfl⟩
          have u8 : Below wq.heap.size wq w8 := by rw [← hw8]; exact (Below.refl _ _).alloc (Nat.le_refl _) _
          have he8 : BlkAt w8 eb2 #[.string m.norm, .int .i64 m.seq, .int .i64 m.kind, .string m.spell, .string m.val] 28 := by rw [← hw8, ← heb2]; exact BlkAt.new _ _ _
          have mg8 := (HLW.out.mg.updE (own_updE HLW.out.row u5)).below u8
          have hbq : w.heap.size ≤ eb2 := by rw [← heb2]; exact Nat.le_trans HLW.out.mg.base.size u5.size
          have hap : ∀ g, (Value.slice a5 (dn ++ [m]).length c5).ownBlock = some g → g ≠ eb2 := fun g hg => by
            have := row_lt o5 g hg; omega
          have HNx := Lib.hid (mgNext_any mg8 HLW.out.pl)
          have H8 := Lib.hid (And.intro he8 (And.intro hbq (And.intro hap (o5.below u8))))
          have HSm : Hid ((dn ++ [m]) ++ allL ps = TL) := Lib.hid (by rw [← HLW.out.sum]; simp)
          have HLn : Hid (TL.length = (dn ++ [m]).length + (d - 1)) := Lib.hid (by have := HDN.out; simp; omega)
          generalize (dn ++ [m]).length = n9 at H8 ⊢
          clear o5 b5 u5 n5 heb u8 he8 mg8 hbq hap
          go_wp2_with fail
          refine HNx.out.mono ?_
          rintro e w9 hnext
          obtain ⟨oc2, ps2, rfl, n1, n2, n3, n4, n5⟩ := hnext.out
          obtain ⟨x2, hx2⟩ : ∃ x2 : Ent, oc2.getD Ent.none = x2 := ⟨_, rfl⟩
          obtain ⟨b2, hb2⟩ : ∃ b2, oc2.isSome = b2 := ⟨_, rfl⟩
          have hnx : nxV oc2 = .tuple #[.agg #[.string x2.norm, .int .i64 x2.seq, .int .i64 x2.kind, .string x2.spell, .string x2.val], .bool b2] := by unfold nxV; rw [hx2, hb2]; rfl
          have he9 := n5.blk H8.out.1 (.inr (by decide))
          have LS := LpW.next H8.out.1 rfl H8.out.2.1 HLW.out.pl HSm.out n1 n2 n3 n4 n5 H8.out.2.2.2 H8.out.2.2.1
          rw [hx2] at LS
          have HL2 := Lib.hid (And.intro hb2 (And.intro LS HLn.out))
          obtain ⟨z0, z1, z2, z3, z4⟩ : _ ∧ _ ∧ _ ∧ _ ∧ _ := ⟨he9.at 0, he9.at 1, he9.at 2, he9.at 3, he9.at 4⟩
          obtain ⟨g0, g1, g2, g3, g4⟩ : _ ∧ _ ∧ _ ∧ _ ∧ _ := ⟨he9.free 0, he9.free 1, he9.free 2, he9.free 3, he9.free 4⟩
          simp only [List.getElem?_toArray, List.getElem?_cons_zero, List.getElem?_cons_succ] at z0 z1 z2 z3 z4
          rw [hnx]
          clear hnext n1 n2 n3 n4 n5 hx2 hb2 hnx LS HNx H8 HSm HLn he9 HLW HCS e0 e1 e2 e3 e4 hw8
          go_wp2_with fail
          go_roundg (d - 1)
          case measure => omega
          case rel => exact ⟨n9, c5, eb2, d - 1, a5, b2, rfl, rfl, rfl, Nat.le_refl _, Lib.hid ⟨oc2, ps2, dn ++ [m], HL2.out.1.symm, HL2.out.2.1, HL2.out.2.2⟩⟩
end
end Go.Proofs.Ytmndhmodcglkjaa
