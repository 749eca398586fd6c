/- The walk of a merge's New. -/
import Derived.Test.YtmndhmodcglkjaaMgNext
namespace Go.Proofs.Ytmndhmodcglkjaa
set_option linter.unusedVariables false
set_option maxRecDepth 100000
open Go.RowKit
theorem eq_none1 (T s : Nat) (w : World) : (binOp .eql 47 (.iface T (.pointer (some ⟨s, 0, none⟩))) .nilIface).run Try.prog w = .ok (.bool false) w := by rfl
theorem eq_none2 (w : World) : (binOp .eql 47 .nilIface .nilIface).run Try.prog w = .ok (.bool true) w := by rfl
/-- A source as it is handed over. -/
def Pl.iv (x : Pl) : Value := if x.k = 0 then .nilIface else .iface (tyS x.k) (.pointer (some ⟨x.sb, 0, none⟩))
/-- A source that was asked once. -/
structure Asked (x x' : Pl) : Prop where
  tot : x'.tot = x.tot
  sb : x'.sb = x.sb
  k : x'.k = x.k
  N : x'.N = x.N + (if x.k = 0 then 0 else 1)
  fin : x'.cur = none → x'.rest = []
/-- Sources that nobody asked yet. -/
structure SrcsAt (w0 w : World) (ss : List Pl) : Prop where
  src : ∀ (p : Nat) (x : Pl), ss[p]? = some x → x.k ≠ 0 → SrcAt w0 w x 0 ∧ w0.heap.size ≤ x.sb
  cur : ∀ (p : Nat) (x : Pl), ss[p]? = some x → x.cur = none ∧ SrtW x.tot ∧ (x.k = 0 → x.rest = [])
  apart : ∀ (p p' : Nat) (x x' : Pl), ss[p]? = some x → ss[p']? = some x' → p ≠ p' → x.k ≠ 0 → x'.k ≠ 0 → x.sb ≠ x'.sb
  base : Below w0.heap.size w0 w
section
variable {w0 w w' w2 w3 wq wr : World} {mb qb i p0 B : Nat} {ps ss : List Pl} {v v2 vS : Value} {q q' : List Nat} {F : Nat → Fnt}
theorem HQ.appd (h : HQ F w B qb v q) (p : Nat) (hp : BlkAt w (F p).b (frC (F p) p) 57) {a : Option Addr} {n c : Nat} (o : OwnK (encPt F) 1 55 B wq (.slice a n c) (q ++ [p])) (u : UpdF (fun g => v.ownBlock = some g) w wq) :
    BlkAt wq qb #[v] 54 ∧ HQ F (wq.setCell ⟨qb, 0, none⟩ (.slice a n c)) B qb (.slice a n c) (q ++ [p]) ∧ UpdT qT B w (wq.setCell ⟨qb, 0, none⟩ (.slice a n c)) := by
  have uP : UpdT pfT B w wq := by
    refine ⟨u.os, u.tape, u.output, u.size, fun k hk hk2 => u.block k hk fun e => hk2 ?_⟩
    rcases h.form with ⟨rfl, -⟩ | ⟨g', cap, rfl, -⟩
    · cases e
    · obtain rfl : g' = k := Option.some.inj e
      obtain ⟨k1, cs, k2⟩ := h.rowBlk
      exact ⟨k1, cs, _, _, k2, by decide⟩
  have hv : BlkAt wq qb #[v] 54 := uP.blk h.var (.inr (by decide))
  have u2 := (uP.mono pf_q (Nat.le_refl _)).set hv (by decide) h.qB 0 (.slice a n c)
  refine ⟨hv, ⟨hv.set (.slice a n c), ?_, h.qB, fun x hx => u2.blk ?_ (.inr (by decide))⟩, u2⟩
  · refine row_same (pf_rows.2 o) fun k hk => Below.heap_setCell _ _ _ _ ?_
    rintro rfl
    rcases (pf_rows.2 o).2 with ⟨e, -⟩ | ⟨g', cap, cur, e, -, k2, -⟩
    · rw [e] at hk; cases hk
    · rw [e] at hk
      obtain rfl : g' = k := Option.some.inj hk
      unfold BlkAt at hv; rw [k2] at hv; cases hv
  · rcases List.mem_append.1 hx with hx | hx
    · exact h.frs x hx
    · rw [List.mem_singleton.1 hx]; exact hp
/-- A new front asks its source. -/
theorem MgM.first (h : MgM w0 w qb ps v q i) {x : Pl} {fb : Nat} {fe : Ent} (hx : ps[i]? = some x) (hc : x.cur = none) (hk : x.k ≠ 0) (hb0 : BlkAt w fb (frC ⟨fb, fe, nxF (tyS x.k) x.sb⟩ i) 57) (hfb : w0.heap.size ≤ fb) (hfn : ∀ (p : Nat) (z : Pl), ps[p]? = some z → z.cur.isSome → z.fb ≠ fb)
    (hs : SrcAt w0 w3 x.next (if x.rest.head?.isSome then 0 else 1)) (hb : BlkAt w3 fb (frC ⟨fb, x.rest.head?.getD Ent.none, nxF (tyS x.k) x.sb⟩ i) 57) (u3 : UpdF (fun k => k = x.sb ∨ k = fb) w w3) :
    MgA w0 w3 qb (ps.set i { x.next with fb := fb }) v q (i + 1) i := by
  have hlt : i < ps.length := (List.getElem?_eq_some_iff.1 hx).1
  have hnq : i ∉ q := fun m => by
    obtain ⟨y, hy, hyc⟩ := (h.mem i).1 m
    rw [hx] at hy
    obtain rfl := Option.some.inj hy
    rw [hc] at hyc; cases hyc
  have hset : ∀ p, p ≠ i → (ps.set i { x.next with fb := fb })[p]? = ps[p]? := fun p e => by rw [List.getElem?_set, if_neg (fun e' => e e'.symm)]
  have hset0 : (ps.set i { x.next with fb := fb })[i]? = some { x.next with fb := fb } := by rw [List.getElem?_set, if_pos rfl, if_pos hlt]
  have hcong : ∀ p, p ∈ q → frnt ps p = frnt (ps.set i { x.next with fb := fb }) p := fun p hpq => by
    have e : p ≠ i := fun e => hnq (e ▸ hpq)
    unfold frnt keyPl; rw [hset p e]
  obtain ⟨hsb2, hsb⟩ := h.st.src i x hx hk
  rw [if_pos (.inr (Nat.le_refl i))] at hsb2
  have nsb : ∀ {b : Nat} {vs : Array Value} {t : TypeId}, BlkAt w b vs t → t ≠ 57 → t ∉ [35, 52] → BlkAt w3 b vs t := fun {b vs t} hb' h1 h2 => by
    refine (u3.block b hb'.lt ?_).trans hb'
    rintro (e | e)
    · exact hsb2.ne hb' h2 e.symm
    · subst e
      unfold BlkAt at hb0 hb'; rw [hb0] at hb'; cases hb'; exact h1 rfl
  have hq3 : HQ (frnt ps) w3 w0.heap.size qb v q := by
    refine ⟨nsb h.hq.var (by decide) (by decide), row_same h.hq.row fun g hg => u3.block g (row_lt h.hq.row g hg) ?_, h.hq.qB, fun p hpq => ?_⟩
    · rcases h.hq.form with ⟨rfl, -⟩ | ⟨g', cap, rfl, -⟩
      · cases hg
      · obtain rfl : g' = g := Option.some.inj hg
        obtain ⟨-, cs, hgb⟩ := h.hq.rowBlk
        rintro (e | e)
        · exact hsb2.ne hgb (by decide) e.symm
        · subst e
          unfold BlkAt at hb0 hgb; rw [hb0] at hgb; cases hgb
    · obtain ⟨y, hy, hyc⟩ := (h.mem p).1 hpq
      refine (u3.block _ (h.hq.frs p hpq).lt ?_).trans (h.hq.frs p hpq)
      rintro (e | e)
      · exact hsb2.ne (h.hq.frs p hpq) (by decide) e.symm
      · rw [frnt_at hy] at e
        exact hfn p y hy hyc e
  refine ⟨hq3.congr hcong, ?_, fun p => ?_, h.nodup, ?_⟩
  · exact h.st.ask (y := { x.next with fb := fb }) hx hk rfl hfb (i + 1) (fun p h1 _ => by omega) (by omega) (fun p z hz hne hzc => hfn p z hz hzc) hs (fun p z hz hzk => (h.st.src p z hz hzk).1.ne hb0 (by decide)) u3
  · constructor
    · intro hpq
      have e : p ≠ i := fun e => hnq (e ▸ hpq)
      obtain ⟨y, hy, hyc⟩ := (h.mem p).1 hpq
      exact ⟨e, y, by rw [hset p e]; exact hy, hyc⟩
    · rintro ⟨e, y, hy, hyc⟩
      rw [hset p e] at hy
      exact (h.mem p).2 ⟨y, hy, hyc⟩
  · rw [frnt_at hset0]; exact hb
/-- On the way through the sources. -/
structure NewW (w0 w : World) (qb : Nat) (ss ps : List Pl) (vS v : Value) (q : List Nat) (i : Nat) (wr : World) : Prop where
  m : MgM w0 wr qb ps v q i
  len : ps.length = ss.length
  old : ∀ (p : Nat) (x' : Pl), ps[p]? = some x' → ∃ x, ss[p]? = some x ∧ (p < i → Asked x x') ∧ (i ≤ p → x' = x)
  ql : q.length ≤ i
  upd : UpdT mS w0.heap.size w wr
  row : OwnV 47 0 wr vS (ss.map Pl.iv)
  fbs : ∀ (p : Nat) (x' : Pl), ps[p]? = some x' → x'.cur.isSome → x'.fb < wr.heap.size
theorem NewW.start (h : SrcsAt w0 w ss) (hr : OwnV 47 0 w vS (ss.map Pl.iv)) : NewW w0 w w.heap.size ss ss vS (.slice none 0 0) [] 0 (w.alloc (.cells #[.slice none 0 0] 54)) := by
  have u1 : Below w.heap.size w (w.alloc (.cells #[.slice none 0 0] 54)) := (Below.refl _ w).alloc (Nat.le_refl _) _
  have hc : ∀ (p : Nat) (x : Pl), ss[p]? = some x → x.cur.isSome → False := fun p x hx hc => by rw [(h.cur p x hx).1] at hc; cases hc
  refine ⟨⟨⟨BlkAt.new _ _ _, OwnV.nil _ _ _, h.base.size, fun p hp => (by cases hp)⟩, ⟨fun p x hx hk => ?_, fun p x hx hc' => (hc p x hx hc').elim, h.apart, fun p p' x x' hx _ _ hc' => (hc p x hx hc').elim, h.base.trans (u1.mono h.base.size)⟩, fun p => ⟨fun hp => (by cases hp), fun ⟨x, hx, hc'⟩ => (hc p x hx hc').elim⟩, List.nodup_nil⟩, rfl, fun p x hx => ⟨x, hx, fun h => (by omega), fun _ => rfl⟩, Nat.le_refl _, .of u1, hr.below u1, fun p x hx hc' => (hc p x hx hc').elim⟩
  obtain ⟨k1, k2⟩ := h.src p x hx hk
  refine ⟨?_, k2⟩
  rw [if_pos (.inr (Nat.zero_le _))]
  exact k1.below u1
/-- A nil source. -/
theorem NewW.skip (h : NewW w0 w qb ss ps vS v q i wr) {x : Pl} (hx : ss[i]? = some x) (hk : x.k = 0) (hc : x.cur = none) (hr : x.rest = []) : NewW w0 w qb ss ps vS v q (i + 1) wr := by
  refine ⟨⟨h.m.hq, ⟨fun p z hz hzk => ?_, h.m.st.fbs, h.m.st.apart, h.m.st.apf, h.m.st.base⟩, h.m.mem, h.m.nodup⟩, h.len, fun p z hz => ?_, by have := h.ql; omega, h.upd, h.row, h.fbs⟩
  · obtain ⟨k1, k2⟩ := h.m.st.src p z hz hzk
    refine ⟨?_, k2⟩
    have hpi : p ≠ i := by
      rintro rfl
      obtain ⟨y, hy, -, h2⟩ := h.old p z hz
      rw [h2 (Nat.le_refl _)] at hzk
      rw [hx] at hy
      obtain rfl := Option.some.inj hy
      exact hzk hk
    have e : (if z.cur.isSome = true ∨ i + 1 ≤ p then 0 else 1) = if z.cur.isSome = true ∨ i ≤ p then 0 else 1 := by
      congr 1
      have : (i + 1 ≤ p) = (i ≤ p) := by apply propext; omega
      rw [this]
    rw [e]; exact k1
  · obtain ⟨y, hy, h1, h2⟩ := h.old p z hz
    refine ⟨y, hy, fun hp => ?_, fun hp => h2 (by omega)⟩
    by_cases e : p = i
    · subst e
      rw [hx] at hy
      obtain rfl := Option.some.inj hy
      rw [h2 (Nat.le_refl _)]
      exact ⟨rfl, rfl, rfl, by rw [if_pos hk]; rfl, fun _ => hr⟩
    · exact h1 (by omega)
/-- A source was asked. -/
theorem NewW.step (h : NewW w0 w qb ss ps vS v q i wr) {x y : Pl} (hx : ss[i]? = some x) (hk : x.k ≠ 0) (hc : x.cur = none) (hy : y = { x.next with fb := y.fb }) (hM : MgM w0 w3 qb (ps.set i y) v2 q' (i + 1)) (hq : q'.length ≤ q.length + 1) (u : UpdT mS w0.heap.size wr w3) (hf : y.fb < w3.heap.size) :
    NewW w0 w qb ss (ps.set i y) vS v2 q' (i + 1) w3 := by
  have hlt : i < ps.length := by rw [h.len]; exact (List.getElem?_eq_some_iff.1 hx).1
  refine ⟨hM, by rw [List.length_set]; exact h.len, fun p z hz => ?_, by have := h.ql; omega, h.upd.trans u, u.own h.row (by decide), fun p z hz hzc => ?_⟩
  · rw [List.getElem?_set] at hz
    split at hz
    · rename_i e
      subst e
      simp only [Option.some.injEq] at hz
      subst hz
      refine ⟨x, hx, fun _ => ?_, fun h => by omega⟩
      rw [hy]
      refine ⟨?_, rfl, rfl, by rw [if_neg hk]; rfl, fun hn => ?_⟩
      · unfold Pl.tot Pl.next
        rw [hc]
        cases x.rest <;> rfl
      · unfold Pl.next at hn ⊢
        simp only [List.head?_eq_none_iff] at hn
        simp [hn]
    · rename_i e
      obtain ⟨y', hy', h1, h2⟩ := h.old p z hz
      exact ⟨y', hy', fun hp => h1 (by omega), fun hp => h2 (by omega)⟩
  · rw [List.getElem?_set] at hz
    split at hz
    · rename_i e
      subst e
      simp only [Option.some.injEq] at hz
      subst hz
      exact hf
    · exact Nat.lt_of_lt_of_le (h.fbs p z hz hzc) u.size
theorem rdV_one {w : World} {a : Option Addr} {n cap : Nat} {vs : List Value} (h : RdV w (.slice a n cap) vs) (i : Nat) (x : Value) (hx : vs[i]? = some x) : ∃ g off, a = some ⟨g, off, none⟩ ∧ g < w.heap.size ∧ w.cell? ⟨g, off + i, none⟩ = some x := by
  have hlt := (List.getElem?_eq_some_iff.1 hx).1
  rcases h with ⟨a', cap', e, rfl⟩ | ⟨b, off, cap', e, -, -, -, hb, hc⟩
  · simp at hlt
  · simp only [Value.slice.injEq] at e
    refine ⟨b, off, e.1, hb, ?_⟩
    rw [hc i hlt, List.getD_eq_getElem?_getD, hx]; rfl
/-- What New makes. -/
def NewTo (w0 : World) (ss : List Pl) (w : World) (e : Ending) (w' : World) : Prop :=
  ∃ mb ps, e = .returned (.pointer (some ⟨mb, 0, none⟩)) ∧ w.heap.size ≤ mb ∧ MgAt w0 w' mb ps ∧ ps.length = ss.length ∧ (∀ (p : Nat) (x' : Pl), ps[p]? = some x' → ∃ x, ss[p]? = some x ∧ Asked x x') ∧ UpdT mS w0.heap.size w w'
theorem NewW.end (h : NewW w0 w qb ss ps vS v q ss.length wr) (hs : ∀ (p : Nat) (x : Pl), ss[p]? = some x → x.cur = none ∧ SrtW x.tot ∧ (x.k = 0 → x.rest = [])) (hl : ss.length ≤ 1000000000) (hh : HeapTo (frnt ps) w0.heap.size qb v q wr w2) :
    NewTo w0 ss w (.returned (.pointer (some ⟨w2.heap.size, 0, none⟩))) (w2.alloc (.cells #[.pointer (some ⟨qb, 0, none⟩)] 61)) := by
  obtain ⟨q2, k1, k2, k3, k4⟩ := hh
  have u2 : Below w2.heap.size w2 (w2.alloc (.cells #[.pointer (some ⟨qb, 0, none⟩)] 61)) := (Below.refl _ w2).alloc (Nat.le_refl _) _
  have hold : ∀ (p : Nat) (x' : Pl), ps[p]? = some x' → ∃ x, ss[p]? = some x ∧ Asked x x' := fun p x' hx' => by
    obtain ⟨x, hx, h1, -⟩ := h.old p x' hx'
    exact ⟨x, hx, h1 (List.getElem?_eq_some_iff.1 hx).1⟩
  refine ⟨_, ps, rfl, Nat.le_trans h.upd.size k2.size, ⟨qb, v, q2, BlkAt.new _ _ _, (MgM.below ⟨k1, (by rw [h.len]; exact h.m.st.updQ (k2.mono pf_q (Nat.le_refl _))), fun p => k3.mem_iff.trans (h.m.mem p), k3.nodup_iff.2 h.m.nodup⟩ u2), k4, ⟨fun p x' hx' => ?_, fun p x' hx' => ?_⟩, by rw [k3.length_eq]; have := h.ql; omega⟩, h.len, hold, (h.upd.trans (k2.mono (fun t ht => qT_mS t (pf_q t ht)) (Nat.le_refl _))).to u2⟩
  · obtain ⟨x, hx, ha⟩ := hold p x' hx'
    rw [ha.tot]; exact (hs p x hx).2.1
  · obtain ⟨x, hx, ha⟩ := hold p x' hx'
    exact ha.fin
set_option maxHeartbeats 8000000 in
theorem mgNew_any (h : SrcsAt w0 w ss) (hr : OwnV 47 0 w vS (ss.map Pl.iv)) (hl : ss.length ≤ 1000000000) : Calls Try.prog 11 #[vS] w (NewTo w0 ss w) := by
  have HW := Lib.hid (NewW.start h hr)
  have HS := Lib.hid h.cur
  have HB0 := Lib.hid h.base.size
  obtain ⟨a, cap, rfl⟩ : ∃ a cap, vS = .slice a ss.length cap := by
    rcases hr.nilOr with ⟨rfl, e⟩ | ⟨g, cap, rfl, -⟩
    · rw [List.map_eq_nil_iff.1 e]; exact ⟨_, _, rfl⟩
    · rw [List.length_map]; exact ⟨_, _, rfl⟩
  obtain ⟨L, hL⟩ : ∃ L, ss.length = L := ⟨_, rfl⟩
  have HL := Lib.hid hL
  rw [hL] at HW hl ⊢
  have HEND : Hid (∀ ps v q wr w2, NewW w0 w w.heap.size ss ps (.slice a L cap) v q L wr → HeapTo (frnt ps) w0.heap.size w.heap.size v q wr w2 → NewTo w0 ss w (.returned (.pointer (some ⟨w2.heap.size, 0, none⟩))) (w2.alloc (.cells #[.pointer (some ⟨w.heap.size, 0, none⟩)] 61))) := Lib.hid fun ps v q wr w2 h1 h2 => by
    subst hL; exact h1.end HS.out hl h2
  clear h hr hL
  obtain ⟨qb, hqb⟩ : ∃ qb, w.heap.size = qb := ⟨_, rfl⟩
  rw [hqb] at HW HEND
  go_enter Try.func11, Try.ntmps11
  go_wp2_with fail
  go_loopg [9] L (fun kk vi wr => ∃ i : Nat, vi = .int .i64 i ∧ i ≤ L ∧ L - i ≤ kk ∧ Hid (∃ ps v q, NewW w0 w qb ss ps (.slice a L cap) v q i wr))
  case atStart => exact ⟨0, rfl, by omega, by omega, Lib.hid ⟨_, _, _, HW.out⟩⟩
  case round =>
    obtain ⟨i, rfl, hi, hkk, HN⟩ := hrel
    have hi0 : (0 : Int) ≤ (i : Int) := by omega
    clear HW
    by_cases hiL : i < L
    · have hiI : (i : Int) < (L : Int) := by omega
      have hid : decide (i < L) = true := decide_eq_true hiL
      obtain ⟨ps, v, q, H⟩ := HN.out
      obtain ⟨x, hx⟩ : ∃ x, ss[i]? = some x := ⟨ss[i]'(by have := HL.out; omega), List.getElem?_eq_getElem _⟩
      have hxp : ps[i]? = some x := by
        have hlt : i < ps.length := by rw [H.len, HL.out]; exact hiL
        obtain ⟨y, hy, -, h2⟩ := H.old i _ (List.getElem?_eq_getElem hlt)
        rw [hx] at hy
        obtain rfl := Option.some.inj hy
        rw [List.getElem?_eq_getElem hlt, h2 (Nat.le_refl _)]
      obtain ⟨hxc, hxs, hx0⟩ := HS.out i x hx
      obtain ⟨g, off, e, hg, hcell⟩ := rdV_one H.row.rd i x.iv (by rw [List.getElem?_map, hx]; rfl)
      obtain rfl := e
      have HH := Lib.hid H
      have HX := Lib.hid (And.intro hx (And.intro hxp (And.intro hxc hx0)))
      clear H HN hxs
      by_cases hk : x.k = 0
      · have hiv : x.iv = .nilIface := if_pos hk
        rw [hiv] at hcell
        have q2 := eq_none2
        have HN2 := Lib.hid (HH.out.skip HX.out.1 hk HX.out.2.2.1 (HX.out.2.2.2 hk))
        clear HH HX hx hxp hxc hx0 HEND
        go_wp2_with fail
        go_roundg (L - (i + 1))
        case measure => omega
        case rel => exact ⟨i + 1, by go_num, by omega, Nat.le_refl _, Lib.hid ⟨_, _, _, HN2.out⟩⟩
      · have hiv : x.iv = .iface (tyS x.k) (.pointer (some ⟨x.sb, 0, none⟩)) := if_neg hk
        rw [hiv] at hcell
        have q2 := eq_none1 (tyS x.k) x.sb
        have hmf : ∀ (fn : Fn) (first cap : Array Value) (w : World), (Instr.makeFunc fn first cap).run Try.prog w = .ok (.func fn first cap) w := fun _ _ _ _ => rfl
        obtain ⟨fb, hfb⟩ : ∃ fb, wr.heap.size = fb := ⟨_, rfl⟩
        obtain ⟨w3, hw3⟩ : ∃ w3, wr.alloc (.cells #[.string ⟨#[]⟩, .int .i64 0, .int .i64 0, .string ⟨#[]⟩, .string ⟨#[]⟩, nxF (tyS x.k) x.sb, .int .i64 (i : Int)] 57) = w3 := ⟨_, rfl⟩
        have u3 : Below wr.heap.size wr w3 := by rw [← hw3]; exact (Below.refl _ _).alloc (Nat.le_refl _) _
        have hfr3 : BlkAt w3 fb (frC ⟨fb, Ent.none, nxF (tyS x.k) x.sb⟩ i) 57 := by rw [← hw3, ← hfb]; exact BlkAt.new _ _ _
        have hM3 := HH.out.m.below u3
        obtain ⟨ssrc, sbase⟩ := hM3.st.src i x HX.out.2.1 hk
        rw [if_pos (.inr (Nat.le_refl _))] at ssrc
        have HA := Lib.hid (adv_any ssrc hM3.st.base sbase hfr3)
        have hfbb : w0.heap.size ≤ fb := by rw [← hfb]; exact HH.out.m.st.base.size
        have HF := Lib.hid (And.intro ssrc (And.intro hfr3 (And.intro sbase (And.intro hfbb (And.intro hM3 u3)))))
        have HQB : Hid (w3.cell? ⟨qb, 0, none⟩ = some v) := Lib.hid (hM3.hq.var.at 0)
        have HFB := Lib.hid hfb
        obtain ⟨r, hr⟩ : ∃ r, x.rest.head?.isSome = r := ⟨_, rfl⟩
        have HR := Lib.hid hr
        rw [hr] at HA
        clear ssrc sbase hfr3 hM3 u3 hr hiv hx hxp hxc hx0 hfbb
        go_wp2_with fail
        refine HA.out.mono ?_
        rintro e w4 ⟨rfl, a1, a2, a3⟩
        have A4 := Lib.hid (HF.out.2.2.2.2.1.first HX.out.2.1 HX.out.2.2.1 hk HF.out.2.1 HF.out.2.2.2.1 (fun p z hz hzc => by have := HH.out.fbs p z hz hzc; have := HFB.out; omega) (by rw [HR.out]; exact a1) a2 a3)
        have U4 : Hid (UpdT mS w0.heap.size wr w4) := Lib.hid ((UpdT.of HF.out.2.2.2.2.2).trans (adv_upd a3 HF.out.1 HF.out.2.1 HF.out.2.2.1 HF.out.2.2.2.1))
        have hlp : i < ps.length := (List.getElem?_eq_some_iff.1 HX.out.2.1).1
        have hset0 : (ps.set i { x.next with fb := fb })[i]? = some { x.next with fb := fb } := by rw [List.getElem?_set, if_pos rfl, if_pos hlp]
        have HS0 := Lib.hid hset0
        have HF4 : Hid (fb < w4.heap.size) := Lib.hid (by have := HF.out.2.1.lt; have := a3.size; omega)
        clear a1 a2 a3 HA HF hw3 HQB hset0
        cases r
        · have hn : ({ x.next with fb := fb } : Pl).cur = none := by
            have := HR.out
            unfold Pl.next
            simpa using this
          have HN2 := Lib.hid (HH.out.step (y := { x.next with fb := fb }) HX.out.1 hk HX.out.2.2.1 rfl (A4.out.none HS0.out hn) (by omega) U4.out HF4.out)
          clear HH A4 U4 HX HS0 HF4 hn HEND HR
          go_wp2_with fail
          go_roundg (L - (i + 1))
          case measure => omega
          case rel => exact ⟨i + 1, by go_num, by omega, Nat.le_refl _, Lib.hid ⟨_, _, _, HN2.out⟩⟩
        · have hn : ({ x.next with fb := fb } : Pl).cur.isSome = true := HR.out
          have c0 : w4.cell? ⟨qb, 0, none⟩ = some v := A4.out.hq.var.at 0
          have HOW := Lib.hid (pf_rows.1 A4.out.hq.row)
          have HCS : Hid ((encPt (frnt (ps.set i { x.next with fb := fb })) i).toArray = #[.pointer (some ⟨fb, 0, none⟩)]) := Lib.hid (by unfold encPt; rw [frnt_at HS0.out]; rfl)
          have hv1 := A4.out.hq.one
          go_wp2_with (at_builtin; refine wp_oneK elemK_pf (encPt_len _) _ _ (by rfl) (by rfl) (by rfl) HOW.out i _ HCS.out _ (by rfl) (by rfl) (fun u hu => by rcases List.mem_cons.1 hu with rfl | hu; rfl; cases hu) ?c1 ?c2 A4.out.st.base.size ?_)
          case c1 => have := HH.out.ql; omega
          case c2 => have := HH.out.ql; unfold maxLen; omega
          intro v5 wq o5 b5 u5 n5
          obtain ⟨a5, c5, rfl, -, -⟩ := o5.kform
          obtain ⟨d1, d2, d3⟩ := A4.out.hq.appd i A4.out.frt o5 u5
          have HN2 := Lib.hid (HH.out.step (y := { x.next with fb := fb }) HX.out.1 hk HX.out.2.2.1 rfl (A4.out.push HS0.out hn d2 (.refl _) d3) (by simp) (U4.out.trans (d3.mono qT_mS (Nat.le_refl _))) (Nat.lt_of_lt_of_le HF4.out d3.size))
          have e0 := d1.at 0
          have f0 := d1.free 0
          simp only [List.getElem?_toArray, List.getElem?_cons_zero] at e0
          generalize (q ++ [i]).length = n5' at *
          clear HH A4 U4 HX HS0 HF4 hn HEND HR d1 d2 d3 o5 b5 u5 n5 HOW HCS
          go_wp2_with fail
          go_roundg (L - (i + 1))
          case measure => omega
          case rel => exact ⟨i + 1, by go_num, by omega, Nat.le_refl _, Lib.hid ⟨_, _, _, HN2.out⟩⟩
    · obtain rfl : i = L := by omega
      have hnI : ¬ (i : Int) < (i : Int) := by omega
      have hid : decide (i < i) = false := decide_eq_false hiL
      obtain ⟨ps, v, q, H⟩ := HN.out
      have hv1 := H.m.hq.one
      have HI := Lib.hid (init_any H.m.hq (by have := H.ql; omega))
      have HH := Lib.hid H
      clear H HN
      go_wp2_with fail
      refine HI.out.mono ?_
      rintro e w2 ⟨rfl, hh⟩
      have HE := Lib.hid (HEND.out ps v q wr w2 HH.out hh)
      clear hh HH HI HEND
      go_wp2_with fail
      go_ret
      exact HE.out
end
end Go.Proofs.Ytmndhmodcglkjaa
