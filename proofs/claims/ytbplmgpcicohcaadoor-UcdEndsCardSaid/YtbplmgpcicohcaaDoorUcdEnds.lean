/- The walk of the law UcdEnds. -/
import Derived.Test.YtbplmgpcicohcaaDoorUcdLaw
import Derived.Deep.RegionHeld3
import Derived.Deep.RegionWith
namespace Go.Proofs.YtbplmgpcicohcaaDoor
set_option linter.unusedVariables false
open Go.RowKit

def ordB : List Int → Bool
  | y :: x :: r => (!decide (0 < classP x) || decide (classP y ≤ classP x)) && ordB (x :: r)
  | _ => true
theorem ordB_ok : ∀ (l : List Int), ordB l = true → ∀ (i : Nat) (x y : Int), l[i]? = some y → l[i + 1]? = some x → 0 < classP x → classP y ≤ classP x
  | [], _, i, x, y, h, _, _ => by simp at h
  | [a], _, i, x, y, _, h, _ => by simp at h
  | a :: b :: r, h, i, x, y, h1, h2, h3 => by
    unfold ordB at h
    rw [Bool.and_eq_true, Bool.or_eq_true] at h
    cases i with
    | zero =>
      have e1 : a = y := by simpa using h1
      have e2 : b = x := by simpa using h2
      subst e1 e2
      rcases h.1 with g | g
      · simp at g; omega
      · exact of_decide_eq_true g
    | succ i => exact ordB_ok (b :: r) h.2 i x y (by simpa using h1) (by simpa using h2) h3
def fitE (l : List UInt8) : Bool :=
  let m := (fieldsP (rdM l).2.2).map numI
  m.all (fun x => decide (mapP x = [])) && ordB m && !decide (m = [((rdM l).1 : Int)]) && decide ((rdM l).1 = (rdM l).2.1)
theorem fitsE : mapLines.all fitE = true := by decide +kernel
theorem ends_ok (c : Int) : (∀ x ∈ mapP c, mapP x = []) ∧ ordB (mapP c) = true ∧ mapP c ≠ [c] := by
  rcases find_mem rdM c mapLines with h | ⟨l, hl, h, h1, h2⟩
  · have : mapP c = [] := by rw [mapP_num, h]; rfl
    rw [this]; exact ⟨fun _ h => (by cases h), rfl, by simp⟩
  · have := List.all_eq_true.1 fitsE l hl
    unfold fitE at this
    simp only [Bool.and_eq_true, decide_eq_true_eq, List.all_eq_true] at this
    obtain ⟨⟨⟨g1, g2⟩, g3⟩, g4⟩ := this
    rw [mapP_num, h]
    refine ⟨g1, g2, fun e => ?_⟩
    rw [e] at g3
    have : c = ((rdM l).1 : Int) := by omega
    simp [this] at g3
def NoneRes (w0 : World) (e : Ending) (w' : World) : Prop := ∃ a cap, e = .returned (.slice a 0 cap) ∧ Below w0.heap.size w0 w'
def ClsRes (w0 : World) (n : Int) (e : Ending) (w' : World) : Prop := e = .returned (.int .i64 n) ∧ Below w0.heap.size w0 w'
theorem takeYes {P : Program} {md : Region.Mode} {ops : Array Oper} {Q : Exit → Act → World → Prop} {S : World → Prop} {i k : Nat} {oi : Oper} {v : Value} {fuel : Nat} {listed : Array Bool} {a : Act} {w : World} (ho : ops[i]? = some oi) (hd : oi.dst = some k)
    (hs : Region.noSelect ops = true) (hf : Region.free md ops listed i = true) (hr : (Region.ready md ops listed).contains i = true) (hQ : ∀ c a w, Q (.panic c) (a.put (some k) v) w → Q (.panic c) a w)
    (hw : Region.wanted oi (yielded ops a.tmps) = true) (hy : ∀ w, S w → (execOp a.eval oi).run P w = .ok (.value v) w) (hS : S w)
    (h : wpAnyH P md ops Q S fuel (listed.setIfInBounds i true) (a.put (some k) v) w) : wpAnyH P md ops Q S (fuel + 1) listed a w :=
  wpAnyH_take ho hs hf hr (by rw [hd]; exact hQ) (Or.inl ⟨hw, hy⟩) hS (by rw [hd]; exact h)
/-- an operation whose guard is shut, taken first. -/
theorem takeNot {P : Program} {md : Region.Mode} {ops : Array Oper} {Q : Exit → Act → World → Prop} {S : World → Prop} {i k : Nat} {fuel : Nat} {listed : Array Bool} {a : Act} {w : World} (hd : (ops[i]?).map Oper.dst = some (some k))
    (hs : Region.noSelect ops = true) (hf : Region.free md ops listed i = true) (hr : (Region.ready md ops listed).contains i = true) (hQ : ∀ c a w, Q (.panic c) (a.put (some k) undef) w → Q (.panic c) a w)
    (hw : (ops[i]?).map (fun o => Region.wanted o (yielded ops a.tmps)) = some false) (hS : S w)
    (h : wpAnyH P md ops Q S fuel (listed.setIfInBounds i true) (a.put (some k) undef) w) : wpAnyH P md ops Q S (fuel + 1) listed a w := by
  obtain ⟨o, ho, hdo⟩ := Option.map_eq_some_iff.1 hd
  obtain ⟨o', ho', hwo⟩ := Option.map_eq_some_iff.1 hw
  obtain rfl : o = o' := Option.some.inj (ho.symm.trans ho')
  exact wpAnyH_take ho hs hf hr (by rw [hdo]; exact hQ) (Or.inr ⟨hwo, rfl⟩) hS (by rw [hdo]; exact h)
/-- what a round's test keeps of the world. -/
def EndsS (wr : World) (b p q : Nat) (x y : Int) (w' : World) : Prop := w'.cell? ⟨b, p, none⟩ = some (.int .i64 x) ∧ w'.cell? ⟨b, q, none⟩ = some (.int .i64 y) ∧ Below wr.heap.size wr w'
theorem keepS {wr : World} {b p q : Nat} {x y : Int} {W W' : World} (h : EndsS wr b p q x y W) (hb : Below wr.heap.size wr W') (hlt : b < wr.heap.size) : EndsS wr b p q x y W' := by
  obtain ⟨h1, h2, h3⟩ := h
  refine ⟨?_, ?_, hb⟩
  · rw [hb.cell (p := ⟨b, p, none⟩) hlt, ← h3.cell (p := ⟨b, p, none⟩) hlt]; exact h1
  · rw [hb.cell (p := ⟨b, q, none⟩) hlt, ← h3.cell (p := ⟨b, q, none⟩) hlt]; exact h2
theorem mapNone {w wr : World} (hE : ErrAt w) (hSp : SpAt w) (hb : Below w.heap.size w wr) {x : Int} (h0 : 0 ≤ x) (h1 : x < 1099511627776) (h : mapP x = []) (W : World) (hW : Below wr.heap.size wr W) :
    Calls Tryd.prog 10 #[.int .i64 x] W (NoneRes wr) := by
  have hb' := hb.trans (hW.mono hb.size)
  refine (map_any x (by omega) (by omega) W (hE.below hb') (hSp.below hb' hSp.1)).mono ?_
  rw [h]
  intro e w' hm
  obtain ⟨v, rfl, hv, hbv⟩ := hm.cases
  rcases hv.cases with ⟨a, cap, rfl, -⟩ | ⟨b, off, cap, -, h', -⟩
  · exact ⟨a, cap, rfl, hW.trans (hbv.mono hW.size)⟩
  · exact absurd h' (by simp)
theorem clsAt {w wr : World} (hE : ErrAt w) (hb : Below w.heap.size w wr) {x : Int} (h0 : 0 ≤ x) (h1 : x < 1099511627776) (W : World) (hW : Below wr.heap.size wr W) :
    Calls Tryd.prog 7 #[.int .i64 x] W (ClsRes wr (classP x)) := by
  have hb' := hb.trans (hW.mono hb.size)
  refine (class_any x (by omega) (by omega) W (hE.below hb')).mono ?_
  rintro e w' ⟨rfl, hbv⟩
  exact ⟨rfl, hW.trans (hbv.mono hW.size)⟩
theorem mapP_bd (c : Int) : ∀ x ∈ mapP c, 0 ≤ x ∧ x < 1099511627776 := by
  obtain ⟨fs, -, h, -⟩ := mapFields c
  rw [h]
  intro x hx
  obtain ⟨f, -, rfl⟩ := List.mem_map.1 hx
  have := numB_bd (b := 16) (by decide) (digsB_ok f.2)
  unfold fldI; omega
set_option maxHeartbeats 8000000 in
set_option maxRecDepth 100000 in
theorem ucdEnds_walk (w : World) (hE : ErrAt w) (hSp : SpAt w) (c : Int) (wf : (Lit.int .i64 c).wf = true) :
    Calls Tryd.prog 4 #[.int .i64 c] w fun e w' => e = .returned (.bool true) ∧ Below w.heap.size w w' := by
  obtain ⟨hc0, hc1⟩ := wf_bd wf
  have HM := Lib.hid (fun w h g => map_any c hc0 hc1 w h g)
  obtain ⟨e1, e2, e3⟩ := ends_ok c
  have H1 := Lib.hid e1
  have H2 := Lib.hid (ordB_ok _ e2)
  have H3 := Lib.hid e3
  have HB := Lib.hid (mapP_bd c)
  have hlen := mapP_len c
  have hg := hSp.1
  clear e1 e2 e3
  generalize mapP c = L at *
  go_enter Tryd.func4, Tryd.ntmps4
  go_wp2_with fail
  refine (ubegun_any _ hE hSp).mono ?_
  rintro e w1 ⟨rfl, hb1⟩
  go_wp2_with fail
  refine (HM.out _ (hE.below hb1) (hSp.below hb1 hg)).mono ?_
  intro e w2 hm
  obtain ⟨v, rfl, hv, hb2⟩ := hm.cases
  have hb2' := hb1.trans (hb2.mono hb1.size)
  clear hm hb1 hb2 HM
  rcases hv.cases with ⟨a, cap, rfl, rfl⟩ | ⟨b, off, cap, rfl, hpos, hcap, hmax, hbl, hcell⟩
  · clear hv
    go_wp2
    refine wp_loop_rounds 1 ?_
    rw [rounds_succ]
    go_wp2
    go_ret
    exact ⟨rfl, hb2'⟩
  · clear hv
    obtain ⟨n, hn⟩ : ∃ n, L.length = n := ⟨_, rfl⟩
    rw [hn] at hpos hcap hcell hlen ⊢
    have HN := Lib.hid hn
    have HC := Lib.hid hcell
    clear hn hcell hmax
    go_wp2
    go_loopw [5] (fun i wr => ∃ k : Nat, i = .int .i64 k ∧ k ≤ n ∧ Below w2.heap.size w2 wr) (fun i _ => n - (intOf i).toNat)
    case atStart => exact ⟨0, rfl, Nat.zero_le _, Below.refl _ _⟩
    case round =>
      obtain ⟨k, rfl, hk, hbel⟩ := hrel
      have hbr : Below w.heap.size w wr := hb2'.trans (hbel.mono hb2'.size)
      have hblr : b < wr.heap.size := Nat.lt_of_lt_of_le hbl hbel.size
      by_cases hkn : k < n
      · obtain ⟨x, hx⟩ : ∃ x, L[k]? = some x := ⟨_, List.getElem?_eq_getElem (by rw [HN.out]; exact hkn)⟩
        have hxm := List.mem_of_getElem? hx
        have hc : wr.cell? ⟨b, off + k, none⟩ = some (.int .i64 x) := by
          rw [hbel.cell (p := ⟨b, off + k, none⟩) hbl, HC.out k hkn, List.getD_eq_getElem?_getD, hx]; rfl
        have HMx := Lib.hid (fun W hW => mapNone hE hSp hbr (HB.out x hxm).1 (HB.out x hxm).2 (H1.out x hxm) W hW)
        have HCx := Lib.hid (fun W hW => clsAt hE hbr (HB.out x hxm).1 (HB.out x hxm).2 W hW)
        have h00 : (0 : Int) ≤ (k : Int) := by omega
        have hc0k := hc
        have hkn' : (k : Int) < (n : Int) := by omega
        rcases Nat.eq_zero_or_pos k with hk0 | hk0
        · subst hk0
          have hc : wr.cell? ⟨b, off, none⟩ = some (.int .i64 x) := hc
          clear hx hxm hc0k HCx
          go_wp2
          refine wp_region_held_drew (S := EndsS wr b off off x x) (by kernel_rfl) ⟨hc, hc, (Below.refl _ _).drew⟩ (fun hHeld => ?_)
          refine takeYes (i := 0) (k := 17) (v := .slice (some ⟨b, off, none⟩) n cap) rfl (by kernel_rfl) (by kernel_rfl) (by kernel_rfl) (by kernel_rfl) (fun _ _ _ h => h) (by kernel_rfl) ?_ (by assumption) ?_
          · intro W hSw; obtain ⟨hp, hq, -⟩ := hSw; first | (go_simp; done) | (go_simp)
          try simp only [Act.put, List.setIfInBounds_toArray, List.set_cons_zero, List.set_cons_succ]
          refine takeYes (i := 1) (k := 18) (v := .int .i64 0) rfl (by kernel_rfl) (by kernel_rfl) (by kernel_rfl) (by kernel_rfl) (fun _ _ _ h => h) (by kernel_rfl) ?_ (by assumption) ?_
          · intro W hSw; obtain ⟨hp, hq, -⟩ := hSw; first | (go_simp; done) | (go_simp)
          try simp only [Act.put, List.setIfInBounds_toArray, List.set_cons_zero, List.set_cons_succ]
          refine takeYes (i := 2) (k := 19) (v := .pointer (some ⟨b, off, none⟩)) rfl (by kernel_rfl) (by kernel_rfl) (by kernel_rfl) (by kernel_rfl) (fun _ _ _ h => h) (by kernel_rfl) ?_ (by assumption) ?_
          · intro W hSw; obtain ⟨hp, hq, -⟩ := hSw; first | (go_simp; done) | (go_simp)
          try simp only [Act.put, List.setIfInBounds_toArray, List.set_cons_zero, List.set_cons_succ]
          refine takeYes (i := 3) (k := 20) (v := .int .i64 x) rfl (by kernel_rfl) (by kernel_rfl) (by kernel_rfl) (by kernel_rfl) (fun _ _ _ h => h) (by kernel_rfl) ?_ (by assumption) ?_
          · intro W hSw; obtain ⟨hp, hq, -⟩ := hSw; first | (go_simp; done) | (go_simp)
          try simp only [Act.put, List.setIfInBounds_toArray, List.set_cons_zero, List.set_cons_succ]
          refine wpAnyH_ready (rs := [4]) (by kernel_rfl) (by simp) (AllReadyH.cons rfl (fun K hK => ?_) AllReadyH.nil)
          go_simp
          refine ((HMx.out _ hHeld.2.2)).mono ?_
          rintro e w4 ⟨a4, cap4, rfl, hb4⟩
          refine hK.out _ _ ?_ (fun hHeld2 => ?_)
          · exact keepS hHeld (by assumption) hblr
          clear hK K hHeld
          have hHeld := hHeld2
          clear hHeld2
          try simp only [Act.put, List.setIfInBounds_toArray, List.set_cons_zero, List.set_cons_succ]
          refine takeYes (i := 5) (k := 22) (v := .int .i64 0) rfl (by kernel_rfl) (by kernel_rfl) (by kernel_rfl) (by kernel_rfl) (fun _ _ _ h => h) (by kernel_rfl) ?_ (by assumption) ?_
          · intro W hSw; obtain ⟨hp, hq, -⟩ := hSw; first | (go_simp; done) | (go_simp)
          try simp only [Act.put, List.setIfInBounds_toArray, List.set_cons_zero, List.set_cons_succ]
          refine takeYes (i := 6) (k := 23) (v := .bool false) rfl (by kernel_rfl) (by kernel_rfl) (by kernel_rfl) (by kernel_rfl) (fun _ _ _ h => h) (by kernel_rfl) ?_ (by assumption) ?_
          · intro W hSw; obtain ⟨hp, hq, -⟩ := hSw; first | (go_simp; done) | (go_simp)
          try simp only [Act.put, List.setIfInBounds_toArray, List.set_cons_zero, List.set_cons_succ]
          refine takeYes (i := 7) (k := 24) (v := .bool false) rfl (by kernel_rfl) (by kernel_rfl) (by kernel_rfl) (by kernel_rfl) (fun _ _ _ h => h) (by kernel_rfl) ?_ (by assumption) ?_
          · intro W hSw; obtain ⟨hp, hq, -⟩ := hSw; first | (go_simp; done) | (go_simp)
          try simp only [Act.put, List.setIfInBounds_toArray, List.set_cons_zero, List.set_cons_succ]
          refine takeYes (i := 8) (k := 25) (v := .int .i64 0) rfl (by kernel_rfl) (by kernel_rfl) (by kernel_rfl) (by kernel_rfl) (fun _ _ _ h => h) (by kernel_rfl) ?_ (by assumption) ?_
          · intro W hSw; obtain ⟨hp, hq, -⟩ := hSw; first | (go_simp; done) | (go_simp)
          try simp only [Act.put, List.setIfInBounds_toArray, List.set_cons_zero, List.set_cons_succ]
          refine takeYes (i := 9) (k := 26) (v := .bool false) rfl (by kernel_rfl) (by kernel_rfl) (by kernel_rfl) (by kernel_rfl) (fun _ _ _ h => h) (by kernel_rfl) ?_ (by assumption) ?_
          · intro W hSw; obtain ⟨hp, hq, -⟩ := hSw; first | (go_simp; done) | (go_simp)
          try simp only [Act.put, List.setIfInBounds_toArray, List.set_cons_zero, List.set_cons_succ]
          refine takeYes (i := 10) (k := 27) (v := .bool false) rfl (by kernel_rfl) (by kernel_rfl) (by kernel_rfl) (by kernel_rfl) (fun _ _ _ h => h) (by kernel_rfl) ?_ (by assumption) ?_
          · intro W hSw; obtain ⟨hp, hq, -⟩ := hSw; first | (go_simp; done) | (go_simp)
          try simp only [Act.put, List.setIfInBounds_toArray, List.set_cons_zero, List.set_cons_succ]
          refine takeNot (i := 11) (k := 28) (by kernel_rfl) (by kernel_rfl) (by kernel_rfl) (by kernel_rfl) (fun _ _ _ h => h) (by kernel_rfl) (by assumption) ?_
          try simp only [Act.put, List.setIfInBounds_toArray, List.set_cons_zero, List.set_cons_succ]
          refine takeNot (i := 12) (k := 29) (by kernel_rfl) (by kernel_rfl) (by kernel_rfl) (by kernel_rfl) (fun _ _ _ h => h) (by kernel_rfl) (by assumption) ?_
          try simp only [Act.put, List.setIfInBounds_toArray, List.set_cons_zero, List.set_cons_succ]
          refine takeNot (i := 13) (k := 30) (by kernel_rfl) (by kernel_rfl) (by kernel_rfl) (by kernel_rfl) (fun _ _ _ h => h) (by kernel_rfl) (by assumption) ?_
          try simp only [Act.put, List.setIfInBounds_toArray, List.set_cons_zero, List.set_cons_succ]
          refine takeNot (i := 14) (k := 31) (by kernel_rfl) (by kernel_rfl) (by kernel_rfl) (by kernel_rfl) (fun _ _ _ h => h) (by kernel_rfl) (by assumption) ?_
          try simp only [Act.put, List.setIfInBounds_toArray, List.set_cons_zero, List.set_cons_succ]
          refine takeNot (i := 15) (k := 32) (by kernel_rfl) (by kernel_rfl) (by kernel_rfl) (by kernel_rfl) (fun _ _ _ h => h) (by kernel_rfl) (by assumption) ?_
          try simp only [Act.put, List.setIfInBounds_toArray, List.set_cons_zero, List.set_cons_succ]
          refine takeNot (i := 16) (k := 33) (by kernel_rfl) (by kernel_rfl) (by kernel_rfl) (by kernel_rfl) (fun _ _ _ h => h) (by kernel_rfl) (by assumption) ?_
          try simp only [Act.put, List.setIfInBounds_toArray, List.set_cons_zero, List.set_cons_succ]
          refine takeYes (i := 17) (k := 34) (v := .bool false) rfl (by kernel_rfl) (by kernel_rfl) (by kernel_rfl) (by kernel_rfl) (fun _ _ _ h => h) (by kernel_rfl) ?_ (by assumption) ?_
          · intro W hSw; obtain ⟨hp, hq, -⟩ := hSw; first | (go_simp; done) | (go_simp)
          try simp only [Act.put, List.setIfInBounds_toArray, List.set_cons_zero, List.set_cons_succ]
          refine takeYes (i := 18) (k := 35) (v := .bool false) rfl (by kernel_rfl) (by kernel_rfl) (by kernel_rfl) (by kernel_rfl) (fun _ _ _ h => h) (by kernel_rfl) ?_ (by assumption) ?_
          · intro W hSw; obtain ⟨hp, hq, -⟩ := hSw; first | (go_simp; done) | (go_simp)
          try simp only [Act.put, List.setIfInBounds_toArray, List.set_cons_zero, List.set_cons_succ]
          refine takeNot (i := 19) (k := 36) (by kernel_rfl) (by kernel_rfl) (by kernel_rfl) (by kernel_rfl) (fun _ _ _ h => h) (by kernel_rfl) (by assumption) ?_
          try simp only [Act.put, List.setIfInBounds_toArray, List.set_cons_zero, List.set_cons_succ]
          refine takeNot (i := 20) (k := 37) (by kernel_rfl) (by kernel_rfl) (by kernel_rfl) (by kernel_rfl) (fun _ _ _ h => h) (by kernel_rfl) (by assumption) ?_
          try simp only [Act.put, List.setIfInBounds_toArray, List.set_cons_zero, List.set_cons_succ]
          refine takeNot (i := 21) (k := 38) (by kernel_rfl) (by kernel_rfl) (by kernel_rfl) (by kernel_rfl) (fun _ _ _ h => h) (by kernel_rfl) (by assumption) ?_
          try simp only [Act.put, List.setIfInBounds_toArray, List.set_cons_zero, List.set_cons_succ]
          refine takeNot (i := 22) (k := 39) (by kernel_rfl) (by kernel_rfl) (by kernel_rfl) (by kernel_rfl) (fun _ _ _ h => h) (by kernel_rfl) (by assumption) ?_
          try simp only [Act.put, List.setIfInBounds_toArray, List.set_cons_zero, List.set_cons_succ]
          refine takeNot (i := 23) (k := 40) (by kernel_rfl) (by kernel_rfl) (by kernel_rfl) (by kernel_rfl) (fun _ _ _ h => h) (by kernel_rfl) (by assumption) ?_
          try simp only [Act.put, List.setIfInBounds_toArray, List.set_cons_zero, List.set_cons_succ]
          refine takeNot (i := 24) (k := 41) (by kernel_rfl) (by kernel_rfl) (by kernel_rfl) (by kernel_rfl) (fun _ _ _ h => h) (by kernel_rfl) (by assumption) ?_
          try simp only [Act.put, List.setIfInBounds_toArray, List.set_cons_zero, List.set_cons_succ]
          refine takeNot (i := 25) (k := 42) (by kernel_rfl) (by kernel_rfl) (by kernel_rfl) (by kernel_rfl) (fun _ _ _ h => h) (by kernel_rfl) (by assumption) ?_
          try simp only [Act.put, List.setIfInBounds_toArray, List.set_cons_zero, List.set_cons_succ]
          refine takeNot (i := 26) (k := 43) (by kernel_rfl) (by kernel_rfl) (by kernel_rfl) (by kernel_rfl) (fun _ _ _ h => h) (by kernel_rfl) (by assumption) ?_
          try simp only [Act.put, List.setIfInBounds_toArray, List.set_cons_zero, List.set_cons_succ]
          refine takeNot (i := 27) (k := 44) (by kernel_rfl) (by kernel_rfl) (by kernel_rfl) (by kernel_rfl) (fun _ _ _ h => h) (by kernel_rfl) (by assumption) ?_
          try simp only [Act.put, List.setIfInBounds_toArray, List.set_cons_zero, List.set_cons_succ]
          refine takeNot (i := 28) (k := 45) (by kernel_rfl) (by kernel_rfl) (by kernel_rfl) (by kernel_rfl) (fun _ _ _ h => h) (by kernel_rfl) (by assumption) ?_
          try simp only [Act.put, List.setIfInBounds_toArray, List.set_cons_zero, List.set_cons_succ]
          refine takeNot (i := 29) (k := 46) (by kernel_rfl) (by kernel_rfl) (by kernel_rfl) (by kernel_rfl) (fun _ _ _ h => h) (by kernel_rfl) (by assumption) ?_
          try simp only [Act.put, List.setIfInBounds_toArray, List.set_cons_zero, List.set_cons_succ]
          refine takeNot (i := 30) (k := 47) (by kernel_rfl) (by kernel_rfl) (by kernel_rfl) (by kernel_rfl) (fun _ _ _ h => h) (by kernel_rfl) (by assumption) ?_
          try simp only [Act.put, List.setIfInBounds_toArray, List.set_cons_zero, List.set_cons_succ]
          refine takeYes (i := 31) (k := 48) (v := .bool false) rfl (by kernel_rfl) (by kernel_rfl) (by kernel_rfl) (by kernel_rfl) (fun _ _ _ h => h) (by kernel_rfl) ?_ (by assumption) ?_
          · intro W hSw; obtain ⟨hp, hq, -⟩ := hSw; first | (go_simp; done) | (go_simp)
          try simp only [Act.put, List.setIfInBounds_toArray, List.set_cons_zero, List.set_cons_succ]
          refine takeYes (i := 32) (k := 49) (v := .bool false) rfl (by kernel_rfl) (by kernel_rfl) (by kernel_rfl) (by kernel_rfl) (fun _ _ _ h => h) (by kernel_rfl) ?_ (by assumption) ?_
          · intro W hSw; obtain ⟨hp, hq, -⟩ := hSw; first | (go_simp; done) | (go_simp)
          try simp only [Act.put, List.setIfInBounds_toArray, List.set_cons_zero, List.set_cons_succ]
          refine wpAnyH_done (by kernel_rfl) ?_ _
          have hbn := hHeld.2.2
          clear hHeld
          go_wp2
          go_roundw
          case rel => exact ⟨1, by go_num, by omega, hbel.trans (hbn.mono hbel.size)⟩
          case measure => simp [intOf]; omega
        · obtain ⟨j, rfl⟩ : ∃ j, k = j + 1 := ⟨k - 1, by omega⟩
          obtain ⟨y, hy⟩ : ∃ y, L[j]? = some y := ⟨_, List.getElem?_eq_getElem (by rw [HN.out]; omega)⟩
          have hym := List.mem_of_getElem? hy
          have hcy : wr.cell? ⟨b, off + j, none⟩ = some (.int .i64 y) := by
            rw [hbel.cell (p := ⟨b, off + j, none⟩) hbl, HC.out j (by omega), List.getD_eq_getElem?_getD, hy]; rfl
          have hxy := H2.out j x y hy hx
          have HCl : Hid (∀ z : Int, 0 ≤ z → z < 1099511627776 → ∀ W, Below wr.heap.size wr W → Calls Tryd.prog 7 #[.int .i64 z] W (ClsRes wr (classP z))) := Lib.hid fun z h0 h1 W hW => clsAt hE hbr h0 h1 W hW
          obtain ⟨bx0, bx1⟩ := HB.out x hxm
          obtain ⟨by0, by1⟩ := HB.out y hym
          obtain ⟨cx, hcx⟩ : ∃ cx, classP x = cx := ⟨_, rfl⟩
          obtain ⟨cy, hcy2⟩ : ∃ cy, classP y = cy := ⟨_, rfl⟩
          have HCX : Hid (∀ W, Below wr.heap.size wr W → Calls Tryd.prog 7 #[.int .i64 x] W (ClsRes wr cx)) := Lib.hid fun W hW => by have := HCl.out x bx0 bx1 W hW; rwa [hcx] at this
          have HCY : Hid (∀ W, Below wr.heap.size wr W → Calls Tryd.prog 7 #[.int .i64 y] W (ClsRes wr cy)) := Lib.hid fun W hW => by have := HCl.out y by0 by1 W hW; rwa [hcy2] at this
          rw [hcx, hcy2] at hxy
          have e1 : ((j + 1 : Nat) : Int) - 1 = (j : Int) := by omega
          have e2 : IntKind.i64.wrap (j : Int) = (j : Int) := i64_small j (by omega)
          have e3 : (0 : Int) ≤ (j : Int) + 1 := by omega
          have e4 : (j : Int) + 1 < (n : Int) := by omega
          have e5 : (j : Int) < (n : Int) := by omega
          have e6 : (0 : Int) ≤ (j : Int) := by omega
          clear hx hxm hc0k HCx HCl hy hym hcx hcy2 hk0
          by_cases hpx : 0 < cx
          · have hle := hxy hpx
            have dle : decide (cx < cy) = false := by simpa using hle
            have dpx : decide (0 < cx) = true := by simpa using hpx
            go_wp2
            refine wp_region_held_drew (S := EndsS wr b (off + (j + 1)) (off + j) x y) (by kernel_rfl) ⟨hc, hcy, (Below.refl _ _).drew⟩ (fun hHeld => ?_)
            refine takeYes (i := 0) (k := 17) (v := .slice (some ⟨b, off, none⟩) n cap) rfl (by kernel_rfl) (by kernel_rfl) (by kernel_rfl) (by kernel_rfl) (fun _ _ _ h => h) (by kernel_rfl) ?_ (by assumption) ?_
            · intro W hSw; obtain ⟨hp, hq, -⟩ := hSw; first | (go_simp; done) | (go_simp)
            try simp only [Act.put, List.setIfInBounds_toArray, List.set_cons_zero, List.set_cons_succ]
            refine takeYes (i := 1) (k := 18) (v := .int .i64 ((j + 1 : Nat) : Int)) rfl (by kernel_rfl) (by kernel_rfl) (by kernel_rfl) (by kernel_rfl) (fun _ _ _ h => h) (by kernel_rfl) ?_ (by assumption) ?_
            · intro W hSw; obtain ⟨hp, hq, -⟩ := hSw; first | (go_simp; done) | (go_simp)
            try simp only [Act.put, List.setIfInBounds_toArray, List.set_cons_zero, List.set_cons_succ]
            refine takeYes (i := 2) (k := 19) (v := .pointer (some ⟨b, off + (j + 1), none⟩)) rfl (by kernel_rfl) (by kernel_rfl) (by kernel_rfl) (by kernel_rfl) (fun _ _ _ h => h) (by kernel_rfl) ?_ (by assumption) ?_
            · intro W hSw; obtain ⟨hp, hq, -⟩ := hSw; first | (go_simp; done) | (go_simp)
            try simp only [Act.put, List.setIfInBounds_toArray, List.set_cons_zero, List.set_cons_succ]
            refine takeYes (i := 3) (k := 20) (v := .int .i64 x) rfl (by kernel_rfl) (by kernel_rfl) (by kernel_rfl) (by kernel_rfl) (fun _ _ _ h => h) (by kernel_rfl) ?_ (by assumption) ?_
            · intro W hSw; obtain ⟨hp, hq, -⟩ := hSw; first | (go_simp; done) | (go_simp)
            try simp only [Act.put, List.setIfInBounds_toArray, List.set_cons_zero, List.set_cons_succ]
            refine wpAnyH_ready (rs := [4]) (by kernel_rfl) (by simp) (AllReadyH.cons rfl (fun K hK => ?_) AllReadyH.nil)
            go_simp
            refine ((HMx.out _ hHeld.2.2)).mono ?_
            rintro e w4 ⟨a4, cap4, rfl, hb4⟩
            refine hK.out _ _ ?_ (fun hHeld2 => ?_)
            · exact keepS hHeld (by assumption) hblr
            clear hK K hHeld
            have hHeld := hHeld2
            clear hHeld2
            try simp only [Act.put, List.setIfInBounds_toArray, List.set_cons_zero, List.set_cons_succ]
            refine takeYes (i := 5) (k := 22) (v := .int .i64 0) rfl (by kernel_rfl) (by kernel_rfl) (by kernel_rfl) (by kernel_rfl) (fun _ _ _ h => h) (by kernel_rfl) ?_ (by assumption) ?_
            · intro W hSw; obtain ⟨hp, hq, -⟩ := hSw; first | (go_simp; done) | (go_simp)
            try simp only [Act.put, List.setIfInBounds_toArray, List.set_cons_zero, List.set_cons_succ]
            refine takeYes (i := 6) (k := 23) (v := .bool false) rfl (by kernel_rfl) (by kernel_rfl) (by kernel_rfl) (by kernel_rfl) (fun _ _ _ h => h) (by kernel_rfl) ?_ (by assumption) ?_
            · intro W hSw; obtain ⟨hp, hq, -⟩ := hSw; first | (go_simp; done) | (go_simp)
            try simp only [Act.put, List.setIfInBounds_toArray, List.set_cons_zero, List.set_cons_succ]
            refine takeYes (i := 7) (k := 24) (v := .bool false) rfl (by kernel_rfl) (by kernel_rfl) (by kernel_rfl) (by kernel_rfl) (fun _ _ _ h => h) (by kernel_rfl) ?_ (by assumption) ?_
            · intro W hSw; obtain ⟨hp, hq, -⟩ := hSw; first | (go_simp; done) | (go_simp)
            try simp only [Act.put, List.setIfInBounds_toArray, List.set_cons_zero, List.set_cons_succ]
            refine takeYes (i := 8) (k := 25) (v := .int .i64 ((j + 1 : Nat) : Int)) rfl (by kernel_rfl) (by kernel_rfl) (by kernel_rfl) (by kernel_rfl) (fun _ _ _ h => h) (by kernel_rfl) ?_ (by assumption) ?_
            · intro W hSw; obtain ⟨hp, hq, -⟩ := hSw; first | (go_simp; done) | (go_simp)
            try simp only [Act.put, List.setIfInBounds_toArray, List.set_cons_zero, List.set_cons_succ]
            refine takeYes (i := 9) (k := 26) (v := .bool true) rfl (by kernel_rfl) (by kernel_rfl) (by kernel_rfl) (by kernel_rfl) (fun _ _ _ h => h) (by kernel_rfl) ?_ (by assumption) ?_
            · intro W hSw; obtain ⟨hp, hq, -⟩ := hSw; first | (go_simp; done) | (go_simp; omega)
            try simp only [Act.put, List.setIfInBounds_toArray, List.set_cons_zero, List.set_cons_succ]
            refine takeYes (i := 10) (k := 27) (v := .bool true) rfl (by kernel_rfl) (by kernel_rfl) (by kernel_rfl) (by kernel_rfl) (fun _ _ _ h => h) (by kernel_rfl) ?_ (by assumption) ?_
            · intro W hSw; obtain ⟨hp, hq, -⟩ := hSw; first | (go_simp; done) | (go_simp; omega)
            try simp only [Act.put, List.setIfInBounds_toArray, List.set_cons_zero, List.set_cons_succ]
            refine takeYes (i := 11) (k := 28) (v := .slice (some ⟨b, off, none⟩) n cap) rfl (by kernel_rfl) (by kernel_rfl) (by kernel_rfl) (by kernel_rfl) (fun _ _ _ h => h) (by kernel_rfl) ?_ (by assumption) ?_
            · intro W hSw; obtain ⟨hp, hq, -⟩ := hSw; first | (go_simp; done) | (go_simp)
            try simp only [Act.put, List.setIfInBounds_toArray, List.set_cons_zero, List.set_cons_succ]
            refine takeYes (i := 12) (k := 29) (v := .int .i64 ((j + 1 : Nat) : Int)) rfl (by kernel_rfl) (by kernel_rfl) (by kernel_rfl) (by kernel_rfl) (fun _ _ _ h => h) (by kernel_rfl) ?_ (by assumption) ?_
            · intro W hSw; obtain ⟨hp, hq, -⟩ := hSw; first | (go_simp; done) | (go_simp)
            try simp only [Act.put, List.setIfInBounds_toArray, List.set_cons_zero, List.set_cons_succ]
            refine takeYes (i := 13) (k := 30) (v := .pointer (some ⟨b, off + (j + 1), none⟩)) rfl (by kernel_rfl) (by kernel_rfl) (by kernel_rfl) (by kernel_rfl) (fun _ _ _ h => h) (by kernel_rfl) ?_ (by assumption) ?_
            · intro W hSw; obtain ⟨hp, hq, -⟩ := hSw; first | (go_simp; done) | (go_simp)
            try simp only [Act.put, List.setIfInBounds_toArray, List.set_cons_zero, List.set_cons_succ]
            refine takeYes (i := 14) (k := 31) (v := .int .i64 x) rfl (by kernel_rfl) (by kernel_rfl) (by kernel_rfl) (by kernel_rfl) (fun _ _ _ h => h) (by kernel_rfl) ?_ (by assumption) ?_
            · intro W hSw; obtain ⟨hp, hq, -⟩ := hSw; first | (go_simp; done) | (go_simp)
            try simp only [Act.put, List.setIfInBounds_toArray, List.set_cons_zero, List.set_cons_succ]
            refine wpAnyH_ready (rs := [15]) (by kernel_rfl) (by simp) (AllReadyH.cons rfl (fun K hK => ?_) AllReadyH.nil)
            go_simp
            refine ((HCX.out _ hHeld.2.2)).mono ?_
            rintro e w5 ⟨rfl, hb5⟩
            refine hK.out _ _ ?_ (fun hHeld2 => ?_)
            · exact keepS hHeld (by assumption) hblr
            clear hK K hHeld
            have hHeld := hHeld2
            clear hHeld2
            try simp only [Act.put, List.setIfInBounds_toArray, List.set_cons_zero, List.set_cons_succ]
            refine takeYes (i := 16) (k := 33) (v := .bool true) rfl (by kernel_rfl) (by kernel_rfl) (by kernel_rfl) (by kernel_rfl) (fun _ _ _ h => h) (by kernel_rfl) ?_ (by assumption) ?_
            · intro W hSw; obtain ⟨hp, hq, -⟩ := hSw; first | (go_simp; done) | (go_simp)
            try simp only [Act.put, List.setIfInBounds_toArray, List.set_cons_zero, List.set_cons_succ]
            refine takeYes (i := 17) (k := 34) (v := .bool true) rfl (by kernel_rfl) (by kernel_rfl) (by kernel_rfl) (by kernel_rfl) (fun _ _ _ h => h) (by kernel_rfl) ?_ (by assumption) ?_
            · intro W hSw; obtain ⟨hp, hq, -⟩ := hSw; first | (go_simp; done) | (go_simp)
            try simp only [Act.put, List.setIfInBounds_toArray, List.set_cons_zero, List.set_cons_succ]
            refine takeYes (i := 18) (k := 35) (v := .bool true) rfl (by kernel_rfl) (by kernel_rfl) (by kernel_rfl) (by kernel_rfl) (fun _ _ _ h => h) (by kernel_rfl) ?_ (by assumption) ?_
            · intro W hSw; obtain ⟨hp, hq, -⟩ := hSw; first | (go_simp; done) | (go_simp)
            try simp only [Act.put, List.setIfInBounds_toArray, List.set_cons_zero, List.set_cons_succ]
            refine takeYes (i := 19) (k := 36) (v := .slice (some ⟨b, off, none⟩) n cap) rfl (by kernel_rfl) (by kernel_rfl) (by kernel_rfl) (by kernel_rfl) (fun _ _ _ h => h) (by kernel_rfl) ?_ (by assumption) ?_
            · intro W hSw; obtain ⟨hp, hq, -⟩ := hSw; first | (go_simp; done) | (go_simp)
            try simp only [Act.put, List.setIfInBounds_toArray, List.set_cons_zero, List.set_cons_succ]
            refine takeYes (i := 20) (k := 37) (v := .int .i64 ((j + 1 : Nat) : Int)) rfl (by kernel_rfl) (by kernel_rfl) (by kernel_rfl) (by kernel_rfl) (fun _ _ _ h => h) (by kernel_rfl) ?_ (by assumption) ?_
            · intro W hSw; obtain ⟨hp, hq, -⟩ := hSw; first | (go_simp; done) | (go_simp)
            try simp only [Act.put, List.setIfInBounds_toArray, List.set_cons_zero, List.set_cons_succ]
            refine takeYes (i := 21) (k := 38) (v := .int .i64 (j : Int)) rfl (by kernel_rfl) (by kernel_rfl) (by kernel_rfl) (by kernel_rfl) (fun _ _ _ h => h) (by kernel_rfl) ?_ (by assumption) ?_
            · intro W hSw; obtain ⟨hp, hq, -⟩ := hSw; first | (go_simp; done) | (go_simp)
            try simp only [Act.put, List.setIfInBounds_toArray, List.set_cons_zero, List.set_cons_succ]
            refine takeYes (i := 22) (k := 39) (v := .pointer (some ⟨b, off + j, none⟩)) rfl (by kernel_rfl) (by kernel_rfl) (by kernel_rfl) (by kernel_rfl) (fun _ _ _ h => h) (by kernel_rfl) ?_ (by assumption) ?_
            · intro W hSw; obtain ⟨hp, hq, -⟩ := hSw; first | (go_simp; done) | (go_simp)
            try simp only [Act.put, List.setIfInBounds_toArray, List.set_cons_zero, List.set_cons_succ]
            refine takeYes (i := 23) (k := 40) (v := .int .i64 y) rfl (by kernel_rfl) (by kernel_rfl) (by kernel_rfl) (by kernel_rfl) (fun _ _ _ h => h) (by kernel_rfl) ?_ (by assumption) ?_
            · intro W hSw; obtain ⟨hp, hq, -⟩ := hSw; first | (go_simp; done) | (go_simp)
            try simp only [Act.put, List.setIfInBounds_toArray, List.set_cons_zero, List.set_cons_succ]
            refine takeYes (i := 25) (k := 42) (v := .slice (some ⟨b, off, none⟩) n cap) rfl (by kernel_rfl) (by kernel_rfl) (by kernel_rfl) (by kernel_rfl) (fun _ _ _ h => h) (by kernel_rfl) ?_ (by assumption) ?_
            · intro W hSw; obtain ⟨hp, hq, -⟩ := hSw; first | (go_simp; done) | (go_simp)
            try simp only [Act.put, List.setIfInBounds_toArray, List.set_cons_zero, List.set_cons_succ]
            refine takeYes (i := 26) (k := 43) (v := .int .i64 ((j + 1 : Nat) : Int)) rfl (by kernel_rfl) (by kernel_rfl) (by kernel_rfl) (by kernel_rfl) (fun _ _ _ h => h) (by kernel_rfl) ?_ (by assumption) ?_
            · intro W hSw; obtain ⟨hp, hq, -⟩ := hSw; first | (go_simp; done) | (go_simp)
            try simp only [Act.put, List.setIfInBounds_toArray, List.set_cons_zero, List.set_cons_succ]
            refine takeYes (i := 27) (k := 44) (v := .pointer (some ⟨b, off + (j + 1), none⟩)) rfl (by kernel_rfl) (by kernel_rfl) (by kernel_rfl) (by kernel_rfl) (fun _ _ _ h => h) (by kernel_rfl) ?_ (by assumption) ?_
            · intro W hSw; obtain ⟨hp, hq, -⟩ := hSw; first | (go_simp; done) | (go_simp)
            try simp only [Act.put, List.setIfInBounds_toArray, List.set_cons_zero, List.set_cons_succ]
            refine takeYes (i := 28) (k := 45) (v := .int .i64 x) rfl (by kernel_rfl) (by kernel_rfl) (by kernel_rfl) (by kernel_rfl) (fun _ _ _ h => h) (by kernel_rfl) ?_ (by assumption) ?_
            · intro W hSw; obtain ⟨hp, hq, -⟩ := hSw; first | (go_simp; done) | (go_simp)
            try simp only [Act.put, List.setIfInBounds_toArray, List.set_cons_zero, List.set_cons_succ]
            refine wpAnyH_ready (rs := [24]) (by kernel_rfl) (by simp) (AllReadyH.cons rfl (fun K hK => ?_) AllReadyH.nil)
            go_simp
            refine ((HCY.out _ hHeld.2.2)).mono ?_
            rintro e w6 ⟨rfl, hb6⟩
            refine hK.out _ _ ?_ (fun hHeld2 => ?_)
            · exact keepS hHeld (by assumption) hblr
            clear hK K hHeld
            have hHeld := hHeld2
            clear hHeld2
            try simp only [Act.put, List.setIfInBounds_toArray, List.set_cons_zero, List.set_cons_succ]
            refine wpAnyH_ready (rs := [29]) (by kernel_rfl) (by simp) (AllReadyH.cons rfl (fun K hK => ?_) AllReadyH.nil)
            go_simp
            refine ((HCX.out _ hHeld.2.2)).mono ?_
            rintro e w7 ⟨rfl, hb7⟩
            refine hK.out _ _ ?_ (fun hHeld2 => ?_)
            · exact keepS hHeld (by assumption) hblr
            clear hK K hHeld
            have hHeld := hHeld2
            clear hHeld2
            try simp only [Act.put, List.setIfInBounds_toArray, List.set_cons_zero, List.set_cons_succ]
            refine takeYes (i := 30) (k := 47) (v := .bool false) rfl (by kernel_rfl) (by kernel_rfl) (by kernel_rfl) (by kernel_rfl) (fun _ _ _ h => h) (by kernel_rfl) ?_ (by assumption) ?_
            · intro W hSw; obtain ⟨hp, hq, -⟩ := hSw; first | (go_simp; done) | (go_simp)
            try simp only [Act.put, List.setIfInBounds_toArray, List.set_cons_zero, List.set_cons_succ]
            refine takeYes (i := 31) (k := 48) (v := .bool false) rfl (by kernel_rfl) (by kernel_rfl) (by kernel_rfl) (by kernel_rfl) (fun _ _ _ h => h) (by kernel_rfl) ?_ (by assumption) ?_
            · intro W hSw; obtain ⟨hp, hq, -⟩ := hSw; first | (go_simp; done) | (go_simp)
            try simp only [Act.put, List.setIfInBounds_toArray, List.set_cons_zero, List.set_cons_succ]
            refine takeYes (i := 32) (k := 49) (v := .bool false) rfl (by kernel_rfl) (by kernel_rfl) (by kernel_rfl) (by kernel_rfl) (fun _ _ _ h => h) (by kernel_rfl) ?_ (by assumption) ?_
            · intro W hSw; obtain ⟨hp, hq, -⟩ := hSw; first | (go_simp; done) | (go_simp)
            try simp only [Act.put, List.setIfInBounds_toArray, List.set_cons_zero, List.set_cons_succ]
            refine wpAnyH_done (by kernel_rfl) ?_ _
            have hbn := hHeld.2.2
            clear hHeld
            go_wp2
            go_roundw
            case rel => exact ⟨j + 1 + 1, by go_num, by omega, hbel.trans (hbn.mono hbel.size)⟩
            case measure => simp [intOf]; omega
          · have dpx : decide (0 < cx) = false := by simpa using hpx
            clear hxy
            go_wp2
            refine wp_region_held_drew (S := EndsS wr b (off + (j + 1)) (off + j) x y) (by kernel_rfl) ⟨hc, hcy, (Below.refl _ _).drew⟩ (fun hHeld => ?_)
            refine takeYes (i := 0) (k := 17) (v := .slice (some ⟨b, off, none⟩) n cap) rfl (by kernel_rfl) (by kernel_rfl) (by kernel_rfl) (by kernel_rfl) (fun _ _ _ h => h) (by kernel_rfl) ?_ (by assumption) ?_
            · intro W hSw; obtain ⟨hp, hq, -⟩ := hSw; first | (go_simp; done) | (go_simp)
            try simp only [Act.put, List.setIfInBounds_toArray, List.set_cons_zero, List.set_cons_succ]
            refine takeYes (i := 1) (k := 18) (v := .int .i64 ((j + 1 : Nat) : Int)) rfl (by kernel_rfl) (by kernel_rfl) (by kernel_rfl) (by kernel_rfl) (fun _ _ _ h => h) (by kernel_rfl) ?_ (by assumption) ?_
            · intro W hSw; obtain ⟨hp, hq, -⟩ := hSw; first | (go_simp; done) | (go_simp)
            try simp only [Act.put, List.setIfInBounds_toArray, List.set_cons_zero, List.set_cons_succ]
            refine takeYes (i := 2) (k := 19) (v := .pointer (some ⟨b, off + (j + 1), none⟩)) rfl (by kernel_rfl) (by kernel_rfl) (by kernel_rfl) (by kernel_rfl) (fun _ _ _ h => h) (by kernel_rfl) ?_ (by assumption) ?_
            · intro W hSw; obtain ⟨hp, hq, -⟩ := hSw; first | (go_simp; done) | (go_simp)
            try simp only [Act.put, List.setIfInBounds_toArray, List.set_cons_zero, List.set_cons_succ]
            refine takeYes (i := 3) (k := 20) (v := .int .i64 x) rfl (by kernel_rfl) (by kernel_rfl) (by kernel_rfl) (by kernel_rfl) (fun _ _ _ h => h) (by kernel_rfl) ?_ (by assumption) ?_
            · intro W hSw; obtain ⟨hp, hq, -⟩ := hSw; first | (go_simp; done) | (go_simp)
            try simp only [Act.put, List.setIfInBounds_toArray, List.set_cons_zero, List.set_cons_succ]
            refine wpAnyH_ready (rs := [4]) (by kernel_rfl) (by simp) (AllReadyH.cons rfl (fun K hK => ?_) AllReadyH.nil)
            go_simp
            refine ((HMx.out _ hHeld.2.2)).mono ?_
            rintro e w4 ⟨a4, cap4, rfl, hb4⟩
            refine hK.out _ _ ?_ (fun hHeld2 => ?_)
            · exact keepS hHeld (by assumption) hblr
            clear hK K hHeld
            have hHeld := hHeld2
            clear hHeld2
            try simp only [Act.put, List.setIfInBounds_toArray, List.set_cons_zero, List.set_cons_succ]
            refine takeYes (i := 5) (k := 22) (v := .int .i64 0) rfl (by kernel_rfl) (by kernel_rfl) (by kernel_rfl) (by kernel_rfl) (fun _ _ _ h => h) (by kernel_rfl) ?_ (by assumption) ?_
            · intro W hSw; obtain ⟨hp, hq, -⟩ := hSw; first | (go_simp; done) | (go_simp)
            try simp only [Act.put, List.setIfInBounds_toArray, List.set_cons_zero, List.set_cons_succ]
            refine takeYes (i := 6) (k := 23) (v := .bool false) rfl (by kernel_rfl) (by kernel_rfl) (by kernel_rfl) (by kernel_rfl) (fun _ _ _ h => h) (by kernel_rfl) ?_ (by assumption) ?_
            · intro W hSw; obtain ⟨hp, hq, -⟩ := hSw; first | (go_simp; done) | (go_simp)
            try simp only [Act.put, List.setIfInBounds_toArray, List.set_cons_zero, List.set_cons_succ]
            refine takeYes (i := 7) (k := 24) (v := .bool false) rfl (by kernel_rfl) (by kernel_rfl) (by kernel_rfl) (by kernel_rfl) (fun _ _ _ h => h) (by kernel_rfl) ?_ (by assumption) ?_
            · intro W hSw; obtain ⟨hp, hq, -⟩ := hSw; first | (go_simp; done) | (go_simp)
            try simp only [Act.put, List.setIfInBounds_toArray, List.set_cons_zero, List.set_cons_succ]
            refine takeYes (i := 8) (k := 25) (v := .int .i64 ((j + 1 : Nat) : Int)) rfl (by kernel_rfl) (by kernel_rfl) (by kernel_rfl) (by kernel_rfl) (fun _ _ _ h => h) (by kernel_rfl) ?_ (by assumption) ?_
            · intro W hSw; obtain ⟨hp, hq, -⟩ := hSw; first | (go_simp; done) | (go_simp)
            try simp only [Act.put, List.setIfInBounds_toArray, List.set_cons_zero, List.set_cons_succ]
            refine takeYes (i := 9) (k := 26) (v := .bool true) rfl (by kernel_rfl) (by kernel_rfl) (by kernel_rfl) (by kernel_rfl) (fun _ _ _ h => h) (by kernel_rfl) ?_ (by assumption) ?_
            · intro W hSw; obtain ⟨hp, hq, -⟩ := hSw; first | (go_simp; done) | (go_simp; omega)
            try simp only [Act.put, List.setIfInBounds_toArray, List.set_cons_zero, List.set_cons_succ]
            refine takeYes (i := 10) (k := 27) (v := .bool true) rfl (by kernel_rfl) (by kernel_rfl) (by kernel_rfl) (by kernel_rfl) (fun _ _ _ h => h) (by kernel_rfl) ?_ (by assumption) ?_
            · intro W hSw; obtain ⟨hp, hq, -⟩ := hSw; first | (go_simp; done) | (go_simp; omega)
            try simp only [Act.put, List.setIfInBounds_toArray, List.set_cons_zero, List.set_cons_succ]
            refine takeYes (i := 11) (k := 28) (v := .slice (some ⟨b, off, none⟩) n cap) rfl (by kernel_rfl) (by kernel_rfl) (by kernel_rfl) (by kernel_rfl) (fun _ _ _ h => h) (by kernel_rfl) ?_ (by assumption) ?_
            · intro W hSw; obtain ⟨hp, hq, -⟩ := hSw; first | (go_simp; done) | (go_simp)
            try simp only [Act.put, List.setIfInBounds_toArray, List.set_cons_zero, List.set_cons_succ]
            refine takeYes (i := 12) (k := 29) (v := .int .i64 ((j + 1 : Nat) : Int)) rfl (by kernel_rfl) (by kernel_rfl) (by kernel_rfl) (by kernel_rfl) (fun _ _ _ h => h) (by kernel_rfl) ?_ (by assumption) ?_
            · intro W hSw; obtain ⟨hp, hq, -⟩ := hSw; first | (go_simp; done) | (go_simp)
            try simp only [Act.put, List.setIfInBounds_toArray, List.set_cons_zero, List.set_cons_succ]
            refine takeYes (i := 13) (k := 30) (v := .pointer (some ⟨b, off + (j + 1), none⟩)) rfl (by kernel_rfl) (by kernel_rfl) (by kernel_rfl) (by kernel_rfl) (fun _ _ _ h => h) (by kernel_rfl) ?_ (by assumption) ?_
            · intro W hSw; obtain ⟨hp, hq, -⟩ := hSw; first | (go_simp; done) | (go_simp)
            try simp only [Act.put, List.setIfInBounds_toArray, List.set_cons_zero, List.set_cons_succ]
            refine takeYes (i := 14) (k := 31) (v := .int .i64 x) rfl (by kernel_rfl) (by kernel_rfl) (by kernel_rfl) (by kernel_rfl) (fun _ _ _ h => h) (by kernel_rfl) ?_ (by assumption) ?_
            · intro W hSw; obtain ⟨hp, hq, -⟩ := hSw; first | (go_simp; done) | (go_simp)
            try simp only [Act.put, List.setIfInBounds_toArray, List.set_cons_zero, List.set_cons_succ]
            refine wpAnyH_ready (rs := [15]) (by kernel_rfl) (by simp) (AllReadyH.cons rfl (fun K hK => ?_) AllReadyH.nil)
            go_simp
            refine ((HCX.out _ hHeld.2.2)).mono ?_
            rintro e w5 ⟨rfl, hb5⟩
            refine hK.out _ _ ?_ (fun hHeld2 => ?_)
            · exact keepS hHeld (by assumption) hblr
            clear hK K hHeld
            have hHeld := hHeld2
            clear hHeld2
            try simp only [Act.put, List.setIfInBounds_toArray, List.set_cons_zero, List.set_cons_succ]
            refine takeYes (i := 16) (k := 33) (v := .bool false) rfl (by kernel_rfl) (by kernel_rfl) (by kernel_rfl) (by kernel_rfl) (fun _ _ _ h => h) (by kernel_rfl) ?_ (by assumption) ?_
            · intro W hSw; obtain ⟨hp, hq, -⟩ := hSw; first | (go_simp; done) | (go_simp)
            try simp only [Act.put, List.setIfInBounds_toArray, List.set_cons_zero, List.set_cons_succ]
            refine takeYes (i := 17) (k := 34) (v := .bool false) rfl (by kernel_rfl) (by kernel_rfl) (by kernel_rfl) (by kernel_rfl) (fun _ _ _ h => h) (by kernel_rfl) ?_ (by assumption) ?_
            · intro W hSw; obtain ⟨hp, hq, -⟩ := hSw; first | (go_simp; done) | (go_simp)
            try simp only [Act.put, List.setIfInBounds_toArray, List.set_cons_zero, List.set_cons_succ]
            refine takeYes (i := 18) (k := 35) (v := .bool false) rfl (by kernel_rfl) (by kernel_rfl) (by kernel_rfl) (by kernel_rfl) (fun _ _ _ h => h) (by kernel_rfl) ?_ (by assumption) ?_
            · intro W hSw; obtain ⟨hp, hq, -⟩ := hSw; first | (go_simp; done) | (go_simp)
            try simp only [Act.put, List.setIfInBounds_toArray, List.set_cons_zero, List.set_cons_succ]
            refine takeNot (i := 19) (k := 36) (by kernel_rfl) (by kernel_rfl) (by kernel_rfl) (by kernel_rfl) (fun _ _ _ h => h) (by kernel_rfl) (by assumption) ?_
            try simp only [Act.put, List.setIfInBounds_toArray, List.set_cons_zero, List.set_cons_succ]
            refine takeNot (i := 20) (k := 37) (by kernel_rfl) (by kernel_rfl) (by kernel_rfl) (by kernel_rfl) (fun _ _ _ h => h) (by kernel_rfl) (by assumption) ?_
            try simp only [Act.put, List.setIfInBounds_toArray, List.set_cons_zero, List.set_cons_succ]
            refine takeNot (i := 21) (k := 38) (by kernel_rfl) (by kernel_rfl) (by kernel_rfl) (by kernel_rfl) (fun _ _ _ h => h) (by kernel_rfl) (by assumption) ?_
            try simp only [Act.put, List.setIfInBounds_toArray, List.set_cons_zero, List.set_cons_succ]
            refine takeNot (i := 22) (k := 39) (by kernel_rfl) (by kernel_rfl) (by kernel_rfl) (by kernel_rfl) (fun _ _ _ h => h) (by kernel_rfl) (by assumption) ?_
            try simp only [Act.put, List.setIfInBounds_toArray, List.set_cons_zero, List.set_cons_succ]
            refine takeNot (i := 23) (k := 40) (by kernel_rfl) (by kernel_rfl) (by kernel_rfl) (by kernel_rfl) (fun _ _ _ h => h) (by kernel_rfl) (by assumption) ?_
            try simp only [Act.put, List.setIfInBounds_toArray, List.set_cons_zero, List.set_cons_succ]
            refine takeNot (i := 24) (k := 41) (by kernel_rfl) (by kernel_rfl) (by kernel_rfl) (by kernel_rfl) (fun _ _ _ h => h) (by kernel_rfl) (by assumption) ?_
            try simp only [Act.put, List.setIfInBounds_toArray, List.set_cons_zero, List.set_cons_succ]
            refine takeNot (i := 25) (k := 42) (by kernel_rfl) (by kernel_rfl) (by kernel_rfl) (by kernel_rfl) (fun _ _ _ h => h) (by kernel_rfl) (by assumption) ?_
            try simp only [Act.put, List.setIfInBounds_toArray, List.set_cons_zero, List.set_cons_succ]
            refine takeNot (i := 26) (k := 43) (by kernel_rfl) (by kernel_rfl) (by kernel_rfl) (by kernel_rfl) (fun _ _ _ h => h) (by kernel_rfl) (by assumption) ?_
            try simp only [Act.put, List.setIfInBounds_toArray, List.set_cons_zero, List.set_cons_succ]
            refine takeNot (i := 27) (k := 44) (by kernel_rfl) (by kernel_rfl) (by kernel_rfl) (by kernel_rfl) (fun _ _ _ h => h) (by kernel_rfl) (by assumption) ?_
            try simp only [Act.put, List.setIfInBounds_toArray, List.set_cons_zero, List.set_cons_succ]
            refine takeNot (i := 28) (k := 45) (by kernel_rfl) (by kernel_rfl) (by kernel_rfl) (by kernel_rfl) (fun _ _ _ h => h) (by kernel_rfl) (by assumption) ?_
            try simp only [Act.put, List.setIfInBounds_toArray, List.set_cons_zero, List.set_cons_succ]
            refine takeNot (i := 29) (k := 46) (by kernel_rfl) (by kernel_rfl) (by kernel_rfl) (by kernel_rfl) (fun _ _ _ h => h) (by kernel_rfl) (by assumption) ?_
            try simp only [Act.put, List.setIfInBounds_toArray, List.set_cons_zero, List.set_cons_succ]
            refine takeNot (i := 30) (k := 47) (by kernel_rfl) (by kernel_rfl) (by kernel_rfl) (by kernel_rfl) (fun _ _ _ h => h) (by kernel_rfl) (by assumption) ?_
            try simp only [Act.put, List.setIfInBounds_toArray, List.set_cons_zero, List.set_cons_succ]
            refine takeYes (i := 31) (k := 48) (v := .bool false) rfl (by kernel_rfl) (by kernel_rfl) (by kernel_rfl) (by kernel_rfl) (fun _ _ _ h => h) (by kernel_rfl) ?_ (by assumption) ?_
            · intro W hSw; obtain ⟨hp, hq, -⟩ := hSw; first | (go_simp; done) | (go_simp)
            try simp only [Act.put, List.setIfInBounds_toArray, List.set_cons_zero, List.set_cons_succ]
            refine takeYes (i := 32) (k := 49) (v := .bool false) rfl (by kernel_rfl) (by kernel_rfl) (by kernel_rfl) (by kernel_rfl) (fun _ _ _ h => h) (by kernel_rfl) ?_ (by assumption) ?_
            · intro W hSw; obtain ⟨hp, hq, -⟩ := hSw; first | (go_simp; done) | (go_simp)
            try simp only [Act.put, List.setIfInBounds_toArray, List.set_cons_zero, List.set_cons_succ]
            refine wpAnyH_done (by kernel_rfl) ?_ _
            have hbn := hHeld.2.2
            clear hHeld
            go_wp2
            go_roundw
            case rel => exact ⟨j + 1 + 1, by go_num, by omega, hbel.trans (hbn.mono hbel.size)⟩
            case measure => simp [intOf]; omega
      · obtain rfl : k = n := by omega
        by_cases h1 : k = 1
        · obtain ⟨x, hx⟩ : ∃ x, L = [x] := List.length_eq_one_iff.1 (by rw [HN.out]; exact h1)
          have hxc : x ≠ c := fun e => H3.out (by rw [hx, e])
          have hc : wr.cell? ⟨b, off, none⟩ = some (.int .i64 x) := by
            have := HC.out 0 (by omega)
            rw [hx] at this
            rw [hbel.cell (p := ⟨b, off, none⟩) hbl]; exact this
          have hne : (x != c) = true := by simpa using hxc
          clear hx hxc HN
          subst h1
          go_wp2
          go_ret
          exact ⟨rfl, hbr⟩
        · have hne : ((k : Int) != 1) = true := by rw [bne_iff_ne]; omega
          clear h1
          go_wp2
          go_ret
          exact ⟨rfl, hbr⟩
end Go.Proofs.YtbplmgpcicohcaaDoor
