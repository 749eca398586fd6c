/- The walk of the law NormPlain. -/
import Derived.Test.YtmglnpnkkidnnaaDoorNormLaw2
import Derived.Deep.OwnRows
namespace Go.Proofs.YtmglnpnkkidnnaaDoor
set_option linter.unusedVariables false
open Go.RowKit
/-! ### bytes below 80 (hexadecimal) -/
theorem orderP_low (L : List Int) (h : ∀ x ∈ L, classP x ≤ 0) : orderP classP L = L := by
  induction L using snoc_ind with
  | h0 => rfl
  | h1 L x ih => rw [orderP_snoc, ih fun y hy => h y (by simp [hy]), ins_starter (h x (by simp))]
theorem read_plain (l : List UInt8) (h : ∀ b ∈ l, b.toNat < 128) : readP l = some (l.map fun b => (b.toNat : Int)) := by
  induction l with
  | nil => rfl
  | cons b r ih =>
    rw [readP_step (by simp), first1 b r (h b (by simp)), if_neg (by omega)]
    show (readP r).map _ = _
    rw [ih fun c hc => h c (by simp [hc])]; rfl
theorem text_plain (l : List UInt8) (h : ∀ b ∈ l, b.toNat < 128) : textP l = some l := by
  have hr := read_plain l h
  have lowx : ∀ x ∈ l.map (fun b => (b.toNat : Int)), x < 128 := fun x hx => by
    obtain ⟨b, hb, rfl⟩ := List.mem_map.1 hx
    have := h b hb; omega
  have hc : charsP (l.map fun b => (b.toNat : Int)) = l.map fun b => (b.toNat : Int) := by
    show orderP classP ((l.map fun b => (b.toNat : Int)).flatMap apartP) = _
    rw [flat_self _ fun x hx => apart_low x (lowx x hx)]
    exact orderP_low _ fun x hx => by rw [class_low x (by have := lowx x hx; omega)]; exact Int.le_refl _
  unfold textP
  rw [hr]
  show writeP (charsP _) = _
  rw [hc]
  exact write_read l _ hr
/-- b % 128. -/
def modB (x : Int) : UInt8 := UInt8.ofNat (x % 128).toNat
theorem bv_mod (x : Int) : bv (modB x) = .int .u8 (x % 128) := bv_of _ (by omega) (by omega)
theorem mod_low (x : Int) : (modB x).toNat < 128 := by unfold modB; rw [byte_of _ (by omega)]; omega
theorem u8_bd {c : Int} (wf : (Lit.int .u8 c).wf = true) : 0 ≤ c ∧ c ≤ 255 := by
  simp [Lit.wf, IntKind.min, IntKind.max, IntKind.signed, IntKind.bits] at wf; omega
theorem rdV_take {w : World} {b off len cap : Nat} {vs : List Value} (h : RdV w (.slice (some ⟨b, off, none⟩) len cap) vs) (n : Nat) (hn : n ≤ len) : RdV w (.slice (some ⟨b, off, none⟩) n cap) (vs.take n) := by
  rcases h with ⟨a, c, h1, h2⟩ | ⟨b', off', c, h1, h2, h3, h4, h5, h6⟩
  · simp only [Value.slice.injEq] at h1
    obtain ⟨-, h1, -⟩ := h1
    subst h1
    obtain rfl : n = 0 := by omega
    exact .inl ⟨_, cap, rfl, by simp⟩
  · simp only [Value.slice.injEq, Option.some.injEq, Addr.mk.injEq, and_true] at h1
    obtain ⟨⟨rfl, rfl⟩, rfl, rfl⟩ := h1
    rcases Nat.eq_zero_or_pos n with h0 | h0
    · subst h0; exact .inl ⟨_, cap, rfl, by simp⟩
    · have hl : (vs.take n).length = n := by rw [List.length_take]; omega
      refine .inr ⟨b, off, cap, by rw [hl], by rw [hl]; exact h0, by rw [hl]; omega, h4, h5, fun i hi => ?_⟩
      rw [hl] at hi
      rw [h6 i (by omega), List.getD_eq_getElem?_getD, List.getD_eq_getElem?_getD, List.getElem?_take_of_lt hi]
theorem rdV_len {w : World} {a : Option Addr} {len cap : Nat} {vs : List Value} (h : RdV w (.slice a len cap) vs) : len = vs.length ∧ (0 < len → (∃ b off, a = some ⟨b, off, none⟩) ∧ len ≤ cap) := by
  rcases h with ⟨a, c, h1, h2⟩ | ⟨b', off', c, h1, h2, h3, h4, h5, h6⟩
  · simp only [Value.slice.injEq] at h1; subst h2; exact ⟨h1.2.1, fun h => by omega⟩
  · simp only [Value.slice.injEq] at h1; exact ⟨h1.2.1, fun _ => ⟨⟨_, _, h1.1⟩, by omega⟩⟩
theorem rdV_cells {w : World} {a : Option Addr} {n cap : Nat} {vs : List Value} (h : RdV w (.slice a n cap) vs) (h0 : 0 < vs.length) : ∃ g off, a = some ⟨g, off, none⟩ ∧ g < w.heap.size ∧ ∀ i, i < vs.length → w.cell? ⟨g, off + i, none⟩ = some (vs.getD i undef) := by
  rcases h with ⟨a, c, h1, h2⟩ | ⟨b', off', c, h1, h2, h3, h4, h5, h6⟩
  · subst h2; simp at h0
  · simp only [Value.slice.injEq] at h1
    exact ⟨b', off', h1.1, h5, h6⟩
def NShort (zs : List Int) (w : World) (e : Ending) (w' : World) : Prop := ∃ (a : Option Addr) (n cap : Nat) (xs : List Int), e = .returned (.slice a n cap) ∧ RdV w (.slice a n cap) (xs.map (Value.int .u8)) ∧ xs.length ≤ 100 ∧ (∀ x ∈ xs, x ∈ zs) ∧ w = w'
set_option maxHeartbeats 1000000 in
theorem nshort_any (w : World) (a : Option Addr) (len cap : Nat) (zs : List Int) (hz : RdV w (.slice a len cap) (zs.map (Value.int .u8))) :
    Calls Tryd.prog 23 #[.slice a len cap, .int .i64 100] w (NShort zs w) := by
  obtain ⟨h1, h2⟩ := rdV_len hz
  by_cases h40 : 100 < len
  · obtain ⟨⟨b, off, rfl⟩, hc⟩ := h2 (by omega)
    have HT : Hid (RdV w (.slice (some ⟨b, off, none⟩) 100 cap) ((zs.take 100).map (Value.int .u8))) := Lib.hid (by rw [List.map_take]; exact rdV_take hz 100 (by omega))
    have hc60 : (100 : Int) ≤ (cap : Int) := by omega
    have hz40 : (100 : Int) < (len : Int) := by omega
    clear hz h1 h2
    go_enter Tryd.func23, Tryd.ntmps23
    go_wp2
    go_ret
    exact ⟨_, _, _, zs.take 100, rfl, HT.out, by rw [List.length_take]; omega, fun x hx => List.mem_of_mem_take hx, rfl⟩
  · have HT := Lib.hid hz
    have HL : Hid (zs.length ≤ 100) := Lib.hid (by rw [List.length_map] at h1; omega)
    have hz40 : ¬ (100 : Int) < (len : Int) := by omega
    clear hz h1 h2
    go_enter Tryd.func23, Tryd.ntmps23
    go_wp2
    go_ret
    exact ⟨_, _, _, zs, rfl, HT.out, HL.out, fun x hx => hx, rfl⟩
/-- The row after i steps. -/
def rowAt (xs : List Int) (i : Nat) : List Value := (xs.take i).map (fun x => Value.int .u8 (x % 128)) ++ List.replicate (xs.length - i) (Value.int .u8 0)
theorem rowAt_len (xs : List Int) (i : Nat) (h : i ≤ xs.length) : (rowAt xs i).length = xs.length := by unfold rowAt; simp; omega
theorem rowAt_step (xs : List Int) (i : Nat) (h : i < xs.length) : (rowAt xs i).set i (.int .u8 (xs[i]! % 128)) = rowAt xs (i + 1) := by
  unfold rowAt
  rw [take_at h, List.map_append, List.set_append_right _ _ (by simp; omega)]
  have e : i - ((xs.take i).map (fun x => Value.int .u8 (x % 128))).length = 0 := by simp; omega
  rw [e, show xs.length - i = (xs.length - (i + 1)) + 1 by omega, List.replicate_succ]
  simp
theorem rowAt_old (xs : List Int) (i : Nat) (h : i < xs.length) : (rowAt xs i)[i]? = some (.int .u8 0) := by
  unfold rowAt
  rw [List.getElem?_append_right (by simp; omega)]
  have e : i - ((xs.take i).map (fun x => Value.int .u8 (x % 128))).length = 0 := by simp; omega
  rw [e, show xs.length - i = (xs.length - (i + 1)) + 1 by omega, List.replicate_succ]; rfl
theorem rowAt_end (xs : List Int) : rowAt xs xs.length = (xs.map modB).map bv := by
  unfold rowAt; simp [bv_mod]
set_option maxHeartbeats 4000000 in
set_option maxRecDepth 100000 in
theorem normPlain_walk (w : World) (hE : ErrAt w) (hSp : SpAt w) (a : Option Addr) (len cap : Nat) (zs : List Int) (hz : RdV w (.slice a len cap) (zs.map (Value.int .u8))) (hw : ∀ n ∈ zs, (Lit.int .u8 n).wf = true) :
    Calls Tryd.prog 7 #[.slice a len cap] w fun e w' => e = .returned (.bool true) ∧ Below w.heap.size w w' := by
  have HES : Hid (∀ w', Below w.heap.size w w' → ErrAt w' ∧ SpAt w') := Lib.hid fun w' hb => ⟨hE.below hb, hSp.below hb hSp.1⟩
  have HB := Lib.hid (nbegun_any w hE hSp)
  have HZ := Lib.hid hz
  have HW := Lib.hid hw
  clear hE hSp hz hw
  go_enter Tryd.func7, Tryd.ntmps7
  go_wp2_with fail
  refine HB.out.mono ?_
  rintro e w1 ⟨rfl, hb1⟩
  have HC := Lib.hid (nshort_any w1 a len cap zs (RdV.below HZ.out hb1))
  clear HB HZ
  go_wp2_with fail
  refine HC.out.mono ?_
  rintro e w' ⟨a', n, cap', xs, rfl, hx, h100, hsub, rfl⟩
  have hn : n = xs.length := by have := (rdV_len hx).1; rwa [List.length_map] at this
  have HN : Hid (n = xs.length) := hn
  have hn100 : n ≤ 100 := by omega
  have HX := Lib.hid hx
  have hmk := run_make_row' (P := Tryd.prog) 36 5 (.int .u8 0) 1 Tryd.underlying36 (by kernel_rfl) rfl .i64 .i64 n (by omega) (by omega)
  have HROW : Hid ((w1.alloc (.cells (madeCells #[.int .u8 0] n) 5)).ownsRow w.heap.size 5 1 (.slice (some ⟨w1.heap.size, 0, none⟩) n n) n (rowAt xs 0)) := Lib.hid (by
    have := World.ownsRow_lit (base := w.heap.size) (e := 5) (size := 1) w1 (madeCells #[.int .u8 0] n) n hb1.size (by unfold maxLen; omega) (by rw [size_madeCells]; omega)
    rw [toList_madeCells_one] at this
    unfold rowAt
    rw [List.take_zero, List.map_nil, List.nil_append, Nat.sub_zero, ← HN.out]
    exact this)
  have HB2 : Hid (Below w.heap.size w (w1.alloc (.cells (madeCells #[.int .u8 0] n) 5))) := Lib.hid (hb1.alloc hb1.size _)
  obtain ⟨g, hg⟩ : ∃ g, w1.heap.size = g := ⟨_, rfl⟩
  have HG : Hid (w1.heap.size = g ∧ w.heap.size ≤ g) := ⟨hg, hg ▸ hb1.size⟩
  have HXG : Hid (0 < xs.length → ∃ g0 off, a' = some ⟨g0, off, none⟩ ∧ g0 < g ∧ ∀ i, i < xs.length → w1.cell? ⟨g0, off + i, none⟩ = some (.int .u8 xs[i]!)) := Lib.hid fun h0 => by
    obtain ⟨g0, off, e1, e2, e3⟩ := rdV_cells HX.out (by rw [List.length_map]; exact h0)
    refine ⟨g0, off, e1, by rw [← hg]; exact e2, fun i hi => ?_⟩
    have := e3 i (by rw [List.length_map]; exact hi)
    rw [this, List.getD_eq_getElem?_getD, List.getElem?_map, List.getElem?_eq_getElem hi, getElem!_pos xs i hi]; rfl
  have HBB : Hid (Below w.heap.size w w1) := Lib.hid hb1
  have HOK : Hid (∀ x ∈ xs, 0 ≤ x ∧ x ≤ 255) := Lib.hid fun x hxx => u8_bd (HW.out x (hsub x hxx))
  clear HC hx h100 hn hb1 hsub HW
  rw [hg] at HROW
  go_upto_region 6 with fail
  clear hg hmk
  have HST : Hid ((w1.alloc (.cells (madeCells #[.int .u8 0] n) 5)).ownsRow w.heap.size 5 1 (.slice (some ⟨g, 0, none⟩) n n) n (rowAt xs 0) ∧ Below w.heap.size w (w1.alloc (.cells (madeCells #[.int .u8 0] n) 5)) ∧ Below g w1 (w1.alloc (.cells (madeCells #[.int .u8 0] n) 5))) :=
    ⟨HROW.out, HB2.out, by have := HG.out.1; rw [← this]; exact (Below.refl _ _).alloc (Nat.le_refl _) _⟩
  clear HROW HB2 HBB
  generalize w1.alloc (.cells (madeCells #[.int .u8 0] n) 5) = w2 at HST ⊢
  go_wp2
  go_loopg [5] n (fun kk vi wr => ∃ i : Nat, vi = .int .i64 i ∧ i ≤ n ∧ n - i ≤ kk ∧ Hid (wr.ownsRow w.heap.size 5 1 (.slice (some ⟨g, 0, none⟩) n n) n (rowAt xs i) ∧ Below w.heap.size w wr ∧ Below g w1 wr))
  case atStart => exact ⟨0, rfl, by omega, by omega, HST⟩
  case round =>
    clear HST
    obtain ⟨i, rfl, hi, hkk, HS⟩ := hrel
    by_cases hlt : i < n
    · have hz : (i : Int) < (n : Int) := by omega
      have hil : i < xs.length := by have := HN.out; omega
      obtain ⟨g0, off, rfl, hg0, hcell⟩ := HXG.out (by omega)
      have hok := HOK.out xs[i]! (by rw [getElem!_pos xs i hil]; exact List.getElem_mem hil)
      have c1 : wr.cell? ⟨g0, off + i, none⟩ = some (.int .u8 xs[i]!) := (HS.out.2.2.cell hg0).trans (hcell i hil)
      have c2 : wr.cell? ⟨g, i, none⟩ = some (.int .u8 0) := (HS.out.1.cellAt i (by omega)).trans (rowAt_old xs i hil)
      have f2 := HS.out.1.frozenAt i
      have HSN : Hid ((wr.setCell ⟨g, i, none⟩ (.int .u8 (xs[i]! % 128))).ownsRow w.heap.size 5 1 (.slice (some ⟨g, 0, none⟩) n n) n (rowAt xs (i + 1)) ∧ Below w.heap.size w (wr.setCell ⟨g, i, none⟩ (.int .u8 (xs[i]! % 128))) ∧ Below g w1 (wr.setCell ⟨g, i, none⟩ (.int .u8 (xs[i]! % 128)))) := by
        obtain ⟨s1, s2, s3⟩ := HS.out
        have := (s1.stored i (.int .u8 (xs[i]! % 128))).1
        rw [rowAt_step xs i hil] at this
        exact ⟨this, s2.setCell (p := ⟨g, i, none⟩) HG.out.2 _, s3.setCell (p := ⟨g, i, none⟩) (Nat.le_refl _) _⟩
      obtain ⟨x, hx⟩ : ∃ x, xs[i]! = x := ⟨_, rfl⟩
      rw [hx] at c1 hok HSN
      obtain ⟨hx0, hx1⟩ := hok
      have hmod : x.tmod 128 = x % 128 := Int.tmod_eq_emod_of_nonneg hx0
      obtain ⟨y, hy⟩ : ∃ y, x % 128 = y := ⟨_, rfl⟩
      have hyb : 0 ≤ y ∧ y < 128 := by omega
      have wy : IntKind.u8.wrap y = y := by simp [IntKind.wrap, IntKind.signed, IntKind.bits]; omega
      rw [hy] at HSN hmod
      clear hx hcell HS hil
      go_wp2
      go_roundg (n - (i + 1))
      case measure => omega
      case rel => exact ⟨i + 1, by go_num, by omega, Nat.le_refl _, HSN⟩
    · have hz : ¬ (i : Int) < (n : Int) := by omega
      obtain rfl : i = n := by omega
      have hown : OwnV 5 w.heap.size wr (.slice (some ⟨g, 0, none⟩) i i) ((xs.map modB).map bv) := by
        have := HS.out.1
        rw [show rowAt xs i = (xs.map modB).map bv by rw [HN.out]; exact rowAt_end xs] at this
        unfold OwnV
        rw [show ((xs.map modB).map bv).length = i by simp [HN.out]]
        exact this
      have hplain := text_plain (xs.map modB) (fun b hb => by obtain ⟨x, _, rfl⟩ := List.mem_map.1 hb; exact mod_low x)
      have hshort : Short' (xs.map modB) := short_of (by rw [List.length_map]; have := HN.out; omega)
      obtain ⟨bs, hbs⟩ : ∃ l, xs.map modB = l := ⟨_, rfl⟩
      rw [hbs] at hown hplain hshort
      have HBW := Lib.hid HS.out.2.1
      have HT : Hid (∀ w', Below w.heap.size w w' → Calls Tryd.prog 16 #[.string ⟨bs.toArray⟩] w' (TextRes w' (some bs))) := Lib.hid fun w' hb => by
        have := text_any ⟨bs.toArray⟩ w' hshort (HES.out _ hb).1 (HES.out _ hb).2
        rwa [bs_data', hplain] at this
      have HI : Hid (∀ w', Below w.heap.size w w' → Calls Tryd.prog 18 #[.string ⟨bs.toArray⟩] w' fun e w'' => e = .returned (.bool true) ∧ Below w'.heap.size w' w'') := Lib.hid fun w' hb => by
        have := is_any ⟨bs.toArray⟩ w' hshort (HES.out _ hb).1 (HES.out _ hb).2
        rwa [bs_data', hplain, decide_eq_true rfl] at this
      have HOW := Lib.hid hown
      have hcv := conv_own hown
      have HT1 := Lib.hid (HT.out wr HBW.out)
      clear hown hplain hshort hbs HS HT HXG HOK HN HES hi hkk
      go_wp2_with fail
      refine HT1.out.mono ?_
      rintro e w3 ⟨rfl, hb3⟩
      have B3 : Below w.heap.size w w3 := HBW.out.trans (hb3.mono HBW.out.size)
      have hcv2 := conv_own (HOW.out.below hb3)
      have HI3 := Lib.hid (HI.out w3 B3)
      have hbb : (bs == bs) = true := by simp
      clear hcv HT1 HI HOW HBW hb3
      go_wp2_with fail
      refine HI3.out.mono ?_
      rintro e w4 ⟨rfl, hb4⟩
      have B4 : Below w.heap.size w w4 := B3.trans (hb4.mono B3.size)
      clear HI3 B3 hb4 hcv2
      go_wp2_with fail
      go_ret
      exact ⟨rfl, B4⟩
end Go.Proofs.YtmglnpnkkidnnaaDoor
