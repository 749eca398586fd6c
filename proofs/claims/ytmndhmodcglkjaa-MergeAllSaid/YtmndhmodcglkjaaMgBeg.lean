/- What every law of merges begins with; a list's source. -/
import Derived.Test.YtmndhmodcglkjaaMgAll
import Derived.Test.YtmndhmodcglkjaaAppSK
import Derived.Lib.SliceRun
namespace Go.Proofs.Ytmndhmodcglkjaa
set_option linter.unusedVariables false
set_option maxRecDepth 100000
open Go.RowKit
set_option maxHeartbeats 2000000 in
theorem eclone_any (ad : Addr) (n cap : Nat) (xs : List Ent) (w : World) (h : RdK encEnt 5 w (.slice (some ad) n cap) xs) (hl : xs.length ≤ 1000000000) :
    Calls Try.prog 22 #[.slice (some ad) n cap] w fun e w' => ∃ u, e = .returned u ∧ OwnK encEnt 5 28 w.heap.size w' u xs ∧ Below w.heap.size w w' := by
  have H := Lib.hid h
  have hlb := Lib.hid hl
  clear h hl
  have hq1 : ∀ w, (binOp .eql 24 (.slice (some ad) n cap) (.slice none 0 0)).run Try.prog w = .ok (.bool false) w := fun w => Lib.run_eql_slice_nil w 24 28 (some ad) n cap 0 0 Try.underlying24
  go_enter Try.func22, Try.ntmps22
  have HZ : OwnK encEnt 5 28 w.heap.size (w.alloc (.cells #[] 28)) (.slice (some ⟨w.heap.size, 0, none⟩) 0 0) [] := World.ownsRow_lit (base := w.heap.size) (e := 28) (size := 5) w #[] 0 (Nat.le_refl _) (by unfold maxLen; omega) rfl
  have HR1 := H.out.below ((Below.refl w.heap.size w).alloc (Nat.le_refl _) (.cells #[] 28))
  go_wp2_with (at_builtin; refine wp_appSK elem_ent encEnt_len _ _ (by rfl) (by rfl) (by rfl) HZ (by rfl) HR1 (encEnt_one xs) ?c1 ?c2 (by simp) ?_)
  case c1 => have := hlb.out; simp; omega
  case c2 => have := hlb.out; unfold maxLen; simp; omega
  intro v' w' h1 h2
  go_wp2_with fail
  go_ret
  exact ⟨v', rfl, by simpa using h1, ((Below.refl _ _).alloc (Nat.le_refl _) _).trans h2⟩
/-- A list's source. -/
def SlcNew (w : World) (xs : List Ent) (e : Ending) (w' : World) : Prop :=
  ∃ wA u, e = .returned (.iface 50 (.pointer (some ⟨wA.heap.size, 0, none⟩))) ∧ Below w.heap.size w wA ∧ RdK encEnt 5 wA u xs ∧ w' = wA.alloc (.cells #[u] 52)
set_option maxHeartbeats 2000000 in
theorem slice_any (ad : Addr) (n cap : Nat) (xs : List Ent) (w : World) (h : RdK encEnt 5 w (.slice (some ad) n cap) xs) (hl : xs.length ≤ 1000000000) : Calls Try.prog 14 #[.slice (some ad) n cap] w (SlcNew w xs) := by
  have HC := Lib.hid (eclone_any ad n cap xs w h hl)
  clear h
  go_enter Try.func14, Try.ntmps14
  go_wp2_with fail
  refine HC.out.mono ?_
  rintro e w2 ⟨u, rfl, ho, hb⟩
  obtain ⟨a, c, rfl, -, -⟩ := ho.kform
  have HO := Lib.hid (And.intro ho hb)
  clear ho hb HC
  go_wp2_with fail
  go_ret
  exact ⟨w2, _, rfl, HO.out.2, HO.out.1.rd encEnt_len, rfl⟩
def eB1 : Ent := ⟨⟨#[98]⟩, 1, 0, ⟨#[]⟩, ⟨#[]⟩⟩
def eA1 : Ent := ⟨⟨#[97]⟩, 1, 0, ⟨#[]⟩, ⟨#[]⟩⟩
def eB2 : Ent := ⟨⟨#[98]⟩, 2, 0, ⟨#[]⟩, ⟨#[]⟩⟩
def eX : Ent := ⟨⟨#[120]⟩, 0, 0, ⟨#[]⟩, ⟨#[]⟩⟩
theorem mgLt_ab (k1 k2 : Int) : ltE ⟨⟨#[97]⟩, k1, 0, ⟨#[]⟩, ⟨#[]⟩⟩ ⟨⟨#[98]⟩, k2, 0, ⟨#[]⟩, ⟨#[]⟩⟩ := .inl (by show bl ⟨#[97]⟩ ⟨#[98]⟩; decide)
theorem bg_mrg : mrgL [eB1, eA1, eB2] = [eA1, eB2, eB1] := by
  have h1 : ltE eA1 eB1 := mgLt_ab _ _
  have h2 : ¬ ltE eB2 eA1 := ltE_asym (mgLt_ab _ _)
  have h3 : ltE eB2 eB1 := .inr ⟨rfl, .inl (by decide)⟩
  simp [mrgL, intoE, h1, h2, h3]
theorem srt_one (e : Ent) : SrtW [e] := by simp [SrtW]
theorem srt_two : SrtW [eA1, eB2] := by
  have h2 : ¬ ltE eB2 eA1 := ltE_asym (mgLt_ab _ _)
  simp [SrtW, h2]
/-- A literal of one entry. -/
theorem lit_one (w : World) (e : Ent) : RdK encEnt 5 (w.alloc (.cells (encEnt e).toArray 28)) (.slice (some ⟨w.heap.size, 0, none⟩) 1 1) [e] := (own_oneK (E := 28) encEnt_len w e).rd encEnt_len
theorem lit_two (w : World) (e f : Ent) : RdK encEnt 5 (w.alloc (.cells (encEnt e ++ encEnt f).toArray 28)) (.slice (some ⟨w.heap.size, 0, none⟩) 2 2) [e, f] := by
  have : OwnK encEnt 5 28 w.heap.size (w.alloc (.cells (encEnt e ++ encEnt f).toArray 28)) (.slice (some ⟨w.heap.size, 0, none⟩) 2 2) [e, f] := World.ownsRow_lit (base := w.heap.size) (e := 28) (size := 5) w (encEnt e ++ encEnt f).toArray 2 (Nat.le_refl _) (by unfold maxLen; omega) rfl
  exact this.rd encEnt_len
theorem lits_two {w : World} {u v : Value} {l m : List Ent} (hu : RdK encEnt 5 w u l) (hv : RdK encEnt 5 w v m) (t : TypeId) : RdLs encEnt 5 (w.alloc (.cells #[u, v] t)) (.slice (some ⟨w.heap.size, 0, none⟩) 2 2) [l, m] := by
  have ho : OwnV t w.heap.size (w.alloc (.cells #[u, v] t)) (.slice (some ⟨w.heap.size, 0, none⟩) 2 2) [u, v] := World.ownsRow_lit (base := w.heap.size) (e := t) (size := 1) w #[u, v] 2 (Nat.le_refl _) (by unfold maxLen; omega) rfl
  have ub : Below w.heap.size w (w.alloc (.cells #[u, v] t)) := (Below.refl _ w).alloc (Nat.le_refl _) _
  refine ⟨[u, v], ho.rd, rfl, fun i x y hx hy => ?_⟩
  match i, hx, hy with
  | 0, hx, hy => obtain rfl := Option.some.inj hx; obtain rfl := Option.some.inj hy; exact hu.below ub
  | 1, hx, hy => obtain rfl := Option.some.inj hx; obtain rfl := Option.some.inj hy; exact hv.below ub
theorem asked_tots {ps ss : List Pl} (hl : ps.length = ss.length) (ho : ∀ (p : Nat) (x' : Pl), ps[p]? = some x' → ∃ x, ss[p]? = some x ∧ Asked x x') : ps.flatMap Pl.tot = ss.flatMap Pl.tot := by
  have e : ps.map Pl.tot = ss.map Pl.tot := by
    apply List.ext_getElem?
    intro p
    rw [List.getElem?_map, List.getElem?_map]
    rcases Nat.lt_or_ge p ps.length with hp | hp
    · obtain ⟨x, hx, ha⟩ := ho p ps[p] (List.getElem?_eq_getElem hp)
      rw [List.getElem?_eq_getElem hp, hx, Option.map_some, Option.map_some, ha.tot]
    · rw [List.getElem?_eq_none hp, List.getElem?_eq_none (by omega)]
  rw [List.flatMap_def, List.flatMap_def, e]
theorem OwnK.updT {α : Type} {enc : α → List Value} {k E B C : Nat} {S : List TypeId} {w w' : World} {v : Value} {xs : List α} (h : OwnK enc k E B w v xs) (u : UpdT S C w w') (hE : E ∉ S) : OwnK enc k E B w' v xs := u.own h hE
theorem below_upd {D C : Nat} {S : List TypeId} {d w w' : World} (h : Below D d w) (u : UpdT S C w w') (h1 : D ≤ C) (h2 : D ≤ d.heap.size) : Below D d w' := h.trans (UpdF.below u (Nat.le_trans h2 h.size) fun k hk g => by omega)
def bgS (g : Nat) : List Pl := [⟨g, 0, 0, 2, none, [eX]⟩, ⟨0, 0, 0, 0, none, []⟩]
theorem bg_srcs {wA w7 : World} {u : Value} (h1 : RdK encEnt 5 wA u [eX]) (h2 : Below (wA.alloc (.cells #[u] 52)).heap.size (wA.alloc (.cells #[u] 52)) w7) : SrcsAt wA w7 (bgS wA.heap.size) := by
  have hb : BlkAt w7 wA.heap.size #[u] 52 := (BlkAt.new wA _ _).below h2
  have hcase : ∀ (p : Nat) (x : Pl), (bgS wA.heap.size)[p]? = some x → (p = 0 ∧ x = ⟨wA.heap.size, 0, 0, 2, none, [eX]⟩) ∨ (p = 1 ∧ x = ⟨0, 0, 0, 0, none, []⟩) := fun p x hx => by
    match p, hx with
    | 0, hx => exact .inl ⟨rfl, (Option.some.inj hx).symm⟩
    | 1, hx => exact .inr ⟨rfl, (Option.some.inj hx).symm⟩
    | p + 2, hx => simp [bgS] at hx
  refine ⟨fun p x hx hk => ?_, fun p x hx => ?_, fun p p' x x' hx hx' hne hk hk' => ?_, ((Below.refl _ wA).alloc (Nat.le_refl _) _).trans (h2.mono (by simp))⟩
  · rcases hcase p x hx with ⟨rfl, rfl⟩ | ⟨rfl, rfl⟩
    · exact ⟨.inr ⟨rfl, u, hb, h1⟩, Nat.le_refl _⟩
    · exact absurd rfl hk
  · rcases hcase p x hx with ⟨rfl, rfl⟩ | ⟨rfl, rfl⟩
    · exact ⟨rfl, srt_one _, fun h => by cases h⟩
    · exact ⟨rfl, List.Pairwise.nil, fun _ => rfl⟩
  · rcases hcase p x hx with ⟨rfl, rfl⟩ | ⟨rfl, rfl⟩
    · rcases hcase p' x' hx' with ⟨rfl, rfl⟩ | ⟨rfl, rfl⟩
      · exact absurd rfl hne
      · exact absurd rfl hk'
    · exact absurd rfl hk
set_option maxHeartbeats 8000000 in
theorem mgBegun_any (w : World) : Calls Try.prog 6 #[] w fun e w' => e = .returned (.bool true) ∧ Below w.heap.size w w' := by
  obtain ⟨w3, hw3⟩ : ∃ w3, ((w.alloc (.cells #[.string ⟨#[98]⟩, .int .i64 1, .int .i64 0, .string ⟨#[]⟩, .string ⟨#[]⟩] 28)).alloc (.cells #[.string ⟨#[97]⟩, .int .i64 1, .int .i64 0, .string ⟨#[]⟩, .string ⟨#[]⟩, .string ⟨#[98]⟩, .int .i64 2, .int .i64 0, .string ⟨#[]⟩, .string ⟨#[]⟩] 28)).alloc (.cells #[.slice (some ⟨w.heap.size, 0, none⟩) 1 1, .slice (some ⟨w.heap.size + 1, 0, none⟩) 2 2] 24) = w3 := ⟨_, rfl⟩
  have hL : RdLs encEnt 5 w3 (.slice (some ⟨w.heap.size + 1 + 1, 0, none⟩) 2 2) [[eB1], [eA1, eB2]] := by
    have h1 := lit_one w eB1
    have h2 := lit_two (w.alloc (.cells (encEnt eB1).toArray 28)) eA1 eB2
    have h3 := lits_two (h1.below ((Below.refl _ _).alloc (Nat.le_refl _) (.cells (encEnt eA1 ++ encEnt eB2).toArray 28))) h2 24
    rw [← hw3]
    simp at h3
    exact h3
  have hb3 : Below w.heap.size w w3 := by
    rw [← hw3]
    exact (((Below.refl _ w).alloc (Nat.le_refl _) _).alloc (by simp) _).alloc (by simp; omega) _
  have HA := Lib.hid (mgAll_any [[eB1], [eA1, eB2]] _ hL (fun l hl => by
    rcases List.mem_cons.1 hl with rfl | hl
    · exact srt_one _
    · rw [List.mem_singleton.1 hl]; exact srt_two) (by simp) (by simp))
  have HB3 := Lib.hid hb3
  clear hL hb3
  go_enter Try.func6, Try.ntmps6
  go_wp2_with fail
  refine HA.out.mono ?_
  rintro e w4 ⟨⟨vA, rfl, hA⟩, hb4⟩
  rw [show [[eB1], [eA1, eB2]].flatten = [eB1, eA1, eB2] from rfl, bg_mrg] at hA
  obtain ⟨aA, cA, rfl, -, -⟩ := hA.kform
  have HO4 := Lib.hid hA
  have HB4 : Hid (Below w.heap.size w w4) := Lib.hid (HB3.out.trans (hb4.mono HB3.out.size))
  clear hA hb4 HA HB3 hw3
  have HSl := Lib.hid (slice_any _ _ _ [eX] _ (lit_one w4 eX) (by simp))
  go_wp2_with fail
  refine HSl.out.mono ?_
  rintro e w6 ⟨wA, u, rfl, hbA, hrA, rfl⟩
  obtain ⟨g, hg⟩ : ∃ g, wA.heap.size = g := ⟨_, rfl⟩
  obtain ⟨w7, hw7⟩ : ∃ w7, (wA.alloc (.cells #[u] 52)).alloc (.cells #[.iface 50 (.pointer (some ⟨g, 0, none⟩)), .nilIface] 47) = w7 := ⟨_, rfl⟩
  have b7 : Below (wA.alloc (.cells #[u] 52)).heap.size (wA.alloc (.cells #[u] 52)) w7 := by rw [← hw7]; exact (Below.refl _ _).alloc (Nat.le_refl _) _
  have hrow : OwnV 47 0 w7 (.slice (some ⟨g + 1, 0, none⟩) 2 2) ((bgS wA.heap.size).map Pl.iv) := by
    have : OwnV 47 0 w7 (.slice (some ⟨(wA.alloc (.cells #[u] 52)).heap.size, 0, none⟩) 2 2) [.iface 50 (.pointer (some ⟨g, 0, none⟩)), .nilIface] := by
      rw [← hw7]
      exact World.ownsRow_lit (base := 0) (e := 47) (size := 1) _ #[.iface 50 (.pointer (some ⟨g, 0, none⟩)), .nilIface] 2 (Nat.zero_le _) (by unfold maxLen; omega) rfl
    rw [show (wA.alloc (.cells #[u] 52)).heap.size = g + 1 by rw [← hg]; simp] at this
    rw [hg]; exact this
  have HNew := Lib.hid (mgNew_any (bg_srcs hrA b7) hrow (by simp [bgS]))
  have hbA7 : Below wA.heap.size wA w7 := ((Below.refl _ wA).alloc (Nat.le_refl _) _).trans (b7.mono (by simp))
  have hb4A : Below w4.heap.size w4 wA := ((Below.refl _ w4).alloc (Nat.le_refl _) _).trans (hbA.mono (by simp))
  have hb47 : Below w4.heap.size w4 w7 := hb4A.trans (hbA7.mono hb4A.size)
  have HO7 := Lib.hid (HO4.out.below hb47)
  have HB7 := Lib.hid (And.intro (HB4.out.trans (hb47.mono HB4.out.size)) (Nat.le_trans HB4.out.size hb4A.size))
  have hsz6 : (wA.alloc (.cells #[u] 52)).heap.size = g + 1 := by rw [← hg]; simp
  clear hbA hrA b7 hrow hbA7 hb4A hb47 HSl HO4 HB4
  go_wp2_with fail
  refine HNew.out.mono ?_
  rintro e w8 ⟨mb, ps, rfl, m1, m2, m3, m4, m5⟩
  have hall : allL ps = [eX] := by unfold allL; rw [asked_tots m3 m4]; rfl
  have hpl : ps.length ≤ 1000000000 := by rw [m3]; simp [bgS]
  have HO8 := Lib.hid (HO7.out.updT m5 (by decide))
  have HB8 := Lib.hid (And.intro (below_upd HB7.out.1 m5 HB7.out.2 (Nat.le_refl _)) HB7.out.2)
  have HN1 := Lib.hid (mgNext_any m2 hpl)
  have HK := Lib.hid (And.intro hall hpl)
  clear HNew HO7 HB7 m1 m2 m3 m4 m5 hall hpl hw7 hg hsz6
  go_wp2_with fail
  refine HN1.out.mono ?_
  rintro e w9 hnext
  obtain ⟨oc, ps1, rfl, n1, n2, n3, n4, n5⟩ := hnext.out
  rw [HK.out.1] at n2
  have hoc : oc = some eX ∧ allL ps1 = [] := by
    cases oc with
    | none => rw [n3 rfl] at n2; cases n2
    | some m => obtain ⟨h1, h2⟩ := List.cons.inj n2; exact ⟨by rw [h1], h2⟩
  obtain ⟨rfl, hall1⟩ := hoc
  obtain ⟨w10, hw10⟩ : ∃ w10, w9.alloc (.cells #[.string ⟨#[120]⟩, .int .i64 0, .int .i64 0, .string ⟨#[]⟩, .string ⟨#[]⟩] 28) = w10 := ⟨_, rfl⟩
  have b10 : Below w9.heap.size w9 w10 := by rw [← hw10]; exact (Below.refl _ _).alloc (Nat.le_refl _) _
  have he10 : BlkAt w10 w9.heap.size #[.string ⟨#[120]⟩, .int .i64 0, .int .i64 0, .string ⟨#[]⟩, .string ⟨#[]⟩] 28 := by rw [← hw10]; exact BlkAt.new _ _ _
  have HO10 := Lib.hid ((HO8.out.updT n5 (by decide)).below b10)
  have hB9 := below_upd HB8.out.1 n5 HB8.out.2 (Nat.le_refl _)
  have HB10 := Lib.hid (And.intro (hB9.trans (b10.mono hB9.size)) HB8.out.2)
  have HN2 := Lib.hid (mgNext_any (n1.below b10) (by rw [n4]; exact HK.out.2))
  have HK2 := Lib.hid (And.intro hall1 he10)
  obtain ⟨e9, he9⟩ : ∃ e9, w9.heap.size = e9 := ⟨_, rfl⟩
  rw [he9] at HK2
  have hx : nxV (some eX) = .tuple #[.agg #[.string ⟨#[120]⟩, .int .i64 0, .int .i64 0, .string ⟨#[]⟩, .string ⟨#[]⟩], .bool true] := rfl
  rw [hx]
  clear hnext n1 n2 n3 n4 n5 b10 hB9 HN1 HK HO8 HB8 hall1 he10 hx
  subst hw10
  go_wp2_with fail
  refine HN2.out.mono ?_
  rintro e w11 hnext
  obtain ⟨oc, ps2, rfl, n1, n2, n3, n4, n5⟩ := hnext.out
  rw [HK2.out.1] at n2
  have hoc : oc = none := by
    cases oc with
    | none => rfl
    | some m => cases n2
  obtain rfl := hoc
  have he11 := n5.blk HK2.out.2 (.inr (by decide))
  obtain ⟨w12, hw12⟩ : ∃ w12, w11.alloc (.cells #[.string ⟨#[]⟩, .int .i64 0, .int .i64 0, .string ⟨#[]⟩, .string ⟨#[]⟩] 28) = w12 := ⟨_, rfl⟩
  have b12 : Below w11.heap.size w11 w12 := by rw [← hw12]; exact (Below.refl _ _).alloc (Nat.le_refl _) _
  have z0 := (he11.below b12).at 0
  simp only [List.getElem?_toArray, List.getElem?_cons_zero] at z0
  have hO12 := (HO10.out.updT n5 (by decide)).below b12
  have hB11 := below_upd HB10.out.1 n5 HB10.out.2 (Nat.le_refl _)
  have HB12 := Lib.hid (hB11.trans (b12.mono hB11.size))
  rcases hO12.blk with ⟨e, -⟩ | ⟨ga, ca, cur, e, -, -, -, -, -, -, -⟩
  · cases e
  simp only [Value.slice.injEq] at e
  obtain ⟨rfl, -, rfl⟩ := e
  have y0 : w12.cell? ⟨ga, 0, none⟩ = some (.string ⟨#[97]⟩) := by have := hO12.cell encEnt_len 0 0 eA1 rfl (by omega); exact this
  have y1 : w12.cell? ⟨ga, 6, none⟩ = some (.int .i64 2) := by have := hO12.cell encEnt_len 1 1 eB2 rfl (by omega); exact this
  have hx : nxV none = .tuple #[.agg #[.string ⟨#[]⟩, .int .i64 0, .int .i64 0, .string ⟨#[]⟩, .string ⟨#[]⟩], .bool false] := rfl
  rw [hx]
  clear hnext n1 n2 n3 n4 n5 b12 hO12 hB11 HN2 HK2 HO10 HB10 he11 hx
  subst hw12
  go_wp2_with fail
  go_ret
  exact ⟨rfl, HB12.out⟩
end Go.Proofs.Ytmndhmodcglkjaa
