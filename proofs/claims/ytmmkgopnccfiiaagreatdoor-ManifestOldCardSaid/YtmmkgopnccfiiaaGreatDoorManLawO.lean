/- The law ManifestOld: which names are old. -/
import Derived.Test.YtmmkgopnccfiiaaGreatDoorManOldT
import Derived.Test.YtmmkgopnccfiiaaGreatDoorManBgn
namespace Go.Proofs.YtmmkgopnccfiiaaGreatDoor
set_option linter.unusedVariables false
open Go.RowKit Go.Maps
/-- The names that the law can meet, ahead of the last two. -/
def namO (D : Dir) : Prop := ∀ y i, dget y D = some i → y = curN ∨ y = manN 1 ∨ ∃ m, 50 ≤ m ∧ m ≤ 91 ∧ y = tabD m
theorem tab_names : (List.range 100).map (fun n => nameOk (tabD n)) = (List.range 100).map fun _ => true := by kernel_rfl
theorem tabD_nameOk {n : Nat} (h : n < 100) : nameOk (tabD n) = true := by
  have e := congrArg (fun l => l[n]?) tab_names
  simp only [List.getElem?_map, List.getElem?_range h, Option.map_some, Option.some.injEq] at e
  exact e
theorem namO.next {D D' : Dir} {m : Nat} (h : namO D) (h0 : 50 ≤ m) (h1 : m ≤ 91) (k1 : ∀ y, y ≠ tabD m → y ≠ ⟨#[]⟩ → dget y D' = dget y D) (k2 : dget ⟨#[]⟩ D' = none) : namO D' := fun y i hy => by
  by_cases e : y = tabD m
  · exact .inr (.inr ⟨m, h0, h1, e⟩)
  by_cases e2 : y = ⟨#[]⟩
  · rw [e2, k2] at hy; cases hy
  rw [k1 y e e2] at hy
  exact h y i hy
theorem row_snoc {H : Nat} {w : World} {v : Value} {ds : List Nat} {d : Nat} (h : w.ownsRow H 35 5 v (ds.length + 1) ((ds.map tF).flatMap encTbf ++ [.int .i64 (d : Int), .int .i64 0, .int .i64 0, .string ⟨#[97]⟩, .string ⟨#[98]⟩])) : OwnK encTbf 5 35 H w v ((ds ++ [d]).map tF) := by
  unfold OwnK
  rw [List.map_append, List.length_append, List.flatMap_append, List.length_map]
  exact h
theorem namO.last {D D' D'' : Dir} (h : namO D) (k1 : ∀ y, y ≠ log7 → y ≠ ⟨#[]⟩ → dget y D' = dget y D) (k2 : dget ⟨#[]⟩ D' = none) (j1 : ∀ y, y ≠ stray → y ≠ ⟨#[]⟩ → dget y D'' = dget y D') (j2 : dget ⟨#[]⟩ D'' = none) : namP D'' := fun y i hy => by
  by_cases e : y = stray
  · exact .inr (.inr (.inr (.inr e)))
  by_cases e2 : y = ⟨#[]⟩
  · rw [e2, j2] at hy; cases hy
  rw [j1 y e e2] at hy
  by_cases e3 : y = log7
  · exact .inr (.inr (.inr (.inl e3)))
  rw [k1 y e3 e2] at hy
  rcases h y i hy with g | g | g
  · exact .inl g
  · exact .inr (.inl g)
  · exact .inr (.inr (.inl g))
/-- Is d among the first k? -/
def QO (q : Bool) (ds : List Nat) (k d : Nat) : Prop := q = true ↔ ∃ j, j < k ∧ ds[j]? = some d
theorem QO.yes {ds : List Nat} {k d : Nat} (h : QO true ds k d) : QO true ds (k + 1) d := ⟨fun _ => by
  obtain ⟨j, j1, j2⟩ := h.1 rfl
  exact ⟨j, by omega, j2⟩, fun _ => rfl⟩
theorem QO.hit {ds : List Nat} {k d : Nat} (h : ds[k]? = some d) : QO true ds (k + 1) d := ⟨fun _ => ⟨k, by omega, h⟩, fun _ => rfl⟩
theorem QO.no {ds : List Nat} {k d x : Nat} (h : QO false ds k d) (hx : ds[k]? = some x) (hne : x ≠ d) : QO false ds (k + 1) d := ⟨fun h => (by cases h), fun ⟨j, j1, j2⟩ => by
  rcases Nat.lt_or_ge j k with g | g
  · have := h.2 ⟨j, g, j2⟩; cases this
  · obtain rfl : j = k := by omega
    rw [hx] at j2
    exact absurd (Option.some.inj j2) hne⟩
theorem QO.all {ds : List Nat} {q : Bool} {d : Nat} (h : QO q ds ds.length d) : q = decide (d ∈ ds) := by
  have e : (∃ j, j < ds.length ∧ ds[j]? = some d) ↔ d ∈ ds := ⟨fun ⟨j, _, j2⟩ => List.mem_of_getElem? j2, fun h => by
    obtain ⟨j, hj, rfl⟩ := List.getElem_of_mem h
    exact ⟨j, hj, List.getElem?_eq_getElem hj⟩⟩
  unfold QO at h
  rw [e] at h
  rw [Bool.eq_iff_iff, h, decide_eq_true_eq]
set_option maxHeartbeats 64000000 in
set_option maxRecDepth 100000 in
theorem manOld_walk (w : World) (hG : GlobM w) (hE : ErrAt w) (oa : Option Addr) (on oc : Nat) (zs : List Int) (hz : RdV w (.slice oa on oc) (zs.map encI64)) (lg : Int) (hl0 : -9223372036854775808 ≤ lg) (hl1 : lg ≤ 9223372036854775807) :
    Calls Tryz.prog 3 #[.slice oa on oc, .int .i64 lg] w fun e w' => e = .returned (.bool true) ∧ Below w.heap.size w w' := by
  have HBG := Lib.hid (mbegun_any w hG)
  have HNEW : Hid (∀ W, Below w.heap.size w W → Calls Tryz.prog 5 #[.int .i64 1048576] W fun e w' => ∃ b, e = .returned (.pointer (some ⟨b, 0, none⟩)) ∧ FsOwn w w' b (fsNew 1048576)) := Lib.hid (fun W hW => by
    refine (new_own 1048576 W).mono ?_
    rintro e w' ⟨rfl, ρ, h1, h2, h3⟩
    exact ⟨_, rfl, ρ, h1, hW.trans (h2.mono hW.size), fun k hk => Nat.le_trans hW.size (h3 k hk)⟩)
  have HG := Lib.hid hG
  have HE := Lib.hid hE
  have HZ := Lib.hid hz
  have hon : on = zs.length := by obtain ⟨a, c, e⟩ := edInts_len hz; exact (Value.slice.inj e).2.1
  have HL := Lib.hid hon.symm
  clear hG hE hz hon
  by_cases h1 : lg < 0
  · have hd1 : decide (lg < 0) = true := decide_eq_true h1
    go_enter Tryz.func3, Tryz.ntmps3
    go_wp2_with fail
    refine HBG.out.mono ?_
    rintro e w1 ⟨rfl, hb⟩
    have HN1 := Lib.hid (HNEW.out w1 hb)
    clear hb HBG HNEW
    go_wp2_with fail
    refine HN1.out.mono ?_
    rintro e w2 ⟨b, rfl, hf⟩
    have HC := Lib.hid (mcreate_st HG.out hf)
    clear hf HN1
    go_wp2_with fail
    refine HC.out.mono ?_
    rintro e w3 ⟨mb, F0, S0, rfl, hm, -⟩
    have HB := Lib.hid hm.blw
    clear hm HC
    go_wp2_with fail
    go_ret
    exact ⟨rfl, HB.out⟩
  by_cases h2 : 50 < lg
  · have hd1 : decide (lg < 0) = false := decide_eq_false h1
    have hd2 : decide (50 < lg) = true := decide_eq_true h2
    go_enter Tryz.func3, Tryz.ntmps3
    go_wp2_with fail
    refine HBG.out.mono ?_
    rintro e w1 ⟨rfl, hb⟩
    have HN1 := Lib.hid (HNEW.out w1 hb)
    clear hb HBG HNEW
    go_wp2_with fail
    refine HN1.out.mono ?_
    rintro e w2 ⟨b, rfl, hf⟩
    have HC := Lib.hid (mcreate_st HG.out hf)
    clear hf HN1
    go_wp2_with fail
    refine HC.out.mono ?_
    rintro e w3 ⟨mb, F0, S0, rfl, hm, -⟩
    have HB := Lib.hid hm.blw
    clear hm HC
    go_wp2_with fail
    go_ret
    exact ⟨rfl, HB.out⟩
  have hd1 : decide (lg < 0) = false := decide_eq_false h1
  have hd2 : decide (50 < lg) = false := decide_eq_false h2
  have hg0 : 0 ≤ lg := by omega
  have hg1 : lg ≤ 50 := by omega
  clear hl0 hl1 h1 h2
  go_enter Tryz.func3, Tryz.ntmps3
  go_wp2_with fail
  refine HBG.out.mono ?_
  rintro e w1 ⟨rfl, hb⟩
  have HN1 := Lib.hid (HNEW.out w1 hb)
  clear hb HBG HNEW
  go_wp2_with fail
  refine HN1.out.mono ?_
  rintro e w2 ⟨b, rfl, hf⟩
  have HC := Lib.hid (mcreate_st HG.out hf)
  clear hf HN1
  go_wp2_with fail
  refine HC.out.mono ?_
  rintro e w3 ⟨mb, F0, S0, rfl, hm, hfl, -, hnm⟩
  have HM3 : Hid (OG F0 w w3 w3.heap.size b mb S0 1 verC [wholeE verC] 2 12200 1) := Lib.hid (OG.of (hm.g.more (by omega) (by omega) (by omega)))
  have HF0 := Lib.hid hfl
  have HLOG : Hid ((logB smN [wholeE verC]).length ≤ 100) := Lib.hid hm.run.log
  have HNM0 : Hid (namO S0.now) := Lib.hid fun y i hy => by
    by_cases e1 : y = curN
    · exact .inl e1
    by_cases e2 : y = manN 1
    · exact .inr (.inl e2)
    rw [hnm y e1 e2] at hy; cases hy
  have hal : Below w3.heap.size w3 (w3.alloc (.cells #[.int .i64 100, .int .i64 lg, .int .i64 0, .slice none 0 0, .slice none 0 0] 32)) := (Below.refl _ _).alloc (Nat.le_refl _) _
  have HX0 : Hid (OX F0 w3.heap.size (w3.alloc (.cells #[.int .i64 100, .int .i64 lg, .int .i64 0, .slice none 0 0, .slice none 0 0] 32)) w3.heap.size lg [] (.slice none 0 0)) := Lib.hid ⟨BlkAt.new _ _ _, OwnK.nil _ _ _ _ _, fun f => by have := HM3.out.high _ f; omega, fun k hk => by simp [Value.ownBlock] at hk, Nat.le_refl _⟩
  have HM0 := Lib.hid (HM3.out.below hal)
  clear hm hfl hnm hal HC HM3
  go_upto_region 9 with fail
  clear hd1 hd2
  generalize w3.alloc (.cells #[.int .i64 100, .int .i64 lg, .int .i64 0, .slice none 0 0, .slice none 0 0] 32) = w4 at *
  generalize w3.heap.size = H at *
  go_wp2_with fail
  go_loopg [11, 12, 13, 14] 6 (fun kk vi _ _ _ wr => ∃ (i : Nat) (F : Nat → Prop) (S : Fs) (ds : List Nat) (aA : Option Addr) (cA : Nat), vi = .int .i64 (i : Int) ∧ i ≤ 6 ∧ 6 - i ≤ kk ∧ ds.length ≤ i ∧ Hid (ds.Nodup ∧ ∀ d ∈ ds, 50 ≤ d ∧ d ≤ 90) ∧ Hid (OG F w wr H b mb S 1 verC [wholeE verC] (2 + 2 * i) 12200 (1 + 2 * i)) ∧ Hid (S.fails = none) ∧ Hid (namO S.now) ∧ Hid (OX F H wr H lg ds (.slice aA ds.length cA)))
  case atStart => exact ⟨0, F0, S0, [], none, 0, rfl, by omega, by omega, by simp, Lib.hid ⟨List.nodup_nil, fun d hd => by cases hd⟩, HM0, HF0, HNM0, HX0⟩
  case round =>
    clear HM0 HF0 HNM0 HX0
    obtain ⟨i, F, S, ds, aA, cA, rfl, hi, hik, hdl, HD, HM, HFL, HNM, HX⟩ := hrel
    by_cases h1 : i < on
    rotate_left
    · have hd1 : ¬ (i : Int) < (on : Int) := by omega
      have HM0 : Hid (OG F w wr H b mb S 1 verC [wholeE verC] 14 12200 13) := Lib.hid (HM.out.more (by omega) (by omega))
      have HMK : Hid (Calls Tryz.prog 7 #[.pointer (some ⟨b, 0, none⟩), .string ⟨#[55, 46, 108, 111, 103]⟩] wr (OMake F w wr H b mb S 1 verC [wholeE verC] 14 12200 13 log7)) := Lib.hid (omake_g HM0.out HFL.out (x := log7) (by kernel_rfl) (by decide) (by decide) (by rw [man1_is]; decide) (by omega) (by omega) (by omega))
      clear HM HM0
      go_wp2_with fail
      refine HMK.out.mono ?_
      rintro e w5 ⟨F5, S5, rfl, st5, hm5, hf5, hn5, h05⟩
      have HX5 := Lib.hid (HX.out.step st5)
      have HN5 := Lib.hid (And.intro hn5 h05)
      have HMK2 : Hid (Calls Tryz.prog 7 #[.pointer (some ⟨b, 0, none⟩), .string ⟨#[115, 116, 114, 97, 121]⟩] w5 (OMake F5 w w5 H b mb S5 1 verC [wholeE verC] 15 12200 14 stray)) := Lib.hid (omake_g hm5 hf5 (x := stray) (by kernel_rfl) (by decide) (by decide) (by rw [man1_is]; decide) (by omega) (by omega) (by omega))
      clear st5 hm5 hf5 hn5 h05 HMK HX HFL
      go_wp2_with fail
      refine HMK2.out.mono ?_
      rintro e w6 ⟨F6, S6, rfl, st6, hm6, hf6, hn6, h06⟩
      have HX6 := Lib.hid (HX5.out.step st6)
      have HN6 := Lib.hid (HNM.out.last HN5.out.1 HN5.out.2 hn6 h06)
      have hds6 : ds.length ≤ 6 := by omega
      have HCO := Lib.hid (mcommit_g HG.out hm6.mg hf6 (.agg #[.int .i64 100, .int .i64 lg, .int .i64 0, .slice aA ds.length cA, .slice none 0 0]) (eO lg ds) ⟨_, _, rfl, HX6.out.row.rd encTbf_len, RdV.nil _ _ _⟩ (eO_ok lg hds6) (oldE_is hg0 hg1 HD.out.1 HD.out.2 hds6) (by omega) (by have := eO_len lg hds6 (logB smN [wholeE verC]).length; have := HLOG.out; omega) (by omega) (by have := eO_len lg hds6 (logB smN [wholeE verC]).length; omega))
      have x0 : w6.cell? ⟨H, 0, none⟩ = some (.int .i64 100) := HX6.out.blk.at 0
      have x1 : w6.cell? ⟨H, 1, none⟩ = some (.int .i64 lg) := HX6.out.blk.at 1
      have x2 : w6.cell? ⟨H, 2, none⟩ = some (.int .i64 0) := HX6.out.blk.at 2
      have x3 : w6.cell? ⟨H, 3, none⟩ = some (.slice aA ds.length cA) := HX6.out.blk.at 3
      have x4 : w6.cell? ⟨H, 4, none⟩ = some (.slice none 0 0) := HX6.out.blk.at 4
      clear st6 hm6 hf6 hn6 h06 HMK2 HX5 HNM HN5
      go_wp2_with fail
      refine HCO.out.mono ?_
      rintro e w7 ⟨V', F7, S7, rfl, hsm, st7, hm7, hnow, -⟩
      have HX7 := Lib.hid (HX6.out.step st7)
      have HM7 := Lib.hid hm7
      have HSM := Lib.hid hsm
      have HN7 : Hid (namP S7.now) := Lib.hid (by rw [hnow]; exact HN6.out)
      obtain ⟨ρ7, -, h27, -⟩ := hm7.ex
      have HNS := Lib.hid (fsnames_any w7 b ρ7 S7 h27.fs)
      clear x0 x1 x2 x3 x4 hsm st7 hm7 hnow h27 HCO HX6 HN6
      go_wp2_with fail
      refine HNS.out.mono ?_
      rintro e w8 ⟨vn, rfl, hon8, hbn8⟩
      -- TAIL
      have HT : Hid (HasT ds lg V') := Lib.hid (HasT.of HD.out.2 HSM.out)
      have HM8 := Lib.hid (HM7.out.below hbn8)
      have HX8 : Hid (∀ W, Below w8.heap.size w8 W → OX F7 H W H lg ds (.slice aA ds.length cA)) := Lib.hid fun W hW => (HX7.out.below hbn8).below hW
      obtain ⟨xs, hxs⟩ : ∃ xs, S7.now.map (·.1) = xs := ⟨_, rfl⟩
      obtain ⟨nx, hnx⟩ : ∃ n, xs.length = n := ⟨_, rfl⟩
      have hfew : nx ≤ 16 := by rw [← hnx, ← hxs, List.length_map]; exact HM7.out.std.disk.now
      have hon9 : OwnV 9 w7.heap.size w8 vn (xs.map Value.string) := by rw [← hxs, List.map_map]; exact hon8
      have hpos : 0 < nx := by rw [← hnx, ← hxs, List.length_map]; exact now_pos HM7.out
      have HNX : Hid (∀ x ∈ xs, x = curN ∨ x = manN 1 ∨ (∃ m, 50 ≤ m ∧ m ≤ 91 ∧ x = tabD m) ∨ x = log7 ∨ x = stray) := Lib.hid fun x hx => HN7.out.mem HM7.out.std.disk.ok.now (by rw [hxs]; exact hx)
      have HOLD : Hid (∀ W, Below w8.heap.size w8 W → Calls Tryz.prog 11 #[.pointer (some ⟨mb, 0, none⟩)] W (OldTo W (xs.filter (oldB V')))) := Lib.hid fun W hW => by
        rw [← hxs]; exact mold_g HG.out HE.out (HM8.out.below hW) HN7.out (by omega)
      obtain ⟨gn, cn, rfl⟩ : ∃ g c, vn = .slice (some ⟨g, 0, none⟩) nx c := by
        rcases hon9.nilOr with ⟨-, e⟩ | ⟨g, c, e, -⟩
        · rw [List.map_eq_nil_iff] at e; subst e; simp at hnx; omega
        · rw [List.length_map, hnx] at e; exact ⟨g, c, e⟩
      have HRD := Lib.hid hon9.rd
      have HNL := Lib.hid hnx
      have HBW : Hid (Below w.heap.size w w8) := Lib.hid HM8.out.blw
      have hdsl : ds.length ≤ 6 := by omega
      clear hon8 hon9 hxs hnx hbn8 hpos HNS HM7 HX7 HSM HN7 HM8 HZ HL HLOG HG HE
      go_wp2_with fail
      go_loopg [10, 16, 17, 18, 19] nx (fun kk vw vi _ _ _ wr => ∃ (p : Nat) (aW : Option Addr) (nW cW : Nat), vw = .slice aW nW cW ∧ vi = .int .i64 (p : Int) ∧ p ≤ nx ∧ nx - p ≤ kk ∧ nW ≤ p ∧ Hid (((xs.take p).filter (oldB V')).length = nW) ∧ Hid (OwnV 9 w8.heap.size wr (.slice aW nW cW) (((xs.take p).filter (oldB V')).map Value.string)) ∧ Hid (Below w8.heap.size w8 wr))
      case atStart => exact ⟨0, none, 0, 0, rfl, rfl, by omega, by omega, by omega, Lib.hid rfl, Lib.hid (OwnV.nil _ _ _), Lib.hid (Below.refl _ _)⟩
      case round =>
        obtain ⟨p, aW, nW, cW, rfl, rfl, hp, hkk, hnp, HLN, HO, HB⟩ := hrel
        by_cases p1 : p < nx
        rotate_left
        · have pe : p = nx := by omega
          have HTK : Hid (xs.take p = xs) := Lib.hid (List.take_of_length_le (by have := HNL.out; omega))
          rw [HTK.out] at HO HLN
          have pd : ¬ (p : Int) < (nx : Int) := by omega
          have HOC := Lib.hid (HOLD.out wr HB.out)
          generalize xs.filter (oldB V') = ys at *
          clear HOLD HRD HNX HX8 HTK HT HD HNL pe p1
          go_wp2_with fail
          refine HOC.out.mono ?_
          rintro e w9 ⟨gv, rfl, hg9, hb9⟩
          obtain ⟨ag, cg, rfl⟩ := str_len hg9 HLN.out
          have HG9 := Lib.hid hg9
          have HO9 := Lib.hid (HO.out.rd.below hb9)
          have HB9 := Lib.hid (HBW.out.trans ((HB.out.trans (hb9.mono HB.out.size)).mono HBW.out.size))
          have gne : ((nW : Int) != (nW : Int)) = false := by simp
          clear hg9 hb9 HOC HO HB pd
          go_wp2_with fail
          clear gne
          go_loopg [21] nW (fun kk vi ws => ∃ (q : Nat), vi = .int .i64 (q : Int) ∧ q ≤ nW ∧ nW - q ≤ kk ∧ Hid (RdV ws (.slice ag nW cg) (ys.map Value.string)) ∧ Hid (RdV ws (.slice aW nW cW) (ys.map Value.string)) ∧ Hid (Below w.heap.size w ws))
          case atStart => exact ⟨0, rfl, by omega, by omega, HG9, HO9, HB9⟩
          case round =>
            clear HG9 HO9 HB9
            obtain ⟨q, rfl, hq, hkq, HG9, HO9, HB9⟩ := hrel
            by_cases q1 : q < nW
            · have qd : (q : Int) < (nW : Int) := by omega
              have qd0 : (0 : Int) ≤ (q : Int) := by omega
              obtain ⟨y, hy⟩ : ∃ y, ys[q]? = some y := ⟨ys[q]'(by have := HLN.out; omega), List.getElem?_eq_getElem _⟩
              obtain ⟨by1, oy1, rfl, -, cy1⟩ := str_at HG9.out q y hy
              obtain ⟨by2, oy2, rfl, -, cy2⟩ := str_at HO9.out q y hy
              have gy : (y.toList == y.toList) = true := bs_refl y
              clear hy
              go_wp2_with fail
              go_region
              go_wp2_with fail
              go_roundg (nW - (q + 1))
              case measure => omega
              case rel => exact ⟨q + 1, by go_num, by omega, Nat.le_refl _, HG9, HO9, Lib.hid HB9.out.drew⟩
            · obtain rfl : q = nW := by omega
              have qd : ¬ (q : Int) < (q : Int) := by omega
              go_wp2_with fail
              go_ret
              exact ⟨rfl, HB9.out⟩
        have pd : (p : Int) < (nx : Int) := by omega
        have pd0 : (0 : Int) ≤ (p : Int) := by omega
        obtain ⟨x, hx⟩ : ∃ x, xs[p]? = some x := ⟨xs[p]'(by have := HNL.out; omega), List.getElem?_eq_getElem _⟩
        have cx : wr.cell? ⟨gn, p, none⟩ = some (.string x) := (HRD.out.below HB.out).nam hx
        have HX := Lib.hid hx
        have hcase := HNX.out x (List.mem_of_getElem? hx)
        clear hx HOLD
        rcases hcase with hq | hq | ⟨m, m1, m2, hq⟩ | hq | hq
        · obtain ⟨g1, g1b⟩ : NoL x [115, 116, 114, 97, 121] := by rw [hq]; exact nam_cur.1
          obtain ⟨g2, g2b⟩ : NoL x [55, 46, 108, 111, 103] := by rw [hq]; exact nam_cur.2.1
          have g3 : (((x.size : Nat) : Int) == 6) = false := by rw [hq, nam_cur.2.2]; rfl
          have ho : oldB V' x = false := HT.out.need (.inl hq)
          clear hq
          have HY := Lib.hid (take_no HX.out ho)
          clear HX
          go_wp2_with fail
          go_roundg (nx - (p + 1))
          case measure => omega
          case rel => exact ⟨p + 1, aW, nW, cW, rfl, by go_num, by omega, Nat.le_refl _, by omega, by rw [HY.out]; exact HLN, by rw [HY.out]; exact HO, HB⟩
        · obtain ⟨g1, g1b⟩ : NoL x [115, 116, 114, 97, 121] := by rw [hq]; exact nam_man.1
          obtain ⟨g2, g2b⟩ : NoL x [55, 46, 108, 111, 103] := by rw [hq]; exact nam_man.2.1
          have g3 : (((x.size : Nat) : Int) == 6) = false := by rw [hq, nam_man.2.2]; rfl
          have ho : oldB V' x = false := HT.out.need (.inr hq)
          clear hq
          have HY := Lib.hid (take_no HX.out ho)
          clear HX
          go_wp2_with fail
          go_roundg (nx - (p + 1))
          case measure => omega
          case rel => exact ⟨p + 1, aW, nW, cW, rfl, by go_num, by omega, Nat.le_refl _, by omega, by rw [HY.out]; exact HLN, by rw [HY.out]; exact HO, HB⟩
        · obtain ⟨g1, g1b⟩ : NoL x [115, 116, 114, 97, 121] := by rw [hq]; exact (nam_tab m).1
          obtain ⟨g2, g2b⟩ : NoL x [55, 46, 108, 111, 103] := by rw [hq]; exact (nam_tab m).2.1
          have hs6 : x.size = 6 := by rw [hq]; exact (nam_tab m).2.2
          have g3 : (((x.size : Nat) : Int) == 6) = true := by rw [hs6]; rfl
          have hsz : (2 : Int) ≤ ((x.size : Nat) : Int) := by rw [hs6]; decide
          have HSL : (x.extract 2 x.size).toList = [46, 116, 97, 98] := by rw [hs6]; exact tab_sl hq
          have ho : oldB V' x = !decide (m ∈ ds) := by rw [hq]; exact HT.out.tab (by omega)
          have HHO := Lib.hid ho
          have HQX := Lib.hid hq
          have c3 : wr.cell? ⟨H, 3, none⟩ = some (.slice aA ds.length cA) := (HX8.out wr HB.out).blk.at 3
          clear ho hq hs6
          go_wp2_with fail
          clear g1 g1b g2 g2b g3 HSL hsz cx pd c3
          obtain ⟨we, rfl⟩ : ∃ z, z = wr := ⟨_, rfl⟩
          go_loopg [18, 19] ds.length (fun kk vq vk ws => ∃ (q : Bool) (k : Nat), vq = .bool q ∧ vk = .int .i64 (k : Int) ∧ k ≤ ds.length ∧ ds.length - k ≤ kk ∧ Hid (QO (!q) ds k m) ∧ Hid (OwnV 9 w8.heap.size ws (.slice aW nW cW) (((xs.take p).filter (oldB V')).map Value.string)) ∧ Hid (Below w8.heap.size w8 ws))
          case atStart => exact ⟨true, 0, rfl, rfl, by omega, by omega, Lib.hid ⟨fun h => (by cases h), fun ⟨j, j1, _⟩ => absurd j1 (by omega)⟩, HO, HB⟩
          case round =>
            clear HO HB
            obtain ⟨q, k, rfl, rfl, hk, hkq, HQ, HO, HB⟩ := hrel
            have hk0 : (0 : Int) ≤ (k : Int) := by omega
            have c3 : wr.cell? ⟨H, 3, none⟩ = some (.slice aA ds.length cA) := (HX8.out wr HB.out).blk.at 3
            by_cases k1 : k < ds.length
            · have kd : (k : Int) < (ds.length : Int) := by omega
              obtain ⟨y, hy⟩ : ∃ y, ds[k]? = some y := ⟨ds[k]'k1, List.getElem?_eq_getElem _⟩
              obtain ⟨ba, ofa, rfl, hba, e0, -, -, -, -⟩ := ((HX8.out wr HB.out).row.rd encTbf_len).atTbf k (tF y) (by rw [List.getElem?_map, hy]; rfl)
              have d0 : wr.cell? ⟨ba, ofa + k * 5, none⟩ = some (.int .i64 (y : Int)) := e0
              clear e0
              cases q with
              | false =>
                have HQ2 : Hid (QO (!false) ds (k + 1) m) := Lib.hid HQ.out.yes
                clear HQ hy
                go_wp2_with fail
                go_roundg (ds.length - (k + 1))
                case measure => omega
                case rel => exact ⟨false, k + 1, rfl, by go_num, by omega, Nat.le_refl _, HQ2, HO, HB⟩
              | true =>
                have hy9 : y ≤ 90 := (HD.out.2 y (List.mem_of_getElem? hy)).2
                have HDC := Lib.hid (dec_any y (by omega) wr)
                by_cases k2 : y = m
                · have g4 : (twoD y ++ (⟨#[46, 116, 97, 98]⟩ : ByteArray)).toList = x.toList := by rw [k2, HQX.out]; rfl
                  have HQ2 : Hid (QO (!false) ds (k + 1) m) := Lib.hid (QO.hit (k2 ▸ hy))
                  have hts : (twoD y).size ≤ 2 := Nat.le_refl 2
                  generalize twoD y = ty at *
                  clear HQ hy k2
                  go_wp2_with fail
                  refine HDC.out.mono ?_
                  rintro e w5 ⟨rfl, hb5⟩
                  have HO5 := Lib.hid (HO.out.below hb5)
                  have HB5 := Lib.hid (HB.out.trans (hb5.mono HB.out.size))
                  clear hb5 HDC HO HB
                  go_wp2_with fail
                  go_roundg (ds.length - (k + 1))
                  case measure => omega
                  case rel => exact ⟨false, k + 1, rfl, by go_num, by omega, Nat.le_refl _, HQ2, HO5, HB5⟩
                · have g4 : ¬ (twoD y ++ (⟨#[46, 116, 97, 98]⟩ : ByteArray)).toList = x.toList := by
                    rw [HQX.out]
                    exact list_ne fun e => k2 (tabD_inj (by omega) (by omega) e)
                  have g5 : ((twoD y ++ (⟨#[46, 116, 97, 98]⟩ : ByteArray)).toList == x.toList) = false := beq_eq_false_iff_ne.2 g4
                  have HQ2 : Hid (QO (!true) ds (k + 1) m) := Lib.hid (HQ.out.no hy k2)
                  have hts : (twoD y).size ≤ 2 := Nat.le_refl 2
                  generalize twoD y = ty at *
                  clear HQ hy k2
                  go_wp2_with fail
                  refine HDC.out.mono ?_
                  rintro e w5 ⟨rfl, hb5⟩
                  have HO5 := Lib.hid (HO.out.below hb5)
                  have HB5 := Lib.hid (HB.out.trans (hb5.mono HB.out.size))
                  clear hb5 HDC HO HB
                  go_wp2_with fail
                  go_roundg (ds.length - (k + 1))
                  case measure => omega
                  case rel => exact ⟨true, k + 1, rfl, by go_num, by omega, Nat.le_refl _, HQ2, HO5, HB5⟩
            · obtain rfl : k = ds.length := by omega
              have kd : ¬ (ds.length : Int) < (ds.length : Int) := by omega
              have HQ2 := Lib.hid HQ.out.all
              clear HQ hk hkq k1
              cases q with
              | false =>
                have ho : oldB V' x = false := by rw [HHO.out, ← HQ2.out]; rfl
                clear HQ2
                have HY := Lib.hid (take_no HX.out ho)
                clear HX
                go_wp2_with fail
                go_roundg (nx - (p + 1))
                case measure => omega
                case rel => exact ⟨p + 1, aW, nW, cW, rfl, by go_num, by omega, Nat.le_refl _, by omega, by rw [HY.out]; exact HLN, by rw [HY.out]; exact HO, HB⟩
              | true =>
                have ho : oldB V' x = true := by rw [HHO.out, ← HQ2.out]; rfl
                clear HQ2
                have HY := Lib.hid (take_yes HX.out ho)
                clear HX
                go_wp2_with (at_builtin; refine wp_appX elem_namK _ _ (by rfl) (by rfl) (by rfl) HO.out _ (by rfl) (by rfl) (us := [_]) (by rfl) ?c1 ?c2 (by decide) ?c3 ?_)
                case c1 => first | exact one_nam _ | rfl
                case c2 => simp only [HLN.out]; omega
                case c3 => exact HB.out.size
                intro v9 w9 ho9 hb9 hg9 hn9
                have ho9 : w9.ownsRow w8.heap.size 9 1 v9 (nW + 1) (((xs.take p).filter (oldB V')).map Value.string ++ [.string x]) := by have := ho9; simpa only [List.length_map, HLN.out] using this
                obtain ⟨a9, cap9, rfl⟩ := nam_len ho9
                have HO9 : Hid (OwnV 9 w8.heap.size w9 (.slice a9 (nW + 1) cap9) (((xs.take (p + 1)).filter (oldB V')).map Value.string)) := Lib.hid (by rw [HY.out, List.map_append]; unfold OwnV; rw [List.length_append, List.length_map, HLN.out]; exact ho9)
                have HB9 := Lib.hid (HB.out.trans hb9)
                have HLN9 : Hid (((xs.take (p + 1)).filter (oldB V')).length = nW + 1) := Lib.hid (by rw [HY.out, List.length_append, HLN.out]; rfl)
                clear ho9 hb9 hg9 hn9 HO HB HLN
                go_wp2_with fail
                go_roundg (nx - (p + 1))
                case measure => omega
                case rel => exact ⟨p + 1, a9, nW + 1, cap9, rfl, by go_num, by omega, Nat.le_refl _, by omega, HLN9, HO9, HB9⟩
        · obtain ⟨g1, g1b⟩ : NoL x [115, 116, 114, 97, 121] := by rw [hq]; exact nam_seven.1
          have g2 : x.toList = [55, 46, 108, 111, 103] := by rw [hq]; exact nam_seven.2.1
          have g3 : (((x.size : Nat) : Int) == 6) = false := by rw [hq, nam_seven.2.2]; rfl
          have ho : oldB V' x = decide (7 < lg) := by rw [hq]; exact HT.out.seven
          clear hq
          by_cases l7 : 7 < lg
          · rw [decide_eq_true l7] at ho
            have ld : decide ((7 : Int) < lg) = true := decide_eq_true l7
            have HY := Lib.hid (take_yes HX.out ho)
            clear HX
            go_wp2_with (at_builtin; refine wp_appX elem_namK _ _ (by rfl) (by rfl) (by rfl) HO.out _ (by rfl) (by rfl) (us := [_]) (by rfl) ?c1 ?c2 (by decide) ?c3 ?_)
            case c1 => first | exact one_nam _ | rfl
            case c2 => simp only [List.length_map, HLN.out]; omega
            case c3 => exact HB.out.size
            intro v9 w9 ho9 hb9 hg9 hn9
            have ho9 : w9.ownsRow w8.heap.size 9 1 v9 (nW + 1) (((xs.take p).filter (oldB V')).map Value.string ++ [.string x]) := by have := ho9; simpa only [List.length_map, HLN.out] using this
            obtain ⟨a9, cap9, rfl⟩ := nam_len ho9
            have HO9 : Hid (OwnV 9 w8.heap.size w9 (.slice a9 (nW + 1) cap9) (((xs.take (p + 1)).filter (oldB V')).map Value.string)) := Lib.hid (by rw [HY.out, List.map_append]; unfold OwnV; rw [List.length_append, List.length_map, HLN.out]; exact ho9)
            have HB9 := Lib.hid (HB.out.trans hb9)
            have HLN9 : Hid (((xs.take (p + 1)).filter (oldB V')).length = nW + 1) := Lib.hid (by rw [HY.out, List.length_append, HLN.out]; rfl)
            clear ho9 hb9 hg9 hn9 HO HB HLN
            go_wp2_with fail
            go_roundg (nx - (p + 1))
            case measure => omega
            case rel => exact ⟨p + 1, a9, nW + 1, cap9, rfl, by go_num, by omega, Nat.le_refl _, by omega, HLN9, HO9, HB9⟩
          · rw [decide_eq_false l7] at ho
            have ld : decide ((7 : Int) < lg) = false := decide_eq_false l7
            have HY := Lib.hid (take_no HX.out ho)
            clear HX
            go_wp2_with fail
            go_roundg (nx - (p + 1))
            case measure => omega
            case rel => exact ⟨p + 1, aW, nW, cW, rfl, by go_num, by omega, Nat.le_refl _, by omega, by rw [HY.out]; exact HLN, by rw [HY.out]; exact HO, HB⟩
        · have g1 : x.toList = [115, 116, 114, 97, 121] := by rw [hq]; exact nam_stray.1
          have g3 : (((x.size : Nat) : Int) == 6) = false := by rw [hq, nam_stray.2]; rfl
          have ho : oldB V' x = true := by rw [hq]; exact HT.out.stray
          clear hq
          have HY := Lib.hid (take_yes HX.out ho)
          clear HX
          go_wp2_with (at_builtin; refine wp_appX elem_namK _ _ (by rfl) (by rfl) (by rfl) HO.out _ (by rfl) (by rfl) (us := [_]) (by rfl) ?c1 ?c2 (by decide) ?c3 ?_)
          case c1 => first | exact one_nam _ | rfl
          case c2 => simp only [List.length_map, HLN.out]; omega
          case c3 => exact HB.out.size
          intro v9 w9 ho9 hb9 hg9 hn9
          have ho9 : w9.ownsRow w8.heap.size 9 1 v9 (nW + 1) (((xs.take p).filter (oldB V')).map Value.string ++ [.string x]) := by have := ho9; simpa only [List.length_map, HLN.out] using this
          obtain ⟨a9, cap9, rfl⟩ := nam_len ho9
          have HO9 : Hid (OwnV 9 w8.heap.size w9 (.slice a9 (nW + 1) cap9) (((xs.take (p + 1)).filter (oldB V')).map Value.string)) := Lib.hid (by rw [HY.out, List.map_append]; unfold OwnV; rw [List.length_append, List.length_map, HLN.out]; exact ho9)
          have HB9 := Lib.hid (HB.out.trans hb9)
          have HLN9 : Hid (((xs.take (p + 1)).filter (oldB V')).length = nW + 1) := Lib.hid (by rw [HY.out, List.length_append, HLN.out]; rfl)
          clear ho9 hb9 hg9 hn9 HO HB HLN
          go_wp2_with fail
          go_roundg (nx - (p + 1))
          case measure => omega
          case rel => exact ⟨p + 1, a9, nW + 1, cap9, rfl, by go_num, by omega, Nat.le_refl _, by omega, HLN9, HO9, HB9⟩
      -- END
    by_cases h2 : i < 6
    rotate_left
    · have hd1 : (i : Int) < (on : Int) := by omega
      have hd2 : ¬ (i : Int) < 6 := by omega
      have HM0 : Hid (OG F w wr H b mb S 1 verC [wholeE verC] 14 12200 13) := Lib.hid (HM.out.more (by omega) (by omega))
      have HMK : Hid (Calls Tryz.prog 7 #[.pointer (some ⟨b, 0, none⟩), .string ⟨#[55, 46, 108, 111, 103]⟩] wr (OMake F w wr H b mb S 1 verC [wholeE verC] 14 12200 13 log7)) := Lib.hid (omake_g HM0.out HFL.out (x := log7) (by kernel_rfl) (by decide) (by decide) (by rw [man1_is]; decide) (by omega) (by omega) (by omega))
      clear HM HM0
      go_wp2_with fail
      refine HMK.out.mono ?_
      rintro e w5 ⟨F5, S5, rfl, st5, hm5, hf5, hn5, h05⟩
      have HX5 := Lib.hid (HX.out.step st5)
      have HN5 := Lib.hid (And.intro hn5 h05)
      have HMK2 : Hid (Calls Tryz.prog 7 #[.pointer (some ⟨b, 0, none⟩), .string ⟨#[115, 116, 114, 97, 121]⟩] w5 (OMake F5 w w5 H b mb S5 1 verC [wholeE verC] 15 12200 14 stray)) := Lib.hid (omake_g hm5 hf5 (x := stray) (by kernel_rfl) (by decide) (by decide) (by rw [man1_is]; decide) (by omega) (by omega) (by omega))
      clear st5 hm5 hf5 hn5 h05 HMK HX HFL
      go_wp2_with fail
      refine HMK2.out.mono ?_
      rintro e w6 ⟨F6, S6, rfl, st6, hm6, hf6, hn6, h06⟩
      have HX6 := Lib.hid (HX5.out.step st6)
      have HN6 := Lib.hid (HNM.out.last HN5.out.1 HN5.out.2 hn6 h06)
      have hds6 : ds.length ≤ 6 := by omega
      have HCO := Lib.hid (mcommit_g HG.out hm6.mg hf6 (.agg #[.int .i64 100, .int .i64 lg, .int .i64 0, .slice aA ds.length cA, .slice none 0 0]) (eO lg ds) ⟨_, _, rfl, HX6.out.row.rd encTbf_len, RdV.nil _ _ _⟩ (eO_ok lg hds6) (oldE_is hg0 hg1 HD.out.1 HD.out.2 hds6) (by omega) (by have := eO_len lg hds6 (logB smN [wholeE verC]).length; have := HLOG.out; omega) (by omega) (by have := eO_len lg hds6 (logB smN [wholeE verC]).length; omega))
      have x0 : w6.cell? ⟨H, 0, none⟩ = some (.int .i64 100) := HX6.out.blk.at 0
      have x1 : w6.cell? ⟨H, 1, none⟩ = some (.int .i64 lg) := HX6.out.blk.at 1
      have x2 : w6.cell? ⟨H, 2, none⟩ = some (.int .i64 0) := HX6.out.blk.at 2
      have x3 : w6.cell? ⟨H, 3, none⟩ = some (.slice aA ds.length cA) := HX6.out.blk.at 3
      have x4 : w6.cell? ⟨H, 4, none⟩ = some (.slice none 0 0) := HX6.out.blk.at 4
      clear st6 hm6 hf6 hn6 h06 HMK2 HX5 HNM HN5
      go_wp2_with fail
      refine HCO.out.mono ?_
      rintro e w7 ⟨V', F7, S7, rfl, hsm, st7, hm7, hnow, -⟩
      have HX7 := Lib.hid (HX6.out.step st7)
      have HM7 := Lib.hid hm7
      have HSM := Lib.hid hsm
      have HN7 : Hid (namP S7.now) := Lib.hid (by rw [hnow]; exact HN6.out)
      obtain ⟨ρ7, -, h27, -⟩ := hm7.ex
      have HNS := Lib.hid (fsnames_any w7 b ρ7 S7 h27.fs)
      clear x0 x1 x2 x3 x4 hsm st7 hm7 hnow h27 HCO HX6 HN6
      go_wp2_with fail
      refine HNS.out.mono ?_
      rintro e w8 ⟨vn, rfl, hon8, hbn8⟩
      -- TAIL
      have HT : Hid (HasT ds lg V') := Lib.hid (HasT.of HD.out.2 HSM.out)
      have HM8 := Lib.hid (HM7.out.below hbn8)
      have HX8 : Hid (∀ W, Below w8.heap.size w8 W → OX F7 H W H lg ds (.slice aA ds.length cA)) := Lib.hid fun W hW => (HX7.out.below hbn8).below hW
      obtain ⟨xs, hxs⟩ : ∃ xs, S7.now.map (·.1) = xs := ⟨_, rfl⟩
      obtain ⟨nx, hnx⟩ : ∃ n, xs.length = n := ⟨_, rfl⟩
      have hfew : nx ≤ 16 := by rw [← hnx, ← hxs, List.length_map]; exact HM7.out.std.disk.now
      have hon9 : OwnV 9 w7.heap.size w8 vn (xs.map Value.string) := by rw [← hxs, List.map_map]; exact hon8
      have hpos : 0 < nx := by rw [← hnx, ← hxs, List.length_map]; exact now_pos HM7.out
      have HNX : Hid (∀ x ∈ xs, x = curN ∨ x = manN 1 ∨ (∃ m, 50 ≤ m ∧ m ≤ 91 ∧ x = tabD m) ∨ x = log7 ∨ x = stray) := Lib.hid fun x hx => HN7.out.mem HM7.out.std.disk.ok.now (by rw [hxs]; exact hx)
      have HOLD : Hid (∀ W, Below w8.heap.size w8 W → Calls Tryz.prog 11 #[.pointer (some ⟨mb, 0, none⟩)] W (OldTo W (xs.filter (oldB V')))) := Lib.hid fun W hW => by
        rw [← hxs]; exact mold_g HG.out HE.out (HM8.out.below hW) HN7.out (by omega)
      obtain ⟨gn, cn, rfl⟩ : ∃ g c, vn = .slice (some ⟨g, 0, none⟩) nx c := by
        rcases hon9.nilOr with ⟨-, e⟩ | ⟨g, c, e, -⟩
        · rw [List.map_eq_nil_iff] at e; subst e; simp at hnx; omega
        · rw [List.length_map, hnx] at e; exact ⟨g, c, e⟩
      have HRD := Lib.hid hon9.rd
      have HNL := Lib.hid hnx
      have HBW : Hid (Below w.heap.size w w8) := Lib.hid HM8.out.blw
      have hdsl : ds.length ≤ 6 := by omega
      clear hon8 hon9 hxs hnx hbn8 hpos HNS HM7 HX7 HSM HN7 HM8 HZ HL HLOG HG HE
      go_wp2_with fail
      go_loopg [10, 16, 17, 18, 19] nx (fun kk vw vi _ _ _ wr => ∃ (p : Nat) (aW : Option Addr) (nW cW : Nat), vw = .slice aW nW cW ∧ vi = .int .i64 (p : Int) ∧ p ≤ nx ∧ nx - p ≤ kk ∧ nW ≤ p ∧ Hid (((xs.take p).filter (oldB V')).length = nW) ∧ Hid (OwnV 9 w8.heap.size wr (.slice aW nW cW) (((xs.take p).filter (oldB V')).map Value.string)) ∧ Hid (Below w8.heap.size w8 wr))
      case atStart => exact ⟨0, none, 0, 0, rfl, rfl, by omega, by omega, by omega, Lib.hid rfl, Lib.hid (OwnV.nil _ _ _), Lib.hid (Below.refl _ _)⟩
      case round =>
        obtain ⟨p, aW, nW, cW, rfl, rfl, hp, hkk, hnp, HLN, HO, HB⟩ := hrel
        by_cases p1 : p < nx
        rotate_left
        · have pe : p = nx := by omega
          have HTK : Hid (xs.take p = xs) := Lib.hid (List.take_of_length_le (by have := HNL.out; omega))
          rw [HTK.out] at HO HLN
          have pd : ¬ (p : Int) < (nx : Int) := by omega
          have HOC := Lib.hid (HOLD.out wr HB.out)
          generalize xs.filter (oldB V') = ys at *
          clear HOLD HRD HNX HX8 HTK HT HD HNL pe p1
          go_wp2_with fail
          refine HOC.out.mono ?_
          rintro e w9 ⟨gv, rfl, hg9, hb9⟩
          obtain ⟨ag, cg, rfl⟩ := str_len hg9 HLN.out
          have HG9 := Lib.hid hg9
          have HO9 := Lib.hid (HO.out.rd.below hb9)
          have HB9 := Lib.hid (HBW.out.trans ((HB.out.trans (hb9.mono HB.out.size)).mono HBW.out.size))
          have gne : ((nW : Int) != (nW : Int)) = false := by simp
          clear hg9 hb9 HOC HO HB pd
          go_wp2_with fail
          clear gne
          go_loopg [21] nW (fun kk vi ws => ∃ (q : Nat), vi = .int .i64 (q : Int) ∧ q ≤ nW ∧ nW - q ≤ kk ∧ Hid (RdV ws (.slice ag nW cg) (ys.map Value.string)) ∧ Hid (RdV ws (.slice aW nW cW) (ys.map Value.string)) ∧ Hid (Below w.heap.size w ws))
          case atStart => exact ⟨0, rfl, by omega, by omega, HG9, HO9, HB9⟩
          case round =>
            clear HG9 HO9 HB9
            obtain ⟨q, rfl, hq, hkq, HG9, HO9, HB9⟩ := hrel
            by_cases q1 : q < nW
            · have qd : (q : Int) < (nW : Int) := by omega
              have qd0 : (0 : Int) ≤ (q : Int) := by omega
              obtain ⟨y, hy⟩ : ∃ y, ys[q]? = some y := ⟨ys[q]'(by have := HLN.out; omega), List.getElem?_eq_getElem _⟩
              obtain ⟨by1, oy1, rfl, -, cy1⟩ := str_at HG9.out q y hy
              obtain ⟨by2, oy2, rfl, -, cy2⟩ := str_at HO9.out q y hy
              have gy : (y.toList == y.toList) = true := bs_refl y
              clear hy
              go_wp2_with fail
              go_region
              go_wp2_with fail
              go_roundg (nW - (q + 1))
              case measure => omega
              case rel => exact ⟨q + 1, by go_num, by omega, Nat.le_refl _, HG9, HO9, Lib.hid HB9.out.drew⟩
            · obtain rfl : q = nW := by omega
              have qd : ¬ (q : Int) < (q : Int) := by omega
              go_wp2_with fail
              go_ret
              exact ⟨rfl, HB9.out⟩
        have pd : (p : Int) < (nx : Int) := by omega
        have pd0 : (0 : Int) ≤ (p : Int) := by omega
        obtain ⟨x, hx⟩ : ∃ x, xs[p]? = some x := ⟨xs[p]'(by have := HNL.out; omega), List.getElem?_eq_getElem _⟩
        have cx : wr.cell? ⟨gn, p, none⟩ = some (.string x) := (HRD.out.below HB.out).nam hx
        have HX := Lib.hid hx
        have hcase := HNX.out x (List.mem_of_getElem? hx)
        clear hx HOLD
        rcases hcase with hq | hq | ⟨m, m1, m2, hq⟩ | hq | hq
        · obtain ⟨g1, g1b⟩ : NoL x [115, 116, 114, 97, 121] := by rw [hq]; exact nam_cur.1
          obtain ⟨g2, g2b⟩ : NoL x [55, 46, 108, 111, 103] := by rw [hq]; exact nam_cur.2.1
          have g3 : (((x.size : Nat) : Int) == 6) = false := by rw [hq, nam_cur.2.2]; rfl
          have ho : oldB V' x = false := HT.out.need (.inl hq)
          clear hq
          have HY := Lib.hid (take_no HX.out ho)
          clear HX
          go_wp2_with fail
          go_roundg (nx - (p + 1))
          case measure => omega
          case rel => exact ⟨p + 1, aW, nW, cW, rfl, by go_num, by omega, Nat.le_refl _, by omega, by rw [HY.out]; exact HLN, by rw [HY.out]; exact HO, HB⟩
        · obtain ⟨g1, g1b⟩ : NoL x [115, 116, 114, 97, 121] := by rw [hq]; exact nam_man.1
          obtain ⟨g2, g2b⟩ : NoL x [55, 46, 108, 111, 103] := by rw [hq]; exact nam_man.2.1
          have g3 : (((x.size : Nat) : Int) == 6) = false := by rw [hq, nam_man.2.2]; rfl
          have ho : oldB V' x = false := HT.out.need (.inr hq)
          clear hq
          have HY := Lib.hid (take_no HX.out ho)
          clear HX
          go_wp2_with fail
          go_roundg (nx - (p + 1))
          case measure => omega
          case rel => exact ⟨p + 1, aW, nW, cW, rfl, by go_num, by omega, Nat.le_refl _, by omega, by rw [HY.out]; exact HLN, by rw [HY.out]; exact HO, HB⟩
        · obtain ⟨g1, g1b⟩ : NoL x [115, 116, 114, 97, 121] := by rw [hq]; exact (nam_tab m).1
          obtain ⟨g2, g2b⟩ : NoL x [55, 46, 108, 111, 103] := by rw [hq]; exact (nam_tab m).2.1
          have hs6 : x.size = 6 := by rw [hq]; exact (nam_tab m).2.2
          have g3 : (((x.size : Nat) : Int) == 6) = true := by rw [hs6]; rfl
          have hsz : (2 : Int) ≤ ((x.size : Nat) : Int) := by rw [hs6]; decide
          have HSL : (x.extract 2 x.size).toList = [46, 116, 97, 98] := by rw [hs6]; exact tab_sl hq
          have ho : oldB V' x = !decide (m ∈ ds) := by rw [hq]; exact HT.out.tab (by omega)
          have HHO := Lib.hid ho
          have HQX := Lib.hid hq
          have c3 : wr.cell? ⟨H, 3, none⟩ = some (.slice aA ds.length cA) := (HX8.out wr HB.out).blk.at 3
          clear ho hq hs6
          go_wp2_with fail
          clear g1 g1b g2 g2b g3 HSL hsz cx pd c3
          obtain ⟨we, rfl⟩ : ∃ z, z = wr := ⟨_, rfl⟩
          go_loopg [18, 19] ds.length (fun kk vq vk ws => ∃ (q : Bool) (k : Nat), vq = .bool q ∧ vk = .int .i64 (k : Int) ∧ k ≤ ds.length ∧ ds.length - k ≤ kk ∧ Hid (QO (!q) ds k m) ∧ Hid (OwnV 9 w8.heap.size ws (.slice aW nW cW) (((xs.take p).filter (oldB V')).map Value.string)) ∧ Hid (Below w8.heap.size w8 ws))
          case atStart => exact ⟨true, 0, rfl, rfl, by omega, by omega, Lib.hid ⟨fun h => (by cases h), fun ⟨j, j1, _⟩ => absurd j1 (by omega)⟩, HO, HB⟩
          case round =>
            clear HO HB
            obtain ⟨q, k, rfl, rfl, hk, hkq, HQ, HO, HB⟩ := hrel
            have hk0 : (0 : Int) ≤ (k : Int) := by omega
            have c3 : wr.cell? ⟨H, 3, none⟩ = some (.slice aA ds.length cA) := (HX8.out wr HB.out).blk.at 3
            by_cases k1 : k < ds.length
            · have kd : (k : Int) < (ds.length : Int) := by omega
              obtain ⟨y, hy⟩ : ∃ y, ds[k]? = some y := ⟨ds[k]'k1, List.getElem?_eq_getElem _⟩
              obtain ⟨ba, ofa, rfl, hba, e0, -, -, -, -⟩ := ((HX8.out wr HB.out).row.rd encTbf_len).atTbf k (tF y) (by rw [List.getElem?_map, hy]; rfl)
              have d0 : wr.cell? ⟨ba, ofa + k * 5, none⟩ = some (.int .i64 (y : Int)) := e0
              clear e0
              cases q with
              | false =>
                have HQ2 : Hid (QO (!false) ds (k + 1) m) := Lib.hid HQ.out.yes
                clear HQ hy
                go_wp2_with fail
                go_roundg (ds.length - (k + 1))
                case measure => omega
                case rel => exact ⟨false, k + 1, rfl, by go_num, by omega, Nat.le_refl _, HQ2, HO, HB⟩
              | true =>
                have hy9 : y ≤ 90 := (HD.out.2 y (List.mem_of_getElem? hy)).2
                have HDC := Lib.hid (dec_any y (by omega) wr)
                by_cases k2 : y = m
                · have g4 : (twoD y ++ (⟨#[46, 116, 97, 98]⟩ : ByteArray)).toList = x.toList := by rw [k2, HQX.out]; rfl
                  have HQ2 : Hid (QO (!false) ds (k + 1) m) := Lib.hid (QO.hit (k2 ▸ hy))
                  have hts : (twoD y).size ≤ 2 := Nat.le_refl 2
                  generalize twoD y = ty at *
                  clear HQ hy k2
                  go_wp2_with fail
                  refine HDC.out.mono ?_
                  rintro e w5 ⟨rfl, hb5⟩
                  have HO5 := Lib.hid (HO.out.below hb5)
                  have HB5 := Lib.hid (HB.out.trans (hb5.mono HB.out.size))
                  clear hb5 HDC HO HB
                  go_wp2_with fail
                  go_roundg (ds.length - (k + 1))
                  case measure => omega
                  case rel => exact ⟨false, k + 1, rfl, by go_num, by omega, Nat.le_refl _, HQ2, HO5, HB5⟩
                · have g4 : ¬ (twoD y ++ (⟨#[46, 116, 97, 98]⟩ : ByteArray)).toList = x.toList := by
                    rw [HQX.out]
                    exact list_ne fun e => k2 (tabD_inj (by omega) (by omega) e)
                  have g5 : ((twoD y ++ (⟨#[46, 116, 97, 98]⟩ : ByteArray)).toList == x.toList) = false := beq_eq_false_iff_ne.2 g4
                  have HQ2 : Hid (QO (!true) ds (k + 1) m) := Lib.hid (HQ.out.no hy k2)
                  have hts : (twoD y).size ≤ 2 := Nat.le_refl 2
                  generalize twoD y = ty at *
                  clear HQ hy k2
                  go_wp2_with fail
                  refine HDC.out.mono ?_
                  rintro e w5 ⟨rfl, hb5⟩
                  have HO5 := Lib.hid (HO.out.below hb5)
                  have HB5 := Lib.hid (HB.out.trans (hb5.mono HB.out.size))
                  clear hb5 HDC HO HB
                  go_wp2_with fail
                  go_roundg (ds.length - (k + 1))
                  case measure => omega
                  case rel => exact ⟨true, k + 1, rfl, by go_num, by omega, Nat.le_refl _, HQ2, HO5, HB5⟩
            · obtain rfl : k = ds.length := by omega
              have kd : ¬ (ds.length : Int) < (ds.length : Int) := by omega
              have HQ2 := Lib.hid HQ.out.all
              clear HQ hk hkq k1
              cases q with
              | false =>
                have ho : oldB V' x = false := by rw [HHO.out, ← HQ2.out]; rfl
                clear HQ2
                have HY := Lib.hid (take_no HX.out ho)
                clear HX
                go_wp2_with fail
                go_roundg (nx - (p + 1))
                case measure => omega
                case rel => exact ⟨p + 1, aW, nW, cW, rfl, by go_num, by omega, Nat.le_refl _, by omega, by rw [HY.out]; exact HLN, by rw [HY.out]; exact HO, HB⟩
              | true =>
                have ho : oldB V' x = true := by rw [HHO.out, ← HQ2.out]; rfl
                clear HQ2
                have HY := Lib.hid (take_yes HX.out ho)
                clear HX
                go_wp2_with (at_builtin; refine wp_appX elem_namK _ _ (by rfl) (by rfl) (by rfl) HO.out _ (by rfl) (by rfl) (us := [_]) (by rfl) ?c1 ?c2 (by decide) ?c3 ?_)
                case c1 => first | exact one_nam _ | rfl
                case c2 => simp only [HLN.out]; omega
                case c3 => exact HB.out.size
                intro v9 w9 ho9 hb9 hg9 hn9
                have ho9 : w9.ownsRow w8.heap.size 9 1 v9 (nW + 1) (((xs.take p).filter (oldB V')).map Value.string ++ [.string x]) := by have := ho9; simpa only [List.length_map, HLN.out] using this
                obtain ⟨a9, cap9, rfl⟩ := nam_len ho9
                have HO9 : Hid (OwnV 9 w8.heap.size w9 (.slice a9 (nW + 1) cap9) (((xs.take (p + 1)).filter (oldB V')).map Value.string)) := Lib.hid (by rw [HY.out, List.map_append]; unfold OwnV; rw [List.length_append, List.length_map, HLN.out]; exact ho9)
                have HB9 := Lib.hid (HB.out.trans hb9)
                have HLN9 : Hid (((xs.take (p + 1)).filter (oldB V')).length = nW + 1) := Lib.hid (by rw [HY.out, List.length_append, HLN.out]; rfl)
                clear ho9 hb9 hg9 hn9 HO HB HLN
                go_wp2_with fail
                go_roundg (nx - (p + 1))
                case measure => omega
                case rel => exact ⟨p + 1, a9, nW + 1, cap9, rfl, by go_num, by omega, Nat.le_refl _, by omega, HLN9, HO9, HB9⟩
        · obtain ⟨g1, g1b⟩ : NoL x [115, 116, 114, 97, 121] := by rw [hq]; exact nam_seven.1
          have g2 : x.toList = [55, 46, 108, 111, 103] := by rw [hq]; exact nam_seven.2.1
          have g3 : (((x.size : Nat) : Int) == 6) = false := by rw [hq, nam_seven.2.2]; rfl
          have ho : oldB V' x = decide (7 < lg) := by rw [hq]; exact HT.out.seven
          clear hq
          by_cases l7 : 7 < lg
          · rw [decide_eq_true l7] at ho
            have ld : decide ((7 : Int) < lg) = true := decide_eq_true l7
            have HY := Lib.hid (take_yes HX.out ho)
            clear HX
            go_wp2_with (at_builtin; refine wp_appX elem_namK _ _ (by rfl) (by rfl) (by rfl) HO.out _ (by rfl) (by rfl) (us := [_]) (by rfl) ?c1 ?c2 (by decide) ?c3 ?_)
            case c1 => first | exact one_nam _ | rfl
            case c2 => simp only [List.length_map, HLN.out]; omega
            case c3 => exact HB.out.size
            intro v9 w9 ho9 hb9 hg9 hn9
            have ho9 : w9.ownsRow w8.heap.size 9 1 v9 (nW + 1) (((xs.take p).filter (oldB V')).map Value.string ++ [.string x]) := by have := ho9; simpa only [List.length_map, HLN.out] using this
            obtain ⟨a9, cap9, rfl⟩ := nam_len ho9
            have HO9 : Hid (OwnV 9 w8.heap.size w9 (.slice a9 (nW + 1) cap9) (((xs.take (p + 1)).filter (oldB V')).map Value.string)) := Lib.hid (by rw [HY.out, List.map_append]; unfold OwnV; rw [List.length_append, List.length_map, HLN.out]; exact ho9)
            have HB9 := Lib.hid (HB.out.trans hb9)
            have HLN9 : Hid (((xs.take (p + 1)).filter (oldB V')).length = nW + 1) := Lib.hid (by rw [HY.out, List.length_append, HLN.out]; rfl)
            clear ho9 hb9 hg9 hn9 HO HB HLN
            go_wp2_with fail
            go_roundg (nx - (p + 1))
            case measure => omega
            case rel => exact ⟨p + 1, a9, nW + 1, cap9, rfl, by go_num, by omega, Nat.le_refl _, by omega, HLN9, HO9, HB9⟩
          · rw [decide_eq_false l7] at ho
            have ld : decide ((7 : Int) < lg) = false := decide_eq_false l7
            have HY := Lib.hid (take_no HX.out ho)
            clear HX
            go_wp2_with fail
            go_roundg (nx - (p + 1))
            case measure => omega
            case rel => exact ⟨p + 1, aW, nW, cW, rfl, by go_num, by omega, Nat.le_refl _, by omega, by rw [HY.out]; exact HLN, by rw [HY.out]; exact HO, HB⟩
        · have g1 : x.toList = [115, 116, 114, 97, 121] := by rw [hq]; exact nam_stray.1
          have g3 : (((x.size : Nat) : Int) == 6) = false := by rw [hq, nam_stray.2]; rfl
          have ho : oldB V' x = true := by rw [hq]; exact HT.out.stray
          clear hq
          have HY := Lib.hid (take_yes HX.out ho)
          clear HX
          go_wp2_with (at_builtin; refine wp_appX elem_namK _ _ (by rfl) (by rfl) (by rfl) HO.out _ (by rfl) (by rfl) (us := [_]) (by rfl) ?c1 ?c2 (by decide) ?c3 ?_)
          case c1 => first | exact one_nam _ | rfl
          case c2 => simp only [List.length_map, HLN.out]; omega
          case c3 => exact HB.out.size
          intro v9 w9 ho9 hb9 hg9 hn9
          have ho9 : w9.ownsRow w8.heap.size 9 1 v9 (nW + 1) (((xs.take p).filter (oldB V')).map Value.string ++ [.string x]) := by have := ho9; simpa only [List.length_map, HLN.out] using this
          obtain ⟨a9, cap9, rfl⟩ := nam_len ho9
          have HO9 : Hid (OwnV 9 w8.heap.size w9 (.slice a9 (nW + 1) cap9) (((xs.take (p + 1)).filter (oldB V')).map Value.string)) := Lib.hid (by rw [HY.out, List.map_append]; unfold OwnV; rw [List.length_append, List.length_map, HLN.out]; exact ho9)
          have HB9 := Lib.hid (HB.out.trans hb9)
          have HLN9 : Hid (((xs.take (p + 1)).filter (oldB V')).length = nW + 1) := Lib.hid (by rw [HY.out, List.length_append, HLN.out]; rfl)
          clear ho9 hb9 hg9 hn9 HO HB HLN
          go_wp2_with fail
          go_roundg (nx - (p + 1))
          case measure => omega
          case rel => exact ⟨p + 1, a9, nW + 1, cap9, rfl, by go_num, by omega, Nat.le_refl _, by omega, HLN9, HO9, HB9⟩
      -- END
    have hd1 : (i : Int) < (on : Int) := by omega
    have hd2 : (i : Int) < 6 := by omega
    have hd0 : (0 : Int) ≤ (i : Int) := by omega
    obtain ⟨z, hz⟩ : ∃ x, zs[i]? = some x := ⟨zs[i]'(by have := HL.out; omega), List.getElem?_eq_getElem _⟩
    obtain ⟨bz, oz, rfl, hbz, hcz⟩ := edInts_at (RdV.below HZ.out HM.out.blw) i z hz
    have hskip : Hid (OG F w wr H b mb S 1 verC [wholeE verC] (2 + 2 * (i + 1)) 12200 (1 + 2 * (i + 1))) := Lib.hid (HM.out.more (by omega) (by omega))
    by_cases h3 : z < 50
    · have hd3 : decide (z < 50) = true := decide_eq_true h3
      clear HM
      go_wp2_with fail
      go_roundg (6 - (i + 1))
      case measure => omega
      case rel => exact ⟨i + 1, F, S, ds, aA, cA, by go_num, by omega, Nat.le_refl _, by omega, HD, hskip, HFL, HNM, HX⟩
    by_cases h4 : 90 < z
    · have hd3 : decide (z < 50) = false := decide_eq_false h3
      have hd4 : decide (90 < z) = true := decide_eq_true h4
      clear HM
      go_wp2_with fail
      go_roundg (6 - (i + 1))
      case measure => omega
      case rel => exact ⟨i + 1, F, S, ds, aA, cA, by go_num, by omega, Nat.le_refl _, by omega, HD, hskip, HFL, HNM, HX⟩
    have hd3 : decide (z < 50) = false := decide_eq_false h3
    have hd4 : decide (90 < z) = false := decide_eq_false h4
    obtain ⟨d, rfl⟩ : ∃ d : Nat, z = (d : Int) := ⟨z.toNat, by omega⟩
    have hd5 : 50 ≤ d ∧ d ≤ 90 := by omega
    have c3 : wr.cell? ⟨H, 3, none⟩ = some (.slice aA ds.length cA) := HX.out.blk.at 3
    have hnl : (ds.length : Int) ≤ 6 := by omega
    clear hskip h3 h4 hz hbz
    go_wp2_with fail
    clear hd1 hd2 hd3 hd4 hcz
    obtain ⟨we, rfl⟩ : ∃ x, x = wr := ⟨_, rfl⟩
    go_loopg [13, 14] ds.length (fun kk vq vk ws => ∃ (q : Bool) (k : Nat), vq = .bool q ∧ vk = .int .i64 (k : Int) ∧ k ≤ ds.length ∧ ds.length - k ≤ kk ∧ ws = we ∧ Hid (QO q ds k d))
    case atStart => exact ⟨false, 0, rfl, rfl, by omega, by omega, rfl, Lib.hid ⟨fun h => (by cases h), fun ⟨j, j1, _⟩ => absurd j1 (by omega)⟩⟩
    case round =>
      obtain ⟨q, k, rfl, rfl, hk, hkk, rfl, HQ⟩ := hrel
      have hk0 : (0 : Int) ≤ (k : Int) := by omega
      by_cases g1 : k < ds.length
      · have hg1' : (k : Int) < (ds.length : Int) := by omega
        obtain ⟨x, hx⟩ : ∃ x, ds[k]? = some x := ⟨ds[k]'g1, List.getElem?_eq_getElem _⟩
        obtain ⟨ba, ofa, rfl, hba, e0, -, -, -, -⟩ := (HX.out.row.rd encTbf_len).atTbf k (tF x) (by rw [List.getElem?_map, hx]; rfl)
        have d0 : wr.cell? ⟨ba, ofa + k * 5, none⟩ = some (.int .i64 (x : Int)) := e0
        clear e0
        cases q with
        | true =>
          have HQ2 := Lib.hid HQ.out.yes
          clear HQ hx
          go_wp2_with fail
          go_roundg (ds.length - (k + 1))
          case measure => omega
          case rel => exact ⟨true, k + 1, rfl, by go_num, by omega, Nat.le_refl _, rfl, HQ2⟩
        | false =>
          by_cases g2 : x = d
          · subst g2
            have HQ2 := Lib.hid (QO.hit hx)
            have g3 : ((x : Int) == (x : Int)) = true := by simp
            clear HQ hx
            go_wp2_with fail
            go_roundg (ds.length - (k + 1))
            case measure => omega
            case rel => exact ⟨true, k + 1, rfl, by go_num, by omega, Nat.le_refl _, rfl, HQ2⟩
          · have g3 : ((x : Int) == (d : Int)) = false := beq_eq_false_iff_ne.2 (by omega)
            have HQ2 := Lib.hid (HQ.out.no hx g2)
            clear HQ hx g2
            go_wp2_with fail
            go_roundg (ds.length - (k + 1))
            case measure => omega
            case rel => exact ⟨false, k + 1, rfl, by go_num, by omega, Nat.le_refl _, rfl, HQ2⟩
      · obtain rfl : k = ds.length := by omega
        have hg1' : ¬ (ds.length : Int) < (ds.length : Int) := by omega
        have HQ2 := Lib.hid HQ.out.all
        clear HQ hk hkk g1
        cases q with
        | true =>
          have HDx := HD
          have HMx := HM
          have HXx := HX
          have HDC := Lib.hid (dec_any d (by omega) wr)
          clear HM HX
          go_wp2_with fail
          refine HDC.out.mono ?_
          rintro e w5 ⟨rfl, hb5⟩
          have HM5 := Lib.hid (HMx.out.below hb5)
          have HX5 := Lib.hid (HXx.out.below hb5)
          have HMK : Hid (Calls Tryz.prog 7 #[.pointer (some ⟨b, 0, none⟩), .string (twoD d ++ ⟨#[46, 116, 97, 98]⟩)] w5 (OMake F w w5 H b mb S 1 verC [wholeE verC] (2 + 2 * i) 12200 (1 + 2 * i) (tabD d))) := Lib.hid (omake_g HM5.out HFL.out (x := tabD d) (tabD_nameOk (by omega)) (by rw [tabD_size]; omega) (tabD_cur d) (tabD_man d) (by omega) (by omega) (by omega))
          clear hb5 HDC HMx HXx HM5
          go_wp2_with fail
          refine HMK.out.mono ?_
          rintro e w6 ⟨F6, S6, rfl, st6, hm6, hf6, hn6, h06⟩
          have HM6 := Lib.hid hm6
          have HF6 := Lib.hid hf6
          have HN6 := Lib.hid (HNM.out.next hd5.1 (by omega) hn6 h06)
          have HX6 := Lib.hid (HX5.out.step st6)
          have HDC2 : Hid (Calls Tryz.prog 8 #[.int .i64 ((d : Int) + 1)] w6 fun e w' => e = .returned (.string (twoD (d + 1))) ∧ Below w6.heap.size w6 w') := Lib.hid (by
            have := dec_any (d + 1) (by omega) w6
            rwa [show ((d + 1 : Nat) : Int) = (d : Int) + 1 by omega] at this)
          clear st6 hm6 hf6 hn6 h06 HMK HX5 HNM HFL
          go_wp2_with fail
          refine HDC2.out.mono ?_
          rintro e w7 ⟨rfl, hb7⟩
          have HM7 := Lib.hid (HM6.out.below hb7)
          have HX7 := Lib.hid (HX6.out.below hb7)
          have HMK2 : Hid (Calls Tryz.prog 7 #[.pointer (some ⟨b, 0, none⟩), .string (twoD (d + 1) ++ ⟨#[46, 116, 97, 98]⟩)] w7 (OMake F6 w w7 H b mb S6 1 verC [wholeE verC] (2 + 2 * i + 1) 12200 (1 + 2 * i + 1) (tabD (d + 1)))) := Lib.hid (omake_g HM7.out HF6.out (x := tabD (d + 1)) (tabD_nameOk (by omega)) (by rw [tabD_size]; omega) (tabD_cur _) (tabD_man _) (by omega) (by omega) (by omega))
          clear hb7 HDC2 HM6 HX6 HM7
          go_wp2_with fail
          refine HMK2.out.mono ?_
          rintro e w8 ⟨F8, S8, rfl, st8, hm8, hf8, hn8, h08⟩
          have HM8 : Hid (OG F8 w w8 H b mb S8 1 verC [wholeE verC] (2 + 2 * (i + 1)) 12200 (1 + 2 * (i + 1))) := Lib.hid (hm8.more (by omega) (by omega))
          have HF8 := Lib.hid hf8
          have HN8 := Lib.hid (HN6.out.next (m := d + 1) (by omega) (by omega) hn8 h08)
          have HX8 := Lib.hid (HX7.out.step st8)
          clear st8 hm8 hf8 hn8 h08 HMK2 HX7 HN6 HF6
          go_wp2_with fail
          go_roundg (6 - (i + 1))
          case measure => omega
          case rel => exact ⟨i + 1, F8, S8, ds, aA, cA, by go_num, by omega, Nat.le_refl _, by omega, HDx, HM8, HF8, HN8, HX8⟩
        | false =>
          have hnd : d ∉ ds := of_decide_eq_false HQ2.out.symm
          have HDx : Hid ((ds ++ [d]).Nodup ∧ ∀ k ∈ ds ++ [d], 50 ≤ k ∧ k ≤ 90) := Lib.hid ⟨by
            rw [List.nodup_append]
            refine ⟨HD.out.1, by simp, fun x hx y hy e => ?_⟩
            rw [List.mem_singleton.1 hy] at e
            exact hnd (e ▸ hx), fun k hk => by
            rcases List.mem_append.1 hk with h | h
            · exact HD.out.2 k h
            · rw [List.mem_singleton.1 h]; exact hd5⟩
          clear hnd HQ2
          go_wp2_with (at_builtin; refine wp_appX elem_tbf _ _ (by rfl) (by rfl) (by rfl) HX.out.row _ (by rfl) (by rfl) (us := [_, _, _, _, _]) (by rfl) ?c1 ?c2 (by decide) ?c3 ?_)
          case c1 => exact ⟨rfl, rfl, rfl, rfl⟩
          case c2 => omega
          case c3 => exact HM.out.top
          intro v8 w8 ho8 hb8 hg8 hn8
          have ho8' := row_snoc ho8
          obtain ⟨a8, c8, rfl⟩ := tbf_form ho8'
          have hl8 : (ds ++ [d]).length = ds.length + 1 := by rw [List.length_append, List.length_singleton]
          rw [List.length_map, hl8] at ho8' hn8 ⊢
          obtain ⟨x1, x2, x3, x4⟩ := HX.out.push (us := [.int .i64 (d : Int), .int .i64 0, .int .i64 0, .string ⟨#[97]⟩, .string ⟨#[98]⟩]) (fun k hk => HM.out.high k hk) HM.out.top ho8' hg8 hn8
          have HMx := Lib.hid (HM.out.upd x2 (fun k hk => (x3 k hk).1) (fun k hk => (x3 k hk).2))
          have HXx := Lib.hid x1
          have k3 : w8.cell? ⟨H, 3, none⟩ = some (.slice aA ds.length cA) := x4.at 3
          have f3 := x4.free 3
          clear ho8 ho8' hb8 hg8 hn8 x1 x2 x3 x4
          have HDC := Lib.hid (dec_any d (by omega) (w8.setCell ⟨H, 3, none⟩ (.slice a8 (ds.length + 1) c8)))
          clear HM HX
          go_wp2_with fail
          refine HDC.out.mono ?_
          rintro e w5 ⟨rfl, hb5⟩
          have HM5 := Lib.hid (HMx.out.below hb5)
          have HX5 := Lib.hid (HXx.out.below hb5)
          have HMK : Hid (Calls Tryz.prog 7 #[.pointer (some ⟨b, 0, none⟩), .string (twoD d ++ ⟨#[46, 116, 97, 98]⟩)] w5 (OMake F w w5 H b mb S 1 verC [wholeE verC] (2 + 2 * i) 12200 (1 + 2 * i) (tabD d))) := Lib.hid (omake_g HM5.out HFL.out (x := tabD d) (tabD_nameOk (by omega)) (by rw [tabD_size]; omega) (tabD_cur d) (tabD_man d) (by omega) (by omega) (by omega))
          clear hb5 HDC HMx HXx HM5
          go_wp2_with fail
          refine HMK.out.mono ?_
          rintro e w6 ⟨F6, S6, rfl, st6, hm6, hf6, hn6, h06⟩
          have HM6 := Lib.hid hm6
          have HF6 := Lib.hid hf6
          have HN6 := Lib.hid (HNM.out.next hd5.1 (by omega) hn6 h06)
          have HX6 := Lib.hid (HX5.out.step st6)
          have HDC2 : Hid (Calls Tryz.prog 8 #[.int .i64 ((d : Int) + 1)] w6 fun e w' => e = .returned (.string (twoD (d + 1))) ∧ Below w6.heap.size w6 w') := Lib.hid (by
            have := dec_any (d + 1) (by omega) w6
            rwa [show ((d + 1 : Nat) : Int) = (d : Int) + 1 by omega] at this)
          clear st6 hm6 hf6 hn6 h06 HMK HX5 HNM HFL
          go_wp2_with fail
          refine HDC2.out.mono ?_
          rintro e w7 ⟨rfl, hb7⟩
          have HM7 := Lib.hid (HM6.out.below hb7)
          have HX7 := Lib.hid (HX6.out.below hb7)
          have HMK2 : Hid (Calls Tryz.prog 7 #[.pointer (some ⟨b, 0, none⟩), .string (twoD (d + 1) ++ ⟨#[46, 116, 97, 98]⟩)] w7 (OMake F6 w w7 H b mb S6 1 verC [wholeE verC] (2 + 2 * i + 1) 12200 (1 + 2 * i + 1) (tabD (d + 1)))) := Lib.hid (omake_g HM7.out HF6.out (x := tabD (d + 1)) (tabD_nameOk (by omega)) (by rw [tabD_size]; omega) (tabD_cur _) (tabD_man _) (by omega) (by omega) (by omega))
          clear hb7 HDC2 HM6 HX6 HM7
          go_wp2_with fail
          refine HMK2.out.mono ?_
          rintro e w8 ⟨F8, S8, rfl, st8, hm8, hf8, hn8, h08⟩
          have HM8 : Hid (OG F8 w w8 H b mb S8 1 verC [wholeE verC] (2 + 2 * (i + 1)) 12200 (1 + 2 * (i + 1))) := Lib.hid (hm8.more (by omega) (by omega))
          have HF8 := Lib.hid hf8
          have HN8 := Lib.hid (HN6.out.next (m := d + 1) (by omega) (by omega) hn8 h08)
          have HX8 := Lib.hid (HX7.out.step st8)
          clear st8 hm8 hf8 hn8 h08 HMK2 HX7 HN6 HF6
          go_wp2_with fail
          go_roundg (6 - (i + 1))
          case measure => omega
          case rel => exact ⟨i + 1, F8, S8, ds ++ [d], a8, c8, by go_num, by omega, Nat.le_refl _, by rw [List.length_append, List.length_singleton]; omega, HDx, HM8, HF8, HN8, by rw [hl8]; exact HX8⟩
theorem wf_old {c : Int} (wf : (Lit.int .i64 c).wf = true) : -9223372036854775808 ≤ c ∧ c ≤ 9223372036854775807 := by
  simp [Lit.wf, IntKind.min, IntKind.max, IntKind.signed, IntKind.bits] at wf; omega
theorem manifestOld_walk (w : World) (hT : TabAt w) (hP : PowAt w) (hE : ErrAt w) (oa : Option Addr) (on oc : Nat) (zs : List Int) (hz : RdV w (.slice oa on oc) (zs.map (Value.int .i64))) (hg : ∀ n ∈ zs, (Lit.int .i64 n).wf = true) (z : Int) (wf : (Lit.int .i64 z).wf = true) :
    Calls Tryz.prog 3 #[.slice oa on oc, .int .i64 z] w fun e w' => e = .returned (.bool true) ∧ Below w.heap.size w w' := manOld_walk w ⟨hT, hP⟩ hE oa on oc zs hz z (wf_old wf).1 (wf_old wf).2
end Go.Proofs.YtmmkgopnccfiiaaGreatDoor
