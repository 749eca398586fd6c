/- The list's laws: ListBoth. -/
import Derived.Test.YtacaofnonmgfoaaSkipNm
namespace Go.Proofs.Ytacaofnonmgfoaa
set_option linter.unusedVariables false
open Go.RowKit
/-- What is put i-th. -/
def eB (i : Nat) : Ent := ⟨nmB (i * 7 % 26), (i : Int) + 1, 0, ⟨#[]⟩, ⟨#[]⟩⟩
def esB (i : Nat) : List Ent := (List.range i).map eB
theorem esB_snoc (i : Nat) : esB (i + 1) = esB i ++ [eB i] := by unfold esB; rw [List.range_succ, List.map_append]; rfl
theorem esB_len (i : Nat) : (esB i).length = i := by unfold esB; simp
theorem esB_small (i : Nat) : (putAll (esB i)).length ≤ i ∧ szA (putAll (esB i)) ≤ 33 * i := by
  have := putAll_small (K := 33) (es := esB i) fun e he => by
    obtain ⟨j, -, rfl⟩ := List.mem_map.1 he
    exact Nat.le_refl _
  rwa [esB_len] at this
theorem esB_all (n : Nat) : (putAll (esB n)).length = n := by
  refine putAll_all n (esB_len n) ?_
  unfold esB
  rw [List.map_map]
  refine List.pairwise_map.2 (List.pairwise_lt_range.imp fun {a b} h e => ?_)
  have : (a : Int) + 1 = (b : Int) + 1 := congrArg Prod.snd e
  omega
/-- An iterator p over a list that does not change goes its way; some rows are made behind w. -/
structure WayAt (w : World) (p b : Nat) (at_ : Option Nat) (v : Value) (l : List Ent) (W : World) : Prop where
  it : ItAt W p b at_
  upd : UpdF (fun k => k = p) w W
  row : OwnK encEnt 5 30 w.heap.size W v l
theorem WayAt.below {w : World} {p b : Nat} {at_ : Option Nat} {v : Value} {l : List Ent} {W W' : World} (h : WayAt w p b at_ v l W) (u : Below W.heap.size W W') : WayAt w p b at_ v l W' :=
  ⟨h.it.below u, h.upd.trans (UpdF.of u), h.row.below u⟩
theorem WayAt.grows {w : World} {p b : Nat} {at_ : Option Nat} {v v' : Value} {l l' : List Ent} {W W' : World} (h : WayAt w p b at_ v l W) (hp : p < w.heap.size) (u : Below w.heap.size W W') (o : OwnK encEnt 5 30 w.heap.size W' v' l') : WayAt w p b at_ v' l' W' :=
  ⟨(u.block p hp).trans h.it, h.upd.then (G := fun k => w.heap.size ≤ k) ⟨u.os, u.tape, u.output, u.size, fun k _ hn => u.block k (by omega)⟩ fun i hi => .inr hi, o⟩
theorem WayAt.moves {w : World} {p b : Nat} {at_ q : Option Nat} {v : Value} {l : List Ent} {W W' : World} (h : WayAt w p b at_ v l W) (hp : p < w.heap.size) (i : ItAt W' p b q) (u : UpdF (fun k => k = p) W W') : WayAt w p b q v l W' := by
  refine ⟨i, h.upd.trans u, row_same h.row fun k hk => u.block k (row_lt h.row k hk) fun e => ?_⟩
  have e2 : k = p := e
  rcases h.row.blk with ⟨e1, -⟩ | ⟨g, cap, cur, e1, h2, -⟩
  · rw [e1] at hk; cases hk
  · rw [e1] at hk
    have : g = k := Option.some.inj hk
    omega
theorem WayAt.lay {w : World} {p b c : Nat} {at_ : Option Nat} {v : Value} {l : List Ent} {W : World} {ρ : Nat → Option Rl} {hv : Value} {H : List Int} {N : List Nd} (h : WayAt w p b at_ v l W) (hl : SkLay w c ρ hv H N) (hr : ∀ k, ρ k ≠ none → k ≠ p) : SkLay W c ρ hv H N :=
  hl.same (fun k hk => h.upd.block k (hl.top k hk) (hr k hk)) h.upd.size
theorem lastB_cases : ∀ l : List Nd, (l = [] ∧ lastB l = none) ∨ ∃ Q y, l = Q ++ [y] ∧ lastB l = some y.nb := fun l => by
  rcases List.eq_nil_or_concat l with rfl | ⟨Q, y, rfl⟩
  · exact .inl ⟨rfl, rfl⟩
  · exact .inr ⟨Q, y, by simp, by rw [List.concat_eq_append, lastB_snoc]⟩
set_option maxHeartbeats 4000000 in
set_option maxRecDepth 100000 in
theorem listBoth_walk (w : World) (a : Int) (ha : (Lit.int .i64 a).wf = true) : Calls Try.prog 6 #[.int .i64 a] w fun e w' => e = .returned (.bool true) ∧ Below w.heap.size w w' := by
  have HB0 := Lib.hid (lbegun_any w)
  by_cases h0 : a < 0
  · clear ha
    go_enter Try.func6, Try.ntmps6
    go_wp2_with fail
    refine HB0.out.mono ?_
    rintro e w1 ⟨rfl, hb⟩
    have HB := Lib.hid hb
    clear hb
    go_wp2_with fail
    go_ret
    exact ⟨rfl, HB.out⟩
  by_cases h6 : 60 < a
  · clear ha
    go_enter Try.func6, Try.ntmps6
    go_wp2_with fail
    refine HB0.out.mono ?_
    rintro e w1 ⟨rfl, hb⟩
    have HB := Lib.hid hb
    clear hb
    go_wp2_with fail
    go_ret
    exact ⟨rfl, HB.out⟩
  obtain ⟨n, rfl⟩ := Int.eq_ofNat_of_zero_le (show 0 ≤ a by omega)
  have hn : n ≤ 60 := by omega
  clear ha
  go_enter Try.func6, Try.ntmps6
  go_wp2_with fail
  refine HB0.out.mono ?_
  rintro e w1 ⟨rfl, hb⟩
  have HB1 := Lib.hid hb
  have HB2 := Lib.hid (hb.alloc hb.size (.cells #[.int .i64 3, .int .i64 1, .int .i64 2] 3))
  have HN := Lib.hid (sknew_any _ [3, 1, 2] _ (ints_lit w1 [3, 1, 2] 3 rfl (by decide)) (by decide))
  clear hb HB0
  go_wp2_with fail
  refine HN.out.mono ?_
  rintro e w2 ⟨b, ρ0, rfl, h1, hb1, hn1⟩
  have HO : Hid (OneAt w b ρ0 [3, 1, 2] [] w2) := Lib.hid ⟨h1, fun k hk => Nat.le_trans HB2.out.size (hn1 k hk), HB2.out.trans (hb1.mono HB2.out.size)⟩
  clear h1 hb1 hn1 HN HB1 HB2
  go_wp2_with fail
  go_loopg [5] n (fun kk v wr => ∃ (i : Nat) (ρ : Nat → Option Rl), v = .int .i64 (i : Int) ∧ i ≤ n ∧ n - i ≤ kk ∧ Hid (OneAt w b ρ [3, 1, 2] (putAll (esB i)) wr))
  case atStart => exact ⟨0, ρ0, rfl, by omega, by omega, HO⟩
  case round =>
    clear HO
    obtain ⟨i, ρ, rfl, hi, hk, HO⟩ := hrel
    have hi0 : (0 : Int) ≤ (i : Int) := by omega
    by_cases hin : i < n
    · have hcv := conv_letter wr (i * 7 % 26) (by omega)
      have hb2 := (Below.refl wr.heap.size wr).alloc (Nat.le_refl _) (.cells #[.int .u8 (97 + ((i * 7 % 26 : Nat) : Int))] 5)
      obtain ⟨wx, hwx⟩ : ∃ wx, wr.alloc (.cells #[.int .u8 (97 + ((i * 7 % 26 : Nat) : Int))] 5) = wx := ⟨_, rfl⟩
      rw [hwx] at hcv hb2
      have hsm := esB_small i
      have HP := Lib.hid (sput_any wx b ρ [3, 1, 2] (putAll (esB i)) (HO.out.at_.below hb2) (eB i) (by show (0 : Int) ≤ _; omega) (by omega) (by have : szE (eB i) = 33 := rfl; omega))
      have HBX := Lib.hid hb2
      obtain ⟨c, hc⟩ : ∃ c : Nat, i * 7 % 26 = c := ⟨_, rfl⟩
      have hci : (i : Int) * 7 % 26 = (c : Int) := by rw [← hc]; omega
      have hc26 : c < 26 := by omega
      unfold eB at HP
      rw [hc] at hcv HP hwx
      obtain ⟨nm, hnm⟩ : ∃ nm, nmB c = nm := ⟨_, rfl⟩
      rw [hnm] at HP hcv
      have HES : Hid (putAll (esB i ++ [⟨nm, (i : Int) + 1, 0, ⟨#[]⟩, ⟨#[]⟩⟩]) = putAll (esB (i + 1))) := Lib.hid (by rw [esB_snoc]; unfold eB; rw [hc, hnm])
      clear hb2 hsm hc hnm
      go_wp2_with fail
      refine HP.out.mono ?_
      rintro e w3 ⟨rfl, ht⟩
      rw [← putAll_snoc, HES.out] at ht
      obtain ⟨ρ', ho⟩ := HO.out.put HBX.out ht
      have HO3 := Lib.hid ho
      clear ho ht HP HO HBX hwx hcv HES
      go_wp2_with fail
      go_roundg (n - (i + 1))
      case measure => omega
      case rel => exact ⟨i + 1, ρ', by go_num, by omega, Nat.le_refl _, HO3⟩
    · obtain rfl : i = n := by omega
      clear hi hk hin
      have hall := esB_all i
      obtain ⟨hv, N, hlay, hN⟩ := HO.out.at_
      have hlen : N.length = i := by rw [← hall, hN]; exact (List.length_map _).symm
      have HNL := Lib.hid hlen
      have HLAY := Lib.hid hlay
      have HI := Lib.hid (skiter_any wr b)
      have HBR := Lib.hid HO.out.below
      clear hall hN hlen hlay HO
      go_wp2_with fail
      refine HI.out.mono ?_
      rintro e w4 ⟨rfl, hi4, hb4⟩
      obtain ⟨p, hp⟩ : ∃ p, wr.heap.size = p := ⟨_, rfl⟩
      have hρp : Hid (∀ k, ρ k ≠ none → k ≠ p) := Lib.hid fun k hk => by have := HLAY.out.top k hk; omega
      have hwp : Hid (w.heap.size ≤ p) := Lib.hid (by have := HBR.out.size; omega)
      replace HBR := Lib.hid (HBR.out.trans (hb4.mono HBR.out.size))
      replace HLAY := Lib.hid (HLAY.out.below hb4)
      rw [hp] at hi4 ⊢
      have HF := Lib.hid (itfirst_any w4 p b none hi4 ρ hv [3, 1, 2] N HLAY.out)
      clear hb4 hp hi4 HI
      go_wp2_with fail
      refine HF.out.mono ?_
      rintro e w5 ⟨rfl, hi5, u5⟩
      replace HLAY := Lib.hid (HLAY.out.same (fun k hk => u5.block k (HLAY.out.top k hk) (hρp.out k hk)) u5.size)
      replace HBR : Hid (Below w.heap.size w w5) := Lib.hid (HBR.out.trans (u5.below HBR.out.size fun k hk f => by have : k = p := f; have := hwp.out; omega))
      have hp5 := BlkAt.lt hi5
      have HW5 : Hid (WayAt w5 p b (headB N) (.slice none 0 0) [] w5) := Lib.hid ⟨hi5, UpdF.refl _ _, OwnK.nil _ _ _ _ _⟩
      clear hi5 u5 HF
      go_wp2_with fail
      go_loopg [7] N.length (fun kk v wr => ∃ P R, N = P ++ R ∧ R.length ≤ kk ∧ Hid (WayAt w5 p b (headB R) v (entsN P) wr))
      case atStart => exact ⟨[], N, rfl, Nat.le_refl _, HW5⟩
      case round =>
        clear HW5
        obtain ⟨P, R, hN, hk, HW⟩ := hrel
        rcases head_cases R with hR | ⟨y, r, hR⟩
        · have hP : P = N := by rw [hN, hR, List.append_nil]
          rw [hR, hP] at HW
          have HOK : Hid (Calls Try.prog 21 #[.pointer (some ⟨p, 0, none⟩)] wr (BoolRes wr false)) := Lib.hid (itok_any wr p b _ HW.out.it)
          have HLA := Lib.hid (itlast_any wr p b _ HW.out.it ρ hv [3, 1, 2] N (HW.out.lay HLAY.out hρp.out))
          clear hN hk hR hP
          go_wp2_with fail
          refine HOK.out.mono ?_
          rintro e w' ⟨rfl, rfl⟩
          obtain ⟨a, len, cap, rfl, hln⟩ := rdK_len (HW.out.row.rd encEnt_len)
          have hli : len = i := by rw [hln, ← HNL.out]; exact List.length_map _
          subst hli
          have hlen := Lib.hid hln
          clear HOK hln
          go_wp2_with fail
          refine HLA.out.mono ?_
          rintro e w9 ⟨rfl, i9, u9⟩
          have HW9 := Lib.hid (HW.out.moves hp5 i9 u9)
          clear i9 u9 HW HLA
          go_wp2_with fail
          go_loopg [8] N.length (fun kk v wr => ∃ P R, N = P ++ R ∧ v = .int .i64 (P.length : Int) ∧ P.length ≤ kk ∧ Hid (WayAt w5 p b (lastB P) (.slice a len cap) (entsN N) wr))
          case atStart => exact ⟨N, [], (List.append_nil _).symm, by rw [HNL.out], Nat.le_refl _, HW9⟩
          case round =>
            clear HW9
            obtain ⟨P, R, hN, rfl, hk, HW⟩ := hrel
            rcases lastB_cases P with ⟨hP, hlb⟩ | ⟨Q, y, hP, hlb⟩
            · have HOK : Hid (Calls Try.prog 21 #[.pointer (some ⟨p, 0, none⟩)] wr (BoolRes wr false)) := Lib.hid (by
                have := itok_any wr p b _ HW.out.it
                rw [hlb] at this
                exact this)
              have hz : ((P.length : Nat) : Int) = 0 := by rw [hP]; rfl
              rw [hz]
              have HBE : Hid (Below w.heap.size w wr) := Lib.hid (HBR.out.trans (HW.out.upd.below HBR.out.size fun k hk f => by have : k = p := f; have := hwp.out; omega))
              clear hN hk hP hlb HW
              go_wp2_with fail
              refine HOK.out.mono ?_
              rintro e w' ⟨rfl, rfl⟩
              go_wp2_with fail
              go_ret
              exact ⟨rfl, HBE.out⟩
            · have HOK : Hid (Calls Try.prog 21 #[.pointer (some ⟨p, 0, none⟩)] wr (BoolRes wr true)) := Lib.hid (by
                have := itok_any wr p b _ HW.out.it
                rw [hlb] at this
                exact this)
              obtain ⟨m, hm⟩ : ∃ m, Q.length = m := ⟨_, rfl⟩
              have hPm : P.length = m + 1 := by rw [hP, List.length_append, hm]; rfl
              have e1 : N = Q ++ y :: R := by rw [hN, hP]; simp
              rw [hlb] at HW
              have hml : m < len := by have := HNL.out; rw [e1, List.length_append, List.length_cons] at this; omega
              have hx : (entsN N)[m]? = some y.e := by
                rw [e1, ents_app, List.getElem?_append_right (by rw [← hm]; exact Nat.le_of_eq (List.length_map _)), show (entsN Q).length = m from by rw [← hm]; exact List.length_map _, Nat.sub_self]
                rfl
              obtain ⟨fb, fo, rfl, hblt, c1⟩ := (HW.out.row.rd encEnt_len).at5 hlen.out m y.e hx
              have HEN0 : ∀ W, Below wr.heap.size wr W → Calls Try.prog 22 #[.pointer (some ⟨p, 0, none⟩)] W (EntRes W y.e) := fun W hW =>
                itentry_any W p b Q R y (HW.out.below hW).it ρ hv [3, 1, 2] (by rw [← e1]; exact (HW.out.below hW).lay HLAY.out hρp.out)
              have HPV0 : ∀ W, Below wr.heap.size wr W → Calls Try.prog 18 #[.pointer (some ⟨p, 0, none⟩)] W (ItTo W p b (lastB Q)) := fun W hW =>
                itprev_any W p b Q R y (HW.out.below hW).it ρ hv [3, 1, 2] (by rw [← e1]; exact (HW.out.below hW).lay HLAY.out hρp.out)
              obtain ⟨⟨yn, yq, yk, ys, yv⟩, nb, tb, nh⟩ := y
              have HEN : Hid (∀ W, Below wr.heap.size wr W → Calls Try.prog 22 #[.pointer (some ⟨p, 0, none⟩)] W fun e w' => e = .returned (.agg #[.string yn, .int .i64 yq, .int .i64 yk, .string ys, .string yv]) ∧ Below W.heap.size W w') := Lib.hid HEN0
              have HPV := Lib.hid HPV0
              have C1 := Lib.hid c1
              have HE1 := Lib.hid e1
              have hmm := Lib.hid hm
              have ek : ((P.length : Nat) : Int) - 1 = (m : Int) := by omega
              have ek2 : ((P.length : Nat) : Int) = (m : Int) + 1 := by omega
              rw [ek2]
              have m0 : (0 : Int) ≤ (m : Int) := by omega
              have ml : (m : Int) < (len : Int) := by omega
              have hkm : m < gk := by omega
              clear hN hk hP hlb hx c1 e1 hPm hm HEN0 HPV0 ek ek2
              go_wp2_with fail
              refine HOK.out.mono ?_
              rintro e w' ⟨rfl, rfl⟩
              clear HOK
              have B : Below wr.heap.size wr wr := Below.refl _ _
              go_wp2_with fail
              refine wp_region_held_drew (S := Below wr.heap.size wr) (by kernel_rfl) (Below.refl _ _).drew (fun hHeld => ?_)
              generalize wr.drew = wd2 at hHeld ⊢
              refine wpAnyH_shift hHeld ?_
              replace B : Below wr.heap.size wr wd2 := B.trans (hHeld.mono B.size)
              clear hHeld
              refine takeYes (i := 0) (k := 62) (v := .int .i64 (m : Int)) rfl (by kernel_rfl) (by kernel_rfl) (by kernel_rfl) (by kernel_rfl) (fun _ _ _ h => h) (by kernel_rfl) ?_ (Below.refl _ _) ?_
              · intro W hSw; first | (go_simp; done) | go_simp
              try simp only [Act.put, List.setIfInBounds_toArray, List.set_cons_zero, List.set_cons_succ]
              refine takeYes (i := 1) (k := 63) (v := .bool false) rfl (by kernel_rfl) (by kernel_rfl) (by kernel_rfl) (by kernel_rfl) (fun _ _ _ h => h) (by kernel_rfl) ?_ (Below.refl _ _) ?_
              · intro W hSw; first | (go_simp; done) | go_simp
              try simp only [Act.put, List.setIfInBounds_toArray, List.set_cons_zero, List.set_cons_succ]
              refine takeYes (i := 2) (k := 64) (v := .bool false) rfl (by kernel_rfl) (by kernel_rfl) (by kernel_rfl) (by kernel_rfl) (fun _ _ _ h => h) (by kernel_rfl) ?_ (Below.refl _ _) ?_
              · intro W hSw; first | (go_simp; done) | go_simp
              try simp only [Act.put, List.setIfInBounds_toArray, List.set_cons_zero, List.set_cons_succ]
              refine takeYes (i := 3) (k := 65) (v := .slice (some ⟨fb, fo, none⟩) len cap) rfl (by kernel_rfl) (by kernel_rfl) (by kernel_rfl) (by kernel_rfl) (fun _ _ _ h => h) (by kernel_rfl) ?_ (Below.refl _ _) ?_
              · intro W hSw; first | (go_simp; done) | go_simp
              try simp only [Act.put, List.setIfInBounds_toArray, List.set_cons_zero, List.set_cons_succ]
              refine takeYes (i := 4) (k := 66) (v := .int .i64 (m : Int)) rfl (by kernel_rfl) (by kernel_rfl) (by kernel_rfl) (by kernel_rfl) (fun _ _ _ h => h) (by kernel_rfl) ?_ (Below.refl _ _) ?_
              · intro W hSw; first | (go_simp; done) | go_simp
              try simp only [Act.put, List.setIfInBounds_toArray, List.set_cons_zero, List.set_cons_succ]
              refine takeYes (i := 5) (k := 67) (v := .pointer (some ⟨fb, fo + m * 5, none⟩)) rfl (by kernel_rfl) (by kernel_rfl) (by kernel_rfl) (by kernel_rfl) (fun _ _ _ h => h) (by kernel_rfl) ?_ (Below.refl _ _) ?_
              · intro W hSw; first | (go_simp; done) | go_simp
              try simp only [Act.put, List.setIfInBounds_toArray, List.set_cons_zero, List.set_cons_succ]
              refine takeYes (i := 6) (k := 68) (v := .pointer (some ⟨fb, fo + m * 5, none⟩)) rfl (by kernel_rfl) (by kernel_rfl) (by kernel_rfl) (by kernel_rfl) (fun _ _ _ h => h) (by kernel_rfl) ?_ (Below.refl _ _) ?_
              · intro W hSw; first | (go_simp; done) | go_simp
              try simp only [Act.put, List.setIfInBounds_toArray, List.set_cons_zero, List.set_cons_succ]
              refine takeYes (i := 7) (k := 69) (v := .string yn) rfl (by kernel_rfl) (by kernel_rfl) (by kernel_rfl) (by kernel_rfl) (fun _ _ _ h => h) (by kernel_rfl) ?_ (Below.refl _ _) ?_
              · intro W hSw; obtain ⟨d0, d1, d2, d3, d4⟩ := C1.out.under hblt (B.trans (hSw.mono B.size)); first | (go_simp; done) | go_simp
              try simp only [Act.put, List.setIfInBounds_toArray, List.set_cons_zero, List.set_cons_succ]
              refine takeYes (i := 8) (k := 70) (v := .pointer (some ⟨p, 0, none⟩)) rfl (by kernel_rfl) (by kernel_rfl) (by kernel_rfl) (by kernel_rfl) (fun _ _ _ h => h) (by kernel_rfl) ?_ (Below.refl _ _) ?_
              · intro W hSw; first | (go_simp; done) | go_simp
              try simp only [Act.put, List.setIfInBounds_toArray, List.set_cons_zero, List.set_cons_succ]
              refine wpAnyH_ready (rs := [9]) (by kernel_rfl) (by simp) (AllReadyH.cons rfl (fun K hK => ?_) AllReadyH.nil)
              go_simp
              refine (HEN.out _ B).mono ?_
              rintro e wd3 ⟨rfl, hb3⟩
              refine hK.out _ _ hb3 (fun _ => wpAnyH_shift hb3 ?_)
              clear hK K
              replace B : Below wr.heap.size wr wd3 := B.trans (hb3.mono B.size)
              clear hb3
              try simp only [Act.put, List.setIfInBounds_toArray, List.set_cons_zero, List.set_cons_succ]
              refine takeYes (i := 10) (k := 72) (v := .string yn) rfl (by kernel_rfl) (by kernel_rfl) (by kernel_rfl) (by kernel_rfl) (fun _ _ _ h => h) (by kernel_rfl) ?_ (Below.refl _ _) ?_
              · intro W hSw; have hfl := run_field0 yn yq yk ys yv W; first | (go_simp; done) | go_simp
              try simp only [Act.put, List.setIfInBounds_toArray, List.set_cons_zero, List.set_cons_succ]
              refine takeYes (i := 11) (k := 73) (v := .bool false) rfl (by kernel_rfl) (by kernel_rfl) (by kernel_rfl) (by kernel_rfl) (fun _ _ _ h => h) (by kernel_rfl) ?_ (Below.refl _ _) ?_
              · intro W hSw; first | (go_simp; done) | go_simp
              try simp only [Act.put, List.setIfInBounds_toArray, List.set_cons_zero, List.set_cons_succ]
              refine takeYes (i := 12) (k := 74) (v := .bool false) rfl (by kernel_rfl) (by kernel_rfl) (by kernel_rfl) (by kernel_rfl) (fun _ _ _ h => h) (by kernel_rfl) ?_ (Below.refl _ _) ?_
              · intro W hSw; first | (go_simp; done) | go_simp
              try simp only [Act.put, List.setIfInBounds_toArray, List.set_cons_zero, List.set_cons_succ]
              refine takeYes (i := 13) (k := 75) (v := .bool false) rfl (by kernel_rfl) (by kernel_rfl) (by kernel_rfl) (by kernel_rfl) (fun _ _ _ h => h) (by kernel_rfl) ?_ (Below.refl _ _) ?_
              · intro W hSw; first | (go_simp; done) | go_simp
              try simp only [Act.put, List.setIfInBounds_toArray, List.set_cons_zero, List.set_cons_succ]
              refine takeYes (i := 14) (k := 76) (v := .slice (some ⟨fb, fo, none⟩) len cap) rfl (by kernel_rfl) (by kernel_rfl) (by kernel_rfl) (by kernel_rfl) (fun _ _ _ h => h) (by kernel_rfl) ?_ (Below.refl _ _) ?_
              · intro W hSw; first | (go_simp; done) | go_simp
              try simp only [Act.put, List.setIfInBounds_toArray, List.set_cons_zero, List.set_cons_succ]
              refine takeYes (i := 15) (k := 77) (v := .int .i64 (m : Int)) rfl (by kernel_rfl) (by kernel_rfl) (by kernel_rfl) (by kernel_rfl) (fun _ _ _ h => h) (by kernel_rfl) ?_ (Below.refl _ _) ?_
              · intro W hSw; first | (go_simp; done) | go_simp
              try simp only [Act.put, List.setIfInBounds_toArray, List.set_cons_zero, List.set_cons_succ]
              refine takeYes (i := 16) (k := 78) (v := .pointer (some ⟨fb, fo + m * 5, none⟩)) rfl (by kernel_rfl) (by kernel_rfl) (by kernel_rfl) (by kernel_rfl) (fun _ _ _ h => h) (by kernel_rfl) ?_ (Below.refl _ _) ?_
              · intro W hSw; first | (go_simp; done) | go_simp
              try simp only [Act.put, List.setIfInBounds_toArray, List.set_cons_zero, List.set_cons_succ]
              refine takeYes (i := 17) (k := 79) (v := .pointer (some ⟨fb, fo + m * 5 + 1, none⟩)) rfl (by kernel_rfl) (by kernel_rfl) (by kernel_rfl) (by kernel_rfl) (fun _ _ _ h => h) (by kernel_rfl) ?_ (Below.refl _ _) ?_
              · intro W hSw; first | (go_simp; done) | go_simp
              try simp only [Act.put, List.setIfInBounds_toArray, List.set_cons_zero, List.set_cons_succ]
              refine takeYes (i := 18) (k := 80) (v := .int .i64 yq) rfl (by kernel_rfl) (by kernel_rfl) (by kernel_rfl) (by kernel_rfl) (fun _ _ _ h => h) (by kernel_rfl) ?_ (Below.refl _ _) ?_
              · intro W hSw; obtain ⟨d0, d1, d2, d3, d4⟩ := C1.out.under hblt (B.trans (hSw.mono B.size)); first | (go_simp; done) | go_simp
              try simp only [Act.put, List.setIfInBounds_toArray, List.set_cons_zero, List.set_cons_succ]
              refine takeYes (i := 19) (k := 81) (v := .pointer (some ⟨p, 0, none⟩)) rfl (by kernel_rfl) (by kernel_rfl) (by kernel_rfl) (by kernel_rfl) (fun _ _ _ h => h) (by kernel_rfl) ?_ (Below.refl _ _) ?_
              · intro W hSw; first | (go_simp; done) | go_simp
              try simp only [Act.put, List.setIfInBounds_toArray, List.set_cons_zero, List.set_cons_succ]
              refine wpAnyH_ready (rs := [20]) (by kernel_rfl) (by simp) (AllReadyH.cons rfl (fun K hK => ?_) AllReadyH.nil)
              go_simp
              refine (HEN.out _ B).mono ?_
              rintro e wd4 ⟨rfl, hb4⟩
              refine hK.out _ _ hb4 (fun _ => wpAnyH_shift hb4 ?_)
              clear hK K
              replace B : Below wr.heap.size wr wd4 := B.trans (hb4.mono B.size)
              clear hb4
              try simp only [Act.put, List.setIfInBounds_toArray, List.set_cons_zero, List.set_cons_succ]
              refine takeYes (i := 21) (k := 83) (v := .int .i64 yq) rfl (by kernel_rfl) (by kernel_rfl) (by kernel_rfl) (by kernel_rfl) (fun _ _ _ h => h) (by kernel_rfl) ?_ (Below.refl _ _) ?_
              · intro W hSw; have hfl := run_field1 yn yq yk ys yv W; first | (go_simp; done) | go_simp
              try simp only [Act.put, List.setIfInBounds_toArray, List.set_cons_zero, List.set_cons_succ]
              refine takeYes (i := 22) (k := 84) (v := .bool false) rfl (by kernel_rfl) (by kernel_rfl) (by kernel_rfl) (by kernel_rfl) (fun _ _ _ h => h) (by kernel_rfl) ?_ (Below.refl _ _) ?_
              · intro W hSw; first | (go_simp; done) | go_simp
              try simp only [Act.put, List.setIfInBounds_toArray, List.set_cons_zero, List.set_cons_succ]
              refine takeYes (i := 23) (k := 85) (v := .bool false) rfl (by kernel_rfl) (by kernel_rfl) (by kernel_rfl) (by kernel_rfl) (fun _ _ _ h => h) (by kernel_rfl) ?_ (Below.refl _ _) ?_
              · intro W hSw; first | (go_simp; done) | go_simp
              try simp only [Act.put, List.setIfInBounds_toArray, List.set_cons_zero, List.set_cons_succ]
              refine wpAnyH_done (by kernel_rfl) ?_ _
              go_wp2_with fail
              refine (HPV.out _ B).mono ?_
              rintro e w10 ⟨rfl, i10, u10⟩
              have HW10 := Lib.hid ((HW.out.below B).moves hp5 i10 u10)
              clear i10 u10 HW HPV
              go_wp2_with fail
              go_roundg m
              case measure => omega
              case rel => exact ⟨Q, _, HE1.out, by rw [hmm.out], Nat.le_of_eq hmm.out, HW10⟩
        · have HOK : Hid (Calls Try.prog 21 #[.pointer (some ⟨p, 0, none⟩)] wr (BoolRes wr true)) := Lib.hid (by
            have := itok_any wr p b _ HW.out.it
            rw [hR] at this
            exact this)
          have e1 : N = P ++ y :: r := by rw [hN, hR]
          have e2 : N = (P ++ [y]) ++ r := by rw [e1]; simp
          have hlen : r.length < R.length := by rw [hR]; simp
          have hl : (entsN P).length = P.length := List.length_map _
          have hPl : P.length < 60 := by have := HNL.out; rw [e1, List.length_append, List.length_cons] at this; omega
          rw [hR] at HW
          have HEN : Hid (Calls Try.prog 22 #[.pointer (some ⟨p, 0, none⟩)] wr fun e w' => e = .returned (.agg #[.string y.e.norm, .int .i64 y.e.seq, .int .i64 y.e.kind, .string y.e.spell, .string y.e.val]) ∧ Below wr.heap.size wr w') := Lib.hid
            (itentry_any wr p b P r y HW.out.it ρ hv [3, 1, 2] (by rw [← e1]; exact HW.out.lay HLAY.out hρp.out))
          have HE1 := Lib.hid e1
          have HE2 := Lib.hid e2
          clear hN hR e1 e2
          go_wp2_with fail
          refine HOK.out.mono ?_
          rintro e w' ⟨rfl, rfl⟩
          go_wp2_with fail
          refine HEN.out.mono ?_
          rintro e w6 ⟨rfl, hb6⟩
          replace HW := Lib.hid (HW.out.below hb6)
          clear hb6 HEN HOK
          go_wp2_with (at_builtin; refine wp_appHK elem_ent encEnt_len _ _ (by rfl) (by rfl) (by rfl) HW.out.row y.e _ (by rfl) (by rfl) ?c1 ?c2 ?c3 ?c4 ?_)
          case c1 => exact enc_cells _
          case c2 => omega
          case c3 => unfold maxLen; omega
          case c4 => exact HW.out.upd.size
          intro v' w7 o7 b7
          have HW7 : Hid (WayAt w5 p b (some y.nb) v' (entsN (P ++ [y])) w7) := Lib.hid (HW.out.grows hp5 b7 (by
            have e5 : entsN (P ++ [y]) = entsN P ++ [y.e] := by unfold entsN; rw [List.map_append]; rfl
            rw [e5]; exact o7))
          have HNX := Lib.hid (itnext_any w7 p b P r y HW7.out.it ρ hv [3, 1, 2] (by rw [← HE1.out]; exact HW7.out.lay HLAY.out hρp.out))
          clear o7 b7 HW
          go_wp2_with fail
          refine HNX.out.mono ?_
          rintro e w8 ⟨rfl, i8, u8⟩
          have HW8 := Lib.hid (HW7.out.moves hp5 i8 u8)
          clear i8 u8 HW7 HNX
          go_wp2_with fail
          go_roundg r.length
          case measure => omega
          case rel => exact ⟨_, r, HE2.out, Nat.le_refl _, HW8⟩
end Go.Proofs.Ytacaofnonmgfoaa
