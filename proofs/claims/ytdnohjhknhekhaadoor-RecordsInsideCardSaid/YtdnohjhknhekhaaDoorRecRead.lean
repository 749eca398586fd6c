/- reclog.Read: the records that a log begins with. -/
import Derived.Test.YtdnohjhknhekhaaDoorRecFind2
import Derived.Test.YtdnohjhknhekhaaDoorRecs
import Derived.Test.YtdnohjhknhekhaaDoorTake
import Derived.Deep.LoopGhost
namespace Go.Proofs.YtdnohjhknhekhaaDoor
set_option linter.unusedVariables false
open Go.RowKit
/-- what Read tells -/
def ReadRes (T : List (List UInt8) × Nat × Bool) (w : World) (e : Ending) (w' : World) : Prop :=
  ∃ v, e = .returned (.tuple #[v, .int .i64 (T.2.1 : Int), .bool T.2.2]) ∧ RecsAt w.heap.size w' v T.1 ∧ Below w.heap.size w w'
/-- how it stands ahead of a round -/
def RdSt (w : World) (log : List UInt8) (T : List (List UInt8) × Nat × Bool) (f : Nat) (vr vc : Value) (a e : Nat) (bg : Bool) (wr : World) : Prop :=
  ∃ (bss : List (List UInt8)) (acc : List UInt8) (w0 : World), RecsAt w.heap.size w0 vr bss ∧ Below w.heap.size w w0 ∧ OwnB w0.heap.size wr vc acc ∧ Below w0.heap.size w0 wr ∧
    log.length - a < f ∧ a ≤ log.length ∧ e ≤ a ∧ acc.length ≤ a ∧ bss.length ≤ a ∧
    T = (bss ++ (runC smN f a (log.drop a) bg acc e).1, (runC smN f a (log.drop a) bg acc e).2)
set_option maxHeartbeats 8000000 in
set_option maxRecDepth 100000 in
theorem read_any (s : Option Addr) (len cap : Nat) (log : List UInt8) (hl : log.length ≤ 1000000000000) (w : World) (ht : TabAt w) (h : RdB w (.slice s len cap) log) :
    Calls Tryd.prog 11 #[.slice s len cap] w (ReadRes (readC smN log) w) := by
  have HT := Lib.hid ht
  have HR := Lib.hid h
  have HL := Lib.hid hl
  obtain ⟨T, hT⟩ : ∃ T, readC smN log = T := ⟨_, rfl⟩
  have HS0 : Hid (RdSt w log T (log.length + 1) (.slice none 0 0) (.slice none 0 0) 0 0 false w) := Lib.hid
    ⟨[], [], w, RecsAt.nil _ _, Below.refl _ _, OwnB.nil _ _, Below.refl _ _, by omega, Nat.zero_le _, Nat.le_refl _, Nat.le_refl _, Nat.le_refl _, by rw [← hT]; rfl⟩
  rw [hT]
  clear hT ht h hl
  go_enter Tryd.func11, Tryd.ntmps11
  go_wp2_with fail
  go_loopg [5, 6, 7, 8, 9] (log.length + 1) (fun kk vr vc va ve vb wr => ∃ (a e f : Nat) (bg : Bool), va = .int .i64 (a : Int) ∧ ve = .int .i64 (e : Int) ∧ vb = .bool bg ∧ f ≤ kk ∧ a ≤ 1000000000000 ∧ Hid (RdSt w log T f vr vc a e bg wr))
  case atStart => exact ⟨0, 0, log.length + 1, false, rfl, rfl, rfl, Nat.le_refl _, by omega, HS0⟩
  case round =>
    clear HS0
    obtain ⟨a, e, f, bg, rfl, rfl, rfl, hf, ha, HS⟩ := hrel
    obtain ⟨bss, acc, w0, hrec, hb0, hown, hbw, hfa, hal, hea, hca, hbs, hTT⟩ := id HS.out
    have hBW : Below w.heap.size w wr := hb0.trans (hbw.mono hb0.size)
    obtain ⟨f, rfl⟩ : ∃ f', f = f' + 1 := ⟨f - 1, by omega⟩
    have hp6 := (pad_room a).2.2
    have HNX := Lib.hid (next_any a (by omega))
    have HF := Lib.hid (find_any s len cap (a + padN a) log HL.out (by omega) wr (HT.out.below hBW) (HR.out.below hBW))
    have HC : Hid (∀ W, Below w.heap.size w W → Calls Tryd.prog 17 #[.slice s len cap, .int .i64 ((a + padN a : Nat) : Int)] W fun e w' => e = .returned (.bool (cutS (a + padN a) (log.drop (a + padN a)))) ∧ Below W.heap.size W w') :=
      Lib.hid fun W hW => iscut_any s len cap (a + padN a) log HL.out (by omega) W (HR.out.below hW)
    have HD : Hid ((log.drop a).drop (padN a) = log.drop (a + padN a)) := Lib.hid List.drop_drop
    obtain ⟨O, hO⟩ : ∃ O, pieceS smN (a + padN a) (log.drop (a + padN a)) = O := ⟨_, rfl⟩
    rw [hO] at HF
    have HO := Lib.hid hO
    have HTT := Lib.hid hTT
    have HB := Lib.hid hBW
    have HQ : Hid (RecsAt w.heap.size w0 (u5 : Value) bss ∧ Below w.heap.size w w0 ∧ OwnB w0.heap.size wr u6 acc ∧ Below w0.heap.size w0 wr) := Lib.hid ⟨hrec, hb0, hown, hbw⟩
    clear hO hTT hBW hrec hb0 hown hbw HS
    obtain ⟨a2, ha2⟩ : ∃ a2, a + padN a = a2 := ⟨_, rfl⟩
    have HA2 := Lib.hid ha2
    have hb2 : a2 ≤ 1000000000006 := by omega
    rw [ha2] at HNX HF HC HD HO
    clear ha2 hp6
    cases O with
    | none =>
      have HX : Hid (T = (bss, e, cutS a2 (log.drop a2))) := Lib.hid (by
        have hp : pieceS smN (a + padN a) ((log.drop a).drop (padN a)) = none := by rw [HD.out, HA2.out]; exact HO.out
        rw [HTT.out, run_none _ _ _ hp, HD.out, HA2.out, List.append_nil])
      generalize cutS a2 (log.drop a2) = q at *
      obtain rfl := HX.out
      clear HTT HX HO HD HA2 hal hea hca hbs hfa hf
      go_wp2_with fail
      refine (HNX.out _).mono ?_
      rintro e w' ⟨rfl, rfl⟩
      go_wp2_with fail
      refine HF.out.mono ?_
      rintro e w2 ⟨hb2', rfl⟩
      unfold piV
      go_upto_region 7 with fail
      have HB3 : Hid (Below wr.heap.size wr (w2.alloc (.cells #[.int .u8 0, .slice none 0 0, .int .i64 0] 39))) := Lib.hid (hb2'.trans ((Below.refl _ w2).alloc hb2'.size _))
      generalize w2.alloc (.cells #[.int .u8 0, .slice none 0 0, .int .i64 0] 39) = w3 at HB3 ⊢
      have HB4 := Lib.hid (HB.out.trans (HB3.out.mono HB.out.size))
      have HC3 := Lib.hid (HC.out w3 HB4.out)
      clear HC HF hb2'
      go_wp2_with fail
      refine HC3.out.mono ?_
      rintro e' w4 ⟨rfl, b4⟩
      go_wp2
      refine bodyPost_ret (v := .tuple #[u5, .int .i64 (e : Int), .bool q]) (by simp [results, Tryd.results11, go_sem]) rfl ⟨u5, rfl, ?_, HB4.out.trans (b4.mono HB4.out.size)⟩
      obtain ⟨q1, q2, q3, q4⟩ := HQ.out
      have h3 := q4.trans (HB3.out.mono q4.size)
      exact q1.below (h3.trans (b4.mono h3.size))
    | some kb =>
      obtain ⟨k, b⟩ := kb
      have hps := pieceS_some HO.out
      obtain ⟨hl1, hl2, -, k1, k4, -⟩ := hps
      rw [List.length_drop] at hl1
      have hp : pieceS smN (a + padN a) ((log.drop a).drop (padN a)) = some (k, b) := by rw [HD.out, HA2.out]; exact HO.out
      have HP := Lib.hid hp
      have hb249 : b.length ≤ 249 := by omega
      obtain ⟨m, hm⟩ : ∃ m, a2 + 7 + b.length = m := ⟨_, rfl⟩
      have hml : m ≤ log.length := by omega
      have HBG : Hid (∀ v e W, Calls Tryd.prog 18 #[piV k v e] W fun x w' => x = .returned (.bool (beginsK k)) ∧ Below W.heap.size W w') := Lib.hid (begins_any k)
      have HEN : Hid (∀ v e W, Calls Tryd.prog 19 #[piV k v e] W fun x w' => x = .returned (.bool (endsK k)) ∧ Below W.heap.size W w') := Lib.hid (ends_any k)
      by_cases hbg : beginsK k = bg
      · have HX : Hid (T = (bss, e, false)) := Lib.hid (by rw [HTT.out, run_bad _ _ hp hbg, List.append_nil])
        obtain rfl := HX.out
        rw [hbg] at HBG
        have hbq : (bg == bg) = true := beq_self_eq_true bg
        clear HTT HX HO HD HA2 hal hea hca hbs hfa hf hp HP hl1 hl2 hbg HC HEN hml
        unfold piV at HBG
        go_wp2_with fail
        refine (HNX.out _).mono ?_
        rintro e w' ⟨rfl, rfl⟩
        go_wp2_with fail
        refine HF.out.mono ?_
        rintro e w2 ⟨hb2', ad, n, c, rfl, hr2⟩
        rw [hm]
        unfold piV
        go_upto_region 6 with fail
        have HB3 : Hid (Below wr.heap.size wr (w2.alloc (.cells #[.int .u8 (k : Int), .slice ad n c, .int .i64 (m : Int)] 39)) ∧ Row3 (w2.alloc (.cells #[.int .u8 (k : Int), .slice ad n c, .int .i64 (m : Int)] 39)) w2.heap.size (.int .u8 (k : Int)) (.slice ad n c) (.int .i64 (m : Int))) := Lib.hid ⟨hb2'.trans ((Below.refl _ w2).alloc hb2'.size _), Row3.new ..⟩
        generalize w2.alloc (.cells #[.int .u8 (k : Int), .slice ad n c, .int .i64 (m : Int)] 39) = w3 at HB3 ⊢
        obtain ⟨⟨d0, d1, d2⟩, -, hs3⟩ := HB3.out.2
        have HB4 := Lib.hid (HB.out.trans (HB3.out.1.mono HB.out.size))
        clear HF hb2' hr2 hm
        generalize w2.heap.size = g at *
        go_wp2_with fail
        refine (HBG.out _ _ _).mono ?_
        rintro e' w4 ⟨rfl, b4⟩
        go_wp2
        refine bodyPost_ret (v := .tuple #[u5, .int .i64 (e : Int), .bool false]) (by simp [results, Tryd.results11, go_sem]) rfl ⟨u5, rfl, ?_, HB4.out.trans (b4.mono HB4.out.size)⟩
        obtain ⟨q1, q2, q3, q4⟩ := HQ.out
        have h3 := q4.trans (HB3.out.1.mono q4.size)
        exact q1.below (h3.trans (b4.mono h3.size))
      · have hbn : beginsK k = !bg := by cases hq : beginsK k <;> cases bg <;> simp_all
        have hbq : (beginsK k == bg) = false := by rw [beq_eq_false_iff_ne]; exact hbg
        generalize beginsK k = bk at HBG hbq
        have hacc : acc.length ≤ 1000000000000 := by omega
        have hbs2 : bss.length ≤ 1000000000000 := by omega
        obtain ⟨ek, hek⟩ : ∃ ek, endsK k = ek := ⟨_, rfl⟩
        rw [hek] at HEN
        have HSZ := Lib.hid (And.intro hm (And.intro hml (And.intro hfa (And.intro hca (And.intro hbs hf)))))
        have HEK := Lib.hid hek
        have HBN := Lib.hid hbn
        have HEA := Lib.hid hea
        clear hp hl1 hl2 hbg hbn HC hml hek hm hfa hca hbs hf hal hea
        unfold piV at HBG HEN
        go_wp2_with fail
        refine (HNX.out _).mono ?_
        rintro e' w' ⟨rfl, rfl⟩
        go_wp2_with fail
        refine HF.out.mono ?_
        rintro e' w2 ⟨hb2', ad, n, c, rfl, hr2⟩
        rw [HSZ.out.1]
        unfold piV
        go_upto_region 6 with fail
        have HB3 : Hid (Below wr.heap.size wr (w2.alloc (.cells #[.int .u8 (k : Int), .slice ad n c, .int .i64 (m : Int)] 39)) ∧ Row3 (w2.alloc (.cells #[.int .u8 (k : Int), .slice ad n c, .int .i64 (m : Int)] 39)) w2.heap.size (.int .u8 (k : Int)) (.slice ad n c) (.int .i64 (m : Int))) := Lib.hid ⟨hb2'.trans ((Below.refl _ w2).alloc hb2'.size _), Row3.new ..⟩
        generalize w2.alloc (.cells #[.int .u8 (k : Int), .slice ad n c, .int .i64 (m : Int)] 39) = w3 at HB3 ⊢
        have hgl := hb2'.size
        generalize w2.heap.size = g at *
        obtain ⟨⟨d0, d1, d2⟩, -, hs3⟩ := HB3.out.2
        have HR2 := Lib.hid hr2
        clear HF hb2' hr2
        go_wp2_with fail
        refine (HBG.out _ _ _).mono ?_
        rintro e' w4 ⟨rfl, b4⟩
        obtain ⟨q1, q2, q3, q4⟩ := id HQ.out
        have B4 : Below wr.heap.size wr w4 := HB3.out.1.trans (b4.mono HB3.out.1.size)
        have HR4 := Lib.hid (HB3.out.2.below b4 hs3)
        have HRd4 := Lib.hid (HR2.out.below B4)
        have o4 := q3.below B4
        have hlt4 : ∀ x, u6.ownBlock = some x → x < g := fun x hx => Nat.lt_of_lt_of_le (q3.where x hx).2 hgl
        have hs4 : w0.heap.size ≤ w4.heap.size := Nat.le_trans q4.size B4.size
        have HLT := Lib.hid hlt4
        have HB4 := Lib.hid B4
        clear q1 q2 q3 q4 B4 HR2 b4 hlt4 HBG HNX d0 d1 d2 hs3
        obtain ⟨⟨d0, d1, d2⟩, -, hs3⟩ := id HR4.out
        go_wp2_with (at_builtin; refine wp_appGB _ _ (by rfl) (by rfl) (by rfl) o4 (by rfl) HRd4.out ?c1 hs4 ?_)
        case c1 => omega
        intro v5 w5 o5 b5 g5 l5
        have HR5 : Hid (Row3 w5 g (.int .u8 (k : Int)) (.slice ad n c) (.int .i64 (m : Int))) := Lib.hid (HR4.out.kept g5 fun h => by have := HLT.out g h.symm; omega)
        clear d0 d1 d2 hs3 HR4 HRd4 HLT l5 g5 o4
        obtain ⟨⟨d0, d1, d2⟩, -, hs3⟩ := id HR5.out
        have HO5 := Lib.hid (And.intro o5 b5)
        clear o5 b5
        go_wp2_with fail
        have HB5 := Lib.hid (Below.refl w5.heap.size w5)
        clear d0 d1 d2 hs3
        refine wp_region_held_drew (S := Below w5.heap.size w5) (by kernel_rfl) (Below.refl _ _).drew (fun hHeld => ?_)
        have hs5 : g < w5.drew.heap.size := HR5.out.2.2
        replace HR5 : Hid (Row3 w5.drew g (.int .u8 (k : Int)) (.slice ad n c) (.int .i64 (m : Int))) := Lib.hid HR5.out.drew
        replace HB5 : Hid (Below w5.heap.size w5 w5.drew) := Lib.hid hHeld
        generalize w5.drew = wd at hHeld HR5 HB5 hs5 ⊢
        refine wpAnyH_shift hHeld ?_
        clear hHeld
        refine takeYes (i := 0) (k := 37) (v := .pointer (some ⟨g, 2, none⟩)) rfl (by kernel_rfl) (by kernel_rfl) (by kernel_rfl) (by kernel_rfl) (fun _ _ _ h => h) (by kernel_rfl) ?_ (Below.refl _ _) ?_
        · intro W hSw; first | (go_simp; done) | go_simp
        try simp only [Act.put, List.setIfInBounds_toArray, List.set_cons_zero, List.set_cons_succ]
        refine takeYes (i := 1) (k := 38) (v := .int .i64 (m : Int)) rfl (by kernel_rfl) (by kernel_rfl) (by kernel_rfl) (by kernel_rfl) (fun _ _ _ h => h) (by kernel_rfl) ?_ (Below.refl _ _) ?_
        · intro W hSw; obtain ⟨⟨z0, z1, z2⟩, -, hsz⟩ := HR5.out.below hSw hs5; first | (go_simp; done) | go_simp
        try simp only [Act.put, List.setIfInBounds_toArray, List.set_cons_zero, List.set_cons_succ]
        refine takeYes (i := 2) (k := 39) (v := .agg #[.int .u8 (k : Int), .slice ad n c, .int .i64 (m : Int)]) rfl (by kernel_rfl) (by kernel_rfl) (by kernel_rfl) (by kernel_rfl) (fun _ _ _ h => h) (by kernel_rfl) ?_ (Below.refl _ _) ?_
        · intro W hSw; obtain ⟨⟨z0, z1, z2⟩, -, hsz⟩ := HR5.out.below hSw hs5; first | (go_simp; done) | go_simp
        try simp only [Act.put, List.setIfInBounds_toArray, List.set_cons_zero, List.set_cons_succ]
        refine wpAnyH_ready (rs := [3]) (by kernel_rfl) (by simp) (AllReadyH.cons rfl (fun K hK => ?_) AllReadyH.nil)
        go_simp
        refine (HEN.out _ _ _).mono ?_
        rintro e' wd2 ⟨rfl, hbx⟩
        refine hK.out _ _ hbx (fun _ => wpAnyH_shift hbx ?_)
        clear hK K
        replace HB5 := Lib.hid (HB5.out.trans (hbx.mono HB5.out.size))
        clear hbx HR5 hs5
        try simp only [Act.put, List.setIfInBounds_toArray, List.set_cons_zero, List.set_cons_succ]
        refine takeYes (i := 4) (k := 41) (v := .bool (!ek)) rfl (by kernel_rfl) (by kernel_rfl) (by kernel_rfl) (by kernel_rfl) (fun _ _ _ h => h) (by kernel_rfl) ?_ (Below.refl _ _) ?_
        · intro W hSw; first | (go_simp; done) | go_simp
        try simp only [Act.put, List.setIfInBounds_toArray, List.set_cons_zero, List.set_cons_succ]
        refine takeYes (i := 5) (k := 7) (v := .int .i64 (m : Int)) rfl (by kernel_rfl) (by kernel_rfl) (by kernel_rfl) (by kernel_rfl) (fun _ _ _ h => h) (by kernel_rfl) ?_ (Below.refl _ _) ?_
        · intro W hSw; first | (go_simp; done) | go_simp
        try simp only [Act.put, List.setIfInBounds_toArray, List.set_cons_zero, List.set_cons_succ]
        refine takeYes (i := 6) (k := 9) (v := .bool (!ek)) rfl (by kernel_rfl) (by kernel_rfl) (by kernel_rfl) (by kernel_rfl) (fun _ _ _ h => h) (by kernel_rfl) ?_ (Below.refl _ _) ?_
        · intro W hSw; first | (go_simp; done) | go_simp
        try simp only [Act.put, List.setIfInBounds_toArray, List.set_cons_zero, List.set_cons_succ]
        refine wpAnyH_done (by kernel_rfl) ?_ _
        have hm1 : a + padN a + 7 + b.length = m := by rw [HA2.out]; exact HSZ.out.1
        have hdr : (log.drop a).drop (padN a + 7 + b.length) = log.drop m := by rw [List.drop_drop, ← hm1]; congr 1; omega
        obtain ⟨hx1, hml, hfa, hca, hbs, hf⟩ := HSZ.out
        have ham : a + 7 + b.length ≤ m := by have := HA2.out; omega
        obtain ⟨q1, q2, q3, q4⟩ := HQ.out
        obtain ⟨o5, b5⟩ := HO5.out
        have B5 : Below w0.heap.size w0 w5 := (q4.trans (HB4.out.mono q4.size)).trans b5
        have B6 : Below w0.heap.size w0 wd2 := B5.trans (HB5.out.mono B5.size)
        have o6 := o5.below HB5.out
        have r6 := q1.below B6
        have BW6 : Below w.heap.size w wd2 := q2.trans (B6.mono q2.size)
        have hwsz := BW6.size
        have hgk : gk - 1 < gk := by omega
        cases ek with
        | false =>
          have hst : RdSt w log T f u5 v5 m e true wd2 := by
            refine ⟨bss, acc ++ b, w0, q1, q2, o6, B6, by omega, hml, by have := HEA.out; omega, by rw [List.length_append]; omega, by omega, ?_⟩
            have := run_on (f := f) acc e HP.out HBN.out HEK.out
            rw [hm1, hdr] at this
            rw [HTT.out, this]
          have HST := Lib.hid hst
          have HGK := Lib.hid (show f ≤ gk - 1 ∧ m ≤ 1000000000000 from ⟨by omega, by have := HL.out; omega⟩)
          clear hst q1 q2 q3 q4 o5 b5 B5 B6 o6 r6 BW6 HO5 HB5 HB4 HB3 HTT HQ hm1 hdr hx1 hml hfa hca hbs hf ham HP HBN HEK HSZ HO HD HA2 HEN
          go_wp2_with fail
          go_roundg (gk - 1)
          case measure => exact hgk
          case rel => exact ⟨m, e, f, true, rfl, rfl, rfl, HGK.out.1, HGK.out.2, HST⟩
        | true =>
          obtain ⟨av, lv, cv, rfl, -⟩ := o6.form
          have HR6 := Lib.hid r6
          have HO6 := Lib.hid (o6.base q2.size)
          have HT6 : Hid (T = (bss ++ [acc ++ b] ++ (runC smN f m (log.drop m) false [] m).1, (runC smN f m (log.drop m) false [] m).2)) := Lib.hid (by
            have := run_end (f := f) acc e HP.out HBN.out HEK.out
            rw [hm1, hdr] at this
            rw [HTT.out, this, List.append_assoc, List.singleton_append])
          have HW6 := Lib.hid BW6
          have HGK := Lib.hid (show f ≤ gk - 1 ∧ m ≤ 1000000000000 ∧ log.length - m < f ∧ m ≤ log.length ∧ (bss ++ [acc ++ b]).length ≤ m from ⟨by omega, by have := HL.out; omega, by omega, hml, by rw [List.length_append, List.length_singleton]; omega⟩)
          generalize acc ++ b = ab at *
          clear q1 q2 q3 q4 o5 b5 B5 B6 o6 r6 BW6 HO5 HB5 HB4 HB3 HTT HQ hm1 hdr hx1 hml hfa hca hbs hf ham HP HBN HEK HSZ HO HD HA2 HEN
          go_wp2_with (at_builtin; refine wp_appR _ _ (by rfl) (by rfl) (by rfl) HR6.out HO6.out _ (by rfl) (by rfl) ?c1 hwsz ?_)
          case c1 => exact hbs2
          intro v7 w7 r7 b7 hkp
          clear hkp
          have HST : Hid (RdSt w log T f v7 (.slice none 0 0) m m false w7) := Lib.hid ⟨bss ++ [ab], [], w7, r7, HW6.out.trans b7, OwnB.nil _ _, Below.refl _ _, HGK.out.2.2.1, HGK.out.2.2.2.1, Nat.le_refl _, Nat.zero_le _, HGK.out.2.2.2.2, HT6.out⟩
          clear r7 b7 HT6 HR6 HO6 HW6
          go_wp2_with fail
          go_roundg (gk - 1)
          case measure => exact hgk
          case rel => exact ⟨m, m, f, false, rfl, rfl, rfl, HGK.out.1, HGK.out.2.1, HST⟩
end Go.Proofs.YtdnohjhknhekhaaDoor
