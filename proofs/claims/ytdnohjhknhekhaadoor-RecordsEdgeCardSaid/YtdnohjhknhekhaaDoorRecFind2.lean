/- reclog.find: the piece that stands at a place. -/
import Derived.Test.YtdnohjhknhekhaaDoorRecFind
namespace Go.Proofs.YtdnohjhknhekhaaDoor
set_option linter.unusedVariables false
open Go.RowKit
/-- what find tells: no piece; a piece with its bytes -/
def FindRes (o : Option (Nat × List UInt8)) (a : Nat) (w : World) (e : Ending) (w' : World) : Prop :=
  Below w.heap.size w w' ∧ match o with
  | none => e = .returned (.tuple #[piV 0 (.slice none 0 0) 0, .bool false])
  | some (k, b) => ∃ ad n c, e = .returned (.tuple #[piV k (.slice ad n c) (a + 7 + b.length), .bool true]) ∧ RdB w (.slice ad n c) b
set_option maxHeartbeats 4000000 in
set_option maxRecDepth 100000 in
theorem find_any (s : Option Addr) (len cap a : Nat) (log : List UInt8) (hl : log.length ≤ 1000000000000) (ha : a ≤ 1000000000010) (w : World) (ht : TabAt w) (h : RdB w (.slice s len cap) log) :
    Calls Tryd.prog 16 #[.slice s len cap, .int .i64 (a : Int)] w (FindRes (pieceS smN a (log.drop a)) a w) := by
  have hlen : len = log.length := by have := (rdV_len h).1; rwa [List.length_map] at this
  have HH := Lib.hid (head_any s len cap a (by omega) (by omega))
  have hdl : (log.drop a).length = len - a := by rw [List.length_drop, hlen]
  have HN : Hid (Row3 (w.alloc (.cells #[.int .u8 0, .slice none 0 0, .int .i64 0] 39)) w.heap.size (.int .u8 0) (.slice none 0 0) (.int .i64 0) ∧ Below w.heap.size w (w.alloc (.cells #[.int .u8 0, .slice none 0 0, .int .i64 0] 39))) :=
    Lib.hid ⟨Row3.new .., (Below.refl _ w).alloc (Nat.le_refl _) _⟩
  by_cases h7 : 7 ≤ len - a
  · have hsz : szS (log.drop a) ≤ 65535 := by
      unfold szS
      have h1 := ((log.drop a).getD 4 0).toNat_lt
      have h2 := ((log.drop a).getD 5 0).toNat_lt
      omega
    obtain ⟨x, hx⟩ : ∃ x, log[a + 6]? = some x := ⟨_, List.getElem?_eq_getElem (by omega)⟩
    have hkx : (log.drop a).getD 6 0 = x := by rw [List.getD_eq_getElem?_getD, List.getElem?_drop, hx]; rfl
    have HE : Hid (∀ W, RdB W (.slice s len cap) log → Calls Tryd.prog 26 #[.slice s len cap, .int .i64 (a : Int)] W fun e w' => e = .returned (.int .i64 ((a + 7 + szS (log.drop a) : Nat) : Int)) ∧ DrN W w') :=
      Lib.hid fun W hW => ending_any s len cap a log hl (by omega) W hW
    have hps : pieceS smN a (log.drop a) = if ¬ a + 7 + szS (log.drop a) ≤ a - a % 256 + 256 ∨ len < a + 7 + szS (log.drop a) ∨ x.toNat < 1 ∨ 4 < x.toNat then none else
        if (log.drop a).take 4 = smN ((log.drop (a + 4)).take (3 + szS (log.drop a))) then some (x.toNat, (log.drop (a + 7)).take (szS (log.drop a))) else none := by
      unfold pieceS
      rw [hdl, hkx, List.drop_drop, List.drop_drop]
      unfold szS
      by_cases hc : 256 - a % 256 < 7
      · rw [if_pos (.inl hc), if_pos (.inl (by omega))]
      · rw [if_neg (by omega)]
        congr 1
        rw [eq_iff_iff]
        omega
    obtain ⟨O, hO⟩ : ∃ O, pieceS smN a (log.drop a) = O := ⟨_, rfl⟩
    rw [hO] at hps ⊢
    rw [decide_eq_true h7] at HH
    have hxb : x.toNat < 256 := x.toNat_lt
    obtain ⟨z, hz⟩ : ∃ z, szS (log.drop a) = z := ⟨_, rfl⟩
    rw [hz] at HE hsz hps
    obtain ⟨m, hm⟩ : ∃ m, a + 7 + z = m := ⟨_, rfl⟩
    have HK := Lib.hid (block_any a m (by omega) (by omega))
    rw [hm] at HE hps
    have HO := Lib.hid hps
    have hm2 : m ≤ 9000000000000 := by omega
    have HRD : Hid (RdB w (.slice s len cap) log) := Lib.hid h
    have HT := Lib.hid ht
    have HX := Lib.hid hx
    have HDL := Lib.hid hdl
    have HHL := Lib.hid (show len = log.length ∧ len ≤ 1000000000000 ∧ 7 ≤ len - a ∧ a + 7 + z = m from ⟨hlen, by omega, h7, hm⟩)
    have hl2 : len ≤ 1000000000000 := by omega
    clear hO hps hkx hdl hz h ht hx hlen h7 hm hl
    by_cases hlt : len < m
    · have hz : (len : Int) < (m : Int) := by omega
      obtain rfl : O = none := by rw [HO.out, if_pos (.inr (.inl hlt))]
      clear HO
      clear hlt
      go_enter Tryd.func16, Tryd.ntmps16
      go_upto_region 1 with fail
      generalize w.alloc (.cells #[.int .u8 0, .slice none 0 0, .int .i64 0] 39) = w1 at HN ⊢
      go_wp2_with fail
      refine (HH.out _).mono ?_
      rintro e w' ⟨rfl, rfl⟩
      go_wp2_with fail
      refine (HE.out _ (HRD.out.below HN.out.2)).mono ?_
      rintro e w2 ⟨rfl, D⟩
      have HN2 : Hid (Row3 w2 w.heap.size (.int .u8 0) (.slice none 0 0) (.int .i64 0) ∧ Below w.heap.size w w2) := Lib.hid ⟨HN.out.1.below (D.below (w.heap.size + 1)) (by omega), HN.out.2.trans (D.below _)⟩
      obtain ⟨⟨⟨c0, c1, c2⟩, ⟨f0, f1, f2⟩, hs⟩, HB⟩ := HN2.out
      clear HN D HN2
      go_wp2
      refine bodyPost_ret (v := .tuple #[piV 0 (.slice none 0 0) 0, .bool false]) (by simp [results, Tryd.results16, go_sem, piV, c0, c1, c2]) rfl ⟨?_, rfl⟩
      iterate 3 refine Below.setCell ?_ (by simp) _
      exact HB
    have hz : ¬ (len : Int) < (m : Int) := by omega
    by_cases hblk : m ≤ a - a % 256 + 256
    · rw [decide_eq_true hblk] at HK
      obtain ⟨⟨b, off, rfl⟩, -⟩ := (rdV_len HRD.out).2 (by have := HHL.out; omega)
      have hcap : len ≤ cap ∧ cap ≤ 9223372036854775807 := by
        obtain ⟨_, _, _, e, -, hc⟩ := HRD.out.form
        simp only [Value.slice.injEq] at e
        obtain ⟨-, rfl, rfl⟩ := e
        have := hc (by have := HHL.out; omega)
        unfold maxLen at this; omega
      obtain ⟨hcap, hcap2⟩ := hcap
      have hml : m ≤ len := by omega
      have ham : a + 7 ≤ m := by have := HHL.out; omega
      have f6 : IntKind.i64.wrap ((a : Int) + 6) = (a : Int) + 6 := IntWalk.i64_in _ (by omega)
      have f7 : IntKind.i64.wrap ((a : Int) + 7) = (a : Int) + 7 := IntWalk.i64_in _ (by omega)
      have f4 : IntKind.i64.wrap ((a : Int) + 4) = (a : Int) + 4 := IntWalk.i64_in _ (by omega)
      have t6 : ((a : Int) + 6).toNat = a + 6 := by omega
      have z6 : (0 : Int) ≤ (a : Int) + 6 := by omega
      have z66 : (a : Int) + 6 < (len : Int) := by omega
      have hsl1 : ∀ W, (Instr.sliceAt 23 (.slice (some ⟨b, off, none⟩) len cap) (some (.int .i64 ((a : Int) + 7))) (some (.int .i64 (m : Int))) none).run Tryd.prog W = .ok (.slice (if cap = a + 7 then some ⟨b, off, none⟩ else (some (⟨b, off, none⟩ : Addr)).map (·.add (a + 7))) (m - (a + 7)) (cap - (a + 7))) W :=
        fun W => sl_lhB W _ len cap (a + 7) m ham (by omega)
      obtain ⟨ad, had⟩ : ∃ ad, (if cap = a + 7 then some ⟨b, off, none⟩ else (some (⟨b, off, none⟩ : Addr)).map (·.add (a + 7))) = ad := ⟨_, rfl⟩
      rw [had] at hsl1
      have HAD := Lib.hid had
      obtain ⟨n1, hn1⟩ : ∃ n1, m - (a + 7) = n1 := ⟨_, rfl⟩
      obtain ⟨c1, hc1⟩ : ∃ c1, cap - (a + 7) = c1 := ⟨_, rfl⟩
      simp only [hn1, hc1] at hsl1
      have HNC := Lib.hid (And.intro hn1 hc1)
      clear had hn1 hc1
      go_enter Tryd.func16, Tryd.ntmps16
      go_upto_region 1 with fail
      generalize w.alloc (.cells #[.int .u8 0, .slice none 0 0, .int .i64 0] 39) = w1 at HN ⊢
      go_wp2_with fail
      refine (HH.out _).mono ?_
      rintro e w' ⟨rfl, rfl⟩
      go_wp2_with fail
      refine (HE.out _ (HRD.out.below HN.out.2)).mono ?_
      rintro e w2 ⟨rfl, D⟩
      have HN2 : Hid (Row3 w2 w.heap.size (.int .u8 0) (.slice none 0 0) (.int .i64 0) ∧ Below w.heap.size w w2) := Lib.hid ⟨HN.out.1.below (D.below (w.heap.size + 1)) (by omega), HN.out.2.trans (D.below _)⟩
      have hcell : w2.cell? ⟨b, off + (a + 6), none⟩ = some (.int .u8 (x.toNat : Int)) ∧ b < w2.heap.size := by
        obtain ⟨b', off', e, hb, hc⟩ := (HRD.out.below HN2.out.2).at (a + 6) x HX.out
        simp only [Option.some.injEq, Addr.mk.injEq, and_true] at e
        obtain ⟨rfl, rfl⟩ := e
        exact ⟨hc, hb⟩
      obtain ⟨hcell, hb2⟩ := hcell
      have hs2 := HN2.out.1.2.2
      clear HN D
      go_wp2_with fail
      refine (HK.out _).mono ?_
      rintro e w' ⟨rfl, rfl⟩
      clear HH HE HK
      generalize x.toNat = k at *
      go_wp2_with fail
      go_region
      obtain ⟨w3, hw3⟩ : ∃ w3, (w2.alloc (.cells #[.int .u8 (k : Int), .slice ad n1 c1, .int .i64 (m : Int)] 39)).drew = w3 := ⟨_, rfl⟩
      have HB3 : Hid (Row3 w3 w2.heap.size (.int .u8 (k : Int)) (.slice ad n1 c1) (.int .i64 (m : Int)) ∧ Below w2.heap.size w2 w3) := Lib.hid (by
        rw [← hw3]; exact ⟨(Row3.new ..).drew, (((Below.refl _ w2).alloc (Nat.le_refl _) _)).trans (DrN.below ⟨1, rfl⟩ _)⟩)
      rw [hw3]
      clear hw3
      have HB4 : Hid (Row3 w3 w.heap.size (.int .u8 0) (.slice none 0 0) (.int .i64 0) ∧ Below w.heap.size w w3) := Lib.hid ⟨HN2.out.1.below HB3.out.2 hs2, HN2.out.2.trans (HB3.out.2.mono HN2.out.2.size)⟩
      obtain ⟨⟨⟨d0, d1, d2⟩, -, hs3⟩, -⟩ := id HB3.out
      have HP3a := Lib.hid HB3.out.1
      generalize w2.heap.size = g at *
      clear HB3 hcell HN2 hb2
      have finN : ∀ (W : World), DrN w3 W → Row3 W w.heap.size (.int .u8 0) (.slice none 0 0) (.int .i64 0) ∧ Below w.heap.size w W := fun W D => ⟨HB4.out.1.below (D.below (w.heap.size + 1)) (by omega), HB4.out.2.trans (D.below _)⟩
      have HFN := Lib.hid finN
      clear finN
      by_cases hk1 : k < 1
      · have hkz : decide ((k : Int) < 1) = true := decide_eq_true (by omega)
        have hkz' : (k : Int) < 1 := by omega
        obtain rfl : O = none := by rw [HO.out, if_pos (.inr (.inr (.inl hk1)))]
        clear HO hk1
        go_wp2_with fail
        go_quiet (fail)
        obtain ⟨⟨⟨x0, x1, x2⟩, ⟨y0, y1, y2⟩, hs4⟩, HB⟩ := HFN.out (w3.drewN nq) ⟨nq, rfl⟩
        clear HB4 HFN
        generalize w3.drewN nq = w4 at *
        go_wp2
        refine bodyPost_ret (v := .tuple #[piV 0 (.slice none 0 0) 0, .bool false]) (by simp [results, Tryd.results16, go_sem, piV, x0, x1, x2]) rfl ⟨?_, rfl⟩
        iterate 3 refine Below.setCell ?_ (by simp) _
        exact HB
      have hkz : decide ((k : Int) < 1) = false := decide_eq_false (by omega)
      have hkz' : ¬ (k : Int) < 1 := by omega
      by_cases hk4 : 4 < k
      · have hkq : decide ((4 : Int) < (k : Int)) = true := decide_eq_true (by omega)
        have hkq' : (4 : Int) < (k : Int) := by omega
        obtain rfl : O = none := by rw [HO.out, if_pos (.inr (.inr (.inr hk4)))]
        clear HO hk1 hk4
        go_wp2_with fail
        go_quiet (fail)
        obtain ⟨⟨⟨x0, x1, x2⟩, ⟨y0, y1, y2⟩, hs4⟩, HB⟩ := HFN.out (w3.drewN nq) ⟨nq, rfl⟩
        clear HB4 HFN
        generalize w3.drewN nq = w4 at *
        go_wp2
        refine bodyPost_ret (v := .tuple #[piV 0 (.slice none 0 0) 0, .bool false]) (by simp [results, Tryd.results16, go_sem, piV, x0, x1, x2]) rfl ⟨?_, rfl⟩
        iterate 3 refine Below.setCell ?_ (by simp) _
        exact HB
      have hkq : decide ((4 : Int) < (k : Int)) = false := decide_eq_false (by omega)
      have hkq' : ¬ (4 : Int) < (k : Int) := by omega
      have hO := HO.out
      rw [if_neg (by omega)] at hO
      have HO2 := Lib.hid hO
      have hr3 : ∀ n, RdB (w3.drewN n) (.slice (some ⟨b, off, none⟩) len cap) log := fun n => HRD.out.below (HB4.out.2.trans (DrN.below ⟨n, rfl⟩ _))
      have hsl2 : ∀ W, (Instr.sliceAt 23 (.slice (some ⟨b, off, none⟩) len cap) (some (.int .i64 (a : Int))) none none).run Tryd.prog W = .ok (.slice (some ⟨b, off + a, none⟩) (len - a) (cap - a)) W := fun W => by
        have := sl_lB W (some ⟨b, off, none⟩) len cap a (by omega) hcap
        rwa [if_neg (by omega), Option.map_some, add_at] at this
      have hsl3 : ∀ W, (Instr.sliceAt 23 (.slice (some ⟨b, off, none⟩) len cap) (some (.int .i64 ((a : Int) + 4))) (some (.int .i64 (m : Int))) none).run Tryd.prog W = .ok (.slice (some ⟨b, off + (a + 4), none⟩) (m - (a + 4)) (cap - (a + 4))) W := fun W => by
        have := sl_lhB W (some ⟨b, off, none⟩) len cap (a + 4) m (by omega) (by omega)
        rwa [if_neg (by omega), Option.map_some, add_at] at this
      have hmz := HHL.out.2.2.2
      have HG : Hid (∀ n, Calls Tryd.prog 28 #[.slice (some ⟨b, off + a, none⟩) (len - a) (cap - a)] (w3.drewN n) fun e w' => e = .returned (.int .u32 (unfK 4 (log.drop a) : Int)) ∧ w' = w3.drewN n) := Lib.hid fun n => by
        have := (hr3 n).drop a (by omega)
        rw [if_neg (by omega), Option.map_some, add_at] at this
        exact (get32_any _ _ _ this).mono fun e w' hh => ⟨hh.1, hh.2.symm⟩
      have HS : Hid (∀ n, Calls Tryd.prog 24 #[.slice (some ⟨b, off + (a + 4), none⟩) (m - (a + 4)) (cap - (a + 4))] (w3.drewN n) fun e w' => e = .returned (.int .u32 (moreN 0 ((log.drop (a + 4)).take (3 + z)) : Int)) ∧ w' = w3.drewN n) := Lib.hid fun n => by
        have := (hr3 n).mid (a + 4) m (by omega) (by omega)
        rw [if_neg (by omega), Option.map_some, add_at, List.drop_take, show m - (a + 4) = 3 + z by omega] at this
        rw [show m - (a + 4) = 3 + z by omega]
        exact (sum_any _ _ _ (HT.out.below (HB4.out.2.trans (DrN.below ⟨n, rfl⟩ _))) this).mono fun e w' hh => ⟨hh.1, hh.2.symm⟩
      have HSI : Hid ((unfK 4 (log.drop a) = moreN 0 ((log.drop (a + 4)).take (3 + z))) ↔ (log.drop a).take 4 = smN ((log.drop (a + 4)).take (3 + z))) := Lib.hid (sum_is (by rw [HDL.out]; omega))
      clear hO HO hr3 hmz
      generalize moreN 0 ((log.drop (a + 4)).take (3 + z)) = S1 at *
      generalize unfK 4 (log.drop a) = G1 at *
      generalize smN ((log.drop (a + 4)).take (3 + z)) = S2 at *
      by_cases hGS : G1 = S1
      · have hne : ((G1 : Int) != (S1 : Int)) = false := by rw [hGS, bne_self_eq_false]
        have hBl : ((log.drop (a + 7)).take z).length = z := by
          rw [List.length_take, List.length_drop]
          have := HHL.out
          omega
        obtain rfl : O = some (k, (log.drop (a + 7)).take z) := by rw [HO2.out, if_pos (HSI.out.1 hGS)]
        have HRM : Hid (RdB w (.slice ad n1 c1) ((log.drop (a + 7)).take z)) := Lib.hid (by
          have := HRD.out.mid (a + 7) m ham hml
          rwa [HAD.out, HNC.out.1, HNC.out.2, List.drop_take, show m - (a + 7) = z by have := HHL.out; omega] at this)
        have HE2 : Hid (a + 7 + ((log.drop (a + 7)).take z).length = m) := Lib.hid (by rw [hBl]; exact HHL.out.2.2.2)
        generalize (log.drop (a + 7)).take z = Bs at *
        have HP3 : Hid (∀ n, Row3 (w3.drewN n) g (.int .u8 (k : Int)) (.slice ad n1 c1) (.int .i64 (m : Int)) ∧ w.heap.size < g) := Lib.hid fun n => ⟨HP3a.out.below (DrN.below ⟨n, rfl⟩ (g + 1)) (by omega), hs2⟩
        clear HO2 HSI hk1 hk4 hBl HRD HAD HNC HP3a
        go_wp2_with fail
        go_quiet ((first | (go_at_call 28; exact Calls.quiet_of_same (HG.out _)) | (go_at_call 24; exact Calls.quiet_of_same (HS.out _))))
        obtain ⟨⟨⟨x0, x1, x2⟩, ⟨y0, y1, y2⟩, hs4⟩, HB⟩ := HFN.out (w3.drewN nq) ⟨nq, rfl⟩
        obtain ⟨⟨⟨p0, p1, p2⟩, -, hs5⟩, hs6⟩ := HP3.out nq
        clear HB4 HFN HP3
        generalize w3.drewN nq = w4 at *
        go_wp2
        refine bodyPost_ret (v := .tuple #[piV k (.slice ad n1 c1) m, .bool true]) (by simp [results, Tryd.results16, go_sem, piV, x0, x1, x2]) rfl ⟨?_, ad, n1, c1, by rw [HE2.out], HRM.out⟩
        iterate 3 refine Below.setCell ?_ (by simp) _
        exact HB
      · have hne : ((G1 : Int) != (S1 : Int)) = true := by rw [bne_iff_ne]; omega
        obtain rfl : O = none := by rw [HO2.out, if_neg (fun h => hGS (HSI.out.2 h))]
        clear HO2 HSI hGS hk1 hk4
        go_wp2_with fail
        go_quiet ((first | (go_at_call 28; exact Calls.quiet_of_same (HG.out _)) | (go_at_call 24; exact Calls.quiet_of_same (HS.out _))))
        obtain ⟨⟨⟨x0, x1, x2⟩, ⟨y0, y1, y2⟩, hs4⟩, HB⟩ := HFN.out (w3.drewN nq) ⟨nq, rfl⟩
        clear HB4 HFN
        generalize w3.drewN nq = w4 at *
        go_wp2
        refine bodyPost_ret (v := .tuple #[piV 0 (.slice none 0 0) 0, .bool false]) (by simp [results, Tryd.results16, go_sem, piV, x0, x1, x2]) rfl ⟨?_, rfl⟩
        iterate 3 refine Below.setCell ?_ (by simp) _
        exact HB
    · obtain rfl : O = none := by rw [HO.out, if_pos (.inl hblk)]
      clear HO
      rw [decide_eq_false hblk] at HK
      clear hlt hblk
      go_enter Tryd.func16, Tryd.ntmps16
      go_upto_region 1 with fail
      generalize w.alloc (.cells #[.int .u8 0, .slice none 0 0, .int .i64 0] 39) = w1 at HN ⊢
      go_wp2_with fail
      refine (HH.out _).mono ?_
      rintro e w' ⟨rfl, rfl⟩
      go_wp2_with fail
      refine (HE.out _ (HRD.out.below HN.out.2)).mono ?_
      rintro e w2 ⟨rfl, D⟩
      have HN2 : Hid (Row3 w2 w.heap.size (.int .u8 0) (.slice none 0 0) (.int .i64 0) ∧ Below w.heap.size w w2) := Lib.hid ⟨HN.out.1.below (D.below (w.heap.size + 1)) (by omega), HN.out.2.trans (D.below _)⟩
      obtain ⟨⟨⟨c0, c1, c2⟩, ⟨f0, f1, f2⟩, hs⟩, HB⟩ := HN2.out
      clear HN D HN2
      go_wp2_with fail
      refine (HK.out _).mono ?_
      rintro e w' ⟨rfl, rfl⟩
      go_wp2
      refine bodyPost_ret (v := .tuple #[piV 0 (.slice none 0 0) 0, .bool false]) (by simp [results, Tryd.results16, go_sem, piV, c0, c1, c2]) rfl ⟨?_, rfl⟩
      iterate 3 refine Below.setCell ?_ (by simp) _
      exact HB
  · have hres : pieceS smN a (log.drop a) = none := by
      unfold pieceS
      rw [if_pos (.inr (by omega))]
    rw [hres]
    rw [decide_eq_false h7] at HH
    clear hres hdl h7 hlen
    go_enter Tryd.func16, Tryd.ntmps16
    go_upto_region 1 with fail
    generalize w.alloc (.cells #[.int .u8 0, .slice none 0 0, .int .i64 0] 39) = w1 at HN ⊢
    obtain ⟨⟨⟨c0, c1, c2⟩, ⟨f0, f1, f2⟩, hs⟩, HB⟩ := HN.out
    clear HN
    go_wp2_with fail
    refine (HH.out _).mono ?_
    rintro e w' ⟨rfl, rfl⟩
    go_wp2
    refine bodyPost_ret (v := .tuple #[piV 0 (.slice none 0 0) 0, .bool false]) (by simp [results, Tryd.results16, go_sem, piV, c0, c1, c2]) rfl ⟨?_, rfl⟩
    iterate 3 refine Below.setCell ?_ (by simp) _
    exact HB
end Go.Proofs.YtdnohjhknhekhaaDoor
