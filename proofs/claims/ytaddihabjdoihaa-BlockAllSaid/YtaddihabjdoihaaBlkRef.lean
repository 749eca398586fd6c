/- The walk of the reference's Block. -/
import Derived.Test.YtaddihabjdoihaaBdBytes
import Derived.Test.YtaddihabjdoihaaBlkSeek
namespace Go.Proofs.Ytaddihabjdoihaa
set_option linter.unusedVariables false
set_option maxRecDepth 100000
open Go.RowKit
/-- TwoB rows of bytes that grow side by side. -/
structure TwoB (w wr : World) (vb : Value) (L : List UInt8) (ve : Value) (E : List UInt8) : Prop where
  fst : OwnB w.heap.size wr vb L
  snd : OwnB w.heap.size wr ve E
  dj : ∀ g, vb.ownBlock = some g → ve.ownBlock ≠ some g
  bel : Below w.heap.size w wr
variable {w wr wl : World} {vb ve v' : Value} {L E cs : List UInt8}
theorem TwoB.swap (h : TwoB w wr vb L ve E) : TwoB w wr ve E vb L := ⟨h.snd, h.fst, fun g h1 h2 => h.dj g h2 h1, h.bel⟩
theorem TwoB.below (h : TwoB w wr vb L ve E) (u : Below wr.heap.size wr wl) : TwoB w wl vb L ve E := ⟨h.fst.below u, h.snd.below u, h.dj, h.bel.trans (u.mono h.bel.size)⟩
theorem TwoB.app (h : TwoB w wr vb L ve E) (o : OwnB 0 wl v' (L ++ cs)) (g : wr.grownBy wl vb.ownBlock) (n : ∀ g, v'.ownBlock = some g → vb.ownBlock = some g ∨ wr.heap.size ≤ g) : TwoB w wl v' (L ++ cs) ve E := by
  have hs := h.bel.size
  refine ⟨OwnV.rebase o fun x hx => ?_, h.snd.kept g fun x hx e => h.dj x e hx, fun x hx hx' => ?_, h.bel.grown g hs fun k hk => (h.fst.where k hk).1⟩
  · rcases n x hx with e | e
    · exact (h.fst.where x e).1
    · omega
  · have := (h.snd.where x hx').2
    rcases n x hx with e | e
    · exact h.dj x e hx'
    · omega
theorem body_take (rs : List Kv) (i : Nat) (r : Kv) (h : rs[i]? = some r) : bodyB 0 [] (rs.take (i + 1)) = bodyB 0 [] (rs.take i) ++ rowB i (lastK [] (rs.take i)) r ∧ bkEnds (rs.take (i + 1)) = bkEnds (rs.take i) ++ if i % 4 = 0 then [(bodyB 0 [] (rs.take i)).length] else [] := by
  have hi := (List.getElem?_eq_some_iff.1 h).1
  have hl : (rs.take i).length = i := by rw [List.length_take]; omega
  rw [List.take_add_one, h]
  simp only [Option.toList_some]
  refine ⟨?_, ?_⟩
  · rw [bodyB_snoc, hl, Nat.zero_add]
  · unfold bkEnds
    rw [endsB_snoc, hl, Nat.zero_add, Nat.zero_add]
theorem body_app_le : ∀ (xs ys : List Kv) (n : Nat) (p : List UInt8), (bodyB n p xs).length ≤ (bodyB n p (xs ++ ys)).length
  | [], ys, n, p => Nat.zero_le _
  | x :: xs, ys, n, p => by
    rw [List.cons_append, bodyB, bodyB, List.length_append, List.length_append]
    have := body_app_le xs ys (n + 1) x.k
    omega
theorem body_take_le (rs : List Kv) (i : Nat) : (bodyB 0 [] (rs.take i)).length ≤ (bodyB 0 [] rs).length := by
  have := body_app_le (rs.take i) (rs.drop i) 0 []
  rwa [List.take_append_drop] at this
theorem last_take (rs : List Kv) (i : Nat) (r : Kv) (h : rs[i]? = some r) : lastK [] (rs.take (i + 1)) = r.k := by
  rw [List.take_add_one, h]
  exact lastK_snoc _ _ _
theorem shareN_ne : ∀ {x y : List UInt8} {s : Nat} {a b : UInt8}, shareN x y = s → x[s]? = some a → y[s]? = some b → a ≠ b
  | [], _, _, _, _, _, h, _ => by simp at h
  | _ :: _, [], _, _, _, _, _, h => by simp at h
  | c :: x, d :: y, s, a, b, h, h1, h2 => by
    unfold shareN at h
    split at h
    · subst h
      exact shareN_ne rfl (by simpa using h1) (by simpa using h2)
    · rename_i hne
      subst h
      obtain rfl : c = a := by simpa using h1
      obtain rfl : d = b := by simpa using h2
      exact hne
theorem atS_under {w W : World} {b o B : Nat} {x y : Value} (h : w.cell? ⟨b, o, none⟩ = some x ∧ w.cell? ⟨b, o + 1, none⟩ = some y) (hb : b < B) (hW : Below B w W) : W.cell? ⟨b, o, none⟩ = some x ∧ W.cell? ⟨b, o + 1, none⟩ = some y := ⟨(hW.cell (p := ⟨b, o, none⟩) hb).trans h.1, (hW.cell (p := ⟨b, o + 1, none⟩) hb).trans h.2⟩
set_option maxHeartbeats 8000000 in
theorem rblock_any (v : Value) (rs : List Kv) (hb : (bodyB 0 [] rs).length ≤ 1000000000) (w : World) (h : RdK encKv 2 w v rs) : Calls Try.prog 15 #[v] w (MkB (blockB rs) w) := by
  obtain ⟨R, hR⟩ : ∃ R, blockB rs = R := ⟨_, rfl⟩
  obtain ⟨a, len, cap, rfl, hlen⟩ := rdKv_len h
  have hbl := body_len rs 0 []
  have HR := Lib.hid hR
  have HN := Lib.hid hlen
  have HRD := Lib.hid h
  have HBB := Lib.hid hb
  have hlb : len ≤ 1000000000 := by omega
  rw [hR]
  clear hR hlen h hb hbl
  go_enter Try.func15, Try.ntmps15
  go_wp2_with fail
  go_loopg [3, 4, 5, 6] len (fun kk v3 v4 v5 vi wr => ∃ (i n : Nat) (L E : List UInt8) (ab ae : Option Addr) (nb cb ne ce : Nat), vi = .int .i64 (i : Int) ∧ v3 = .slice ab nb cb ∧ v4 = .slice ae ne ce ∧ v5 = .int .i64 (n : Int) ∧ i ≤ len ∧ len - i ≤ kk ∧ n ≤ i ∧ nb ≤ 1000000000 ∧ Hid (nb = L.length) ∧ Hid (L = bodyB 0 [] (rs.take i)) ∧ Hid (n = (bkEnds (rs.take i)).length) ∧ Hid (E = (bkEnds (rs.take i)).flatMap (fixN 4)) ∧ Hid (TwoB w wr (.slice ab nb cb) L (.slice ae ne ce) E))
  case atStart => exact ⟨0, 0, [], [], none, none, 0, 0, 0, 0, rfl, rfl, rfl, rfl, by omega, by omega, by omega, by omega, Lib.hid rfl, Lib.hid rfl, Lib.hid rfl, Lib.hid rfl, Lib.hid ⟨OwnB.nil _ _, OwnB.nil _ _, (fun g h => by cases h), Below.refl _ _⟩⟩
  case round =>
    obtain ⟨i, n, L, E, ab, ae, nb, cb, ne, ce, rfl, rfl, rfl, rfl, hi, hik, hni, hnb, HNB, HL, HNN, HE, HT⟩ := hrel
    generalize wr = w0 at *
    by_cases h1 : i < len
    · have hi1 : (i : Int) < (len : Int) := by omega
      have hi0 : (0 : Int) ≤ (i : Int) := by omega
      obtain ⟨r, hr⟩ : ∃ r, rs[i]? = some r := ⟨rs[i]'(by have := HN.out; omega), List.getElem?_eq_getElem _⟩
      obtain ⟨b, off, rfl, hb0, hat⟩ := HRD.out.at2 i r hr
      obtain ⟨hbt, het⟩ := body_take rs i r hr
      have hbl := body_take_le rs (i + 1)
      rw [hbt, ← HL.out] at hbl
      have hrl := rowB_len i (lastK [] (rs.take i)) r
      obtain ⟨p, hp⟩ : ∃ p, lastK [] (rs.take i) = p := ⟨_, rfl⟩
      obtain ⟨s, hs⟩ : ∃ s, shB i p r.k = s := ⟨_, rfl⟩
      have hsk := (shB_le i p r.k).2
      rw [hp] at hbl hrl hbt
      rw [hs] at hrl hsk
      rw [List.length_append] at hbl
      obtain ⟨ks, hks⟩ : ∃ ks : ByteArray, (⟨r.k.toArray⟩ : ByteArray) = ks := ⟨_, rfl⟩
      obtain ⟨vs, hvs⟩ : ∃ vs : ByteArray, (⟨r.v.toArray⟩ : ByteArray) = vs := ⟨_, rfl⟩
      have hkl : ks.data.toList = r.k := by rw [← hks]
      have hvl : vs.data.toList = r.v := by rw [← hvs]
      have hksz : ks.size = r.k.length := by rw [← size_toList, hkl]
      have hvsz : vs.size = r.v.length := by rw [← size_toList, hvl]
      have hkb : ks.size ≤ 10000000000 := by
        have h3 := last_le (rs.take i)
        have h4 := (shB_le i p r.k).1
        have := HBB.out
        rw [hs] at h4
        rw [hp, ← HL.out] at h3
        omega
      have hvb : vs.size ≤ 1000000000 := by have := HBB.out; omega
      have AT := Lib.hid (show w.cell? ⟨b, off + i * 2, none⟩ = some (.string ks) ∧ w.cell? ⟨b, off + i * 2 + 1, none⟩ = some (.string vs) from by rw [← hks, ← hvs]; exact hat)
      have HKL := Lib.hid hkl
      have HVL := Lib.hid hvl
      have HP := Lib.hid hp
      have HS := Lib.hid hs
      have hsk2 : s ≤ ks.size := by omega
      obtain ⟨oth, hoth⟩ : ∃ oth, ks.size - s = oth := ⟨_, rfl⟩
      have hoi : (ks.size : Int) - (s : Int) = (oth : Int) := by omega
      obtain ⟨KD, hKD⟩ : ∃ KD, ks.extract s ks.size = KD := ⟨_, rfl⟩
      have hKDl : KD.data.toList = r.k.drop s := by rw [← hKD, ← hkl]; simp [List.take_of_length_le]
      have hKDs : KD.size = oth := by rw [← size_toList, hKDl, List.length_drop]; omega
      have HRB : Hid (bodyB 0 [] (rs.take (i + 1)) = L ++ putN s ++ putN oth ++ putN vs.size ++ KD.data.toList ++ vs.data.toList) := Lib.hid (by
        rw [hbt, ← HL.out]
        unfold rowB
        rw [hs, hKDl, hvl, hvsz, ← hksz, hoth]
        simp only [List.append_assoc])
      have HLE : Hid (L.length + oth + vs.size ≤ 1000000000 ∧ (putN s).length ≤ 10 ∧ (putN oth).length ≤ 10 ∧ (putN vs.size).length ≤ 10 ∧ KD.size = oth ∧ (bodyB 0 [] (rs.take (i + 1))).length ≤ 1000000000) := Lib.hid ⟨by have := HBB.out; omega, (putN_len _).2, (putN_len _).2, (putN_len _).2, hKDs, by have := HBB.out; have := body_take_le rs (i + 1); omega⟩
      have HP1 : Hid (∀ w, Calls Try.prog 33 #[.int .u64 (s : Int)] w (MkB (putN s) w)) := Lib.hid (rput_any s (by omega))
      have HP2 : Hid (∀ w, Calls Try.prog 33 #[.int .u64 (oth : Int)] w (MkB (putN oth) w)) := Lib.hid (rput_any oth (by omega))
      have HP3 : Hid (∀ w, Calls Try.prog 33 #[.int .u64 (vs.size : Int)] w (MkB (putN vs.size) w)) := Lib.hid (rput_any vs.size (by omega))
      have HET := Lib.hid het
      have HRR := Lib.hid hr
      have hothb : oth ≤ 10000000000 := by omega
      clear hat hbt het hbl hrl hp hs hsk hks hvs hkl hvl hksz hvsz hoth hKDl hr
      obtain ⟨d0, d1⟩ := atS_under AT.out hb0 HT.out.bel
      obtain ⟨q4, hq4⟩ : ∃ q, ((i : Int) % 4 == 0) = q := ⟨_, rfl⟩
      have HQ4 : Hid ((q4 = true → i % 4 = 0) ∧ (q4 = false → ¬ i % 4 = 0)) := Lib.hid (by
        rw [← hq4]
        refine ⟨fun h => ?_, fun h => ?_⟩
        · rw [beq_iff_eq] at h; omega
        · rw [beq_eq_false_iff_ne] at h; omega)
      go_upto_if 17 with fail
      clear hq4 d0 d1
      go_cut [4, 5, 7] (fun v4 v5 v7 wx => ∃ (n' : Nat) (E' : List UInt8) (ae' : Option Addr) (ne' ce' : Nat), v4 = .slice ae' ne' ce' ∧ v5 = .int .i64 (n' : Int) ∧ v7 = .int .i64 (s : Int) ∧ n' ≤ i + 1 ∧ Hid (n' = (bkEnds (rs.take (i + 1))).length) ∧ Hid (E' = (bkEnds (rs.take (i + 1))).flatMap (fixN 4)) ∧ Hid (TwoB w wx (.slice ab nb cb) L (.slice ae' ne' ce') E'))
      case first =>
        as_aux_lemma =>
        cases q4 with
        | true =>
          have hm4 := HQ4.out.1 rfl
          have HET2 : Hid (bkEnds (rs.take (i + 1)) = bkEnds (rs.take i) ++ [nb]) := Lib.hid (by rw [HET.out, if_pos hm4, ← HL.out, HNB.out])
          obtain rfl : s = 0 := by rw [← HS.out]; unfold shB; rw [if_pos hm4]
          have HF : Hid (∀ w, Calls Try.prog 32 #[.int .u64 (nb : Int), .int .i64 4] w (MkB (fixN 4 nb) w)) := Lib.hid (rfixed_any nb (by omega) 4 (by omega))
          have HEB : Hid (E.length + 4 ≤ 10000000000) := Lib.hid (by rw [HE.out, fix_flat, ← HNN.out]; omega)
          clear hm4 HET HQ4
          go_wp2_with fail
          refine (HF.out _).mono ?_
          rintro e q1 ⟨x1, rfl, ox, bx⟩
          have TQ := Lib.hid (HT.out.below bx)
          have HX := Lib.hid ox.rd
          clear ox bx HT HF
          go_wp2_with (at_builtin; refine wp_appGB _ _ (by rfl) (by rfl) (by rfl) (OwnB.base TQ.out.snd (Nat.zero_le _)) (by rfl) HX.out ?c1 (Nat.zero_le _) ?_)
          case c1 => rw [fixN_len]; have := HEB.out; omega
          intro v3 w3 o' b' g' n'
          obtain ⟨a3, n3, c3, rfl, -⟩ := id o'.form
          have HT := Lib.hid (TQ.out.swap.app o' g' n').swap
          clear o' b' g' n' TQ HX
          go_wp2_with fail
          go_meet
          refine ⟨n + 1, _, a3, n3, c3, rfl, by go_num, rfl, by omega, Lib.hid ?_, Lib.hid ?_, HT⟩
          · rw [HET2.out, List.length_append, List.length_singleton, HNN.out]
          · rw [HET2.out, List.flatMap_append, HE.out]; simp
        | false =>
          have hm4 := HQ4.out.2 rfl
          have HET2 : Hid (bkEnds (rs.take (i + 1)) = bkEnds (rs.take i)) := Lib.hid (by rw [HET.out, if_neg hm4, List.append_nil])
          obtain ⟨j, rfl⟩ : ∃ j, i = j + 1 := ⟨i - 1, by omega⟩
          have HS2 : Hid (shareN p r.k = s) := Lib.hid (by rw [← HS.out]; unfold shB; rw [if_neg hm4])
          obtain ⟨r1, hr1⟩ : ∃ r1, rs[j]? = some r1 := ⟨rs[j]'(by have := HN.out; omega), List.getElem?_eq_getElem _⟩
          obtain ⟨b', off', e', hb', hat'⟩ := HRD.out.at2 j r1 hr1
          simp only [Option.some.injEq, Addr.mk.injEq, and_true] at e'
          obtain ⟨rfl, rfl⟩ := e'
          obtain ⟨ps, hps⟩ : ∃ ps : ByteArray, (⟨r1.k.toArray⟩ : ByteArray) = ps := ⟨_, rfl⟩
          have hpl : ps.data.toList = p := by rw [← hps, ← HP.out, last_take rs j r1 hr1]
          have hpsz : ps.size = p.length := by rw [← size_toList, hpl]
          have hpb : ps.size ≤ 10000000000 := by
            have h3 := last_le (rs.take (j + 1))
            have h4 := body_take_le rs (j + 1)
            have := HBB.out
            rw [HP.out] at h3
            omega
          have AT' := Lib.hid (show w.cell? ⟨b, off + j * 2, none⟩ = some (.string ps) ∧ w.cell? ⟨b, off + j * 2 + 1, none⟩ = some (.string ⟨r1.v.toArray⟩) from by rw [← hps]; exact hat')
          have HPL := Lib.hid hpl
          obtain ⟨d0, d1⟩ := atS_under AT.out hb0 HT.out.bel
          obtain ⟨p0, p1⟩ := atS_under AT'.out hb0 HT.out.bel
          have hj1 : ((j + 1 : Nat) : Int) - 1 = (j : Int) := by omega
          have hj2 : (j : Int) < (len : Int) := by omega
          have hj0 : (0 : Int) ≤ (j : Int) := by omega
          clear hm4 HET HQ4 hr1 hb' hat' hps hpl hpsz
          go_wp2_with fail
          go_loopg [7] s (fun kk vs wx => ∃ t : Nat, vs = .int .i64 (t : Int) ∧ t ≤ s ∧ s - t ≤ kk ∧ Hid (DrN w0 wx))
          case atStart => exact ⟨0, rfl, by omega, by omega, Lib.hid (DrN.refl _)⟩
          case round =>
            obtain ⟨t, rfl, hts, htk, HD⟩ := hrel
            obtain ⟨d0, d1⟩ := atS_under AT.out hb0 (HT.out.bel.trans (HD.out.below _))
            obtain ⟨p0, p1⟩ := atS_under AT'.out hb0 (HT.out.bel.trans (HD.out.below _))
            have hti0 : (0 : Int) ≤ (t : Int) := by omega
            have hsp : s ≤ ps.size := by rw [← size_toList, HPL.out, ← HS2.out]; exact (shareN_le _ _).1
            by_cases c0 : t < s
            · have hia : t < ps.size := by omega
              have hib : t < ks.size := by omega
              have hia2 : (t : Int) < (ps.size : Int) := by omega
              have hib2 : (t : Int) < (ks.size : Int) := by omega
              obtain ⟨x, hx⟩ : ∃ x, ps[t] = x := ⟨_, rfl⟩
              obtain ⟨y, hy⟩ : ∃ y, ks[t] = y := ⟨_, rfl⟩
              have hxy : x = y := by
                have e := shareN_take p r.k
                rw [HS2.out] at e
                have e2 := congrArg (fun l : List UInt8 => l[t]?) e
                simp only [List.getElem?_take, if_pos c0] at e2
                rw [← HPL.out, ← HKL.out, List.getElem?_eq_getElem (by rw [size_toList]; exact hia), List.getElem?_eq_getElem (by rw [size_toList]; exact hib), at_toList ps t hia, at_toList ks t hib, hx, hy] at e2
                exact Option.some.inj e2
              have hE : ((x.toNat : Int) == (y.toNat : Int)) = true := by rw [hxy]; exact beq_self_eq_true _
              clear hxy
              go_wp2_with fail
              go_quiet (fail)
              have HD2 := Lib.hid (HD.out.more nq)
              generalize wr.drewN nq = wq at *
              clear HD
              go_wp2_with fail
              go_roundg (s - (t + 1))
              case measure => omega
              case rel => exact ⟨t + 1, by go_num, by omega, Nat.le_refl _, HD2⟩
            · obtain rfl : t = s := by omega
              have FN : Hid (n = (bkEnds (rs.take (j + 1 + 1))).length) := Lib.hid (by rw [HET2.out]; exact HNN.out)
              have FE : Hid (E = (bkEnds (rs.take (j + 1 + 1))).flatMap (fixN 4)) := Lib.hid (by rw [HET2.out]; exact HE.out)
              clear c0
              by_cases c1 : t < ps.size
              · have hia2 : (t : Int) < (ps.size : Int) := by omega
                by_cases c2 : t < ks.size
                · have hib2 : (t : Int) < (ks.size : Int) := by omega
                  obtain ⟨x, hx⟩ : ∃ x, ps[t] = x := ⟨_, rfl⟩
                  obtain ⟨y, hy⟩ : ∃ y, ks[t] = y := ⟨_, rfl⟩
                  have hxy : x ≠ y := shareN_ne (x := p) (y := r.k) HS2.out (by rw [← HPL.out, List.getElem?_eq_getElem (by rw [size_toList]; exact c1), at_toList ps t c1, hx]) (by rw [← HKL.out, List.getElem?_eq_getElem (by rw [size_toList]; exact c2), at_toList ks t c2, hy])
                  have hE : ((x.toNat : Int) == (y.toNat : Int)) = false := by rw [beq_eq_false_iff_ne]; exact fun e => hxy (byte_ext e)
                  clear hxy
                  go_wp2_with fail
                  go_quiet (fail)
                  have HD2 := Lib.hid (HD.out.more nq)
                  generalize wr.drewN nq = wq at *
                  clear HD
                  go_wp2_with fail
                  go_meet
                  exact ⟨n, E, ae, ne, ce, rfl, rfl, rfl, by omega, FN, FE, Lib.hid (HT.out.below (HD2.out.below _))⟩
                · have hib2 : ¬ (t : Int) < (ks.size : Int) := by omega
                  go_wp2_with fail
                  go_quiet (fail)
                  have HD2 := Lib.hid (HD.out.more nq)
                  generalize wr.drewN nq = wq at *
                  clear HD
                  go_wp2_with fail
                  go_meet
                  exact ⟨n, E, ae, ne, ce, rfl, rfl, rfl, by omega, FN, FE, Lib.hid (HT.out.below (HD2.out.below _))⟩
              · have hia2 : ¬ (t : Int) < (ps.size : Int) := by omega
                go_wp2_with fail
                go_quiet (fail)
                have HD2 := Lib.hid (HD.out.more nq)
                generalize wr.drewN nq = wq at *
                clear HD
                go_wp2_with fail
                go_meet
                exact ⟨n, E, ae, ne, ce, rfl, rfl, rfl, by omega, FN, FE, Lib.hid (HT.out.below (HD2.out.below _))⟩
      case rest =>
      clear HT HQ4 HNN HE HET
      obtain ⟨n', E', ae', ne', ce', rfl, rfl, rfl, hn', HNN, HE, HT⟩ := hcut
      obtain ⟨d0, d1⟩ := atS_under AT.out hb0 HT.out.bel
      go_wp2_with fail
      refine (HP1.out _).mono ?_
      rintro e q1 ⟨x1, rfl, ox, bx⟩
      have TQ := Lib.hid (HT.out.below bx)
      have HX := Lib.hid ox.rd
      clear ox bx HT HP1 d0 d1
      go_wp2_with (at_builtin; refine wp_appGB _ _ (by rfl) (by rfl) (by rfl) (OwnB.base TQ.out.fst (Nat.zero_le _)) (by rfl) HX.out ?c1 (Nat.zero_le _) ?_)
      case c1 => have := HLE.out; omega
      intro v1 w1 o' b' g' n'
      obtain ⟨a1, n1, c1, rfl, -⟩ := id o'.form
      clear b' HX
      obtain ⟨L1, hLj⟩ : ∃ X, L ++ putN s = X := ⟨_, rfl⟩
      rw [hLj] at o'
      have HLL1 : Hid (L1.length = L.length + (putN s).length) := Lib.hid (by rw [← hLj, List.length_append])
      have HT' := Lib.hid (TQ.out.app (cs := putN s) (by rw [hLj]; exact o') g' n')
      rw [hLj] at HT' HRB
      clear o' g' n' TQ hLj
      have HT := HT'
      clear HT'
      obtain ⟨d0, d1⟩ := atS_under AT.out hb0 HT.out.bel
      go_wp2_with fail
      refine (HP2.out _).mono ?_
      rintro e q2 ⟨x2, rfl, ox, bx⟩
      have TQ := Lib.hid (HT.out.below bx)
      have HX := Lib.hid ox.rd
      clear ox bx HT HP2 d0 d1
      go_wp2_with (at_builtin; refine wp_appGB _ _ (by rfl) (by rfl) (by rfl) (OwnB.base TQ.out.fst (Nat.zero_le _)) (by rfl) HX.out ?c1 (Nat.zero_le _) ?_)
      case c1 => have := HLL1.out; have := HLE.out; omega
      intro v2 w2 o' b' g' n'
      obtain ⟨a2, n2, c2, rfl, -⟩ := id o'.form
      clear b' HX
      obtain ⟨L2, hLj⟩ : ∃ X, L1 ++ putN oth = X := ⟨_, rfl⟩
      rw [hLj] at o'
      have HLL2 : Hid (L2.length = L1.length + (putN oth).length) := Lib.hid (by rw [← hLj, List.length_append])
      have HT' := Lib.hid (TQ.out.app (cs := putN oth) (by rw [hLj]; exact o') g' n')
      rw [hLj] at HT' HRB
      clear o' g' n' TQ hLj
      have HT := HT'
      clear HT'
      obtain ⟨d0, d1⟩ := atS_under AT.out hb0 HT.out.bel
      go_wp2_with fail
      refine (HP3.out _).mono ?_
      rintro e q3 ⟨x3, rfl, ox, bx⟩
      have TQ := Lib.hid (HT.out.below bx)
      have HX := Lib.hid ox.rd
      clear ox bx HT HP3 d0 d1
      go_wp2_with (at_builtin; refine wp_appGB _ _ (by rfl) (by rfl) (by rfl) (OwnB.base TQ.out.fst (Nat.zero_le _)) (by rfl) HX.out ?c1 (Nat.zero_le _) ?_)
      case c1 => have := HLL1.out; have := HLL2.out; have := HLE.out; omega
      intro v3 w3 o' b' g' n'
      obtain ⟨a3, n3, c3, rfl, -⟩ := id o'.form
      clear b' HX
      obtain ⟨L3, hLj⟩ : ∃ X, L2 ++ putN vs.size = X := ⟨_, rfl⟩
      rw [hLj] at o'
      have HLL3 : Hid (L3.length = L2.length + (putN vs.size).length) := Lib.hid (by rw [← hLj, List.length_append])
      have HT' := Lib.hid (TQ.out.app (cs := putN vs.size) (by rw [hLj]; exact o') g' n')
      rw [hLj] at HT' HRB
      clear o' g' n' TQ hLj
      have HT := HT'
      clear HT'
      obtain ⟨d0, d1⟩ := atS_under AT.out hb0 HT.out.bel
      go_wp2_with (at_builtin; refine wp_appTG _ _ (by rfl) (by rfl) (by rfl) (OwnB.base HT.out.fst (Nat.zero_le _)) _ (by rfl) ?c1 ?_)
      case c1 => have := HLL1.out; have := HLL2.out; have := HLL3.out; have := HLE.out; have := size_toList KD; have := size_toList vs; omega
      intro v4 w4 o' g' n'
      obtain ⟨a4, n4, c4, rfl, -⟩ := id o'.form
      have TQ := HT
      clear HT d0 d1
      obtain ⟨L4, hLj⟩ : ∃ X, L3 ++ KD.data.toList = X := ⟨_, rfl⟩
      rw [hLj] at o'
      have HLL4 : Hid (L4.length = L3.length + (KD.data.toList).length) := Lib.hid (by rw [← hLj, List.length_append])
      have HT' := Lib.hid (TQ.out.app (cs := KD.data.toList) (by rw [hLj]; exact o') g' n')
      rw [hLj] at HT' HRB
      clear o' g' n' TQ hLj
      have HT := HT'
      clear HT'
      obtain ⟨d0, d1⟩ := atS_under AT.out hb0 HT.out.bel
      go_wp2_with (at_builtin; refine wp_appTG _ _ (by rfl) (by rfl) (by rfl) (OwnB.base HT.out.fst (Nat.zero_le _)) _ (by rfl) ?c1 ?_)
      case c1 => have := HLL1.out; have := HLL2.out; have := HLL3.out; have := HLL4.out; have := HLE.out; have := size_toList KD; have := size_toList vs; omega
      intro v5 w5 o' g' n'
      obtain ⟨a5, n5, c5, rfl, -⟩ := id o'.form
      have TQ := HT
      clear HT d0 d1
      obtain ⟨L5, hLj⟩ : ∃ X, L4 ++ vs.data.toList = X := ⟨_, rfl⟩
      rw [hLj] at o'
      have HLL5 : Hid (L5.length = L4.length + (vs.data.toList).length) := Lib.hid (by rw [← hLj, List.length_append])
      have HT' := Lib.hid (TQ.out.app (cs := vs.data.toList) (by rw [hLj]; exact o') g' n')
      rw [hLj] at HT' HRB
      clear o' g' n' TQ hLj
      have HT := HT'
      clear HT'
      obtain ⟨d0, d1⟩ := atS_under AT.out hb0 HT.out.bel
      go_wp2_with fail
      go_roundg (len - (i + 1))
      case measure => omega
      case rel =>
        have hle := HLE.out
        refine ⟨i + 1, n', _, E', a5, ae', n5, c5, ne', ce', by go_num, rfl, rfl, rfl, by omega, Nat.le_refl _, hn', ?_, ?_, Lib.hid ?_, HNN, HE, HT⟩
        · have hx := size_toList KD; have hy := size_toList vs
          have h1 := HLL1.out; have h2 := HLL2.out; have h3 := HLL3.out; have h4 := HLL4.out; have h5 := HLL5.out
          have := HRB.out
          have h6 := congrArg List.length this
          rw [this] at hle
          have hn5 := (HT.out.fst.form)
          obtain ⟨aa, ll, cc, e, hl, -⟩ := hn5
          simp only [Value.slice.injEq] at e
          omega
        · obtain ⟨aa, ll, cc, e, hl, -⟩ := HT.out.fst.form
          simp only [Value.slice.injEq] at e
          exact Lib.hid (by omega)
        · exact HRB.out.symm
    · obtain rfl : i = len := by omega
      have hi1 : ¬ (i : Int) < (i : Int) := by omega
      have HTK : Hid (rs.take i = rs) := Lib.hid (List.take_of_length_le (by have := HN.out; omega))
      have HF : Hid (∀ w, Calls Try.prog 32 #[.int .u64 (n : Int), .int .i64 4] w (MkB (fixN 4 n) w)) := Lib.hid (rfixed_any n (by omega) 4 (by omega))
      have HRL : Hid (R = L ++ (E ++ fixN 4 n)) := Lib.hid (by
        have h1 := HL.out
        have h2 := HNN.out
        have h3 := HE.out
        rw [HTK.out] at h1 h2 h3
        rw [← HR.out, blockB_is, h1, h3, h2]
        unfold placesB
        simp only [])
      have HLB : Hid (L.length ≤ 1000000000 ∧ E.length ≤ 10000000000) := Lib.hid ⟨by rw [← HNB.out]; exact hnb, by rw [HE.out, fix_flat, ← HNN.out]; omega⟩
      clear HL HNN HE HR HTK hik h1
      go_wp2_with (at_builtin; refine wp_appGB _ _ (by rfl) (by rfl) (by rfl) (OwnB.base HT.out.fst (Nat.zero_le _)) (by rfl) HT.out.snd.rd ?c1 (Nat.zero_le _) ?_)
      case c1 => have := HLB.out; omega
      intro v3 w3 o' b' g' n'
      obtain ⟨a3, n3, c3, rfl, -⟩ := id o'.form
      have HO3 := Lib.hid (HT.out.app o' g' n').fst
      have HB3 := Lib.hid (HT.out.app o' g' n').bel
      clear o' b' g' n' HT
      go_wp2_with fail
      refine (HF.out _).mono ?_
      rintro e q1 ⟨x1, rfl, ox, bx⟩
      have HO4 := Lib.hid (HO3.out.below bx)
      have HB4 := Lib.hid (HB3.out.trans (bx.mono HB3.out.size))
      have HX := Lib.hid ox.rd
      clear ox bx HO3 HB3 HF
      go_wp2_with (at_builtin; refine wp_appSB _ _ (by rfl) (by rfl) (by rfl) HO4.out (by rfl) HX.out ?c1 HB4.out.size ?_)
      case c1 => rw [List.length_append, fixN_len]; have := HLB.out; omega
      intro v5 w5 o5 b5
      go_wp2_with fail
      go_ret
      exact ⟨_, rfl, by rw [HRL.out]; exact o5, HB4.out.trans b5⟩
end Go.Proofs.Ytaddihabjdoihaa
