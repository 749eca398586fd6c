/- The walk of Replay: the entries of all groups of a log, and how many groups these are. -/
import Derived.Test.YtjhkfjbgdaomeaaGreatDoorWalLog
import Derived.Test.YtjhkfjbgdaomeaaGreatDoorMOp
import Derived.Test.YtjhkfjbgdaomeaaGreatDoorMRec
import Derived.Deep.LoopGhost
namespace Go.Proofs.YtjhkfjbgdaomeaaGreatDoor
set_option linter.unusedVariables false
open Go.RowKit Go.Maps
/-- 'append(s, t...)' of rows of the call's own. -/
theorem wp_appSK {α : Type} {enc : α → List Value} {ops : Array Oper} {rest : List Oper} {o : Oper} {a : Act} {w : World} {Q : Exit → Act → World → Prop} {t E k bytes : Nat} {z : Value} (F : ElemK Tryz.prog t E k bytes z) (hk : EncK enc k)
    (s x : Operand) (ho : o.op = .call { callee := .builtin .append, args := #[s, x], argTypes := #[t, t] }) (hw : Region.wanted o (yielded ops a.tmps) = true)
    {B : Nat} {v src : Value} {xs us : List α} (hs : a.eval s = v) (hown : OwnK enc k E B w v xs) (hx : a.eval x = src) (hr : RdK enc k w src us) (h1 : ∀ u ∈ us.flatMap enc, u.oneCell' = true) (hlen : (xs.length + us.length) * bytes ≤ 140737488355328) (hm : xs.length + us.length ≤ maxLen) (hB : B ≤ w.heap.size)
    (h : ∀ v' w', OwnK enc k E B w' v' (xs ++ us) → Below B w w' → wpList Tryz.prog ops Q rest (a.put o.dst v') w') : wpList Tryz.prog ops Q (o :: rest) a w := by
  refine wpList_step fun K hK => ?_
  rw [if_pos hw]
  obtain ⟨v', w', hrun, h2, h3⟩ := run_appK (ty := o.type) F hk hown hr h1 hlen hm hB
  unfold Oper.wp execOp
  simp only [ho, resolve, invoke, builtin, Sem.run_bind, Sem.run_pure, Result.andThen_ok, List.map_toArray, List.map_cons, List.map_nil, hs, hx, hrun]
  exact hK _ _ (h v' w' h2 h3)
def RepAt (B : Nat) (w : World) (u : Value) (n c : Int) : Option (List Ent × Nat) → Prop
  | none => u = .slice none 0 0 ∧ n = 0 ∧ c = 8
  | some (es, k) => OwnK encEnt 5 54 B w u es ∧ n = (k : Int) ∧ c = 0
/-- What Replay answers. -/
def RepRes (r : Option (List Ent × Nat)) (w : World) (e : Ending) (w' : World) : Prop := ∃ u n c, e = .returned (.tuple #[u, .int .i64 n, .int .i64 c]) ∧ RepAt w.heap.size w' u n c r ∧ Below w.heap.size w w'
theorem decP_ok {b : List UInt8} {s : Int} {l : List Opn} (h : decP b = some (s, l)) : checkP l = 0 ∧ l.length ≤ 50 ∧ (∀ o ∈ l, o.sp.size ≤ b.length ∧ o.val.size ≤ b.length) := by
  unfold decP at h
  split at h
  · cases h
  · split at h
    · cases h
    · rename_i l' hl
      split at h
      · rename_i hc
        simp only [Option.some.injEq, Prod.mk.injEq] at h
        obtain ⟨-, rfl⟩ := h
        obtain ⟨h1, h2⟩ := getOpsP_ok hl
        refine ⟨hc.1, h1, fun o ho => ?_⟩
        have := h2 o ho
        rw [List.length_drop] at this
        omega
      · cases h
theorem recsE_none {r : List UInt8} {rs : List (List UInt8)} (h : decP r = none) : recsE (r :: rs) = none := by rw [recsE, h]
theorem recsE_some {r : List UInt8} {rs : List (List UInt8)} {s : Int} {l : List Opn} (h : decP r = some (s, l)) : recsE (r :: rs) = (recsE rs).map (entsF s l ++ ·) := by rw [recsE, h]
theorem wdrop_at {α : Type} {l : List α} {i : Nat} {x : α} (h : l[i]? = some x) : l.drop i = x :: l.drop (i + 1) := by
  obtain ⟨hi, rfl⟩ := List.getElem?_eq_some_iff.1 h
  exact List.drop_eq_getElem_cons hi
/-- how far the entries of records were told -/
def RecTo (rs : List (List UInt8)) (i : Nat) (xs : List Ent) : Prop := recsE rs = (recsE (rs.drop i)).map (xs ++ ·)
theorem RecTo.zero (rs : List (List UInt8)) : RecTo rs 0 [] := by
  unfold RecTo
  rw [List.drop_zero]
  cases recsE rs <;> rfl
theorem RecTo.end {rs : List (List UInt8)} {xs : List Ent} (h : RecTo rs rs.length xs) : recsE rs = some xs := by
  unfold RecTo at h
  rw [List.drop_length, recsE] at h
  rw [h, Option.map_some, List.append_nil]
theorem RecTo.none {rs : List (List UInt8)} {i : Nat} {xs : List Ent} {r : List UInt8} (h : RecTo rs i xs) (hr : rs[i]? = some r) (hd : decP r = Option.none) : recsE rs = Option.none := by
  unfold RecTo at h
  rw [wdrop_at hr, recsE_none hd] at h
  exact h
theorem RecTo.next {rs : List (List UInt8)} {i : Nat} {xs : List Ent} {r : List UInt8} {s : Int} {l : List Opn} (h : RecTo rs i xs) (hr : rs[i]? = some r) (hd : decP r = some (s, l)) : RecTo rs (i + 1) (xs ++ entsF s l) := by
  unfold RecTo at h ⊢
  rw [wdrop_at hr, recsE_some hd, Option.map_map] at h
  rw [h]
  congr 1
  funext ys
  simp only [Function.comp_apply, List.append_assoc]
set_option maxHeartbeats 4000000 in
set_option maxRecDepth 100000 in
theorem replay_no (w : World) (b : Nat) (ρ : Nat → Option Role) (S : Fs) (h : FsAt w b ρ S) (num : Int) (nm : ByteArray) (hN : Calls Tryz.prog 21 #[.int .i64 num] w fun e w' => e = .returned (.string nm) ∧ Below w.heap.size w w') (hs : nm.size ≤ 1000000)
    (bs : List UInt8) (c : Int) (hr : S.read nm = (bs, c)) (hc : c ≠ 0) :
    Calls Tryz.prog 20 #[.pointer (some ⟨b, 0, none⟩), .int .i64 num] w fun e w' => e = .returned (.tuple #[.slice none 0 0, .int .i64 0, .int .i64 c]) ∧ Below w.heap.size w w' := by
  have HN := Lib.hid hN
  have HRE : Hid (∀ W, Below w.heap.size w W → Calls Tryz.prog 16 #[.pointer (some ⟨b, 0, none⟩), .string nm] W (ReadAt W bs c)) := Lib.hid fun W hW => by
    have := fsRead_any W b ρ S (h.below hW) nm (by unfold maxLen; omega)
    rwa [hr] at this
  have hne : (c != 0) = true := by rw [bne_iff_ne]; exact hc
  clear hN h hs hr hc
  go_enter Tryz.func20, Tryz.ntmps20
  go_wp2_with fail
  refine HN.out.mono ?_
  rintro e w1 ⟨rfl, hb1⟩
  have HR1 := Lib.hid (HRE.out w1 hb1)
  have HB := Lib.hid hb1
  clear hb1 HN HRE
  go_wp2_with fail
  refine HR1.out.mono ?_
  rintro e w2 ⟨v, rfl, ho, hb2⟩
  have HB2 := Lib.hid (HB.out.trans (hb2.mono HB.out.size))
  clear ho hb2 HR1
  go_wp2_with fail
  go_ret3
  exact ⟨rfl, HB2.out⟩
set_option maxHeartbeats 8000000 in
set_option maxRecDepth 100000 in
theorem replay_any (w : World) (b : Nat) (ρ : Nat → Option Role) (S : Fs) (h : FsAt w b ρ S) (num : Int) (nm : ByteArray) (hN : Calls Tryz.prog 21 #[.int .i64 num] w fun e w' => e = .returned (.string nm) ∧ Below w.heap.size w w') (hs : nm.size ≤ 1000000)
    (bs : List UInt8) (hr : S.read nm = (bs, 0)) (hbl : bs.length ≤ 1000000000) (hE : ErrAt w) (hSp : SpAt w) (hT : TabAt w) (rs : List (List UInt8)) (N : Nat) (ok : Bool) (hrd : readC smN bs = (rs, N, ok)) (hrl : rs.length ≤ 1000000) (hrb : ∀ r ∈ rs, r.length ≤ 1000000000) :
    Calls Tryz.prog 20 #[.pointer (some ⟨b, 0, none⟩), .int .i64 num] w (RepRes (if ok = true then (recsE rs).map fun es => (es, rs.length) else none) w) := by
  obtain ⟨G, hG⟩ : ∃ G, (if ok = true then (recsE rs).map fun es => (es, rs.length) else none) = G := ⟨_, rfl⟩
  rw [hG]
  have HG := Lib.hid hG
  have HN := Lib.hid hN
  have HRE : Hid (∀ W, Below w.heap.size w W → Calls Tryz.prog 16 #[.pointer (some ⟨b, 0, none⟩), .string nm] W (ReadAt W bs 0)) := Lib.hid fun W hW => by
    have := fsRead_any W b ρ S (h.below hW) nm (by unfold maxLen; omega)
    rwa [hr] at this
  have HES : Hid (∀ w', Below w.heap.size w w' → ErrAt w' ∧ SpAt w' ∧ TabAt w') := Lib.hid fun w' hb => ⟨hE.below hb, hSp.below hb hSp.1, hT.below hb⟩
  have HRR : Hid (∀ (s : Option Addr) (len cap : Nat) (W : World), Below w.heap.size w W → RdB W (.slice s len cap) bs → Calls Tryz.prog 39 #[.slice s len cap] W (RcRes (rs, N, ok) W)) := Lib.hid fun s len cap W hW hrB => by
    have := rcRead_any s len cap bs (by omega) W (hT.below hW) hrB
    rwa [hrd] at this
  have HRB := Lib.hid hrb
  clear hN h hs hr hE hSp hT hrd hbl hrb hG
  go_enter Tryz.func20, Tryz.ntmps20
  go_wp2_with fail
  refine HN.out.mono ?_
  rintro e w1 ⟨rfl, hb1⟩
  have HR1 := Lib.hid (HRE.out w1 hb1)
  have HB := Lib.hid hb1
  clear hb1 HN HRE
  go_wp2_with fail
  refine HR1.out.mono ?_
  rintro e w2 ⟨v, rfl, ho, hb2⟩
  have hbw := HB.out.trans (hb2.mono HB.out.size)
  obtain ⟨a2, l2, c2, rfl, -⟩ := ho.form
  have HRC := Lib.hid (HRR.out a2 l2 c2 w2 hbw ho.rd)
  have HB2 := Lib.hid hbw
  clear ho hb2 HR1 hbw HB HRR
  go_wp2_with fail
  refine HRC.out.mono ?_
  rintro e w3 ⟨v3, rfl, o3, b3⟩
  have hbw := HB2.out.trans (b3.mono HB2.out.size)
  have ho3 := o3.base HB2.out.size
  obtain ⟨a3, c3, rfl, hl3, hm3⟩ := ho3.form
  have HO3 := Lib.hid ho3
  have HB3 := Lib.hid hbw
  unfold maxLen at hm3
  clear o3 b3 hbw HB2 HRC ho3
  cases ok with
  | false =>
    obtain rfl : G = none := by rw [← HG.out]; rfl
    go_wp2_with fail
    go_ret3
    exact ⟨_, _, _, rfl, ⟨rfl, rfl, rfl⟩, HB3.out⟩
  | true =>
  have HGV : Hid (G = (recsE rs).map fun es => (es, rs.length)) := Lib.hid (by rw [← HG.out, if_pos rfl])
  clear HG
  obtain ⟨n, hn⟩ : ∃ n, rs.length = n := ⟨_, rfl⟩
  have HNL := Lib.hid hn
  rw [hn] at hrl hl3 HO3 HGV ⊢
  clear hn
  go_wp2_with fail
  go_loopg [12, 38] n (fun kk vo vi wr => ∃ (i : Nat) (xs : List Ent), vi = .int .i64 i ∧ i ≤ n ∧ n - i ≤ kk ∧ Hid (RecTo rs i xs) ∧ Hid (xs.length ≤ 50 * i) ∧ Hid (OwnK encEnt 5 54 w3.heap.size wr vo xs) ∧ Hid (Below w3.heap.size w3 wr))
  case atStart => exact ⟨0, [], by go_num, by omega, by omega, Lib.hid (RecTo.zero rs), Lib.hid (by simp), Lib.hid (OwnK.nil _ _ _ _ _), Lib.hid (Below.refl _ _)⟩
  case round =>
    obtain ⟨q, xs, rfl, hq, hkk, HTO, HXL, HOW, HBW⟩ := hrel
    have HB := Lib.hid (HB3.out.trans (HBW.out.mono HB3.out.size))
    by_cases h1 : q < n
    · have hd1 : decide (q < n) = true := decide_eq_true h1
      have hz1 : (q : Int) < (n : Int) := by omega
      obtain ⟨r, hr⟩ : ∃ r, rs[q]? = some r := ⟨rs[q]'(by have := HNL.out; omega), List.getElem?_eq_getElem _⟩
      obtain ⟨g, u, e1, hg, hc, hu⟩ := (HO3.out.below HBW.out).at q r hr
      obtain rfl := e1
      rw [Nat.zero_add] at hc
      have hrl := HRB.out r (List.mem_of_getElem? hr)
      obtain ⟨hE, hSp, -⟩ := HES.out _ HB.out
      have hD := decode_any u r wr hu.rd (by omega) hE hSp
      have HU : Hid (∃ a l c, u = .slice a l c) := Lib.hid (by obtain ⟨a, l, c, e, -⟩ := hu.form; exact ⟨a, l, c, e⟩)
      have HR := Lib.hid hr
      cases hd : decP r with
      | none =>
        rw [hd] at hD
        have HD := Lib.hid hD
        obtain rfl : G = none := by rw [HGV.out, HTO.out.none hr hd]; rfl
        obtain ⟨ua, ul, uc, rfl⟩ := HU.out
        clear hu hrl hE hSp hD hr hd HU
        go_wp2_with fail
        refine HD.out.mono ?_
        rintro e w4 ⟨s4, u4, c4, rfl, ⟨rfl, rfl, rfl⟩, b4⟩
        have HB4 := Lib.hid (HB.out.trans (b4.mono HB.out.size))
        clear b4 HD hc
        go_wp2_with fail
        go_ret3
        exact ⟨_, _, _, rfl, ⟨rfl, rfl, rfl⟩, HB4.out⟩
      | some p =>
        obtain ⟨s, l⟩ := p
        rw [hd] at hD
        have HD := Lib.hid hD
        obtain ⟨ok1, ok2, ok3⟩ := decP_ok hd
        have HTN := Lib.hid (HTO.out.next hr hd)
        have HLK : Hid (∀ o ∈ l, o.ok) := Lib.hid fun o ho => by have := ok3 o ho; unfold Opn.ok maxLen; omega
        have HEN : Hid (∀ (v : Value) (W : World), Below w.heap.size w W → RdK encOp 3 W v l → Calls Tryz.prog 41 #[.int .i64 s, v] W (EntsRes (entsF s l) W)) := Lib.hid fun v W hW hrd => by
          have := entries_any s v l HLK.out (by omega) W hrd (HES.out W hW).1 (HES.out W hW).2.1
          unfold entsP at this
          rwa [if_pos ok1] at this
        have HLL : Hid ((entsF s l).length ≤ 50) := Lib.hid (by rw [entsF_len]; exact ok2)
        obtain ⟨ua, ul, uc, rfl⟩ := HU.out
        clear hu hrl hE hSp hD hr hd HU ok1 ok2 ok3 HLK HTO
        go_wp2_with fail
        refine HD.out.mono ?_
        rintro e w4 ⟨s4, u4, c4, rfl, ⟨rfl, rfl, o4⟩, b4⟩
        have hb4 := HB.out.trans (b4.mono HB.out.size)
        have HEN4 := Lib.hid (HEN.out u4 w4 hb4 (o4.rd encOp_len))
        have HO4 := Lib.hid (HOW.out.below b4)
        obtain ⟨u4a, u4l, u4c, rfl, -⟩ := o4.len3
        have HBW4 := Lib.hid (HBW.out.trans (b4.mono HBW.out.size))
        have HB4 := Lib.hid hb4
        clear b4 hb4 o4 HD hc HEN HOW HB HBW
        go_wp2_with fail
        refine HEN4.out.mono ?_
        rintro e w5 ⟨u5, rfl, o5, b5⟩
        have HS5 := Lib.hid (o5.rd encEnt_len)
        have HO5 := Lib.hid (HO4.out.below b5)
        have HB5 := Lib.hid (HB4.out.trans (b5.mono HB4.out.size))
        have HBW5 := Lib.hid (HBW4.out.trans (b5.mono HBW4.out.size))
        clear o5 b5 HEN4 HO4 HB4 HBW4
        go_wp2_with (at_builtin; refine wp_appSK elemK_ent encEnt_len _ _ (by rfl) (by rfl) (by rfl) HO5.out (by rfl) HS5.out (encEnt_one _) ?c1 ?c2 ?c3 ?_)
        case c1 => have h1 := HXL.out; have h2 := HLL.out; omega
        case c2 => have h1 := HXL.out; have h2 := HLL.out; unfold maxLen; omega
        case c3 => exact HBW5.out.size
        intro v6 w6 o6 b6
        have HO6 := Lib.hid o6
        have HBW6 := Lib.hid (HBW5.out.trans b6)
        have HXL6 : Hid ((xs ++ entsF s4 l).length ≤ 50 * (q + 1)) := Lib.hid (by have h1 := HXL.out; have h2 := HLL.out; rw [List.length_append]; omega)
        clear o6 b6 HO5 HB5 HBW5 HS5
        go_wp2_with fail
        go_roundg (n - (q + 1))
        case measure => omega
        case rel => exact ⟨q + 1, _, by go_num, by omega, Nat.le_refl _, HTN, HXL6, HO6, HBW6⟩
    · have hd1 : decide (q < n) = false := decide_eq_false h1
      have hz1 : ¬ (q : Int) < (n : Int) := by omega
      obtain rfl : q = n := by omega
      obtain rfl : G = some (xs, q) := by
        have h2 := HTO.out
        rw [← HNL.out] at h2
        rw [HGV.out, h2.end]; rfl
      go_wp2_with fail
      go_ret3
      exact ⟨_, _, _, rfl, ⟨HOW.out.base HB3.out.size, rfl, rfl⟩, HB.out⟩
end Go.Proofs.YtjhkfjbgdaomeaaGreatDoor
