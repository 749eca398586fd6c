/- Plain mathematics of a manifest: what is loaded behind a crash, wherever a call failed. -/
import Derived.Test.YtcppaflnhlmcbaaGreatDoorManTurn
import Derived.Test.YtcppaflnhlmcbaaGreatDoorManMath
import Derived.Test.YtcppaflnhlmcbaaGreatDoorMRec
namespace Go.Proofs.YtcppaflnhlmcbaaGreatDoor
set_option linter.unusedVariables false
open Go.RowKit
/-- A log of edits. -/
def logB (sm : List UInt8 → List UInt8) (es : List Edt) : List UInt8 := layAll sm 0 (es.map edtB)
theorem logB_snoc (sm : List UInt8 → List UInt8) (es : List Edt) (e : Edt) : logB sm (es ++ [e]) = logB sm es ++ layB sm (logB sm es).length (edtB e) := by
  unfold logB
  rw [List.map_append, List.map_cons, List.map_nil, layAll_snoc, Nat.zero_add]
theorem logB_one (sm : List UInt8 → List UInt8) (e : Edt) : logB sm [e] = layB sm 0 (edtB e) := by
  unfold logB
  rw [List.map_cons, List.map_nil, layAll, layAll, List.append_nil]
/-- A manifest stands in a directory, of which any cut at which its file may end tells a version with P. -/
def Holds (sm : List UInt8 → List UInt8) (b0 : Nat) (P : Ver → Prop) (u : Nat) (fs : List Fil) (D : Dir) : Prop :=
  ∃ i j es sy, i < b0 ∧ j < b0 ∧ dget curN D = some i ∧ dget (manN u) D = some j ∧ fs[i]? = some ⟨ptrB sm u, 12⟩ ∧ fs[j]? = some ⟨logB sm es, sy⟩ ∧ (∀ e ∈ es, mayE e) ∧
    ∀ c, sy ≤ c → c ≤ (logB sm es).length → ∃ W, manV (es.take (fitK sm 0 (es.map edtB) c)) = some W ∧ P W
theorem set_ne {fs : List Fil} {i a b0 : Nat} {p q : Fil} (h : fs[i]? = some q) (hi : i < b0) (ha : b0 ≤ a) : (fs.set a p)[i]? = some q := by
  rw [List.getElem?_set_ne (by omega)]; exact h
theorem more_at {fs : List Fil} {i : Nat} {p q : Fil} (h : fs[i]? = some q) : (fs ++ [p])[i]? = some q := by
  rw [List.getElem?_append_left (List.getElem?_eq_some_iff.1 h).1]; exact h
theorem holds_calm {sm : List UInt8 → List UInt8} {b0 u v : Nat} {P : Ver → Prop} (huv : u ≠ v) : Calm b0 v (Holds sm b0 P u) := by
  refine ⟨?_, ?_, ?_⟩
  · rintro fs p D ⟨i, j, es, sy, h1, h2, h3, h4, h5, h6, h7⟩
    exact ⟨i, j, es, sy, h1, h2, h3, h4, more_at h5, more_at h6, h7⟩
  · rintro fs a p D ha ⟨i, j, es, sy, h1, h2, h3, h4, h5, h6, h7⟩
    exact ⟨i, j, es, sy, h1, h2, h3, h4, set_ne h5 h1 ha, set_ne h6 h2 ha, h7⟩
  · rintro fs D c hD e1 e2 ⟨i, j, es, sy, h1, h2, h3, h4, h5, h6, h7⟩
    have n1 : curN ≠ c.fr := by rcases e1 with e | e <;> rw [e]; exact cur_nul; exact cur_bes
    have n2 : curN ≠ c.goes := by rcases e2 with e | e <;> rw [e]; exact cur_bes; exact Ne.symm (manN_cur v)
    have n3 : manN u ≠ c.fr := by rcases e1 with e | e <;> rw [e]; exact manN_nul u; exact manN_bes u
    have n4 : manN u ≠ c.goes := by rcases e2 with e | e <;> rw [e]; exact manN_bes u; exact fun k => huv (manN_inj k)
    exact ⟨i, j, es, sy, h1, h2, (run_ne hD n1 n2).trans h3, (run_ne hD n3 n4).trans h4, h5, h6, h7⟩
/-! ### a crash -/
theorem numb_get : ∀ {D : Dir} {k i : Nat} {n : ByteArray}, dget n D = some i → ∃ p, D[p]? = some (n, i) ∧ dget n (numb k D) = some (k + p)
  | [], _, _, _, h => by cases h
  | x :: r, k, i, n, h => by
    unfold dget at h
    show ∃ p, (x :: r)[p]? = some (n, i) ∧ dget n ((x.1, k) :: numb (k + 1) r) = some (k + p)
    split at h
    · rename_i e
      obtain rfl := Option.some.inj h
      refine ⟨0, by rw [← e]; rfl, ?_⟩
      show (if x.1 = n then some k else _) = some k
      rw [if_pos e]
    · rename_i e
      obtain ⟨p, h1, h2⟩ := numb_get (k := k + 1) h
      refine ⟨p + 1, h1, ?_⟩
      show (if x.1 = n then some k else dget n (numb (k + 1) r)) = some (k + (p + 1))
      rw [if_neg e, h2]
      congr 1; omega
theorem crash_file {S : Fs} {n : Int} {ts : List Int} {nm : ByteArray} {i : Nat} {f : Fil} (h : dget nm (dirAt S n.toNat) = some i) (hf : S.files[i]? = some f) :
    ∃ p, (dirAt S n.toNat)[p]? = some (nm, i) ∧ dget nm (S.crash n ts).now = some p ∧ (S.crash n ts).files[p]? = some (f.crash (ts.getD p 0)) := by
  obtain ⟨p, h1, h2⟩ := numb_get (k := 0) h
  refine ⟨p, h1, by rw [Nat.zero_add] at h2; exact h2, ?_⟩
  show ((S.left n).mapIdx fun i x => (S.file x.2).crash (ts.getD i 0))[p]? = _
  rw [List.getElem?_mapIdx]
  have h3 : (S.left n)[p]? = some (nm, i) := h1
  rw [h3, Option.map_some, file_of hf]
theorem crash_whole (b : List UInt8) (t : Int) : (⟨b, b.length⟩ : Fil).crash t = ⟨b, b.length⟩ := by
  unfold Fil.crash clampN
  simp
theorem crash_dir (S : Fs) (n : Int) (ts : List Int) (k : Nat) : dirAt (S.crash n ts) k = (S.crash n ts).now := by
  unfold dirAt
  show (([] : List Chg).take k).foldl Chg.run _ = _
  rw [List.take_nil]; rfl
theorem Disk.crash {S : Fs} {N L W r : Nat} (h : Disk S N L W r) (n : Int) (ts : List Int) : Disk (S.crash n ts) N L 0 r := by
  refine ⟨h.ok.crash n ts, fun k => ?_, fun p hp => ?_, Nat.le_refl _, h.room⟩
  · rw [crash_dir]
    show (numb 0 (S.left n)).length ≤ N
    rw [numb_len]
    exact h.names n.toNat
  · obtain ⟨i, hi, e⟩ := List.mem_mapIdx.1 hp
    subst e
    exact Nat.le_trans (Fil.crash_ok (h.ok.file_bd (S.left n)[i].2).1 _).2 (h.file _)
/-- CURRENT, and the log that it names, as they are read now: the version is one with P. -/
def LoadP (sm : List UInt8 → List UInt8) (S : Fs) (P : Ver → Prop) : Prop :=
  ∃ u i j es log V, u ≤ 1125899906842624 ∧ dget curN S.now = some i ∧ (S.file i).bytes = ptrB sm u ∧ dget (manN u) S.now = some j ∧ (S.file j).bytes = log ∧ readC sm log = (es.map edtB, (logB sm es).length, true) ∧ (logB sm es).length ≤ log.length ∧ (∀ e ∈ es, mayE e) ∧ manV es = some V ∧ P V
theorem holds_load {sm : List UInt8 → List UInt8} (hs : ∀ l, (sm l).length = 4) {S : Fs} (ho : FsOk S) {b0 u : Nat} (hu : u ≤ 1125899906842624) {P : Ver → Prop} {n : Int} (ts : List Int) (h : Holds sm b0 P u S.files (dirAt S n.toNat)) : LoadP sm (S.crash n ts) P := by
  obtain ⟨i, j, es, sy, -, -, h3, h4, h5, h6, h7, h8⟩ := h
  obtain ⟨p, -, p1, p2⟩ := crash_file (ts := ts) h3 h5
  obtain ⟨q, -, q1, q2⟩ := crash_file (ts := ts) h4 h6
  have hp : ptrB sm u = ptrB sm u ∧ (12 : Nat) = (ptrB sm u).length := ⟨rfl, (ptrB_len hs u).symm⟩
  rw [hp.2, crash_whole] at p2
  have hsy := (ho.synced _ (List.mem_of_getElem? h6)).1
  have hsy : sy ≤ (logB sm es).length := hsy
  have hc := clamp_le (ts.getD q 0) ((logB sm es).length - sy)
  obtain ⟨c, hcd⟩ : ∃ c, sy + clampN (ts.getD q 0) ((logB sm es).length - sy) = c := ⟨_, rfl⟩
  have q2 : (S.crash n ts).files[q]? = some ⟨(logB sm es).take c, c⟩ := by
    rw [q2]
    unfold Fil.crash
    simp only [hcd]
  obtain ⟨W, w1, w2⟩ := h8 c (by omega) (by omega)
  refine ⟨u, p, q, es.take (fitK sm 0 (es.map edtB) c), (logB sm es).take c, W, hu, p1, by rw [file_of p2], q1, by rw [file_of q2], ?_, ?_, fun e he => h7 e (List.mem_of_mem_take he), w1, w2⟩
  · unfold logB
    rw [readC_cut hs (es.map edtB) c (by show c ≤ (logB sm es).length; omega), List.map_take]
  · rw [List.length_take, Nat.min_eq_left (by omega)]
    unfold logB
    rw [List.map_take]
    exact (fitK_spec (es.map edtB) 0 c _ (fitK_le _ _ _)).2 (Nat.le_refl _)
theorem newD_holds {sm : List UInt8 → List UInt8} {b0 u i j : Nat} {es : List Edt} {fs : List Fil} {D : Dir} {P : Ver → Prop} {V : Ver} (h : NewD sm u i j (logB sm es) fs D) (hb : fs.length ≤ b0) (hm : ∀ e ∈ es, mayE e) (hv : manV es = some V) (hP : P V) : Holds sm b0 P u fs D := by
  obtain ⟨h1, h2, h3, h4⟩ := h
  have a := (List.getElem?_eq_some_iff.1 h3).1
  have b := (List.getElem?_eq_some_iff.1 h4).1
  refine ⟨i, j, es, _, by omega, by omega, h1, h2, h3, h4, hm, fun c c1 c2 => ?_⟩
  have : c = (logB sm es).length := by omega
  subst this
  have e : fitK sm 0 (es.map edtB) (logB sm es).length = es.length := by
    unfold logB
    rw [fitK_all, List.length_map]
  rw [e, List.take_length]
  exact ⟨V, hv, hP⟩
/-- A manifest that stands: of any crash the version is V. -/
structure Std (sm : List UInt8 → List UInt8) (S : Fs) (u : Nat) (V : Ver) (es : List Edt) (N L W r : Nat) : Prop where
  disk : Disk S N L W r
  new : ∃ i j, i ≠ j ∧ AllD S (NewD sm u i j (logB sm es))
  may : ∀ e ∈ es, mayE e
  man : ∃ X, manV es = some X ∧ vSame X V
  good : GoodV V
  below : (u : Int) < V.nx
theorem Std.u {sm : List UInt8 → List UInt8} {S : Fs} {u : Nat} {V : Ver} {es : List Edt} {N L W r : Nat} (h : Std sm S u V es N L W r) : u ≤ 1125899906842624 := by
  have := h.below; have := h.good.nx2; omega
theorem Std.more {sm : List UInt8 → List UInt8} {S : Fs} {u : Nat} {V : Ver} {es : List Edt} {N L W r N' L' W' : Nat} (h : Std sm S u V es N L W r) (hN : N ≤ N') (hL : L ≤ L') (hW : W ≤ W') : Std sm S u V es N' L' W' r := { h with disk := h.disk.more hN hL hW }
theorem Std.same {sm : List UInt8 → List UInt8} {S : Fs} {u : Nat} {V V' : Ver} {es : List Edt} {N L W r : Nat} (h : Std sm S u V es N L W r) (hv : vSame V V') : Std sm S u V' es N L W r := by
  obtain ⟨X, x1, x2⟩ := h.man
  exact { h with man := ⟨X, x1, x2.trans hv⟩, good := hv.good h.good, below := by rw [← hv.2.1]; exact h.below }
/-- As it is read now. -/
theorem Std.load {sm : List UInt8 → List UInt8} (hs : ∀ l, (sm l).length = 4) {S : Fs} {u : Nat} {V : Ver} {es : List Edt} {N L W r : Nat} (h : Std sm S u V es N L W r) :
    ∃ i j X, dget curN S.now = some i ∧ (S.file i).bytes = ptrB sm u ∧ dget (manN u) S.now = some j ∧ (S.file j).bytes = logB sm es ∧ readC sm (logB sm es) = (es.map edtB, (logB sm es).length, true) ∧ manV es = some X ∧ vSame X V := by
  obtain ⟨i, j, -, hn⟩ := h.new
  obtain ⟨X, x1, x2⟩ := h.man
  obtain ⟨h1, h2, h3, h4⟩ := hn.now h.disk.ok
  exact ⟨i, j, X, h1, by rw [file_of h3], h2, by rw [file_of h4], by unfold logB; exact readC_all hs _, x1, x2⟩
theorem Std.crash {sm : List UInt8 → List UInt8} (hs : ∀ l, (sm l).length = 4) {S : Fs} {u : Nat} {V : Ver} {es : List Edt} {N L W r : Nat} (h : Std sm S u V es N L W r) (n : Int) (ts : List Int) : Std sm (S.crash n ts) u V es N L 0 r := by
  obtain ⟨i, j, hij, hn⟩ := h.new
  obtain ⟨h1, h2, h3, h4⟩ := hn n.toNat
  obtain ⟨p, p0, p1, p2⟩ := crash_file (ts := ts) h1 h3
  obtain ⟨q, q0, q1, q2⟩ := crash_file (ts := ts) h2 h4
  rw [show (12 : Nat) = (ptrB sm u).length from (ptrB_len hs u).symm, crash_whole, ptrB_len hs] at p2
  rw [crash_whole] at q2
  refine { h with disk := h.disk.crash n ts, new := ⟨p, q, fun e => ?_, fun k => ?_⟩ }
  · subst e
    rw [p0] at q0
    exact manN_cur u (Prod.mk.inj (Option.some.inj q0)).1.symm
  · rw [crash_dir]; exact ⟨p1, q1, p2, q2⟩
/-- An edit comes behind the others. -/
theorem Std.add {sm : List UInt8 → List UInt8} (hs : ∀ l, (sm l).length = 4) {S : Fs} {u : Nat} {V V' n : Ver} {es : List Edt} {N L W r : Nat} (h : Std sm S u V es N L W r) {e : Edt} (he : mayE e) (ha : applyV V e = some n) (hV : vSame n V') {b : List UInt8} (hb : b = layB sm (logB sm es).length (edtB e))
    (hN : N ≤ 199) (hL : (logB sm es).length + b.length ≤ L) (hL2 : L ≤ 16777216) (hr : N * L + b.length ≤ r) :
    Out S (addF S u b) (fun S' => Std sm S' u V' (es ++ [e]) N L W r ∧ S'.now = S.now) (fun S' => Way S' N L W r (Holds sm S.files.length (fun X => vSame X V ∨ vSame X V') u)) := by
  obtain ⟨i, j, hij, hn⟩ := h.new
  obtain ⟨X, x1, x2⟩ := h.man
  have hnow := hn.now h.disk.ok
  obtain ⟨h1, h2, h3, h4⟩ := hnow
  have hjl := (List.getElem?_eq_some_iff.1 h4).1
  have hil := (List.getElem?_eq_some_iff.1 h3).1
  have hfj := file_of h4
  have hsn : logB sm (es ++ [e]) = logB sm es ++ b := by rw [logB_snoc, hb]
  have hme : ∀ x ∈ es ++ [e], mayE x := fun x hx => by
    rcases List.mem_append.1 hx with hx | hx
    · exact h.may x hx
    · rw [List.mem_singleton.1 hx]; exact he
  have hgX : GoodV X := manV_good x1
  obtain ⟨m, hm1, hm2⟩ : ∃ m, applyV X e = some m ∧ vSame m V' := by
    rcases applyV_same x2 hgX e with ⟨-, e2⟩ | ⟨a, c, e1, e2, e3⟩
    · rw [ha] at e2; cases e2
    · rw [ha] at e2
      obtain rfl := Option.some.inj e2
      exact ⟨a, e1, e3.trans hV⟩
  have hman : manV (es ++ [e]) = some m := by rw [manV_snoc x1]; exact hm1
  have hgV : GoodV V' := hV.good (applyV_good h.good ha)
  refine (addF_out (X := NewD sm u i j (logB sm es)) (X2 := NewD sm u i j (logB sm (es ++ [e]))) (X3 := Holds sm S.files.length (fun X => vSame X V ∨ vSame X V') u) h.disk hn h2 hjl hN (by rw [hfj]; exact hL) hL2 hr ?_ ?_ ?_).mono ?_ ?_
  · intro D hD
    exact newD_holds hD (Nat.le_refl _) h.may x1 (.inl x2)
  · rintro D ⟨d1, d2, d3, d4⟩
    rw [hfj]
    simp only
    refine ⟨i, j, es ++ [e], (logB sm es).length, hil, hjl, d1, d2, by rw [List.getElem?_set_ne (Ne.symm hij)]; exact d3, by rw [List.getElem?_set_self hjl, hsn], hme, fun c c1 c2 => ?_⟩
    have hk := fitK_le (sm := sm) ((es ++ [e]).map edtB) 0 c
    rw [List.length_map, List.length_append, List.length_singleton] at hk
    have hk2 : es.length ≤ fitK sm 0 ((es ++ [e]).map edtB) c := by
      refine (fitK_spec _ 0 c es.length (by rw [List.length_map, List.length_append]; omega)).1 ?_
      rw [← List.map_take, List.take_left]
      exact c1
    rcases Nat.lt_or_ge es.length (fitK sm 0 ((es ++ [e]).map edtB) c) with hk3 | hk3
    · have : fitK sm 0 ((es ++ [e]).map edtB) c = (es ++ [e]).length := by rw [List.length_append, List.length_singleton]; omega
      rw [this, List.take_length]
      exact ⟨m, hman, .inr hm2⟩
    · have : fitK sm 0 ((es ++ [e]).map edtB) c = es.length := by omega
      rw [this, List.take_left]
      exact ⟨X, x1, .inl x2⟩
  · rintro D ⟨d1, d2, d3, d4⟩
    rw [hfj]
    simp only
    exact ⟨d1, d2, by rw [List.getElem?_set_ne (Ne.symm hij)]; exact d3, by rw [List.getElem?_set_self hjl, hsn]⟩
  · rintro S' ⟨s1, s2, s3, s4⟩
    refine ⟨⟨s1, ⟨i, j, hij, s2⟩, hme, ⟨m, hman, hm2⟩, hgV, ?_⟩, s3⟩
    have h5 := h.below
    have h6 := applyV_next ha
    have h7 : n.nx = V'.nx := hV.2.1
    omega
  · exact fun S' hS' => hS'
/-- A manifest made anew. -/
theorem Std.turn {sm : List UInt8 → List UInt8} (hs : ∀ l, (sm l).length = 4) {S : Fs} {u v : Nat} {V V' : Ver} {es : List Edt} {N L W r : Nat} (h : Std sm S u V es N L W r) (hv : (v : Int) = V.nx) (hV : vSame (bumpV V) V') (hg : GoodV V') {log : List UInt8} (hl : log = logB sm [⟨V'.nx, V'.lg, V'.ls, V'.fs, []⟩])
    (hN : N + 2 ≤ 199) (hL : log.length ≤ L) (hL1 : 12 ≤ L) (hL2 : L ≤ 16777216) (hr : (N + 2) * L + L ≤ r) :
    Out S (turnF sm S u v log) (fun S' => Std sm S' v V' [⟨V'.nx, V'.lg, V'.ls, V'.fs, []⟩] (N + 2) L 1 r ∧ ∀ n, n ≠ curN → n ≠ manN v → dget n S'.now = if n = manN u ∨ n = besN ∨ n = ⟨#[]⟩ then none else dget n S.now)
      (fun S' => Way S' (N + 2) L (W + 4) r fun fs D => Holds sm S.files.length (fun X => vSame X V ∨ vSame X V') u fs D ∨ NewD sm v (S.files.length + 1) S.files.length log fs D) := by
  obtain ⟨i, j, hij, hn⟩ := h.new
  obtain ⟨X, x1, x2⟩ := h.man
  have h5 := h.below
  have huv : u ≠ v := by omega
  have hv2 : v ≤ 1125899906842624 := by have := h.good.nx2; omega
  obtain ⟨h1, h2, h3, h4⟩ := hn.now h.disk.ok
  refine (turnF_out hs h.u hv2 huv (X := Holds sm S.files.length (fun X => vSame X V ∨ vSame X V') u) h.disk (hn.mono fun D hD => newD_holds hD (Nat.le_refl _) h.may x1 (.inl x2)) (holds_calm huv) h2 hN hL hL1 hL2 hr).mono ?_ ?_
  · rintro S' ⟨s1, s2, s3⟩
    rw [hl] at s2
    have hme : mayE ⟨V'.nx, V'.lg, V'.ls, V'.fs, []⟩ := mayE_whole hg
    refine ⟨⟨s1, ⟨_, _, by omega, s2⟩, fun e he => by rw [List.mem_singleton.1 he]; exact hme, ?_, hg, ?_⟩, s3⟩
    · obtain ⟨Y, y1, y2⟩ := manV_whole_same hg (List.Perm.refl V'.fs)
      exact ⟨Y, y1, y2.symm⟩
    · have h6 : V.nx + 1 = V'.nx := hV.2.1
      omega
  · exact fun S' hS' => hS'
/-- What a failed turning leaves. -/
theorem turn_bad {sm : List UInt8 → List UInt8} (hs : ∀ l, (sm l).length = 4) {S S' : Fs} {u v b0 : Nat} (hu : u ≤ 1125899906842624) (hv : v ≤ 1125899906842624) {V V' : Ver} {N L W r i j : Nat} {log : List UInt8} (hg : GoodV V') (hl : log = logB sm [⟨V'.nx, V'.lg, V'.ls, V'.fs, []⟩])
    (h : Way S' N L W r fun fs D => Holds sm b0 (fun X => vSame X V ∨ vSame X V') u fs D ∨ NewD sm v i j log fs D) (n : Int) (ts : List Int) : LoadP sm (S'.crash n ts) (fun X => vSame X V ∨ vSame X V') := by
  rcases h.all n.toNat with k | k
  · exact holds_load hs h.disk.ok hu ts k
  · rw [hl] at k
    obtain ⟨Y, y1, y2⟩ := manV_whole_same hg (List.Perm.refl V'.fs)
    exact holds_load (b0 := S'.files.length) hs h.disk.ok hv ts (newD_holds k (Nat.le_refl _) (fun e he => by rw [List.mem_singleton.1 he]; exact mayE_whole hg) y1 (.inr y2.symm))
theorem add_bad {sm : List UInt8 → List UInt8} (hs : ∀ l, (sm l).length = 4) {S' : Fs} {u b0 : Nat} (hu : u ≤ 1125899906842624) {N L W r : Nat} {P : Ver → Prop} (h : Way S' N L W r (Holds sm b0 P u)) (n : Int) (ts : List Int) : LoadP sm (S'.crash n ts) P := holds_load hs h.disk.ok hu ts (h.all n.toNat)
theorem Std.loadP {sm : List UInt8 → List UInt8} (hs : ∀ l, (sm l).length = 4) {S : Fs} {u : Nat} {V : Ver} {es : List Edt} {N L W r : Nat} (h : Std sm S u V es N L W r) {P : Ver → Prop} (hP : ∀ X, vSame X V → P X) : LoadP sm S P := by
  obtain ⟨i, j, X, h1, h2, h3, h4, h5, h6, h7⟩ := h.load hs
  exact ⟨u, i, j, es, logB sm es, X, h.u, h1, h2, h3, h4, h5, Nat.le_refl _, h.may, h6, hP X h7⟩
end Go.Proofs.YtcppaflnhlmcbaaGreatDoor
