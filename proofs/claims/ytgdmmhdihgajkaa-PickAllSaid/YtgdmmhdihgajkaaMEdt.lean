/- Edits in plain words: a table, an edit, their cells, their bytes, what bytes hold: what is read of any bytes is an edit that may be just where these are its bytes. -/
import Derived.Test.YtgdmmhdihgajkaaMNum
import Derived.Test.YtgdmmhdihgajkaaMBase
import Derived.RegionTactic
import Derived.Deep.QuietTactic
import Derived.BigQuiet
import Derived.Deep.LoopGhost
namespace Go.Proofs.Ytgdmmhdihgajkaa
set_option linter.unusedVariables false
open Go.RowKit
structure Tbf where
  num : Int
  lvl : Int
  siz : Int
  lo : ByteArray
  hi : ByteArray
def Tbf.none : Tbf := ⟨0, 0, 0, ⟨#[]⟩, ⟨#[]⟩⟩
def encTbf (f : Tbf) : List Value := [.int .i64 f.num, .int .i64 f.lvl, .int .i64 f.siz, .string f.lo, .string f.hi]
def Tbf.v (f : Tbf) : Value := .agg #[.int .i64 f.num, .int .i64 f.lvl, .int .i64 f.siz, .string f.lo, .string f.hi]
theorem encTbf_len : EncK encTbf 5 := fun _ => rfl
theorem encTbf_one (l : List Tbf) : ∀ u ∈ l.flatMap encTbf, u.oneCell' = true := by
  intro u hu
  obtain ⟨e, -, h⟩ := List.mem_flatMap.1 hu
  simp only [encTbf, List.mem_cons, List.not_mem_nil, or_false] at h
  rcases h with rfl | rfl | rfl | rfl | rfl <;> rfl
theorem tbf_cells (f : Tbf) : ∀ u ∈ encTbf f, u.oneCell' = true := fun u hu => encTbf_one [f] u (by simpa using hu)
def Tbf.ok (f : Tbf) : Prop := f.lo.size ≤ maxLen ∧ f.hi.size ≤ maxLen
structure Edt where
  nxt : Int
  lg : Int
  lst : Int
  adds : List Tbf
  dels : List Int
def Edt.none : Edt := ⟨0, 0, 0, [], []⟩
def badTab (n : Int) : Prop := n < 1 ∨ 1125899906842624 < n
instance (n : Int) : Decidable (badTab n) := inferInstanceAs (Decidable (_ ∨ _))
def badTb (f : Tbf) : Prop := badTab f.num ∨ f.lvl < 0 ∨ 5 ≤ f.lvl ∨ f.siz < 0 ∨ 16777216 < f.siz ∨ 13000 < f.lo.size ∨ 13000 < f.hi.size ∨ bl f.hi f.lo
instance (f : Tbf) : Decidable (badTb f) := inferInstanceAs (Decidable (_ ∨ _ ∨ _ ∨ _ ∨ _ ∨ _ ∨ _ ∨ _))
def okEdN (n : Int) : Prop := 0 ≤ n ∧ n ≤ 1125899906842624
instance (n : Int) : Decidable (okEdN n) := inferInstanceAs (Decidable (_ ∧ _))
/-- An edit that may be. -/
def mayE (e : Edt) : Prop := (okEdN e.nxt ∧ okEdN e.lg ∧ okEdN e.lst) ∧ (e.adds.length ≤ 200 ∧ e.dels.length ≤ 200) ∧ (∀ f ∈ e.adds, ¬ badTb f) ∧ ∀ n ∈ e.dels, ¬ badTab n
instance (e : Edt) : Decidable (mayE e) := inferInstanceAs (Decidable (_ ∧ _ ∧ _ ∧ _))
theorem notBadTb {f : Tbf} (h : ¬ badTb f) : (1 ≤ f.num ∧ f.num ≤ 1125899906842624) ∧ (0 ≤ f.lvl ∧ f.lvl < 5) ∧ (0 ≤ f.siz ∧ f.siz ≤ 16777216) ∧ f.lo.size ≤ 13000 ∧ f.hi.size ≤ 13000 ∧ ¬ bl f.hi f.lo := by
  simp only [badTb, badTab, not_or] at h
  obtain ⟨⟨h1, h2⟩, h3, h4, h5, h6, h7, h8, h9⟩ := h
  exact ⟨⟨by omega, by omega⟩, ⟨by omega, by omega⟩, ⟨by omega, by omega⟩, by omega, by omega, h9⟩
def edNumB (n : Int) : List UInt8 := putN n.toNat
def tbfB (f : Tbf) : List UInt8 := edNumB f.num ++ (edNumB f.lvl ++ (edNumB f.siz ++ (textE f.lo.data.toList ++ textE f.hi.data.toList)))
def edHeadB (e : Edt) : List UInt8 := edNumB e.nxt ++ (edNumB e.lg ++ (edNumB e.lst ++ putN e.adds.length))
/-- An edit's bytes. -/
def edtB (e : Edt) : List UInt8 := edHeadB e ++ (e.adds.flatMap tbfB ++ (putN e.dels.length ++ e.dels.flatMap edNumB))
theorem edNumB_len (n : Int) : (edNumB n).length ≤ 10 := (putN_len _).2
theorem tbfB_len {f : Tbf} (h : ¬ badTb f) : (tbfB f).length ≤ 26100 := by
  obtain ⟨-, -, -, h1, h2, -⟩ := notBadTb h
  have a1 := edNumB_len f.num
  have a2 := edNumB_len f.lvl
  have a3 := edNumB_len f.siz
  have a4 := (putN_len f.lo.data.toList.length).2
  have a5 := (putN_len f.hi.data.toList.length).2
  have a6 := size_toList f.lo
  have a7 := size_toList f.hi
  unfold tbfB textE
  simp only [List.length_append]
  omega
/-- What a reader takes as a number; none: it is broken. -/
def edNm : Option (List UInt8) → Int × Option (List UInt8)
  | .none => (0, .none)
  | .some b => match getN b with
    | .none => (0, .none)
    | .some (n, k) => (wrap64 (n : Int), .some (b.drop k))
/-- As a text. -/
def edTx : Option (List UInt8) → ByteArray × Option (List UInt8)
  | .none => (⟨#[]⟩, .none)
  | .some b => match getT b with
    | .none => (⟨#[]⟩, .none)
    | .some (s, k) => (⟨s.toArray⟩, .some (b.drop k))
/-- As a list's length. -/
def edCnt (s : Option (List UInt8)) : Nat × Option (List UInt8) := if (edNm s).1 < 0 ∨ 200 < (edNm s).1 then (0, .none) else ((edNm s).1.toNat, (edNm s).2)
def edFl (s : Option (List UInt8)) : Tbf × Option (List UInt8) :=
  let a := edNm s
  let b := edNm a.2
  let c := edNm b.2
  let d := edTx c.2
  let e := edTx d.2
  (⟨a.1, b.1, c.1, d.1, e.1⟩, e.2)
def edMany {α : Type} (rd : Option (List UInt8) → α × Option (List UInt8)) : Nat → Option (List UInt8) → List α × Option (List UInt8)
  | 0, s => ([], s)
  | n + 1, s => ((rd s).1 :: (edMany rd n (rd s).2).1, (edMany rd n (rd s).2).2)
def edList {α : Type} (rd : Option (List UInt8) → α × Option (List UInt8)) (s : Option (List UInt8)) : List α × Option (List UInt8) := edMany rd (edCnt s).1 (edCnt s).2
def edAll (b : List UInt8) : Edt × Option (List UInt8) :=
  let a1 := edNm (.some b)
  let a2 := edNm a1.2
  let a3 := edNm a2.2
  let a4 := edList edFl a3.2
  let a5 := edList edNm a4.2
  (⟨a1.1, a2.1, a3.1, a4.1, a5.1⟩, a5.2)
/-- The edit whose bytes these are. -/
def decE (b : List UInt8) : Option Edt := if (edAll b).2 = .some [] ∧ mayE (edAll b).1 then .some (edAll b).1 else .none
theorem wrap64_pos {n : Nat} (hn : n < 2 ^ 64) (h : 0 ≤ wrap64 (n : Int)) : wrap64 (n : Int) = n ∧ n < 2 ^ 63 := by unfold wrap64 at *; omega
theorem wrap64_of {n : Nat} (hn : n < 2 ^ 63) : wrap64 (n : Int) = n := by unfold wrap64; omega
theorem edNm_is {s : Option (List UInt8)} {n : Int} {r : List UInt8} (h : edNm s = (n, some r)) (h0 : 0 ≤ n) : s = some (edNumB n ++ r) := by
  cases s with
  | none => simp [edNm] at h
  | some b =>
    unfold edNm at h
    simp only at h
    cases hg : getN b with
    | none => rw [hg] at h; simp at h
    | some p =>
      obtain ⟨m, k⟩ := p
      rw [hg] at h
      simp only [Prod.mk.injEq, Option.some.injEq] at h
      obtain ⟨rfl, rfl⟩ := h
      obtain ⟨h1, h2, h3, h4⟩ := getN_le hg
      obtain ⟨h5, h6⟩ := wrap64_pos h4 h0
      unfold edNumB
      rw [h5, Int.toNat_natCast, ← put_get hg, List.take_append_drop]
theorem edNm_put {n : Int} (h0 : 0 ≤ n) (h1 : n ≤ 1125899906842624) (r : List UInt8) : edNm (some (edNumB n ++ r)) = (n, some r) := by
  obtain ⟨m, rfl⟩ := Int.eq_ofNat_of_zero_le h0
  unfold edNumB edNm
  rw [Int.toNat_natCast]
  simp only
  rw [get_put (by omega)]
  simp only
  rw [wrap64_of (by omega), List.drop_left' rfl]
theorem edCnt_put {n : Nat} (h : n ≤ 200) (r : List UInt8) : edCnt (some (putN n ++ r)) = (n, some r) := by
  have := edNm_put (n := (n : Int)) (by omega) (by omega) r
  unfold edNumB at this
  rw [Int.toNat_natCast] at this
  unfold edCnt
  rw [this]
  simp only
  rw [if_neg (by omega), Int.toNat_natCast]
theorem edCnt_is {s : Option (List UInt8)} {n : Nat} {r : List UInt8} (h : edCnt s = (n, some r)) : s = some (putN n ++ r) ∧ n ≤ 200 := by
  unfold edCnt at h
  split at h
  · simp at h
  · rename_i hn
    simp only [Prod.mk.injEq] at h
    obtain ⟨h1, h2⟩ := h
    have := edNm_is (s := s) (n := (edNm s).1) (r := r) (by rw [← h2]) (by omega)
    unfold edNumB at this
    rw [h1] at this
    exact ⟨this, by omega⟩
theorem edCnt_le (s : Option (List UInt8)) : (edCnt s).1 ≤ 200 := by
  unfold edCnt
  split
  · exact Nat.zero_le _
  · show (edNm s).1.toNat ≤ 200
    omega
theorem text_get {l s : List UInt8} {k : Nat} (h : getT l = some (s, k)) : l = textE s ++ l.drop k ∧ k ≤ l.length ∧ s.length ≤ l.length := by
  unfold getT at h
  cases hg : getN l with
  | none => rw [hg] at h; cases h
  | some p =>
    obtain ⟨n, m⟩ := p
    rw [hg] at h
    obtain ⟨h1, h2, -⟩ := getN_le hg
    simp only at h
    split at h
    · rename_i hle
      simp only [Option.some.injEq, Prod.mk.injEq] at h
      obtain ⟨rfl, rfl⟩ := h
      refine ⟨?_, by omega, by rw [List.length_take, List.length_drop]; omega⟩
      have hn : ((l.drop m).take n).length = n := by rw [List.length_take, List.length_drop]; omega
      unfold textE
      rw [hn, ← put_get hg, ← List.drop_drop, List.append_assoc, List.take_append_drop, List.take_append_drop]
    · cases h
theorem edTx_is {s : Option (List UInt8)} {t : ByteArray} {r : List UInt8} (h : edTx s = (t, some r)) : s = some (textE t.data.toList ++ r) := by
  cases s with
  | none => simp [edTx] at h
  | some b =>
    unfold edTx at h
    simp only at h
    cases hg : getT b with
    | none => rw [hg] at h; simp at h
    | some p =>
      obtain ⟨m, k⟩ := p
      rw [hg] at h
      simp only [Prod.mk.injEq, Option.some.injEq] at h
      obtain ⟨rfl, rfl⟩ := h
      have := (text_get hg).1
      simp only []
      rw [← this]
theorem edTx_put (t : ByteArray) (h : t.size ≤ 13000) (r : List UInt8) : edTx (some (textE t.data.toList ++ r)) = (t, some r) := by
  have := size_toList t
  unfold edTx
  simp only
  rw [getT_text _ _ (by omega)]
  simp
theorem edFl_is {s : Option (List UInt8)} {f : Tbf} {r : List UInt8} (h : edFl s = (f, some r)) (hb : ¬ badTb f) : s = some (tbfB f ++ r) := by
  obtain ⟨⟨b1, -⟩, ⟨b3, -⟩, ⟨b5, -⟩, -⟩ := notBadTb hb
  unfold edFl at h
  simp only at h
  generalize ha : edNm s = a at h
  obtain ⟨a1, a2⟩ := a
  simp only at h
  generalize hb' : edNm a2 = b at h
  obtain ⟨c1, c2⟩ := b
  simp only at h
  generalize hc : edNm c2 = c at h
  obtain ⟨d1, d2⟩ := c
  simp only at h
  generalize hd : edTx d2 = d at h
  obtain ⟨e1, e2⟩ := d
  simp only at h
  generalize he : edTx e2 = e at h
  obtain ⟨g1, g2⟩ := e
  simp only [Prod.mk.injEq] at h
  obtain ⟨rfl, rfl⟩ := h
  simp only at b1 b3 b5
  obtain rfl := edTx_is he
  obtain rfl := edTx_is hd
  obtain rfl := edNm_is hc b5
  obtain rfl := edNm_is hb' b3
  rw [edNm_is ha (by omega)]
  unfold tbfB
  simp only [List.append_assoc]
theorem edFl_put {f : Tbf} (hb : ¬ badTb f) (r : List UInt8) : edFl (some (tbfB f ++ r)) = (f, some r) := by
  obtain ⟨⟨b1, b2⟩, ⟨b3, b4⟩, ⟨b5, b6⟩, b7, b8, -⟩ := notBadTb hb
  unfold edFl tbfB
  simp only [List.append_assoc]
  rw [edNm_put (by omega) b2]
  simp only
  rw [edNm_put b3 (by omega)]
  simp only
  rw [edNm_put b5 (by omega)]
  simp only
  rw [edTx_put _ b7]
  simp only
  rw [edTx_put _ b8]
theorem edMany_is {α : Type} {rd : Option (List UInt8) → α × Option (List UInt8)} {B : α → List UInt8} {ok : α → Prop} (hrd : ∀ s x r, rd s = (x, some r) → ok x → s = some (B x ++ r)) :
    ∀ {n : Nat} {s : Option (List UInt8)} {l : List α} {r : List UInt8}, edMany rd n s = (l, some r) → (∀ x ∈ l, ok x) → s = some (l.flatMap B ++ r) ∧ l.length = n
  | 0, s, l, r, h, _ => by
    simp only [edMany, Prod.mk.injEq] at h
    obtain ⟨rfl, rfl⟩ := h
    exact ⟨rfl, rfl⟩
  | n + 1, s, l, r, h, ho => by
    simp only [edMany, Prod.mk.injEq] at h
    obtain ⟨rfl, h2⟩ := h
    obtain ⟨h3, h4⟩ := edMany_is hrd (n := n) (s := (rd s).2) (l := (edMany rd n (rd s).2).1) (r := r) (by rw [← h2]) fun x hx => ho x (List.mem_cons_of_mem _ hx)
    refine ⟨?_, by rw [List.length_cons, h4]⟩
    exact (hrd s (rd s).1 _ (by rw [← h3]) (ho _ (List.mem_cons_self ..))).trans (by rw [List.flatMap_cons, List.append_assoc])
theorem edMany_put {α : Type} {rd : Option (List UInt8) → α × Option (List UInt8)} {B : α → List UInt8} {ok : α → Prop} (hrd : ∀ x r, ok x → rd (some (B x ++ r)) = (x, some r)) :
    ∀ (l : List α) (r : List UInt8), (∀ x ∈ l, ok x) → edMany rd l.length (some (l.flatMap B ++ r)) = (l, some r)
  | [], r, _ => rfl
  | x :: l, r, ho => by
    rw [List.length_cons, edMany, List.flatMap_cons, List.append_assoc, hrd x _ (ho _ (List.mem_cons_self ..))]
    simp only
    rw [edMany_put hrd l r fun y hy => ho y (List.mem_cons_of_mem _ hy)]
theorem edList_is {α : Type} {rd : Option (List UInt8) → α × Option (List UInt8)} {B : α → List UInt8} {ok : α → Prop} (hrd : ∀ s x r, rd s = (x, some r) → ok x → s = some (B x ++ r)) {s : Option (List UInt8)} {l : List α} {r : List UInt8} (h : edList rd s = (l, some r)) (ho : ∀ x ∈ l, ok x) :
    s = some (putN l.length ++ (l.flatMap B ++ r)) := by
  unfold edList at h
  obtain ⟨h1, h2⟩ := edMany_is hrd h ho
  rw [(edCnt_is (s := s) (n := (edCnt s).1) (by rw [← h1])).1, h2]
theorem edList_put {α : Type} {rd : Option (List UInt8) → α × Option (List UInt8)} {B : α → List UInt8} {ok : α → Prop} (hrd : ∀ x r, ok x → rd (some (B x ++ r)) = (x, some r)) (l : List α) (hl : l.length ≤ 200) (r : List UInt8) (ho : ∀ x ∈ l, ok x) :
    edList rd (some (putN l.length ++ (l.flatMap B ++ r))) = (l, some r) := by
  unfold edList
  rw [edCnt_put hl]
  exact edMany_put hrd l r ho
theorem decE_enc {e : Edt} (h : mayE e) : decE (edtB e) = some e := by
  obtain ⟨⟨⟨a1, a2⟩, ⟨b1, b2⟩, ⟨c1, c2⟩⟩, ⟨d1, d2⟩, hf, hn⟩ := id h
  have hr : edAll (edtB e) = (e, some []) := by
    unfold edAll edtB edHeadB
    simp only [List.append_assoc]
    rw [edNm_put a1 a2]
    simp only
    rw [edNm_put b1 b2]
    simp only
    rw [edNm_put c1 c2]
    simp only
    rw [edList_put (B := tbfB) (ok := fun f => ¬ badTb f) (fun x r hx => edFl_put hx r) e.adds d1 _ hf]
    simp only
    have := edList_put (rd := edNm) (B := edNumB) (ok := fun n => ¬ badTab n) (fun x r hx => edNm_put (by unfold badTab at hx; omega) (by unfold badTab at hx; omega) r) e.dels d2 [] hn
    rw [List.append_nil] at this
    rw [this]
  unfold decE
  rw [hr]
  exact if_pos ⟨rfl, h⟩
theorem decE_is {b : List UInt8} {e : Edt} (h : decE b = some e) : mayE e ∧ edtB e = b := by
  unfold decE at h
  split at h
  · rename_i hh
    obtain ⟨h1, h2⟩ := hh
    have h := Option.some.inj h
    rw [h] at h2
    refine ⟨h2, ?_⟩
    obtain ⟨⟨⟨a1, a2⟩, ⟨b1, b2⟩, ⟨c1, c2⟩⟩, ⟨d1, d2⟩, hf, hn⟩ := h2
    unfold edAll at h h1
    simp only at h h1
    generalize ha : edNm (some b) = a at h h1
    obtain ⟨x1, s1⟩ := a
    simp only at h h1
    generalize hb : edNm s1 = a at h h1
    obtain ⟨x2, s2⟩ := a
    simp only at h h1
    generalize hc : edNm s2 = a at h h1
    obtain ⟨x3, s3⟩ := a
    simp only at h h1
    generalize hd : edList edFl s3 = a at h h1
    obtain ⟨x4, s4⟩ := a
    simp only at h h1
    generalize he : edList edNm s4 = a at h h1
    obtain ⟨x5, s5⟩ := a
    simp only at h h1
    subst h h1
    simp only at a1 b1 c1 hf hn
    obtain rfl := edList_is (B := edNumB) (ok := fun n => ¬ badTab n) (fun s x r hx ho => edNm_is hx (by unfold badTab at ho; omega)) he hn
    obtain rfl := edList_is (B := tbfB) (ok := fun f => ¬ badTb f) (fun s x r hx ho => edFl_is hx ho) hd hf
    obtain rfl := edNm_is hc c1
    obtain rfl := edNm_is hb b1
    have := Option.some.inj (edNm_is ha a1)
    rw [this]
    unfold edtB edHeadB
    simp only [List.append_assoc, List.append_nil]
  · cases h
theorem edtB_inj {a b : Edt} (ha : mayE a) (hb : mayE b) (h : edtB a = edtB b) : a = b := by
  have h1 := decE_enc ha
  rw [h, decE_enc hb] at h1
  exact (Option.some.inj h1).symm
/-- Read on behind what was read. -/
theorem edMany_succ {α : Type} (rd : Option (List UInt8) → α × Option (List UInt8)) (n : Nat) (s : Option (List UInt8)) (xs : List α) :
    (xs ++ (edMany rd (n + 1) s).1, (edMany rd (n + 1) s).2) = ((xs ++ [(rd s).1]) ++ (edMany rd n (rd s).2).1, (edMany rd n (rd s).2).2) := by
  simp [edMany]
end Go.Proofs.Ytgdmmhdihgajkaa
/- The walks of isNumber, isNoTable, isNoFile. -/
namespace Go.Proofs.Ytgdmmhdihgajkaa
set_option linter.unusedVariables false
set_option maxRecDepth 100000
open Go.RowKit
theorem edIsnum_any (n : Int) (w : World) : Calls Try.prog 44 #[.int .i64 n] w fun e w' => e = .returned (.bool (decide (okEdN n))) ∧ w' = w := by
  obtain ⟨V, hV⟩ : ∃ V, decide (okEdN n) = V := ⟨_, rfl⟩
  rw [hV]
  by_cases h1 : 0 ≤ n
  · by_cases h2 : n ≤ 1125899906842624
    · obtain rfl : V = true := by rw [← hV]; exact decide_eq_true ⟨h1, h2⟩
      clear hV
      go_enter Try.func44, Try.ntmps44
      go_wp2
      go_ret
      exact ⟨rfl, rfl⟩
    · obtain rfl : V = false := by rw [← hV]; exact decide_eq_false (by unfold okEdN; omega)
      clear hV
      go_enter Try.func44, Try.ntmps44
      go_wp2
      go_ret
      exact ⟨rfl, rfl⟩
  · obtain rfl : V = false := by rw [← hV]; exact decide_eq_false (by unfold okEdN; omega)
    clear hV
    go_enter Try.func44, Try.ntmps44
    go_wp2
    go_ret
    exact ⟨rfl, rfl⟩
theorem edNotab_any (n : Int) (w : World) : Calls Try.prog 48 #[.int .i64 n] w fun e w' => e = .returned (.bool (decide (badTab n))) ∧ w' = w := by
  obtain ⟨V, hV⟩ : ∃ V, decide (badTab n) = V := ⟨_, rfl⟩
  rw [hV]
  by_cases h1 : n < 1
  · obtain rfl : V = true := by rw [← hV]; exact decide_eq_true (.inl h1)
    clear hV
    go_enter Try.func48, Try.ntmps48
    go_wp2
    go_ret
    exact ⟨rfl, rfl⟩
  · by_cases h2 : 1125899906842624 < n
    · obtain rfl : V = true := by rw [← hV]; exact decide_eq_true (.inr h2)
      clear hV
      go_enter Try.func48, Try.ntmps48
      go_wp2
      go_ret
      exact ⟨rfl, rfl⟩
    · obtain rfl : V = false := by rw [← hV]; exact decide_eq_false (by unfold badTab; omega)
      clear hV
      go_enter Try.func48, Try.ntmps48
      go_wp2
      go_ret
      exact ⟨rfl, rfl⟩
theorem bl_gtr (lo hi : ByteArray) : (!Op.bytesLess lo.toList hi.toList && !lo.toList == hi.toList) = decide (bl hi lo) := by
  rcases bl_tri lo hi with h | rfl | h
  · rw [bs_less _ _ h, decide_eq_false fun k => bl_irr _ (bl_trans h k)]; rfl
  · rw [bs_not _ _ (bl_irr _), bs_refl, decide_eq_false (bl_irr _)]; rfl
  · have hn : ¬ bl lo hi := fun k => bl_irr _ (bl_trans h k)
    have hne : lo ≠ hi := by rintro rfl; exact bl_irr _ h
    rw [bs_not _ _ hn, bs_ne hne, decide_eq_true h]; rfl
theorem badTb_bool {n l s : Int} {lo hi : ByteArray} (h : ¬ badTab n) :
    (decide (l < 0) || decide (5 ≤ l) || decide (s < 0) || decide (16777216 < s) || decide ((13000 : Int) < (lo.size : Int)) || decide ((13000 : Int) < (hi.size : Int)) || (!Op.bytesLess lo.toList hi.toList && !lo.toList == hi.toList)) = decide (badTb ⟨n, l, s, lo, hi⟩) := by
  have e1 : decide ((13000 : Int) < (lo.size : Int)) = decide (13000 < lo.size) := by rw [decide_eq_decide]; omega
  have e2 : decide ((13000 : Int) < (hi.size : Int)) = decide (13000 < hi.size) := by rw [decide_eq_decide]; omega
  rw [bl_gtr, e1, e2]
  unfold badTb
  simp [h, Bool.or_assoc]
set_option maxHeartbeats 4000000 in
theorem edNofil_raw (n l s : Int) (lo hi : ByteArray) (h1 : lo.size ≤ maxLen) (h2 : hi.size ≤ maxLen) (w : World) : Calls Try.prog 46 #[.agg #[.int .i64 n, .int .i64 l, .int .i64 s, .string lo, .string hi]] w fun e w' => e = .returned (.bool (decide (badTb ⟨n, l, s, lo, hi⟩))) ∧ Below w.heap.size w w' := by
  have HT : Hid (∀ w, Calls Try.prog 48 #[.int .i64 n] w fun e w' => e = .returned (.bool (decide (badTab n))) ∧ w' = w) := Lib.hid (edNotab_any n)
  unfold maxLen at h1 h2
  by_cases hb : badTab n
  · obtain ⟨V, hV⟩ : ∃ V, decide (badTb ⟨n, l, s, lo, hi⟩) = V := ⟨_, rfl⟩
    rw [hV]
    obtain rfl : V = true := by rw [← hV]; exact decide_eq_true (.inl hb)
    rw [decide_eq_true hb] at HT
    clear hV hb
    go_enter Try.func46, Try.ntmps46
    go_wp2_with fail
    refine (HT.out _).mono ?_
    rintro e w1 ⟨rfl, rfl⟩
    clear HT
    go_wp2_with fail
    go_ret
    exact ⟨rfl, (Below.refl _ _).alloc (Nat.le_refl _) _⟩
  · rw [decide_eq_false hb] at HT
    obtain ⟨V, hV⟩ : ∃ V, decide (badTb ⟨n, l, s, lo, hi⟩) = V := ⟨_, rfl⟩
    rw [hV]
    have HV := Lib.hid ((badTb_bool hb).trans hV)
    clear hV hb
    go_enter Try.func46, Try.ntmps46
    go_wp2_with fail
    refine (HT.out _).mono ?_
    rintro e w1 ⟨rfl, rfl⟩
    clear HT
    have HF : ∀ b : Bool, (decide (l < 0) || decide (5 ≤ l) || decide (s < 0) || decide (16777216 < s) || decide ((13000 : Int) < (lo.size : Int)) || decide ((13000 : Int) < (hi.size : Int)) || (!Op.bytesLess lo.toList hi.toList && !lo.toList == hi.toList)) = b → b = V := fun b hb => hb.symm.trans HV.out
    have HF2 := Lib.hid HF
    clear HF HV
    go_wp2
    all_goals
      go_ret
      refine ⟨?_, (Below.refl _ _).alloc (Nat.le_refl _) _⟩
      first
        | exact congrArg (fun b => Ending.returned (Value.bool b)) (HF2.out _ rfl)
        | exact congrArg (fun b => Ending.returned (Value.bool b)) (HF2.out true (by simp only [*, decide_true, Bool.or_true, Bool.true_or]))
theorem edNofil_any (f : Tbf) (hf : f.ok) (w : World) : Calls Try.prog 46 #[f.v] w fun e w' => e = .returned (.bool (decide (badTb f))) ∧ Below w.heap.size w w' := edNofil_raw f.num f.lvl f.siz f.lo f.hi hf.1 hf.2 w
end Go.Proofs.Ytgdmmhdihgajkaa
/- The walks of the library's IndexFunc and ContainsFunc at tables and at numbers. -/
namespace Go.Proofs.Ytgdmmhdihgajkaa
set_option linter.unusedVariables false
set_option maxRecDepth 100000
open Go.RowKit
theorem elem_tbf : ElemK Try.prog 30 49 5 56 (.agg #[.int .i64 0, .int .i64 0, .int .i64 0, .string ⟨#[]⟩, .string ⟨#[]⟩]) := ⟨Try.underlying30, by kernel_rfl, rfl, by decide⟩
theorem elem_i64 : ElemOk Try.prog 42 2 8 (.int .i64 0) := ⟨Try.underlying42, by kernel_rfl, rfl⟩
/-- The five cells of a table. -/
structure AtTbf (w : World) (b o : Nat) (f : Tbf) : Prop where
  c0 : w.cell? ⟨b, o, none⟩ = some (.int .i64 f.num)
  c1 : w.cell? ⟨b, o + 1, none⟩ = some (.int .i64 f.lvl)
  c2 : w.cell? ⟨b, o + 2, none⟩ = some (.int .i64 f.siz)
  c3 : w.cell? ⟨b, o + 3, none⟩ = some (.string f.lo)
  c4 : w.cell? ⟨b, o + 4, none⟩ = some (.string f.hi)
theorem edFl_len {w : World} {v : Value} {xs : List Tbf} (h : RdK encTbf 5 w v xs) : ∃ a cap, v = .slice a xs.length cap ∧ (0 < xs.length → cap ≤ maxLen ∧ xs.length ≤ cap) := by
  rcases h with ⟨a, cap, h1, rfl⟩ | ⟨b, off, cap, h1, h2, h3, h4, -⟩
  · exact ⟨a, cap, h1, fun h => by simp at h⟩
  · exact ⟨_, cap, h1, fun _ => ⟨h4, h3⟩⟩
theorem RdK.atTbf {w : World} {a : Option Addr} {len cap : Nat} {xs : List Tbf} (h : RdK encTbf 5 w (.slice a len cap) xs) (q : Nat) (x : Tbf) (hx : xs[q]? = some x) :
    ∃ b off, a = some ⟨b, off, none⟩ ∧ b < w.heap.size ∧ AtTbf w b (off + q * 5) x := by
  rcases h with ⟨_, _, _, rfl⟩ | ⟨b, off, c, e, h1, h2, h3, h4, h5⟩
  · simp at hx
  · simp only [Value.slice.injEq] at e
    exact ⟨b, off, e.1, h4, h5 q 0 x hx (by decide), h5 q 1 x hx (by decide), h5 q 2 x hx (by decide), h5 q 3 x hx (by decide), h5 q 4 x hx (by decide)⟩
/-- What a search tells: a place, or -1. -/
def FoundAt (n : Nat) (some : Prop) (i : Int) : Prop := -1 ≤ i ∧ i < n ∧ (0 ≤ i ↔ some)
set_option maxHeartbeats 4000000 in
theorem idxF_any (v : Value) (xs : List Tbf) (hok : ∀ f ∈ xs, f.ok) (hl : xs.length ≤ 1000000000000) (w : World) (h : RdK encTbf 5 w v xs) :
    Calls Try.prog 55 #[v, .func (.func 46) #[] #[]] w fun e w' => ∃ i : Int, e = .returned (.int .i64 i) ∧ FoundAt xs.length (∃ f ∈ xs, badTb f) i ∧ Below w.heap.size w w' := by
  obtain ⟨a, cap, rfl, -⟩ := edFl_len h
  have HRD := Lib.hid h
  have HOK := Lib.hid hok
  obtain ⟨N, hN⟩ : ∃ N, xs.length = N := ⟨_, rfl⟩
  have HN := Lib.hid hN
  rw [hN] at HRD hl ⊢
  have HP : Hid (∀ (f : Tbf), f.ok → ∀ w, Calls Try.prog 46 #[f.v] w fun e w' => e = .returned (.bool (decide (badTb f))) ∧ Below w.heap.size w w') := Lib.hid edNofil_any
  clear h hok hN
  go_enter Try.func55, Try.ntmps55
  go_wp2_with fail
  go_loopg [5, 8] N (fun kk _ vi wr => ∃ i : Nat, vi = .int .i64 (i : Int) ∧ i ≤ N ∧ N - i ≤ kk ∧ Hid (∀ j x, j < i → xs[j]? = some x → ¬ badTb x) ∧ Hid (Below w.heap.size w wr))
  case atStart => exact ⟨0, rfl, by omega, by omega, Lib.hid (fun j x hj => by omega), Lib.hid (Below.refl _ _)⟩
  case round =>
    obtain ⟨q, rfl, hq, hkk, HG, HB⟩ := hrel
    by_cases h1 : q < N
    · have hd1 : (q : Int) < (N : Int) := by omega
      have hd0 : (0 : Int) ≤ (q : Int) := by omega
      obtain ⟨x, hx⟩ : ∃ x, xs[q]? = some x := ⟨xs[q]'(by have := HN.out; omega), List.getElem?_eq_getElem _⟩
      obtain ⟨b, off, rfl, hblt, d0, d1, d2, d3, d4⟩ := (HRD.out.below HB.out).atTbf q x hx
      have HX := Lib.hid hx
      have HC := Lib.hid (HP.out x (HOK.out x (List.mem_of_getElem? hx)) wr)
      clear hx
      obtain ⟨V, hV⟩ : ∃ V, decide (badTb x) = V := ⟨_, rfl⟩
      rw [hV] at HC
      have HV := Lib.hid hV
      clear hV
      obtain ⟨x0, x1, x2, x3, x4⟩ := x
      unfold Tbf.v at HC
      simp only at d0 d1 d2 d3 d4 HC
      go_wp2_with fail
      refine HC.out.mono ?_
      rintro e w2 ⟨rfl, hb⟩
      have HB2 := Lib.hid (HB.out.trans (hb.mono HB.out.size))
      clear hb HC HB d0 d1 d2 d3 d4
      cases V with
      | true =>
        have HF : Hid (FoundAt N (∃ f ∈ xs, badTb f) (q : Int)) := Lib.hid ⟨by omega, by omega, fun _ => ⟨_, List.mem_of_getElem? HX.out, of_decide_eq_true HV.out⟩, fun _ => by omega⟩
        clear HV HX HG
        go_wp2_with fail
        go_ret
        exact ⟨_, rfl, HF.out, HB2.out⟩
      | false =>
        have HG2 : Hid (∀ j x, j < q + 1 → xs[j]? = some x → ¬ badTb x) := Lib.hid fun j y hj hy => by
          rcases Nat.lt_or_ge j q with h | h
          · exact HG.out j y h hy
          · obtain rfl : j = q := by omega
            rw [HX.out] at hy
            obtain rfl := Option.some.inj hy
            exact of_decide_eq_false HV.out
        clear HV HX HG
        go_wp2_with fail
        go_roundg (N - (q + 1))
        case measure => omega
        case rel => exact ⟨q + 1, by go_num, by omega, Nat.le_refl _, HG2, HB2⟩
    · have hd1 : ¬ (q : Int) < (N : Int) := by omega
      have HF : Hid (FoundAt N (∃ f ∈ xs, badTb f) (-1)) := Lib.hid ⟨by omega, by omega, fun h => by omega, fun ⟨f, hf, hb⟩ => by
        obtain ⟨j, hj, rfl⟩ := List.getElem_of_mem hf
        exact absurd hb (HG.out j _ (by have := HN.out; omega) (List.getElem?_eq_getElem hj))⟩
      clear HG
      go_wp2_with fail
      go_ret
      exact ⟨_, rfl, HF.out, HB.out⟩
theorem foundAt_yes {n : Nat} {p : Prop} {i : Int} (h : FoundAt n p i) [Decidable p] : decide (0 ≤ i) = decide p := by
  rw [decide_eq_decide]; exact h.2.2
set_option maxHeartbeats 4000000 in
theorem conF_any (v : Value) (xs : List Tbf) (hok : ∀ f ∈ xs, f.ok) (hl : xs.length ≤ 1000000000000) (w : World) (h : RdK encTbf 5 w v xs) :
    Calls Try.prog 45 #[v, .func (.func 46) #[] #[]] w fun e w' => e = .returned (.bool (decide (∃ f ∈ xs, badTb f))) ∧ Below w.heap.size w w' := by
  have HI := Lib.hid (idxF_any v xs hok hl w h)
  clear h hok
  go_enter Try.func45, Try.ntmps45
  go_wp2_with fail
  refine HI.out.mono ?_
  rintro e w2 ⟨i, rfl, hi, hb⟩
  have HF := Lib.hid (And.intro hi hb)
  clear hi hb HI
  go_wp2_with fail
  go_ret
  exact ⟨congrArg (fun b => Ending.returned (Value.bool b)) (foundAt_yes HF.out.1), HF.out.2⟩
def encI64 (n : Int) : Value := .int .i64 n
theorem edInts_len {w : World} {v : Value} {xs : List Int} (h : RdV w v (xs.map encI64)) : ∃ a cap, v = .slice a xs.length cap := by
  rcases h with ⟨a, cap, h1, e⟩ | ⟨b, off, cap, h1, -⟩
  · have : xs = [] := by simpa using e
    subst this; exact ⟨a, cap, h1⟩
  · rw [List.length_map] at h1; exact ⟨_, cap, h1⟩
theorem edInts_lenC {w : World} {v : Value} {xs : List Int} (h : RdV w v (xs.map encI64)) : ∃ a cap, v = .slice a xs.length cap ∧ (0 < xs.length → cap ≤ maxLen ∧ xs.length ≤ cap) := by
  rcases h with ⟨a, cap, h1, e⟩ | ⟨b, off, cap, h1, h2, h3, h4, -⟩
  · have : xs = [] := by simpa using e
    subst this; exact ⟨a, cap, h1, fun h => by simp at h⟩
  · rw [List.length_map] at h1 h3; exact ⟨_, cap, h1, fun _ => ⟨h4, h3⟩⟩
theorem edInts_at {w : World} {a : Option Addr} {len cap : Nat} {xs : List Int} (h : RdV w (.slice a len cap) (xs.map encI64)) (q : Nat) (x : Int) (hx : xs[q]? = some x) :
    ∃ b off, a = some ⟨b, off, none⟩ ∧ b < w.heap.size ∧ w.cell? ⟨b, off + q, none⟩ = some (.int .i64 x) := by
  have hq := (List.getElem?_eq_some_iff.1 hx).1
  obtain ⟨b, off, rfl, h1, h2⟩ := rdV_cells h (by rw [List.length_map]; omega)
  refine ⟨b, off, rfl, h1, ?_⟩
  rw [h2 q (by rw [List.length_map]; exact hq), List.getD_eq_getElem?_getD, List.getElem?_map, hx]; rfl
set_option maxHeartbeats 4000000 in
theorem idxI_any (v : Value) (xs : List Int) (hl : xs.length ≤ 1000000000000) (w : World) (h : RdV w v (xs.map encI64)) :
    Calls Try.prog 56 #[v, .func (.func 48) #[] #[]] w fun e w' => ∃ i : Int, e = .returned (.int .i64 i) ∧ FoundAt xs.length (∃ f ∈ xs, badTab f) i ∧ Below w.heap.size w w' := by
  obtain ⟨a, cap, rfl⟩ := edInts_len h
  have HRD := Lib.hid h
  obtain ⟨N, hN⟩ : ∃ N, xs.length = N := ⟨_, rfl⟩
  have HN := Lib.hid hN
  rw [hN] at HRD hl ⊢
  have HP : Hid (∀ (n : Int) w, Calls Try.prog 48 #[.int .i64 n] w fun e w' => e = .returned (.bool (decide (badTab n))) ∧ w' = w) := Lib.hid edNotab_any
  clear h hN
  go_enter Try.func56, Try.ntmps56
  go_wp2_with fail
  go_loopg [5, 8] N (fun kk _ vi wr => ∃ i : Nat, vi = .int .i64 (i : Int) ∧ i ≤ N ∧ N - i ≤ kk ∧ Hid (∀ j x, j < i → xs[j]? = some x → ¬ badTab x) ∧ Hid (Below w.heap.size w wr))
  case atStart => exact ⟨0, rfl, by omega, by omega, Lib.hid (fun j x hj => by omega), Lib.hid (Below.refl _ _)⟩
  case round =>
    obtain ⟨q, rfl, hq, hkk, HG, HB⟩ := hrel
    by_cases h1 : q < N
    · have hd1 : (q : Int) < (N : Int) := by omega
      have hd0 : (0 : Int) ≤ (q : Int) := by omega
      obtain ⟨x, hx⟩ : ∃ x, xs[q]? = some x := ⟨xs[q]'(by have := HN.out; omega), List.getElem?_eq_getElem _⟩
      obtain ⟨b, off, rfl, hblt, d0⟩ := edInts_at (RdV.below HRD.out HB.out) q x hx
      have HX := Lib.hid hx
      have HC := Lib.hid (HP.out x)
      clear hx
      obtain ⟨V, hV⟩ : ∃ V, decide (badTab x) = V := ⟨_, rfl⟩
      rw [hV] at HC
      have HV := Lib.hid hV
      clear hV
      go_wp2_with fail
      refine (HC.out _).mono ?_
      rintro e w2 ⟨rfl, rfl⟩
      clear HC d0
      cases V with
      | true =>
        have HF : Hid (FoundAt N (∃ f ∈ xs, badTab f) (q : Int)) := Lib.hid ⟨by omega, by omega, fun _ => ⟨_, List.mem_of_getElem? HX.out, of_decide_eq_true HV.out⟩, fun _ => by omega⟩
        clear HV HX HG
        go_wp2_with fail
        go_ret
        exact ⟨_, rfl, HF.out, HB.out⟩
      | false =>
        have HG2 : Hid (∀ j x, j < q + 1 → xs[j]? = some x → ¬ badTab x) := Lib.hid fun j y hj hy => by
          rcases Nat.lt_or_ge j q with h | h
          · exact HG.out j y h hy
          · obtain rfl : j = q := by omega
            rw [HX.out] at hy
            obtain rfl := Option.some.inj hy
            exact of_decide_eq_false HV.out
        clear HV HX HG
        go_wp2_with fail
        go_roundg (N - (q + 1))
        case measure => omega
        case rel => exact ⟨q + 1, by go_num, by omega, Nat.le_refl _, HG2, HB⟩
    · have hd1 : ¬ (q : Int) < (N : Int) := by omega
      have HF : Hid (FoundAt N (∃ f ∈ xs, badTab f) (-1)) := Lib.hid ⟨by omega, by omega, fun h => by omega, fun ⟨f, hf, hb⟩ => by
        obtain ⟨j, hj, rfl⟩ := List.getElem_of_mem hf
        exact absurd hb (HG.out j _ (by have := HN.out; omega) (List.getElem?_eq_getElem hj))⟩
      clear HG
      go_wp2_with fail
      go_ret
      exact ⟨_, rfl, HF.out, HB.out⟩
set_option maxHeartbeats 4000000 in
theorem conI_any (v : Value) (xs : List Int) (hl : xs.length ≤ 1000000000000) (w : World) (h : RdV w v (xs.map encI64)) :
    Calls Try.prog 47 #[v, .func (.func 48) #[] #[]] w fun e w' => e = .returned (.bool (decide (∃ f ∈ xs, badTab f))) ∧ Below w.heap.size w w' := by
  have HI := Lib.hid (idxI_any v xs hl w h)
  clear h
  go_enter Try.func47, Try.ntmps47
  go_wp2_with fail
  refine HI.out.mono ?_
  rintro e w2 ⟨i, rfl, hi, hb⟩
  have HF := Lib.hid (And.intro hi hb)
  clear hi hb HI
  go_wp2_with fail
  go_ret
  exact ⟨congrArg (fun b => Ending.returned (Value.bool b)) (foundAt_yes HF.out.1), HF.out.2⟩
end Go.Proofs.Ytgdmmhdihgajkaa
/- The walk of Check. -/
namespace Go.Proofs.Ytgdmmhdihgajkaa
set_option linter.unusedVariables false
set_option maxRecDepth 100000
open Go.RowKit
/-- v is an edit that reads as e. -/
def EdAt (w : World) (v : Value) (e : Edt) : Prop := ∃ va vd, v = .agg #[.int .i64 e.nxt, .int .i64 e.lg, .int .i64 e.lst, va, vd] ∧ RdK encTbf 5 w va e.adds ∧ RdV w vd (e.dels.map encI64)
theorem EdAt.below {w w' : World} {v : Value} {e : Edt} (h : EdAt w v e) (hb : Below w.heap.size w w') : EdAt w' v e := by
  obtain ⟨va, vd, rfl, h1, h2⟩ := h
  exact ⟨va, vd, rfl, h1.below hb, RdV.below h2 hb⟩
def Edt.ok (e : Edt) : Prop := (∀ f ∈ e.adds, f.ok) ∧ e.adds.length ≤ 1000000000000 ∧ e.dels.length ≤ 1000000000000
def chkE (e : Edt) : Int := if mayE e then 0 else 12
def ChkRes (w : World) (c : Int) (e : Ending) (w' : World) : Prop := e = .returned (.int .i64 c) ∧ Below w.heap.size w w'
theorem BlkAt5.c4 (w : World) (v0 v1 v2 v3 v4 : Value) (t : TypeId) : (w.alloc (.cells #[v0, v1, v2, v3, v4] t)).cell? ⟨w.heap.size, 4, none⟩ = some v4 := by
  unfold World.cell?; rw [heap_alloc_new]; rfl
set_option maxHeartbeats 8000000 in
theorem edCheck_any (v : Value) (x : Edt) (hok : x.ok) (w : World) (h : EdAt w v x) : Calls Try.prog 27 #[v] w (ChkRes w (chkE x)) := by
  obtain ⟨va, vd, rfl, ha, hd⟩ := h
  obtain ⟨C, hC⟩ : ∃ C, chkE x = C := ⟨_, rfl⟩
  rw [hC]
  unfold ChkRes
  obtain ⟨hof, hl1, hl2⟩ := hok
  obtain ⟨x1, x2, x3, A, D⟩ := x
  simp only at ha hd hof hl1 hl2
  have HNO := Lib.hid (And.intro (fun h => by rw [← hC]; exact if_neg h : ¬ mayE ⟨x1, x2, x3, A, D⟩ → C = 12) (fun h => by rw [← hC]; exact if_pos h : mayE ⟨x1, x2, x3, A, D⟩ → C = 0))
  clear hC
  have HN : Hid (∀ (n : Int) (w : World), Calls Try.prog 44 #[.int .i64 n] w fun e w' => e = .returned (.bool (decide (okEdN n))) ∧ w' = w) := Lib.hid edIsnum_any
  have HF : Hid (∀ W, Below w.heap.size w W → Calls Try.prog 45 #[va, .func (.func 46) #[] #[]] W fun e w' => e = .returned (.bool (decide (∃ f ∈ A, badTb f))) ∧ Below W.heap.size W w') := Lib.hid fun W hW => conF_any va A hof hl1 W (ha.below hW)
  have HI : Hid (∀ W, Below w.heap.size w W → Calls Try.prog 47 #[vd, .func (.func 48) #[] #[]] W fun e w' => e = .returned (.bool (decide (∃ f ∈ D, badTab f))) ∧ Below W.heap.size W w') := Lib.hid fun W hW => conI_any vd D hl2 W (RdV.below hd hW)
  obtain ⟨aA, cA, rfl, -⟩ := edFl_len ha
  obtain ⟨aD, cD, rfl⟩ := edInts_len hd
  have HB := Lib.hid ((Below.refl w.heap.size w).alloc (Nat.le_refl _) (.cells #[.int .i64 x1, .int .i64 x2, .int .i64 x3, .slice aA A.length cA, .slice aD D.length cD] 44))
  obtain ⟨LA, hLA⟩ : ∃ L, A.length = L := ⟨_, rfl⟩
  obtain ⟨LD, hLD⟩ : ∃ L, D.length = L := ⟨_, rfl⟩
  have HL := Lib.hid (And.intro hLA hLD)
  rw [hLA] at HF HB hl1 ⊢
  rw [hLD] at HI HB hl2 ⊢
  clear ha hd hof hLA hLD
  by_cases o1 : okEdN x1
  rotate_left
  · have hno : ¬ mayE ⟨x1, x2, x3, A, D⟩ := fun h => o1 h.1.1
    obtain rfl : C = 12 := HNO.out.1 hno
    clear HNO
    have H1 : Hid (∀ (w : World), Calls Try.prog 44 #[.int .i64 x1] w fun e w' => e = .returned (.bool false) ∧ w' = w) := Lib.hid (by have := HN.out x1; rwa [decide_eq_false o1] at this)
    clear HN o1
    clear HF HI
    go_enter Try.func27, Try.ntmps27
    go_wp2_with fail
    refine (H1.out _).mono ?_
    rintro e w' ⟨rfl, rfl⟩
    clear H1
    go_wp2_with fail
    go_ret
    exact ⟨rfl, HB.out⟩
  by_cases o2 : okEdN x2
  rotate_left
  · have hno : ¬ mayE ⟨x1, x2, x3, A, D⟩ := fun h => o2 h.1.2.1
    obtain rfl : C = 12 := HNO.out.1 hno
    clear HNO
    have H1 : Hid (∀ (w : World), Calls Try.prog 44 #[.int .i64 x1] w fun e w' => e = .returned (.bool true) ∧ w' = w) := Lib.hid (by have := HN.out x1; rwa [decide_eq_true o1] at this)
    have H2 : Hid (∀ (w : World), Calls Try.prog 44 #[.int .i64 x2] w fun e w' => e = .returned (.bool false) ∧ w' = w) := Lib.hid (by have := HN.out x2; rwa [decide_eq_false o2] at this)
    clear HN o1 o2
    clear HF HI
    go_enter Try.func27, Try.ntmps27
    go_wp2_with fail
    refine (H1.out _).mono ?_
    rintro e w' ⟨rfl, rfl⟩
    clear H1
    go_wp2_with fail
    refine (H2.out _).mono ?_
    rintro e w' ⟨rfl, rfl⟩
    clear H2
    go_wp2_with fail
    go_ret
    exact ⟨rfl, HB.out⟩
  by_cases o3 : okEdN x3
  rotate_left
  · have hno : ¬ mayE ⟨x1, x2, x3, A, D⟩ := fun h => o3 h.1.2.2
    obtain rfl : C = 12 := HNO.out.1 hno
    clear HNO
    have H1 : Hid (∀ (w : World), Calls Try.prog 44 #[.int .i64 x1] w fun e w' => e = .returned (.bool true) ∧ w' = w) := Lib.hid (by have := HN.out x1; rwa [decide_eq_true o1] at this)
    have H2 : Hid (∀ (w : World), Calls Try.prog 44 #[.int .i64 x2] w fun e w' => e = .returned (.bool true) ∧ w' = w) := Lib.hid (by have := HN.out x2; rwa [decide_eq_true o2] at this)
    have H3 : Hid (∀ (w : World), Calls Try.prog 44 #[.int .i64 x3] w fun e w' => e = .returned (.bool false) ∧ w' = w) := Lib.hid (by have := HN.out x3; rwa [decide_eq_false o3] at this)
    clear HN o1 o2 o3
    clear HF HI
    go_enter Try.func27, Try.ntmps27
    go_wp2_with fail
    refine (H1.out _).mono ?_
    rintro e w' ⟨rfl, rfl⟩
    clear H1
    go_wp2_with fail
    refine (H2.out _).mono ?_
    rintro e w' ⟨rfl, rfl⟩
    clear H2
    go_wp2_with fail
    refine (H3.out _).mono ?_
    rintro e w' ⟨rfl, rfl⟩
    clear H3
    go_wp2_with fail
    go_ret
    exact ⟨rfl, HB.out⟩
  have HO := Lib.hid (And.intro o1 (And.intro o2 o3))
  by_cases lA : 200 < LA
  · have hno : ¬ mayE ⟨x1, x2, x3, A, D⟩ := fun h => by have h' : A.length ≤ 200 := h.2.1.1; rw [HL.out.1] at h'; omega
    have hi : (200 : Int) < (LA : Int) := by omega
    obtain rfl : C = 12 := HNO.out.1 hno
    clear HNO
    have H1 : Hid (∀ (w : World), Calls Try.prog 44 #[.int .i64 x1] w fun e w' => e = .returned (.bool true) ∧ w' = w) := Lib.hid (by have := HN.out x1; rwa [decide_eq_true o1] at this)
    have H2 : Hid (∀ (w : World), Calls Try.prog 44 #[.int .i64 x2] w fun e w' => e = .returned (.bool true) ∧ w' = w) := Lib.hid (by have := HN.out x2; rwa [decide_eq_true o2] at this)
    have H3 : Hid (∀ (w : World), Calls Try.prog 44 #[.int .i64 x3] w fun e w' => e = .returned (.bool true) ∧ w' = w) := Lib.hid (by have := HN.out x3; rwa [decide_eq_true o3] at this)
    clear HN o1 o2 o3
    clear HF HI
    go_enter Try.func27, Try.ntmps27
    go_wp2_with fail
    refine (H1.out _).mono ?_
    rintro e w' ⟨rfl, rfl⟩
    clear H1
    go_wp2_with fail
    refine (H2.out _).mono ?_
    rintro e w' ⟨rfl, rfl⟩
    clear H2
    go_wp2_with fail
    refine (H3.out _).mono ?_
    rintro e w' ⟨rfl, rfl⟩
    clear H3
    go_wp2_with fail
    go_ret
    exact ⟨rfl, HB.out⟩
  by_cases lD : 200 < LD
  · have hno : ¬ mayE ⟨x1, x2, x3, A, D⟩ := fun h => by have h' : D.length ≤ 200 := h.2.1.2; rw [HL.out.2] at h'; omega
    have hi : (200 : Int) < (LD : Int) := by omega
    have hiA : ¬ (200 : Int) < (LA : Int) := by omega
    obtain rfl : C = 12 := HNO.out.1 hno
    clear HNO
    have H1 : Hid (∀ (w : World), Calls Try.prog 44 #[.int .i64 x1] w fun e w' => e = .returned (.bool true) ∧ w' = w) := Lib.hid (by have := HN.out x1; rwa [decide_eq_true o1] at this)
    have H2 : Hid (∀ (w : World), Calls Try.prog 44 #[.int .i64 x2] w fun e w' => e = .returned (.bool true) ∧ w' = w) := Lib.hid (by have := HN.out x2; rwa [decide_eq_true o2] at this)
    have H3 : Hid (∀ (w : World), Calls Try.prog 44 #[.int .i64 x3] w fun e w' => e = .returned (.bool true) ∧ w' = w) := Lib.hid (by have := HN.out x3; rwa [decide_eq_true o3] at this)
    clear HN o1 o2 o3
    clear HF HI
    go_enter Try.func27, Try.ntmps27
    go_wp2_with fail
    refine (H1.out _).mono ?_
    rintro e w' ⟨rfl, rfl⟩
    clear H1
    go_wp2_with fail
    refine (H2.out _).mono ?_
    rintro e w' ⟨rfl, rfl⟩
    clear H2
    go_wp2_with fail
    refine (H3.out _).mono ?_
    rintro e w' ⟨rfl, rfl⟩
    clear H3
    go_wp2_with fail
    go_ret
    exact ⟨rfl, HB.out⟩
  have hiA : ¬ (200 : Int) < (LA : Int) := by omega
  have hiD : ¬ (200 : Int) < (LD : Int) := by omega
  by_cases oF : ∃ f ∈ A, badTb f
  · have hno : ¬ mayE ⟨x1, x2, x3, A, D⟩ := fun h => by obtain ⟨f, hf, hb⟩ := oF; exact h.2.2.1 f hf hb
    obtain rfl : C = 12 := HNO.out.1 hno
    clear HNO
    have H1 : Hid (∀ (w : World), Calls Try.prog 44 #[.int .i64 x1] w fun e w' => e = .returned (.bool true) ∧ w' = w) := Lib.hid (by have := HN.out x1; rwa [decide_eq_true o1] at this)
    have H2 : Hid (∀ (w : World), Calls Try.prog 44 #[.int .i64 x2] w fun e w' => e = .returned (.bool true) ∧ w' = w) := Lib.hid (by have := HN.out x2; rwa [decide_eq_true o2] at this)
    have H3 : Hid (∀ (w : World), Calls Try.prog 44 #[.int .i64 x3] w fun e w' => e = .returned (.bool true) ∧ w' = w) := Lib.hid (by have := HN.out x3; rwa [decide_eq_true o3] at this)
    clear HN o1 o2 o3
    clear HI
    go_enter Try.func27, Try.ntmps27
    go_wp2_with fail
    refine (H1.out _).mono ?_
    rintro e w' ⟨rfl, rfl⟩
    clear H1
    go_wp2_with fail
    refine (H2.out _).mono ?_
    rintro e w' ⟨rfl, rfl⟩
    clear H2
    go_wp2_with fail
    refine (H3.out _).mono ?_
    rintro e w' ⟨rfl, rfl⟩
    clear H3
    go_wp2_with fail
    refine (HF.out _ HB.out).mono ?_
    rintro e w2 ⟨rfl, hb2⟩
    have HB2 := Lib.hid (HB.out.trans (hb2.mono HB.out.size))
    have hx4 := (hb2.cell (p := ⟨w.heap.size, 4, none⟩) (by simp)).trans (BlkAt5.c4 w _ _ _ _ _ 44)
    rw [decide_eq_true oF]
    clear hb2 HF oF
    go_wp2_with fail
    go_ret
    exact ⟨rfl, HB2.out⟩
  by_cases oI : ∃ n ∈ D, badTab n
  · have hno : ¬ mayE ⟨x1, x2, x3, A, D⟩ := fun h => by obtain ⟨f, hf, hb⟩ := oI; exact h.2.2.2 f hf hb
    obtain rfl : C = 12 := HNO.out.1 hno
    clear HNO
    have H1 : Hid (∀ (w : World), Calls Try.prog 44 #[.int .i64 x1] w fun e w' => e = .returned (.bool true) ∧ w' = w) := Lib.hid (by have := HN.out x1; rwa [decide_eq_true o1] at this)
    have H2 : Hid (∀ (w : World), Calls Try.prog 44 #[.int .i64 x2] w fun e w' => e = .returned (.bool true) ∧ w' = w) := Lib.hid (by have := HN.out x2; rwa [decide_eq_true o2] at this)
    have H3 : Hid (∀ (w : World), Calls Try.prog 44 #[.int .i64 x3] w fun e w' => e = .returned (.bool true) ∧ w' = w) := Lib.hid (by have := HN.out x3; rwa [decide_eq_true o3] at this)
    clear HN o1 o2 o3
    go_enter Try.func27, Try.ntmps27
    go_wp2_with fail
    refine (H1.out _).mono ?_
    rintro e w' ⟨rfl, rfl⟩
    clear H1
    go_wp2_with fail
    refine (H2.out _).mono ?_
    rintro e w' ⟨rfl, rfl⟩
    clear H2
    go_wp2_with fail
    refine (H3.out _).mono ?_
    rintro e w' ⟨rfl, rfl⟩
    clear H3
    go_wp2_with fail
    refine (HF.out _ HB.out).mono ?_
    rintro e w2 ⟨rfl, hb2⟩
    have HB2 := Lib.hid (HB.out.trans (hb2.mono HB.out.size))
    have hx4 := (hb2.cell (p := ⟨w.heap.size, 4, none⟩) (by simp)).trans (BlkAt5.c4 w _ _ _ _ _ 44)
    rw [decide_eq_false oF]
    clear hb2 HF oF
    go_wp2_with fail
    refine (HI.out _ HB2.out).mono ?_
    rintro e w3 ⟨rfl, hb3⟩
    have HB3 := Lib.hid (HB2.out.trans (hb3.mono HB2.out.size))
    rw [decide_eq_true oI]
    clear hb3 HI oI hx4
    go_wp2_with fail
    go_ret
    exact ⟨rfl, HB3.out⟩
  have hyes : mayE ⟨x1, x2, x3, A, D⟩ := ⟨HO.out, ⟨by show A.length ≤ 200; rw [HL.out.1]; omega, by show D.length ≤ 200; rw [HL.out.2]; omega⟩, fun f hf hb => oF ⟨f, hf, hb⟩, fun f hf hb => oI ⟨f, hf, hb⟩⟩
  obtain rfl : C = 0 := HNO.out.2 hyes
  clear HNO
  have H1 : Hid (∀ (w : World), Calls Try.prog 44 #[.int .i64 x1] w fun e w' => e = .returned (.bool true) ∧ w' = w) := Lib.hid (by have := HN.out x1; rwa [decide_eq_true o1] at this)
  have H2 : Hid (∀ (w : World), Calls Try.prog 44 #[.int .i64 x2] w fun e w' => e = .returned (.bool true) ∧ w' = w) := Lib.hid (by have := HN.out x2; rwa [decide_eq_true o2] at this)
  have H3 : Hid (∀ (w : World), Calls Try.prog 44 #[.int .i64 x3] w fun e w' => e = .returned (.bool true) ∧ w' = w) := Lib.hid (by have := HN.out x3; rwa [decide_eq_true o3] at this)
  clear HN o1 o2 o3
  go_enter Try.func27, Try.ntmps27
  go_wp2_with fail
  refine (H1.out _).mono ?_
  rintro e w' ⟨rfl, rfl⟩
  clear H1
  go_wp2_with fail
  refine (H2.out _).mono ?_
  rintro e w' ⟨rfl, rfl⟩
  clear H2
  go_wp2_with fail
  refine (H3.out _).mono ?_
  rintro e w' ⟨rfl, rfl⟩
  clear H3
  go_wp2_with fail
  refine (HF.out _ HB.out).mono ?_
  rintro e w2 ⟨rfl, hb2⟩
  have HB2 := Lib.hid (HB.out.trans (hb2.mono HB.out.size))
  have hx4 := (hb2.cell (p := ⟨w.heap.size, 4, none⟩) (by simp)).trans (BlkAt5.c4 w _ _ _ _ _ 44)
  rw [decide_eq_false oF]
  clear hb2 HF oF
  go_wp2_with fail
  refine (HI.out _ HB2.out).mono ?_
  rintro e w3 ⟨rfl, hb3⟩
  have HB3 := Lib.hid (HB2.out.trans (hb3.mono HB2.out.size))
  rw [decide_eq_false oI]
  clear hb3 HI oI hx4
  go_wp2_with fail
  go_ret
  exact ⟨rfl, HB3.out⟩
end Go.Proofs.Ytgdmmhdihgajkaa
/- The walks of a reader: giveUp, skip, number, text, count, isDone. -/
namespace Go.Proofs.Ytgdmmhdihgajkaa
set_option linter.unusedVariables false
set_option maxRecDepth 100000
open Go.RowKit
theorem edNm_eq (s : Option (List UInt8)) : edNm s = match getN (s.getD []) with
    | .none => (0, .none)
    | .some (n, k) => (wrap64 (n : Int), .some ((s.getD []).drop k)) := by
  cases s with
  | none => rfl
  | some b => rfl
theorem edTx_eq (s : Option (List UInt8)) : edTx s = match getT (s.getD []) with
    | .none => (⟨#[]⟩, .none)
    | .some (n, k) => (⟨n.toArray⟩, .some ((s.getD []).drop k)) := by
  cases s with
  | none => rfl
  | some b => rfl
theorem getN_ofnil {s : Option (List UInt8)} {n k : Nat} (h : getN (s.getD []) = some (n, k)) : ∃ b, s = some b := by
  cases s with
  | none => cases h
  | some b => exact ⟨b, rfl⟩
theorem getT_ofnil {s : Option (List UInt8)} {n : List UInt8} {k : Nat} (h : getT (s.getD []) = some (n, k)) : ∃ b, s = some b := by
  cases s with
  | none => cases h
  | some b => exact ⟨b, rfl⟩
end Go.Proofs.Ytgdmmhdihgajkaa
/- The walk of a reader's file. -/
namespace Go.Proofs.Ytgdmmhdihgajkaa
set_option linter.unusedVariables false
set_option maxRecDepth 100000
open Go.RowKit
structure Cells5 (w : World) (b : Nat) (v0 v1 v2 v3 v4 : Value) : Prop where
  c0 : w.cell? ⟨b, 0, none⟩ = some v0
  c1 : w.cell? ⟨b, 1, none⟩ = some v1
  c2 : w.cell? ⟨b, 2, none⟩ = some v2
  c3 : w.cell? ⟨b, 3, none⟩ = some v3
  c4 : w.cell? ⟨b, 4, none⟩ = some v4
  f0 : w.frozen? ⟨b, 0, none⟩ = false
  f1 : w.frozen? ⟨b, 1, none⟩ = false
  f2 : w.frozen? ⟨b, 2, none⟩ = false
  f3 : w.frozen? ⟨b, 3, none⟩ = false
  f4 : w.frozen? ⟨b, 4, none⟩ = false
theorem BlkAt.cells5 {w : World} {b : Nat} {v0 v1 v2 v3 v4 : Value} {t : TypeId} (h : BlkAt w b #[v0, v1, v2, v3, v4] t) : Cells5 w b v0 v1 v2 v3 v4 :=
  ⟨h.at 0, h.at 1, h.at 2, h.at 3, h.at 4, h.free 0, h.free 1, h.free 2, h.free 3, h.free 4⟩
end Go.Proofs.Ytgdmmhdihgajkaa
/- The walks of a reader's files and numbers. -/
namespace Go.Proofs.Ytgdmmhdihgajkaa
set_option linter.unusedVariables false
set_option maxRecDepth 100000
open Go.RowKit
theorem OwnK.apart {α : Type} {enc : α → List Value} {k E B : Nat} {w w' : World} {g : Nat} {v : Value} {xs : List α} (h : OwnK enc k E B w v xs) (u : UpdF (fun x => x = g) w w') (hg : g < B) : OwnK enc k E B w' v xs := by
  refine row_same h fun x hx => u.block x (row_lt h x hx) fun e => ?_
  rcases h.blk with ⟨rfl, -⟩ | ⟨g', cap, cur, rfl, h2, -⟩
  · cases hx
  · obtain rfl : g' = x := Option.some.inj hx
    omega
theorem OwnV.apartV {E B : Nat} {w w' : World} {g : Nat} {v : Value} {vs : List Value} (h : OwnV E B w v vs) (u : UpdF (fun x => x = g) w w') (hg : g < B) : OwnV E B w' v vs := by
  refine row_same h fun x hx => u.block x (row_lt h x hx) fun e => ?_
  rcases h.nilOr with ⟨rfl, -⟩ | ⟨g', cap, rfl, h2, -⟩
  · cases hx
  · obtain rfl : g' = x := Option.some.inj hx
    omega
theorem tbf_form {B : Nat} {w : World} {v : Value} {xs : List Tbf} (h : OwnK encTbf 5 49 B w v xs) : ∃ a c, v = .slice a xs.length c := by
  rcases h.blk with ⟨rfl, rfl⟩ | ⟨g, cap, cur, rfl, -⟩
  · exact ⟨none, 0, rfl⟩
  · exact ⟨_, cap, rfl⟩
end Go.Proofs.Ytgdmmhdihgajkaa
/- The walk of Decode. -/
namespace Go.Proofs.Ytgdmmhdihgajkaa
set_option linter.unusedVariables false
set_option maxRecDepth 100000
open Go.RowKit
/-- v is an edit whose lists are the call's own. -/
def EdOwn (B : Nat) (w : World) (v : Value) (e : Edt) : Prop := ∃ va vd, v = .agg #[.int .i64 e.nxt, .int .i64 e.lg, .int .i64 e.lst, va, vd] ∧ OwnK encTbf 5 49 B w va e.adds ∧ OwnV 2 B w vd (e.dels.map encI64)
theorem EdOwn.at {B : Nat} {w : World} {v : Value} {e : Edt} (h : EdOwn B w v e) : EdAt w v e := by
  obtain ⟨va, vd, rfl, h1, h2⟩ := h
  exact ⟨va, vd, rfl, h1.rd encTbf_len, h2.rd⟩
theorem EdOwn.below {B : Nat} {w w' : World} {v : Value} {e : Edt} (h : EdOwn B w v e) (hb : Below w.heap.size w w') : EdOwn B w' v e := by
  obtain ⟨va, vd, rfl, h1, h2⟩ := h
  exact ⟨va, vd, rfl, h1.below hb, OwnV.below h2 hb⟩
theorem EdOwn.base {B B' : Nat} {w : World} {v : Value} {e : Edt} (h : EdOwn B w v e) (hB : B' ≤ B) : EdOwn B' w v e := by
  obtain ⟨va, vd, rfl, h1, h2⟩ := h
  exact ⟨va, vd, rfl, h1.base hB, OwnV.base h2 hB⟩
def edLeft (M : Nat) (s : Option (List UInt8)) : Prop := (s.getD []).length ≤ M
theorem edNm_left {M : Nat} {s : Option (List UInt8)} (h : edLeft M s) : edLeft M (edNm s).2 := by
  unfold edLeft at *
  rw [edNm_eq]
  cases hg : getN (s.getD []) with
  | none => exact Nat.zero_le _
  | some p =>
    obtain ⟨n, k⟩ := p
    simp only [Option.getD_some, List.length_drop]
    omega
theorem edTx_left {M : Nat} {s : Option (List UInt8)} (h : edLeft M s) : (edTx s).1.size ≤ M ∧ edLeft M (edTx s).2 := by
  unfold edLeft at *
  rw [edTx_eq]
  cases hg : getT (s.getD []) with
  | none => exact ⟨Nat.zero_le _, Nat.zero_le _⟩
  | some p =>
    obtain ⟨n, k⟩ := p
    have := (text_get hg).2.2
    simp only [Option.getD_some, List.length_drop]
    refine ⟨?_, by omega⟩
    show n.toArray.size ≤ M
    simp; omega
theorem edFl_left {M : Nat} {s : Option (List UInt8)} (h : edLeft M s) : ((edFl s).1.lo.size ≤ M ∧ (edFl s).1.hi.size ≤ M) ∧ edLeft M (edFl s).2 := by
  have h4 := edTx_left (edNm_left (edNm_left (edNm_left h)))
  have h5 := edTx_left h4.2
  exact ⟨⟨h4.1, h5.1⟩, h5.2⟩
theorem edMany_left {α : Type} {rd : Option (List UInt8) → α × Option (List UInt8)} {P : α → Prop} {M : Nat} (hrd : ∀ s, edLeft M s → P (rd s).1 ∧ edLeft M (rd s).2) :
    ∀ (n : Nat) (s : Option (List UInt8)), edLeft M s → (∀ x ∈ (edMany rd n s).1, P x) ∧ edLeft M (edMany rd n s).2 ∧ (edMany rd n s).1.length = n
  | 0, s, h => ⟨fun x hx => by simp [edMany] at hx, h, rfl⟩
  | n + 1, s, h => by
    obtain ⟨h1, h2⟩ := hrd s h
    obtain ⟨h3, h4, h5⟩ := edMany_left hrd n (rd s).2 h2
    refine ⟨fun x hx => ?_, h4, by simp only [edMany, List.length_cons, h5]⟩
    rcases List.mem_cons.1 hx with rfl | hx
    · exact h1
    · exact h3 x hx
theorem edCnt_left {M : Nat} {s : Option (List UInt8)} (h : edLeft M s) : edLeft M (edCnt s).2 := by
  unfold edCnt
  split
  · exact Nat.zero_le _
  · exact edNm_left h
theorem edList_left {α : Type} {rd : Option (List UInt8) → α × Option (List UInt8)} {P : α → Prop} {M : Nat} (hrd : ∀ s, edLeft M s → P (rd s).1 ∧ edLeft M (rd s).2) {s : Option (List UInt8)} (h : edLeft M s) :
    (∀ x ∈ (edList rd s).1, P x) ∧ edLeft M (edList rd s).2 ∧ (edList rd s).1.length ≤ 200 := by
  obtain ⟨h1, h2, h3⟩ := edMany_left hrd (edCnt s).1 (edCnt s).2 (edCnt_left h)
  exact ⟨h1, h2, by have := edCnt_le s; unfold edList; omega⟩
theorem edAll_ok {b : List UInt8} (h : b.length ≤ maxLen) : (edAll b).1.ok := by
  have h0 : edLeft maxLen (some b) := h
  have h3 := edNm_left (edNm_left (edNm_left h0))
  obtain ⟨h4, h5, h6⟩ := edList_left (rd := edFl) (P := Tbf.ok) (fun s hs => edFl_left hs) h3
  obtain ⟨-, -, h7⟩ := edList_left (rd := edNm) (P := fun _ => True) (fun s hs => ⟨trivial, edNm_left hs⟩) h5
  exact ⟨h4, by show _ ≤ 1000000000000; exact Nat.le_trans h6 (by decide), Nat.le_trans h7 (by decide)⟩
theorem RdB.lenMax {w : World} {v : Value} {b : List UInt8} (h : RdB w v b) : b.length ≤ maxLen := by
  rcases h with ⟨_, _, _, e⟩ | ⟨_, _, cap, _, _, h2, h3, _⟩
  · have : b = [] := by simpa using e
    subst this; exact Nat.zero_le _
  · rw [List.length_map] at h2; omega
theorem OwnV.slform {E B : Nat} {w : World} {v : Value} {vs : List Value} (h : OwnV E B w v vs) : ∃ a n c, v = .slice a n c := by
  rcases h.nilOr with ⟨rfl, -⟩ | ⟨g, cap, rfl, -⟩
  · exact ⟨none, 0, 0, rfl⟩
  · exact ⟨_, _, cap, rfl⟩
theorem EdOwn.apart {B g : Nat} {w w' : World} {v : Value} {e : Edt} (h : EdOwn B w v e) (u : UpdF (fun k => k = g) w w') (hg : g < B) : EdOwn B w' v e := by
  obtain ⟨va, vd, rfl, h1, h2⟩ := h
  exact ⟨va, vd, rfl, h1.apart u hg, h2.apartV u hg⟩
def zeroEd : Value := .agg #[.int .i64 0, .int .i64 0, .int .i64 0, .slice none 0 0, .slice none 0 0]
structure DecAtE (B : Nat) (w : World) (v : Value) (c : Int) (o : Option Edt) : Prop where
  no : o = none → c = 8 ∧ v = zeroEd
  yes : ∀ x, o = some x → c = 0 ∧ EdOwn B w v x
theorem decAtE_no {B : Nat} {w : World} : DecAtE B w zeroEd 8 none := ⟨fun _ => ⟨rfl, rfl⟩, fun x h => by cases h⟩
theorem decAtE_yes {B : Nat} {w : World} {v : Value} {x : Edt} (h : EdOwn B w v x) : DecAtE B w v 0 (some x) := ⟨fun h => (by cases h), fun y e => by obtain rfl := Option.some.inj e; exact ⟨rfl, h⟩⟩
def DecTo (b : List UInt8) (w : World) (e : Ending) (w' : World) : Prop := ∃ v c, e = .returned (.tuple #[v, .int .i64 c]) ∧ DecAtE w.heap.size w' v c (decE b) ∧ Below w.heap.size w w'
end Go.Proofs.Ytgdmmhdihgajkaa
