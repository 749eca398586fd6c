/- Edits in plain words: a table, an edit, their cells, their bytes, what bytes hold: what is read of any bytes is an edit that may be just where these are its bytes. -/
import Derived.Test.YtpaoabdjbdlalaaPutGet
import Derived.Test.YtpaoabdjbdlalaaBytesOrd
import Derived.Test.YtpaoabdjbdlalaaRowsK
namespace Go.Proofs.Ytpaoabdjbdlalaa
set_option linter.unusedVariables false
open Go.RowKit
structure Tbf where
  num : Int
  lvl : Int
  siz : Int
  lo : ByteArray
  hi : ByteArray
def Tbf.none : Tbf := ⟨0, 0, 0, ⟨#[]⟩, ⟨#[]⟩⟩
def encTbf (f : Tbf) : List Value := [.int .i64 f.num, .int .i64 f.lvl, .int .i64 f.siz, .string f.lo, .string f.hi]
def Tbf.v (f : Tbf) : Value := .agg #[.int .i64 f.num, .int .i64 f.lvl, .int .i64 f.siz, .string f.lo, .string f.hi]
theorem encTbf_len : EncK encTbf 5 := fun _ => rfl
theorem encTbf_one (l : List Tbf) : ∀ u ∈ l.flatMap encTbf, u.oneCell' = true := by
  intro u hu
  obtain ⟨e, -, h⟩ := List.mem_flatMap.1 hu
  simp only [encTbf, List.mem_cons, List.not_mem_nil, or_false] at h
  rcases h with rfl | rfl | rfl | rfl | rfl <;> rfl
theorem tbf_cells (f : Tbf) : ∀ u ∈ encTbf f, u.oneCell' = true := fun u hu => encTbf_one [f] u (by simpa using hu)
def Tbf.ok (f : Tbf) : Prop := f.lo.size ≤ maxLen ∧ f.hi.size ≤ maxLen
structure Edt where
  nxt : Int
  lg : Int
  lst : Int
  adds : List Tbf
  dels : List Int
def Edt.none : Edt := ⟨0, 0, 0, [], []⟩
def badTab (n : Int) : Prop := n < 1 ∨ 1125899906842624 < n
instance (n : Int) : Decidable (badTab n) := inferInstanceAs (Decidable (_ ∨ _))
def badTb (f : Tbf) : Prop := badTab f.num ∨ f.lvl < 0 ∨ 5 ≤ f.lvl ∨ f.siz < 0 ∨ 16777216 < f.siz ∨ 13000 < f.lo.size ∨ 13000 < f.hi.size ∨ bl f.hi f.lo
instance (f : Tbf) : Decidable (badTb f) := inferInstanceAs (Decidable (_ ∨ _ ∨ _ ∨ _ ∨ _ ∨ _ ∨ _ ∨ _))
def okEdN (n : Int) : Prop := 0 ≤ n ∧ n ≤ 1125899906842624
instance (n : Int) : Decidable (okEdN n) := inferInstanceAs (Decidable (_ ∧ _))
/-- An edit that may be. -/
def mayE (e : Edt) : Prop := (okEdN e.nxt ∧ okEdN e.lg ∧ okEdN e.lst) ∧ (e.adds.length ≤ 200 ∧ e.dels.length ≤ 200) ∧ (∀ f ∈ e.adds, ¬ badTb f) ∧ ∀ n ∈ e.dels, ¬ badTab n
instance (e : Edt) : Decidable (mayE e) := inferInstanceAs (Decidable (_ ∧ _ ∧ _ ∧ _))
theorem notBadTb {f : Tbf} (h : ¬ badTb f) : (1 ≤ f.num ∧ f.num ≤ 1125899906842624) ∧ (0 ≤ f.lvl ∧ f.lvl < 5) ∧ (0 ≤ f.siz ∧ f.siz ≤ 16777216) ∧ f.lo.size ≤ 13000 ∧ f.hi.size ≤ 13000 ∧ ¬ bl f.hi f.lo := by
  simp only [badTb, badTab, not_or] at h
  obtain ⟨⟨h1, h2⟩, h3, h4, h5, h6, h7, h8, h9⟩ := h
  exact ⟨⟨by omega, by omega⟩, ⟨by omega, by omega⟩, ⟨by omega, by omega⟩, by omega, by omega, h9⟩
def edNumB (n : Int) : List UInt8 := putN n.toNat
def tbfB (f : Tbf) : List UInt8 := edNumB f.num ++ (edNumB f.lvl ++ (edNumB f.siz ++ (textE f.lo.data.toList ++ textE f.hi.data.toList)))
def edHeadB (e : Edt) : List UInt8 := edNumB e.nxt ++ (edNumB e.lg ++ (edNumB e.lst ++ putN e.adds.length))
/-- An edit's bytes. -/
def edtB (e : Edt) : List UInt8 := edHeadB e ++ (e.adds.flatMap tbfB ++ (putN e.dels.length ++ e.dels.flatMap edNumB))
theorem edNumB_len (n : Int) : (edNumB n).length ≤ 10 := (putN_len _).2
theorem tbfB_len {f : Tbf} (h : ¬ badTb f) : (tbfB f).length ≤ 26100 := by
  obtain ⟨-, -, -, h1, h2, -⟩ := notBadTb h
  have a1 := edNumB_len f.num
  have a2 := edNumB_len f.lvl
  have a3 := edNumB_len f.siz
  have a4 := (putN_len f.lo.data.toList.length).2
  have a5 := (putN_len f.hi.data.toList.length).2
  have a6 := size_toList f.lo
  have a7 := size_toList f.hi
  unfold tbfB textE
  simp only [List.length_append]
  omega
/-- What a reader takes as a number; none: it is broken. -/
def edNm : Option (List UInt8) → Int × Option (List UInt8)
  | .none => (0, .none)
  | .some b => match getN b with
    | .none => (0, .none)
    | .some (n, k) => (wrap64 (n : Int), .some (b.drop k))
/-- As a text. -/
def edTx : Option (List UInt8) → ByteArray × Option (List UInt8)
  | .none => (⟨#[]⟩, .none)
  | .some b => match getT b with
    | .none => (⟨#[]⟩, .none)
    | .some (s, k) => (⟨s.toArray⟩, .some (b.drop k))
/-- As a list's length. -/
def edCnt (s : Option (List UInt8)) : Nat × Option (List UInt8) := if (edNm s).1 < 0 ∨ 200 < (edNm s).1 then (0, .none) else ((edNm s).1.toNat, (edNm s).2)
def edFl (s : Option (List UInt8)) : Tbf × Option (List UInt8) :=
  let a := edNm s
  let b := edNm a.2
  let c := edNm b.2
  let d := edTx c.2
  let e := edTx d.2
  (⟨a.1, b.1, c.1, d.1, e.1⟩, e.2)
def edMany {α : Type} (rd : Option (List UInt8) → α × Option (List UInt8)) : Nat → Option (List UInt8) → List α × Option (List UInt8)
  | 0, s => ([], s)
  | n + 1, s => ((rd s).1 :: (edMany rd n (rd s).2).1, (edMany rd n (rd s).2).2)
def edList {α : Type} (rd : Option (List UInt8) → α × Option (List UInt8)) (s : Option (List UInt8)) : List α × Option (List UInt8) := edMany rd (edCnt s).1 (edCnt s).2
def edAll (b : List UInt8) : Edt × Option (List UInt8) :=
  let a1 := edNm (.some b)
  let a2 := edNm a1.2
  let a3 := edNm a2.2
  let a4 := edList edFl a3.2
  let a5 := edList edNm a4.2
  (⟨a1.1, a2.1, a3.1, a4.1, a5.1⟩, a5.2)
/-- The edit whose bytes these are. -/
def decE (b : List UInt8) : Option Edt := if (edAll b).2 = .some [] ∧ mayE (edAll b).1 then .some (edAll b).1 else .none
theorem wrap64_pos {n : Nat} (hn : n < 2 ^ 64) (h : 0 ≤ wrap64 (n : Int)) : wrap64 (n : Int) = n ∧ n < 2 ^ 63 := by unfold wrap64 at *; omega
theorem wrap64_of {n : Nat} (hn : n < 2 ^ 63) : wrap64 (n : Int) = n := by unfold wrap64; omega
theorem edNm_is {s : Option (List UInt8)} {n : Int} {r : List UInt8} (h : edNm s = (n, some r)) (h0 : 0 ≤ n) : s = some (edNumB n ++ r) := by
  cases s with
  | none => simp [edNm] at h
  | some b =>
    unfold edNm at h
    simp only at h
    cases hg : getN b with
    | none => rw [hg] at h; simp at h
    | some p =>
      obtain ⟨m, k⟩ := p
      rw [hg] at h
      simp only [Prod.mk.injEq, Option.some.injEq] at h
      obtain ⟨rfl, rfl⟩ := h
      obtain ⟨h1, h2, h3, h4⟩ := getN_le hg
      obtain ⟨h5, h6⟩ := wrap64_pos h4 h0
      unfold edNumB
      rw [h5, Int.toNat_natCast, ← put_get hg, List.take_append_drop]
theorem edNm_put {n : Int} (h0 : 0 ≤ n) (h1 : n ≤ 1125899906842624) (r : List UInt8) : edNm (some (edNumB n ++ r)) = (n, some r) := by
  obtain ⟨m, rfl⟩ := Int.eq_ofNat_of_zero_le h0
  unfold edNumB edNm
  rw [Int.toNat_natCast]
  simp only
  rw [get_put (by omega)]
  simp only
  rw [wrap64_of (by omega), List.drop_left' rfl]
theorem edCnt_put {n : Nat} (h : n ≤ 200) (r : List UInt8) : edCnt (some (putN n ++ r)) = (n, some r) := by
  have := edNm_put (n := (n : Int)) (by omega) (by omega) r
  unfold edNumB at this
  rw [Int.toNat_natCast] at this
  unfold edCnt
  rw [this]
  simp only
  rw [if_neg (by omega), Int.toNat_natCast]
theorem edCnt_is {s : Option (List UInt8)} {n : Nat} {r : List UInt8} (h : edCnt s = (n, some r)) : s = some (putN n ++ r) ∧ n ≤ 200 := by
  unfold edCnt at h
  split at h
  · simp at h
  · rename_i hn
    simp only [Prod.mk.injEq] at h
    obtain ⟨h1, h2⟩ := h
    have := edNm_is (s := s) (n := (edNm s).1) (r := r) (by rw [← h2]) (by omega)
    unfold edNumB at this
    rw [h1] at this
    exact ⟨this, by omega⟩
theorem edCnt_le (s : Option (List UInt8)) : (edCnt s).1 ≤ 200 := by
  unfold edCnt
  split
  · exact Nat.zero_le _
  · show (edNm s).1.toNat ≤ 200
    omega
theorem text_get {l s : List UInt8} {k : Nat} (h : getT l = some (s, k)) : l = textE s ++ l.drop k ∧ k ≤ l.length ∧ s.length ≤ l.length := by
  unfold getT at h
  cases hg : getN l with
  | none => rw [hg] at h; cases h
  | some p =>
    obtain ⟨n, m⟩ := p
    rw [hg] at h
    obtain ⟨h1, h2, -⟩ := getN_le hg
    simp only at h
    split at h
    · rename_i hle
      simp only [Option.some.injEq, Prod.mk.injEq] at h
      obtain ⟨rfl, rfl⟩ := h
      refine ⟨?_, by omega, by rw [List.length_take, List.length_drop]; omega⟩
      have hn : ((l.drop m).take n).length = n := by rw [List.length_take, List.length_drop]; omega
      unfold textE
      rw [hn, ← put_get hg, ← List.drop_drop, List.append_assoc, List.take_append_drop, List.take_append_drop]
    · cases h
theorem edTx_is {s : Option (List UInt8)} {t : ByteArray} {r : List UInt8} (h : edTx s = (t, some r)) : s = some (textE t.data.toList ++ r) := by
  cases s with
  | none => simp [edTx] at h
  | some b =>
    unfold edTx at h
    simp only at h
    cases hg : getT b with
    | none => rw [hg] at h; simp at h
    | some p =>
      obtain ⟨m, k⟩ := p
      rw [hg] at h
      simp only [Prod.mk.injEq, Option.some.injEq] at h
      obtain ⟨rfl, rfl⟩ := h
      have := (text_get hg).1
      simp only []
      rw [← this]
theorem edTx_put (t : ByteArray) (h : t.size ≤ 13000) (r : List UInt8) : edTx (some (textE t.data.toList ++ r)) = (t, some r) := by
  have := size_toList t
  unfold edTx
  simp only
  rw [getT_text _ _ (by omega)]
  simp
theorem edFl_is {s : Option (List UInt8)} {f : Tbf} {r : List UInt8} (h : edFl s = (f, some r)) (hb : ¬ badTb f) : s = some (tbfB f ++ r) := by
  obtain ⟨⟨b1, -⟩, ⟨b3, -⟩, ⟨b5, -⟩, -⟩ := notBadTb hb
  unfold edFl at h
  simp only at h
  generalize ha : edNm s = a at h
  obtain ⟨a1, a2⟩ := a
  simp only at h
  generalize hb' : edNm a2 = b at h
  obtain ⟨c1, c2⟩ := b
  simp only at h
  generalize hc : edNm c2 = c at h
  obtain ⟨d1, d2⟩ := c
  simp only at h
  generalize hd : edTx d2 = d at h
  obtain ⟨e1, e2⟩ := d
  simp only at h
  generalize he : edTx e2 = e at h
  obtain ⟨g1, g2⟩ := e
  simp only [Prod.mk.injEq] at h
  obtain ⟨rfl, rfl⟩ := h
  simp only at b1 b3 b5
  obtain rfl := edTx_is he
  obtain rfl := edTx_is hd
  obtain rfl := edNm_is hc b5
  obtain rfl := edNm_is hb' b3
  rw [edNm_is ha (by omega)]
  unfold tbfB
  simp only [List.append_assoc]
theorem edFl_put {f : Tbf} (hb : ¬ badTb f) (r : List UInt8) : edFl (some (tbfB f ++ r)) = (f, some r) := by
  obtain ⟨⟨b1, b2⟩, ⟨b3, b4⟩, ⟨b5, b6⟩, b7, b8, -⟩ := notBadTb hb
  unfold edFl tbfB
  simp only [List.append_assoc]
  rw [edNm_put (by omega) b2]
  simp only
  rw [edNm_put b3 (by omega)]
  simp only
  rw [edNm_put b5 (by omega)]
  simp only
  rw [edTx_put _ b7]
  simp only
  rw [edTx_put _ b8]
theorem edMany_is {α : Type} {rd : Option (List UInt8) → α × Option (List UInt8)} {B : α → List UInt8} {ok : α → Prop} (hrd : ∀ s x r, rd s = (x, some r) → ok x → s = some (B x ++ r)) :
    ∀ {n : Nat} {s : Option (List UInt8)} {l : List α} {r : List UInt8}, edMany rd n s = (l, some r) → (∀ x ∈ l, ok x) → s = some (l.flatMap B ++ r) ∧ l.length = n
  | 0, s, l, r, h, _ => by
    simp only [edMany, Prod.mk.injEq] at h
    obtain ⟨rfl, rfl⟩ := h
    exact ⟨rfl, rfl⟩
  | n + 1, s, l, r, h, ho => by
    simp only [edMany, Prod.mk.injEq] at h
    obtain ⟨rfl, h2⟩ := h
    obtain ⟨h3, h4⟩ := edMany_is hrd (n := n) (s := (rd s).2) (l := (edMany rd n (rd s).2).1) (r := r) (by rw [← h2]) fun x hx => ho x (List.mem_cons_of_mem _ hx)
    refine ⟨?_, by rw [List.length_cons, h4]⟩
    exact (hrd s (rd s).1 _ (by rw [← h3]) (ho _ (List.mem_cons_self ..))).trans (by rw [List.flatMap_cons, List.append_assoc])
theorem edMany_put {α : Type} {rd : Option (List UInt8) → α × Option (List UInt8)} {B : α → List UInt8} {ok : α → Prop} (hrd : ∀ x r, ok x → rd (some (B x ++ r)) = (x, some r)) :
    ∀ (l : List α) (r : List UInt8), (∀ x ∈ l, ok x) → edMany rd l.length (some (l.flatMap B ++ r)) = (l, some r)
  | [], r, _ => rfl
  | x :: l, r, ho => by
    rw [List.length_cons, edMany, List.flatMap_cons, List.append_assoc, hrd x _ (ho _ (List.mem_cons_self ..))]
    simp only
    rw [edMany_put hrd l r fun y hy => ho y (List.mem_cons_of_mem _ hy)]
theorem edList_is {α : Type} {rd : Option (List UInt8) → α × Option (List UInt8)} {B : α → List UInt8} {ok : α → Prop} (hrd : ∀ s x r, rd s = (x, some r) → ok x → s = some (B x ++ r)) {s : Option (List UInt8)} {l : List α} {r : List UInt8} (h : edList rd s = (l, some r)) (ho : ∀ x ∈ l, ok x) :
    s = some (putN l.length ++ (l.flatMap B ++ r)) := by
  unfold edList at h
  obtain ⟨h1, h2⟩ := edMany_is hrd h ho
  rw [(edCnt_is (s := s) (n := (edCnt s).1) (by rw [← h1])).1, h2]
theorem edList_put {α : Type} {rd : Option (List UInt8) → α × Option (List UInt8)} {B : α → List UInt8} {ok : α → Prop} (hrd : ∀ x r, ok x → rd (some (B x ++ r)) = (x, some r)) (l : List α) (hl : l.length ≤ 200) (r : List UInt8) (ho : ∀ x ∈ l, ok x) :
    edList rd (some (putN l.length ++ (l.flatMap B ++ r))) = (l, some r) := by
  unfold edList
  rw [edCnt_put hl]
  exact edMany_put hrd l r ho
theorem decE_enc {e : Edt} (h : mayE e) : decE (edtB e) = some e := by
  obtain ⟨⟨⟨a1, a2⟩, ⟨b1, b2⟩, ⟨c1, c2⟩⟩, ⟨d1, d2⟩, hf, hn⟩ := id h
  have hr : edAll (edtB e) = (e, some []) := by
    unfold edAll edtB edHeadB
    simp only [List.append_assoc]
    rw [edNm_put a1 a2]
    simp only
    rw [edNm_put b1 b2]
    simp only
    rw [edNm_put c1 c2]
    simp only
    rw [edList_put (B := tbfB) (ok := fun f => ¬ badTb f) (fun x r hx => edFl_put hx r) e.adds d1 _ hf]
    simp only
    have := edList_put (rd := edNm) (B := edNumB) (ok := fun n => ¬ badTab n) (fun x r hx => edNm_put (by unfold badTab at hx; omega) (by unfold badTab at hx; omega) r) e.dels d2 [] hn
    rw [List.append_nil] at this
    rw [this]
  unfold decE
  rw [hr]
  exact if_pos ⟨rfl, h⟩
theorem decE_is {b : List UInt8} {e : Edt} (h : decE b = some e) : mayE e ∧ edtB e = b := by
  unfold decE at h
  split at h
  · rename_i hh
    obtain ⟨h1, h2⟩ := hh
    have h := Option.some.inj h
    rw [h] at h2
    refine ⟨h2, ?_⟩
    obtain ⟨⟨⟨a1, a2⟩, ⟨b1, b2⟩, ⟨c1, c2⟩⟩, ⟨d1, d2⟩, hf, hn⟩ := h2
    unfold edAll at h h1
    simp only at h h1
    generalize ha : edNm (some b) = a at h h1
    obtain ⟨x1, s1⟩ := a
    simp only at h h1
    generalize hb : edNm s1 = a at h h1
    obtain ⟨x2, s2⟩ := a
    simp only at h h1
    generalize hc : edNm s2 = a at h h1
    obtain ⟨x3, s3⟩ := a
    simp only at h h1
    generalize hd : edList edFl s3 = a at h h1
    obtain ⟨x4, s4⟩ := a
    simp only at h h1
    generalize he : edList edNm s4 = a at h h1
    obtain ⟨x5, s5⟩ := a
    simp only at h h1
    subst h h1
    simp only at a1 b1 c1 hf hn
    obtain rfl := edList_is (B := edNumB) (ok := fun n => ¬ badTab n) (fun s x r hx ho => edNm_is hx (by unfold badTab at ho; omega)) he hn
    obtain rfl := edList_is (B := tbfB) (ok := fun f => ¬ badTb f) (fun s x r hx ho => edFl_is hx ho) hd hf
    obtain rfl := edNm_is hc c1
    obtain rfl := edNm_is hb b1
    have := Option.some.inj (edNm_is ha a1)
    rw [this]
    unfold edtB edHeadB
    simp only [List.append_assoc, List.append_nil]
  · cases h
theorem edtB_inj {a b : Edt} (ha : mayE a) (hb : mayE b) (h : edtB a = edtB b) : a = b := by
  have h1 := decE_enc ha
  rw [h, decE_enc hb] at h1
  exact (Option.some.inj h1).symm
/-- Read on behind what was read. -/
theorem edMany_succ {α : Type} (rd : Option (List UInt8) → α × Option (List UInt8)) (n : Nat) (s : Option (List UInt8)) (xs : List α) :
    (xs ++ (edMany rd (n + 1) s).1, (edMany rd (n + 1) s).2) = ((xs ++ [(rd s).1]) ++ (edMany rd n (rd s).2).1, (edMany rd n (rd s).2).2) := by
  simp [edMany]
end Go.Proofs.Ytpaoabdjbdlalaa
