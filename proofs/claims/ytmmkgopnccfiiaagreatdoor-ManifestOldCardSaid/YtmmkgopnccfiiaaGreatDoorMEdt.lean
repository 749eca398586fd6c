/- Edits in plain words: a table, an edit, their cells, their bytes, what bytes hold: what is read of any bytes is an edit that may be just where these are its bytes. -/
import Derived.Test.YtmmkgopnccfiiaaGreatDoorMNum
import Derived.Test.YtmmkgopnccfiiaaGreatDoorMBase
import Derived.RegionTactic
import Derived.Deep.QuietTactic
import Derived.BigQuiet
import Derived.Deep.LoopGhost
import Derived.Deep.RegionHeld3
namespace Go.Proofs.YtmmkgopnccfiiaaGreatDoor
set_option linter.unusedVariables false
open Go.RowKit
structure Tbf where
  num : Int
  lvl : Int
  siz : Int
  lo : ByteArray
  hi : ByteArray
def Tbf.none : Tbf := ⟨0, 0, 0, ⟨#[]⟩, ⟨#[]⟩⟩
def encTbf (f : Tbf) : List Value := [.int .i64 f.num, .int .i64 f.lvl, .int .i64 f.siz, .string f.lo, .string f.hi]
def Tbf.v (f : Tbf) : Value := .agg #[.int .i64 f.num, .int .i64 f.lvl, .int .i64 f.siz, .string f.lo, .string f.hi]
theorem encTbf_len : EncK encTbf 5 := fun _ => rfl
theorem encTbf_one (l : List Tbf) : ∀ u ∈ l.flatMap encTbf, u.oneCell' = true := by
  intro u hu
  obtain ⟨e, -, h⟩ := List.mem_flatMap.1 hu
  simp only [encTbf, List.mem_cons, List.not_mem_nil, or_false] at h
  rcases h with rfl | rfl | rfl | rfl | rfl <;> rfl
theorem tbf_cells (f : Tbf) : ∀ u ∈ encTbf f, u.oneCell' = true := fun u hu => encTbf_one [f] u (by simpa using hu)
def Tbf.ok (f : Tbf) : Prop := f.lo.size ≤ maxLen ∧ f.hi.size ≤ maxLen
structure Edt where
  nxt : Int
  lg : Int
  lst : Int
  adds : List Tbf
  dels : List Int
def Edt.none : Edt := ⟨0, 0, 0, [], []⟩
def badTab (n : Int) : Prop := n < 1 ∨ 1125899906842624 < n
instance (n : Int) : Decidable (badTab n) := inferInstanceAs (Decidable (_ ∨ _))
def badTb (f : Tbf) : Prop := badTab f.num ∨ f.lvl < 0 ∨ 5 ≤ f.lvl ∨ f.siz < 0 ∨ 16777216 < f.siz ∨ 13000 < f.lo.size ∨ 13000 < f.hi.size ∨ bl f.hi f.lo
instance (f : Tbf) : Decidable (badTb f) := inferInstanceAs (Decidable (_ ∨ _ ∨ _ ∨ _ ∨ _ ∨ _ ∨ _ ∨ _))
def okEdN (n : Int) : Prop := 0 ≤ n ∧ n ≤ 1125899906842624
instance (n : Int) : Decidable (okEdN n) := inferInstanceAs (Decidable (_ ∧ _))
/-- An edit that may be. -/
def mayE (e : Edt) : Prop := (okEdN e.nxt ∧ okEdN e.lg ∧ okEdN e.lst) ∧ (e.adds.length ≤ 200 ∧ e.dels.length ≤ 200) ∧ (∀ f ∈ e.adds, ¬ badTb f) ∧ ∀ n ∈ e.dels, ¬ badTab n
instance (e : Edt) : Decidable (mayE e) := inferInstanceAs (Decidable (_ ∧ _ ∧ _ ∧ _))
theorem notBadTb {f : Tbf} (h : ¬ badTb f) : (1 ≤ f.num ∧ f.num ≤ 1125899906842624) ∧ (0 ≤ f.lvl ∧ f.lvl < 5) ∧ (0 ≤ f.siz ∧ f.siz ≤ 16777216) ∧ f.lo.size ≤ 13000 ∧ f.hi.size ≤ 13000 ∧ ¬ bl f.hi f.lo := by
  simp only [badTb, badTab, not_or] at h
  obtain ⟨⟨h1, h2⟩, h3, h4, h5, h6, h7, h8, h9⟩ := h
  exact ⟨⟨by omega, by omega⟩, ⟨by omega, by omega⟩, ⟨by omega, by omega⟩, by omega, by omega, h9⟩
def edNumB (n : Int) : List UInt8 := putN n.toNat
def tbfB (f : Tbf) : List UInt8 := edNumB f.num ++ (edNumB f.lvl ++ (edNumB f.siz ++ (textE f.lo.data.toList ++ textE f.hi.data.toList)))
def edHeadB (e : Edt) : List UInt8 := edNumB e.nxt ++ (edNumB e.lg ++ (edNumB e.lst ++ putN e.adds.length))
/-- An edit's bytes. -/
def edtB (e : Edt) : List UInt8 := edHeadB e ++ (e.adds.flatMap tbfB ++ (putN e.dels.length ++ e.dels.flatMap edNumB))
theorem edNumB_len (n : Int) : (edNumB n).length ≤ 10 := (putN_len _).2
theorem tbfB_len {f : Tbf} (h : ¬ badTb f) : (tbfB f).length ≤ 26100 := by
  obtain ⟨-, -, -, h1, h2, -⟩ := notBadTb h
  have a1 := edNumB_len f.num
  have a2 := edNumB_len f.lvl
  have a3 := edNumB_len f.siz
  have a4 := (putN_len f.lo.data.toList.length).2
  have a5 := (putN_len f.hi.data.toList.length).2
  have a6 := size_toList f.lo
  have a7 := size_toList f.hi
  unfold tbfB textE
  simp only [List.length_append]
  omega
/-- What a reader takes as a number; none: it is broken. -/
def edNm : Option (List UInt8) → Int × Option (List UInt8)
  | .none => (0, .none)
  | .some b => match getN b with
    | .none => (0, .none)
    | .some (n, k) => (wrap64 (n : Int), .some (b.drop k))
/-- As a text. -/
def edTx : Option (List UInt8) → ByteArray × Option (List UInt8)
  | .none => (⟨#[]⟩, .none)
  | .some b => match getT b with
    | .none => (⟨#[]⟩, .none)
    | .some (s, k) => (⟨s.toArray⟩, .some (b.drop k))
/-- As a list's length. -/
def edCnt (s : Option (List UInt8)) : Nat × Option (List UInt8) := if (edNm s).1 < 0 ∨ 200 < (edNm s).1 then (0, .none) else ((edNm s).1.toNat, (edNm s).2)
def edFl (s : Option (List UInt8)) : Tbf × Option (List UInt8) :=
  let a := edNm s
  let b := edNm a.2
  let c := edNm b.2
  let d := edTx c.2
  let e := edTx d.2
  (⟨a.1, b.1, c.1, d.1, e.1⟩, e.2)
def edMany {α : Type} (rd : Option (List UInt8) → α × Option (List UInt8)) : Nat → Option (List UInt8) → List α × Option (List UInt8)
  | 0, s => ([], s)
  | n + 1, s => ((rd s).1 :: (edMany rd n (rd s).2).1, (edMany rd n (rd s).2).2)
def edList {α : Type} (rd : Option (List UInt8) → α × Option (List UInt8)) (s : Option (List UInt8)) : List α × Option (List UInt8) := edMany rd (edCnt s).1 (edCnt s).2
def edAll (b : List UInt8) : Edt × Option (List UInt8) :=
  let a1 := edNm (.some b)
  let a2 := edNm a1.2
  let a3 := edNm a2.2
  let a4 := edList edFl a3.2
  let a5 := edList edNm a4.2
  (⟨a1.1, a2.1, a3.1, a4.1, a5.1⟩, a5.2)
/-- The edit whose bytes these are. -/
def decE (b : List UInt8) : Option Edt := if (edAll b).2 = .some [] ∧ mayE (edAll b).1 then .some (edAll b).1 else .none
theorem wrap64_of {n : Nat} (hn : n < 2 ^ 63) : wrap64 (n : Int) = n := by unfold wrap64; omega
theorem edNm_put {n : Int} (h0 : 0 ≤ n) (h1 : n ≤ 1125899906842624) (r : List UInt8) : edNm (some (edNumB n ++ r)) = (n, some r) := by
  obtain ⟨m, rfl⟩ := Int.eq_ofNat_of_zero_le h0
  unfold edNumB edNm
  rw [Int.toNat_natCast]
  simp only
  rw [get_put (by omega)]
  simp only
  rw [wrap64_of (by omega), List.drop_left' rfl]
theorem edCnt_put {n : Nat} (h : n ≤ 200) (r : List UInt8) : edCnt (some (putN n ++ r)) = (n, some r) := by
  have := edNm_put (n := (n : Int)) (by omega) (by omega) r
  unfold edNumB at this
  rw [Int.toNat_natCast] at this
  unfold edCnt
  rw [this]
  simp only
  rw [if_neg (by omega), Int.toNat_natCast]
theorem edCnt_le (s : Option (List UInt8)) : (edCnt s).1 ≤ 200 := by
  unfold edCnt
  split
  · exact Nat.zero_le _
  · show (edNm s).1.toNat ≤ 200
    omega
theorem text_get {l s : List UInt8} {k : Nat} (h : getT l = some (s, k)) : l = textE s ++ l.drop k ∧ k ≤ l.length ∧ s.length ≤ l.length := by
  unfold getT at h
  cases hg : getN l with
  | none => rw [hg] at h; cases h
  | some p =>
    obtain ⟨n, m⟩ := p
    rw [hg] at h
    obtain ⟨h1, h2, -⟩ := getN_le hg
    simp only at h
    split at h
    · rename_i hle
      simp only [Option.some.injEq, Prod.mk.injEq] at h
      obtain ⟨rfl, rfl⟩ := h
      refine ⟨?_, by omega, by rw [List.length_take, List.length_drop]; omega⟩
      have hn : ((l.drop m).take n).length = n := by rw [List.length_take, List.length_drop]; omega
      unfold textE
      rw [hn, ← put_get hg, ← List.drop_drop, List.append_assoc, List.take_append_drop, List.take_append_drop]
    · cases h
theorem edTx_put (t : ByteArray) (h : t.size ≤ 13000) (r : List UInt8) : edTx (some (textE t.data.toList ++ r)) = (t, some r) := by
  have := size_toList t
  unfold edTx
  simp only
  rw [getT_text _ _ (by omega)]
  simp
theorem edFl_put {f : Tbf} (hb : ¬ badTb f) (r : List UInt8) : edFl (some (tbfB f ++ r)) = (f, some r) := by
  obtain ⟨⟨b1, b2⟩, ⟨b3, b4⟩, ⟨b5, b6⟩, b7, b8, -⟩ := notBadTb hb
  unfold edFl tbfB
  simp only [List.append_assoc]
  rw [edNm_put (by omega) b2]
  simp only
  rw [edNm_put b3 (by omega)]
  simp only
  rw [edNm_put b5 (by omega)]
  simp only
  rw [edTx_put _ b7]
  simp only
  rw [edTx_put _ b8]
theorem edMany_put {α : Type} {rd : Option (List UInt8) → α × Option (List UInt8)} {B : α → List UInt8} {ok : α → Prop} (hrd : ∀ x r, ok x → rd (some (B x ++ r)) = (x, some r)) :
    ∀ (l : List α) (r : List UInt8), (∀ x ∈ l, ok x) → edMany rd l.length (some (l.flatMap B ++ r)) = (l, some r)
  | [], r, _ => rfl
  | x :: l, r, ho => by
    rw [List.length_cons, edMany, List.flatMap_cons, List.append_assoc, hrd x _ (ho _ (List.mem_cons_self ..))]
    simp only
    rw [edMany_put hrd l r fun y hy => ho y (List.mem_cons_of_mem _ hy)]
theorem edList_put {α : Type} {rd : Option (List UInt8) → α × Option (List UInt8)} {B : α → List UInt8} {ok : α → Prop} (hrd : ∀ x r, ok x → rd (some (B x ++ r)) = (x, some r)) (l : List α) (hl : l.length ≤ 200) (r : List UInt8) (ho : ∀ x ∈ l, ok x) :
    edList rd (some (putN l.length ++ (l.flatMap B ++ r))) = (l, some r) := by
  unfold edList
  rw [edCnt_put hl]
  exact edMany_put hrd l r ho
theorem decE_enc {e : Edt} (h : mayE e) : decE (edtB e) = some e := by
  obtain ⟨⟨⟨a1, a2⟩, ⟨b1, b2⟩, ⟨c1, c2⟩⟩, ⟨d1, d2⟩, hf, hn⟩ := id h
  have hr : edAll (edtB e) = (e, some []) := by
    unfold edAll edtB edHeadB
    simp only [List.append_assoc]
    rw [edNm_put a1 a2]
    simp only
    rw [edNm_put b1 b2]
    simp only
    rw [edNm_put c1 c2]
    simp only
    rw [edList_put (B := tbfB) (ok := fun f => ¬ badTb f) (fun x r hx => edFl_put hx r) e.adds d1 _ hf]
    simp only
    have := edList_put (rd := edNm) (B := edNumB) (ok := fun n => ¬ badTab n) (fun x r hx => edNm_put (by unfold badTab at hx; omega) (by unfold badTab at hx; omega) r) e.dels d2 [] hn
    rw [List.append_nil] at this
    rw [this]
  unfold decE
  rw [hr]
  exact if_pos ⟨rfl, h⟩
/-- Read on behind what was read. -/
theorem edMany_succ {α : Type} (rd : Option (List UInt8) → α × Option (List UInt8)) (n : Nat) (s : Option (List UInt8)) (xs : List α) :
    (xs ++ (edMany rd (n + 1) s).1, (edMany rd (n + 1) s).2) = ((xs ++ [(rd s).1]) ++ (edMany rd n (rd s).2).1, (edMany rd n (rd s).2).2) := by
  simp [edMany]
end Go.Proofs.YtmmkgopnccfiiaaGreatDoor
/- The walks of isNumber, isNoTable, isNoFile. -/
namespace Go.Proofs.YtmmkgopnccfiiaaGreatDoor
set_option linter.unusedVariables false
set_option maxRecDepth 100000
open Go.RowKit
theorem edIsnum_any (n : Int) (w : World) : Calls Tryz.prog 75 #[.int .i64 n] w fun e w' => e = .returned (.bool (decide (okEdN n))) ∧ w' = w := by
  obtain ⟨V, hV⟩ : ∃ V, decide (okEdN n) = V := ⟨_, rfl⟩
  rw [hV]
  by_cases h1 : 0 ≤ n
  · by_cases h2 : n ≤ 1125899906842624
    · obtain rfl : V = true := by rw [← hV]; exact decide_eq_true ⟨h1, h2⟩
      clear hV
      go_enter Tryz.func75, Tryz.ntmps75
      go_wp2
      go_ret
      exact ⟨rfl, rfl⟩
    · obtain rfl : V = false := by rw [← hV]; exact decide_eq_false (by unfold okEdN; omega)
      clear hV
      go_enter Tryz.func75, Tryz.ntmps75
      go_wp2
      go_ret
      exact ⟨rfl, rfl⟩
  · obtain rfl : V = false := by rw [← hV]; exact decide_eq_false (by unfold okEdN; omega)
    clear hV
    go_enter Tryz.func75, Tryz.ntmps75
    go_wp2
    go_ret
    exact ⟨rfl, rfl⟩
theorem edNotab_any (n : Int) (w : World) : Calls Tryz.prog 79 #[.int .i64 n] w fun e w' => e = .returned (.bool (decide (badTab n))) ∧ w' = w := by
  obtain ⟨V, hV⟩ : ∃ V, decide (badTab n) = V := ⟨_, rfl⟩
  rw [hV]
  by_cases h1 : n < 1
  · obtain rfl : V = true := by rw [← hV]; exact decide_eq_true (.inl h1)
    clear hV
    go_enter Tryz.func79, Tryz.ntmps79
    go_wp2
    go_ret
    exact ⟨rfl, rfl⟩
  · by_cases h2 : 1125899906842624 < n
    · obtain rfl : V = true := by rw [← hV]; exact decide_eq_true (.inr h2)
      clear hV
      go_enter Tryz.func79, Tryz.ntmps79
      go_wp2
      go_ret
      exact ⟨rfl, rfl⟩
    · obtain rfl : V = false := by rw [← hV]; exact decide_eq_false (by unfold badTab; omega)
      clear hV
      go_enter Tryz.func79, Tryz.ntmps79
      go_wp2
      go_ret
      exact ⟨rfl, rfl⟩
theorem bl_gtr (lo hi : ByteArray) : (!Op.bytesLess lo.toList hi.toList && !lo.toList == hi.toList) = decide (bl hi lo) := by
  rcases bl_tri lo hi with h | rfl | h
  · rw [bs_less _ _ h, decide_eq_false fun k => bl_irr _ (bl_trans h k)]; rfl
  · rw [bs_not _ _ (bl_irr _), bs_refl, decide_eq_false (bl_irr _)]; rfl
  · have hn : ¬ bl lo hi := fun k => bl_irr _ (bl_trans h k)
    have hne : lo ≠ hi := by rintro rfl; exact bl_irr _ h
    rw [bs_not _ _ hn, bs_ne hne, decide_eq_true h]; rfl
theorem badTb_bool {n l s : Int} {lo hi : ByteArray} (h : ¬ badTab n) :
    (decide (l < 0) || decide (5 ≤ l) || decide (s < 0) || decide (16777216 < s) || decide ((13000 : Int) < (lo.size : Int)) || decide ((13000 : Int) < (hi.size : Int)) || (!Op.bytesLess lo.toList hi.toList && !lo.toList == hi.toList)) = decide (badTb ⟨n, l, s, lo, hi⟩) := by
  have e1 : decide ((13000 : Int) < (lo.size : Int)) = decide (13000 < lo.size) := by rw [decide_eq_decide]; omega
  have e2 : decide ((13000 : Int) < (hi.size : Int)) = decide (13000 < hi.size) := by rw [decide_eq_decide]; omega
  rw [bl_gtr, e1, e2]
  unfold badTb
  simp [h, Bool.or_assoc]
set_option maxHeartbeats 4000000 in
theorem edNofil_raw (n l s : Int) (lo hi : ByteArray) (h1 : lo.size ≤ maxLen) (h2 : hi.size ≤ maxLen) (w : World) : Calls Tryz.prog 77 #[.agg #[.int .i64 n, .int .i64 l, .int .i64 s, .string lo, .string hi]] w fun e w' => e = .returned (.bool (decide (badTb ⟨n, l, s, lo, hi⟩))) ∧ Below w.heap.size w w' := by
  have HT : Hid (∀ w, Calls Tryz.prog 79 #[.int .i64 n] w fun e w' => e = .returned (.bool (decide (badTab n))) ∧ w' = w) := Lib.hid (edNotab_any n)
  unfold maxLen at h1 h2
  by_cases hb : badTab n
  · obtain ⟨V, hV⟩ : ∃ V, decide (badTb ⟨n, l, s, lo, hi⟩) = V := ⟨_, rfl⟩
    rw [hV]
    obtain rfl : V = true := by rw [← hV]; exact decide_eq_true (.inl hb)
    rw [decide_eq_true hb] at HT
    clear hV hb
    go_enter Tryz.func77, Tryz.ntmps77
    go_wp2_with fail
    refine (HT.out _).mono ?_
    rintro e w1 ⟨rfl, rfl⟩
    clear HT
    go_wp2_with fail
    go_ret
    exact ⟨rfl, (Below.refl _ _).alloc (Nat.le_refl _) _⟩
  · rw [decide_eq_false hb] at HT
    obtain ⟨V, hV⟩ : ∃ V, decide (badTb ⟨n, l, s, lo, hi⟩) = V := ⟨_, rfl⟩
    rw [hV]
    have HV := Lib.hid ((badTb_bool hb).trans hV)
    clear hV hb
    go_enter Tryz.func77, Tryz.ntmps77
    go_wp2_with fail
    refine (HT.out _).mono ?_
    rintro e w1 ⟨rfl, rfl⟩
    clear HT
    have HF : ∀ b : Bool, (decide (l < 0) || decide (5 ≤ l) || decide (s < 0) || decide (16777216 < s) || decide ((13000 : Int) < (lo.size : Int)) || decide ((13000 : Int) < (hi.size : Int)) || (!Op.bytesLess lo.toList hi.toList && !lo.toList == hi.toList)) = b → b = V := fun b hb => hb.symm.trans HV.out
    have HF2 := Lib.hid HF
    clear HF HV
    go_wp2
    all_goals
      go_ret
      refine ⟨?_, (Below.refl _ _).alloc (Nat.le_refl _) _⟩
      first
        | exact congrArg (fun b => Ending.returned (Value.bool b)) (HF2.out _ rfl)
        | exact congrArg (fun b => Ending.returned (Value.bool b)) (HF2.out true (by simp only [*, decide_true, Bool.or_true, Bool.true_or]))
theorem edNofil_any (f : Tbf) (hf : f.ok) (w : World) : Calls Tryz.prog 77 #[f.v] w fun e w' => e = .returned (.bool (decide (badTb f))) ∧ Below w.heap.size w w' := edNofil_raw f.num f.lvl f.siz f.lo f.hi hf.1 hf.2 w
end Go.Proofs.YtmmkgopnccfiiaaGreatDoor
/- The walks of the library's IndexFunc and ContainsFunc at tables and at numbers. -/
namespace Go.Proofs.YtmmkgopnccfiiaaGreatDoor
set_option linter.unusedVariables false
set_option maxRecDepth 100000
open Go.RowKit
theorem elem_tbf : ElemK Tryz.prog 30 35 5 56 (.agg #[.int .i64 0, .int .i64 0, .int .i64 0, .string ⟨#[]⟩, .string ⟨#[]⟩]) := ⟨Tryz.underlying30, by kernel_rfl, rfl, by decide⟩
theorem elem_i64 : ElemOk Tryz.prog 22 2 8 (.int .i64 0) := ⟨Tryz.underlying22, by kernel_rfl, rfl⟩
/-- The five cells of a table. -/
structure AtTbf (w : World) (b o : Nat) (f : Tbf) : Prop where
  c0 : w.cell? ⟨b, o, none⟩ = some (.int .i64 f.num)
  c1 : w.cell? ⟨b, o + 1, none⟩ = some (.int .i64 f.lvl)
  c2 : w.cell? ⟨b, o + 2, none⟩ = some (.int .i64 f.siz)
  c3 : w.cell? ⟨b, o + 3, none⟩ = some (.string f.lo)
  c4 : w.cell? ⟨b, o + 4, none⟩ = some (.string f.hi)
theorem edFl_len {w : World} {v : Value} {xs : List Tbf} (h : RdK encTbf 5 w v xs) : ∃ a cap, v = .slice a xs.length cap ∧ (0 < xs.length → cap ≤ maxLen ∧ xs.length ≤ cap) := by
  rcases h with ⟨a, cap, h1, rfl⟩ | ⟨b, off, cap, h1, h2, h3, h4, -⟩
  · exact ⟨a, cap, h1, fun h => by simp at h⟩
  · exact ⟨_, cap, h1, fun _ => ⟨h4, h3⟩⟩
theorem RdK.atTbf {w : World} {a : Option Addr} {len cap : Nat} {xs : List Tbf} (h : RdK encTbf 5 w (.slice a len cap) xs) (q : Nat) (x : Tbf) (hx : xs[q]? = some x) :
    ∃ b off, a = some ⟨b, off, none⟩ ∧ b < w.heap.size ∧ AtTbf w b (off + q * 5) x := by
  rcases h with ⟨_, _, _, rfl⟩ | ⟨b, off, c, e, h1, h2, h3, h4, h5⟩
  · simp at hx
  · simp only [Value.slice.injEq] at e
    exact ⟨b, off, e.1, h4, h5 q 0 x hx (by decide), h5 q 1 x hx (by decide), h5 q 2 x hx (by decide), h5 q 3 x hx (by decide), h5 q 4 x hx (by decide)⟩
/-- What a search tells: a place, or -1. -/
def FoundAt (n : Nat) (some : Prop) (i : Int) : Prop := -1 ≤ i ∧ i < n ∧ (0 ≤ i ↔ some)
set_option maxHeartbeats 4000000 in
theorem idxF_any (v : Value) (xs : List Tbf) (hok : ∀ f ∈ xs, f.ok) (hl : xs.length ≤ 1000000000000) (w : World) (h : RdK encTbf 5 w v xs) :
    Calls Tryz.prog 112 #[v, .func (.func 77) #[] #[]] w fun e w' => ∃ i : Int, e = .returned (.int .i64 i) ∧ FoundAt xs.length (∃ f ∈ xs, badTb f) i ∧ Below w.heap.size w w' := by
  obtain ⟨a, cap, rfl, -⟩ := edFl_len h
  have HRD := Lib.hid h
  have HOK := Lib.hid hok
  obtain ⟨N, hN⟩ : ∃ N, xs.length = N := ⟨_, rfl⟩
  have HN := Lib.hid hN
  rw [hN] at HRD hl ⊢
  have HP : Hid (∀ (f : Tbf), f.ok → ∀ w, Calls Tryz.prog 77 #[f.v] w fun e w' => e = .returned (.bool (decide (badTb f))) ∧ Below w.heap.size w w') := Lib.hid edNofil_any
  clear h hok hN
  go_enter Tryz.func112, Tryz.ntmps112
  go_wp2_with fail
  go_loopg [5, 8] N (fun kk _ vi wr => ∃ i : Nat, vi = .int .i64 (i : Int) ∧ i ≤ N ∧ N - i ≤ kk ∧ Hid (∀ j x, j < i → xs[j]? = some x → ¬ badTb x) ∧ Hid (Below w.heap.size w wr))
  case atStart => exact ⟨0, rfl, by omega, by omega, Lib.hid (fun j x hj => by omega), Lib.hid (Below.refl _ _)⟩
  case round =>
    obtain ⟨q, rfl, hq, hkk, HG, HB⟩ := hrel
    by_cases h1 : q < N
    · have hd1 : (q : Int) < (N : Int) := by omega
      have hd0 : (0 : Int) ≤ (q : Int) := by omega
      obtain ⟨x, hx⟩ : ∃ x, xs[q]? = some x := ⟨xs[q]'(by have := HN.out; omega), List.getElem?_eq_getElem _⟩
      obtain ⟨b, off, rfl, hblt, d0, d1, d2, d3, d4⟩ := (HRD.out.below HB.out).atTbf q x hx
      have HX := Lib.hid hx
      have HC := Lib.hid (HP.out x (HOK.out x (List.mem_of_getElem? hx)) wr)
      clear hx
      obtain ⟨V, hV⟩ : ∃ V, decide (badTb x) = V := ⟨_, rfl⟩
      rw [hV] at HC
      have HV := Lib.hid hV
      clear hV
      obtain ⟨x0, x1, x2, x3, x4⟩ := x
      unfold Tbf.v at HC
      simp only at d0 d1 d2 d3 d4 HC
      go_wp2_with fail
      refine HC.out.mono ?_
      rintro e w2 ⟨rfl, hb⟩
      have HB2 := Lib.hid (HB.out.trans (hb.mono HB.out.size))
      clear hb HC HB d0 d1 d2 d3 d4
      cases V with
      | true =>
        have HF : Hid (FoundAt N (∃ f ∈ xs, badTb f) (q : Int)) := Lib.hid ⟨by omega, by omega, fun _ => ⟨_, List.mem_of_getElem? HX.out, of_decide_eq_true HV.out⟩, fun _ => by omega⟩
        clear HV HX HG
        go_wp2_with fail
        go_ret
        exact ⟨_, rfl, HF.out, HB2.out⟩
      | false =>
        have HG2 : Hid (∀ j x, j < q + 1 → xs[j]? = some x → ¬ badTb x) := Lib.hid fun j y hj hy => by
          rcases Nat.lt_or_ge j q with h | h
          · exact HG.out j y h hy
          · obtain rfl : j = q := by omega
            rw [HX.out] at hy
            obtain rfl := Option.some.inj hy
            exact of_decide_eq_false HV.out
        clear HV HX HG
        go_wp2_with fail
        go_roundg (N - (q + 1))
        case measure => omega
        case rel => exact ⟨q + 1, by go_num, by omega, Nat.le_refl _, HG2, HB2⟩
    · have hd1 : ¬ (q : Int) < (N : Int) := by omega
      have HF : Hid (FoundAt N (∃ f ∈ xs, badTb f) (-1)) := Lib.hid ⟨by omega, by omega, fun h => by omega, fun ⟨f, hf, hb⟩ => by
        obtain ⟨j, hj, rfl⟩ := List.getElem_of_mem hf
        exact absurd hb (HG.out j _ (by have := HN.out; omega) (List.getElem?_eq_getElem hj))⟩
      clear HG
      go_wp2_with fail
      go_ret
      exact ⟨_, rfl, HF.out, HB.out⟩
theorem foundAt_yes {n : Nat} {p : Prop} {i : Int} (h : FoundAt n p i) [Decidable p] : decide (0 ≤ i) = decide p := by
  rw [decide_eq_decide]; exact h.2.2
set_option maxHeartbeats 4000000 in
theorem conF_any (v : Value) (xs : List Tbf) (hok : ∀ f ∈ xs, f.ok) (hl : xs.length ≤ 1000000000000) (w : World) (h : RdK encTbf 5 w v xs) :
    Calls Tryz.prog 76 #[v, .func (.func 77) #[] #[]] w fun e w' => e = .returned (.bool (decide (∃ f ∈ xs, badTb f))) ∧ Below w.heap.size w w' := by
  have HI := Lib.hid (idxF_any v xs hok hl w h)
  clear h hok
  go_enter Tryz.func76, Tryz.ntmps76
  go_wp2_with fail
  refine HI.out.mono ?_
  rintro e w2 ⟨i, rfl, hi, hb⟩
  have HF := Lib.hid (And.intro hi hb)
  clear hi hb HI
  go_wp2_with fail
  go_ret
  exact ⟨congrArg (fun b => Ending.returned (Value.bool b)) (foundAt_yes HF.out.1), HF.out.2⟩
def encI64 (n : Int) : Value := .int .i64 n
theorem edInts_len {w : World} {v : Value} {xs : List Int} (h : RdV w v (xs.map encI64)) : ∃ a cap, v = .slice a xs.length cap := by
  rcases h with ⟨a, cap, h1, e⟩ | ⟨b, off, cap, h1, -⟩
  · have : xs = [] := by simpa using e
    subst this; exact ⟨a, cap, h1⟩
  · rw [List.length_map] at h1; exact ⟨_, cap, h1⟩
theorem edInts_at {w : World} {a : Option Addr} {len cap : Nat} {xs : List Int} (h : RdV w (.slice a len cap) (xs.map encI64)) (q : Nat) (x : Int) (hx : xs[q]? = some x) :
    ∃ b off, a = some ⟨b, off, none⟩ ∧ b < w.heap.size ∧ w.cell? ⟨b, off + q, none⟩ = some (.int .i64 x) := by
  have hq := (List.getElem?_eq_some_iff.1 hx).1
  obtain ⟨b, off, rfl, h1, h2⟩ := rdV_cells h (by rw [List.length_map]; omega)
  refine ⟨b, off, rfl, h1, ?_⟩
  rw [h2 q (by rw [List.length_map]; exact hq), List.getD_eq_getElem?_getD, List.getElem?_map, hx]; rfl
set_option maxHeartbeats 4000000 in
theorem idxI_any (v : Value) (xs : List Int) (hl : xs.length ≤ 1000000000000) (w : World) (h : RdV w v (xs.map encI64)) :
    Calls Tryz.prog 113 #[v, .func (.func 79) #[] #[]] w fun e w' => ∃ i : Int, e = .returned (.int .i64 i) ∧ FoundAt xs.length (∃ f ∈ xs, badTab f) i ∧ Below w.heap.size w w' := by
  obtain ⟨a, cap, rfl⟩ := edInts_len h
  have HRD := Lib.hid h
  obtain ⟨N, hN⟩ : ∃ N, xs.length = N := ⟨_, rfl⟩
  have HN := Lib.hid hN
  rw [hN] at HRD hl ⊢
  have HP : Hid (∀ (n : Int) w, Calls Tryz.prog 79 #[.int .i64 n] w fun e w' => e = .returned (.bool (decide (badTab n))) ∧ w' = w) := Lib.hid edNotab_any
  clear h hN
  go_enter Tryz.func113, Tryz.ntmps113
  go_wp2_with fail
  go_loopg [5, 8] N (fun kk _ vi wr => ∃ i : Nat, vi = .int .i64 (i : Int) ∧ i ≤ N ∧ N - i ≤ kk ∧ Hid (∀ j x, j < i → xs[j]? = some x → ¬ badTab x) ∧ Hid (Below w.heap.size w wr))
  case atStart => exact ⟨0, rfl, by omega, by omega, Lib.hid (fun j x hj => by omega), Lib.hid (Below.refl _ _)⟩
  case round =>
    obtain ⟨q, rfl, hq, hkk, HG, HB⟩ := hrel
    by_cases h1 : q < N
    · have hd1 : (q : Int) < (N : Int) := by omega
      have hd0 : (0 : Int) ≤ (q : Int) := by omega
      obtain ⟨x, hx⟩ : ∃ x, xs[q]? = some x := ⟨xs[q]'(by have := HN.out; omega), List.getElem?_eq_getElem _⟩
      obtain ⟨b, off, rfl, hblt, d0⟩ := edInts_at (RdV.below HRD.out HB.out) q x hx
      have HX := Lib.hid hx
      have HC := Lib.hid (HP.out x)
      clear hx
      obtain ⟨V, hV⟩ : ∃ V, decide (badTab x) = V := ⟨_, rfl⟩
      rw [hV] at HC
      have HV := Lib.hid hV
      clear hV
      go_wp2_with fail
      refine (HC.out _).mono ?_
      rintro e w2 ⟨rfl, rfl⟩
      clear HC d0
      cases V with
      | true =>
        have HF : Hid (FoundAt N (∃ f ∈ xs, badTab f) (q : Int)) := Lib.hid ⟨by omega, by omega, fun _ => ⟨_, List.mem_of_getElem? HX.out, of_decide_eq_true HV.out⟩, fun _ => by omega⟩
        clear HV HX HG
        go_wp2_with fail
        go_ret
        exact ⟨_, rfl, HF.out, HB.out⟩
      | false =>
        have HG2 : Hid (∀ j x, j < q + 1 → xs[j]? = some x → ¬ badTab x) := Lib.hid fun j y hj hy => by
          rcases Nat.lt_or_ge j q with h | h
          · exact HG.out j y h hy
          · obtain rfl : j = q := by omega
            rw [HX.out] at hy
            obtain rfl := Option.some.inj hy
            exact of_decide_eq_false HV.out
        clear HV HX HG
        go_wp2_with fail
        go_roundg (N - (q + 1))
        case measure => omega
        case rel => exact ⟨q + 1, by go_num, by omega, Nat.le_refl _, HG2, HB⟩
    · have hd1 : ¬ (q : Int) < (N : Int) := by omega
      have HF : Hid (FoundAt N (∃ f ∈ xs, badTab f) (-1)) := Lib.hid ⟨by omega, by omega, fun h => by omega, fun ⟨f, hf, hb⟩ => by
        obtain ⟨j, hj, rfl⟩ := List.getElem_of_mem hf
        exact absurd hb (HG.out j _ (by have := HN.out; omega) (List.getElem?_eq_getElem hj))⟩
      clear HG
      go_wp2_with fail
      go_ret
      exact ⟨_, rfl, HF.out, HB.out⟩
set_option maxHeartbeats 4000000 in
theorem conI_any (v : Value) (xs : List Int) (hl : xs.length ≤ 1000000000000) (w : World) (h : RdV w v (xs.map encI64)) :
    Calls Tryz.prog 78 #[v, .func (.func 79) #[] #[]] w fun e w' => e = .returned (.bool (decide (∃ f ∈ xs, badTab f))) ∧ Below w.heap.size w w' := by
  have HI := Lib.hid (idxI_any v xs hl w h)
  clear h
  go_enter Tryz.func78, Tryz.ntmps78
  go_wp2_with fail
  refine HI.out.mono ?_
  rintro e w2 ⟨i, rfl, hi, hb⟩
  have HF := Lib.hid (And.intro hi hb)
  clear hi hb HI
  go_wp2_with fail
  go_ret
  exact ⟨congrArg (fun b => Ending.returned (Value.bool b)) (foundAt_yes HF.out.1), HF.out.2⟩
end Go.Proofs.YtmmkgopnccfiiaaGreatDoor
/- The walk of Check. -/
namespace Go.Proofs.YtmmkgopnccfiiaaGreatDoor
set_option linter.unusedVariables false
set_option maxRecDepth 100000
open Go.RowKit
/-- v is an edit that reads as e. -/
def EdAt (w : World) (v : Value) (e : Edt) : Prop := ∃ va vd, v = .agg #[.int .i64 e.nxt, .int .i64 e.lg, .int .i64 e.lst, va, vd] ∧ RdK encTbf 5 w va e.adds ∧ RdV w vd (e.dels.map encI64)
theorem EdAt.below {w w' : World} {v : Value} {e : Edt} (h : EdAt w v e) (hb : Below w.heap.size w w') : EdAt w' v e := by
  obtain ⟨va, vd, rfl, h1, h2⟩ := h
  exact ⟨va, vd, rfl, h1.below hb, RdV.below h2 hb⟩
def Edt.ok (e : Edt) : Prop := (∀ f ∈ e.adds, f.ok) ∧ e.adds.length ≤ 1000000000000 ∧ e.dels.length ≤ 1000000000000
def chkE (e : Edt) : Int := if mayE e then 0 else 12
def ChkRes (w : World) (c : Int) (e : Ending) (w' : World) : Prop := e = .returned (.int .i64 c) ∧ Below w.heap.size w w'
theorem BlkAt5.c4 (w : World) (v0 v1 v2 v3 v4 : Value) (t : TypeId) : (w.alloc (.cells #[v0, v1, v2, v3, v4] t)).cell? ⟨w.heap.size, 4, none⟩ = some v4 := by
  unfold World.cell?; rw [heap_alloc_new]; rfl
set_option maxHeartbeats 8000000 in
theorem edCheck_any (v : Value) (x : Edt) (hok : x.ok) (w : World) (h : EdAt w v x) : Calls Tryz.prog 48 #[v] w (ChkRes w (chkE x)) := by
  obtain ⟨va, vd, rfl, ha, hd⟩ := h
  obtain ⟨C, hC⟩ : ∃ C, chkE x = C := ⟨_, rfl⟩
  rw [hC]
  unfold ChkRes
  obtain ⟨hof, hl1, hl2⟩ := hok
  obtain ⟨x1, x2, x3, A, D⟩ := x
  simp only at ha hd hof hl1 hl2
  have HNO := Lib.hid (And.intro (fun h => by rw [← hC]; exact if_neg h : ¬ mayE ⟨x1, x2, x3, A, D⟩ → C = 12) (fun h => by rw [← hC]; exact if_pos h : mayE ⟨x1, x2, x3, A, D⟩ → C = 0))
  clear hC
  have HN : Hid (∀ (n : Int) (w : World), Calls Tryz.prog 75 #[.int .i64 n] w fun e w' => e = .returned (.bool (decide (okEdN n))) ∧ w' = w) := Lib.hid edIsnum_any
  have HF : Hid (∀ W, Below w.heap.size w W → Calls Tryz.prog 76 #[va, .func (.func 77) #[] #[]] W fun e w' => e = .returned (.bool (decide (∃ f ∈ A, badTb f))) ∧ Below W.heap.size W w') := Lib.hid fun W hW => conF_any va A hof hl1 W (ha.below hW)
  have HI : Hid (∀ W, Below w.heap.size w W → Calls Tryz.prog 78 #[vd, .func (.func 79) #[] #[]] W fun e w' => e = .returned (.bool (decide (∃ f ∈ D, badTab f))) ∧ Below W.heap.size W w') := Lib.hid fun W hW => conI_any vd D hl2 W (RdV.below hd hW)
  obtain ⟨aA, cA, rfl, -⟩ := edFl_len ha
  obtain ⟨aD, cD, rfl⟩ := edInts_len hd
  have HB := Lib.hid ((Below.refl w.heap.size w).alloc (Nat.le_refl _) (.cells #[.int .i64 x1, .int .i64 x2, .int .i64 x3, .slice aA A.length cA, .slice aD D.length cD] 32))
  obtain ⟨LA, hLA⟩ : ∃ L, A.length = L := ⟨_, rfl⟩
  obtain ⟨LD, hLD⟩ : ∃ L, D.length = L := ⟨_, rfl⟩
  have HL := Lib.hid (And.intro hLA hLD)
  rw [hLA] at HF HB hl1 ⊢
  rw [hLD] at HI HB hl2 ⊢
  clear ha hd hof hLA hLD
  by_cases o1 : okEdN x1
  rotate_left
  · have hno : ¬ mayE ⟨x1, x2, x3, A, D⟩ := fun h => o1 h.1.1
    obtain rfl : C = 12 := HNO.out.1 hno
    clear HNO
    have H1 : Hid (∀ (w : World), Calls Tryz.prog 75 #[.int .i64 x1] w fun e w' => e = .returned (.bool false) ∧ w' = w) := Lib.hid (by have := HN.out x1; rwa [decide_eq_false o1] at this)
    clear HN o1
    clear HF HI
    go_enter Tryz.func48, Tryz.ntmps48
    go_wp2_with fail
    refine (H1.out _).mono ?_
    rintro e w' ⟨rfl, rfl⟩
    clear H1
    go_wp2_with fail
    go_ret
    exact ⟨rfl, HB.out⟩
  by_cases o2 : okEdN x2
  rotate_left
  · have hno : ¬ mayE ⟨x1, x2, x3, A, D⟩ := fun h => o2 h.1.2.1
    obtain rfl : C = 12 := HNO.out.1 hno
    clear HNO
    have H1 : Hid (∀ (w : World), Calls Tryz.prog 75 #[.int .i64 x1] w fun e w' => e = .returned (.bool true) ∧ w' = w) := Lib.hid (by have := HN.out x1; rwa [decide_eq_true o1] at this)
    have H2 : Hid (∀ (w : World), Calls Tryz.prog 75 #[.int .i64 x2] w fun e w' => e = .returned (.bool false) ∧ w' = w) := Lib.hid (by have := HN.out x2; rwa [decide_eq_false o2] at this)
    clear HN o1 o2
    clear HF HI
    go_enter Tryz.func48, Tryz.ntmps48
    go_wp2_with fail
    refine (H1.out _).mono ?_
    rintro e w' ⟨rfl, rfl⟩
    clear H1
    go_wp2_with fail
    refine (H2.out _).mono ?_
    rintro e w' ⟨rfl, rfl⟩
    clear H2
    go_wp2_with fail
    go_ret
    exact ⟨rfl, HB.out⟩
  by_cases o3 : okEdN x3
  rotate_left
  · have hno : ¬ mayE ⟨x1, x2, x3, A, D⟩ := fun h => o3 h.1.2.2
    obtain rfl : C = 12 := HNO.out.1 hno
    clear HNO
    have H1 : Hid (∀ (w : World), Calls Tryz.prog 75 #[.int .i64 x1] w fun e w' => e = .returned (.bool true) ∧ w' = w) := Lib.hid (by have := HN.out x1; rwa [decide_eq_true o1] at this)
    have H2 : Hid (∀ (w : World), Calls Tryz.prog 75 #[.int .i64 x2] w fun e w' => e = .returned (.bool true) ∧ w' = w) := Lib.hid (by have := HN.out x2; rwa [decide_eq_true o2] at this)
    have H3 : Hid (∀ (w : World), Calls Tryz.prog 75 #[.int .i64 x3] w fun e w' => e = .returned (.bool false) ∧ w' = w) := Lib.hid (by have := HN.out x3; rwa [decide_eq_false o3] at this)
    clear HN o1 o2 o3
    clear HF HI
    go_enter Tryz.func48, Tryz.ntmps48
    go_wp2_with fail
    refine (H1.out _).mono ?_
    rintro e w' ⟨rfl, rfl⟩
    clear H1
    go_wp2_with fail
    refine (H2.out _).mono ?_
    rintro e w' ⟨rfl, rfl⟩
    clear H2
    go_wp2_with fail
    refine (H3.out _).mono ?_
    rintro e w' ⟨rfl, rfl⟩
    clear H3
    go_wp2_with fail
    go_ret
    exact ⟨rfl, HB.out⟩
  have HO := Lib.hid (And.intro o1 (And.intro o2 o3))
  by_cases lA : 200 < LA
  · have hno : ¬ mayE ⟨x1, x2, x3, A, D⟩ := fun h => by have h' : A.length ≤ 200 := h.2.1.1; rw [HL.out.1] at h'; omega
    have hi : (200 : Int) < (LA : Int) := by omega
    obtain rfl : C = 12 := HNO.out.1 hno
    clear HNO
    have H1 : Hid (∀ (w : World), Calls Tryz.prog 75 #[.int .i64 x1] w fun e w' => e = .returned (.bool true) ∧ w' = w) := Lib.hid (by have := HN.out x1; rwa [decide_eq_true o1] at this)
    have H2 : Hid (∀ (w : World), Calls Tryz.prog 75 #[.int .i64 x2] w fun e w' => e = .returned (.bool true) ∧ w' = w) := Lib.hid (by have := HN.out x2; rwa [decide_eq_true o2] at this)
    have H3 : Hid (∀ (w : World), Calls Tryz.prog 75 #[.int .i64 x3] w fun e w' => e = .returned (.bool true) ∧ w' = w) := Lib.hid (by have := HN.out x3; rwa [decide_eq_true o3] at this)
    clear HN o1 o2 o3
    clear HF HI
    go_enter Tryz.func48, Tryz.ntmps48
    go_wp2_with fail
    refine (H1.out _).mono ?_
    rintro e w' ⟨rfl, rfl⟩
    clear H1
    go_wp2_with fail
    refine (H2.out _).mono ?_
    rintro e w' ⟨rfl, rfl⟩
    clear H2
    go_wp2_with fail
    refine (H3.out _).mono ?_
    rintro e w' ⟨rfl, rfl⟩
    clear H3
    go_wp2_with fail
    go_ret
    exact ⟨rfl, HB.out⟩
  by_cases lD : 200 < LD
  · have hno : ¬ mayE ⟨x1, x2, x3, A, D⟩ := fun h => by have h' : D.length ≤ 200 := h.2.1.2; rw [HL.out.2] at h'; omega
    have hi : (200 : Int) < (LD : Int) := by omega
    have hiA : ¬ (200 : Int) < (LA : Int) := by omega
    obtain rfl : C = 12 := HNO.out.1 hno
    clear HNO
    have H1 : Hid (∀ (w : World), Calls Tryz.prog 75 #[.int .i64 x1] w fun e w' => e = .returned (.bool true) ∧ w' = w) := Lib.hid (by have := HN.out x1; rwa [decide_eq_true o1] at this)
    have H2 : Hid (∀ (w : World), Calls Tryz.prog 75 #[.int .i64 x2] w fun e w' => e = .returned (.bool true) ∧ w' = w) := Lib.hid (by have := HN.out x2; rwa [decide_eq_true o2] at this)
    have H3 : Hid (∀ (w : World), Calls Tryz.prog 75 #[.int .i64 x3] w fun e w' => e = .returned (.bool true) ∧ w' = w) := Lib.hid (by have := HN.out x3; rwa [decide_eq_true o3] at this)
    clear HN o1 o2 o3
    clear HF HI
    go_enter Tryz.func48, Tryz.ntmps48
    go_wp2_with fail
    refine (H1.out _).mono ?_
    rintro e w' ⟨rfl, rfl⟩
    clear H1
    go_wp2_with fail
    refine (H2.out _).mono ?_
    rintro e w' ⟨rfl, rfl⟩
    clear H2
    go_wp2_with fail
    refine (H3.out _).mono ?_
    rintro e w' ⟨rfl, rfl⟩
    clear H3
    go_wp2_with fail
    go_ret
    exact ⟨rfl, HB.out⟩
  have hiA : ¬ (200 : Int) < (LA : Int) := by omega
  have hiD : ¬ (200 : Int) < (LD : Int) := by omega
  by_cases oF : ∃ f ∈ A, badTb f
  · have hno : ¬ mayE ⟨x1, x2, x3, A, D⟩ := fun h => by obtain ⟨f, hf, hb⟩ := oF; exact h.2.2.1 f hf hb
    obtain rfl : C = 12 := HNO.out.1 hno
    clear HNO
    have H1 : Hid (∀ (w : World), Calls Tryz.prog 75 #[.int .i64 x1] w fun e w' => e = .returned (.bool true) ∧ w' = w) := Lib.hid (by have := HN.out x1; rwa [decide_eq_true o1] at this)
    have H2 : Hid (∀ (w : World), Calls Tryz.prog 75 #[.int .i64 x2] w fun e w' => e = .returned (.bool true) ∧ w' = w) := Lib.hid (by have := HN.out x2; rwa [decide_eq_true o2] at this)
    have H3 : Hid (∀ (w : World), Calls Tryz.prog 75 #[.int .i64 x3] w fun e w' => e = .returned (.bool true) ∧ w' = w) := Lib.hid (by have := HN.out x3; rwa [decide_eq_true o3] at this)
    clear HN o1 o2 o3
    clear HI
    go_enter Tryz.func48, Tryz.ntmps48
    go_wp2_with fail
    refine (H1.out _).mono ?_
    rintro e w' ⟨rfl, rfl⟩
    clear H1
    go_wp2_with fail
    refine (H2.out _).mono ?_
    rintro e w' ⟨rfl, rfl⟩
    clear H2
    go_wp2_with fail
    refine (H3.out _).mono ?_
    rintro e w' ⟨rfl, rfl⟩
    clear H3
    go_wp2_with fail
    refine (HF.out _ HB.out).mono ?_
    rintro e w2 ⟨rfl, hb2⟩
    have HB2 := Lib.hid (HB.out.trans (hb2.mono HB.out.size))
    have hx4 := (hb2.cell (p := ⟨w.heap.size, 4, none⟩) (by simp)).trans (BlkAt5.c4 w _ _ _ _ _ 32)
    rw [decide_eq_true oF]
    clear hb2 HF oF
    go_wp2_with fail
    go_ret
    exact ⟨rfl, HB2.out⟩
  by_cases oI : ∃ n ∈ D, badTab n
  · have hno : ¬ mayE ⟨x1, x2, x3, A, D⟩ := fun h => by obtain ⟨f, hf, hb⟩ := oI; exact h.2.2.2 f hf hb
    obtain rfl : C = 12 := HNO.out.1 hno
    clear HNO
    have H1 : Hid (∀ (w : World), Calls Tryz.prog 75 #[.int .i64 x1] w fun e w' => e = .returned (.bool true) ∧ w' = w) := Lib.hid (by have := HN.out x1; rwa [decide_eq_true o1] at this)
    have H2 : Hid (∀ (w : World), Calls Tryz.prog 75 #[.int .i64 x2] w fun e w' => e = .returned (.bool true) ∧ w' = w) := Lib.hid (by have := HN.out x2; rwa [decide_eq_true o2] at this)
    have H3 : Hid (∀ (w : World), Calls Tryz.prog 75 #[.int .i64 x3] w fun e w' => e = .returned (.bool true) ∧ w' = w) := Lib.hid (by have := HN.out x3; rwa [decide_eq_true o3] at this)
    clear HN o1 o2 o3
    go_enter Tryz.func48, Tryz.ntmps48
    go_wp2_with fail
    refine (H1.out _).mono ?_
    rintro e w' ⟨rfl, rfl⟩
    clear H1
    go_wp2_with fail
    refine (H2.out _).mono ?_
    rintro e w' ⟨rfl, rfl⟩
    clear H2
    go_wp2_with fail
    refine (H3.out _).mono ?_
    rintro e w' ⟨rfl, rfl⟩
    clear H3
    go_wp2_with fail
    refine (HF.out _ HB.out).mono ?_
    rintro e w2 ⟨rfl, hb2⟩
    have HB2 := Lib.hid (HB.out.trans (hb2.mono HB.out.size))
    have hx4 := (hb2.cell (p := ⟨w.heap.size, 4, none⟩) (by simp)).trans (BlkAt5.c4 w _ _ _ _ _ 32)
    rw [decide_eq_false oF]
    clear hb2 HF oF
    go_wp2_with fail
    refine (HI.out _ HB2.out).mono ?_
    rintro e w3 ⟨rfl, hb3⟩
    have HB3 := Lib.hid (HB2.out.trans (hb3.mono HB2.out.size))
    rw [decide_eq_true oI]
    clear hb3 HI oI hx4
    go_wp2_with fail
    go_ret
    exact ⟨rfl, HB3.out⟩
  have hyes : mayE ⟨x1, x2, x3, A, D⟩ := ⟨HO.out, ⟨by show A.length ≤ 200; rw [HL.out.1]; omega, by show D.length ≤ 200; rw [HL.out.2]; omega⟩, fun f hf hb => oF ⟨f, hf, hb⟩, fun f hf hb => oI ⟨f, hf, hb⟩⟩
  obtain rfl : C = 0 := HNO.out.2 hyes
  clear HNO
  have H1 : Hid (∀ (w : World), Calls Tryz.prog 75 #[.int .i64 x1] w fun e w' => e = .returned (.bool true) ∧ w' = w) := Lib.hid (by have := HN.out x1; rwa [decide_eq_true o1] at this)
  have H2 : Hid (∀ (w : World), Calls Tryz.prog 75 #[.int .i64 x2] w fun e w' => e = .returned (.bool true) ∧ w' = w) := Lib.hid (by have := HN.out x2; rwa [decide_eq_true o2] at this)
  have H3 : Hid (∀ (w : World), Calls Tryz.prog 75 #[.int .i64 x3] w fun e w' => e = .returned (.bool true) ∧ w' = w) := Lib.hid (by have := HN.out x3; rwa [decide_eq_true o3] at this)
  clear HN o1 o2 o3
  go_enter Tryz.func48, Tryz.ntmps48
  go_wp2_with fail
  refine (H1.out _).mono ?_
  rintro e w' ⟨rfl, rfl⟩
  clear H1
  go_wp2_with fail
  refine (H2.out _).mono ?_
  rintro e w' ⟨rfl, rfl⟩
  clear H2
  go_wp2_with fail
  refine (H3.out _).mono ?_
  rintro e w' ⟨rfl, rfl⟩
  clear H3
  go_wp2_with fail
  refine (HF.out _ HB.out).mono ?_
  rintro e w2 ⟨rfl, hb2⟩
  have HB2 := Lib.hid (HB.out.trans (hb2.mono HB.out.size))
  have hx4 := (hb2.cell (p := ⟨w.heap.size, 4, none⟩) (by simp)).trans (BlkAt5.c4 w _ _ _ _ _ 32)
  rw [decide_eq_false oF]
  clear hb2 HF oF
  go_wp2_with fail
  refine (HI.out _ HB2.out).mono ?_
  rintro e w3 ⟨rfl, hb3⟩
  have HB3 := Lib.hid (HB2.out.trans (hb3.mono HB2.out.size))
  rw [decide_eq_false oI]
  clear hb3 HI oI hx4
  go_wp2_with fail
  go_ret
  exact ⟨rfl, HB3.out⟩
end Go.Proofs.YtmmkgopnccfiiaaGreatDoor
/- The walks of a reader: giveUp, skip, number, text, count, isDone. -/
namespace Go.Proofs.YtmmkgopnccfiiaaGreatDoor
set_option linter.unusedVariables false
set_option maxRecDepth 100000
open Go.RowKit
/-- The reader in block g, of bytes that lie as they did in w0: s is what it has to read; none: it is broken. -/
def RdrAt (w0 w : World) (g : Nat) (s : Option (List UInt8)) : Prop := w0.heap.size ≤ g ∧ Below w0.heap.size w0 w ∧ ∃ v, BlkAt w g #[v, .bool s.isNone] 149 ∧ RdB w0 v (s.getD [])
theorem RdrAt.below {w0 w w' : World} {g : Nat} {s : Option (List UInt8)} (h : RdrAt w0 w g s) (u : Below w.heap.size w w') : RdrAt w0 w' g s := by
  obtain ⟨h1, h2, v, h3, h4⟩ := h
  exact ⟨h1, h2.trans (u.mono h2.size), v, h3.below u, h4⟩
theorem RdrAt.lt {w0 w : World} {g : Nat} {s : Option (List UInt8)} (h : RdrAt w0 w g s) : g < w.heap.size := by
  obtain ⟨-, -, v, h3, -⟩ := h
  exact h3.lt
/-- A call: the reader stands at s behind it, and nothing else was written. -/
def RdrTo (w0 w : World) (g : Nat) (s : Option (List UInt8)) (w' : World) : Prop := RdrAt w0 w' g s ∧ UpdF (fun k => k = g) w w'
theorem RdrTo.trans {w0 w w1 w2 : World} {g : Nat} {s s' : Option (List UInt8)} (h : RdrTo w0 w g s w1) (k : RdrTo w0 w1 g s' w2) : RdrTo w0 w g s' w2 := ⟨k.1, h.2.trans k.2⟩
theorem RdrAt.self {w0 w : World} {g : Nat} {s : Option (List UInt8)} (h : RdrAt w0 w g s) : RdrTo w0 w g s w := ⟨h, UpdF.refl _ _⟩
theorem RdrTo.below {w0 w w1 w2 : World} {g : Nat} {s : Option (List UInt8)} (h : RdrTo w0 w g s w1) (u : Below w1.heap.size w1 w2) : RdrTo w0 w g s w2 := ⟨h.1.below u, h.2.trans (UpdF.of u)⟩
theorem RdrAt.put {w0 w w' : World} {g : Nat} {s s' : Option (List UInt8)} (h : RdrAt w0 w g s) (u : UpdF (fun k => k = g) w w') {v : Value} (hb : BlkAt w' g #[v, .bool s'.isNone] 149) (hr : RdB w0 v (s'.getD [])) : RdrTo w0 w g s' w' := by
  obtain ⟨h1, h2, -⟩ := h
  exact ⟨⟨h1, h2.trans (UpdF.below u h2.size fun k hk e => by omega), v, hb, hr⟩, u⟩
theorem RdrAt.rd {w0 w : World} {g : Nat} {s : Option (List UInt8)} (h : RdrAt w0 w g s) : ∃ v, BlkAt w g #[v, .bool s.isNone] 149 ∧ RdB w0 v (s.getD []) ∧ RdB w v (s.getD []) := by
  obtain ⟨h1, h2, v, h3, h4⟩ := h
  exact ⟨v, h3, h4, h4.below h2⟩
def GoneTo (w0 w : World) (g : Nat) (s : Option (List UInt8)) (e : Ending) (w' : World) : Prop := e = .returned (.tuple #[]) ∧ RdrTo w0 w g s w'
set_option maxHeartbeats 1000000 in
theorem edGive_any {w0 w : World} {g : Nat} {s : Option (List UInt8)} (h : RdrAt w0 w g s) : Calls Tryz.prog 170 #[.pointer (some ⟨g, 0, none⟩)] w (GoneTo w0 w g none) := by
  obtain ⟨v, h3, -, -⟩ := h.rd
  have c0 := h3.at 0
  have c1 := h3.at 1
  have f0 := h3.free 0
  have f1 := h3.free 1
  have HX : Hid (RdrTo w0 w g none ((w.setCell ⟨g, 1, none⟩ (.bool true)).setCell ⟨g, 0, none⟩ (.slice none 0 0))) := Lib.hid (by
    refine h.put (((UpdF.refl (fun k => k = g) w).set g 1 _ rfl).set g 0 _ rfl) (v := .slice none 0 0) ?_ (RdB.nil _ _ _)
    exact (h3.set (o := 1) (.bool true)).set (o := 0) (.slice none 0 0))
  clear h h3
  go_enter Tryz.func170, Tryz.ntmps170
  go_wp2_with fail
  go_end0
  exact ⟨rfl, HX.out⟩
set_option maxHeartbeats 1000000 in
theorem edSkip0_any {w0 w : World} {g : Nat} {s : Option (List UInt8)} (h : RdrAt w0 w g s) : Calls Tryz.prog 140 #[.pointer (some ⟨g, 0, none⟩), .int .i64 0] w (GoneTo w0 w g none) := by
  have HG := Lib.hid (edGive_any h)
  clear h
  go_enter Tryz.func140, Tryz.ntmps140
  go_wp2_with fail
  refine HG.out.mono ?_
  rintro e w1 ⟨rfl, h1⟩
  go_wp2_with fail
  go_end0
  exact ⟨rfl, h1⟩
set_option maxHeartbeats 1000000 in
theorem edSkip_any {w0 w : World} {g : Nat} {b : List UInt8} (h : RdrAt w0 w g (some b)) (n : Nat) (hn : 1 ≤ n) (hnb : n ≤ b.length) : Calls Tryz.prog 140 #[.pointer (some ⟨g, 0, none⟩), .int .i64 (n : Int)] w (GoneTo w0 w g (some (b.drop n))) := by
  obtain ⟨v, h3, h4, -⟩ := h.rd
  obtain ⟨a, len, cap, rfl, hlen, hcap⟩ := h4.form
  simp only [Option.getD_some] at h4 hlen
  have hcl := (hcap (by omega)).1
  obtain ⟨ad, hadd⟩ : ∃ ad, (if cap = n then a else a.map (·.add n)) = ad := ⟨_, rfl⟩
  have hsl := fun W => sl_lB W a len cap n (by omega) hcl
  have hdr := h4.drop n (by omega)
  simp only [hadd] at hsl hdr
  have c0 := h3.at 0
  have f0 := h3.free 0
  have hn0 : ¬ (n : Int) = 0 := by omega
  have hn0b : ((n : Int) == 0) = false := by simp; omega
  have HX : Hid (RdrTo w0 w g (some (b.drop n)) (w.setCell ⟨g, 0, none⟩ (.slice ad (len - n) (cap - n)))) := Lib.hid (by
    refine h.put ((UpdF.refl (fun k => k = g) w).set g 0 _ rfl) (v := .slice ad (len - n) (cap - n)) ?_ hdr
    exact h3.set (o := 0) (.slice ad (len - n) (cap - n)))
  obtain ⟨n1, hn1⟩ : ∃ n1, len - n = n1 := ⟨_, rfl⟩
  obtain ⟨c1, hc1⟩ : ∃ c1, cap - n = c1 := ⟨_, rfl⟩
  rw [hn1, hc1] at HX
  simp only [hn1, hc1] at hsl
  clear h h3 h4 hdr hadd hn1 hc1 hlen hcap hnb
  go_enter Tryz.func140, Tryz.ntmps140
  go_wp2_with fail
  go_end0
  exact ⟨rfl, HX.out⟩
theorem edNm_eq (s : Option (List UInt8)) : edNm s = match getN (s.getD []) with
    | .none => (0, .none)
    | .some (n, k) => (wrap64 (n : Int), .some ((s.getD []).drop k)) := by
  cases s with
  | none => rfl
  | some b => rfl
theorem edTx_eq (s : Option (List UInt8)) : edTx s = match getT (s.getD []) with
    | .none => (⟨#[]⟩, .none)
    | .some (n, k) => (⟨n.toArray⟩, .some ((s.getD []).drop k)) := by
  cases s with
  | none => rfl
  | some b => rfl
theorem getN_ofnil {s : Option (List UInt8)} {n k : Nat} (h : getN (s.getD []) = some (n, k)) : ∃ b, s = some b := by
  cases s with
  | none => cases h
  | some b => exact ⟨b, rfl⟩
theorem getT_ofnil {s : Option (List UInt8)} {n : List UInt8} {k : Nat} (h : getT (s.getD []) = some (n, k)) : ∃ b, s = some b := by
  cases s with
  | none => cases h
  | some b => exact ⟨b, rfl⟩
def NumTo (w0 w : World) (g : Nat) (r : Int × Option (List UInt8)) (e : Ending) (w' : World) : Prop := e = .returned (.int .i64 r.1) ∧ RdrTo w0 w g r.2 w'
def TxtTo (w0 w : World) (g : Nat) (r : ByteArray × Option (List UInt8)) (e : Ending) (w' : World) : Prop := e = .returned (.string r.1) ∧ RdrTo w0 w g r.2 w'
set_option maxHeartbeats 1000000 in
theorem edNumber_any {w0 w : World} {g : Nat} {s : Option (List UInt8)} (h : RdrAt w0 w g s) : Calls Tryz.prog 108 #[.pointer (some ⟨g, 0, none⟩)] w (NumTo w0 w g (edNm s)) := by
  obtain ⟨R, hR⟩ : ∃ R, edNm s = R := ⟨_, rfl⟩
  rw [hR]
  rw [edNm_eq] at hR
  obtain ⟨v, h3, -, h5⟩ := h.rd
  have c0 := h3.at 0
  have HG := Lib.hid (get_any v (s.getD []) w h5)
  clear h3 h5
  cases hg : getN (s.getD []) with
  | none =>
    rw [hg] at hR HG
    subst hR
    have HS := Lib.hid (edSkip0_any h)
    clear h hg
    go_enter Tryz.func108, Tryz.ntmps108
    go_wp2_with fail
    refine HG.out.mono ?_
    rintro e w' ⟨rfl, rfl⟩
    unfold numRes
    go_wp2_with fail
    refine HS.out.mono ?_
    rintro e w1 ⟨rfl, h1⟩
    go_wp2_with fail
    go_ret
    exact ⟨rfl, h1⟩
  | some p =>
    obtain ⟨n, k⟩ := p
    obtain ⟨b, rfl⟩ := getN_ofnil hg
    obtain ⟨hk1, hk2, -, hn⟩ := getN_le hg
    rw [hg] at hR HG
    subst hR
    simp only [Option.getD_some] at hk2 HG ⊢
    have HS := Lib.hid (edSkip_any h k hk1 hk2)
    clear h hg hk2
    go_enter Tryz.func108, Tryz.ntmps108
    go_wp2_with fail
    refine HG.out.mono ?_
    rintro e w' ⟨rfl, rfl⟩
    unfold numRes
    go_wp2_with fail
    refine HS.out.mono ?_
    rintro e w1 ⟨rfl, h1⟩
    go_wp2_with fail
    go_ret
    exact ⟨rfl, h1⟩
set_option maxHeartbeats 1000000 in
theorem edText_any {w0 w : World} {g : Nat} {s : Option (List UInt8)} (h : RdrAt w0 w g s) : Calls Tryz.prog 171 #[.pointer (some ⟨g, 0, none⟩)] w (TxtTo w0 w g (edTx s)) := by
  obtain ⟨R, hR⟩ : ∃ R, edTx s = R := ⟨_, rfl⟩
  rw [hR]
  rw [edTx_eq] at hR
  obtain ⟨v, h3, -, h5⟩ := h.rd
  have c0 := h3.at 0
  have HG := Lib.hid (gettext_any v (s.getD []) w h5)
  clear h3 h5
  cases hg : getT (s.getD []) with
  | none =>
    rw [hg] at hR HG
    subst hR
    have HS := Lib.hid (edSkip0_any h)
    clear h hg
    go_enter Tryz.func171, Tryz.ntmps171
    go_wp2_with fail
    refine HG.out.mono ?_
    rintro e w' ⟨rfl, rfl⟩
    unfold txtRes
    go_wp2_with fail
    refine HS.out.mono ?_
    rintro e w1 ⟨rfl, h1⟩
    go_wp2_with fail
    go_ret
    exact ⟨rfl, h1⟩
  | some p =>
    obtain ⟨n, k⟩ := p
    obtain ⟨b, rfl⟩ := getT_ofnil hg
    have hk2 := (text_get hg).2.1
    have hk1 : 1 ≤ k := by
      unfold getT at hg
      cases hq : getN ((some b).getD []) with
      | none => rw [hq] at hg; cases hg
      | some q =>
        obtain ⟨m, j⟩ := q
        have := (getN_le hq).1
        rw [hq] at hg
        simp only at hg
        split at hg
        · simp only [Option.some.injEq, Prod.mk.injEq] at hg; omega
        · cases hg
    rw [hg] at hR HG
    subst hR
    simp only [Option.getD_some] at hk2 HG ⊢
    have HS := Lib.hid (edSkip_any h k hk1 hk2)
    clear h hg hk2 hk1
    go_enter Tryz.func171, Tryz.ntmps171
    go_wp2_with fail
    refine HG.out.mono ?_
    rintro e w' ⟨rfl, rfl⟩
    unfold txtRes
    go_wp2_with fail
    refine HS.out.mono ?_
    rintro e w1 ⟨rfl, h1⟩
    go_wp2_with fail
    go_ret
    exact ⟨rfl, h1⟩
def CntTo (w0 w : World) (g : Nat) (r : Nat × Option (List UInt8)) (e : Ending) (w' : World) : Prop := e = .returned (.int .i64 (r.1 : Int)) ∧ RdrTo w0 w g r.2 w'
set_option maxHeartbeats 1000000 in
theorem edCount_any {w0 w : World} {g : Nat} {s : Option (List UInt8)} (h : RdrAt w0 w g s) : Calls Tryz.prog 141 #[.pointer (some ⟨g, 0, none⟩)] w (CntTo w0 w g (edCnt s)) := by
  have HN := Lib.hid (edNumber_any h)
  have HGV : Hid (∀ W, RdrTo w0 w g (edNm s).2 W → Calls Tryz.prog 170 #[.pointer (some ⟨g, 0, none⟩)] W (GoneTo w0 W g none)) := Lib.hid fun W hW => edGive_any hW.1
  obtain ⟨R, hR⟩ : ∃ R, edCnt s = R := ⟨_, rfl⟩
  rw [hR]
  unfold edCnt at hR
  generalize edNm s = p at *
  obtain ⟨n, s'⟩ := p
  simp only at hR HGV
  clear h
  by_cases h1 : n < 0
  · rw [if_pos (.inl h1)] at hR
    subst hR
    go_enter Tryz.func141, Tryz.ntmps141
    go_wp2_with fail
    refine HN.out.mono ?_
    rintro e w1 ⟨rfl, h1⟩
    have HV := Lib.hid (HGV.out _ h1)
    have HT := Lib.hid h1
    clear h1
    go_wp2_with fail
    refine HV.out.mono ?_
    rintro e w2 ⟨rfl, h2⟩
    go_wp2_with fail
    go_ret
    exact ⟨rfl, HT.out.trans h2⟩
  · by_cases h2 : 200 < n
    · rw [if_pos (.inr h2)] at hR
      subst hR
      go_enter Tryz.func141, Tryz.ntmps141
      go_wp2_with fail
      refine HN.out.mono ?_
      rintro e w1 ⟨rfl, h1⟩
      have HV := Lib.hid (HGV.out _ h1)
      have HT := Lib.hid h1
      clear h1
      go_wp2_with fail
      refine HV.out.mono ?_
      rintro e w2 ⟨rfl, h2⟩
      go_wp2_with fail
      go_ret
      exact ⟨rfl, HT.out.trans h2⟩
    · rw [if_neg (by omega)] at hR
      subst hR
      obtain ⟨m, rfl⟩ := Int.eq_ofNat_of_zero_le (show 0 ≤ n by omega)
      go_enter Tryz.func141, Tryz.ntmps141
      go_wp2_with fail
      refine HN.out.mono ?_
      rintro e w1 ⟨rfl, h1⟩
      go_wp2_with fail
      go_ret
      exact ⟨rfl, h1⟩
set_option maxHeartbeats 1000000 in
theorem edDone_any {w0 w : World} {g : Nat} {s : Option (List UInt8)} (h : RdrAt w0 w g s) : Calls Tryz.prog 111 #[.pointer (some ⟨g, 0, none⟩)] w fun e w' => e = .returned (.bool (decide (s = some []))) ∧ w' = w := by
  obtain ⟨R, hR⟩ : ∃ R, decide (s = some []) = R := ⟨_, rfl⟩
  rw [hR]
  obtain ⟨v, h3, -, h5⟩ := h.rd
  obtain ⟨a, len, cap, rfl, hlen, -⟩ := h5.form
  have c0 := h3.at 0
  have c1 := h3.at 1
  clear h h3 h5
  cases s with
  | none =>
    obtain rfl : R = false := by rw [← hR]; rfl
    clear hR hlen
    go_enter Tryz.func111, Tryz.ntmps111
    go_wp2_with fail
    go_ret
    exact ⟨rfl, rfl⟩
  | some b =>
    simp only [Option.getD_some] at hlen
    have HR : Hid (decide ((len : Int) = 0) = R) := Lib.hid (by
      rw [← hR, decide_eq_decide]
      constructor
      · intro h; have hb : b = [] := List.eq_nil_of_length_eq_zero (by omega); rw [hb]
      · intro h; rw [Option.some.inj h] at hlen; simp at hlen; omega)
    have hlb : Hid (((len : Int) == 0) = R) := Lib.hid (by rw [← HR.out]; rfl)
    clear hR hlen HR
    go_enter Tryz.func111, Tryz.ntmps111
    go_wp2_with fail
    go_ret
    exact ⟨congrArg (fun b => Ending.returned (Value.bool b)) hlb.out, rfl⟩
end Go.Proofs.YtmmkgopnccfiiaaGreatDoor
/- The walk of a reader's file. -/
namespace Go.Proofs.YtmmkgopnccfiiaaGreatDoor
set_option linter.unusedVariables false
set_option maxRecDepth 100000
open Go.RowKit
theorem RdrAt.aside {w0 w wl : World} {g : Nat} {s : Option (List UInt8)} {G : Nat → Prop} (h : RdrAt w0 w g s) (u : UpdF G w wl) (hg : ¬ G g) (h0 : ∀ k, k < w0.heap.size → ¬ G k) : RdrAt w0 wl g s := by
  have hlt := h.lt
  obtain ⟨h1, h2, v, h3, h4⟩ := h
  exact ⟨h1, h2.trans (UpdF.below u h2.size h0), v, (u.block g hlt hg).trans h3, h4⟩
/-- Behind a call: what is new beside may be written. -/
theorem RdrTo.aside {w0 w w1 w2 : World} {g : Nat} {s : Option (List UInt8)} (h : RdrTo w0 w g s w1) (u : UpdF (fun k => w.heap.size ≤ k) w1 w2) (hg : g < w.heap.size) (h0 : w0.heap.size ≤ w.heap.size) : RdrTo w0 w g s w2 :=
  ⟨h.1.aside u (by omega) fun k hk e => by omega, h.2.then u fun i hi => .inr hi⟩
/-- On the way through file: the reader, the table that is filled, the answer's place. -/
structure TbfL (w0 w : World) (g : Nat) (wk : World) (f r : Nat) (s : Option (List UInt8)) (vs : Array Value) : Prop where
  rdr : RdrTo w0 w g s wk
  tab : BlkAt wk f vs 35
  res : BlkAt wk r #[.int .i64 0, .int .i64 0, .int .i64 0, .string ⟨#[]⟩, .string ⟨#[]⟩] 35
  gw : g < w.heap.size
  gf : w.heap.size ≤ f
  gr : w.heap.size ≤ r
  fr : f ≠ r
  w0w : w0.heap.size ≤ w.heap.size
theorem TbfL.call {w0 w : World} {g : Nat} {wk wl : World} {f r : Nat} {s s' : Option (List UInt8)} {vs : Array Value} (h : TbfL w0 w g wk f r s vs) (k : RdrTo w0 wk g s' wl) : TbfL w0 w g wl f r s' vs := by
  have hg := h.gw
  have hf := h.gf
  have hr := h.gr
  exact { h with rdr := h.rdr.trans k, tab := (k.2.block f h.tab.lt (by omega)).trans h.tab, res := (k.2.block r h.res.lt (by omega)).trans h.res }
theorem TbfL.set {w0 w : World} {g : Nat} {wk : World} {f r : Nat} {s : Option (List UInt8)} {vs : Array Value} (h : TbfL w0 w g wk f r s vs) (o : Nat) (v : Value) : TbfL w0 w g (wk.setCell ⟨f, o, none⟩ v) f r s (vs.setIfInBounds o v) :=
  { h with rdr := h.rdr.aside ((UpdF.refl (fun k => w.heap.size ≤ k) wk).set f o v h.gf) h.gw h.w0w, tab := h.tab.set v, res := h.res.other v h.fr.symm }
theorem TbfL.start {w0 w : World} {g : Nat} {s : Option (List UInt8)} (h : RdrAt w0 w g s) (vs : Array Value) : TbfL w0 w g ((w.alloc (.cells #[.int .i64 0, .int .i64 0, .int .i64 0, .string ⟨#[]⟩, .string ⟨#[]⟩] 35)).alloc (.cells vs 35)) (w.heap.size + 1) w.heap.size s vs := by
  have b1 : Below w.heap.size w (w.alloc (.cells #[.int .i64 0, .int .i64 0, .int .i64 0, .string ⟨#[]⟩, .string ⟨#[]⟩] 35)) := (Below.refl _ w).alloc (Nat.le_refl _) _
  have n1 := BlkAt.new w #[.int .i64 0, .int .i64 0, .int .i64 0, .string ⟨#[]⟩, .string ⟨#[]⟩] 35
  have n2 := BlkAt.new (w.alloc (.cells #[.int .i64 0, .int .i64 0, .int .i64 0, .string ⟨#[]⟩, .string ⟨#[]⟩] 35)) vs 35
  have e : (w.alloc (.cells #[.int .i64 0, .int .i64 0, .int .i64 0, .string ⟨#[]⟩, .string ⟨#[]⟩] 35)).heap.size = w.heap.size + 1 := by simp
  rw [e] at n2
  exact { rdr := (h.self.below b1).below ((Below.refl _ _).alloc (Nat.le_refl _) _), tab := n2, res := n1.more _, gw := h.lt, gf := by omega, gr := Nat.le_refl _, fr := by omega, w0w := h.2.1.size }
structure Cells5 (w : World) (b : Nat) (v0 v1 v2 v3 v4 : Value) : Prop where
  c0 : w.cell? ⟨b, 0, none⟩ = some v0
  c1 : w.cell? ⟨b, 1, none⟩ = some v1
  c2 : w.cell? ⟨b, 2, none⟩ = some v2
  c3 : w.cell? ⟨b, 3, none⟩ = some v3
  c4 : w.cell? ⟨b, 4, none⟩ = some v4
  f0 : w.frozen? ⟨b, 0, none⟩ = false
  f1 : w.frozen? ⟨b, 1, none⟩ = false
  f2 : w.frozen? ⟨b, 2, none⟩ = false
  f3 : w.frozen? ⟨b, 3, none⟩ = false
  f4 : w.frozen? ⟨b, 4, none⟩ = false
theorem BlkAt.cells5 {w : World} {b : Nat} {v0 v1 v2 v3 v4 : Value} {t : TypeId} (h : BlkAt w b #[v0, v1, v2, v3, v4] t) : Cells5 w b v0 v1 v2 v3 v4 :=
  ⟨h.at 0, h.at 1, h.at 2, h.at 3, h.at 4, h.free 0, h.free 1, h.free 2, h.free 3, h.free 4⟩
def FileTo (w0 w : World) (g : Nat) (r : Tbf × Option (List UInt8)) (e : Ending) (w' : World) : Prop := e = .returned r.1.v ∧ RdrTo w0 w g r.2 w'
set_option maxHeartbeats 8000000 in
theorem edFile_any {w0 w : World} {g : Nat} {s : Option (List UInt8)} (h : RdrAt w0 w g s) : Calls Tryz.prog 142 #[.pointer (some ⟨g, 0, none⟩)] w (FileTo w0 w g (edFl s)) := by
  have HN : Hid (∀ W t, RdrAt w0 W g t → Calls Tryz.prog 108 #[.pointer (some ⟨g, 0, none⟩)] W (NumTo w0 W g (edNm t))) := Lib.hid fun W t h => edNumber_any h
  have HT : Hid (∀ W t, RdrAt w0 W g t → Calls Tryz.prog 171 #[.pointer (some ⟨g, 0, none⟩)] W (TxtTo w0 W g (edTx t))) := Lib.hid fun W t h => edText_any h
  obtain ⟨R, hR⟩ : ∃ R, edFl s = R := ⟨_, rfl⟩
  rw [hR]
  unfold edFl at hR
  simp only at hR
  obtain ⟨⟨x1, s1⟩, e1⟩ : ∃ p, edNm s = p := ⟨_, rfl⟩
  rw [e1] at hR; simp only at hR
  obtain ⟨⟨x2, s2⟩, e2⟩ : ∃ p, edNm s1 = p := ⟨_, rfl⟩
  rw [e2] at hR; simp only at hR
  obtain ⟨⟨x3, s3⟩, e3⟩ : ∃ p, edNm s2 = p := ⟨_, rfl⟩
  rw [e3] at hR; simp only at hR
  obtain ⟨⟨x4, s4⟩, e4⟩ : ∃ p, edTx s3 = p := ⟨_, rfl⟩
  rw [e4] at hR; simp only at hR
  obtain ⟨⟨x5, s5⟩, e5⟩ : ∃ p, edTx s4 = p := ⟨_, rfl⟩
  rw [e5] at hR; simp only at hR
  have HE := Lib.hid (And.intro e1 (And.intro e2 (And.intro e3 (And.intro e4 e5))))
  have HL := Lib.hid (TbfL.start h #[.int .i64 0, .int .i64 0, .int .i64 0, .string ⟨#[]⟩, .string ⟨#[]⟩])
  have HC1 := Lib.hid (HN.out _ s HL.out.rdr.1)
  rw [e1] at HC1
  subst hR
  clear h e1 e2 e3 e4 e5
  unfold FileTo Tbf.v
  go_enter Tryz.func142, Tryz.ntmps142
  go_wp2_with fail
  refine HC1.out.mono ?_
  rintro e w1 ⟨rfl, h1⟩
  have HL1 := Lib.hid (HL.out.call h1)
  have c := HL1.out.tab.cells5
  obtain ⟨c0, c1, c2, c3, c4, f0, f1, f2, f3, f4⟩ := c
  have HL1s := Lib.hid (HL1.out.set 0 (.int .i64 x1))
  clear h1 HL HC1 HL1
  have HC2 := Lib.hid (HN.out _ s1 HL1s.out.rdr.1)
  rw [HE.out.2.1] at HC2
  go_wp2_with fail
  refine HC2.out.mono ?_
  rintro e w2 ⟨rfl, h1⟩
  have HL1 := Lib.hid (HL1s.out.call h1)
  clear c0 c1 c2 c3 c4 f0 f1 f2 f3 f4
  have c := HL1.out.tab.cells5
  obtain ⟨c0, c1, c2, c3, c4, f0, f1, f2, f3, f4⟩ := c
  have HL2s := Lib.hid (HL1.out.set 1 (.int .i64 x2))
  clear h1 HL1s HC2 HL1
  have HC3 := Lib.hid (HN.out _ s2 HL2s.out.rdr.1)
  rw [HE.out.2.2.1] at HC3
  go_wp2_with fail
  refine HC3.out.mono ?_
  rintro e w3 ⟨rfl, h1⟩
  have HL1 := Lib.hid (HL2s.out.call h1)
  clear c0 c1 c2 c3 c4 f0 f1 f2 f3 f4
  have c := HL1.out.tab.cells5
  obtain ⟨c0, c1, c2, c3, c4, f0, f1, f2, f3, f4⟩ := c
  have HL3s := Lib.hid (HL1.out.set 2 (.int .i64 x3))
  clear h1 HL2s HC3 HL1
  have HC4 := Lib.hid (HT.out _ s3 HL3s.out.rdr.1)
  rw [HE.out.2.2.2.1] at HC4
  go_wp2_with fail
  refine HC4.out.mono ?_
  rintro e w4 ⟨rfl, h1⟩
  have HL1 := Lib.hid (HL3s.out.call h1)
  clear c0 c1 c2 c3 c4 f0 f1 f2 f3 f4
  have c := HL1.out.tab.cells5
  obtain ⟨c0, c1, c2, c3, c4, f0, f1, f2, f3, f4⟩ := c
  have HL4s := Lib.hid (HL1.out.set 3 (.string x4))
  clear h1 HL3s HC4 HL1
  have HC5 := Lib.hid (HT.out _ s4 HL4s.out.rdr.1)
  rw [HE.out.2.2.2.2] at HC5
  go_wp2_with fail
  refine HC5.out.mono ?_
  rintro e w5 ⟨rfl, h1⟩
  have HL1 := Lib.hid (HL4s.out.call h1)
  clear c0 c1 c2 c3 c4 f0 f1 f2 f3 f4
  have c := HL1.out.tab.cells5
  obtain ⟨c0, c1, c2, c3, c4, f0, f1, f2, f3, f4⟩ := c
  have HL5s := Lib.hid (HL1.out.set 4 (.string x5))
  have hr := HL5s.out.res.cells5
  obtain ⟨r0, r1, r2, r3, r4, q0, q1, q2, q3, q4⟩ := hr
  have hc := HL5s.out.tab.cells5
  obtain ⟨d0, d1, d2, d3, d4, -, -, -, -, -⟩ := hc
  clear h1 HL4s HC5 HL1 HE HN HT
  go_wp2_with fail
  refine bodyPost_ret (v := .agg #[.int .i64 x1, .int .i64 x2, .int .i64 x3, .string x4, .string x5]) (by simp [results, Tryz.results142, go_sem, r0, r1, r2, r3, r4]) rfl ⟨rfl, ?_⟩
  refine HL5s.out.rdr.aside ?_ HL5s.out.gw HL5s.out.w0w
  have hR := HL5s.out.gr
  exact (((((UpdF.refl _ _).set _ 0 _ hR).set _ 1 _ hR).set _ 2 _ hR).set _ 3 _ hR).set _ 4 _ hR
end Go.Proofs.YtmmkgopnccfiiaaGreatDoor
/- The walks of a reader's files and numbers. -/
namespace Go.Proofs.YtmmkgopnccfiiaaGreatDoor
set_option linter.unusedVariables false
set_option maxRecDepth 100000
open Go.RowKit
theorem OwnK.apart {α : Type} {enc : α → List Value} {k E B : Nat} {w w' : World} {g : Nat} {v : Value} {xs : List α} (h : OwnK enc k E B w v xs) (u : UpdF (fun x => x = g) w w') (hg : g < B) : OwnK enc k E B w' v xs := by
  refine row_same h fun x hx => u.block x (row_lt h x hx) fun e => ?_
  rcases h.blk with ⟨rfl, -⟩ | ⟨g', cap, cur, rfl, h2, -⟩
  · cases hx
  · obtain rfl : g' = x := Option.some.inj hx
    omega
theorem OwnV.apartV {E B : Nat} {w w' : World} {g : Nat} {v : Value} {vs : List Value} (h : OwnV E B w v vs) (u : UpdF (fun x => x = g) w w') (hg : g < B) : OwnV E B w' v vs := by
  refine row_same h fun x hx => u.block x (row_lt h x hx) fun e => ?_
  rcases h.nilOr with ⟨rfl, -⟩ | ⟨g', cap, rfl, h2, -⟩
  · cases hx
  · obtain rfl : g' = x := Option.some.inj hx
    omega
/-- A list that a reader takes: the reader, and a row of the call's own. -/
def FilesTo (w0 w : World) (g : Nat) (r : List Tbf × Option (List UInt8)) (e : Ending) (w' : World) : Prop := ∃ v, e = .returned v ∧ OwnK encTbf 5 35 w.heap.size w' v r.1 ∧ RdrTo w0 w g r.2 w'
def NumsTo (w0 w : World) (g : Nat) (r : List Int × Option (List UInt8)) (e : Ending) (w' : World) : Prop := ∃ v, e = .returned v ∧ OwnV 2 w.heap.size w' v (r.1.map encI64) ∧ RdrTo w0 w g r.2 w'
theorem tbf_form {B : Nat} {w : World} {v : Value} {xs : List Tbf} (h : OwnK encTbf 5 35 B w v xs) : ∃ a c, v = .slice a xs.length c := by
  rcases h.blk with ⟨rfl, rfl⟩ | ⟨g, cap, cur, rfl, -⟩
  · exact ⟨none, 0, rfl⟩
  · exact ⟨_, cap, rfl⟩
/-- Below B nothing was written: the reader stands as it stood. -/
theorem RdrTo.belowB {w0 w w1 w2 : World} {g : Nat} {s : Option (List UInt8)} (h : RdrTo w0 w g s w1) (u : Below w.heap.size w1 w2) (hg : g < w.heap.size) (h0 : w0.heap.size ≤ w.heap.size) : RdrTo w0 w g s w2 :=
  h.aside ⟨u.os, u.tape, u.output, u.size, fun k hk hn => u.block k (by omega)⟩ hg h0
set_option maxHeartbeats 8000000 in
theorem edFiles_any {w0 w : World} {g : Nat} {s : Option (List UInt8)} (h : RdrAt w0 w g s) : Calls Tryz.prog 109 #[.pointer (some ⟨g, 0, none⟩)] w (FilesTo w0 w g (edList edFl s)) := by
  have HF : Hid (∀ W t, RdrAt w0 W g t → Calls Tryz.prog 142 #[.pointer (some ⟨g, 0, none⟩)] W (FileTo w0 W g (edFl t))) := Lib.hid fun W t h => edFile_any h
  have HC := Lib.hid (edCount_any h)
  have HG := Lib.hid (And.intro h.lt h.2.1.size)
  obtain ⟨R, hR⟩ : ∃ R, edList edFl s = R := ⟨_, rfl⟩
  rw [hR]
  unfold edList at hR
  have hN := edCnt_le s
  generalize edCnt s = p at *
  obtain ⟨N, s1⟩ := p
  simp only at hR hN
  have HR := Lib.hid hR
  unfold CntTo at HC
  simp only at HC
  clear h hR
  go_enter Tryz.func109, Tryz.ntmps109
  go_wp2_with fail
  refine HC.out.mono ?_
  rintro e w1 ⟨rfl, h1⟩
  have HT := Lib.hid h1
  clear h1 HC
  go_wp2_with fail
  go_loopg [3, 6] N (fun kk vl vi wr => ∃ (i : Nat) (xs : List Tbf) (t : Option (List UInt8)) (a : Option Addr) (n c : Nat), vi = .int .i64 (i : Int) ∧ vl = .slice a n c ∧ i ≤ N ∧ N - i ≤ kk ∧ xs.length = i ∧ Hid (OwnK encTbf 5 35 w.heap.size wr (.slice a n c) xs) ∧ Hid (RdrTo w0 w g t wr) ∧ Hid (R = (xs ++ (edMany edFl (N - i) t).1, (edMany edFl (N - i) t).2)))
  case atStart => exact ⟨0, [], s1, none, 0, 0, rfl, rfl, by omega, by omega, rfl, Lib.hid (OwnK.nil _ _ _ _ _), HT, Lib.hid (by rw [← HR.out]; simp)⟩
  case round =>
    clear HT HR
    obtain ⟨q, xs, t, a, n, c, rfl, rfl, hq, hkk, hxl, HO, HT, HR⟩ := hrel
    by_cases h1 : q < N
    · have hd1 : (q : Int) < (N : Int) := by omega
      have HC := Lib.hid (HF.out wr t HT.out.1)
      have HR2 : Hid (R = ((xs ++ [(edFl t).1]) ++ (edMany edFl (N - (q + 1)) (edFl t).2).1, (edMany edFl (N - (q + 1)) (edFl t).2).2)) := Lib.hid (by
        have := edMany_succ edFl (N - (q + 1)) t xs
        rw [show N - (q + 1) + 1 = N - q by omega] at this
        rw [← this]; exact HR.out)
      clear HR
      generalize edFl t = p at *
      obtain ⟨⟨x0, x1, x2, x3, x4⟩, t'⟩ := p
      unfold FileTo Tbf.v at HC
      simp only at HC HR2
      go_wp2_with fail
      refine HC.out.mono ?_
      rintro e w2 ⟨rfl, h2⟩
      have HT2 := Lib.hid (HT.out.trans h2)
      have HO2 := Lib.hid (HO.out.apart h2.2 HG.out.1)
      clear h2 HC HT HO
      have hws := HT2.out.2.size
      go_wp2_with (at_builtin; refine wp_appHK elem_tbf encTbf_len _ _ (by rfl) (by rfl) (by rfl) HO2.out ⟨x0, x1, x2, x3, x4⟩ _ (by rfl) (by rfl) ?c1 ?c2 ?c3 hws ?_)
      case c1 => exact tbf_cells _
      case c2 => omega
      case c3 => unfold maxLen; omega
      intro v3 w3 o3 b3
      obtain ⟨a3, c3, rfl⟩ := tbf_form o3
      have HO3 := Lib.hid o3
      have HT3 := Lib.hid (HT2.out.belowB b3 HG.out.1 HG.out.2)
      clear o3 b3 HO2 HT2
      go_wp2_with fail
      go_roundg (N - (q + 1))
      case measure => omega
      case rel => exact ⟨q + 1, _, t', a3, _, c3, by go_num, rfl, by omega, Nat.le_refl _, by rw [List.length_append, hxl]; rfl, HO3, HT3, HR2⟩
    · have hd1 : ¬ (q : Int) < (N : Int) := by omega
      obtain rfl : q = N := by omega
      have hRe : R = (xs, t) := by
        have := HR.out
        rw [Nat.sub_self] at this
        simpa [edMany] using this
      subst hRe
      clear HR
      go_wp2_with fail
      go_ret
      exact ⟨_, rfl, HO.out, HT.out⟩
set_option maxHeartbeats 8000000 in
theorem edNumbers_any {w0 w : World} {g : Nat} {s : Option (List UInt8)} (h : RdrAt w0 w g s) : Calls Tryz.prog 110 #[.pointer (some ⟨g, 0, none⟩)] w (NumsTo w0 w g (edList edNm s)) := by
  have HF : Hid (∀ W t, RdrAt w0 W g t → Calls Tryz.prog 108 #[.pointer (some ⟨g, 0, none⟩)] W (NumTo w0 W g (edNm t))) := Lib.hid fun W t h => edNumber_any h
  have HC := Lib.hid (edCount_any h)
  have HG := Lib.hid (And.intro h.lt h.2.1.size)
  obtain ⟨R, hR⟩ : ∃ R, edList edNm s = R := ⟨_, rfl⟩
  rw [hR]
  unfold edList at hR
  have hN := edCnt_le s
  generalize edCnt s = p at *
  obtain ⟨N, s1⟩ := p
  simp only at hR hN
  have HR := Lib.hid hR
  unfold CntTo at HC
  simp only at HC
  clear h hR
  go_enter Tryz.func110, Tryz.ntmps110
  go_wp2_with fail
  refine HC.out.mono ?_
  rintro e w1 ⟨rfl, h1⟩
  have HT := Lib.hid h1
  clear h1 HC
  go_wp2_with fail
  go_loopg [3, 6] N (fun kk vl vi wr => ∃ (i : Nat) (xs : List Int) (t : Option (List UInt8)), vi = .int .i64 (i : Int) ∧ i ≤ N ∧ N - i ≤ kk ∧ xs.length = i ∧ Hid (OwnV 2 w.heap.size wr vl (xs.map encI64)) ∧ Hid (RdrTo w0 w g t wr) ∧ Hid (R = (xs ++ (edMany edNm (N - i) t).1, (edMany edNm (N - i) t).2)))
  case atStart => exact ⟨0, [], s1, rfl, by omega, by omega, rfl, Lib.hid (OwnV.nil _ _ _), HT, Lib.hid (by rw [← HR.out]; simp)⟩
  case round =>
    clear HT HR
    obtain ⟨q, xs, t, rfl, hq, hkk, hxl, HO, HT, HR⟩ := hrel
    by_cases h1 : q < N
    · have hd1 : (q : Int) < (N : Int) := by omega
      have HC := Lib.hid (HF.out wr t HT.out.1)
      have HR2 : Hid (R = ((xs ++ [(edNm t).1]) ++ (edMany edNm (N - (q + 1)) (edNm t).2).1, (edMany edNm (N - (q + 1)) (edNm t).2).2)) := Lib.hid (by
        have := edMany_succ edNm (N - (q + 1)) t xs
        rw [show N - (q + 1) + 1 = N - q by omega] at this
        rw [← this]; exact HR.out)
      clear HR
      generalize edNm t = p at *
      obtain ⟨x0, t'⟩ := p
      unfold NumTo at HC
      simp only at HC HR2
      go_wp2_with fail
      refine HC.out.mono ?_
      rintro e w2 ⟨rfl, h2⟩
      have HT2 := Lib.hid (HT.out.trans h2)
      have HO2 := Lib.hid (HO.out.apartV h2.2 HG.out.1)
      clear h2 HC HT HO
      have hws := HT2.out.2.size
      have hxm : (xs.map encI64).length = q := by rw [List.length_map, hxl]
      go_wp2_with (at_builtin; refine wp_appH elem_i64 _ _ (by rfl) (by rfl) (by rfl) HO2.out [.int .i64 x0] 1 _ rfl (by rfl) (by rfl) (by decide) ?c1 ?c2 ?c3 hws ?_)
      case c1 => intro u hu; rw [List.mem_singleton.1 hu]; rfl
      case c2 => omega
      case c3 => unfold maxLen; omega
      intro v3 w3 o3 b3
      have HO3 : Hid (OwnV 2 w.heap.size w3 v3 ((xs ++ [x0]).map encI64)) := Lib.hid (by rw [List.map_append]; exact o3)
      have HT3 := Lib.hid (HT2.out.belowB b3 HG.out.1 HG.out.2)
      clear o3 b3 HO2 HT2 hxm
      go_wp2_with fail
      go_roundg (N - (q + 1))
      case measure => omega
      case rel => exact ⟨q + 1, _, t', by go_num, by omega, Nat.le_refl _, by rw [List.length_append, hxl]; rfl, HO3, HT3, HR2⟩
    · have hd1 : ¬ (q : Int) < (N : Int) := by omega
      obtain rfl : q = N := by omega
      have hRe : R = (xs, t) := by
        have := HR.out
        rw [Nat.sub_self] at this
        simpa [edMany] using this
      subst hRe
      clear HR
      go_wp2_with fail
      go_ret
      exact ⟨_, rfl, HO.out, HT.out⟩
end Go.Proofs.YtmmkgopnccfiiaaGreatDoor
/- The walk of Decode. -/
namespace Go.Proofs.YtmmkgopnccfiiaaGreatDoor
set_option linter.unusedVariables false
set_option maxRecDepth 100000
open Go.RowKit
/-- v is an edit whose lists are the call's own. -/
def EdOwn (B : Nat) (w : World) (v : Value) (e : Edt) : Prop := ∃ va vd, v = .agg #[.int .i64 e.nxt, .int .i64 e.lg, .int .i64 e.lst, va, vd] ∧ OwnK encTbf 5 35 B w va e.adds ∧ OwnV 2 B w vd (e.dels.map encI64)
theorem EdOwn.at {B : Nat} {w : World} {v : Value} {e : Edt} (h : EdOwn B w v e) : EdAt w v e := by
  obtain ⟨va, vd, rfl, h1, h2⟩ := h
  exact ⟨va, vd, rfl, h1.rd encTbf_len, h2.rd⟩
theorem EdOwn.below {B : Nat} {w w' : World} {v : Value} {e : Edt} (h : EdOwn B w v e) (hb : Below w.heap.size w w') : EdOwn B w' v e := by
  obtain ⟨va, vd, rfl, h1, h2⟩ := h
  exact ⟨va, vd, rfl, h1.below hb, OwnV.below h2 hb⟩
theorem EdOwn.base {B B' : Nat} {w : World} {v : Value} {e : Edt} (h : EdOwn B w v e) (hB : B' ≤ B) : EdOwn B' w v e := by
  obtain ⟨va, vd, rfl, h1, h2⟩ := h
  exact ⟨va, vd, rfl, h1.base hB, OwnV.base h2 hB⟩
def edLeft (M : Nat) (s : Option (List UInt8)) : Prop := (s.getD []).length ≤ M
theorem edNm_left {M : Nat} {s : Option (List UInt8)} (h : edLeft M s) : edLeft M (edNm s).2 := by
  unfold edLeft at *
  rw [edNm_eq]
  cases hg : getN (s.getD []) with
  | none => exact Nat.zero_le _
  | some p =>
    obtain ⟨n, k⟩ := p
    simp only [Option.getD_some, List.length_drop]
    omega
theorem edTx_left {M : Nat} {s : Option (List UInt8)} (h : edLeft M s) : (edTx s).1.size ≤ M ∧ edLeft M (edTx s).2 := by
  unfold edLeft at *
  rw [edTx_eq]
  cases hg : getT (s.getD []) with
  | none => exact ⟨Nat.zero_le _, Nat.zero_le _⟩
  | some p =>
    obtain ⟨n, k⟩ := p
    have := (text_get hg).2.2
    simp only [Option.getD_some, List.length_drop]
    refine ⟨?_, by omega⟩
    show n.toArray.size ≤ M
    simp; omega
theorem edFl_left {M : Nat} {s : Option (List UInt8)} (h : edLeft M s) : ((edFl s).1.lo.size ≤ M ∧ (edFl s).1.hi.size ≤ M) ∧ edLeft M (edFl s).2 := by
  have h4 := edTx_left (edNm_left (edNm_left (edNm_left h)))
  have h5 := edTx_left h4.2
  exact ⟨⟨h4.1, h5.1⟩, h5.2⟩
theorem edMany_left {α : Type} {rd : Option (List UInt8) → α × Option (List UInt8)} {P : α → Prop} {M : Nat} (hrd : ∀ s, edLeft M s → P (rd s).1 ∧ edLeft M (rd s).2) :
    ∀ (n : Nat) (s : Option (List UInt8)), edLeft M s → (∀ x ∈ (edMany rd n s).1, P x) ∧ edLeft M (edMany rd n s).2 ∧ (edMany rd n s).1.length = n
  | 0, s, h => ⟨fun x hx => by simp [edMany] at hx, h, rfl⟩
  | n + 1, s, h => by
    obtain ⟨h1, h2⟩ := hrd s h
    obtain ⟨h3, h4, h5⟩ := edMany_left hrd n (rd s).2 h2
    refine ⟨fun x hx => ?_, h4, by simp only [edMany, List.length_cons, h5]⟩
    rcases List.mem_cons.1 hx with rfl | hx
    · exact h1
    · exact h3 x hx
theorem edCnt_left {M : Nat} {s : Option (List UInt8)} (h : edLeft M s) : edLeft M (edCnt s).2 := by
  unfold edCnt
  split
  · exact Nat.zero_le _
  · exact edNm_left h
theorem edList_left {α : Type} {rd : Option (List UInt8) → α × Option (List UInt8)} {P : α → Prop} {M : Nat} (hrd : ∀ s, edLeft M s → P (rd s).1 ∧ edLeft M (rd s).2) {s : Option (List UInt8)} (h : edLeft M s) :
    (∀ x ∈ (edList rd s).1, P x) ∧ edLeft M (edList rd s).2 ∧ (edList rd s).1.length ≤ 200 := by
  obtain ⟨h1, h2, h3⟩ := edMany_left hrd (edCnt s).1 (edCnt s).2 (edCnt_left h)
  exact ⟨h1, h2, by have := edCnt_le s; unfold edList; omega⟩
theorem edAll_ok {b : List UInt8} (h : b.length ≤ maxLen) : (edAll b).1.ok := by
  have h0 : edLeft maxLen (some b) := h
  have h3 := edNm_left (edNm_left (edNm_left h0))
  obtain ⟨h4, h5, h6⟩ := edList_left (rd := edFl) (P := Tbf.ok) (fun s hs => edFl_left hs) h3
  obtain ⟨-, -, h7⟩ := edList_left (rd := edNm) (P := fun _ => True) (fun s hs => ⟨trivial, edNm_left hs⟩) h5
  exact ⟨h4, by show _ ≤ 1000000000000; exact Nat.le_trans h6 (by decide), Nat.le_trans h7 (by decide)⟩
theorem RdB.lenMax {w : World} {v : Value} {b : List UInt8} (h : RdB w v b) : b.length ≤ maxLen := by
  rcases h with ⟨_, _, _, e⟩ | ⟨_, _, cap, _, _, h2, h3, _⟩
  · have : b = [] := by simpa using e
    subst this; exact Nat.zero_le _
  · rw [List.length_map] at h2; omega
theorem OwnV.slform {E B : Nat} {w : World} {v : Value} {vs : List Value} (h : OwnV E B w v vs) : ∃ a n c, v = .slice a n c := by
  rcases h.nilOr with ⟨rfl, -⟩ | ⟨g, cap, rfl, -⟩
  · exact ⟨none, 0, 0, rfl⟩
  · exact ⟨_, _, cap, rfl⟩
theorem EdOwn.apart {B g : Nat} {w w' : World} {v : Value} {e : Edt} (h : EdOwn B w v e) (u : UpdF (fun k => k = g) w w') (hg : g < B) : EdOwn B w' v e := by
  obtain ⟨va, vd, rfl, h1, h2⟩ := h
  exact ⟨va, vd, rfl, h1.apart u hg, h2.apartV u hg⟩
/-- On the way through Decode: the reader g, the edit that is filled, the answer's place. -/
structure DecL (w wk : World) (r f g : Nat) (s : Option (List UInt8)) (vs : Array Value) : Prop where
  rdr : RdrAt w wk g s
  edt : BlkAt wk f vs 32
  res : BlkAt wk r #[.int .i64 0, .int .i64 0, .int .i64 0, .slice none 0 0, .slice none 0 0] 32
  wr : w.heap.size ≤ r
  wf : w.heap.size ≤ f
  fg : f ≠ g
  rg : r ≠ g
  rf : r ≠ f
theorem DecL.call {w wk wl : World} {r f g : Nat} {s s' : Option (List UInt8)} {vs : Array Value} (h : DecL w wk r f g s vs) (k : RdrTo w wk g s' wl) : DecL w wl r f g s' vs :=
  { h with rdr := k.1, edt := (k.2.block f h.edt.lt h.fg).trans h.edt, res := (k.2.block r h.res.lt h.rg).trans h.res }
theorem DecL.set {w wk : World} {r f g : Nat} {s : Option (List UInt8)} {vs : Array Value} (h : DecL w wk r f g s vs) (o : Nat) (v : Value) : DecL w (wk.setCell ⟨f, o, none⟩ v) r f g s (vs.setIfInBounds o v) :=
  { h with
    rdr := h.rdr.aside ((UpdF.refl (fun k => k = f) wk).set f o v rfl) (fun e => h.fg e.symm) fun k hk e => by have := h.wf; omega
    edt := h.edt.set v
    res := h.res.other v h.rf }
def zeroEd : Value := .agg #[.int .i64 0, .int .i64 0, .int .i64 0, .slice none 0 0, .slice none 0 0]
structure DecAtE (B : Nat) (w : World) (v : Value) (c : Int) (o : Option Edt) : Prop where
  no : o = none → c = 8 ∧ v = zeroEd
  yes : ∀ x, o = some x → c = 0 ∧ EdOwn B w v x
theorem decAtE_no {B : Nat} {w : World} : DecAtE B w zeroEd 8 none := ⟨fun _ => ⟨rfl, rfl⟩, fun x h => by cases h⟩
theorem decAtE_yes {B : Nat} {w : World} {v : Value} {x : Edt} (h : EdOwn B w v x) : DecAtE B w v 0 (some x) := ⟨fun h => (by cases h), fun y e => by obtain rfl := Option.some.inj e; exact ⟨rfl, h⟩⟩
def DecTo (b : List UInt8) (w : World) (e : Ending) (w' : World) : Prop := ∃ v c, e = .returned (.tuple #[v, .int .i64 c]) ∧ DecAtE w.heap.size w' v c (decE b) ∧ Below w.heap.size w w'
set_option maxHeartbeats 8000000 in
theorem edDecode_any (v : Value) (b : List UInt8) (w : World) (h : RdB w v b) : Calls Tryz.prog 73 #[v] w (DecTo b w) := by
  have HN : Hid (∀ W g t, RdrAt w W g t → Calls Tryz.prog 108 #[.pointer (some ⟨g, 0, none⟩)] W (NumTo w W g (edNm t))) := Lib.hid fun W g t h => edNumber_any h
  have HOK := Lib.hid (edAll_ok h.lenMax)
  obtain ⟨a, len, cap, rfl, -, -⟩ := h.form
  obtain ⟨D, hD⟩ : ∃ D, decE b = D := ⟨_, rfl⟩
  unfold DecTo
  rw [hD]
  unfold decE at hD
  have hE : ∃ E, edAll b = E := ⟨_, rfl⟩
  obtain ⟨⟨E, sE⟩, hE⟩ := hE
  rw [hE] at hD HOK
  simp only at hD HOK
  unfold edAll at hE
  simp only at hE
  obtain ⟨⟨x1, s1⟩, e1⟩ : ∃ p, edNm (some b) = p := ⟨_, rfl⟩
  rw [e1] at hE; simp only at hE
  obtain ⟨⟨x2, s2⟩, e2⟩ : ∃ p, edNm s1 = p := ⟨_, rfl⟩
  rw [e2] at hE; simp only at hE
  obtain ⟨⟨x3, s3⟩, e3⟩ : ∃ p, edNm s2 = p := ⟨_, rfl⟩
  rw [e3] at hE; simp only at hE
  obtain ⟨⟨x4, s4⟩, e4⟩ : ∃ p, edList edFl s3 = p := ⟨_, rfl⟩
  rw [e4] at hE; simp only at hE
  obtain ⟨⟨x5, s5⟩, e5⟩ : ∃ p, edList edNm s4 = p := ⟨_, rfl⟩
  rw [e5] at hE; simp only at hE
  simp only [Prod.mk.injEq] at hE
  obtain ⟨rfl, rfl⟩ := hE
  have HE := Lib.hid (And.intro e1 (And.intro e2 (And.intro e3 (And.intro e4 e5))))
  have HD := Lib.hid hD
  clear hD e1 e2 e3 e4 e5
  have HL : Hid (DecL w (((w.alloc (.cells #[.int .i64 0, .int .i64 0, .int .i64 0, .slice none 0 0, .slice none 0 0] 32)).alloc (.cells #[.int .i64 0, .int .i64 0, .int .i64 0, .slice none 0 0, .slice none 0 0] 32)).alloc (.cells #[.slice a len cap, .bool false] 149)) w.heap.size (w.heap.size + 1) (w.heap.size + 1 + 1) (some b) #[.int .i64 0, .int .i64 0, .int .i64 0, .slice none 0 0, .slice none 0 0]) := Lib.hid (by
    have n1 := BlkAt.new w #[.int .i64 0, .int .i64 0, .int .i64 0, .slice none 0 0, .slice none 0 0] 32
    have b1 := (Below.refl w.heap.size w).alloc (Nat.le_refl _) (.cells #[.int .i64 0, .int .i64 0, .int .i64 0, .slice none 0 0, .slice none 0 0] 32)
    have z1 : (w.alloc (.cells #[.int .i64 0, .int .i64 0, .int .i64 0, .slice none 0 0, .slice none 0 0] 32)).heap.size = w.heap.size + 1 := by simp
    generalize w.alloc (.cells #[.int .i64 0, .int .i64 0, .int .i64 0, .slice none 0 0, .slice none 0 0] 32) = wA at *
    have n2 := BlkAt.new wA #[.int .i64 0, .int .i64 0, .int .i64 0, .slice none 0 0, .slice none 0 0] 32
    have b2 := b1.alloc b1.size (.cells #[.int .i64 0, .int .i64 0, .int .i64 0, .slice none 0 0, .slice none 0 0] 32)
    have z2 : (wA.alloc (.cells #[.int .i64 0, .int .i64 0, .int .i64 0, .slice none 0 0, .slice none 0 0] 32)).heap.size = w.heap.size + 1 + 1 := by simp [z1]
    have n1' := n1.more (.cells #[.int .i64 0, .int .i64 0, .int .i64 0, .slice none 0 0, .slice none 0 0] 32)
    generalize wA.alloc (.cells #[.int .i64 0, .int .i64 0, .int .i64 0, .slice none 0 0, .slice none 0 0] 32) = wB at *
    have n3 := BlkAt.new wB #[.slice a len cap, .bool false] 149
    have b3 := b2.alloc b2.size (.cells #[.slice a len cap, .bool false] 149)
    rw [z1] at n2
    rw [z2] at n3
    exact { rdr := ⟨by omega, b3, _, n3, h⟩, edt := n2.more _, res := n1'.more _, wr := Nat.le_refl _, wf := by omega, fg := by omega, rg := by omega, rf := by omega })
  have HC1 := Lib.hid (HN.out _ _ _ HL.out.rdr)
  rw [HE.out.1] at HC1
  clear h
  go_enter Tryz.func73, Tryz.ntmps73
  go_wp2_with fail
  refine HC1.out.mono ?_
  rintro e w1 ⟨rfl, h1⟩
  have HM := Lib.hid (HL.out.call h1)
  obtain ⟨b0, b1, b2, b3, b4, f0, f1, f2, f3, f4⟩ := HM.out.edt.cells5
  have HL1 := Lib.hid (HM.out.set 0 (.int .i64 x1))
  clear h1 HL HC1 HM
  have HC2 := Lib.hid (HN.out _ _ _ HL1.out.rdr)
  rw [HE.out.2.1] at HC2
  go_wp2_with fail
  clear b0 b1 b2 b3 b4 f0 f1 f2 f3 f4
  refine HC2.out.mono ?_
  rintro e w2 ⟨rfl, h1⟩
  have HM := Lib.hid (HL1.out.call h1)
  obtain ⟨b0, b1, b2, b3, b4, f0, f1, f2, f3, f4⟩ := HM.out.edt.cells5
  have HL2 := Lib.hid (HM.out.set 1 (.int .i64 x2))
  clear h1 HL1 HC2 HM
  have HC3 := Lib.hid (HN.out _ _ _ HL2.out.rdr)
  rw [HE.out.2.2.1] at HC3
  go_wp2_with fail
  clear b0 b1 b2 b3 b4 f0 f1 f2 f3 f4
  refine HC3.out.mono ?_
  rintro e w3 ⟨rfl, h1⟩
  have HM := Lib.hid (HL2.out.call h1)
  obtain ⟨b0, b1, b2, b3, b4, f0, f1, f2, f3, f4⟩ := HM.out.edt.cells5
  have HL3 := Lib.hid (HM.out.set 2 (.int .i64 x3))
  clear h1 HL2 HC3 HM
  have HC4 := Lib.hid (edFiles_any HL3.out.rdr)
  rw [HE.out.2.2.2.1] at HC4
  go_wp2_with fail
  clear b0 b1 b2 b3 b4 f0 f1 f2 f3 f4
  refine HC4.out.mono ?_
  rintro e w4 ⟨v4, rfl, ho, h1⟩
  obtain ⟨a4, k4, rfl⟩ := tbf_form ho
  have hz := HL3.out.rdr.2.1.size
  have HM := Lib.hid (HL3.out.call h1)
  have hlt := HL3.out.edt.lt
  obtain ⟨b0, b1, b2, b3, b4, f0, f1, f2, f3, f4⟩ := HM.out.edt.cells5
  have HL4 := Lib.hid (HM.out.set 3 (.slice a4 x4.length k4))
  have HA4 := Lib.hid (And.intro (ho.apart ((UpdF.refl (fun k => k = w.heap.size + 1) w4).set (w.heap.size + 1) 3 (.slice a4 x4.length k4) rfl) hlt) (And.intro hz (And.intro HL3.out.rdr.lt h1.2.size)))
  clear h1 ho hz hlt HL3 HC4 HM
  have HC5 := Lib.hid (edNumbers_any HL4.out.rdr)
  rw [HE.out.2.2.2.2] at HC5
  generalize hwa : w3.setCell ⟨w.heap.size + 1, 2, none⟩ (.int .i64 x3) = wa at HA4
  clear hwa
  go_wp2_with fail
  clear b0 b1 b2 b3 b4 f0 f1 f2 f3 f4
  refine HC5.out.mono ?_
  rintro e w5 ⟨v5, rfl, ho, h1⟩
  obtain ⟨a5, n5, k5, rfl⟩ := ho.slform
  have HM := Lib.hid (HL4.out.call h1)
  have hlt := HL4.out.edt.lt
  obtain ⟨b0, b1, b2, b3, b4, f0, f1, f2, f3, f4⟩ := HM.out.edt.cells5
  have HL5 := Lib.hid (HM.out.set 4 (.slice a5 n5 k5))
  have hu := (UpdF.refl (fun k => k = w.heap.size + 1) w5).set (w.heap.size + 1) 4 (.slice a5 n5 k5) rfl
  have HA5 := Lib.hid (And.intro ((HA4.out.1.apart h1.2 HA4.out.2.2.1).apart hu (by have := HA4.out.2.2.1; omega)) (And.intro (ho.apartV hu hlt) HL4.out.rdr.lt))
  clear h1 ho hlt hu HL4 HC5 HM HE HN
  have HED : Hid (EdOwn (w.heap.size + 1 + 1) (w5.setCell ⟨w.heap.size + 1, 4, none⟩ (.slice a5 n5 k5)) (.agg #[.int .i64 x1, .int .i64 x2, .int .i64 x3, (.slice a4 x4.length k4), (.slice a5 n5 k5)]) ⟨x1, x2, x3, x4, x5⟩) := Lib.hid ⟨_, _, rfl, HA5.out.1.base (Nat.le_of_lt HA4.out.2.2.1), OwnV.base HA5.out.2.1 (Nat.le_of_lt HA5.out.2.2)⟩
  clear HA5 HA4
  obtain ⟨c0, c1, c2, c3, c4, -, -, -, -, -⟩ := HL5.out.edt.cells5
  obtain ⟨r0, r1, r2, r3, r4, q0, q1, q2, q3, q4⟩ := HL5.out.res.cells5
  have HDN := Lib.hid (edDone_any HL5.out.rdr)
  have HCK := Lib.hid (edCheck_any _ _ HOK.out _ HED.out.at)
  have HBW := Lib.hid HL5.out.rdr.2.1
  have HRS := Lib.hid HL5.out
  generalize hdd : decide (s5 = some []) = dd at HDN
  have HDD := Lib.hid hdd
  clear hdd HOK HL5
  cases dd with
  | false =>
    obtain rfl : D = none := by rw [← HD.out, if_neg fun h => of_decide_eq_false HDD.out h.1]
    clear HD HDD HCK
    go_wp2_with fail
    refine HDN.out.mono ?_
    rintro e w' ⟨rfl, rfl⟩
    go_wp2_with fail
    refine bodyPost_ret (v := .tuple #[zeroEd, .int .i64 8]) (by simp [results, Tryz.results73, go_sem, zeroEd, r0, r1, r2, r3, r4]) rfl ⟨_, 8, rfl, decAtE_no, ?_⟩
    exact UpdF.below ((((((UpdF.of (F := fun k => w.heap.size ≤ k) (HBW.out.mono (Nat.le_refl _))).set w.heap.size 0 _ (Nat.le_refl _)).set w.heap.size 1 _ (Nat.le_refl _)).set w.heap.size 2 _ (Nat.le_refl _)).set w.heap.size 3 _ (Nat.le_refl _)).set w.heap.size 4 _ (Nat.le_refl _)) (Nat.le_refl _) fun k hk e => by omega
  | true =>
    have hs5 := of_decide_eq_true HDD.out
    by_cases hm : mayE ⟨x1, x2, x3, x4, x5⟩
    · have hc : chkE ⟨x1, x2, x3, x4, x5⟩ = 0 := if_pos hm
      obtain rfl : D = some ⟨x1, x2, x3, x4, x5⟩ := by rw [← HD.out, if_pos ⟨hs5, hm⟩]
      rw [hc] at HCK
      clear HD HDD hm hs5 hc
      go_wp2_with fail
      refine HDN.out.mono ?_
      rintro e w' ⟨rfl, rfl⟩
      go_wp2_with fail
      refine HCK.out.mono ?_
      rintro e w6 ⟨rfl, hb⟩
      have HB6 := Lib.hid (HBW.out.trans (hb.mono HBW.out.size))
      obtain ⟨y0, y1, y2, y3, y4, p0, p1, p2, p3, p4⟩ := (HRS.out.res.below hb).cells5
      obtain ⟨d0, d1, d2, d3, d4, -, -, -, -, -⟩ := (HRS.out.edt.below hb).cells5
      have HE6 := Lib.hid (HED.out.below hb)
      clear hb b0 b1 b2 b3 b4 c0 c1 c2 c3 c4 r0 r1 r2 r3 r4 q0 q1 q2 q3 q4 f0 f1 f2 f3 f4
      go_wp2_with fail
      refine bodyPost_ret (v := .tuple #[.agg #[.int .i64 x1, .int .i64 x2, .int .i64 x3, (.slice a4 x4.length k4), (.slice a5 n5 k5)], .int .i64 0]) (by simp [results, Tryz.results73, go_sem, y0, y1, y2, y3, y4]) rfl ⟨_, 0, rfl, decAtE_yes ?_, ?_⟩
      · have hu := ((((((UpdF.refl (fun k => k = w.heap.size) w6).set w.heap.size 0 (.int .i64 x1) rfl).set w.heap.size 1 (.int .i64 x2) rfl).set w.heap.size 2 (.int .i64 x3) rfl).set w.heap.size 3 (.slice a4 x4.length k4) rfl).set w.heap.size 4 (.slice a5 n5 k5) rfl)
        exact (HE6.out.apart hu (by omega)).base (by omega)
      · exact UpdF.below ((((((UpdF.of (F := fun k => w.heap.size ≤ k) HB6.out).set w.heap.size 0 _ (Nat.le_refl _)).set w.heap.size 1 _ (Nat.le_refl _)).set w.heap.size 2 _ (Nat.le_refl _)).set w.heap.size 3 _ (Nat.le_refl _)).set w.heap.size 4 _ (Nat.le_refl _)) (Nat.le_refl _) fun k hk e => by omega
    · have hc : chkE ⟨x1, x2, x3, x4, x5⟩ = 12 := if_neg hm
      obtain rfl : D = none := by rw [← HD.out, if_neg fun h => hm h.2]
      rw [hc] at HCK
      clear HD HDD hm hs5 hc
      go_wp2_with fail
      refine HDN.out.mono ?_
      rintro e w' ⟨rfl, rfl⟩
      go_wp2_with fail
      refine HCK.out.mono ?_
      rintro e w6 ⟨rfl, hb⟩
      have HB6 := Lib.hid (HBW.out.trans (hb.mono HBW.out.size))
      obtain ⟨y0, y1, y2, y3, y4, p0, p1, p2, p3, p4⟩ := (HRS.out.res.below hb).cells5
      obtain ⟨d0, d1, d2, d3, d4, -, -, -, -, -⟩ := (HRS.out.edt.below hb).cells5
      have HE6 := Lib.hid (HED.out.below hb)
      clear hb b0 b1 b2 b3 b4 c0 c1 c2 c3 c4 r0 r1 r2 r3 r4 q0 q1 q2 q3 q4 f0 f1 f2 f3 f4
      go_wp2_with fail
      refine bodyPost_ret (v := .tuple #[zeroEd, .int .i64 8]) (by simp [results, Tryz.results73, go_sem, zeroEd, y0, y1, y2, y3, y4]) rfl ⟨_, 8, rfl, decAtE_no, ?_⟩
      exact UpdF.below ((((((UpdF.of (F := fun k => w.heap.size ≤ k) HB6.out).set w.heap.size 0 _ (Nat.le_refl _)).set w.heap.size 1 _ (Nat.le_refl _)).set w.heap.size 2 _ (Nat.le_refl _)).set w.heap.size 3 _ (Nat.le_refl _)).set w.heap.size 4 _ (Nat.le_refl _)) (Nat.le_refl _) fun k hk e => by omega
end Go.Proofs.YtmmkgopnccfiiaaGreatDoor
/- The walks of edit's putNumber and putFile. -/
namespace Go.Proofs.YtmmkgopnccfiiaaGreatDoor
set_option linter.unusedVariables false
set_option maxRecDepth 100000
open Go.RowKit
set_option maxHeartbeats 400000 in
theorem edPutN_any (n : Int) (h0 : 0 ≤ n) (h1 : n ≤ 1125899906842624) (w : World) : Calls Tryz.prog 84 #[.int .i64 n] w (MkB (edNumB n) w) := by
  obtain ⟨m, rfl⟩ := Int.eq_ofNat_of_zero_le h0
  have HP : Hid (∀ w, Calls Tryz.prog 121 #[.int .u64 (m : Int)] w (MkB (edNumB (m : Int)) w)) := Lib.hid fun w => put_any m (by omega) w
  have hwk : IntKind.u64.wrap (m : Int) = (m : Int) := wrap_u64 m (by omega)
  generalize edNumB (m : Int) = P at *
  go_enter Tryz.func84, Tryz.ntmps84
  go_wp2_with fail
  refine (HP.out _).mono ?_
  rintro e w' ⟨v, rfl, h1, h2⟩
  go_wp2
  go_ret
  exact ⟨_, rfl, h1, h2⟩
set_option maxHeartbeats 8000000 in
theorem edPutF_any (f : Tbf) (hf : ¬ badTb f) (w : World) : Calls Tryz.prog 85 #[f.v] w (MkB (tbfB f) w) := by
  obtain ⟨⟨a1, a2⟩, ⟨a3, a4⟩, ⟨a5, a6⟩, a7, a8, -⟩ := notBadTb hf
  have HPN := Lib.hid (fun W => edPutN_any f.num (by omega) a2 W)
  have HPL := Lib.hid (fun W => edPutN_any f.lvl a3 (by omega) W)
  have HPS := Lib.hid (fun W => edPutN_any f.siz a5 (by omega) W)
  have HTL := Lib.hid (fun W => text_putL f.lo (by omega) W)
  have HTH := Lib.hid (fun W => text_putL f.hi (by omega) W)
  have HE : Hid ([edNumB f.num, edNumB f.lvl, edNumB f.siz, textE f.lo.data.toList, textE f.hi.data.toList].flatMap id = tbfB f) := Lib.hid (by simp [tbfB])
  have HEL : Hid (([edNumB f.num, edNumB f.lvl, edNumB f.siz, textE f.lo.data.toList, textE f.hi.data.toList].flatMap id).length ≤ 1000000000000) := Lib.hid (by
    rw [HE.out]; have := tbfB_len hf; omega)
  generalize tbfB f = R at *
  obtain ⟨x1, x2, x3, x4, x5⟩ := f
  unfold Tbf.v
  simp only at HPN HPL HPS HTL HTH HE HEL ⊢
  generalize edNumB x1 = PN at *
  generalize edNumB x2 = PL at *
  generalize edNumB x3 = PS at *
  generalize textE x4.data.toList = TL at *
  generalize textE x5.data.toList = TH at *
  clear a1 a2 a3 a4 a5 a6 a7 a8 hf
  go_enter Tryz.func85, Tryz.ntmps85
  go_wp2_with fail
  have HX := BlkAt.new w #[.int .i64 x1, .int .i64 x2, .int .i64 x3, .string x4, .string x5] 35
  have B : Below w.heap.size w (w.alloc (.cells #[.int .i64 x1, .int .i64 x2, .int .i64 x3, .string x4, .string x5] 35)) := (Below.refl _ w).alloc (Nat.le_refl _) _
  obtain ⟨b, hbq⟩ : ∃ b, w.heap.size = b := ⟨_, rfl⟩
  rw [hbq] at HX B ⊢
  generalize w.alloc (.cells #[.int .i64 x1, .int .i64 x2, .int .i64 x3, .string x4, .string x5] 35) = w1 at *
  rw [← hbq] at B

  refine wp_region_held_drew (S := Below w1.heap.size w1) (by kernel_rfl) (Below.refl _ _).drew (fun hHeld => ?_)
  generalize w1.drew = wd2 at hHeld ⊢
  refine wpAnyH_shift hHeld ?_
  replace B : Below w.heap.size w wd2 := B.trans (hHeld.mono B.size)
  replace HX := HX.below hHeld
  clear hHeld
  refine takeYes (i := 0) (k := 3) (v := .pointer (some ⟨b, 0, none⟩)) rfl (by kernel_rfl) (by kernel_rfl) (by kernel_rfl) (by kernel_rfl) (fun _ _ _ h => h) (by kernel_rfl) ?_ (Below.refl _ _) ?_
  · intro W hSw; first | (go_simp; done) | go_simp
  try simp only [Act.put, List.setIfInBounds_toArray, List.set_cons_zero, List.set_cons_succ]
  refine takeYes (i := 1) (k := 4) (v := .int .i64 x1) rfl (by kernel_rfl) (by kernel_rfl) (by kernel_rfl) (by kernel_rfl) (fun _ _ _ h => h) (by kernel_rfl) ?_ (Below.refl _ _) ?_
  · intro W hSw; have d0 : W.cell? ⟨b, 0, none⟩ = some (.int .i64 x1) := (HX.below hSw).at 0; first | (go_simp; done) | go_simp
  try simp only [Act.put, List.setIfInBounds_toArray, List.set_cons_zero, List.set_cons_succ]
  refine takeYes (i := 3) (k := 6) (v := .pointer (some ⟨b, 1, none⟩)) rfl (by kernel_rfl) (by kernel_rfl) (by kernel_rfl) (by kernel_rfl) (fun _ _ _ h => h) (by kernel_rfl) ?_ (Below.refl _ _) ?_
  · intro W hSw; first | (go_simp; done) | go_simp
  try simp only [Act.put, List.setIfInBounds_toArray, List.set_cons_zero, List.set_cons_succ]
  refine takeYes (i := 4) (k := 7) (v := .int .i64 x2) rfl (by kernel_rfl) (by kernel_rfl) (by kernel_rfl) (by kernel_rfl) (fun _ _ _ h => h) (by kernel_rfl) ?_ (Below.refl _ _) ?_
  · intro W hSw; have d1 : W.cell? ⟨b, 1, none⟩ = some (.int .i64 x2) := (HX.below hSw).at 1; first | (go_simp; done) | go_simp
  try simp only [Act.put, List.setIfInBounds_toArray, List.set_cons_zero, List.set_cons_succ]
  refine takeYes (i := 6) (k := 9) (v := .pointer (some ⟨b, 2, none⟩)) rfl (by kernel_rfl) (by kernel_rfl) (by kernel_rfl) (by kernel_rfl) (fun _ _ _ h => h) (by kernel_rfl) ?_ (Below.refl _ _) ?_
  · intro W hSw; first | (go_simp; done) | go_simp
  try simp only [Act.put, List.setIfInBounds_toArray, List.set_cons_zero, List.set_cons_succ]
  refine takeYes (i := 7) (k := 10) (v := .int .i64 x3) rfl (by kernel_rfl) (by kernel_rfl) (by kernel_rfl) (by kernel_rfl) (fun _ _ _ h => h) (by kernel_rfl) ?_ (Below.refl _ _) ?_
  · intro W hSw; have d2 : W.cell? ⟨b, 2, none⟩ = some (.int .i64 x3) := (HX.below hSw).at 2; first | (go_simp; done) | go_simp
  try simp only [Act.put, List.setIfInBounds_toArray, List.set_cons_zero, List.set_cons_succ]
  refine takeYes (i := 9) (k := 12) (v := .pointer (some ⟨b, 3, none⟩)) rfl (by kernel_rfl) (by kernel_rfl) (by kernel_rfl) (by kernel_rfl) (fun _ _ _ h => h) (by kernel_rfl) ?_ (Below.refl _ _) ?_
  · intro W hSw; first | (go_simp; done) | go_simp
  try simp only [Act.put, List.setIfInBounds_toArray, List.set_cons_zero, List.set_cons_succ]
  refine takeYes (i := 10) (k := 13) (v := .string x4) rfl (by kernel_rfl) (by kernel_rfl) (by kernel_rfl) (by kernel_rfl) (fun _ _ _ h => h) (by kernel_rfl) ?_ (Below.refl _ _) ?_
  · intro W hSw; have d3 : W.cell? ⟨b, 3, none⟩ = some (.string x4) := (HX.below hSw).at 3; first | (go_simp; done) | go_simp
  try simp only [Act.put, List.setIfInBounds_toArray, List.set_cons_zero, List.set_cons_succ]
  refine takeYes (i := 12) (k := 15) (v := .pointer (some ⟨b, 4, none⟩)) rfl (by kernel_rfl) (by kernel_rfl) (by kernel_rfl) (by kernel_rfl) (fun _ _ _ h => h) (by kernel_rfl) ?_ (Below.refl _ _) ?_
  · intro W hSw; first | (go_simp; done) | go_simp
  try simp only [Act.put, List.setIfInBounds_toArray, List.set_cons_zero, List.set_cons_succ]
  refine takeYes (i := 13) (k := 16) (v := .string x5) rfl (by kernel_rfl) (by kernel_rfl) (by kernel_rfl) (by kernel_rfl) (fun _ _ _ h => h) (by kernel_rfl) ?_ (Below.refl _ _) ?_
  · intro W hSw; have d4 : W.cell? ⟨b, 4, none⟩ = some (.string x5) := (HX.below hSw).at 4; first | (go_simp; done) | go_simp
  try simp only [Act.put, List.setIfInBounds_toArray, List.set_cons_zero, List.set_cons_succ]
  refine wpAnyH_ready (rs := [2]) (by kernel_rfl) (by simp) (AllReadyH.cons rfl (fun K hK => ?_) AllReadyH.nil)
  go_simp
  refine (HPN.out _).mono ?_
  rintro e wd3 ⟨v5, rfl, o5, hb3⟩
  obtain ⟨a5, n5, c5, rfl, -⟩ := id o5.form
  have R5 := OwnB.rd o5
  clear o5
  refine hK.out _ _ hb3 (fun _ => wpAnyH_shift hb3 ?_)
  clear hK K
  replace B : Below w.heap.size w wd3 := B.trans (hb3.mono B.size)
  replace HX := HX.below hb3
  clear hb3
  try simp only [Act.put, List.setIfInBounds_toArray, List.set_cons_zero, List.set_cons_succ]
  refine wpAnyH_ready (rs := [5]) (by kernel_rfl) (by simp) (AllReadyH.cons rfl (fun K hK => ?_) AllReadyH.nil)
  go_simp
  refine (HPL.out _).mono ?_
  rintro e wd4 ⟨v8, rfl, o8, hb4⟩
  obtain ⟨a8, n8, c8, rfl, -⟩ := id o8.form
  have R8 := OwnB.rd o8
  clear o8
  refine hK.out _ _ hb4 (fun _ => wpAnyH_shift hb4 ?_)
  clear hK K
  replace B : Below w.heap.size w wd4 := B.trans (hb4.mono B.size)
  replace HX := HX.below hb4
  replace R5 := R5.below hb4
  clear hb4
  try simp only [Act.put, List.setIfInBounds_toArray, List.set_cons_zero, List.set_cons_succ]
  refine wpAnyH_ready (rs := [8]) (by kernel_rfl) (by simp) (AllReadyH.cons rfl (fun K hK => ?_) AllReadyH.nil)
  go_simp
  refine (HPS.out _).mono ?_
  rintro e wd5 ⟨v11, rfl, o11, hb5⟩
  obtain ⟨a11, n11, c11, rfl, -⟩ := id o11.form
  have R11 := OwnB.rd o11
  clear o11
  refine hK.out _ _ hb5 (fun _ => wpAnyH_shift hb5 ?_)
  clear hK K
  replace B : Below w.heap.size w wd5 := B.trans (hb5.mono B.size)
  replace HX := HX.below hb5
  replace R5 := R5.below hb5
  replace R8 := R8.below hb5
  clear hb5
  try simp only [Act.put, List.setIfInBounds_toArray, List.set_cons_zero, List.set_cons_succ]
  refine wpAnyH_ready (rs := [11]) (by kernel_rfl) (by simp) (AllReadyH.cons rfl (fun K hK => ?_) AllReadyH.nil)
  go_simp
  refine (HTL.out _).mono ?_
  rintro e wd6 ⟨v14, rfl, o14, hb6⟩
  obtain ⟨a14, n14, c14, rfl, -⟩ := id o14.form
  have R14 := OwnB.rd o14
  clear o14
  refine hK.out _ _ hb6 (fun _ => wpAnyH_shift hb6 ?_)
  clear hK K
  replace B : Below w.heap.size w wd6 := B.trans (hb6.mono B.size)
  replace HX := HX.below hb6
  replace R5 := R5.below hb6
  replace R8 := R8.below hb6
  replace R11 := R11.below hb6
  clear hb6
  try simp only [Act.put, List.setIfInBounds_toArray, List.set_cons_zero, List.set_cons_succ]
  refine wpAnyH_ready (rs := [14]) (by kernel_rfl) (by simp) (AllReadyH.cons rfl (fun K hK => ?_) AllReadyH.nil)
  go_simp
  refine (HTH.out _).mono ?_
  rintro e wd7 ⟨v17, rfl, o17, hb7⟩
  obtain ⟨a17, n17, c17, rfl, -⟩ := id o17.form
  have R17 := OwnB.rd o17
  clear o17
  refine hK.out _ _ hb7 (fun _ => wpAnyH_shift hb7 ?_)
  clear hK K
  replace B : Below w.heap.size w wd7 := B.trans (hb7.mono B.size)
  replace HX := HX.below hb7
  replace R5 := R5.below hb7
  replace R8 := R8.below hb7
  replace R11 := R11.below hb7
  replace R14 := R14.below hb7
  clear hb7
  try simp only [Act.put, List.setIfInBounds_toArray, List.set_cons_zero, List.set_cons_succ]
  refine wpAnyH_ready (rs := [15]) (by kernel_rfl) (by simp) (AllReadyH.cons rfl (fun K hK => ?_) AllReadyH.nil)
  go_simp
  have HC := Lib.hid (concat_any _ [PN, PL, PS, TL, TH] ⟨HEL.out, by simp⟩ _ (rdRecs_row wd7 [.slice a5 n5 c5, .slice a8 n8 c8, .slice a11 n11 c11, .slice a14 n14 c14, .slice a17 n17 c17] _ (.cons R5 (.cons R8 (.cons R11 (.cons R14 (.cons R17 .nil))))) _ rfl 5 rfl (by decide) (by unfold maxLen; decide)))
  rw [HE.out] at HC
  obtain ⟨hh17, hh17q⟩ : ∃ x, wd7.heap.size = x := ⟨_, rfl⟩
  obtain ⟨wd8, hwx⟩ : ∃ x, wd7.alloc (.cells #[.slice a5 n5 c5, .slice a8 n8 c8, .slice a11 n11 c11, .slice a14 n14 c14, .slice a17 n17 c17] 51) = x := ⟨_, rfl⟩
  rw [hwx] at HC ⊢
  rw [hh17q] at HC ⊢
  have hb8 : Below wd7.heap.size wd7 wd8 := by rw [← hwx]; exact (Below.refl _ _).alloc (Nat.le_refl _) _
  clear hwx hh17q
  refine hK.out _ _ hb8 (fun _ => wpAnyH_shift hb8 ?_)
  clear hK K
  replace B : Below w.heap.size w wd8 := B.trans (hb8.mono B.size)
  replace HX := HX.below hb8
  replace R5 := R5.below hb8
  replace R8 := R8.below hb8
  replace R11 := R11.below hb8
  replace R14 := R14.below hb8
  replace R17 := R17.below hb8
  clear hb8
  try simp only [Act.put, List.setIfInBounds_toArray, List.set_cons_zero, List.set_cons_succ]
  refine wpAnyH_ready (rs := [16]) (by kernel_rfl) (by simp) (AllReadyH.cons rfl (fun K hK => ?_) AllReadyH.nil)
  go_simp
  refine (HC.out).mono ?_
  rintro e wd9 ⟨v19, rfl, o19, hb9⟩
  obtain ⟨a19, n19, c19, rfl, -⟩ := id o19.form
  have OO := OwnB.base (B' := w.heap.size) o19 B.size
  clear HC
  refine hK.out _ _ hb9 (fun _ => wpAnyH_shift hb9 ?_)
  clear hK K
  replace B : Below w.heap.size w wd9 := B.trans (hb9.mono B.size)
  replace HX := HX.below hb9
  replace R5 := R5.below hb9
  replace R8 := R8.below hb9
  replace R11 := R11.below hb9
  replace R14 := R14.below hb9
  replace R17 := R17.below hb9
  clear hb9
  try simp only [Act.put, List.setIfInBounds_toArray, List.set_cons_zero, List.set_cons_succ]
  refine takeYes (i := 17) (k := 2) (v := .slice a19 n19 c19) rfl (by kernel_rfl) (by kernel_rfl) (by kernel_rfl) (by kernel_rfl) (fun _ _ _ h => h) (by kernel_rfl) ?_ (Below.refl _ _) ?_
  · intro W hSw; first | (go_simp; done) | go_simp
  try simp only [Act.put, List.setIfInBounds_toArray, List.set_cons_zero, List.set_cons_succ]
  refine wpAnyH_done (by kernel_rfl) ?_ _
  go_wp2_with fail
  go_ret
  exact ⟨_, rfl, OO, B⟩
end Go.Proofs.YtmmkgopnccfiiaaGreatDoor
/- The walk of Encode. -/
namespace Go.Proofs.YtmmkgopnccfiiaaGreatDoor
set_option linter.unusedVariables false
set_option maxRecDepth 100000
open Go.RowKit
def EncToE (x : Edt) (w : World) (e : Ending) (w' : World) : Prop := ∃ v, e = .returned (.tuple #[v, .int .i64 (chkE x)]) ∧ (mayE x → OwnB w.heap.size w' v (edtB x)) ∧ (¬ mayE x → v = .slice none 0 0) ∧ Below w.heap.size w w'
theorem edFlat_take {α : Type} {B : α → List UInt8} {l : List α} {q : Nat} {x : α} (h : l[q]? = some x) : (l.take (q + 1)).flatMap B = (l.take q).flatMap B ++ B x := by
  obtain ⟨hq, rfl⟩ := List.getElem?_eq_some_iff.1 h
  rw [List.take_add_one, List.getElem?_eq_getElem hq, List.flatMap_append]
  simp
set_option maxHeartbeats 8000000 in
theorem edEncode_any (v : Value) (x : Edt) (hok : x.ok) (w : World) (h : EdAt w v x) : Calls Tryz.prog 50 #[v] w (EncToE x w) := by
  obtain ⟨C, hC⟩ : ∃ C, chkE x = C := ⟨_, rfl⟩
  unfold EncToE
  rw [hC]
  have HCK : Hid (∀ W, Below w.heap.size w W → Calls Tryz.prog 48 #[v] W (ChkRes W C)) := Lib.hid fun W hW => by rw [← hC]; exact edCheck_any v x hok W (h.below hW)
  obtain ⟨va, vd, rfl, ha, hd⟩ := h
  obtain ⟨aA, cA, rfl, -⟩ := edFl_len ha
  obtain ⟨aD, cD, rfl⟩ := edInts_len hd
  obtain ⟨x1, x2, x3, A, D⟩ := x
  simp only at ha hd HCK ⊢
  obtain ⟨LA, hLA⟩ : ∃ L, A.length = L := ⟨_, rfl⟩
  obtain ⟨LD, hLD⟩ : ∃ L, D.length = L := ⟨_, rfl⟩
  have HB := Lib.hid ((Below.refl w.heap.size w).alloc (Nat.le_refl _) (.cells #[.int .i64 x1, .int .i64 x2, .int .i64 x3, .slice aA LA cA, .slice aD LD cD] 32))
  have HX0 := Lib.hid (BlkAt.new w #[.int .i64 x1, .int .i64 x2, .int .i64 x3, .slice aA LA cA, .slice aD LD cD] 32)
  have HLA := Lib.hid hLA
  have HLD := Lib.hid hLD
  rw [hLA] at ha HCK ⊢
  rw [hLD] at hd HCK ⊢
  have HRA := Lib.hid ha
  have HRD := Lib.hid hd
  have HC1 := Lib.hid (HCK.out _ HB.out)
  clear ha hd HCK hok
  by_cases hm : mayE ⟨x1, x2, x3, A, D⟩
  · obtain rfl : C = 0 := by rw [← hC]; exact if_pos hm
    obtain ⟨⟨⟨a1, a2⟩, ⟨a3, a4⟩, ⟨a5, a6⟩⟩, ⟨a7, a8⟩, HMF, HMD⟩ := id hm
    simp only at a1 a2 a3 a4 a5 a6 a7 a8 HMF HMD
    rw [hLA] at a7
    rw [hLD] at a8
    have HF := Lib.hid HMF
    have HD := Lib.hid HMD
    have HPX := Lib.hid (fun W => edPutN_any x1 a1 a2 W)
    have HPL := Lib.hid (fun W => edPutN_any x2 a3 a4 W)
    have HPS := Lib.hid (fun W => edPutN_any x3 a5 a6 W)
    have HPA : Hid (∀ W, Calls Tryz.prog 84 #[.int .i64 (LA : Int)] W (MkB (putN LA) W)) := Lib.hid (fun W => edPutN_any (LA : Int) (by omega) (by omega) W)
    have HPD : Hid (∀ W, Calls Tryz.prog 84 #[.int .i64 (LD : Int)] W (MkB (putN LD) W)) := Lib.hid (fun W => edPutN_any (LD : Int) (by omega) (by omega) W)
    obtain ⟨R, hR⟩ : ∃ R, edtB ⟨x1, x2, x3, A, D⟩ = R := ⟨_, rfl⟩
    rw [hR]
    obtain ⟨H, hH⟩ : ∃ H, edHeadB ⟨x1, x2, x3, A, D⟩ = H := ⟨_, rfl⟩
    have HRR : Hid (R = (H ++ A.flatMap tbfB) ++ (putN LD ++ D.flatMap edNumB)) := Lib.hid (by rw [← hR, ← hH, ← hLD]; simp [edtB])
    have HE : Hid ([edNumB x1, edNumB x2, edNumB x3, putN LA].flatMap id = H) := Lib.hid (by rw [← hH, ← hLA]; simp [edHeadB])
    have hHL : H.length ≤ 40 := by
      have b1 := edNumB_len x1
      have b2 := edNumB_len x2
      have b3 := edNumB_len x3
      have b4 := (putN_len LA).2
      rw [← HE.out]; simp; omega
    have HEL : Hid (([edNumB x1, edNumB x2, edNumB x3, putN LA].flatMap id).length ≤ 1000000000000) := Lib.hid (by rw [HE.out]; omega)
    have hpd := (putN_len LD).2
    have HYES := Lib.hid hm
    clear hm hC hR hH HMF HMD hLA hLD
    generalize edNumB x1 = PX at *
    generalize edNumB x2 = PL at *
    generalize edNumB x3 = PS at *
    generalize putN LA = PA at *
    generalize putN LD = PD at *
    go_enter Tryz.func50, Tryz.ntmps50
    go_wp2_with fail
    refine HC1.out.mono ?_
    rintro e w1 ⟨rfl, b1⟩
    have HBW := Lib.hid (HB.out.trans (b1.mono HB.out.size))
    have HX := HX0.out.below b1
    have HXW := Lib.hid HX
    have B : Below w1.heap.size w1 w1 := Below.refl _ _
    clear b1 HC1 HB HX0
    obtain ⟨b, hbq⟩ : ∃ b, w.heap.size = b := ⟨_, rfl⟩
    rw [hbq] at HX ⊢
    go_wp2_with fail
    refine wp_region_held_drew (S := Below w1.heap.size w1) (by kernel_rfl) (Below.refl _ _).drew (fun hHeld => ?_)
    generalize w1.drew = wd2 at hHeld ⊢
    refine wpAnyH_shift hHeld ?_
    replace B : Below w1.heap.size w1 wd2 := B.trans (hHeld.mono B.size)
    replace HX := HX.below hHeld
    clear hHeld
    refine takeYes (i := 0) (k := 15) (v := .pointer (some ⟨b, 0, none⟩)) rfl (by kernel_rfl) (by kernel_rfl) (by kernel_rfl) (by kernel_rfl) (fun _ _ _ h => h) (by kernel_rfl) ?_ (Below.refl _ _) ?_
    · intro W hSw; first | (go_simp; done) | go_simp
    try simp only [Act.put, List.setIfInBounds_toArray, List.set_cons_zero, List.set_cons_succ]
    refine takeYes (i := 1) (k := 16) (v := .int .i64 x1) rfl (by kernel_rfl) (by kernel_rfl) (by kernel_rfl) (by kernel_rfl) (fun _ _ _ h => h) (by kernel_rfl) ?_ (Below.refl _ _) ?_
    · intro W hSw; have d0 : W.cell? ⟨b, 0, none⟩ = some (.int .i64 x1) := (HX.below hSw).at 0; first | (go_simp; done) | go_simp
    try simp only [Act.put, List.setIfInBounds_toArray, List.set_cons_zero, List.set_cons_succ]
    refine takeYes (i := 3) (k := 18) (v := .pointer (some ⟨b, 1, none⟩)) rfl (by kernel_rfl) (by kernel_rfl) (by kernel_rfl) (by kernel_rfl) (fun _ _ _ h => h) (by kernel_rfl) ?_ (Below.refl _ _) ?_
    · intro W hSw; first | (go_simp; done) | go_simp
    try simp only [Act.put, List.setIfInBounds_toArray, List.set_cons_zero, List.set_cons_succ]
    refine takeYes (i := 4) (k := 19) (v := .int .i64 x2) rfl (by kernel_rfl) (by kernel_rfl) (by kernel_rfl) (by kernel_rfl) (fun _ _ _ h => h) (by kernel_rfl) ?_ (Below.refl _ _) ?_
    · intro W hSw; have d1 : W.cell? ⟨b, 1, none⟩ = some (.int .i64 x2) := (HX.below hSw).at 1; first | (go_simp; done) | go_simp
    try simp only [Act.put, List.setIfInBounds_toArray, List.set_cons_zero, List.set_cons_succ]
    refine takeYes (i := 6) (k := 21) (v := .pointer (some ⟨b, 2, none⟩)) rfl (by kernel_rfl) (by kernel_rfl) (by kernel_rfl) (by kernel_rfl) (fun _ _ _ h => h) (by kernel_rfl) ?_ (Below.refl _ _) ?_
    · intro W hSw; first | (go_simp; done) | go_simp
    try simp only [Act.put, List.setIfInBounds_toArray, List.set_cons_zero, List.set_cons_succ]
    refine takeYes (i := 7) (k := 22) (v := .int .i64 x3) rfl (by kernel_rfl) (by kernel_rfl) (by kernel_rfl) (by kernel_rfl) (fun _ _ _ h => h) (by kernel_rfl) ?_ (Below.refl _ _) ?_
    · intro W hSw; have d2 : W.cell? ⟨b, 2, none⟩ = some (.int .i64 x3) := (HX.below hSw).at 2; first | (go_simp; done) | go_simp
    try simp only [Act.put, List.setIfInBounds_toArray, List.set_cons_zero, List.set_cons_succ]
    refine takeYes (i := 9) (k := 24) (v := .pointer (some ⟨b, 3, none⟩)) rfl (by kernel_rfl) (by kernel_rfl) (by kernel_rfl) (by kernel_rfl) (fun _ _ _ h => h) (by kernel_rfl) ?_ (Below.refl _ _) ?_
    · intro W hSw; first | (go_simp; done) | go_simp
    try simp only [Act.put, List.setIfInBounds_toArray, List.set_cons_zero, List.set_cons_succ]
    refine takeYes (i := 10) (k := 25) (v := .slice aA LA cA) rfl (by kernel_rfl) (by kernel_rfl) (by kernel_rfl) (by kernel_rfl) (fun _ _ _ h => h) (by kernel_rfl) ?_ (Below.refl _ _) ?_
    · intro W hSw; have d3 : W.cell? ⟨b, 3, none⟩ = some (.slice aA LA cA) := (HX.below hSw).at 3; first | (go_simp; done) | go_simp
    try simp only [Act.put, List.setIfInBounds_toArray, List.set_cons_zero, List.set_cons_succ]
    refine takeYes (i := 11) (k := 26) (v := .int .i64 (LA : Int)) rfl (by kernel_rfl) (by kernel_rfl) (by kernel_rfl) (by kernel_rfl) (fun _ _ _ h => h) (by kernel_rfl) ?_ (Below.refl _ _) ?_
    · intro W hSw; first | (go_simp; done) | go_simp
    try simp only [Act.put, List.setIfInBounds_toArray, List.set_cons_zero, List.set_cons_succ]
    refine wpAnyH_ready (rs := [2]) (by kernel_rfl) (by simp) (AllReadyH.cons rfl (fun K hK => ?_) AllReadyH.nil)
    go_simp
    refine (HPX.out _).mono ?_
    rintro e wd3 ⟨v17, rfl, o17, hb3⟩
    obtain ⟨a17, n17, c17, rfl, -⟩ := id o17.form
    have R17 := OwnB.rd o17
    clear o17
    refine hK.out _ _ hb3 (fun _ => wpAnyH_shift hb3 ?_)
    clear hK K
    replace B : Below w1.heap.size w1 wd3 := B.trans (hb3.mono B.size)
    replace HX := HX.below hb3
    clear hb3
    try simp only [Act.put, List.setIfInBounds_toArray, List.set_cons_zero, List.set_cons_succ]
    refine wpAnyH_ready (rs := [5]) (by kernel_rfl) (by simp) (AllReadyH.cons rfl (fun K hK => ?_) AllReadyH.nil)
    go_simp
    refine (HPL.out _).mono ?_
    rintro e wd4 ⟨v20, rfl, o20, hb4⟩
    obtain ⟨a20, n20, c20, rfl, -⟩ := id o20.form
    have R20 := OwnB.rd o20
    clear o20
    refine hK.out _ _ hb4 (fun _ => wpAnyH_shift hb4 ?_)
    clear hK K
    replace B : Below w1.heap.size w1 wd4 := B.trans (hb4.mono B.size)
    replace HX := HX.below hb4
    replace R17 := R17.below hb4
    clear hb4
    try simp only [Act.put, List.setIfInBounds_toArray, List.set_cons_zero, List.set_cons_succ]
    refine wpAnyH_ready (rs := [8]) (by kernel_rfl) (by simp) (AllReadyH.cons rfl (fun K hK => ?_) AllReadyH.nil)
    go_simp
    refine (HPS.out _).mono ?_
    rintro e wd5 ⟨v23, rfl, o23, hb5⟩
    obtain ⟨a23, n23, c23, rfl, -⟩ := id o23.form
    have R23 := OwnB.rd o23
    clear o23
    refine hK.out _ _ hb5 (fun _ => wpAnyH_shift hb5 ?_)
    clear hK K
    replace B : Below w1.heap.size w1 wd5 := B.trans (hb5.mono B.size)
    replace HX := HX.below hb5
    replace R17 := R17.below hb5
    replace R20 := R20.below hb5
    clear hb5
    try simp only [Act.put, List.setIfInBounds_toArray, List.set_cons_zero, List.set_cons_succ]
    refine wpAnyH_ready (rs := [12]) (by kernel_rfl) (by simp) (AllReadyH.cons rfl (fun K hK => ?_) AllReadyH.nil)
    go_simp
    refine (HPA.out _).mono ?_
    rintro e wd6 ⟨v27, rfl, o27, hb6⟩
    obtain ⟨a27, n27, c27, rfl, -⟩ := id o27.form
    have R27 := OwnB.rd o27
    clear o27
    refine hK.out _ _ hb6 (fun _ => wpAnyH_shift hb6 ?_)
    clear hK K
    replace B : Below w1.heap.size w1 wd6 := B.trans (hb6.mono B.size)
    replace HX := HX.below hb6
    replace R17 := R17.below hb6
    replace R20 := R20.below hb6
    replace R23 := R23.below hb6
    clear hb6
    try simp only [Act.put, List.setIfInBounds_toArray, List.set_cons_zero, List.set_cons_succ]
    refine wpAnyH_ready (rs := [13]) (by kernel_rfl) (by simp) (AllReadyH.cons rfl (fun K hK => ?_) AllReadyH.nil)
    go_simp
    have HC := Lib.hid (concat_any _ [PX, PL, PS, PA] ⟨HEL.out, by simp⟩ _ (rdRecs_row wd6 [.slice a17 n17 c17, .slice a20 n20 c20, .slice a23 n23 c23, .slice a27 n27 c27] _ (.cons R17 (.cons R20 (.cons R23 (.cons R27 .nil)))) _ rfl 4 rfl (by decide) (by unfold maxLen; decide)))
    rw [HE.out] at HC
    obtain ⟨hh17, hh17q⟩ : ∃ x, wd6.heap.size = x := ⟨_, rfl⟩
    obtain ⟨wd7, hwx⟩ : ∃ x, wd6.alloc (.cells #[.slice a17 n17 c17, .slice a20 n20 c20, .slice a23 n23 c23, .slice a27 n27 c27] 51) = x := ⟨_, rfl⟩
    rw [hwx] at HC ⊢
    rw [hh17q] at HC ⊢
    have hb7 : Below wd6.heap.size wd6 wd7 := by rw [← hwx]; exact (Below.refl _ _).alloc (Nat.le_refl _) _
    clear hwx hh17q
    refine hK.out _ _ hb7 (fun _ => wpAnyH_shift hb7 ?_)
    clear hK K
    replace B : Below w1.heap.size w1 wd7 := B.trans (hb7.mono B.size)
    replace HX := HX.below hb7
    replace R17 := R17.below hb7
    replace R20 := R20.below hb7
    replace R23 := R23.below hb7
    replace R27 := R27.below hb7
    clear hb7
    try simp only [Act.put, List.setIfInBounds_toArray, List.set_cons_zero, List.set_cons_succ]
    refine wpAnyH_ready (rs := [14]) (by kernel_rfl) (by simp) (AllReadyH.cons rfl (fun K hK => ?_) AllReadyH.nil)
    go_simp
    refine (HC.out).mono ?_
    rintro e wd8 ⟨v29, rfl, o29, hb8⟩
    obtain ⟨a29, n29, c29, rfl, -⟩ := id o29.form
    have OO := OwnB.base (B' := w1.heap.size) o29 B.size
    clear HC
    refine hK.out _ _ hb8 (fun _ => wpAnyH_shift hb8 ?_)
    clear hK K
    replace B : Below w1.heap.size w1 wd8 := B.trans (hb8.mono B.size)
    replace HX := HX.below hb8
    replace R17 := R17.below hb8
    replace R20 := R20.below hb8
    replace R23 := R23.below hb8
    replace R27 := R27.below hb8
    clear hb8
    try simp only [Act.put, List.setIfInBounds_toArray, List.set_cons_zero, List.set_cons_succ]
    refine takeYes (i := 15) (k := 5) (v := .slice a29 n29 c29) rfl (by kernel_rfl) (by kernel_rfl) (by kernel_rfl) (by kernel_rfl) (fun _ _ _ h => h) (by kernel_rfl) ?_ (Below.refl _ _) ?_
    · intro W hSw; first | (go_simp; done) | go_simp
    try simp only [Act.put, List.setIfInBounds_toArray, List.set_cons_zero, List.set_cons_succ]
    refine wpAnyH_done (by kernel_rfl) ?_ _
    rw [← hbq] at HX ⊢
    clear hbq
    have HB1 := Lib.hid B
    have HO1 := Lib.hid OO
    obtain ⟨d0, d1, d2, d3, d4, -, -, -, -, -⟩ := HX.cells5
    clear B HX OO R17 R20 R23 R27 HPX HPL HPS HPA HE HEL
    have HRA1 := Lib.hid (HRA.out.below (HBW.out.mono (Nat.le_refl _)))
    go_wp2_with fail
    clear d0 d1 d2 d3 d4
    go_loopg [33, 5] LA (fun kk vi vb wr => ∃ (i : Nat) (L : List UInt8) (ab : Option Addr) (nb cb : Nat), vi = .int .i64 (i : Int) ∧ vb = .slice ab nb cb ∧ i ≤ LA ∧ LA - i ≤ kk ∧ L.length ≤ 40 + i * 26100 ∧ Hid (L = H ++ (A.take i).flatMap tbfB) ∧ Hid (OwnB w1.heap.size wr (.slice ab nb cb) L) ∧ Hid (Below w1.heap.size w1 wr))
    case atStart => exact ⟨0, H, _, _, _, rfl, rfl, by omega, by omega, by omega, Lib.hid (by simp), HO1, HB1⟩
    case round =>
      clear HO1 HB1
      obtain ⟨q, L, ab, nb, cb, rfl, rfl, hq, hkk, hLl, HL, HO, HB⟩ := hrel
      by_cases h1 : q < LA
      · have hd1 : (q : Int) < (LA : Int) := by omega
        have hd0 : (0 : Int) ≤ (q : Int) := by omega
        obtain ⟨f, hf⟩ : ∃ f, A[q]? = some f := ⟨A[q]'(by have := HLA.out; omega), List.getElem?_eq_getElem _⟩
        have hnf := HF.out f (List.mem_of_getElem? hf)
        have HTK := Lib.hid (edFlat_take (B := tbfB) hf)
        have hfl := tbfB_len hnf
        obtain ⟨bA, off, rfl, hblt, d0, d1, d2, d3, d4⟩ := (HRA1.out.below HB.out).atTbf q f hf
        have HPF := Lib.hid (fun W => edPutF_any f hnf W)
        clear hf hnf
        have hal : Below wr.heap.size wr (wr.alloc (.cells #[.int .i64 f.num, .int .i64 f.lvl, .int .i64 f.siz, .string f.lo, .string f.hi] 35)) := (Below.refl _ wr).alloc (Nat.le_refl _) _
        have HB2 := Lib.hid (And.intro (HB.out.trans (hal.mono HB.out.size)) (HO.out.below hal))
        clear hal HO HB
        generalize tbfB f = FB at *
        obtain ⟨y1, y2, y3, y4, y5⟩ := f
        unfold Tbf.v at HPF
        simp only at d0 d1 d2 d3 d4 HPF HB2
        go_wp2_with fail
        refine (HPF.out _).mono ?_
        rintro e w2 ⟨v2, rfl, o2, b2⟩
        have HB3 := Lib.hid (And.intro (HB2.out.1.trans (b2.mono HB2.out.1.size)) (And.intro (HB2.out.2.below b2) o2.rd))
        clear o2 b2 HB2 HPF d0 d1 d2 d3 d4
        have hLq : q * 26100 ≤ 5220000 := by omega
        go_wp2_with (at_builtin; refine wp_appSB _ _ (by rfl) (by rfl) (by rfl) HB3.out.2.1 (by rfl) HB3.out.2.2 ?c1 HB3.out.1.size ?_)
        case c1 => omega
        intro v3 w3 o3 b3
        obtain ⟨a3, n3, c3, rfl, -⟩ := o3.form
        have HO4 := Lib.hid o3
        have HB4 := Lib.hid (HB3.out.1.trans b3)
        clear o3 b3 HB3
        go_wp2_with fail
        go_roundg (LA - (q + 1))
        case measure => omega
        case rel => exact ⟨q + 1, _, a3, n3, c3, by go_num, rfl, by omega, Nat.le_refl _, by rw [List.length_append]; omega, Lib.hid (by rw [HTK.out, HL.out, List.append_assoc]), HO4, HB4⟩
      · have hd1 : ¬ (q : Int) < (LA : Int) := by omega
        obtain rfl : q = LA := by omega
        have hLA : L = H ++ A.flatMap tbfB := by rw [HL.out, List.take_of_length_le (by have := HLA.out; omega)]
        have HRL : Hid (R = L ++ (PD ++ D.flatMap edNumB)) := Lib.hid (by rw [HRR.out, hLA])
        have hLm : L.length ≤ 5300000 := by omega
        clear HL hLA HRR hLl hHL HF HRA HRA1 hq hkk
        obtain ⟨d0, d1, d2, d3, d4, -, -, -, -, -⟩ := (HXW.out.below HB.out).cells5
        go_wp2_with fail
        refine (HPD.out _).mono ?_
        rintro e w2 ⟨v2, rfl, o2, b2⟩
        have HB3 := Lib.hid (And.intro (HB.out.trans (b2.mono HB.out.size)) (And.intro (HO.out.below b2) o2.rd))
        clear o2 b2 HPD HO HB d0 d1 d2 d3 d4
        go_wp2_with (at_builtin; refine wp_appSB _ _ (by rfl) (by rfl) (by rfl) HB3.out.2.1 (by rfl) HB3.out.2.2 ?c1 HB3.out.1.size ?_)
        case c1 => omega
        intro v3 w3 o3 b3
        obtain ⟨a3, n3, c3, rfl, -⟩ := o3.form
        have HO1 := Lib.hid o3
        have HB1 := Lib.hid (HB3.out.1.trans b3)
        clear o3 b3 HB3
        obtain ⟨d0, d1, d2, d3, d4, -, -, -, -, -⟩ := (HXW.out.below HB1.out).cells5
        have HRD1 := Lib.hid (RdV.below HRD.out HBW.out)
        clear HRD
        have hpl : (L ++ PD).length ≤ 5300010 := by rw [List.length_append]; omega
        have HRM : Hid (R = (L ++ PD) ++ D.flatMap edNumB) := Lib.hid (by rw [HRL.out, List.append_assoc])
        clear HRL
        generalize L ++ PD = M at *
        go_wp2_with fail
        clear d0 d1 d2 d3 d4
        go_loopg [51, 5] LD (fun kk vi vb wr => ∃ (i : Nat) (L : List UInt8) (ab : Option Addr) (nb cb : Nat), vi = .int .i64 (i : Int) ∧ vb = .slice ab nb cb ∧ i ≤ LD ∧ LD - i ≤ kk ∧ L.length ≤ 5300010 + i * 10 ∧ Hid (L = M ++ (D.take i).flatMap edNumB) ∧ Hid (OwnB w1.heap.size wr (.slice ab nb cb) L) ∧ Hid (Below w1.heap.size w1 wr))
        case atStart => exact ⟨0, M, _, _, _, rfl, rfl, by omega, by omega, by omega, Lib.hid (by simp), HO1, HB1⟩
        case round =>
          clear HO1 HB1
          obtain ⟨p, L, ab, nb, cb, rfl, rfl, hp, hkk, hLl, HL, HO, HB⟩ := hrel
          by_cases h2 : p < LD
          · have hd1 : (p : Int) < (LD : Int) := by omega
            have hd0 : (0 : Int) ≤ (p : Int) := by omega
            obtain ⟨n, hn⟩ : ∃ n, D[p]? = some n := ⟨D[p]'(by have := HLD.out; omega), List.getElem?_eq_getElem _⟩
            have hnn := HD.out n (List.mem_of_getElem? hn)
            have HTK := Lib.hid (edFlat_take (B := edNumB) hn)
            have hnl := edNumB_len n
            obtain ⟨bD, off, rfl, hblt, d0⟩ := edInts_at (RdV.below HRD1.out HB.out) p n hn
            have HPF := Lib.hid (fun W => edPutN_any n (by unfold badTab at hnn; omega) (by unfold badTab at hnn; omega) W)
            clear hn hnn
            generalize edNumB n = FB at *
            go_wp2_with fail
            refine (HPF.out _).mono ?_
            rintro e w4 ⟨v4, rfl, o4, b4⟩
            have HB5 := Lib.hid (And.intro (HB.out.trans (b4.mono HB.out.size)) (And.intro (HO.out.below b4) o4.rd))
            clear o4 b4 HPF HO HB d0
            go_wp2_with (at_builtin; refine wp_appSB _ _ (by rfl) (by rfl) (by rfl) HB5.out.2.1 (by rfl) HB5.out.2.2 ?c1 HB5.out.1.size ?_)
            case c1 => omega
            intro v5 w5 o5 b5
            obtain ⟨a5', n5, c5, rfl, -⟩ := o5.form
            have HO6 := Lib.hid o5
            have HB6 := Lib.hid (HB5.out.1.trans b5)
            clear o5 b5 HB5
            go_wp2_with fail
            go_roundg (LD - (p + 1))
            case measure => omega
            case rel => exact ⟨p + 1, _, a5', n5, c5, by go_num, rfl, by omega, Nat.le_refl _, by rw [List.length_append]; omega, Lib.hid (by rw [HTK.out, HL.out, List.append_assoc]), HO6, HB6⟩
          · have hd1 : ¬ (p : Int) < (LD : Int) := by omega
            obtain rfl : p = LD := by omega
            have HRL : Hid (R = L) := Lib.hid (by rw [HRM.out, HL.out, List.take_of_length_le (by have := HLD.out; omega)])
            clear HL HRM
            go_wp2_with fail
            go_ret2
            exact ⟨_, rfl, fun _ => by rw [HRL.out]; exact HO.out.base HBW.out.size, fun h => absurd HYES.out h, HBW.out.trans (HB.out.mono HBW.out.size)⟩
  · obtain rfl : C = 12 := by rw [← hC]; exact if_neg hm
    have HNO := Lib.hid hm
    clear hm hC hLA hLD HRA HRD HLA HLD
    go_enter Tryz.func50, Tryz.ntmps50
    go_wp2_with fail
    refine HC1.out.mono ?_
    rintro e w1 ⟨rfl, b1⟩
    have HBW := Lib.hid (HB.out.trans (b1.mono HB.out.size))
    clear b1 HC1 HB HX0
    go_wp2_with fail
    go_ret2
    exact ⟨_, rfl, fun h => absurd h HNO.out, fun _ => rfl, HBW.out⟩
end Go.Proofs.YtmmkgopnccfiiaaGreatDoor
