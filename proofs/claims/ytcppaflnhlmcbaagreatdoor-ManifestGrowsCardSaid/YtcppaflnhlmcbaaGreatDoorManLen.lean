/- Plain mathematics of a manifest: how long its log can grow, and that there is room for it. -/
import Derived.Test.YtcppaflnhlmcbaaGreatDoorManSafe
namespace Go.Proofs.YtcppaflnhlmcbaaGreatDoor
set_option linter.unusedVariables false
open Go.RowKit
theorem mids_tight {sm : List UInt8 → List UInt8} (hs : ∀ l, (sm l).length = 4) : ∀ (n : Nat) (b : List UInt8), b.length ≤ n → (midsB sm b).length ≤ b.length + 7 * (b.length / 249) + 7
  | n, b, h => by
    by_cases hl : b.length ≤ 249
    · rw [mids_last sm b hl, rcPiece_len hs]; omega
    · match n with
      | 0 => omega
      | n + 1 =>
        have := mids_tight hs n (b.drop 249) (by rw [List.length_drop]; omega)
        rw [List.length_drop] at this
        rw [mids_more sm b hl, List.length_append, rcPiece_len hs, List.length_take]; omega
theorem layB_tight {sm : List UInt8 → List UInt8} (hs : ∀ l, (sm l).length = 4) (a : Nat) (b : List UInt8) : (layB sm a b).length ≤ b.length + b.length / 32 + 20 := by
  have h1 := pad_room a
  by_cases h : b.length ≤ roomN a
  · rw [layB_whole sm a b h, List.length_append, List.length_replicate, rcPiece_len hs]; omega
  · have h2 := mids_tight hs _ (b.drop (roomN a)) (Nat.le_refl _)
    rw [List.length_drop] at h2
    rw [layB_more sm a b h, List.length_append, List.length_replicate, List.length_append, rcPiece_len hs, List.length_take]; omega
/-- Texts of at most m bytes. -/
def thinF (m : Nat) (f : Tbf) : Prop := f.lo.size ≤ m ∧ f.hi.size ≤ m
theorem tbfB_thin {m : Nat} {f : Tbf} (h : thinF m f) : (tbfB f).length ≤ 50 + 2 * m := by
  obtain ⟨h1, h2⟩ := h
  have a1 := edNumB_len f.num
  have a2 := edNumB_len f.lvl
  have a3 := edNumB_len f.siz
  have a4 := (putN_len f.lo.data.toList.length).2
  have a5 := (putN_len f.hi.data.toList.length).2
  have a6 := size_toList f.lo
  have a7 := size_toList f.hi
  unfold tbfB textE
  simp only [List.length_append]
  omega
theorem flat_le {α : Type} (g : α → List UInt8) (m : Nat) : ∀ l : List α, (∀ x ∈ l, (g x).length ≤ m) → (l.flatMap g).length ≤ m * l.length
  | [], _ => Nat.zero_le _
  | x :: r, h => by
    have h1 := flat_le g m r fun y hy => h y (List.mem_cons_of_mem _ hy)
    have h2 := h x (List.mem_cons_self ..)
    rw [List.flatMap_cons, List.length_append, List.length_cons, Nat.mul_add, Nat.mul_one]
    omega
theorem edtB_thin {m : Nat} {e : Edt} (h : ∀ f ∈ e.adds, thinF m f) : (edtB e).length ≤ 50 + (50 + 2 * m) * e.adds.length + 10 * e.dels.length := by
  have h1 := flat_le tbfB (50 + 2 * m) e.adds fun f hf => tbfB_thin (h f hf)
  have h2 := flat_le edNumB 10 e.dels fun n _ => edNumB_len n
  have a1 := edNumB_len e.nxt
  have a2 := edNumB_len e.lg
  have a3 := edNumB_len e.lst
  have a4 := (putN_len e.adds.length).2
  have a5 := (putN_len e.dels.length).2
  unfold edtB edHeadB
  simp only [List.length_append]
  omega
/-- A manifest behind at most c edits of a law, and so many new ones: the room is enough. -/
structure Run (sm : List UInt8 → List UInt8) (S : Fs) (u : Nat) (V : Ver) (es : List Edt) (c r : Nat) : Prop where
  std : Std sm S u V es (2 + 2 * r) (2420 * c + 100) 1 1048576
  log : (logB sm es).length ≤ 2420 * c + 100
  thin : ∀ f ∈ V.fs, thinF 20 f
  few : V.fs.length ≤ 12 * c
/-- An edit that a law cuts. -/
def cutE (e : Edt) : Prop := e.adds.length ≤ 12 ∧ e.dels.length ≤ 12 ∧ ∀ f ∈ e.adds, thinF 20 f
theorem cutE_len {sm : List UInt8 → List UInt8} (hs : ∀ l, (sm l).length = 4) {e : Edt} (h : cutE e) (a : Nat) : (layB sm a (edtB e)).length ≤ 1400 := by
  obtain ⟨h1, h2, h3⟩ := h
  have h4 := edtB_thin h3
  have h5 := layB_tight hs a (edtB e)
  have h6 : (50 + 2 * 20) * e.adds.length ≤ 90 * 12 := Nat.mul_le_mul_left 90 h1
  omega
theorem room_le {c r : Nat} (h : c + r ≤ 20) : (5 + 2 * r) * (2420 * c + 100) ≤ 1048576 := by
  have h1 : ∀ c' : Fin 21, (5 + 2 * (20 - c'.1)) * (2420 * c'.1 + 100) ≤ 1048576 := by decide
  have h2 := h1 ⟨c, by omega⟩
  exact Nat.le_trans (Nat.mul_le_mul_right _ (by show 5 + 2 * r ≤ 5 + 2 * (20 - c); omega)) h2
theorem Run.add {sm : List UInt8 → List UInt8} (hs : ∀ l, (sm l).length = 4) {S : Fs} {u : Nat} {V V' n : Ver} {es : List Edt} {c r : Nat} (h : Run sm S u V es c r) (hcr : c + r < 20) {e : Edt} (hc : cutE e) (he : mayE e) (ha : applyV V e = some n) (hV : vSame n V') :
    Out S (addF S u (layB sm (logB sm es).length (edtB e))) (fun S' => Run sm S' u V' (es ++ [e]) (c + 1) r ∧ S'.now = S.now) (fun S' => Way S' (2 + 2 * r) (2420 * (c + 1) + 100) 1 1048576 (Holds sm S.files.length (fun X => vSame X V ∨ vSame X V') u)) := by
  have hb := cutE_len hs hc (logB sm es).length
  have hl := h.log
  have q1 : 2 + 2 * r ≤ 199 := by omega
  have q2 : (logB sm es).length + (layB sm (logB sm es).length (edtB e)).length ≤ 2420 * (c + 1) + 100 := by omega
  have q0 : 1400 ≤ 2420 * (c + 1) + 100 := by omega
  have q3 : 2420 * (c + 1) + 100 ≤ 16777216 := by clear hb hl q2 q1; omega
  have hst := h.std.more (N' := 2 + 2 * r) (L' := 2420 * (c + 1) + 100) (W' := 1) (Nat.le_refl _) (by omega) (Nat.le_refl _)
  have q4 : (2 + 2 * r) * (2420 * (c + 1) + 100) + (layB sm (logB sm es).length (edtB e)).length ≤ 1048576 := by
    have hrm := room_le (c := c + 1) (r := r) (by omega)
    revert hrm q0
    generalize 2420 * (c + 1) + 100 = K
    intro hrm q0
    have hmul : (2 + 2 * r) * K + K ≤ (5 + 2 * r) * K := by
      rw [← Nat.succ_mul]
      exact Nat.mul_le_mul_right _ (by omega)
    generalize (2 + 2 * r) * K = A at *
    generalize (5 + 2 * r) * K = B at *
    omega
  refine (hst.add hs he ha hV rfl q1 q2 q3 q4).mono ?_ fun S' hS' => hS'
  rintro S' ⟨s1, s2⟩
  obtain ⟨t1, t2⟩ := applyV_tabs ha
  obtain ⟨c1, c2, c3⟩ := hc
  refine ⟨⟨s1, ?_, fun f hf => ?_, ?_⟩, s2⟩
  · rw [logB_snoc, List.length_append]; omega
  · rcases t2 f (hV.1.mem_iff.2 hf) with k | k
    · exact h.thin f k
    · exact c3 f k
  · rw [← hV.1.length_eq]; have := h.few; omega
theorem wholeE_len {sm : List UInt8 → List UInt8} (hs : ∀ l, (sm l).length = 4) {V : Ver} {c : Nat} (h1 : ∀ f ∈ V.fs, thinF 20 f) (h2 : V.fs.length ≤ 12 * c) : (logB sm [⟨V.nx, V.lg, V.ls, V.fs, []⟩]).length ≤ 2420 * c + 100 := by
  rw [logB_one]
  have h4 := edtB_thin (e := ⟨V.nx, V.lg, V.ls, V.fs, []⟩) h1
  have h5 := layB_tight hs 0 (edtB ⟨V.nx, V.lg, V.ls, V.fs, []⟩)
  have h6 : (50 + 2 * 20) * V.fs.length ≤ 90 * (12 * c) := Nat.mul_le_mul_left 90 h2
  simp only [List.length_nil] at h4
  omega
theorem Run.turn {sm : List UInt8 → List UInt8} (hs : ∀ l, (sm l).length = 4) {S : Fs} {u v : Nat} {V V' : Ver} {es : List Edt} {c r : Nat} (h : Run sm S u V es c r) (hcr : c + r < 20) (hv : (v : Int) = V.nx) (hV : vSame (bumpV V) V') (hg : GoodV V') {log : List UInt8} (hl : log = logB sm [⟨V'.nx, V'.lg, V'.ls, V'.fs, []⟩]) :
    Out S (turnF sm S u v log) (fun S' => Run sm S' v V' [⟨V'.nx, V'.lg, V'.ls, V'.fs, []⟩] c (r + 1) ∧ ∀ n, n ≠ curN → n ≠ manN v → dget n S'.now = if n = manN u ∨ n = besN ∨ n = ⟨#[]⟩ then none else dget n S.now)
      (fun S' => Way S' (2 + 2 * (r + 1)) (2420 * c + 100) 5 1048576 fun fs D => Holds sm S.files.length (fun X => vSame X V ∨ vSame X V') u fs D ∨ NewD sm v (S.files.length + 1) S.files.length log fs D) := by
  have ht : ∀ f ∈ V'.fs, thinF 20 f := fun f hf => h.thin f (hV.1.mem_iff.2 hf)
  have hf : V'.fs.length ≤ 12 * c := by rw [← hV.1.length_eq]; exact h.few
  have hll := wholeE_len hs ht hf
  have q1 : 2 + 2 * r + 2 ≤ 199 := by omega
  have q2 : log.length ≤ 2420 * c + 100 := by rw [hl]; exact hll
  have q0 : 12 ≤ 2420 * c + 100 := by omega
  have q3 : 2420 * c + 100 ≤ 16777216 := by clear hll q2 q1; omega
  have q4 : (2 + 2 * r + 2) * (2420 * c + 100) + (2420 * c + 100) ≤ 1048576 := by
    have hrm := room_le (c := c) (r := r) (by omega)
    rw [← Nat.succ_mul, show (2 + 2 * r + 2).succ = 5 + 2 * r by omega]
    exact hrm
  refine (h.std.turn hs hv hV hg hl q1 q2 q0 q3 q4).mono ?_ ?_
  · rintro S' ⟨s1, s2⟩
    exact ⟨⟨by rw [show 2 + 2 * (r + 1) = 2 + 2 * r + 2 by omega]; exact s1, hll, ht, hf⟩, s2⟩
  · intro S' hS'
    rw [show 2 + 2 * (r + 1) = 2 + 2 * r + 2 by omega]
    exact hS'
/-- Of any version the bytes are not too many. -/
theorem edtB_any {e : Edt} (h : mayE e) : (edtB e).length ≤ 6000000 := by
  obtain ⟨-, ⟨h1, h2⟩, h3, h4⟩ := h
  have h5 := flat_le tbfB 26100 e.adds fun f hf => tbfB_len (h3 f hf)
  have h6 := flat_le edNumB 10 e.dels fun n _ => edNumB_len n
  have a1 := edNumB_len e.nxt
  have a2 := edNumB_len e.lg
  have a3 := edNumB_len e.lst
  have a4 := (putN_len e.adds.length).2
  have a5 := (putN_len e.dels.length).2
  unfold edtB edHeadB
  simp only [List.length_append]
  omega
theorem whole_any {sm : List UInt8 → List UInt8} (hs : ∀ l, (sm l).length = 4) {e : Edt} (h : mayE e) (a : Nat) : (layB sm a (edtB e)).length ≤ 7000000 := by
  have h1 := edtB_any h
  have h2 := layB_tight hs a (edtB e)
  omega
theorem Run.crash {sm : List UInt8 → List UInt8} (hs : ∀ l, (sm l).length = 4) {S : Fs} {u : Nat} {V : Ver} {es : List Edt} {c r : Nat} (h : Run sm S u V es c r) (n : Int) (ts : List Int) : Run sm (S.crash n ts) u V es c r :=
  ⟨(h.std.crash hs n ts).more (Nat.le_refl _) (Nat.le_refl _) (by omega), h.log, h.thin, h.few⟩
theorem Run.same {sm : List UInt8 → List UInt8} {S : Fs} {u : Nat} {V V' : Ver} {es : List Edt} {c r : Nat} (h : Run sm S u V es c r) (hv : vSame V V') : Run sm S u V' es c r :=
  ⟨h.std.same hv, h.log, fun f hf => h.thin f (hv.1.mem_iff.2 hf), by rw [← hv.1.length_eq]; exact h.few⟩
end Go.Proofs.YtcppaflnhlmcbaaGreatDoor
