/- Another file is made beside a manifest: it stands as it stood. -/
import Derived.Test.YtmmkgopnccfiiaaGreatDoorMManC
namespace Go.Proofs.YtmmkgopnccfiiaaGreatDoor
set_option linter.unusedVariables false
open Go.RowKit Go.Maps
theorem get_ne {S : Fs} {c : Chg} {n : ByteArray} (ho : DirOk S.now) (h1 : n ≠ c.fr) (h2 : n ≠ c.goes) : dget n (Chg.run S.now c) = dget n S.now := by
  unfold Chg.run
  split
  · exact dget_del_ne ho h1
  · rw [dget_put_ne (ddel_ok ho) h2, dget_del_ne ho h1]
theorem newD_more {sm : List UInt8 → List UInt8} {v i j : Nat} {log : List UInt8} {fs : List Fil} {D : Dir} (h : NewD sm v i j log fs D) (p : Fil) : NewD sm v i j log (fs ++ [p]) D := by
  obtain ⟨h1, h2, h3, h4⟩ := h
  exact ⟨h1, h2, by rw [List.getElem?_append_left (List.getElem?_eq_some_iff.1 h3).1]; exact h3, by rw [List.getElem?_append_left (List.getElem?_eq_some_iff.1 h4).1]; exact h4⟩
theorem std_create {S : Fs} {u : Nat} {V : Ver} {es : List Edt} {N L W r : Nat} (h : Std smN S u V es N L W r) (hf : S.fails = none) {x : ByteArray} (hx : nameOk x = true) (hs : x.size ≤ 140737488355328) (h1 : x ≠ curN) (h2 : x ≠ manN u) (hN : N < 200) (hL2 : L ≤ 16777216) :
    (S.create x).1 = 0 ∧ Std smN (S.create x).2 u V es (N + 1) L (W + 1) r ∧ (S.create x).2.fails = none ∧ (∀ y, y ≠ x → y ≠ ⟨#[]⟩ → dget y (S.create x).2.now = dget y S.now) ∧ dget ⟨#[]⟩ (S.create x).2.now = none := by
  have hnow := h.disk.now
  obtain ⟨i, j, hij, hn⟩ := h.new
  rcases create_out (S := S) hx (by omega) with ⟨o1, o2, o3⟩ | ⟨-, -, o3⟩
  rotate_left
  · exact absurd hf o3
  refine ⟨o1, ?_, o3 hf, ?_, ?_⟩
  · rw [o2]
    have hd1 := (h.disk.begun.morefile ⟨[], 0⟩ (Nat.le_refl _) (Nat.zero_le _) hL2)
    have hlen : (Chg.run S.now ⟨⟨#[]⟩, x, some S.files.length⟩).length ≤ N + 1 := Nat.le_trans (run_len _ _) (by omega)
    have hd2 := (hd1.more (N' := N + 1) (by omega) (Nat.le_refl _) (Nat.le_refl _)).change (c := ⟨⟨#[]⟩, x, some S.files.length⟩) (fun k hk => by obtain rfl := Option.some.inj hk; show S.files.length < (S.files ++ [_]).length; simp) ⟨Nat.zero_le _, hs⟩ hlen (by omega)
    refine ⟨hd2, ⟨i, j, hij, ?_⟩, h.may, h.man, h.good, h.below⟩
    refine AllD.change hd1.ok (fun k => newD_more (hn k) _) ?_
    obtain ⟨q1, q2, q3, q4⟩ := newD_more (hn.now h.disk.ok) ⟨[], 0⟩
    have e0 : curN ≠ ⟨#[]⟩ := by decide
    exact ⟨by rw [← q1]; exact get_ne h.disk.ok.now (c := ⟨⟨#[]⟩, x, some S.files.length⟩) e0 (fun e => h1 e.symm), by rw [← q2]; exact get_ne h.disk.ok.now (c := ⟨⟨#[]⟩, x, some S.files.length⟩) (manN_nul u) (fun e => h2 e.symm), q3, q4⟩
  · intro y hy hy0
    rw [o2]
    exact get_ne h.disk.ok.now (c := ⟨⟨#[]⟩, x, some S.files.length⟩) hy0 hy
  · rw [o2]
    show dget ⟨#[]⟩ (dput x S.files.length (ddel ⟨#[]⟩ S.now)) = none
    have hx0 : (⟨#[]⟩ : ByteArray) ≠ x := fun e => by rw [← e] at hx; exact absurd hx (by decide)
    rw [dget_put_ne (ddel_ok h.disk.ok.now) hx0]
    exact dget_del
end Go.Proofs.YtmmkgopnccfiiaaGreatDoor
