/- Plain mathematics of the law ManifestGrows: its edits, what they make, how long the log is. -/
import Derived.Test.YtcppaflnhlmcbaaGreatDoorManIn
import Derived.Test.YtcppaflnhlmcbaaGreatDoorVerBegun
import Derived.Test.YtcppaflnhlmcbaaGreatDoorMOld
namespace Go.Proofs.YtcppaflnhlmcbaaGreatDoor
set_option linter.unusedVariables false
open Go.RowKit Go.Maps
def fG (k : Nat) : Tbf := ⟨9 + (k : Int), 0, 0, ⟨#[97]⟩, ⟨#[98]⟩⟩
def dG (k : Nat) : List Int := if k = 0 then [] else [8 + (k : Int)]
def eG (k : Nat) : Edt := ⟨10 + (k : Int), 0, 0, [fG k], dG k⟩
/-- The version that k edits make. -/
def vG : Nat → Ver
  | 0 => verC
  | k + 1 => ⟨[fG k], 10 + (k : Int), 0, 0⟩
theorem grow_all : (List.range 60).map (fun k => applyV (vG k) (eG k)) = (List.range 60).map fun k => some (vG (k + 1)) := by kernel_rfl
theorem grow_at {k : Nat} (h : k < 60) : applyV (vG k) (eG k) = some (vG (k + 1)) := by
  have e := congrArg (fun l => l[k]?) grow_all
  simp only [List.getElem?_map, List.getElem?_range h, Option.map_some, Option.some.injEq] at e
  exact e
theorem whole_all : (List.range 60).map (fun (k : Nat) => (edtB ⟨10 + (k : Int) + 1, 0, 0, [fG k], []⟩).length) = (List.range 60).map fun k => 12 := by kernel_rfl
theorem whole_at {k : Nat} (h : k < 60) : (edtB ⟨10 + (k : Int) + 1, 0, 0, [fG k], []⟩).length = 12 := by
  have e := congrArg (fun l => l[k]?) whole_all
  simp only [List.getElem?_map, List.getElem?_range h, Option.map_some, Option.some.injEq] at e
  exact e
theorem eG_thin (k : Nat) : ∀ f ∈ (eG k).adds, thinF 20 f := fun f hf => by rw [List.mem_singleton.1 hf]; exact ⟨by show (1 : Nat) ≤ 20; omega, by show (1 : Nat) ≤ 20; omega⟩
theorem eG_len (k a : Nat) : (layB smN a (edtB (eG k))).length ≤ 190 := by
  have h1 := edtB_thin (eG_thin k)
  have h2 := layB_tight smN_len a (edtB (eG k))
  have h3 : (eG k).adds.length = 1 := rfl
  have h4 : (eG k).dels.length ≤ 1 := by show (dG k).length ≤ 1; unfold dG; split <;> simp
  rw [h3] at h1
  omega
theorem lay_min {sm : List UInt8 → List UInt8} (hs : ∀ l, (sm l).length = 4) (a : Nat) (b : List UInt8) : 7 ≤ (layB sm a b).length := by
  by_cases h : b.length ≤ roomN a
  · rw [layB_whole sm a b h, List.length_append, rcPiece_len hs]; omega
  · rw [layB_more sm a b h, List.length_append, List.length_append, rcPiece_len hs]; omega
theorem whole_fin {k : Nat} (h : k < 60) : (logB smN [⟨10 + (k : Int) + 1, 0, 0, [fG k], []⟩]).length ≤ 32 := by
  have h1 := whole_at h
  have h2 := layB_tight smN_len 0 (edtB ⟨10 + (k : Int) + 1, 0, 0, [fG k], []⟩)
  rw [logB_one]
  omega
theorem perm_one {α : Type} {a : α} {l : List α} (h : [a].Perm l) : l = [a] := List.perm_singleton.1 h.symm
theorem vG_same {k : Nat} {V' : Ver} (h : vSame (vG k) V') : V' = vG k := by
  obtain ⟨h1, h2, h3, h4⟩ := h
  obtain ⟨fs, nx, lg, ls⟩ := V'
  cases k with
  | zero => exact same_none ⟨h1, h2, h3, h4⟩ rfl
  | succ k =>
    have e : fs = [fG k] := perm_one h1
    subst e
    have e2 : nx = 10 + (k : Int) := h2.symm
    have e3 : lg = 0 := h3.symm
    have e4 : ls = 0 := h4.symm
    subst e2; subst e3; subst e4; rfl
theorem eG_ok (k : Nat) : (eG k).ok := by
  refine Edt.short.ok ⟨by show (1 : Nat) ≤ 12; omega, by show (dG k).length ≤ 12; unfold dG; split <;> simp, fun f hf => eG_thin k f hf⟩
/-- The first edit, as it is laid. -/
theorem eG_at0 (w : World) (X : Obj) : EdAt ((w.alloc (.cells #[.int .i64 (9 + ((0 : Nat) : Int)), .int .i64 0, .int .i64 0, .string ⟨#[97]⟩, .string ⟨#[98]⟩] 54)).alloc X) (.agg #[.int .i64 (10 + ((0 : Nat) : Int)), .int .i64 0, .int .i64 0, .slice (some ⟨w.heap.size, 0, none⟩) 1 1, .slice none 0 0]) (eG 0) :=
  ⟨_, _, rfl, (tab_one w (fG 0)).below ((Below.refl _ _).alloc (Nat.le_refl _) _), RdV.nil _ _ _⟩
/-- An edit that comes behind others, as it is laid. -/
theorem eG_at1 (w : World) (k : Nat) (hk : k ≠ 0) (X : Obj) : EdAt (((w.alloc (.cells #[.int .i64 (9 + (k : Int)), .int .i64 0, .int .i64 0, .string ⟨#[97]⟩, .string ⟨#[98]⟩] 54)).alloc X).alloc (.cells #[.int .i64 (8 + (k : Int))] 2)) (.agg #[.int .i64 (10 + (k : Int)), .int .i64 0, .int .i64 0, .slice (some ⟨w.heap.size, 0, none⟩) 1 1, .slice (some ⟨w.heap.size + 1 + 1, 0, none⟩) 1 1]) (eG k) := by
  have b1 : ∀ (W : World) (o : Obj), Below W.heap.size W (W.alloc o) := fun W o => (Below.refl _ _).alloc (Nat.le_refl _) _
  refine ⟨_, _, rfl, ((tab_one w (fG k)).below (b1 _ _)).below (b1 _ _), ?_⟩
  have e : (eG k).dels.map encI64 = [.int .i64 (8 + (k : Int))] := by
    show (dG k).map encI64 = _
    unfold dG; rw [if_neg hk]; rfl
  rw [e]
  have h := own_fresh (E := 2) ((w.alloc (.cells #[.int .i64 (9 + (k : Int)), .int .i64 0, .int .i64 0, .string ⟨#[97]⟩, .string ⟨#[98]⟩] 54)).alloc X) [.int .i64 (8 + (k : Int))] 1 rfl (by decide) (by simp [maxLen])
  have hs : ((w.alloc (.cells #[.int .i64 (9 + (k : Int)), .int .i64 0, .int .i64 0, .string ⟨#[97]⟩, .string ⟨#[98]⟩] 54)).alloc X).heap.size = w.heap.size + 1 + 1 := by simp
  rw [hs] at h
  exact h.rd
theorem bump_same {k : Nat} {V' : Ver} (h : vSame (bumpV (vG (k + 1))) V') : V' = ⟨[fG k], 10 + (k : Int) + 1, 0, 0⟩ := by
  obtain ⟨h1, h2, h3, h4⟩ := h
  obtain ⟨fs, nx, lg, ls⟩ := V'
  have e : fs = [fG k] := perm_one h1
  subst e
  have e2 : nx = 10 + (k : Int) + 1 := h2.symm
  have e3 : lg = 0 := h3.symm
  have e4 : ls = 0 := h4.symm
  subst e2; subst e3; subst e4; rfl
/-- Where all names are needed none is old. -/
theorem none_old {D : Dir} {need : List ByteArray} {lg : Int} (h : ∀ x ∈ D.map (·.1), x ∈ need) : ((D.map (·.1)).filter fun x => !delP need lg x) = [] := by
  rw [List.filter_eq_nil_iff]
  intro x hx
  unfold delP
  rw [(Lib.containsS_iff need x).2 (h x hx)]
  simp
/-- The names behind a Rewrite. -/
theorem names_all {S S' : Fs} {v : Nat} (ho : DirOk S'.now) (h0 : ∀ x, x ≠ curN → x ≠ manN 1 → dget x S.now = none)
    (h : ∀ n, n ≠ curN → n ≠ manN v → dget n S'.now = if n = manN 1 ∨ n = besN ∨ n = ⟨#[]⟩ then none else dget n S.now) (fs : List Tbf) : ∀ x ∈ S'.now.map (·.1), x ∈ needN v v fs := by
  intro x hx
  obtain ⟨⟨n, i⟩, hm, rfl⟩ := List.mem_map.1 hx
  have hg := (dget_mem ho).2 hm
  by_cases e1 : n = curN
  · rw [e1]; exact List.mem_cons_self ..
  by_cases e2 : n = manN v
  · rw [e2]; exact List.mem_cons_of_mem _ (List.mem_cons_self ..)
  exfalso
  rw [h n e1 e2] at hg
  split at hg
  · cases hg
  · rename_i hc
    rw [h0 n e1 fun e => hc (.inl e)] at hg
    cases hg
end Go.Proofs.YtcppaflnhlmcbaaGreatDoor
