/- Plain mathematics of a manifest's files: what stands behind each call, and behind one that fails. -/
import Derived.Test.YtcppaflnhlmcbaaGreatDoorManFs
namespace Go.Proofs.YtcppaflnhlmcbaaGreatDoor
set_option linter.unusedVariables false
open Go.RowKit
/-- Such a predicate holds on where files come in, files from b0 on are written, and names of the turning go. -/
structure Calm (b0 v : Nat) (X : List Fil → Dir → Prop) : Prop where
  more : ∀ fs p D, X fs D → X (fs ++ [p]) D
  set : ∀ fs a p D, b0 ≤ a → X fs D → X (fs.set a p) D
  run : ∀ fs D c, DirOk D → (c.fr = ⟨#[]⟩ ∨ c.fr = besN) → (c.goes = besN ∨ c.goes = manN v) → X fs D → X fs (Chg.run D c)
/-- On the way: all directories, how many files there are, what the names are now. -/
structure Way (S : Fs) (N L W r : Nat) (X : List Fil → Dir → Prop) : Prop where
  disk : Disk S N L W r
  all : AllD S X
theorem Way.begun {S : Fs} {N L W r : Nat} {X : List Fil → Dir → Prop} (h : Way S N L W r X) : Way S.begun N L W r X := ⟨h.disk.begun, h.all⟩
theorem run_ne {D : Dir} {c : Chg} {n : ByteArray} (ho : DirOk D) (h1 : n ≠ c.fr) (h2 : n ≠ c.goes) : dget n (Chg.run D c) = dget n D := by
  unfold Chg.run
  split
  · exact dget_del_ne ho h1
  · rw [dget_put_ne (ddel_ok ho) h2, dget_del_ne ho h1]
theorem run_to {D : Dir} {a b : ByteArray} {i : Nat} (ho : DirOk D) : dget b (Chg.run D ⟨a, b, some i⟩) = some i := dget_put (ddel_ok ho)
theorem run_fr {D : Dir} {a b : ByteArray} {i : Nat} (ho : DirOk D) (h : a ≠ b) : dget a (Chg.run D ⟨a, b, some i⟩) = none := by
  show dget a (dput b i (ddel a D)) = none
  rw [dget_put_ne (ddel_ok ho) h]
  exact dget_del
/-- What stands behind a file that was made beside. -/
structure Laid (S S' : Fs) (nm : ByteArray) (b : List UInt8) (N L W r : Nat) (X : List Fil → Dir → Prop) : Prop where
  disk : Disk S' N L W r
  all : AllD S' X
  len : S'.files.length = S.files.length + 1
  new : S'.files[S.files.length]? = some ⟨b, b.length⟩
  old : ∀ i, i < S.files.length → S'.files[i]? = S.files[i]?
  at_ : dget nm S'.now = some S.files.length
  rest : ∀ n, n ≠ nm → dget n S'.now = if n = besN ∨ n = ⟨#[]⟩ then none else dget n S.now
/-- A file is made beside, and the name turned to it. Behind the last call X2 holds of the new directory. -/
theorem layNew_out {S : Fs} {nm : ByteArray} {b : List UInt8} {N L W r : Nat} {X X2 : List Fil → Dir → Prop} (h : Disk S N L W r) (hX : AllD S X) (hnm : nameOk nm = true) (hnb : besN ≠ nm) (hns : nm.size ≤ 140737488355328)
    (hN : N + 1 ≤ 199) (hL : b.length ≤ L) (hL2 : L ≤ 16777216) (hr : (N + 1) * L + b.length ≤ r)
    (hX1 : ∀ fs p D, X fs D → X (fs ++ [p]) D) (hX2 : ∀ fs a p D, S.files.length ≤ a → X fs D → X (fs.set a p) D) (hX3 : ∀ fs D c, DirOk D → c.fr = ⟨#[]⟩ → c.goes = besN → X fs D → X fs (Chg.run D c))
    (hXX : ∀ fs D, X fs D → X2 fs D)
    (hXL : ∀ fs D, DirOk D → fs[S.files.length]? = some ⟨b, b.length⟩ → fs.length = S.files.length + 1 → (∀ i, i < S.files.length → fs[i]? = S.files[i]?) → (∀ n, n ≠ besN → n ≠ ⟨#[]⟩ → dget n D = dget n S.now) → X fs D → X2 fs (Chg.run D ⟨besN, nm, some S.files.length⟩)) :
    Out S (layNew S nm b) (fun S' => Laid S S' nm b (N + 1) L (W + 2) r X2) (fun S' => Way S' (N + 1) L (W + 2) r X2) := by
  have hnn : nm ≠ ⟨#[]⟩ := fun e => by rw [e] at hnm; exact absurd hnm (by decide)
  unfold layNew
  refine Out.then (create_out besN_ok (by have := h.now; omega)) ?_ ?_
  rotate_left
  · rintro S1 rfl
    exact ⟨h.begun.more (by omega) (Nat.le_refl _) (by omega), fun k => hXX _ _ (hX k)⟩
  rintro S1 rfl
  have hc1 : (Chg.run S.now ⟨⟨#[]⟩, besN, some S.files.length⟩).length ≤ N + 1 := Nat.le_trans (run_len _ _) (by have := h.now; omega)
  have d1 : Disk { S.begun with files := S.files ++ [⟨[], 0⟩] } (N + 1) L W r := (h.begun.morefile ⟨[], 0⟩ (Nat.le_refl _) (Nat.zero_le _) hL2).more (by omega) (Nat.le_refl _) (Nat.le_refl _)
  have d2 : Disk (Fs.change { S.begun with files := S.files ++ [⟨[], 0⟩] } ⟨⟨#[]⟩, besN, some S.files.length⟩) (N + 1) L (W + 1) r :=
    d1.change (fun i hi => by obtain rfl := Option.some.inj hi; show _ < (S.files ++ ([⟨[], 0⟩] : List Fil)).length; rw [List.length_append]; simp) ⟨Nat.zero_le _, bes_small⟩ hc1 (by omega)
  have a1 : AllD { S.begun with files := S.files ++ [⟨[], 0⟩] } X := fun k => hX1 _ _ _ (hX k)
  have a2 : AllD (Fs.change { S.begun with files := S.files ++ [⟨[], 0⟩] } ⟨⟨#[]⟩, besN, some S.files.length⟩) X := a1.change d1.ok (hX3 _ _ _ d1.ok.now rfl rfl (a1.now d1.ok))
  have g2 : dget besN (Chg.run S.now ⟨⟨#[]⟩, besN, some S.files.length⟩) = some S.files.length := run_to h.ok.now
  have r2 : ∀ n, n ≠ besN → n ≠ ⟨#[]⟩ → dget n (Chg.run S.now ⟨⟨#[]⟩, besN, some S.files.length⟩) = dget n S.now := fun n n1 n2 => run_ne h.ok.now n2 n1
  have w2 := d2.room
  have u2 := d2.used
  have e2 : (Fs.change { S.begun with files := S.files ++ [⟨[], 0⟩] } ⟨⟨#[]⟩, besN, some S.files.length⟩).files = S.files ++ [⟨[], 0⟩] := rfl
  have n2 : (Fs.change { S.begun with files := S.files ++ [⟨[], 0⟩] } ⟨⟨#[]⟩, besN, some S.files.length⟩).now = Chg.run S.now ⟨⟨#[]⟩, besN, some S.files.length⟩ := rfl
  generalize Fs.change { S.begun with files := S.files ++ [⟨[], 0⟩] } ⟨⟨#[]⟩, besN, some S.files.length⟩ = S2 at *
  clear d1 a1
  have f2 : S2.file S.files.length = ⟨[], 0⟩ := file_of (by rw [e2]; simp)
  refine Out.then (append_out (i := S.files.length) (by rw [n2]; exact g2) (by rw [w2]; omega)) ?_ ?_
  rotate_left
  · rintro S3 rfl
    exact ⟨d2.begun.more (Nat.le_refl _) (Nat.le_refl _) (by omega), fun k => hXX _ _ (a2 k)⟩
  rintro S3 rfl
  rw [f2]
  simp only [List.nil_append]
  have d3 : Disk { S2.begun with files := S2.files.set S.files.length ⟨b, 0⟩ } (N + 1) L (W + 1) r := d2.begun.setFile _ _ (Nat.zero_le _) hL hL2
  have a3 : AllD { S2.begun with files := S2.files.set S.files.length ⟨b, 0⟩ } X := fun k => hX2 _ _ _ _ (Nat.le_refl _) (a2 k)
  have e3 : ({ S2.begun with files := S2.files.set S.files.length ⟨b, 0⟩ } : Fs).files = S.files ++ [⟨b, 0⟩] := by
    show S2.files.set S.files.length ⟨b, 0⟩ = _
    rw [e2, List.set_append_right _ _ (Nat.le_refl _), Nat.sub_self]; rfl
  have n3 : ({ S2.begun with files := S2.files.set S.files.length ⟨b, 0⟩ } : Fs).now = Chg.run S.now ⟨⟨#[]⟩, besN, some S.files.length⟩ := n2
  generalize ({ S2.begun with files := S2.files.set S.files.length ⟨b, 0⟩ } : Fs) = S3 at *
  clear d2 a2 e2 n2 w2 u2 f2
  have f3 : S3.file S.files.length = ⟨b, 0⟩ := file_of (by rw [e3]; simp)
  refine Out.then (sync_out (i := S.files.length) (by rw [n3]; exact g2)) ?_ ?_
  rotate_left
  · rintro S4 rfl
    exact ⟨d3.begun.more (Nat.le_refl _) (Nat.le_refl _) (by omega), fun k => hXX _ _ (a3 k)⟩
  rintro S4 rfl
  rw [f3]
  simp only
  have d4 : Disk { S3.begun with files := S3.files.set S.files.length ⟨b, b.length⟩ } (N + 1) L (W + 1) r := d3.begun.setFile _ _ (Nat.le_refl _) hL hL2
  have a4 : AllD { S3.begun with files := S3.files.set S.files.length ⟨b, b.length⟩ } X := fun k => hX2 _ _ _ _ (Nat.le_refl _) (a3 k)
  have e4 : ({ S3.begun with files := S3.files.set S.files.length ⟨b, b.length⟩ } : Fs).files = S.files ++ [⟨b, b.length⟩] := by
    show S3.files.set S.files.length ⟨b, b.length⟩ = _
    rw [e3, List.set_append_right _ _ (Nat.le_refl _), Nat.sub_self]; rfl
  have n4 : ({ S3.begun with files := S3.files.set S.files.length ⟨b, b.length⟩ } : Fs).now = Chg.run S.now ⟨⟨#[]⟩, besN, some S.files.length⟩ := n3
  generalize ({ S3.begun with files := S3.files.set S.files.length ⟨b, b.length⟩ } : Fs) = S4 at *
  clear d3 a3 e3 n3 f3
  have l4 : S4.files.length = S.files.length + 1 := by rw [e4, List.length_append]; rfl
  have k4 : S4.files[S.files.length]? = some ⟨b, b.length⟩ := by rw [e4]; simp
  have o4 : ∀ i, i < S.files.length → S4.files[i]? = S.files[i]? := fun i hi => by rw [e4, List.getElem?_append_left hi]
  refine (rename_out (a := besN) (b := nm) (i := S.files.length) (by rw [n4]; exact g2) hnm).mono ?_ ?_
  · rintro S5 rfl
    have g4 : dget besN S4.begun.now = some S.files.length := by show dget besN S4.now = _; rw [n4]; exact g2
    have d5 : Disk (S4.begun.change ⟨besN, nm, some S.files.length⟩) (N + 1) L (W + 2) r :=
      d4.begun.change (fun i hi => by obtain rfl := Option.some.inj hi; show _ < S4.files.length; omega) ⟨bes_small, hns⟩ (Nat.le_trans (run_len_mv g4) d4.begun.now) (by omega)
    have o5 : DirOk S4.begun.now := d4.begun.ok.now
    refine ⟨d5, AllD.change d4.begun.ok (fun k => hXX _ _ (a4 k)) ?_, l4, k4, o4, run_to o5, fun n q1 => ?_⟩
    · refine hXL _ _ o5 k4 l4 o4 (fun n q1 q2 => ?_) (AllD.now (S := S4.begun) a4 d4.begun.ok)
      show dget n S4.now = _
      rw [n4]; exact r2 n q1 q2
    · show dget n (Chg.run S4.now ⟨besN, nm, some S.files.length⟩) = _
      by_cases q2 : n = besN
      · rw [if_pos (.inl q2), q2]; exact run_fr o5 hnb
      · rw [run_ne d4.ok.now q2 q1, n4]
        by_cases q3 : n = ⟨#[]⟩
        · rw [if_pos (.inr q3), q3]
          exact run_fr h.ok.now (Ne.symm bes_nul)
        · rw [if_neg (fun k => by rcases k with k | k; exact q2 k; exact q3 k)]
          exact r2 n q2 q3
  · rintro S5 rfl
    exact ⟨d4.begun.more (Nat.le_refl _) (Nat.le_refl _) (by omega), fun k => hXX _ _ (a4 k)⟩
/-- The new manifest stands: CURRENT is its pointer, the name is its log. -/
def NewD (sm : List UInt8 → List UInt8) (v i j : Nat) (log : List UInt8) (fs : List Fil) (D : Dir) : Prop :=
  dget curN D = some i ∧ dget (manN v) D = some j ∧ fs[i]? = some ⟨ptrB sm v, 12⟩ ∧ fs[j]? = some ⟨log, log.length⟩
/-- What stands behind a new manifest. -/
structure Begun (sm : List UInt8 → List UInt8) (S S' : Fs) (v : Nat) (log : List UInt8) (N L r : Nat) : Prop where
  disk : Disk S' N L 0 r
  all : AllD S' (NewD sm v (S.files.length + 1) S.files.length log)
  rest : ∀ n, n ≠ curN → n ≠ manN v → dget n S'.now = if n = besN ∨ n = ⟨#[]⟩ then none else dget n S.now
theorem begF_out {sm : List UInt8 → List UInt8} (hs : ∀ l, (sm l).length = 4) {S : Fs} {v : Nat} (hv : v ≤ 1125899906842624) {log : List UInt8} {N L W r : Nat} {X : List Fil → Dir → Prop} (h : Disk S N L W r) (hX : AllD S X) (hC : Calm S.files.length v X)
    (hN : N + 2 ≤ 199) (hL : log.length ≤ L) (hL1 : 12 ≤ L) (hL2 : L ≤ 16777216) (hr : (N + 2) * L + L ≤ r) :
    Out S (begF sm S v log) (fun S' => Begun sm S S' v log (N + 2) L r) (fun S' => Way S' (N + 2) L (W + 4) r fun fs D => X fs D ∨ NewD sm v (S.files.length + 1) S.files.length log fs D) := by
  have hm := manN_len hv
  have hmul : (N + 1) * L ≤ (N + 2) * L := Nat.mul_le_mul_right L (by omega)
  unfold begF
  refine Out.then (layNew_out (X2 := X) h hX (manN_ok hv) (Ne.symm (manN_bes v)) (by omega) (by omega) hL hL2 (by omega) hC.more (fun fs a p D ha => hC.set fs a p D ha) (fun fs D c hD h1 h2 => hC.run fs D c hD (.inl h1) (.inl h2)) (fun _ _ hx => hx) ?_) ?_ ?_
  · intro fs D hD h1 h2 h3 h4 hx
    exact hC.run fs D _ hD (.inr rfl) (.inr rfl) hx
  · intro S1 h1
    have hp := ptrB_len hs v
    refine Out.then (layNew_out (X := X) (X2 := fun fs D => X fs D ∨ NewD sm v (S.files.length + 1) S.files.length log fs D) h1.disk h1.all curN_ok (Ne.symm cur_bes) cur_small (by omega) (by omega) hL2 (by rw [hp]; show (N + 2) * L + 12 ≤ r; omega) hC.more ?_ ?_ (fun _ _ hx => .inl hx) ?_) ?_ ?_
    · intro fs a p D ha
      exact hC.set fs a p D (by have := h1.len; omega)
    · intro fs D c hD e1 e2 hx
      exact hC.run fs D c hD (.inl e1) (.inl e2) hx
    · intro fs D hD k1 k2 k3 k4 hx
      right
      rw [h1.len] at k1 k2 k3 ⊢
      refine ⟨run_to hD, ?_, by rw [k1, hp], ?_⟩
      · rw [run_ne hD (manN_bes v) (manN_cur v), k4 _ (manN_bes v) (manN_nul v)]
        exact h1.at_
      · rw [k3 _ (by omega)]; exact h1.new
    · intro S2 h2
      refine (syncDir_out S2).mono ?_ ?_
      · rintro S3 rfl
        have d3 := h2.disk.begun.synced (by omega)
        have hnew : NewD sm v (S.files.length + 1) S.files.length log S2.files S2.now := by
          refine ⟨by have := h2.at_; rwa [h1.len] at this, ?_, ?_, ?_⟩
          · rw [h2.rest _ (manN_cur v), if_neg (fun k => by rcases k with k | k; exact manN_bes v k; exact manN_nul v k)]; exact h1.at_
          · have := h2.new; rw [h1.len] at this; rw [this, hp]
          · rw [h2.old _ (by rw [h1.len]; omega)]; exact h1.new
        refine ⟨⟨d3.ok, d3.names, d3.sizes, Nat.zero_le _, d3.room⟩, fun k => ?_, fun n n1 n2 => ?_⟩
        · have e : dirAt { S2.begun with old := S2.now, wait := [] } k = S2.now := by
            unfold dirAt
            rw [List.take_nil]; rfl
          rw [e]; exact hnew
        · show dget n S2.now = _
          rw [h2.rest n n1]
          split
          · rfl
          · rename_i hk
            rw [h1.rest n n2, if_neg hk]
      · rintro S3 rfl
        exact ⟨h2.disk.begun, h2.all⟩
    · intro S2 h2
      exact ⟨h2.disk, h2.all⟩
  · intro S1 h1
    exact ⟨h1.disk.more (by omega) (Nat.le_refl _) (by omega), fun k => .inl (h1.all k)⟩
/-- .. and the old one goes. -/
theorem turnF_out {sm : List UInt8 → List UInt8} (hs : ∀ l, (sm l).length = 4) {S : Fs} {u v : Nat} (hu : u ≤ 1125899906842624) (hv : v ≤ 1125899906842624) (hne : u ≠ v) {log : List UInt8} {N L W r j : Nat} {X : List Fil → Dir → Prop} (h : Disk S N L W r) (hX : AllD S X) (hC : Calm S.files.length v X)
    (hj : dget (manN u) S.now = some j) (hN : N + 2 ≤ 199) (hL : log.length ≤ L) (hL1 : 12 ≤ L) (hL2 : L ≤ 16777216) (hr : (N + 2) * L + L ≤ r) :
    Out S (turnF sm S u v log) (fun S' => Disk S' (N + 2) L 1 r ∧ AllD S' (NewD sm v (S.files.length + 1) S.files.length log) ∧ ∀ n, n ≠ curN → n ≠ manN v → dget n S'.now = if n = manN u ∨ n = besN ∨ n = ⟨#[]⟩ then none else dget n S.now)
      (fun S' => Way S' (N + 2) L (W + 4) r fun fs D => X fs D ∨ NewD sm v (S.files.length + 1) S.files.length log fs D) := by
  have hvu : v ≠ u := fun e => hne e.symm
  have hm := manN_len hu
  have hmn : manN u ≠ manN v := fun e => hne (manN_inj e)
  unfold turnF
  refine Out.then (begF_out hs hv h hX hC hN hL hL1 hL2 hr) ?_ fun S1 h1 => h1
  intro S1 h1
  rw [if_neg hvu]
  have hg : dget (manN u) S1.now = some j := by rw [h1.rest _ (manN_cur u) hmn, if_neg (fun k => by rcases k with k | k; exact manN_bes u k; exact manN_nul u k)]; exact hj
  refine (remove_out hg).mono ?_ ?_
  · rintro S2 rfl
    have d2 : Disk (S1.begun.change ⟨manN u, ⟨#[]⟩, none⟩) (N + 2) L 1 r := h1.disk.begun.change (fun i hi => by cases hi) ⟨by show (manN u).size ≤ _; omega, by show (0 : Nat) ≤ _; omega⟩ (Nat.le_trans (by exact ddel_len) h1.disk.now) (by omega)
    refine ⟨d2, AllD.change h1.disk.begun.ok h1.all ?_, fun n n3 n4 => ?_⟩
    · obtain ⟨k1, k2, k3, k4⟩ := h1.all.now h1.disk.ok
      exact ⟨(run_ne h1.disk.ok.now (Ne.symm (manN_cur u)) cur_nul).trans k1, (run_ne h1.disk.ok.now (Ne.symm hmn) (manN_nul v)).trans k2, k3, k4⟩
    · show dget n (ddel (manN u) S1.now) = _
      by_cases e : n = manN u
      · rw [if_pos (.inl e), e]; exact dget_del
      · rw [dget_del_ne h1.disk.ok.now e, h1.rest n n3 n4]
        by_cases e2 : n = besN ∨ n = ⟨#[]⟩
        · rw [if_pos e2, if_pos (.inr e2)]
        · rw [if_neg e2, if_neg (fun k => by rcases k with k | k; exact e k; exact e2 k)]
  · rintro S2 rfl
    exact ⟨h1.disk.begun.more (Nat.le_refl _) (Nat.le_refl _) (by omega), fun k => .inr (h1.all k)⟩
/-- Bytes behind the others: all of them are synced, or the file is longer by what came. -/
theorem addF_out {S : Fs} {u j : Nat} {b : List UInt8} {N L W r : Nat} {X X2 X3 : List Fil → Dir → Prop} (h : Disk S N L W r) (hX : AllD S X) (hj : dget (manN u) S.now = some j) (hjl : j < S.files.length) (hN : N ≤ 199)
    (hL : (S.file j).bytes.length + b.length ≤ L) (hL2 : L ≤ 16777216) (hr : N * L + b.length ≤ r)
    (h1 : ∀ D, X S.files D → X3 S.files D) (h2 : ∀ D, X S.files D → X3 (S.files.set j ⟨(S.file j).bytes ++ b, (S.file j).synced⟩) D) (h3 : ∀ D, X S.files D → X2 (S.files.set j ⟨(S.file j).bytes ++ b, ((S.file j).bytes ++ b).length⟩) D) :
    Out S (addF S u b) (fun S' => Disk S' N L W r ∧ AllD S' X2 ∧ S'.now = S.now ∧ S'.files.length = S.files.length) (fun S' => Way S' N L W r X3) := by
  unfold addF
  refine Out.then (append_out hj (by have := h.used; have := h.room; omega)) ?_ ?_
  · rintro S1 rfl
    have hsy := (h.ok.file_bd j).1
    have d1 : Disk { S.begun with files := S.files.set j ⟨(S.file j).bytes ++ b, (S.file j).synced⟩ } N L W r := h.begun.setFile _ _ (by show (S.file j).synced ≤ ((S.file j).bytes ++ b).length; rw [List.length_append]; omega) (by show ((S.file j).bytes ++ b).length ≤ L; rw [List.length_append]; omega) hL2
    have e1 : ({ S.begun with files := S.files.set j ⟨(S.file j).bytes ++ b, (S.file j).synced⟩ } : Fs).file j = ⟨(S.file j).bytes ++ b, (S.file j).synced⟩ := file_of (by show (S.files.set j _)[j]? = _; rw [List.getElem?_set_self hjl])
    have hn : ({ S.begun with files := S.files.set j ⟨(S.file j).bytes ++ b, (S.file j).synced⟩ } : Fs).now = S.now := rfl
    have ha : AllD { S.begun with files := S.files.set j ⟨(S.file j).bytes ++ b, (S.file j).synced⟩ } X3 := fun k => h2 _ (hX k)
    have hb : AllD { S.begun with files := S.files.set j ⟨(S.file j).bytes ++ b, (S.file j).synced⟩ } (fun _ D => X S.files D) := fun k => hX k
    have hf : ({ S.begun with files := S.files.set j ⟨(S.file j).bytes ++ b, (S.file j).synced⟩ } : Fs).files = S.files.set j ⟨(S.file j).bytes ++ b, (S.file j).synced⟩ := rfl
    generalize ({ S.begun with files := S.files.set j ⟨(S.file j).bytes ++ b, (S.file j).synced⟩ } : Fs) = S1 at *
    refine (sync_out (i := j) (by rw [hn]; exact hj)).mono ?_ ?_
    · rintro S2 rfl
      rw [e1]
      simp only
      have d2 : Disk { S1.begun with files := S1.files.set j ⟨(S.file j).bytes ++ b, ((S.file j).bytes ++ b).length⟩ } N L W r := d1.begun.setFile _ _ (Nat.le_refl _) (by show ((S.file j).bytes ++ b).length ≤ L; rw [List.length_append]; omega) hL2
      refine ⟨d2, fun k => ?_, hn, ?_⟩
      · show X2 (S1.files.set j _) _
        rw [hf, List.set_set]
        exact h3 _ (hb k)
      · show (S1.files.set j _).length = _
        rw [List.length_set, hf, List.length_set]
    · rintro S2 rfl
      exact ⟨d1.begun, ha⟩
  · rintro S1 rfl
    exact ⟨h.begun, fun k => h1 _ (hX k)⟩
theorem setF_out {S : Fs} {u j : Nat} {N L W r : Nat} {X : List Fil → Dir → Prop} (h : Disk S N L W r) (hX : AllD S X) (hj : dget (manN u) S.now = some j) (hN : N ≤ 199) (hL2 : L ≤ 16777216)
    (h2 : ∀ D, X S.files D → X (S.files.set j ⟨(S.file j).bytes, (S.file j).bytes.length⟩) D) :
    Out S (setF S u) (fun S' => Disk S' N L W r ∧ AllD S' X ∧ S'.now = S.now) (fun S' => Way S' N L W r X) := by
  unfold setF
  refine Out.then (sync_out hj) ?_ ?_
  · rintro S1 rfl
    have d1 : Disk { S.begun with files := S.files.set j ⟨(S.file j).bytes, (S.file j).bytes.length⟩ } N L W r := h.begun.setFile _ _ (Nat.le_refl _) (h.file j) hL2
    have a1 : AllD { S.begun with files := S.files.set j ⟨(S.file j).bytes, (S.file j).bytes.length⟩ } X := fun k => h2 _ (hX k)
    have hn : ({ S.begun with files := S.files.set j ⟨(S.file j).bytes, (S.file j).bytes.length⟩ } : Fs).now = S.now := rfl
    generalize ({ S.begun with files := S.files.set j ⟨(S.file j).bytes, (S.file j).bytes.length⟩ } : Fs) = S1 at *
    refine (syncDir_out S1).mono ?_ ?_
    · rintro S2 rfl
      have d3 := d1.begun.synced (by omega)
      refine ⟨d3, fun k => ?_, hn⟩
      have e : dirAt { S1.begun with old := S1.now, wait := [] } k = S1.now := by
        unfold dirAt
        rw [List.take_nil]; rfl
      rw [e]; exact a1.now d1.ok
    · rintro S2 rfl
      exact ⟨d1.begun, a1⟩
  · rintro S1 rfl
    exact ⟨h.begun, hX⟩
end Go.Proofs.YtcppaflnhlmcbaaGreatDoor
