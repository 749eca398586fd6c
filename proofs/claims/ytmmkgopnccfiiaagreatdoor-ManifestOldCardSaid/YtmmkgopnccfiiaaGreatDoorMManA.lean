/- Plain mathematics of a manifest's files: the calls one behind the other, what each leaves where it fails. -/
import Derived.Test.YtmmkgopnccfiiaaGreatDoorMFs
import Derived.Test.YtmmkgopnccfiiaaGreatDoorDecMath
import Derived.Test.YtmmkgopnccfiiaaGreatDoorMNum
import Derived.Test.YtmmkgopnccfiiaaGreatDoorMVerA
import Derived.Test.YtmmkgopnccfiiaaGreatDoorMRec
namespace Go.Proofs.YtmmkgopnccfiiaaGreatDoor
set_option linter.unusedVariables false
open Go.RowKit
def curN : ByteArray := ⟨#[67, 85, 82, 82, 69, 78, 84]⟩
def besN : ByteArray := ⟨#[98, 101, 115, 105, 100, 101]⟩
def dotMan : ByteArray := ⟨#[46, 109, 97, 110]⟩
def manN (u : Nat) : ByteArray := ⟨(Lib.decDigits u).toArray⟩ ++ dotMan
/-- The bytes of a CURRENT. -/
def ptrB (sm : List UInt8 → List UInt8) (u : Nat) : List UInt8 := fixN 8 u ++ sm (fixN 8 u)
theorem ptrB_len {sm : List UInt8 → List UInt8} (hs : ∀ l, (sm l).length = 4) (u : Nat) : (ptrB sm u).length = 12 := by
  unfold ptrB
  rw [List.length_append, fixN_len, hs]
theorem manN_list (u : Nat) : (manN u).data.toList = Lib.decDigits u ++ [46, 109, 97, 110] := by
  unfold manN
  rw [ByteArray.data_append, Array.toList_append]
  rfl
theorem manN_head (u : Nat) : ∃ b r, (manN u).data.toList = b :: r ∧ 48 ≤ b.toNat ∧ b.toNat ≤ 57 := by
  rw [manN_list]
  obtain ⟨-, h1, h2⟩ := dec_digits u
  cases e : Lib.decDigits u with
  | nil => rw [e] at h2; simp at h2
  | cons b r =>
    rw [e] at h1
    exact ⟨b, r ++ [46, 109, 97, 110], rfl, h1 b (List.mem_cons_self ..)⟩
theorem manN_cur (u : Nat) : manN u ≠ curN := fun h => by
  obtain ⟨b, r, h1, h2, h3⟩ := manN_head u
  rw [h] at h1
  have h4 : (67 : UInt8) = b := (List.cons.inj h1).1
  subst h4
  exact absurd h3 (by decide)
theorem manN_bes (u : Nat) : manN u ≠ besN := fun h => by
  obtain ⟨b, r, h1, h2, h3⟩ := manN_head u
  rw [h] at h1
  have h4 : (98 : UInt8) = b := (List.cons.inj h1).1
  subst h4
  exact absurd h3 (by decide)
theorem manN_nul (u : Nat) : manN u ≠ ⟨#[]⟩ := fun h => by
  obtain ⟨b, r, h1, h2, h3⟩ := manN_head u
  rw [h] at h1
  cases h1
theorem cur_bes : curN ≠ besN := fun h => by
  have h1 : (67 : UInt8) = 98 := (List.cons.inj (congrArg (fun b : ByteArray => b.data.toList) h)).1
  exact absurd h1 (by decide)
theorem bes_nul : besN ≠ ⟨#[]⟩ := fun h => by
  have h1 := congrArg (fun b : ByteArray => b.data.toList) h
  cases h1
theorem dig_few (u : Nat) (k : Nat) (hk : 1 ≤ k) (h : u < 10 ^ k) : (Lib.decDigits u).length ≤ k := by
  induction k generalizing u with
  | zero => omega
  | succ k ih =>
    by_cases h1 : u < 10
    · rw [Lib.decDigits_one h1]; simp
    · have h2 : 1 ≤ k := by
        rcases Nat.eq_zero_or_pos k with rfl | h2
        · simp at h; omega
        · exact h2
      have h3 := ih (u / 10) h2 (by rw [Nat.pow_succ] at h; omega)
      rw [Lib.decDigits, dif_neg h1, List.length_append, List.length_singleton]
      omega
theorem manN_len {u : Nat} (h : u ≤ 1125899906842624) : 5 ≤ (manN u).size ∧ (manN u).size ≤ 20 := by
  have h1 : (manN u).data.toList.length = (Lib.decDigits u).length + 4 := by rw [manN_list, List.length_append]; rfl
  have h2 : (manN u).size = (manN u).data.toList.length := by rw [Array.length_toList]; rfl
  have h3 := dig_few u 16 (by omega) (by omega)
  have h4 := (dec_digits u).2.2
  omega
theorem manN_ok {u : Nat} (h : u ≤ 1125899906842624) : nameOk (manN u) = true := by
  obtain ⟨h1, h2⟩ := manN_len h
  unfold nameOk
  rw [decide_eq_true (by omega : 1 ≤ (manN u).size), decide_eq_true h2, manN_list, List.all_append, Bool.true_and, Bool.true_and, Bool.and_eq_true]
  refine ⟨List.all_eq_true.2 fun b hb => ?_, by decide⟩
  obtain ⟨h3, h4⟩ := (dec_digits u).2.1 b hb
  unfold nmB
  rw [decide_eq_true h3, decide_eq_true h4]
  simp
theorem curN_ok : nameOk curN = true := by decide
theorem besN_ok : nameOk besN = true := by decide
/-! ### calls one behind the other -/
def thenF (r : Int × Fs) (k : Fs → Int × Fs) : Int × Fs := if r.1 = 0 then k r.2 else r
/-- A file of a name, made beside. -/
def layNew (S : Fs) (nm : ByteArray) (b : List UInt8) : Int × Fs := thenF (S.create besN) fun S1 => thenF (S1.append besN b) fun S2 => thenF (S2.sync besN) fun S3 => S3.rename besN nm
/-- A new manifest, and CURRENT turned to it. -/
def begF (sm : List UInt8 → List UInt8) (S : Fs) (u : Nat) (log : List UInt8) : Int × Fs := thenF (layNew S (manN u) log) fun S1 => thenF (layNew S1 curN (ptrB sm u)) fun S2 => S2.syncDir
/-- Bytes behind the others. -/
def addF (S : Fs) (u : Nat) (b : List UInt8) : Int × Fs := thenF (S.append (manN u) b) fun S1 => S1.sync (manN u)
/-- All that was loaded is made last. -/
def setF (S : Fs) (u : Nat) : Int × Fs := thenF (S.sync (manN u)) fun S1 => S1.syncDir
/-- A call answers OK, and G is behind it, or it is the one that fails, and B is behind it. -/
def Out (S : Fs) (r : Int × Fs) (G B : Fs → Prop) : Prop := (r.1 = 0 ∧ G r.2 ∧ (S.fails = none → r.2.fails = none)) ∨ (r.1 = 7 ∧ B r.2 ∧ S.fails ≠ none)
theorem Out.then {S : Fs} {r : Int × Fs} {k : Fs → Int × Fs} {G B G' B' : Fs → Prop} (h : Out S r G B) (hk : ∀ S1, G S1 → Out S1 (k S1) G' B') (hB : ∀ S1, B S1 → B' S1) : Out S (thenF r k) G' B' := by
  unfold thenF
  rcases h with ⟨h1, h2, h3⟩ | ⟨h1, h2, h3⟩
  · rw [if_pos h1]
    rcases hk _ h2 with ⟨k1, k2, k3⟩ | ⟨k1, k2, k3⟩
    · exact .inl ⟨k1, k2, fun h => k3 (h3 h)⟩
    · exact .inr ⟨k1, k2, fun h => k3 (h3 h)⟩
  · rw [if_neg (by omega)]
    exact .inr ⟨h1, hB _ h2, h3⟩
theorem Out.mono {S : Fs} {r : Int × Fs} {G B G' B' : Fs → Prop} (h : Out S r G B) (hG : ∀ S1, G S1 → G' S1) (hB : ∀ S1, B S1 → B' S1) : Out S r G' B' := by
  rcases h with ⟨h1, h2, h3⟩ | ⟨h1, h2, h3⟩
  · exact .inl ⟨h1, hG _ h2, h3⟩
  · exact .inr ⟨h1, hB _ h2, h3⟩
theorem dies_some {S : Fs} (h : S.dies = true) : S.fails ≠ none := fun e => by
  unfold Fs.dies at h
  rw [e] at h
  simp at h
theorem create_out {S : Fs} {n : ByteArray} (hn : nameOk n = true) (hl : S.now.length < 200) :
    Out S (S.create n) (fun S' => S' = Fs.change { S.begun with files := S.files ++ [⟨[], 0⟩] } ⟨⟨#[]⟩, n, some S.files.length⟩) (fun S' => S' = S.begun) := by
  unfold Fs.create
  by_cases hd : S.dies = true
  · rw [if_pos hd]; exact .inr ⟨rfl, rfl, dies_some hd⟩
  · rw [if_neg hd, hn, if_neg (by simp), if_neg (fun h => by omega)]
    exact .inl ⟨rfl, rfl, begun_none⟩
theorem append_out {S : Fs} {n : ByteArray} {b : List UInt8} {i : Nat} (hg : dget n S.now = some i) (hr : S.used + b.length ≤ S.room) :
    Out S (S.append n b) (fun S' => S' = { S.begun with files := S.files.set i ⟨(S.file i).bytes ++ b, (S.file i).synced⟩ }) (fun S' => S' = S.begun) := by
  unfold Fs.append
  by_cases hd : S.dies = true
  · rw [if_pos hd]; exact .inr ⟨rfl, rfl, dies_some hd⟩
  · rw [if_neg hd, hg]
    simp only
    rw [if_neg (by omega)]
    exact .inl ⟨rfl, rfl, begun_none⟩
theorem sync_out {S : Fs} {n : ByteArray} {i : Nat} (hg : dget n S.now = some i) :
    Out S (S.sync n) (fun S' => S' = { S.begun with files := S.files.set i ⟨(S.file i).bytes, (S.file i).bytes.length⟩ }) (fun S' => S' = S.begun) := by
  unfold Fs.sync
  by_cases hd : S.dies = true
  · rw [if_pos hd]; exact .inr ⟨rfl, rfl, dies_some hd⟩
  · rw [if_neg hd, hg]
    exact .inl ⟨rfl, rfl, begun_none⟩
theorem syncDir_out (S : Fs) : Out S S.syncDir (fun S' => S' = { S.begun with old := S.now, wait := [] }) (fun S' => S' = S.begun) := by
  unfold Fs.syncDir
  by_cases hd : S.dies = true
  · rw [if_pos hd]; exact .inr ⟨rfl, rfl, dies_some hd⟩
  · rw [if_neg hd]
    exact .inl ⟨rfl, rfl, begun_none⟩
theorem rename_out {S : Fs} {a b : ByteArray} {i : Nat} (hg : dget a S.now = some i) (hb : nameOk b = true) : Out S (S.rename a b) (fun S' => S' = S.begun.change ⟨a, b, some i⟩) (fun S' => S' = S.begun) := by
  unfold Fs.rename
  by_cases hd : S.dies = true
  · rw [if_pos hd]; exact .inr ⟨rfl, rfl, dies_some hd⟩
  · rw [if_neg hd, hg]
    simp only
    rw [hb, if_neg (by simp)]
    exact .inl ⟨rfl, rfl, begun_none⟩
/-! ### what a crash may leave of the directory -/
def dirAt (S : Fs) (k : Nat) : Dir := (S.wait.take k).foldl Chg.run S.old
theorem dirAt_big {S : Fs} (h : FsOk S) {k : Nat} (hk : S.wait.length ≤ k) : dirAt S k = S.now := by
  unfold dirAt
  rw [List.take_of_length_le hk, ← h.same]
theorem dirAt_now {S : Fs} (h : FsOk S) : dirAt S S.wait.length = S.now := dirAt_big h (Nat.le_refl _)
/-- What holds of each directory that a crash may leave. -/
def AllD (S : Fs) (X : List Fil → Dir → Prop) : Prop := ∀ k, X S.files (dirAt S k)
theorem AllD.now {S : Fs} {X : List Fil → Dir → Prop} (h : AllD S X) (ho : FsOk S) : X S.files S.now := by
  have := h S.wait.length
  rwa [dirAt_now ho] at this
theorem AllD.change {S : Fs} {X : List Fil → Dir → Prop} {c : Chg} (ho : FsOk S) (h : AllD S X) (hc : X S.files (Chg.run S.now c)) : AllD (S.change c) X := fun k => by
  show X S.files (((S.wait ++ [c]).take k).foldl Chg.run S.old)
  rcases Nat.lt_or_ge S.wait.length k with hk | hk
  · rw [List.take_of_length_le (by rw [List.length_append, List.length_singleton]; omega), List.foldl_append, List.foldl_cons, List.foldl_nil, ← ho.same]; exact hc
  · rw [List.take_append_of_le_length hk]; exact h k
theorem AllD.mono {S : Fs} {X Y : List Fil → Dir → Prop} (h : AllD S X) (hi : ∀ D, X S.files D → Y S.files D) : AllD S Y := fun k => hi _ (h k)
/-- Names no more than N, files no longer than L, changes that wait no more than W, so much room. -/
structure Disk (S : Fs) (N L W r : Nat) : Prop where
  ok : FsOk S
  names : ∀ k, (dirAt S k).length ≤ N
  sizes : ∀ p ∈ S.files, p.bytes.length ≤ L
  wait : S.wait.length ≤ W
  room : S.room = r
theorem Disk.now {S : Fs} {N L W r : Nat} (h : Disk S N L W r) : S.now.length ≤ N := by
  have := h.names S.wait.length
  rwa [dirAt_now h.ok] at this
theorem Disk.file {S : Fs} {N L W r : Nat} (h : Disk S N L W r) (i : Nat) : (S.file i).bytes.length ≤ L := by
  unfold Fs.file
  rw [List.getD_eq_getElem?_getD]
  cases e : S.files[i]? with
  | none => simp
  | some p => exact h.sizes p (List.mem_of_getElem? e)
theorem Disk.used {S : Fs} {N L W r : Nat} (h : Disk S N L W r) : S.used ≤ N * L := by
  have h1 := sum_bd (fun x : ByteArray × Nat => (S.file x.2).bytes.length) L S.now fun x _ => h.file x.2
  have h2 : S.now.length * L ≤ N * L := Nat.mul_le_mul_right L h.now
  exact Nat.le_trans h1 h2
theorem Disk.more {S : Fs} {N L W r N' L' W' : Nat} (h : Disk S N L W r) (hN : N ≤ N') (hL : L ≤ L') (hW : W ≤ W') : Disk S N' L' W' r := ⟨h.ok, fun k => Nat.le_trans (h.names k) hN, fun p hp => Nat.le_trans (h.sizes p hp) hL, Nat.le_trans h.wait hW, h.room⟩
theorem Disk.begun {S : Fs} {N L W r : Nat} (h : Disk S N L W r) : Disk S.begun N L W r := ⟨h.ok.begun, h.names, h.sizes, h.wait, h.room⟩
theorem run_len (l : Dir) (c : Chg) : (Chg.run l c).length ≤ l.length + 1 := by
  unfold Chg.run
  split
  · exact Nat.le_succ_of_le ddel_len
  · rename_i i hi
    rw [dput_len]
    have h1 := ddel_len (n := c.goes) (l := ddel c.fr l)
    have h2 := ddel_len (n := c.fr) (l := l)
    omega
theorem run_len_mv {l : Dir} {a b : ByteArray} {i j : Nat} (h : dget a l = some j) : (Chg.run l ⟨a, b, some i⟩).length ≤ l.length := by
  show (dput b i (ddel a l)).length ≤ _
  rw [dput_len]
  have h1 := ddel_len (n := b) (l := ddel a l)
  have h2 := ddel_less (n := a) (l := l) (by rw [h]; simp)
  omega
theorem Disk.change {S : Fs} {N L W r : Nat} (h : Disk S N L W r) {c : Chg} (hi : ∀ i, c.file = some i → i < S.files.length) (hs : c.fr.size ≤ 140737488355328 ∧ c.goes.size ≤ 140737488355328) (hl : (Chg.run S.now c).length ≤ N) (hN : N ≤ 200) : Disk (S.change c) N L (W + 1) r := by
  refine ⟨h.ok.change hi hs (Nat.le_trans hl hN), ?_, h.sizes, ?_, h.room⟩
  · exact AllD.change (X := fun _ D => D.length ≤ N) h.ok h.names hl
  · have := h.wait
    show (S.wait ++ [c]).length ≤ W + 1
    rw [List.length_append, List.length_singleton]; omega
theorem Disk.setFile {S : Fs} {N L W r : Nat} (h : Disk S N L W r) (i : Nat) (p : Fil) (hp : p.synced ≤ p.bytes.length) (hL : p.bytes.length ≤ L) (hL2 : L ≤ 16777216) : Disk { S with files := S.files.set i p } N L W r := by
  refine ⟨h.ok.setFile i p ⟨hp, by omega⟩, h.names, fun q hq => ?_, h.wait, h.room⟩
  rcases List.mem_or_eq_of_mem_set hq with hq | rfl
  · exact h.sizes q hq
  · exact hL
theorem Disk.morefile {S : Fs} {N L W r : Nat} (h : Disk S N L W r) (p : Fil) (hp : p.synced ≤ p.bytes.length) (hL : p.bytes.length ≤ L) (hL2 : L ≤ 16777216) : Disk { S with files := S.files ++ [p] } N L W r := by
  refine ⟨h.ok.more p ⟨hp, by omega⟩, h.names, fun q hq => ?_, h.wait, h.room⟩
  rcases List.mem_append.1 hq with hq | hq
  · exact h.sizes q hq
  · rw [List.mem_singleton.1 hq]; exact hL
theorem Disk.synced {S : Fs} {N L W r : Nat} (h : Disk S N L W r) (hN : N ≤ 200) : Disk { S with old := S.now, wait := [] } N L W r := by
  have hd : ∀ k, dirAt { S with old := S.now, wait := [] } k = S.now := fun k => by
    unfold dirAt
    rw [List.take_nil]; rfl
  refine ⟨{ h.ok with old := h.ok.now, same := rfl, few := fun k => ?_, inOld := h.ok.inNow, inWait := fun c hc => (by cases hc), sizes := fun c hc => (by cases hc) }, fun k => ?_, h.sizes, Nat.zero_le _, h.room⟩
  · show (List.foldl Chg.run S.now (List.take k [])).length ≤ 200
    rw [List.take_nil, List.foldl_nil]
    exact Nat.le_trans h.now hN
  · rw [hd]; exact h.now
theorem file_of {S : Fs} {i : Nat} {p : Fil} (h : S.files[i]? = some p) : S.file i = p := by
  unfold Fs.file
  rw [List.getD_eq_getElem?_getD, h]; rfl
theorem bes_small : besN.size ≤ 140737488355328 := by decide
theorem cur_small : curN.size ≤ 140737488355328 := by decide
end Go.Proofs.YtmmkgopnccfiiaaGreatDoor
/- Plain mathematics of a manifest's files: what stands behind each call, and behind one that fails. -/
namespace Go.Proofs.YtmmkgopnccfiiaaGreatDoor
set_option linter.unusedVariables false
open Go.RowKit
/-- Such a predicate holds on where files come in, files from b0 on are written, and names of the turning go. -/
structure Calm (b0 v : Nat) (X : List Fil → Dir → Prop) : Prop where
  more : ∀ fs p D, X fs D → X (fs ++ [p]) D
  set : ∀ fs a p D, b0 ≤ a → X fs D → X (fs.set a p) D
  run : ∀ fs D c, DirOk D → (c.fr = ⟨#[]⟩ ∨ c.fr = besN) → (c.goes = besN ∨ c.goes = manN v) → X fs D → X fs (Chg.run D c)
/-- On the way: all directories, how many files there are, what the names are now. -/
structure Way (S : Fs) (N L W r : Nat) (X : List Fil → Dir → Prop) : Prop where
  disk : Disk S N L W r
  all : AllD S X
theorem Way.begun {S : Fs} {N L W r : Nat} {X : List Fil → Dir → Prop} (h : Way S N L W r X) : Way S.begun N L W r X := ⟨h.disk.begun, h.all⟩
theorem run_ne {D : Dir} {c : Chg} {n : ByteArray} (ho : DirOk D) (h1 : n ≠ c.fr) (h2 : n ≠ c.goes) : dget n (Chg.run D c) = dget n D := by
  unfold Chg.run
  split
  · exact dget_del_ne ho h1
  · rw [dget_put_ne (ddel_ok ho) h2, dget_del_ne ho h1]
theorem run_to {D : Dir} {a b : ByteArray} {i : Nat} (ho : DirOk D) : dget b (Chg.run D ⟨a, b, some i⟩) = some i := dget_put (ddel_ok ho)
theorem run_fr {D : Dir} {a b : ByteArray} {i : Nat} (ho : DirOk D) (h : a ≠ b) : dget a (Chg.run D ⟨a, b, some i⟩) = none := by
  show dget a (dput b i (ddel a D)) = none
  rw [dget_put_ne (ddel_ok ho) h]
  exact dget_del
/-- What stands behind a file that was made beside. -/
structure Laid (S S' : Fs) (nm : ByteArray) (b : List UInt8) (N L W r : Nat) (X : List Fil → Dir → Prop) : Prop where
  disk : Disk S' N L W r
  all : AllD S' X
  len : S'.files.length = S.files.length + 1
  new : S'.files[S.files.length]? = some ⟨b, b.length⟩
  old : ∀ i, i < S.files.length → S'.files[i]? = S.files[i]?
  at_ : dget nm S'.now = some S.files.length
  rest : ∀ n, n ≠ nm → dget n S'.now = if n = besN ∨ n = ⟨#[]⟩ then none else dget n S.now
/-- A file is made beside, and the name turned to it. Behind the last call X2 holds of the new directory. -/
theorem layNew_out {S : Fs} {nm : ByteArray} {b : List UInt8} {N L W r : Nat} {X X2 : List Fil → Dir → Prop} (h : Disk S N L W r) (hX : AllD S X) (hnm : nameOk nm = true) (hnb : besN ≠ nm) (hns : nm.size ≤ 140737488355328)
    (hN : N + 1 ≤ 199) (hL : b.length ≤ L) (hL2 : L ≤ 16777216) (hr : (N + 1) * L + b.length ≤ r)
    (hX1 : ∀ fs p D, X fs D → X (fs ++ [p]) D) (hX2 : ∀ fs a p D, S.files.length ≤ a → X fs D → X (fs.set a p) D) (hX3 : ∀ fs D c, DirOk D → c.fr = ⟨#[]⟩ → c.goes = besN → X fs D → X fs (Chg.run D c))
    (hXX : ∀ fs D, X fs D → X2 fs D)
    (hXL : ∀ fs D, DirOk D → fs[S.files.length]? = some ⟨b, b.length⟩ → fs.length = S.files.length + 1 → (∀ i, i < S.files.length → fs[i]? = S.files[i]?) → (∀ n, n ≠ besN → n ≠ ⟨#[]⟩ → dget n D = dget n S.now) → X fs D → X2 fs (Chg.run D ⟨besN, nm, some S.files.length⟩)) :
    Out S (layNew S nm b) (fun S' => Laid S S' nm b (N + 1) L (W + 2) r X2) (fun S' => Way S' (N + 1) L (W + 2) r X2) := by
  have hnn : nm ≠ ⟨#[]⟩ := fun e => by rw [e] at hnm; exact absurd hnm (by decide)
  unfold layNew
  refine Out.then (create_out besN_ok (by have := h.now; omega)) ?_ ?_
  rotate_left
  · rintro S1 rfl
    exact ⟨h.begun.more (by omega) (Nat.le_refl _) (by omega), fun k => hXX _ _ (hX k)⟩
  rintro S1 rfl
  have hc1 : (Chg.run S.now ⟨⟨#[]⟩, besN, some S.files.length⟩).length ≤ N + 1 := Nat.le_trans (run_len _ _) (by have := h.now; omega)
  have d1 : Disk { S.begun with files := S.files ++ [⟨[], 0⟩] } (N + 1) L W r := (h.begun.morefile ⟨[], 0⟩ (Nat.le_refl _) (Nat.zero_le _) hL2).more (by omega) (Nat.le_refl _) (Nat.le_refl _)
  have d2 : Disk (Fs.change { S.begun with files := S.files ++ [⟨[], 0⟩] } ⟨⟨#[]⟩, besN, some S.files.length⟩) (N + 1) L (W + 1) r :=
    d1.change (fun i hi => by obtain rfl := Option.some.inj hi; show _ < (S.files ++ ([⟨[], 0⟩] : List Fil)).length; rw [List.length_append]; simp) ⟨Nat.zero_le _, bes_small⟩ hc1 (by omega)
  have a1 : AllD { S.begun with files := S.files ++ [⟨[], 0⟩] } X := fun k => hX1 _ _ _ (hX k)
  have a2 : AllD (Fs.change { S.begun with files := S.files ++ [⟨[], 0⟩] } ⟨⟨#[]⟩, besN, some S.files.length⟩) X := a1.change d1.ok (hX3 _ _ _ d1.ok.now rfl rfl (a1.now d1.ok))
  have g2 : dget besN (Chg.run S.now ⟨⟨#[]⟩, besN, some S.files.length⟩) = some S.files.length := run_to h.ok.now
  have r2 : ∀ n, n ≠ besN → n ≠ ⟨#[]⟩ → dget n (Chg.run S.now ⟨⟨#[]⟩, besN, some S.files.length⟩) = dget n S.now := fun n n1 n2 => run_ne h.ok.now n2 n1
  have w2 := d2.room
  have u2 := d2.used
  have e2 : (Fs.change { S.begun with files := S.files ++ [⟨[], 0⟩] } ⟨⟨#[]⟩, besN, some S.files.length⟩).files = S.files ++ [⟨[], 0⟩] := rfl
  have n2 : (Fs.change { S.begun with files := S.files ++ [⟨[], 0⟩] } ⟨⟨#[]⟩, besN, some S.files.length⟩).now = Chg.run S.now ⟨⟨#[]⟩, besN, some S.files.length⟩ := rfl
  generalize Fs.change { S.begun with files := S.files ++ [⟨[], 0⟩] } ⟨⟨#[]⟩, besN, some S.files.length⟩ = S2 at *
  clear d1 a1
  have f2 : S2.file S.files.length = ⟨[], 0⟩ := file_of (by rw [e2]; simp)
  refine Out.then (append_out (i := S.files.length) (by rw [n2]; exact g2) (by rw [w2]; omega)) ?_ ?_
  rotate_left
  · rintro S3 rfl
    exact ⟨d2.begun.more (Nat.le_refl _) (Nat.le_refl _) (by omega), fun k => hXX _ _ (a2 k)⟩
  rintro S3 rfl
  rw [f2]
  simp only [List.nil_append]
  have d3 : Disk { S2.begun with files := S2.files.set S.files.length ⟨b, 0⟩ } (N + 1) L (W + 1) r := d2.begun.setFile _ _ (Nat.zero_le _) hL hL2
  have a3 : AllD { S2.begun with files := S2.files.set S.files.length ⟨b, 0⟩ } X := fun k => hX2 _ _ _ _ (Nat.le_refl _) (a2 k)
  have e3 : ({ S2.begun with files := S2.files.set S.files.length ⟨b, 0⟩ } : Fs).files = S.files ++ [⟨b, 0⟩] := by
    show S2.files.set S.files.length ⟨b, 0⟩ = _
    rw [e2, List.set_append_right _ _ (Nat.le_refl _), Nat.sub_self]; rfl
  have n3 : ({ S2.begun with files := S2.files.set S.files.length ⟨b, 0⟩ } : Fs).now = Chg.run S.now ⟨⟨#[]⟩, besN, some S.files.length⟩ := n2
  generalize ({ S2.begun with files := S2.files.set S.files.length ⟨b, 0⟩ } : Fs) = S3 at *
  clear d2 a2 e2 n2 w2 u2 f2
  have f3 : S3.file S.files.length = ⟨b, 0⟩ := file_of (by rw [e3]; simp)
  refine Out.then (sync_out (i := S.files.length) (by rw [n3]; exact g2)) ?_ ?_
  rotate_left
  · rintro S4 rfl
    exact ⟨d3.begun.more (Nat.le_refl _) (Nat.le_refl _) (by omega), fun k => hXX _ _ (a3 k)⟩
  rintro S4 rfl
  rw [f3]
  simp only
  have d4 : Disk { S3.begun with files := S3.files.set S.files.length ⟨b, b.length⟩ } (N + 1) L (W + 1) r := d3.begun.setFile _ _ (Nat.le_refl _) hL hL2
  have a4 : AllD { S3.begun with files := S3.files.set S.files.length ⟨b, b.length⟩ } X := fun k => hX2 _ _ _ _ (Nat.le_refl _) (a3 k)
  have e4 : ({ S3.begun with files := S3.files.set S.files.length ⟨b, b.length⟩ } : Fs).files = S.files ++ [⟨b, b.length⟩] := by
    show S3.files.set S.files.length ⟨b, b.length⟩ = _
    rw [e3, List.set_append_right _ _ (Nat.le_refl _), Nat.sub_self]; rfl
  have n4 : ({ S3.begun with files := S3.files.set S.files.length ⟨b, b.length⟩ } : Fs).now = Chg.run S.now ⟨⟨#[]⟩, besN, some S.files.length⟩ := n3
  generalize ({ S3.begun with files := S3.files.set S.files.length ⟨b, b.length⟩ } : Fs) = S4 at *
  clear d3 a3 e3 n3 f3
  have l4 : S4.files.length = S.files.length + 1 := by rw [e4, List.length_append]; rfl
  have k4 : S4.files[S.files.length]? = some ⟨b, b.length⟩ := by rw [e4]; simp
  have o4 : ∀ i, i < S.files.length → S4.files[i]? = S.files[i]? := fun i hi => by rw [e4, List.getElem?_append_left hi]
  refine (rename_out (a := besN) (b := nm) (i := S.files.length) (by rw [n4]; exact g2) hnm).mono ?_ ?_
  · rintro S5 rfl
    have g4 : dget besN S4.begun.now = some S.files.length := by show dget besN S4.now = _; rw [n4]; exact g2
    have d5 : Disk (S4.begun.change ⟨besN, nm, some S.files.length⟩) (N + 1) L (W + 2) r :=
      d4.begun.change (fun i hi => by obtain rfl := Option.some.inj hi; show _ < S4.files.length; omega) ⟨bes_small, hns⟩ (Nat.le_trans (run_len_mv g4) d4.begun.now) (by omega)
    have o5 : DirOk S4.begun.now := d4.begun.ok.now
    refine ⟨d5, AllD.change d4.begun.ok (fun k => hXX _ _ (a4 k)) ?_, l4, k4, o4, run_to o5, fun n q1 => ?_⟩
    · refine hXL _ _ o5 k4 l4 o4 (fun n q1 q2 => ?_) (AllD.now (S := S4.begun) a4 d4.begun.ok)
      show dget n S4.now = _
      rw [n4]; exact r2 n q1 q2
    · show dget n (Chg.run S4.now ⟨besN, nm, some S.files.length⟩) = _
      by_cases q2 : n = besN
      · rw [if_pos (.inl q2), q2]; exact run_fr o5 hnb
      · rw [run_ne d4.ok.now q2 q1, n4]
        by_cases q3 : n = ⟨#[]⟩
        · rw [if_pos (.inr q3), q3]
          exact run_fr h.ok.now (Ne.symm bes_nul)
        · rw [if_neg (fun k => by rcases k with k | k; exact q2 k; exact q3 k)]
          exact r2 n q2 q3
  · rintro S5 rfl
    exact ⟨d4.begun.more (Nat.le_refl _) (Nat.le_refl _) (by omega), fun k => hXX _ _ (a4 k)⟩
/-- The new manifest stands: CURRENT is its pointer, the name is its log. -/
def NewD (sm : List UInt8 → List UInt8) (v i j : Nat) (log : List UInt8) (fs : List Fil) (D : Dir) : Prop :=
  dget curN D = some i ∧ dget (manN v) D = some j ∧ fs[i]? = some ⟨ptrB sm v, 12⟩ ∧ fs[j]? = some ⟨log, log.length⟩
/-- What stands behind a new manifest. -/
structure Begun (sm : List UInt8 → List UInt8) (S S' : Fs) (v : Nat) (log : List UInt8) (N L r : Nat) : Prop where
  disk : Disk S' N L 0 r
  all : AllD S' (NewD sm v (S.files.length + 1) S.files.length log)
  rest : ∀ n, n ≠ curN → n ≠ manN v → dget n S'.now = if n = besN ∨ n = ⟨#[]⟩ then none else dget n S.now
theorem begF_out {sm : List UInt8 → List UInt8} (hs : ∀ l, (sm l).length = 4) {S : Fs} {v : Nat} (hv : v ≤ 1125899906842624) {log : List UInt8} {N L W r : Nat} {X : List Fil → Dir → Prop} (h : Disk S N L W r) (hX : AllD S X) (hC : Calm S.files.length v X)
    (hN : N + 2 ≤ 199) (hL : log.length ≤ L) (hL1 : 12 ≤ L) (hL2 : L ≤ 16777216) (hr : (N + 2) * L + L ≤ r) :
    Out S (begF sm S v log) (fun S' => Begun sm S S' v log (N + 2) L r) (fun S' => Way S' (N + 2) L (W + 4) r fun fs D => X fs D ∨ NewD sm v (S.files.length + 1) S.files.length log fs D) := by
  have hm := manN_len hv
  have hmul : (N + 1) * L ≤ (N + 2) * L := Nat.mul_le_mul_right L (by omega)
  unfold begF
  refine Out.then (layNew_out (X2 := X) h hX (manN_ok hv) (Ne.symm (manN_bes v)) (by omega) (by omega) hL hL2 (by omega) hC.more (fun fs a p D ha => hC.set fs a p D ha) (fun fs D c hD h1 h2 => hC.run fs D c hD (.inl h1) (.inl h2)) (fun _ _ hx => hx) ?_) ?_ ?_
  · intro fs D hD h1 h2 h3 h4 hx
    exact hC.run fs D _ hD (.inr rfl) (.inr rfl) hx
  · intro S1 h1
    have hp := ptrB_len hs v
    refine Out.then (layNew_out (X := X) (X2 := fun fs D => X fs D ∨ NewD sm v (S.files.length + 1) S.files.length log fs D) h1.disk h1.all curN_ok (Ne.symm cur_bes) cur_small (by omega) (by omega) hL2 (by rw [hp]; show (N + 2) * L + 12 ≤ r; omega) hC.more ?_ ?_ (fun _ _ hx => .inl hx) ?_) ?_ ?_
    · intro fs a p D ha
      exact hC.set fs a p D (by have := h1.len; omega)
    · intro fs D c hD e1 e2 hx
      exact hC.run fs D c hD (.inl e1) (.inl e2) hx
    · intro fs D hD k1 k2 k3 k4 hx
      right
      rw [h1.len] at k1 k2 k3 ⊢
      refine ⟨run_to hD, ?_, by rw [k1, hp], ?_⟩
      · rw [run_ne hD (manN_bes v) (manN_cur v), k4 _ (manN_bes v) (manN_nul v)]
        exact h1.at_
      · rw [k3 _ (by omega)]; exact h1.new
    · intro S2 h2
      refine (syncDir_out S2).mono ?_ ?_
      · rintro S3 rfl
        have d3 := h2.disk.begun.synced (by omega)
        have hnew : NewD sm v (S.files.length + 1) S.files.length log S2.files S2.now := by
          refine ⟨by have := h2.at_; rwa [h1.len] at this, ?_, ?_, ?_⟩
          · rw [h2.rest _ (manN_cur v), if_neg (fun k => by rcases k with k | k; exact manN_bes v k; exact manN_nul v k)]; exact h1.at_
          · have := h2.new; rw [h1.len] at this; rw [this, hp]
          · rw [h2.old _ (by rw [h1.len]; omega)]; exact h1.new
        refine ⟨⟨d3.ok, d3.names, d3.sizes, Nat.zero_le _, d3.room⟩, fun k => ?_, fun n n1 n2 => ?_⟩
        · have e : dirAt { S2.begun with old := S2.now, wait := [] } k = S2.now := by
            unfold dirAt
            rw [List.take_nil]; rfl
          rw [e]; exact hnew
        · show dget n S2.now = _
          rw [h2.rest n n1]
          split
          · rfl
          · rename_i hk
            rw [h1.rest n n2, if_neg hk]
      · rintro S3 rfl
        exact ⟨h2.disk.begun, h2.all⟩
    · intro S2 h2
      exact ⟨h2.disk, h2.all⟩
  · intro S1 h1
    exact ⟨h1.disk.more (by omega) (Nat.le_refl _) (by omega), fun k => .inl (h1.all k)⟩
/-- Bytes behind the others: all of them are synced, or the file is longer by what came. -/
theorem addF_out {S : Fs} {u j : Nat} {b : List UInt8} {N L W r : Nat} {X X2 X3 : List Fil → Dir → Prop} (h : Disk S N L W r) (hX : AllD S X) (hj : dget (manN u) S.now = some j) (hjl : j < S.files.length) (hN : N ≤ 199)
    (hL : (S.file j).bytes.length + b.length ≤ L) (hL2 : L ≤ 16777216) (hr : N * L + b.length ≤ r)
    (h1 : ∀ D, X S.files D → X3 S.files D) (h2 : ∀ D, X S.files D → X3 (S.files.set j ⟨(S.file j).bytes ++ b, (S.file j).synced⟩) D) (h3 : ∀ D, X S.files D → X2 (S.files.set j ⟨(S.file j).bytes ++ b, ((S.file j).bytes ++ b).length⟩) D) :
    Out S (addF S u b) (fun S' => Disk S' N L W r ∧ AllD S' X2 ∧ S'.now = S.now ∧ S'.files.length = S.files.length) (fun S' => Way S' N L W r X3) := by
  unfold addF
  refine Out.then (append_out hj (by have := h.used; have := h.room; omega)) ?_ ?_
  · rintro S1 rfl
    have hsy := (h.ok.file_bd j).1
    have d1 : Disk { S.begun with files := S.files.set j ⟨(S.file j).bytes ++ b, (S.file j).synced⟩ } N L W r := h.begun.setFile _ _ (by show (S.file j).synced ≤ ((S.file j).bytes ++ b).length; rw [List.length_append]; omega) (by show ((S.file j).bytes ++ b).length ≤ L; rw [List.length_append]; omega) hL2
    have e1 : ({ S.begun with files := S.files.set j ⟨(S.file j).bytes ++ b, (S.file j).synced⟩ } : Fs).file j = ⟨(S.file j).bytes ++ b, (S.file j).synced⟩ := file_of (by show (S.files.set j _)[j]? = _; rw [List.getElem?_set_self hjl])
    have hn : ({ S.begun with files := S.files.set j ⟨(S.file j).bytes ++ b, (S.file j).synced⟩ } : Fs).now = S.now := rfl
    have ha : AllD { S.begun with files := S.files.set j ⟨(S.file j).bytes ++ b, (S.file j).synced⟩ } X3 := fun k => h2 _ (hX k)
    have hb : AllD { S.begun with files := S.files.set j ⟨(S.file j).bytes ++ b, (S.file j).synced⟩ } (fun _ D => X S.files D) := fun k => hX k
    have hf : ({ S.begun with files := S.files.set j ⟨(S.file j).bytes ++ b, (S.file j).synced⟩ } : Fs).files = S.files.set j ⟨(S.file j).bytes ++ b, (S.file j).synced⟩ := rfl
    generalize ({ S.begun with files := S.files.set j ⟨(S.file j).bytes ++ b, (S.file j).synced⟩ } : Fs) = S1 at *
    refine (sync_out (i := j) (by rw [hn]; exact hj)).mono ?_ ?_
    · rintro S2 rfl
      rw [e1]
      simp only
      have d2 : Disk { S1.begun with files := S1.files.set j ⟨(S.file j).bytes ++ b, ((S.file j).bytes ++ b).length⟩ } N L W r := d1.begun.setFile _ _ (Nat.le_refl _) (by show ((S.file j).bytes ++ b).length ≤ L; rw [List.length_append]; omega) hL2
      refine ⟨d2, fun k => ?_, hn, ?_⟩
      · show X2 (S1.files.set j _) _
        rw [hf, List.set_set]
        exact h3 _ (hb k)
      · show (S1.files.set j _).length = _
        rw [List.length_set, hf, List.length_set]
    · rintro S2 rfl
      exact ⟨d1.begun, ha⟩
  · rintro S1 rfl
    exact ⟨h.begun, fun k => h1 _ (hX k)⟩
theorem setF_out {S : Fs} {u j : Nat} {N L W r : Nat} {X : List Fil → Dir → Prop} (h : Disk S N L W r) (hX : AllD S X) (hj : dget (manN u) S.now = some j) (hN : N ≤ 199) (hL2 : L ≤ 16777216)
    (h2 : ∀ D, X S.files D → X (S.files.set j ⟨(S.file j).bytes, (S.file j).bytes.length⟩) D) :
    Out S (setF S u) (fun S' => Disk S' N L W r ∧ AllD S' X ∧ S'.now = S.now) (fun S' => Way S' N L W r X) := by
  unfold setF
  refine Out.then (sync_out hj) ?_ ?_
  · rintro S1 rfl
    have d1 : Disk { S.begun with files := S.files.set j ⟨(S.file j).bytes, (S.file j).bytes.length⟩ } N L W r := h.begun.setFile _ _ (Nat.le_refl _) (h.file j) hL2
    have a1 : AllD { S.begun with files := S.files.set j ⟨(S.file j).bytes, (S.file j).bytes.length⟩ } X := fun k => h2 _ (hX k)
    have hn : ({ S.begun with files := S.files.set j ⟨(S.file j).bytes, (S.file j).bytes.length⟩ } : Fs).now = S.now := rfl
    generalize ({ S.begun with files := S.files.set j ⟨(S.file j).bytes, (S.file j).bytes.length⟩ } : Fs) = S1 at *
    refine (syncDir_out S1).mono ?_ ?_
    · rintro S2 rfl
      have d3 := d1.begun.synced (by omega)
      refine ⟨d3, fun k => ?_, hn⟩
      have e : dirAt { S1.begun with old := S1.now, wait := [] } k = S1.now := by
        unfold dirAt
        rw [List.take_nil]; rfl
      rw [e]; exact a1.now d1.ok
    · rintro S2 rfl
      exact ⟨d1.begun, a1⟩
  · rintro S1 rfl
    exact ⟨h.begun, hX⟩
end Go.Proofs.YtmmkgopnccfiiaaGreatDoor
/- What a row of edits makes, one behind the other: the version that a manifest holds; plain mathematics, made ahead for stage 21. -/
namespace Go.Proofs.YtmmkgopnccfiiaaGreatDoor
set_option linter.unusedVariables false
/-- Edits applied one behind the other; none: one of them does not apply. -/
def runV : Ver → List Edt → Option Ver
  | V, [] => some V
  | V, x :: r => match applyV V x with
    | none => none
    | some W => runV W r
/-- The version of a manifest: of no edit there is none. -/
def manV (xs : List Edt) : Option Ver := if xs = [] then none else runV Ver.new xs
theorem runV_app : ∀ (V : Ver) (xs ys : List Edt), runV V (xs ++ ys) = (runV V xs).bind fun W => runV W ys
  | V, [], ys => rfl
  | V, x :: xs, ys => by
    rw [List.cons_append, runV, runV]
    cases applyV V x with
    | none => rfl
    | some W => exact runV_app W xs ys
theorem runV_one (V : Ver) (x : Edt) : runV V [x] = applyV V x := by
  rw [runV]
  cases applyV V x <;> rfl
theorem runV_snoc {V W : Ver} {xs : List Edt} (h : runV V xs = some W) (x : Edt) : runV V (xs ++ [x]) = applyV W x := by
  rw [runV_app, h]
  exact runV_one W x
theorem runV_good : ∀ {xs : List Edt} {V W : Ver}, GoodV V → runV V xs = some W → GoodV W
  | [], V, W, g, h => by obtain rfl := Option.some.inj h; exact g
  | x :: xs, V, W, g, h => by
    rw [runV] at h
    cases e : applyV V x with
    | none => rw [e] at h; cases h
    | some X => rw [e] at h; exact runV_good (applyV_good g e) h
theorem manV_good {xs : List Edt} {W : Ver} (h : manV xs = some W) : GoodV W := by
  unfold manV at h
  split at h
  · cases h
  · exact runV_good new_good h
theorem manV_snoc {xs : List Edt} {W : Ver} (h : manV xs = some W) (x : Edt) : manV (xs ++ [x]) = applyV W x := by
  unfold manV at h ⊢
  rw [if_neg (by simp)]
  split at h
  · cases h
  · exact runV_snoc h x
/-- A manifest made anew: one edit, the whole version's, its tables in any order. -/
theorem manV_whole {V : Ver} (g : GoodV V) {a : List Tbf} (ha : a.Perm V.fs) : manV [⟨V.nx, V.lg, V.ls, a, []⟩] = some ⟨a, V.nx, V.lg, V.ls⟩ := by
  unfold manV
  rw [if_neg (by simp), runV_one]
  exact applyV_edit g ha
theorem manV_whole_same {V : Ver} (g : GoodV V) {a : List Tbf} (ha : a.Perm V.fs) : ∃ W, manV [⟨V.nx, V.lg, V.ls, a, []⟩] = some W ∧ vSame V W := ⟨_, manV_whole g ha, ha.symm, rfl, rfl, rfl⟩
/-- A version whose Next is one more. -/
def bumpV (V : Ver) : Ver := ⟨V.fs, V.nx + 1, V.lg, V.ls⟩
theorem bumpV_good {V : Ver} (g : GoodV V) (h : V.nx < 1125899906842624) : GoodV (bumpV V) :=
  ⟨g.nums, g.apart, g.few, g.right, fun f hf => by have := g.below f hf; show f.num < V.nx + 1; omega, by have := g.nx1; show 1 ≤ V.nx + 1; omega, by show V.nx + 1 ≤ _; omega, g.lg0, by have := g.lg1; show V.lg < V.nx + 1; omega, g.ls0, g.ls2⟩
/-- An edit that tells a Next one more alone. -/
theorem applyV_bump {V : Ver} (g : GoodV V) (h : V.nx < 1125899906842624) : applyV V ⟨V.nx + 1, 0, 0, [], []⟩ = some (bumpV V) := by
  have n1 := g.nx1
  have o0 : okEdN 0 := ⟨by decide, by decide⟩
  have hm : mayE ⟨V.nx + 1, 0, 0, [], []⟩ := ⟨⟨⟨by show 0 ≤ V.nx + 1; omega, by show V.nx + 1 ≤ _; omega⟩, o0, o0⟩, ⟨Nat.zero_le _, Nat.zero_le _⟩, fun f hf => (by cases hf), fun n hn => (by cases hn)⟩
  have o1 : vOr (V.nx + 1) V.nx = V.nx + 1 := if_neg (by omega)
  unfold applyV
  rw [if_pos hm]
  show (if vMay V ⟨V.fs, vOr (V.nx + 1) V.nx, vOr 0 V.lg, vOr 0 V.ls⟩ then some _ else none) = _
  rw [o1]
  refine if_pos ⟨g.apart, g.few, by show V.nx ≤ V.nx + 1; omega, Int.le_refl _, Int.le_refl _, fun hh => ?_, fun f hf => ?_⟩
  · have := g.lg1
    have h1 : V.nx + 1 ≤ V.lg := hh.1
    omega
  · have := g.below f hf
    show f.num < V.nx + 1
    omega
/-- What an edit that applies makes. -/
theorem applyV_parts {V n : Ver} {e : Edt} (h : applyV V e = some n) : mayE e ∧ ∃ l, vDels V.fs e.dels = some l ∧ vAdds l e.adds = some n.fs ∧ vMay V n := by
  unfold applyV at h
  split at h
  · rename_i hm
    cases hd : vDels V.fs e.dels with
    | none => rw [hd] at h; cases h
    | some l =>
      rw [hd] at h
      simp only at h
      cases ha : vAdds l e.adds with
      | none => rw [ha] at h; cases h
      | some m =>
        rw [ha] at h
        simp only at h
        split at h
        · rename_i hv
          obtain rfl := Option.some.inj h
          exact ⟨hm, l, rfl, ha, hv⟩
        · cases h
  · cases h
theorem applyV_next {V n : Ver} {e : Edt} (h : applyV V e = some n) : V.nx ≤ n.nx := by
  obtain ⟨-, l, -, -, hv⟩ := applyV_parts h
  exact hv.2.2.1
/-- The tables of it: those that stood, and those that came. -/
theorem applyV_tabs {V n : Ver} {e : Edt} (h : applyV V e = some n) : n.fs.length ≤ V.fs.length + e.adds.length ∧ ∀ f ∈ n.fs, f ∈ V.fs ∨ f ∈ e.adds := by
  obtain ⟨-, l, hd, ha, -⟩ := applyV_parts h
  have h1 := vDels_sub hd
  obtain ⟨h2, -⟩ := vAdds_is ha
  rw [h2]
  refine ⟨by rw [List.length_append]; have := h1.length_le; omega, fun f hf => ?_⟩
  rcases List.mem_append.1 hf with hf | hf
  · exact .inl (h1.subset hf)
  · exact .inr hf
/-- The whole version's edit may be. -/
theorem mayE_whole {V : Ver} (g : GoodV V) : mayE ⟨V.nx, V.lg, V.ls, V.fs, []⟩ :=
  ⟨⟨⟨by have := g.nx1; show 0 ≤ V.nx; omega, g.nx2⟩, ⟨g.lg0, by have := g.lg1; have := g.nx2; show V.lg ≤ _; omega⟩, ⟨g.ls0, g.ls2⟩⟩, ⟨g.few, Nat.zero_le _⟩, g.right, fun n hn => by cases hn⟩
end Go.Proofs.YtmmkgopnccfiiaaGreatDoor
/- Plain mathematics of a manifest: what is loaded behind a crash, wherever a call failed. -/
namespace Go.Proofs.YtmmkgopnccfiiaaGreatDoor
set_option linter.unusedVariables false
open Go.RowKit
/-- A log of edits. -/
def logB (sm : List UInt8 → List UInt8) (es : List Edt) : List UInt8 := layAll sm 0 (es.map edtB)
theorem logB_snoc (sm : List UInt8 → List UInt8) (es : List Edt) (e : Edt) : logB sm (es ++ [e]) = logB sm es ++ layB sm (logB sm es).length (edtB e) := by
  unfold logB
  rw [List.map_append, List.map_cons, List.map_nil, layAll_snoc, Nat.zero_add]
theorem logB_one (sm : List UInt8 → List UInt8) (e : Edt) : logB sm [e] = layB sm 0 (edtB e) := by
  unfold logB
  rw [List.map_cons, List.map_nil, layAll, layAll, List.append_nil]
/-- A manifest stands in a directory, of which any cut at which its file may end tells a version with P. -/
def Holds (sm : List UInt8 → List UInt8) (b0 : Nat) (P : Ver → Prop) (u : Nat) (fs : List Fil) (D : Dir) : Prop :=
  ∃ i j es sy, i < b0 ∧ j < b0 ∧ dget curN D = some i ∧ dget (manN u) D = some j ∧ fs[i]? = some ⟨ptrB sm u, 12⟩ ∧ fs[j]? = some ⟨logB sm es, sy⟩ ∧ (∀ e ∈ es, mayE e) ∧
    ∀ c, sy ≤ c → c ≤ (logB sm es).length → ∃ W, manV (es.take (fitK sm 0 (es.map edtB) c)) = some W ∧ P W
/-! ### a crash -/
theorem numb_get : ∀ {D : Dir} {k i : Nat} {n : ByteArray}, dget n D = some i → ∃ p, D[p]? = some (n, i) ∧ dget n (numb k D) = some (k + p)
  | [], _, _, _, h => by cases h
  | x :: r, k, i, n, h => by
    unfold dget at h
    show ∃ p, (x :: r)[p]? = some (n, i) ∧ dget n ((x.1, k) :: numb (k + 1) r) = some (k + p)
    split at h
    · rename_i e
      obtain rfl := Option.some.inj h
      refine ⟨0, by rw [← e]; rfl, ?_⟩
      show (if x.1 = n then some k else _) = some k
      rw [if_pos e]
    · rename_i e
      obtain ⟨p, h1, h2⟩ := numb_get (k := k + 1) h
      refine ⟨p + 1, h1, ?_⟩
      show (if x.1 = n then some k else dget n (numb (k + 1) r)) = some (k + (p + 1))
      rw [if_neg e, h2]
      congr 1; omega
theorem crash_file {S : Fs} {n : Int} {ts : List Int} {nm : ByteArray} {i : Nat} {f : Fil} (h : dget nm (dirAt S n.toNat) = some i) (hf : S.files[i]? = some f) :
    ∃ p, (dirAt S n.toNat)[p]? = some (nm, i) ∧ dget nm (S.crash n ts).now = some p ∧ (S.crash n ts).files[p]? = some (f.crash (ts.getD p 0)) := by
  obtain ⟨p, h1, h2⟩ := numb_get (k := 0) h
  refine ⟨p, h1, by rw [Nat.zero_add] at h2; exact h2, ?_⟩
  show ((S.left n).mapIdx fun i x => (S.file x.2).crash (ts.getD i 0))[p]? = _
  rw [List.getElem?_mapIdx]
  have h3 : (S.left n)[p]? = some (nm, i) := h1
  rw [h3, Option.map_some, file_of hf]
theorem crash_whole (b : List UInt8) (t : Int) : (⟨b, b.length⟩ : Fil).crash t = ⟨b, b.length⟩ := by
  unfold Fil.crash clampN
  simp
theorem crash_dir (S : Fs) (n : Int) (ts : List Int) (k : Nat) : dirAt (S.crash n ts) k = (S.crash n ts).now := by
  unfold dirAt
  show (([] : List Chg).take k).foldl Chg.run _ = _
  rw [List.take_nil]; rfl
theorem Disk.crash {S : Fs} {N L W r : Nat} (h : Disk S N L W r) (n : Int) (ts : List Int) : Disk (S.crash n ts) N L 0 r := by
  refine ⟨h.ok.crash n ts, fun k => ?_, fun p hp => ?_, Nat.le_refl _, h.room⟩
  · rw [crash_dir]
    show (numb 0 (S.left n)).length ≤ N
    rw [numb_len]
    exact h.names n.toNat
  · obtain ⟨i, hi, e⟩ := List.mem_mapIdx.1 hp
    subst e
    exact Nat.le_trans (Fil.crash_ok (h.ok.file_bd (S.left n)[i].2).1 _).2 (h.file _)
/-- CURRENT, and the log that it names, as they are read now: the version is one with P. -/
def LoadP (sm : List UInt8 → List UInt8) (S : Fs) (P : Ver → Prop) : Prop :=
  ∃ u i j es log V, u ≤ 1125899906842624 ∧ dget curN S.now = some i ∧ (S.file i).bytes = ptrB sm u ∧ dget (manN u) S.now = some j ∧ (S.file j).bytes = log ∧ readC sm log = (es.map edtB, (logB sm es).length, true) ∧ (logB sm es).length ≤ log.length ∧ (∀ e ∈ es, mayE e) ∧ manV es = some V ∧ P V
theorem holds_load {sm : List UInt8 → List UInt8} (hs : ∀ l, (sm l).length = 4) {S : Fs} (ho : FsOk S) {b0 u : Nat} (hu : u ≤ 1125899906842624) {P : Ver → Prop} {n : Int} (ts : List Int) (h : Holds sm b0 P u S.files (dirAt S n.toNat)) : LoadP sm (S.crash n ts) P := by
  obtain ⟨i, j, es, sy, -, -, h3, h4, h5, h6, h7, h8⟩ := h
  obtain ⟨p, -, p1, p2⟩ := crash_file (ts := ts) h3 h5
  obtain ⟨q, -, q1, q2⟩ := crash_file (ts := ts) h4 h6
  have hp : ptrB sm u = ptrB sm u ∧ (12 : Nat) = (ptrB sm u).length := ⟨rfl, (ptrB_len hs u).symm⟩
  rw [hp.2, crash_whole] at p2
  have hsy := (ho.synced _ (List.mem_of_getElem? h6)).1
  have hsy : sy ≤ (logB sm es).length := hsy
  have hc := clamp_le (ts.getD q 0) ((logB sm es).length - sy)
  obtain ⟨c, hcd⟩ : ∃ c, sy + clampN (ts.getD q 0) ((logB sm es).length - sy) = c := ⟨_, rfl⟩
  have q2 : (S.crash n ts).files[q]? = some ⟨(logB sm es).take c, c⟩ := by
    rw [q2]
    unfold Fil.crash
    simp only [hcd]
  obtain ⟨W, w1, w2⟩ := h8 c (by omega) (by omega)
  refine ⟨u, p, q, es.take (fitK sm 0 (es.map edtB) c), (logB sm es).take c, W, hu, p1, by rw [file_of p2], q1, by rw [file_of q2], ?_, ?_, fun e he => h7 e (List.mem_of_mem_take he), w1, w2⟩
  · unfold logB
    rw [readC_cut hs (es.map edtB) c (by show c ≤ (logB sm es).length; omega), List.map_take]
  · rw [List.length_take, Nat.min_eq_left (by omega)]
    unfold logB
    rw [List.map_take]
    exact (fitK_spec (es.map edtB) 0 c _ (fitK_le _ _ _)).2 (Nat.le_refl _)
theorem newD_holds {sm : List UInt8 → List UInt8} {b0 u i j : Nat} {es : List Edt} {fs : List Fil} {D : Dir} {P : Ver → Prop} {V : Ver} (h : NewD sm u i j (logB sm es) fs D) (hb : fs.length ≤ b0) (hm : ∀ e ∈ es, mayE e) (hv : manV es = some V) (hP : P V) : Holds sm b0 P u fs D := by
  obtain ⟨h1, h2, h3, h4⟩ := h
  have a := (List.getElem?_eq_some_iff.1 h3).1
  have b := (List.getElem?_eq_some_iff.1 h4).1
  refine ⟨i, j, es, _, by omega, by omega, h1, h2, h3, h4, hm, fun c c1 c2 => ?_⟩
  have : c = (logB sm es).length := by omega
  subst this
  have e : fitK sm 0 (es.map edtB) (logB sm es).length = es.length := by
    unfold logB
    rw [fitK_all, List.length_map]
  rw [e, List.take_length]
  exact ⟨V, hv, hP⟩
/-- A manifest that stands: of any crash the version is V. -/
structure Std (sm : List UInt8 → List UInt8) (S : Fs) (u : Nat) (V : Ver) (es : List Edt) (N L W r : Nat) : Prop where
  disk : Disk S N L W r
  new : ∃ i j, i ≠ j ∧ AllD S (NewD sm u i j (logB sm es))
  may : ∀ e ∈ es, mayE e
  man : ∃ X, manV es = some X ∧ vSame X V
  good : GoodV V
  below : (u : Int) < V.nx
theorem Std.u {sm : List UInt8 → List UInt8} {S : Fs} {u : Nat} {V : Ver} {es : List Edt} {N L W r : Nat} (h : Std sm S u V es N L W r) : u ≤ 1125899906842624 := by
  have := h.below; have := h.good.nx2; omega
theorem Std.more {sm : List UInt8 → List UInt8} {S : Fs} {u : Nat} {V : Ver} {es : List Edt} {N L W r N' L' W' : Nat} (h : Std sm S u V es N L W r) (hN : N ≤ N') (hL : L ≤ L') (hW : W ≤ W') : Std sm S u V es N' L' W' r := { h with disk := h.disk.more hN hL hW }
theorem Std.same {sm : List UInt8 → List UInt8} {S : Fs} {u : Nat} {V V' : Ver} {es : List Edt} {N L W r : Nat} (h : Std sm S u V es N L W r) (hv : vSame V V') : Std sm S u V' es N L W r := by
  obtain ⟨X, x1, x2⟩ := h.man
  exact { h with man := ⟨X, x1, x2.trans hv⟩, good := hv.good h.good, below := by rw [← hv.2.1]; exact h.below }
/-- As it is read now. -/
theorem Std.load {sm : List UInt8 → List UInt8} (hs : ∀ l, (sm l).length = 4) {S : Fs} {u : Nat} {V : Ver} {es : List Edt} {N L W r : Nat} (h : Std sm S u V es N L W r) :
    ∃ i j X, dget curN S.now = some i ∧ (S.file i).bytes = ptrB sm u ∧ dget (manN u) S.now = some j ∧ (S.file j).bytes = logB sm es ∧ readC sm (logB sm es) = (es.map edtB, (logB sm es).length, true) ∧ manV es = some X ∧ vSame X V := by
  obtain ⟨i, j, -, hn⟩ := h.new
  obtain ⟨X, x1, x2⟩ := h.man
  obtain ⟨h1, h2, h3, h4⟩ := hn.now h.disk.ok
  exact ⟨i, j, X, h1, by rw [file_of h3], h2, by rw [file_of h4], by unfold logB; exact readC_all hs _, x1, x2⟩
theorem Std.crash {sm : List UInt8 → List UInt8} (hs : ∀ l, (sm l).length = 4) {S : Fs} {u : Nat} {V : Ver} {es : List Edt} {N L W r : Nat} (h : Std sm S u V es N L W r) (n : Int) (ts : List Int) : Std sm (S.crash n ts) u V es N L 0 r := by
  obtain ⟨i, j, hij, hn⟩ := h.new
  obtain ⟨h1, h2, h3, h4⟩ := hn n.toNat
  obtain ⟨p, p0, p1, p2⟩ := crash_file (ts := ts) h1 h3
  obtain ⟨q, q0, q1, q2⟩ := crash_file (ts := ts) h2 h4
  rw [show (12 : Nat) = (ptrB sm u).length from (ptrB_len hs u).symm, crash_whole, ptrB_len hs] at p2
  rw [crash_whole] at q2
  refine { h with disk := h.disk.crash n ts, new := ⟨p, q, fun e => ?_, fun k => ?_⟩ }
  · subst e
    rw [p0] at q0
    exact manN_cur u (Prod.mk.inj (Option.some.inj q0)).1.symm
  · rw [crash_dir]; exact ⟨p1, q1, p2, q2⟩
/-- An edit comes behind the others. -/
theorem Std.add {sm : List UInt8 → List UInt8} (hs : ∀ l, (sm l).length = 4) {S : Fs} {u : Nat} {V V' n : Ver} {es : List Edt} {N L W r : Nat} (h : Std sm S u V es N L W r) {e : Edt} (he : mayE e) (ha : applyV V e = some n) (hV : vSame n V') {b : List UInt8} (hb : b = layB sm (logB sm es).length (edtB e))
    (hN : N ≤ 199) (hL : (logB sm es).length + b.length ≤ L) (hL2 : L ≤ 16777216) (hr : N * L + b.length ≤ r) :
    Out S (addF S u b) (fun S' => Std sm S' u V' (es ++ [e]) N L W r ∧ S'.now = S.now) (fun S' => Way S' N L W r (Holds sm S.files.length (fun X => vSame X V ∨ vSame X V') u)) := by
  obtain ⟨i, j, hij, hn⟩ := h.new
  obtain ⟨X, x1, x2⟩ := h.man
  have hnow := hn.now h.disk.ok
  obtain ⟨h1, h2, h3, h4⟩ := hnow
  have hjl := (List.getElem?_eq_some_iff.1 h4).1
  have hil := (List.getElem?_eq_some_iff.1 h3).1
  have hfj := file_of h4
  have hsn : logB sm (es ++ [e]) = logB sm es ++ b := by rw [logB_snoc, hb]
  have hme : ∀ x ∈ es ++ [e], mayE x := fun x hx => by
    rcases List.mem_append.1 hx with hx | hx
    · exact h.may x hx
    · rw [List.mem_singleton.1 hx]; exact he
  have hgX : GoodV X := manV_good x1
  obtain ⟨m, hm1, hm2⟩ : ∃ m, applyV X e = some m ∧ vSame m V' := by
    rcases applyV_same x2 hgX e with ⟨-, e2⟩ | ⟨a, c, e1, e2, e3⟩
    · rw [ha] at e2; cases e2
    · rw [ha] at e2
      obtain rfl := Option.some.inj e2
      exact ⟨a, e1, e3.trans hV⟩
  have hman : manV (es ++ [e]) = some m := by rw [manV_snoc x1]; exact hm1
  have hgV : GoodV V' := hV.good (applyV_good h.good ha)
  refine (addF_out (X := NewD sm u i j (logB sm es)) (X2 := NewD sm u i j (logB sm (es ++ [e]))) (X3 := Holds sm S.files.length (fun X => vSame X V ∨ vSame X V') u) h.disk hn h2 hjl hN (by rw [hfj]; exact hL) hL2 hr ?_ ?_ ?_).mono ?_ ?_
  · intro D hD
    exact newD_holds hD (Nat.le_refl _) h.may x1 (.inl x2)
  · rintro D ⟨d1, d2, d3, d4⟩
    rw [hfj]
    simp only
    refine ⟨i, j, es ++ [e], (logB sm es).length, hil, hjl, d1, d2, by rw [List.getElem?_set_ne (Ne.symm hij)]; exact d3, by rw [List.getElem?_set_self hjl, hsn], hme, fun c c1 c2 => ?_⟩
    have hk := fitK_le (sm := sm) ((es ++ [e]).map edtB) 0 c
    rw [List.length_map, List.length_append, List.length_singleton] at hk
    have hk2 : es.length ≤ fitK sm 0 ((es ++ [e]).map edtB) c := by
      refine (fitK_spec _ 0 c es.length (by rw [List.length_map, List.length_append]; omega)).1 ?_
      rw [← List.map_take, List.take_left]
      exact c1
    rcases Nat.lt_or_ge es.length (fitK sm 0 ((es ++ [e]).map edtB) c) with hk3 | hk3
    · have : fitK sm 0 ((es ++ [e]).map edtB) c = (es ++ [e]).length := by rw [List.length_append, List.length_singleton]; omega
      rw [this, List.take_length]
      exact ⟨m, hman, .inr hm2⟩
    · have : fitK sm 0 ((es ++ [e]).map edtB) c = es.length := by omega
      rw [this, List.take_left]
      exact ⟨X, x1, .inl x2⟩
  · rintro D ⟨d1, d2, d3, d4⟩
    rw [hfj]
    simp only
    exact ⟨d1, d2, by rw [List.getElem?_set_ne (Ne.symm hij)]; exact d3, by rw [List.getElem?_set_self hjl, hsn]⟩
  · rintro S' ⟨s1, s2, s3, s4⟩
    refine ⟨⟨s1, ⟨i, j, hij, s2⟩, hme, ⟨m, hman, hm2⟩, hgV, ?_⟩, s3⟩
    have h5 := h.below
    have h6 := applyV_next ha
    have h7 : n.nx = V'.nx := hV.2.1
    omega
  · exact fun S' hS' => hS'
theorem add_bad {sm : List UInt8 → List UInt8} (hs : ∀ l, (sm l).length = 4) {S' : Fs} {u b0 : Nat} (hu : u ≤ 1125899906842624) {N L W r : Nat} {P : Ver → Prop} (h : Way S' N L W r (Holds sm b0 P u)) (n : Int) (ts : List Int) : LoadP sm (S'.crash n ts) P := holds_load hs h.disk.ok hu ts (h.all n.toNat)
end Go.Proofs.YtmmkgopnccfiiaaGreatDoor
/- Plain mathematics of a manifest: how long its log can grow, and that there is room for it. -/
namespace Go.Proofs.YtmmkgopnccfiiaaGreatDoor
set_option linter.unusedVariables false
open Go.RowKit
theorem mids_tight {sm : List UInt8 → List UInt8} (hs : ∀ l, (sm l).length = 4) : ∀ (n : Nat) (b : List UInt8), b.length ≤ n → (midsB sm b).length ≤ b.length + 7 * (b.length / 249) + 7
  | n, b, h => by
    by_cases hl : b.length ≤ 249
    · rw [mids_last sm b hl, rcPiece_len hs]; omega
    · match n with
      | 0 => omega
      | n + 1 =>
        have := mids_tight hs n (b.drop 249) (by rw [List.length_drop]; omega)
        rw [List.length_drop] at this
        rw [mids_more sm b hl, List.length_append, rcPiece_len hs, List.length_take]; omega
theorem layB_tight {sm : List UInt8 → List UInt8} (hs : ∀ l, (sm l).length = 4) (a : Nat) (b : List UInt8) : (layB sm a b).length ≤ b.length + b.length / 32 + 20 := by
  have h1 := pad_room a
  by_cases h : b.length ≤ roomN a
  · rw [layB_whole sm a b h, List.length_append, List.length_replicate, rcPiece_len hs]; omega
  · have h2 := mids_tight hs _ (b.drop (roomN a)) (Nat.le_refl _)
    rw [List.length_drop] at h2
    rw [layB_more sm a b h, List.length_append, List.length_replicate, List.length_append, rcPiece_len hs, List.length_take]; omega
/-- Texts of at most m bytes. -/
def thinF (m : Nat) (f : Tbf) : Prop := f.lo.size ≤ m ∧ f.hi.size ≤ m
theorem tbfB_thin {m : Nat} {f : Tbf} (h : thinF m f) : (tbfB f).length ≤ 50 + 2 * m := by
  obtain ⟨h1, h2⟩ := h
  have a1 := edNumB_len f.num
  have a2 := edNumB_len f.lvl
  have a3 := edNumB_len f.siz
  have a4 := (putN_len f.lo.data.toList.length).2
  have a5 := (putN_len f.hi.data.toList.length).2
  have a6 := size_toList f.lo
  have a7 := size_toList f.hi
  unfold tbfB textE
  simp only [List.length_append]
  omega
theorem manFlat_le {α : Type} (g : α → List UInt8) (m : Nat) : ∀ l : List α, (∀ x ∈ l, (g x).length ≤ m) → (l.flatMap g).length ≤ m * l.length
  | [], _ => Nat.zero_le _
  | x :: r, h => by
    have h1 := manFlat_le g m r fun y hy => h y (List.mem_cons_of_mem _ hy)
    have h2 := h x (List.mem_cons_self ..)
    rw [List.flatMap_cons, List.length_append, List.length_cons, Nat.mul_add, Nat.mul_one]
    omega
theorem edtB_thin {m : Nat} {e : Edt} (h : ∀ f ∈ e.adds, thinF m f) : (edtB e).length ≤ 50 + (50 + 2 * m) * e.adds.length + 10 * e.dels.length := by
  have h1 := manFlat_le tbfB (50 + 2 * m) e.adds fun f hf => tbfB_thin (h f hf)
  have h2 := manFlat_le edNumB 10 e.dels fun n _ => edNumB_len n
  have a1 := edNumB_len e.nxt
  have a2 := edNumB_len e.lg
  have a3 := edNumB_len e.lst
  have a4 := (putN_len e.adds.length).2
  have a5 := (putN_len e.dels.length).2
  unfold edtB edHeadB
  simp only [List.length_append]
  omega
/-- A manifest behind at most c edits of a law, and so many new ones: the room is enough. -/
structure Run (sm : List UInt8 → List UInt8) (S : Fs) (u : Nat) (V : Ver) (es : List Edt) (c r : Nat) : Prop where
  std : Std sm S u V es (2 + 2 * r) (2420 * c + 100) 1 1048576
  log : (logB sm es).length ≤ 2420 * c + 100
  thin : ∀ f ∈ V.fs, thinF 20 f
  few : V.fs.length ≤ 12 * c
/-- An edit that a law cuts. -/
def cutE (e : Edt) : Prop := e.adds.length ≤ 12 ∧ e.dels.length ≤ 12 ∧ ∀ f ∈ e.adds, thinF 20 f
theorem cutE_len {sm : List UInt8 → List UInt8} (hs : ∀ l, (sm l).length = 4) {e : Edt} (h : cutE e) (a : Nat) : (layB sm a (edtB e)).length ≤ 1400 := by
  obtain ⟨h1, h2, h3⟩ := h
  have h4 := edtB_thin h3
  have h5 := layB_tight hs a (edtB e)
  have h6 : (50 + 2 * 20) * e.adds.length ≤ 90 * 12 := Nat.mul_le_mul_left 90 h1
  omega
theorem room_le {c r : Nat} (h : c + r ≤ 20) : (5 + 2 * r) * (2420 * c + 100) ≤ 1048576 := by
  have h1 : ∀ c' : Fin 21, (5 + 2 * (20 - c'.1)) * (2420 * c'.1 + 100) ≤ 1048576 := by decide
  have h2 := h1 ⟨c, by omega⟩
  exact Nat.le_trans (Nat.mul_le_mul_right _ (by show 5 + 2 * r ≤ 5 + 2 * (20 - c); omega)) h2
theorem Run.add {sm : List UInt8 → List UInt8} (hs : ∀ l, (sm l).length = 4) {S : Fs} {u : Nat} {V V' n : Ver} {es : List Edt} {c r : Nat} (h : Run sm S u V es c r) (hcr : c + r < 20) {e : Edt} (hc : cutE e) (he : mayE e) (ha : applyV V e = some n) (hV : vSame n V') :
    Out S (addF S u (layB sm (logB sm es).length (edtB e))) (fun S' => Run sm S' u V' (es ++ [e]) (c + 1) r ∧ S'.now = S.now) (fun S' => Way S' (2 + 2 * r) (2420 * (c + 1) + 100) 1 1048576 (Holds sm S.files.length (fun X => vSame X V ∨ vSame X V') u)) := by
  have hb := cutE_len hs hc (logB sm es).length
  have hl := h.log
  have q1 : 2 + 2 * r ≤ 199 := by omega
  have q2 : (logB sm es).length + (layB sm (logB sm es).length (edtB e)).length ≤ 2420 * (c + 1) + 100 := by omega
  have q0 : 1400 ≤ 2420 * (c + 1) + 100 := by omega
  have q3 : 2420 * (c + 1) + 100 ≤ 16777216 := by clear hb hl q2 q1; omega
  have hst := h.std.more (N' := 2 + 2 * r) (L' := 2420 * (c + 1) + 100) (W' := 1) (Nat.le_refl _) (by omega) (Nat.le_refl _)
  have q4 : (2 + 2 * r) * (2420 * (c + 1) + 100) + (layB sm (logB sm es).length (edtB e)).length ≤ 1048576 := by
    have hrm := room_le (c := c + 1) (r := r) (by omega)
    revert hrm q0
    generalize 2420 * (c + 1) + 100 = K
    intro hrm q0
    have hmul : (2 + 2 * r) * K + K ≤ (5 + 2 * r) * K := by
      rw [← Nat.succ_mul]
      exact Nat.mul_le_mul_right _ (by omega)
    generalize (2 + 2 * r) * K = A at *
    generalize (5 + 2 * r) * K = B at *
    omega
  refine (hst.add hs he ha hV rfl q1 q2 q3 q4).mono ?_ fun S' hS' => hS'
  rintro S' ⟨s1, s2⟩
  obtain ⟨t1, t2⟩ := applyV_tabs ha
  obtain ⟨c1, c2, c3⟩ := hc
  refine ⟨⟨s1, ?_, fun f hf => ?_, ?_⟩, s2⟩
  · rw [logB_snoc, List.length_append]; omega
  · rcases t2 f (hV.1.mem_iff.2 hf) with k | k
    · exact h.thin f k
    · exact c3 f k
  · rw [← hV.1.length_eq]; have := h.few; omega
theorem wholeE_len {sm : List UInt8 → List UInt8} (hs : ∀ l, (sm l).length = 4) {V : Ver} {c : Nat} (h1 : ∀ f ∈ V.fs, thinF 20 f) (h2 : V.fs.length ≤ 12 * c) : (logB sm [⟨V.nx, V.lg, V.ls, V.fs, []⟩]).length ≤ 2420 * c + 100 := by
  rw [logB_one]
  have h4 := edtB_thin (e := ⟨V.nx, V.lg, V.ls, V.fs, []⟩) h1
  have h5 := layB_tight hs 0 (edtB ⟨V.nx, V.lg, V.ls, V.fs, []⟩)
  have h6 : (50 + 2 * 20) * V.fs.length ≤ 90 * (12 * c) := Nat.mul_le_mul_left 90 h2
  simp only [List.length_nil] at h4
  omega
/-- Of any version the bytes are not too many. -/
theorem edtB_any {e : Edt} (h : mayE e) : (edtB e).length ≤ 6000000 := by
  obtain ⟨-, ⟨h1, h2⟩, h3, h4⟩ := h
  have h5 := manFlat_le tbfB 26100 e.adds fun f hf => tbfB_len (h3 f hf)
  have h6 := manFlat_le edNumB 10 e.dels fun n _ => edNumB_len n
  have a1 := edNumB_len e.nxt
  have a2 := edNumB_len e.lg
  have a3 := edNumB_len e.lst
  have a4 := (putN_len e.adds.length).2
  have a5 := (putN_len e.dels.length).2
  unfold edtB edHeadB
  simp only [List.length_append]
  omega
theorem whole_any {sm : List UInt8 → List UInt8} (hs : ∀ l, (sm l).length = 4) {e : Edt} (h : mayE e) (a : Nat) : (layB sm a (edtB e)).length ≤ 7000000 := by
  have h1 := edtB_any h
  have h2 := layB_tight hs a (edtB e)
  omega
theorem Run.crash {sm : List UInt8 → List UInt8} (hs : ∀ l, (sm l).length = 4) {S : Fs} {u : Nat} {V : Ver} {es : List Edt} {c r : Nat} (h : Run sm S u V es c r) (n : Int) (ts : List Int) : Run sm (S.crash n ts) u V es c r :=
  ⟨(h.std.crash hs n ts).more (Nat.le_refl _) (Nat.le_refl _) (by omega), h.log, h.thin, h.few⟩
theorem Run.same {sm : List UInt8 → List UInt8} {S : Fs} {u : Nat} {V V' : Ver} {es : List Edt} {c r : Nat} (h : Run sm S u V es c r) (hv : vSame V V') : Run sm S u V' es c r :=
  ⟨h.std.same hv, h.log, fun f hf => h.thin f (hv.1.mem_iff.2 hf), by rw [← hv.1.length_eq]; exact h.few⟩
end Go.Proofs.YtmmkgopnccfiiaaGreatDoor
