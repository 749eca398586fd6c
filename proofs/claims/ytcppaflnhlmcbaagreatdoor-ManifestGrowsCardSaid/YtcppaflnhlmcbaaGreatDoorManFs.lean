/- Plain mathematics of a manifest's files: the calls one behind the other, what each leaves where it fails. -/
import Derived.Test.YtcppaflnhlmcbaaGreatDoorMFs
import Derived.Test.YtcppaflnhlmcbaaGreatDoorDecMath
import Derived.Test.YtcppaflnhlmcbaaGreatDoorMNum
namespace Go.Proofs.YtcppaflnhlmcbaaGreatDoor
set_option linter.unusedVariables false
open Go.RowKit
def curN : ByteArray := ⟨#[67, 85, 82, 82, 69, 78, 84]⟩
def besN : ByteArray := ⟨#[98, 101, 115, 105, 100, 101]⟩
def dotMan : ByteArray := ⟨#[46, 109, 97, 110]⟩
def manN (u : Nat) : ByteArray := ⟨(Lib.decDigits u).toArray⟩ ++ dotMan
/-- The bytes of a CURRENT. -/
def ptrB (sm : List UInt8 → List UInt8) (u : Nat) : List UInt8 := fixN 8 u ++ sm (fixN 8 u)
theorem ptrB_len {sm : List UInt8 → List UInt8} (hs : ∀ l, (sm l).length = 4) (u : Nat) : (ptrB sm u).length = 12 := by
  unfold ptrB
  rw [List.length_append, fixN_len, hs]
theorem manN_list (u : Nat) : (manN u).data.toList = Lib.decDigits u ++ [46, 109, 97, 110] := by
  unfold manN
  rw [ByteArray.data_append, Array.toList_append]
  rfl
theorem manN_inj {u v : Nat} (h : manN u = manN v) : u = v := by
  have h1 := congrArg (fun b : ByteArray => b.data.toList) h
  simp only [manN_list] at h1
  exact dec_inj (List.append_cancel_right h1)
theorem manN_head (u : Nat) : ∃ b r, (manN u).data.toList = b :: r ∧ 48 ≤ b.toNat ∧ b.toNat ≤ 57 := by
  rw [manN_list]
  obtain ⟨-, h1, h2⟩ := dec_digits u
  cases e : Lib.decDigits u with
  | nil => rw [e] at h2; simp at h2
  | cons b r =>
    rw [e] at h1
    exact ⟨b, r ++ [46, 109, 97, 110], rfl, h1 b (List.mem_cons_self ..)⟩
theorem manN_cur (u : Nat) : manN u ≠ curN := fun h => by
  obtain ⟨b, r, h1, h2, h3⟩ := manN_head u
  rw [h] at h1
  have h4 : (67 : UInt8) = b := (List.cons.inj h1).1
  subst h4
  exact absurd h3 (by decide)
theorem manN_bes (u : Nat) : manN u ≠ besN := fun h => by
  obtain ⟨b, r, h1, h2, h3⟩ := manN_head u
  rw [h] at h1
  have h4 : (98 : UInt8) = b := (List.cons.inj h1).1
  subst h4
  exact absurd h3 (by decide)
theorem manN_nul (u : Nat) : manN u ≠ ⟨#[]⟩ := fun h => by
  obtain ⟨b, r, h1, h2, h3⟩ := manN_head u
  rw [h] at h1
  cases h1
theorem cur_bes : curN ≠ besN := fun h => by
  have h1 : (67 : UInt8) = 98 := (List.cons.inj (congrArg (fun b : ByteArray => b.data.toList) h)).1
  exact absurd h1 (by decide)
theorem cur_nul : curN ≠ ⟨#[]⟩ := fun h => by
  have h1 := congrArg (fun b : ByteArray => b.data.toList) h
  cases h1
theorem bes_nul : besN ≠ ⟨#[]⟩ := fun h => by
  have h1 := congrArg (fun b : ByteArray => b.data.toList) h
  cases h1
theorem dig_few (u : Nat) (k : Nat) (hk : 1 ≤ k) (h : u < 10 ^ k) : (Lib.decDigits u).length ≤ k := by
  induction k generalizing u with
  | zero => omega
  | succ k ih =>
    by_cases h1 : u < 10
    · rw [Lib.decDigits_one h1]; simp
    · have h2 : 1 ≤ k := by
        rcases Nat.eq_zero_or_pos k with rfl | h2
        · simp at h; omega
        · exact h2
      have h3 := ih (u / 10) h2 (by rw [Nat.pow_succ] at h; omega)
      rw [Lib.decDigits, dif_neg h1, List.length_append, List.length_singleton]
      omega
theorem manN_len {u : Nat} (h : u ≤ 1125899906842624) : 5 ≤ (manN u).size ∧ (manN u).size ≤ 20 := by
  have h1 : (manN u).data.toList.length = (Lib.decDigits u).length + 4 := by rw [manN_list, List.length_append]; rfl
  have h2 : (manN u).size = (manN u).data.toList.length := by rw [Array.length_toList]; rfl
  have h3 := dig_few u 16 (by omega) (by omega)
  have h4 := (dec_digits u).2.2
  omega
theorem manN_ok {u : Nat} (h : u ≤ 1125899906842624) : nameOk (manN u) = true := by
  obtain ⟨h1, h2⟩ := manN_len h
  unfold nameOk
  rw [decide_eq_true (by omega : 1 ≤ (manN u).size), decide_eq_true h2, manN_list, List.all_append, Bool.true_and, Bool.true_and, Bool.and_eq_true]
  refine ⟨List.all_eq_true.2 fun b hb => ?_, by decide⟩
  obtain ⟨h3, h4⟩ := (dec_digits u).2.1 b hb
  unfold nmB
  rw [decide_eq_true h3, decide_eq_true h4]
  simp
theorem curN_ok : nameOk curN = true := by decide
theorem besN_ok : nameOk besN = true := by decide
/-! ### calls one behind the other -/
def thenF (r : Int × Fs) (k : Fs → Int × Fs) : Int × Fs := if r.1 = 0 then k r.2 else r
/-- A file of a name, made beside. -/
def layNew (S : Fs) (nm : ByteArray) (b : List UInt8) : Int × Fs := thenF (S.create besN) fun S1 => thenF (S1.append besN b) fun S2 => thenF (S2.sync besN) fun S3 => S3.rename besN nm
/-- A new manifest, and CURRENT turned to it. -/
def begF (sm : List UInt8 → List UInt8) (S : Fs) (u : Nat) (log : List UInt8) : Int × Fs := thenF (layNew S (manN u) log) fun S1 => thenF (layNew S1 curN (ptrB sm u)) fun S2 => S2.syncDir
/-- Over to a new manifest; the old one goes. -/
def turnF (sm : List UInt8 → List UInt8) (S : Fs) (u v : Nat) (log : List UInt8) : Int × Fs := thenF (begF sm S v log) fun S1 => if v = u then (0, S1) else S1.remove (manN u)
/-- Bytes behind the others. -/
def addF (S : Fs) (u : Nat) (b : List UInt8) : Int × Fs := thenF (S.append (manN u) b) fun S1 => S1.sync (manN u)
/-- All that was loaded is made last. -/
def setF (S : Fs) (u : Nat) : Int × Fs := thenF (S.sync (manN u)) fun S1 => S1.syncDir
/-- A call answers OK, and G is behind it, or it is the one that fails, and B is behind it. -/
def Out (S : Fs) (r : Int × Fs) (G B : Fs → Prop) : Prop := (r.1 = 0 ∧ G r.2 ∧ (S.fails = none → r.2.fails = none)) ∨ (r.1 = 7 ∧ B r.2 ∧ S.fails ≠ none)
theorem Out.then {S : Fs} {r : Int × Fs} {k : Fs → Int × Fs} {G B G' B' : Fs → Prop} (h : Out S r G B) (hk : ∀ S1, G S1 → Out S1 (k S1) G' B') (hB : ∀ S1, B S1 → B' S1) : Out S (thenF r k) G' B' := by
  unfold thenF
  rcases h with ⟨h1, h2, h3⟩ | ⟨h1, h2, h3⟩
  · rw [if_pos h1]
    rcases hk _ h2 with ⟨k1, k2, k3⟩ | ⟨k1, k2, k3⟩
    · exact .inl ⟨k1, k2, fun h => k3 (h3 h)⟩
    · exact .inr ⟨k1, k2, fun h => k3 (h3 h)⟩
  · rw [if_neg (by omega)]
    exact .inr ⟨h1, hB _ h2, h3⟩
theorem Out.mono {S : Fs} {r : Int × Fs} {G B G' B' : Fs → Prop} (h : Out S r G B) (hG : ∀ S1, G S1 → G' S1) (hB : ∀ S1, B S1 → B' S1) : Out S r G' B' := by
  rcases h with ⟨h1, h2, h3⟩ | ⟨h1, h2, h3⟩
  · exact .inl ⟨h1, hG _ h2, h3⟩
  · exact .inr ⟨h1, hB _ h2, h3⟩
theorem dies_some {S : Fs} (h : S.dies = true) : S.fails ≠ none := fun e => by
  unfold Fs.dies at h
  rw [e] at h
  simp at h
theorem create_out {S : Fs} {n : ByteArray} (hn : nameOk n = true) (hl : S.now.length < 200) :
    Out S (S.create n) (fun S' => S' = Fs.change { S.begun with files := S.files ++ [⟨[], 0⟩] } ⟨⟨#[]⟩, n, some S.files.length⟩) (fun S' => S' = S.begun) := by
  unfold Fs.create
  by_cases hd : S.dies = true
  · rw [if_pos hd]; exact .inr ⟨rfl, rfl, dies_some hd⟩
  · rw [if_neg hd, hn, if_neg (by simp), if_neg (fun h => by omega)]
    exact .inl ⟨rfl, rfl, begun_none⟩
theorem append_out {S : Fs} {n : ByteArray} {b : List UInt8} {i : Nat} (hg : dget n S.now = some i) (hr : S.used + b.length ≤ S.room) :
    Out S (S.append n b) (fun S' => S' = { S.begun with files := S.files.set i ⟨(S.file i).bytes ++ b, (S.file i).synced⟩ }) (fun S' => S' = S.begun) := by
  unfold Fs.append
  by_cases hd : S.dies = true
  · rw [if_pos hd]; exact .inr ⟨rfl, rfl, dies_some hd⟩
  · rw [if_neg hd, hg]
    simp only
    rw [if_neg (by omega)]
    exact .inl ⟨rfl, rfl, begun_none⟩
theorem sync_out {S : Fs} {n : ByteArray} {i : Nat} (hg : dget n S.now = some i) :
    Out S (S.sync n) (fun S' => S' = { S.begun with files := S.files.set i ⟨(S.file i).bytes, (S.file i).bytes.length⟩ }) (fun S' => S' = S.begun) := by
  unfold Fs.sync
  by_cases hd : S.dies = true
  · rw [if_pos hd]; exact .inr ⟨rfl, rfl, dies_some hd⟩
  · rw [if_neg hd, hg]
    exact .inl ⟨rfl, rfl, begun_none⟩
theorem syncDir_out (S : Fs) : Out S S.syncDir (fun S' => S' = { S.begun with old := S.now, wait := [] }) (fun S' => S' = S.begun) := by
  unfold Fs.syncDir
  by_cases hd : S.dies = true
  · rw [if_pos hd]; exact .inr ⟨rfl, rfl, dies_some hd⟩
  · rw [if_neg hd]
    exact .inl ⟨rfl, rfl, begun_none⟩
theorem rename_out {S : Fs} {a b : ByteArray} {i : Nat} (hg : dget a S.now = some i) (hb : nameOk b = true) : Out S (S.rename a b) (fun S' => S' = S.begun.change ⟨a, b, some i⟩) (fun S' => S' = S.begun) := by
  unfold Fs.rename
  by_cases hd : S.dies = true
  · rw [if_pos hd]; exact .inr ⟨rfl, rfl, dies_some hd⟩
  · rw [if_neg hd, hg]
    simp only
    rw [hb, if_neg (by simp)]
    exact .inl ⟨rfl, rfl, begun_none⟩
theorem remove_out {S : Fs} {n : ByteArray} {i : Nat} (hg : dget n S.now = some i) : Out S (S.remove n) (fun S' => S' = S.begun.change ⟨n, ⟨#[]⟩, none⟩) (fun S' => S' = S.begun) := by
  unfold Fs.remove
  by_cases hd : S.dies = true
  · rw [if_pos hd]; exact .inr ⟨rfl, rfl, dies_some hd⟩
  · rw [if_neg hd, hg]
    exact .inl ⟨rfl, rfl, begun_none⟩
/-! ### what a crash may leave of the directory -/
def dirAt (S : Fs) (k : Nat) : Dir := (S.wait.take k).foldl Chg.run S.old
theorem dirAt_big {S : Fs} (h : FsOk S) {k : Nat} (hk : S.wait.length ≤ k) : dirAt S k = S.now := by
  unfold dirAt
  rw [List.take_of_length_le hk, ← h.same]
theorem dirAt_now {S : Fs} (h : FsOk S) : dirAt S S.wait.length = S.now := dirAt_big h (Nat.le_refl _)
/-- What holds of each directory that a crash may leave. -/
def AllD (S : Fs) (X : List Fil → Dir → Prop) : Prop := ∀ k, X S.files (dirAt S k)
theorem AllD.now {S : Fs} {X : List Fil → Dir → Prop} (h : AllD S X) (ho : FsOk S) : X S.files S.now := by
  have := h S.wait.length
  rwa [dirAt_now ho] at this
theorem AllD.change {S : Fs} {X : List Fil → Dir → Prop} {c : Chg} (ho : FsOk S) (h : AllD S X) (hc : X S.files (Chg.run S.now c)) : AllD (S.change c) X := fun k => by
  show X S.files (((S.wait ++ [c]).take k).foldl Chg.run S.old)
  rcases Nat.lt_or_ge S.wait.length k with hk | hk
  · rw [List.take_of_length_le (by rw [List.length_append, List.length_singleton]; omega), List.foldl_append, List.foldl_cons, List.foldl_nil, ← ho.same]; exact hc
  · rw [List.take_append_of_le_length hk]; exact h k
theorem AllD.mono {S : Fs} {X Y : List Fil → Dir → Prop} (h : AllD S X) (hi : ∀ D, X S.files D → Y S.files D) : AllD S Y := fun k => hi _ (h k)
/-- Names no more than N, files no longer than L, changes that wait no more than W, so much room. -/
structure Disk (S : Fs) (N L W r : Nat) : Prop where
  ok : FsOk S
  names : ∀ k, (dirAt S k).length ≤ N
  sizes : ∀ p ∈ S.files, p.bytes.length ≤ L
  wait : S.wait.length ≤ W
  room : S.room = r
theorem Disk.now {S : Fs} {N L W r : Nat} (h : Disk S N L W r) : S.now.length ≤ N := by
  have := h.names S.wait.length
  rwa [dirAt_now h.ok] at this
theorem Disk.file {S : Fs} {N L W r : Nat} (h : Disk S N L W r) (i : Nat) : (S.file i).bytes.length ≤ L := by
  unfold Fs.file
  rw [List.getD_eq_getElem?_getD]
  cases e : S.files[i]? with
  | none => simp
  | some p => exact h.sizes p (List.mem_of_getElem? e)
theorem Disk.used {S : Fs} {N L W r : Nat} (h : Disk S N L W r) : S.used ≤ N * L := by
  have h1 := sum_bd (fun x : ByteArray × Nat => (S.file x.2).bytes.length) L S.now fun x _ => h.file x.2
  have h2 : S.now.length * L ≤ N * L := Nat.mul_le_mul_right L h.now
  exact Nat.le_trans h1 h2
theorem Disk.more {S : Fs} {N L W r N' L' W' : Nat} (h : Disk S N L W r) (hN : N ≤ N') (hL : L ≤ L') (hW : W ≤ W') : Disk S N' L' W' r := ⟨h.ok, fun k => Nat.le_trans (h.names k) hN, fun p hp => Nat.le_trans (h.sizes p hp) hL, Nat.le_trans h.wait hW, h.room⟩
theorem Disk.begun {S : Fs} {N L W r : Nat} (h : Disk S N L W r) : Disk S.begun N L W r := ⟨h.ok.begun, h.names, h.sizes, h.wait, h.room⟩
theorem run_len (l : Dir) (c : Chg) : (Chg.run l c).length ≤ l.length + 1 := by
  unfold Chg.run
  split
  · exact Nat.le_succ_of_le ddel_len
  · rename_i i hi
    rw [dput_len]
    have h1 := ddel_len (n := c.goes) (l := ddel c.fr l)
    have h2 := ddel_len (n := c.fr) (l := l)
    omega
theorem run_len_mv {l : Dir} {a b : ByteArray} {i j : Nat} (h : dget a l = some j) : (Chg.run l ⟨a, b, some i⟩).length ≤ l.length := by
  show (dput b i (ddel a l)).length ≤ _
  rw [dput_len]
  have h1 := ddel_len (n := b) (l := ddel a l)
  have h2 := ddel_less (n := a) (l := l) (by rw [h]; simp)
  omega
theorem Disk.change {S : Fs} {N L W r : Nat} (h : Disk S N L W r) {c : Chg} (hi : ∀ i, c.file = some i → i < S.files.length) (hs : c.fr.size ≤ 140737488355328 ∧ c.goes.size ≤ 140737488355328) (hl : (Chg.run S.now c).length ≤ N) (hN : N ≤ 200) : Disk (S.change c) N L (W + 1) r := by
  refine ⟨h.ok.change hi hs (Nat.le_trans hl hN), ?_, h.sizes, ?_, h.room⟩
  · exact AllD.change (X := fun _ D => D.length ≤ N) h.ok h.names hl
  · have := h.wait
    show (S.wait ++ [c]).length ≤ W + 1
    rw [List.length_append, List.length_singleton]; omega
theorem Disk.setFile {S : Fs} {N L W r : Nat} (h : Disk S N L W r) (i : Nat) (p : Fil) (hp : p.synced ≤ p.bytes.length) (hL : p.bytes.length ≤ L) (hL2 : L ≤ 16777216) : Disk { S with files := S.files.set i p } N L W r := by
  refine ⟨h.ok.setFile i p ⟨hp, by omega⟩, h.names, fun q hq => ?_, h.wait, h.room⟩
  rcases List.mem_or_eq_of_mem_set hq with hq | rfl
  · exact h.sizes q hq
  · exact hL
theorem Disk.morefile {S : Fs} {N L W r : Nat} (h : Disk S N L W r) (p : Fil) (hp : p.synced ≤ p.bytes.length) (hL : p.bytes.length ≤ L) (hL2 : L ≤ 16777216) : Disk { S with files := S.files ++ [p] } N L W r := by
  refine ⟨h.ok.more p ⟨hp, by omega⟩, h.names, fun q hq => ?_, h.wait, h.room⟩
  rcases List.mem_append.1 hq with hq | hq
  · exact h.sizes q hq
  · rw [List.mem_singleton.1 hq]; exact hL
theorem Disk.synced {S : Fs} {N L W r : Nat} (h : Disk S N L W r) (hN : N ≤ 200) : Disk { S with old := S.now, wait := [] } N L W r := by
  have hd : ∀ k, dirAt { S with old := S.now, wait := [] } k = S.now := fun k => by
    unfold dirAt
    rw [List.take_nil]; rfl
  refine ⟨{ h.ok with old := h.ok.now, same := rfl, few := fun k => ?_, inOld := h.ok.inNow, inWait := fun c hc => (by cases hc), sizes := fun c hc => (by cases hc) }, fun k => ?_, h.sizes, Nat.zero_le _, h.room⟩
  · show (List.foldl Chg.run S.now (List.take k [])).length ≤ 200
    rw [List.take_nil, List.foldl_nil]
    exact Nat.le_trans h.now hN
  · rw [hd]; exact h.now
theorem file_of {S : Fs} {i : Nat} {p : Fil} (h : S.files[i]? = some p) : S.file i = p := by
  unfold Fs.file
  rw [List.getD_eq_getElem?_getD, h]; rfl
theorem bes_small : besN.size ≤ 140737488355328 := by decide
theorem cur_small : curN.size ≤ 140737488355328 := by decide
end Go.Proofs.YtcppaflnhlmcbaaGreatDoor
