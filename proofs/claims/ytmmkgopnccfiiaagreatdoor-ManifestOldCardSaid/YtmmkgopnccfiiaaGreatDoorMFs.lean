/- Plain mathematics of files that may fail: a directory as names in order, changes that wait, what a crash leaves. -/
import Derived.Test.YtmmkgopnccfiiaaGreatDoorMBase
import Derived.Test.YtmmkgopnccfiiaaGreatDoorRows
import Derived.Maps.OwnSet
import Derived.Sort.KeysCollected
import Derived.WalkKit
import Derived.RegionTactic
import Derived.Deep.QuietTactic
import Derived.BigQuiet
import Derived.Shelf.SlMaps.Clone
import Derived.Carry
namespace Go.Proofs.YtmmkgopnccfiiaaGreatDoor
set_option linter.unusedVariables false
open Go.RowKit
/-- A directory: names, each with its file's number. -/
abbrev Dir := List (ByteArray × Nat)
def DirOk (l : Dir) : Prop := l.Pairwise fun x y => bl x.1 y.1
def dget (n : ByteArray) : Dir → Option Nat
  | [] => none
  | x :: r => if x.1 = n then some x.2 else dget n r
def ddel (n : ByteArray) : Dir → Dir
  | [] => []
  | x :: r => if x.1 = n then ddel n r else x :: ddel n r
def dins (x : ByteArray × Nat) : Dir → Dir
  | [] => [x]
  | y :: r => if bl x.1 y.1 then x :: y :: r else y :: dins x r
def dput (n : ByteArray) (i : Nat) (l : Dir) : Dir := dins (n, i) (ddel n l)
theorem ddel_mem {n : ByteArray} {x : ByteArray × Nat} : ∀ {l : Dir}, x ∈ ddel n l ↔ x ∈ l ∧ x.1 ≠ n
  | [] => by simp [ddel]
  | y :: r => by
    unfold ddel
    split
    · rename_i h
      rw [ddel_mem (l := r), List.mem_cons]
      constructor
      · rintro ⟨h1, h2⟩; exact ⟨.inr h1, h2⟩
      · rintro ⟨rfl | h1, h2⟩
        · exact absurd h h2
        · exact ⟨h1, h2⟩
    · rename_i h
      rw [List.mem_cons, ddel_mem (l := r), List.mem_cons]
      constructor
      · rintro (rfl | ⟨h1, h2⟩)
        · exact ⟨.inl rfl, h⟩
        · exact ⟨.inr h1, h2⟩
      · rintro ⟨rfl | h1, h2⟩
        · exact .inl rfl
        · exact .inr ⟨h1, h2⟩
theorem dins_mem {x y : ByteArray × Nat} : ∀ {l : Dir}, y ∈ dins x l ↔ y = x ∨ y ∈ l
  | [] => by simp [dins]
  | z :: r => by
    unfold dins
    split
    · simp
    · rw [List.mem_cons, dins_mem (l := r), List.mem_cons]
      constructor
      · rintro (h | h | h)
        · exact .inr (.inl h)
        · exact .inl h
        · exact .inr (.inr h)
      · rintro (h | h | h)
        · exact .inr (.inl h)
        · exact .inl h
        · exact .inr (.inr h)
theorem ddel_ok {n : ByteArray} : ∀ {l : Dir}, DirOk l → DirOk (ddel n l)
  | [], _ => List.Pairwise.nil
  | y :: r, h => by
    obtain ⟨h1, h2⟩ := List.pairwise_cons.1 h
    unfold ddel
    split
    · exact ddel_ok h2
    · exact List.pairwise_cons.2 ⟨fun x hx => h1 x (ddel_mem.1 hx).1, ddel_ok h2⟩
theorem dins_ok {x : ByteArray × Nat} : ∀ {l : Dir}, DirOk l → (∀ y ∈ l, y.1 ≠ x.1) → DirOk (dins x l)
  | [], _, _ => List.pairwise_cons.2 ⟨fun y h => by simp at h, List.Pairwise.nil⟩
  | y :: r, h, hn => by
    obtain ⟨h1, h2⟩ := List.pairwise_cons.1 h
    unfold dins
    split
    · rename_i hl
      refine List.pairwise_cons.2 ⟨fun z hz => ?_, h⟩
      rcases List.mem_cons.1 hz with rfl | hz
      · exact hl
      · exact bl_trans hl (h1 z hz)
    · rename_i hl
      refine List.pairwise_cons.2 ⟨fun z hz => ?_, dins_ok h2 fun z hz => hn z (List.mem_cons_of_mem _ hz)⟩
      rcases dins_mem.1 hz with rfl | hz
      · rcases bl_tri y.1 z.1 with h3 | h3 | h3
        · exact h3
        · exact absurd h3 (hn y (List.mem_cons_self ..))
        · exact absurd h3 hl
      · exact h1 z hz
theorem dput_ok {n : ByteArray} {i : Nat} {l : Dir} (h : DirOk l) : DirOk (dput n i l) := dins_ok (ddel_ok h) fun _ hy => (ddel_mem.1 hy).2
theorem dget_mem {n : ByteArray} {i : Nat} : ∀ {l : Dir}, DirOk l → (dget n l = some i ↔ (n, i) ∈ l)
  | [], _ => by simp [dget]
  | y :: r, h => by
    obtain ⟨h1, h2⟩ := List.pairwise_cons.1 h
    unfold dget
    split
    · rename_i e
      subst e
      constructor
      · intro k; obtain rfl := Option.some.inj k; exact List.mem_cons_self ..
      · intro k
        rcases List.mem_cons.1 k with e | k
        · rw [← e]
        · exact absurd (h1 _ k) (bl_irr _)
    · rename_i e
      rw [dget_mem h2, List.mem_cons]
      constructor
      · exact .inr
      · rintro (k | k)
        · rw [← k] at e; exact absurd rfl e
        · exact k
theorem dget_none {n : ByteArray} : ∀ {l : Dir}, dget n l = none ↔ ∀ x ∈ l, x.1 ≠ n
  | [] => by simp [dget]
  | y :: r => by
    unfold dget
    split
    · rename_i e
      constructor
      · intro k; cases k
      · intro k; exact absurd e (k y (List.mem_cons_self ..))
    · rename_i e
      rw [dget_none (l := r)]
      constructor
      · intro k x hx
        rcases List.mem_cons.1 hx with rfl | hx
        · exact e
        · exact k x hx
      · exact fun k x hx => k x (List.mem_cons_of_mem _ hx)
theorem dget_put {n : ByteArray} {i : Nat} {l : Dir} (h : DirOk l) : dget n (dput n i l) = some i := (dget_mem (dput_ok h)).2 (dins_mem.2 (.inl rfl))
theorem dget_put_ne {n m : ByteArray} {i : Nat} {l : Dir} (h : DirOk l) (hm : m ≠ n) : dget m (dput n i l) = dget m l := by
  refine Option.ext fun j => ?_
  rw [dget_mem (dput_ok h), dget_mem h]
  unfold dput
  rw [dins_mem, ddel_mem]
  constructor
  · rintro (k | k)
    · exact absurd (congrArg Prod.fst k) hm
    · exact k.1
  · exact fun k => .inr ⟨k, hm⟩
theorem dget_del {n : ByteArray} {l : Dir} : dget n (ddel n l) = none := dget_none.2 fun _ hx => (ddel_mem.1 hx).2
theorem dget_del_ne {n m : ByteArray} {l : Dir} (h : DirOk l) (hm : m ≠ n) : dget m (ddel n l) = dget m l := by
  refine Option.ext fun j => ?_
  rw [dget_mem (ddel_ok h), dget_mem h, ddel_mem]
  exact ⟨fun k => k.1, fun k => ⟨k, hm⟩⟩
theorem ddel_len {n : ByteArray} : ∀ {l : Dir}, (ddel n l).length ≤ l.length
  | [] => Nat.le_refl _
  | y :: r => by
    unfold ddel
    split
    · exact Nat.le_succ_of_le ddel_len
    · exact Nat.succ_le_succ ddel_len
theorem ddel_self {n : ByteArray} : ∀ {l : Dir}, dget n l = none → ddel n l = l
  | [], _ => rfl
  | y :: r, h => by
    have h1 := dget_none.1 h y (List.mem_cons_self ..)
    unfold ddel
    rw [if_neg h1]
    congr 1
    refine ddel_self (dget_none.2 fun x hx => dget_none.1 h x (List.mem_cons_of_mem _ hx))
theorem ddel_less {n : ByteArray} : ∀ {l : Dir}, dget n l ≠ none → (ddel n l).length + 1 ≤ l.length
  | [], h => absurd rfl h
  | y :: r, h => by
    unfold ddel
    split
    · exact Nat.succ_le_succ ddel_len
    · rename_i hn
      have : dget n r ≠ none := by
        unfold dget at h
        rwa [if_neg hn] at h
      exact Nat.succ_le_succ (ddel_less this)
theorem dins_len (x : ByteArray × Nat) : ∀ l : Dir, (dins x l).length = l.length + 1
  | [] => rfl
  | y :: r => by
    unfold dins
    split
    · rfl
    · simp only [List.length_cons, dins_len x r]
theorem dput_len (n : ByteArray) (i : Nat) (l : Dir) : (dput n i l).length = (ddel n l).length + 1 := dins_len _ _
/-- The numbers of the files told by others. -/
def dmap (f : Nat → Nat) (l : Dir) : Dir := l.map fun x => (x.1, f x.2)
theorem dmap_len (f : Nat → Nat) (l : Dir) : (dmap f l).length = l.length := List.length_map _
theorem dmap_get (f : Nat → Nat) (n : ByteArray) : ∀ l : Dir, dget n (dmap f l) = (dget n l).map f
  | [] => rfl
  | y :: r => by
    show (if y.1 = n then some (f y.2) else dget n (dmap f r)) = (if y.1 = n then some y.2 else dget n r).map f
    split
    · rfl
    · exact dmap_get f n r
theorem dmap_del (f : Nat → Nat) (n : ByteArray) : ∀ l : Dir, ddel n (dmap f l) = dmap f (ddel n l)
  | [] => rfl
  | y :: r => by
    show (if y.1 = n then ddel n (dmap f r) else (y.1, f y.2) :: ddel n (dmap f r)) = dmap f (if y.1 = n then ddel n r else y :: ddel n r)
    split
    · exact dmap_del f n r
    · show _ = (y.1, f y.2) :: dmap f (ddel n r)
      rw [dmap_del f n r]
theorem dmap_ins (f : Nat → Nat) (n : ByteArray) (i : Nat) : ∀ l : Dir, dins (n, f i) (dmap f l) = dmap f (dins (n, i) l)
  | [] => rfl
  | y :: r => by
    show (if bl n y.1 then (n, f i) :: (y.1, f y.2) :: dmap f r else (y.1, f y.2) :: dins (n, f i) (dmap f r)) = dmap f (if bl n y.1 then (n, i) :: y :: r else y :: dins (n, i) r)
    split
    · rfl
    · rw [dmap_ins f n i r]; rfl
theorem dmap_put (f : Nat → Nat) (n : ByteArray) (i : Nat) (l : Dir) : dput n (f i) (dmap f l) = dmap f (dput n i l) := by
  unfold dput
  rw [dmap_del, dmap_ins]
theorem dmap_ok {f : Nat → Nat} {l : Dir} (h : DirOk l) : DirOk (dmap f l) := List.pairwise_map.2 h
theorem dmap_congr {f g : Nat → Nat} {l : Dir} (h : ∀ x ∈ l, f x.2 = g x.2) : dmap f l = dmap g l := List.map_congr_left fun x hx => by rw [h x hx]
/-- A change that waits: nothing is named from any more, the file is named to. -/
structure Chg where
  fr : ByteArray
  goes : ByteArray
  file : Option Nat
def Chg.run (l : Dir) (c : Chg) : Dir := match c.file with
  | none => ddel c.fr l
  | some i => dput c.goes i (ddel c.fr l)
theorem Chg.run_ok {l : Dir} (h : DirOk l) (c : Chg) : DirOk (Chg.run l c) := by
  unfold Chg.run
  split
  · exact ddel_ok h
  · exact dput_ok (ddel_ok h)
theorem foldl_ok : ∀ (cs : List Chg) {l : Dir}, DirOk l → DirOk (cs.foldl Chg.run l)
  | [], _, h => h
  | c :: cs, _, h => foldl_ok cs (Chg.run_ok h c)
theorem Chg.run_mem {l : Dir} {c : Chg} {x : ByteArray × Nat} (h : x ∈ Chg.run l c) : x ∈ l ∨ c.file = some x.2 := by
  unfold Chg.run at h
  split at h
  · exact .inl (ddel_mem.1 h).1
  · rename_i i hi
    rcases dins_mem.1 h with rfl | h
    · exact .inr hi
    · exact .inl (ddel_mem.1 (ddel_mem.1 h).1).1
theorem foldl_mem : ∀ (cs : List Chg) {l : Dir} {x : ByteArray × Nat}, x ∈ cs.foldl Chg.run l → x ∈ l ∨ ∃ c ∈ cs, c.file = some x.2
  | [], _, _, h => .inl h
  | c :: cs, l, x, h => by
    rcases foldl_mem cs h with h | ⟨d, hd, e⟩
    · rcases Chg.run_mem h with h | h
      · exact .inl h
      · exact .inr ⟨c, List.mem_cons_self .., h⟩
    · exact .inr ⟨d, List.mem_cons_of_mem _ hd, e⟩
def Chg.at (f : Nat → Nat) (c : Chg) : Chg := ⟨c.fr, c.goes, c.file.map f⟩
theorem Chg.run_map (f : Nat → Nat) (l : Dir) (c : Chg) : Chg.run (dmap f l) (c.at f) = dmap f (Chg.run l c) := by
  obtain ⟨a, b, i⟩ := c
  cases i with
  | none => exact dmap_del f a l
  | some i => show dput b (f i) (ddel a (dmap f l)) = dmap f (dput b i (ddel a l)); rw [dmap_del, dmap_put]
/-- A file: its bytes, of which the first so many are synced. -/
structure Fil where
  bytes : List UInt8
  synced : Nat
/-- The files; the directory, as it was synced, what waits; the room; how many calls; the call that is to fail. -/
structure Fs where
  files : List Fil
  now : Dir
  old : Dir
  wait : List Chg
  room : Nat
  calls : Int
  fails : Option Nat
def fsNew (room : Nat) : Fs := ⟨[], [], [], [], room, 0, none⟩
def Fs.file (f : Fs) (i : Nat) : Fil := f.files.getD i ⟨[], 0⟩
/-- All files' bytes. -/
def Fs.used (f : Fs) : Nat := (f.now.map fun x => (f.file x.2).bytes.length).sum
structure FsOk (f : Fs) : Prop where
  now : DirOk f.now
  old : DirOk f.old
  same : f.now = f.wait.foldl Chg.run f.old
  few : ∀ k, ((f.wait.take k).foldl Chg.run f.old).length ≤ 200
  inNow : ∀ x ∈ f.now, x.2 < f.files.length
  inOld : ∀ x ∈ f.old, x.2 < f.files.length
  inWait : ∀ c ∈ f.wait, ∀ i, c.file = some i → i < f.files.length
  sizes : ∀ c ∈ f.wait, c.fr.size ≤ 140737488355328 ∧ c.goes.size ≤ 140737488355328
  synced : ∀ p ∈ f.files, p.synced ≤ p.bytes.length ∧ p.bytes.length ≤ 16777216
  room : f.room ≤ 16777216
  calls : -9223372036854775808 ≤ f.calls ∧ f.calls < 9223372036854775808
  fails : ∀ n, f.fails = some n → n < 9223372036854775808
theorem FsOk.few_now {f : Fs} (h : FsOk f) : f.now.length ≤ 200 := by
  have := h.few f.wait.length
  rwa [List.take_length, ← h.same] at this
theorem sum_bd {α : Type} (g : α → Nat) (b : Nat) : ∀ l : List α, (∀ x ∈ l, g x ≤ b) → (l.map g).sum ≤ l.length * b
  | [], _ => by simp
  | x :: r, h => by
    rw [List.map_cons, List.sum_cons, List.length_cons, Nat.add_mul, Nat.one_mul]
    have := sum_bd g b r fun y hy => h y (List.mem_cons_of_mem _ hy)
    have := h x (List.mem_cons_self ..)
    omega
theorem FsOk.file_bd {f : Fs} (h : FsOk f) (i : Nat) : (f.file i).synced ≤ (f.file i).bytes.length ∧ (f.file i).bytes.length ≤ 16777216 := by
  unfold Fs.file
  rw [List.getD_eq_getElem?_getD]
  cases hi : f.files[i]? with
  | none => simp
  | some p => exact h.synced p (List.mem_of_getElem? hi)
theorem FsOk.used_bd {f : Fs} (h : FsOk f) : f.used ≤ 3355443200 := by
  have h1 := sum_bd (fun x : ByteArray × Nat => (f.file x.2).bytes.length) 16777216 f.now fun x _ => (h.file_bd x.2).2
  have h2 := h.few_now
  unfold Fs.used
  omega
/-! ### the calls -/
def nmB (c : UInt8) : Bool := (97 ≤ c.toNat && c.toNat ≤ 122) || (65 ≤ c.toNat && c.toNat ≤ 90) || (48 ≤ c.toNat && c.toNat ≤ 57) || c.toNat == 46
def nameOk (n : ByteArray) : Bool := decide (1 ≤ n.size) && decide (n.size ≤ 20) && n.data.toList.all nmB
def inc64 (c : Int) : Int := wrap64 (c + 1)
/-- A changing call was counted. -/
def Fs.begun (f : Fs) : Fs := { f with calls := inc64 f.calls, fails := match f.fails with | none => none | some 0 => none | some (n + 1) => some n }
theorem begun_none {f : Fs} (h : f.fails = none) : f.begun.fails = none := by unfold Fs.begun; rw [h]
theorem begun_zero {f : Fs} (h : f.fails = some 0) : f.begun.fails = none := by unfold Fs.begun; rw [h]
theorem begun_succ {f : Fs} {n : Nat} (h : f.fails = some (n + 1)) : f.begun.fails = some n := by unfold Fs.begun; rw [h]
/-- Just this call fails. -/
def Fs.dies (f : Fs) : Bool := f.fails == some 0
/-- A change of the directory. -/
def Fs.change (f : Fs) (c : Chg) : Fs := { f with now := Chg.run f.now c, wait := f.wait ++ [c] }
def Fs.create (f : Fs) (n : ByteArray) : Int × Fs :=
  if f.dies then (7, f.begun) else if nameOk n = false then (12, f.begun) else if dget n f.now = none ∧ 200 ≤ f.now.length then (6, f.begun) else
    (0, Fs.change { f.begun with files := f.files ++ [⟨[], 0⟩] } ⟨⟨#[]⟩, n, some f.files.length⟩)
def Fs.append (f : Fs) (n : ByteArray) (b : List UInt8) : Int × Fs :=
  if f.dies then (7, f.begun) else match dget n f.now with
  | none => (3, f.begun)
  | some i => if f.room < f.used + b.length then (6, f.begun) else (0, { f.begun with files := f.files.set i ⟨(f.file i).bytes ++ b, (f.file i).synced⟩ })
def Fs.sync (f : Fs) (n : ByteArray) : Int × Fs :=
  if f.dies then (7, f.begun) else match dget n f.now with
  | none => (3, f.begun)
  | some i => (0, { f.begun with files := f.files.set i ⟨(f.file i).bytes, (f.file i).bytes.length⟩ })
def Fs.syncDir (f : Fs) : Int × Fs :=
  if f.dies then (7, f.begun) else (0, { f.begun with old := f.now, wait := [] })
def Fs.rename (f : Fs) (a b : ByteArray) : Int × Fs :=
  if f.dies then (7, f.begun) else match dget a f.now with
  | none => (3, f.begun)
  | some i => if nameOk b = false then (12, f.begun) else (0, f.begun.change ⟨a, b, some i⟩)
def clampN (n : Int) (most : Nat) : Nat := min n.toNat most
def Fs.fail (f : Fs) (n : Int) : Fs := { f with fails := if 0 ≤ n then some n.toNat else none }
def Fs.setRoom (f : Fs) (n : Int) : Fs := { f with room := clampN n 16777216 }
/-- what is left of a file -/
def Fil.crash (p : Fil) (t : Int) : Fil := ⟨p.bytes.take (p.synced + clampN t (p.bytes.length - p.synced)), p.synced + clampN t (p.bytes.length - p.synced)⟩
/-- the names with the numbers k, k + 1, .. -/
def numb : Nat → Dir → Dir
  | _, [] => []
  | k, x :: r => (x.1, k) :: numb (k + 1) r
/-- the directory that a crash leaves -/
def Fs.left (f : Fs) (n : Int) : Dir := (f.wait.take n.toNat).foldl Chg.run f.old
/-- the i-th of the tails; none there: 0 -/
def Fs.crashFiles (f : Fs) (n : Int) (tails : List Int) : List Fil := (f.left n).mapIdx fun i x => (f.file x.2).crash (tails.getD i 0)
def Fs.crash (f : Fs) (n : Int) (tails : List Int) : Fs := ⟨f.crashFiles n tails, numb 0 (f.left n), numb 0 (f.left n), [], f.room, 0, none⟩
theorem numb_name : ∀ (r : Dir) (k : Nat) (y : ByteArray × Nat), y ∈ numb k r → ∃ z ∈ r, z.1 = y.1
  | [], _, _, h => by simp [numb] at h
  | z :: r, k, y, h => by
    rcases List.mem_cons.1 h with rfl | h
    · exact ⟨z, List.mem_cons_self .., rfl⟩
    · obtain ⟨u, hu, e⟩ := numb_name r _ _ h
      exact ⟨u, List.mem_cons_of_mem _ hu, e⟩
theorem numb_ok : ∀ (l : Dir) (k : Nat), DirOk l → DirOk (numb k l)
  | [], _, _ => List.Pairwise.nil
  | x :: r, k, h => by
    obtain ⟨h1, h2⟩ := List.pairwise_cons.1 h
    refine List.pairwise_cons.2 ⟨fun y hy => ?_, numb_ok r (k + 1) h2⟩
    obtain ⟨z, hz, e⟩ := numb_name r _ _ hy
    show bl x.1 y.1
    rw [← e]
    exact h1 z hz
theorem numb_len : ∀ (l : Dir) (k : Nat), (numb k l).length = l.length
  | [], _ => rfl
  | x :: r, k => by rw [numb, List.length_cons, numb_len r, List.length_cons]
theorem numb_bd : ∀ (l : Dir) (k : Nat) (x : ByteArray × Nat), x ∈ numb k l → x.2 < k + l.length
  | [], _, _, h => by simp [numb] at h
  | z :: r, k, x, h => by
    rcases List.mem_cons.1 h with rfl | h
    · simp
    · have := numb_bd r _ _ h
      rw [List.length_cons]; omega
theorem clamp_le (n : Int) (m : Nat) : clampN n m ≤ m := Nat.min_le_right _ _
theorem Fil.crash_ok {p : Fil} (h : p.synced ≤ p.bytes.length) (t : Int) : (p.crash t).synced = (p.crash t).bytes.length ∧ (p.crash t).bytes.length ≤ p.bytes.length := by
  unfold Fil.crash
  have := clamp_le t (p.bytes.length - p.synced)
  simp only [List.length_take]
  omega
/-! ### what stays true -/
theorem inc64_bd (c : Int) : -9223372036854775808 ≤ inc64 c ∧ inc64 c < 9223372036854775808 := by
  unfold inc64 wrap64
  omega
theorem FsOk.begun {f : Fs} (h : FsOk f) : FsOk f.begun := by
  refine { h with calls := inc64_bd _, fails := ?_ }
  intro n hn
  unfold Fs.begun at hn
  dsimp only at hn
  cases hf : f.fails with
  | none => rw [hf] at hn; cases hn
  | some k =>
    have := h.fails k hf
    rw [hf] at hn
    cases k with
    | zero => cases hn
    | succ k => obtain rfl := Option.some.inj hn; omega
theorem FsOk.change {f : Fs} (h : FsOk f) {c : Chg} (hi : ∀ i, c.file = some i → i < f.files.length) (hs : c.fr.size ≤ 140737488355328 ∧ c.goes.size ≤ 140737488355328) (hl : (Chg.run f.now c).length ≤ 200) : FsOk (f.change c) := by
  have hsame : Chg.run f.now c = (f.wait ++ [c]).foldl Chg.run f.old := by rw [List.foldl_append, List.foldl_cons, List.foldl_nil, ← h.same]
  refine { h with now := Chg.run_ok h.now c, same := hsame, few := fun k => ?_, inNow := fun x hx => ?_, inWait := fun d hd => ?_, sizes := fun d hd => ?_ }
  · show (((f.wait ++ [c]).take k).foldl Chg.run f.old).length ≤ 200
    rcases Nat.lt_or_ge f.wait.length k with hk | hk
    · rw [List.take_of_length_le (by rw [List.length_append, List.length_singleton]; omega), ← hsame]; exact hl
    · rw [List.take_append_of_le_length hk]; exact h.few k
  · rcases Chg.run_mem hx with hx | hx
    · exact h.inNow x hx
    · exact hi _ hx
  · rcases List.mem_append.1 hd with hd | hd
    · exact h.inWait d hd
    · rw [List.mem_singleton.1 hd]; exact hi
  · rcases List.mem_append.1 hd with hd | hd
    · exact h.sizes d hd
    · rw [List.mem_singleton.1 hd]; exact hs
theorem FsOk.more {f : Fs} (h : FsOk f) (p : Fil) (hp : p.synced ≤ p.bytes.length ∧ p.bytes.length ≤ 16777216) : FsOk { f with files := f.files ++ [p] } := by
  refine { h with inNow := fun x hx => ?_, inOld := fun x hx => ?_, inWait := fun c hc i hi => ?_, synced := fun q hq => ?_ }
  · have := h.inNow x hx; simp only [List.length_append, List.length_singleton]; omega
  · have := h.inOld x hx; simp only [List.length_append, List.length_singleton]; omega
  · have := h.inWait c hc i hi; simp only [List.length_append, List.length_singleton]; omega
  · rcases List.mem_append.1 hq with hq | hq
    · exact h.synced q hq
    · rw [List.mem_singleton.1 hq]; exact hp
theorem FsOk.setFile {f : Fs} (h : FsOk f) (i : Nat) (p : Fil) (hp : p.synced ≤ p.bytes.length ∧ p.bytes.length ≤ 16777216) : FsOk { f with files := f.files.set i p } := by
  refine { h with inNow := fun x hx => ?_, inOld := fun x hx => ?_, inWait := fun c hc j hj => ?_, synced := fun q hq => ?_ }
  · have := h.inNow x hx; simpa only [List.length_set] using this
  · have := h.inOld x hx; simpa only [List.length_set] using this
  · have := h.inWait c hc j hj; simpa only [List.length_set] using this
  · rcases List.mem_or_eq_of_mem_set hq with hq | rfl
    · exact h.synced q hq
    · exact hp
theorem FsOk.left {f : Fs} (h : FsOk f) (n : Int) : DirOk (f.left n) ∧ (f.left n).length ≤ 200 ∧ ∀ x ∈ f.left n, x.2 < f.files.length := by
  refine ⟨foldl_ok _ h.old, h.few _, fun x hx => ?_⟩
  rcases foldl_mem _ hx with hx | ⟨c, hc, e⟩
  · exact h.inOld x hx
  · exact h.inWait c (List.mem_of_mem_take hc) _ e
theorem FsOk.crash {f : Fs} (h : FsOk f) (n : Int) (tails : List Int) : FsOk (f.crash n tails) := by
  obtain ⟨h1, h2, h3⟩ := h.left n
  have hl : (f.crashFiles n tails).length = (f.left n).length := List.length_mapIdx
  refine ⟨numb_ok _ _ h1, numb_ok _ _ h1, rfl, fun k => ?_, fun x hx => ?_, fun x hx => ?_, fun c hc => ?_, fun c hc => ?_, fun p hp => ?_, h.room, (show -9223372036854775808 ≤ (0 : Int) ∧ (0 : Int) < 9223372036854775808 by decide), fun n hn => by cases hn⟩
  · show (List.foldl Chg.run (numb 0 (f.left n)) (List.take k [])).length ≤ 200
    rw [List.take_nil, List.foldl_nil, numb_len]; exact h2
  · have := numb_bd _ _ _ hx; show x.2 < (f.crashFiles n tails).length; rw [hl]; omega
  · have := numb_bd _ _ _ hx; show x.2 < (f.crashFiles n tails).length; rw [hl]; omega
  · exact absurd hc (List.not_mem_nil)
  · exact absurd hc (List.not_mem_nil)
  · obtain ⟨i, hi, e⟩ := List.mem_mapIdx.1 hp
    subst e
    have h4 := h.file_bd (f.left n)[i].2
    have h5 := Fil.crash_ok h4.1 (tails.getD i 0)
    omega
end Go.Proofs.YtmmkgopnccfiiaaGreatDoor
/- A directory as a map in memory: names to files' blocks. Look-up, delete, store, count, in plain words. -/
namespace Go.Proofs.YtmmkgopnccfiiaaGreatDoor
set_option linter.unusedVariables false
open Go.RowKit Go.Maps Go.WideMaps
def litS (n : ByteArray) : Lit := .string n.data.toList
theorem litS_same (a b : ByteArray) : (litS a).sameKey (litS b) = decide (a = b) := by
  unfold litS Lit.sameKey
  rw [Bool.eq_iff_iff, beq_iff_eq, decide_eq_true_eq]
  exact ⟨fun h => ByteArray.ext (Array.toList_inj.1 h), fun h => by rw [h]⟩
theorem before_lt : ∀ (a b : List UInt8), bytesBefore a b = decide (a < b)
  | [], [] => rfl
  | [], _ :: _ => by simp [bytesBefore]
  | _ :: _, [] => by simp [bytesBefore]
  | a :: r, b :: s => by
    unfold bytesBefore
    rw [before_lt r s, Bool.eq_iff_iff]
    simp only [Bool.or_eq_true, decide_eq_true_eq, Bool.and_eq_true, beq_iff_eq, List.cons_lt_cons_iff]
theorem litS_before (a b : ByteArray) : (litS a).before (litS b) = decide (bl a b) := before_lt _ _
/-- The entry of a file's block. -/
def rawE (x : ByteArray × Nat) : Lit × DataW Unit := (litS x.1, .lit (.int .i64 (x.2 : Int)))
def rawD (l : Dir) : DataW Unit := .map (l.map rawE)
theorem ddel_cons (n : ByteArray) (y : ByteArray × Nat) (r : Dir) : ddel n (y :: r) = if y.1 = n then ddel n r else y :: ddel n r := rfl
theorem dget_cons (n : ByteArray) (y : ByteArray × Nat) (r : Dir) : dget n (y :: r) = if y.1 = n then some y.2 else dget n r := rfl
theorem dins_cons (x y : ByteArray × Nat) (r : Dir) : dins x (y :: r) = if bl x.1 y.1 then x :: y :: r else y :: dins x r := rfl
theorem raw_filter (n : ByteArray) : ∀ l : Dir, (l.map rawE).filter (fun p => !p.1.sameKey (litS n)) = (ddel n l).map rawE
  | [] => rfl
  | y :: r => by
    rw [List.map_cons, List.filter_cons]
    have : (rawE y).1.sameKey (litS n) = decide (y.1 = n) := litS_same _ _
    rw [this, raw_filter n r, ddel_cons]
    by_cases h : y.1 = n
    · rw [if_pos h, decide_eq_true h]; rfl
    · rw [if_neg h, decide_eq_false h]; rfl
theorem raw_del (n : ByteArray) (l : Dir) : (rawD l).del (litS n) = rawD (ddel n l) := congrArg DataW.map (raw_filter n l)
theorem raw_ins (x : ByteArray × Nat) : ∀ l : Dir, DataW.insert (rawE x) (l.map rawE) = (dins x l).map rawE
  | [] => rfl
  | y :: r => by
    rw [List.map_cons, dins_cons]
    unfold DataW.insert
    have : (rawE x).1.before (rawE y).1 = decide (bl x.1 y.1) := litS_before _ _
    rw [this]
    by_cases h : bl x.1 y.1
    · rw [if_pos h, decide_eq_true h]; rfl
    · rw [if_neg h, decide_eq_false h, raw_ins x r]; rfl
theorem raw_put (n : ByteArray) (i : Nat) (l : Dir) : (rawD l).put (litS n) (.lit (.int .i64 (i : Int))) = rawD (dput n i l) := by
  show DataW.map (DataW.insert (rawE (n, i)) ((l.map rawE).filter fun p => !p.1.sameKey (litS n))) = _
  rw [raw_filter, raw_ins]; rfl
theorem raw_find (n : ByteArray) : ∀ l : Dir, ((l.map rawE).find? fun p => p.1.sameKey (litS n)) = (dget n l).map fun i => (litS n, .lit (.int .i64 (i : Int)))
  | [] => rfl
  | y :: r => by
    have : (rawE y).1.sameKey (litS n) = decide (y.1 = n) := litS_same _ _
    rw [List.map_cons, List.find?_cons, this, dget_cons, raw_find n r]
    by_cases h : y.1 = n
    · rw [if_pos h, decide_eq_true h, ← h]; rfl
    · rw [if_neg h, decide_eq_false h]
theorem raw_at (n : ByteArray) (z : DataW Unit) (l : Dir) : (rawD l).atKey (litS n) z = match dget n l with | none => z | some i => .lit (.int .i64 (i : Int)) := by
  unfold rawD DataW.atKey
  simp only [raw_find n l]
  cases dget n l <;> rfl
theorem raw_size (l : Dir) : Maps.size (rawD l) = l.length := List.length_map _
theorem raw_keys (l : Dir) : strKeys (rawD l) = l.map fun x => x.1.data.toList := by
  show (l.map rawE).map (fun p => strOf p.1) = _
  rw [List.map_map]; rfl
/-- How a pointer to a file reads. -/
def ptrR : Value → Option (DataW Unit × List MemPlace)
  | .pointer none => some (.nil, [])
  | .pointer (some ⟨k, 0, none⟩) => some (.lit (.int .i64 (k : Int)), [])
  | _ => none
theorem ptrR_some (k : Nat) : ptrR (ptrO (some k)) = some (.lit (.int .i64 (k : Int)), []) := rfl
theorem ptrR_inv {v : Value} {y : DataW Unit × List MemPlace} (h : ptrR v = some y) : ∃ o : Option Nat, v = ptrO o ∧ y = (match o with | none => .nil | some k => .lit (.int .i64 (k : Int)), []) := by
  unfold ptrR at h
  split at h
  · exact ⟨none, rfl, (Option.some.inj h).symm⟩
  · exact ⟨some _, rfl, (Option.some.inj h).symm⟩
  · cases h
theorem keyedN : Keyed Tryz.prog 9 := string_keyed Tryz.underlying9
theorem key_str {n : ByteArray} (h : n.size ≤ maxLen) : keyOf Tryz.prog 9 (.string n) = some (litS n) := keyOf_string_mk Tryz.underlying9 h
/-- Block k is a map that reads as l. -/
def MapAt (w : World) (k : Nat) (l : Dir) : Prop := w.ownsMap Tryz.prog 9 ptrR k l.length (rawD l)
theorem own_norm {w : World} {k n : Nat} {l : Dir} (h : w.ownsMap Tryz.prog 9 ptrR k n (rawD l)) : MapAt w k l := by
  obtain ⟨es, clock, hb, F, hs, hD⟩ := h
  refine ⟨es, clock, hb, F, ?_, hD⟩
  have h1 : Maps.size (rawD l) = es.size := by rw [hD]; exact length_read es
  rw [raw_size] at h1
  omega
theorem MapAt.lt {w : World} {k : Nat} {l : Dir} (h : MapAt w k l) : k < w.heap.size := World.ownsMap.lt h
theorem MapAt.same {w w' : World} {k : Nat} {l : Dir} (h : MapAt w k l) (hk : w'.heap[k]? = w.heap[k]?) : MapAt w' k l := by
  obtain ⟨es, clock, hb, F, hs, hD⟩ := h
  exact ⟨es, clock, hk.trans hb, F, hs, hD⟩
/-- A map, or nil. -/
def MB (w : World) (mb : Option Nat) (l : Dir) : Prop := match mb with
  | none => l = []
  | some k => MapAt w k l
theorem MB.same {w w' : World} {mb : Option Nat} {l : Dir} (h : MB w mb l) (hk : ∀ k, mb = some k → w'.heap[k]? = w.heap[k]?) : MB w' mb l := by
  cases mb with
  | none => exact h
  | some k => exact MapAt.same h (hk k rfl)
theorem MB.lt {w : World} {mb : Option Nat} {l : Dir} (h : MB w mb l) : ∀ k, mb = some k → k < w.heap.size := by
  rintro k rfl; exact MapAt.lt h
theorem MB.look {w : World} {mb : Option Nat} {l : Dir} (h : MB w mb l) (n : ByteArray) (hn : n.size ≤ maxLen) : (Instr.lookup 46 (.map mb) (.string n) false).run Tryz.prog w = .ok (ptrO (dget n l)) w := by
  cases mb with
  | none =>
    obtain rfl : l = [] := h
    exact look_nil false keyedN Tryz.underlying46 (Tryz.zeroValue59 w) (key_str hn)
  | some k =>
    obtain ⟨v, ps, hr, hv⟩ := World.ownsMap.lookup h keyedN Tryz.underlying46 (Tryz.zeroValue59 w) (zd := .nil) (zp := []) rfl (key_str hn)
    rw [raw_at] at hv
    obtain ⟨o, rfl, e⟩ := ptrR_inv hv
    rw [hr]
    refine congrArg (fun x => Result.ok x w) ?_
    cases hg : dget n l with
    | none =>
      rw [hg] at e
      cases o with
      | none => rfl
      | some j => simp at e
    | some i =>
      rw [hg] at e
      cases o with
      | none => simp at e
      | some j =>
        simp only [Prod.mk.injEq, DataW.lit.injEq, Lit.int.injEq, true_and] at e
        have : i = j := by have := e.1; omega
        rw [this]
theorem MB.len {w : World} {mb : Option Nat} {l : Dir} (h : MB w mb l) (ty : TypeId) : (Builtin.len_ #[46] ty #[.map mb]).run Tryz.prog w = .ok (.int .i64 (l.length : Int)) w := by
  cases mb with
  | none =>
    obtain rfl : l = [] := h
    exact len_nil Tryz.underlying46 ty
  | some k =>
    rw [World.ownsMap.len h Tryz.underlying46 ty, raw_size]
theorem grown_reflM (w : World) (row : Option Nat) : w.grownBy w row := ⟨rfl, rfl, rfl, Nat.le_refl _, fun _ _ _ => rfl⟩
theorem MB.drop {w : World} {mb : Option Nat} {l : Dir} (h : MB w mb l) (n : ByteArray) (hn : n.size ≤ maxLen) (ty : TypeId) :
    ∃ w', (Builtin.delete_ #[46, 9] ty #[.map mb, .string n]).run Tryz.prog w = .ok (.tuple #[]) w' ∧ MB w' mb (ddel n l) ∧ w.grownBy w' mb ∧ w'.heap.size = w.heap.size := by
  cases mb with
  | none =>
    obtain rfl : l = [] := h
    exact ⟨w, drop_nil keyedN Tryz.underlying46 (key_str hn) ty, rfl, grown_reflM _ _, rfl⟩
  | some k =>
    obtain ⟨w', h1, h2, h3⟩ := World.ownsMap.drop h keyedN Tryz.underlying46 (key_str hn) ty
    rw [raw_del] at h2
    refine ⟨w', h1, own_norm h2, h3.grown, ?_⟩
    obtain ⟨es, clock, es', clock', hb, rfl⟩ := h3
    simp [ChangeMaps.setBlock]
theorem MB.store {w : World} {k : Nat} {l : Dir} (h : MB w (some k) l) (hl : l.length < maxLen) (n : ByteArray) (hn : n.size ≤ maxLen) (i : Nat) :
    ∃ w', (Instr.mapUpdate 46 (.map (some k)) (.string n) (.pointer (some ⟨i, 0, none⟩))).run Tryz.prog w = .ok () w' ∧ MB w' (some k) (dput n i l) ∧ w.grownBy w' (some k) ∧ w'.heap.size = w.heap.size := by
  obtain ⟨w', h1, h2, h3⟩ := World.ownsMap.store h keyedN Tryz.underlying46 hl (key_str hn) (ptrR_some i)
  rw [raw_put] at h2
  refine ⟨w', h1, own_norm h2, h3.grown, ?_⟩
  obtain ⟨es, clock, es', clock', hb, rfl⟩ := h3
  simp [ChangeMaps.setBlock]
theorem MB.made (w : World) : MB (w.alloc (.map #[] 0)) (some w.heap.size) [] := World.ownsMap_made w Tryz.prog 9 ptrR
theorem MB.names {w : World} {mb : Option Nat} {l : Dir} (h : MB w mb l) : ∀ x ∈ l, x.1.size ≤ maxLen := by
  cases mb with
  | none =>
    obtain rfl : l = [] := h
    intro x hx; exact absurd hx (List.not_mem_nil)
  | some k =>
    intro x hx
    obtain ⟨es, e, hk⟩ := World.ownsMap.keysOf h
    obtain rfl : es = l.map rawE := by injection e with e; exact e.symm
    obtain ⟨v, hv⟩ := hk (rawE x) (List.mem_map_of_mem hx)
    obtain ⟨y, rfl, e, hy⟩ := keyOf_str Tryz.underlying9 hv
    have : x.1.data.toList = y := by
      have h1 : litS x.1 = .string y := e
      unfold litS at h1
      injection h1
    rw [← this, Array.length_toList] at hy
    exact hy
end Go.Proofs.YtmmkgopnccfiiaaGreatDoor
/- A file system in memory: which block holds what, what is told of it, what stays when others are written. -/
namespace Go.Proofs.YtmmkgopnccfiiaaGreatDoor
set_option linter.unusedVariables false
open Go.RowKit Go.Maps
/-- What a block is for. -/
inductive Role where
  | fs | now | old | wait
  | file (i : Nat)
  | bytes (i : Nat)
def fsV (mn ml : Option Nat) (wv : Value) (room calls : Int) (fl : Bool) (ah : Int) : Array Value := #[.map mn, .map ml, wv, .int .i64 room, .int .i64 calls, .bool fl, .int .i64 ah]
def filV (v : Value) (n : Nat) : Array Value := #[v, .int .i64 (n : Int)]
def encChg (fb : Nat → Nat) (c : Chg) : List Value := [.string c.fr, .string c.goes, ptrO (c.file.map fb)]
theorem encChg_k (fb : Nat → Nat) : EncK (encChg fb) 3 := fun _ => rfl
theorem elem_chg : ElemK Tryz.prog 47 81 3 40 (.agg #[.string ⟨#[]⟩, .string ⟨#[]⟩, .pointer none]) := ⟨Tryz.underlying47, by kernel_rfl, rfl, by decide⟩
structure Lay where
  mn : Option Nat
  ml : Option Nat
  wv : Value
  ah : Int
  fb : Nat → Nat
  fv : Nat → Value
structure FileAt (w : World) (ρ : Nat → Option Role) (i blk : Nat) (v : Value) (f : Fil) : Prop where
  cell : w.heap[blk]? = some (.cells (filV v f.synced) 63 (0, 0))
  role : ρ blk = some (.file i)
  own : OwnB 0 w v f.bytes
  brole : ∀ k, v.ownBlock = some k → ρ k = some (.bytes i)
structure FsLay (w : World) (b : Nat) (ρ : Nat → Option Role) (S : Fs) (L : Lay) : Prop where
  cell : w.heap[b]? = some (.cells (fsV L.mn L.ml L.wv S.room S.calls S.fails.isSome L.ah) 49 (0, 0))
  role : ρ b = some .fs
  ahead : ∀ n, S.fails = some n → L.ah = (n : Int)
  now : MB w L.mn (dmap L.fb S.now)
  nrole : ∀ k, L.mn = some k → ρ k = some .now
  old : MB w L.ml (dmap L.fb S.old)
  orole : ∀ k, L.ml = some k → ρ k = some .old
  wait : OwnK (encChg L.fb) 3 81 0 w L.wv S.wait
  wrole : ∀ k, L.wv.ownBlock = some k → ρ k = some .wait
  files : ∀ i f, S.files[i]? = some f → FileAt w ρ i (L.fb i) (L.fv i) f
  top : ∀ k, ρ k ≠ none → k < w.heap.size
  ok : FsOk S
/-- Block b is a file system S; ρ tells its blocks. -/
def FsAt (w : World) (b : Nat) (ρ : Nat → Option Role) (S : Fs) : Prop := ∃ L, FsLay w b ρ S L
theorem FileAt.same {w w' : World} {ρ : Nat → Option Role} {i blk : Nat} {v : Value} {f : Fil} (h : FileAt w ρ i blk v f) (hs : ∀ k, ρ k ≠ none → w'.heap[k]? = w.heap[k]?) : FileAt w' ρ i blk v f :=
  ⟨(hs blk (by rw [h.role]; simp)).trans h.cell, h.role, row_same h.own fun k hk => hs k (by rw [h.brole k hk]; simp), h.brole⟩
theorem FsLay.same {w w' : World} {b : Nat} {ρ : Nat → Option Role} {S : Fs} {L : Lay} (h : FsLay w b ρ S L) (hs : ∀ k, ρ k ≠ none → w'.heap[k]? = w.heap[k]?) (hz : w.heap.size ≤ w'.heap.size) : FsLay w' b ρ S L :=
  { cell := (hs b (by rw [h.role]; simp)).trans h.cell, role := h.role, ahead := h.ahead, now := h.now.same fun k hk => hs k (by rw [h.nrole k hk]; simp), nrole := h.nrole,
    old := h.old.same fun k hk => hs k (by rw [h.orole k hk]; simp), orole := h.orole, wait := row_same h.wait fun k hk => hs k (by rw [h.wrole k hk]; simp), wrole := h.wrole,
    files := fun i f hf => (h.files i f hf).same hs, top := fun k hk => Nat.lt_of_lt_of_le (h.top k hk) hz, ok := h.ok }
theorem FsAt.upd {F : Nat → Prop} {w w' : World} {b : Nat} {ρ : Nat → Option Role} {S : Fs} (h : FsAt w b ρ S) (u : UpdF F w w') (hd : ∀ k, F k → ρ k = none) : FsAt w' b ρ S := by
  obtain ⟨L, h⟩ := h
  exact ⟨L, h.same (fun k hk => u.block k (h.top k hk) fun f => hk (hd k f)) u.size⟩
theorem FsAt.below {w w' : World} {b : Nat} {ρ : Nat → Option Role} {S : Fs} (h : FsAt w b ρ S) (u : Below w.heap.size w w') : FsAt w' b ρ S := by
  obtain ⟨L, h⟩ := h
  exact ⟨L, h.same (fun k hk => u.block k (h.top k hk)) u.size⟩
/-- A call on a file system. -/
def FsTo (w : World) (b : Nat) (ρ : Nat → Option Role) (w' : World) (S' : Fs) : Prop := ∃ ρ', FsAt w' b ρ' S' ∧ UpdF (fun k => ρ k ≠ none) w w' ∧ (∀ k, ρ' k ≠ none → ρ k ≠ none ∨ w.heap.size ≤ k)
theorem FsAt.lt {w : World} {b : Nat} {ρ : Nat → Option Role} {S : Fs} (h : FsAt w b ρ S) : b < w.heap.size := by
  obtain ⟨L, h⟩ := h; exact h.top b (by rw [h.role]; simp)
theorem FsAt.ok {w : World} {b : Nat} {ρ : Nat → Option Role} {S : Fs} (h : FsAt w b ρ S) : FsOk S := by obtain ⟨L, h⟩ := h; exact h.ok
theorem FsAt.to {w : World} {b : Nat} {ρ : Nat → Option Role} {S : Fs} (h : FsAt w b ρ S) : FsTo w b ρ w S := ⟨ρ, h, UpdF.refl _ _, fun _ hk => .inl hk⟩
/-- Out of the file system's blocks. -/
def OutF (ρ : Nat → Option Role) (v : Value) : Prop := ∀ k, v.ownBlock = some k → ρ k = none
theorem rdB_out {w w' : World} {ρ : Nat → Option Role} {v : Value} {bs : List UInt8} (h : RdB w v bs) (u : UpdF (fun k => ρ k ≠ none) w w') (ho : OutF ρ v) : RdB w' v bs := rdV_upd h u fun k hk f => f (ho k hk)
/-! ### cells -/
/-- What a file system's cells hold. -/
structure FsCells (w : World) (b : Nat) (mn ml : Option Nat) (wv : Value) (room calls : Int) (fl : Bool) (ah : Int) : Prop where
  c0 : w.cell? ⟨b, 0, none⟩ = some (.map mn)
  c1 : w.cell? ⟨b, 1, none⟩ = some (.map ml)
  c2 : w.cell? ⟨b, 2, none⟩ = some wv
  c3 : w.cell? ⟨b, 3, none⟩ = some (.int .i64 room)
  c4 : w.cell? ⟨b, 4, none⟩ = some (.int .i64 calls)
  c5 : w.cell? ⟨b, 5, none⟩ = some (.bool fl)
  c6 : w.cell? ⟨b, 6, none⟩ = some (.int .i64 ah)
  free : ∀ i, w.frozen? ⟨b, i, none⟩ = false
theorem fs_cells {w : World} {b : Nat} {mn ml : Option Nat} {wv : Value} {room calls : Int} {fl : Bool} {ah : Int} (h : w.heap[b]? = some (.cells (fsV mn ml wv room calls fl ah) 49 (0, 0))) : FsCells w b mn ml wv room calls fl ah :=
  ⟨cells_at h 0, cells_at h 1, cells_at h 2, cells_at h 3, cells_at h 4, cells_at h 5, cells_at h 6, cells_free h⟩
theorem FsLay.cells {w : World} {b : Nat} {ρ : Nat → Option Role} {S : Fs} {L : Lay} (h : FsLay w b ρ S L) : FsCells w b L.mn L.ml L.wv S.room S.calls S.fails.isSome L.ah := fs_cells h.cell
structure FilCells (w : World) (b : Nat) (v : Value) (n : Nat) : Prop where
  c0 : w.cell? ⟨b, 0, none⟩ = some v
  c1 : w.cell? ⟨b, 1, none⟩ = some (.int .i64 (n : Int))
  free : ∀ i, w.frozen? ⟨b, i, none⟩ = false
theorem fil_cells {w : World} {b n : Nat} {v : Value} (h : w.heap[b]? = some (.cells (filV v n) 63 (0, 0))) : FilCells w b v n := ⟨cells_at h 0, cells_at h 1, cells_free h⟩
/-- Only the cells of the file system itself were written. -/
theorem FsLay.setFs {w w' : World} {b : Nat} {ρ : Nat → Option Role} {S : Fs} {L : Lay} (h : FsLay w b ρ S L) (u : UpdF (fun k => k = b) w w') {S' : Fs} {ah : Int}
    (hc : w'.heap[b]? = some (.cells (fsV L.mn L.ml L.wv S'.room S'.calls S'.fails.isSome ah) 49 (0, 0))) (e1 : S'.files = S.files) (e2 : S'.now = S.now) (e3 : S'.old = S.old) (e4 : S'.wait = S.wait)
    (ha : ∀ n, S'.fails = some n → ah = (n : Int)) (ok : FsOk S') : FsLay w' b ρ S' { L with ah := ah } := by
  have hs : ∀ k, ρ k ≠ none → k ≠ b → w'.heap[k]? = w.heap[k]? := fun k hk hn => u.block k (h.top k hk) hn
  have hne : ∀ k r, ρ k = some r → r ≠ .fs → k ≠ b := fun k r hk hr e => hr (by rw [e, h.role] at hk; exact (Option.some.inj hk).symm)
  refine { cell := hc, role := h.role, ahead := ha, now := ?_, nrole := h.nrole, old := ?_, orole := h.orole, wait := ?_, wrole := h.wrole, files := ?_, top := fun k hk => Nat.lt_of_lt_of_le (h.top k hk) u.size, ok := ok }
  · rw [e2]; exact h.now.same fun k hk => hs k (by rw [h.nrole k hk]; simp) (hne k _ (h.nrole k hk) (by simp))
  · rw [e3]; exact h.old.same fun k hk => hs k (by rw [h.orole k hk]; simp) (hne k _ (h.orole k hk) (by simp))
  · rw [e4]; exact row_same h.wait fun k hk => hs k (by rw [h.wrole k hk]; simp) (hne k _ (h.wrole k hk) (by simp))
  · intro i f hf
    rw [e1] at hf
    have h1 := h.files i f hf
    exact ⟨(hs _ (by rw [h1.role]; simp) (hne _ _ h1.role (by simp))).trans h1.cell, h1.role, row_same h1.own fun k hk => hs k (by rw [h1.brole k hk]; simp) (hne k _ (h1.brole k hk) (by simp)), h1.brole⟩
end Go.Proofs.YtmmkgopnccfiiaaGreatDoor
/- simfs' small functions: within, isNameByte, isName, find, begin. -/
namespace Go.Proofs.YtmmkgopnccfiiaaGreatDoor
set_option linter.unusedVariables false
open Go.RowKit Go.Maps
theorem clamp_eq (n : Int) (m : Nat) : min (max n 0) (m : Int) = ((clampN n m : Nat) : Int) := by unfold clampN; omega
set_option maxHeartbeats 1000000 in
theorem fsWithin_any (n : Int) (m : Nat) (w : World) : Calls Tryz.prog 42 #[.int .i64 n, .int .i64 (m : Int)] w fun e w' => e = .returned (.int .i64 (clampN n m : Nat)) ∧ w = w' := by
  go_enter Tryz.func42, Tryz.ntmps42
  go_wp2
  go_ret
  refine ⟨?_, rfl⟩
  rw [← clamp_eq]
  rfl
set_option maxHeartbeats 1000000 in
theorem nmb_any (c : UInt8) (w : World) : Calls Tryz.prog 56 #[.int .u8 (c.toNat : Int)] w fun e w' => e = .returned (.bool (nmB c)) ∧ w = w' := by
  unfold nmB
  generalize c.toNat = n
  go_enter Tryz.func56, Tryz.ntmps56
  go_wp2
  all_goals (go_ret; refine ⟨?_, rfl⟩; show Ending.returned (Value.bool _) = _; apply congrArg Ending.returned; apply congrArg Value.bool; rw [Bool.eq_iff_iff]; simp only [Bool.or_eq_true, Bool.and_eq_true, decide_eq_true_eq, beq_iff_eq, true_iff]; omega)
/-- What a call begins with answers. -/
def dieN (S : Fs) : Int := if S.dies = true then 7 else 0
def BeginAt (w : World) (b : Nat) (ρ : Nat → Option Role) (S : Fs) (e : Ending) (w' : World) : Prop := e = .returned (.int .i64 (dieN S)) ∧ FsAt w' b ρ S.begun ∧ UpdF (fun k => k = b) w w'
set_option maxHeartbeats 1000000 in
theorem begin_any (w : World) (b : Nat) (ρ : Nat → Option Role) (S : Fs) (h : FsAt w b ρ S) :
    Calls Tryz.prog 21 #[.pointer (some ⟨b, 0, none⟩)] w (BeginAt w b ρ S) := by
  obtain ⟨L, h⟩ := h
  have H := Lib.hid h
  obtain ⟨c0, c1, c2, c3, c4, c5, c6, c7⟩ := h.cells
  clear h
  have f4 := c7 4
  have f5 := c7 5
  have f6 := c7 6
  clear c0 c1 c2 c3 c7
  have u1 := (UpdF.refl (fun k => k = b) w).set b 4 (.int .i64 (wrap64 (S.calls + 1))) rfl
  have e1 := cells_set H.out.cell (o := 4) (.int .i64 (wrap64 (S.calls + 1)))
  have ok := H.out.ok.begun
  obtain ⟨n, hS⟩ : ∃ n, S.fails = n := ⟨_, rfl⟩
  have HS := Lib.hid hS
  rw [hS] at c5
  cases n with
  | none =>
    have HX : Hid (FsAt (w.setCell ⟨b, 4, none⟩ (.int .i64 (wrap64 (S.calls + 1)))) b ρ S.begun) := Lib.hid ⟨_, H.out.setFs (ah := L.ah) u1 (by rw [begun_none HS.out, e1, HS.out]; rfl) rfl rfl rfl rfl (fun m hm => by rw [begun_none HS.out] at hm; cases hm) ok⟩
    have HU := Lib.hid u1
    clear ok u1 e1 hS H
    go_enter Tryz.func21, Tryz.ntmps21
    go_wp2
    go_ret
    refine ⟨?_, HX.out, HU.out⟩
    unfold dieN Fs.dies
    rw [HS.out]; rfl
  | some n =>
    rw [H.out.ahead n hS] at c6
    cases n with
    | zero =>
      have u2 := u1.set b 5 (.bool false) rfl
      have HX : Hid (FsAt ((w.setCell ⟨b, 4, none⟩ (.int .i64 (wrap64 (S.calls + 1)))).setCell ⟨b, 5, none⟩ (.bool false)) b ρ S.begun) := Lib.hid ⟨_, H.out.setFs (ah := L.ah) u2 (by rw [begun_zero HS.out, cells_set e1, HS.out]; rfl) rfl rfl rfl rfl (fun m hm => by rw [begun_zero HS.out] at hm; cases hm) ok⟩
      have HU := Lib.hid u2
      clear ok u1 u2 e1 hS H
      go_enter Tryz.func21, Tryz.ntmps21
      go_wp2
      go_ret
      refine ⟨?_, HX.out, HU.out⟩
      unfold dieN Fs.dies
      rw [HS.out]; rfl
    | succ n =>
      have u2 := u1.set b 6 (.int .i64 (n : Int)) rfl
      have hn := H.out.ok.fails _ hS
      have HX : Hid (FsAt ((w.setCell ⟨b, 4, none⟩ (.int .i64 (wrap64 (S.calls + 1)))).setCell ⟨b, 6, none⟩ (.int .i64 (n : Int))) b ρ S.begun) := Lib.hid ⟨_, H.out.setFs (ah := (n : Int)) u2 (by rw [begun_succ HS.out, cells_set e1, HS.out]; rfl) rfl rfl rfl rfl (fun m hm => by rw [begun_succ HS.out] at hm; rw [Option.some.inj hm]) ok⟩
      have HU := Lib.hid u2
      have hz : ((n + 1 : Nat) : Int) - 1 = n := by omega
      have hp : (0 : Int) < ((n + 1 : Nat) : Int) := by omega
      have hw : wrap64 (n : Int) = n := by unfold wrap64; omega
      generalize ((n + 1 : Nat) : Int) = m at *
      clear ok u1 u2 e1 hS H
      go_enter Tryz.func21, Tryz.ntmps21
      go_wp2
      go_ret
      refine ⟨?_, HX.out, HU.out⟩
      unfold dieN Fs.dies
      rw [HS.out]; rfl
end Go.Proofs.YtmmkgopnccfiiaaGreatDoor
/- simfs.isName: a text that may be a name. -/
namespace Go.Proofs.YtmmkgopnccfiiaaGreatDoor
set_option linter.unusedVariables false
open Go.RowKit Go.Maps
set_option maxHeartbeats 1000000 in
theorem name_any (s : ByteArray) (hs : s.size ≤ maxLen) (w : World) : Calls Tryz.prog 22 #[.string s] w fun e w' => e = .returned (.bool (nameOk s)) ∧ w = w' := by
  unfold maxLen at hs
  have HN := Lib.hid (fun c w => nmb_any c w)
  by_cases h1 : s.size < 1
  · have HX : Hid (nameOk s = false) := Lib.hid (by unfold nameOk; rw [decide_eq_false (by omega)]; rfl)
    have hz : ((s.size : Int) < 1) := by omega
    go_enter Tryz.func22, Tryz.ntmps22
    go_wp2
    go_ret
    rw [HX.out]
    exact ⟨rfl, rfl⟩
  · by_cases h2 : 20 < s.size
    · have HX : Hid (nameOk s = false) := Lib.hid (by unfold nameOk; rw [decide_eq_false (show ¬ s.size ≤ 20 by omega), Bool.and_false]; rfl)
      have hz : ¬ ((s.size : Int) < 1) := by omega
      have hz2 : ((20 : Int) < (s.size : Int)) := by omega
      go_enter Tryz.func22, Tryz.ntmps22
      go_wp2
      go_ret
      rw [HX.out]
      exact ⟨rfl, rfl⟩
    · have HX : Hid (nameOk s = s.data.toList.all nmB) := Lib.hid (by unfold nameOk; rw [decide_eq_true (by omega), decide_eq_true (by omega)]; rfl)
      have hz : ¬ ((s.size : Int) < 1) := by omega
      have hz2 : ¬ ((20 : Int) < (s.size : Int)) := by omega
      have hl := size_toList s
      go_enter Tryz.func22, Tryz.ntmps22
      go_wp2
      go_loop [14] (fun i => ∃ k : Nat, k ≤ s.size ∧ i = .int .i64 k ∧ Hid ((s.data.toList.take k).all nmB = true)) (fun i => s.size - (intOf i).toNat)
      case atStart => exact ⟨0, Nat.zero_le _, rfl, Lib.hid rfl⟩
      case round =>
        obtain ⟨k, hk, rfl, hA⟩ := hrel
        by_cases hlt : k < s.size
        · have hlt' : k < s.data.toList.length := by omega
          have HT : Hid ((s.data.toList.take (k + 1)).all nmB = nmB s.data.toList[k]) := Lib.hid (by rw [List.take_succ_eq_append_getElem hlt', List.all_append, hA.out]; simp)
          have HF : Hid (nmB s.data.toList[k] = false → s.data.toList.all nmB = false) := Lib.hid fun h => by
            rw [List.all_eq_false]
            exact ⟨_, List.getElem_mem hlt', by rw [h]; simp⟩
          have HC := Lib.hid (HN.out s[k] w)
          rw [at_toList s k hlt] at HT HF
          obtain ⟨q, hq⟩ : ∃ q, nmB s[k] = q := ⟨_, rfl⟩
          rw [hq] at HT HF HC
          clear hq
          go_wp2_with fail
          refine HC.out.mono ?_
          rintro e w' ⟨rfl, rfl⟩
          cases q with
          | false =>
            go_wp2
            go_ret
            rw [HX.out, HF.out trivial]
            exact ⟨rfl, rfl⟩
          | true =>
            go_wp2
            go_round
            case rel => exact ⟨k + 1, by omega, by go_num, HT⟩
            case measure => simp [intOf]; omega
        · obtain rfl : k = s.size := by omega
          go_wp2
          go_ret
          rw [HX.out]
          have := hA.out
          rw [← hl, List.take_length] at this
          rw [this]
          exact ⟨rfl, rfl⟩
end Go.Proofs.YtmmkgopnccfiiaaGreatDoor
/- Steps of a region that draws: a builtin, a store into a map, a store, each by what it gives. -/
namespace Go.Proofs.YtmmkgopnccfiiaaGreatDoor
set_option linter.unusedVariables false
open Go.RowKit
theorem step_bi {P : Program} {ops : Array Oper} {o : Oper} {a : Act} {w : World} {K : Act → World → Prop} {Q : Exit → Act → World → Prop} {E : Prop} (hw : Region.wanted o (yielded ops a.tmps) = true)
    (m x : Operand) (t k : TypeId) (ho : o.op = Op.call { callee := Callee.builtin Builtin.delete, args := #[m, x], argTypes := #[t, k] }) {mv kv : Value} {w' : World} (hm : a.eval m = mv) (hx : a.eval x = kv)
    (hr : (Builtin.delete_ #[t, k] o.type #[mv, kv]).run P w = .ok (.tuple #[]) w') (hK : K (a.put o.dst (.tuple #[])) w') : if Region.wanted o (yielded ops a.tmps) = true then Oper.wp P o a w K Q else E := by
  rw [if_pos hw]
  unfold Oper.wp execOp
  simp only [ho, resolve, invoke, builtin, Sem.run_bind, Sem.run_pure, Result.andThen_ok, List.map_toArray, List.map_cons, List.map_nil, hm, hx, hr]
  exact hK
theorem step_upd {P : Program} {ops : Array Oper} {o : Oper} {a : Act} {w : World} {K : Act → World → Prop} {Q : Exit → Act → World → Prop} {E : Prop} (hw : Region.wanted o (yielded ops a.tmps) = true)
    (m x v : Operand) (t : TypeId) (ho : o.op = Op.mapUpdate t m x v) {mv kv vv : Value} {w' : World} (hm : a.eval m = mv) (hx : a.eval x = kv) (hv : a.eval v = vv)
    (hr : (Instr.mapUpdate t mv kv vv).run P w = .ok () w') (hK : K (a.put o.dst undef) w') : if Region.wanted o (yielded ops a.tmps) = true then Oper.wp P o a w K Q else E := by
  rw [if_pos hw]
  unfold Oper.wp
  simp [execOp, ho, hm, hx, hv, hr, Result.andThen]
  exact hK
end Go.Proofs.YtmmkgopnccfiiaaGreatDoor
/- A change is made in a directory that lies in memory. -/
namespace Go.Proofs.YtmmkgopnccfiiaaGreatDoor
set_option linter.unusedVariables false
open Go.RowKit Go.Maps
/-- On the way: the directory's place, the change's row, the map. -/
structure TakeMid (w : World) (bp : Nat) (vs : Array Value) (t q : Nat) (mb : Option Nat) (k : Nat) (c : Chg) (l : Dir) (W : World) : Prop where
  place : W.heap[bp]? = some (.cells (vs.setIfInBounds 0 (.map (some k))) t (0, 0))
  row : W.heap[q]? = some (.cells #[.string c.fr, .string c.goes, ptrO c.file] 81 (0, 0))
  map : MB W (some k) l
  upd : UpdF (fun i => i = bp ∨ mb = some i) w W
  kb : k ≠ bp
  kq : k ≠ q
  new : mb = some k ∨ w.heap.size ≤ k
  q0 : w.heap.size ≤ q
  v0 : 0 < vs.size
theorem TakeMid.drew {w : World} {bp : Nat} {vs : Array Value} {t q : Nat} {mb : Option Nat} {k : Nat} {c : Chg} {l : Dir} {W : World} (h : TakeMid w bp vs t q mb k c l W) : TakeMid w bp vs t q mb k c l W.drew :=
  ⟨h.place, h.row, h.map.same fun _ _ => rfl, h.upd.drew, h.kb, h.kq, h.new, h.q0, h.v0⟩
theorem TakeMid.next {w : World} {bp : Nat} {vs : Array Value} {t q : Nat} {mb : Option Nat} {k : Nat} {c : Chg} {l l' : Dir} {W W' : World} (h : TakeMid w bp vs t q mb k c l W) (hm : MB W' (some k) l') (hg : W.grownBy W' (some k)) : TakeMid w bp vs t q mb k c l' W' := by
  have lt : ∀ {i : Nat} {o : Obj}, W.heap[i]? = some o → i < W.heap.size := fun h => (Array.getElem?_eq_some_iff.1 h).1
  refine ⟨(hg.block bp (lt h.place) (fun e => h.kb (Option.some.inj e).symm)).trans h.place, (hg.block q (lt h.row) (fun e => h.kq (Option.some.inj e).symm)).trans h.row, hm, h.upd.then (G := fun i => i = k) (UpdF.grown hg fun i hi => (Option.some.inj hi).symm) ?_, h.kb, h.kq, h.new, h.q0, h.v0⟩
  rintro i rfl
  rcases h.new with e | e
  · exact .inl (.inr e)
  · exact .inr e
theorem size_set (w : World) (a : Addr) (v : Value) : (w.setCell a v).heap.size = w.heap.size := by simp [World.setCell]
theorem UpdF.of_alloc {F : Nat → Prop} {w w' : World} (h : UpdF F w w') (o : Obj) : UpdF F w (w'.alloc o) := h.trans (UpdF.of ((Below.refl _ _).alloc (Nat.le_refl _) o))
def TakeAt (w : World) (bp : Nat) (vs : Array Value) (t : Nat) (mb : Option Nat) (l : Dir) (e : Ending) (w' : World) : Prop :=
  ∃ k, e = .returned (.tuple #[]) ∧ w'.heap[bp]? = some (.cells (vs.setIfInBounds 0 (.map (some k))) t (0, 0)) ∧ MB w' (some k) l ∧ (mb = some k ∨ w.heap.size ≤ k) ∧ UpdF (fun i => i = bp ∨ mb = some i) w w'
theorem TakeMid.at {w : World} {bp : Nat} {vs : Array Value} {t q : Nat} {mb : Option Nat} {k : Nat} {c : Chg} {l : Dir} {W : World} (h : TakeMid w bp vs t q mb k c l W) : TakeAt w bp vs t mb l (.returned (.tuple #[])) W := ⟨k, rfl, h.place, h.map, h.new, h.upd⟩
structure TakeCells (W : World) (bp q k : Nat) (c : Chg) : Prop where
  p0 : W.cell? ⟨bp, 0, none⟩ = some (.map (some k))
  r0 : W.cell? ⟨q, 0, none⟩ = some (.string c.fr)
  r1 : W.cell? ⟨q, 1, none⟩ = some (.string c.goes)
  r2 : W.cell? ⟨q, 2, none⟩ = some (ptrO c.file)
theorem TakeMid.cells {w : World} {bp : Nat} {vs : Array Value} {t q : Nat} {mb : Option Nat} {k : Nat} {c : Chg} {l : Dir} {W : World} (h : TakeMid w bp vs t q mb k c l W) : TakeCells W bp q k c := by
  refine ⟨?_, cells_at h.row 0, cells_at h.row 1, cells_at h.row 2⟩
  rw [cells_at h.place, Array.getElem?_setIfInBounds_self_of_lt h.v0]
theorem TakeCells.drN {W W' : World} {bp q k : Nat} {c : Chg} (h : TakeCells W bp q k c) (d : DrN W W') : TakeCells W' bp q k c := by obtain ⟨n, rfl⟩ := d; exact ⟨h.p0, h.r0, h.r1, h.r2⟩

set_option maxHeartbeats 2000000 in
set_option maxRecDepth 100000 in
theorem take_del (w : World) (bp t : Nat) (vs : Array Value) (mb : Option Nat) (l : Dir) (c1 c2 : ByteArray) (h1 : w.heap[bp]? = some (.cells vs t (0, 0))) (h2 : vs[0]? = some (.map mb)) (hm : MB w mb l) (hne : ∀ k, mb = some k → k ≠ bp) (hl : l.length ≤ 1000000) (hn1 : c1.size ≤ maxLen) (hn2 : c2.size ≤ maxLen) :
    Calls Tryz.prog 43 #[.pointer (some ⟨bp, 0, none⟩), .agg #[.string c1, .string c2, ptrO none]] w (TakeAt w bp vs t mb (ddel c1 l)) := by
  have hv0 : 0 < vs.size := by
    rcases Nat.lt_or_ge 0 vs.size with h | h
    · exact h
    · rw [Array.getElem?_eq_none h] at h2; cases h2
  have hp0 : w.cell? ⟨bp, 0, none⟩ = some (.map mb) := (cells_at h1 0).trans h2
  have hbp := (Array.getElem?_eq_some_iff.1 h1).1
  cases mb with
  | some k =>
    have hkl := hm.lt k rfl
    have HT : Hid (TakeMid w bp vs t w.heap.size (some k) k ⟨c1, c2, none⟩ l (w.alloc (.cells #[.string c1, .string c2, ptrO none] 81))) := Lib.hid
      ⟨by rw [Below.heap_alloc _ _ _ hbp, h1]
          congr 2
          refine Array.ext_getElem? fun i => ?_
          rw [Array.getElem?_setIfInBounds]
          split
          · rename_i e; subst e; exact h2
          · rfl,
        heap_alloc_new .., MB.same hm fun j hj => Below.heap_alloc _ _ _ (hm.lt j hj), UpdF.of ((Below.refl _ _).alloc (Nat.le_refl _) _), hne k rfl, by omega, .inl rfl, Nat.le_refl _, hv0⟩
    have hfree : w.frozen? ⟨bp, 0, none⟩ = false := cells_free h1 0
    clear h1 h2 hm hne
    have hml : Tryz.prog.underlying 46 = _ := Tryz.underlying46
    have hq := fun w => run_eql_map_nil_sl (P := Tryz.prog) w 46 _ _ (some k) hml
    go_enter Tryz.func43, Tryz.ntmps43
    unfold ptrO at HT ⊢
    go_wp2_with fail
    obtain ⟨W2, hW2⟩ : ∃ W2, w.alloc (.cells #[.string c1, .string c2, .pointer none] 81) = W2 := ⟨_, rfl⟩
    rw [hW2] at HT ⊢
    obtain ⟨q, hq2⟩ : ∃ q, w.heap.size = q := ⟨_, rfl⟩
    rw [hq2] at HT ⊢
    clear hW2 hq2 hp0 hkl hfree hq hml
    obtain ⟨w3, hdel, hm3, hg3, hs3⟩ := HT.out.drew.map.drop c1 hn1 0
    have HC := Lib.hid HT.out.cells
    have HT3 := Lib.hid (HT.out.drew.next hm3 hg3)
    refine beginK (DrN W2) 5 (by kernel_rfl) ⟨1, rfl⟩ (fun hHeld => ?_)
    refine takeK (i := 0) (k := 11) (v := .pointer (some ⟨bp, 0, none⟩)) rfl rfl (by kernel_rfl) (by kernel_rfl) (by kernel_rfl) [2, 1, 0] rfl (by decide) (by kernel_rfl) (fun _ _ _ h => h) (by kernel_rfl) ?_ (by assumption) ?_
    · intro W hSw; first | (go_simp; done) | go_simp
    try simp only [Act.put, List.setIfInBounds_toArray, List.set_cons_zero, List.set_cons_succ]
    refine takeK (i := 1) (k := 12) (v := .pointer (some ⟨bp, 0, none⟩)) rfl rfl (by kernel_rfl) (by kernel_rfl) (by kernel_rfl) [2, 1] rfl (by decide) (by kernel_rfl) (fun _ _ _ h => h) (by kernel_rfl) ?_ (by assumption) ?_
    · intro W hSw; first | (go_simp; done) | go_simp
    try simp only [Act.put, List.setIfInBounds_toArray, List.set_cons_zero, List.set_cons_succ]
    refine takeK (i := 2) (k := 13) (v := .map (some k)) rfl rfl (by kernel_rfl) (by kernel_rfl) (by kernel_rfl) [2] rfl (by decide) (by kernel_rfl) (fun _ _ _ h => h) (by kernel_rfl) ?_ (by assumption) ?_
    · intro W hSw; obtain ⟨p0, r0, r1, r2⟩ := HC.out.drN hSw; first | (go_simp; done) | go_simp
    try simp only [Act.put, List.setIfInBounds_toArray, List.set_cons_zero, List.set_cons_succ]
    refine takeK (i := 3) (k := 14) (v := .pointer (some ⟨q, 0, none⟩)) rfl rfl (by kernel_rfl) (by kernel_rfl) (by kernel_rfl) [4, 3] rfl (by decide) (by kernel_rfl) (fun _ _ _ h => h) (by kernel_rfl) ?_ (by assumption) ?_
    · intro W hSw; first | (go_simp; done) | go_simp
    try simp only [Act.put, List.setIfInBounds_toArray, List.set_cons_zero, List.set_cons_succ]
    refine takeK (i := 4) (k := 15) (v := .string c1) rfl rfl (by kernel_rfl) (by kernel_rfl) (by kernel_rfl) [4] rfl (by decide) (by kernel_rfl) (fun _ _ _ h => h) (by kernel_rfl) ?_ (by assumption) ?_
    · intro W hSw; obtain ⟨p0, r0, r1, r2⟩ := HC.out.drN hSw; first | (go_simp; done) | go_simp
    try simp only [Act.put, List.setIfInBounds_toArray, List.set_cons_zero, List.set_cons_succ]
    refine oneK (i := 5) (by kernel_rfl) rfl (fun K hK => ?_)
    refine step_bi (by kernel_rfl) (.tmp 13) (.tmp 15) 46 9 rfl rfl rfl hdel ?_
    refine hK.out _ _ (fun h => by have h' : true = false := h; cases h') (fun _ => ?_)
    clear hK K
    try simp only [Act.put, List.setIfInBounds_toArray]
    refine doneK (by kernel_rfl) ?_ _
    clear hdel hm3 hg3 hs3 hHeld HC HT
    obtain ⟨p0, r0, r1, r2⟩ := HT3.out.cells
    change _ = some (Value.pointer none) at r2
    go_wp2
    go_end0
    exact HT3.out.at
  | none =>
    obtain ⟨w1, hw1⟩ : ∃ w1, w.alloc (.cells #[.string c1, .string c2, ptrO none] 81) = w1 := ⟨_, rfl⟩
    have hs1 : w1.heap.size = w.heap.size + 1 := by rw [← hw1]; simp
    have hr1 : w1.heap[w.heap.size]? = some (.cells #[.string c1, .string c2, ptrO none] 81 (0, 0)) := by rw [← hw1]; exact heap_alloc_new ..
    have hb1 : Below w.heap.size w w1 := by rw [← hw1]; exact (Below.refl _ _).alloc (Nat.le_refl _) _
    have hm2 := MB.made (w1.setCell ⟨bp, 0, none⟩ (.map (some (w.heap.size + 1))))
    rw [size_set, hs1] at hm2
    have hl0 : l = [] := hm
    have HT : Hid (TakeMid w bp vs t w.heap.size none (w.heap.size + 1) ⟨c1, c2, none⟩ l ((w1.setCell ⟨bp, 0, none⟩ (.map (some (w.heap.size + 1)))).alloc (.map #[] 0))) := Lib.hid
      ⟨by rw [Below.heap_alloc _ _ _ (by rw [size_set]; omega)]; exact cells_set (by rw [hb1.block bp hbp]; exact h1) _,
        by rw [Below.heap_alloc _ _ _ (by rw [size_set]; omega), Below.heap_setCell _ _ _ _ (by simp; omega)]; exact hr1,
        by rw [hl0]; exact hm2,
        UpdF.of_alloc (UpdF.set (UpdF.of hb1) _ _ _ (.inl rfl)) _, by omega, by omega, .inr (by omega), Nat.le_refl _, hv0⟩
    have hfree : w1.frozen? ⟨bp, 0, none⟩ = false := by rw [hb1.frozen hbp]; exact cells_free h1 0
    have hp1 : w1.cell? ⟨bp, 0, none⟩ = some (.map none) := by rw [hb1.cell hbp]; exact hp0
    clear h1 h2 hm hne hr1 hb1 hm2 hl0 hp0
    have hml : Tryz.prog.underlying 46 = _ := Tryz.underlying46
    have hq := fun w => run_eql_map_nil_sl (P := Tryz.prog) w 46 _ _ none hml
    have hmk : (Instr.makeMap 46 none).run Tryz.prog w1 = .ok (.map (some (w.heap.size + 1))) (w1.alloc (.map #[] 0)) := by rw [run_makeMap, hs1]
    unfold ptrO at hw1 ⊢
    go_enter Tryz.func43, Tryz.ntmps43
    go_wp2_with fail
    obtain ⟨W2, hW2⟩ : ∃ W2, (w1.setCell ⟨bp, 0, none⟩ (.map (some (w.heap.size + 1)))).alloc (.map #[] 0) = W2 := ⟨_, rfl⟩
    rw [hW2] at HT ⊢
    obtain ⟨k, hk⟩ : ∃ k, w.heap.size + 1 = k := ⟨_, rfl⟩
    rw [hk] at HT
    obtain ⟨q, hq2⟩ : ∃ q, w.heap.size = q := ⟨_, rfl⟩
    rw [hq2] at HT ⊢
    clear hW2 hq2 hfree hq hml hp1 hs1 hw1 hk hmk
    obtain ⟨w3, hdel, hm3, hg3, hs3⟩ := HT.out.drew.map.drop c1 hn1 0
    have HC := Lib.hid HT.out.cells
    have HT3 := Lib.hid (HT.out.drew.next hm3 hg3)
    refine beginK (DrN W2) 5 (by kernel_rfl) ⟨1, rfl⟩ (fun hHeld => ?_)
    refine takeK (i := 0) (k := 11) (v := .pointer (some ⟨bp, 0, none⟩)) rfl rfl (by kernel_rfl) (by kernel_rfl) (by kernel_rfl) [2, 1, 0] rfl (by decide) (by kernel_rfl) (fun _ _ _ h => h) (by kernel_rfl) ?_ (by assumption) ?_
    · intro W hSw; first | (go_simp; done) | go_simp
    try simp only [Act.put, List.setIfInBounds_toArray, List.set_cons_zero, List.set_cons_succ]
    refine takeK (i := 1) (k := 12) (v := .pointer (some ⟨bp, 0, none⟩)) rfl rfl (by kernel_rfl) (by kernel_rfl) (by kernel_rfl) [2, 1] rfl (by decide) (by kernel_rfl) (fun _ _ _ h => h) (by kernel_rfl) ?_ (by assumption) ?_
    · intro W hSw; first | (go_simp; done) | go_simp
    try simp only [Act.put, List.setIfInBounds_toArray, List.set_cons_zero, List.set_cons_succ]
    refine takeK (i := 2) (k := 13) (v := .map (some k)) rfl rfl (by kernel_rfl) (by kernel_rfl) (by kernel_rfl) [2] rfl (by decide) (by kernel_rfl) (fun _ _ _ h => h) (by kernel_rfl) ?_ (by assumption) ?_
    · intro W hSw; obtain ⟨p0, r0, r1, r2⟩ := HC.out.drN hSw; first | (go_simp; done) | go_simp
    try simp only [Act.put, List.setIfInBounds_toArray, List.set_cons_zero, List.set_cons_succ]
    refine takeK (i := 3) (k := 14) (v := .pointer (some ⟨q, 0, none⟩)) rfl rfl (by kernel_rfl) (by kernel_rfl) (by kernel_rfl) [4, 3] rfl (by decide) (by kernel_rfl) (fun _ _ _ h => h) (by kernel_rfl) ?_ (by assumption) ?_
    · intro W hSw; first | (go_simp; done) | go_simp
    try simp only [Act.put, List.setIfInBounds_toArray, List.set_cons_zero, List.set_cons_succ]
    refine takeK (i := 4) (k := 15) (v := .string c1) rfl rfl (by kernel_rfl) (by kernel_rfl) (by kernel_rfl) [4] rfl (by decide) (by kernel_rfl) (fun _ _ _ h => h) (by kernel_rfl) ?_ (by assumption) ?_
    · intro W hSw; obtain ⟨p0, r0, r1, r2⟩ := HC.out.drN hSw; first | (go_simp; done) | go_simp
    try simp only [Act.put, List.setIfInBounds_toArray, List.set_cons_zero, List.set_cons_succ]
    refine oneK (i := 5) (by kernel_rfl) rfl (fun K hK => ?_)
    refine step_bi (by kernel_rfl) (.tmp 13) (.tmp 15) 46 9 rfl rfl rfl hdel ?_
    refine hK.out _ _ (fun h => by have h' : true = false := h; cases h') (fun _ => ?_)
    clear hK K
    try simp only [Act.put, List.setIfInBounds_toArray]
    refine doneK (by kernel_rfl) ?_ _
    clear hdel hm3 hg3 hs3 hHeld HC HT
    obtain ⟨p0, r0, r1, r2⟩ := HT3.out.cells
    change _ = some (Value.pointer none) at r2
    go_wp2
    go_end0
    exact HT3.out.at
set_option maxHeartbeats 2000000 in
set_option maxRecDepth 100000 in
theorem take_put (w : World) (bp t : Nat) (vs : Array Value) (mb : Option Nat) (l : Dir) (c1 c2 : ByteArray) (ci : Nat) (h1 : w.heap[bp]? = some (.cells vs t (0, 0))) (h2 : vs[0]? = some (.map mb)) (hm : MB w mb l) (hne : ∀ k, mb = some k → k ≠ bp) (hl : l.length ≤ 1000000) (hn1 : c1.size ≤ maxLen) (hn2 : c2.size ≤ maxLen) :
    Calls Tryz.prog 43 #[.pointer (some ⟨bp, 0, none⟩), .agg #[.string c1, .string c2, ptrO (some ci)]] w (TakeAt w bp vs t mb (dput c2 ci (ddel c1 l))) := by
  have hv0 : 0 < vs.size := by
    rcases Nat.lt_or_ge 0 vs.size with h | h
    · exact h
    · rw [Array.getElem?_eq_none h] at h2; cases h2
  have hp0 : w.cell? ⟨bp, 0, none⟩ = some (.map mb) := (cells_at h1 0).trans h2
  have hbp := (Array.getElem?_eq_some_iff.1 h1).1
  cases mb with
  | some k =>
    have hkl := hm.lt k rfl
    have HT : Hid (TakeMid w bp vs t w.heap.size (some k) k ⟨c1, c2, (some ci)⟩ l (w.alloc (.cells #[.string c1, .string c2, ptrO (some ci)] 81))) := Lib.hid
      ⟨by rw [Below.heap_alloc _ _ _ hbp, h1]
          congr 2
          refine Array.ext_getElem? fun i => ?_
          rw [Array.getElem?_setIfInBounds]
          split
          · rename_i e; subst e; exact h2
          · rfl,
        heap_alloc_new .., MB.same hm fun j hj => Below.heap_alloc _ _ _ (hm.lt j hj), UpdF.of ((Below.refl _ _).alloc (Nat.le_refl _) _), hne k rfl, by omega, .inl rfl, Nat.le_refl _, hv0⟩
    have hfree : w.frozen? ⟨bp, 0, none⟩ = false := cells_free h1 0
    clear h1 h2 hm hne
    have hml : Tryz.prog.underlying 46 = _ := Tryz.underlying46
    have hq := fun w => run_eql_map_nil_sl (P := Tryz.prog) w 46 _ _ (some k) hml
    go_enter Tryz.func43, Tryz.ntmps43
    unfold ptrO at HT ⊢
    go_wp2_with fail
    obtain ⟨W2, hW2⟩ : ∃ W2, w.alloc (.cells #[.string c1, .string c2, .pointer (some ⟨ci, 0, none⟩)] 81) = W2 := ⟨_, rfl⟩
    rw [hW2] at HT ⊢
    obtain ⟨q, hq2⟩ : ∃ q, w.heap.size = q := ⟨_, rfl⟩
    rw [hq2] at HT ⊢
    clear hW2 hq2 hp0 hkl hfree hq hml
    obtain ⟨w3, hdel, hm3, hg3, hs3⟩ := HT.out.drew.map.drop c1 hn1 0
    have HC := Lib.hid HT.out.cells
    have HT3 := Lib.hid (HT.out.drew.next hm3 hg3)
    refine beginK (DrN W2) 5 (by kernel_rfl) ⟨1, rfl⟩ (fun hHeld => ?_)
    refine takeK (i := 0) (k := 11) (v := .pointer (some ⟨bp, 0, none⟩)) rfl rfl (by kernel_rfl) (by kernel_rfl) (by kernel_rfl) [2, 1, 0] rfl (by decide) (by kernel_rfl) (fun _ _ _ h => h) (by kernel_rfl) ?_ (by assumption) ?_
    · intro W hSw; first | (go_simp; done) | go_simp
    try simp only [Act.put, List.setIfInBounds_toArray, List.set_cons_zero, List.set_cons_succ]
    refine takeK (i := 1) (k := 12) (v := .pointer (some ⟨bp, 0, none⟩)) rfl rfl (by kernel_rfl) (by kernel_rfl) (by kernel_rfl) [2, 1] rfl (by decide) (by kernel_rfl) (fun _ _ _ h => h) (by kernel_rfl) ?_ (by assumption) ?_
    · intro W hSw; first | (go_simp; done) | go_simp
    try simp only [Act.put, List.setIfInBounds_toArray, List.set_cons_zero, List.set_cons_succ]
    refine takeK (i := 2) (k := 13) (v := .map (some k)) rfl rfl (by kernel_rfl) (by kernel_rfl) (by kernel_rfl) [2] rfl (by decide) (by kernel_rfl) (fun _ _ _ h => h) (by kernel_rfl) ?_ (by assumption) ?_
    · intro W hSw; obtain ⟨p0, r0, r1, r2⟩ := HC.out.drN hSw; first | (go_simp; done) | go_simp
    try simp only [Act.put, List.setIfInBounds_toArray, List.set_cons_zero, List.set_cons_succ]
    refine takeK (i := 3) (k := 14) (v := .pointer (some ⟨q, 0, none⟩)) rfl rfl (by kernel_rfl) (by kernel_rfl) (by kernel_rfl) [4, 3] rfl (by decide) (by kernel_rfl) (fun _ _ _ h => h) (by kernel_rfl) ?_ (by assumption) ?_
    · intro W hSw; first | (go_simp; done) | go_simp
    try simp only [Act.put, List.setIfInBounds_toArray, List.set_cons_zero, List.set_cons_succ]
    refine takeK (i := 4) (k := 15) (v := .string c1) rfl rfl (by kernel_rfl) (by kernel_rfl) (by kernel_rfl) [4] rfl (by decide) (by kernel_rfl) (fun _ _ _ h => h) (by kernel_rfl) ?_ (by assumption) ?_
    · intro W hSw; obtain ⟨p0, r0, r1, r2⟩ := HC.out.drN hSw; first | (go_simp; done) | go_simp
    try simp only [Act.put, List.setIfInBounds_toArray, List.set_cons_zero, List.set_cons_succ]
    refine oneK (i := 5) (by kernel_rfl) rfl (fun K hK => ?_)
    refine step_bi (by kernel_rfl) (.tmp 13) (.tmp 15) 46 9 rfl rfl rfl hdel ?_
    refine hK.out _ _ (fun h => by have h' : true = false := h; cases h') (fun _ => ?_)
    clear hK K
    try simp only [Act.put, List.setIfInBounds_toArray]
    refine doneK (by kernel_rfl) ?_ _
    clear hdel hm3 hg3 hs3 hHeld HC HT
    obtain ⟨p0, r0, r1, r2⟩ := HT3.out.cells
    change _ = some (Value.pointer (some ⟨ci, 0, none⟩)) at r2
    go_wp2_with fail
    clear p0 r0 r1 r2
    obtain ⟨w4, hst, hm4, hg4, hs4⟩ := HT3.out.drew.map.store (by have := ddel_len (n := c1) (l := l); unfold maxLen; omega) c2 hn2 ci
    have HC := Lib.hid HT3.out.cells
    have HT4 := Lib.hid (HT3.out.drew.next hm4 hg4)
    refine beginK (DrN w3) 7 (by kernel_rfl) ⟨1, rfl⟩ (fun hHeld => ?_)
    refine takeK (i := 0) (k := 19) (v := .pointer (some ⟨bp, 0, none⟩)) rfl rfl (by kernel_rfl) (by kernel_rfl) (by kernel_rfl) [0] rfl (by decide) (by kernel_rfl) (fun _ _ _ h => h) (by kernel_rfl) ?_ (by assumption) ?_
    · intro W hSw; first | (go_simp; done) | go_simp
    try simp only [Act.put, List.setIfInBounds_toArray, List.set_cons_zero, List.set_cons_succ]
    refine takeK (i := 1) (k := 20) (v := .pointer (some ⟨bp, 0, none⟩)) rfl rfl (by kernel_rfl) (by kernel_rfl) (by kernel_rfl) [1] rfl (by decide) (by kernel_rfl) (fun _ _ _ h => h) (by kernel_rfl) ?_ (by assumption) ?_
    · intro W hSw; first | (go_simp; done) | go_simp
    try simp only [Act.put, List.setIfInBounds_toArray, List.set_cons_zero, List.set_cons_succ]
    refine takeK (i := 2) (k := 21) (v := .map (some k)) rfl rfl (by kernel_rfl) (by kernel_rfl) (by kernel_rfl) [2] rfl (by decide) (by kernel_rfl) (fun _ _ _ h => h) (by kernel_rfl) ?_ (by assumption) ?_
    · intro W hSw; obtain ⟨p0, r0, r1, r2⟩ := HC.out.drN hSw; change _ = some (Value.pointer (some ⟨ci, 0, none⟩)) at r2; first | (go_simp; done) | go_simp
    try simp only [Act.put, List.setIfInBounds_toArray, List.set_cons_zero, List.set_cons_succ]
    refine takeK (i := 3) (k := 22) (v := .pointer (some ⟨q, 1, none⟩)) rfl rfl (by kernel_rfl) (by kernel_rfl) (by kernel_rfl) [3] rfl (by decide) (by kernel_rfl) (fun _ _ _ h => h) (by kernel_rfl) ?_ (by assumption) ?_
    · intro W hSw; first | (go_simp; done) | go_simp
    try simp only [Act.put, List.setIfInBounds_toArray, List.set_cons_zero, List.set_cons_succ]
    refine takeK (i := 4) (k := 23) (v := .string c2) rfl rfl (by kernel_rfl) (by kernel_rfl) (by kernel_rfl) [4] rfl (by decide) (by kernel_rfl) (fun _ _ _ h => h) (by kernel_rfl) ?_ (by assumption) ?_
    · intro W hSw; obtain ⟨p0, r0, r1, r2⟩ := HC.out.drN hSw; change _ = some (Value.pointer (some ⟨ci, 0, none⟩)) at r2; first | (go_simp; done) | go_simp
    try simp only [Act.put, List.setIfInBounds_toArray, List.set_cons_zero, List.set_cons_succ]
    refine takeK (i := 5) (k := 24) (v := .pointer (some ⟨q, 2, none⟩)) rfl rfl (by kernel_rfl) (by kernel_rfl) (by kernel_rfl) [5] rfl (by decide) (by kernel_rfl) (fun _ _ _ h => h) (by kernel_rfl) ?_ (by assumption) ?_
    · intro W hSw; first | (go_simp; done) | go_simp
    try simp only [Act.put, List.setIfInBounds_toArray, List.set_cons_zero, List.set_cons_succ]
    refine takeK (i := 6) (k := 25) (v := .pointer (some ⟨ci, 0, none⟩)) rfl rfl (by kernel_rfl) (by kernel_rfl) (by kernel_rfl) [6] rfl (by decide) (by kernel_rfl) (fun _ _ _ h => h) (by kernel_rfl) ?_ (by assumption) ?_
    · intro W hSw; obtain ⟨p0, r0, r1, r2⟩ := HC.out.drN hSw; change _ = some (Value.pointer (some ⟨ci, 0, none⟩)) at r2; first | (go_simp; done) | go_simp
    try simp only [Act.put, List.setIfInBounds_toArray, List.set_cons_zero, List.set_cons_succ]
    refine oneK (i := 7) (by kernel_rfl) rfl (fun K hK => ?_)
    refine step_upd (by kernel_rfl) (.tmp 21) (.tmp 23) (.tmp 25) 46 rfl rfl rfl rfl hst ?_
    refine hK.out _ _ (fun h => by have h' : true = false := h; cases h') (fun _ => ?_)
    clear hK K
    try simp only [Act.put, List.setIfInBounds_toArray]
    refine doneK (by kernel_rfl) ?_ _
    clear hst hm4 hg4 hs4 hHeld HC HT3
    go_wp2
    go_end0
    exact HT4.out.at
  | none =>
    obtain ⟨w1, hw1⟩ : ∃ w1, w.alloc (.cells #[.string c1, .string c2, ptrO (some ci)] 81) = w1 := ⟨_, rfl⟩
    have hs1 : w1.heap.size = w.heap.size + 1 := by rw [← hw1]; simp
    have hr1 : w1.heap[w.heap.size]? = some (.cells #[.string c1, .string c2, ptrO (some ci)] 81 (0, 0)) := by rw [← hw1]; exact heap_alloc_new ..
    have hb1 : Below w.heap.size w w1 := by rw [← hw1]; exact (Below.refl _ _).alloc (Nat.le_refl _) _
    have hm2 := MB.made (w1.setCell ⟨bp, 0, none⟩ (.map (some (w.heap.size + 1))))
    rw [size_set, hs1] at hm2
    have hl0 : l = [] := hm
    have HT : Hid (TakeMid w bp vs t w.heap.size none (w.heap.size + 1) ⟨c1, c2, (some ci)⟩ l ((w1.setCell ⟨bp, 0, none⟩ (.map (some (w.heap.size + 1)))).alloc (.map #[] 0))) := Lib.hid
      ⟨by rw [Below.heap_alloc _ _ _ (by rw [size_set]; omega)]; exact cells_set (by rw [hb1.block bp hbp]; exact h1) _,
        by rw [Below.heap_alloc _ _ _ (by rw [size_set]; omega), Below.heap_setCell _ _ _ _ (by simp; omega)]; exact hr1,
        by rw [hl0]; exact hm2,
        UpdF.of_alloc (UpdF.set (UpdF.of hb1) _ _ _ (.inl rfl)) _, by omega, by omega, .inr (by omega), Nat.le_refl _, hv0⟩
    have hfree : w1.frozen? ⟨bp, 0, none⟩ = false := by rw [hb1.frozen hbp]; exact cells_free h1 0
    have hp1 : w1.cell? ⟨bp, 0, none⟩ = some (.map none) := by rw [hb1.cell hbp]; exact hp0
    clear h1 h2 hm hne hr1 hb1 hm2 hl0 hp0
    have hml : Tryz.prog.underlying 46 = _ := Tryz.underlying46
    have hq := fun w => run_eql_map_nil_sl (P := Tryz.prog) w 46 _ _ none hml
    have hmk : (Instr.makeMap 46 none).run Tryz.prog w1 = .ok (.map (some (w.heap.size + 1))) (w1.alloc (.map #[] 0)) := by rw [run_makeMap, hs1]
    unfold ptrO at hw1 ⊢
    go_enter Tryz.func43, Tryz.ntmps43
    go_wp2_with fail
    obtain ⟨W2, hW2⟩ : ∃ W2, (w1.setCell ⟨bp, 0, none⟩ (.map (some (w.heap.size + 1)))).alloc (.map #[] 0) = W2 := ⟨_, rfl⟩
    rw [hW2] at HT ⊢
    obtain ⟨k, hk⟩ : ∃ k, w.heap.size + 1 = k := ⟨_, rfl⟩
    rw [hk] at HT
    obtain ⟨q, hq2⟩ : ∃ q, w.heap.size = q := ⟨_, rfl⟩
    rw [hq2] at HT ⊢
    clear hW2 hq2 hfree hq hml hp1 hs1 hw1 hk hmk
    obtain ⟨w3, hdel, hm3, hg3, hs3⟩ := HT.out.drew.map.drop c1 hn1 0
    have HC := Lib.hid HT.out.cells
    have HT3 := Lib.hid (HT.out.drew.next hm3 hg3)
    refine beginK (DrN W2) 5 (by kernel_rfl) ⟨1, rfl⟩ (fun hHeld => ?_)
    refine takeK (i := 0) (k := 11) (v := .pointer (some ⟨bp, 0, none⟩)) rfl rfl (by kernel_rfl) (by kernel_rfl) (by kernel_rfl) [2, 1, 0] rfl (by decide) (by kernel_rfl) (fun _ _ _ h => h) (by kernel_rfl) ?_ (by assumption) ?_
    · intro W hSw; first | (go_simp; done) | go_simp
    try simp only [Act.put, List.setIfInBounds_toArray, List.set_cons_zero, List.set_cons_succ]
    refine takeK (i := 1) (k := 12) (v := .pointer (some ⟨bp, 0, none⟩)) rfl rfl (by kernel_rfl) (by kernel_rfl) (by kernel_rfl) [2, 1] rfl (by decide) (by kernel_rfl) (fun _ _ _ h => h) (by kernel_rfl) ?_ (by assumption) ?_
    · intro W hSw; first | (go_simp; done) | go_simp
    try simp only [Act.put, List.setIfInBounds_toArray, List.set_cons_zero, List.set_cons_succ]
    refine takeK (i := 2) (k := 13) (v := .map (some k)) rfl rfl (by kernel_rfl) (by kernel_rfl) (by kernel_rfl) [2] rfl (by decide) (by kernel_rfl) (fun _ _ _ h => h) (by kernel_rfl) ?_ (by assumption) ?_
    · intro W hSw; obtain ⟨p0, r0, r1, r2⟩ := HC.out.drN hSw; first | (go_simp; done) | go_simp
    try simp only [Act.put, List.setIfInBounds_toArray, List.set_cons_zero, List.set_cons_succ]
    refine takeK (i := 3) (k := 14) (v := .pointer (some ⟨q, 0, none⟩)) rfl rfl (by kernel_rfl) (by kernel_rfl) (by kernel_rfl) [4, 3] rfl (by decide) (by kernel_rfl) (fun _ _ _ h => h) (by kernel_rfl) ?_ (by assumption) ?_
    · intro W hSw; first | (go_simp; done) | go_simp
    try simp only [Act.put, List.setIfInBounds_toArray, List.set_cons_zero, List.set_cons_succ]
    refine takeK (i := 4) (k := 15) (v := .string c1) rfl rfl (by kernel_rfl) (by kernel_rfl) (by kernel_rfl) [4] rfl (by decide) (by kernel_rfl) (fun _ _ _ h => h) (by kernel_rfl) ?_ (by assumption) ?_
    · intro W hSw; obtain ⟨p0, r0, r1, r2⟩ := HC.out.drN hSw; first | (go_simp; done) | go_simp
    try simp only [Act.put, List.setIfInBounds_toArray, List.set_cons_zero, List.set_cons_succ]
    refine oneK (i := 5) (by kernel_rfl) rfl (fun K hK => ?_)
    refine step_bi (by kernel_rfl) (.tmp 13) (.tmp 15) 46 9 rfl rfl rfl hdel ?_
    refine hK.out _ _ (fun h => by have h' : true = false := h; cases h') (fun _ => ?_)
    clear hK K
    try simp only [Act.put, List.setIfInBounds_toArray]
    refine doneK (by kernel_rfl) ?_ _
    clear hdel hm3 hg3 hs3 hHeld HC HT
    obtain ⟨p0, r0, r1, r2⟩ := HT3.out.cells
    change _ = some (Value.pointer (some ⟨ci, 0, none⟩)) at r2
    go_wp2_with fail
    clear p0 r0 r1 r2
    obtain ⟨w4, hst, hm4, hg4, hs4⟩ := HT3.out.drew.map.store (by have := ddel_len (n := c1) (l := l); unfold maxLen; omega) c2 hn2 ci
    have HC := Lib.hid HT3.out.cells
    have HT4 := Lib.hid (HT3.out.drew.next hm4 hg4)
    refine beginK (DrN w3) 7 (by kernel_rfl) ⟨1, rfl⟩ (fun hHeld => ?_)
    refine takeK (i := 0) (k := 19) (v := .pointer (some ⟨bp, 0, none⟩)) rfl rfl (by kernel_rfl) (by kernel_rfl) (by kernel_rfl) [0] rfl (by decide) (by kernel_rfl) (fun _ _ _ h => h) (by kernel_rfl) ?_ (by assumption) ?_
    · intro W hSw; first | (go_simp; done) | go_simp
    try simp only [Act.put, List.setIfInBounds_toArray, List.set_cons_zero, List.set_cons_succ]
    refine takeK (i := 1) (k := 20) (v := .pointer (some ⟨bp, 0, none⟩)) rfl rfl (by kernel_rfl) (by kernel_rfl) (by kernel_rfl) [1] rfl (by decide) (by kernel_rfl) (fun _ _ _ h => h) (by kernel_rfl) ?_ (by assumption) ?_
    · intro W hSw; first | (go_simp; done) | go_simp
    try simp only [Act.put, List.setIfInBounds_toArray, List.set_cons_zero, List.set_cons_succ]
    refine takeK (i := 2) (k := 21) (v := .map (some k)) rfl rfl (by kernel_rfl) (by kernel_rfl) (by kernel_rfl) [2] rfl (by decide) (by kernel_rfl) (fun _ _ _ h => h) (by kernel_rfl) ?_ (by assumption) ?_
    · intro W hSw; obtain ⟨p0, r0, r1, r2⟩ := HC.out.drN hSw; change _ = some (Value.pointer (some ⟨ci, 0, none⟩)) at r2; first | (go_simp; done) | go_simp
    try simp only [Act.put, List.setIfInBounds_toArray, List.set_cons_zero, List.set_cons_succ]
    refine takeK (i := 3) (k := 22) (v := .pointer (some ⟨q, 1, none⟩)) rfl rfl (by kernel_rfl) (by kernel_rfl) (by kernel_rfl) [3] rfl (by decide) (by kernel_rfl) (fun _ _ _ h => h) (by kernel_rfl) ?_ (by assumption) ?_
    · intro W hSw; first | (go_simp; done) | go_simp
    try simp only [Act.put, List.setIfInBounds_toArray, List.set_cons_zero, List.set_cons_succ]
    refine takeK (i := 4) (k := 23) (v := .string c2) rfl rfl (by kernel_rfl) (by kernel_rfl) (by kernel_rfl) [4] rfl (by decide) (by kernel_rfl) (fun _ _ _ h => h) (by kernel_rfl) ?_ (by assumption) ?_
    · intro W hSw; obtain ⟨p0, r0, r1, r2⟩ := HC.out.drN hSw; change _ = some (Value.pointer (some ⟨ci, 0, none⟩)) at r2; first | (go_simp; done) | go_simp
    try simp only [Act.put, List.setIfInBounds_toArray, List.set_cons_zero, List.set_cons_succ]
    refine takeK (i := 5) (k := 24) (v := .pointer (some ⟨q, 2, none⟩)) rfl rfl (by kernel_rfl) (by kernel_rfl) (by kernel_rfl) [5] rfl (by decide) (by kernel_rfl) (fun _ _ _ h => h) (by kernel_rfl) ?_ (by assumption) ?_
    · intro W hSw; first | (go_simp; done) | go_simp
    try simp only [Act.put, List.setIfInBounds_toArray, List.set_cons_zero, List.set_cons_succ]
    refine takeK (i := 6) (k := 25) (v := .pointer (some ⟨ci, 0, none⟩)) rfl rfl (by kernel_rfl) (by kernel_rfl) (by kernel_rfl) [6] rfl (by decide) (by kernel_rfl) (fun _ _ _ h => h) (by kernel_rfl) ?_ (by assumption) ?_
    · intro W hSw; obtain ⟨p0, r0, r1, r2⟩ := HC.out.drN hSw; change _ = some (Value.pointer (some ⟨ci, 0, none⟩)) at r2; first | (go_simp; done) | go_simp
    try simp only [Act.put, List.setIfInBounds_toArray, List.set_cons_zero, List.set_cons_succ]
    refine oneK (i := 7) (by kernel_rfl) rfl (fun K hK => ?_)
    refine step_upd (by kernel_rfl) (.tmp 21) (.tmp 23) (.tmp 25) 46 rfl rfl rfl rfl hst ?_
    refine hK.out _ _ (fun h => by have h' : true = false := h; cases h') (fun _ => ?_)
    clear hK K
    try simp only [Act.put, List.setIfInBounds_toArray]
    refine doneK (by kernel_rfl) ?_ _
    clear hst hm4 hg4 hs4 hHeld HC HT3
    go_wp2
    go_end0
    exact HT4.out.at
theorem take_any (w : World) (bp t : Nat) (vs : Array Value) (mb : Option Nat) (l : Dir) (c1 c2 : ByteArray) (fi : Option Nat) (h1 : w.heap[bp]? = some (.cells vs t (0, 0))) (h2 : vs[0]? = some (.map mb)) (hm : MB w mb l) (hne : ∀ k, mb = some k → k ≠ bp) (hl : l.length ≤ 1000000) (hn1 : c1.size ≤ maxLen) (hn2 : c2.size ≤ maxLen) :
    Calls Tryz.prog 43 #[.pointer (some ⟨bp, 0, none⟩), .agg #[.string c1, .string c2, ptrO fi]] w (TakeAt w bp vs t mb (Chg.run l ⟨c1, c2, fi⟩)) := by
  cases fi with
  | none => exact take_del w bp t vs mb l c1 c2 h1 h2 hm hne hl hn1 hn2
  | some i => exact take_put w bp t vs mb l c1 c2 i h1 h2 hm hne hl hn1 hn2
end Go.Proofs.YtmmkgopnccfiiaaGreatDoor
/- append onto a slice that others hold, too: what block the new slice lies in, what else was written. -/
namespace Go.Proofs.YtmmkgopnccfiiaaGreatDoor
set_option linter.unusedVariables false
open Go.RowKit
theorem encChg_cells (fb : Nat → Nat) (c : Chg) : ∀ u ∈ encChg fb c, u.oneCell' = true := by
  intro u hu
  simp only [encChg, List.mem_cons, List.not_mem_nil, or_false] at hu
  rcases hu with rfl | rfl | rfl
  · rfl
  · rfl
  · cases c.file <;> rfl
/-- 'append(l, c)', l the changes that wait, c in a row that was just laid. -/
theorem run_appGC {ty : Nat} {w : World} {v : Value} {fb : Nat → Nat} {cs : List Chg} {c : Chg} {q : Nat} (hown : OwnK (encChg fb) 3 81 0 w v cs) (hq : w.heap[q]? = some (.cells #[.string c.fr, .string c.goes, ptrO (c.file.map fb)] 81 (0, 0)))
    (hlen : cs.length ≤ 1000000000000) :
    ∃ v' w', (Builtin.append_ #[47, 47] ty #[v, .slice (some ⟨q, 0, none⟩) 1 1]).run Tryz.prog w = .ok v' w' ∧ OwnK (encChg fb) 3 81 0 w' v' (cs ++ [c]) ∧ w.grownBy w' v.ownBlock ∧ ∀ g, v'.ownBlock = some g → v.ownBlock = some g ∨ w.heap.size ≤ g := by
  have hown' : w.ownsRow 0 81 3 v cs.length (cs.flatMap (encChg fb)) := hown
  have hc : ∀ j u, (encChg fb c)[j]? = some u → w.cell? ((⟨q, 0, none⟩ : Addr).add j) = some u := fun j u hj => by
    rw [add_at, Nat.zero_add, cells_at hq, ← hj]
    simp [encChg]
  have hm : cs.length + 1 ≤ maxLen := by unfold maxLen; omega
  obtain ⟨v', w', g0, g1, g2, g3⟩ := run_appG (ty := ty) elem_chg hown' ⟨q, 0, none⟩ 1 1 (encChg fb c) rfl hc (encChg_cells fb c) hm (by omega)
  refine ⟨v', w', g0, ?_, g2, g3⟩
  unfold OwnK
  rw [List.length_append, List.flatMap_append]
  simpa using g1
end Go.Proofs.YtmmkgopnccfiiaaGreatDoor
/- A change of the directory: it is made, and waits. -/
namespace Go.Proofs.YtmmkgopnccfiiaaGreatDoor
set_option linter.unusedVariables false
open Go.RowKit Go.Maps
def upN {α : Type} (f : Nat → α) (i : Nat) (a : α) : Nat → α := fun x => if x = i then a else f x
theorem upN_same {α : Type} (f : Nat → α) (i : Nat) (a : α) : upN f i a i = a := if_pos rfl
theorem upN_ne {α : Type} (f : Nat → α) {i x : Nat} (a : α) (h : x ≠ i) : upN f i a x = f x := if_neg h
/-- The names of blocks behind a change. -/
def chgRole (ρ : Nat → Option Role) (k : Nat) (wv : Value) : Nat → Option Role := fun x => if x = k then some .now else if wv.ownBlock = some x then some .wait else ρ x
theorem row_form {w : World} {B E size : Nat} {v : Value} {n : Nat} {xs : List Value} (h : w.ownsRow B E size v n xs) : ∃ a m c, v = .slice a m c := by
  rcases h.2 with ⟨e, _⟩ | ⟨g, cap, cur, e, _⟩ <;> exact ⟨_, _, _, e⟩
theorem FsLay.change {w w' : World} {b k : Nat} {ρ : Nat → Option Role} {S : Fs} {L : Lay} {c : Chg} {wv : Value} (h : FsLay w b ρ S L) (u : UpdF (fun i => i = b ∨ L.mn = some i ∨ L.wv.ownBlock = some i) w w')
    (hc : w'.heap[b]? = some (.cells (fsV (some k) L.ml wv S.room S.calls S.fails.isSome L.ah) 49 (0, 0))) (hm : MB w' (some k) (dmap L.fb (Chg.run S.now c))) (hk : L.mn = some k ∨ w.heap.size ≤ k)
    (hw : OwnK (encChg L.fb) 3 81 0 w' wv (S.wait ++ [c])) (hg : ∀ g, wv.ownBlock = some g → L.wv.ownBlock = some g ∨ w.heap.size ≤ g) (hne : ∀ g, wv.ownBlock = some g → g ≠ k) (ok : FsOk (S.change c)) : FsTo w b ρ w' (S.change c) := by
  have kold : ∀ r x, ρ x = some r → r ≠ .now → x ≠ k := fun r x hx hr e => by
    subst e
    rcases hk with e | e
    · rw [h.nrole _ e] at hx; exact hr (Option.some.inj hx).symm
    · have := h.top x (by rw [hx]; simp); omega
  have wold : ∀ r x, ρ x = some r → r ≠ .wait → wv.ownBlock ≠ some x := fun r x hx hr e => by
    rcases hg x e with e | e
    · rw [h.wrole _ e] at hx; exact hr (Option.some.inj hx).symm
    · have := h.top x (by rw [hx]; simp); omega
  have keep : ∀ r x, ρ x = some r → r ≠ .now → r ≠ .wait → chgRole ρ k wv x = some r := fun r x hx h1 h2 => by
    unfold chgRole
    rw [if_neg (kold r x hx h1), if_neg (wold r x hx h2)]; exact hx
  have blk : ∀ r x, ρ x = some r → r ≠ .fs → r ≠ .now → r ≠ .wait → w'.heap[x]? = w.heap[x]? := fun r x hx h0 h1 h2 => u.block x (h.top x (by rw [hx]; simp)) (by
    rintro (e | e | e)
    · rw [e, h.role] at hx; exact h0 (Option.some.inj hx).symm
    · rw [h.nrole _ e] at hx; exact h1 (Option.some.inj hx).symm
    · rw [h.wrole _ e] at hx; exact h2 (Option.some.inj hx).symm)
  refine ⟨chgRole ρ k wv, ⟨{ L with mn := some k, wv := wv }, { cell := hc, role := keep _ _ h.role (by simp) (by simp), ahead := h.ahead, now := hm, nrole := ?_, old := ?_, orole := ?_, wait := hw, wrole := ?_, files := ?_, top := ?_, ok := ok }⟩, ?_, ?_⟩
  · intro j hj
    obtain rfl := Option.some.inj hj
    unfold chgRole; rw [if_pos rfl]
  · exact h.old.same fun j hj => blk _ j (h.orole j hj) (by simp) (by simp) (by simp)
  · exact fun j hj => keep _ _ (h.orole j hj) (by simp) (by simp)
  · intro j hj
    unfold chgRole
    rw [if_neg (hne j hj), if_pos hj]
  · intro i f hf
    have h1 := h.files i f hf
    exact ⟨(blk _ _ h1.role (by simp) (by simp) (by simp)).trans h1.cell, keep _ _ h1.role (by simp) (by simp), row_same h1.own fun j hj => blk _ j (h1.brole j hj) (by simp) (by simp) (by simp), fun j hj => keep _ _ (h1.brole j hj) (by simp) (by simp)⟩
  · intro j hj
    unfold chgRole at hj
    split at hj
    · rename_i e; rw [e]; exact hm.lt k rfl
    · split at hj
      · rename_i e; exact row_lt hw j e
      · exact Nat.lt_of_lt_of_le (h.top j hj) u.size
  · refine u.mono fun j hj hf => ?_
    rcases hf with rfl | e | e
    · rw [h.role]; simp
    · rw [h.nrole j e]; simp
    · rw [h.wrole j e]; simp
  · intro j hj
    unfold chgRole at hj
    split at hj
    · rename_i e
      rcases hk with e1 | e1
      · exact .inl (by rw [e, h.nrole _ e1]; simp)
      · exact .inr (by omega)
    · split at hj
      · rename_i e
        rcases hg j e with e1 | e1
        · exact .inl (by rw [h.wrole _ e1]; simp)
        · exact .inr e1
      · exact .inl hj
/-- A new file, which nothing names yet. -/
theorem FsLay.newFile {w : World} {b : Nat} {ρ : Nat → Option Role} {S : Fs} {L : Lay} (h : FsLay w b ρ S L) :
    FsLay (w.alloc (.cells (filV (.slice none 0 0) 0) 63)) b (upN ρ w.heap.size (some (.file S.files.length))) { S with files := S.files ++ [⟨[], 0⟩] } { L with fb := upN L.fb S.files.length w.heap.size, fv := upN L.fv S.files.length (.slice none 0 0) } := by
  have old : ∀ {r : Role} {x : Nat}, ρ x = some r → upN ρ w.heap.size (some (.file S.files.length)) x = some r := fun {r x} hx => by
    have := h.top x (by rw [hx]; simp)
    rw [upN_ne _ _ (by omega)]; exact hx
  have hs := h.same (w' := w.alloc (.cells (filV (.slice none 0 0) 0) 63)) (fun k hk => Below.heap_alloc _ _ _ (h.top k hk)) (by simp)
  have fbe : ∀ i, i < S.files.length → upN L.fb S.files.length w.heap.size i = L.fb i := fun i hi => upN_ne _ _ (by omega)
  refine { cell := hs.cell, role := old h.role, ahead := h.ahead, now := ?_, nrole := fun k hk => old (h.nrole k hk), old := ?_, orole := fun k hk => old (h.orole k hk), wait := ?_, wrole := fun k hk => old (h.wrole k hk), files := ?_, top := ?_, ok := h.ok.more _ ⟨Nat.le_refl _, by simp⟩ }
  · have := hs.now
    rwa [dmap_congr fun x hx => (fbe x.2 (h.ok.inNow x hx)).symm] at this
  · have := hs.old
    rwa [dmap_congr fun x hx => (fbe x.2 (h.ok.inOld x hx)).symm] at this
  · have := hs.wait
    unfold OwnK at this ⊢
    have e : S.wait.flatMap (encChg (upN L.fb S.files.length w.heap.size)) = S.wait.flatMap (encChg L.fb) := by
      simp only [List.flatMap]
      congr 1
      refine List.map_congr_left fun c hc => ?_
      unfold encChg
      cases hf : c.file with
      | none => rfl
      | some i => simp only [Option.map_some]; rw [fbe i (h.ok.inWait c hc i hf)]
    show World.ownsRow _ 0 _ 3 L.wv S.wait.length (S.wait.flatMap _)
    rw [e]; exact this
  · intro i f hf
    rcases Nat.lt_or_ge i S.files.length with hi | hi
    · rw [List.getElem?_append_left hi] at hf
      have h1 := hs.files i f hf
      show FileAt _ _ i (upN L.fb _ _ i) (upN L.fv _ _ i) f
      rw [fbe i hi, upN_ne _ _ (by omega)]
      exact ⟨h1.cell, old h1.role, h1.own, fun k hk => old (h1.brole k hk)⟩
    · rw [List.getElem?_append_right hi] at hf
      obtain rfl : i = S.files.length := by
        rcases Nat.lt_or_ge (i - S.files.length) 1 with h1 | h1
        · omega
        · rw [List.getElem?_eq_none (by simpa using h1)] at hf; cases hf
      rw [Nat.sub_self] at hf
      obtain rfl : (⟨[], 0⟩ : Fil) = f := by simpa using hf
      show FileAt _ _ _ (upN L.fb _ _ _) (upN L.fv _ _ _) _
      rw [upN_same, upN_same]
      exact ⟨heap_alloc_new .., upN_same _ _ _, OwnB.nil _ _, fun k hk => by cases hk⟩
  · intro k hk
    unfold upN at hk
    split at hk
    · rename_i e; rw [e]; simp
    · have := h.top k hk; simp; omega

set_option maxHeartbeats 2000000 in
set_option maxRecDepth 100000 in
theorem change_any (w : World) (b : Nat) (ρ : Nat → Option Role) (S : Fs) (L : Lay) (h : FsLay w b ρ S L) (c1 c2 : ByteArray) (fi : Option Nat) (hi : ∀ i, fi = some i → i < S.files.length) (h1 : c1.size ≤ 140737488355328) (h2 : c2.size ≤ 140737488355328)
    (hl : (Chg.run S.now ⟨c1, c2, fi⟩).length ≤ 200) (hw : S.wait.length ≤ 1000000000000) :
    Calls Tryz.prog 24 #[.pointer (some ⟨b, 0, none⟩), .string c1, .string c2, ptrO (fi.map L.fb)] w fun e w' => e = .returned (.tuple #[]) ∧ FsTo w b ρ w' (S.change ⟨c1, c2, fi⟩) := by
  have H := Lib.hid h
  have hp := h.top b (by rw [h.role]; simp)
  obtain ⟨pf, hfp⟩ : ∃ pf, ptrO (fi.map L.fb) = .pointer pf := by cases fi <;> exact ⟨_, rfl⟩
  have HP := Lib.hid hfp
  have HC1 := Lib.hid (fun w => clone_any c1 w (by omega))
  have HC2 := Lib.hid (fun w => clone_any c2 w (by omega))
  rw [hfp]
  clear h hfp
  go_enter Tryz.func24, Tryz.ntmps24
  go_wp2_with fail
  refine (HC1.out _).mono ?_
  rintro e w1 ⟨rfl, b1⟩
  go_wp2_with fail
  refine (HC2.out _).mono ?_
  rintro e w2 ⟨rfl, b2⟩
  go_wp2_with fail
  obtain ⟨w3, hw3⟩ : ∃ w3, w2.alloc (.cells #[.string c1, .string c2, .pointer pf] 81) = w3 := ⟨_, rfl⟩
  obtain ⟨q, hq⟩ : ∃ q, w2.heap.size = q := ⟨_, rfl⟩
  have hb12 : Below w.heap.size w w2 := b1.trans (b2.mono b1.size)
  have hb3 : Below w.heap.size w w3 := by rw [← hw3]; exact hb12.alloc hb12.size _
  have hq3 : w3.heap[q]? = some (.cells #[.string c1, .string c2, .pointer pf] 81 (0, 0)) := by rw [← hw3, ← hq]; exact heap_alloc_new ..
  have hqn : w.heap.size ≤ q := by rw [← hq]; exact hb12.size
  have L3 := H.out.same (w' := w3) (fun k hk => hb3.block k (H.out.top k hk)) hb3.size
  have HQ := Lib.hid hq3
  have HB := Lib.hid L3
  have HF := Lib.hid hb3
  rw [hw3, hq]
  clear b1 b2 hw3 hq hb12 hq3 hb3
  have HTK := Lib.hid (take_any w3.drew b 49 _ L.mn (dmap L.fb S.now) c1 c2 (fi.map L.fb) L3.cell rfl L3.now (fun k hk e => by
    have h1 := L3.nrole k hk
    rw [e, L3.role] at h1; cases h1) (by rw [dmap_len]; have := H.out.ok.few_now; omega) (by unfold maxLen; omega) (by unfold maxLen; omega))
  rw [HP.out] at HTK
  clear L3
  refine beginK (DrN w3) 4 (by kernel_rfl) ⟨1, rfl⟩ (fun hHeld => ?_)

  refine takeK (i := 0) (k := 15) (v := .pointer (some ⟨b, 0, none⟩)) rfl rfl (by kernel_rfl) (by kernel_rfl) (by kernel_rfl) [2, 1, 0] rfl (by decide) (by kernel_rfl) (fun _ _ _ h => h) (by kernel_rfl) ?_ (by assumption) ?_
  · intro W hSw; first | (go_simp; done) | go_simp
  try simp only [Act.put, List.setIfInBounds_toArray, List.set_cons_zero, List.set_cons_succ]
  refine takeK (i := 1) (k := 16) (v := .pointer (some ⟨b, 0, none⟩)) rfl rfl (by kernel_rfl) (by kernel_rfl) (by kernel_rfl) [2, 1] rfl (by decide) (by kernel_rfl) (fun _ _ _ h => h) (by kernel_rfl) ?_ (by assumption) ?_
  · intro W hSw; first | (go_simp; done) | go_simp
  try simp only [Act.put, List.setIfInBounds_toArray, List.set_cons_zero, List.set_cons_succ]
  refine takeK (i := 2) (k := 17) (v := .pointer (some ⟨b, 0, none⟩)) rfl rfl (by kernel_rfl) (by kernel_rfl) (by kernel_rfl) [2] rfl (by decide) (by kernel_rfl) (fun _ _ _ h => h) (by kernel_rfl) ?_ (by assumption) ?_
  · intro W hSw; first | (go_simp; done) | go_simp
  try simp only [Act.put, List.setIfInBounds_toArray, List.set_cons_zero, List.set_cons_succ]
  refine takeK (i := 3) (k := 18) (v := .agg #[.string c1, .string c2, .pointer pf]) rfl rfl (by kernel_rfl) (by kernel_rfl) (by kernel_rfl) [3] rfl (by decide) (by kernel_rfl) (fun _ _ _ h => h) (by kernel_rfl) ?_ (by assumption) ?_
  · intro W hSw; have r0 := (hSw.cell ⟨q, 0, none⟩).trans (cells_at HQ.out 0); have r1 := (hSw.cell ⟨q, 1, none⟩).trans (cells_at HQ.out 1); have r2 := (hSw.cell ⟨q, 2, none⟩).trans (cells_at HQ.out 2); first | (go_simp; done) | go_simp
  try simp only [Act.put, List.setIfInBounds_toArray, List.set_cons_zero, List.set_cons_succ]
  refine oneK (i := 4) (by kernel_rfl) rfl (fun K hK => ?_)
  go_simp
  refine HTK.out.mono ?_
  rintro e w4 ⟨k, rfl, t1, t2, t3, t4⟩
  refine hK.out _ _ (fun h => by have h' : true = false := h; cases h') (fun _ => ?_)
  clear hK K HTK hHeld
  try simp only [Act.put, List.setIfInBounds_toArray, List.set_cons_zero, List.set_cons_succ]
  refine doneK (by kernel_rfl) ?_ _
  go_wp2_with fail
  have klt := t2.lt k rfl
  have hkb : k ≠ b := by
    rintro rfl
    rcases t3 with e | e
    · have h1 := H.out.nrole _ e
      rw [H.out.role] at h1; cases h1
    · have h1 := HF.out.size
      have : w3.drew.heap.size = w3.heap.size := rfl
      omega
  have hnb : ∀ g, L.wv.ownBlock = some g → g ≠ b ∧ g < w.heap.size ∧ L.mn ≠ some g := fun g hg => by
    have h1 := H.out.wrole g hg
    refine ⟨fun e => ?_, H.out.top g (by rw [h1]; simp), fun e => ?_⟩
    · rw [e, H.out.role] at h1; cases h1
    · rw [H.out.nrole g e] at h1; cases h1
  have hqk : ¬ (q = b ∨ L.mn = some q) := by
    rintro (e | e)
    · omega
    · have := H.out.top q (by rw [H.out.nrole q e]; simp); omega
  have hq4 : w4.heap[q]? = some (.cells #[.string c1, .string c2, .pointer pf] 81 (0, 0)) := (t4.block q (Array.getElem?_eq_some_iff.1 HQ.out).1 hqk).trans HQ.out
  have hs34 : w3.heap.size ≤ w4.heap.size := t4.size
  have hw4 : OwnK (encChg L.fb) 3 81 0 w4 L.wv S.wait := row_same HB.out.wait fun g hg => (t4.block g (Nat.lt_of_lt_of_le (hnb g hg).2.1 HF.out.size) (by
    rintro (e | e)
    · exact (hnb g hg).1 e
    · exact (hnb g hg).2.2 e))
  have hc4 : w4.heap[b]? = some (.cells (fsV (some k) L.ml L.wv S.room S.calls S.fails.isSome L.ah) 49 (0, 0)) := t1
  have hb4 : b < w4.heap.size := (Array.getElem?_eq_some_iff.1 hc4).1
  have hq4' : q < w4.heap.size := (Array.getElem?_eq_some_iff.1 hq4).1
  obtain ⟨w6, hw6⟩ : ∃ w6, w4.drew.alloc (.cells #[.string c1, .string c2, .pointer pf] 81) = w6 := ⟨_, rfl⟩
  have b46 : Below w4.heap.size w4 w6 := by rw [← hw6]; exact (Below.refl _ _).drew.alloc (Nat.le_refl _) _
  have hs6 : w6.heap.size = w4.heap.size + 1 := by rw [← hw6]; simp
  have hr6 : w6.heap[w4.heap.size]? = some (.cells #[.string c1, .string c2, ptrO (fi.map L.fb)] 81 (0, 0)) := by rw [HP.out, ← hw6]; exact heap_alloc_new ..
  have ho6 : OwnK (encChg L.fb) 3 81 0 w6 L.wv S.wait := hw4.below b46
  obtain ⟨v7, w7, g0, g1, g2, g3⟩ := run_appGC (ty := 50) (c := ⟨c1, c2, fi⟩) ho6 hr6 hw
  obtain ⟨a7, n7, p7, rfl⟩ := row_form g1
  have hb67 : ∀ j, j < w6.heap.size → L.wv.ownBlock ≠ some j → w7.heap[j]? = w6.heap[j]? := fun j hj hn => g2.block j hj fun e => hn e.symm
  have hc7 : w7.heap[b]? = some (.cells (fsV (some k) L.ml L.wv S.room S.calls S.fails.isSome L.ah) 49 (0, 0)) := by rw [hb67 b (by omega) (fun e => (hnb b e).1 rfl), b46.block b hb4]; exact hc4
  have hq7 : w7.heap[q]? = w4.heap[q]? := by rw [hb67 q (by omega) (fun e => by have := (hnb q e).2.1; omega), b46.block q hq4']
  have HS7 : Hid (w7.heap[b]? = w4.heap[b]? ∧ w7.heap[q]? = w4.heap[q]?) := Lib.hid ⟨hc7.trans hc4.symm, hq7⟩
  have HS6 : Hid (w6.heap[b]? = w4.heap[b]? ∧ w6.heap[q]? = w4.heap[q]?) := Lib.hid ⟨b46.block b hb4, b46.block q hq4'⟩
  have HFIN : Hid (FsTo w b ρ (w7.setCell ⟨b, 2, none⟩ (.slice a7 n7 p7)) (S.change ⟨c1, c2, fi⟩)) := Lib.hid (by
    have u34 : UpdF (fun i => i = b ∨ L.mn = some i ∨ L.wv.ownBlock = some i) w w4 := (UpdF.of HF.out).drew.trans (t4.mono fun j _ hj => by
      rcases hj with hj | hj
      · exact .inl hj
      · exact .inr (.inl hj))
    have u47 : UpdF (fun i => i = b ∨ L.wv.ownBlock = some i) w4 (w7.setCell ⟨b, 2, none⟩ (.slice a7 n7 p7)) := UpdF.set ((UpdF.of b46).trans (UpdF.grown g2 fun j hj => .inr hj)) _ _ _ (.inl rfl)
    have kk : ¬ (k = b ∨ L.wv.ownBlock = some k) := by
      rintro (e | e)
      · exact hkb e
      · rcases t3 with e1 | e1
        · exact (hnb k e).2.2 e1
        · have h1 := (hnb k e).2.1
          have h2 := HF.out.size
          have : w3.drew.heap.size = w3.heap.size := rfl
          omega
    refine H.out.change (k := k) (wv := .slice a7 n7 p7) (u34.trans (u47.mono fun j _ hj => by
      rcases hj with hj | hj
      · exact .inl hj
      · exact .inr (.inr hj))) (cells_set hc7 (.slice a7 n7 p7)) ?_ ?_ ?_ ?_ ?_ (H.out.ok.change hi ⟨h1, h2⟩ hl)
    · have h1 := t2.same (w' := w7.setCell ⟨b, 2, none⟩ (.slice a7 n7 p7)) fun j hj => by
        obtain rfl := Option.some.inj hj
        exact u47.block k klt kk
      have h2 := Chg.run_map L.fb S.now ⟨c1, c2, fi⟩
      unfold Chg.at at h2
      rw [h2] at h1
      exact h1
    · rcases t3 with e | e
      · exact .inl e
      · exact .inr (Nat.le_trans HF.out.size e)
    · refine row_same g1 fun j hj => Below.heap_setCell _ _ _ _ ?_
      show j ≠ b
      rcases g3 j hj with e | e
      · exact (hnb j e).1
      · omega
    · intro j hj
      rcases g3 j hj with e | e
      · exact .inl e
      · have := HF.out.size; exact .inr (by omega)
    · intro j hj e
      rcases g3 j hj with e1 | e1
      · exact kk (.inr (by rw [← e]; exact e1))
      · omega)
  have HC7 := Lib.hid hc7
  have HC4 := Lib.hid hc4
  have HQ4 := Lib.hid hq4
  clear hc7 hq7 hc4 hq4 t1 t2 t3 t4 g1 g2 g3 hb67 ho6 hr6 hs6 b46 hb4 hq4' hw4 hs34 hqk hnb hkb klt HF HB HQ H
  have hHeld0 : w4.drew.heap[b]? = w4.heap[b]? ∧ w4.drew.heap[q]? = w4.heap[q]? := ⟨rfl, rfl⟩
  refine beginK (fun W => W.heap[b]? = w4.heap[b]? ∧ W.heap[q]? = w4.heap[q]?) 10 (by kernel_rfl) hHeld0 (fun hHeld => ?_)

  refine takeK (i := 0) (k := 20) (v := .pointer (some ⟨b, 0, none⟩)) rfl rfl (by kernel_rfl) (by kernel_rfl) (by kernel_rfl) [0] rfl (by decide) (by kernel_rfl) (fun _ _ _ h => h) (by kernel_rfl) ?_ (by assumption) ?_
  · intro W hSw; first | (go_simp; done) | go_simp
  try simp only [Act.put, List.setIfInBounds_toArray, List.set_cons_zero, List.set_cons_succ]
  refine takeK (i := 1) (k := 21) (v := .pointer (some ⟨b, 0, none⟩)) rfl rfl (by kernel_rfl) (by kernel_rfl) (by kernel_rfl) [1] rfl (by decide) (by kernel_rfl) (fun _ _ _ h => h) (by kernel_rfl) ?_ (by assumption) ?_
  · intro W hSw; first | (go_simp; done) | go_simp
  try simp only [Act.put, List.setIfInBounds_toArray, List.set_cons_zero, List.set_cons_succ]
  refine takeK (i := 2) (k := 22) (v := .pointer (some ⟨b, 0, none⟩)) rfl rfl (by kernel_rfl) (by kernel_rfl) (by kernel_rfl) [2] rfl (by decide) (by kernel_rfl) (fun _ _ _ h => h) (by kernel_rfl) ?_ (by assumption) ?_
  · intro W hSw; first | (go_simp; done) | go_simp
  try simp only [Act.put, List.setIfInBounds_toArray, List.set_cons_zero, List.set_cons_succ]
  refine takeK (i := 3) (k := 23) (v := .pointer (some ⟨b, 2, none⟩)) rfl rfl (by kernel_rfl) (by kernel_rfl) (by kernel_rfl) [3] rfl (by decide) (by kernel_rfl) (fun _ _ _ h => h) (by kernel_rfl) ?_ (by assumption) ?_
  · intro W hSw; first | (go_simp; done) | go_simp
  try simp only [Act.put, List.setIfInBounds_toArray, List.set_cons_zero, List.set_cons_succ]
  refine takeK (i := 4) (k := 24) (v := L.wv) rfl rfl (by kernel_rfl) (by kernel_rfl) (by kernel_rfl) [4] rfl (by decide) (by kernel_rfl) (fun _ _ _ h => h) (by kernel_rfl) ?_ (by assumption) ?_
  · intro W hSw; have d2 := (World.cell?_of_block (a := ⟨b, 2, none⟩) hSw.1).trans (fs_cells HC4.out).c2; first | (go_simp; done) | go_simp
  try simp only [Act.put, List.setIfInBounds_toArray, List.set_cons_zero, List.set_cons_succ]
  refine takeK (i := 5) (k := 25) (v := .agg #[.string c1, .string c2, .pointer pf]) rfl rfl (by kernel_rfl) (by kernel_rfl) (by kernel_rfl) [5] rfl (by decide) (by kernel_rfl) (fun _ _ _ h => h) (by kernel_rfl) ?_ (by assumption) ?_
  · intro W hSw; have r0 := cells_at (hSw.2.trans HQ4.out) 0; have r1 := cells_at (hSw.2.trans HQ4.out) 1; have r2 := cells_at (hSw.2.trans HQ4.out) 2; first | (go_simp; done) | go_simp
  try simp only [Act.put, List.setIfInBounds_toArray, List.set_cons_zero, List.set_cons_succ]
  refine oneK (i := 6) (by kernel_rfl) rfl (fun K hK => ?_)
  go_simp
  refine hK.out _ _ (fun _ => HS6.out) (fun _ => ?_)
  clear hK K
  try simp only [Act.put, List.setIfInBounds_toArray, List.set_cons_zero, List.set_cons_succ]
  refine oneK (i := 7) (by kernel_rfl) rfl (fun K hK => ?_)
  refine step_appD 27 rfl (by kernel_rfl) (.tmp 24) (.tmp 26) 47 rfl rfl rfl g0 ?_
  refine hK.out _ _ (fun _ => HS7.out) (fun _ => ?_)
  clear hK K g0
  try simp only [Act.put, List.setIfInBounds_toArray, List.set_cons_zero, List.set_cons_succ]
  refine oneK (i := 8) (by kernel_rfl) rfl (fun K hK => ?_)
  go_simp
  refine hK.out _ _ (fun _ => HS7.out) (fun _ => ?_)
  clear hK K
  try simp only [Act.put, List.setIfInBounds_toArray, List.set_cons_zero, List.set_cons_succ]
  refine oneK (i := 9) (by kernel_rfl) rfl (fun K hK => ?_)
  go_simp
  refine hK.out _ _ (fun _ => HS7.out) (fun _ => ?_)
  clear hK K
  try simp only [Act.put, List.setIfInBounds_toArray, List.set_cons_zero, List.set_cons_succ]
  have d2 := (fs_cells HC7.out).c2
  have f2 := (fs_cells HC7.out).free 2
  refine oneK (i := 10) (by kernel_rfl) rfl (fun K hK => ?_)
  go_simp
  refine hK.out _ _ (fun h => by have h' : true = false := h; cases h') (fun _ => ?_)
  clear hK K
  try simp only [Act.put, List.setIfInBounds_toArray, List.set_cons_zero, List.set_cons_succ]
  refine doneK (by kernel_rfl) ?_ _
  clear d2 f2 hHeld hHeld0
  go_wp2
  go_end0
  exact ⟨rfl, HFIN.out⟩
end Go.Proofs.YtmmkgopnccfiiaaGreatDoor
/- simfs' calls: Calls, Fail, Room, New, find, Create, Rename, Remove, Sync, SyncDir. -/
namespace Go.Proofs.YtmmkgopnccfiiaaGreatDoor
set_option linter.unusedVariables false
open Go.RowKit Go.Maps
theorem FsTo.pre {ρ ρ1 : Nat → Option Role} {w w1 w' : World} {b : Nat} {S' : Fs} (h : FsTo w1 b ρ1 w' S') (u : UpdF (fun k => ρ k ≠ none) w w1) (hr : ∀ k, ρ1 k ≠ none → ρ k ≠ none ∨ w.heap.size ≤ k) : FsTo w b ρ w' S' := by
  obtain ⟨ρ', h1, h2, h3⟩ := h
  refine ⟨ρ', h1, u.then h2 hr, fun k hk => ?_⟩
  rcases h3 k hk with h | h
  · exact hr k h
  · exact .inr (Nat.le_trans u.size h)
theorem FsAt.role {w : World} {b : Nat} {ρ : Nat → Option Role} {S : Fs} (h : FsAt w b ρ S) : ρ b = some .fs := by obtain ⟨L, h⟩ := h; exact h.role
theorem UpdF.own {w w' : World} {b : Nat} {ρ : Nat → Option Role} (h : UpdF (fun k => k = b) w w') (hb : ρ b = some .fs) : UpdF (fun k => ρ k ≠ none) w w' := h.mono fun k _ e => by rw [show k = b from e, hb]; simp
/-- A call that answers a number. -/
def OpAt (w : World) (b : Nat) (ρ : Nat → Option Role) (r : Int × Fs) (e : Ending) (w' : World) : Prop := e = .returned (.int .i64 r.1) ∧ FsTo w b ρ w' r.2
theorem OpAt.begun {w w1 : World} {b : Nat} {ρ : Nat → Option Role} {S' : Fs} {r : Int × Fs} {n : Int} (hA : FsAt w1 b ρ S') (hU : UpdF (fun k => k = b) w w1) (hr : r = (n, S')) : OpAt w b ρ r (.returned (.int .i64 n)) w1 := by
  subst hr
  exact ⟨rfl, hA.to.pre (hU.own hA.role) fun k hk => .inl hk⟩
theorem FsOk.fail {S : Fs} (h : FsOk S) (n : Int) (hn : n < 9223372036854775808) : FsOk (S.fail n) := by
  refine { h with fails := fun m hm => ?_ }
  unfold Fs.fail at hm
  dsimp only at hm
  split at hm
  · obtain rfl := Option.some.inj hm; omega
  · cases hm
theorem FsOk.setRoom {S : Fs} (h : FsOk S) (n : Int) : FsOk (S.setRoom n) := { h with room := clamp_le _ _ }
set_option maxHeartbeats 1000000 in
theorem room_any (w : World) (b : Nat) (ρ : Nat → Option Role) (S : Fs) (h : FsAt w b ρ S) (n : Int) :
    Calls Tryz.prog 16 #[.pointer (some ⟨b, 0, none⟩), .int .i64 n] w fun e w' => e = .returned (.tuple #[]) ∧ FsAt w' b ρ (S.setRoom n) ∧ UpdF (fun k => k = b) w w' := by
  obtain ⟨L, h⟩ := h
  have H := Lib.hid h
  obtain ⟨c0, c1, c2, c3, c4, c5, c6, c7⟩ := h.cells
  have f3 := c7 3
  clear c0 c1 c2 c4 c5 c6 c7 h
  have HW := Lib.hid (fsWithin_any n 16777216 w)
  have HX : Hid (FsAt (w.setCell ⟨b, 3, none⟩ (.int .i64 (clampN n 16777216 : Nat))) b ρ (S.setRoom n) ∧ UpdF (fun k => k = b) w (w.setCell ⟨b, 3, none⟩ (.int .i64 (clampN n 16777216 : Nat)))) := Lib.hid (by
    have u := (UpdF.refl (fun k => k = b) w).set b 3 (.int .i64 (clampN n 16777216 : Nat)) rfl
    exact ⟨⟨_, H.out.setFs (ah := L.ah) u (by rw [cells_set H.out.cell]; rfl) rfl rfl rfl rfl H.out.ahead (H.out.ok.setRoom n)⟩, u⟩)
  clear H
  go_enter Tryz.func16, Tryz.ntmps16
  go_wp2_with fail
  refine HW.out.mono ?_
  rintro e w1 ⟨rfl, rfl⟩
  go_wp2_with fail
  go_end0
  exact ⟨rfl, HX.out.1, HX.out.2⟩
set_option maxHeartbeats 1000000 in
theorem fsFind_any (w : World) (b : Nat) (ρ : Nat → Option Role) (S : Fs) (L : Lay) (h : FsLay w b ρ S L) (n : ByteArray) (hn : n.size ≤ maxLen) :
    Calls Tryz.prog 23 #[.pointer (some ⟨b, 0, none⟩), .string n] w fun e w' => e = .returned (ptrO ((dget n S.now).map L.fb)) ∧ w = w' := by
  have hl := h.now.look n hn
  rw [dmap_get] at hl
  have c0 := h.cells.c0
  generalize ptrO ((dget n S.now).map L.fb) = x at hl ⊢
  clear h hn
  go_enter Tryz.func23, Tryz.ntmps23
  go_wp2
  go_ret
  exact ⟨rfl, rfl⟩
end Go.Proofs.YtmmkgopnccfiiaaGreatDoor
/- simfs' calls: New, Create, Rename, Remove, Sync, SyncDir. -/
namespace Go.Proofs.YtmmkgopnccfiiaaGreatDoor
set_option linter.unusedVariables false
open Go.RowKit Go.Maps
theorem fsNew_ok (r : Nat) (h : r ≤ 16777216) : FsOk (fsNew r) :=
  ⟨List.Pairwise.nil, List.Pairwise.nil, rfl, fun k => by show (List.foldl Chg.run [] (List.take k [])).length ≤ 200; simp, fun x hx => by simp [fsNew] at hx, fun x hx => by simp [fsNew] at hx, fun x hx => by simp [fsNew] at hx, fun x hx => by simp [fsNew] at hx, fun x hx => by simp [fsNew] at hx, h, (show -9223372036854775808 ≤ (0 : Int) ∧ (0 : Int) < 9223372036854775808 by decide), fun n hn => by cases hn⟩
theorem FsAt.zero (w : World) : FsAt (w.alloc (.cells (fsV none none (.slice none 0 0) 0 0 false 0) 49)) w.heap.size (upN (fun _ => none) w.heap.size (some .fs)) (fsNew 0) := by
  refine ⟨⟨none, none, .slice none 0 0, 0, fun _ => 0, fun _ => .slice none 0 0⟩, { cell := heap_alloc_new .., role := upN_same _ _ _, ahead := (fun n hn => by cases hn), now := rfl, nrole := (fun k hk => by cases hk), old := rfl, orole := (fun k hk => by cases hk), wait := OwnK.nil _ _ _ _ _, wrole := (fun k hk => by cases hk), files := (fun i f hf => by simp [fsNew] at hf), top := ?_, ok := fsNew_ok 0 (by omega) }⟩
  intro k hk
  unfold upN at hk
  split at hk
  · rename_i e; rw [e]; simp
  · exact absurd rfl hk
def NewAt (n : Int) (w : World) (e : Ending) (w' : World) : Prop := e = .returned (.pointer (some ⟨w.heap.size, 0, none⟩)) ∧ ∃ ρ, FsAt w' w.heap.size ρ (fsNew (clampN n 16777216)) ∧ Below w.heap.size w w' ∧ ∀ k, ρ k ≠ none → w.heap.size ≤ k
set_option maxHeartbeats 1000000 in
theorem new_any (n : Int) (w : World) : Calls Tryz.prog 5 #[.int .i64 n] w (NewAt n w) := by
  have HZ := Lib.hid (FsAt.zero w)
  have HB := Lib.hid ((Below.refl w.heap.size w).alloc (Nat.le_refl _) (.cells (fsV none none (.slice none 0 0) 0 0 false 0) 49))
  obtain ⟨w1, hw1⟩ : ∃ w1, w.alloc (.cells (fsV none none (.slice none 0 0) 0 0 false 0) 49) = w1 := ⟨_, rfl⟩
  rw [hw1] at HZ HB
  have HR := Lib.hid (room_any w1 _ _ _ HZ.out n)
  unfold fsV at hw1
  go_enter Tryz.func5, Tryz.ntmps5
  go_wp2_with fail
  refine HR.out.mono ?_
  rintro e w2 ⟨rfl, hA, hU⟩
  go_wp2_with fail
  go_ret
  refine ⟨rfl, _, hA, HB.out.trans (hU.below HB.out.size fun k hk e => by omega), fun k hk => ?_⟩
  unfold upN at hk
  split at hk
  · omega
  · exact absurd rfl hk
theorem nil_ptr (o : Option Nat) : ptrO o = .pointer (o.map fun k => ⟨k, 0, none⟩) := by cases o <;> rfl
theorem create_bd {S : Fs} (h : FsOk S) {n : ByteArray} (hq : nameOk n = true) (hg : dget n S.now ≠ none ∨ S.now.length < 200) : (Chg.run S.now ⟨⟨#[]⟩, n, some S.files.length⟩).length ≤ 200 := by
  show (dput n _ (ddel ⟨#[]⟩ S.now)).length ≤ 200
  rw [dput_len]
  have h1 := ddel_len (n := (⟨#[]⟩ : ByteArray)) (l := S.now)
  rcases hg with hg | hg
  · have hne : n ≠ ⟨#[]⟩ := by
      rintro rfl
      cases hq
    have h2 := ddel_less (n := n) (l := ddel ⟨#[]⟩ S.now) (by rw [dget_del_ne h.now hne]; exact hg)
    have := h.few_now
    omega
  · have h2 := ddel_len (n := n) (l := ddel ⟨#[]⟩ S.now)
    omega
theorem create_step (w w1 : World) (b : Nat) (ρ : Nat → Option Role) (S : Fs) (L : Lay) (h : FsLay w1 b ρ S.begun L) (u : UpdF (fun k => k = b) w w1) (n : ByteArray) (hn : n.size ≤ maxLen) (hw : S.wait.length ≤ 1000000000000) (hz : n.size ≤ 20)
    (hl : (Chg.run S.now ⟨⟨#[]⟩, n, some S.files.length⟩).length ≤ 200) :
    Calls Tryz.prog 24 #[.pointer (some ⟨b, 0, none⟩), .string ⟨#[]⟩, .string n, .pointer (some ⟨w1.heap.size, 0, none⟩)] (w1.alloc (.cells (filV (.slice none 0 0) 0) 63)) fun e w' => e = .returned (.tuple #[]) ∧
      FsTo w b ρ w' (Fs.change { S.begun with files := S.files ++ [⟨[], 0⟩] } ⟨⟨#[]⟩, n, some S.files.length⟩) := by
  have h2 := h.newFile
  have h3 := change_any _ b _ _ _ h2 ⟨#[]⟩ n (some S.files.length) (fun i hi => by obtain rfl := Option.some.inj hi; show S.files.length < (S.files ++ [(⟨[], 0⟩ : Fil)]).length; simp) (by decide) (by omega) hl hw
  have e : ptrO ((some S.files.length).map (upN L.fb S.files.length w1.heap.size)) = .pointer (some ⟨w1.heap.size, 0, none⟩) := by simp only [Option.map_some, upN_same]; rfl
  have h4 : Calls _ _ #[.pointer (some ⟨b, 0, none⟩), .string ⟨#[]⟩, .string n, ptrO ((some S.files.length).map (upN L.fb S.files.length w1.heap.size))] _ _ := h3
  rw [e] at h4
  refine h4.mono ?_
  rintro e w' ⟨rfl, hF⟩
  refine ⟨rfl, hF.pre ((u.own h.role).trans (UpdF.of ((Below.refl _ _).alloc (Nat.le_refl _) _))) fun k hk => ?_⟩
  unfold upN at hk
  split at hk
  · rename_i e; exact .inr (by rw [e]; exact u.size)
  · exact .inl hk
set_option maxHeartbeats 2000000 in
set_option maxRecDepth 100000 in
theorem create_any (w : World) (b : Nat) (ρ : Nat → Option Role) (S : Fs) (h : FsAt w b ρ S) (n : ByteArray) (hn : n.size ≤ maxLen) (hw : S.wait.length ≤ 1000000000000) :
    Calls Tryz.prog 7 #[.pointer (some ⟨b, 0, none⟩), .string n] w (OpAt w b ρ (S.create n)) := by
  have HB := Lib.hid (begin_any w b ρ S h)
  have HN := Lib.hid (fun w => name_any n hn w)
  clear h
  go_enter Tryz.func7, Tryz.ntmps7
  go_wp2_with fail
  refine HB.out.mono ?_
  rintro e w1 ⟨rfl, hA, hU⟩
  have HA := Lib.hid hA
  have HU := Lib.hid hU
  clear hA hU
  obtain ⟨z, hz⟩ : ∃ z, dieN S = z := ⟨_, rfl⟩
  rw [hz]
  by_cases hd : S.dies = true
  · have hr : Hid (S.create n = (7, S.begun)) := Lib.hid (by unfold Fs.create; rw [if_pos hd])
    obtain rfl : z = 7 := by rw [← hz]; exact if_pos hd
    clear hz hd
    go_wp2_with fail
    go_ret
    exact OpAt.begun HA.out HU.out hr.out
  · obtain rfl : z = 0 := by rw [← hz]; exact if_neg hd
    clear hz
    go_wp2_with fail
    refine (HN.out _).mono ?_
    rintro e w' ⟨rfl, rfl⟩
    obtain ⟨q, hq⟩ : ∃ q, nameOk n = q := ⟨_, rfl⟩
    rw [hq]
    cases q with
    | false =>
      have hr : Hid (S.create n = (12, S.begun)) := Lib.hid (by unfold Fs.create; rw [if_neg hd, if_pos hq])
      clear hq hd
      go_wp2_with fail
      go_ret
      exact OpAt.begun HA.out HU.out hr.out
    | true =>
      obtain ⟨L, hL⟩ := HA.out
      have HL := Lib.hid hL
      have HF := Lib.hid (fsFind_any w1 b ρ S.begun L hL n hn)
      have c0 := hL.cells.c0
      have hlen := fun ty => hL.now.len (w := w1) ty
      rw [dmap_len] at hlen
      clear hL
      go_wp2_with fail
      refine HF.out.mono ?_
      rintro e w' ⟨rfl, rfl⟩
      rw [nil_ptr]
      have hz : n.size ≤ 20 := by
        unfold nameOk at hq
        simp only [Bool.and_eq_true, decide_eq_true_eq] at hq
        exact hq.1.2
      have hbd : FsOk S.begun := HL.out.ok
      obtain ⟨o, ho⟩ : ∃ o, dget n S.begun.now = o := ⟨_, rfl⟩
      obtain ⟨m, hm⟩ : ∃ m, S.begun.now.length = m := ⟨_, rfl⟩
      rw [ho]
      rw [hm] at hlen
      have HR : Hid (o ≠ none ∨ m < 200 → S.create n = (0, Fs.change { S.begun with files := S.files ++ [⟨[], 0⟩] } ⟨⟨#[]⟩, n, some S.files.length⟩)) := Lib.hid fun hg => by
        unfold Fs.create
        rw [if_neg hd, if_neg (by rw [hq]; simp), if_neg]
        rintro ⟨h1, h2⟩
        have h1' : o = none := ho.symm.trans h1
        have h2' : 200 ≤ m := by rw [← hm]; exact h2
        rcases hg with hg | hg
        · exact hg h1'
        · omega
      have HC : Hid (o ≠ none ∨ m < 200 → Calls Tryz.prog 24 #[.pointer (some ⟨b, 0, none⟩), .string ⟨#[]⟩, .string n, .pointer (some ⟨w1.heap.size, 0, none⟩)] (w1.alloc (.cells #[.slice none 0 0, .int .i64 0] 63)) fun e w' => e = .returned (.tuple #[]) ∧
          FsTo w b ρ w' (Fs.change { S.begun with files := S.files ++ [⟨[], 0⟩] } ⟨⟨#[]⟩, n, some S.files.length⟩)) := Lib.hid fun hg =>
        create_step w w1 b ρ S L HL.out HU.out n hn hw hz (create_bd (S := S.begun) hbd hq (by rw [ho, hm]; exact hg))
      cases o with
      | some i =>
        have HR1 := Lib.hid (HR.out (.inl (by simp)))
        have HC1 := Lib.hid (HC.out (.inl (by simp)))
        clear HR HC hlen hq hd ho hm HL
        go_wp2_with fail
        refine HC1.out.mono ?_
        rintro e w2 ⟨rfl, hF⟩
        go_wp2_with fail
        go_ret
        unfold OpAt
        rw [HR1.out]
        exact ⟨rfl, hF⟩
      | none =>
        by_cases hl : m < 200
        · have HR1 := Lib.hid (HR.out (.inr hl))
          have HC1 := Lib.hid (HC.out (.inr hl))
          have hlz : ¬ ((m : Int) ≥ 200) := by omega
          clear HR HC hq hd ho hm HL
          go_wp2_with fail
          refine HC1.out.mono ?_
          rintro e w2 ⟨rfl, hF⟩
          go_wp2_with fail
          go_ret
          unfold OpAt
          rw [HR1.out]
          exact ⟨rfl, hF⟩
        · have HR1 : Hid (S.create n = (6, S.begun)) := Lib.hid (by
            unfold Fs.create
            rw [if_neg hd, if_neg (by rw [hq]; simp), if_pos ⟨ho, by have h1 : S.now.length = m := hm; omega⟩])
          have hlz : (m : Int) ≥ 200 := by omega
          clear HR HC hq hd ho hm HL
          go_wp2_with fail
          go_ret
          exact OpAt.begun HA.out HU.out HR1.out
end Go.Proofs.YtmmkgopnccfiiaaGreatDoor
/- simfs' calls: Rename, Remove, Sync; a file is written. -/
namespace Go.Proofs.YtmmkgopnccfiiaaGreatDoor
set_option linter.unusedVariables false
open Go.RowKit Go.Maps
theorem rename_bd {S : Fs} (h : FsOk S) {a b : ByteArray} {i : Nat} (hg : dget a S.now = some i) : (Chg.run S.now ⟨a, b, some i⟩).length ≤ 200 := by
  show (dput b i (ddel a S.now)).length ≤ 200
  rw [dput_len]
  have h1 := ddel_len (n := b) (l := ddel a S.now)
  have h2 := ddel_less (n := a) (l := S.now) (by rw [hg]; simp)
  have := h.few_now
  omega
set_option maxHeartbeats 2000000 in
set_option maxRecDepth 100000 in
theorem rename_any (w : World) (b : Nat) (ρ : Nat → Option Role) (S : Fs) (h : FsAt w b ρ S) (n t : ByteArray) (hn : n.size ≤ maxLen) (ht : t.size ≤ maxLen) (hn2 : n.size ≤ 140737488355328) (hw : S.wait.length ≤ 1000000000000) :
    Calls Tryz.prog 89 #[.pointer (some ⟨b, 0, none⟩), .string n, .string t] w (OpAt w b ρ (S.rename n t)) := by
  have HB := Lib.hid (begin_any w b ρ S h)
  have HN := Lib.hid (fun w => name_any t ht w)
  clear h
  go_enter Tryz.func89, Tryz.ntmps89
  go_wp2_with fail
  refine HB.out.mono ?_
  rintro e w1 ⟨rfl, hA, hU⟩
  have HA := Lib.hid hA
  have HU := Lib.hid hU
  clear hA hU
  obtain ⟨z, hz⟩ : ∃ z, dieN S = z := ⟨_, rfl⟩
  rw [hz]
  by_cases hd : S.dies = true
  · have hr : Hid (S.rename n t = (7, S.begun)) := Lib.hid (by unfold Fs.rename; rw [if_pos hd])
    obtain rfl : z = 7 := by rw [← hz]; exact if_pos hd
    clear hz hd
    go_wp2_with fail
    go_ret
    exact OpAt.begun HA.out HU.out hr.out
  · obtain rfl : z = 0 := by rw [← hz]; exact if_neg hd
    clear hz
    obtain ⟨L, hL⟩ := HA.out
    have HL := Lib.hid hL
    have HF := Lib.hid (fsFind_any w1 b ρ S.begun L hL n hn)
    clear hL
    go_wp2_with fail
    refine HF.out.mono ?_
    rintro e w' ⟨rfl, rfl⟩
    rw [nil_ptr]
    obtain ⟨o, ho⟩ : ∃ o, dget n S.begun.now = o := ⟨_, rfl⟩
    rw [ho]
    cases o with
    | none =>
      have hr : Hid (S.rename n t = (3, S.begun)) := Lib.hid (by unfold Fs.rename; rw [if_neg hd, show dget n S.now = none from ho])
      clear ho hd
      go_wp2_with fail
      go_ret
      exact OpAt.begun HA.out HU.out hr.out
    | some i =>
      go_wp2_with fail
      refine (HN.out _).mono ?_
      rintro e w' ⟨rfl, rfl⟩
      obtain ⟨q, hq⟩ : ∃ q, nameOk t = q := ⟨_, rfl⟩
      rw [hq]
      cases q with
      | false =>
        have hr : Hid (S.rename n t = (12, S.begun)) := Lib.hid (by unfold Fs.rename; rw [if_neg hd, show dget n S.now = some i from ho]; simp only [hq, if_true])
        clear hq hd ho
        go_wp2_with fail
        go_ret
        exact OpAt.begun HA.out HU.out hr.out
      | true =>
        have hr : Hid (S.rename n t = (0, S.begun.change ⟨n, t, some i⟩)) := Lib.hid (by unfold Fs.rename; rw [if_neg hd, show dget n S.now = some i from ho]; simp only [hq]; rfl)
        have hz : t.size ≤ 20 := by
          unfold nameOk at hq
          simp only [Bool.and_eq_true, decide_eq_true_eq] at hq
          exact hq.1.2
        have HC : Hid (Calls Tryz.prog 24 #[.pointer (some ⟨b, 0, none⟩), .string n, .string t, .pointer (some ⟨L.fb i, 0, none⟩)] w1 fun e w' => e = .returned (.tuple #[]) ∧ FsTo w1 b ρ w' (S.begun.change ⟨n, t, some i⟩)) := Lib.hid
          (change_any w1 b ρ S.begun L HL.out n t (some i) (fun j hj => by
            obtain rfl := Option.some.inj hj
            exact HL.out.ok.inNow (n, i) ((dget_mem HL.out.ok.now).1 ho)) hn2 (by omega) (rename_bd HL.out.ok ho) hw)
        clear hq hd ho hz HL
        go_wp2_with fail
        refine HC.out.mono ?_
        rintro e w2 ⟨rfl, hF⟩
        go_wp2_with fail
        go_ret
        unfold OpAt
        rw [hr.out]
        exact ⟨rfl, hF.pre (HU.out.own HA.out.role) fun k hk => .inl hk⟩
/-- A file was written: its cells, its bytes. -/
theorem FsLay.setFile {w w' : World} {b i : Nat} {ρ : Nat → Option Role} {S : Fs} {L : Lay} {f f' : Fil} {v' : Value} (h : FsLay w b ρ S L) (hi : S.files[i]? = some f) (u : UpdF (fun k => k = L.fb i ∨ (L.fv i).ownBlock = some k) w w')
    (hc : w'.heap[L.fb i]? = some (.cells (filV v' f'.synced) 63 (0, 0))) (ho : OwnB 0 w' v' f'.bytes) (hg : ∀ g, v'.ownBlock = some g → (L.fv i).ownBlock = some g ∨ w.heap.size ≤ g) (ok : f'.synced ≤ f'.bytes.length ∧ f'.bytes.length ≤ 16777216) :
    FsTo w b ρ w' { S with files := S.files.set i f' } := by
  have hf := h.files i f hi
  have keep : ∀ r x, ρ x = some r → r ≠ .bytes i → (if v'.ownBlock = some x then some (Role.bytes i) else ρ x) = some r := fun r x hx hr => by
    rw [if_neg]
    · exact hx
    · intro e
      rcases hg x e with e | e
      · rw [hf.brole x e] at hx; exact hr (Option.some.inj hx).symm
      · have := h.top x (by rw [hx]; simp); omega
  have blk : ∀ r x, ρ x = some r → r ≠ .file i → r ≠ .bytes i → w'.heap[x]? = w.heap[x]? := fun r x hx h0 h1 => u.block x (h.top x (by rw [hx]; simp)) (by
    rintro (e | e)
    · rw [e, hf.role] at hx; exact h0 (Option.some.inj hx).symm
    · rw [hf.brole x e] at hx; exact h1 (Option.some.inj hx).symm)
  refine ⟨fun x => if v'.ownBlock = some x then some (.bytes i) else ρ x, ⟨{ L with fv := upN L.fv i v' }, { cell := (blk _ _ h.role (by simp) (by simp)).trans h.cell, role := keep _ _ h.role (by simp), ahead := h.ahead, now := ?_, nrole := ?_, old := ?_, orole := ?_, wait := ?_, wrole := ?_, files := ?_, top := ?_, ok := h.ok.setFile i f' ok }⟩, ?_, ?_⟩
  · exact h.now.same fun j hj => blk _ j (h.nrole j hj) (by simp) (by simp)
  · exact fun j hj => keep _ _ (h.nrole j hj) (by simp)
  · exact h.old.same fun j hj => blk _ j (h.orole j hj) (by simp) (by simp)
  · exact fun j hj => keep _ _ (h.orole j hj) (by simp)
  · exact row_same h.wait fun j hj => blk _ j (h.wrole j hj) (by simp) (by simp)
  · exact fun j hj => keep _ _ (h.wrole j hj) (by simp)
  · intro j g hj
    show FileAt _ _ j (L.fb j) (upN L.fv i v' j) g
    by_cases hij : j = i
    · subst hij
      have hlt : j < S.files.length := (List.getElem?_eq_some_iff.1 hi).1
      have : g = f' := by
        rw [List.getElem?_set_self hlt] at hj
        exact (Option.some.inj hj).symm
      subst this
      rw [upN_same]
      exact ⟨hc, keep _ _ hf.role (by simp), ho, fun k hk => if_pos hk⟩
    · have hj' : S.files[j]? = some g := by rwa [List.getElem?_set_ne (fun e => hij e.symm)] at hj
      have h1 := h.files j g hj'
      have hne : Role.file j ≠ Role.file i := fun e => hij (by injection e)
      have hne2 : Role.bytes j ≠ Role.bytes i := fun e => hij (by injection e)
      rw [upN_ne _ _ hij]
      exact ⟨(blk _ _ h1.role hne (by simp)).trans h1.cell, keep _ _ h1.role (by simp), row_same h1.own fun k hk => blk _ k (h1.brole k hk) (by simp) hne2, fun k hk => keep _ _ (h1.brole k hk) hne2⟩
  · intro j hj
    split at hj
    · rename_i e; exact row_lt ho j e
    · exact Nat.lt_of_lt_of_le (h.top j hj) u.size
  · refine u.mono fun j hj hf' => ?_
    rcases hf' with e | e
    · rw [e, hf.role]; simp
    · rw [hf.brole j e]; simp
  · intro j hj
    have hj' : (if v'.ownBlock = some j then some (Role.bytes i) else ρ j) ≠ none := hj
    clear hj
    split at hj'
    · rename_i e
      rcases hg j e with e1 | e1
      · exact .inl (by rw [hf.brole j e1]; simp)
      · exact .inr e1
    · rename_i e
      exact .inl hj'
theorem Fs.file_some {S : Fs} {i : Nat} (h : i < S.files.length) : S.files[i]? = some (S.file i) := by
  unfold Fs.file
  rw [List.getD_eq_getElem?_getD, List.getElem?_eq_getElem h]; rfl
set_option maxHeartbeats 2000000 in
set_option maxRecDepth 100000 in
theorem sync_any (w : World) (b : Nat) (ρ : Nat → Option Role) (S : Fs) (h : FsAt w b ρ S) (n : ByteArray) (hn : n.size ≤ maxLen) :
    Calls Tryz.prog 61 #[.pointer (some ⟨b, 0, none⟩), .string n] w (OpAt w b ρ (S.sync n)) := by
  have HB := Lib.hid (begin_any w b ρ S h)
  clear h
  go_enter Tryz.func61, Tryz.ntmps61
  go_wp2_with fail
  refine HB.out.mono ?_
  rintro e w1 ⟨rfl, hA, hU⟩
  have HA := Lib.hid hA
  have HU := Lib.hid hU
  clear hA hU
  obtain ⟨z, hz⟩ : ∃ z, dieN S = z := ⟨_, rfl⟩
  rw [hz]
  by_cases hd : S.dies = true
  · have hr : Hid (S.sync n = (7, S.begun)) := Lib.hid (by unfold Fs.sync; rw [if_pos hd])
    obtain rfl : z = 7 := by rw [← hz]; exact if_pos hd
    clear hz hd
    go_wp2_with fail
    go_ret
    exact OpAt.begun HA.out HU.out hr.out
  · obtain rfl : z = 0 := by rw [← hz]; exact if_neg hd
    clear hz
    obtain ⟨L, hL⟩ := HA.out
    have HL := Lib.hid hL
    have HF := Lib.hid (fsFind_any w1 b ρ S.begun L hL n hn)
    clear hL
    go_wp2_with fail
    refine HF.out.mono ?_
    rintro e w' ⟨rfl, rfl⟩
    rw [nil_ptr]
    obtain ⟨o, ho⟩ : ∃ o, dget n S.begun.now = o := ⟨_, rfl⟩
    rw [ho]
    cases o with
    | none =>
      have hr : Hid (S.sync n = (3, S.begun)) := Lib.hid (by unfold Fs.sync; rw [if_neg hd, show dget n S.now = none from ho])
      clear ho hd
      go_wp2_with fail
      go_ret
      exact OpAt.begun HA.out HU.out hr.out
    | some i =>
      have hr : Hid (S.sync n = (0, { S.begun with files := S.files.set i ⟨(S.file i).bytes, (S.file i).bytes.length⟩ })) := Lib.hid (by unfold Fs.sync; rw [if_neg hd, show dget n S.now = some i from ho])
      have hil : i < S.files.length := HL.out.ok.inNow (n, i) ((dget_mem HL.out.ok.now).1 ho)
      have hfi : S.files[i]? = some (S.file i) := Fs.file_some hil
      have hf := HL.out.files i _ hfi
      obtain ⟨a, len, cap, hv, hlen, -, -⟩ := hf.own.form
      have hcell := hf.cell
      rw [hv] at hcell
      have c0 := (fil_cells hcell).c0
      have c1 := (fil_cells hcell).c1
      have f1 := (fil_cells hcell).free 1
      have HX : Hid (FsTo w b ρ (w1.setCell ⟨L.fb i, 1, none⟩ (.int .i64 (len : Int))) { S.begun with files := S.files.set i ⟨(S.file i).bytes, (S.file i).bytes.length⟩ }) := Lib.hid (by
        have u := (UpdF.refl (fun k => k = L.fb i ∨ (L.fv i).ownBlock = some k) w1).set (L.fb i) 1 (.int .i64 (len : Int)) (.inl rfl)
        refine (HL.out.setFile (f' := ⟨(S.file i).bytes, (S.file i).bytes.length⟩) (v' := L.fv i) hfi u ?_ ?_ (fun g hg => .inl hg) ⟨Nat.le_refl _, (HL.out.ok.file_bd i).2⟩).pre (HU.out.own HA.out.role) fun k hk => .inl hk
        · rw [cells_set hcell, hv, hlen]; rfl
        · refine row_same hf.own fun k hk => Below.heap_setCell _ _ _ _ fun e => ?_
          have h1 := hf.brole k hk
          have e' : k = L.fb i := e
          rw [e', hf.role] at h1; cases h1)
      clear ho hd hil hfi hf hv hcell hlen HL
      go_wp2_with fail
      go_ret
      unfold OpAt
      rw [hr.out]
      exact ⟨rfl, HX.out⟩
end Go.Proofs.YtmmkgopnccfiiaaGreatDoor
