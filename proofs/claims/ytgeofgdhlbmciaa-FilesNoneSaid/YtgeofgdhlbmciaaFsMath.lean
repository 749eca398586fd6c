/- Plain mathematics of files that may fail: a directory as names in order, changes that wait, what a crash leaves. -/
import Derived.Test.YtgeofgdhlbmciaaBytesOrd
namespace Go.Proofs.Ytgeofgdhlbmciaa
set_option linter.unusedVariables false
open Go.RowKit
/-- A directory: names, each with its file's number. -/
abbrev Dir := List (ByteArray × Nat)
def DirOk (l : Dir) : Prop := l.Pairwise fun x y => bl x.1 y.1
def dget (n : ByteArray) : Dir → Option Nat
  | [] => none
  | x :: r => if x.1 = n then some x.2 else dget n r
def ddel (n : ByteArray) : Dir → Dir
  | [] => []
  | x :: r => if x.1 = n then ddel n r else x :: ddel n r
def dins (x : ByteArray × Nat) : Dir → Dir
  | [] => [x]
  | y :: r => if bl x.1 y.1 then x :: y :: r else y :: dins x r
def dput (n : ByteArray) (i : Nat) (l : Dir) : Dir := dins (n, i) (ddel n l)
theorem ddel_mem {n : ByteArray} {x : ByteArray × Nat} : ∀ {l : Dir}, x ∈ ddel n l ↔ x ∈ l ∧ x.1 ≠ n
  | [] => by simp [ddel]
  | y :: r => by
    unfold ddel
    split
    · rename_i h
      rw [ddel_mem (l := r), List.mem_cons]
      constructor
      · rintro ⟨h1, h2⟩; exact ⟨.inr h1, h2⟩
      · rintro ⟨rfl | h1, h2⟩
        · exact absurd h h2
        · exact ⟨h1, h2⟩
    · rename_i h
      rw [List.mem_cons, ddel_mem (l := r), List.mem_cons]
      constructor
      · rintro (rfl | ⟨h1, h2⟩)
        · exact ⟨.inl rfl, h⟩
        · exact ⟨.inr h1, h2⟩
      · rintro ⟨rfl | h1, h2⟩
        · exact .inl rfl
        · exact .inr ⟨h1, h2⟩
theorem dins_mem {x y : ByteArray × Nat} : ∀ {l : Dir}, y ∈ dins x l ↔ y = x ∨ y ∈ l
  | [] => by simp [dins]
  | z :: r => by
    unfold dins
    split
    · simp
    · rw [List.mem_cons, dins_mem (l := r), List.mem_cons]
      constructor
      · rintro (h | h | h)
        · exact .inr (.inl h)
        · exact .inl h
        · exact .inr (.inr h)
      · rintro (h | h | h)
        · exact .inr (.inl h)
        · exact .inl h
        · exact .inr (.inr h)
theorem ddel_ok {n : ByteArray} : ∀ {l : Dir}, DirOk l → DirOk (ddel n l)
  | [], _ => List.Pairwise.nil
  | y :: r, h => by
    obtain ⟨h1, h2⟩ := List.pairwise_cons.1 h
    unfold ddel
    split
    · exact ddel_ok h2
    · exact List.pairwise_cons.2 ⟨fun x hx => h1 x (ddel_mem.1 hx).1, ddel_ok h2⟩
theorem dins_ok {x : ByteArray × Nat} : ∀ {l : Dir}, DirOk l → (∀ y ∈ l, y.1 ≠ x.1) → DirOk (dins x l)
  | [], _, _ => List.pairwise_cons.2 ⟨fun y h => by simp at h, List.Pairwise.nil⟩
  | y :: r, h, hn => by
    obtain ⟨h1, h2⟩ := List.pairwise_cons.1 h
    unfold dins
    split
    · rename_i hl
      refine List.pairwise_cons.2 ⟨fun z hz => ?_, h⟩
      rcases List.mem_cons.1 hz with rfl | hz
      · exact hl
      · exact bl_trans hl (h1 z hz)
    · rename_i hl
      refine List.pairwise_cons.2 ⟨fun z hz => ?_, dins_ok h2 fun z hz => hn z (List.mem_cons_of_mem _ hz)⟩
      rcases dins_mem.1 hz with rfl | hz
      · rcases bl_tri y.1 z.1 with h3 | h3 | h3
        · exact h3
        · exact absurd h3 (hn y (List.mem_cons_self ..))
        · exact absurd h3 hl
      · exact h1 z hz
theorem dput_ok {n : ByteArray} {i : Nat} {l : Dir} (h : DirOk l) : DirOk (dput n i l) := dins_ok (ddel_ok h) fun _ hy => (ddel_mem.1 hy).2
theorem dget_mem {n : ByteArray} {i : Nat} : ∀ {l : Dir}, DirOk l → (dget n l = some i ↔ (n, i) ∈ l)
  | [], _ => by simp [dget]
  | y :: r, h => by
    obtain ⟨h1, h2⟩ := List.pairwise_cons.1 h
    unfold dget
    split
    · rename_i e
      subst e
      constructor
      · intro k; obtain rfl := Option.some.inj k; exact List.mem_cons_self ..
      · intro k
        rcases List.mem_cons.1 k with e | k
        · rw [← e]
        · exact absurd (h1 _ k) (bl_irr _)
    · rename_i e
      rw [dget_mem h2, List.mem_cons]
      constructor
      · exact .inr
      · rintro (k | k)
        · rw [← k] at e; exact absurd rfl e
        · exact k
theorem dget_none {n : ByteArray} : ∀ {l : Dir}, dget n l = none ↔ ∀ x ∈ l, x.1 ≠ n
  | [] => by simp [dget]
  | y :: r => by
    unfold dget
    split
    · rename_i e
      constructor
      · intro k; cases k
      · intro k; exact absurd e (k y (List.mem_cons_self ..))
    · rename_i e
      rw [dget_none (l := r)]
      constructor
      · intro k x hx
        rcases List.mem_cons.1 hx with rfl | hx
        · exact e
        · exact k x hx
      · exact fun k x hx => k x (List.mem_cons_of_mem _ hx)
theorem dget_put {n : ByteArray} {i : Nat} {l : Dir} (h : DirOk l) : dget n (dput n i l) = some i := (dget_mem (dput_ok h)).2 (dins_mem.2 (.inl rfl))
theorem dget_put_ne {n m : ByteArray} {i : Nat} {l : Dir} (h : DirOk l) (hm : m ≠ n) : dget m (dput n i l) = dget m l := by
  refine Option.ext fun j => ?_
  rw [dget_mem (dput_ok h), dget_mem h]
  unfold dput
  rw [dins_mem, ddel_mem]
  constructor
  · rintro (k | k)
    · exact absurd (congrArg Prod.fst k) hm
    · exact k.1
  · exact fun k => .inr ⟨k, hm⟩
theorem dget_del {n : ByteArray} {l : Dir} : dget n (ddel n l) = none := dget_none.2 fun _ hx => (ddel_mem.1 hx).2
theorem dget_del_ne {n m : ByteArray} {l : Dir} (h : DirOk l) (hm : m ≠ n) : dget m (ddel n l) = dget m l := by
  refine Option.ext fun j => ?_
  rw [dget_mem (ddel_ok h), dget_mem h, ddel_mem]
  exact ⟨fun k => k.1, fun k => ⟨k, hm⟩⟩
theorem ddel_len {n : ByteArray} : ∀ {l : Dir}, (ddel n l).length ≤ l.length
  | [] => Nat.le_refl _
  | y :: r => by
    unfold ddel
    split
    · exact Nat.le_succ_of_le ddel_len
    · exact Nat.succ_le_succ ddel_len
theorem ddel_self {n : ByteArray} : ∀ {l : Dir}, dget n l = none → ddel n l = l
  | [], _ => rfl
  | y :: r, h => by
    have h1 := dget_none.1 h y (List.mem_cons_self ..)
    unfold ddel
    rw [if_neg h1]
    congr 1
    refine ddel_self (dget_none.2 fun x hx => dget_none.1 h x (List.mem_cons_of_mem _ hx))
theorem ddel_less {n : ByteArray} : ∀ {l : Dir}, dget n l ≠ none → (ddel n l).length + 1 ≤ l.length
  | [], h => absurd rfl h
  | y :: r, h => by
    unfold ddel
    split
    · exact Nat.succ_le_succ ddel_len
    · rename_i hn
      have : dget n r ≠ none := by
        unfold dget at h
        rwa [if_neg hn] at h
      exact Nat.succ_le_succ (ddel_less this)
theorem dins_len (x : ByteArray × Nat) : ∀ l : Dir, (dins x l).length = l.length + 1
  | [] => rfl
  | y :: r => by
    unfold dins
    split
    · rfl
    · simp only [List.length_cons, dins_len x r]
theorem dput_len (n : ByteArray) (i : Nat) (l : Dir) : (dput n i l).length = (ddel n l).length + 1 := dins_len _ _
/-- The numbers of the files told by others. -/
def dmap (f : Nat → Nat) (l : Dir) : Dir := l.map fun x => (x.1, f x.2)
theorem dmap_len (f : Nat → Nat) (l : Dir) : (dmap f l).length = l.length := List.length_map _
theorem dmap_get (f : Nat → Nat) (n : ByteArray) : ∀ l : Dir, dget n (dmap f l) = (dget n l).map f
  | [] => rfl
  | y :: r => by
    show (if y.1 = n then some (f y.2) else dget n (dmap f r)) = (if y.1 = n then some y.2 else dget n r).map f
    split
    · rfl
    · exact dmap_get f n r
theorem dmap_del (f : Nat → Nat) (n : ByteArray) : ∀ l : Dir, ddel n (dmap f l) = dmap f (ddel n l)
  | [] => rfl
  | y :: r => by
    show (if y.1 = n then ddel n (dmap f r) else (y.1, f y.2) :: ddel n (dmap f r)) = dmap f (if y.1 = n then ddel n r else y :: ddel n r)
    split
    · exact dmap_del f n r
    · show _ = (y.1, f y.2) :: dmap f (ddel n r)
      rw [dmap_del f n r]
theorem dmap_ins (f : Nat → Nat) (n : ByteArray) (i : Nat) : ∀ l : Dir, dins (n, f i) (dmap f l) = dmap f (dins (n, i) l)
  | [] => rfl
  | y :: r => by
    show (if bl n y.1 then (n, f i) :: (y.1, f y.2) :: dmap f r else (y.1, f y.2) :: dins (n, f i) (dmap f r)) = dmap f (if bl n y.1 then (n, i) :: y :: r else y :: dins (n, i) r)
    split
    · rfl
    · rw [dmap_ins f n i r]; rfl
theorem dmap_put (f : Nat → Nat) (n : ByteArray) (i : Nat) (l : Dir) : dput n (f i) (dmap f l) = dmap f (dput n i l) := by
  unfold dput
  rw [dmap_del, dmap_ins]
theorem dmap_ok {f : Nat → Nat} {l : Dir} (h : DirOk l) : DirOk (dmap f l) := List.pairwise_map.2 h
theorem dmap_congr {f g : Nat → Nat} {l : Dir} (h : ∀ x ∈ l, f x.2 = g x.2) : dmap f l = dmap g l := List.map_congr_left fun x hx => by rw [h x hx]
/-- A change that waits: nothing is named from any more, the file is named to. -/
structure Chg where
  fr : ByteArray
  to : ByteArray
  file : Option Nat
def Chg.run (l : Dir) (c : Chg) : Dir := match c.file with
  | none => ddel c.fr l
  | some i => dput c.to i (ddel c.fr l)
theorem Chg.run_ok {l : Dir} (h : DirOk l) (c : Chg) : DirOk (Chg.run l c) := by
  unfold Chg.run
  split
  · exact ddel_ok h
  · exact dput_ok (ddel_ok h)
theorem foldl_ok : ∀ (cs : List Chg) {l : Dir}, DirOk l → DirOk (cs.foldl Chg.run l)
  | [], _, h => h
  | c :: cs, _, h => foldl_ok cs (Chg.run_ok h c)
theorem Chg.run_mem {l : Dir} {c : Chg} {x : ByteArray × Nat} (h : x ∈ Chg.run l c) : x ∈ l ∨ c.file = some x.2 := by
  unfold Chg.run at h
  split at h
  · exact .inl (ddel_mem.1 h).1
  · rename_i i hi
    rcases dins_mem.1 h with rfl | h
    · exact .inr hi
    · exact .inl (ddel_mem.1 (ddel_mem.1 h).1).1
theorem foldl_mem : ∀ (cs : List Chg) {l : Dir} {x : ByteArray × Nat}, x ∈ cs.foldl Chg.run l → x ∈ l ∨ ∃ c ∈ cs, c.file = some x.2
  | [], _, _, h => .inl h
  | c :: cs, l, x, h => by
    rcases foldl_mem cs h with h | ⟨d, hd, e⟩
    · rcases Chg.run_mem h with h | h
      · exact .inl h
      · exact .inr ⟨c, List.mem_cons_self .., h⟩
    · exact .inr ⟨d, List.mem_cons_of_mem _ hd, e⟩
def Chg.at (f : Nat → Nat) (c : Chg) : Chg := ⟨c.fr, c.to, c.file.map f⟩
theorem Chg.run_map (f : Nat → Nat) (l : Dir) (c : Chg) : Chg.run (dmap f l) (c.at f) = dmap f (Chg.run l c) := by
  obtain ⟨a, b, i⟩ := c
  cases i with
  | none => exact dmap_del f a l
  | some i => show dput b (f i) (ddel a (dmap f l)) = dmap f (dput b i (ddel a l)); rw [dmap_del, dmap_put]
/-- A file: its bytes, of which the first so many are synced. -/
structure Fil where
  bytes : List UInt8
  synced : Nat
/-- The files; the directory, as it was synced, what waits; the room; how many calls; the call that is to fail. -/
structure Fs where
  files : List Fil
  now : Dir
  old : Dir
  wait : List Chg
  room : Nat
  calls : Int
  fails : Option Nat
def fsNew (room : Nat) : Fs := ⟨[], [], [], [], room, 0, none⟩
def Fs.file (f : Fs) (i : Nat) : Fil := f.files.getD i ⟨[], 0⟩
/-- All files' bytes. -/
def Fs.used (f : Fs) : Nat := (f.now.map fun x => (f.file x.2).bytes.length).sum
structure FsOk (f : Fs) : Prop where
  now : DirOk f.now
  old : DirOk f.old
  same : f.now = f.wait.foldl Chg.run f.old
  few : ∀ k, ((f.wait.take k).foldl Chg.run f.old).length ≤ 200
  inNow : ∀ x ∈ f.now, x.2 < f.files.length
  inOld : ∀ x ∈ f.old, x.2 < f.files.length
  inWait : ∀ c ∈ f.wait, ∀ i, c.file = some i → i < f.files.length
  sizes : ∀ c ∈ f.wait, c.fr.size ≤ 140737488355328 ∧ c.to.size ≤ 140737488355328
  synced : ∀ p ∈ f.files, p.synced ≤ p.bytes.length ∧ p.bytes.length ≤ 16777216
  room : f.room ≤ 16777216
  calls : -9223372036854775808 ≤ f.calls ∧ f.calls < 9223372036854775808
  fails : ∀ n, f.fails = some n → n < 9223372036854775808
theorem FsOk.few_now {f : Fs} (h : FsOk f) : f.now.length ≤ 200 := by
  have := h.few f.wait.length
  rwa [List.take_length, ← h.same] at this
theorem FsOk.few_old {f : Fs} (h : FsOk f) : f.old.length ≤ 200 := h.few 0
theorem sum_bd {α : Type} (g : α → Nat) (b : Nat) : ∀ l : List α, (∀ x ∈ l, g x ≤ b) → (l.map g).sum ≤ l.length * b
  | [], _ => by simp
  | x :: r, h => by
    rw [List.map_cons, List.sum_cons, List.length_cons, Nat.add_mul, Nat.one_mul]
    have := sum_bd g b r fun y hy => h y (List.mem_cons_of_mem _ hy)
    have := h x (List.mem_cons_self ..)
    omega
theorem FsOk.file_bd {f : Fs} (h : FsOk f) (i : Nat) : (f.file i).synced ≤ (f.file i).bytes.length ∧ (f.file i).bytes.length ≤ 16777216 := by
  unfold Fs.file
  rw [List.getD_eq_getElem?_getD]
  cases hi : f.files[i]? with
  | none => simp
  | some p => exact h.synced p (List.mem_of_getElem? hi)
theorem FsOk.used_bd {f : Fs} (h : FsOk f) : f.used ≤ 3355443200 := by
  have h1 := sum_bd (fun x : ByteArray × Nat => (f.file x.2).bytes.length) 16777216 f.now fun x _ => (h.file_bd x.2).2
  have h2 := h.few_now
  unfold Fs.used
  omega
/-! ### the calls -/
def nmB (c : UInt8) : Bool := (97 ≤ c.toNat && c.toNat ≤ 122) || (65 ≤ c.toNat && c.toNat ≤ 90) || (48 ≤ c.toNat && c.toNat ≤ 57) || c.toNat == 46
def nameOk (n : ByteArray) : Bool := decide (1 ≤ n.size) && decide (n.size ≤ 20) && n.data.toList.all nmB
def inc64 (c : Int) : Int := wrap64 (c + 1)
/-- A changing call was counted. -/
def Fs.begun (f : Fs) : Fs := { f with calls := inc64 f.calls, fails := match f.fails with | none => none | some 0 => none | some (n + 1) => some n }
theorem begun_none {f : Fs} (h : f.fails = none) : f.begun.fails = none := by unfold Fs.begun; rw [h]
theorem begun_zero {f : Fs} (h : f.fails = some 0) : f.begun.fails = none := by unfold Fs.begun; rw [h]
theorem begun_succ {f : Fs} {n : Nat} (h : f.fails = some (n + 1)) : f.begun.fails = some n := by unfold Fs.begun; rw [h]
/-- Just this call fails. -/
def Fs.dies (f : Fs) : Bool := f.fails == some 0
/-- A change of the directory. -/
def Fs.change (f : Fs) (c : Chg) : Fs := { f with now := Chg.run f.now c, wait := f.wait ++ [c] }
def Fs.create (f : Fs) (n : ByteArray) : Int × Fs :=
  if f.dies then (7, f.begun) else if nameOk n = false then (12, f.begun) else if dget n f.now = none ∧ 200 ≤ f.now.length then (6, f.begun) else
    (0, Fs.change { f.begun with files := f.files ++ [⟨[], 0⟩] } ⟨⟨#[]⟩, n, some f.files.length⟩)
def Fs.append (f : Fs) (n : ByteArray) (b : List UInt8) : Int × Fs :=
  if f.dies then (7, f.begun) else match dget n f.now with
  | none => (3, f.begun)
  | some i => if f.room < f.used + b.length then (6, f.begun) else (0, { f.begun with files := f.files.set i ⟨(f.file i).bytes ++ b, (f.file i).synced⟩ })
def Fs.sync (f : Fs) (n : ByteArray) : Int × Fs :=
  if f.dies then (7, f.begun) else match dget n f.now with
  | none => (3, f.begun)
  | some i => (0, { f.begun with files := f.files.set i ⟨(f.file i).bytes, (f.file i).bytes.length⟩ })
def Fs.syncDir (f : Fs) : Int × Fs :=
  if f.dies then (7, f.begun) else (0, { f.begun with old := f.now, wait := [] })
def Fs.rename (f : Fs) (a b : ByteArray) : Int × Fs :=
  if f.dies then (7, f.begun) else match dget a f.now with
  | none => (3, f.begun)
  | some i => if nameOk b = false then (12, f.begun) else (0, f.begun.change ⟨a, b, some i⟩)
def Fs.remove (f : Fs) (n : ByteArray) : Int × Fs :=
  if f.dies then (7, f.begun) else match dget n f.now with
  | none => (3, f.begun)
  | some _ => (0, f.begun.change ⟨n, ⟨#[]⟩, none⟩)
def clampN (n : Int) (most : Nat) : Nat := min n.toNat most
def Fs.fail (f : Fs) (n : Int) : Fs := { f with fails := if 0 ≤ n then some n.toNat else none }
def Fs.setRoom (f : Fs) (n : Int) : Fs := { f with room := clampN n 16777216 }
def Fs.spoil (f : Fs) (n : ByteArray) (k : Int) (x : UInt8) : Int × Fs := match dget n f.now with
  | none => (3, f)
  | some i => if k < 0 ∨ (f.file i).bytes.length ≤ k then (9, f) else (0, { f with files := f.files.set i ⟨(f.file i).bytes.set k.toNat ((f.file i).bytes.getD k.toNat 0 ^^^ x), (f.file i).synced⟩ })
/-- what is left of a file -/
def Fil.crash (p : Fil) (t : Int) : Fil := ⟨p.bytes.take (p.synced + clampN t (p.bytes.length - p.synced)), p.synced + clampN t (p.bytes.length - p.synced)⟩
/-- the names with the numbers k, k + 1, .. -/
def numb : Nat → Dir → Dir
  | _, [] => []
  | k, x :: r => (x.1, k) :: numb (k + 1) r
/-- the directory that a crash leaves -/
def Fs.left (f : Fs) (n : Int) : Dir := (f.wait.take n.toNat).foldl Chg.run f.old
/-- the i-th of the tails; none there: 0 -/
def Fs.crashFiles (f : Fs) (n : Int) (tails : List Int) : List Fil := (f.left n).mapIdx fun i x => (f.file x.2).crash (tails.getD i 0)
def Fs.crash (f : Fs) (n : Int) (tails : List Int) : Fs := ⟨f.crashFiles n tails, numb 0 (f.left n), numb 0 (f.left n), [], f.room, 0, none⟩
theorem numb_name : ∀ (r : Dir) (k : Nat) (y : ByteArray × Nat), y ∈ numb k r → ∃ z ∈ r, z.1 = y.1
  | [], _, _, h => by simp [numb] at h
  | z :: r, k, y, h => by
    rcases List.mem_cons.1 h with rfl | h
    · exact ⟨z, List.mem_cons_self .., rfl⟩
    · obtain ⟨u, hu, e⟩ := numb_name r _ _ h
      exact ⟨u, List.mem_cons_of_mem _ hu, e⟩
theorem numb_ok : ∀ (l : Dir) (k : Nat), DirOk l → DirOk (numb k l)
  | [], _, _ => List.Pairwise.nil
  | x :: r, k, h => by
    obtain ⟨h1, h2⟩ := List.pairwise_cons.1 h
    refine List.pairwise_cons.2 ⟨fun y hy => ?_, numb_ok r (k + 1) h2⟩
    obtain ⟨z, hz, e⟩ := numb_name r _ _ hy
    show bl x.1 y.1
    rw [← e]
    exact h1 z hz
theorem numb_len : ∀ (l : Dir) (k : Nat), (numb k l).length = l.length
  | [], _ => rfl
  | x :: r, k => by rw [numb, List.length_cons, numb_len r, List.length_cons]
theorem numb_bd : ∀ (l : Dir) (k : Nat) (x : ByteArray × Nat), x ∈ numb k l → x.2 < k + l.length
  | [], _, _, h => by simp [numb] at h
  | z :: r, k, x, h => by
    rcases List.mem_cons.1 h with rfl | h
    · simp
    · have := numb_bd r _ _ h
      rw [List.length_cons]; omega
theorem clamp_le (n : Int) (m : Nat) : clampN n m ≤ m := Nat.min_le_right _ _
theorem Fil.crash_ok {p : Fil} (h : p.synced ≤ p.bytes.length) (t : Int) : (p.crash t).synced = (p.crash t).bytes.length ∧ (p.crash t).bytes.length ≤ p.bytes.length := by
  unfold Fil.crash
  have := clamp_le t (p.bytes.length - p.synced)
  simp only [List.length_take]
  omega
/-! ### what stays true -/
theorem inc64_bd (c : Int) : -9223372036854775808 ≤ inc64 c ∧ inc64 c < 9223372036854775808 := by
  unfold inc64 wrap64
  omega
theorem FsOk.begun {f : Fs} (h : FsOk f) : FsOk f.begun := by
  refine { h with calls := inc64_bd _, fails := ?_ }
  intro n hn
  unfold Fs.begun at hn
  dsimp only at hn
  cases hf : f.fails with
  | none => rw [hf] at hn; cases hn
  | some k =>
    have := h.fails k hf
    rw [hf] at hn
    cases k with
    | zero => cases hn
    | succ k => obtain rfl := Option.some.inj hn; omega
theorem FsOk.change {f : Fs} (h : FsOk f) {c : Chg} (hi : ∀ i, c.file = some i → i < f.files.length) (hs : c.fr.size ≤ 140737488355328 ∧ c.to.size ≤ 140737488355328) (hl : (Chg.run f.now c).length ≤ 200) : FsOk (f.change c) := by
  have hsame : Chg.run f.now c = (f.wait ++ [c]).foldl Chg.run f.old := by rw [List.foldl_append, List.foldl_cons, List.foldl_nil, ← h.same]
  refine { h with now := Chg.run_ok h.now c, same := hsame, few := fun k => ?_, inNow := fun x hx => ?_, inWait := fun d hd => ?_, sizes := fun d hd => ?_ }
  · show (((f.wait ++ [c]).take k).foldl Chg.run f.old).length ≤ 200
    rcases Nat.lt_or_ge f.wait.length k with hk | hk
    · rw [List.take_of_length_le (by rw [List.length_append, List.length_singleton]; omega), ← hsame]; exact hl
    · rw [List.take_append_of_le_length hk]; exact h.few k
  · rcases Chg.run_mem hx with hx | hx
    · exact h.inNow x hx
    · exact hi _ hx
  · rcases List.mem_append.1 hd with hd | hd
    · exact h.inWait d hd
    · rw [List.mem_singleton.1 hd]; exact hi
  · rcases List.mem_append.1 hd with hd | hd
    · exact h.sizes d hd
    · rw [List.mem_singleton.1 hd]; exact hs
theorem FsOk.more {f : Fs} (h : FsOk f) (p : Fil) (hp : p.synced ≤ p.bytes.length ∧ p.bytes.length ≤ 16777216) : FsOk { f with files := f.files ++ [p] } := by
  refine { h with inNow := fun x hx => ?_, inOld := fun x hx => ?_, inWait := fun c hc i hi => ?_, synced := fun q hq => ?_ }
  · have := h.inNow x hx; simp only [List.length_append, List.length_singleton]; omega
  · have := h.inOld x hx; simp only [List.length_append, List.length_singleton]; omega
  · have := h.inWait c hc i hi; simp only [List.length_append, List.length_singleton]; omega
  · rcases List.mem_append.1 hq with hq | hq
    · exact h.synced q hq
    · rw [List.mem_singleton.1 hq]; exact hp
theorem FsOk.setFile {f : Fs} (h : FsOk f) (i : Nat) (p : Fil) (hp : p.synced ≤ p.bytes.length ∧ p.bytes.length ≤ 16777216) : FsOk { f with files := f.files.set i p } := by
  refine { h with inNow := fun x hx => ?_, inOld := fun x hx => ?_, inWait := fun c hc j hj => ?_, synced := fun q hq => ?_ }
  · have := h.inNow x hx; simpa only [List.length_set] using this
  · have := h.inOld x hx; simpa only [List.length_set] using this
  · have := h.inWait c hc j hj; simpa only [List.length_set] using this
  · rcases List.mem_or_eq_of_mem_set hq with hq | rfl
    · exact h.synced q hq
    · exact hp
theorem FsOk.left {f : Fs} (h : FsOk f) (n : Int) : DirOk (f.left n) ∧ (f.left n).length ≤ 200 ∧ ∀ x ∈ f.left n, x.2 < f.files.length := by
  refine ⟨foldl_ok _ h.old, h.few _, fun x hx => ?_⟩
  rcases foldl_mem _ hx with hx | ⟨c, hc, e⟩
  · exact h.inOld x hx
  · exact h.inWait c (List.mem_of_mem_take hc) _ e
theorem FsOk.crash {f : Fs} (h : FsOk f) (n : Int) (tails : List Int) : FsOk (f.crash n tails) := by
  obtain ⟨h1, h2, h3⟩ := h.left n
  have hl : (f.crashFiles n tails).length = (f.left n).length := List.length_mapIdx
  refine ⟨numb_ok _ _ h1, numb_ok _ _ h1, rfl, fun k => ?_, fun x hx => ?_, fun x hx => ?_, fun c hc => ?_, fun c hc => ?_, fun p hp => ?_, h.room, (show -9223372036854775808 ≤ (0 : Int) ∧ (0 : Int) < 9223372036854775808 by decide), fun n hn => by cases hn⟩
  · show (List.foldl Chg.run (numb 0 (f.left n)) (List.take k [])).length ≤ 200
    rw [List.take_nil, List.foldl_nil, numb_len]; exact h2
  · have := numb_bd _ _ _ hx; show x.2 < (f.crashFiles n tails).length; rw [hl]; omega
  · have := numb_bd _ _ _ hx; show x.2 < (f.crashFiles n tails).length; rw [hl]; omega
  · exact absurd hc (List.not_mem_nil)
  · exact absurd hc (List.not_mem_nil)
  · obtain ⟨i, hi, e⟩ := List.mem_mapIdx.1 hp
    subst e
    have h4 := h.file_bd (f.left n)[i].2
    have h5 := Fil.crash_ok h4.1 (tails.getD i 0)
    omega
end Go.Proofs.Ytgeofgdhlbmciaa
