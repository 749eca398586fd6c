/- Groups of changes in plain words: a change, its cells, its bytes, a group's bytes, what bytes hold. -/
import Derived.Test.YtjhkfjbgdaomeaaGreatDoorMNum
import Derived.Test.YtjhkfjbgdaomeaaGreatDoorMEnt
import Derived.Test.YtjhkfjbgdaomeaaGreatDoorMBase
import Derived.Test.YtjhkfjbgdaomeaaGreatDoorMKey
import Derived.RegionTactic
import Derived.Deep.LoopGhost
import Derived.Deep.DeepCutAuto
namespace Go.Proofs.YtjhkfjbgdaomeaaGreatDoor
set_option linter.unusedVariables false
open Go.RowKit
structure Opn where
  kind : Int
  sp : ByteArray
  val : ByteArray
def Opn.none : Opn := ⟨0, ⟨#[]⟩, ⟨#[]⟩⟩
def encOp (o : Opn) : List Value := [.int .i64 o.kind, .string o.sp, .string o.val]
def Opn.v (o : Opn) : Value := .agg #[.int .i64 o.kind, .string o.sp, .string o.val]
theorem encOp_len : EncK encOp 3 := fun _ => rfl
theorem encOp_one (l : List Opn) : ∀ u ∈ l.flatMap encOp, u.oneCell' = true := by
  intro u hu
  obtain ⟨e, -, h⟩ := List.mem_flatMap.1 hu
  simp only [encOp, List.mem_cons, List.not_mem_nil, or_false] at h
  rcases h with rfl | rfl | rfl <;> rfl
theorem op_cells (o : Opn) : ∀ u ∈ encOp o, u.oneCell' = true := fun u hu => encOp_one [o] u (by simpa using hu)
def numOk (seq : Int) (n : Nat) : Prop := 1 ≤ seq ∧ seq + n ≤ 1125899906842625
instance (seq : Int) (n : Nat) : Decidable (numOk seq n) := inferInstanceAs (Decidable (_ ∧ _))
def opB (o : Opn) : List UInt8 := (if o.kind = 1 then 1 else 0) :: (textE o.sp.data.toList ++ if o.kind = 1 then textE o.val.data.toList else [])
/-- A group's bytes. -/
def encB (seq : Nat) (l : List Opn) : List UInt8 := fixN 8 seq ++ putN l.length ++ l.flatMap opB
/-- The change that bytes begin with, and how many it takes. -/
def getOpP : List UInt8 → Option (Opn × Nat)
  | [] => .none
  | k :: r => match getT r with
    | .none => .none
    | .some (s, n) => if k = 1 then match getT (r.drop n) with
        | .none => .none
        | .some (v, m) => .some (⟨1, ⟨s.toArray⟩, ⟨v.toArray⟩⟩, 1 + n + m)
      else .some (⟨(k.toNat : Int), ⟨s.toArray⟩, ⟨#[]⟩⟩, 1 + n)
/-- n changes, and what is behind them. -/
def getNP : Nat → List UInt8 → Option (List Opn × List UInt8)
  | 0, b => .some ([], b)
  | n + 1, b => match getOpP b with
    | .none => .none
    | .some (o, k) => match getNP n (b.drop k) with
      | .none => .none
      | .some (l, r) => .some (o :: l, r)
def getOpsP (b : List UInt8) : Option (List Opn) := match getN b with
  | .none => .none
  | .some (m, k) => if m < 1 ∨ 50 < m then .none else match getNP m (b.drop k) with
    | .none => .none
    | .some (l, r) => if r = [] then .some l else .none
def seqOf (b : List UInt8) : Int := IntKind.i64.wrap (unfN (b.take 8) : Int)
theorem toArr (s : ByteArray) : (⟨s.data.toList.toArray⟩ : ByteArray) = s := by simp
theorem getT_le {l s : List UInt8} {k : Nat} (h : getT l = some (s, k)) : 1 ≤ k ∧ k ≤ l.length ∧ s.length ≤ l.length := by
  unfold getT at h
  split at h
  · cases h
  · rename_i n m hg
    obtain ⟨h1, h2, -⟩ := getN_le hg
    split at h
    · simp only [Option.some.injEq, Prod.mk.injEq] at h
      obtain ⟨rfl, rfl⟩ := h
      exact ⟨by omega, by omega, by rw [List.length_take, List.length_drop]; omega⟩
    · cases h
theorem getOpP_none {c : UInt8} {r : List UInt8} (h : getT r = none) : getOpP (c :: r) = none := by
  show (match getT r with | none => none | some (s, n) => _) = _
  rw [h]
theorem getOpP_del {c : UInt8} {r s : List UInt8} {n : Nat} (h : getT r = some (s, n)) (hc : ¬ c = 1) : getOpP (c :: r) = some (⟨(c.toNat : Int), ⟨s.toArray⟩, ⟨#[]⟩⟩, 1 + n) := by
  show (match getT r with | none => none | some (s, n) => _) = _
  rw [h]
  simp only [if_neg hc]
theorem getOpP_put0 {r s : List UInt8} {n : Nat} (h : getT r = some (s, n)) (hv : getT (r.drop n) = none) : getOpP (1 :: r) = none := by
  show (match getT r with | none => none | some (s, n) => _) = _
  rw [h]
  simp only [if_true, hv]
theorem getOpP_put {r s v : List UInt8} {n m : Nat} (h : getT r = some (s, n)) (hv : getT (r.drop n) = some (v, m)) : getOpP (1 :: r) = some (⟨1, ⟨s.toArray⟩, ⟨v.toArray⟩⟩, 1 + n + m) := by
  show (match getT r with | none => none | some (s, n) => _) = _
  rw [h]
  simp only [if_true, hv]
theorem getOpP_le {l : List UInt8} {o : Opn} {k : Nat} (h : getOpP l = some (o, k)) : 1 ≤ k ∧ k ≤ l.length := by
  cases l with
  | nil => cases h
  | cons c r =>
    rw [List.length_cons]
    cases hg : getT r with
    | none => rw [getOpP_none hg] at h; cases h
    | some p =>
      obtain ⟨s, n⟩ := p
      obtain ⟨h1, h2, -⟩ := getT_le hg
      by_cases hc : c = 1
      · subst hc
        cases hv : getT (r.drop n) with
        | none => rw [getOpP_put0 hg hv] at h; cases h
        | some q =>
          obtain ⟨v, m⟩ := q
          obtain ⟨h3, h4, -⟩ := getT_le hv
          rw [List.length_drop] at h4
          rw [getOpP_put hg hv] at h
          simp only [Option.some.injEq, Prod.mk.injEq] at h
          omega
      · rw [getOpP_del hg hc] at h
        simp only [Option.some.injEq, Prod.mk.injEq] at h
        omega
end Go.Proofs.YtjhkfjbgdaomeaaGreatDoor
/- The walk of getOp: the change that bytes begin with. -/
namespace Go.Proofs.YtjhkfjbgdaomeaaGreatDoor
set_option linter.unusedVariables false
open Go.RowKit
def opV : Option (Opn × Nat) → Value
  | .none => .tuple #[.agg #[.int .i64 0, .string ⟨#[]⟩, .string ⟨#[]⟩], .int .i64 0]
  | .some (o, k) => .tuple #[.agg #[.int .i64 o.kind, .string o.sp, .string o.val], .int .i64 (k : Int)]
def OpRes (r : Option (Opn × Nat)) (w : World) (e : Ending) (w' : World) : Prop := e = .returned (opV r) ∧ Below w.heap.size w w'
set_option maxHeartbeats 4000000 in
set_option maxRecDepth 100000 in
theorem getop_any (v : Value) (l : List UInt8) (w : World) (hrd : RdB w v l) (hlen : l.length ≤ 1000000000000) : Calls Tryz.prog 85 #[v] w (OpRes (getOpP l) w) := by
  obtain ⟨a, len, cap, rfl, hn, hcap⟩ := hrd.form
  cases l with
  | nil =>
    obtain rfl : len = 0 := hn
    clear hrd hcap hlen
    go_enter Tryz.func85, Tryz.ntmps85
    go_wp2
    refine bodyPost_ret (v := .tuple #[.agg #[.int .i64 0, .string ⟨#[]⟩, .string ⟨#[]⟩], .int .i64 0]) (by simp [results, Tryz.results85, go_sem]) rfl ⟨rfl, ?_⟩
    exact (Below.refl _ _).alloc (Nat.le_refl _) _
  | cons c r =>
    have HN0 : Hid (len = r.length + 1) := Lib.hid hn
    obtain ⟨hc1, hc2⟩ := hcap (by rw [HN0.out]; omega)
    have hlm : len ≤ 1000000000000 := by rw [HN0.out]; simpa using hlen
    have hpos : 0 < len := by rw [HN0.out]; omega
    obtain ⟨b, off, rfl, hb, hcell⟩ := hrd.at 0 c rfl
    rw [Nat.add_zero] at hcell
    obtain ⟨ad, hadd⟩ : ∃ ad, (if cap = 1 then (some ⟨b, off, none⟩ : Option Addr) else (some (⟨b, off, none⟩ : Addr)).map (·.add 1)) = ad := ⟨_, rfl⟩
    have hsl0 := fun W => sl_lB W (some ⟨b, off, none⟩) len cap 1 (by omega) hc1
    have hd1 := hrd.drop 1 (by omega)
    simp only [hadd] at hsl0 hd1
    obtain ⟨n1, hn1⟩ : ∃ n1, len - 1 = n1 := ⟨_, rfl⟩
    obtain ⟨c1, hc1'⟩ : ∃ c1, cap - 1 = c1 := ⟨_, rfl⟩
    rw [hn1, hc1'] at hd1
    simp only [hn1, hc1'] at hsl0
    have HN1 : Hid (n1 = r.length) := Lib.hid (by rw [← hn1, HN0.out]; rfl)
    have hsl : ∀ W, (Instr.sliceAt 38 (.slice (some ⟨b, off, none⟩) len cap) (some (.int .i64 1)) none none).run Tryz.prog W = .ok (.slice ad n1 c1) W := hsl0
    have HD1 : Hid (RdB w (.slice ad n1 c1) r) := Lib.hid hd1
    have HG : Hid (∀ W, Below w.heap.size w W → Calls Tryz.prog 101 #[.slice ad n1 c1] W (TxtRes (getT r) W)) := Lib.hid fun W hW => gettext_any _ _ W (hd1.below hW)
    have hz0 : ((len : Int) == 0) = false := by simp; omega
    have hck : (c.toNat : Int) < 256 := by have := c.toNat_lt; omega
    have HA : Hid (∀ C1 C2 : Array Value, Below w.heap.size w ((w.alloc (.cells C1 49)).alloc (.cells C2 49))) := Lib.hid fun C1 C2 => ((Below.refl _ _).alloc (Nat.le_refl _) _).alloc (by simp) _
    obtain ⟨O, hO⟩ : ∃ O, getOpP (c :: r) = O := ⟨_, rfl⟩
    have HO := Lib.hid hO
    rw [hO]
    cases hg : getT r with
    | none =>
      obtain rfl : O = none := by rw [← HO.out, getOpP_none hg]
      rw [hg] at HG
      clear hn hd1 hadd hO HO hg hrd hcap hsl0 hn1 hc1' hlen
      go_enter Tryz.func85, Tryz.ntmps85
      go_wp2_with fail
      refine (HG.out _ (HA.out _ _)).mono ?_
      rintro e w' ⟨rfl, rfl⟩
      unfold txtRes
      go_wp2_with fail
      refine bodyPost_ret (v := .tuple #[.agg #[.int .i64 0, .string ⟨#[]⟩, .string ⟨#[]⟩], .int .i64 0]) (by simp [results, Tryz.results85, go_sem]) rfl ⟨rfl, ?_⟩
      exact HA.out _ _
    | some p =>
      obtain ⟨s, n⟩ := p
      obtain ⟨hs1, hs2, hs3⟩ := getT_le hg
      have hnb : (n : Int) ≤ 1000000000000 := by have := HN0.out; omega
      have hzn : ((n : Int) == 0) = false := by simp; omega
      rw [hg] at HG
      by_cases hc : c = 1
      · have hcn : c.toNat = 1 := by rw [hc]; rfl
        have hc1n : ((c.toNat : Int) != 1) = false := by rw [hcn]; rfl
        subst hc
        have hle : 1 + n ≤ len := by rw [HN0.out]; omega
        obtain ⟨ad2, had2⟩ : ∃ ad2, (if cap = 1 + n then (some ⟨b, off, none⟩ : Option Addr) else (some (⟨b, off, none⟩ : Addr)).map (·.add (1 + n))) = ad2 := ⟨_, rfl⟩
        have hsl1 := fun W => sl_lB W (some ⟨b, off, none⟩) len cap (1 + n) hle hc1
        have hd2 := hrd.drop (1 + n) hle
        simp only [had2] at hsl1 hd2
        obtain ⟨n2, hn2⟩ : ∃ n2, len - (1 + n) = n2 := ⟨_, rfl⟩
        obtain ⟨c2, hc2'⟩ : ∃ c2, cap - (1 + n) = c2 := ⟨_, rfl⟩
        rw [hn2, hc2', Nat.add_comm 1 n, List.drop_succ_cons] at hd2
        simp only [hn2, hc2'] at hsl1
        have hsl2 : ∀ W, (Instr.sliceAt 38 (.slice (some ⟨b, off, none⟩) len cap) (some (.int .i64 (1 + (n : Int)))) none none).run Tryz.prog W = .ok (.slice ad2 n2 c2) W := fun W => by
          have := hsl1 W
          rwa [show ((1 + n : Nat) : Int) = 1 + (n : Int) by omega] at this
        have HG2 : Hid (∀ W, Below w.heap.size w W → Calls Tryz.prog 101 #[.slice ad2 n2 c2] W (TxtRes (getT (r.drop n)) W)) := Lib.hid fun W hW => gettext_any _ _ W (hd2.below hW)
        have HD2 := Lib.hid hd2
        cases hv : getT (r.drop n) with
        | none =>
          obtain rfl : O = none := by rw [← HO.out, getOpP_put0 hg hv]
          rw [hv] at HG2
          clear hn hd1 hadd hO HO hg hrd hcap hsl0 hn1 hc1' hlen hsl1 hd2 had2 hn2 hc2' hv hcn
          go_enter Tryz.func85, Tryz.ntmps85
          go_wp2_with fail
          refine (HG.out _ (HA.out _ _)).mono ?_
          rintro e w' ⟨rfl, rfl⟩
          unfold txtRes
          go_wp2_with fail
          refine (HG2.out _ (HA.out _ _)).mono ?_
          rintro e w' ⟨rfl, rfl⟩
          unfold txtRes
          go_wp2_with fail
          refine bodyPost_ret (v := .tuple #[.agg #[.int .i64 0, .string ⟨#[]⟩, .string ⟨#[]⟩], .int .i64 0]) (by simp [results, Tryz.results85, go_sem]) rfl ⟨rfl, ?_⟩
          exact HA.out _ _
        | some q =>
          obtain ⟨v, m⟩ := q
          obtain ⟨hv1, hv2, hv3⟩ := getT_le hv
          rw [List.length_drop] at hv2
          have hmb : (m : Int) ≤ 1000000000000 := by have := HN0.out; omega
          have hzm : ((m : Int) == 0) = false := by simp; omega
          obtain rfl : O = some (⟨1, ⟨s.toArray⟩, ⟨v.toArray⟩⟩, 1 + n + m) := by rw [← HO.out, getOpP_put hg hv]
          rw [hv] at HG2
          clear hn hd1 hadd hO HO hg hrd hcap hsl0 hn1 hc1' hlen hsl1 hd2 had2 hn2 hc2' hv hcn hv2 hv3 hs2 hs3
          go_enter Tryz.func85, Tryz.ntmps85
          go_wp2_with fail
          refine (HG.out _ (HA.out _ _)).mono ?_
          rintro e w' ⟨rfl, rfl⟩
          unfold txtRes
          go_wp2_with fail
          refine (HG2.out _ (HA.out _ _)).mono ?_
          rintro e w' ⟨rfl, rfl⟩
          unfold txtRes
          go_wp2_with fail
          refine bodyPost_ret (v := .tuple #[.agg #[.int .i64 1, .string ⟨s.toArray⟩, .string ⟨v.toArray⟩], .int .i64 ((1 + n + m : Nat) : Int)]) (by simp [results, Tryz.results85, go_sem]) rfl ⟨rfl, ?_⟩
          exact HA.out _ _
      · obtain rfl : O = some (⟨(c.toNat : Int), ⟨s.toArray⟩, ⟨#[]⟩⟩, 1 + n) := by rw [← HO.out, getOpP_del hg hc]
        have hc1n : ((c.toNat : Int) != 1) = true := by
          rw [bne_iff_ne]
          intro h
          exact hc (UInt8.toNat_inj.1 (by show c.toNat = 1; omega))
        clear hn hd1 hadd hO HO hg hrd hcap hsl0 hn1 hc1' hlen hs2 hs3
        go_enter Tryz.func85, Tryz.ntmps85
        go_wp2_with fail
        refine (HG.out _ (HA.out _ _)).mono ?_
        rintro e w' ⟨rfl, rfl⟩
        unfold txtRes
        go_wp2_with fail
        refine bodyPost_ret (v := .tuple #[.agg #[.int .i64 (c.toNat : Int), .string ⟨s.toArray⟩, .string ⟨#[]⟩], .int .i64 ((1 + n : Nat) : Int)]) (by simp [results, Tryz.results85, go_sem]) rfl ⟨rfl, ?_⟩
        exact HA.out _ _
end Go.Proofs.YtjhkfjbgdaomeaaGreatDoor
/- Groups of changes in plain words: what is wrong with a change, with a group; what bytes are a group's; a group's entries. -/
namespace Go.Proofs.YtjhkfjbgdaomeaaGreatDoor
set_option linter.unusedVariables false
open Go.RowKit
/-- The first thing that is wrong with a change. -/
def opErr (o : Opn) : Int := if ¬ o.kind = 1 ∧ (¬ o.kind = 0 ∨ 0 < o.val.size) then 12 else if keyP o.sp.data.toList = Option.none then 1 else if 1048576 < o.val.size then 2 else 0
def formP (s : ByteArray) : ByteArray := ⟨((keyP s.data.toList).getD []).toArray⟩
def firstErr : List Opn → Int
  | [] => 0
  | o :: r => if opErr o = 0 then firstErr r else opErr o
/-- The first thing that is wrong with a group. -/
def checkP (l : List Opn) : Int := if l.length < 1 ∨ 50 < l.length then 12 else firstErr l
def encE (seq : Int) (l : List Opn) : Int := if checkP l = 0 then if numOk seq l.length then 0 else 12 else checkP l
/-- The group that bytes are. -/
def decP (b : List UInt8) : Option (Int × List Opn) := if b.length < 8 then .none else match getOpsP (b.drop 8) with
  | .none => .none
  | .some l => if checkP l = 0 ∧ numOk (seqOf b) l.length then .some (seqOf b, l) else .none
/-- A group's entries. -/
def entO (n : Int) (o : Opn) : Ent := ⟨formP o.sp, IntKind.i64.wrap n, o.kind, o.sp, o.val⟩
def entsF : Int → List Opn → List Ent
  | _, [] => []
  | n, o :: r => entO n o :: entsF (n + 1) r
def entsP (seq : Int) (l : List Opn) : List Ent := if checkP l = 0 then entsF seq l else []
theorem entsF_len : ∀ (n : Int) (l : List Opn), (entsF n l).length = l.length
  | _, [] => rfl
  | n, o :: r => by rw [entsF, List.length_cons, entsF_len, List.length_cons]
theorem entsF_at : ∀ (n : Int) (l : List Opn) (i : Nat) (o : Opn), l[i]? = some o → (entsF n l)[i]? = some (entO (n + i) o)
  | _, [], _, _, h => by simp at h
  | n, x :: r, 0, o, h => by simp at h; subst h; simp [entsF]
  | n, x :: r, i + 1, o, h => by
    rw [entsF, List.getElem?_cons_succ, entsF_at (n + 1) r i o (by simpa using h)]
    congr 2; omega
theorem opErr_key {o : Opn} (h : opErr o = 0) : ∃ A, keyP o.sp.data.toList = some A := by
  unfold opErr at h
  split at h
  · cases h
  · split at h
    · cases h
    · rename_i h2
      cases hk : keyP o.sp.data.toList with
      | none => exact absurd hk h2
      | some A => exact ⟨A, rfl⟩
/-- What a change that may be is. -/
theorem opErr_ok {o : Opn} (h : opErr o = 0) : (o.kind = 1 ∨ o.kind = 0 ∧ o.val.size = 0) ∧ o.val.size ≤ 1048576 ∧ o.sp.size ≤ 4096 := by
  obtain ⟨A, hA⟩ := opErr_key h
  have hs : o.sp.size ≤ 4096 := by
    rcases Nat.lt_or_ge 4096 o.sp.size with hl | hl
    · rw [keyP_long hl] at hA; cases hA
    · exact hl
  unfold opErr at h
  split at h
  · cases h
  · rename_i h1
    split at h
    · cases h
    · split at h
      · cases h
      · refine ⟨?_, by omega, hs⟩
        by_cases hk : o.kind = 1
        · exact .inl hk
        · right
          by_cases h0 : o.kind = 0
          · exact ⟨h0, by
              rcases Nat.eq_zero_or_pos o.val.size with hz | hz
              · exact hz
              · exact absurd ⟨hk, .inr hz⟩ h1⟩
          · exact absurd ⟨hk, .inl h0⟩ h1
theorem firstErr_all {l : List Opn} (h : firstErr l = 0) : ∀ o ∈ l, opErr o = 0 := by
  induction l with
  | nil => intro o ho; cases ho
  | cons x r ih =>
    unfold firstErr at h
    split at h
    · rename_i hx
      intro o ho
      rcases List.mem_cons.1 ho with rfl | ho
      · exact hx
      · exact ih h o ho
    · rename_i hx; exact absurd h hx
theorem firstErr_of {l : List Opn} (h : ∀ o ∈ l, opErr o = 0) : firstErr l = 0 := by
  induction l with
  | nil => rfl
  | cons x r ih => unfold firstErr; rw [if_pos (h x (List.mem_cons_self ..)), ih fun o ho => h o (List.mem_cons_of_mem _ ho)]
theorem firstErr_at : ∀ {l : List Opn} {i : Nat} {x : Opn}, (∀ j y, j < i → l[j]? = some y → opErr y = 0) → l[i]? = some x → ¬ opErr x = 0 → firstErr l = opErr x
  | [], _, _, _, h, _ => by simp at h
  | y :: r, 0, x, _, h, hx => by simp at h; subst h; unfold firstErr; rw [if_neg hx]
  | y :: r, i + 1, x, hf, h, hx => by
    unfold firstErr
    rw [if_pos (hf 0 y (by omega) rfl)]
    exact firstErr_at (i := i) (fun j z hj hz => hf (j + 1) z (by omega) (by simpa using hz)) (by simpa using h) hx
theorem checkP_ok {l : List Opn} (h : checkP l = 0) : 1 ≤ l.length ∧ l.length ≤ 50 ∧ ∀ o ∈ l, opErr o = 0 := by
  unfold checkP at h
  split at h
  · cases h
  · exact ⟨by omega, by omega, firstErr_all h⟩
theorem opB_len {o : Opn} (h : opErr o = 0) : (opB o).length ≤ 1052700 := by
  obtain ⟨hk, hv, hs⟩ := opErr_ok h
  have p1 := (putN_len o.sp.data.toList.length).2
  have p2 := (putN_len o.val.data.toList.length).2
  have e1 := size_toList o.sp
  have e2 := size_toList o.val
  unfold opB textE
  rw [List.length_cons, List.length_append, List.length_append]
  split
  · rw [List.length_append]; omega
  · simp only [List.length_nil]; omega
theorem opsB_len : ∀ {l : List Opn}, (∀ o ∈ l, opErr o = 0) → (l.flatMap opB).length ≤ l.length * 1052700
  | [], _ => by simp
  | o :: r, h => by
    have h1 := opB_len (h o (List.mem_cons_self ..))
    have h2 := opsB_len fun x hx => h x (List.mem_cons_of_mem _ hx)
    rw [List.flatMap_cons, List.length_append, List.length_cons, Nat.add_mul]; omega
/-- A change's bytes are read as it. -/
theorem getOp_opB {o : Opn} (h : opErr o = 0) (r : List UInt8) : getOpP (opB o ++ r) = some (o, (opB o).length) := by
  obtain ⟨hk, hv, hs⟩ := opErr_ok h
  have e1 := size_toList o.sp
  have e2 := size_toList o.val
  obtain ⟨kind, sp, val⟩ := o
  simp only at hk hv hs e1 e2
  rcases hk with rfl | ⟨rfl, hz⟩
  · have e : opB ⟨1, sp, val⟩ = 1 :: (textE sp.data.toList ++ textE val.data.toList) := rfl
    rw [e, List.cons_append, List.append_assoc, getOpP_put (getT_text sp.data.toList _ (by omega)) (by rw [List.drop_left' rfl]; exact getT_text val.data.toList _ (by omega))]
    simp only [toArr, List.length_cons, List.length_append, Option.some.injEq, Prod.mk.injEq, true_and]
    omega
  · have hv0 : val = ⟨#[]⟩ := by
      have : val.data.toList = [] := List.eq_nil_of_length_eq_zero (by rw [e2]; exact hz)
      rw [← toArr val, this]
    subst hv0
    have e : opB ⟨0, sp, ⟨#[]⟩⟩ = 0 :: textE sp.data.toList := by
      show 0 :: (textE sp.data.toList ++ []) = _
      rw [List.append_nil]
    rw [e, List.cons_append, getOpP_del (getT_text sp.data.toList _ (by omega)) (by decide)]
    simp only [toArr, List.length_cons, Option.some.injEq, Prod.mk.injEq]
    exact ⟨rfl, by omega⟩
theorem getNP_ops : ∀ {l : List Opn}, (∀ o ∈ l, opErr o = 0) → ∀ r, getNP l.length (l.flatMap opB ++ r) = some (l, r)
  | [], _, r => rfl
  | o :: l, h, r => by
    rw [List.length_cons, List.flatMap_cons, List.append_assoc, getNP, getOp_opB (h o (List.mem_cons_self ..))]
    simp only
    rw [List.drop_left' rfl, getNP_ops fun x hx => h x (List.mem_cons_of_mem _ hx)]
theorem getOps_enc {l : List Opn} (h : checkP l = 0) : getOpsP (putN l.length ++ l.flatMap opB) = some l := by
  obtain ⟨h1, h2, h3⟩ := checkP_ok h
  unfold getOpsP
  rw [get_put (by omega)]
  simp only
  rw [if_neg (by omega), List.drop_left' rfl]
  have := getNP_ops h3 []
  rw [List.append_nil] at this
  rw [this]
  simp
/-- A group's bytes are read as it. -/
theorem dec_enc {seq : Nat} {l : List Opn} (h : checkP l = 0) (hn : numOk seq l.length) : decP (encB seq l) = some ((seq : Int), l) := by
  have hn' := hn
  unfold numOk at hn
  have e : encB seq l = fixN 8 seq ++ (putN l.length ++ l.flatMap opB) := by unfold encB; rw [List.append_assoc]
  have h8 : (fixN 8 seq).length = 8 := fixN_len 8 seq
  have hs : seqOf (encB seq l) = seq := by
    unfold seqOf
    have hp : (256 : Nat) ^ 8 = 18446744073709551616 := by decide
    rw [e, List.take_left' h8, unf_fix 8 seq (by omega)]
    exact IntWalk.i64_in _ (by omega)
  unfold decP
  rw [hs, if_neg (by rw [e, List.length_append, h8]; omega), e, List.drop_left' h8, getOps_enc h]
  simp only
  rw [if_pos ⟨h, hn'⟩]
end Go.Proofs.YtjhkfjbgdaomeaaGreatDoor
/- The walks of isCount, isNumber and keyOf. -/
namespace Go.Proofs.YtjhkfjbgdaomeaaGreatDoor
set_option linter.unusedVariables false
open Go.RowKit
theorem iscount_any (n : Nat) (w : World) : Calls Tryz.prog 64 #[.int .i64 (n : Int)] w fun e w' => e = .returned (.bool (decide (1 ≤ n ∧ n ≤ 50))) ∧ w' = w := by
  obtain ⟨V, hV⟩ : ∃ V, decide (1 ≤ n ∧ n ≤ 50) = V := ⟨_, rfl⟩
  rw [hV]
  have HV := Lib.hid hV
  clear hV
  by_cases h1 : 1 ≤ n
  · by_cases h2 : n ≤ 50
    · obtain rfl : V = true := by rw [← HV.out]; exact decide_eq_true ⟨h1, h2⟩
      have hd1 : decide ((1 : Int) ≤ (n : Int)) = true := decide_eq_true (by omega)
      have hd2 : decide ((n : Int) ≤ 50) = true := decide_eq_true (by omega)
      go_enter Tryz.func64, Tryz.ntmps64
      go_wp2
      go_ret
      exact ⟨rfl, rfl⟩
    · obtain rfl : V = false := by rw [← HV.out]; exact decide_eq_false (by omega)
      have hd1 : decide ((1 : Int) ≤ (n : Int)) = true := decide_eq_true (by omega)
      have hd2 : decide ((n : Int) ≤ 50) = false := decide_eq_false (by omega)
      go_enter Tryz.func64, Tryz.ntmps64
      go_wp2
      go_ret
      exact ⟨rfl, rfl⟩
  · obtain rfl : V = false := by rw [← HV.out]; exact decide_eq_false (by omega)
    have hd1 : decide ((1 : Int) ≤ (n : Int)) = false := decide_eq_false (by omega)
    go_enter Tryz.func64, Tryz.ntmps64
    go_wp2
    go_ret
    exact ⟨rfl, rfl⟩
theorem isnum_any (s : Int) (n : Nat) (hn : n ≤ 1000000) (hs : -9223372036854775808 ≤ s ∧ s ≤ 9223372036854775807) (w : World) :
    Calls Tryz.prog 47 #[.int .i64 s, .int .i64 (n : Int)] w fun e w' => e = .returned (.bool (decide (numOk s n))) ∧ w' = w := by
  obtain ⟨V, hV⟩ : ∃ V, decide (numOk s n) = V := ⟨_, rfl⟩
  rw [hV]
  have HV := Lib.hid hV
  clear hV
  obtain ⟨hs1, hs2⟩ := hs
  by_cases h1 : 1 ≤ s
  · by_cases h2 : s ≤ 1125899906842624 - ((n : Int) - 1)
    · obtain rfl : V = true := by rw [← HV.out]; exact decide_eq_true ⟨h1, by omega⟩
      go_enter Tryz.func47, Tryz.ntmps47
      go_wp2
      go_ret
      exact ⟨rfl, rfl⟩
    · obtain rfl : V = false := by rw [← HV.out]; exact decide_eq_false (by unfold numOk; omega)
      go_enter Tryz.func47, Tryz.ntmps47
      go_wp2
      go_ret
      exact ⟨rfl, rfl⟩
  · obtain rfl : V = false := by rw [← HV.out]; exact decide_eq_false (by unfold numOk; omega)
    go_enter Tryz.func47, Tryz.ntmps47
    go_wp2
    go_ret
    exact ⟨rfl, rfl⟩
/-- The key that keyOf tells. -/
def keyAgg (o : Opn) : Value := if opErr o = 0 then .agg #[.string (formP o.sp), .string o.sp] else .agg #[.string ⟨#[]⟩, .string ⟨#[]⟩]
def KeyRes (o : Opn) (w : World) (e : Ending) (w' : World) : Prop := e = .returned (.tuple #[keyAgg o, .int .i64 (opErr o)]) ∧ Below w.heap.size w w'
theorem keyAgg_no {o : Opn} (h : ¬ opErr o = 0) : keyAgg o = .agg #[.string ⟨#[]⟩, .string ⟨#[]⟩] := if_neg h
theorem keyAgg_yes {o : Opn} (h : opErr o = 0) : keyAgg o = .agg #[.string (formP o.sp), .string o.sp] := if_pos h
set_option maxHeartbeats 2000000 in
set_option maxRecDepth 100000 in
theorem keyof_any (o : Opn) (hs : o.sp.size ≤ maxLen) (hv : o.val.size ≤ maxLen) (w : World) (hE : ErrAt w) (hSp : SpAt w) :
    Calls Tryz.prog 65 #[o.v] w (KeyRes o w) := by
  obtain ⟨E, hEr⟩ : ∃ E, opErr o = E := ⟨_, rfl⟩
  obtain ⟨A, hA⟩ : ∃ A, keyAgg o = A := ⟨_, rfl⟩
  unfold KeyRes
  rw [hEr, hA]
  have HEr := Lib.hid hEr
  have HAg := Lib.hid hA
  clear hEr hA
  have HB0 : Below w.heap.size w ((w.alloc (.cells #[.int .i64 o.kind, .string o.sp, .string o.val] 49)).alloc (.cells #[.string ⟨#[]⟩, .string ⟨#[]⟩] 115)) := ((Below.refl _ w).alloc (Nat.le_refl _) _).alloc (by simp) _
  have HM := Lib.hid (make_any o.sp hs _ (hE.below HB0) (hSp.below HB0 hSp.1))
  have HB0' := Lib.hid HB0
  have HR3 : Row3 ((w.alloc (.cells #[.int .i64 o.kind, .string o.sp, .string o.val] 49)).alloc (.cells #[.string ⟨#[]⟩, .string ⟨#[]⟩] 115)) w.heap.size (.int .i64 o.kind) (.string o.sp) (.string o.val) :=
    (Row3.new w (.int .i64 o.kind) (.string o.sp) (.string o.val) 49).below ((Below.refl _ _).alloc (Nat.le_refl _) _) (by simp)
  have HR2 : Row2 ((w.alloc (.cells #[.int .i64 o.kind, .string o.sp, .string o.val] 49)).alloc (.cells #[.string ⟨#[]⟩, .string ⟨#[]⟩] 115)) (w.heap.size + 1) (.string ⟨#[]⟩) (.string ⟨#[]⟩) := by
    have := Row2.new (w.alloc (.cells #[.int .i64 o.kind, .string o.sp, .string o.val] 49)) (.string ⟨#[]⟩) (.string ⟨#[]⟩) 115
    rwa [World.size_alloc] at this
  have HR := Lib.hid (And.intro HR3 HR2)
  clear HR3 HR2 HB0 hE hSp
  obtain ⟨kind, sp, val⟩ := o
  simp only at hs hv HM HB0' HR
  unfold maxLen at hs hv
  unfold Opn.v
  by_cases hbad : ¬ kind = 1 ∧ (¬ kind = 0 ∨ 0 < val.size)
  · obtain ⟨hk1, hbad⟩ := hbad
    have hE12 : opErr ⟨kind, sp, val⟩ = 12 := if_pos ⟨hk1, hbad⟩
    obtain rfl : E = 12 := HEr.out.symm.trans hE12
    obtain rfl : A = .agg #[.string ⟨#[]⟩, .string ⟨#[]⟩] := HAg.out.symm.trans (keyAgg_no (by rw [hE12]; decide))
    have hd1 : (kind != 1) = true := by rw [bne_iff_ne]; exact hk1
    by_cases hk0 : kind = 0
    · have hvs : 0 < val.size := by
        rcases hbad with h | h
        · exact absurd hk0 h
        · exact h
      have hd0 : (kind != 0) = false := by rw [hk0]; rfl
      have hemp := isEmpty_no hvs
      have HK := Lib.hid hk0
      clear hbad hk0 hE12 hk1 HM HR
      go_enter Tryz.func65, Tryz.ntmps65
      go_wp2
      refine bodyPost_ret (v := .tuple #[.agg #[.string ⟨#[]⟩, .string ⟨#[]⟩], .int .i64 12]) (by simp [results, Tryz.results65, go_sem]) rfl ⟨rfl, HB0'.out⟩
    · have hd0 : (kind != 0) = true := by rw [bne_iff_ne]; exact hk0
      clear hbad hk0 hE12 hk1 HM HR
      go_enter Tryz.func65, Tryz.ntmps65
      go_wp2
      refine bodyPost_ret (v := .tuple #[.agg #[.string ⟨#[]⟩, .string ⟨#[]⟩], .int .i64 12]) (by simp [results, Tryz.results65, go_sem]) rfl ⟨rfl, HB0'.out⟩
  · have hcase : kind = 1 ∨ ¬ kind = 1 ∧ kind = 0 ∧ ¬ 0 < val.size := by omega
    have hE0 : opErr ⟨kind, sp, val⟩ = if keyP sp.data.toList = none then 1 else if 1048576 < val.size then 2 else 0 := if_neg hbad
    have HE0 := Lib.hid (HEr.out.symm.trans hE0)
    clear hE0 hbad
    have hd1 : Hid (kind = 1 ∧ (kind != 1) = false ∨ (kind != 1) = true ∧ (kind != 0) = false ∧ val.toList.isEmpty = true) := Lib.hid (by
      rcases hcase with h | ⟨h1, h2, h3⟩
      · exact .inl ⟨h, by rw [h]; rfl⟩
      · exact .inr ⟨by rw [bne_iff_ne]; exact h1, by rw [h2]; rfl, isEmpty_yes h3⟩)
    clear hcase
    rcases hd1.out with ⟨hkq, hdq1⟩ | ⟨hdq1, hdq0, hemp⟩
    · clear hkq hd1
      cases hk : keyP sp.data.toList with
      | none =>
        obtain rfl : E = 1 := HE0.out.trans (if_pos hk)
        obtain rfl : A = .agg #[.string ⟨#[]⟩, .string ⟨#[]⟩] := HAg.out.symm.trans (keyAgg_no (by rw [HEr.out]; decide))
        rw [hk] at HM
        clear hk HE0
        go_enter Tryz.func65, Tryz.ntmps65
        go_wp2_with fail
        refine HM.out.mono ?_
        rintro e w1 ⟨rfl, hb⟩
        have HR1 : Hid ((Row3 w1 w.heap.size (.int .i64 kind) (.string sp) (.string val) ∧ Row2 w1 (w.heap.size + 1) (.string ⟨#[]⟩) (.string ⟨#[]⟩)) ∧ Below w.heap.size w w1) := Lib.hid ⟨⟨HR.out.1.below hb HR.out.1.2.2, HR.out.2.below hb HR.out.2.2.2⟩, HB0'.out.trans (hb.mono HB0'.out.size)⟩
        clear hb HR HM
        obtain ⟨⟨⟨⟨a0, a1, a2⟩, ⟨f0, f1, f2⟩, hz1⟩, ⟨⟨b0, b1⟩, ⟨g0, g1⟩, hz2⟩⟩, -⟩ := id HR1.out
        go_wp2_with fail
        obtain ⟨⟨y0, y1⟩, -, -⟩ := HR1.out.1.2.putAl (.string ⟨#[]⟩) (.string ⟨#[]⟩) (.cells #[.string ⟨#[]⟩, .string ⟨#[]⟩] 115)
        refine bodyPost_ret (v := .tuple #[.agg #[.string ⟨#[]⟩, .string ⟨#[]⟩], .int .i64 1]) (by simp [results, Tryz.results65, go_sem, y0, y1]) rfl ⟨rfl, ?_⟩
        exact below_putAl HR1.out.2 (by omega) (by omega) _ _ _
      | some K =>
        have HF : Hid (formP sp = ⟨K.toArray⟩) := Lib.hid (by unfold formP; rw [hk]; rfl)
        by_cases hlong : 1048576 < val.size
        · obtain rfl : E = 2 := HE0.out.trans (by rw [hk]; exact if_pos hlong)
          obtain rfl : A = .agg #[.string ⟨#[]⟩, .string ⟨#[]⟩] := HAg.out.symm.trans (keyAgg_no (by rw [HEr.out]; decide))
          have hl1 : decide (1048576 < val.size) = true := decide_eq_true hlong
          have hl2 : (1048576 : Int) < (val.size : Int) := by omega
          rw [hk] at HM
          clear hk HE0
          go_enter Tryz.func65, Tryz.ntmps65
          go_wp2_with fail
          refine HM.out.mono ?_
          rintro e w1 ⟨rfl, hb⟩
          have HR1 : Hid ((Row3 w1 w.heap.size (.int .i64 kind) (.string sp) (.string val) ∧ Row2 w1 (w.heap.size + 1) (.string ⟨#[]⟩) (.string ⟨#[]⟩)) ∧ Below w.heap.size w w1) := Lib.hid ⟨⟨HR.out.1.below hb HR.out.1.2.2, HR.out.2.below hb HR.out.2.2.2⟩, HB0'.out.trans (hb.mono HB0'.out.size)⟩
          clear hb HR HM
          obtain ⟨⟨⟨⟨a0, a1, a2⟩, ⟨f0, f1, f2⟩, hz1⟩, ⟨⟨b0, b1⟩, ⟨g0, g1⟩, hz2⟩⟩, -⟩ := id HR1.out
          go_wp2_with fail
          obtain ⟨⟨y0, y1⟩, -, -⟩ := HR1.out.1.2.putAl (.string ⟨#[]⟩) (.string ⟨#[]⟩) (.cells #[.string ⟨K.toArray⟩, .string sp] 115)
          refine bodyPost_ret (v := .tuple #[.agg #[.string ⟨#[]⟩, .string ⟨#[]⟩], .int .i64 2]) (by simp [results, Tryz.results65, go_sem, y0, y1]) rfl ⟨rfl, ?_⟩
          exact below_putAl HR1.out.2 (by omega) (by omega) _ _ _
        · obtain rfl : E = 0 := HE0.out.trans (by rw [hk]; exact if_neg hlong)
          obtain rfl : A = .agg #[.string ⟨K.toArray⟩, .string sp] := HAg.out.symm.trans (by rw [keyAgg_yes HEr.out, HF.out])
          have hl1 : decide (1048576 < val.size) = false := decide_eq_false hlong
          have hl2 : ¬ (1048576 : Int) < (val.size : Int) := by omega
          rw [hk] at HM
          clear hk HE0
          go_enter Tryz.func65, Tryz.ntmps65
          go_wp2_with fail
          refine HM.out.mono ?_
          rintro e w1 ⟨rfl, hb⟩
          have HR1 : Hid ((Row3 w1 w.heap.size (.int .i64 kind) (.string sp) (.string val) ∧ Row2 w1 (w.heap.size + 1) (.string ⟨#[]⟩) (.string ⟨#[]⟩)) ∧ Below w.heap.size w w1) := Lib.hid ⟨⟨HR.out.1.below hb HR.out.1.2.2, HR.out.2.below hb HR.out.2.2.2⟩, HB0'.out.trans (hb.mono HB0'.out.size)⟩
          clear hb HR HM
          obtain ⟨⟨⟨⟨a0, a1, a2⟩, ⟨f0, f1, f2⟩, hz1⟩, ⟨⟨b0, b1⟩, ⟨g0, g1⟩, hz2⟩⟩, -⟩ := id HR1.out
          go_wp2_with fail
          obtain ⟨⟨y0, y1⟩, -, -⟩ := HR1.out.1.2.putAl (.string ⟨K.toArray⟩) (.string sp) (.cells #[.string ⟨K.toArray⟩, .string sp] 115)
          refine bodyPost_ret (v := .tuple #[.agg #[.string ⟨K.toArray⟩, .string sp], .int .i64 0]) (by simp [results, Tryz.results65, go_sem, y0, y1]) rfl ⟨rfl, ?_⟩
          exact below_putAl HR1.out.2 (by omega) (by omega) _ _ _
    · clear hd1
      cases hk : keyP sp.data.toList with
      | none =>
        obtain rfl : E = 1 := HE0.out.trans (if_pos hk)
        obtain rfl : A = .agg #[.string ⟨#[]⟩, .string ⟨#[]⟩] := HAg.out.symm.trans (keyAgg_no (by rw [HEr.out]; decide))
        rw [hk] at HM
        clear hk HE0
        go_enter Tryz.func65, Tryz.ntmps65
        go_wp2_with fail
        refine HM.out.mono ?_
        rintro e w1 ⟨rfl, hb⟩
        have HR1 : Hid ((Row3 w1 w.heap.size (.int .i64 kind) (.string sp) (.string val) ∧ Row2 w1 (w.heap.size + 1) (.string ⟨#[]⟩) (.string ⟨#[]⟩)) ∧ Below w.heap.size w w1) := Lib.hid ⟨⟨HR.out.1.below hb HR.out.1.2.2, HR.out.2.below hb HR.out.2.2.2⟩, HB0'.out.trans (hb.mono HB0'.out.size)⟩
        clear hb HR HM
        obtain ⟨⟨⟨⟨a0, a1, a2⟩, ⟨f0, f1, f2⟩, hz1⟩, ⟨⟨b0, b1⟩, ⟨g0, g1⟩, hz2⟩⟩, -⟩ := id HR1.out
        go_wp2_with fail
        obtain ⟨⟨y0, y1⟩, -, -⟩ := HR1.out.1.2.putAl (.string ⟨#[]⟩) (.string ⟨#[]⟩) (.cells #[.string ⟨#[]⟩, .string ⟨#[]⟩] 115)
        refine bodyPost_ret (v := .tuple #[.agg #[.string ⟨#[]⟩, .string ⟨#[]⟩], .int .i64 1]) (by simp [results, Tryz.results65, go_sem, y0, y1]) rfl ⟨rfl, ?_⟩
        exact below_putAl HR1.out.2 (by omega) (by omega) _ _ _
      | some K =>
        have HF : Hid (formP sp = ⟨K.toArray⟩) := Lib.hid (by unfold formP; rw [hk]; rfl)
        by_cases hlong : 1048576 < val.size
        · obtain rfl : E = 2 := HE0.out.trans (by rw [hk]; exact if_pos hlong)
          obtain rfl : A = .agg #[.string ⟨#[]⟩, .string ⟨#[]⟩] := HAg.out.symm.trans (keyAgg_no (by rw [HEr.out]; decide))
          have hl1 : decide (1048576 < val.size) = true := decide_eq_true hlong
          have hl2 : (1048576 : Int) < (val.size : Int) := by omega
          rw [hk] at HM
          clear hk HE0
          go_enter Tryz.func65, Tryz.ntmps65
          go_wp2_with fail
          refine HM.out.mono ?_
          rintro e w1 ⟨rfl, hb⟩
          have HR1 : Hid ((Row3 w1 w.heap.size (.int .i64 kind) (.string sp) (.string val) ∧ Row2 w1 (w.heap.size + 1) (.string ⟨#[]⟩) (.string ⟨#[]⟩)) ∧ Below w.heap.size w w1) := Lib.hid ⟨⟨HR.out.1.below hb HR.out.1.2.2, HR.out.2.below hb HR.out.2.2.2⟩, HB0'.out.trans (hb.mono HB0'.out.size)⟩
          clear hb HR HM
          obtain ⟨⟨⟨⟨a0, a1, a2⟩, ⟨f0, f1, f2⟩, hz1⟩, ⟨⟨b0, b1⟩, ⟨g0, g1⟩, hz2⟩⟩, -⟩ := id HR1.out
          go_wp2_with fail
          obtain ⟨⟨y0, y1⟩, -, -⟩ := HR1.out.1.2.putAl (.string ⟨#[]⟩) (.string ⟨#[]⟩) (.cells #[.string ⟨K.toArray⟩, .string sp] 115)
          refine bodyPost_ret (v := .tuple #[.agg #[.string ⟨#[]⟩, .string ⟨#[]⟩], .int .i64 2]) (by simp [results, Tryz.results65, go_sem, y0, y1]) rfl ⟨rfl, ?_⟩
          exact below_putAl HR1.out.2 (by omega) (by omega) _ _ _
        · obtain rfl : E = 0 := HE0.out.trans (by rw [hk]; exact if_neg hlong)
          obtain rfl : A = .agg #[.string ⟨K.toArray⟩, .string sp] := HAg.out.symm.trans (by rw [keyAgg_yes HEr.out, HF.out])
          have hl1 : decide (1048576 < val.size) = false := decide_eq_false hlong
          have hl2 : ¬ (1048576 : Int) < (val.size : Int) := by omega
          rw [hk] at HM
          clear hk HE0
          go_enter Tryz.func65, Tryz.ntmps65
          go_wp2_with fail
          refine HM.out.mono ?_
          rintro e w1 ⟨rfl, hb⟩
          have HR1 : Hid ((Row3 w1 w.heap.size (.int .i64 kind) (.string sp) (.string val) ∧ Row2 w1 (w.heap.size + 1) (.string ⟨#[]⟩) (.string ⟨#[]⟩)) ∧ Below w.heap.size w w1) := Lib.hid ⟨⟨HR.out.1.below hb HR.out.1.2.2, HR.out.2.below hb HR.out.2.2.2⟩, HB0'.out.trans (hb.mono HB0'.out.size)⟩
          clear hb HR HM
          obtain ⟨⟨⟨⟨a0, a1, a2⟩, ⟨f0, f1, f2⟩, hz1⟩, ⟨⟨b0, b1⟩, ⟨g0, g1⟩, hz2⟩⟩, -⟩ := id HR1.out
          go_wp2_with fail
          obtain ⟨⟨y0, y1⟩, -, -⟩ := HR1.out.1.2.putAl (.string ⟨K.toArray⟩) (.string sp) (.cells #[.string ⟨K.toArray⟩, .string sp] 115)
          refine bodyPost_ret (v := .tuple #[.agg #[.string ⟨K.toArray⟩, .string sp], .int .i64 0]) (by simp [results, Tryz.results65, go_sem, y0, y1]) rfl ⟨rfl, ?_⟩
          exact below_putAl HR1.out.2 (by omega) (by omega) _ _ _
end Go.Proofs.YtjhkfjbgdaomeaaGreatDoor
/- The walk of Check. -/
namespace Go.Proofs.YtjhkfjbgdaomeaaGreatDoor
set_option linter.unusedVariables false
open Go.RowKit
def Opn.ok (o : Opn) : Prop := o.sp.size ≤ maxLen ∧ o.val.size ≤ maxLen
theorem elem_op : ElemK Tryz.prog 32 49 3 40 (.agg #[.int .i64 0, .string ⟨#[]⟩, .string ⟨#[]⟩]) := ⟨Tryz.underlying32, by kernel_rfl, rfl, by decide⟩
/-- The three cells of a change. -/
def AtO (w : World) (b o : Nat) (e : Opn) : Prop := w.cell? ⟨b, o, none⟩ = some (.int .i64 e.kind) ∧ w.cell? ⟨b, o + 1, none⟩ = some (.string e.sp) ∧ w.cell? ⟨b, o + 2, none⟩ = some (.string e.val)
theorem rdO_len {w : World} {v : Value} {xs : List Opn} (h : RdK encOp 3 w v xs) : ∃ a len cap, v = .slice a len cap ∧ len = xs.length := by
  rcases h with ⟨a, cap, h1, rfl⟩ | ⟨b, off, cap, h1, -⟩
  · exact ⟨a, 0, cap, h1, rfl⟩
  · exact ⟨_, _, cap, h1, rfl⟩
theorem RdK.at3 {w : World} {a : Option Addr} {len cap : Nat} {xs : List Opn} (h : RdK encOp 3 w (.slice a len cap) xs) (q : Nat) (x : Opn) (hx : xs[q]? = some x) :
    ∃ b off, a = some ⟨b, off, none⟩ ∧ b < w.heap.size ∧ AtO w b (off + q * 3) x := by
  rcases h with ⟨_, _, _, rfl⟩ | ⟨b, off, c, e, h1, h2, h3, h4, h5⟩
  · simp at hx
  · simp only [Value.slice.injEq] at e
    exact ⟨b, off, e.1, h4, h5 q 0 x hx (by decide), h5 q 1 x hx (by decide), h5 q 2 x hx (by decide)⟩
theorem firstErr_upto {l : List Opn} (h : ∀ j y, j < l.length → l[j]? = some y → opErr y = 0) : firstErr l = 0 := by
  refine firstErr_of fun o ho => ?_
  obtain ⟨j, hj, e⟩ := List.getElem_of_mem ho
  exact h j o hj (by rw [List.getElem?_eq_getElem hj, e])
set_option maxHeartbeats 4000000 in
set_option maxRecDepth 100000 in
theorem check_any (v : Value) (l : List Opn) (hok : ∀ o ∈ l, o.ok) (hlm : l.length ≤ 1000000000000) (w : World) (hrd : RdK encOp 3 w v l) (hE : ErrAt w) (hSp : SpAt w) :
    Calls Tryz.prog 46 #[v] w fun e w' => e = .returned (.int .i64 (checkP l)) ∧ Below w.heap.size w w' := by
  obtain ⟨V, hV⟩ : ∃ V, checkP l = V := ⟨_, rfl⟩
  rw [hV]
  have HV := Lib.hid hV
  obtain ⟨a, len, cap, rfl, hlen⟩ := rdO_len hrd
  have HN := Lib.hid hlen
  have HRD := Lib.hid hrd
  have HOK := Lib.hid hok
  have hlb : len ≤ 1000000000000 := by omega
  have HES : Hid (∀ w', Below w.heap.size w w' → ErrAt w' ∧ SpAt w') := Lib.hid fun w' hb => ⟨hE.below hb, hSp.below hb hSp.1⟩
  have HC : Hid (∀ w, Calls Tryz.prog 64 #[.int .i64 (len : Int)] w fun e w' => e = .returned (.bool (decide (1 ≤ len ∧ len ≤ 50))) ∧ w' = w) := Lib.hid (iscount_any len)
  by_cases hcnt : 1 ≤ len ∧ len ≤ 50
  · have HVF : Hid (V = firstErr l) := Lib.hid (by rw [← hV]; unfold checkP; rw [if_neg (by rw [← hlen]; omega)])
    rw [decide_eq_true hcnt] at HC
    clear hV hE hSp hrd hlen hok hlm hcnt
    go_enter Tryz.func46, Tryz.ntmps46
    go_wp2_with fail
    refine (HC.out _).mono ?_
    rintro e w' ⟨rfl, rfl⟩
    go_wp2_with fail
    go_loopg [13] len (fun kk vi wr => ∃ i : Nat, vi = .int .i64 i ∧ i ≤ len ∧ len - i ≤ kk ∧ Hid (∀ j y, j < i → l[j]? = some y → opErr y = 0) ∧ Hid (Below w'.heap.size w' wr))
    case atStart => exact ⟨0, by go_num, by omega, by omega, Lib.hid (fun j y hj => by omega), Lib.hid (Below.refl _ _)⟩
    case round =>
      obtain ⟨q, rfl, hq, hkk, HG, HB⟩ := hrel
      by_cases h1 : q < len
      · have hd1 : decide (q < len) = true := decide_eq_true h1
        obtain ⟨x, hx⟩ : ∃ x, l[q]? = some x := ⟨l[q]'(by have := HN.out; omega), List.getElem?_eq_getElem _⟩
        obtain ⟨b, off, rfl, hblt, d0, d1, d2⟩ := (HRD.out.below HB.out).at3 q x hx
        have HX := Lib.hid hx
        obtain ⟨hx1, hx2⟩ := HOK.out x (List.mem_of_getElem? hx)
        have hal : Below w'.heap.size w' (wr.alloc (.cells #[.int .i64 x.kind, .string x.sp, .string x.val] 49)) := HB.out.alloc HB.out.size _
        have HK := Lib.hid (keyof_any x hx1 hx2 (wr.alloc (.cells #[.int .i64 x.kind, .string x.sp, .string x.val] 49)) (HES.out _ hal).1 (HES.out _ hal).2)
        have HAL := Lib.hid hal
        clear hal hx hx1 hx2
        unfold Opn.v KeyRes at HK
        go_wp2_with fail
        refine HK.out.mono ?_
        rintro e w2 ⟨rfl, hb⟩
        have HB2 := Lib.hid (HAL.out.trans (hb.mono HAL.out.size))
        clear hb HAL HK d0 d1 d2
        by_cases hx0 : opErr x = 0
        · rw [hx0, keyAgg_yes hx0]
          have HX0 := Lib.hid hx0
          clear hx0
          go_wp2_with fail
          go_roundg (len - (q + 1))
          case measure => omega
          case rel =>
            refine ⟨q + 1, by go_num, by omega, Nat.le_refl _, Lib.hid (fun j y hj hy => ?_), Lib.hid (HB2.out.alloc HB2.out.size _)⟩
            rcases Nat.lt_or_ge j q with h | h
            · exact HG.out j y h hy
            · obtain rfl : j = q := by omega
              obtain rfl : x = y := Option.some.inj (HX.out.symm.trans hy)
              exact HX0.out
        · rw [keyAgg_no hx0]
          have hVx : opErr x = V := by rw [HVF.out]; exact (firstErr_at HG.out HX.out hx0).symm
          rw [hVx] at hx0 ⊢
          have hne : (V != 0) = true := by rw [bne_iff_ne]; exact hx0
          clear hx0 hVx
          go_wp2_with fail
          go_ret
          exact ⟨rfl, HB2.out.alloc HB2.out.size _⟩
      · have hd1 : decide (q < len) = false := decide_eq_false h1
        obtain rfl : V = 0 := by rw [HVF.out]; exact firstErr_upto fun j y hj => HG.out j y (by have := HN.out; omega)
        go_wp2_with fail
        go_ret
        exact ⟨rfl, HB.out⟩
  · obtain rfl : V = 12 := by rw [← hV]; unfold checkP; rw [if_pos (by rw [← hlen]; omega)]
    rw [decide_eq_false hcnt] at HC
    clear hV hE hSp hrd hlen hok hlm hcnt
    go_enter Tryz.func46, Tryz.ntmps46
    go_wp2_with fail
    refine (HC.out _).mono ?_
    rintro e w' ⟨rfl, rfl⟩
    go_wp2_with fail
    go_ret
    exact ⟨rfl, Below.refl _ _⟩
end Go.Proofs.YtjhkfjbgdaomeaaGreatDoor
/- The walk of Encode. -/
namespace Go.Proofs.YtjhkfjbgdaomeaaGreatDoor
set_option linter.unusedVariables false
open Go.RowKit
def EncRes (s : Int) (l : List Opn) (w : World) (e : Ending) (w' : World) : Prop :=
  ∃ v, e = .returned (.tuple #[v, .int .i64 (encE s l)]) ∧ (encE s l = 0 → OwnB w.heap.size w' v (encB s.toNat l)) ∧ (¬ encE s l = 0 → v = .slice none 0 0) ∧ Below w.heap.size w w'
/-- v lies in another block than g. -/
def NotAt (g : Nat) (v : Value) : Prop := ∀ b, v.ownBlock = some b → b ≠ g
theorem NotAt.next {g : Nat} {v v' : Value} {w : World} (h : NotAt g v) (hg : g < w.heap.size) (hn : ∀ b, v'.ownBlock = some b → v.ownBlock = some b ∨ w.heap.size ≤ b) : NotAt g v' := fun b hb => by
  rcases hn b hb with h1 | h1
  · exact h b h1
  · omega
theorem NotAt.ne {g : Nat} {v : Value} (h : NotAt g v) : some g ≠ v.ownBlock := fun e => h g e.symm rfl
/-- one byte in a block that was just laid -/
theorem rdB_one (w : World) (x : UInt8) : RdB (w.alloc (.cells #[bv x] 5)) (.slice (some ⟨w.heap.size, 0, none⟩) 1 1) [x] :=
  (OwnB.lit w [x] #[bv x] 1 w.heap.size rfl (by unfold maxLen; omega) rfl (Nat.le_refl _)).rd
theorem opB_take {l : List Opn} {q : Nat} {x : Opn} (h : l[q]? = some x) : (l.take (q + 1)).flatMap opB = (l.take q).flatMap opB ++ opB x := by
  obtain ⟨hq, rfl⟩ := List.getElem?_eq_some_iff.1 h
  rw [List.take_add_one, List.getElem?_eq_getElem hq, List.flatMap_append]
  simp
theorem enc_pre {w wr : World} {v : Value} {L : List UInt8} (kd : Int) (sp val : ByteArray) (u : UInt8) (x : Int) (hx : bv u = .int .u8 x) (HO : OwnB w.heap.size wr v L) (HB : Below w.heap.size w wr) (HN : NotAt wr.heap.size v) :
    OwnB w.heap.size ((wr.alloc (.cells #[.int .i64 kd, .string sp, .string val] 49)).alloc (.cells #[.int .u8 x] 5)) v L ∧ RdB ((wr.alloc (.cells #[.int .i64 kd, .string sp, .string val] 49)).alloc (.cells #[.int .u8 x] 5)) (.slice (some ⟨wr.heap.size + 1, 0, none⟩) 1 1) [u] ∧
    Row3 ((wr.alloc (.cells #[.int .i64 kd, .string sp, .string val] 49)).alloc (.cells #[.int .u8 x] 5)) wr.heap.size (.int .i64 kd) (.string sp) (.string val) ∧ Below w.heap.size w ((wr.alloc (.cells #[.int .i64 kd, .string sp, .string val] 49)).alloc (.cells #[.int .u8 x] 5)) ∧ NotAt wr.heap.size v := by
  have a1 : Below wr.heap.size wr (wr.alloc (.cells #[.int .i64 kd, .string sp, .string val] 49)) := (Below.refl _ _).alloc (Nat.le_refl _) _
  have a2 := (Below.refl _ (wr.alloc (.cells #[.int .i64 kd, .string sp, .string val] 49))).alloc (Nat.le_refl _) (.cells #[.int .u8 x] 5)
  have h1 := rdB_one (wr.alloc (.cells #[.int .i64 kd, .string sp, .string val] 49)) u
  rw [hx, World.size_alloc] at h1
  refine ⟨(HO.below a1).below a2, h1, (Row3.new wr _ _ _ _).below a2 (by simp), (HB.alloc HB.size _).alloc ?_ _, HN⟩
  have := HB.size
  rw [World.size_alloc]; omega
/-- Behind an append: the slice, the change's block, what lies below. -/
theorem enc_next {w W w' : World} {g : Nat} {v v' : Value} {L : List UInt8} {x0 x1 x2 : Value} (o : OwnB w.heap.size w' v' L) (b : Below w.heap.size W w') (hg : W.grownBy w' v.ownBlock) (hn : ∀ b, v'.ownBlock = some b → v.ownBlock = some b ∨ W.heap.size ≤ b)
    (hr : Row3 W g x0 x1 x2) (hB : Below w.heap.size w W) (hN : NotAt g v) : OwnB w.heap.size w' v' L ∧ Row3 w' g x0 x1 x2 ∧ Below w.heap.size w w' ∧ NotAt g v' :=
  ⟨o, hr.kept hg hN.ne, hB.trans b, hN.next hr.2.2 hn⟩
set_option maxHeartbeats 8000000 in
set_option maxRecDepth 100000 in
theorem encode_any (s : Int) (hsb : -9223372036854775808 ≤ s ∧ s ≤ 9223372036854775807) (v : Value) (l : List Opn) (hok : ∀ o ∈ l, o.ok) (hlm : l.length ≤ 1000000000000) (w : World) (hrd : RdK encOp 3 w v l) (hE : ErrAt w) (hSp : SpAt w) :
    Calls Tryz.prog 27 #[.int .i64 s, v] w (EncRes s l w) := by
  obtain ⟨E, hEe⟩ : ∃ E, encE s l = E := ⟨_, rfl⟩
  obtain ⟨R, hR⟩ : ∃ R, encB s.toNat l = R := ⟨_, rfl⟩
  unfold EncRes
  rw [hEe, hR]
  have HC := Lib.hid (check_any v l hok hlm w hrd hE hSp)
  obtain ⟨a, len, cap, rfl, hlen⟩ := rdO_len hrd
  by_cases h0 : checkP l = 0
  · obtain ⟨hl1, hl2, hl3⟩ := checkP_ok h0
    have HN := Lib.hid hlen
    have HOK := Lib.hid hl3
    have HRD := Lib.hid hrd
    have hlb : 1 ≤ len ∧ len ≤ 50 := by omega
    obtain ⟨hlb1, hlb2⟩ := hlb
    have HI : Hid (∀ w, Calls Tryz.prog 47 #[.int .i64 s, .int .i64 (len : Int)] w fun e w' => e = .returned (.bool (decide (numOk s len))) ∧ w' = w) := Lib.hid (isnum_any s len (by omega) hsb)
    by_cases hno : numOk s len
    · obtain rfl : E = 0 := by rw [← hEe]; unfold encE; rw [if_pos h0, if_pos (by rw [← hlen]; exact hno)]
      obtain ⟨n, rfl⟩ := Int.eq_ofNat_of_zero_le (show 0 ≤ s by have := hno.1; omega)
      have hnb : n ≤ 1125899906842625 := by have := hno.2; omega
      rw [decide_eq_true hno] at HI
      rw [h0] at HC
      have HR : Hid (R = fixN 8 n ++ putN len ++ l.flatMap opB) := Lib.hid (by rw [← hR, hlen]; rfl)
      have HP8 : Hid (∀ w, Calls Tryz.prog 48 #[.int .u64 (n : Int)] w (MkB (fixN 8 n) w)) := Lib.hid (put64_any n (by omega))
      have HP : Hid (∀ w, Calls Tryz.prog 49 #[.int .u64 (len : Int)] w (MkB (putN len) w)) := Lib.hid (put_any len (by omega))
      have h8 : (fixN 8 n).length = 8 := fixN_len 8 n
      have hpl := (putN_len len).2
      clear hEe hR hno h0 hlen hrd hok hlm hl1 hl2 hl3 hE hSp hsb
      go_enter Tryz.func27, Tryz.ntmps27
      go_wp2_with fail
      refine HC.out.mono ?_
      rintro e w1 ⟨rfl, b1⟩
      have HB1 := Lib.hid b1
      clear b1 HC
      go_wp2_with fail
      refine (HI.out _).mono ?_
      rintro e w' ⟨rfl, rfl⟩
      clear HI
      go_wp2_with fail
      refine (HP8.out _).mono ?_
      rintro e w2 ⟨v2, rfl, o2, b2⟩
      have HB2 := Lib.hid (HB1.out.trans (b2.mono HB1.out.size))
      have HO2 := Lib.hid (o2.base HB1.out.size)
      clear o2 b2 HP8 HB1
      go_wp2_with fail
      refine (HP.out _).mono ?_
      rintro e w3 ⟨v3, rfl, o3, b3⟩
      have HB3 := Lib.hid (HB2.out.trans (b3.mono HB2.out.size))
      have HO3 := Lib.hid (HO2.out.below b3)
      have HV3 := Lib.hid o3.rd
      clear o3 b3 HP HB2 HO2
      go_wp2_with (at_builtin; refine wp_appSB _ _ (by rfl) (by rfl) (by rfl) HO3.out (by rfl) HV3.out ?c1 HB3.out.size ?_)
      case c1 => omega
      intro v4 w4 o4 b4
      have HB4 := Lib.hid (HB3.out.trans b4)
      have HO4 := Lib.hid o4
      have hl4 : (fixN 8 n ++ putN len).length ≤ 18 := by rw [List.length_append]; omega
      clear o4 b4 HV3 HO3 HB3 h8 hpl
      generalize fixN 8 n ++ putN len = H at *
      go_wp2_with fail
      go_loopg [30, 7] len (fun kk vi vb wr => ∃ (i : Nat) (L : List UInt8) (ab : Option Addr) (nb cb : Nat), vi = .int .i64 i ∧ vb = .slice ab nb cb ∧ i ≤ len ∧ len - i ≤ kk ∧ L.length ≤ 18 + i * 1052700 ∧ Hid (L = H ++ (l.take i).flatMap opB) ∧ Hid (OwnB w.heap.size wr (.slice ab nb cb) L) ∧ Hid (Below w.heap.size w wr))
      case atStart =>
        obtain ⟨ab, nb, cb, rfl, -⟩ := HO4.out.form
        exact ⟨0, H, ab, nb, cb, by go_num, rfl, by omega, by omega, by omega, Lib.hid (by simp), HO4, HB4⟩
      case round =>
        clear HO4 HB4
        obtain ⟨q, L, ab, nb, cb, rfl, rfl, hq, hkk, hLl, HL, HO, HB⟩ := hrel
        have hwr := HB.out.size
        by_cases h1 : q < len
        · have hd1 : decide (q < len) = true := decide_eq_true h1
          obtain ⟨x, hx⟩ : ∃ x, l[q]? = some x := ⟨l[q]'(by have := HN.out; omega), List.getElem?_eq_getElem _⟩
          have hxe := HOK.out x (List.mem_of_getElem? hx)
          obtain ⟨hxk, hxv, hxs⟩ := opErr_ok hxe
          have HTK := Lib.hid (opB_take hx)
          obtain ⟨b, off, rfl, hblt, d0, d1, d2⟩ := (HRD.out.below HB.out).at3 q x hx
          have hNA : NotAt wr.heap.size (.slice ab nb cb) := fun g hg => by have := (HO.out.where g hg).2; omega
          obtain ⟨kd, sp, val⟩ := x
          simp only at d0 d1 d2 hxk hxv hxs
          have HTS : Hid (∀ w, Calls Tryz.prog 50 #[.string sp] w (MkB (textE sp.data.toList) w)) := Lib.hid (text_putL sp (by omega))
          have HTV : Hid (∀ w, Calls Tryz.prog 50 #[.string val] w (MkB (textE val.data.toList) w)) := Lib.hid (text_putL val (by omega))
          have hts : (textE sp.data.toList).length ≤ 4106 := by have := (putN_len sp.data.toList.length).2; have := size_toList sp; unfold textE; rw [List.length_append]; omega
          have htv : (textE val.data.toList).length ≤ 1048586 := by have := (putN_len val.data.toList.length).2; have := size_toList val; unfold textE; rw [List.length_append]; omega
          clear hx hxe
          have hqn : q * 1052700 + 1052700 = (q + 1) * 1052700 := by omega
          have hq50 : q * 1052700 ≤ 52635000 := by omega
          by_cases hk1 : kd = 1
          · subst hk1
            have HP := Lib.hid (enc_pre 1 sp val 1 1 rfl HO.out HB.out hNA)
            clear hNA hxk HO HB
            go_wp2_with (at_builtin; refine wp_appGB _ _ (by rfl) (by rfl) (by rfl) HP.out.1 (by rfl) HP.out.2.1 ?c1 HP.out.2.2.2.1.size ?_)
            case c1 => simp only [List.length_singleton]; omega
            intro v5 w5 o5 b5 g5 n5
            have HX5 := Lib.hid (enc_next o5 b5 g5 (fun b hb => by have := n5 b hb; simpa using this) HP.out.2.2.1 HP.out.2.2.2.1 HP.out.2.2.2.2)
            clear o5 b5 g5 n5 HP d0 d1 d2 hblt
            obtain ⟨-, ⟨⟨c0, c1, c2⟩, -, hz5⟩, -⟩ := id HX5.out
            go_wp2_with fail
            refine (HTS.out _).mono ?_
            rintro e w6 ⟨v6, rfl, o6, b6⟩
            have HX6 : Hid (OwnB w.heap.size w6 v5 (L ++ [1]) ∧ RdB w6 v6 (textE sp.data.toList) ∧ Row3 w6 wr.heap.size (.int .i64 1) (.string sp) (.string val) ∧ Below w.heap.size w w6 ∧ NotAt wr.heap.size v5) :=
              Lib.hid ⟨HX5.out.1.below b6, o6.rd, HX5.out.2.1.below b6 hz5, HX5.out.2.2.1.trans (b6.mono HX5.out.2.2.1.size), HX5.out.2.2.2⟩
            clear o6 b6 HX5 c0 c1 c2 hz5
            go_wp2_with (at_builtin; refine wp_appGB _ _ (by rfl) (by rfl) (by rfl) HX6.out.1 (by rfl) HX6.out.2.1 ?c1 HX6.out.2.2.2.1.size ?_)
            case c1 => rw [List.length_append, List.length_singleton]; omega
            intro v7 w7 o7 b7 g7 n7
            have HX7 := Lib.hid (enc_next o7 b7 g7 n7 HX6.out.2.2.1 HX6.out.2.2.2.1 HX6.out.2.2.2.2)
            clear o7 b7 g7 n7 HX6
            obtain ⟨-, ⟨⟨c0, c1, c2⟩, -, hz7⟩, -⟩ := id HX7.out
            go_wp2_with fail
            refine (HTV.out _).mono ?_
            rintro e w8 ⟨v8, rfl, o8, b8⟩
            have HX8 : Hid (OwnB w.heap.size w8 v7 (L ++ 1 :: textE sp.data.toList) ∧ RdB w8 v8 (textE val.data.toList) ∧ Below w.heap.size w w8) :=
              Lib.hid ⟨HX7.out.1.below b8, o8.rd, HX7.out.2.2.1.trans (b8.mono HX7.out.2.2.1.size)⟩
            clear o8 b8 HX7 c0 c1 c2 hz7
            go_wp2_with (at_builtin; refine wp_appSB _ _ (by rfl) (by rfl) (by rfl) HX8.out.1 (by rfl) HX8.out.2.1 ?c1 HX8.out.2.2.size ?_)
            case c1 => rw [List.length_append, List.length_cons]; omega
            intro v9 w9 o9 b9
            obtain ⟨a9, n9, c9, rfl, -⟩ := o9.form
            have HO9 := Lib.hid o9
            have HB9 := Lib.hid (HX8.out.2.2.trans b9)
            clear o9 b9 HX8
            go_wp2_with fail
            go_roundg (len - (q + 1))
            case measure => omega
            case rel =>
              refine ⟨q + 1, _, a9, n9, c9, by go_num, rfl, by omega, Nat.le_refl _, ?_, Lib.hid ?_, HO9, HB9⟩
              · simp only [List.length_append, List.length_cons]; omega
              · rw [HTK.out, HL.out]
                show _ = H ++ (_ ++ (1 :: (textE sp.data.toList ++ textE val.data.toList)))
                simp only [List.append_assoc]
          · obtain ⟨rfl, hz⟩ : kd = 0 ∧ val.size = 0 := by
              rcases hxk with h | h
              · exact absurd h hk1
              · exact h
            have HP := Lib.hid (enc_pre 0 sp val 0 0 rfl HO.out HB.out hNA)
            clear hNA hxk HO HB hk1 hz
            go_wp2_with (at_builtin; refine wp_appGB _ _ (by rfl) (by rfl) (by rfl) HP.out.1 (by rfl) HP.out.2.1 ?c1 HP.out.2.2.2.1.size ?_)
            case c1 => simp only [List.length_singleton]; omega
            intro v5 w5 o5 b5 g5 n5
            have HX5 := Lib.hid (enc_next o5 b5 g5 (fun b hb => by have := n5 b hb; simpa using this) HP.out.2.2.1 HP.out.2.2.2.1 HP.out.2.2.2.2)
            clear o5 b5 g5 n5 HP d0 d1 d2 hblt
            obtain ⟨-, ⟨⟨c0, c1, c2⟩, -, hz5⟩, -⟩ := id HX5.out
            go_wp2_with fail
            refine (HTS.out _).mono ?_
            rintro e w6 ⟨v6, rfl, o6, b6⟩
            have HX6 : Hid (OwnB w.heap.size w6 v5 (L ++ [0]) ∧ RdB w6 v6 (textE sp.data.toList) ∧ Row3 w6 wr.heap.size (.int .i64 0) (.string sp) (.string val) ∧ Below w.heap.size w w6 ∧ NotAt wr.heap.size v5) :=
              Lib.hid ⟨HX5.out.1.below b6, o6.rd, HX5.out.2.1.below b6 hz5, HX5.out.2.2.1.trans (b6.mono HX5.out.2.2.1.size), HX5.out.2.2.2⟩
            clear o6 b6 HX5 c0 c1 c2 hz5
            go_wp2_with (at_builtin; refine wp_appGB _ _ (by rfl) (by rfl) (by rfl) HX6.out.1 (by rfl) HX6.out.2.1 ?c1 HX6.out.2.2.2.1.size ?_)
            case c1 => rw [List.length_append, List.length_singleton]; omega
            intro v7 w7 o7 b7 g7 n7
            have HX7 := Lib.hid (enc_next o7 b7 g7 n7 HX6.out.2.2.1 HX6.out.2.2.2.1 HX6.out.2.2.2.2)
            clear o7 b7 g7 n7 HX6
            obtain ⟨-, ⟨⟨c0, c1, c2⟩, -, hz7⟩, -⟩ := id HX7.out
            obtain ⟨a9, n9, c9, rfl, -⟩ := HX7.out.1.form
            go_wp2_with fail
            go_roundg (len - (q + 1))
            case measure => omega
            case rel =>
              refine ⟨q + 1, _, a9, n9, c9, by go_num, rfl, by omega, Nat.le_refl _, ?_, Lib.hid ?_, Lib.hid HX7.out.1, Lib.hid HX7.out.2.2.1⟩
              · simp only [List.length_append, List.length_cons]; omega
              · rw [HTK.out, HL.out]
                show _ = H ++ (_ ++ (0 :: (textE sp.data.toList ++ [])))
                simp only [List.append_assoc, List.append_nil]
        · have hd1 : decide (q < len) = false := decide_eq_false h1
          obtain rfl : L = R := by
            rw [HL.out, HR.out, List.take_of_length_le (by have := HN.out; omega)]
          go_wp2_with fail
          go_ret2
          exact ⟨_, rfl, fun _ => HO.out, fun h => (h trivial).elim, HB.out⟩
    · obtain rfl : E = 12 := by rw [← hEe]; unfold encE; rw [if_pos h0, if_neg (by rw [← hlen]; exact hno)]
      rw [decide_eq_false hno] at HI
      rw [h0] at HC
      clear hEe hR hno h0 hlen hrd hok hlm hl1 hl2 hl3 hE hSp
      obtain ⟨hsb1, hsb2⟩ := hsb
      go_enter Tryz.func27, Tryz.ntmps27
      go_wp2_with fail
      refine HC.out.mono ?_
      rintro e w1 ⟨rfl, b1⟩
      go_wp2_with fail
      refine (HI.out _).mono ?_
      rintro e w' ⟨rfl, rfl⟩
      go_wp2_with fail
      go_ret2
      exact ⟨_, rfl, (fun h => absurd h (by decide)), fun _ => rfl, b1⟩
  · obtain rfl : E = checkP l := by rw [← hEe]; unfold encE; rw [if_neg h0]
    clear hEe hR hlen hrd hok hlm hE hSp
    generalize checkP l = C at *
    have hne : (C != 0) = true := by rw [bne_iff_ne]; exact h0
    have H0 := Lib.hid h0
    clear h0
    obtain ⟨hsb1, hsb2⟩ := hsb
    go_enter Tryz.func27, Tryz.ntmps27
    go_wp2_with fail
    refine HC.out.mono ?_
    rintro e w1 ⟨rfl, b1⟩
    go_wp2_with fail
    go_ret2
    exact ⟨_, rfl, fun h => absurd h H0.out, fun _ => rfl, b1⟩
end Go.Proofs.YtjhkfjbgdaomeaaGreatDoor
/- The walk of getOps. -/
namespace Go.Proofs.YtjhkfjbgdaomeaaGreatDoor
set_option linter.unusedVariables false
open Go.RowKit
def OpsAt (B : Nat) (w : World) (u : Value) (ok : Bool) : Option (List Opn) → Prop
  | .none => ok = false
  | .some l => ok = true ∧ OwnK encOp 3 49 B w u l
def OpsRes (r : Option (List Opn)) (w : World) (e : Ending) (w' : World) : Prop := ∃ u ok, e = .returned (.tuple #[u, .bool ok]) ∧ OpsAt w.heap.size w' u ok r ∧ Below w.heap.size w w'
/-- What n changes give, where xs stand ahead of them. -/
def aheadO (xs : List Opn) : Option (List Opn × List UInt8) → Option (List Opn × List UInt8)
  | .none => .none
  | .some (l, r) => .some (xs ++ l, r)
theorem getNP_no {n : Nat} {b : List UInt8} (h : getOpP b = none) : getNP (n + 1) b = none := by rw [getNP, h]
theorem getNP_yes {n : Nat} {b : List UInt8} {o : Opn} {k : Nat} (h : getOpP b = some (o, k)) (xs : List Opn) : aheadO xs (getNP (n + 1) b) = aheadO (xs ++ [o]) (getNP n (b.drop k)) := by
  rw [getNP, h]
  simp only
  cases getNP n (b.drop k) with
  | none => rfl
  | some p => simp [aheadO]
theorem getOpP_size {l : List UInt8} {o : Opn} {k : Nat} (h : getOpP l = some (o, k)) : o.sp.size ≤ l.length ∧ o.val.size ≤ l.length := by
  cases l with
  | nil => cases h
  | cons c r =>
    rw [List.length_cons]
    cases hg : getT r with
    | none => rw [getOpP_none hg] at h; cases h
    | some p =>
      obtain ⟨s, n⟩ := p
      obtain ⟨h1, h2, h3⟩ := getT_le hg
      by_cases hc : c = 1
      · subst hc
        cases hv : getT (r.drop n) with
        | none => rw [getOpP_put0 hg hv] at h; cases h
        | some q =>
          obtain ⟨v, m⟩ := q
          obtain ⟨h4, h5, h6⟩ := getT_le hv
          rw [List.length_drop] at h6
          rw [getOpP_put hg hv] at h
          simp only [Option.some.injEq, Prod.mk.injEq] at h
          obtain ⟨rfl, -⟩ := h
          exact ⟨by show s.toArray.size ≤ _; simp; omega, by show v.toArray.size ≤ _; simp; omega⟩
      · rw [getOpP_del hg hc] at h
        simp only [Option.some.injEq, Prod.mk.injEq] at h
        obtain ⟨rfl, -⟩ := h
        exact ⟨by show s.toArray.size ≤ _; simp; omega, Nat.zero_le _⟩
theorem getNP_ok : ∀ {n : Nat} {b : List UInt8} {l : List Opn} {r : List UInt8}, getNP n b = some (l, r) → l.length = n ∧ ∀ o ∈ l, o.sp.size ≤ b.length ∧ o.val.size ≤ b.length
  | 0, b, l, r, h => by
    rw [getNP] at h
    simp only [Option.some.injEq, Prod.mk.injEq] at h
    obtain ⟨rfl, -⟩ := h
    exact ⟨rfl, fun o ho => by cases ho⟩
  | n + 1, b, l, r, h => by
    rw [getNP] at h
    cases hg : getOpP b with
    | none => rw [hg] at h; cases h
    | some p =>
      obtain ⟨o, k⟩ := p
      rw [hg] at h
      simp only at h
      cases hn : getNP n (b.drop k) with
      | none => rw [hn] at h; cases h
      | some q =>
        obtain ⟨l', r'⟩ := q
        rw [hn] at h
        simp only [Option.some.injEq, Prod.mk.injEq] at h
        obtain ⟨rfl, -⟩ := h
        obtain ⟨h1, h2⟩ := getNP_ok hn
        refine ⟨by rw [List.length_cons, h1], fun x hx => ?_⟩
        rcases List.mem_cons.1 hx with rfl | hx
        · exact getOpP_size hg
        · have := h2 x hx
          rw [List.length_drop] at this
          omega
theorem getOpsP_ok {b : List UInt8} {l : List Opn} (h : getOpsP b = some l) : l.length ≤ 50 ∧ ∀ o ∈ l, o.sp.size ≤ b.length ∧ o.val.size ≤ b.length := by
  unfold getOpsP at h
  cases hg : getN b with
  | none => rw [hg] at h; cases h
  | some p =>
    obtain ⟨m, k⟩ := p
    rw [hg] at h
    simp only at h
    split at h
    · cases h
    · cases hn : getNP m (b.drop k) with
      | none => rw [hn] at h; cases h
      | some q =>
        obtain ⟨l', r'⟩ := q
        rw [hn] at h
        simp only at h
        split at h
        · obtain rfl := Option.some.inj h
          obtain ⟨h1, h2⟩ := getNP_ok hn
          refine ⟨by omega, fun o ho => ?_⟩
          have := h2 o ho
          rw [List.length_drop] at this
          omega
        · cases h
theorem getOpsP_none {b : List UInt8} (h : getN b = none) : getOpsP b = none := by unfold getOpsP; rw [h]
theorem getOpsP_many {b : List UInt8} {m k : Nat} (h : getN b = some (m, k)) (hm : m < 1 ∨ 50 < m) : getOpsP b = none := by unfold getOpsP; rw [h]; exact if_pos hm
theorem getOpsP_of {b : List UInt8} {m k : Nat} (h : getN b = some (m, k)) (hm : ¬ (m < 1 ∨ 50 < m)) : getOpsP b = match getNP m (b.drop k) with
    | .none => .none
    | .some (l, r) => if r = [] then .some l else .none := by unfold getOpsP; rw [h]; exact if_neg hm
theorem set_next {α : Type} {xs : List α} {q j : Nat} (h : xs.length = q) (o z : α) : (xs ++ List.replicate (j + 1) z).set q o = (xs ++ [o]) ++ List.replicate j z := by
  subst h
  rw [List.set_append_right _ _ (Nat.le_refl _), Nat.sub_self, List.replicate_succ, List.set_cons_zero]; simp
set_option maxHeartbeats 8000000 in
set_option maxRecDepth 100000 in
theorem getops_any (v : Value) (b : List UInt8) (w : World) (hrd : RdB w v b) (hbl : b.length ≤ 1000000000000) : Calls Tryz.prog 63 #[v] w (OpsRes (getOpsP b) w) := by
  obtain ⟨O, hO⟩ : ∃ O, getOpsP b = O := ⟨_, rfl⟩
  rw [hO]
  unfold OpsRes
  have HG := Lib.hid (get_any v b w hrd)
  obtain ⟨a, len, cap, rfl, hlen, hcap⟩ := hrd.form
  have HRD := Lib.hid hrd
  have HN := Lib.hid hlen
  cases hg : getN b with
  | none =>
    obtain rfl : O = none := by rw [← hO, getOpsP_none hg]
    rw [hg] at HG
    clear hg hO hrd hlen hcap hbl HRD HN
    go_enter Tryz.func63, Tryz.ntmps63
    go_wp2_with fail
    refine HG.out.mono ?_
    rintro e w' ⟨rfl, rfl⟩
    unfold numRes
    go_wp2_with fail
    go_ret2
    exact ⟨_, false, rfl, rfl, Below.refl _ _⟩
  | some p =>
    obtain ⟨m, k⟩ := p
    obtain ⟨hk1, hk2, hk10, hm64⟩ := getN_le hg
    rw [hg] at HG
    by_cases hm : m < 1 ∨ 50 < m
    · obtain rfl : O = none := by rw [← hO, getOpsP_many hg hm]
      clear hg hO hrd hlen hcap hbl HRD HN
      by_cases hm1 : m < 1
      · have hd1 : (m : Int) < 1 := by omega
        clear hm
        go_enter Tryz.func63, Tryz.ntmps63
        go_wp2_with fail
        refine HG.out.mono ?_
        rintro e w' ⟨rfl, rfl⟩
        unfold numRes
        go_wp2_with fail
        go_ret2
        exact ⟨_, false, rfl, rfl, Below.refl _ _⟩
      · have hd1 : ¬ (m : Int) < 1 := by omega
        have hd2 : (50 : Int) < (m : Int) := by omega
        clear hm
        go_enter Tryz.func63, Tryz.ntmps63
        go_wp2_with fail
        refine HG.out.mono ?_
        rintro e w' ⟨rfl, rfl⟩
        unfold numRes
        go_wp2_with fail
        go_ret2
        exact ⟨_, false, rfl, rfl, Below.refl _ _⟩
    · have hd1 : ¬ (m : Int) < 1 := by omega
      have hd2 : ¬ (50 : Int) < (m : Int) := by omega
      have HO := Lib.hid (hO.symm.trans (getOpsP_of hg hm))
      have hm50 : m ≤ 50 := by omega
      have hm1 : 1 ≤ m := by omega
      have hmk : (Instr.makeSlice 32 (.int .u64 (m : Int)) (.int .u64 (m : Int))).run Tryz.prog w = .ok (.slice (some ⟨w.heap.size, 0, none⟩) m m) (w.alloc (.cells (madeCells #[.int .i64 0, .string ⟨#[]⟩, .string ⟨#[]⟩] (m * 3)) 49)) := mkK_run (enc := encOp) elem_op .u64 m (by omega) (by unfold maxLen; omega) w
      have HOW := Lib.hid (mkK_own encOp_len Opn.none #[.int .i64 0, .string ⟨#[]⟩, .string ⟨#[]⟩] rfl m (by unfold maxLen; omega) w (E := 49))
      have HB0 := Lib.hid ((Below.refl w.heap.size w).alloc (Nat.le_refl _) (.cells (madeCells #[.int .i64 0, .string ⟨#[]⟩, .string ⟨#[]⟩] (m * 3)) 49))
      have hsize : (w.alloc (.cells (madeCells #[.int .i64 0, .string ⟨#[]⟩, .string ⟨#[]⟩] (m * 3)) 49)).heap.size = w.heap.size + 1 := by simp
      have hkl : k ≤ len := by omega
      have hlb : len ≤ 1000000000000 := by omega
      have hcl : len ≤ cap := (hcap (by omega)).1
      have HRDB : Hid (∀ W, Below w.heap.size w W → RdB W (.slice a len cap) b) := Lib.hid fun W hW => HRD.out.below hW
      clear hg hO hrd hlen hcap hbl HRD hm
      go_enter Tryz.func63, Tryz.ntmps63
      go_wp2_with fail
      refine HG.out.mono ?_
      rintro e w' ⟨rfl, rfl⟩
      unfold numRes
      go_upto_region 5 with fail
      generalize w.alloc (.cells (madeCells #[.int .i64 0, .string ⟨#[]⟩, .string ⟨#[]⟩] (m * 3)) 49) = w1 at *
      clear hmk HG
      go_wp2_with fail
      have hw1 := HB0.out.size
      go_loopg [25, 5] m (fun kk vi va wr => ∃ (i A : Nat) (xs : List Opn), vi = .int .i64 i ∧ va = .int .i64 A ∧ i ≤ m ∧ m - i ≤ kk ∧ A ≤ len ∧ xs.length = i ∧ w.heap.size < wr.heap.size ∧
        Hid (OwnK encOp 3 49 w.heap.size wr (.slice (some ⟨w.heap.size, 0, none⟩) m m) (xs ++ List.replicate (m - i) Opn.none)) ∧ Hid (getNP m (b.drop k) = aheadO xs (getNP (m - i) (b.drop A))) ∧ Hid (Below w.heap.size w wr))
      case atStart =>
        refine ⟨0, k, [], by go_num, rfl, by omega, by omega, hkl, rfl, by omega, HOW, Lib.hid ?_, HB0⟩
        rw [Nat.sub_zero]
        cases getNP m (b.drop k) with
        | none => rfl
        | some p => rfl
      case round =>
        clear HOW HB0 hsize hw1
        obtain ⟨q, A, xs, rfl, rfl, hq, hkk, hA, hxl, hwr, HOW, HGN, HB⟩ := hrel
        have HXL := Lib.hid hxl
        clear hxl
        by_cases h1 : q < m
        · have hd3 : decide (q < m) = true := decide_eq_true h1
          obtain ⟨ad, hadd⟩ : ∃ ad, (if cap = A then a else a.map (·.add A)) = ad := ⟨_, rfl⟩
          have hsl := fun W => sl_lB W a len cap A hA hcl
          have hdr := (HRDB.out _ HB.out).drop A hA
          simp only [hadd] at hsl hdr
          obtain ⟨n1, hn1⟩ : ∃ n1, len - A = n1 := ⟨_, rfl⟩
          obtain ⟨c1, hc1⟩ : ∃ c1, cap - A = c1 := ⟨_, rfl⟩
          rw [hn1, hc1] at hdr
          simp only [hn1, hc1] at hsl
          have HGO := Lib.hid (getop_any _ _ wr hdr (by have := HN.out; rw [List.length_drop]; omega))
          clear hadd hdr hn1 hc1
          cases hgo : getOpP (b.drop A) with
          | none =>
            obtain rfl : O = none := by
              rw [HO.out, HGN.out, show m - q = (m - q - 1) + 1 by omega, getNP_no hgo]; rfl
            rw [hgo] at HGO
            clear hgo HO HGN
            unfold OpRes opV at HGO
            go_wp2_with fail
            refine HGO.out.mono ?_
            rintro e w2 ⟨rfl, hb⟩
            have HB2 := Lib.hid (HB.out.trans (hb.mono HB.out.size))
            clear hb HGO
            go_wp2_with fail
            go_ret2
            exact ⟨_, false, rfl, rfl, HB2.out.alloc HB2.out.size _⟩
          | some p =>
            obtain ⟨o, n⟩ := p
            obtain ⟨hn1, hn2⟩ := getOpP_le hgo
            rw [List.length_drop] at hn2
            have hAn : A + n ≤ len := by have := HN.out; omega
            have HGN2 : Hid (getNP m (b.drop k) = aheadO (xs ++ [o]) (getNP (m - (q + 1)) (b.drop (A + n)))) := Lib.hid (by
              rw [HGN.out, show m - q = (m - (q + 1)) + 1 by omega, getNP_yes hgo, List.drop_drop])
            have hzn : ((n : Int) == 0) = false := by simp; omega
            rw [hgo] at HGO
            clear hgo HGN hn2
            unfold OpRes opV at HGO
            go_wp2_with fail
            refine HGO.out.mono ?_
            rintro e w2 ⟨rfl, hb⟩
            obtain ⟨kd, sp, val⟩ := o
            simp only
            have HB2 : Hid (Below w.heap.size w w2) := Lib.hid (HB.out.trans (hb.mono HB.out.size))
            have HW2 : Hid (OwnK encOp 3 49 w.heap.size w2 (.slice (some ⟨w.heap.size, 0, none⟩) m m) (xs ++ List.replicate (m - q) Opn.none)) := Lib.hid (HOW.out.below hb)
            have hs2 : w.heap.size < w2.heap.size := Nat.lt_of_lt_of_le hwr hb.size
            clear hb HGO HOW
            have hql : q < (xs ++ List.replicate (m - q) Opn.none).length := by have := HXL.out; rw [List.length_append, List.length_replicate]; omega
            obtain ⟨g, cp, hpl, -, -, -, -, hpc⟩ := HW2.out.place encOp_len q hql
            simp only [Value.slice.injEq, Option.some.injEq, Addr.mk.injEq, and_true] at hpl
            obtain ⟨rfl, -, -⟩ := hpl
            have hel : (xs ++ List.replicate (m - q) Opn.none)[q] = Opn.none := by
              rw [List.getElem_append_right (by have := HXL.out; omega), List.getElem_replicate]
            rw [hel] at hpc
            have p0 : w2.cell? ⟨w.heap.size, q * 3, none⟩ = some (.int .i64 0) := (hpc 0 (by decide)).1
            have p1 : w2.cell? ⟨w.heap.size, q * 3 + 1, none⟩ = some (.string ⟨#[]⟩) := (hpc 1 (by decide)).1
            have p2 : w2.cell? ⟨w.heap.size, q * 3 + 2, none⟩ = some (.string ⟨#[]⟩) := (hpc 2 (by decide)).1
            have f0 : w2.frozen? ⟨w.heap.size, q * 3, none⟩ = false := (hpc 0 (by decide)).2
            have f1 : w2.frozen? ⟨w.heap.size, q * 3 + 1, none⟩ = false := (hpc 1 (by decide)).2
            have f2 : w2.frozen? ⟨w.heap.size, q * 3 + 2, none⟩ = false := (hpc 2 (by decide)).2
            have HQL := Lib.hid hql
            clear hpc hel hql hsl
            go_wp2_with fail
            go_roundg (m - (q + 1))
            case measure => omega
            case rel =>
              refine ⟨q + 1, A + n, xs ++ [⟨kd, sp, val⟩], by go_num, by go_num, by omega, Nat.le_refl _, hAn, by rw [List.length_append, HXL.out]; rfl, by simp; omega, Lib.hid ?_, HGN2, Lib.hid ?_⟩
              · have h1' := HW2.out.put encOp_len q HQL.out ⟨kd, sp, val⟩
                rw [show m - q = (m - (q + 1)) + 1 by omega, set_next HXL.out] at h1'
                exact h1'.below ((Below.refl _ _).alloc (Nat.le_refl _) _)
              · have hsr := setRow_below (Nat.le_refl _) (encOp ⟨kd, sp, val⟩) w2 (q * 3) HB2.out
                exact hsr.alloc hsr.size _
        · have hd3 : decide (q < m) = false := decide_eq_false h1
          obtain rfl : q = m := by omega
          have HGE : Hid (O = if b.drop A = [] then some xs else none) := Lib.hid (by
            rw [HO.out, HGN.out, Nat.sub_self, getNP]
            simp [aheadO])
          have HOE := Lib.hid (by
            have := HOW.out
            rw [Nat.sub_self, List.replicate_zero, List.append_nil] at this
            exact this : OwnK encOp 3 49 w.heap.size wr (.slice (some ⟨w.heap.size, 0, none⟩) q q) xs)
          clear HOW HO HGN
          by_cases hAe : A = len
          · obtain rfl : O = some xs := by rw [HGE.out, if_pos (List.drop_of_length_le (by have := HN.out; omega))]
            have he : ((A : Int) == (len : Int)) = true := by simp; omega
            clear hAe
            go_wp2_with fail
            go_ret2
            exact ⟨_, true, rfl, ⟨rfl, HOE.out⟩, HB.out⟩
          · obtain rfl : O = none := by
              rw [HGE.out, if_neg]
              intro h
              have := congrArg List.length h
              rw [List.length_drop, List.length_nil] at this
              have := HN.out; omega
            have he : ((A : Int) == (len : Int)) = false := by simp; omega
            clear hAe
            go_wp2_with fail
            go_ret2
            exact ⟨_, false, rfl, rfl, HB.out⟩
end Go.Proofs.YtjhkfjbgdaomeaaGreatDoor
/- The walk of Decode. -/
namespace Go.Proofs.YtjhkfjbgdaomeaaGreatDoor
set_option linter.unusedVariables false
open Go.RowKit
def DecAt (B : Nat) (w : World) (s : Int) (u : Value) (c : Int) : Option (Int × List Opn) → Prop
  | .none => s = 0 ∧ u = .slice none 0 0 ∧ c = 8
  | .some (q, l) => s = q ∧ c = 0 ∧ OwnK encOp 3 49 B w u l
def DecRes (r : Option (Int × List Opn)) (w : World) (e : Ending) (w' : World) : Prop := ∃ s u c, e = .returned (.tuple #[.int .i64 s, u, .int .i64 c]) ∧ DecAt w.heap.size w' s u c r ∧ Below w.heap.size w w'
theorem wrap64_bd (x : Int) : -9223372036854775808 ≤ wrap64 x ∧ wrap64 x ≤ 9223372036854775807 := by unfold wrap64; omega
theorem seqOf_unf {b : List UInt8} (h : 8 ≤ b.length) : seqOf b = wrap64 (unfK 8 b : Int) := by
  unfold seqOf unfK
  rw [if_pos h]
  exact IntWalk.i64_left _
theorem OwnK.len3 {w : World} {B : Nat} {v : Value} {ys : List Opn} (h : OwnK encOp 3 49 B w v ys) : ∃ a len cap, v = .slice a len cap ∧ len = ys.length ∧ len ≤ cap ∧ cap ≤ maxLen := by
  rcases h.blk with ⟨rfl, rfl⟩ | ⟨g, cap, cur, e1, e2, e3, e4, e5, e6, -⟩
  · exact ⟨none, 0, 0, rfl, rfl, Nat.le_refl _, by unfold maxLen; omega⟩
  · exact ⟨_, _, cap, e1, rfl, e5, e6⟩
set_option maxHeartbeats 4000000 in
set_option maxRecDepth 100000 in
theorem decode_any (v : Value) (b : List UInt8) (w : World) (hrd : RdB w v b) (hbl : b.length ≤ 1000000000000) (hE : ErrAt w) (hSp : SpAt w) : Calls Tryz.prog 40 #[v] w (DecRes (decP b) w) := by
  obtain ⟨D, hD⟩ : ∃ D, decP b = D := ⟨_, rfl⟩
  rw [hD]
  unfold DecRes
  unfold decP at hD
  obtain ⟨a, len, cap, rfl, hlen, hcap⟩ := hrd.form
  by_cases h8 : b.length < 8
  · obtain rfl : D = none := by rw [← hD, if_pos h8]
    have hl8 : (len : Int) < 8 := by omega
    clear hD hcap hE hSp hrd hlen hbl h8
    go_enter Tryz.func40, Tryz.ntmps40
    go_wp2
    go_ret3
    exact ⟨0, .slice none 0 0, 8, rfl, ⟨rfl, rfl, rfl⟩, Below.refl _ _⟩
  · rw [if_neg h8] at hD
    have hl8 : ¬ (len : Int) < 8 := by omega
    have hl8' : 8 ≤ len := by omega
    have hlb : len ≤ 1000000000000 := by omega
    have hcl := (hcap (by omega)).1
    obtain ⟨ad, hadd⟩ : ∃ ad, (if cap = 8 then a else a.map (·.add 8)) = ad := ⟨_, rfl⟩
    have hsl0 := fun W => sl_lB W a len cap 8 hl8' hcl
    have hdr := hrd.drop 8 hl8'
    simp only [hadd] at hsl0 hdr
    obtain ⟨n1, hn1⟩ : ∃ n1, len - 8 = n1 := ⟨_, rfl⟩
    obtain ⟨c1, hc1⟩ : ∃ c1, cap - 8 = c1 := ⟨_, rfl⟩
    rw [hn1, hc1] at hdr
    simp only [hn1, hc1] at hsl0
    have hsl : ∀ W, (Instr.sliceAt 38 (.slice a len cap) (some (.int .i64 8)) none none).run Tryz.prog W = .ok (.slice ad n1 c1) W := hsl0
    have HG8 : Hid (Calls Tryz.prog 62 #[.slice a len cap] w fun e w' => e = .returned (.int .u64 ((unfK 8 b : Nat) : Int)) ∧ w = w') := Lib.hid (get64_any _ _ w hrd)
    have HGO := Lib.hid (getops_any _ _ w hdr (by rw [List.length_drop]; omega))
    have HSQ := Lib.hid (seqOf_unf (b := b) (by omega))
    have HOPS : Hid (∀ l, getOpsP (b.drop 8) = some l → l.length ≤ 50 ∧ ∀ o ∈ l, o.ok) := Lib.hid fun l hl => by
      obtain ⟨h1, h2⟩ := getOpsP_ok hl
      refine ⟨h1, fun o ho => ?_⟩
      have := h2 o ho
      rw [List.length_drop] at this
      constructor <;> (unfold maxLen; omega)
    have hN64 : (0 : Int) ≤ (unfK 8 b : Int) := by omega
    have HES : Hid (∀ w', Below w.heap.size w w' → ErrAt w' ∧ SpAt w') := Lib.hid fun w' hb => ⟨hE.below hb, hSp.below hb hSp.1⟩
    generalize unfK 8 b = N at *
    have HBD := Lib.hid (wrap64_bd (N : Int))
    clear hadd hdr hsl0 hn1 hc1 hrd hlen hcap hbl h8 hE hSp
    cases hg : getOpsP (b.drop 8) with
    | none =>
      rw [hg] at hD HGO
      obtain rfl : D = none := hD.symm
      clear hg hD HOPS
      go_enter Tryz.func40, Tryz.ntmps40
      go_wp2_with fail
      refine HG8.out.mono ?_
      rintro e w' ⟨rfl, rfl⟩
      go_wp2_with fail
      refine HGO.out.mono ?_
      rintro e w1 ⟨u, ok, rfl, rfl, hb⟩
      go_wp2_with fail
      go_ret3
      exact ⟨0, .slice none 0 0, 8, rfl, ⟨rfl, rfl, rfl⟩, hb⟩
    | some l =>
      rw [hg] at hD HGO
      obtain ⟨hl50, hlok⟩ := HOPS.out l hg
      simp only [HSQ.out] at hD
      obtain ⟨hb1, hb2⟩ := HBD.out
      have HI : Hid (∀ w, Calls Tryz.prog 47 #[.int .i64 (wrap64 (N : Int)), .int .i64 (l.length : Int)] w fun e w' => e = .returned (.bool (decide (numOk (wrap64 (N : Int)) l.length))) ∧ w' = w) := Lib.hid (isnum_any _ _ (by omega) ⟨hb1, hb2⟩)
      have HCK : Hid (∀ (u : Value) (W : World), Below w.heap.size w W → OwnK encOp 3 49 w.heap.size W u l → Calls Tryz.prog 46 #[u] W fun e w' => e = .returned (.int .i64 (checkP l)) ∧ Below W.heap.size W w') := Lib.hid fun u W hW hu =>
        check_any u l hlok (by omega) W (hu.rd encOp_len) (HES.out _ hW).1 (HES.out _ hW).2
      obtain ⟨L, hL⟩ : ∃ L, l.length = L := ⟨_, rfl⟩
      have HLL := Lib.hid hL
      rw [hL] at HI hl50 hD
      clear hg HOPS HES hlok hL HSQ hb1 hb2 HBD
      obtain ⟨C, hC⟩ : ∃ C, checkP l = C := ⟨_, rfl⟩
      rw [hC] at HCK hD
      by_cases hc0 : C = 0
      · subst hc0
        by_cases hno : numOk (wrap64 (N : Int)) L
        · obtain rfl : D = some (wrap64 (N : Int), l) := by rw [← hD, if_pos ⟨rfl, hno⟩]
          rw [decide_eq_true hno] at HI
          clear hC hD hno
          go_enter Tryz.func40, Tryz.ntmps40
          go_wp2_with fail
          refine HG8.out.mono ?_
          rintro e w' ⟨rfl, rfl⟩
          go_wp2_with fail
          refine HGO.out.mono ?_
          rintro e w1 ⟨u, ok, rfl, ⟨rfl, ho⟩, hb⟩
          have HC1 := Lib.hid (HCK.out u w1 hb ho)
          obtain ⟨ua, ul, uc, rfl, hul, -⟩ := ho.len3
          obtain rfl : ul = L := by rw [hul, HLL.out]
          have HO1 := Lib.hid ho
          have HB1 := Lib.hid hb
          clear ho hb HCK hul
          go_wp2_with fail
          refine HC1.out.mono ?_
          rintro e w2 ⟨rfl, hb2⟩
          have HB2 := Lib.hid (HB1.out.trans (hb2.mono HB1.out.size))
          have HO2 := Lib.hid (HO1.out.below hb2)
          clear hb2 HC1
          go_wp2_with fail
          refine (HI.out _).mono ?_
          rintro e w' ⟨rfl, rfl⟩
          go_wp2_with fail
          go_ret3
          exact ⟨wrap64 (N : Int), _, 0, rfl, ⟨rfl, rfl, HO2.out⟩, HB2.out⟩
        · obtain rfl : D = none := by rw [← hD, if_neg fun h => hno h.2]
          rw [decide_eq_false hno] at HI
          clear hC hD hno
          go_enter Tryz.func40, Tryz.ntmps40
          go_wp2_with fail
          refine HG8.out.mono ?_
          rintro e w' ⟨rfl, rfl⟩
          go_wp2_with fail
          refine HGO.out.mono ?_
          rintro e w1 ⟨u, ok, rfl, ⟨rfl, ho⟩, hb⟩
          have HC1 := Lib.hid (HCK.out u w1 hb ho)
          obtain ⟨ua, ul, uc, rfl, hul, -⟩ := ho.len3
          obtain rfl : ul = L := by rw [hul, HLL.out]
          have HO1 := Lib.hid ho
          have HB1 := Lib.hid hb
          clear ho hb HCK hul
          go_wp2_with fail
          refine HC1.out.mono ?_
          rintro e w2 ⟨rfl, hb2⟩
          have HB2 := Lib.hid (HB1.out.trans (hb2.mono HB1.out.size))
          have HO2 := Lib.hid (HO1.out.below hb2)
          clear hb2 HC1
          go_wp2_with fail
          refine (HI.out _).mono ?_
          rintro e w' ⟨rfl, rfl⟩
          go_wp2_with fail
          go_ret3
          exact ⟨0, .slice none 0 0, 8, rfl, ⟨rfl, rfl, rfl⟩, HB2.out⟩
      · obtain rfl : D = none := by rw [← hD, if_neg fun h => hc0 h.1]
        have hne : (C != 0) = true := by rw [bne_iff_ne]; exact hc0
        clear hC hD hc0
        go_enter Tryz.func40, Tryz.ntmps40
        go_wp2_with fail
        refine HG8.out.mono ?_
        rintro e w' ⟨rfl, rfl⟩
        go_wp2_with fail
        refine HGO.out.mono ?_
        rintro e w1 ⟨u, ok, rfl, ⟨rfl, ho⟩, hb⟩
        have HC1 := Lib.hid (HCK.out u w1 hb ho)
        obtain ⟨ua, ul, uc, rfl, hul, -⟩ := ho.len3
        obtain rfl : ul = L := by rw [hul, HLL.out]
        have HO1 := Lib.hid ho
        have HB1 := Lib.hid hb
        clear ho hb HCK hul
        go_wp2_with fail
        refine HC1.out.mono ?_
        rintro e w2 ⟨rfl, hb2⟩
        have HB2 := Lib.hid (HB1.out.trans (hb2.mono HB1.out.size))
        have HO2 := Lib.hid (HO1.out.below hb2)
        clear hb2 HC1
        go_wp2_with fail
        go_ret3
        exact ⟨0, .slice none 0 0, 8, rfl, ⟨rfl, rfl, rfl⟩, HB2.out⟩
end Go.Proofs.YtjhkfjbgdaomeaaGreatDoor
/- The walk of Entries. -/
namespace Go.Proofs.YtjhkfjbgdaomeaaGreatDoor
set_option linter.unusedVariables false
open Go.RowKit
theorem elemK_ent : ElemK Tryz.prog 36 54 5 64 (.agg #[.string ⟨#[]⟩, .int .i64 0, .int .i64 0, .string ⟨#[]⟩, .string ⟨#[]⟩]) := ⟨Tryz.underlying36, by kernel_rfl, rfl, by decide⟩
def EntsRes (xs : List Ent) (w : World) (e : Ending) (w' : World) : Prop := ∃ u, e = .returned u ∧ OwnK encEnt 5 54 w.heap.size w' u xs ∧ Below w.heap.size w w'
theorem entsP_no {s : Int} {l : List Opn} (h : ¬ checkP l = 0) : entsP s l = [] := if_neg h
theorem entsF_take (s : Int) (l : List Opn) (q : Nat) (x : Opn) (h : l[q]? = some x) : (entsF s l).take (q + 1) = (entsF s l).take q ++ [entO (s + q) x] := by
  have := entsF_at s l q x h
  rw [List.take_add_one, this]; rfl
set_option maxHeartbeats 8000000 in
set_option maxRecDepth 100000 in
theorem entries_any (s : Int) (v : Value) (l : List Opn) (hok : ∀ o ∈ l, o.ok) (hlm : l.length ≤ 1000000000000) (w : World) (hrd : RdK encOp 3 w v l) (hE : ErrAt w) (hSp : SpAt w) :
    Calls Tryz.prog 41 #[.int .i64 s, v] w (EntsRes (entsP s l) w) := by
  obtain ⟨R, hR⟩ : ∃ R, entsP s l = R := ⟨_, rfl⟩
  rw [hR]
  unfold EntsRes
  obtain ⟨a, len, cap, rfl, hlen⟩ := rdO_len hrd
  have HN := Lib.hid hlen
  have HRD := Lib.hid hrd
  have HOK := Lib.hid hok
  have hlb : len ≤ 1000000000000 := by omega
  have HES : Hid (∀ w', Below w.heap.size w w' → ErrAt w' ∧ SpAt w') := Lib.hid fun w' hb => ⟨hE.below hb, hSp.below hb hSp.1⟩
  have HC : Hid (∀ w, Calls Tryz.prog 64 #[.int .i64 (len : Int)] w fun e w' => e = .returned (.bool (decide (1 ≤ len ∧ len ≤ 50))) ∧ w' = w) := Lib.hid (iscount_any len)
  by_cases hcnt : 1 ≤ len ∧ len ≤ 50
  · have HRF : Hid (R = if firstErr l = 0 then entsF s l else []) := Lib.hid (by rw [← hR]; unfold entsP checkP; rw [if_neg (show ¬ (l.length < 1 ∨ 50 < l.length) by omega)])
    have hmk : (Instr.makeSlice 36 (.int .i64 (len : Int)) (.int .i64 (len : Int))).run Tryz.prog w = .ok (.slice (some ⟨w.heap.size, 0, none⟩) len len) (w.alloc (.cells (madeCells #[.string ⟨#[]⟩, .int .i64 0, .int .i64 0, .string ⟨#[]⟩, .string ⟨#[]⟩] (len * 5)) 54)) := mkK_run (enc := encEnt) elemK_ent .i64 len (by omega) (by unfold maxLen; omega) w
    have HOW := Lib.hid (mkK_own encEnt_len Ent.none #[.string ⟨#[]⟩, .int .i64 0, .int .i64 0, .string ⟨#[]⟩, .string ⟨#[]⟩] rfl len (by unfold maxLen; omega) w (E := 54))
    have HB0 := Lib.hid ((Below.refl w.heap.size w).alloc (Nat.le_refl _) (.cells (madeCells #[.string ⟨#[]⟩, .int .i64 0, .int .i64 0, .string ⟨#[]⟩, .string ⟨#[]⟩] (len * 5)) 54))
    have hsize : (w.alloc (.cells (madeCells #[.string ⟨#[]⟩, .int .i64 0, .int .i64 0, .string ⟨#[]⟩, .string ⟨#[]⟩] (len * 5)) 54)).heap.size = w.heap.size + 1 := by simp
    rw [decide_eq_true hcnt] at HC
    obtain ⟨hc1, hc2⟩ := hcnt
    clear hR hE hSp hrd hlen hok hlm
    go_enter Tryz.func41, Tryz.ntmps41
    go_wp2_with fail
    refine (HC.out _).mono ?_
    rintro e w' ⟨rfl, rfl⟩
    go_upto_region 4 with fail
    generalize w'.alloc (.cells (madeCells #[.string ⟨#[]⟩, .int .i64 0, .int .i64 0, .string ⟨#[]⟩, .string ⟨#[]⟩] (len * 5)) 54) = w1 at *
    clear hmk HC
    go_wp2_with fail
    go_loopg [19] len (fun kk vi wr => ∃ (i : Nat) (xs : List Ent), vi = .int .i64 i ∧ i ≤ len ∧ len - i ≤ kk ∧ w'.heap.size < wr.heap.size ∧ Hid (xs.length = i) ∧ Hid (xs = (entsF s l).take i) ∧ Hid (∀ j y, j < i → l[j]? = some y → opErr y = 0) ∧
      Hid (OwnK encEnt 5 54 w'.heap.size wr (.slice (some ⟨w'.heap.size, 0, none⟩) len len) (xs ++ List.replicate (len - i) Ent.none)) ∧ Hid (Below w'.heap.size w' wr))
    case atStart => exact ⟨0, [], by go_num, by omega, by omega, by omega, Lib.hid rfl, Lib.hid (by simp), Lib.hid (fun j y hj => by omega), HOW, HB0⟩
    case round =>
      clear HOW HB0 hsize
      obtain ⟨q, xs, rfl, hq, hkk, hwr, HXL, HXS, HG, HOW, HB⟩ := hrel
      by_cases h1 : q < len
      · have hd1 : decide (q < len) = true := decide_eq_true h1
        obtain ⟨x, hx⟩ : ∃ x, l[q]? = some x := ⟨l[q]'(by have := HN.out; omega), List.getElem?_eq_getElem _⟩
        obtain ⟨b, off, rfl, hblt, d0, d1, d2⟩ := (HRD.out.below HB.out).at3 q x hx
        have HX := Lib.hid hx
        obtain ⟨hx1, hx2⟩ := HOK.out x (List.mem_of_getElem? hx)
        have hal : Below w'.heap.size w' (wr.alloc (.cells #[.int .i64 x.kind, .string x.sp, .string x.val] 49)) := HB.out.alloc HB.out.size _
        have HK := Lib.hid (keyof_any x hx1 hx2 (wr.alloc (.cells #[.int .i64 x.kind, .string x.sp, .string x.val] 49)) (HES.out _ hal).1 (HES.out _ hal).2)
        have HR3 := Lib.hid (Row3.new wr (.int .i64 x.kind) (.string x.sp) (.string x.val) 49)
        have HOA := Lib.hid (HOW.out.below ((Below.refl _ wr).alloc (Nat.le_refl _) (.cells #[.int .i64 x.kind, .string x.sp, .string x.val] 49)))
        have HAL := Lib.hid hal
        clear hal hx hx1 hx2 HOW
        unfold Opn.v KeyRes at HK
        go_wp2_with fail
        refine HK.out.mono ?_
        rintro e w2 ⟨rfl, hb⟩
        have HB2 := Lib.hid (HAL.out.trans (hb.mono HAL.out.size))
        have HR2 := Lib.hid (HR3.out.below hb HR3.out.2.2)
        have HO2 := Lib.hid (HOA.out.below hb)
        clear hb HAL HK HR3 HOA d0 d1 d2 hblt
        by_cases hx0 : opErr x = 0
        · rw [hx0, keyAgg_yes hx0]
          have HX0 := Lib.hid hx0
          have HXE : Hid ((entsF s l).take (q + 1) = xs ++ [⟨formP x.sp, wrap64 (s + q), x.kind, x.sp, x.val⟩]) := Lib.hid (by rw [entsF_take s l q x HX.out, HXS.out, entO, IntWalk.i64_left])
          clear hx0
          obtain ⟨⟨c0, c1, c2⟩, -, hz2⟩ := id HR2.out
          have hql : q < (xs ++ List.replicate (len - q) Ent.none).length := by have := HXL.out; rw [List.length_append, List.length_replicate]; omega
          obtain ⟨g, cp, hpl, -, hg2, -, -, hpc⟩ := HO2.out.place encEnt_len q hql
          simp only [Value.slice.injEq, Option.some.injEq, Addr.mk.injEq, and_true] at hpl
          obtain ⟨rfl, -, -⟩ := hpl
          have hel : (xs ++ List.replicate (len - q) Ent.none)[q] = Ent.none := by
            rw [List.getElem_append_right (by have := HXL.out; omega), List.getElem_replicate]
          rw [hel] at hpc
          have p0 : w2.cell? ⟨w'.heap.size, q * 5, none⟩ = some (.string ⟨#[]⟩) := (hpc 0 (by decide)).1
          have p1 : w2.cell? ⟨w'.heap.size, q * 5 + 1, none⟩ = some (.int .i64 0) := (hpc 1 (by decide)).1
          have p2 : w2.cell? ⟨w'.heap.size, q * 5 + 2, none⟩ = some (.int .i64 0) := (hpc 2 (by decide)).1
          have p3 : w2.cell? ⟨w'.heap.size, q * 5 + 3, none⟩ = some (.string ⟨#[]⟩) := (hpc 3 (by decide)).1
          have p4 : w2.cell? ⟨w'.heap.size, q * 5 + 4, none⟩ = some (.string ⟨#[]⟩) := (hpc 4 (by decide)).1
          have f0 : w2.frozen? ⟨w'.heap.size, q * 5, none⟩ = false := (hpc 0 (by decide)).2
          have f1 : w2.frozen? ⟨w'.heap.size, q * 5 + 1, none⟩ = false := (hpc 1 (by decide)).2
          have f2 : w2.frozen? ⟨w'.heap.size, q * 5 + 2, none⟩ = false := (hpc 2 (by decide)).2
          have f3 : w2.frozen? ⟨w'.heap.size, q * 5 + 3, none⟩ = false := (hpc 3 (by decide)).2
          have f4 : w2.frozen? ⟨w'.heap.size, q * 5 + 4, none⟩ = false := (hpc 4 (by decide)).2
          have HQL := Lib.hid hql
          clear hpc hel hql
          go_wp2_with fail
          go_roundg (len - (q + 1))
          case measure => omega
          case rel =>
            refine ⟨q + 1, xs ++ [⟨formP x.sp, wrap64 (s + q), x.kind, x.sp, x.val⟩], by go_num, by omega, Nat.le_refl _, by simp; omega, Lib.hid (by rw [List.length_append, HXL.out]; rfl), Lib.hid HXE.out.symm, Lib.hid (fun j y hj hy => ?_), Lib.hid ?_, Lib.hid ?_⟩
            · rcases Nat.lt_or_ge j q with h | h
              · exact HG.out j y h hy
              · obtain rfl : j = q := by omega
                obtain rfl : x = y := Option.some.inj (HX.out.symm.trans hy)
                exact HX0.out
            · have h1' := HO2.out.put encEnt_len q HQL.out ⟨formP x.sp, wrap64 (s + q), x.kind, x.sp, x.val⟩
              rw [show len - q = (len - (q + 1)) + 1 by omega, set_next HXL.out] at h1'
              exact h1'.below ((Below.refl _ _).alloc (Nat.le_refl _) _)
            · have hsr := setRow_below (Nat.le_refl _) (encEnt ⟨formP x.sp, wrap64 (s + q), x.kind, x.sp, x.val⟩) w2 (q * 5) HB2.out
              exact hsr.alloc hsr.size _
        · rw [keyAgg_no hx0]
          obtain rfl : R = [] := by rw [HRF.out, if_neg (by rw [firstErr_at HG.out HX.out hx0]; exact hx0)]
          obtain ⟨E, hEx⟩ : ∃ E, opErr x = E := ⟨_, rfl⟩
          rw [hEx] at hx0 ⊢
          have hne : (E != 0) = true := by rw [bne_iff_ne]; exact hx0
          clear hx0 hEx
          go_wp2_with fail
          go_ret
          exact ⟨_, rfl, OwnK.nil _ _ _ _ _, HB2.out.alloc HB2.out.size _⟩
      · have hd1 : decide (q < len) = false := decide_eq_false h1
        obtain rfl : q = len := by omega
        obtain rfl : R = xs := by
          rw [HRF.out, if_pos (firstErr_upto fun j y hj => HG.out j y (by have := HN.out; omega)), HXS.out, List.take_of_length_le (by rw [entsF_len]; have := HN.out; omega)]
        have HOE : Hid (OwnK encEnt 5 54 w'.heap.size wr (.slice (some ⟨w'.heap.size, 0, none⟩) q q) R) := Lib.hid (by
          have := HOW.out
          rwa [Nat.sub_self, List.replicate_zero, List.append_nil] at this)
        clear HOW
        go_wp2_with fail
        go_ret
        exact ⟨_, rfl, HOE.out, HB.out⟩
  · obtain rfl : R = [] := by rw [← hR, entsP_no]; unfold checkP; rw [if_pos (by omega)]; decide
    rw [decide_eq_false hcnt] at HC
    clear hR hE hSp hrd hlen hok hlm hcnt
    go_enter Tryz.func41, Tryz.ntmps41
    go_wp2_with fail
    refine (HC.out _).mono ?_
    rintro e w' ⟨rfl, rfl⟩
    go_wp2_with fail
    go_ret
    exact ⟨_, rfl, OwnK.nil _ _ _ _ _, Below.refl _ _⟩
end Go.Proofs.YtjhkfjbgdaomeaaGreatDoor
/- The laws' begun. -/
namespace Go.Proofs.YtjhkfjbgdaomeaaGreatDoor
set_option linter.unusedVariables false
open Go.RowKit
def kvO : Opn := ⟨1, ⟨#[107]⟩, ⟨#[118]⟩⟩
theorem kv_ok : checkP [kvO] = 0 := by decide +kernel
theorem kv_enc : encE 7 [kvO] = 0 := by decide +kernel
theorem kv_dec : decP (encB 7 [kvO]) = some (7, [kvO]) := dec_enc (seq := 7) kv_ok (by decide)
/-- one change that was just laid as a row -/
theorem rdO_one (w : World) (x : Opn) : RdK encOp 3 (w.alloc (.cells (encOp x).toArray 49)) (.slice (some ⟨w.heap.size, 0, none⟩) 1 1) [x] := (own_oneK (E := 49) encOp_len w x).rd encOp_len
end Go.Proofs.YtjhkfjbgdaomeaaGreatDoor
