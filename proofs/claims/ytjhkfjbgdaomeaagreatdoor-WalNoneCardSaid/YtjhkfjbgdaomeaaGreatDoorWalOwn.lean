/- A log of groups as the laws use it: a group is put behind the others; a front of them is told; the laws' begun. -/
import Derived.Test.YtjhkfjbgdaomeaaGreatDoorWalTold
import Derived.Test.YtjhkfjbgdaomeaaGreatDoorFsNam
import Derived.Test.YtjhkfjbgdaomeaaGreatDoorMOp
namespace Go.Proofs.YtjhkfjbgdaomeaaGreatDoor
set_option linter.unusedVariables false
open Go.RowKit Go.Maps
/-- What the listed variables hold. -/
def GlobAt (w : World) : Prop := ErrAt w ∧ SpAt w ∧ TabAt w
theorem GlobAt.below {w w' : World} (h : GlobAt w) (hb : Below w.heap.size w w') : GlobAt w' := ⟨h.1.below hb, h.2.1.below hb h.2.1.1, h.2.2.below hb⟩
theorem encE_good {g : Grp} (h : GoodG g) : encE (g.1 : Int) g.2 = 0 := by
  unfold encE
  rw [if_pos h.1, if_pos h.2]
/-- A group is put behind the others. -/
theorem walStep_any (w : World) (b lb : Nat) (ρ : Nat → Option Role) (nm : ByteArray) (gs : List Grp) (sy : Nat) (old : Dir) (wait : List Chg) (r : Nat) (c : Int) (h : LogAt w b lb ρ (namF nm (walB smN gs) sy old wait r c) nm (walB smN gs).length) (hs : nm.size ≤ 1000000) (g : Grp) (hg : GoodG g)
    (v : Value) (hrd : RdK encOp 3 w v g.2) (hok : ∀ o ∈ g.2, o.ok) (hG : GlobAt w) (hB : (grpB g).length ≤ 1000000) (hroom : (walB smN (gs ++ [g])).length ≤ r) (hr : r ≤ 16777216) :
    Calls Tryz.prog 12 #[.pointer (some ⟨lb, 0, none⟩), .int .i64 (g.1 : Int), v] w (LogRes w b lb ρ 0 (namF nm (walB smN (gs ++ [g])) sy old wait r (inc64 c)) nm (walB smN (gs ++ [g])).length) := by
  have hw := walB_snoc smN gs g
  have hl : (walB smN (gs ++ [g])).length = (walB smN gs).length + (layB smN (walB smN gs).length (grpB g)).length := by rw [hw, List.length_append]
  have hn := hg.2
  unfold numOk at hn
  have hl50 := (checkP_ok hg.1).2.1
  have ha := nam_append nm (walB smN gs) (layB smN (walB smN gs).length (grpB g)) sy old wait r c (by omega)
  rw [← hw] at ha
  have := walAppend_any w b lb ρ _ nm _ h hs (by omega) (g.1 : Int) (by omega) v g.2 hok (by omega) hrd hG.1 hG.2.1 hG.2.2 (encE_good hg) (grpB g) (by rw [Int.toNat_natCast]; rfl) (by omega) _ rfl (by omega) 0 _ ha
  rw [if_pos rfl, ← hl] at this
  exact this
/-- A front of the groups is told. -/
theorem toldWal_any (w : World) (b : Nat) (ρ : Nat → Option Role) (S : Fs) (h : FsAt w b ρ S) (gs : List Grp) (hg : ∀ g ∈ gs, GoodG g) (cut : Nat) (hcut : cut ≤ (walB smN gs).length) (hr : S.read (logName 5) = ((walB smN gs).take cut, 0)) (hbl : (walB smN gs).length ≤ 16777216) (hgl : gs.length ≤ 1000) (hgb : ∀ g ∈ gs, (grpB g).length ≤ 1000000)
    (wv : Value) (hw : RdLs encEnt 5 w wv (gs.map grpE)) (hG : GlobAt w) (least most : Nat) (h1 : least ≤ fitK smN 0 (gs.map grpB) cut) (h2 : fitK smN 0 (gs.map grpB) cut ≤ most) :
    Calls Tryz.prog 18 #[.pointer (some ⟨b, 0, none⟩), wv, .int .i64 (least : Int), .int .i64 (most : Int)] w fun e w' => e = .returned (.bool true) ∧ Below w.heap.size w w' := by
  have hk := fitK_le (sm := smN) (gs.map grpB) 0 cut
  rw [List.length_map] at hk
  have hrd := readC_cut smN_len (gs.map grpB) cut hcut
  change readC smN ((walB smN gs).take cut) = _ at hrd
  generalize fitK smN 0 (gs.map grpB) cut = k at hk hrd h1 h2
  have hrl : ((gs.map grpB).take k).length = k := by rw [List.length_take, List.length_map]; omega
  have hes : recsE ((gs.map grpB).take k) = some ((gs.take k).flatMap grpE) := by
    rw [← List.map_take]
    exact recsE_groups fun g hgm => hg g (List.mem_of_mem_take hgm)
  have hel : ∀ l : List Grp, (∀ g ∈ l, GoodG g) → (l.flatMap grpE).length ≤ 50 * l.length := by
    intro l
    induction l with
    | nil => intro _; simp
    | cons x l ih =>
      intro hx
      rw [List.flatMap_cons, List.length_append, List.length_cons]
      have e1 := ih fun g hgm => hx g (List.mem_cons_of_mem _ hgm)
      have e2 := (checkP_ok (hx x (List.mem_cons_self ..)).1).2.1
      have e3 : (grpE x).length = x.2.length := entsF_len _ _
      omega
  have hel2 := hel (gs.take k) fun g hgm => hg g (List.mem_of_mem_take hgm)
  rw [List.length_take] at hel2
  refine told_any w b ρ S h wv (gs.map grpE) hw _ hr (by rw [List.length_take]; omega) hG.1 hG.2.1 hG.2.2 _ _ hrd (by omega) (fun r hrm => ?_) _ hes least most (by omega) (by omega) (by rw [hrl, List.length_map]; exact hk) ?_ (by omega)
  · obtain ⟨g, hgm, rfl⟩ := List.mem_map.1 (List.mem_of_mem_take hrm)
    have := hgb g hgm; omega
  · rw [hrl, ← List.map_take, List.flatMap_def]
/-- A log of the call's own beside its file system. -/
def WalOwn (w0 w : World) (b lb : Nat) (S : Fs) (nm : ByteArray) (n : Nat) : Prop := ∃ ρ, LogAt w b lb ρ S nm n ∧ Below w0.heap.size w0 w ∧ ∀ k, LogP ρ lb k → w0.heap.size ≤ k
theorem WalOwn.to {w0 w w' : World} {b lb : Nat} {ρ : Nat → Option Role} {S' : Fs} {nm : ByteArray} {n' : Nat} (h2 : Below w0.heap.size w0 w) (h3 : ∀ k, LogP ρ lb k → w0.heap.size ≤ k) (h : LogTo w b lb ρ w' S' nm n') : WalOwn w0 w' b lb S' nm n' := by
  obtain ⟨ρ', g1, g2, g3⟩ := h
  refine ⟨ρ', g1, h2.trans (g2.below h2.size fun k hk f => ?_), fun k hk => ?_⟩
  · have := h3 k f; omega
  · rcases g3 k hk with g | g
    · exact h3 k g
    · exact Nat.le_trans h2.size g
theorem NewLog.own {w0 w w' : World} {b : Nat} {ρ : Nat → Option Role} {S' : Fs} {nm : ByteArray} {e : Ending} (h2 : Below w0.heap.size w0 w) (h3 : ∀ k, ρ k ≠ none → w0.heap.size ≤ k) (h : NewLog w b ρ S' nm e w') : ∃ lb, e = .returned (.tuple #[.pointer (some ⟨lb, 0, none⟩), .int .i64 0]) ∧ WalOwn w0 w' b lb S' nm 0 := by
  obtain ⟨lb, ρ', e1, g0, g1, g2, g3⟩ := h
  refine ⟨lb, e1, ρ', g1, h2.trans (g2.below h2.size fun k hk f => ?_), fun k hk => ?_⟩
  · have := h3 k f; omega
  · rcases hk with hk | rfl
    · rcases g3 k hk with g | g
      · exact h3 k g
      · exact Nat.le_trans h2.size g
    · exact Nat.le_trans h2.size g0
theorem WalOwn.blw {w0 w : World} {b lb : Nat} {S : Fs} {nm : ByteArray} {n : Nat} (h : WalOwn w0 w b lb S nm n) : Below w0.heap.size w0 w := by obtain ⟨ρ, _, h, _⟩ := h; exact h
theorem WalOwn.below {w0 w w' : World} {b lb : Nat} {S : Fs} {nm : ByteArray} {n : Nat} (h : WalOwn w0 w b lb S nm n) (hb : Below w.heap.size w w') : WalOwn w0 w' b lb S nm n := by
  obtain ⟨ρ, h1, h2, h3⟩ := h
  exact ⟨ρ, h1.below hb, h2.trans (hb.mono h2.size), h3⟩
def kvG : Grp := (1, [kvO])
theorem kvG_good : GoodG kvG := ⟨kv_ok, by decide⟩
theorem kvG_ents : entsF 1 [kvO] = [⟨⟨#[107]⟩, 1, 1, ⟨#[107]⟩, ⟨#[118]⟩⟩] := by
  have h : formP kvO.sp = ⟨#[107]⟩ := by decide +kernel
  show [entO 1 kvO] = _
  unfold entO
  rw [h]; rfl
theorem opn_short {o : Opn} (h : opErr o = 0) (n : Nat) (h1 : o.sp.size ≤ 40) (h2 : o.val.size ≤ n) : (opB o).length ≤ 61 + n := by
  have p1 := (putN_len o.sp.data.toList.length).2
  have p2 := (putN_len o.val.data.toList.length).2
  have e1 := size_toList o.sp
  have e2 := size_toList o.val
  unfold opB textE
  rw [List.length_cons, List.length_append, List.length_append]
  split
  · rw [List.length_append]; omega
  · simp only [List.length_nil]; omega
theorem ops_short (n : Nat) : ∀ {l : List Opn}, (∀ o ∈ l, opErr o = 0 ∧ o.sp.size ≤ 40 ∧ o.val.size ≤ n) → (l.flatMap opB).length ≤ l.length * (61 + n)
  | [], _ => by simp
  | o :: r, h => by
    obtain ⟨a1, a2, a3⟩ := h o (List.mem_cons_self ..)
    have h1 := opn_short a1 n a2 a3
    have h2 := ops_short n fun x hx => h x (List.mem_cons_of_mem _ hx)
    rw [List.flatMap_cons, List.length_append, List.length_cons, Nat.add_mul]; omega
theorem grp_short (n : Nat) {g : Grp} (h : ∀ o ∈ g.2, opErr o = 0 ∧ o.sp.size ≤ 40 ∧ o.val.size ≤ n) : (grpB g).length ≤ 18 + g.2.length * (61 + n) := by
  have h1 := ops_short n h
  have h2 := (putN_len g.2.length).2
  unfold grpB encB
  rw [List.length_append, List.length_append, fixN_len]; omega
end Go.Proofs.YtjhkfjbgdaomeaaGreatDoor
