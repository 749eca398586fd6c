/- How a law stands that fills a log: the log, the groups that are to be told, the ends. -/
import Derived.Test.YtjhkfjbgdaomeaaGreatDoorWalBeg
namespace Go.Proofs.YtjhkfjbgdaomeaaGreatDoor
set_option linter.unusedVariables false
open Go.RowKit Go.Maps
theorem elemK_ents : ElemK Tryz.prog 31 36 1 24 (.slice none 0 0) := ⟨Tryz.underlying31, by kernel_rfl, rfl, by decide⟩
theorem elemK_int : ElemK Tryz.prog 44 3 1 8 (.int .i64 0) := ⟨Tryz.underlying44, by kernel_rfl, rfl, by decide⟩
theorem row_base {w : World} {B E k n : Nat} {v : Value} {xs : List Value} (h : w.ownsRow B E k v n xs) : ∀ g, v.ownBlock = some g → B ≤ g := by
  intro g hg
  rcases h.2 with ⟨rfl, -⟩ | ⟨g1, c1, cur1, rfl, hb, -⟩
  · cases hg
  · obtain rfl : g1 = g := Option.some.inj hg
    exact hb
theorem layAll_len (m : Nat) : ∀ (rs : List (List UInt8)) (a : Nat), (∀ r ∈ rs, r.length ≤ m) → (layAll smN a rs).length ≤ rs.length * (8 * m + 20)
  | [], _, _ => by simp [layAll]
  | r :: rs, a, h => by
    have h1 := layB_len smN smN_len a r
    have h2 := layAll_len m rs (a + (layB smN a r).length) fun r hr => h r (List.mem_cons_of_mem _ hr)
    have h3 := h r (List.mem_cons_self ..)
    rw [layAll, List.length_append, List.length_cons, Nat.add_mul]; omega
theorem wal_len {m : Nat} {gs : List Grp} (h : ∀ g ∈ gs, (grpB g).length ≤ m) : (walB smN gs).length ≤ gs.length * (8 * m + 20) := by
  have := layAll_len m (gs.map grpB) 0 fun r hr => by
    obtain ⟨g, hg, rfl⟩ := List.mem_map.1 hr
    exact h g hg
  rwa [List.length_map] at this
/-- The groups gs are in the log, sy bytes are synced; the row vw holds ls, the row ve holds zs. -/
def WSt (w0 wr : World) (b lb : Nat) (old : Dir) (wait : List Chg) (gs : List Grp) (sy : Nat) (vw : Value) (ls : List (List Ent)) (ve : Value) (zs : List Int) : Prop :=
  ∃ ρ c, LogAt wr b lb ρ (namF (logName 5) (walB smN gs) sy old wait 1048576 c) (logName 5) (walB smN gs).length ∧ Below w0.heap.size w0 wr ∧ (∀ k, LogP ρ lb k → w0.heap.size ≤ k) ∧
    OwnLs 36 54 encEnt 5 (LogP ρ lb) w0.heap.size wr vw ls ∧ OwnV 3 w0.heap.size wr ve (zs.map (Value.int .i64)) ∧ ∀ g, ve.ownBlock = some g → ¬ LogP ρ lb g
theorem WSt.to {w0 wr w' : World} {b lb : Nat} {ρ : Nat → Option Role} {old : Dir} {wait : List Chg} {gs : List Grp} {sy : Nat} {c : Int} {vw ve : Value} {ls : List (List Ent)} {zs : List Int} (g2 : Below w0.heap.size w0 wr) (g3 : ∀ k, LogP ρ lb k → w0.heap.size ≤ k)
    (g4 : OwnLs 36 54 encEnt 5 (LogP ρ lb) w0.heap.size wr vw ls) (g5 : OwnV 3 w0.heap.size wr ve (zs.map (Value.int .i64))) (g6 : ∀ g, ve.ownBlock = some g → ¬ LogP ρ lb g)
    (t : LogTo wr b lb ρ w' (namF (logName 5) (walB smN gs) sy old wait 1048576 c) (logName 5) (walB smN gs).length) : WSt w0 w' b lb old wait gs sy vw ls ve zs := by
  obtain ⟨ρ', t1, t2, t3⟩ := t
  refine ⟨ρ', c, t1, g2.trans (t2.below g2.size fun k hk f => ?_), fun k hk => ?_, g4.upd t2 t3, row_same g5 fun g hg => t2.block g (row_lt g5 g hg) (g6 g hg), fun g hg p => ?_⟩
  · have := g3 k f; omega
  · rcases t3 k hk with g | g
    · exact g3 k g
    · exact Nat.le_trans g2.size g
  · rcases t3 g p with p | p
    · exact g6 g hg p
    · have := row_lt g5 g hg; omega
theorem WSt.below {w0 wr w' : World} {b lb : Nat} {old : Dir} {wait : List Chg} {gs : List Grp} {sy : Nat} {vw ve : Value} {ls : List (List Ent)} {zs : List Int} (h : WSt w0 wr b lb old wait gs sy vw ls ve zs) (hb : Below wr.heap.size wr w') : WSt w0 w' b lb old wait gs sy vw ls ve zs := by
  obtain ⟨ρ, c, g1, g2, g3, g4, g5, g6⟩ := h
  exact WSt.to g2 g3 g4 g5 g6 (g1.to hb)
theorem WSt.blw {w0 wr : World} {b lb : Nat} {old : Dir} {wait : List Chg} {gs : List Grp} {sy : Nat} {vw ve : Value} {ls : List (List Ent)} {zs : List Int} (h : WSt w0 wr b lb old wait gs sy vw ls ve zs) : Below w0.heap.size w0 wr := by
  obtain ⟨ρ, c, g1, g2, g3, g4, g5, g6⟩ := h; exact g2
theorem WSt.form {w0 wr : World} {b lb : Nat} {old : Dir} {wait : List Chg} {gs : List Grp} {sy : Nat} {vw ve : Value} {ls : List (List Ent)} {zs : List Int} (h : WSt w0 wr b lb old wait gs sy vw ls ve zs) : ∃ a cap, vw = .slice a ls.length cap := by
  obtain ⟨ρ, c, g1, g2, g3, g4, g5, g6⟩ := h
  obtain ⟨a, cap, e, -⟩ := g4.form; exact ⟨a, cap, e⟩
theorem WSt.start {w0 wr : World} {b lb : Nat} {old : Dir} {wait : List Chg} {c : Int} (h : WalOwn w0 wr b lb (namF (logName 5) (walB smN []) 0 old wait 1048576 c) (logName 5) (walB smN []).length) : WSt w0 wr b lb old wait [] 0 (.slice none 0 0) [] (.slice none 0 0) [] := by
  obtain ⟨ρ, g1, g2, g3⟩ := h
  exact ⟨ρ, c, g1, g2, g3, OwnLs.nil .., OwnV.nil .., fun g hg => by cases hg⟩
theorem WSt.syncDir {w0 wr : World} {b lb : Nat} {old : Dir} {wait : List Chg} {gs : List Grp} {sy : Nat} {vw ve : Value} {ls : List (List Ent)} {zs : List Int} (h : WSt w0 wr b lb old wait gs sy vw ls ve zs) :
    Calls Tryz.prog 10 #[.pointer (some ⟨b, 0, none⟩)] wr fun e w' => e = .returned (.int .i64 0) ∧ WSt w0 w' b lb [(logName 5, 0)] [] gs sy vw ls ve zs := by
  obtain ⟨ρ, c, g1, g2, g3, g4, g5, g6⟩ := h
  have := syncDir_any wr b ρ _ g1.fs
  rw [nam_syncDir] at this
  refine this.mono fun e w' h => ⟨h.1, WSt.to g2 g3 g4 g5 g6 (g1.fsTo h.2)⟩
theorem WSt.sync {w0 wr : World} {b lb : Nat} {old : Dir} {wait : List Chg} {gs : List Grp} {sy : Nat} {vw ve : Value} {ls : List (List Ent)} {zs : List Int} (h : WSt w0 wr b lb old wait gs sy vw ls ve zs) :
    Calls Tryz.prog 15 #[.pointer (some ⟨lb, 0, none⟩)] wr fun e w' => e = .returned (.int .i64 0) ∧ WSt w0 w' b lb old wait gs (walB smN gs).length vw ls ve zs := by
  obtain ⟨ρ, c, g1, g2, g3, g4, g5, g6⟩ := h
  exact (walSync_any wr b lb ρ _ _ _ g1 (by rw [name5]; decide) _ _ (nam_sync ..)).mono fun e w' h => ⟨h.1, WSt.to g2 g3 g4 g5 g6 h.2⟩
theorem WSt.size {w0 wr : World} {b lb : Nat} {old : Dir} {wait : List Chg} {gs : List Grp} {sy : Nat} {vw ve : Value} {ls : List (List Ent)} {zs : List Int} (h : WSt w0 wr b lb old wait gs sy vw ls ve zs) :
    Calls Tryz.prog 17 #[.pointer (some ⟨lb, 0, none⟩)] wr fun e w' => e = .returned (.int .i64 ((walB smN gs).length : Int)) ∧ wr = w' := by
  obtain ⟨ρ, c, g1, -⟩ := h
  exact walSize_any wr b lb ρ _ _ _ g1
theorem WSt.read {w0 wr : World} {b lb : Nat} {old : Dir} {wait : List Chg} {gs : List Grp} {sy : Nat} {vw ve : Value} {ls : List (List Ent)} {zs : List Int} (h : WSt w0 wr b lb old wait gs sy vw ls ve zs) :
    Calls Tryz.prog 16 #[.pointer (some ⟨b, 0, none⟩), .string ⟨#[53, 46, 108, 111, 103]⟩] wr (ReadAt wr (walB smN gs) 0) := by
  obtain ⟨ρ, c, g1, -⟩ := h
  have := fsRead_any wr b ρ _ g1.fs (logName 5) (by rw [name5]; decide)
  rwa [nam_read, name5] at this
/-- A group is put into the log; a row of changes that was made behind h's world holds. -/
theorem WSt.append {w0 wr wa : World} {b lb : Nat} {old : Dir} {wait : List Chg} {gs : List Grp} {sy : Nat} {vw ve : Value} {ls : List (List Ent)} {zs : List Int} (h : WSt w0 wr b lb old wait gs sy vw ls ve zs) (hb : Below wr.heap.size wr wa) {v : Value} {g : Grp} (hg : GoodG g)
    (hv : OwnK encOp 3 49 wr.heap.size wa v g.2) (hok : ∀ o ∈ g.2, o.ok) (hG : GlobAt wa) (hB : (grpB g).length ≤ 1000000) (hroom : (walB smN (gs ++ [g])).length ≤ 1048576) :
    Calls Tryz.prog 12 #[.pointer (some ⟨lb, 0, none⟩), .int .i64 (g.1 : Int), v] wa fun e w' => e = .returned (.int .i64 0) ∧ WSt w0 w' b lb old wait (gs ++ [g]) sy vw ls ve zs ∧ OwnK encOp 3 49 wr.heap.size w' v g.2 := by
  obtain ⟨ρ, c, g1, g2, g3, g4, g5, g6⟩ := h
  refine (walStep_any wa b lb ρ (logName 5) gs sy old wait 1048576 c (g1.below hb) (by rw [name5]; decide) g hg v (hv.rd encOp_len) hok hG hB hroom (by omega)).mono fun e w' h => ?_
  refine ⟨h.1, WSt.to (g2.trans (hb.mono g2.size)) g3 (g4.below hb) (g5.below hb) g6 h.2, ?_⟩
  obtain ⟨ρ', t1, t2, t3⟩ := h.2
  exact row_same hv fun k hk => t2.block k (row_lt hv k hk) fun p => by
    have := g1.top k p
    have := row_base hv k hk
    omega
/-- A group that is none. -/
theorem WSt.appendNo {w0 wr wa : World} {b lb : Nat} {old : Dir} {wait : List Chg} {gs : List Grp} {sy : Nat} {vw ve : Value} {ls : List (List Ent)} {zs : List Int} (h : WSt w0 wr b lb old wait gs sy vw ls ve zs) (hb : Below wr.heap.size wr wa) {v : Value} {s : Nat} {l : List Opn} (hs : s ≤ 1000000)
    (hv : OwnK encOp 3 49 wr.heap.size wa v l) (hok : ∀ o ∈ l, o.ok) (hl : l.length ≤ 1000000) (hG : GlobAt wa) (E : Int) (hc : checkP l = E) (hE : E ≠ 0) :
    Calls Tryz.prog 12 #[.pointer (some ⟨lb, 0, none⟩), .int .i64 (s : Int), v] wa fun e w' => e = .returned (.int .i64 E) ∧ Below wa.heap.size wa w' := by
  obtain ⟨ρ, c, g1, -⟩ := h
  exact walNo_any wa b lb ρ _ _ _ (g1.below hb) (s : Int) (by omega) v l hok (by omega) (hv.rd encOp_len) hG.1 hG.2.1 E (by unfold encE; rw [hc, if_neg hE]) hE
/-- A row of entries that was made behind h's world comes behind those that are to be told. -/
theorem WSt.want {w0 wr wa : World} {b lb : Nat} {old : Dir} {wait : List Chg} {gs : List Grp} {sy : Nat} {vw ve : Value} {ls : List (List Ent)} {zs : List Int} (h : WSt w0 wr b lb old wait gs sy vw ls ve zs) (hb : Below wr.heap.size wr wa) {u : Value} {l : List Ent}
    (hu : OwnK encEnt 5 54 wr.heap.size wa u l) (hn : ls.length ≤ 1000000) {ty : Nat} :
    ∃ v' w', (Builtin.append_ #[31, 31] ty #[vw, .slice (some ⟨wa.heap.size, 0, none⟩) 1 1]).run Tryz.prog (wa.alloc (.cells #[u] 36)) = .ok v' w' ∧ WSt w0 w' b lb old wait gs sy v' (ls ++ [l]) ve zs ∧
      (∀ u' xs, OwnK encOp 3 49 w0.heap.size wa u' xs → OwnK encOp 3 49 w0.heap.size w' u' xs) := by
  obtain ⟨ρ, c, g1, g2, g3, g4, g5, g6⟩ := h
  have g2' := g2.trans (hb.mono g2.size)
  have g4' := g4.below hb
  obtain ⟨v', w', k1, k2, k3, k4⟩ := OwnLs.snoc (ty := ty) elemK_ents (by decide) g4' (hu.base g2.size) (fun g hg p => by
    have := g1.top g p
    have := row_base hu g hg
    omega) (fun g p => by have := g1.top g p; have := hb.size; omega) hn (by omega) g2'.size
  have hal : Below wa.heap.size wa (wa.alloc (.cells #[u] 36)) := (Below.refl _ wa).alloc (Nat.le_refl _) _
  refine ⟨v', w', k1, ⟨ρ, c, (g1.below hb).upd k4 fun k hk => (g4'.out k hk).1, g2'.trans k3, g3, k2, ?_, g6⟩, fun u' xs hx => ?_⟩
  · refine row_same (g5.below hb) fun g hg => k4.block g (row_lt (g5.below hb) g hg) fun e => ?_
    obtain ⟨vs, q1, -⟩ := g4'
    exact row_apart q1 (g5.below hb) (by decide) g hg e
  · refine row_same hx fun g hg => k4.block g (row_lt hx g hg) fun e => ?_
    obtain ⟨vs, q1, -⟩ := g4'
    exact row_apart q1 hx (by decide) g hg e
/-- A number comes behind the others. -/
theorem WSt.ends {w0 wr : World} {b lb : Nat} {old : Dir} {wait : List Chg} {gs : List Grp} {sy : Nat} {vw ve : Value} {ls : List (List Ent)} {zs : List Int} (h : WSt w0 wr b lb old wait gs sy vw ls ve zs) (z : Int) (hn : zs.length ≤ 1000000) {ty : Nat} :
    ∃ v' w', (Builtin.append_ #[44, 44] ty #[ve, .slice (some ⟨wr.heap.size, 0, none⟩) 1 1]).run Tryz.prog (wr.alloc (.cells #[.int .i64 z] 3)) = .ok v' w' ∧ WSt w0 w' b lb old wait gs sy vw ls v' (zs ++ [z]) := by
  obtain ⟨ρ, c, g1, g2, g3, g4, g5, g6⟩ := h
  obtain ⟨v', w', k1, k2, k3, k4, k5⟩ := run_appX (ty := ty) elemK_int (us := [.int .i64 z]) g5 rfl (by intro x hx; obtain rfl := List.mem_singleton.1 hx; rfl) (by rw [List.length_map]; exact hn) (by omega) g2.size
  have hal : Below wr.heap.size wr (wr.alloc (.cells #[.int .i64 z] 3)) := (Below.refl _ wr).alloc (Nat.le_refl _) _
  have hu : UpdF (fun g => ve.ownBlock = some g) wr w' := (UpdF.of hal).trans (UpdF.grown k4 fun g hg => hg)
  refine ⟨v', w', k1, ρ, c, g1.upd hu fun k hk => g6 k hk, g2.trans k3, g3, ?_, ?_, fun g hg p => ?_⟩
  · have q := g4.below hal
    exact q.kept (row_same g5 fun g hg => hal.block g (row_lt g5 g hg)) (by decide) (by decide) k4
  · unfold OwnV
    rw [List.map_append, List.length_append]
    exact k2
  · rcases k5 g hg with e | e
    · exact g6 g e p
    · have := g1.top g p; omega
/-- All groups are told. -/
theorem WSt.told {w0 wr : World} {b lb : Nat} {old : Dir} {wait : List Chg} {gs : List Grp} {sy : Nat} {vw ve : Value} {zs : List Int} (h : WSt w0 wr b lb old wait gs sy vw (gs.map grpE) ve zs) (hg : ∀ g ∈ gs, GoodG g) (hgl : gs.length ≤ 1000) (hgb : ∀ g ∈ gs, (grpB g).length ≤ 1000000) (hbl : (walB smN gs).length ≤ 16777216) (hG : GlobAt wr) :
    Calls Tryz.prog 18 #[.pointer (some ⟨b, 0, none⟩), vw, .int .i64 (gs.length : Int), .int .i64 (gs.length : Int)] wr fun e w' => e = .returned (.bool true) ∧ Below wr.heap.size wr w' := by
  obtain ⟨ρ, c, g1, g2, g3, g4, g5, g6⟩ := h
  have e : fitK smN 0 (gs.map grpB) (walB smN gs).length = gs.length := by unfold walB; rw [fitK_all, List.length_map]
  exact toldWal_any wr b ρ _ g1.fs gs hg (walB smN gs).length (Nat.le_refl _) (by rw [nam_read, List.take_length]) hbl hgl hgb vw (g4.rd encEnt_len) hG gs.length gs.length (by rw [e]; exact Nat.le_refl _) (by rw [e]; exact Nat.le_refl _)
/-- A crash: a new file system. -/
theorem WSt.crash {w0 wr wa : World} {b lb : Nat} {old : Dir} {wait : List Chg} {gs : List Grp} {sy : Nat} {vw ve : Value} {ls : List (List Ent)} {zs : List Int} (h : WSt w0 wr b lb old wait gs sy vw ls ve zs) (hb : Below wr.heap.size wr wa) (hwt : wait.length ≤ 1000) (n : Int) (tv : Value) (ts : List Int) (ht : RdV wa tv (ts.map (Value.int .i64))) (htl : ts.length ≤ 1000) :
    Calls Tryz.prog 19 #[.pointer (some ⟨b, 0, none⟩), .int .i64 n, tv] wa fun e w' => ∃ b' ρ' c, e = .returned (.pointer (some ⟨b', 0, none⟩)) ∧ FsAt w' b' ρ' ((namF (logName 5) (walB smN gs) sy old wait 1048576 c).crash n ts) ∧ Below wa.heap.size wa w' := by
  obtain ⟨ρ, c, g1, -⟩ := h
  refine (crash_any wa b ρ _ (g1.fs.below hb) n tv ts ht (by omega) (show wait.length ≤ _ by omega)).mono ?_
  rintro e w' ⟨b', ρ', rfl, k1, k2, -⟩
  exact ⟨b', ρ', c, rfl, k1, k2⟩
theorem WSt.want_rd {w0 wr : World} {b lb : Nat} {old : Dir} {wait : List Chg} {gs : List Grp} {sy : Nat} {vw ve : Value} {ls : List (List Ent)} {zs : List Int} (h : WSt w0 wr b lb old wait gs sy vw ls ve zs) : RdLs encEnt 5 wr vw ls := by
  obtain ⟨ρ, c, g1, g2, g3, g4, -⟩ := h
  exact g4.rd encEnt_len
theorem WSt.ends_own {w0 wr : World} {b lb : Nat} {old : Dir} {wait : List Chg} {gs : List Grp} {sy : Nat} {vw ve : Value} {ls : List (List Ent)} {zs : List Int} (h : WSt w0 wr b lb old wait gs sy vw ls ve zs) : OwnV 3 w0.heap.size wr ve (zs.map (Value.int .i64)) := by
  obtain ⟨ρ, c, g1, g2, g3, g4, g5, -⟩ := h
  exact g5
end Go.Proofs.YtjhkfjbgdaomeaaGreatDoor
