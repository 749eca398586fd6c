/- The queue of a merge: which is ahead, changing places, how many; putting in behind, taking out behind. -/
import Derived.Test.YtmndhmodcglkjaaMgAt
import Derived.Test.YtmndhmodcglkjaaEntRow
import Derived.Test.YtmndhmodcglkjaaKvRow
import Derived.Test.YtmndhmodcglkjaaTake
import Derived.Test.YtmndhmodcglkjaaRegTail
import Derived.RegionTactic
import Derived.Deep.QuietTactic
namespace Go.Proofs.Ytmndhmodcglkjaa
set_option linter.unusedVariables false
set_option maxRecDepth 100000
open Go.RowKit
/-- What 'Less' reads, by cells. -/
structure LessC (w : World) (g i j bi bj : Nat) (ein : ByteArray) (eis eik : Int) (eip eiv : ByteArray) (ejn : ByteArray) (ejs ejk : Int) (ejp ejv : ByteArray) (pi pj : Nat) : Prop where
  ci : w.cell? ⟨g, i, none⟩ = some (.pointer (some ⟨bi, 0, none⟩))
  cj : w.cell? ⟨g, j, none⟩ = some (.pointer (some ⟨bj, 0, none⟩))
  gl : g < w.heap.size
  il : bi < w.heap.size
  jl : bj < w.heap.size
  xi : ∃ nx, FrCells w bi ein eis eik eip eiv nx pi
  xj : ∃ nx, FrCells w bj ejn ejs ejk ejp ejv nx pj
theorem FrCells.below {w w' : World} {b : Nat} {n : ByteArray} {s k : Int} {sp vl : ByteArray} {nx : Value} {p : Nat} (h : FrCells w b n s k sp vl nx p) (hb : b < w.heap.size) (u : Below w.heap.size w w') : FrCells w' b n s k sp vl nx p :=
  ⟨(u.cell (p := ⟨b, 0, none⟩) hb).trans h.c0, (u.cell (p := ⟨b, 1, none⟩) hb).trans h.c1, (u.cell (p := ⟨b, 2, none⟩) hb).trans h.c2, (u.cell (p := ⟨b, 3, none⟩) hb).trans h.c3, (u.cell (p := ⟨b, 4, none⟩) hb).trans h.c4, (u.cell (p := ⟨b, 5, none⟩) hb).trans h.c5, (u.cell (p := ⟨b, 6, none⟩) hb).trans h.c6⟩
section
variable {w w' : World} {g i j bi bj : Nat} {ein : ByteArray} {eis eik : Int} {eip eiv : ByteArray} {ejn : ByteArray} {ejs ejk : Int} {ejp ejv : ByteArray} {pi pj : Nat}
theorem LessC.below (h : LessC w g i j bi bj ein eis eik eip eiv ejn ejs ejk ejp ejv pi pj) (u : Below w.heap.size w w') : LessC w' g i j bi bj ein eis eik eip eiv ejn ejs ejk ejp ejv pi pj := by
  obtain ⟨a1, a2, a3, a4, a5, ⟨n1, a6⟩, ⟨n2, a7⟩⟩ := h
  exact ⟨(u.cell (p := ⟨g, i, none⟩) a3).trans a1, (u.cell (p := ⟨g, j, none⟩) a3).trans a2, Nat.lt_of_lt_of_le a3 u.size, Nat.lt_of_lt_of_le a4 u.size, Nat.lt_of_lt_of_le a5 u.size, ⟨n1, a6.below a4 u⟩, ⟨n2, a7.below a5 u⟩⟩
theorem LessC.fri (h : LessC w g i j bi bj ein eis eik eip eiv ejn ejs ejk ejp ejv pi pj) : w.cell? ⟨bi, 0, none⟩ = some (.string ein) ∧ w.cell? ⟨bi, 1, none⟩ = some (.int .i64 eis) ∧ w.cell? ⟨bi, 2, none⟩ = some (.int .i64 eik) ∧ w.cell? ⟨bi, 3, none⟩ = some (.string eip) ∧ w.cell? ⟨bi, 4, none⟩ = some (.string eiv) ∧ w.cell? ⟨bi, 6, none⟩ = some (.int .i64 (pi : Int)) ∧ True := by
  obtain ⟨n, a⟩ := h.xi
  exact ⟨a.c0, a.c1, a.c2, a.c3, a.c4, a.c6, trivial⟩
theorem LessC.frj (h : LessC w g i j bi bj ein eis eik eip eiv ejn ejs ejk ejp ejv pi pj) : w.cell? ⟨bj, 0, none⟩ = some (.string ejn) ∧ w.cell? ⟨bj, 1, none⟩ = some (.int .i64 ejs) ∧ w.cell? ⟨bj, 2, none⟩ = some (.int .i64 ejk) ∧ w.cell? ⟨bj, 3, none⟩ = some (.string ejp) ∧ w.cell? ⟨bj, 4, none⟩ = some (.string ejv) ∧ w.cell? ⟨bj, 6, none⟩ = some (.int .i64 (pj : Int)) ∧ True := by
  obtain ⟨n, a⟩ := h.xj
  exact ⟨a.c0, a.c1, a.c2, a.c3, a.c4, a.c6, trivial⟩
end
set_option maxHeartbeats 4000000 in
theorem qless_raw (g i j L cap bi bj : Nat) (ein : ByteArray) (eis eik : Int) (eip eiv : ByteArray) (ejn : ByteArray) (ejs ejk : Int) (ejp ejv : ByteArray) (pi pj : Nat) (r : Bool) (w0 : World) (h : LessC w0 g i j bi bj ein eis eik eip eiv ejn ejs ejk ejp ejv pi pj) (hi : i < L) (hj : j < L)
    (hr : (if pi < pj then !ltB ⟨ejn, ejs, ejk, ejp, ejv⟩ ⟨ein, eis, eik, eip, eiv⟩ else ltB ⟨ein, eis, eik, eip, eiv⟩ ⟨ejn, ejs, ejk, ejp, ejv⟩) = r) :
    Calls Try.prog 46 #[.slice (some ⟨g, 0, none⟩) L cap, .int .i64 (i : Int), .int .i64 (j : Int)] w0 fun e w' => e = .returned (.bool r) ∧ Below w0.heap.size w0 w' := by
  have HR := h
  have hi0 : (0 : Int) ≤ (i : Int) := by omega
  have hj0 : (0 : Int) ≤ (j : Int) := by omega
  have hiI : (i : Int) < (L : Int) := by omega
  have hjI : (j : Int) < (L : Int) := by omega
  obtain ⟨c0, c1, -, -, -, -, -⟩ := id h
  obtain ⟨-, -, -, -, -, c2, -⟩ := h.fri
  obtain ⟨-, -, -, -, -, c3, -⟩ := h.frj
  clear h
  by_cases hp : pi < pj
  · have hpI : (pi : Int) < (pj : Int) := by omega
    have hpd : decide ((pi : Int) < (pj : Int)) = true := decide_eq_true hpI
    rw [if_pos hp] at hr
    obtain ⟨c, hc⟩ : ∃ c, ltB ⟨ejn, ejs, ejk, ejp, ejv⟩ ⟨ein, eis, eik, eip, eiv⟩ = c := ⟨_, rfl⟩
    rw [hc] at hr
    subst hr
    have HC : Hid (∀ W, Calls Try.prog 48 #[.agg #[.string ejn, .int .i64 ejs, .int .i64 ejk, .string ejp, .string ejv], .agg #[.string ein, .int .i64 eis, .int .i64 eik, .string eip, .string eiv]] W fun e w' => e = .returned (.bool c) ∧ Below W.heap.size W w') := Lib.hid fun W => by
      have := less_any ⟨ejn, ejs, ejk, ejp, ejv⟩ ⟨ein, eis, eik, eip, eiv⟩ W
      rw [hc] at this; exact this
    clear hc hp
    go_enter Try.func46, Try.ntmps46
    go_wp2_with fail
    go_quiet (fail)
    rename_i nq
    have B : Below w0.heap.size w0 (w0.drewN nq) := DrN.below ⟨nq, rfl⟩ _
    replace HR := HR.below B
    generalize w0.drewN nq = w at HR B ⊢
    clear c0 c1 c2 c3
    go_wp2_with fail
    refine wp_region_held_drew (S := Below w.heap.size w) (by kernel_rfl) (Below.refl _ _).drew (fun hHeld => ?_)
    generalize w.drew = wd2 at hHeld ⊢
    refine wpAnyH_shift hHeld ?_
    replace B : Below w0.heap.size w0 wd2 := B.trans (hHeld.mono B.size)
    replace HR := HR.below hHeld
    clear hHeld
    refine takeYes (i := 0) (k := 22) (v := .slice (some ⟨g, 0, none⟩) L cap) rfl (by kernel_rfl) (by kernel_rfl) (by kernel_rfl) (by kernel_rfl) (fun _ _ _ h => h) (by kernel_rfl) ?_ (Below.refl _ _) ?_
    · intro W hSw; first | (go_simp; done) | go_simp
    try simp only [Act.put, List.setIfInBounds_toArray, List.set_cons_zero, List.set_cons_succ]
    refine takeYes (i := 1) (k := 23) (v := .int .i64 (j : Int)) rfl (by kernel_rfl) (by kernel_rfl) (by kernel_rfl) (by kernel_rfl) (fun _ _ _ h => h) (by kernel_rfl) ?_ (Below.refl _ _) ?_
    · intro W hSw; first | (go_simp; done) | go_simp
    try simp only [Act.put, List.setIfInBounds_toArray, List.set_cons_zero, List.set_cons_succ]
    refine takeYes (i := 2) (k := 24) (v := .pointer (some ⟨g, j, none⟩)) rfl (by kernel_rfl) (by kernel_rfl) (by kernel_rfl) (by kernel_rfl) (fun _ _ _ h => h) (by kernel_rfl) ?_ (Below.refl _ _) ?_
    · intro W hSw; first | (go_simp; done) | go_simp
    try simp only [Act.put, List.setIfInBounds_toArray, List.set_cons_zero, List.set_cons_succ]
    refine takeYes (i := 3) (k := 25) (v := .pointer (some ⟨bj, 0, none⟩)) rfl (by kernel_rfl) (by kernel_rfl) (by kernel_rfl) (by kernel_rfl) (fun _ _ _ h => h) (by kernel_rfl) ?_ (Below.refl _ _) ?_
    · intro W hSw; have d0 := (HR.below hSw).cj; first | (go_simp; done) | go_simp
    try simp only [Act.put, List.setIfInBounds_toArray, List.set_cons_zero, List.set_cons_succ]
    refine takeYes (i := 4) (k := 26) (v := .pointer (some ⟨bj, 0, none⟩)) rfl (by kernel_rfl) (by kernel_rfl) (by kernel_rfl) (by kernel_rfl) (fun _ _ _ h => h) (by kernel_rfl) ?_ (Below.refl _ _) ?_
    · intro W hSw; first | (go_simp; done) | go_simp
    try simp only [Act.put, List.setIfInBounds_toArray, List.set_cons_zero, List.set_cons_succ]
    refine takeYes (i := 5) (k := 27) (v := .pointer (some ⟨bj, 0, none⟩)) rfl (by kernel_rfl) (by kernel_rfl) (by kernel_rfl) (by kernel_rfl) (fun _ _ _ h => h) (by kernel_rfl) ?_ (Below.refl _ _) ?_
    · intro W hSw; first | (go_simp; done) | go_simp
    try simp only [Act.put, List.setIfInBounds_toArray, List.set_cons_zero, List.set_cons_succ]
    refine takeYes (i := 6) (k := 28) (v := .agg #[.string ejn, .int .i64 ejs, .int .i64 ejk, .string ejp, .string ejv]) rfl (by kernel_rfl) (by kernel_rfl) (by kernel_rfl) (by kernel_rfl) (fun _ _ _ h => h) (by kernel_rfl) ?_ (Below.refl _ _) ?_
    · intro W hSw; obtain ⟨d0, d1, d2, d3, d4, -, -⟩ := (HR.below hSw).frj; first | (go_simp; done) | go_simp
    try simp only [Act.put, List.setIfInBounds_toArray, List.set_cons_zero, List.set_cons_succ]
    refine takeYes (i := 7) (k := 29) (v := .slice (some ⟨g, 0, none⟩) L cap) rfl (by kernel_rfl) (by kernel_rfl) (by kernel_rfl) (by kernel_rfl) (fun _ _ _ h => h) (by kernel_rfl) ?_ (Below.refl _ _) ?_
    · intro W hSw; first | (go_simp; done) | go_simp
    try simp only [Act.put, List.setIfInBounds_toArray, List.set_cons_zero, List.set_cons_succ]
    refine takeYes (i := 8) (k := 30) (v := .int .i64 (i : Int)) rfl (by kernel_rfl) (by kernel_rfl) (by kernel_rfl) (by kernel_rfl) (fun _ _ _ h => h) (by kernel_rfl) ?_ (Below.refl _ _) ?_
    · intro W hSw; first | (go_simp; done) | go_simp
    try simp only [Act.put, List.setIfInBounds_toArray, List.set_cons_zero, List.set_cons_succ]
    refine takeYes (i := 9) (k := 31) (v := .pointer (some ⟨g, i, none⟩)) rfl (by kernel_rfl) (by kernel_rfl) (by kernel_rfl) (by kernel_rfl) (fun _ _ _ h => h) (by kernel_rfl) ?_ (Below.refl _ _) ?_
    · intro W hSw; first | (go_simp; done) | go_simp
    try simp only [Act.put, List.setIfInBounds_toArray, List.set_cons_zero, List.set_cons_succ]
    refine takeYes (i := 10) (k := 32) (v := .pointer (some ⟨bi, 0, none⟩)) rfl (by kernel_rfl) (by kernel_rfl) (by kernel_rfl) (by kernel_rfl) (fun _ _ _ h => h) (by kernel_rfl) ?_ (Below.refl _ _) ?_
    · intro W hSw; have d0 := (HR.below hSw).ci; first | (go_simp; done) | go_simp
    try simp only [Act.put, List.setIfInBounds_toArray, List.set_cons_zero, List.set_cons_succ]
    refine takeYes (i := 11) (k := 33) (v := .pointer (some ⟨bi, 0, none⟩)) rfl (by kernel_rfl) (by kernel_rfl) (by kernel_rfl) (by kernel_rfl) (fun _ _ _ h => h) (by kernel_rfl) ?_ (Below.refl _ _) ?_
    · intro W hSw; first | (go_simp; done) | go_simp
    try simp only [Act.put, List.setIfInBounds_toArray, List.set_cons_zero, List.set_cons_succ]
    refine takeYes (i := 12) (k := 34) (v := .pointer (some ⟨bi, 0, none⟩)) rfl (by kernel_rfl) (by kernel_rfl) (by kernel_rfl) (by kernel_rfl) (fun _ _ _ h => h) (by kernel_rfl) ?_ (Below.refl _ _) ?_
    · intro W hSw; first | (go_simp; done) | go_simp
    try simp only [Act.put, List.setIfInBounds_toArray, List.set_cons_zero, List.set_cons_succ]
    refine takeYes (i := 13) (k := 35) (v := .agg #[.string ein, .int .i64 eis, .int .i64 eik, .string eip, .string eiv]) rfl (by kernel_rfl) (by kernel_rfl) (by kernel_rfl) (by kernel_rfl) (fun _ _ _ h => h) (by kernel_rfl) ?_ (Below.refl _ _) ?_
    · intro W hSw; obtain ⟨d0, d1, d2, d3, d4, -, -⟩ := (HR.below hSw).fri; first | (go_simp; done) | go_simp
    try simp only [Act.put, List.setIfInBounds_toArray, List.set_cons_zero, List.set_cons_succ]
    refine wpAnyH_ready (rs := [14]) (by kernel_rfl) (by simp) (AllReadyH.cons rfl (fun K hK => ?_) AllReadyH.nil)
    go_simp
    refine (HC.out wd2).mono ?_
    rintro e wd3 ⟨rfl, hb3⟩
    refine hK.out _ _ hb3 (fun _ => wpAnyH_shift hb3 ?_)
    clear hK K
    replace B : Below w0.heap.size w0 wd3 := B.trans (hb3.mono B.size)
    replace HR := HR.below hb3
    clear hb3
    try simp only [Act.put, List.setIfInBounds_toArray, List.set_cons_zero, List.set_cons_succ]
    refine takeYes (i := 15) (k := 37) (v := .bool (!c)) rfl (by kernel_rfl) (by kernel_rfl) (by kernel_rfl) (by kernel_rfl) (fun _ _ _ h => h) (by kernel_rfl) ?_ (Below.refl _ _) ?_
    · intro W hSw; first | (go_simp; done) | go_simp
    try simp only [Act.put, List.setIfInBounds_toArray, List.set_cons_zero, List.set_cons_succ]
    refine takeYes (i := 16) (k := 6) (v := .bool (!c)) rfl (by kernel_rfl) (by kernel_rfl) (by kernel_rfl) (by kernel_rfl) (fun _ _ _ h => h) (by kernel_rfl) ?_ (Below.refl _ _) ?_
    · intro W hSw; first | (go_simp; done) | go_simp
    try simp only [Act.put, List.setIfInBounds_toArray, List.set_cons_zero, List.set_cons_succ]
    refine wpAnyH_done (by kernel_rfl) ?_ _
    clear HC HR
    go_wp2_with fail
    go_ret
    exact ⟨rfl, B⟩
  · have hpI : ¬ (pi : Int) < (pj : Int) := by omega
    have hpd : decide ((pi : Int) < (pj : Int)) = false := decide_eq_false hpI
    rw [if_neg hp] at hr
    obtain ⟨c, hc⟩ : ∃ c, ltB ⟨ein, eis, eik, eip, eiv⟩ ⟨ejn, ejs, ejk, ejp, ejv⟩ = c := ⟨_, rfl⟩
    rw [hc] at hr
    subst hr
    have HC : Hid (∀ W, Calls Try.prog 48 #[.agg #[.string ein, .int .i64 eis, .int .i64 eik, .string eip, .string eiv], .agg #[.string ejn, .int .i64 ejs, .int .i64 ejk, .string ejp, .string ejv]] W fun e w' => e = .returned (.bool c) ∧ Below W.heap.size W w') := Lib.hid fun W => by
      have := less_any ⟨ein, eis, eik, eip, eiv⟩ ⟨ejn, ejs, ejk, ejp, ejv⟩ W
      rw [hc] at this; exact this
    clear hc hp
    go_enter Try.func46, Try.ntmps46
    go_wp2_with fail
    go_quiet (fail)
    rename_i nq
    have B : Below w0.heap.size w0 (w0.drewN nq) := DrN.below ⟨nq, rfl⟩ _
    replace HR := HR.below B
    generalize w0.drewN nq = w at HR B ⊢
    clear c0 c1 c2 c3
    go_wp2_with fail
    refine wp_region_held_drew (S := Below w.heap.size w) (by kernel_rfl) (Below.refl _ _).drew (fun hHeld => ?_)
    generalize w.drew = wd2 at hHeld ⊢
    refine wpAnyH_shift hHeld ?_
    replace B : Below w0.heap.size w0 wd2 := B.trans (hHeld.mono B.size)
    replace HR := HR.below hHeld
    clear hHeld
    refine takeYes (i := 0) (k := 38) (v := .slice (some ⟨g, 0, none⟩) L cap) rfl (by kernel_rfl) (by kernel_rfl) (by kernel_rfl) (by kernel_rfl) (fun _ _ _ h => h) (by kernel_rfl) ?_ (Below.refl _ _) ?_
    · intro W hSw; first | (go_simp; done) | go_simp
    try simp only [Act.put, List.setIfInBounds_toArray, List.set_cons_zero, List.set_cons_succ]
    refine takeYes (i := 1) (k := 39) (v := .int .i64 (i : Int)) rfl (by kernel_rfl) (by kernel_rfl) (by kernel_rfl) (by kernel_rfl) (fun _ _ _ h => h) (by kernel_rfl) ?_ (Below.refl _ _) ?_
    · intro W hSw; first | (go_simp; done) | go_simp
    try simp only [Act.put, List.setIfInBounds_toArray, List.set_cons_zero, List.set_cons_succ]
    refine takeYes (i := 2) (k := 40) (v := .pointer (some ⟨g, i, none⟩)) rfl (by kernel_rfl) (by kernel_rfl) (by kernel_rfl) (by kernel_rfl) (fun _ _ _ h => h) (by kernel_rfl) ?_ (Below.refl _ _) ?_
    · intro W hSw; first | (go_simp; done) | go_simp
    try simp only [Act.put, List.setIfInBounds_toArray, List.set_cons_zero, List.set_cons_succ]
    refine takeYes (i := 3) (k := 41) (v := .pointer (some ⟨bi, 0, none⟩)) rfl (by kernel_rfl) (by kernel_rfl) (by kernel_rfl) (by kernel_rfl) (fun _ _ _ h => h) (by kernel_rfl) ?_ (Below.refl _ _) ?_
    · intro W hSw; have d0 := (HR.below hSw).ci; first | (go_simp; done) | go_simp
    try simp only [Act.put, List.setIfInBounds_toArray, List.set_cons_zero, List.set_cons_succ]
    refine takeYes (i := 4) (k := 42) (v := .pointer (some ⟨bi, 0, none⟩)) rfl (by kernel_rfl) (by kernel_rfl) (by kernel_rfl) (by kernel_rfl) (fun _ _ _ h => h) (by kernel_rfl) ?_ (Below.refl _ _) ?_
    · intro W hSw; first | (go_simp; done) | go_simp
    try simp only [Act.put, List.setIfInBounds_toArray, List.set_cons_zero, List.set_cons_succ]
    refine takeYes (i := 5) (k := 43) (v := .pointer (some ⟨bi, 0, none⟩)) rfl (by kernel_rfl) (by kernel_rfl) (by kernel_rfl) (by kernel_rfl) (fun _ _ _ h => h) (by kernel_rfl) ?_ (Below.refl _ _) ?_
    · intro W hSw; first | (go_simp; done) | go_simp
    try simp only [Act.put, List.setIfInBounds_toArray, List.set_cons_zero, List.set_cons_succ]
    refine takeYes (i := 6) (k := 44) (v := .agg #[.string ein, .int .i64 eis, .int .i64 eik, .string eip, .string eiv]) rfl (by kernel_rfl) (by kernel_rfl) (by kernel_rfl) (by kernel_rfl) (fun _ _ _ h => h) (by kernel_rfl) ?_ (Below.refl _ _) ?_
    · intro W hSw; obtain ⟨d0, d1, d2, d3, d4, -, -⟩ := (HR.below hSw).fri; first | (go_simp; done) | go_simp
    try simp only [Act.put, List.setIfInBounds_toArray, List.set_cons_zero, List.set_cons_succ]
    refine takeYes (i := 7) (k := 45) (v := .slice (some ⟨g, 0, none⟩) L cap) rfl (by kernel_rfl) (by kernel_rfl) (by kernel_rfl) (by kernel_rfl) (fun _ _ _ h => h) (by kernel_rfl) ?_ (Below.refl _ _) ?_
    · intro W hSw; first | (go_simp; done) | go_simp
    try simp only [Act.put, List.setIfInBounds_toArray, List.set_cons_zero, List.set_cons_succ]
    refine takeYes (i := 8) (k := 46) (v := .int .i64 (j : Int)) rfl (by kernel_rfl) (by kernel_rfl) (by kernel_rfl) (by kernel_rfl) (fun _ _ _ h => h) (by kernel_rfl) ?_ (Below.refl _ _) ?_
    · intro W hSw; first | (go_simp; done) | go_simp
    try simp only [Act.put, List.setIfInBounds_toArray, List.set_cons_zero, List.set_cons_succ]
    refine takeYes (i := 9) (k := 47) (v := .pointer (some ⟨g, j, none⟩)) rfl (by kernel_rfl) (by kernel_rfl) (by kernel_rfl) (by kernel_rfl) (fun _ _ _ h => h) (by kernel_rfl) ?_ (Below.refl _ _) ?_
    · intro W hSw; first | (go_simp; done) | go_simp
    try simp only [Act.put, List.setIfInBounds_toArray, List.set_cons_zero, List.set_cons_succ]
    refine takeYes (i := 10) (k := 48) (v := .pointer (some ⟨bj, 0, none⟩)) rfl (by kernel_rfl) (by kernel_rfl) (by kernel_rfl) (by kernel_rfl) (fun _ _ _ h => h) (by kernel_rfl) ?_ (Below.refl _ _) ?_
    · intro W hSw; have d0 := (HR.below hSw).cj; first | (go_simp; done) | go_simp
    try simp only [Act.put, List.setIfInBounds_toArray, List.set_cons_zero, List.set_cons_succ]
    refine takeYes (i := 11) (k := 49) (v := .pointer (some ⟨bj, 0, none⟩)) rfl (by kernel_rfl) (by kernel_rfl) (by kernel_rfl) (by kernel_rfl) (fun _ _ _ h => h) (by kernel_rfl) ?_ (Below.refl _ _) ?_
    · intro W hSw; first | (go_simp; done) | go_simp
    try simp only [Act.put, List.setIfInBounds_toArray, List.set_cons_zero, List.set_cons_succ]
    refine takeYes (i := 12) (k := 50) (v := .pointer (some ⟨bj, 0, none⟩)) rfl (by kernel_rfl) (by kernel_rfl) (by kernel_rfl) (by kernel_rfl) (fun _ _ _ h => h) (by kernel_rfl) ?_ (Below.refl _ _) ?_
    · intro W hSw; first | (go_simp; done) | go_simp
    try simp only [Act.put, List.setIfInBounds_toArray, List.set_cons_zero, List.set_cons_succ]
    refine takeYes (i := 13) (k := 51) (v := .agg #[.string ejn, .int .i64 ejs, .int .i64 ejk, .string ejp, .string ejv]) rfl (by kernel_rfl) (by kernel_rfl) (by kernel_rfl) (by kernel_rfl) (fun _ _ _ h => h) (by kernel_rfl) ?_ (Below.refl _ _) ?_
    · intro W hSw; obtain ⟨d0, d1, d2, d3, d4, -, -⟩ := (HR.below hSw).frj; first | (go_simp; done) | go_simp
    try simp only [Act.put, List.setIfInBounds_toArray, List.set_cons_zero, List.set_cons_succ]
    refine wpAnyH_ready (rs := [14]) (by kernel_rfl) (by simp) (AllReadyH.cons rfl (fun K hK => ?_) AllReadyH.nil)
    go_simp
    refine (HC.out wd2).mono ?_
    rintro e wd3 ⟨rfl, hb3⟩
    refine hK.out _ _ hb3 (fun _ => wpAnyH_shift hb3 ?_)
    clear hK K
    replace B : Below w0.heap.size w0 wd3 := B.trans (hb3.mono B.size)
    replace HR := HR.below hb3
    clear hb3
    try simp only [Act.put, List.setIfInBounds_toArray, List.set_cons_zero, List.set_cons_succ]
    refine takeYes (i := 15) (k := 6) (v := .bool c) rfl (by kernel_rfl) (by kernel_rfl) (by kernel_rfl) (by kernel_rfl) (fun _ _ _ h => h) (by kernel_rfl) ?_ (Below.refl _ _) ?_
    · intro W hSw; first | (go_simp; done) | go_simp
    try simp only [Act.put, List.setIfInBounds_toArray, List.set_cons_zero, List.set_cons_succ]
    refine wpAnyH_done (by kernel_rfl) ?_ _
    clear HC HR
    go_wp2_with fail
    go_ret
    exact ⟨rfl, B⟩
/-- 'q.Less(i, j)': by the order of places. -/
theorem qless_any {F : Nat → Fnt} {w : World} {B qb : Nat} {v : Value} {q : List Nat} (h : HQ F w B qb v q) {i j : Nat} (hi : i < q.length) (hj : j < q.length) :
    Calls Try.prog 46 #[v, .int .i64 (i : Int), .int .i64 (j : Int)] w fun e w' => e = .returned (.bool (ltPl (fun p => (F p).e) (q.getD i 0) (q.getD j 0))) ∧ Below w.heap.size w w' := by
  rcases h.form with ⟨-, rfl⟩ | ⟨g, cap, rfl, -, -, -, -⟩
  · simp at hi
  · have hl := h.less hi hj
    exact qless_raw g i j q.length cap _ _ _ _ _ _ _ _ _ _ _ _ _ _ _ w ⟨hl.ci, hl.cj, hl.gl, hl.ri.lt, hl.rj.lt, ⟨_, fr_cells hl.ri⟩, ⟨_, fr_cells hl.rj⟩⟩ hi hj rfl
end Go.Proofs.Ytmndhmodcglkjaa
