/- The walk of the law EntryFind. -/
import Derived.Test.YtgofniepdpbciaaEntLawO
namespace Go.Proofs.Ytgofniepdpbciaa
set_option linter.unusedVariables false
open Go.RowKit
theorem eqB_self (e : Ent) : eqB e e = true := by simp [eqB]
theorem findV_any (o : Option Ent) : ∃ (e : Ent) (ok : Bool), findV o = .tuple #[.agg #[.string e.norm, .int .i64 e.seq, .int .i64 e.kind, .string e.spell, .string e.val], .bool ok] ∧ e = o.getD Ent.none ∧ ok = o.isSome := ⟨o.getD Ent.none, o.isSome, rfl, rfl, rfl⟩
set_option maxHeartbeats 8000000 in
set_option maxRecDepth 100000 in
theorem entryFind_walk (w : World) (a : Option Addr) (len cap : Nat) (xs : List Ent) (hrd : RdK encEnt 5 w (.slice a len cap) xs) (hok : ∀ e ∈ xs, e.ok) (n : ByteArray) (_hn : n.size ≤ maxLen) (q : Int) (_hq : (Lit.int .i64 q).wf = true) :
    Calls Try.prog 4 #[.slice a len cap, .string n, .int .i64 q] w fun e w' => e = .returned (.bool true) ∧ Below w.heap.size w w' := by
  have HRD := Lib.hid hrd
  have HOK := Lib.hid hok
  clear hrd hok _hn _hq
  go_enter Try.func4, Try.ntmps4
  go_wp2_with fail
  refine (ebegun_any _).mono ?_
  rintro e w1 ⟨rfl, hb⟩
  have H1 : Hid (Below w.heap.size w w1 ∧ RdK encEnt 5 w1 (.slice a len cap) xs) := Lib.hid ⟨hb, HRD.out.below hb⟩
  have HC := Lib.hid (cutall_any _ xs HOK.out w1 H1.out.2)
  clear hb HRD
  go_wp2_with fail
  refine HC.out.mono ?_
  rintro e w2 ⟨v2, xs2, rfl, o2, l2, hb⟩
  have H2 : Hid (Below w.heap.size w w2 ∧ RdK encEnt 5 w2 (.slice a len cap) xs ∧ RdK encEnt 5 w2 v2 xs2) := Lib.hid ⟨H1.out.1.trans (hb.mono H1.out.1.size), H1.out.2.below hb, o2.rd encEnt_len⟩
  have HC2 := Lib.hid (sort_any _ xs HOK.out w2 H2.out.2.1)
  clear hb H1 HC o2 HOK
  go_wp2_with fail
  refine HC2.out.mono ?_
  rintro e w3 ⟨v3, xs3, rfl, o3, l3, s3, hb⟩
  have H3 : Hid (Below w.heap.size w w3 ∧ RdK encEnt 5 w3 v2 xs2 ∧ RdK encEnt 5 w3 v3 xs3) := Lib.hid ⟨H2.out.1.trans (hb.mono H2.out.1.size), H2.out.2.2.below hb, o3.rd encEnt_len⟩
  clear hb H2 HC2 o3
  have F1 : Hid (∀ w, RdK encEnt 5 w v3 xs3 → Calls Try.prog 15 #[v3, .string n, .int .i64 q] w fun e w' => e = .returned (findV (findE xs3 n q)) ∧ Below w.heap.size w w') := Lib.hid fun w h => find_any v3 xs3 (by omega) s3 n q w h
  have F2 : Hid (∀ w, RdK encEnt 5 w v3 xs3 → Calls Try.prog 16 #[v3, .string n, .int .i64 q] w fun e w' => e = .returned (findV (findE xs3 n q)) ∧ Below w.heap.size w w') := Lib.hid fun w h => rfind_any v3 xs3 (by omega) n q w h
  have S1 : Hid (∀ w, RdK encEnt 5 w v2 xs2 → Calls Try.prog 17 #[v2] w fun e w' => e = .returned (.bool (srtB xs2)) ∧ Below w.heap.size w w') := Lib.hid fun w h => sorted_any v2 xs2 (by omega) w h
  have S2 : Hid (∀ w, RdK encEnt 5 w v2 xs2 → Calls Try.prog 18 #[v2] w fun e w' => e = .returned (.bool (srtB xs2)) ∧ Below w.heap.size w w') := Lib.hid fun w h => rsorted_any v2 xs2 (by omega) w h
  have S3 : Hid (∀ w, RdK encEnt 5 w v3 xs3 → Calls Try.prog 17 #[v3] w fun e w' => e = .returned (.bool true) ∧ Below w.heap.size w w') := Lib.hid fun w h => by
    have := sorted_any v3 xs3 (by omega) w h
    rwa [s3] at this
  obtain ⟨f, ok, hf, -, -⟩ := findV_any (findE xs3 n q)
  rw [hf] at F1 F2
  have E1 := Lib.hid (req_any f f)
  rw [eqB_self] at E1
  generalize srtB xs2 = r at *
  clear hf s3 l2 l3
  obtain ⟨fn, fq, fk, fsp, fv⟩ := f
  go_wp2_with fail
  refine (F1.out _ H3.out.2.2).mono ?_
  rintro e w4 ⟨rfl, hb⟩
  have H4 : Hid (Below w.heap.size w w4 ∧ RdK encEnt 5 w4 v2 xs2 ∧ RdK encEnt 5 w4 v3 xs3) := Lib.hid ⟨H3.out.1.trans (hb.mono H3.out.1.size), H3.out.2.1.below hb, H3.out.2.2.below hb⟩
  clear hb H3 F1
  go_wp2_with fail
  have hW := (Below.refl _ w4).alloc (Nat.le_refl _) (.cells #[.string fn, .int .i64 fq, .int .i64 fk, .string fsp, .string fv] 23)
  have hR := Row5.new w4 (.string fn) (.int .i64 fq) (.int .i64 fk) (.string fsp) (.string fv) 23
  refine (F2.out _ (H4.out.2.2.below hW)).mono ?_
  rintro e w5 ⟨rfl, hb⟩
  have hb5 := below_via hW hb
  have H5 : Hid (Below w.heap.size w w5 ∧ RdK encEnt 5 w5 v2 xs2 ∧ RdK encEnt 5 w5 v3 xs3 ∧ Row5 w5 w4.heap.size (.string fn) (.int .i64 fq) (.int .i64 fk) (.string fsp) (.string fv)) := Lib.hid ⟨H4.out.1.trans (hb5.mono H4.out.1.size), H4.out.2.1.below hb5, H4.out.2.2.below hb5, hR.below hb hR.2.2⟩
  clear hb hb5 hW hR H4 F2
  go_wp2_with fail
  have hW := (Below.refl _ w5).alloc (Nat.le_refl _) (.cells #[.string fn, .int .i64 fq, .int .i64 fk, .string fsp, .string fv] 23)
  have hR := Row5.new w5 (.string fn) (.int .i64 fq) (.int .i64 fk) (.string fsp) (.string fv) 23
  refine (S1.out _ (H5.out.2.1.below hW)).mono ?_
  rintro e w6 ⟨rfl, hb⟩
  have hb6 := below_via hW hb
  have H6 : Hid (Below w.heap.size w w6 ∧ RdK encEnt 5 w6 v2 xs2 ∧ RdK encEnt 5 w6 v3 xs3 ∧ Row5 w6 w4.heap.size (.string fn) (.int .i64 fq) (.int .i64 fk) (.string fsp) (.string fv) ∧ Row5 w6 w5.heap.size (.string fn) (.int .i64 fq) (.int .i64 fk) (.string fsp) (.string fv)) :=
    Lib.hid ⟨H5.out.1.trans (hb6.mono H5.out.1.size), H5.out.2.1.below hb6, H5.out.2.2.1.below hb6, H5.out.2.2.2.below hb6 H5.out.2.2.2.2.2, hR.below hb hR.2.2⟩
  clear hb hb6 hW hR H5 S1
  go_wp2_with fail
  refine (S2.out _ H6.out.2.1).mono ?_
  rintro e w7 ⟨rfl, hb⟩
  have H7 : Hid (Below w.heap.size w w7 ∧ RdK encEnt 5 w7 v3 xs3 ∧ Row5 w7 w4.heap.size (.string fn) (.int .i64 fq) (.int .i64 fk) (.string fsp) (.string fv) ∧ Row5 w7 w5.heap.size (.string fn) (.int .i64 fq) (.int .i64 fk) (.string fsp) (.string fv)) :=
    Lib.hid ⟨H6.out.1.trans (hb.mono H6.out.1.size), H6.out.2.2.1.below hb, H6.out.2.2.2.1.below hb H6.out.2.2.2.1.2.2, H6.out.2.2.2.2.below hb H6.out.2.2.2.2.2.2⟩
  clear hb H6 S2
  have hrr : (r == r) = true := by simp
  go_wp2_with fail
  refine (S3.out _ H7.out.2.1).mono ?_
  rintro e w8 ⟨rfl, hb⟩
  have H8 : Hid (Below w.heap.size w w8) := Lib.hid (H7.out.1.trans (hb.mono H7.out.1.size))
  obtain ⟨⟨a0, a1, a2, a3, a4⟩, -, hga⟩ := H7.out.2.2.1.below hb H7.out.2.2.1.2.2
  obtain ⟨⟨b0, b1, b2, b3, b4⟩, -, hgb⟩ := H7.out.2.2.2.below hb H7.out.2.2.2.2.2
  clear hb H7 S3
  have hok : (ok == ok) = true := by simp
  go_wp2_with fail
  refine (E1.out _).mono ?_
  rintro e w9 ⟨rfl, hb⟩
  have H9 : Hid (Below w.heap.size w w9) := Lib.hid (H8.out.trans (hb.mono H8.out.size))
  clear hb H8
  go_wp2_with fail
  go_ret
  exact ⟨rfl, H9.out⟩
end Go.Proofs.Ytgofniepdpbciaa
