/- manifest.Create: the first manifest. -/
import Derived.Test.YtcppaflnhlmcbaaGreatDoorManCom
namespace Go.Proofs.YtcppaflnhlmcbaaGreatDoor
set_option linter.unusedVariables false
open Go.RowKit Go.Maps
/-- The version of a new manifest. -/
def verC : Ver := ⟨[], 2, 0, 0⟩
def logC : List UInt8 := layB smN 0 (edtB (wholeE verC))
theorem verC_is : applyV Ver.new ⟨2, 0, 0, [], []⟩ = some verC := applyV_bump new_good (by decide)
theorem verC_good : GoodV verC := bumpV_good new_good (by decide)
theorem same_none {V n : Ver} (h : vSame n V) (hn : n.fs = []) : V = n := by
  obtain ⟨h1, h2, h3, h4⟩ := h
  obtain ⟨fs, nx, lg, ls⟩ := V
  obtain ⟨gs, mx, mg, ms⟩ := n
  dsimp only at *
  subst hn h2 h3 h4
  rw [List.nil_perm.1 h1]
theorem BegTo.pre {B : Nat} {w w1 w' : World} {b : Nat} {ρ : Nat → Option Role} {u : Nat} {log : List UInt8} {V : Ver} {R : Int × Fs} {e : Ending} (hb : Below w.heap.size w w1) (h : BegTo B w1 b ρ u log V R e w') : BegTo B w b ρ u log V R e w' := by
  rcases h with ⟨h1, mb, ρ', h2, h3, h4, h5, h6⟩ | ⟨h1, h2, ρ', t1, t2, t3⟩
  · exact .inl ⟨h1, mb, ρ', h2, Nat.le_trans hb.size h3, h4, (UpdF.of hb).trans h5, fun k hk => by
      rcases h6 k hk with f | f
      · exact .inl f
      · have := hb.size; exact .inr (by omega)⟩
  · exact .inr ⟨h1, h2, ρ', t1, (UpdF.of hb).trans t2, fun k hk => by
      rcases t3 k hk with f | f
      · exact .inl f
      · have := hb.size; exact .inr (by omega)⟩
set_option maxHeartbeats 2000000 in
theorem mcreate_there (w : World) (b : Nat) (ρ : Nat → Option Role) (S : Fs) (h : FsAt w b ρ S) (bs : List UInt8) (hr : S.read curN = (bs, 0)) : Calls Tryz.prog 10 #[.pointer (some ⟨b, 0, none⟩)] w fun e w' => e = .returned (.tuple #[.pointer none, .int .i64 10]) ∧ Below w.heap.size w w' := by
  have HR : Hid (Calls Tryz.prog 30 #[.pointer (some ⟨b, 0, none⟩), .string ⟨#[67, 85, 82, 82, 69, 78, 84]⟩] w (ReadAt w bs 0)) := Lib.hid (by
    have := fsRead_any w b ρ S h curN (by decide)
    rwa [hr] at this)
  clear h hr
  go_enter Tryz.func10, Tryz.ntmps10
  go_wp2_with fail
  refine HR.out.mono ?_
  rintro e w1 ⟨v, rfl, ho, hb⟩
  go_wp2_with fail
  go_ret2
  exact ⟨rfl, hb⟩
set_option maxHeartbeats 8000000 in
set_option maxRecDepth 100000 in
theorem mcreate_any {B : Nat} {w0 : World} (hG0 : GlobM w0) {w : World} (h0 : Below w0.heap.size w0 w) (hB : B ≤ w.heap.size) (b : Nat) (ρ : Nat → Option Role) (S : Fs) (h : FsAt w b ρ S) (hρ : ∀ k, ρ k ≠ none → w0.heap.size ≤ k) (bs : List UInt8) (c : Int) (hr : S.read curN = (bs, c)) (hc : c ≠ 0) (hw : S.wait.length ≤ 100000) :
    Calls Tryz.prog 10 #[.pointer (some ⟨b, 0, none⟩)] w (BegTo B w b ρ 1 logC verC (begF smN S 1 logC)) := by
  have HR : Hid (Calls Tryz.prog 30 #[.pointer (some ⟨b, 0, none⟩), .string ⟨#[67, 85, 82, 82, 69, 78, 84]⟩] w (ReadAt w bs c)) := Lib.hid (by
    have := fsRead_any w b ρ S h curN (by decide)
    rwa [hr] at this)
  have hd : (c == 0) = false := by rw [beq_eq_false_iff_ne]; exact hc
  have HBE : Hid (∀ W tv n0, Below w.heap.size w W → VerP B W tv n0 verC → (∀ k, tv.ownBlock = some k → w.heap.size ≤ k) → Calls Tryz.prog 33 #[.pointer (some ⟨b, 0, none⟩), .int .i64 1, .agg #[tv, .int .i64 n0, .int .i64 0, .int .i64 0]] W (BegTo B W b ρ 1 logC verC (begF smN S 1 logC))) := Lib.hid fun W tv n0 hW hV hk =>
    mbegin_any hG0 W (h0.trans (hW.mono h0.size)) b ρ S (h.below hW) 1 (by decide) tv n0 verC hV (fun k e => by
      cases hq : ρ k with
      | none => rfl
      | some r => obtain ⟨L, hL⟩ := h; have := hL.top k (by rw [hq]; simp); have := hk k e; omega) hw hρ logC rfl
  have HNW := Lib.hid vnew_any
  have HBB := Lib.hid hB
  clear h hr hc hG0 h0 hρ hw hB
  go_enter Tryz.func10, Tryz.ntmps10
  go_wp2_with fail
  refine HR.out.mono ?_
  rintro e w1 ⟨v, rfl, ho, hb⟩
  have HB := Lib.hid hb
  obtain ⟨av, nv, cv, rfl, -⟩ := ho.form
  clear ho hb HR
  go_wp2_with fail
  refine (HNW.out w1).mono ?_
  rintro e w2 ⟨rfl, hw2⟩
  have hb2 : Below w1.heap.size w1 w2 := by rw [hw2]; exact (Below.refl _ w1).alloc (Nat.le_refl _) _
  have HV2 : Hid (VerAt B w2 w1.heap.size Ver.new) := Lib.hid (by rw [hw2]; exact vnew_at w1 B)
  have HB2 := Lib.hid (HB.out.trans (hb2.mono HB.out.size))
  obtain ⟨g, hg⟩ : ∃ g, w1.heap.size = g := ⟨_, rfl⟩
  rw [hg] at HV2
  have HGE : Hid (w.heap.size ≤ g) := Lib.hid (by rw [← hg]; exact HB.out.size)
  have HAP := Lib.hid (vapply_new HV2.out (Nat.le_trans HBB.out HB2.out.size) (.agg #[.int .i64 2, .int .i64 0, .int .i64 0, .slice none 0 0, .slice none 0 0]) ⟨2, 0, 0, [], []⟩ ⟨_, _, rfl, .inl ⟨_, _, rfl, rfl⟩, RdV.nil _ _ _⟩ ⟨fun f hf => (by cases hf), Nat.zero_le _, Nat.zero_le _⟩)
  clear hw2 hb2 HNW HB
  go_wp2_with fail
  refine HAP.out.mono ?_
  rintro e w3 ⟨c3, V', rfl, hv, hu3, hn, hs⟩
  obtain ⟨rfl, hsm, hvn⟩ := hs _ verC_is
  obtain rfl := same_none hsm rfl
  have HB3 : Hid (Below w.heap.size w w3) := Lib.hid (HB2.out.trans (hu3.below HB2.out.size fun k hk e => by have := HGE.out; omega))
  obtain ⟨tv3, n3, hb3, hp3⟩ := hvn.p
  have HB4 := Lib.hid (HBE.out w3 tv3 n3 HB3.out (hp3.base (Nat.le_trans HBB.out HB2.out.size)) fun k hk => by
    rcases hp3.row.blk with ⟨e, -⟩ | ⟨g', cap, cur, e, e2, -⟩
    · rw [e] at hk; simp [Value.ownBlock] at hk
    · rw [e] at hk; simp only [Value.ownBlock, Option.some.injEq] at hk; have := HB2.out.size; omega)
  obtain ⟨a3, c3, rfl⟩ := fil_form hp3.row
  have hb3 : BlkAt w3 g #[.slice a3 0 c3, .int .i64 n3, .int .i64 0, .int .i64 0] 73 := hb3
  have HB4 : Hid (Calls Tryz.prog 33 #[.pointer (some ⟨b, 0, none⟩), .int .i64 1, .agg #[.slice a3 0 c3, .int .i64 n3, .int .i64 0, .int .i64 0]] w3 (BegTo B w3 b ρ 1 logC verC (begF smN S 1 logC))) := HB4
  obtain ⟨y0, y1, y2, y3⟩ := cell4_of hb3
  clear hn hs hv hu3 hsm hvn hb3 hp3 HAP HBE HV2
  generalize begF smN S 1 logC = R at *
  go_wp2_with fail
  refine HB4.out.mono ?_
  rintro e w4 hbt
  rcases hbt with ⟨h1, mb, ρ', rfl, h3⟩ | ⟨h1, rfl, h3⟩
  · have HH := Lib.hid h3
    have H1 := Lib.hid h1
    clear h3 h1 HB4
    go_wp2_with fail
    go_ret2
    exact BegTo.pre HB3.out (.inl ⟨H1.out, mb, ρ', rfl, HH.out⟩)
  · have HH := Lib.hid h3
    have H1 := Lib.hid h1
    clear h3 h1 HB4
    go_wp2_with fail
    go_ret2
    exact BegTo.pre HB3.out (.inr ⟨H1.out, rfl, HH.out⟩)
end Go.Proofs.YtcppaflnhlmcbaaGreatDoor
