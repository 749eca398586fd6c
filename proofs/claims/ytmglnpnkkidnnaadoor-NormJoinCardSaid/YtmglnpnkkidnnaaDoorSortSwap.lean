/- The walks of slices.swapRangeCmpFunc and rotateCmpFunc at norm's char. -/
import Derived.Test.YtmglnpnkkidnnaaDoorStab2
import Derived.Test.YtmglnpnkkidnnaaDoorRows
import Derived.Shelf.SlSortCmp.KitK
import Derived.Lib.Hide
import Derived.BigRegion
namespace Go.Proofs.YtmglnpnkkidnnaaDoor
set_option linter.unusedVariables false
open Go.RowKit Go.Shelf Go.Lib Go.Sort
/-- A char's two cells. -/
def encC (cl : Int → Int) (c : Int) : List Value := [.int .i64 c, .int .i64 (cl c)]
/-- The row that is sorted: what it was, where it lies. -/
abbrev RowC (cl : Int → Int) (w0 : World) (blk off : Nat) (d0 : Array Int) : Prop := RowK (encC cl) 2 w0 blk off d0
theorem rowC (cl : Int → Int) {w0 : World} {blk off : Nat} {d0 : Array Int} (h : HoldsK (encC cl) 2 w0 blk off d0) (hb : blk < w0.heap.size) : RowC cl w0 blk off d0 :=
  ⟨fun _ => rfl, fun x v hv => by simp [encC] at hv; rcases hv with rfl | rfl <;> rfl, h, hb⟩
set_option maxHeartbeats 2000000 in
set_option maxRecDepth 100000 in
theorem swapRange_any (cl : Int → Int) (cb : Array Value) (g : Nat) (blk off cap : Nat) (d0 d : Array Int) (w0 w : World) (R : RowC cl w0 blk off d0) (hs : d0.size = d.size) (S0 : SWK (encC cl) 2 w0 blk off d w) (hsz : d.size < 1000000)
    (P A M B S : List Int) (a b n : Nat) (hd : d.toList = P ++ (A ++ (M ++ (B ++ S)))) (hA : A.length = n) (hB : B.length = n) (ha : a = P.length) (hb : b = P.length + n + M.length) :
    Calls Tryd.prog 90 #[.slice (some ⟨blk, off, none⟩) d.size cap, .int .i64 a, .int .i64 b, .int .i64 n, .func (.func g) #[] cb] w fun e w' =>
      e = .returned (.tuple #[]) ∧ ∃ d', d'.toList = P ++ (B ++ (M ++ (A ++ S))) ∧ d'.size = d.size ∧ SWK (encC cl) 2 w0 blk off d' w' := by
  have mixed : Tryd.prog.follows .mixedOrders = true := by kernel_rfl
  have hlen : d.size = P.length + (n + (M.length + (n + S.length))) := by rw [← Array.length_toList, hd]; simp; omega
  have SA : Aside (SWK (encC cl) 2 w0 blk off d w) := S0
  have HA : Hid (A.length = n ∧ B.length = n ∧ d.toList = P ++ (A ++ (M ++ (B ++ S)))) := ⟨hA, hB, hd⟩
  have HE : Hid (a = P.length ∧ b = P.length + n + M.length) := ⟨ha, hb⟩
  have hab : a + n ≤ d.size ∧ b + n ≤ d.size ∧ a + n ≤ b := by omega
  clear S0 hA hB hd ha hb hlen
  go_enter Tryd.func90, Tryd.ntmps90
  go_wp2
  go_loopg [10] n (fun k vi wr => ∃ (i : Nat) (dk : Array Int), vi = .int .i64 i ∧ i ≤ n ∧ n - i ≤ k ∧ dk.size = d.size ∧ Aside (SWK (encC cl) 2 w0 blk off dk wr) ∧
    Hid (dk.toList = P ++ (B.take i ++ (A.drop i ++ (M ++ (A.take i ++ (B.drop i ++ S)))))))
  case atStart => exact ⟨0, d, rfl, by omega, by omega, rfl, SA, (show Hid _ from by show _ = _; simpa using HA.out.2.2)⟩
  case round =>
    clear SA
    obtain ⟨i, dk, rfl, hin, hk, hds, S1, HL⟩ := hrel
    have HDS : Hid (dk.size = d.size) := hds
    have hda : a + n ≤ dk.size ∧ b + n ≤ dk.size := by omega
    clear hds
    by_cases hlt : i < n
    · have hltz : (i : Int) < (n : Int) := by omega
      have e1 : ((a : Int) + (i : Int)).toNat = a + i := by omega
      have p1 : (0 : Int) ≤ (a : Int) + (i : Int) := by omega
      have b1 : (a : Int) + (i : Int) < (d.size : Int) := by omega
      have r1 : IntKind.i64.wrap ((a : Int) + (i : Int)) = (a : Int) + (i : Int) := by rw [IntKind.wrap_i64]; omega
      have e2 : ((b : Int) + (i : Int)).toNat = b + i := by omega
      have p2 : (0 : Int) ≤ (b : Int) + (i : Int) := by omega
      have b2 : (b : Int) + (i : Int) < (d.size : Int) := by omega
      have r2 : IntKind.i64.wrap ((b : Int) + (i : Int)) = (b : Int) + (i : Int) := by rw [IntKind.wrap_i64]; omega
      go_wp2_with fail
      have S2 : Aside (SWK (encC cl) 2 w0 blk off (swp dk (a + i) (b + i)) ((wr.drew.setCells blk (off + (a + i) * 2) (encC cl dk[b + i]!)).setCells blk (off + (b + i) * 2) (encC cl dk[a + i]!))) := S1.out.swapped R (a + i) (b + i) (by omega) (by omega)
      have HD := S1.out.holds R.hblk R.hH (HDS.out.trans hs.symm)
      have c1 := (HoldsK.cell HD (i := a + i) (c := 0) (by omega) (by omega)).1
      have c2 := (HoldsK.cell HD (i := a + i) (c := 1) (by omega) (by omega)).1
      have c3 := (HoldsK.cell HD (i := b + i) (c := 0) (by omega) (by omega)).1
      have c4 := (HoldsK.cell HD (i := b + i) (c := 1) (by omega) (by omega)).1
      have f1 := (HoldsK.cell HD (i := a + i) (c := 0) (by omega) (by omega)).2
      have f2 := (HoldsK.cell HD (i := a + i) (c := 1) (by omega) (by omega)).2
      have f3 := (HoldsK.cell HD (i := b + i) (c := 0) (by omega) (by omega)).2
      have f4 := (HoldsK.cell HD (i := b + i) (c := 1) (by omega) (by omega)).2
      clear HD
      change wr.cell? ⟨blk, off + (a + i) * 2, none⟩ = some (.int .i64 dk[a + i]!) at c1
      change wr.cell? ⟨blk, off + (a + i) * 2 + 1, none⟩ = some (.int .i64 (cl dk[a + i]!)) at c2
      change wr.cell? ⟨blk, off + (b + i) * 2, none⟩ = some (.int .i64 dk[b + i]!) at c3
      change wr.cell? ⟨blk, off + (b + i) * 2 + 1, none⟩ = some (.int .i64 (cl dk[b + i]!)) at c4
      change wr.frozen? ⟨blk, off + (a + i) * 2, none⟩ = false at f1
      change wr.frozen? ⟨blk, off + (b + i) * 2, none⟩ = false at f3
      have S3 : Hid (SWK (encC cl) 2 w0 blk off (swp dk (a + i) (b + i)) (((((wr.setCell ⟨blk, off + (a + i) * 2, none⟩ (.int .i64 dk[b + i]!)).setCell ⟨blk, off + (a + i) * 2 + 1, none⟩ (.int .i64 (cl dk[b + i]!))).setCell ⟨blk, off + (b + i) * 2, none⟩ (.int .i64 dk[a + i]!)).setCell ⟨blk, off + (b + i) * 2 + 1, none⟩ (.int .i64 (cl dk[a + i]!))).drew)) := S2.out
      clear S2
      generalize cl dk[a + i]! = k1 at *
      generalize cl dk[b + i]! = k2 at *
      generalize dk[a + i]! = x1 at *
      generalize dk[b + i]! = x2 at *
      clear S1
      have q1 : ¬ off + (a + i) * 2 = off + (b + i) * 2 := by omega
      have q2 : ¬ off + (a + i) * 2 + 1 = off + (b + i) * 2 := by omega
      have q3 : ¬ off + (a + i) * 2 = off + (b + i) * 2 + 1 := by omega
      have q4 : ¬ off + (b + i) * 2 = off + (a + i) * 2 := by omega
      have q5 : ¬ off + (b + i) * 2 + 1 = off + (a + i) * 2 := by omega
      have q6 : ¬ off + (b + i) * 2 = off + (a + i) * 2 + 1 := by omega
      obtain ⟨oa, hoa⟩ : ∃ o, off + (a + i) * 2 = o := ⟨_, rfl⟩
      obtain ⟨ob, hob⟩ : ∃ o, off + (b + i) * 2 = o := ⟨_, rfl⟩
      rw [hoa, hob] at S3
      rw [hoa] at c1 c2 f1 f2 q1 q2 q3 q4 q5 q6
      rw [hob] at c3 c4 f3 f4 q1 q2 q3 q4 q5 q6
      go_big_region
      clear c1 c2 c3 c4 f1 f2 f3 f4
      generalize (World.setCell _ _ _).drew = w2 at S3 ⊢
      go_wp2
      go_roundg (n - (i + 1))
      case measure => omega
      case rel => exact ⟨i + 1, swp dk (a + i) (b + i), by go_num, by omega, Nat.le_refl _, by rw [size_swp]; exact HDS.out, S3, swapStep HA.out.1 HA.out.2.1 HE.out.1 HE.out.2 hlt HL.out⟩
    · have hltz : ¬ (i : Int) < (n : Int) := by omega
      go_wp2
      go_end0
      obtain rfl : i = n := by omega
      refine ⟨rfl, dk, ?_, HDS.out, S1.out⟩
      have := HL.out
      rw [← HA.out.1, List.drop_length, List.take_length] at this
      rw [HA.out.1, ← HA.out.2.1, List.take_length, List.drop_length] at this
      simpa using this
end Go.Proofs.YtmglnpnkkidnnaaDoor
