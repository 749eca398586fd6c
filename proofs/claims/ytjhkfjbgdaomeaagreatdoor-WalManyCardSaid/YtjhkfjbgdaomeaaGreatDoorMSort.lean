/- The walks of slices.swapRangeCmpFunc and rotateCmpFunc at norm's char. -/
import Derived.Test.YtjhkfjbgdaomeaaGreatDoorMOrd
import Derived.Test.YtjhkfjbgdaomeaaGreatDoorRows
import Derived.Shelf.SlSortCmp.KitK
import Derived.Lib.Hide
import Derived.BigRegion
namespace Go.Proofs.YtjhkfjbgdaomeaaGreatDoor
set_option linter.unusedVariables false
open Go.RowKit Go.Shelf Go.Lib Go.Sort
/-- A char's two cells. -/
def encC (cl : Int → Int) (c : Int) : List Value := [.int .i64 c, .int .i64 (cl c)]
/-- The row that is sorted: what it was, where it lies. -/
abbrev RowC (cl : Int → Int) (w0 : World) (blk off : Nat) (d0 : Array Int) : Prop := RowK (encC cl) 2 w0 blk off d0
theorem rowC (cl : Int → Int) {w0 : World} {blk off : Nat} {d0 : Array Int} (h : HoldsK (encC cl) 2 w0 blk off d0) (hb : blk < w0.heap.size) : RowC cl w0 blk off d0 :=
  ⟨fun _ => rfl, fun x v hv => by simp [encC] at hv; rcases hv with rfl | rfl <;> rfl, h, hb⟩
set_option maxHeartbeats 2000000 in
set_option maxRecDepth 100000 in
theorem swapRange_any (cl : Int → Int) (cb : Array Value) (g : Nat) (blk off cap : Nat) (d0 d : Array Int) (w0 w : World) (R : RowC cl w0 blk off d0) (hs : d0.size = d.size) (S0 : SWK (encC cl) 2 w0 blk off d w) (hsz : d.size < 1000000)
    (P A M B S : List Int) (a b n : Nat) (hd : d.toList = P ++ (A ++ (M ++ (B ++ S)))) (hA : A.length = n) (hB : B.length = n) (ha : a = P.length) (hb : b = P.length + n + M.length) :
    Calls Tryz.prog 189 #[.slice (some ⟨blk, off, none⟩) d.size cap, .int .i64 a, .int .i64 b, .int .i64 n, .func (.func g) #[] cb] w fun e w' =>
      e = .returned (.tuple #[]) ∧ ∃ d', d'.toList = P ++ (B ++ (M ++ (A ++ S))) ∧ d'.size = d.size ∧ SWK (encC cl) 2 w0 blk off d' w' := by
  have mixed : Tryz.prog.follows .mixedOrders = true := by kernel_rfl
  have hlen : d.size = P.length + (n + (M.length + (n + S.length))) := by rw [← Array.length_toList, hd]; simp; omega
  have SA : Aside (SWK (encC cl) 2 w0 blk off d w) := S0
  have HA : Hid (A.length = n ∧ B.length = n ∧ d.toList = P ++ (A ++ (M ++ (B ++ S)))) := ⟨hA, hB, hd⟩
  have HE : Hid (a = P.length ∧ b = P.length + n + M.length) := ⟨ha, hb⟩
  have hab : a + n ≤ d.size ∧ b + n ≤ d.size ∧ a + n ≤ b := by omega
  clear S0 hA hB hd ha hb hlen
  go_enter Tryz.func189, Tryz.ntmps189
  go_wp2
  go_loopg [10] n (fun k vi wr => ∃ (i : Nat) (dk : Array Int), vi = .int .i64 i ∧ i ≤ n ∧ n - i ≤ k ∧ dk.size = d.size ∧ Aside (SWK (encC cl) 2 w0 blk off dk wr) ∧
    Hid (dk.toList = P ++ (B.take i ++ (A.drop i ++ (M ++ (A.take i ++ (B.drop i ++ S)))))))
  case atStart => exact ⟨0, d, rfl, by omega, by omega, rfl, SA, (show Hid _ from by show _ = _; simpa using HA.out.2.2)⟩
  case round =>
    clear SA
    obtain ⟨i, dk, rfl, hin, hk, hds, S1, HL⟩ := hrel
    have HDS : Hid (dk.size = d.size) := hds
    have hda : a + n ≤ dk.size ∧ b + n ≤ dk.size := by omega
    clear hds
    by_cases hlt : i < n
    · have hltz : (i : Int) < (n : Int) := by omega
      have e1 : ((a : Int) + (i : Int)).toNat = a + i := by omega
      have p1 : (0 : Int) ≤ (a : Int) + (i : Int) := by omega
      have b1 : (a : Int) + (i : Int) < (d.size : Int) := by omega
      have r1 : IntKind.i64.wrap ((a : Int) + (i : Int)) = (a : Int) + (i : Int) := by rw [IntKind.wrap_i64]; omega
      have e2 : ((b : Int) + (i : Int)).toNat = b + i := by omega
      have p2 : (0 : Int) ≤ (b : Int) + (i : Int) := by omega
      have b2 : (b : Int) + (i : Int) < (d.size : Int) := by omega
      have r2 : IntKind.i64.wrap ((b : Int) + (i : Int)) = (b : Int) + (i : Int) := by rw [IntKind.wrap_i64]; omega
      go_wp2_with fail
      have S2 : Aside (SWK (encC cl) 2 w0 blk off (swp dk (a + i) (b + i)) ((wr.drew.setCells blk (off + (a + i) * 2) (encC cl dk[b + i]!)).setCells blk (off + (b + i) * 2) (encC cl dk[a + i]!))) := S1.out.swapped R (a + i) (b + i) (by omega) (by omega)
      have HD := S1.out.holds R.hblk R.hH (HDS.out.trans hs.symm)
      have c1 := (HoldsK.cell HD (i := a + i) (c := 0) (by omega) (by omega)).1
      have c2 := (HoldsK.cell HD (i := a + i) (c := 1) (by omega) (by omega)).1
      have c3 := (HoldsK.cell HD (i := b + i) (c := 0) (by omega) (by omega)).1
      have c4 := (HoldsK.cell HD (i := b + i) (c := 1) (by omega) (by omega)).1
      have f1 := (HoldsK.cell HD (i := a + i) (c := 0) (by omega) (by omega)).2
      have f2 := (HoldsK.cell HD (i := a + i) (c := 1) (by omega) (by omega)).2
      have f3 := (HoldsK.cell HD (i := b + i) (c := 0) (by omega) (by omega)).2
      have f4 := (HoldsK.cell HD (i := b + i) (c := 1) (by omega) (by omega)).2
      clear HD
      change wr.cell? ⟨blk, off + (a + i) * 2, none⟩ = some (.int .i64 dk[a + i]!) at c1
      change wr.cell? ⟨blk, off + (a + i) * 2 + 1, none⟩ = some (.int .i64 (cl dk[a + i]!)) at c2
      change wr.cell? ⟨blk, off + (b + i) * 2, none⟩ = some (.int .i64 dk[b + i]!) at c3
      change wr.cell? ⟨blk, off + (b + i) * 2 + 1, none⟩ = some (.int .i64 (cl dk[b + i]!)) at c4
      change wr.frozen? ⟨blk, off + (a + i) * 2, none⟩ = false at f1
      change wr.frozen? ⟨blk, off + (b + i) * 2, none⟩ = false at f3
      have S3 : Hid (SWK (encC cl) 2 w0 blk off (swp dk (a + i) (b + i)) (((((wr.setCell ⟨blk, off + (a + i) * 2, none⟩ (.int .i64 dk[b + i]!)).setCell ⟨blk, off + (a + i) * 2 + 1, none⟩ (.int .i64 (cl dk[b + i]!))).setCell ⟨blk, off + (b + i) * 2, none⟩ (.int .i64 dk[a + i]!)).setCell ⟨blk, off + (b + i) * 2 + 1, none⟩ (.int .i64 (cl dk[a + i]!))).drew)) := S2.out
      clear S2
      generalize cl dk[a + i]! = k1 at *
      generalize cl dk[b + i]! = k2 at *
      generalize dk[a + i]! = x1 at *
      generalize dk[b + i]! = x2 at *
      clear S1
      have q1 : ¬ off + (a + i) * 2 = off + (b + i) * 2 := by omega
      have q2 : ¬ off + (a + i) * 2 + 1 = off + (b + i) * 2 := by omega
      have q3 : ¬ off + (a + i) * 2 = off + (b + i) * 2 + 1 := by omega
      have q4 : ¬ off + (b + i) * 2 = off + (a + i) * 2 := by omega
      have q5 : ¬ off + (b + i) * 2 + 1 = off + (a + i) * 2 := by omega
      have q6 : ¬ off + (b + i) * 2 = off + (a + i) * 2 + 1 := by omega
      obtain ⟨oa, hoa⟩ : ∃ o, off + (a + i) * 2 = o := ⟨_, rfl⟩
      obtain ⟨ob, hob⟩ : ∃ o, off + (b + i) * 2 = o := ⟨_, rfl⟩
      rw [hoa, hob] at S3
      rw [hoa] at c1 c2 f1 f2 q1 q2 q3 q4 q5 q6
      rw [hob] at c3 c4 f3 f4 q1 q2 q3 q4 q5 q6
      go_big_region
      clear c1 c2 c3 c4 f1 f2 f3 f4
      generalize (World.setCell _ _ _).drew = w2 at S3 ⊢
      go_wp2
      go_roundg (n - (i + 1))
      case measure => omega
      case rel => exact ⟨i + 1, swp dk (a + i) (b + i), by go_num, by omega, Nat.le_refl _, by rw [size_swp]; exact HDS.out, S3, swapStep HA.out.1 HA.out.2.1 HE.out.1 HE.out.2 hlt HL.out⟩
    · have hltz : ¬ (i : Int) < (n : Int) := by omega
      go_wp2
      go_end0
      obtain rfl : i = n := by omega
      refine ⟨rfl, dk, ?_, HDS.out, S1.out⟩
      have := HL.out
      rw [← HA.out.1, List.drop_length, List.take_length] at this
      rw [HA.out.1, ← HA.out.2.1, List.take_length, List.drop_length] at this
      simpa using this
end Go.Proofs.YtjhkfjbgdaomeaaGreatDoor
/- The walk of slices.rotateCmpFunc at norm's char. -/
namespace Go.Proofs.YtjhkfjbgdaomeaaGreatDoor
set_option linter.unusedVariables false
open Go.RowKit Go.Shelf Go.Lib Go.Sort
/-- what a call on the row answers: nothing; the row holds L. -/
def RowRes (cl : Int → Int) (w0 : World) (blk off n : Nat) (L : List Int) (e : Ending) (w' : World) : Prop :=
  e = .returned (.tuple #[]) ∧ ∃ d', d'.toList = L ∧ d'.size = n ∧ SWK (encC cl) 2 w0 blk off d' w'
theorem split_len' {L : List Int} {n : Nat} (h : n ≤ L.length) : ∃ A B, L = A ++ B ∧ A.length = n ∧ B.length = L.length - n := ⟨L.take n, L.drop n, by simp, by simp; omega, by simp⟩
theorem swapRange_at (cl : Int → Int) (cb : Array Value) (g : Nat) (blk off cap : Nat) (d0 d : Array Int) (w0 w : World) (R : RowC cl w0 blk off d0) (hs : d0.size = d.size) (S0 : SWK (encC cl) 2 w0 blk off d w) (hsz : d.size < 1000000)
    (P A M B S : List Int) (a b n : Int) (N : Nat) (hN : N = d.size) (hd : d.toList = P ++ (A ++ (M ++ (B ++ S)))) (hA : (A.length : Int) = n) (hB : (B.length : Int) = n) (ha : a = P.length) (hb : b = P.length + n + M.length) :
    Calls Tryz.prog 189 #[.slice (some ⟨blk, off, none⟩) N cap, .int .i64 a, .int .i64 b, .int .i64 n, .func (.func g) #[] cb] w (RowRes cl w0 blk off N (P ++ (B ++ (M ++ (A ++ S))))) := by
  subst hN ha hb hA
  have := swapRange_any cl cb g blk off cap d0 d w0 w R hs S0 hsz P A M B S P.length (P.length + A.length + M.length) A.length hd rfl (by omega) rfl rfl
  exact this
set_option maxHeartbeats 2000000 in
set_option maxRecDepth 100000 in
theorem rotate_any (cl : Int → Int) (cb : Array Value) (g : Nat) (blk off cap : Nat) (d0 d : Array Int) (w0 w : World) (R : RowC cl w0 blk off d0) (hs : d0.size = d.size) (S0 : SWK (encC cl) 2 w0 blk off d w) (hsz : d.size < 1000000)
    (P X Y S : List Int) (a m b : Nat) (N : Nat) (hN : N = d.size) (hd : d.toList = P ++ (X ++ (Y ++ S))) (hX : 0 < X.length) (hY : 0 < Y.length) (ha : a = P.length) (hm : m = P.length + X.length) (hb : b = P.length + X.length + Y.length) :
    Calls Tryz.prog 178 #[.slice (some ⟨blk, off, none⟩) N cap, .int .i64 a, .int .i64 m, .int .i64 b, .func (.func g) #[] cb] w (RowRes cl w0 blk off N (P ++ (Y ++ (X ++ S)))) := by
  have hlen : d.size = P.length + (X.length + (Y.length + S.length)) := by rw [← Array.length_toList, hd]; simp
  obtain ⟨T, hT⟩ : ∃ T, P ++ (Y ++ (X ++ S)) = T := ⟨_, rfl⟩
  obtain ⟨i0, hi0⟩ : ∃ i, X.length = i := ⟨_, rfl⟩
  obtain ⟨j0, hj0⟩ : ∃ i, Y.length = i := ⟨_, rfl⟩
  have SA : Aside (SWK (encC cl) 2 w0 blk off d w) := S0
  have HH : Hid (X.length = i0 ∧ Y.length = j0 ∧ m = P.length + i0 ∧ d.toList = P ++ (X ++ (Y ++ S)) ∧ P ++ (Y ++ (X ++ S)) = T) := ⟨hi0, hj0, by omega, hd, hT⟩
  rw [hT]
  have g1 : a + i0 = m := by omega
  have g2 : m + j0 = b := by omega
  have g3 : b ≤ d.size := by omega
  have g4 : 0 < i0 := by omega
  have g5 : 0 < j0 := by omega
  have HDN : Hid (N = d.size) := hN
  clear S0 hd hX hY ha hm hb hlen hT hi0 hj0 hN
  have mi : (m : Int) - (a : Int) = (i0 : Int) := by omega
  have bj : (b : Int) - (m : Int) = (j0 : Int) := by omega
  have w1 : IntKind.i64.wrap (i0 : Int) = (i0 : Int) := by rw [IntKind.wrap_i64]; omega
  have w2 : IntKind.i64.wrap (j0 : Int) = (j0 : Int) := by rw [IntKind.wrap_i64]; omega
  have HG : Hid (a + i0 = m ∧ m + j0 = b ∧ b ≤ d.size) := ⟨g1, g2, g3⟩
  have h1 : b ≤ d.size := g3
  have h2 : i0 ≤ m := by omega
  have h3 : m + j0 ≤ d.size := by omega
  clear g1 g2 g3
  go_enter Tryz.func178, Tryz.ntmps178
  go_wp2
  go_loopg [10, 11] (i0 + j0) (fun k vi vj wr => ∃ (i j : Nat) (dk : Array Int) (P' X' Y' S' : List Int), vi = .int .i64 i ∧ vj = .int .i64 j ∧ 0 < i ∧ 0 < j ∧ i ≤ m ∧ m + j ≤ d.size ∧ i + j ≤ k ∧ Aside (SWK (encC cl) 2 w0 blk off dk wr) ∧
    Hid (dk.size = d.size ∧ X'.length = i ∧ Y'.length = j ∧ m = P'.length + i ∧ dk.toList = P' ++ (X' ++ (Y' ++ S')) ∧ P' ++ (Y' ++ (X' ++ S')) = T))
  case atStart => exact ⟨i0, j0, d, P, X, Y, S, rfl, rfl, g4, g5, h2, h3, Nat.le_refl _, SA, ⟨rfl, HH.out⟩⟩
  case round =>
    clear SA mi bj w1 w2 g4 g5 h1 h2 h3
    obtain ⟨i, j, dk, P', X', Y', S', rfl, rfl, g4, g5, h2, h3, hk, S1, HI⟩ := hrel
    by_cases hij : i = j
    · subst hij
      have e1 : (m : Int) - (i : Int) = ((m - i : Nat) : Int) := by omega
      have w1 : IntKind.i64.wrap ((m - i : Nat) : Int) = ((m - i : Nat) : Int) := by rw [IntKind.wrap_i64]; omega
      have HC : Hid (∀ W, W = wr → Calls Tryz.prog 189 #[.slice (some ⟨blk, off, none⟩) N cap, .int .i64 ((m - i : Nat) : Int), .int .i64 m, .int .i64 i, .func (.func g) #[] cb] W (RowRes cl w0 blk off N T)) := Lib.hid fun W e => by
        subst e
        obtain ⟨i1, i2, i3, i4, i5, i6⟩ := HI.out
        have := swapRange_at cl cb g blk off cap d0 dk w0 W R (by omega) S1.out (by omega) P' X' [] Y' S' ((m - i : Nat) : Int) m i N (HDN.out.trans i1.symm) (by simpa using i5) (by omega) (by omega) (by omega) (by simp; omega)
        rw [← i6]; simpa using this
      go_wp2_with fail
      refine (HC.out _ rfl).mono ?_
      rintro e w3 ⟨rfl, d', r1, r2, r3⟩
      go_wp2_with fail
      go_end0
      exact ⟨rfl, d', r1, r2, r3⟩
    · have hne : ¬ ((i : Int) = (j : Int)) := by omega
      have hne2 : ((i : Int) == (j : Int)) = false := by rw [beq_eq_false_iff_ne]; exact fun h => hij (by omega)
      by_cases hgt : j < i
      · have hg : (j : Int) < (i : Int) := by omega
        have e1 : (m : Int) - (i : Int) = ((m - i : Nat) : Int) := by omega
        have w1 : IntKind.i64.wrap ((m - i : Nat) : Int) = ((m - i : Nat) : Int) := by rw [IntKind.wrap_i64]; omega
        have e2 : (i : Int) - (j : Int) = ((i - j : Nat) : Int) := by omega
        have w2 : IntKind.i64.wrap ((i - j : Nat) : Int) = ((i - j : Nat) : Int) := by rw [IntKind.wrap_i64]; omega
        obtain ⟨X1, X2, eX, l1, l2⟩ := split_len' (L := X') (n := j) (by have := HI.out.2.1; omega)
        have HC : Hid (∀ W, W = wr → Calls Tryz.prog 189 #[.slice (some ⟨blk, off, none⟩) N cap, .int .i64 ((m - i : Nat) : Int), .int .i64 m, .int .i64 j, .func (.func g) #[] cb] W (RowRes cl w0 blk off N (P' ++ (Y' ++ (X2 ++ (X1 ++ S')))))) := Lib.hid fun W e => by
          subst e
          obtain ⟨i1, i2, i3, i4, i5, i6⟩ := HI.out
          exact swapRange_at cl cb g blk off cap d0 dk w0 W R (by omega) S1.out (by omega) P' X1 X2 Y' S' ((m - i : Nat) : Int) m j N (HDN.out.trans i1.symm) (by rw [i5, eX]; simp) (by omega) (by omega) (by omega) (by omega)
        have HX : Hid (X' = X1 ++ X2 ∧ X1.length = j ∧ X2.length = X'.length - j) := ⟨eX, l1, l2⟩
        clear eX l1 l2
        go_wp2_with fail
        refine (HC.out _ rfl).mono ?_
        rintro e w3 ⟨rfl, d', r1, r2, r3⟩
        have R1 : Hid (d'.toList = P' ++ (Y' ++ (X2 ++ (X1 ++ S'))) ∧ d'.size = N) := ⟨r1, r2⟩
        have S3 : Aside (SWK (encC cl) 2 w0 blk off d' w3) := r3
        clear r1 r2 r3 S1 HC
        go_wp2
        go_roundg (i - j + j)
        case measure => omega
        case rel =>
          obtain ⟨i1, i2, i3, i4, i5, i6⟩ := HI.out
          obtain ⟨x1, x2, x3⟩ := HX.out
          refine ⟨i - j, j, d', P' ++ Y', X2, X1, S', by go_num, rfl, by omega, g5, by omega, h3, Nat.le_refl _, S3, ⟨R1.out.2.trans HDN.out, by omega, x2, by simp; omega, by rw [R1.out.1]; simp, ?_⟩⟩
          rw [← i6, x1]; simp
      · have hg : ¬ (j : Int) < (i : Int) := by omega
        have e1 : (m : Int) - (i : Int) = ((m - i : Nat) : Int) := by omega
        have w1 : IntKind.i64.wrap ((m - i : Nat) : Int) = ((m - i : Nat) : Int) := by rw [IntKind.wrap_i64]; omega
        have w5 : IntKind.i64.wrap ((m : Int) + (j : Int)) = (m : Int) + (j : Int) := by rw [IntKind.wrap_i64]; omega
        have e3 : (m : Int) + (j : Int) - (i : Int) = ((m + j - i : Nat) : Int) := by omega
        have w3 : IntKind.i64.wrap ((m + j - i : Nat) : Int) = ((m + j - i : Nat) : Int) := by rw [IntKind.wrap_i64]; omega
        have e2 : (j : Int) - (i : Int) = ((j - i : Nat) : Int) := by omega
        have w2 : IntKind.i64.wrap ((j - i : Nat) : Int) = ((j - i : Nat) : Int) := by rw [IntKind.wrap_i64]; omega
        obtain ⟨Y1, Y2, eX, l1, l2⟩ := split_len' (L := Y') (n := j - i) (by have := HI.out.2.2.1; omega)
        have HC : Hid (∀ W, W = wr → Calls Tryz.prog 189 #[.slice (some ⟨blk, off, none⟩) N cap, .int .i64 ((m - i : Nat) : Int), .int .i64 ((m + j - i : Nat) : Int), .int .i64 i, .func (.func g) #[] cb] W (RowRes cl w0 blk off N (P' ++ (Y2 ++ (Y1 ++ (X' ++ S')))))) := Lib.hid fun W e => by
          subst e
          obtain ⟨i1, i2, i3, i4, i5, i6⟩ := HI.out
          exact swapRange_at cl cb g blk off cap d0 dk w0 W R (by omega) S1.out (by omega) P' X' Y1 Y2 S' ((m - i : Nat) : Int) _ i N (HDN.out.trans i1.symm) (by rw [i5, eX]; simp) (by omega) (by omega) (by omega) (by omega)
        have HX : Hid (Y' = Y1 ++ Y2 ∧ Y1.length = j - i ∧ Y2.length = Y'.length - (j - i)) := ⟨eX, l1, l2⟩
        clear eX l1 l2
        go_wp2_with fail
        refine (HC.out _ rfl).mono ?_
        rintro e w4 ⟨rfl, d', r1, r2, r3⟩
        have R1 : Hid (d'.toList = P' ++ (Y2 ++ (Y1 ++ (X' ++ S'))) ∧ d'.size = N) := ⟨r1, r2⟩
        have S3 : Aside (SWK (encC cl) 2 w0 blk off d' w4) := r3
        clear r1 r2 r3 S1 HC
        go_wp2
        go_roundg (i + (j - i))
        case measure => omega
        case rel =>
          obtain ⟨i1, i2, i3, i4, i5, i6⟩ := HI.out
          obtain ⟨x1, x2, x3⟩ := HX.out
          refine ⟨i, j - i, d', P', Y2, Y1, X' ++ S', rfl, by go_num, g4, by omega, h2, by omega, Nat.le_refl _, S3, ⟨R1.out.2.trans HDN.out, by omega, by omega, i4, R1.out.1, ?_⟩⟩
          rw [← i6, x1]; simp
end Go.Proofs.YtjhkfjbgdaomeaaGreatDoor
/- The walk of slices.symMergeCmpFunc at norm's char: a part of one element. -/
namespace Go.Proofs.YtjhkfjbgdaomeaaGreatDoor
set_option linter.unusedVariables false
open Go.RowKit Go.Shelf Go.Lib Go.Sort
/-- what byClass answers. -/
def cfC (k l : Int) : Int := if k < l then -1 else if l < k then 1 else 0
theorem cfC_lt {k l : Int} : cfC k l < 0 ↔ k < l := by
  unfold cfC
  split
  · constructor <;> intros <;> omega
  · split <;> constructor <;> intros <;> omega
theorem isNaN_any (x : Int) (w : World) : Calls Tryz.prog 169 #[.int .i64 x] w fun e w' => e = .returned (.bool false) ∧ w = w' := by
  have h : (x != x) = false := by simp
  go_enter Tryz.func169, Tryz.ntmps169
  go_wp2
  go_ret
  exact ⟨rfl, rfl⟩
theorem compare_any (k l : Int) (w : World) : Calls Tryz.prog 159 #[.int .i64 k, .int .i64 l] w fun e w' => e = .returned (.int .i64 (cfC k l)) ∧ w = w' := by
  have HN := Lib.hid isNaN_any
  unfold cfC
  by_cases h1 : k < l
  · rw [if_pos h1]
    go_enter Tryz.func159, Tryz.ntmps159
    go_wp2_with (go_at_call 169; refine (HN.out _ _).mono ?_; rintro e w' ⟨rfl, rfl⟩)
    go_ret
    exact ⟨rfl, rfl⟩
  · rw [if_neg h1]
    by_cases h2 : l < k
    · rw [if_pos h2]
      go_enter Tryz.func159, Tryz.ntmps159
      go_wp2_with (go_at_call 169; refine (HN.out _ _).mono ?_; rintro e w' ⟨rfl, rfl⟩)
      go_ret
      exact ⟨rfl, rfl⟩
    · rw [if_neg h2]
      go_enter Tryz.func159, Tryz.ntmps159
      go_wp2_with (go_at_call 169; refine (HN.out _ _).mono ?_; rintro e w' ⟨rfl, rfl⟩)
      go_ret
      exact ⟨rfl, rfl⟩
set_option maxHeartbeats 1000000 in
theorem byClass_any (x k y l : Int) (W : World) : Calls Tryz.prog 151 #[.agg #[.int .i64 x, .int .i64 k], .agg #[.int .i64 y, .int .i64 l]] W fun e w' => e = .returned (.int .i64 (cfC k l)) ∧ ∃ q os', w' = grow (W.drewN q) os' := by
  have hcon := Lib.hid (fun W' => compare_any k l W')
  generalize cfC k l = r at hcon ⊢
  go_enter Tryz.func151, Tryz.ntmps151
  go_wp2_with (go_at_call 159; refine (hcon.out _).mono ?_; rintro e w' ⟨rfl, rfl⟩)
  go_ret
  exact ⟨rfl, 0, _, by rw [alloc_eq_grow, alloc_eq_grow, grow_grow]; rfl⟩
section
variable {cl : Int → Int} {w0 W : World} {blk off : Nat} {dk d0 : Array Int}
theorem sw_c0 (h : SWK (encC cl) 2 w0 blk off dk W) (R : RowC cl w0 blk off d0) (hs : dk.size = d0.size) (i : Nat) (hi : i < dk.size) (n : Nat) (os : Array Obj) : (grow (W.drewN n) os).cell? ⟨blk, off + i * 2, none⟩ = some (.int .i64 dk[i]!) :=
  (HoldsK.cell ((h.grown n os).holds R.hblk R.hH hs) (i := i) (c := 0) hi (by omega)).1
theorem sw_c1 (h : SWK (encC cl) 2 w0 blk off dk W) (R : RowC cl w0 blk off d0) (hs : dk.size = d0.size) (i : Nat) (hi : i < dk.size) (n : Nat) (os : Array Obj) : (grow (W.drewN n) os).cell? ⟨blk, off + i * 2 + 1, none⟩ = some (.int .i64 (cl dk[i]!)) :=
  (HoldsK.cell ((h.grown n os).holds R.hblk R.hH hs) (i := i) (c := 1) hi (by omega)).1
theorem sw_h0 (h : SWK (encC cl) 2 w0 blk off dk W) (R : RowC cl w0 blk off d0) (hs : dk.size = d0.size) (i : Nat) (hi : i < dk.size) : W.cell? ⟨blk, off + i * 2, none⟩ = some (.int .i64 dk[i]!) ∧ W.cell? ⟨blk, off + i * 2 + 1, none⟩ = some (.int .i64 (cl dk[i]!)) ∧ W.frozen? ⟨blk, off + i * 2, none⟩ = false ∧ W.frozen? ⟨blk, off + i * 2 + 1, none⟩ = false :=
  have H := h.holds R.hblk R.hH hs
  ⟨(HoldsK.cell H (i := i) (c := 0) hi (by omega)).1, (HoldsK.cell H (i := i) (c := 1) hi (by omega)).1, (HoldsK.cell H (i := i) (c := 0) hi (by omega)).2, (HoldsK.cell H (i := i) (c := 1) hi (by omega)).2⟩
/-- An exchange, cell by cell. -/
theorem sw_sw (h : SWK (encC cl) 2 w0 blk off dk W) (R : RowC cl w0 blk off d0) (i j : Nat) (hi : i < dk.size) (hj : j < dk.size) (oa ob : Nat) (ha : off + i * 2 = oa) (hb : off + j * 2 = ob) :
    SWK (encC cl) 2 w0 blk off (swp dk i j) (((((W.setCell ⟨blk, oa, none⟩ (.int .i64 dk[j]!)).setCell ⟨blk, oa + 1, none⟩ (.int .i64 (cl dk[j]!))).setCell ⟨blk, ob, none⟩ (.int .i64 dk[i]!)).setCell ⟨blk, ob + 1, none⟩ (.int .i64 (cl dk[i]!))).drew) := by
  subst ha hb
  exact h.swapped R i j hi hj
end
/-- what a merge answers: the part holds a stable order of L. -/
def MrgRes (cl : Int → Int) (w0 : World) (blk off n : Nat) (P L S : List Int) (e : Ending) (w' : World) : Prop :=
  ∃ M, Stb cl M L ∧ RowRes cl w0 blk off n (P ++ (M ++ S)) e w'
theorem get_part {d : Array Int} {P A S : List Int} (h : d.toList = P ++ (A ++ S)) (t : Nat) (ht : t < A.length) : d[P.length + t]! = A[t]! := by
  rw [get_toList d _ h, getElem!_pos _ (P.length + t) (by simp; omega), getElem!_pos A t ht, List.getElem_append_right (by omega)]
  simp only [Nat.add_sub_cancel_left]
  rw [List.getElem_append_left ht]
set_option maxHeartbeats 4000000 in
set_option maxRecDepth 200000 in
theorem mergeL_any (cl : Int → Int) (blk off cap : Nat) (d0 d : Array Int) (w0 w : World) (R : RowC cl w0 blk off d0) (hs : d0.size = d.size) (S0 : SWK (encC cl) 2 w0 blk off d w) (hsz : d.size < 1000000)
    (P B S : List Int) (x : Int) (a m b : Nat) (N : Nat) (hN : N = d.size) (hd : d.toList = P ++ (x :: (B ++ S))) (hB : Asc cl B) (ha : a = P.length) (hm : m = a + 1) (hb : b = m + B.length) :
    Calls Tryz.prog 168 #[.slice (some ⟨blk, off, none⟩) N cap, .int .i64 a, .int .i64 m, .int .i64 b, .func (.func 151) #[] #[]] w (MrgRes cl w0 blk off N P ([x] ++ B) S) := by
  have mixed : Tryz.prog.follows .mixedOrders = true := by kernel_rfl
  have hlen : d.size = P.length + (1 + (B.length + S.length)) := by rw [← Array.length_toList, hd]; simp; omega
  have SA : Aside (SWK (encC cl) 2 w0 blk off d w) := S0
  have gx : d[a]! = x := by have := get_part (d := d) (P := P) (A := [x]) (S := B ++ S) (by simpa using hd) 0 (by simp); simpa [ha] using this
  have gB : ∀ t, t < B.length → d[m + t]! = B[t]! := fun t ht => by
    have := get_part (d := d) (P := P ++ [x]) (A := B) (S := S) (by simpa using hd) t ht
    simpa [hm, ha, Nat.add_assoc, Nat.add_comm 1] using this
  have HD : Hid (N = d.size ∧ d.toList = P ++ (x :: (B ++ S)) ∧ Asc cl B ∧ d[a]! = x ∧ (∀ t, t < B.length → d[m + t]! = B[t]!) ∧ a = P.length ∧ b = m + B.length ∧ m = a + 1) := ⟨hN, hd, hB, gx, gB, ha, hb, hm⟩
  have hbN : b ≤ N := by omega
  have hN1 : N < 1000000 := by omega
  have hma : m = a + 1 := hm
  have hmb : m ≤ b := by omega
  clear S0 hd hB gx gB hb hlen ha hN
  have ma : (m : Int) - (a : Int) = 1 := by omega
  have HS : Hid (d0.size = d.size) := hs
  have HM : Hid (m = a + 1) := hm
  clear hs hm hma
  go_enter Tryz.func168, Tryz.ntmps168
  go_wp2
  go_loopg [10, 11, 12] (b - m) (fun k vi vj vh wr => ∃ (i j : Nat), vi = .int .i64 i ∧ vj = .int .i64 j ∧ m ≤ i ∧ i ≤ j ∧ j ≤ b ∧ j - i ≤ k ∧ Aside (SWK (encC cl) 2 w0 blk off d wr) ∧
    Hid ((∀ t, m + t < i → t < B.length → cl B[t]! < cl x) ∧ (∀ t, j ≤ m + t → t < B.length → cl x ≤ cl B[t]!)))
  case atStart => exact ⟨m, b, rfl, rfl, Nat.le_refl _, hmb, Nat.le_refl _, Nat.le_refl _, SA, (show Hid _ from ⟨fun t h => by omega, fun t h h' => by have := HD.out.2.2.2.2.2.2.1; omega⟩)⟩
  case round =>
    clear SA
    obtain ⟨i, j, rfl, rfl, h1, h2, h3, hk, S1, HI⟩ := hrel
    by_cases hij : i < j
    · have hijz : (i : Int) < (j : Int) := by omega
      obtain ⟨h, hh⟩ : ∃ h, h = (i + j) / 2 := ⟨_, rfl⟩
      have eh : ((i : Int) + (j : Int)) / 2 = (h : Int) := by omega
      have wij : IntKind.i64.wrap ((i : Int) + (j : Int)) = (i : Int) + (j : Int) := by rw [IntKind.wrap_i64]; omega
      have wh : IntKind.i64.wrap (h : Int) = (h : Int) := by rw [IntKind.wrap_i64]; omega
      have bh : (h : Int) < (N : Int) := by omega
      have ba : (a : Int) < (N : Int) := by have := HM.out; omega
      have hha : m ≤ h := by omega
      have hhb : h < j := by omega
      have hhi : i ≤ h := by omega
      have HH : Hid (h = (i + j) / 2) := hh
      clear hh
      have c1 := sw_c0 S1.out R HS.out.symm h (by have := HD.out.1; omega)
      have c2 := sw_c1 S1.out R HS.out.symm h (by have := HD.out.1; omega)
      have c3 := sw_c0 S1.out R HS.out.symm a (by have := HD.out.1; have := HM.out; omega)
      have c4 := sw_c1 S1.out R HS.out.symm a (by have := HD.out.1; have := HM.out; omega)
      obtain ⟨t, ht⟩ : ∃ t, h = m + t := ⟨h - m, by omega⟩
      have htB : t < B.length := by have := HD.out.2.2.2.2.2.2.1; omega
      rw [show d[h]! = B[t]! by rw [ht]; exact HD.out.2.2.2.2.1 t htB] at c1 c2
      rw [show d[a]! = x from HD.out.2.2.2.1] at c3 c4
      have HT : Hid (h = m + t ∧ t < B.length) := ⟨ht, htB⟩
      clear ht htB
      obtain ⟨y, hy⟩ : ∃ y, B[t]! = y := ⟨_, rfl⟩
      obtain ⟨ky, hky⟩ : ∃ k, cl y = k := ⟨_, rfl⟩
      obtain ⟨kx, hkx⟩ : ∃ k, cl x = k := ⟨_, rfl⟩
      rw [hy] at c1 c2
      rw [hky] at c2
      rw [hkx] at c4
      have HY : Hid (B[t]! = y ∧ cl y = ky ∧ cl x = kx) := ⟨hy, hky, hkx⟩
      clear hy hky hkx
      obtain ⟨r, hr⟩ : ∃ r, cfC ky kx = r := ⟨_, rfl⟩
      have hcg : ∀ n' os', Calls Tryz.prog 151 #[.agg #[.int .i64 y, .int .i64 ky], .agg #[.int .i64 x, .int .i64 kx]] (grow (wr.drewN n') os') fun e w' => e = .returned (.int .i64 r) ∧ ∃ q os'', w' = grow ((grow (wr.drewN n') os').drewN q) os'' := fun n' os' => hr ▸ byClass_any y ky x kx _
      by_cases hlt : ky < kx
      · have hr0 : r < 0 := by rw [← hr]; exact cfC_lt.2 hlt
        have hrd : decide (r < 0) = true := decide_eq_true hr0
        clear hr
        go_wp2_with fail
        go_quiet_grown (first | (go_at_call 151; refine Calls.grown_of (hcg _ _)))
        have S2 : Aside (SWK (encC cl) 2 w0 blk off d (grow (wr.drewN nq) osq)) := S1.out.grown nq osq
        clear c1 c2 c3 c4 hcg S1
        generalize grow (wr.drewN nq) osq = w2 at S2 ⊢
        go_wp2
        go_roundg (j - (h + 1))
        case measure => omega
        case rel =>
          refine ⟨h + 1, j, by go_num, rfl, by omega, by omega, h3, Nat.le_refl _, S2, (show Hid _ from ⟨fun u hu hu' => ?_, HI.out.2⟩)⟩
          obtain ⟨e1, e2⟩ := HT.out
          obtain ⟨e3, e4, e5⟩ := HY.out
          have := asc_get HD.out.2.2.1 (t := u) (u := t) (by omega) e2
          rw [e3, e4] at this; omega
      · have hr0 : ¬ r < 0 := by rw [← hr]; exact fun h => hlt (cfC_lt.1 h)
        have hrd : decide (r < 0) = false := decide_eq_false hr0
        clear hr
        go_wp2_with fail
        go_quiet_grown (first | (go_at_call 151; refine Calls.grown_of (hcg _ _)))
        have S2 : Aside (SWK (encC cl) 2 w0 blk off d (grow (wr.drewN nq) osq)) := S1.out.grown nq osq
        clear c1 c2 c3 c4 hcg S1
        generalize grow (wr.drewN nq) osq = w2 at S2 ⊢
        go_wp2
        go_roundg (h - i)
        case measure => omega
        case rel =>
          refine ⟨i, h, rfl, by go_num, h1, hhi, by omega, Nat.le_refl _, S2, (show Hid _ from ⟨HI.out.1, fun u hu hu' => ?_⟩)⟩
          obtain ⟨e1, e2⟩ := HT.out
          obtain ⟨e3, e4, e5⟩ := HY.out
          have := asc_get HD.out.2.2.1 (t := t) (u := u) (by omega) hu'
          rw [e3, e4] at this; omega
    · obtain rfl : i = j := by omega
      obtain ⟨r, hr⟩ : ∃ r, i = m + r := ⟨i - m, by omega⟩
      have hrB : r ≤ B.length := by have := HD.out.2.2.2.2.2.2.1; omega
      have HR : Hid (i = m + r) := hr
      have HF : Hid (Stb cl (B.take r ++ x :: B.drop r) ([x] ++ B)) := left_stb HD.out.2.2.1 (fun t ht => HI.out.1 t (by omega)) (fun t ht => HI.out.2 t (by omega))
      have ei : (i : Int) - 1 = ((a + r : Nat) : Int) := by have := HM.out; omega
      have wi : IntKind.i64.wrap ((a + r : Nat) : Int) = ((a + r : Nat) : Int) := by rw [IntKind.wrap_i64]; have := HM.out; omega
      have hir : a + r < b := by have := HM.out; omega
      clear hr HI
      go_wp2
      go_loopg [13] r (fun k vk wr2 => ∃ (t : Nat) (dk : Array Int), vk = .int .i64 ((a + t : Nat) : Int) ∧ t ≤ r ∧ r - t ≤ k ∧ Aside (SWK (encC cl) 2 w0 blk off dk wr2) ∧
        Hid (dk.size = d.size ∧ dk.toList = P ++ (B.take t ++ (x :: (B.drop t ++ S)))))
      case atStart => exact ⟨0, d, by simp, by omega, by omega, S1, (show Hid _ from ⟨rfl, by simpa using HD.out.2.1⟩)⟩
      case round =>
        clear S1
        obtain ⟨t, dk, rfl, ht, hk2, S2, HL⟩ := hrel
        by_cases htr : t < r
        · have hz : ((a + t : Nat) : Int) < ((a + r : Nat) : Int) := by omega
          obtain ⟨q, hq⟩ : ∃ q, a + t = q := ⟨_, rfl⟩
          obtain ⟨q', hq'⟩ : ∃ q, a + r = q := ⟨_, rfl⟩
          rw [hq, hq'] at hz
          rw [hq'] at ei wi hir
          rw [hq]
          have e1 : ((q : Int) + 1).toNat = q + 1 := by omega
          have p1 : (0 : Int) ≤ (q : Int) + 1 := by omega
          have b1 : (q : Int) + 1 < (N : Int) := by omega
          have b2 : (q : Int) < (N : Int) := by omega
          have r1 : IntKind.i64.wrap ((q : Int) + 1) = (q : Int) + 1 := by rw [IntKind.wrap_i64]; omega
          have hN' := HD.out.1
          have hds := HL.out.1
          obtain ⟨oa, hoa⟩ : ∃ o, off + q * 2 = o := ⟨_, rfl⟩
          obtain ⟨ob, hob⟩ : ∃ o, off + (q + 1) * 2 = o := ⟨_, rfl⟩
          have S3 : Hid (SWK (encC cl) 2 w0 blk off (swp dk q (q + 1)) _) := sw_sw S2.out R q (q + 1) (by omega) (by omega) oa ob hoa hob
          obtain ⟨c1, c2, f1, f2⟩ := sw_h0 S2.out R (hds.trans HS.out.symm) q (by omega)
          obtain ⟨c3, c4, f3, f4⟩ := sw_h0 S2.out R (hds.trans HS.out.symm) (q + 1) (by omega)
          have q1 : ¬ oa = ob := by omega
          have q2 : ¬ oa + 1 = ob := by omega
          have q3 : ¬ oa = ob + 1 := by omega
          have q4 : ¬ ob = oa := by omega
          have q5 : ¬ ob + 1 = oa := by omega
          have q6 : ¬ ob = oa + 1 := by omega
          rw [hoa] at c1 c2 f1 f2
          rw [hob] at c3 c4 f3 f4
          generalize cl dk[q]! = k1 at *
          generalize cl dk[q + 1]! = k2 at *
          generalize dk[q]! = x1 at *
          generalize dk[q + 1]! = x2 at *
          have HQ : Hid (a + t = q ∧ a + r = q') := ⟨hq, hq'⟩
          clear S2 hN' hds hq hq'
          go_wp2_with fail
          go_big_region
          clear c1 c2 c3 c4 f1 f2 f3 f4
          generalize (World.setCell _ _ _).drew = w2 at S3 ⊢
          go_wp2
          go_roundg (r - (t + 1))
          case measure => omega
          case rel => exact ⟨t + 1, swp dk q (q + 1), by have := HQ.out.1; go_num, by omega, Nat.le_refl _, S3, (show Hid _ from ⟨by rw [size_swp]; exact HL.out.1, by rw [← HQ.out.1]; exact upStep HD.out.2.2.2.2.2.1 (by omega) HL.out.2⟩)⟩
        · have hz : ¬ ((a + t : Nat) : Int) < ((a + r : Nat) : Int) := by omega
          obtain rfl : t = r := by omega
          go_wp2
          (try simp only [Exit.inBlock, Exit.then]); refine bodyPost_ret (results_none rfl _ _ _) rfl ?_
          exact ⟨_, HF.out, rfl, dk, by rw [HL.out.2]; simp, HL.out.1.trans HD.out.1.symm, S2.out⟩
end Go.Proofs.YtjhkfjbgdaomeaaGreatDoor
/- The walk of slices.symMergeCmpFunc at norm's char: a second part of one element. -/
namespace Go.Proofs.YtjhkfjbgdaomeaaGreatDoor
set_option linter.unusedVariables false
open Go.RowKit Go.Shelf Go.Lib Go.Sort
set_option maxHeartbeats 4000000 in
set_option maxRecDepth 200000 in
theorem mergeR_any (cl : Int → Int) (blk off cap : Nat) (d0 d : Array Int) (w0 w : World) (R : RowC cl w0 blk off d0) (hs : d0.size = d.size) (S0 : SWK (encC cl) 2 w0 blk off d w) (hsz : d.size < 1000000)
    (P A S : List Int) (y : Int) (a m b : Nat) (N : Nat) (hN : N = d.size) (hd : d.toList = P ++ (A ++ (y :: S))) (hA : Asc cl A) (hA2 : 2 ≤ A.length) (ha : a = P.length) (hm : m = a + A.length) (hb : b = m + 1) :
    Calls Tryz.prog 168 #[.slice (some ⟨blk, off, none⟩) N cap, .int .i64 a, .int .i64 m, .int .i64 b, .func (.func 151) #[] #[]] w (MrgRes cl w0 blk off N P (A ++ [y]) S) := by
  have mixed : Tryz.prog.follows .mixedOrders = true := by kernel_rfl
  have hlen : d.size = P.length + (A.length + (1 + S.length)) := by rw [← Array.length_toList, hd]; simp; omega
  have SA : Aside (SWK (encC cl) 2 w0 blk off d w) := S0
  have gx : d[m]! = y := by have := get_part (d := d) (P := P ++ A) (A := [y]) (S := S) (by simpa using hd) 0 (by simp); simpa [ha, hm] using this
  have gA : ∀ t, t < A.length → d[a + t]! = A[t]! := fun t ht => by
    have := get_part (d := d) (P := P) (A := A) (S := y :: S) hd t ht
    simpa [ha] using this
  have HD : Hid (N = d.size ∧ d.toList = P ++ (A ++ (y :: S)) ∧ Asc cl A ∧ d[m]! = y ∧ (∀ t, t < A.length → d[a + t]! = A[t]!) ∧ a = P.length ∧ b = m + 1 ∧ m = a + A.length) := ⟨hN, hd, hA, gx, gA, ha, hb, hm⟩
  have hbN : m < N := by omega
  have hN1 : N < 1000000 := by omega
  have ma2 : a + 2 ≤ m := by omega
  have bm : (b : Int) - (m : Int) = 1 := by omega
  obtain ⟨n1, hn1⟩ : ∃ n : Nat, m - a = n := ⟨_, rfl⟩
  have ma : (m : Int) - (a : Int) = (n1 : Int) := by omega
  have wn1 : IntKind.i64.wrap (n1 : Int) = (n1 : Int) := by rw [IntKind.wrap_i64]; omega
  have nn1 : ¬ ((n1 : Int) = 1) := by omega
  have nn2 : ((n1 : Int) == 1) = false := by rw [beq_eq_false_iff_ne]; exact nn1
  have nn3 : ¬ (n1 = 1) := by omega
  clear S0 hd hA gx gA hb hlen ha hN hn1 hA2
  have HS : Hid (d0.size = d.size) := hs
  have HM : Hid (m = a + A.length) := hm
  clear hs hm
  go_enter Tryz.func168, Tryz.ntmps168
  go_wp2
  go_loopg [14, 15, 16] (m - a) (fun k vi vj vh wr => ∃ (i j : Nat), vi = .int .i64 i ∧ vj = .int .i64 j ∧ a ≤ i ∧ i ≤ j ∧ j ≤ m ∧ j - i ≤ k ∧ Aside (SWK (encC cl) 2 w0 blk off d wr) ∧
    Hid ((∀ t, a + t < i → t < A.length → cl A[t]! ≤ cl y) ∧ (∀ t, j ≤ a + t → t < A.length → cl y < cl A[t]!)))
  case atStart => exact ⟨a, m, rfl, rfl, Nat.le_refl _, by omega, Nat.le_refl _, Nat.le_refl _, SA, (show Hid _ from ⟨fun t h => by omega, fun t h h' => by have := HM.out; omega⟩)⟩
  case round =>
    clear SA
    obtain ⟨i, j, rfl, rfl, h1, h2, h3, hk, S1, HI⟩ := hrel
    by_cases hij : i < j
    · have hijz : (i : Int) < (j : Int) := by omega
      obtain ⟨h, hh⟩ : ∃ h, h = (i + j) / 2 := ⟨_, rfl⟩
      have eh : ((i : Int) + (j : Int)) / 2 = (h : Int) := by omega
      have wij : IntKind.i64.wrap ((i : Int) + (j : Int)) = (i : Int) + (j : Int) := by rw [IntKind.wrap_i64]; omega
      have wh : IntKind.i64.wrap (h : Int) = (h : Int) := by rw [IntKind.wrap_i64]; omega
      have bh : (h : Int) < (N : Int) := by omega
      have ba : (m : Int) < (N : Int) := by omega
      have hhb : h < j := by omega
      have hhi : i ≤ h := by omega
      have hha : a ≤ h := by omega
      have HH : Hid (h = (i + j) / 2) := hh
      clear hh
      have c1 := sw_c0 S1.out R HS.out.symm h (by have := HD.out.1; omega)
      have c2 := sw_c1 S1.out R HS.out.symm h (by have := HD.out.1; omega)
      have c3 := sw_c0 S1.out R HS.out.symm m (by have := HD.out.1; omega)
      have c4 := sw_c1 S1.out R HS.out.symm m (by have := HD.out.1; omega)
      obtain ⟨t, ht⟩ : ∃ t, h = a + t := ⟨h - a, by omega⟩
      have htB : t < A.length := by have := HM.out; omega
      rw [show d[h]! = A[t]! by rw [ht]; exact HD.out.2.2.2.2.1 t htB] at c1 c2
      rw [show d[m]! = y from HD.out.2.2.2.1] at c3 c4
      have HT : Hid (h = a + t ∧ t < A.length) := ⟨ht, htB⟩
      clear ht htB
      obtain ⟨x, hy⟩ : ∃ y, A[t]! = y := ⟨_, rfl⟩
      obtain ⟨kx, hkx⟩ : ∃ k, cl x = k := ⟨_, rfl⟩
      obtain ⟨ky, hky⟩ : ∃ k, cl y = k := ⟨_, rfl⟩
      rw [hy] at c1 c2
      rw [hky] at c4
      rw [hkx] at c2
      have HY : Hid (A[t]! = x ∧ cl y = ky ∧ cl x = kx) := ⟨hy, hky, hkx⟩
      clear hy hky hkx
      obtain ⟨r, hr⟩ : ∃ r, cfC ky kx = r := ⟨_, rfl⟩
      have hcg : ∀ n' os', Calls Tryz.prog 151 #[.agg #[.int .i64 y, .int .i64 ky], .agg #[.int .i64 x, .int .i64 kx]] (grow (wr.drewN n') os') fun e w' => e = .returned (.int .i64 r) ∧ ∃ q os'', w' = grow ((grow (wr.drewN n') os').drewN q) os'' := fun n' os' => hr ▸ byClass_any y ky x kx _
      by_cases hlt : ky < kx
      · have hr0 : r < 0 := by rw [← hr]; exact cfC_lt.2 hlt
        have hrd : decide (r < 0) = true := decide_eq_true hr0
        clear hr
        go_wp2_with fail
        go_quiet_grown (first | (go_at_call 151; refine Calls.grown_of (hcg _ _)))
        have S2 : Aside (SWK (encC cl) 2 w0 blk off d (grow (wr.drewN nq) osq)) := S1.out.grown nq osq
        clear c1 c2 c3 c4 hcg S1
        generalize grow (wr.drewN nq) osq = w2 at S2 ⊢
        go_wp2
        go_roundg (h - i)
        case measure => omega
        case rel =>
          refine ⟨i, h, rfl, by go_num, h1, hhi, by omega, Nat.le_refl _, S2, (show Hid _ from ⟨HI.out.1, fun u hu hu' => ?_⟩)⟩
          obtain ⟨e1, e2⟩ := HT.out
          obtain ⟨e3, e4, e5⟩ := HY.out
          have := asc_get HD.out.2.2.1 (t := t) (u := u) (by omega) hu'
          rw [e3, e5] at this; omega
      · have hr0 : ¬ r < 0 := by rw [← hr]; exact fun h => hlt (cfC_lt.1 h)
        have hrd : decide (r < 0) = false := decide_eq_false hr0
        clear hr
        go_wp2_with fail
        go_quiet_grown (first | (go_at_call 151; refine Calls.grown_of (hcg _ _)))
        have S2 : Aside (SWK (encC cl) 2 w0 blk off d (grow (wr.drewN nq) osq)) := S1.out.grown nq osq
        clear c1 c2 c3 c4 hcg S1
        generalize grow (wr.drewN nq) osq = w2 at S2 ⊢
        go_wp2
        go_roundg (j - (h + 1))
        case measure => omega
        case rel =>
          refine ⟨h + 1, j, by go_num, rfl, by omega, by omega, h3, Nat.le_refl _, S2, (show Hid _ from ⟨fun u hu hu' => ?_, HI.out.2⟩)⟩
          obtain ⟨e1, e2⟩ := HT.out
          obtain ⟨e3, e4, e5⟩ := HY.out
          have := asc_get HD.out.2.2.1 (t := u) (u := t) (by omega) e2
          rw [e3, e5] at this; omega
    · obtain rfl : i = j := by omega
      obtain ⟨r, hr⟩ : ∃ r, i = a + r := ⟨i - a, by omega⟩
      have hrB : r ≤ A.length := by have := HM.out; omega
      have HR : Hid (i = a + r) := hr
      have HF : Hid (Stb cl (A.take r ++ y :: A.drop r) (A ++ [y])) := right_stb HD.out.2.2.1 (fun t ht => HI.out.1 t (by omega)) (fun t ht => HI.out.2 t (by omega))
      have hAl : m = a + A.length := HM.out
      have HAl : Hid (m = a + A.length) := HM
      clear hr HI hAl
      go_wp2
      go_loopg [17] (A.length - r) (fun k vk wr2 => ∃ (t : Nat) (dk : Array Int), vk = .int .i64 ((a + t : Nat) : Int) ∧ r ≤ t ∧ t ≤ A.length ∧ t - r ≤ k ∧ Aside (SWK (encC cl) 2 w0 blk off dk wr2) ∧
        Hid (dk.size = d.size ∧ dk.toList = P ++ (A.take t ++ (y :: (A.drop t ++ S)))))
      case atStart => exact ⟨A.length, d, by rw [← HM.out], hrB, Nat.le_refl _, Nat.le_refl _, S1, (show Hid _ from ⟨rfl, by simpa using HD.out.2.1⟩)⟩
      case round =>
        clear S1
        obtain ⟨t, dk, rfl, ht, htl, hk2, S2, HL⟩ := hrel
        by_cases htr : r < t
        · obtain ⟨u, rfl⟩ : ∃ u, t = u + 1 := ⟨t - 1, by omega⟩
          have hz : (i : Int) < ((a + (u + 1) : Nat) : Int) := by have := HR.out; omega
          obtain ⟨q, hq⟩ : ∃ q, a + u = q := ⟨_, rfl⟩
          have hmN : q + 1 ≤ m := by have := HM.out; omega
          have HQ : Hid (a + u = q) := hq
          rw [show a + (u + 1) = q + 1 by omega] at hz
          rw [show a + (u + 1) = q + 1 by omega]
          have e1 : ((q : Int) + 1).toNat = q + 1 := by omega
          have p1 : (0 : Int) ≤ (q : Int) + 1 := by omega
          have b1 : (q : Int) + 1 < (N : Int) := by omega
          have b2 : (q : Int) < (N : Int) := by omega
          have r1 : IntKind.i64.wrap ((q : Int)) = (q : Int) := by rw [IntKind.wrap_i64]; omega
          have hN' := HD.out.1
          have hds := HL.out.1
          obtain ⟨oa, hoa⟩ : ∃ o, off + (q + 1) * 2 = o := ⟨_, rfl⟩
          obtain ⟨ob, hob⟩ : ∃ o, off + q * 2 = o := ⟨_, rfl⟩
          have S3 : Hid (SWK (encC cl) 2 w0 blk off (swp dk (q + 1) q) _) := sw_sw S2.out R (q + 1) q (by omega) (by omega) oa ob hoa hob
          obtain ⟨c1, c2, f1, f2⟩ := sw_h0 S2.out R (hds.trans HS.out.symm) (q + 1) (by omega)
          obtain ⟨c3, c4, f3, f4⟩ := sw_h0 S2.out R (hds.trans HS.out.symm) q (by omega)
          have q1 : ¬ oa = ob := by omega
          have q2 : ¬ oa + 1 = ob := by omega
          have q3 : ¬ oa = ob + 1 := by omega
          have q4 : ¬ ob = oa := by omega
          have q5 : ¬ ob + 1 = oa := by omega
          have q6 : ¬ ob = oa + 1 := by omega
          rw [hoa] at c1 c2 f1 f2
          rw [hob] at c3 c4 f3 f4
          generalize cl dk[q]! = k1 at *
          generalize cl dk[q + 1]! = k2 at *
          generalize dk[q]! = x1 at *
          generalize dk[q + 1]! = x2 at *
          clear S2 hN' hds hq
          go_wp2_with fail
          go_big_region
          clear c1 c2 c3 c4 f1 f2 f3 f4
          generalize (World.setCell _ _ _).drew = w2 at S3 ⊢
          go_wp2
          go_roundg (u - r)
          case measure => omega
          case rel => exact ⟨u, swp dk (q + 1) q, by rw [HQ.out], by omega, by omega, Nat.le_refl _, S3, (show Hid _ from ⟨by rw [size_swp]; exact HL.out.1, by rw [← HQ.out]; exact downStep HD.out.2.2.2.2.2.1 (by omega) HL.out.2⟩)⟩
        · have hz : ¬ (i : Int) < ((a + t : Nat) : Int) := by have := HR.out; omega
          obtain rfl : t = r := by omega
          go_wp2
          (try simp only [Exit.inBlock, Exit.then]); refine bodyPost_ret (results_none rfl _ _ _) rfl ?_
          exact ⟨_, HF.out, rfl, dk, by rw [HL.out.2]; simp, HL.out.1.trans HD.out.1.symm, S2.out⟩
end Go.Proofs.YtjhkfjbgdaomeaaGreatDoor
