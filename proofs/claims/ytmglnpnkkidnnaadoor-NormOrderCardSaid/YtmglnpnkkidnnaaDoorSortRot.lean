/- The walk of slices.rotateCmpFunc at norm's char. -/
import Derived.Test.YtmglnpnkkidnnaaDoorSortSwap
namespace Go.Proofs.YtmglnpnkkidnnaaDoor
set_option linter.unusedVariables false
open Go.RowKit Go.Shelf Go.Lib Go.Sort
/-- what a call on the row answers: nothing; the row holds L. -/
def RowRes (cl : Int → Int) (w0 : World) (blk off n : Nat) (L : List Int) (e : Ending) (w' : World) : Prop :=
  e = .returned (.tuple #[]) ∧ ∃ d', d'.toList = L ∧ d'.size = n ∧ SWK (encC cl) 2 w0 blk off d' w'
theorem split_len' {L : List Int} {n : Nat} (h : n ≤ L.length) : ∃ A B, L = A ++ B ∧ A.length = n ∧ B.length = L.length - n := ⟨L.take n, L.drop n, by simp, by simp; omega, by simp⟩
theorem swapRange_at (cl : Int → Int) (cb : Array Value) (g : Nat) (blk off cap : Nat) (d0 d : Array Int) (w0 w : World) (R : RowC cl w0 blk off d0) (hs : d0.size = d.size) (S0 : SWK (encC cl) 2 w0 blk off d w) (hsz : d.size < 1000000)
    (P A M B S : List Int) (a b n : Int) (N : Nat) (hN : N = d.size) (hd : d.toList = P ++ (A ++ (M ++ (B ++ S)))) (hA : (A.length : Int) = n) (hB : (B.length : Int) = n) (ha : a = P.length) (hb : b = P.length + n + M.length) :
    Calls Tryd.prog 90 #[.slice (some ⟨blk, off, none⟩) N cap, .int .i64 a, .int .i64 b, .int .i64 n, .func (.func g) #[] cb] w (RowRes cl w0 blk off N (P ++ (B ++ (M ++ (A ++ S))))) := by
  subst hN ha hb hA
  have := swapRange_any cl cb g blk off cap d0 d w0 w R hs S0 hsz P A M B S P.length (P.length + A.length + M.length) A.length hd rfl (by omega) rfl rfl
  exact this
set_option maxHeartbeats 2000000 in
set_option maxRecDepth 100000 in
theorem rotate_any (cl : Int → Int) (cb : Array Value) (g : Nat) (blk off cap : Nat) (d0 d : Array Int) (w0 w : World) (R : RowC cl w0 blk off d0) (hs : d0.size = d.size) (S0 : SWK (encC cl) 2 w0 blk off d w) (hsz : d.size < 1000000)
    (P X Y S : List Int) (a m b : Nat) (N : Nat) (hN : N = d.size) (hd : d.toList = P ++ (X ++ (Y ++ S))) (hX : 0 < X.length) (hY : 0 < Y.length) (ha : a = P.length) (hm : m = P.length + X.length) (hb : b = P.length + X.length + Y.length) :
    Calls Tryd.prog 78 #[.slice (some ⟨blk, off, none⟩) N cap, .int .i64 a, .int .i64 m, .int .i64 b, .func (.func g) #[] cb] w (RowRes cl w0 blk off N (P ++ (Y ++ (X ++ S)))) := by
  have hlen : d.size = P.length + (X.length + (Y.length + S.length)) := by rw [← Array.length_toList, hd]; simp
  obtain ⟨T, hT⟩ : ∃ T, P ++ (Y ++ (X ++ S)) = T := ⟨_, rfl⟩
  obtain ⟨i0, hi0⟩ : ∃ i, X.length = i := ⟨_, rfl⟩
  obtain ⟨j0, hj0⟩ : ∃ i, Y.length = i := ⟨_, rfl⟩
  have SA : Aside (SWK (encC cl) 2 w0 blk off d w) := S0
  have HH : Hid (X.length = i0 ∧ Y.length = j0 ∧ m = P.length + i0 ∧ d.toList = P ++ (X ++ (Y ++ S)) ∧ P ++ (Y ++ (X ++ S)) = T) := ⟨hi0, hj0, by omega, hd, hT⟩
  rw [hT]
  have g1 : a + i0 = m := by omega
  have g2 : m + j0 = b := by omega
  have g3 : b ≤ d.size := by omega
  have g4 : 0 < i0 := by omega
  have g5 : 0 < j0 := by omega
  have HDN : Hid (N = d.size) := hN
  clear S0 hd hX hY ha hm hb hlen hT hi0 hj0 hN
  have mi : (m : Int) - (a : Int) = (i0 : Int) := by omega
  have bj : (b : Int) - (m : Int) = (j0 : Int) := by omega
  have w1 : IntKind.i64.wrap (i0 : Int) = (i0 : Int) := by rw [IntKind.wrap_i64]; omega
  have w2 : IntKind.i64.wrap (j0 : Int) = (j0 : Int) := by rw [IntKind.wrap_i64]; omega
  have HG : Hid (a + i0 = m ∧ m + j0 = b ∧ b ≤ d.size) := ⟨g1, g2, g3⟩
  have h1 : b ≤ d.size := g3
  have h2 : i0 ≤ m := by omega
  have h3 : m + j0 ≤ d.size := by omega
  clear g1 g2 g3
  go_enter Tryd.func78, Tryd.ntmps78
  go_wp2
  go_loopg [10, 11] (i0 + j0) (fun k vi vj wr => ∃ (i j : Nat) (dk : Array Int) (P' X' Y' S' : List Int), vi = .int .i64 i ∧ vj = .int .i64 j ∧ 0 < i ∧ 0 < j ∧ i ≤ m ∧ m + j ≤ d.size ∧ i + j ≤ k ∧ Aside (SWK (encC cl) 2 w0 blk off dk wr) ∧
    Hid (dk.size = d.size ∧ X'.length = i ∧ Y'.length = j ∧ m = P'.length + i ∧ dk.toList = P' ++ (X' ++ (Y' ++ S')) ∧ P' ++ (Y' ++ (X' ++ S')) = T))
  case atStart => exact ⟨i0, j0, d, P, X, Y, S, rfl, rfl, g4, g5, h2, h3, Nat.le_refl _, SA, ⟨rfl, HH.out⟩⟩
  case round =>
    clear SA mi bj w1 w2 g4 g5 h1 h2 h3
    obtain ⟨i, j, dk, P', X', Y', S', rfl, rfl, g4, g5, h2, h3, hk, S1, HI⟩ := hrel
    by_cases hij : i = j
    · subst hij
      have e1 : (m : Int) - (i : Int) = ((m - i : Nat) : Int) := by omega
      have w1 : IntKind.i64.wrap ((m - i : Nat) : Int) = ((m - i : Nat) : Int) := by rw [IntKind.wrap_i64]; omega
      have HC : Hid (∀ W, W = wr → Calls Tryd.prog 90 #[.slice (some ⟨blk, off, none⟩) N cap, .int .i64 ((m - i : Nat) : Int), .int .i64 m, .int .i64 i, .func (.func g) #[] cb] W (RowRes cl w0 blk off N T)) := Lib.hid fun W e => by
        subst e
        obtain ⟨i1, i2, i3, i4, i5, i6⟩ := HI.out
        have := swapRange_at cl cb g blk off cap d0 dk w0 W R (by omega) S1.out (by omega) P' X' [] Y' S' ((m - i : Nat) : Int) m i N (HDN.out.trans i1.symm) (by simpa using i5) (by omega) (by omega) (by omega) (by simp; omega)
        rw [← i6]; simpa using this
      go_wp2_with fail
      refine (HC.out _ rfl).mono ?_
      rintro e w3 ⟨rfl, d', r1, r2, r3⟩
      go_wp2_with fail
      go_end0
      exact ⟨rfl, d', r1, r2, r3⟩
    · have hne : ¬ ((i : Int) = (j : Int)) := by omega
      have hne2 : ((i : Int) == (j : Int)) = false := by rw [beq_eq_false_iff_ne]; exact fun h => hij (by omega)
      by_cases hgt : j < i
      · have hg : (j : Int) < (i : Int) := by omega
        have e1 : (m : Int) - (i : Int) = ((m - i : Nat) : Int) := by omega
        have w1 : IntKind.i64.wrap ((m - i : Nat) : Int) = ((m - i : Nat) : Int) := by rw [IntKind.wrap_i64]; omega
        have e2 : (i : Int) - (j : Int) = ((i - j : Nat) : Int) := by omega
        have w2 : IntKind.i64.wrap ((i - j : Nat) : Int) = ((i - j : Nat) : Int) := by rw [IntKind.wrap_i64]; omega
        obtain ⟨X1, X2, eX, l1, l2⟩ := split_len' (L := X') (n := j) (by have := HI.out.2.1; omega)
        have HC : Hid (∀ W, W = wr → Calls Tryd.prog 90 #[.slice (some ⟨blk, off, none⟩) N cap, .int .i64 ((m - i : Nat) : Int), .int .i64 m, .int .i64 j, .func (.func g) #[] cb] W (RowRes cl w0 blk off N (P' ++ (Y' ++ (X2 ++ (X1 ++ S')))))) := Lib.hid fun W e => by
          subst e
          obtain ⟨i1, i2, i3, i4, i5, i6⟩ := HI.out
          exact swapRange_at cl cb g blk off cap d0 dk w0 W R (by omega) S1.out (by omega) P' X1 X2 Y' S' ((m - i : Nat) : Int) m j N (HDN.out.trans i1.symm) (by rw [i5, eX]; simp) (by omega) (by omega) (by omega) (by omega)
        have HX : Hid (X' = X1 ++ X2 ∧ X1.length = j ∧ X2.length = X'.length - j) := ⟨eX, l1, l2⟩
        clear eX l1 l2
        go_wp2_with fail
        refine (HC.out _ rfl).mono ?_
        rintro e w3 ⟨rfl, d', r1, r2, r3⟩
        have R1 : Hid (d'.toList = P' ++ (Y' ++ (X2 ++ (X1 ++ S'))) ∧ d'.size = N) := ⟨r1, r2⟩
        have S3 : Aside (SWK (encC cl) 2 w0 blk off d' w3) := r3
        clear r1 r2 r3 S1 HC
        go_wp2
        go_roundg (i - j + j)
        case measure => omega
        case rel =>
          obtain ⟨i1, i2, i3, i4, i5, i6⟩ := HI.out
          obtain ⟨x1, x2, x3⟩ := HX.out
          refine ⟨i - j, j, d', P' ++ Y', X2, X1, S', by go_num, rfl, by omega, g5, by omega, h3, Nat.le_refl _, S3, ⟨R1.out.2.trans HDN.out, by omega, x2, by simp; omega, by rw [R1.out.1]; simp, ?_⟩⟩
          rw [← i6, x1]; simp
      · have hg : ¬ (j : Int) < (i : Int) := by omega
        have e1 : (m : Int) - (i : Int) = ((m - i : Nat) : Int) := by omega
        have w1 : IntKind.i64.wrap ((m - i : Nat) : Int) = ((m - i : Nat) : Int) := by rw [IntKind.wrap_i64]; omega
        have w5 : IntKind.i64.wrap ((m : Int) + (j : Int)) = (m : Int) + (j : Int) := by rw [IntKind.wrap_i64]; omega
        have e3 : (m : Int) + (j : Int) - (i : Int) = ((m + j - i : Nat) : Int) := by omega
        have w3 : IntKind.i64.wrap ((m + j - i : Nat) : Int) = ((m + j - i : Nat) : Int) := by rw [IntKind.wrap_i64]; omega
        have e2 : (j : Int) - (i : Int) = ((j - i : Nat) : Int) := by omega
        have w2 : IntKind.i64.wrap ((j - i : Nat) : Int) = ((j - i : Nat) : Int) := by rw [IntKind.wrap_i64]; omega
        obtain ⟨Y1, Y2, eX, l1, l2⟩ := split_len' (L := Y') (n := j - i) (by have := HI.out.2.2.1; omega)
        have HC : Hid (∀ W, W = wr → Calls Tryd.prog 90 #[.slice (some ⟨blk, off, none⟩) N cap, .int .i64 ((m - i : Nat) : Int), .int .i64 ((m + j - i : Nat) : Int), .int .i64 i, .func (.func g) #[] cb] W (RowRes cl w0 blk off N (P' ++ (Y2 ++ (Y1 ++ (X' ++ S')))))) := Lib.hid fun W e => by
          subst e
          obtain ⟨i1, i2, i3, i4, i5, i6⟩ := HI.out
          exact swapRange_at cl cb g blk off cap d0 dk w0 W R (by omega) S1.out (by omega) P' X' Y1 Y2 S' ((m - i : Nat) : Int) _ i N (HDN.out.trans i1.symm) (by rw [i5, eX]; simp) (by omega) (by omega) (by omega) (by omega)
        have HX : Hid (Y' = Y1 ++ Y2 ∧ Y1.length = j - i ∧ Y2.length = Y'.length - (j - i)) := ⟨eX, l1, l2⟩
        clear eX l1 l2
        go_wp2_with fail
        refine (HC.out _ rfl).mono ?_
        rintro e w4 ⟨rfl, d', r1, r2, r3⟩
        have R1 : Hid (d'.toList = P' ++ (Y2 ++ (Y1 ++ (X' ++ S'))) ∧ d'.size = N) := ⟨r1, r2⟩
        have S3 : Aside (SWK (encC cl) 2 w0 blk off d' w4) := r3
        clear r1 r2 r3 S1 HC
        go_wp2
        go_roundg (i + (j - i))
        case measure => omega
        case rel =>
          obtain ⟨i1, i2, i3, i4, i5, i6⟩ := HI.out
          obtain ⟨x1, x2, x3⟩ := HX.out
          refine ⟨i, j - i, d', P', Y2, Y1, X' ++ S', rfl, by go_num, g4, by omega, h2, by omega, Nat.le_refl _, S3, ⟨R1.out.2.trans HDN.out, by omega, by omega, i4, R1.out.1, ?_⟩⟩
          rw [← i6, x1]; simp
end Go.Proofs.YtmglnpnkkidnnaaDoor
