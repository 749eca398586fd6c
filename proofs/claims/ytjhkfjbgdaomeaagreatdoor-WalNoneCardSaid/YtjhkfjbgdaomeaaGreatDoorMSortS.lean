/- The walks of slices.stableCmpFunc and SortStableFunc at norm's char: the row holds the stable order. -/
import Derived.Test.YtjhkfjbgdaomeaaGreatDoorSortMrg3
import Derived.Test.YtjhkfjbgdaomeaaGreatDoorMSort
import Derived.Test.YtjhkfjbgdaomeaaGreatDoorMBase
import Derived.Test.YtjhkfjbgdaomeaaGreatDoorMOrd
import Derived.Test.YtjhkfjbgdaomeaaGreatDoorMNormA
import Derived.Below
namespace Go.Proofs.YtjhkfjbgdaomeaaGreatDoor
set_option linter.unusedVariables false
open Go.RowKit Go.Shelf Go.Lib Go.Sort
theorem merge_any (cl : Int → Int) (blk off cap : Nat) (d0 : Array Int) (w0 : World) (R : RowC cl w0 blk off d0) (hsz : d0.size < 1000000) : ∀ n, MrgAt cl blk off cap d0 w0 n := by
  intro n
  induction n with
  | zero => intro d w P A B S a m b N h; omega
  | succ n ih =>
    intro d w P A B S a m b N hlt hN hs hS hd hA hB hA0 hB0 ha hm hb
    by_cases h1 : A.length = 1
    · obtain ⟨x, rfl⟩ := List.length_eq_one_iff.1 h1
      exact mergeL_any cl blk off cap d0 d w0 w R hs hS (by omega) P B S x a m b N hN (by simpa using hd) hB ha (by simpa using hm) hb
    · by_cases h2 : B.length = 1
      · obtain ⟨y, rfl⟩ := List.length_eq_one_iff.1 h2
        exact mergeR_any cl blk off cap d0 d w0 w R hs hS (by omega) P A S y a m b N hN (by simpa using hd) hA (by omega) ha hm (by simpa using hb)
      · exact mergeH_any cl blk off cap d0 d w0 w R hs hS (by omega) P A B S a m b N (fun d w P' A' B' S' a m b N h => ih d w P' A' B' S' a m b N (by omega)) hN hd hA hB (by omega) (by omega) ha hm hb
/-- slices.insertionSortCmpFunc at norm's char is the library's: number by number. -/
def insRen : Go.Shelf.Ren := ⟨fun | 20 => 167 | n => n, fun | 0 => 0 | 3 => 3 | 4 => 4 | 22 => 178 | 24 => 180 | 25 => 192 | n => n, fun | n => n⟩
theorem insLay : SlLaysF0.n20 Tryz.prog insRen := {
  mixed := by kernel_rfl
  f20 := ⟨ "slices.insertionSortCmpFunc[incipit/norm.char]", by kernel_rfl, Tryz.func167.trans (congrArg some (by kernel_rfl))⟩
  t0 := Tryz.underlying0
  a0 := Tryz.isAgg0
  z0 := Tryz.sizeOf0
  v0 := Tryz.zeroValue0
  t3 := Tryz.underlying3
  a3 := Tryz.isAgg3
  z3 := Tryz.sizeOf3
  v3 := Tryz.zeroValue3
  t4 := Tryz.underlying4
  a4 := Tryz.isAgg4
  z4 := Tryz.sizeOf4
  v4 := Tryz.zeroValue4
  t22 := Tryz.underlying178
  a22 := Tryz.isAgg178
  z22 := Tryz.sizeOf178
  v22 := Tryz.zeroValue178
  t25 := Tryz.underlying192
  a25 := Tryz.isAgg192
  z25 := Tryz.sizeOf192
  v25 := Tryz.zeroValue192 }
def cfP (cl : Int → Int) (x y : Int) : Int := cfC (cl x) (cl y)
theorem ltOf_cl (cl : Int → Int) (x y : Int) : ltOf (cfP cl) x y = decide (cl x < cl y) := by
  unfold ltOf cfP
  exact decide_eq_decide.2 cfC_lt
theorem insertion_at (cl : Int → Int) (blk off cap : Nat) (d0 d : Array Int) (w0 w : World) (R : RowC cl w0 blk off d0) (hs : d0.size = d.size) (S0 : SWK (encC cl) 2 w0 blk off d w) (hsz : d.size < 1000000)
    (P A S : List Int) (a b : Nat) (N : Nat) (hN : N = d.size) (hd : d.toList = P ++ (A ++ S)) (ha : a = P.length) (hb : b = P.length + A.length) :
    Calls Tryz.prog 167 #[.slice (some ⟨blk, off, none⟩) N cap, .int .i64 a, .int .i64 b, .func (.func 151) #[] #[]] w (MrgRes cl w0 blk off N P A S) := by
  have hlen : d.size = P.length + (A.length + S.length) := by rw [← Array.length_toList, hd]; simp
  subst hN
  obtain ⟨M, h1, h2, h3⟩ := insertion_stb (lt := ltOf (cfP cl)) (ltOf_cl cl) d P A S a b hd ha hb
  have hcon := AnyQ.insertionSortCmpFunc insLay 2 Tryz.isAgg180 Tryz.sizeOf180 (encC cl) R.hk R.h1 (cfP cl) 151 #[] blk off cap a b d w
    (enters_of Tryz.func151 (by kernel_rfl) rfl) (fun m os dk _ x y => byClass_any x (cl x) y (cl y) _) (S0.holds R.hblk R.hH hs.symm) (S0.lt R.hblk) (by omega) (by omega) (by omega)
  refine hcon.mono ?_
  rintro e w' ⟨rfl, n, os, rfl⟩
  exact ⟨M, h2, rfl, _, h1, h3, S0.on R.hblk n _ os h3⟩
theorem flat_len' {bs : Nat} : ∀ (bl : List (List Int)), (∀ b ∈ bl, b.length = bs) → bl.flatten.length = bl.length * bs
  | [], _ => by simp
  | x :: r, h => by
    rw [List.flatten_cons, List.length_append, flat_len' r fun b hb => h b (by simp [hb]), h x (by simp), List.length_cons, Nat.add_mul]; omega
/-- Blocks of n, each in order. -/
def Blks (cl : Int → Int) (n : Nat) (bl : List (List Int)) : Prop := ∀ b ∈ bl, b.length = n ∧ Asc cl b
theorem Blks.snoc {cl : Int → Int} {n : Nat} {bl : List (List Int)} {M : List Int} (h : Blks cl n bl) (h1 : M.length = n) (h2 : Asc cl M) : Blks cl n (bl ++ [M]) := fun b hb => by
  rcases List.mem_append.1 hb with hb | hb
  · exact h b hb
  · rw [List.mem_singleton.1 hb]; exact ⟨h1, h2⟩
theorem Blks.len {cl : Int → Int} {n : Nat} {bl : List (List Int)} (h : Blks cl n bl) : bl.flatten.length = bl.length * n := flat_len' bl fun b hb => (h b hb).1
/-- The row between two passes. -/
def Pass (cl : Int → Int) (n bs : Nat) (L0 : List Int) (d : Array Int) : Prop :=
  ∃ bl last, d.toList = bl.flatten ++ last ∧ Blks cl bs bl ∧ last.length < bs ∧ Asc cl last ∧ FEq cl d.toList L0 ∧ d.size = n
theorem Pass.over {cl : Int → Int} {n bs : Nat} {L0 : List Int} {d : Array Int} (h : Pass cl n bs L0 d) (hn : n ≤ bs) : Stb cl d.toList L0 := by
  obtain ⟨bl, last, h1, h2, h3, h4, h5, h6⟩ := h
  have hl : d.toList.length = n := by simpa using h6
  have hfl := h2.len
  rw [h1, List.length_append, hfl] at hl
  refine ⟨?_, h5⟩
  rw [h1]
  match bl, hl, h2 with
  | [], _, _ => simpa using h4
  | [A], hl, h2 =>
    have : last = [] := List.eq_nil_of_length_eq_zero (by simp at hl; omega)
    rw [this]; simpa using (h2 A (by simp)).2
  | A :: B :: r, hl, _ =>
    simp only [List.length_cons, Nat.add_mul] at hl
    omega
/-- The row within a pass. -/
def Within (cl : Int → Int) (n bs a : Nat) (L0 : List Int) (d : Array Int) : Prop :=
  ∃ done todo last, d.toList = done.flatten ++ (todo.flatten ++ last) ∧ Blks cl (2 * bs) done ∧ Blks cl bs todo ∧ last.length < bs ∧ Asc cl last ∧ FEq cl d.toList L0 ∧ d.size = n ∧ a = done.flatten.length
set_option maxHeartbeats 4000000 in
set_option maxRecDepth 100000 in
theorem stable_any (cl : Int → Int) (blk off cap : Nat) (d0 d : Array Int) (w0 w : World) (R : RowC cl w0 blk off d0) (hs : d0.size = d.size) (S0 : SWK (encC cl) 2 w0 blk off d w) (hsz : d.size < 1000000) (N : Nat) (hN : N = d.size) :
    Calls Tryz.prog 158 #[.slice (some ⟨blk, off, none⟩) N cap, .int .i64 N, .func (.func 151) #[] #[]] w fun e w' => e = .returned (.tuple #[]) ∧ ∃ d', Stb cl d'.toList d.toList ∧ d'.size = N ∧ SWK (encC cl) 2 w0 blk off d' w' := by
  have SA : Aside (SWK (encC cl) 2 w0 blk off d w) := S0
  have HN : Hid (N = d.size ∧ d0.size = d.size) := ⟨hN, hs⟩
  have hN1 : N < 1000000 := by omega
  obtain ⟨L0, hL0⟩ : ∃ L, d.toList = L := ⟨_, rfl⟩
  rw [hL0]
  have HL0 : Hid (d.toList = L0) := hL0
  have HM := Lib.hid (merge_any cl blk off cap d0 w0 R (by omega))
  have HI : Hid (∀ (d : Array Int) (w : World), d.size = N → SWK (encC cl) 2 w0 blk off d w → ∀ (P A S : List Int) (a b : Nat), d.toList = P ++ (A ++ S) → a = P.length → b = P.length + A.length →
      Calls Tryz.prog 167 #[.slice (some ⟨blk, off, none⟩) N cap, .int .i64 a, .int .i64 b, .func (.func 151) #[] #[]] w (MrgRes cl w0 blk off N P A S)) :=
    Lib.hid fun d' w hd hS P A S a b h1 h2 h3 => insertion_at cl blk off cap d0 d' w0 w R (by omega) hS (by omega) P A S a b N hd.symm h1 h2 h3
  clear S0 hs hN hL0 hsz
  go_enter Tryz.func158, Tryz.ntmps158
  go_wp2
  go_loopg [7, 8] N (fun k va vb wr => ∃ (a : Nat) (dk : Array Int), va = .int .i64 a ∧ vb = .int .i64 ((a + 20 : Nat) : Int) ∧ a ≤ N ∧ N - a ≤ k ∧ Aside (SWK (encC cl) 2 w0 blk off dk wr) ∧
    Hid (∃ bl rest, dk.toList = bl.flatten ++ rest ∧ Blks cl 20 bl ∧ a = bl.flatten.length ∧ FEq cl dk.toList L0 ∧ dk.size = N))
  case atStart => exact ⟨0, d, rfl, rfl, by omega, by omega, SA, (show Hid _ from ⟨[], d.toList, by simp, fun b hb => by simp at hb, by simp, by rw [HL0.out]; exact FEq.refl _, HN.out.1.symm⟩)⟩
  case round =>
    clear SA
    obtain ⟨a, dk, rfl, rfl, haN, hk, S1, HL⟩ := hrel
    obtain ⟨b, hb⟩ : ∃ b, a + 20 = b := ⟨_, rfl⟩
    rw [hb]
    have HB : Hid (a + 20 = b) := hb
    by_cases hbN : b ≤ N
    · have hz : (b : Int) ≤ (N : Int) := by omega
      have wb : IntKind.i64.wrap ((b : Int) + 20) = (b : Int) + 20 := by rw [IntKind.wrap_i64]; omega
      clear hb
      obtain ⟨bl, rest, h1, h2, h3, h4, h5⟩ := HL.out
      have hl : dk.toList.length = N := by simpa using h5
      rw [h1, List.length_append] at hl
      obtain ⟨A, S, rfl, hA, hS⟩ := split_len' (L := rest) (n := 20) (by have := HB.out; omega)
      have HC := Lib.hid (HI.out dk wr h5 S1.out bl.flatten A S a b h1 h3 (by have := HB.out; omega))
      have HX : Hid (dk.toList = bl.flatten ++ (A ++ S) ∧ Blks cl 20 bl ∧ a = bl.flatten.length ∧ FEq cl dk.toList L0 ∧ A.length = 20) := ⟨h1, h2, h3, h4, hA⟩
      clear h1 h2 h3 h4 h5 hl hA hS HL
      go_wp2_with fail
      refine HC.out.mono ?_
      rintro e w3 ⟨M, m1, rfl, d', m2, m3, m4⟩
      have MX : Hid (Stb cl M A ∧ d'.toList = bl.flatten ++ (M ++ S) ∧ d'.size = N) := ⟨m1, m2, m3⟩
      have S2 : Aside (SWK (encC cl) 2 w0 blk off d' w3) := m4
      clear m1 m2 m3 m4 S1 HC
      go_wp2
      go_roundg (N - b)
      case measure => have := HB.out; omega
      case rel =>
        obtain ⟨x1, x2, x3, x4, x5⟩ := HX.out
        obtain ⟨y1, y2, y3⟩ := MX.out
        have hM : M.length = 20 := by rw [y1.2.length, x5]
        refine ⟨b, d', rfl, by go_num, by omega, Nat.le_refl _, S2, (show Hid _ from ⟨bl ++ [M], S, by rw [y2]; simp, x2.snoc hM y1.1, by have := HB.out; rw [List.flatten_append, List.length_append]; simp only [List.flatten_cons, List.flatten_nil, List.append_nil]; omega, ?_, y3⟩)⟩
        refine FEq.trans ?_ x4
        rw [y2, x1]
        exact (FEq.refl _).app (y1.2.app (FEq.refl _))
    · have hz : ¬ (b : Int) ≤ (N : Int) := by omega
      clear hb
      obtain ⟨bl, rest, h1, h2, h3, h4, h5⟩ := HL.out
      have hl : dk.toList.length = N := by simpa using h5
      rw [h1, List.length_append] at hl
      have HC := Lib.hid (HI.out dk wr h5 S1.out bl.flatten rest [] a N (by rw [h1]; simp) h3 (by omega))
      have HX : Hid (dk.toList = bl.flatten ++ rest ∧ Blks cl 20 bl ∧ a = bl.flatten.length ∧ FEq cl dk.toList L0 ∧ rest.length < 20) := ⟨h1, h2, h3, h4, by have := HB.out; omega⟩
      clear h1 h2 h3 h4 h5 hl HL
      go_wp2_with fail
      refine HC.out.mono ?_
      rintro e w3 ⟨M, m1, rfl, d1, m2, m3, m4⟩
      have HP : Hid (Pass cl N 20 L0 d1) := by
        obtain ⟨x1, x2, x3, x4, x5⟩ := HX.out
        refine ⟨bl, M, by rw [m2]; simp, x2, by rw [m1.2.length]; exact x5, m1.1, FEq.trans ?_ x4, m3⟩
        rw [m2, x1, List.append_nil]
        exact (FEq.refl _).app m1.2
      have S2 : Aside (SWK (encC cl) 2 w0 blk off d1 w3) := m4
      clear m1 m2 m3 m4 S1 HC HX HB hz hbN haN hk
      go_wp2
      go_loopg [6, 7, 8, 9] N (fun k vs va vb vm wr => ∃ (bs : Nat) (dk : Array Int), vs = .int .i64 bs ∧ 0 < bs ∧ N - bs ≤ k ∧ Aside (SWK (encC cl) 2 w0 blk off dk wr) ∧ Hid (Pass cl N bs L0 dk))
      case atStart => exact ⟨20, d1, rfl, by omega, by omega, S2, HP⟩
      case round =>
        clear S2 HP
        obtain ⟨bs, dk, rfl, hbs, hk, S1, HP⟩ := hrel
        by_cases hlt : bs < N
        · have hz : (bs : Int) < (N : Int) := by omega
          obtain ⟨b2, hb2⟩ : ∃ b, 2 * bs = b := ⟨_, rfl⟩
          have e2 : 2 * (bs : Int) = (b2 : Int) := by omega
          have e3 : (bs : Int) * 2 = (b2 : Int) := by omega
          have w2 : IntKind.i64.wrap (b2 : Int) = (b2 : Int) := by rw [IntKind.wrap_i64]; omega
          have HB2 : Hid (2 * bs = b2) := hb2
          clear hb2
          go_wp2
          go_loopg [7, 8] N (fun k va vb wr => ∃ (a b : Nat) (dk : Array Int), va = .int .i64 a ∧ vb = .int .i64 b ∧ a + b2 = b ∧ a ≤ N ∧ N - a ≤ k ∧ Aside (SWK (encC cl) 2 w0 blk off dk wr) ∧ Hid (Within cl N bs a L0 dk))
          case atStart => exact ⟨0, b2, dk, rfl, rfl, by omega, by omega, by omega, S1, (show Hid _ from by
            obtain ⟨bl, last, p1, p2, p3, p4, p5, p6⟩ := HP.out
            exact ⟨[], bl, last, by simpa using p1, fun b hb => by simp at hb, p2, p3, p4, p5, p6, by simp⟩)⟩
          case round =>
            clear S1 HP
            obtain ⟨a, b, dk, rfl, rfl, hab, haN, hk2, S1, HW⟩ := hrel
            obtain ⟨m, hm⟩ : ∃ m, a + bs = m := ⟨_, rfl⟩
            have em : (a : Int) + (bs : Int) = (m : Int) := by omega
            have wm : IntKind.i64.wrap (m : Int) = (m : Int) := by rw [IntKind.wrap_i64]; omega
            have HMM : Hid (a + bs = m ∧ a + b2 = b) := ⟨hm, hab⟩
            by_cases hbN : b ≤ N
            · have hz2 : (b : Int) ≤ (N : Int) := by omega
              obtain ⟨b', hb'⟩ : ∃ m, b + b2 = m := ⟨_, rfl⟩
              have eb : (b : Int) + (b2 : Int) = (b' : Int) := by omega
              have wb : IntKind.i64.wrap (b' : Int) = (b' : Int) := by rw [IntKind.wrap_i64]; have := HB2.out; omega
              have HBB : Hid (b + b2 = b') := hb'
              clear hb' hm hab
              obtain ⟨done, todo, last, p1, p2, p3, p4, p5, p6, p7, p8⟩ := HW.out
              have hl : dk.toList.length = N := by simpa using p7
              rw [p1, List.length_append, List.length_append, p3.len] at hl
              obtain ⟨A, B, todo', rfl⟩ : ∃ A B t, todo = A :: B :: t := by
                have := HMM.out; have := HB2.out
                match todo, hl with
                | [], hl => exfalso; simp only [List.length_nil, Nat.zero_add, Nat.zero_mul] at hl; omega
                | [A], hl => exfalso; simp only [List.length_nil, List.length_cons, Nat.zero_add, Nat.one_mul] at hl; omega
                | A :: B :: t, _ => exact ⟨A, B, t, rfl⟩
              have qA := p3 A (by simp)
              have qB := p3 B (by simp)
              have HC := Lib.hid (HM.out (A.length + B.length + 1) dk wr done.flatten A B (todo'.flatten ++ last) a m b N (by omega) p7.symm (by have := HN.out; omega) S1.out (by rw [p1]; simp) qA.2 qB.2 (by omega) (by omega) p8 (by have := HMM.out; omega) (by have := HMM.out; have := HB2.out; omega))
              have HX : Hid (dk.toList = done.flatten ++ ((A :: B :: todo').flatten ++ last) ∧ Blks cl (2 * bs) done ∧ Blks cl bs (A :: B :: todo') ∧ last.length < bs ∧ Asc cl last ∧ FEq cl dk.toList L0 ∧ a = done.flatten.length ∧ A.length = bs ∧ B.length = bs) := ⟨p1, p2, p3, p4, p5, p6, p8, qA.1, qB.1⟩
              clear p1 p2 p3 p4 p5 p6 p7 p8 hl HW qA qB
              go_wp2_with fail
              refine HC.out.mono ?_
              rintro e w3 ⟨M, m1, rfl, d', m2, m3, m4⟩
              have MX : Hid (Stb cl M (A ++ B) ∧ d'.toList = done.flatten ++ (M ++ (todo'.flatten ++ last)) ∧ d'.size = N) := ⟨m1, m2, m3⟩
              have S2 : Aside (SWK (encC cl) 2 w0 blk off d' w3) := m4
              clear m1 m2 m3 m4 S1 HC
              go_wp2
              go_roundg (N - b)
              case measure => have := HMM.out; have := HB2.out; omega
              case rel =>
                obtain ⟨x1, x2, x3, x4, x5, x6, x7, x8, x9⟩ := HX.out
                obtain ⟨y1, y2, y3⟩ := MX.out
                have hM : M.length = 2 * bs := by rw [y1.2.length, List.length_append, x8, x9]; omega
                refine ⟨b, b', d', rfl, rfl, HBB.out, by omega, Nat.le_refl _, S2, (show Hid _ from ⟨done ++ [M], todo', last, by rw [y2]; simp, x2.snoc hM y1.1, fun c hc => x3 c (by simp [hc]), x4, x5, ?_, y3, ?_⟩)⟩
                · refine FEq.trans ?_ x6
                  rw [y2, x1]
                  refine (FEq.refl _).app ?_
                  have : (A :: B :: todo').flatten ++ last = (A ++ B) ++ (todo'.flatten ++ last) := by simp
                  rw [this]
                  exact y1.2.app (FEq.refl _)
                · have := HMM.out; have := HB2.out; rw [List.flatten_append, List.length_append]; simp only [List.flatten_cons, List.flatten_nil, List.append_nil]; omega
            · have hz2 : ¬ (b : Int) ≤ (N : Int) := by omega
              clear hm hab
              obtain ⟨done, todo, last, p1, p2, p3, p4, p5, p6, p7, p8⟩ := HW.out
              have hl : dk.toList.length = N := by simpa using p7
              rw [p1, List.length_append, List.length_append, p3.len] at hl
              by_cases hmN : m < N
              · have hz3 : (m : Int) < (N : Int) := by omega
                obtain ⟨A, rfl⟩ : ∃ A, todo = [A] := by
                  have := HMM.out; have := HB2.out
                  match todo, hl with
                  | [], hl => exfalso; simp only [List.length_nil, Nat.zero_add, Nat.zero_mul] at hl; omega
                  | [A], hl => exact ⟨A, rfl⟩
                  | A :: B :: t, hl => exfalso; simp only [List.length_cons, Nat.add_mul] at hl; omega
                have qA := p3 A (by simp)
                simp only [List.length_nil, List.length_cons, Nat.zero_add, Nat.one_mul] at hl
                have HC := Lib.hid (HM.out (A.length + last.length + 1) dk wr done.flatten A last [] a m N N (by omega) p7.symm (by have := HN.out; omega) S1.out (by rw [p1]; simp) qA.2 p5 (by omega) (by have := HMM.out; omega) p8 (by have := HMM.out; omega) (by have := HMM.out; omega))
                have HX : Hid (dk.toList = done.flatten ++ (A ++ last) ∧ Blks cl (2 * bs) done ∧ last.length < bs ∧ FEq cl dk.toList L0 ∧ A.length = bs) := ⟨by rw [p1]; simp, p2, p4, p6, qA.1⟩
                clear p1 p2 p3 p4 p5 p6 p7 p8 hl HW qA
                go_wp2_with fail
                refine HC.out.mono ?_
                rintro e w3 ⟨M, m1, rfl, d', m2, m3, m4⟩
                have MX : Hid (Stb cl M (A ++ last) ∧ d'.toList = done.flatten ++ (M ++ []) ∧ d'.size = N) := ⟨m1, m2, m3⟩
                have S2 : Aside (SWK (encC cl) 2 w0 blk off d' w3) := m4
                clear m1 m2 m3 m4 S1 HC
                go_wp2
                go_roundg (N - b2)
                case measure => have := HB2.out; omega
                case rel =>
                  obtain ⟨x1, x2, x3, x4, x5⟩ := HX.out
                  obtain ⟨y1, y2, y3⟩ := MX.out
                  refine ⟨b2, d', rfl, by have := HB2.out; omega, Nat.le_refl _, S2, (show Hid _ from ⟨done, M, by rw [y2]; simp, by rw [← HB2.out]; exact x2, by rw [y1.2.length, List.length_append, ← HB2.out]; omega, y1.1, FEq.trans ?_ x4, y3⟩)⟩
                  rw [y2, x1, List.append_nil]
                  exact (FEq.refl _).app y1.2
              · have hz3 : ¬ (m : Int) < (N : Int) := by omega
                have HQ : Hid (Pass cl N b2 L0 dk) := by
                  have := HMM.out; have hbb := HB2.out
                  match todo, hl, p1, p3 with
                  | [], hl, p1, _ => exact ⟨done, last, by simpa using p1, hbb ▸ p2, by omega, p5, p6, p7⟩
                  | [A], hl, p1, p3 =>
                    have qA := p3 A (by simp)
                    have hz : last = [] := List.eq_nil_of_length_eq_zero (by simp only [List.length_nil, List.length_cons, Nat.zero_add, Nat.one_mul] at hl; omega)
                    subst hz
                    exact ⟨done, A, by simpa using p1, hbb ▸ p2, by omega, qA.2, p6, p7⟩
                  | A :: B :: t, hl, _, _ => exfalso; simp only [List.length_cons, Nat.add_mul] at hl; omega
                clear p1 p2 p3 p4 p5 p6 p7 p8 hl HW
                go_wp2
                go_roundg (N - b2)
                case measure => have := HB2.out; omega
                case rel => exact ⟨b2, dk, rfl, by have := HB2.out; omega, Nat.le_refl _, S1, HQ⟩
        · have hz : ¬ (bs : Int) < (N : Int) := by omega
          go_wp2
          go_end0
          obtain ⟨_, _, _, _, _, _, _, hs⟩ := HP.out
          exact ⟨rfl, dk, HP.out.over (by omega), hs, S1.out⟩
theorem sortStable_any (cl : Int → Int) (blk off cap : Nat) (d : Array Int) (w : World) (hH : HoldsK (encC cl) 2 w blk off d) (hb : blk < w.heap.size) (hsz : d.size < 1000000) :
    Calls Tryz.prog 150 #[.slice (some ⟨blk, off, none⟩) d.size cap, .func (.func 151) #[] #[]] w fun e w' => e = .returned (.tuple #[]) ∧ ∃ d', Stb cl d'.toList d.toList ∧ d'.size = d.size ∧ SWK (encC cl) 2 w blk off d' w' := by
  have HC := Lib.hid (stable_any cl blk off cap d d w w (rowC cl hH hb) rfl (SWK.start hH) hsz d.size rfl)
  generalize d.size = N at *
  clear hH hsz
  go_enter Tryz.func150, Tryz.ntmps150
  go_wp2_with fail
  refine HC.out.mono ?_
  rintro e w3 ⟨rfl, d', h1, h2, h3⟩
  go_wp2_with fail
  go_end0
  exact ⟨rfl, d', h1, h2, h3⟩
end Go.Proofs.YtjhkfjbgdaomeaaGreatDoor
/- A slice of chars of the call's own, a part of it sorted. -/
namespace Go.Proofs.YtjhkfjbgdaomeaaGreatDoor
set_option linter.unusedVariables false
open Go.RowKit Go.Shelf Go.Lib
open Go.Sort (HoldsK Holds flatK putRowK putRow putCells mapBlock grow get_flatK size_flatK size_putRow heap_grow_old)
/-- A slice of chars of the call's own: it holds L, each with its class. -/
def OwnC (cl : Int → Int) (B : Nat) (w : World) (v : Value) (L : List Int) : Prop := w.ownsRow B 180 2 v L.length (L.flatMap (encC cl))
theorem cells_len (cl : Int → Int) (L : List Int) : (L.flatMap (encC cl)).length = L.length * 2 := by
  induction L with
  | nil => rfl
  | cons x L ih => simp only [List.flatMap_cons, List.length_append, ih, List.length_cons]; show 2 + _ = _; omega
theorem cells_get (cl : Int → Int) : ∀ (L : List Int) (i : Nat), i < L.length * 2 → (L.flatMap (encC cl))[i]? = some ((encC cl L[i / 2]!)[i % 2]!)
  | [], i, h => by simp at h
  | x :: L, i, h => by
    rw [List.flatMap_cons]
    match i with
    | 0 => rfl
    | 1 => rfl
    | i + 2 =>
      rw [List.getElem?_append_right (by show 2 ≤ _; omega)]
      have := cells_get cl L i (by simp at h; omega)
      rw [show i + 2 - (encC cl x).length = i from rfl, this, show (i + 2) / 2 = i / 2 + 1 by omega, show (i + 2) % 2 = i % 2 by omega]
      simp
theorem flatK_cells (cl : Int → Int) (L : List Int) (t : Nat) (h : t < L.length * 2) : (flatK (encC cl) 2 L.toArray)[t]! = (encC cl L[t / 2]!)[t % 2]! := by
  rw [get_flatK _ _ _ _ (by simpa using h)]
  rw [get_toList L.toArray L rfl]
section
variable {cl : Int → Int} {B : Nat} {w w' : World} {g n cap : Nat} {L D A R M : List Int}
theorem OwnC.block (h : OwnC cl B w (.slice (some ⟨g, 0, none⟩) n cap) L) : ∃ cur, w.heap[g]? = some (.cells cur 180 (0, 0)) ∧ n = L.length ∧ L.length ≤ cap ∧ cap ≤ maxLen ∧ cur.size = cap * 2 ∧ B ≤ g ∧ ∀ i, i < L.length * 2 → cur[i]? = some ((encC cl L[i / 2]!)[i % 2]!) := by
  obtain ⟨h1, ⟨h2, _⟩ | ⟨g', cap', cur, h2, h3, h4, h5, h6, h7, h8⟩⟩ := h
  · simp at h2
  · simp at h2
    obtain ⟨rfl, rfl, rfl⟩ := h2
    refine ⟨cur, h4, rfl, h5, h6, h7, h3, fun i hi => ?_⟩
    rw [← cells_get cl L i hi, ← h8, List.getElem?_take_of_lt hi, Array.getElem?_toList]
theorem OwnC.mk' (cur : Array Value) (hg : B ≤ g) (hb : w.heap[g]? = some (.cells cur 180 (0, 0))) (h1 : L.length ≤ cap) (h2 : cap ≤ maxLen) (h3 : cur.size = cap * 2) (hc : ∀ i, i < L.length * 2 → cur[i]? = some ((encC cl L[i / 2]!)[i % 2]!)) :
    OwnC cl B w (.slice (some ⟨g, 0, none⟩) L.length cap) L := by
  refine ⟨cells_len cl L, .inr ⟨g, cap, cur, rfl, hg, hb, h1, h2, h3, ?_⟩⟩
  apply List.ext_getElem?
  intro i
  by_cases hi : i < L.length * 2
  · rw [List.getElem?_take_of_lt hi, cells_get cl L i hi, Array.getElem?_toList, hc i hi]
  · rw [List.getElem?_eq_none (by rw [List.length_take]; omega), List.getElem?_eq_none (by rw [cells_len]; omega)]
theorem get_mid (D A R : List Int) (j : Nat) (h1 : D.length ≤ j) (h2 : j < D.length + A.length) : (D ++ (A ++ R))[j]! = A[j - D.length]! := by
  rw [getElem!_pos _ j (by simp; omega), getElem!_pos A _ (by omega), List.getElem_append_right h1, List.getElem_append_left (by omega)]
theorem get_out (D A M R : List Int) (hM : M.length = A.length) (j : Nat) (h : j < D.length ∨ D.length + A.length ≤ j) : (D ++ (M ++ R))[j]! = (D ++ (A ++ R))[j]! := by
  simp only [getElem!_def]
  congr 1
  rcases h with h | h
  · rw [List.getElem?_append_left h, List.getElem?_append_left h]
  · rw [List.getElem?_append_right (by omega), List.getElem?_append_right (by omega), List.getElem?_append_right (by omega), List.getElem?_append_right (by omega), hM]
theorem OwnC.holds (h : OwnC cl B w (.slice (some ⟨g, 0, none⟩) n cap) (D ++ (A ++ R))) : HoldsK (encC cl) 2 w g (D.length * 2) A.toArray := by
  obtain ⟨cur, hb, -, -, -, -, -, hc⟩ := h.block
  intro j hj
  rw [size_flatK] at hj
  have hj' : j < A.length * 2 := by simpa using hj
  have e := hc (D.length * 2 + j) (by simp; omega)
  rw [get_mid D A R _ (by omega) (by omega), show (D.length * 2 + j) / 2 - D.length = j / 2 by omega, show (D.length * 2 + j) % 2 = j % 2 by omega] at e
  constructor
  · simp only [World.cell?, hb, Option.isSome_none, Bool.false_eq_true, if_false]
    rw [e, flatK_cells cl A j hj']; rfl
  · simp only [World.frozen?, hb]; simp
theorem OwnC.sorted (h : OwnC cl B w (.slice (some ⟨g, 0, none⟩) n cap) (D ++ (A ++ R))) {d' : Array Int} (hS : SWK (encC cl) 2 w g (D.length * 2) d' w') (hd : d'.toList = M) (hM : M.length = A.length) :
    OwnC cl B w' (.slice (some ⟨g, 0, none⟩) n cap) (D ++ (M ++ R)) ∧ Go.RowKit.Below B w w' := by
  obtain ⟨cur, hb, hn, h1, h2, h3, hg, hc⟩ := h.block
  obtain ⟨q, os, rfl⟩ := hS
  obtain rfl : d' = M.toArray := by rw [← hd]
  have hgl : g < w.heap.size := (Array.getElem?_eq_some_iff.1 hb).1
  have hsz : (putRowK (encC cl) 2 (Go.Sort.ahead w q) g (D.length * 2) M.toArray).heap.size = w.heap.size := size_putRow _ _ _ _ _
  have hheap : (putRowK (encC cl) 2 (Go.Sort.ahead w q) g (D.length * 2) M.toArray).heap = w.heap.modify g (Go.Sort.onCells (putCells id (D.length * 2) (flatK (encC cl) 2 M.toArray))) := rfl
  have hb' : (grow (putRowK (encC cl) 2 (Go.Sort.ahead w q) g (D.length * 2) M.toArray) os).heap[g]? = some (.cells (putCells id (D.length * 2) (flatK (encC cl) 2 M.toArray) cur) 180 (0, 0)) := by
    rw [heap_grow_old _ _ (by rw [hsz]; exact hgl), hheap, Array.getElem?_modify, if_pos rfl, hb]; rfl
  have hlen : (D ++ (M ++ R)).length = (D ++ (A ++ R)).length := by simp [hM]
  constructor
  · rw [hn, ← hlen]
    refine OwnC.mk' _ hg hb' (by rw [hlen]; exact h1) h2 (by simp [putCells, h3]) fun i hi => ?_
    rw [hlen] at hi
    have hi' : i < cur.size := by rw [h3]; have := hi; omega
    have ci := hc i hi
    rw [Array.getElem?_eq_getElem hi'] at ci
    have ci' := Option.some.inj ci
    rw [Array.getElem?_eq_getElem (by simpa [putCells] using hi')]
    simp only [putCells, Array.getElem_mapIdx, size_flatK, List.size_toArray]
    congr 1
    by_cases hin : D.length * 2 ≤ i ∧ i < D.length * 2 + M.length * 2
    · rw [if_pos hin, flatK_cells cl M _ (by omega), get_mid D M R _ (by omega) (by omega), show (i - D.length * 2) / 2 = i / 2 - D.length by omega, show (i - D.length * 2) % 2 = i % 2 by omega]; rfl
    · rw [if_neg hin, ci', get_out D A M R hM (i / 2) (by omega)]
  · refine ⟨rfl, rfl, rfl, ?_, fun k hk => ?_⟩
    · show w.heap.size ≤ (grow (putRowK (encC cl) 2 (Go.Sort.ahead w q) g (D.length * 2) M.toArray) os).heap.size
      rw [Go.Sort.size_grow, hsz]; omega
    · show (grow (putRowK (encC cl) 2 (Go.Sort.ahead w q) g (D.length * 2) M.toArray) os).heap[k]? = _
      rw [heap_grow_old _ _ (by rw [hsz]; omega), hheap, Array.getElem?_modify, if_neg (by omega)]
end
end Go.Proofs.YtjhkfjbgdaomeaaGreatDoor
/- The walk of norm.order. -/
namespace Go.Proofs.YtjhkfjbgdaomeaaGreatDoor
set_option linter.unusedVariables false
open Go.RowKit
/-- Where the round stands: D is in order, R as it was. -/
def OrdAt (L : List Int) (B : Nat) (w : World) (v : Value) (st : Nat) (D R : List Int) (wr : World) : Prop :=
  OwnC classP B wr v (D ++ R) ∧ Below B w wr ∧ ((st = D.length ∧ EndsLow classP D) ∨ (R = [] ∧ st = D.length + 1)) ∧ ∃ L1, L = L1 ++ R ∧ D = orderP classP L1
theorem ordAt_next {L : List Int} {D run R' L1 M : List Int} (hL : L = L1 ++ (run ++ R')) (hD : D = orderP classP L1) (hE : EndsLow classP D) (hpos : ∀ x ∈ run, 0 < classP x) (hM : Stb classP M run) :
    D ++ M = orderP classP (L1 ++ run) ∧ M.length = run.length := by
  refine ⟨?_, hM.2.length⟩
  have e : orderP classP (L1 ++ run) = ordF classP (orderP classP L1) run := ordF_app [] L1 run
  rw [e, ← hD, ordF_run hE run hpos, orderP_stb hpos hM]
theorem ends_low (Z : List Int) (z : Int) (h : classP z ≤ 0) : EndsLow classP (Z ++ [z]) := fun Y y e => by
  have : y = z := by have := congrArg List.getLast? e; simpa using this.symm
  rw [this]; exact h
theorem ordAt_sort {L : List Int} {B : Nat} {w wr : World} {g cap N st e : Nat} {D R : List Int} (h : OrdAt L B w (.slice (some ⟨g, 0, none⟩) N cap) st D R wr) (h1 : st = D.length) (h2 : EndsLow classP D) (h3 : D.length + R.length = N)
    (he1 : st ≤ e) (he2 : e ≤ N) (hN1 : N ≤ 100000) (hP : ∀ t, t < e - st → 0 < classP R[t]!) (hZ : e = N ∨ classP R[e - st]! ≤ 0) :
    Calls Tryz.prog 150 #[.slice (some ⟨g, st * 2, none⟩) (e - st) (cap - st), .func (.func 151) #[] #[]] wr fun ex w' => ex = .returned (.tuple #[]) ∧ ∃ D2 R2, Hid (OrdAt L B w (.slice (some ⟨g, 0, none⟩) N cap) (e + 1) D2 R2 w') := by
  obtain ⟨a1, a2, a3, L1, a4, a5⟩ := h
  obtain ⟨run, hrun⟩ : ∃ r, R.take (e - st) = r := ⟨_, rfl⟩
  obtain ⟨R', hR'⟩ : ∃ r, R.drop (e - st) = r := ⟨_, rfl⟩
  have eR : R = run ++ R' := by rw [← hrun, ← hR', List.take_append_drop]
  have lr : run.length = e - st := by rw [← hrun, List.length_take]; omega
  have hpos : ∀ x ∈ run, 0 < classP x := fun x hx => by
    rw [← hrun] at hx
    obtain ⟨t, ht, _, rfl⟩ := mem_take hx
    exact hP t ht
  rw [eR] at a1
  have hgl : g < wr.heap.size := by obtain ⟨cur, hb, _⟩ := a1.block; exact (Array.getElem?_eq_some_iff.1 hb).1
  have hc := sortStable_any classP g (D.length * 2) (cap - st) run.toArray wr a1.holds hgl (by simp; omega)
  rw [← h1, show run.toArray.size = e - st by simpa using lr] at hc
  refine hc.mono ?_
  rintro ex w' ⟨rfl, d', s1, s2, s3⟩
  refine ⟨rfl, ?_⟩
  rw [h1] at s3
  have hM : d'.toList.length = run.length := by simp [s2, lr]
  obtain ⟨o1, o2⟩ := a1.sorted (M := d'.toList) s3 rfl hM
  have hn := ordAt_next (L := L) (R' := R') (by rw [a4, eR]) a5 h2 hpos (show Stb classP d'.toList run from s1)
  have hB : Below B w w' := a2.trans o2
  cases hR2 : R' with
  | nil =>
    subst hR2
    have : e = N := by have := congrArg List.length eR; simp at this; omega
    refine ⟨D ++ d'.toList, [], Lib.hid ⟨by simpa using o1, hB, .inr ⟨rfl, ?_⟩, L1 ++ run, by rw [a4, eR]; simp, hn.1⟩⟩
    rw [List.length_append, hM]; omega
  | cons z R'' =>
    subst hR2
    have hz : classP z ≤ 0 := by
      rcases hZ with hZ | hZ
      · have := congrArg List.length eR; simp at this; omega
      · have : R[e - st]! = z := by
          rw [eR, ← lr, getElem!_pos _ run.length (by simp), List.getElem_append_right (Nat.le_refl _)]
          simp
        rwa [this] at hZ
    refine ⟨D ++ d'.toList ++ [z], R'', Lib.hid ⟨by simpa using o1, hB, .inl ⟨?_, ends_low _ _ hz⟩, L1 ++ run ++ [z], by rw [a4, eR]; simp, ?_⟩⟩
    · simp [hM]; omega
    · rw [orderP_snoc, ← hn.1, ins_starter hz]
set_option maxHeartbeats 2000000 in
set_option maxRecDepth 100000 in
theorem order_some (B : Nat) (w : World) (g cap N : Nat) (L : List Int) (h : OwnC classP B w (.slice (some ⟨g, 0, none⟩) N cap) L) (hl : L.length ≤ 100000) :
    Calls Tryz.prog 139 #[.slice (some ⟨g, 0, none⟩) N cap] w fun e w' => e = .returned (.tuple #[]) ∧ OwnC classP B w' (.slice (some ⟨g, 0, none⟩) N cap) (orderP classP L) ∧ Below B w w' := by
  obtain ⟨_, _, hN, hcap, hcm, _, hg, _⟩ := h.block
  have HO := Lib.hid h
  have HN : Hid (N = L.length) := hN
  have hNc : N ≤ cap := by omega
  have hN1 : N ≤ 100000 := by omega
  have HCM : Hid (cap ≤ maxLen) := hcm
  clear h hN hcap hl hcm
  go_enter Tryz.func139, Tryz.ntmps139
  go_wp2
  go_loopg [2, 3] (N + 1) (fun k vs ve wr => ∃ (st : Nat) (D R : List Int), vs = .int .i64 st ∧ st ≤ N + 1 ∧ N + 1 - st ≤ k ∧ Hid (OrdAt L B w (.slice (some ⟨g, 0, none⟩) N cap) st D R wr))
  case atStart => exact ⟨0, [], L, rfl, by omega, by omega, (show Hid _ from ⟨HO.out, Below.refl _ _, .inl ⟨rfl, fun Y y e => by simp at e⟩, [], rfl, rfl⟩)⟩
  case round =>
    obtain ⟨st, D, R, rfl, hst, hk, HA⟩ := hrel
    by_cases hlt : st < N
    · have hz : (st : Int) < (N : Int) := by omega
      have HD : Hid (st = D.length ∧ EndsLow classP D ∧ D.length + R.length = N) := by
        obtain ⟨a1, a2, a3, L1, a4, a5⟩ := HA.out
        have hlen : (D ++ R).length = N := by obtain ⟨_, _, hh, _⟩ := a1.block; exact hh.symm
        rw [List.length_append] at hlen
        rcases a3 with ⟨b1, b2⟩ | ⟨b1, b2⟩
        · exact ⟨b1, b2, hlen⟩
        · subst b1; simp at hlen; omega
      go_wp2
      go_loopg [3] (N - st) (fun k ve wr2 => ∃ (e : Nat), ve = .int .i64 e ∧ st ≤ e ∧ e ≤ N ∧ N - e ≤ k ∧ wr = wr2 ∧ Hid (∀ t, t < e - st → 0 < classP R[t]!))
      case atStart => exact ⟨st, rfl, by omega, by omega, by omega, rfl, (show Hid _ from fun t ht => by omega)⟩
      case round =>
        obtain ⟨e, rfl, he1, he2, hk2, rfl, HP⟩ := hrel
        by_cases heN : e < N
        · have hz2 : (e : Int) < (N : Int) := by omega
          obtain ⟨k, hk3⟩ : ∃ k, classP (D ++ R)[e]! = k := ⟨_, rfl⟩
          have c1 : wr.cell? ⟨g, e * 2 + 1, none⟩ = some (.int .i64 k) := by
            obtain ⟨cur, hb, hn, _, _, hsz, _, hc⟩ := HA.out.1.block
            have := hc (e * 2 + 1) (by omega)
            rw [show (e * 2 + 1) / 2 = e by omega, show (e * 2 + 1) % 2 = 1 by omega] at this
            simp only [World.cell?, hb, Option.isSome_none, Bool.false_eq_true, if_false]
            rw [this, ← hk3]; rfl
          have HK : Hid (classP R[e - st]! = k) := by
            show _ = _
            rw [← hk3]
            have := get_mid D R [] e (by have := HD.out; omega) (by have := HD.out; omega)
            rw [List.append_nil] at this
            rw [this, HD.out.1]
          clear hk3
          by_cases hpos : 0 < k
          · have hpd : decide (0 < k) = true := decide_eq_true hpos
            go_wp2
            go_roundg (N - (e + 1))
            case measure => omega
            case rel => exact ⟨e + 1, by go_num, by omega, by omega, Nat.le_refl _, rfl, (show Hid _ from fun t ht => by
              by_cases h : t < e - st
              · exact HP.out t h
              · rw [show t = e - st by omega, HK.out]; exact hpos)⟩
          · have hpd : decide (0 < k) = false := decide_eq_false hpos
            have HZ : Hid (e = N ∨ classP R[e - st]! ≤ 0) := Lib.hid (.inr (by rw [HK.out]; omega))
            have HT : Hid (Calls Tryz.prog 150 #[.slice (some ⟨g, st * 2, none⟩) (e - st) (cap - st), .func (.func 151) #[] #[]] wr fun ex w' => ex = .returned (.tuple #[]) ∧ ∃ D2 R2, Hid (OrdAt L B w (.slice (some ⟨g, 0, none⟩) N cap) (e + 1) D2 R2 w')) := ordAt_sort HA.out HD.out.1 HD.out.2.1 HD.out.2.2 he1 he2 hN1 HP.out (show _ from HZ.out)
            clear HP HZ
            go_wp2_with fail
            refine HT.out.mono ?_
            rintro ex w3 ⟨rfl, D2, R2, HA2⟩
            go_wp2
            go_roundg (N + 1 - (e + 1))
            case measure => omega
            case rel => exact ⟨e + 1, D2, R2, by go_num, by omega, Nat.le_refl _, HA2⟩
        · have hz2 : ¬ (e : Int) < (N : Int) := by omega
          have HZ : Hid (e = N ∨ classP R[e - st]! ≤ 0) := Lib.hid (.inl (by omega))
          have HT : Hid (Calls Tryz.prog 150 #[.slice (some ⟨g, st * 2, none⟩) (e - st) (cap - st), .func (.func 151) #[] #[]] wr fun ex w' => ex = .returned (.tuple #[]) ∧ ∃ D2 R2, Hid (OrdAt L B w (.slice (some ⟨g, 0, none⟩) N cap) (e + 1) D2 R2 w')) := ordAt_sort HA.out HD.out.1 HD.out.2.1 HD.out.2.2 he1 he2 hN1 HP.out (show _ from HZ.out)
          clear HP HZ
          go_wp2_with fail
          refine HT.out.mono ?_
          rintro ex w3 ⟨rfl, D2, R2, HA2⟩
          go_wp2
          go_roundg (N + 1 - (e + 1))
          case measure => omega
          case rel => exact ⟨e + 1, D2, R2, by go_num, by omega, Nat.le_refl _, HA2⟩
    · have hz : ¬ (st : Int) < (N : Int) := by omega
      go_wp2
      go_end0
      obtain ⟨a1, a2, a3, L1, a4, a5⟩ := HA.out
      have hlen : (D ++ R).length = N := by obtain ⟨_, _, hh, _⟩ := a1.block; exact hh.symm
      rw [List.length_append] at hlen
      have hR : R = [] := by
        rcases a3 with ⟨b1, b2⟩ | ⟨b1, b2⟩
        · exact List.eq_nil_of_length_eq_zero (by omega)
        · exact b1
      subst hR
      rw [List.append_nil] at a1 a4
      refine ⟨rfl, ?_, a2⟩
      rw [a4, ← a5]; exact a1
end Go.Proofs.YtjhkfjbgdaomeaaGreatDoor
