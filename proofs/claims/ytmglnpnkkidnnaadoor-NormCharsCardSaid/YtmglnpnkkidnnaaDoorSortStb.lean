/- The walks of slices.stableCmpFunc and SortStableFunc at norm's char: the row holds the stable order. -/
import Derived.Test.YtmglnpnkkidnnaaDoorSortMrg3
namespace Go.Proofs.YtmglnpnkkidnnaaDoor
set_option linter.unusedVariables false
open Go.RowKit Go.Shelf Go.Lib Go.Sort
theorem merge_any (cl : Int → Int) (blk off cap : Nat) (d0 : Array Int) (w0 : World) (R : RowC cl w0 blk off d0) (hsz : d0.size < 1000000) : ∀ n, MrgAt cl blk off cap d0 w0 n := by
  intro n
  induction n with
  | zero => intro d w P A B S a m b N h; omega
  | succ n ih =>
    intro d w P A B S a m b N hlt hN hs hS hd hA hB hA0 hB0 ha hm hb
    by_cases h1 : A.length = 1
    · obtain ⟨x, rfl⟩ := List.length_eq_one_iff.1 h1
      exact mergeL_any cl blk off cap d0 d w0 w R hs hS (by omega) P B S x a m b N hN (by simpa using hd) hB ha (by simpa using hm) hb
    · by_cases h2 : B.length = 1
      · obtain ⟨y, rfl⟩ := List.length_eq_one_iff.1 h2
        exact mergeR_any cl blk off cap d0 d w0 w R hs hS (by omega) P A S y a m b N hN (by simpa using hd) hA (by omega) ha hm (by simpa using hb)
      · exact mergeH_any cl blk off cap d0 d w0 w R hs hS (by omega) P A B S a m b N (fun d w P' A' B' S' a m b N h => ih d w P' A' B' S' a m b N (by omega)) hN hd hA hB (by omega) (by omega) ha hm hb
/-- slices.insertionSortCmpFunc at norm's char is the library's: number by number. -/
def insRen : Go.Shelf.Ren := ⟨fun | 20 => 67 | n => n, fun | 0 => 0 | 3 => 3 | 4 => 4 | 22 => 41 | 24 => 43 | 25 => 55 | n => n, fun | n => n⟩
theorem insLay : SlLaysF0.n20 Tryd.prog insRen := {
  mixed := by kernel_rfl
  f20 := ⟨ "slices.insertionSortCmpFunc[incipit/norm.char]", by kernel_rfl, Tryd.func67.trans (congrArg some (by kernel_rfl))⟩
  t0 := Tryd.underlying0
  a0 := Tryd.isAgg0
  z0 := Tryd.sizeOf0
  v0 := Tryd.zeroValue0
  t3 := Tryd.underlying3
  a3 := Tryd.isAgg3
  z3 := Tryd.sizeOf3
  v3 := Tryd.zeroValue3
  t4 := Tryd.underlying4
  a4 := Tryd.isAgg4
  z4 := Tryd.sizeOf4
  v4 := Tryd.zeroValue4
  t22 := Tryd.underlying41
  a22 := Tryd.isAgg41
  z22 := Tryd.sizeOf41
  v22 := Tryd.zeroValue41
  t25 := Tryd.underlying55
  a25 := Tryd.isAgg55
  z25 := Tryd.sizeOf55
  v25 := Tryd.zeroValue55 }
def cfP (cl : Int → Int) (x y : Int) : Int := cfC (cl x) (cl y)
theorem ltOf_cl (cl : Int → Int) (x y : Int) : ltOf (cfP cl) x y = decide (cl x < cl y) := by
  unfold ltOf cfP
  exact decide_eq_decide.2 cfC_lt
theorem insertion_at (cl : Int → Int) (blk off cap : Nat) (d0 d : Array Int) (w0 w : World) (R : RowC cl w0 blk off d0) (hs : d0.size = d.size) (S0 : SWK (encC cl) 2 w0 blk off d w) (hsz : d.size < 1000000)
    (P A S : List Int) (a b : Nat) (N : Nat) (hN : N = d.size) (hd : d.toList = P ++ (A ++ S)) (ha : a = P.length) (hb : b = P.length + A.length) :
    Calls Tryd.prog 67 #[.slice (some ⟨blk, off, none⟩) N cap, .int .i64 a, .int .i64 b, .func (.func 43) #[] #[]] w (MrgRes cl w0 blk off N P A S) := by
  have hlen : d.size = P.length + (A.length + S.length) := by rw [← Array.length_toList, hd]; simp
  subst hN
  obtain ⟨M, h1, h2, h3⟩ := insertion_stb (lt := ltOf (cfP cl)) (ltOf_cl cl) d P A S a b hd ha hb
  have hcon := AnyQ.insertionSortCmpFunc insLay 2 Tryd.isAgg43 Tryd.sizeOf43 (encC cl) R.hk R.h1 (cfP cl) 43 #[] blk off cap a b d w
    (enters_of Tryd.func43 (by kernel_rfl) rfl) (fun m os dk _ x y => byClass_any x (cl x) y (cl y) _) (S0.holds R.hblk R.hH hs.symm) (S0.lt R.hblk) (by omega) (by omega) (by omega)
  refine hcon.mono ?_
  rintro e w' ⟨rfl, n, os, rfl⟩
  exact ⟨M, h2, rfl, _, h1, h3, S0.on R.hblk n _ os h3⟩
theorem flat_len' {bs : Nat} : ∀ (bl : List (List Int)), (∀ b ∈ bl, b.length = bs) → bl.flatten.length = bl.length * bs
  | [], _ => by simp
  | x :: r, h => by
    rw [List.flatten_cons, List.length_append, flat_len' r fun b hb => h b (by simp [hb]), h x (by simp), List.length_cons, Nat.add_mul]; omega
/-- Blocks of n, each in order. -/
def Blks (cl : Int → Int) (n : Nat) (bl : List (List Int)) : Prop := ∀ b ∈ bl, b.length = n ∧ Asc cl b
theorem Blks.snoc {cl : Int → Int} {n : Nat} {bl : List (List Int)} {M : List Int} (h : Blks cl n bl) (h1 : M.length = n) (h2 : Asc cl M) : Blks cl n (bl ++ [M]) := fun b hb => by
  rcases List.mem_append.1 hb with hb | hb
  · exact h b hb
  · rw [List.mem_singleton.1 hb]; exact ⟨h1, h2⟩
theorem Blks.len {cl : Int → Int} {n : Nat} {bl : List (List Int)} (h : Blks cl n bl) : bl.flatten.length = bl.length * n := flat_len' bl fun b hb => (h b hb).1
/-- The row between two passes. -/
def Pass (cl : Int → Int) (n bs : Nat) (L0 : List Int) (d : Array Int) : Prop :=
  ∃ bl last, d.toList = bl.flatten ++ last ∧ Blks cl bs bl ∧ last.length < bs ∧ Asc cl last ∧ FEq cl d.toList L0 ∧ d.size = n
theorem Pass.over {cl : Int → Int} {n bs : Nat} {L0 : List Int} {d : Array Int} (h : Pass cl n bs L0 d) (hn : n ≤ bs) : Stb cl d.toList L0 := by
  obtain ⟨bl, last, h1, h2, h3, h4, h5, h6⟩ := h
  have hl : d.toList.length = n := by simpa using h6
  have hfl := h2.len
  rw [h1, List.length_append, hfl] at hl
  refine ⟨?_, h5⟩
  rw [h1]
  match bl, hl, h2 with
  | [], _, _ => simpa using h4
  | [A], hl, h2 =>
    have : last = [] := List.eq_nil_of_length_eq_zero (by simp at hl; omega)
    rw [this]; simpa using (h2 A (by simp)).2
  | A :: B :: r, hl, _ =>
    simp only [List.length_cons, Nat.add_mul] at hl
    omega
/-- The row within a pass. -/
def Within (cl : Int → Int) (n bs a : Nat) (L0 : List Int) (d : Array Int) : Prop :=
  ∃ done todo last, d.toList = done.flatten ++ (todo.flatten ++ last) ∧ Blks cl (2 * bs) done ∧ Blks cl bs todo ∧ last.length < bs ∧ Asc cl last ∧ FEq cl d.toList L0 ∧ d.size = n ∧ a = done.flatten.length
set_option maxHeartbeats 4000000 in
set_option maxRecDepth 100000 in
theorem stable_any (cl : Int → Int) (blk off cap : Nat) (d0 d : Array Int) (w0 w : World) (R : RowC cl w0 blk off d0) (hs : d0.size = d.size) (S0 : SWK (encC cl) 2 w0 blk off d w) (hsz : d.size < 1000000) (N : Nat) (hN : N = d.size) :
    Calls Tryd.prog 55 #[.slice (some ⟨blk, off, none⟩) N cap, .int .i64 N, .func (.func 43) #[] #[]] w fun e w' => e = .returned (.tuple #[]) ∧ ∃ d', Stb cl d'.toList d.toList ∧ d'.size = N ∧ SWK (encC cl) 2 w0 blk off d' w' := by
  have SA : Aside (SWK (encC cl) 2 w0 blk off d w) := S0
  have HN : Hid (N = d.size ∧ d0.size = d.size) := ⟨hN, hs⟩
  have hN1 : N < 1000000 := by omega
  obtain ⟨L0, hL0⟩ : ∃ L, d.toList = L := ⟨_, rfl⟩
  rw [hL0]
  have HL0 : Hid (d.toList = L0) := hL0
  have HM := Lib.hid (merge_any cl blk off cap d0 w0 R (by omega))
  have HI : Hid (∀ (d : Array Int) (w : World), d.size = N → SWK (encC cl) 2 w0 blk off d w → ∀ (P A S : List Int) (a b : Nat), d.toList = P ++ (A ++ S) → a = P.length → b = P.length + A.length →
      Calls Tryd.prog 67 #[.slice (some ⟨blk, off, none⟩) N cap, .int .i64 a, .int .i64 b, .func (.func 43) #[] #[]] w (MrgRes cl w0 blk off N P A S)) :=
    Lib.hid fun d' w hd hS P A S a b h1 h2 h3 => insertion_at cl blk off cap d0 d' w0 w R (by omega) hS (by omega) P A S a b N hd.symm h1 h2 h3
  clear S0 hs hN hL0 hsz
  go_enter Tryd.func55, Tryd.ntmps55
  go_wp2
  go_loopg [7, 8] N (fun k va vb wr => ∃ (a : Nat) (dk : Array Int), va = .int .i64 a ∧ vb = .int .i64 ((a + 20 : Nat) : Int) ∧ a ≤ N ∧ N - a ≤ k ∧ Aside (SWK (encC cl) 2 w0 blk off dk wr) ∧
    Hid (∃ bl rest, dk.toList = bl.flatten ++ rest ∧ Blks cl 20 bl ∧ a = bl.flatten.length ∧ FEq cl dk.toList L0 ∧ dk.size = N))
  case atStart => exact ⟨0, d, rfl, rfl, by omega, by omega, SA, (show Hid _ from ⟨[], d.toList, by simp, fun b hb => by simp at hb, by simp, by rw [HL0.out]; exact FEq.refl _, HN.out.1.symm⟩)⟩
  case round =>
    clear SA
    obtain ⟨a, dk, rfl, rfl, haN, hk, S1, HL⟩ := hrel
    obtain ⟨b, hb⟩ : ∃ b, a + 20 = b := ⟨_, rfl⟩
    rw [hb]
    have HB : Hid (a + 20 = b) := hb
    by_cases hbN : b ≤ N
    · have hz : (b : Int) ≤ (N : Int) := by omega
      have wb : IntKind.i64.wrap ((b : Int) + 20) = (b : Int) + 20 := by rw [IntKind.wrap_i64]; omega
      clear hb
      obtain ⟨bl, rest, h1, h2, h3, h4, h5⟩ := HL.out
      have hl : dk.toList.length = N := by simpa using h5
      rw [h1, List.length_append] at hl
      obtain ⟨A, S, rfl, hA, hS⟩ := split_len' (L := rest) (n := 20) (by have := HB.out; omega)
      have HC := Lib.hid (HI.out dk wr h5 S1.out bl.flatten A S a b h1 h3 (by have := HB.out; omega))
      have HX : Hid (dk.toList = bl.flatten ++ (A ++ S) ∧ Blks cl 20 bl ∧ a = bl.flatten.length ∧ FEq cl dk.toList L0 ∧ A.length = 20) := ⟨h1, h2, h3, h4, hA⟩
      clear h1 h2 h3 h4 h5 hl hA hS HL
      go_wp2_with fail
      refine HC.out.mono ?_
      rintro e w3 ⟨M, m1, rfl, d', m2, m3, m4⟩
      have MX : Hid (Stb cl M A ∧ d'.toList = bl.flatten ++ (M ++ S) ∧ d'.size = N) := ⟨m1, m2, m3⟩
      have S2 : Aside (SWK (encC cl) 2 w0 blk off d' w3) := m4
      clear m1 m2 m3 m4 S1 HC
      go_wp2
      go_roundg (N - b)
      case measure => have := HB.out; omega
      case rel =>
        obtain ⟨x1, x2, x3, x4, x5⟩ := HX.out
        obtain ⟨y1, y2, y3⟩ := MX.out
        have hM : M.length = 20 := by rw [y1.2.length, x5]
        refine ⟨b, d', rfl, by go_num, by omega, Nat.le_refl _, S2, (show Hid _ from ⟨bl ++ [M], S, by rw [y2]; simp, x2.snoc hM y1.1, by have := HB.out; rw [List.flatten_append, List.length_append]; simp only [List.flatten_cons, List.flatten_nil, List.append_nil]; omega, ?_, y3⟩)⟩
        refine FEq.trans ?_ x4
        rw [y2, x1]
        exact (FEq.refl _).app (y1.2.app (FEq.refl _))
    · have hz : ¬ (b : Int) ≤ (N : Int) := by omega
      clear hb
      obtain ⟨bl, rest, h1, h2, h3, h4, h5⟩ := HL.out
      have hl : dk.toList.length = N := by simpa using h5
      rw [h1, List.length_append] at hl
      have HC := Lib.hid (HI.out dk wr h5 S1.out bl.flatten rest [] a N (by rw [h1]; simp) h3 (by omega))
      have HX : Hid (dk.toList = bl.flatten ++ rest ∧ Blks cl 20 bl ∧ a = bl.flatten.length ∧ FEq cl dk.toList L0 ∧ rest.length < 20) := ⟨h1, h2, h3, h4, by have := HB.out; omega⟩
      clear h1 h2 h3 h4 h5 hl HL
      go_wp2_with fail
      refine HC.out.mono ?_
      rintro e w3 ⟨M, m1, rfl, d1, m2, m3, m4⟩
      have HP : Hid (Pass cl N 20 L0 d1) := by
        obtain ⟨x1, x2, x3, x4, x5⟩ := HX.out
        refine ⟨bl, M, by rw [m2]; simp, x2, by rw [m1.2.length]; exact x5, m1.1, FEq.trans ?_ x4, m3⟩
        rw [m2, x1, List.append_nil]
        exact (FEq.refl _).app m1.2
      have S2 : Aside (SWK (encC cl) 2 w0 blk off d1 w3) := m4
      clear m1 m2 m3 m4 S1 HC HX HB hz hbN haN hk
      go_wp2
      go_loopg [6, 7, 8, 9] N (fun k vs va vb vm wr => ∃ (bs : Nat) (dk : Array Int), vs = .int .i64 bs ∧ 0 < bs ∧ N - bs ≤ k ∧ Aside (SWK (encC cl) 2 w0 blk off dk wr) ∧ Hid (Pass cl N bs L0 dk))
      case atStart => exact ⟨20, d1, rfl, by omega, by omega, S2, HP⟩
      case round =>
        clear S2 HP
        obtain ⟨bs, dk, rfl, hbs, hk, S1, HP⟩ := hrel
        by_cases hlt : bs < N
        · have hz : (bs : Int) < (N : Int) := by omega
          obtain ⟨b2, hb2⟩ : ∃ b, 2 * bs = b := ⟨_, rfl⟩
          have e2 : 2 * (bs : Int) = (b2 : Int) := by omega
          have e3 : (bs : Int) * 2 = (b2 : Int) := by omega
          have w2 : IntKind.i64.wrap (b2 : Int) = (b2 : Int) := by rw [IntKind.wrap_i64]; omega
          have HB2 : Hid (2 * bs = b2) := hb2
          clear hb2
          go_wp2
          go_loopg [7, 8] N (fun k va vb wr => ∃ (a b : Nat) (dk : Array Int), va = .int .i64 a ∧ vb = .int .i64 b ∧ a + b2 = b ∧ a ≤ N ∧ N - a ≤ k ∧ Aside (SWK (encC cl) 2 w0 blk off dk wr) ∧ Hid (Within cl N bs a L0 dk))
          case atStart => exact ⟨0, b2, dk, rfl, rfl, by omega, by omega, by omega, S1, (show Hid _ from by
            obtain ⟨bl, last, p1, p2, p3, p4, p5, p6⟩ := HP.out
            exact ⟨[], bl, last, by simpa using p1, fun b hb => by simp at hb, p2, p3, p4, p5, p6, by simp⟩)⟩
          case round =>
            clear S1 HP
            obtain ⟨a, b, dk, rfl, rfl, hab, haN, hk2, S1, HW⟩ := hrel
            obtain ⟨m, hm⟩ : ∃ m, a + bs = m := ⟨_, rfl⟩
            have em : (a : Int) + (bs : Int) = (m : Int) := by omega
            have wm : IntKind.i64.wrap (m : Int) = (m : Int) := by rw [IntKind.wrap_i64]; omega
            have HMM : Hid (a + bs = m ∧ a + b2 = b) := ⟨hm, hab⟩
            by_cases hbN : b ≤ N
            · have hz2 : (b : Int) ≤ (N : Int) := by omega
              obtain ⟨b', hb'⟩ : ∃ m, b + b2 = m := ⟨_, rfl⟩
              have eb : (b : Int) + (b2 : Int) = (b' : Int) := by omega
              have wb : IntKind.i64.wrap (b' : Int) = (b' : Int) := by rw [IntKind.wrap_i64]; have := HB2.out; omega
              have HBB : Hid (b + b2 = b') := hb'
              clear hb' hm hab
              obtain ⟨done, todo, last, p1, p2, p3, p4, p5, p6, p7, p8⟩ := HW.out
              have hl : dk.toList.length = N := by simpa using p7
              rw [p1, List.length_append, List.length_append, p3.len] at hl
              obtain ⟨A, B, todo', rfl⟩ : ∃ A B t, todo = A :: B :: t := by
                have := HMM.out; have := HB2.out
                match todo, hl with
                | [], hl => exfalso; simp only [List.length_nil, Nat.zero_add, Nat.zero_mul] at hl; omega
                | [A], hl => exfalso; simp only [List.length_nil, List.length_cons, Nat.zero_add, Nat.one_mul] at hl; omega
                | A :: B :: t, _ => exact ⟨A, B, t, rfl⟩
              have qA := p3 A (by simp)
              have qB := p3 B (by simp)
              have HC := Lib.hid (HM.out (A.length + B.length + 1) dk wr done.flatten A B (todo'.flatten ++ last) a m b N (by omega) p7.symm (by have := HN.out; omega) S1.out (by rw [p1]; simp) qA.2 qB.2 (by omega) (by omega) p8 (by have := HMM.out; omega) (by have := HMM.out; have := HB2.out; omega))
              have HX : Hid (dk.toList = done.flatten ++ ((A :: B :: todo').flatten ++ last) ∧ Blks cl (2 * bs) done ∧ Blks cl bs (A :: B :: todo') ∧ last.length < bs ∧ Asc cl last ∧ FEq cl dk.toList L0 ∧ a = done.flatten.length ∧ A.length = bs ∧ B.length = bs) := ⟨p1, p2, p3, p4, p5, p6, p8, qA.1, qB.1⟩
              clear p1 p2 p3 p4 p5 p6 p7 p8 hl HW qA qB
              go_wp2_with fail
              refine HC.out.mono ?_
              rintro e w3 ⟨M, m1, rfl, d', m2, m3, m4⟩
              have MX : Hid (Stb cl M (A ++ B) ∧ d'.toList = done.flatten ++ (M ++ (todo'.flatten ++ last)) ∧ d'.size = N) := ⟨m1, m2, m3⟩
              have S2 : Aside (SWK (encC cl) 2 w0 blk off d' w3) := m4
              clear m1 m2 m3 m4 S1 HC
              go_wp2
              go_roundg (N - b)
              case measure => have := HMM.out; have := HB2.out; omega
              case rel =>
                obtain ⟨x1, x2, x3, x4, x5, x6, x7, x8, x9⟩ := HX.out
                obtain ⟨y1, y2, y3⟩ := MX.out
                have hM : M.length = 2 * bs := by rw [y1.2.length, List.length_append, x8, x9]; omega
                refine ⟨b, b', d', rfl, rfl, HBB.out, by omega, Nat.le_refl _, S2, (show Hid _ from ⟨done ++ [M], todo', last, by rw [y2]; simp, x2.snoc hM y1.1, fun c hc => x3 c (by simp [hc]), x4, x5, ?_, y3, ?_⟩)⟩
                · refine FEq.trans ?_ x6
                  rw [y2, x1]
                  refine (FEq.refl _).app ?_
                  have : (A :: B :: todo').flatten ++ last = (A ++ B) ++ (todo'.flatten ++ last) := by simp
                  rw [this]
                  exact y1.2.app (FEq.refl _)
                · have := HMM.out; have := HB2.out; rw [List.flatten_append, List.length_append]; simp only [List.flatten_cons, List.flatten_nil, List.append_nil]; omega
            · have hz2 : ¬ (b : Int) ≤ (N : Int) := by omega
              clear hm hab
              obtain ⟨done, todo, last, p1, p2, p3, p4, p5, p6, p7, p8⟩ := HW.out
              have hl : dk.toList.length = N := by simpa using p7
              rw [p1, List.length_append, List.length_append, p3.len] at hl
              by_cases hmN : m < N
              · have hz3 : (m : Int) < (N : Int) := by omega
                obtain ⟨A, rfl⟩ : ∃ A, todo = [A] := by
                  have := HMM.out; have := HB2.out
                  match todo, hl with
                  | [], hl => exfalso; simp only [List.length_nil, Nat.zero_add, Nat.zero_mul] at hl; omega
                  | [A], hl => exact ⟨A, rfl⟩
                  | A :: B :: t, hl => exfalso; simp only [List.length_cons, Nat.add_mul] at hl; omega
                have qA := p3 A (by simp)
                simp only [List.length_nil, List.length_cons, Nat.zero_add, Nat.one_mul] at hl
                have HC := Lib.hid (HM.out (A.length + last.length + 1) dk wr done.flatten A last [] a m N N (by omega) p7.symm (by have := HN.out; omega) S1.out (by rw [p1]; simp) qA.2 p5 (by omega) (by have := HMM.out; omega) p8 (by have := HMM.out; omega) (by have := HMM.out; omega))
                have HX : Hid (dk.toList = done.flatten ++ (A ++ last) ∧ Blks cl (2 * bs) done ∧ last.length < bs ∧ FEq cl dk.toList L0 ∧ A.length = bs) := ⟨by rw [p1]; simp, p2, p4, p6, qA.1⟩
                clear p1 p2 p3 p4 p5 p6 p7 p8 hl HW qA
                go_wp2_with fail
                refine HC.out.mono ?_
                rintro e w3 ⟨M, m1, rfl, d', m2, m3, m4⟩
                have MX : Hid (Stb cl M (A ++ last) ∧ d'.toList = done.flatten ++ (M ++ []) ∧ d'.size = N) := ⟨m1, m2, m3⟩
                have S2 : Aside (SWK (encC cl) 2 w0 blk off d' w3) := m4
                clear m1 m2 m3 m4 S1 HC
                go_wp2
                go_roundg (N - b2)
                case measure => have := HB2.out; omega
                case rel =>
                  obtain ⟨x1, x2, x3, x4, x5⟩ := HX.out
                  obtain ⟨y1, y2, y3⟩ := MX.out
                  refine ⟨b2, d', rfl, by have := HB2.out; omega, Nat.le_refl _, S2, (show Hid _ from ⟨done, M, by rw [y2]; simp, by rw [← HB2.out]; exact x2, by rw [y1.2.length, List.length_append, ← HB2.out]; omega, y1.1, FEq.trans ?_ x4, y3⟩)⟩
                  rw [y2, x1, List.append_nil]
                  exact (FEq.refl _).app y1.2
              · have hz3 : ¬ (m : Int) < (N : Int) := by omega
                have HQ : Hid (Pass cl N b2 L0 dk) := by
                  have := HMM.out; have hbb := HB2.out
                  match todo, hl, p1, p3 with
                  | [], hl, p1, _ => exact ⟨done, last, by simpa using p1, hbb ▸ p2, by omega, p5, p6, p7⟩
                  | [A], hl, p1, p3 =>
                    have qA := p3 A (by simp)
                    have hz : last = [] := List.eq_nil_of_length_eq_zero (by simp only [List.length_nil, List.length_cons, Nat.zero_add, Nat.one_mul] at hl; omega)
                    subst hz
                    exact ⟨done, A, by simpa using p1, hbb ▸ p2, by omega, qA.2, p6, p7⟩
                  | A :: B :: t, hl, _, _ => exfalso; simp only [List.length_cons, Nat.add_mul] at hl; omega
                clear p1 p2 p3 p4 p5 p6 p7 p8 hl HW
                go_wp2
                go_roundg (N - b2)
                case measure => have := HB2.out; omega
                case rel => exact ⟨b2, dk, rfl, by have := HB2.out; omega, Nat.le_refl _, S1, HQ⟩
        · have hz : ¬ (bs : Int) < (N : Int) := by omega
          go_wp2
          go_end0
          obtain ⟨_, _, _, _, _, _, _, hs⟩ := HP.out
          exact ⟨rfl, dk, HP.out.over (by omega), hs, S1.out⟩
theorem sortStable_any (cl : Int → Int) (blk off cap : Nat) (d : Array Int) (w : World) (hH : HoldsK (encC cl) 2 w blk off d) (hb : blk < w.heap.size) (hsz : d.size < 1000000) :
    Calls Tryd.prog 42 #[.slice (some ⟨blk, off, none⟩) d.size cap, .func (.func 43) #[] #[]] w fun e w' => e = .returned (.tuple #[]) ∧ ∃ d', Stb cl d'.toList d.toList ∧ d'.size = d.size ∧ SWK (encC cl) 2 w blk off d' w' := by
  have HC := Lib.hid (stable_any cl blk off cap d d w w (rowC cl hH hb) rfl (SWK.start hH) hsz d.size rfl)
  generalize d.size = N at *
  clear hH hsz
  go_enter Tryd.func42, Tryd.ntmps42
  go_wp2_with fail
  refine HC.out.mono ?_
  rintro e w3 ⟨rfl, d', h1, h2, h3⟩
  go_wp2_with fail
  go_end0
  exact ⟨rfl, d', h1, h2, h3⟩
end Go.Proofs.YtmglnpnkkidnnaaDoor
