/- The walks of sort.Search over Find's test, of Find, the code's and the reference's. -/
import Derived.Test.YtgofniepdpbciaaEntSort
import Derived.Test.YtgofniepdpbciaaEntRow
import Derived.RegionTactic
import Derived.Deep.LoopGhost
import Derived.Deep.DeepCutAuto
namespace Go.Proofs.Ytgofniepdpbciaa
set_option linter.unusedVariables false
open Go.RowKit
/-- where the search ends -/
def Cuts (p : Nat → Bool) (n k : Nat) : Prop := k ≤ n ∧ (∀ i, i < k → p i = false) ∧ ∀ i, k ≤ i → i < n → p i = true
def SearchRes (p : Nat → Bool) (n : Nat) (w : World) (e : Ending) (w' : World) : Prop := ∃ k : Nat, Cuts p n k ∧ e = .returned (.int .i64 k) ∧ Below w.heap.size w w'
set_option maxHeartbeats 4000000 in
theorem search_any (n : Nat) (hn : n ≤ 1000000) (c0 c1 c2 : Value) (p : Nat → Bool) (hp : ∀ i j, i < j → p i = true → p j = true) (w : World)
    (HCC : Hid (∀ W, Below w.heap.size w W → ∀ i, i < n → Calls Try.prog 24 #[.int .i64 i, c0, c1, c2] W fun e w' => e = .returned (.bool (p i)) ∧ Below W.heap.size W w')) :
    Calls Try.prog 23 #[.int .i64 n, .func (.func 24) #[] #[c0, c1, c2]] w (SearchRes p n w) := by
  have HP := Lib.hid hp
  clear hp
  go_enter Try.func23, Try.ntmps23
  go_wp2_with fail
  go_loopg [5, 6] n (fun kk vi vj wr => ∃ i j : Nat, vi = .int .i64 i ∧ vj = .int .i64 j ∧ i ≤ j ∧ j ≤ n ∧ j - i ≤ kk ∧ Hid ((∀ m, m < i → p m = false) ∧ ∀ m, j ≤ m → m < n → p m = true) ∧ Hid (Below w.heap.size w wr))
  case atStart => exact ⟨0, n, rfl, rfl, by omega, by omega, by omega, Lib.hid ⟨fun m h => by omega, fun m h h2 => by omega⟩, Lib.hid (Below.refl _ _)⟩
  case round =>
    obtain ⟨i, j, rfl, rfl, hij, hjn, hk, HG, HB⟩ := hrel
    by_cases h : i < j
    · have hi0 : (0 : Int) ≤ (i : Int) := by omega
      have hj0 : (0 : Int) ≤ (j : Int) := by omega
      obtain ⟨m, hm⟩ : ∃ m, (i + j) / 2 = m := ⟨_, rfl⟩
      have em : ((i : Int) + (j : Int)) / 2 = (m : Int) := by omega
      have hm1 : i ≤ m ∧ m < j := by omega
      obtain ⟨r, hr⟩ : ∃ r, p m = r := ⟨_, rfl⟩
      have HR := Lib.hid hr
      have HC : Hid (Calls Try.prog 24 #[.int .i64 m, c0, c1, c2] wr fun e w' => e = .returned (.bool r) ∧ Below wr.heap.size wr w') := Lib.hid (by rw [← hr]; exact HCC.out wr HB.out m (by omega))
      clear hr hm
      go_wp2_with fail
      refine HC.out.mono ?_
      rintro e w3 ⟨rfl, hb⟩
      have HB3 := Lib.hid (HB.out.trans (hb.mono HB.out.size))
      clear hb HB HC
      cases r
      · have HG2 : Hid ((∀ l, l < m + 1 → p l = false) ∧ ∀ l, j ≤ l → l < n → p l = true) := Lib.hid ⟨fun l hl => by
          cases hb : p l with
          | false => rfl
          | true =>
            rcases Nat.lt_or_ge l m with h1 | h1
            · have := HP.out l m h1 hb; rw [HR.out] at this; cases this
            · obtain rfl : l = m := by omega
              rw [HR.out] at hb; exact hb.symm, HG.out.2⟩
        clear HR HG
        go_wp2_with fail
        go_roundg (j - (m + 1))
        case measure => omega
        case rel => exact ⟨m + 1, j, by go_num, rfl, by omega, by omega, Nat.le_refl _, HG2, HB3⟩
      · have HG2 : Hid ((∀ l, l < i → p l = false) ∧ ∀ l, m ≤ l → l < n → p l = true) := Lib.hid ⟨HG.out.1, fun l hl hl2 => by
          rcases Nat.lt_or_ge m l with h1 | h1
          · exact HP.out m l h1 HR.out
          · obtain rfl : m = l := by omega
            exact HR.out⟩
        clear HR HG
        go_wp2_with fail
        go_roundg (m - i)
        case measure => omega
        case rel => exact ⟨i, m, rfl, rfl, by omega, by omega, Nat.le_refl _, HG2, HB3⟩
    · have hd : decide (i < j) = false := decide_eq_false h
      have hK : Cuts p n i := ⟨by omega, HG.out.1, fun l hl hl2 => HG.out.2 l (by omega) hl2⟩
      have HK := Lib.hid hK
      clear hK
      go_wp2_with fail
      go_ret
      exact ⟨i, HK.out, rfl, HB.out⟩
/-- What Find's test stands on: the three boxes. -/
def Boxes (w : World) (b : Nat) (v : Value) (n : ByteArray) (q : Int) : Prop := w.cell? ⟨b, 0, none⟩ = some v ∧ w.cell? ⟨b + 1, 0, none⟩ = some (.string n) ∧ w.cell? ⟨b + 1 + 1, 0, none⟩ = some (.int .i64 q) ∧ b + 1 + 1 < w.heap.size
theorem Boxes.below {w w' : World} {B b : Nat} {v : Value} {n : ByteArray} {q : Int} (h : Boxes w b v n q) (hb : Below B w w') (hB : b + 1 + 1 < B) : Boxes w' b v n q := by
  obtain ⟨h0, h1, h2, h3⟩ := h
  exact ⟨(hb.cell (p := ⟨b, 0, none⟩) (by show b < B; omega)).trans h0, (hb.cell (p := ⟨b + 1, 0, none⟩) (by show b + 1 < B; omega)).trans h1, (hb.cell (p := ⟨b + 2, 0, none⟩) hB).trans h2, Nat.lt_of_lt_of_le h3 hb.size⟩
theorem boxes_new (w : World) (v : Value) (n : ByteArray) (q : Int) (T1 T2 T3 : TypeId) (o : Obj) : Boxes ((((w.alloc (.cells #[v] T1)).alloc (.cells #[.string n] T2)).alloc (.cells #[.int .i64 q] T3)).alloc o) w.heap.size v n q := by
  have e1 := heap_alloc_new w (.cells #[v] T1)
  have e2 := heap_alloc_new (w.alloc (.cells #[v] T1)) (.cells #[.string n] T2)
  have e3 := heap_alloc_new ((w.alloc (.cells #[v] T1)).alloc (.cells #[.string n] T2)) (.cells #[.int .i64 q] T3)
  have c0 : (w.alloc (.cells #[v] T1)).cell? ⟨w.heap.size, 0, none⟩ = some v := by unfold World.cell?; rw [e1]; rfl
  have c1 : ((w.alloc (.cells #[v] T1)).alloc (.cells #[.string n] T2)).cell? ⟨w.heap.size + 1, 0, none⟩ = some (.string n) := by unfold World.cell?; simp only [World.size_alloc] at e2; rw [e2]; rfl
  have c2 : (((w.alloc (.cells #[v] T1)).alloc (.cells #[.string n] T2)).alloc (.cells #[.int .i64 q] T3)).cell? ⟨w.heap.size + 1 + 1, 0, none⟩ = some (.int .i64 q) := by unfold World.cell?; simp only [World.size_alloc] at e3; rw [e3]; rfl
  have b1 := (Below.refl _ (w.alloc (.cells #[v] T1))).alloc (Nat.le_refl _) (.cells #[.string n] T2)
  have b2 := (Below.refl _ ((w.alloc (.cells #[v] T1)).alloc (.cells #[.string n] T2))).alloc (Nat.le_refl _) (.cells #[.int .i64 q] T3)
  have b3 := (Below.refl _ (((w.alloc (.cells #[v] T1)).alloc (.cells #[.string n] T2)).alloc (.cells #[.int .i64 q] T3))).alloc (Nat.le_refl _) o
  refine ⟨?_, ?_, ?_, by simp⟩
  · rw [b3.cell (p := ⟨w.heap.size, 0, none⟩) (by simp; omega), b2.cell (p := ⟨w.heap.size, 0, none⟩) (by simp; omega), b1.cell (p := ⟨w.heap.size, 0, none⟩) (by simp)]; exact c0
  · rw [b3.cell (p := ⟨w.heap.size + 1, 0, none⟩) (by simp), b2.cell (p := ⟨w.heap.size + 1, 0, none⟩) (by simp)]; exact c1
  · rw [b3.cell (p := ⟨w.heap.size + 1 + 1, 0, none⟩) (by simp)]; exact c2
def fp (xs : List Ent) (n : ByteArray) (q : Int) (i : Nat) : Bool := match xs[i]? with
  | some e => reachB e n q
  | none => true
set_option maxHeartbeats 4000000 in
theorem find1_any (xs : List Ent) (a : Option Addr) (len cap : Nat) (hn : len = xs.length) (hlm : len ≤ 1000000) (n : ByteArray) (q : Int) (i : Nat) (hi : i < len) (b0 : Nat) (w : World) (hrd : RdK encEnt 5 w (.slice a len cap) xs) (hbx : Boxes w b0 (.slice a len cap) n q) :
    Calls Try.prog 24 #[.int .i64 i, .pointer (some ⟨b0, 0, none⟩), .pointer (some ⟨b0 + 1, 0, none⟩), .pointer (some ⟨b0 + 1 + 1, 0, none⟩)] w fun e w' => e = .returned (.bool (fp xs n q i)) ∧ Below w.heap.size w w' := by
  obtain ⟨x, hx⟩ : ∃ x, xs[i]? = some x := ⟨xs[i]'(by omega), List.getElem?_eq_getElem _⟩
  obtain ⟨r, hr⟩ : ∃ r, fp xs n q i = r := ⟨_, rfl⟩
  have hr2 : reachB x n q = r := by rw [← hr]; unfold fp; rw [hx]
  have HC : Hid (∀ w, Calls Try.prog 25 #[x.v, .string n, .int .i64 q] w fun e w' => e = .returned (.bool r) ∧ Below w.heap.size w w') := Lib.hid fun w => by rw [← hr2]; exact reaches_any x n q w
  rw [hr]
  obtain ⟨b, off, rfl, hblt, c1⟩ := hrd.at5 hn i x hx
  have C1 := Lib.hid c1
  have HBX := Lib.hid hbx
  obtain ⟨xn, xq, xk, xsp, xv⟩ := x
  have hi0 : (0 : Int) ≤ (i : Int) := by omega
  have hil : (i : Int) < (len : Int) := by omega
  clear hx hr hr2 c1 hbx hrd hn
  go_enter Try.func24, Try.ntmps24
  go_wp2_with fail
  refine wp_region_held_drew (S := Below w.heap.size w) (by kernel_rfl) (Below.refl _ _).drew (fun hHeld => ?_)
  refine takeYes (i := 0) (k := 6) (v := .slice (some ⟨b, off, none⟩) len cap) rfl (by kernel_rfl) (by kernel_rfl) (by kernel_rfl) (by kernel_rfl) (fun _ _ _ h => h) (by kernel_rfl) ?_ (by assumption) ?_
  · intro W hSw; obtain ⟨d0, d1, d2, -⟩ := HBX.out.below hSw HBX.out.2.2.2; first | (go_simp; done) | go_simp
  try simp only [Act.put, List.setIfInBounds_toArray, List.set_cons_zero, List.set_cons_succ]
  refine takeYes (i := 1) (k := 7) (v := .int .i64 (i : Int)) rfl (by kernel_rfl) (by kernel_rfl) (by kernel_rfl) (by kernel_rfl) (fun _ _ _ h => h) (by kernel_rfl) ?_ (by assumption) ?_
  · intro W hSw; first | (go_simp; done) | go_simp
  try simp only [Act.put, List.setIfInBounds_toArray, List.set_cons_zero, List.set_cons_succ]
  refine takeYes (i := 2) (k := 8) (v := .pointer (some ⟨b, off + i * 5, none⟩)) rfl (by kernel_rfl) (by kernel_rfl) (by kernel_rfl) (by kernel_rfl) (fun _ _ _ h => h) (by kernel_rfl) ?_ (by assumption) ?_
  · intro W hSw; first | (go_simp; done) | go_simp
  try simp only [Act.put, List.setIfInBounds_toArray, List.set_cons_zero, List.set_cons_succ]
  refine takeYes (i := 3) (k := 9) (v := .agg #[.string xn, .int .i64 xq, .int .i64 xk, .string xsp, .string xv]) rfl (by kernel_rfl) (by kernel_rfl) (by kernel_rfl) (by kernel_rfl) (fun _ _ _ h => h) (by kernel_rfl) ?_ (by assumption) ?_
  · intro W hSw; obtain ⟨d0, d1, d2, d3, d4⟩ := C1.out.under hblt hSw; first | (go_simp; done) | go_simp
  try simp only [Act.put, List.setIfInBounds_toArray, List.set_cons_zero, List.set_cons_succ]
  refine takeYes (i := 4) (k := 10) (v := .string n) rfl (by kernel_rfl) (by kernel_rfl) (by kernel_rfl) (by kernel_rfl) (fun _ _ _ h => h) (by kernel_rfl) ?_ (by assumption) ?_
  · intro W hSw; obtain ⟨d0, d1, d2, -⟩ := HBX.out.below hSw HBX.out.2.2.2; first | (go_simp; done) | go_simp
  try simp only [Act.put, List.setIfInBounds_toArray, List.set_cons_zero, List.set_cons_succ]
  refine takeYes (i := 5) (k := 11) (v := .int .i64 q) rfl (by kernel_rfl) (by kernel_rfl) (by kernel_rfl) (by kernel_rfl) (fun _ _ _ h => h) (by kernel_rfl) ?_ (by assumption) ?_
  · intro W hSw; obtain ⟨d0, d1, d2, -⟩ := HBX.out.below hSw HBX.out.2.2.2; first | (go_simp; done) | go_simp
  try simp only [Act.put, List.setIfInBounds_toArray, List.set_cons_zero, List.set_cons_succ]
  refine wpAnyH_ready (rs := [6]) (by kernel_rfl) (by simp) (AllReadyH.cons rfl (fun K hK => ?_) AllReadyH.nil)
  go_simp
  refine (HC.out _).mono ?_
  rintro e w3 ⟨rfl, hb⟩
  have hb3 : Below w.heap.size w w3 := hHeld.trans (hb.mono (by simp))
  refine hK.out _ _ hb3 (fun hHeld2 => ?_)
  clear hK K hHeld hb
  try simp only [Act.put, List.setIfInBounds_toArray, List.set_cons_zero, List.set_cons_succ]
  refine takeYes (i := 7) (k := 5) (v := .bool r) rfl (by kernel_rfl) (by kernel_rfl) (by kernel_rfl) (by kernel_rfl) (fun _ _ _ h => h) (by kernel_rfl) ?_ (by assumption) ?_
  · intro W hSw; first | (go_simp; done) | go_simp
  try simp only [Act.put, List.setIfInBounds_toArray, List.set_cons_zero, List.set_cons_succ]
  refine wpAnyH_done (by kernel_rfl) ?_ _
  go_wp2_with fail
  go_ret
  exact ⟨rfl, hb3⟩
theorem fp_mono {xs : List Ent} (hs : srtB xs = true) (n : ByteArray) (q : Int) : ∀ i j, i < j → fp xs n q i = true → fp xs n q j = true := by
  intro i j hij hi
  have hp := (srtB_pair xs).1 hs
  unfold fp at hi ⊢
  rcases Nat.lt_or_ge j xs.length with h | h
  · rw [List.getElem?_eq_getElem (by omega)] at hi
    rw [List.getElem?_eq_getElem h]
    simp only at hi ⊢
    have hl := List.pairwise_iff_getElem.1 hp i j (by omega) h hij
    have hi2 := of_decide_eq_true hi
    refine decide_eq_true ?_
    unfold ltE at hl
    rcases hi2 with h1 | ⟨h1, h2⟩
    · left
      rcases hl with hl | ⟨hl, -⟩
      · exact bl_trans h1 hl
      · rw [← hl]; exact h1
    · rcases hl with hl | ⟨hl, hl2⟩
      · left; rw [← h1]; exact hl
      · right; exact ⟨by rw [← hl]; exact h1, by omega⟩
  · rw [List.getElem?_eq_none h]
/-- What Find answers. -/
def findV (o : Option Ent) : Value := .tuple #[(o.getD Ent.none).v, .bool o.isSome]
theorem find_none {xs : List Ent} {n : ByteArray} {q : Int} (h : ∀ (i : Nat) (x : Ent), xs[i]? = some x → ¬ (x.norm = n ∧ x.seq ≤ q)) : findE xs n q = none := by
  unfold findE
  rw [List.find?_eq_none]
  intro x hx
  obtain ⟨i, hi, rfl⟩ := List.mem_iff_getElem.1 hx
  have := h i _ (List.getElem?_eq_getElem hi)
  simpa using this
theorem find_some {xs : List Ent} {n : ByteArray} {q : Int} {k : Nat} {x : Ent} (hx : xs[k]? = some x) (h1 : x.norm = n ∧ x.seq ≤ q) (h : ∀ (i : Nat) (y : Ent), i < k → xs[i]? = some y → ¬ (y.norm = n ∧ y.seq ≤ q)) : findE xs n q = some x := by
  obtain ⟨hk, rfl⟩ := List.getElem?_eq_some_iff.1 hx
  unfold findE
  rw [List.find?_eq_some_iff_getElem]
  refine ⟨by simp [h1], k, hk, rfl, fun j hj => ?_⟩
  have := h j _ hj (List.getElem?_eq_getElem (by omega))
  simp only [Bool.not_eq_true', Bool.and_eq_false_imp, decide_eq_true_eq, decide_eq_false_iff_not]
  exact fun e => fun f => this ⟨e, f⟩
theorem fp_no {xs : List Ent} {n : ByteArray} {q : Int} {i : Nat} {x : Ent} (hx : xs[i]? = some x) (h : fp xs n q i = false) : ¬ (x.norm = n ∧ x.seq ≤ q) := by
  unfold fp at h
  rw [hx] at h
  exact fun k => of_decide_eq_false h (.inr k)
/-- The three ends of the search. -/
theorem find_end {xs : List Ent} (hs : srtB xs = true) {n : ByteArray} {q : Int} {k : Nat} (hc : Cuts (fp xs n q) xs.length k) :
    (k = xs.length ∧ findE xs n q = none) ∨ ∃ x, xs[k]? = some x ∧ ((x.norm ≠ n ∧ findE xs n q = none) ∨ (x.norm = n ∧ findE xs n q = some x)) := by
  obtain ⟨h1, h2, h3⟩ := hc
  rcases Nat.lt_or_ge k xs.length with h | h
  · right
    obtain ⟨x, hx⟩ : ∃ x, xs[k]? = some x := ⟨xs[k], List.getElem?_eq_getElem h⟩
    refine ⟨x, hx, ?_⟩
    have hp := h3 k (Nat.le_refl _) h
    unfold fp at hp
    rw [hx] at hp
    have hp2 : bl n x.norm ∨ x.norm = n ∧ x.seq ≤ q := of_decide_eq_true hp
    by_cases e : x.norm = n
    · right
      refine ⟨e, find_some hx ⟨e, ?_⟩ fun i y hi hy => fp_no hy (h2 i hi)⟩
      rcases hp2 with g | g
      · rw [e] at g; exact absurd g (bl_irr _)
      · exact g.2
    · left
      refine ⟨e, find_none fun i y hy => ?_⟩
      have g : bl n x.norm := by
        rcases hp2 with g | g
        · exact g
        · exact absurd g.1 e
      rcases Nat.lt_or_ge i k with hi | hi
      · exact fp_no hy (h2 i hi)
      · rintro ⟨e2, -⟩
        rcases Nat.lt_or_ge k i with hki | hki
        · obtain ⟨hil, rfl⟩ := List.getElem?_eq_some_iff.1 hy
          obtain ⟨hkl, rfl⟩ := List.getElem?_eq_some_iff.1 hx
          have hl := List.pairwise_iff_getElem.1 ((srtB_pair xs).1 hs) k i hkl hil hki
          unfold ltE at hl
          rw [e2] at hl
          rcases hl with hl | ⟨hl, -⟩
          · exact bl_irr _ (bl_trans g hl)
          · exact e hl
        · obtain rfl : i = k := by omega
          rw [hx] at hy
          obtain rfl := Option.some.inj hy
          exact e e2
  · left
    exact ⟨by omega, find_none fun i y hy => fp_no hy (h2 i (by have := (List.getElem?_eq_some_iff.1 hy).1; omega))⟩
theorem findV_none : findV none = .tuple #[.agg #[.string ⟨#[]⟩, .int .i64 0, .int .i64 0, .string ⟨#[]⟩, .string ⟨#[]⟩], .bool false] := rfl
theorem findV_some (x : Ent) : findV (some x) = .tuple #[.agg #[.string x.norm, .int .i64 x.seq, .int .i64 x.kind, .string x.spell, .string x.val], .bool true] := rfl
set_option maxHeartbeats 8000000 in
set_option maxRecDepth 100000 in
theorem find_any (v : Value) (xs : List Ent) (hl : xs.length ≤ 1000000) (hs : srtB xs = true) (n : ByteArray) (q : Int) (w : World) (hrd : RdK encEnt 5 w v xs) :
    Calls Try.prog 15 #[v, .string n, .int .i64 q] w fun e w' => e = .returned (findV (findE xs n q)) ∧ Below w.heap.size w w' := by
  obtain ⟨V, hV⟩ : ∃ V, findE xs n q = V := ⟨_, rfl⟩
  obtain ⟨a, len, cap, rfl, hlen⟩ := rdK_len hrd
  have HV := Lib.hid hV
  have HS := Lib.hid hs
  have HRD := Lib.hid hrd
  have HN := Lib.hid hlen
  have hlm : len ≤ 1000000 := by omega
  rw [hV]
  clear hV hs hrd hlen hl
  go_enter Try.func15, Try.ntmps15
  go_wp2_with fail
  obtain ⟨w1, hw1⟩ : ∃ w1, (((w.alloc (.cells #[.slice a len cap] 27)).alloc (.cells #[.string n] 9)).alloc (.cells #[.int .i64 q] 2)).alloc (.cells #[.string ⟨#[]⟩, .int .i64 0, .int .i64 0, .string ⟨#[]⟩, .string ⟨#[]⟩] 23) = w1 := ⟨_, rfl⟩
  have HBX : Hid (Boxes w1 w.heap.size (.slice a len cap) n q ∧ Row5 w1 (w.heap.size + 1 + 1 + 1) (.string ⟨#[]⟩) (.int .i64 0) (.int .i64 0) (.string ⟨#[]⟩) (.string ⟨#[]⟩) ∧ Below w.heap.size w w1 ∧ w1.heap.size = w.heap.size + 1 + 1 + 1 + 1) := Lib.hid (by
    rw [← hw1]
    refine ⟨boxes_new w _ _ _ _ _ _ _, ?_, ((((Below.refl _ w).alloc (Nat.le_refl _) _).alloc (by simp) _).alloc (by simp; omega) _).alloc (by simp; omega) _, by simp⟩
    have := Row5.new (((w.alloc (.cells #[.slice a len cap] 27)).alloc (.cells #[.string n] 9)).alloc (.cells #[.int .i64 q] 2)) (.string ⟨#[]⟩) (.int .i64 0) (.int .i64 0) (.string ⟨#[]⟩) (.string ⟨#[]⟩) 23
    simpa using this)
  rw [hw1]
  clear hw1
  obtain ⟨hbx1, hr51, hbel1, hsz1⟩ := id HBX.out
  have HSE : Hid (Calls Try.prog 23 #[.int .i64 len, .func (.func 24) #[] #[.pointer (some ⟨w.heap.size, 0, none⟩), .pointer (some ⟨w.heap.size + 1, 0, none⟩), .pointer (some ⟨w.heap.size + 1 + 1, 0, none⟩)]] w1 (SearchRes (fp xs n q) len w1)) := Lib.hid
    (search_any len hlm _ _ _ (fp xs n q) (fp_mono HS.out n q) w1 (Lib.hid fun W hW i hi =>
      find1_any xs a len cap HN.out hlm n q i hi w.heap.size W ((HRD.out.below hbel1).below hW) (hbx1.below hW (by omega))))
  clear hbx1 hr51 hbel1 hsz1
  refine HSE.out.mono ?_
  rintro e w2 ⟨k, hcut, rfl, hb2⟩
  have HEND := Lib.hid (find_end HS.out (by have := HN.out; rw [← this]; exact hcut))
  have hk1 := hcut.1
  have HB2 : Hid (Boxes w2 w.heap.size (.slice a len cap) n q ∧ Row5 w2 (w.heap.size + 1 + 1 + 1) (.string ⟨#[]⟩) (.int .i64 0) (.int .i64 0) (.string ⟨#[]⟩) (.string ⟨#[]⟩) ∧ Below w.heap.size w w2 ∧ RdK encEnt 5 w2 (.slice a len cap) xs) := Lib.hid (by
    obtain ⟨h1, h2, h3, h4⟩ := HBX.out
    have h5 := h3.trans (hb2.mono h3.size)
    exact ⟨h1.below hb2 (by omega), h2.below hb2 (by omega), h5, HRD.out.below h5⟩)
  clear hb2 hcut HBX HSE HS HRD
  obtain ⟨⟨x0, x1, x2, -⟩, ⟨⟨z0, z1, z2, z3, z4⟩, ⟨g0, g1, g2, g3, g4⟩, hz⟩, hbel, hrd2⟩ := id HB2.out
  have HBEL := Lib.hid hbel
  have HRD2 := Lib.hid hrd2
  clear hbel hrd2 HB2
  have hki0 : (0 : Int) ≤ (k : Int) := by omega
  rcases id HEND.out with ⟨hk, hf⟩ | ⟨x, hx, ⟨hne, hf⟩ | ⟨heq, hf⟩⟩
  · have HVE : Hid (V = none) := Lib.hid (by rw [← HV.out, hf])
    have hkl : ((k : Int) == (len : Int)) = true := by rw [beq_iff_eq]; have := HN.out; omega
    clear hk hf HEND
    go_wp2_with fail
    go_quiet (fail)
    go_wp2
    refine bodyPost_ret (v := findV none) (by simp [results, Try.results15, go_sem, findV_none, z0, z1, z2, z3, z4]) rfl ⟨by rw [HVE.out], ?_⟩
    iterate 5 refine Below.setCell ?_ (by simp; omega) _
    exact HBEL.out.trans (DrN.below ⟨nq, rfl⟩ _)
  · have HVE : Hid (V = none) := Lib.hid (by rw [← HV.out, hf])
    have hkl : k < len := by have := (List.getElem?_eq_some_iff.1 hx).1; have := HN.out; omega
    have hkn : ((k : Int) == (len : Int)) = false := by rw [beq_eq_false_iff_ne]; omega
    have hki : (k : Int) < (len : Int) := by omega
    obtain ⟨b, off, rfl, hblt, d0, d1, d2, d3, d4⟩ := HRD2.out.at5 HN.out k x hx
    obtain ⟨xn, xq, xk, xsp, xv⟩ := x
    simp only at d0 d1 d2 d3 d4 hne
    have hnn := bs_ne hne
    clear hx hf HEND hne
    go_wp2_with fail
    go_quiet (fail)
    go_wp2
    refine bodyPost_ret (v := findV none) (by simp [results, Try.results15, go_sem, findV_none, z0, z1, z2, z3, z4]) rfl ⟨by rw [HVE.out], ?_⟩
    iterate 5 refine Below.setCell ?_ (by simp; omega) _
    exact HBEL.out.trans (DrN.below ⟨nq, rfl⟩ _)
  · have HVE : Hid (V = some x) := Lib.hid (by rw [← HV.out, hf])
    have hkl : k < len := by have := (List.getElem?_eq_some_iff.1 hx).1; have := HN.out; omega
    have hkn : ((k : Int) == (len : Int)) = false := by rw [beq_eq_false_iff_ne]; omega
    have hki : (k : Int) < (len : Int) := by omega
    obtain ⟨b, off, rfl, hblt, d0, d1, d2, d3, d4⟩ := HRD2.out.at5 HN.out k x hx
    obtain ⟨xn, xq, xk, xsp, xv⟩ := x
    simp only at d0 d1 d2 d3 d4 heq
    subst heq
    have hnn := bs_refl xn
    clear hx hf HEND
    go_wp2_with fail
    go_quiet (fail)
    go_wp2
    refine bodyPost_ret (v := findV (some ⟨xn, xq, xk, xsp, xv⟩)) (by simp [results, Try.results15, go_sem, findV_some, z0, z1, z2, z3, z4]) rfl ⟨by rw [HVE.out], ?_⟩
    iterate 5 refine Below.setCell ?_ (by simp; omega) _
    exact HBEL.out.trans (DrN.below ⟨nq, rfl⟩ _)
set_option maxHeartbeats 8000000 in
set_option maxRecDepth 100000 in
theorem rfind_any (v : Value) (xs : List Ent) (hl : xs.length ≤ 1000000) (n : ByteArray) (q : Int) (w : World) (hrd : RdK encEnt 5 w v xs) :
    Calls Try.prog 16 #[v, .string n, .int .i64 q] w fun e w' => e = .returned (findV (findE xs n q)) ∧ Below w.heap.size w w' := by
  obtain ⟨V, hV⟩ : ∃ V, findE xs n q = V := ⟨_, rfl⟩
  obtain ⟨a, len, cap, rfl, hlen⟩ := rdK_len hrd
  have HV := Lib.hid hV
  have HRD := Lib.hid hrd
  have HN := Lib.hid hlen
  have hlm : len ≤ 1000000 := by omega
  rw [hV]
  clear hV hrd hlen hl
  go_enter Try.func16, Try.ntmps16
  go_wp2_with fail
  obtain ⟨w1, hw1⟩ : ∃ w1, w.alloc (.cells #[.string ⟨#[]⟩, .int .i64 0, .int .i64 0, .string ⟨#[]⟩, .string ⟨#[]⟩] 23) = w1 := ⟨_, rfl⟩
  have HR5 : Hid (Row5 w1 w.heap.size (.string ⟨#[]⟩) (.int .i64 0) (.int .i64 0) (.string ⟨#[]⟩) (.string ⟨#[]⟩)) := Lib.hid (by rw [← hw1]; exact Row5.new w _ _ _ _ _ _)
  have HB1 : Hid (Below w.heap.size w w1) := Lib.hid (by rw [← hw1]; exact (Below.refl _ w).alloc (Nat.le_refl _) _)
  have HRD1 := Lib.hid (HRD.out.below HB1.out)
  rw [hw1]
  clear hw1 HRD
  go_loopg [8] len (fun kk vi wr => ∃ i : Nat, vi = .int .i64 i ∧ i ≤ len ∧ len - i ≤ kk ∧ wr = w1 ∧ Hid (∀ (m : Nat) (y : Ent), m < i → xs[m]? = some y → ¬ (y.norm = n ∧ y.seq ≤ q)))
  case atStart => exact ⟨0, rfl, by omega, by omega, rfl, Lib.hid fun m y h => by omega⟩
  case round =>
    obtain ⟨k, rfl, hk1, hkk, rfl, HG⟩ := hrel
    obtain ⟨⟨z0, z1, z2, z3, z4⟩, ⟨g0, g1, g2, g3, g4⟩, hz⟩ := id HR5.out
    have hki0 : (0 : Int) ≤ (k : Int) := by omega
    by_cases hkl : k < len
    · obtain ⟨x, hx⟩ : ∃ x, xs[k]? = some x := ⟨xs[k]'(by have := HN.out; omega), List.getElem?_eq_getElem _⟩
      have hki : (k : Int) < (len : Int) := by omega
      obtain ⟨b, off, rfl, hblt, d0, d1, d2, d3, d4⟩ := HRD1.out.at5 HN.out k x hx
      have HX := Lib.hid hx
      clear hx
      obtain ⟨xn, xq, xk, xsp, xv⟩ := x
      simp only at d0 d1 d2 d3 d4
      have next : ¬ (xn = n ∧ xq ≤ q) → Hid (∀ (m : Nat) (y : Ent), m < k + 1 → xs[m]? = some y → ¬ (y.norm = n ∧ y.seq ≤ q)) := fun hno => Lib.hid fun m y hm hy => by
        rcases Nat.lt_or_ge m k with h | h
        · exact HG.out m y h hy
        · obtain rfl : m = k := by omega
          rw [HX.out] at hy
          obtain rfl := Option.some.inj hy
          exact hno
      by_cases h1 : xn = n
      · by_cases h2 : xq ≤ q
        · have HVE : Hid (V = some ⟨xn, xq, xk, xsp, xv⟩) := Lib.hid (by rw [← HV.out]; exact find_some HX.out ⟨h1, h2⟩ HG.out)
          subst h1
          have hnn := bs_refl xn
          clear next HG
          go_wp2
          refine bodyPost_ret (v := findV (some ⟨xn, xq, xk, xsp, xv⟩)) (by simp [results, Try.results16, go_sem, findV_some, z0, z1, z2, z3, z4]) rfl ⟨by rw [HVE.out], ?_⟩
          iterate 5 refine Below.setCell ?_ (by simp) _
          exact HB1.out
        · have HN2 := next (fun h => h2 h.2)
          subst h1
          have hnn := bs_refl xn
          clear next HG
          go_wp2
          go_roundg (len - (k + 1))
          case measure => omega
          case rel => exact ⟨k + 1, by go_num, by omega, Nat.le_refl _, rfl, HN2⟩
      · have HN2 := next (fun h => h1 h.1)
        have hnn := bs_ne h1
        clear next HG h1
        go_wp2
        go_roundg (len - (k + 1))
        case measure => omega
        case rel => exact ⟨k + 1, by go_num, by omega, Nat.le_refl _, rfl, HN2⟩
    · have HVE : Hid (V = none) := Lib.hid (by
        rw [← HV.out]; exact find_none fun m y hy => HG.out m y (by have := (List.getElem?_eq_some_iff.1 hy).1; have := HN.out; omega) hy)
      have hd : decide (k < len) = false := decide_eq_false hkl
      clear HG
      go_wp2
      refine bodyPost_ret (v := findV none) (by simp [results, Try.results16, go_sem, findV_none, z0, z1, z2, z3, z4]) rfl ⟨by rw [HVE.out], ?_⟩
      iterate 5 refine Below.setCell ?_ (by simp) _
      exact HB1.out
end Go.Proofs.Ytgofniepdpbciaa
