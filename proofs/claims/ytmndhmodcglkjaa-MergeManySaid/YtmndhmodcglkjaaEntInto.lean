/- The walk of the reference's Into: an entry comes into sorted ones. -/
import Derived.Test.YtmndhmodcglkjaaEntAll
import Derived.RegionTactic
import Derived.Deep.LoopGhost
import Derived.Deep.DeepCutAuto
namespace Go.Proofs.Ytmndhmodcglkjaa
set_option linter.unusedVariables false
open Go.RowKit
def IntoRes (ys : List Ent) (w : World) (e : Ending) (w' : World) : Prop := ∃ v, e = .returned v ∧ OwnK encEnt 5 28 w.heap.size w' v ys ∧ Below w.heap.size w w'
theorem sl_hm5 (W : World) (a : Option Addr) (n cap k : Nat) (h : k ≤ n) (hc : n ≤ cap) :
    (Instr.sliceAt 24 (.slice a n cap) none (some (.int .i64 (k : Int))) (some (.int .i64 (k : Int)))).run Try.prog W = .ok (.slice a k k) W := by
  have hT : Try.prog.underlying 24 = some (.slice (Try.prog.elem 24)) := by kernel_rfl
  have hS : (sizeOf (Try.prog.elem 24)).run Try.prog W = .ok 5 W := by kernel_rfl
  rw [run_sliceAt_slice (h := hT), run_slice_hm (w := W) (t := 24) (a := a) (len := n) (cap := cap) (ht := hT) (kh := .i64) (km := .i64) (h := k) (m := k) (h0 := by omega) (h2 := by omega) (h3 := by omega), hS]
  have e : a.map (·.add 0) = a := by
    cases a with
    | none => rfl
    | some a => obtain ⟨b, o, x⟩ := a; simp only [Option.map_some]; unfold Addr.add; split <;> simp_all
  simp [Result.andThen, sliced, e]
theorem sl_l5 (W : World) (a : Option Addr) (n cap k : Nat) (h : k ≤ n) (hc : n ≤ cap) :
    (Instr.sliceAt 24 (.slice a n cap) (some (.int .i64 (k : Int))) none none).run Try.prog W = .ok (.slice (if cap = k then a else a.map (·.add (k * 5))) (n - k) (cap - k)) W := by
  have hT : Try.prog.underlying 24 = some (.slice (Try.prog.elem 24)) := by kernel_rfl
  have hS : (sizeOf (Try.prog.elem 24)).run Try.prog W = .ok 5 W := by kernel_rfl
  rw [run_sliceAt_slice (h := hT), run_slice_l (w := W) (t := 24) (a := a) (len := n) (cap := cap) (ht := hT) (kl := .i64) (l := k) (h0 := by omega) (h1 := by omega), hS]
  simp [Result.andThen, sliced]
set_option maxHeartbeats 8000000 in
set_option maxRecDepth 100000 in
theorem into_any (a : Option Addr) (len cap : Nat) (xs : List Ent) (hl : xs.length ≤ 1000) (hlc : len ≤ cap) (hcm : cap ≤ maxLen) (x : Ent) (w : World) (hrd : RdK encEnt 5 w (.slice a len cap) xs) :
    Calls Try.prog 8 #[.slice a len cap, x.v] w (IntoRes (intoE x xs) w) := by
  obtain ⟨ZS, hZS⟩ : ∃ ZS, intoE x xs = ZS := ⟨_, rfl⟩
  have HZ := Lib.hid hZS
  have hlen : len = xs.length := by
    obtain ⟨a', l', c', e, h⟩ := rdK_len hrd
    simp only [Value.slice.injEq] at e
    omega
  rw [hZS]
  have HRD := Lib.hid hrd
  have HN := Lib.hid hlen
  have HCL : Hid (∀ (y : Ent) (w : World), Calls Try.prog 16 #[x.v, y.v] w fun e w' => e = .returned (.bool (ltB x y)) ∧ Below w.heap.size w w') := Lib.hid fun y w => rless_any x y w
  have HINS : Hid (∀ (W : World) (k : Nat), Below w.heap.size w W → k ≤ len → _) := Lib.hid fun W k hW hk => eins_run (HRD.out.below hW) hlen hW.size k hk (by omega) x
  have hlm : len ≤ 1000 := by omega
  unfold maxLen at hcm
  clear hZS hrd hlen hl
  obtain ⟨xn, xq, xk, xsp, xv⟩ := x
  unfold Ent.v
  go_enter Try.func8, Try.ntmps8
  go_wp2_with fail
  obtain ⟨w1, hw1⟩ : ∃ w1, w.alloc (.cells #[.string xn, .int .i64 xq, .int .i64 xk, .string xsp, .string xv] 28) = w1 := ⟨_, rfl⟩
  have HR5 : Hid (Row5 w1 w.heap.size (.string xn) (.int .i64 xq) (.int .i64 xk) (.string xsp) (.string xv) ∧ Below w.heap.size w w1) := Lib.hid (by rw [← hw1]; exact ⟨Row5.new w _ _ _ _ _ _, (Below.refl _ w).alloc (Nat.le_refl _) _⟩)
  rw [hw1]
  clear hw1
  go_loopg [5] len (fun kk vi wr => ∃ i : Nat, vi = .int .i64 i ∧ i ≤ len ∧ len - i ≤ kk ∧ Hid (Below w1.heap.size w1 wr) ∧ Hid (∀ (m : Nat) (y : Ent), m < i → xs[m]? = some y → ¬ ltE ⟨xn, xq, xk, xsp, xv⟩ y))
  case atStart => exact ⟨0, rfl, by omega, by omega, Lib.hid (Below.refl _ _), Lib.hid fun m y h => by omega⟩
  case round =>
    obtain ⟨k, rfl, hk1, hkk, HB, HG⟩ := hrel
    have hk0 : (0 : Int) ≤ (k : Int) := by omega
    have HR6 := Lib.hid (HR5.out.1.below HB.out HR5.out.1.2.2)
    have HBW : Hid (Below w.heap.size w wr) := Lib.hid (HR5.out.2.trans (HB.out.mono HR5.out.2.size))
    have hEnd : ∀ w2, Below wr.heap.size wr w2 → (k = len ∨ ∃ y, xs[k]? = some y ∧ ltE ⟨xn, xq, xk, xsp, xv⟩ y) → Hid (Below w.heap.size w w2 ∧ Row5 w2 w.heap.size (.string xn) (.int .i64 xq) (.int .i64 xk) (.string xsp) (.string xv) ∧ ZS = xs.take k ++ ⟨xn, xq, xk, xsp, xv⟩ :: xs.drop k) := fun w2 hb he => Lib.hid
      ⟨HBW.out.trans (hb.mono HBW.out.size), HR6.out.below hb HR6.out.2.2, by
        rw [← HZ.out]
        refine intoE_at xs _ k (fun j y hj hy => HG.out j y hj hy) (fun y hy => ?_) (by have := HN.out; omega)
        rcases he with he | ⟨y', hy', hlt⟩
        · have := (List.getElem?_eq_some_iff.1 hy).1; have := HN.out; omega
        · rw [hy] at hy'; rw [Option.some.inj hy']; exact hlt⟩
    by_cases hkl : k < len
    · have hkn : decide (k < len) = true := decide_eq_true hkl
      have hki : (k : Int) < (len : Int) := by omega
      obtain ⟨y, hy⟩ : ∃ y, xs[k]? = some y := ⟨xs[k]'(by have := HN.out; omega), List.getElem?_eq_getElem _⟩
      obtain ⟨b, off, rfl, hblt, c1⟩ := (HRD.out.below HBW.out).at5 HN.out k y hy
      have C1 := Lib.hid c1
      obtain ⟨r, hr⟩ : ∃ r, ltB ⟨xn, xq, xk, xsp, xv⟩ y = r := ⟨_, rfl⟩
      have HC : Hid (∀ w, Calls Try.prog 16 #[(⟨xn, xq, xk, xsp, xv⟩ : Ent).v, y.v] w fun e w' => e = .returned (.bool r) ∧ Below w.heap.size w w') := Lib.hid fun w => by rw [← hr]; exact HCL.out y w
      have hEndT : r = true → ∀ w2, Below wr.heap.size wr w2 → _ := fun h w2 hb => hEnd w2 hb (.inr ⟨y, hy, of_decide_eq_true (by rw [← h]; exact hr)⟩)
      have HT := Lib.hid hEndT
      have HF : Hid (r = false → ∀ (m : Nat) (z : Ent), m < k + 1 → xs[m]? = some z → ¬ ltE ⟨xn, xq, xk, xsp, xv⟩ z) := Lib.hid fun h m z hm hz => by
        rcases Nat.lt_or_ge m k with h1 | h1
        · exact HG.out m z h1 hz
        · obtain rfl : m = k := by omega
          rw [hy] at hz
          obtain rfl := Option.some.inj hz
          exact of_decide_eq_false (by rw [← h]; exact hr)
      obtain ⟨yn, yq, yk, ysp, yv⟩ := y
      clear hy hr c1 hEnd hEndT
      go_wp2_with fail
      refine wp_region_held_drew (S := Below wr.heap.size wr) (by kernel_rfl) (Below.refl _ _).drew (fun hHeld => ?_)
      refine takeYes (i := 0) (k := 6) (v := .int .i64 (k : Int)) rfl (by kernel_rfl) (by kernel_rfl) (by kernel_rfl) (by kernel_rfl) (fun _ _ _ h => h) (by kernel_rfl) ?_ (by assumption) ?_
      · intro W hSw; first | (go_simp; done) | go_simp
      try simp only [Act.put, List.setIfInBounds_toArray, List.set_cons_zero, List.set_cons_succ]
      refine takeYes (i := 1) (k := 7) (v := .slice (some ⟨b, off, none⟩) len cap) rfl (by kernel_rfl) (by kernel_rfl) (by kernel_rfl) (by kernel_rfl) (fun _ _ _ h => h) (by kernel_rfl) ?_ (by assumption) ?_
      · intro W hSw; first | (go_simp; done) | go_simp
      try simp only [Act.put, List.setIfInBounds_toArray, List.set_cons_zero, List.set_cons_succ]
      refine takeYes (i := 2) (k := 8) (v := .int .i64 (len : Int)) rfl (by kernel_rfl) (by kernel_rfl) (by kernel_rfl) (by kernel_rfl) (fun _ _ _ h => h) (by kernel_rfl) ?_ (by assumption) ?_
      · intro W hSw; first | (go_simp; done) | go_simp
      try simp only [Act.put, List.setIfInBounds_toArray, List.set_cons_zero, List.set_cons_succ]
      refine takeYes (i := 3) (k := 9) (v := .bool true) rfl (by kernel_rfl) (by kernel_rfl) (by kernel_rfl) (by kernel_rfl) (fun _ _ _ h => h) (by kernel_rfl) ?_ (by assumption) ?_
      · intro W hSw; first | (go_simp; done) | go_simp
      try simp only [Act.put, List.setIfInBounds_toArray, List.set_cons_zero, List.set_cons_succ]
      refine takeYes (i := 4) (k := 10) (v := .bool true) rfl (by kernel_rfl) (by kernel_rfl) (by kernel_rfl) (by kernel_rfl) (fun _ _ _ h => h) (by kernel_rfl) ?_ (by assumption) ?_
      · intro W hSw; first | (go_simp; done) | go_simp
      try simp only [Act.put, List.setIfInBounds_toArray, List.set_cons_zero, List.set_cons_succ]
      refine takeYes (i := 5) (k := 11) (v := .agg #[.string xn, .int .i64 xq, .int .i64 xk, .string xsp, .string xv]) rfl (by kernel_rfl) (by kernel_rfl) (by kernel_rfl) (by kernel_rfl) (fun _ _ _ h => h) (by kernel_rfl) ?_ (by assumption) ?_
      · intro W hSw; obtain ⟨⟨d0, d1, d2, d3, d4⟩, -, -⟩ := HR6.out.below hSw HR6.out.2.2; first | (go_simp; done) | go_simp
      try simp only [Act.put, List.setIfInBounds_toArray, List.set_cons_zero, List.set_cons_succ]
      refine takeYes (i := 6) (k := 12) (v := .slice (some ⟨b, off, none⟩) len cap) rfl (by kernel_rfl) (by kernel_rfl) (by kernel_rfl) (by kernel_rfl) (fun _ _ _ h => h) (by kernel_rfl) ?_ (by assumption) ?_
      · intro W hSw; first | (go_simp; done) | go_simp
      try simp only [Act.put, List.setIfInBounds_toArray, List.set_cons_zero, List.set_cons_succ]
      refine takeYes (i := 7) (k := 13) (v := .int .i64 (k : Int)) rfl (by kernel_rfl) (by kernel_rfl) (by kernel_rfl) (by kernel_rfl) (fun _ _ _ h => h) (by kernel_rfl) ?_ (by assumption) ?_
      · intro W hSw; first | (go_simp; done) | go_simp
      try simp only [Act.put, List.setIfInBounds_toArray, List.set_cons_zero, List.set_cons_succ]
      refine takeYes (i := 8) (k := 14) (v := .pointer (some ⟨b, off + k * 5, none⟩)) rfl (by kernel_rfl) (by kernel_rfl) (by kernel_rfl) (by kernel_rfl) (fun _ _ _ h => h) (by kernel_rfl) ?_ (by assumption) ?_
      · intro W hSw; first | (go_simp; done) | go_simp
      try simp only [Act.put, List.setIfInBounds_toArray, List.set_cons_zero, List.set_cons_succ]
      refine takeYes (i := 9) (k := 15) (v := .agg #[.string yn, .int .i64 yq, .int .i64 yk, .string ysp, .string yv]) rfl (by kernel_rfl) (by kernel_rfl) (by kernel_rfl) (by kernel_rfl) (fun _ _ _ h => h) (by kernel_rfl) ?_ (by assumption) ?_
      · intro W hSw; obtain ⟨d0, d1, d2, d3, d4⟩ := C1.out.under hblt hSw; first | (go_simp; done) | go_simp
      try simp only [Act.put, List.setIfInBounds_toArray, List.set_cons_zero, List.set_cons_succ]
      refine wpAnyH_ready (rs := [10]) (by kernel_rfl) (by simp) (AllReadyH.cons rfl (fun K hK => ?_) AllReadyH.nil)
      go_simp
      refine (HC.out _).mono ?_
      rintro e w3 ⟨rfl, hb⟩
      have hb3 : Below wr.heap.size wr w3 := hHeld.trans (hb.mono (by simp))
      refine hK.out _ _ hb3 (fun hHeld2 => ?_)
      clear hK K hHeld hb
      try simp only [Act.put, List.setIfInBounds_toArray, List.set_cons_zero, List.set_cons_succ]
      have HB3 := Lib.hid (HB.out.trans (hb3.mono HB.out.size))
      cases r
      · refine takeYes (i := 11) (k := 17) (v := .bool true) rfl (by kernel_rfl) (by kernel_rfl) (by kernel_rfl) (by kernel_rfl) (fun _ _ _ h => h) (by kernel_rfl) ?_ (by assumption) ?_
        · intro W hSw; first | (go_simp; done) | go_simp
        try simp only [Act.put, List.setIfInBounds_toArray, List.set_cons_zero, List.set_cons_succ]
        refine takeYes (i := 12) (k := 18) (v := .bool true) rfl (by kernel_rfl) (by kernel_rfl) (by kernel_rfl) (by kernel_rfl) (fun _ _ _ h => h) (by kernel_rfl) ?_ (by assumption) ?_
        · intro W hSw; first | (go_simp; done) | go_simp
        try simp only [Act.put, List.setIfInBounds_toArray, List.set_cons_zero, List.set_cons_succ]
        refine wpAnyH_done (by kernel_rfl) ?_ _
        have HE := Lib.hid (HF.out rfl)
        clear HF HT HC hb3 hHeld2
        go_wp2_with fail
        go_roundg (len - (k + 1))
        case measure => omega
        case rel => exact ⟨k + 1, by go_num, by omega, Nat.le_refl _, HB3, HE⟩
      · refine takeYes (i := 11) (k := 17) (v := .bool false) rfl (by kernel_rfl) (by kernel_rfl) (by kernel_rfl) (by kernel_rfl) (fun _ _ _ h => h) (by kernel_rfl) ?_ (by assumption) ?_
        · intro W hSw; first | (go_simp; done) | go_simp
        try simp only [Act.put, List.setIfInBounds_toArray, List.set_cons_zero, List.set_cons_succ]
        refine takeYes (i := 12) (k := 18) (v := .bool false) rfl (by kernel_rfl) (by kernel_rfl) (by kernel_rfl) (by kernel_rfl) (fun _ _ _ h => h) (by kernel_rfl) ?_ (by assumption) ?_
        · intro W hSw; first | (go_simp; done) | go_simp
        try simp only [Act.put, List.setIfInBounds_toArray, List.set_cons_zero, List.set_cons_succ]
        refine wpAnyH_done (by kernel_rfl) ?_ _
        have HE := HT.out rfl w3 hb3
        clear HF HT HC hb3 hHeld2
        go_wp2_with fail
        have HS1 : Hid (∀ W, (Instr.sliceAt 24 (.slice (some ⟨b, off, none⟩) len cap) none (some (.int .i64 (k : Int))) (some (.int .i64 (k : Int)))).run Try.prog W = .ok (.slice (some ⟨b, off, none⟩) k k) W) := Lib.hid fun W => sl_hm5 W _ len cap k hk1 hlc
        have HS2 : Hid (∀ W, (Instr.sliceAt 24 (.slice (some ⟨b, off, none⟩) len cap) (some (.int .i64 (k : Int))) none none).run Try.prog W = .ok (.slice (if cap = k then (some ⟨b, off, none⟩) else ((some ⟨b, off, none⟩) : Option Addr).map (·.add (k * 5))) (len - k) (cap - k)) W) := Lib.hid fun W => sl_l5 W _ len cap k hk1 hlc
        have HIN := Lib.hid (HINS.out w3 k HE.out.1 hk1)
        obtain ⟨T, hT⟩ : ∃ T : Value, Value.slice (if cap = k then (some ⟨b, off, none⟩) else ((some ⟨b, off, none⟩) : Option Addr).map (·.add (k * 5))) (len - k) (cap - k) = T := ⟨_, rfl⟩
        rw [hT] at HS2 HIN
        clear hT
        refine wp_region_held_drew (S := Below w3.heap.size w3) (by kernel_rfl) (Below.refl _ _).drew (fun hHeld => ?_)
        refine takeYes (i := 0) (k := 21) (v := .slice (some ⟨b, off, none⟩) len cap) rfl (by kernel_rfl) (by kernel_rfl) (by kernel_rfl) (by kernel_rfl) (fun _ _ _ h => h) (by kernel_rfl) ?_ (by assumption) ?_
        · intro W hSw; first | (go_simp; done) | go_simp
        try simp only [Act.put, List.setIfInBounds_toArray, List.set_cons_zero, List.set_cons_succ]
        refine takeYes (i := 1) (k := 22) (v := .int .i64 (k : Int)) rfl (by kernel_rfl) (by kernel_rfl) (by kernel_rfl) (by kernel_rfl) (fun _ _ _ h => h) (by kernel_rfl) ?_ (by assumption) ?_
        · intro W hSw; first | (go_simp; done) | go_simp
        try simp only [Act.put, List.setIfInBounds_toArray, List.set_cons_zero, List.set_cons_succ]
        refine takeYes (i := 2) (k := 23) (v := .int .i64 (k : Int)) rfl (by kernel_rfl) (by kernel_rfl) (by kernel_rfl) (by kernel_rfl) (fun _ _ _ h => h) (by kernel_rfl) ?_ (by assumption) ?_
        · intro W hSw; first | (go_simp; done) | go_simp
        try simp only [Act.put, List.setIfInBounds_toArray, List.set_cons_zero, List.set_cons_succ]
        refine takeYes (i := 3) (k := 24) (v := .slice (some ⟨b, off, none⟩) k k) rfl (by kernel_rfl) (by kernel_rfl) (by kernel_rfl) (by kernel_rfl) (fun _ _ _ h => h) (by kernel_rfl) ?_ (by assumption) ?_
        · intro W hSw; have hsl := HS1.out W; first | (go_simp; done) | go_simp
        try simp only [Act.put, List.setIfInBounds_toArray, List.set_cons_zero, List.set_cons_succ]
        refine takeYes (i := 4) (k := 25) (v := .agg #[.string xn, .int .i64 xq, .int .i64 xk, .string xsp, .string xv]) rfl (by kernel_rfl) (by kernel_rfl) (by kernel_rfl) (by kernel_rfl) (fun _ _ _ h => h) (by kernel_rfl) ?_ (by assumption) ?_
        · intro W hSw; obtain ⟨⟨d0, d1, d2, d3, d4⟩, -, -⟩ := HE.out.2.1.below hSw HE.out.2.1.2.2; first | (go_simp; done) | go_simp
        try simp only [Act.put, List.setIfInBounds_toArray, List.set_cons_zero, List.set_cons_succ]
        refine takeYes (i := 6) (k := 27) (v := .slice (some ⟨b, off, none⟩) len cap) rfl (by kernel_rfl) (by kernel_rfl) (by kernel_rfl) (by kernel_rfl) (fun _ _ _ h => h) (by kernel_rfl) ?_ (by assumption) ?_
        · intro W hSw; first | (go_simp; done) | go_simp
        try simp only [Act.put, List.setIfInBounds_toArray, List.set_cons_zero, List.set_cons_succ]
        refine takeYes (i := 7) (k := 28) (v := .int .i64 (k : Int)) rfl (by kernel_rfl) (by kernel_rfl) (by kernel_rfl) (by kernel_rfl) (fun _ _ _ h => h) (by kernel_rfl) ?_ (by assumption) ?_
        · intro W hSw; first | (go_simp; done) | go_simp
        try simp only [Act.put, List.setIfInBounds_toArray, List.set_cons_zero, List.set_cons_succ]
        refine takeYes (i := 8) (k := 29) (v := T) rfl (by kernel_rfl) (by kernel_rfl) (by kernel_rfl) (by kernel_rfl) (fun _ _ _ h => h) (by kernel_rfl) ?_ (by assumption) ?_
        · intro W hSw; have hsl := HS2.out W; first | (go_simp; done) | go_simp
        try simp only [Act.put, List.setIfInBounds_toArray, List.set_cons_zero, List.set_cons_succ]
        obtain ⟨v1, w4, r1, b1, v2, w5, r2, b2, o2⟩ := HIN.out
        refine wpAnyH_ready (rs := [5]) (by kernel_rfl) (by simp) (AllReadyH.cons rfl (fun K hK => ?_) AllReadyH.nil)
        go_simp
        refine hK.out _ _ ((Below.refl _ w3).alloc (Nat.le_refl _) _).drew (fun hHeld2 => ?_)
        clear hK K hHeld
        try simp only [Act.put, List.setIfInBounds_toArray, List.set_cons_zero, List.set_cons_succ]
        refine wpAnyH_ready (rs := [9]) (by kernel_rfl) (by simp) (AllReadyH.cons rfl (fun K hK => ?_) AllReadyH.nil)
        refine step_appD 30 rfl (by kernel_rfl) (.tmp 26) (.tmp 29) 24 rfl rfl rfl r1 ?_
        refine hK.out _ _ b1 (fun hHeld2 => ?_)
        clear hK K
        try simp only [Act.put, List.setIfInBounds_toArray, List.set_cons_zero, List.set_cons_succ]
        refine wpAnyH_ready (rs := [10]) (by kernel_rfl) (by simp) (AllReadyH.cons rfl (fun K hK => ?_) AllReadyH.nil)
        refine step_appD 31 rfl (by kernel_rfl) (.tmp 24) (.tmp 30) 24 rfl rfl rfl r2 ?_
        refine hK.out _ _ b2 (fun hHeld2 => ?_)
        clear hK K
        try simp only [Act.put, List.setIfInBounds_toArray, List.set_cons_zero, List.set_cons_succ]
        refine takeYes (i := 11) (k := 4) (v := v2) rfl (by kernel_rfl) (by kernel_rfl) (by kernel_rfl) (by kernel_rfl) (fun _ _ _ h => h) (by kernel_rfl) ?_ (by assumption) ?_
        · intro W hSw; first | (go_simp; done) | go_simp
        try simp only [Act.put, List.setIfInBounds_toArray, List.set_cons_zero, List.set_cons_succ]
        refine wpAnyH_done (by kernel_rfl) ?_ _
        have HO : Hid (OwnK encEnt 5 28 w.heap.size w5 v2 ZS ∧ Below w.heap.size w w5) := Lib.hid ⟨by rw [HE.out.2.2]; exact o2, HE.out.1.trans (b2.mono HE.out.1.size)⟩
        clear r1 r2 b1 b2 o2 HS1 HS2 HIN HE
        go_wp2_with fail
        go_ret
        exact ⟨_, rfl, HO.out.1, HO.out.2⟩
    · have hkn : decide (k < len) = false := decide_eq_false hkl
      have hkl2 : k = len := by omega
      go_wp2_with fail
      refine wp_region_held_drew (S := Below wr.heap.size wr) (by kernel_rfl) (Below.refl _ _).drew (fun hHeld => ?_)
      refine takeYes (i := 0) (k := 6) (v := .int .i64 (k : Int)) rfl (by kernel_rfl) (by kernel_rfl) (by kernel_rfl) (by kernel_rfl) (fun _ _ _ h => h) (by kernel_rfl) ?_ (by assumption) ?_
      · intro W hSw; first | (go_simp; done) | go_simp
      try simp only [Act.put, List.setIfInBounds_toArray, List.set_cons_zero, List.set_cons_succ]
      refine takeYes (i := 1) (k := 7) (v := .slice a len cap) rfl (by kernel_rfl) (by kernel_rfl) (by kernel_rfl) (by kernel_rfl) (fun _ _ _ h => h) (by kernel_rfl) ?_ (by assumption) ?_
      · intro W hSw; first | (go_simp; done) | go_simp
      try simp only [Act.put, List.setIfInBounds_toArray, List.set_cons_zero, List.set_cons_succ]
      refine takeYes (i := 2) (k := 8) (v := .int .i64 (len : Int)) rfl (by kernel_rfl) (by kernel_rfl) (by kernel_rfl) (by kernel_rfl) (fun _ _ _ h => h) (by kernel_rfl) ?_ (by assumption) ?_
      · intro W hSw; first | (go_simp; done) | go_simp
      try simp only [Act.put, List.setIfInBounds_toArray, List.set_cons_zero, List.set_cons_succ]
      refine takeYes (i := 3) (k := 9) (v := .bool false) rfl (by kernel_rfl) (by kernel_rfl) (by kernel_rfl) (by kernel_rfl) (fun _ _ _ h => h) (by kernel_rfl) ?_ (by assumption) ?_
      · intro W hSw; first | (go_simp; done) | go_simp
      try simp only [Act.put, List.setIfInBounds_toArray, List.set_cons_zero, List.set_cons_succ]
      refine takeYes (i := 4) (k := 10) (v := .bool false) rfl (by kernel_rfl) (by kernel_rfl) (by kernel_rfl) (by kernel_rfl) (fun _ _ _ h => h) (by kernel_rfl) ?_ (by assumption) ?_
      · intro W hSw; first | (go_simp; done) | go_simp
      try simp only [Act.put, List.setIfInBounds_toArray, List.set_cons_zero, List.set_cons_succ]
      refine takeNot (i := 5) (k := 11) (by kernel_rfl) (by kernel_rfl) (by kernel_rfl) (by kernel_rfl) (fun _ _ _ h => h) (by kernel_rfl) (by assumption) ?_
      try simp only [Act.put, List.setIfInBounds_toArray, List.set_cons_zero, List.set_cons_succ]
      refine takeNot (i := 6) (k := 12) (by kernel_rfl) (by kernel_rfl) (by kernel_rfl) (by kernel_rfl) (fun _ _ _ h => h) (by kernel_rfl) (by assumption) ?_
      try simp only [Act.put, List.setIfInBounds_toArray, List.set_cons_zero, List.set_cons_succ]
      refine takeNot (i := 7) (k := 13) (by kernel_rfl) (by kernel_rfl) (by kernel_rfl) (by kernel_rfl) (fun _ _ _ h => h) (by kernel_rfl) (by assumption) ?_
      try simp only [Act.put, List.setIfInBounds_toArray, List.set_cons_zero, List.set_cons_succ]
      refine takeNot (i := 8) (k := 14) (by kernel_rfl) (by kernel_rfl) (by kernel_rfl) (by kernel_rfl) (fun _ _ _ h => h) (by kernel_rfl) (by assumption) ?_
      try simp only [Act.put, List.setIfInBounds_toArray, List.set_cons_zero, List.set_cons_succ]
      refine takeNot (i := 9) (k := 15) (by kernel_rfl) (by kernel_rfl) (by kernel_rfl) (by kernel_rfl) (fun _ _ _ h => h) (by kernel_rfl) (by assumption) ?_
      try simp only [Act.put, List.setIfInBounds_toArray, List.set_cons_zero, List.set_cons_succ]
      refine takeNot (i := 10) (k := 16) (by kernel_rfl) (by kernel_rfl) (by kernel_rfl) (by kernel_rfl) (fun _ _ _ h => h) (by kernel_rfl) (by assumption) ?_
      try simp only [Act.put, List.setIfInBounds_toArray, List.set_cons_zero, List.set_cons_succ]
      refine takeNot (i := 11) (k := 17) (by kernel_rfl) (by kernel_rfl) (by kernel_rfl) (by kernel_rfl) (fun _ _ _ h => h) (by kernel_rfl) (by assumption) ?_
      try simp only [Act.put, List.setIfInBounds_toArray, List.set_cons_zero, List.set_cons_succ]
      refine takeYes (i := 12) (k := 18) (v := .bool false) rfl (by kernel_rfl) (by kernel_rfl) (by kernel_rfl) (by kernel_rfl) (fun _ _ _ h => h) (by kernel_rfl) ?_ (by assumption) ?_
      · intro W hSw; first | (go_simp; done) | go_simp
      try simp only [Act.put, List.setIfInBounds_toArray, List.set_cons_zero, List.set_cons_succ]
      refine wpAnyH_done (by kernel_rfl) ?_ _
      obtain ⟨w3, hw3⟩ : ∃ w3, wr.drew = w3 := ⟨_, rfl⟩
      rw [hw3] at hHeld ⊢
      have HE := hEnd w3 hHeld (.inl hkl2)
      clear hw3 hHeld hkl2
      clear hEnd
      go_wp2_with fail
      have HS1 : Hid (∀ W, (Instr.sliceAt 24 (.slice a len cap) none (some (.int .i64 (k : Int))) (some (.int .i64 (k : Int)))).run Try.prog W = .ok (.slice a k k) W) := Lib.hid fun W => sl_hm5 W _ len cap k hk1 hlc
      have HS2 : Hid (∀ W, (Instr.sliceAt 24 (.slice a len cap) (some (.int .i64 (k : Int))) none none).run Try.prog W = .ok (.slice (if cap = k then a else (a : Option Addr).map (·.add (k * 5))) (len - k) (cap - k)) W) := Lib.hid fun W => sl_l5 W _ len cap k hk1 hlc
      have HIN := Lib.hid (HINS.out w3 k HE.out.1 hk1)
      obtain ⟨T, hT⟩ : ∃ T : Value, Value.slice (if cap = k then a else (a : Option Addr).map (·.add (k * 5))) (len - k) (cap - k) = T := ⟨_, rfl⟩
      rw [hT] at HS2 HIN
      clear hT
      refine wp_region_held_drew (S := Below w3.heap.size w3) (by kernel_rfl) (Below.refl _ _).drew (fun hHeld => ?_)
      refine takeYes (i := 0) (k := 21) (v := .slice a len cap) rfl (by kernel_rfl) (by kernel_rfl) (by kernel_rfl) (by kernel_rfl) (fun _ _ _ h => h) (by kernel_rfl) ?_ (by assumption) ?_
      · intro W hSw; first | (go_simp; done) | go_simp
      try simp only [Act.put, List.setIfInBounds_toArray, List.set_cons_zero, List.set_cons_succ]
      refine takeYes (i := 1) (k := 22) (v := .int .i64 (k : Int)) rfl (by kernel_rfl) (by kernel_rfl) (by kernel_rfl) (by kernel_rfl) (fun _ _ _ h => h) (by kernel_rfl) ?_ (by assumption) ?_
      · intro W hSw; first | (go_simp; done) | go_simp
      try simp only [Act.put, List.setIfInBounds_toArray, List.set_cons_zero, List.set_cons_succ]
      refine takeYes (i := 2) (k := 23) (v := .int .i64 (k : Int)) rfl (by kernel_rfl) (by kernel_rfl) (by kernel_rfl) (by kernel_rfl) (fun _ _ _ h => h) (by kernel_rfl) ?_ (by assumption) ?_
      · intro W hSw; first | (go_simp; done) | go_simp
      try simp only [Act.put, List.setIfInBounds_toArray, List.set_cons_zero, List.set_cons_succ]
      refine takeYes (i := 3) (k := 24) (v := .slice a k k) rfl (by kernel_rfl) (by kernel_rfl) (by kernel_rfl) (by kernel_rfl) (fun _ _ _ h => h) (by kernel_rfl) ?_ (by assumption) ?_
      · intro W hSw; have hsl := HS1.out W; first | (go_simp; done) | go_simp
      try simp only [Act.put, List.setIfInBounds_toArray, List.set_cons_zero, List.set_cons_succ]
      refine takeYes (i := 4) (k := 25) (v := .agg #[.string xn, .int .i64 xq, .int .i64 xk, .string xsp, .string xv]) rfl (by kernel_rfl) (by kernel_rfl) (by kernel_rfl) (by kernel_rfl) (fun _ _ _ h => h) (by kernel_rfl) ?_ (by assumption) ?_
      · intro W hSw; obtain ⟨⟨d0, d1, d2, d3, d4⟩, -, -⟩ := HE.out.2.1.below hSw HE.out.2.1.2.2; first | (go_simp; done) | go_simp
      try simp only [Act.put, List.setIfInBounds_toArray, List.set_cons_zero, List.set_cons_succ]
      refine takeYes (i := 6) (k := 27) (v := .slice a len cap) rfl (by kernel_rfl) (by kernel_rfl) (by kernel_rfl) (by kernel_rfl) (fun _ _ _ h => h) (by kernel_rfl) ?_ (by assumption) ?_
      · intro W hSw; first | (go_simp; done) | go_simp
      try simp only [Act.put, List.setIfInBounds_toArray, List.set_cons_zero, List.set_cons_succ]
      refine takeYes (i := 7) (k := 28) (v := .int .i64 (k : Int)) rfl (by kernel_rfl) (by kernel_rfl) (by kernel_rfl) (by kernel_rfl) (fun _ _ _ h => h) (by kernel_rfl) ?_ (by assumption) ?_
      · intro W hSw; first | (go_simp; done) | go_simp
      try simp only [Act.put, List.setIfInBounds_toArray, List.set_cons_zero, List.set_cons_succ]
      refine takeYes (i := 8) (k := 29) (v := T) rfl (by kernel_rfl) (by kernel_rfl) (by kernel_rfl) (by kernel_rfl) (fun _ _ _ h => h) (by kernel_rfl) ?_ (by assumption) ?_
      · intro W hSw; have hsl := HS2.out W; first | (go_simp; done) | go_simp
      try simp only [Act.put, List.setIfInBounds_toArray, List.set_cons_zero, List.set_cons_succ]
      obtain ⟨v1, w4, r1, b1, v2, w5, r2, b2, o2⟩ := HIN.out
      refine wpAnyH_ready (rs := [5]) (by kernel_rfl) (by simp) (AllReadyH.cons rfl (fun K hK => ?_) AllReadyH.nil)
      go_simp
      refine hK.out _ _ ((Below.refl _ w3).alloc (Nat.le_refl _) _).drew (fun hHeld2 => ?_)
      clear hK K hHeld
      try simp only [Act.put, List.setIfInBounds_toArray, List.set_cons_zero, List.set_cons_succ]
      refine wpAnyH_ready (rs := [9]) (by kernel_rfl) (by simp) (AllReadyH.cons rfl (fun K hK => ?_) AllReadyH.nil)
      refine step_appD 30 rfl (by kernel_rfl) (.tmp 26) (.tmp 29) 24 rfl rfl rfl r1 ?_
      refine hK.out _ _ b1 (fun hHeld2 => ?_)
      clear hK K
      try simp only [Act.put, List.setIfInBounds_toArray, List.set_cons_zero, List.set_cons_succ]
      refine wpAnyH_ready (rs := [10]) (by kernel_rfl) (by simp) (AllReadyH.cons rfl (fun K hK => ?_) AllReadyH.nil)
      refine step_appD 31 rfl (by kernel_rfl) (.tmp 24) (.tmp 30) 24 rfl rfl rfl r2 ?_
      refine hK.out _ _ b2 (fun hHeld2 => ?_)
      clear hK K
      try simp only [Act.put, List.setIfInBounds_toArray, List.set_cons_zero, List.set_cons_succ]
      refine takeYes (i := 11) (k := 4) (v := v2) rfl (by kernel_rfl) (by kernel_rfl) (by kernel_rfl) (by kernel_rfl) (fun _ _ _ h => h) (by kernel_rfl) ?_ (by assumption) ?_
      · intro W hSw; first | (go_simp; done) | go_simp
      try simp only [Act.put, List.setIfInBounds_toArray, List.set_cons_zero, List.set_cons_succ]
      refine wpAnyH_done (by kernel_rfl) ?_ _
      have HO : Hid (OwnK encEnt 5 28 w.heap.size w5 v2 ZS ∧ Below w.heap.size w w5) := Lib.hid ⟨by rw [HE.out.2.2]; exact o2, HE.out.1.trans (b2.mono HE.out.1.size)⟩
      clear r1 r2 b1 b2 o2 HS1 HS2 HIN HE
      go_wp2_with fail
      go_ret
      exact ⟨_, rfl, HO.out.1, HO.out.2⟩
end Go.Proofs.Ytmndhmodcglkjaa
