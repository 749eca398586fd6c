/- The list's laws: ListVersions. -/
import Derived.Test.YtacaofnonmgfoaaSkipNm
import Derived.Test.YtacaofnonmgfoaaRegTail
import Derived.Deep.DeepCutAuto
namespace Go.Proofs.Ytacaofnonmgfoaa
set_option linter.unusedVariables false
open Go.RowKit
/-- What is put at a place. -/
def eV (K a : Nat) : Ent := ⟨nmB (a % K), ((a / K : Nat) : Int) + 1, 1, ⟨#[]⟩, ⟨#[]⟩⟩
def esV (K : Nat) (l : List Nat) : List Ent := l.map (eV K)
theorem esV_snoc (K : Nat) (l : List Nat) (a : Nat) : esV K (l ++ [a]) = esV K l ++ [eV K a] := by unfold esV; rw [List.map_append]; rfl
theorem esV_small (K : Nat) (l : List Nat) : (putAll (esV K l)).length ≤ l.length ∧ szA (putAll (esV K l)) ≤ 33 * l.length := by
  have := putAll_small (K := 33) (es := esV K l) fun e he => by
    obtain ⟨j, -, rfl⟩ := List.mem_map.1 he
    exact Nat.le_refl _
  rwa [show (esV K l).length = l.length from List.length_map _] at this
theorem keyV {K a b : Nat} (h0 : 0 < K) (hK : K ≤ 12) : keyE (eV K a) = keyE (eV K b) ↔ a = b := by
  constructor
  · intro h
    have h1 : nmB (a % K) = nmB (b % K) := congrArg Prod.fst h
    have h2 : ((a / K : Nat) : Int) + 1 = ((b / K : Nat) : Int) + 1 := congrArg Prod.snd h
    have h3 := nmB_inj (by have := Nat.mod_lt a h0; omega) (by have := Nat.mod_lt b h0; omega) h1
    have h4 : a / K = b / K := by omega
    rw [← Nat.div_add_mod a K, ← Nat.div_add_mod b K, h3, h4]
  · rintro rfl; rfl
theorem putV {K : Nat} (h0 : 0 < K) (hK : K ≤ 12) (l : List Nat) (a : Nat) : putB (putAll (esV K l)) (eV K a) = !decide (a ∈ l) := by
  have hi : (∃ x ∈ putAll (esV K l), likeE x (eV K a)) ↔ a ∈ l := by
    have h1 : (∃ x ∈ putAll (esV K l), likeE x (eV K a)) ↔ keyE (eV K a) ∈ (putAll (esV K l)).map keyE := by
      rw [List.mem_map]
      constructor
      · rintro ⟨x, hx, h1, h2⟩; exact ⟨x, hx, by unfold keyE; rw [h1, h2]⟩
      · rintro ⟨x, hx, h⟩; exact ⟨x, hx, congrArg Prod.fst h, congrArg Prod.snd h⟩
    rw [h1, putAll_key, List.mem_map]
    constructor
    · rintro ⟨x, hx, h⟩
      obtain ⟨b, hb, rfl⟩ := List.mem_map.1 hx
      rw [← (keyV h0 hK).1 h]; exact hb
    · exact fun h => ⟨_, List.mem_map.2 ⟨a, h, rfl⟩, rfl⟩
  unfold putB
  by_cases h : a ∈ l
  · rw [decide_eq_true h, decide_eq_false (show ¬ ¬ ∃ x ∈ putAll (esV K l), likeE x (eV K a) from fun hn => hn (hi.2 h))]; rfl
  · rw [decide_eq_false h, decide_eq_true (show ¬ ∃ x ∈ putAll (esV K l), likeE x (eV K a) from fun hn => h (hi.1 hn))]; rfl
/-- Place v of key k is there and may be seen. -/
def okV (K : Nat) (l : List Nat) (q : Int) (k v : Nat) : Prop := v * K + k ∈ l ∧ (v : Int) + 1 ≤ q
instance (K : Nat) (l : List Nat) (q : Int) (k v : Nat) : Decidable (okV K l q k v) := inferInstanceAs (Decidable (_ ∧ _))
/-- What the law reckons. -/
def wantV (K : Nat) (l : List Nat) (q : Int) (k : Nat) : Nat → Nat
  | 0 => 0
  | v + 1 => if okV K l q k v then v + 1 else wantV K l q k v
theorem wantV_is (K : Nat) (l : List Nat) (q : Int) (k : Nat) : ∀ V, (wantV K l q k V = 0 ∧ ∀ v, v < V → ¬ okV K l q k v) ∨ ∃ v, v < V ∧ wantV K l q k V = v + 1 ∧ okV K l q k v ∧ ∀ u, u < V → okV K l q k u → u ≤ v
  | 0 => .inl ⟨rfl, fun v h => by omega⟩
  | V + 1 => by
    unfold wantV
    split
    · rename_i h
      exact .inr ⟨V, by omega, rfl, h, fun u hu _ => by omega⟩
    · rename_i h
      rcases wantV_is K l q k V with ⟨h1, h2⟩ | ⟨v, h1, h2, h3, h4⟩
      · refine .inl ⟨h1, fun v hv => ?_⟩
        rcases Nat.lt_or_ge v V with h5 | h5
        · exact h2 v h5
        · obtain rfl : v = V := by omega
          exact h
      · refine .inr ⟨v, by omega, h2, h3, fun u hu ho => ?_⟩
        rcases Nat.lt_or_ge u V with h5 | h5
        · exact h4 u h5 ho
        · obtain rfl : u = V := by omega
          exact absurd ho h
/-- The list's answer is what the law reckons. -/
theorem findV_is {K : Nat} (h0 : 0 < K) (hK : K ≤ 12) {V : Nat} {l : List Nat} (hl : ∀ a ∈ l, a < K * V) {k : Nat} (hk : k < K) (q : Int) :
    (wantV K l q k V = 0 ∧ findE (putAll (esV K l)) (nmB k) q = none) ∨ ∃ x v, wantV K l q k V = v + 1 ∧ findE (putAll (esV K l)) (nmB k) q = some x ∧ x.seq = (v : Int) + 1 := by
  have hmem : ∀ x, x ∈ putAll (esV K l) → ∃ a ∈ l, x.norm = nmB (a % K) ∧ x.seq = ((a / K : Nat) : Int) + 1 := fun x hx => by
    have h1 := putAll_key.1 (List.mem_map.2 ⟨x, hx, rfl⟩)
    obtain ⟨y, hy, h2⟩ := List.mem_map.1 h1
    obtain ⟨a, ha, rfl⟩ := List.mem_map.1 hy
    exact ⟨a, ha, (congrArg Prod.fst h2).symm, (congrArg Prod.snd h2).symm⟩
  have hback : ∀ v, v * K + k ∈ l → ∃ x ∈ putAll (esV K l), x.norm = nmB k ∧ x.seq = (v : Int) + 1 := fun v hv => by
    obtain ⟨x, hx, h1⟩ := List.mem_map.1 (putAll_key.2 (List.mem_map.2 ⟨eV K (v * K + k), List.mem_map.2 ⟨_, hv, rfl⟩, rfl⟩))
    have e1 : (v * K + k) % K = k := by rw [Nat.mul_comm, Nat.mul_add_mod, Nat.mod_eq_of_lt hk]
    have e2 : (v * K + k) / K = v := by rw [Nat.mul_comm, Nat.mul_add_div h0, Nat.div_eq_of_lt hk, Nat.add_zero]
    have h2 : x.norm = nmB ((v * K + k) % K) := congrArg Prod.fst h1
    have h3 : x.seq = (((v * K + k) / K : Nat) : Int) + 1 := congrArg Prod.snd h1
    rw [e1] at h2; rw [e2] at h3
    exact ⟨x, hx, h2, h3⟩
  cases hf : findE (putAll (esV K l)) (nmB k) q with
  | none =>
    left
    refine ⟨?_, rfl⟩
    rcases wantV_is K l q k V with ⟨h1, -⟩ | ⟨v, h1, -, ⟨h3, h4⟩, -⟩
    · exact h1
    · obtain ⟨x, hx, h5, h6⟩ := hback v h3
      exact absurd (by rw [h6]; exact h4) (sfind_none hf x hx h5)
  | some x =>
    right
    obtain ⟨h1, h2, h3⟩ := sfind_some hf
    obtain ⟨a, ha, h4, h5⟩ := hmem x h1
    have hak : a % K = k := nmB_inj (by have := Nat.mod_lt a h0; omega) (by omega) (h4.symm.trans h2)
    have hav : a / K * K + k = a := by rw [← hak, Nat.mul_comm]; exact Nat.div_add_mod a K
    have hVa : a / K < V := (Nat.div_lt_iff_lt_mul h0).2 (by rw [Nat.mul_comm]; exact hl a ha)
    have hoka : okV K l q k (a / K) := ⟨by rw [hav]; exact ha, by rw [← h5]; exact h3⟩
    rcases wantV_is K l q k V with ⟨-, h6⟩ | ⟨v, h6, h7, h8, h9⟩
    · exact absurd hoka (h6 _ hVa)
    · refine ⟨x, v, h7, rfl, ?_⟩
      have h10 := h9 _ hVa hoka
      obtain ⟨y, hy, h11, h12⟩ := hback v h8.1
      have h13 := find_max (putAll_ord _) hf y hy h11 (by rw [h12]; exact h8.2)
      rw [h5] at h13 ⊢
      rw [h12] at h13
      omega
/-- The cells of 'on'. -/
def onA (l : List Nat) : Array Value := ((List.range 144).map fun a => Value.bool (decide (a ∈ l))).toArray
theorem zero_on (w : World) : (zeroValue 40).run Try.prog w = .ok (.agg (onA [])) w := by
  have h : (Try.prog.info? 40).map (·.zero) = some (some (.agg (onA []))) := by kernel_rfl
  obtain ⟨i, hi, hz⟩ := Option.map_eq_some_iff.1 h
  simp [zeroValue, typeInfo, hi, hz]
theorem onA_at {l : List Nat} {a : Nat} (h : a < 144) : (onA l)[a]? = some (.bool (decide (a ∈ l))) := by unfold onA; simp [h]
theorem onA_set (l : List Nat) {a : Nat} (h : a < 144) : (onA l).setIfInBounds a (.bool true) = onA (l ++ [a]) := by
  apply Array.ext
  · simp [onA]
  · intro i h1 h2
    have h3 : i < 144 := by simpa [onA] using h2
    simp only [onA, List.setIfInBounds_toArray, List.getElem_toArray, List.getElem_set, List.getElem_map, List.getElem_range]
    by_cases e : a = i
    · subst e; simp
    · rw [if_neg e]
      congr 1
      rw [decide_eq_decide, List.mem_append, List.mem_singleton]
      exact ⟨.inl, fun h => h.elim id fun h => absurd h.symm e⟩
theorem wrap_letter {c : Nat} (h : c < 12) : IntKind.u8.wrap (97 + (c : Int)) = 97 + (c : Int) := by
  simp [IntKind.wrap, IntKind.signed, IntKind.bits]; omega
theorem wantV_yes {K : Nat} {l : List Nat} {q : Int} {k v : Nat} (h : okV K l q k v) : wantV K l q k (v + 1) = v + 1 := by unfold wantV; rw [if_pos h]
theorem wantV_no {K : Nat} {l : List Nat} {q : Int} {k v : Nat} (h : ¬ okV K l q k v) : wantV K l q k (v + 1) = wantV K l q k v := by rw [wantV, if_neg h]
theorem place_lt {K V v k : Nat} (hv : v < V) (hk : k < K) : v * K + k < K * V := by
  have h1 : (v + 1) * K ≤ V * K := Nat.mul_le_mul_right K hv
  rw [Nat.add_mul, Nat.one_mul] at h1
  rw [Nat.mul_comm K V]; omega
/-- A list of the law's own, and the cells that tell what was put. -/
structure OnAt (w : World) (b : Nat) (ρ : Nat → Option Rl) (H : List Int) (K ob : Nat) (l : List Nat) (W : World) : Prop where
  one : OneAt w b ρ H (putAll (esV K l)) W
  on : BlkAt W ob (onA l) 40
  none : ρ ob = none
  new : w.heap.size ≤ ob
theorem OnAt.to {w : World} {b : Nat} {ρ : Nat → Option Rl} {H : List Int} {K ob : Nat} {l : List Nat} {W W' : World} (h : OnAt w b ρ H K ob l W) (u : Below W.heap.size W W') : OnAt w b ρ H K ob l W' :=
  ⟨⟨h.one.at_.below u, h.one.new, h.one.below.trans (u.mono h.one.below.size)⟩, h.on.below u, h.none, h.new⟩
theorem OnAt.put {w : World} {b : Nat} {ρ : Nat → Option Rl} {H : List Int} {K ob : Nat} {l : List Nat} {W W' : World} (h : OnAt w b ρ H K ob l W) {a : Nat} (t : SkTo W b ρ W' H (putE (putAll (esV K l)) (eV K a))) : ∃ ρ', SkAt W' b ρ' H (putAll (esV K (l ++ [a]))) ∧ BlkAt W' ob (onA l) 40 ∧ ρ' ob = .none ∧ (∀ k, ρ' k ≠ .none → w.heap.size ≤ k) ∧ Below w.heap.size w W' := by
  rw [← putAll_snoc, ← esV_snoc] at t
  obtain ⟨ρ', h1⟩ := h.one.put (Below.refl _ _) t
  obtain ⟨ρ2, h2, u, h3⟩ := t
  have hob := h.on.lt
  have hbel : Below w.heap.size w W' := h.one.below.trans (u.below h.one.below.size fun k hk f => by have := h.one.new k f; omega)
  refine ⟨ρ2, h2, (u.block ob hob fun f => f h.none).trans h.on, ?_, fun k hk => ?_, hbel⟩
  · cases hs : ρ2 ob with
    | none => rfl
    | some r =>
      rcases h3 ob (by rw [hs]; simp) with h4 | h4
      · exact absurd h.none h4
      · omega
  · rcases h3 k hk with h4 | h4
    · exact h.one.new k h4
    · exact Nat.le_trans h.one.below.size h4
theorem OnAt.mark {w : World} {b : Nat} {ρ : Nat → Option Rl} {H : List Int} {K ob a : Nat} {l : List Nat} {W : World} (h1 : SkAt W b ρ H (putAll (esV K (l ++ [a])))) (h2 : BlkAt W ob (onA l) 40) (h3 : ρ ob = .none) (h4 : ∀ k, ρ k ≠ .none → w.heap.size ≤ k) (h5 : Below w.heap.size w W) (ha : a < 144) (ho : w.heap.size ≤ ob) : OnAt w b ρ H K ob (l ++ [a]) (W.setCell ⟨ob, a, .none⟩ (.bool true)) := by
  refine ⟨⟨h1.upd ((UpdF.refl (fun k => k = ob) W).set ob a _ rfl) fun k hk => ?_, h4, h5.setCell ho _⟩, ?_, h3, ho⟩
  · rw [show k = ob from hk]; exact h3
  · rw [← onA_set l ha]; exact h2.set _
set_option maxHeartbeats 8000000 in
set_option maxRecDepth 100000 in
theorem listVersions_walk (w : World) (ka : Int) (hka : (Lit.int .i64 ka).wf = true) (va : Int) (hva : (Lit.int .i64 va).wf = true) (sa : Int) (hsa : (Lit.int .i64 sa).wf = true) (q : Int) (hq : (Lit.int .i64 q).wf = true) :
    Calls Try.prog 5 #[.int .i64 ka, .int .i64 va, .int .i64 sa, .int .i64 q] w fun e w' => e = .returned (.bool true) ∧ Below w.heap.size w w' := by
  have HB0 := Lib.hid (lbegun_any w)
  clear hka hva hsa hq
  go_enter Try.func5, Try.ntmps5
  go_wp2_with fail
  refine HB0.out.mono ?_
  rintro e w1 ⟨rfl, hb⟩
  have HB1 := Lib.hid hb
  have HB2 := Lib.hid (hb.alloc hb.size (.cells #[.int .i64 1, .int .i64 5, .int .i64 2, .int .i64 8, .int .i64 3, .int .i64 1, .int .i64 1, .int .i64 4] 3))
  have HN := Lib.hid (sknew_any _ [1, 5, 2, 8, 3, 1, 1, 4] _ (ints_lit w1 [1, 5, 2, 8, 3, 1, 1, 4] 8 rfl (by decide)) (by decide))
  clear hb HB0
  go_upto_region 4 with fail
  go_cut [45] (fun l wx => ∃ qq : Bool, l = .bool qq ∧ w1 = wx ∧ Hid (qq = false → 1 ≤ ka ∧ ka ≤ 12 ∧ 1 ≤ va ∧ va ≤ 12 ∧ 1 ≤ sa ∧ sa ≤ 500))
  case first =>
    clear HN HB1 HB2
    by_cases c0 : ka < 1
    · go_wp2_with fail
      go_meet
      exact ⟨true, rfl, rfl, Lib.hid fun h => (by cases h)⟩
    · skip
      by_cases c1 : 12 < ka
      · go_wp2_with fail
        go_meet
        exact ⟨true, rfl, rfl, Lib.hid fun h => (by cases h)⟩
      · skip
        by_cases c2 : va < 1
        · go_wp2_with fail
          go_meet
          exact ⟨true, rfl, rfl, Lib.hid fun h => (by cases h)⟩
        · skip
          by_cases c3 : 12 < va
          · go_wp2_with fail
            go_meet
            exact ⟨true, rfl, rfl, Lib.hid fun h => (by cases h)⟩
          · skip
            by_cases c4 : sa < 1
            · go_wp2_with fail
              go_meet
              exact ⟨true, rfl, rfl, Lib.hid fun h => (by cases h)⟩
            · skip
              by_cases c5 : 500 < sa
              · go_wp2_with fail
                go_meet
                exact ⟨true, rfl, rfl, Lib.hid fun h => (by cases h)⟩
              · skip
                go_wp2_with fail
                go_meet
                exact ⟨false, rfl, rfl, Lib.hid fun _ => ⟨by omega, by omega, by omega, by omega, by omega, by omega⟩⟩
  case rest =>
  obtain ⟨qq, rfl, rfl, HQ⟩ := hcut
  cases qq with
  | true =>
    clear HN HB2 HQ
    go_wp2_with fail
    go_ret
    exact ⟨rfl, HB1.out⟩
  | false =>
  obtain ⟨r1, r2, r3, r4, r5, r6⟩ := HQ.out rfl
  obtain ⟨K, rfl⟩ := Int.eq_ofNat_of_zero_le (show 0 ≤ ka by omega)
  obtain ⟨V, rfl⟩ := Int.eq_ofNat_of_zero_le (show 0 ≤ va by omega)
  obtain ⟨st, rfl⟩ := Int.eq_ofNat_of_zero_le (show 0 ≤ sa by omega)
  obtain ⟨n, hn⟩ : ∃ n, K * V = n := ⟨_, rfl⟩
  have hni : (K : Int) * (V : Int) = (n : Int) := by rw [← hn]; exact (Int.natCast_mul K V).symm
  have hn144 : n ≤ 144 := by rw [← hn]; exact Nat.mul_le_mul (show K ≤ 12 by omega) (show V ≤ 12 by omega)
  have hn0 : 0 < n := by rw [← hn]; exact Nat.mul_pos (by omega) (by omega)
  have HKV : Hid (K * V = n) := Lib.hid hn
  clear HQ hn
  go_wp2_with fail
  refine HN.out.mono ?_
  rintro e w2 ⟨b, ρ0, rfl, h1, hb1, hn1⟩
  have HO : Hid (OneAt w b ρ0 [1, 5, 2, 8, 3, 1, 1, 4] [] w2) := Lib.hid ⟨h1, fun k hk => Nat.le_trans HB2.out.size (hn1 k hk), HB2.out.trans (hb1.mono HB2.out.size)⟩
  clear h1 hb1 hn1 HN HB1 HB2
  have hz := zero_on w2
  go_upto_region 10 with fail
  have HS0 : Hid (OnAt w b ρ0 [1, 5, 2, 8, 3, 1, 1, 4] K w2.heap.size [] (w2.alloc (.cells (onA []) 40))) := Lib.hid (by
    have h1 := HO.out
    have hal := (Below.refl w2.heap.size w2).alloc (Nat.le_refl _) (.cells (onA []) 40)
    refine ⟨⟨h1.at_.below hal, h1.new, h1.below.alloc h1.below.size _⟩, BlkAt.new w2 _ _, ?_, h1.below.size⟩
    cases hs : ρ0 w2.heap.size with
    | none => rfl
    | some r =>
      obtain ⟨_, _, h2, _⟩ := h1.at_
      have := h2.top w2.heap.size (by rw [hs]; simp); omega)
  obtain ⟨ob, hob⟩ : ∃ ob, w2.heap.size = ob := ⟨_, rfl⟩
  obtain ⟨w3, hw3⟩ : ∃ w3, w2.alloc (.cells (onA []) 40) = w3 := ⟨_, rfl⟩
  rw [hw3, hob] at HS0 ⊢
  clear hz HO hob hw3
  go_wp2_with fail
  go_loopg [12, 14] n (fun kk va vi wr => ∃ (a i : Nat) (ρ : Nat → Option Rl) (l : List Nat), va = .int .i64 (a : Int) ∧ vi = .int .i64 (i : Int) ∧ a < n ∧ i ≤ n ∧ n - i ≤ kk ∧ l.length = i ∧ Hid (∀ x ∈ l, x < n) ∧ Hid (OnAt w b ρ [1, 5, 2, 8, 3, 1, 1, 4] K ob l wr))
  case atStart => exact ⟨0, 0, ρ0, [], rfl, rfl, hn0, by omega, by omega, rfl, Lib.hid (fun x hx => absurd hx List.not_mem_nil), HS0⟩
  case round =>
    clear HS0
    obtain ⟨a0, i, ρ, l, rfl, rfl, ha0, hi, hk, hll, HLL, HO⟩ := hrel
    have hi0 : (0 : Int) ≤ (i : Int) := by omega
    by_cases hin : i < n
    · obtain ⟨a, ha⟩ : ∃ a, (a0 + st) % n = a := ⟨_, rfl⟩
      have han : a < n := by rw [← ha]; exact Nat.mod_lt _ hn0
      have haI : ((a0 : Int) + (st : Int)) % (n : Int) = (a : Int) := by rw [← ha, Int.natCast_emod, Int.natCast_add]
      have haT : ((a0 : Int) + (st : Int)).tmod (n : Int) = (a : Int) := by rw [Int.tmod_eq_emod_of_nonneg (by omega)]; exact haI
      have hnz : (n : Int) ≠ 0 := by omega
      clear ha
      go_upto_region 14 with fail
      obtain ⟨c, hc⟩ : ∃ c, a % K = c := ⟨_, rfl⟩
      obtain ⟨d, hd⟩ : ∃ d, a / K = d := ⟨_, rfl⟩
      have hcK : c < K := by rw [← hc]; exact Nat.mod_lt _ (by omega)
      have hda : d ≤ a := by rw [← hd]; exact Nat.div_le_self a K
      have hcI : (a : Int) % (K : Int) = (c : Int) := by rw [← hc, Int.natCast_emod]
      have hcT : (a : Int).tmod (K : Int) = (c : Int) := by rw [Int.tmod_eq_emod_of_nonneg (by omega)]; exact hcI
      have hdI : (a : Int) / (K : Int) = (d : Int) := by rw [← hd, Int.natCast_ediv]
      have hdT : (a : Int).tdiv (K : Int) = (d : Int) := by rw [Int.tdiv_eq_ediv_of_nonneg (by omega)]; exact hdI
      have hKz : (K : Int) ≠ 0 := by omega
      have hKz2 : ¬ K = 0 := by omega
      have hc12 : c < 12 := by omega
      have hd144 : d < 144 := by omega
      have wp1 : IntKind.i64.wrap (97 + (c : Int)) = 97 + (c : Int) := by rw [IntKind.wrap_i64]; omega
      have wp2 : IntKind.u8.wrap (97 + (c : Int)) = 97 + (c : Int) := wrap_letter hc12
      have wp3 : IntKind.i64.wrap (d : Int) = (d : Int) := by rw [IntKind.wrap_i64]; omega
      have wp4 : IntKind.i64.wrap ((d : Int) + 1) = (d : Int) + 1 := by rw [IntKind.wrap_i64]; omega
      have hsm := esV_small K l
      have HPU : Hid (∀ W, Below wr.heap.size wr W → Calls Try.prog 10 #[.pointer (some ⟨b, 0, none⟩), .agg #[.string (nmB c), .int .i64 ((d : Int) + 1), .int .i64 1, .string ⟨#[]⟩, .string ⟨#[]⟩]] W fun e w' => e = .returned (.bool (!decide (a ∈ l))) ∧ SkTo W b ρ w' [1, 5, 2, 8, 3, 1, 1, 4] (putE (putAll (esV K l)) (eV K a))) := Lib.hid fun W hW => by
        have h := sput_any W b ρ [1, 5, 2, 8, 3, 1, 1, 4] (putAll (esV K l)) (HO.out.one.at_.below hW) (eV K a) (by show (1 : Int) ≤ _; omega) (by omega) (by have : szE (eV K a) = 33 := rfl; omega)
        have e1 : (eV K a).v = .agg #[.string (nmB c), .int .i64 ((d : Int) + 1), .int .i64 1, .string ⟨#[]⟩, .string ⟨#[]⟩] := by rw [← hc, ← hd]; rfl
        rw [e1] at h
        unfold SPut at h
        rw [putV (by omega) (by omega)] at h
        exact h
      clear hsm hda
      refine beginK (Below wr.heap.size wr) 13 (by kernel_rfl) (Below.refl _ _).drew (fun hHeld => ?_)
      generalize wr.drew = wd at hHeld ⊢
      refine takeK (i := 0) (k := 61) (v := .pointer (some ⟨b, 0, none⟩)) rfl rfl (by kernel_rfl) (by kernel_rfl) (by kernel_rfl) [0] rfl (by decide) (by kernel_rfl) (fun _ _ _ h => h) (by kernel_rfl) ?_ (by assumption) ?_
      · intro W hSw; first | (go_simp; done) | go_simp
      try simp only [Act.put, List.setIfInBounds_toArray, List.set_cons_zero, List.set_cons_succ]
      refine takeK (i := 1) (k := 62) (v := .int .i64 (a : Int)) rfl rfl (by kernel_rfl) (by kernel_rfl) (by kernel_rfl) [12, 7, 6, 5, 4, 3, 1] rfl (by decide) (by kernel_rfl) (fun _ _ _ h => h) (by kernel_rfl) ?_ (by assumption) ?_
      · intro W hSw; first | (go_simp; done) | go_simp
      try simp only [Act.put, List.setIfInBounds_toArray, List.set_cons_zero, List.set_cons_succ]
      refine takeK (i := 2) (k := 63) (v := .int .i64 (K : Int)) rfl rfl (by kernel_rfl) (by kernel_rfl) (by kernel_rfl) [12, 7, 6, 5, 4, 3, 2] rfl (by decide) (by kernel_rfl) (fun _ _ _ h => h) (by kernel_rfl) ?_ (by assumption) ?_
      · intro W hSw; first | (go_simp; done) | go_simp
      try simp only [Act.put, List.setIfInBounds_toArray, List.set_cons_zero, List.set_cons_succ]
      refine takeK (i := 3) (k := 64) (v := .int .i64 (c : Int)) rfl rfl (by kernel_rfl) (by kernel_rfl) (by kernel_rfl) [12, 7, 6, 5, 4, 3] rfl (by decide) (by kernel_rfl) (fun _ _ _ h => h) (by kernel_rfl) ?_ (by assumption) ?_
      · intro W hSw; first | (go_simp; done) | go_simp
      try simp only [Act.put, List.setIfInBounds_toArray, List.set_cons_zero, List.set_cons_succ]
      refine takeK (i := 4) (k := 65) (v := .int .i64 (97 + (c : Int))) rfl rfl (by kernel_rfl) (by kernel_rfl) (by kernel_rfl) [12, 7, 6, 5, 4] rfl (by decide) (by kernel_rfl) (fun _ _ _ h => h) (by kernel_rfl) ?_ (by assumption) ?_
      · intro W hSw; first | (go_simp; done) | go_simp
      try simp only [Act.put, List.setIfInBounds_toArray, List.set_cons_zero, List.set_cons_succ]
      refine takeK (i := 5) (k := 66) (v := .int .u8 (97 + (c : Int))) rfl rfl (by kernel_rfl) (by kernel_rfl) (by kernel_rfl) [12, 7, 6, 5] rfl (by decide) (by kernel_rfl) (fun _ _ _ h => h) (by kernel_rfl) ?_ (by assumption) ?_
      · intro W hSw; first | (go_simp; done) | go_simp
      try simp only [Act.put, List.setIfInBounds_toArray, List.set_cons_zero, List.set_cons_succ]
      refine takeK (i := 8) (k := 69) (v := .int .i64 (a : Int)) rfl rfl (by kernel_rfl) (by kernel_rfl) (by kernel_rfl) [12, 11, 10, 8] rfl (by decide) (by kernel_rfl) (fun _ _ _ h => h) (by kernel_rfl) ?_ (by assumption) ?_
      · intro W hSw; first | (go_simp; done) | go_simp
      try simp only [Act.put, List.setIfInBounds_toArray, List.set_cons_zero, List.set_cons_succ]
      refine takeK (i := 9) (k := 70) (v := .int .i64 (K : Int)) rfl rfl (by kernel_rfl) (by kernel_rfl) (by kernel_rfl) [12, 11, 10, 9] rfl (by decide) (by kernel_rfl) (fun _ _ _ h => h) (by kernel_rfl) ?_ (by assumption) ?_
      · intro W hSw; first | (go_simp; done) | go_simp
      try simp only [Act.put, List.setIfInBounds_toArray, List.set_cons_zero, List.set_cons_succ]
      refine takeK (i := 10) (k := 71) (v := .int .i64 (d : Int)) rfl rfl (by kernel_rfl) (by kernel_rfl) (by kernel_rfl) [12, 11, 10] rfl (by decide) (by kernel_rfl) (fun _ _ _ h => h) (by kernel_rfl) ?_ (by assumption) ?_
      · intro W hSw; first | (go_simp; done) | go_simp
      try simp only [Act.put, List.setIfInBounds_toArray, List.set_cons_zero, List.set_cons_succ]
      refine takeK (i := 11) (k := 72) (v := .int .i64 ((d : Int) + 1)) rfl rfl (by kernel_rfl) (by kernel_rfl) (by kernel_rfl) [12, 11] rfl (by decide) (by kernel_rfl) (fun _ _ _ h => h) (by kernel_rfl) ?_ (by assumption) ?_
      · intro W hSw; first | (go_simp; done) | go_simp
      try simp only [Act.put, List.setIfInBounds_toArray, List.set_cons_zero, List.set_cons_succ]
      refine oneK (i := 6) (by kernel_rfl) rfl (fun KK hK => ?_)
      go_simp
      have hcv := letter_at wd c (by omega) (Below.refl _ _)
      have hb4 : Below wr.heap.size wr (wd.alloc (.cells #[.int .u8 (97 + (c : Int))] 5)) := hHeld.alloc hHeld.size _
      obtain ⟨w4, hw4⟩ : ∃ w4, wd.alloc (.cells #[.int .u8 (97 + (c : Int))] 5) = w4 := ⟨_, rfl⟩
      rw [hw4] at hcv hb4 ⊢
      clear hw4
      refine hK.out _ _ (fun _ => hb4) (fun hHx => ?_)
      clear hK KK hHx
      try simp only [Act.put, List.setIfInBounds_toArray, List.set_cons_zero, List.set_cons_succ]
      refine oneK (i := 7) (by kernel_rfl) rfl (fun KK hK => ?_)
      go_simp
      refine hK.out _ _ (fun _ => hb4) (fun hHx => ?_)
      clear hK KK hHx
      try simp only [Act.put, List.setIfInBounds_toArray, List.set_cons_zero, List.set_cons_succ]
      refine oneK (i := 12) (by kernel_rfl) rfl (fun KK hK => ?_)
      go_simp
      refine hK.out _ _ (fun _ => hb4) (fun hHx => ?_)
      clear hK KK hHx
      try simp only [Act.put, List.setIfInBounds_toArray, List.set_cons_zero, List.set_cons_succ]
      refine oneK (i := 13) (by kernel_rfl) rfl (fun KK hK => ?_)
      go_simp
      refine (HPU.out w4 hb4).mono ?_
      rintro e w5 ⟨rfl, ht⟩
      refine hK.out _ _ (fun h => by have h' : true = false := h; cases h') (fun hHx => ?_)
      clear hK KK hHx
      try simp only [Act.put, List.setIfInBounds_toArray, List.set_cons_zero, List.set_cons_succ]
      refine oneK (i := 14) (by kernel_rfl) rfl (fun KK hK => ?_)
      go_simp
      refine hK.out _ _ (fun h => by have h' : true = false := h; cases h') (fun hHx => ?_)
      clear hK KK hHx
      try simp only [Act.put, List.setIfInBounds_toArray, List.set_cons_zero, List.set_cons_succ]
      refine doneK (by kernel_rfl) ?_ _
      obtain ⟨ρ', m1, m2, m3, m4, m5⟩ := (HO.out.to hb4).put ht
      have HOM := Lib.hid (⟨m1, m2, m3, m4, m5⟩ : SkAt w5 b ρ' [1, 5, 2, 8, 3, 1, 1, 4] (putAll (esV K (l ++ [a]))) ∧ BlkAt w5 ob (onA l) 40 ∧ ρ' ob = none ∧ (∀ k, ρ' k ≠ none → w.heap.size ≤ k) ∧ Below w.heap.size w w5)
      have hob := HO.out.new
      have cell : w5.cell? ⟨ob, a, none⟩ = some (.bool (decide (a ∈ l))) := (m2.at a).trans (onA_at (by omega))
      have free : w5.frozen? ⟨ob, a, none⟩ = false := m2.free a
      have a0' : (0 : Int) ≤ (a : Int) := by omega
      have a1' : (a : Int) < 144 := by omega
      have HLL2 : Hid (∀ x ∈ l ++ [a], x < n) := Lib.hid fun x hx => by
        rcases List.mem_append.1 hx with h | h
        · exact HLL.out x h
        · rw [List.mem_singleton.1 h]; exact han
      have hll2 : (l ++ [a]).length = i + 1 := by rw [List.length_append, hll]; rfl
      clear m1 m2 m3 m4 m5 ht HPU HO hb4 hcI hcT hdI hdT hKz hc hd hcv wp1 wp2 wp3 wp4
      generalize decide (a ∈ l) = r at *
      have HOK : Hid (OnAt w b ρ' [1, 5, 2, 8, 3, 1, 1, 4] K ob (l ++ [a]) (w5.setCell ⟨ob, a, none⟩ (.bool true))) := Lib.hid (OnAt.mark HOM.out.1 HOM.out.2.1 HOM.out.2.2.1 HOM.out.2.2.2.1 HOM.out.2.2.2.2 (by omega) hob)
      cases r
      all_goals
        go_wp2_with fail
        go_roundg (n - (i + 1))
        case measure => omega
        case rel => exact ⟨a, i + 1, ρ', l ++ [a], rfl, by go_num, han, by omega, Nat.le_refl _, hll2, HLL2, HOK⟩
    · obtain rfl : i = n := by omega
      clear hk hin
      have HLK : Hid (∀ x ∈ l, x < K * V) := Lib.hid (by rw [HKV.out]; exact HLL.out)
      clear ha0 hi hi0 hll HLL
      go_wp2_with fail
      go_loopg [16] K (fun kk v wr => ∃ k : Nat, v = .int .i64 (k : Int) ∧ k ≤ K ∧ K - k ≤ kk ∧ Hid (OnAt w b ρ [1, 5, 2, 8, 3, 1, 1, 4] K ob l wr))
      case atStart => exact ⟨0, rfl, by omega, by omega, HO⟩
      case round =>
        clear HO
        obtain ⟨k, rfl, hk, hkk, HO⟩ := hrel
        have hk0 : (0 : Int) ≤ (k : Int) := by omega
        by_cases hkK : k < K
        · have hk12 : k < 12 := by omega
          go_wp2_with fail
          go_loopg [17, 18] V (fun jj a17 a18 wx => ∃ v : Nat, a17 = .int .i64 ((wantV K l q k v : Nat) : Int) ∧ a18 = .int .i64 (v : Int) ∧ v ≤ V ∧ V - v ≤ jj ∧ Hid (OnAt w b ρ [1, 5, 2, 8, 3, 1, 1, 4] K ob l wx))
          case atStart => exact ⟨0, rfl, rfl, by omega, by omega, HO⟩
          case round =>
            clear HO
            obtain ⟨v, rfl, rfl, hv, hvk, HO⟩ := hrel
            have hv0 : (0 : Int) ≤ (v : Int) := by omega
            by_cases hvV : v < V
            · obtain ⟨m, hm⟩ : ∃ m, v * K = m := ⟨_, rfl⟩
              have hmI : (v : Int) * (K : Int) = (m : Int) := by rw [← hm]; exact (Int.natCast_mul v K).symm
              have hpl := place_lt hvV hkK
              rw [HKV.out] at hpl
              obtain ⟨j, hj⟩ : ∃ j, m + k = j := ⟨_, rfl⟩
              have hjI : (m : Int) + (k : Int) = (j : Int) := by omega
              have hjn : j < i := by rw [← hj, ← hm]; exact hpl
              have hj0 : (0 : Int) ≤ (j : Int) := by omega
              have hj1 : (j : Int) < 144 := by omega
              have cell : wr.cell? ⟨ob, j, none⟩ = some (.bool (decide (j ∈ l))) := (HO.out.on.at j).trans (onA_at (by omega))
              have hin : v * K + k = j := by rw [hm, hj]
              have hyes : Hid (j ∈ l → (v : Int) + 1 ≤ q → wantV K l q k (v + 1) = v + 1) := Lib.hid fun h1 h2 => wantV_yes ⟨by rw [hin]; exact h1, h2⟩
              have hno1 : Hid (j ∉ l → wantV K l q k (v + 1) = wantV K l q k v) := Lib.hid fun h1 => wantV_no fun h => h1 (by rw [← hin]; exact h.1)
              have hno2 : Hid (¬ (v : Int) + 1 ≤ q → wantV K l q k (v + 1) = wantV K l q k v) := Lib.hid fun h1 => wantV_no fun h => h1 h.2
              have hm144 : m ≤ 144 := by omega
              have hv12 : v < 12 := by omega
              clear hpl hj hin hm
              by_cases hjl : j ∈ l
              · have hd : decide (j ∈ l) = true := decide_eq_true hjl
                rw [hd] at cell
                by_cases hvq : (v : Int) + 1 ≤ q
                · have HW := Lib.hid (hyes.out hjl hvq)
                  clear hd hyes hno1 hno2 hjl
                  go_wp2_with fail
                  go_roundg (V - (v + 1))
                  case measure => omega
                  case rel => exact ⟨v + 1, by rw [HW.out]; go_num, by go_num, by omega, Nat.le_refl _, HO⟩
                · have HW := Lib.hid (hno2.out hvq)
                  clear hd hyes hno1 hno2 hjl
                  go_wp2_with fail
                  go_roundg (V - (v + 1))
                  case measure => omega
                  case rel => exact ⟨v + 1, by rw [HW.out], by go_num, by omega, Nat.le_refl _, HO⟩
              · have hd : decide (j ∈ l) = false := decide_eq_false hjl
                rw [hd] at cell
                have HW := Lib.hid (hno1.out hjl)
                clear hd hyes hno1 hno2 hjl
                go_wp2_with fail
                go_roundg (V - (v + 1))
                case measure => omega
                case rel => exact ⟨v + 1, by rw [HW.out], by go_num, by omega, Nat.le_refl _, HO⟩
            · obtain rfl : v = V := by omega
              have hcv := conv_letter wr k (by omega)
              have hb4 := (Below.refl wr.heap.size wr).alloc (Nat.le_refl _) (.cells #[.int .u8 (97 + (k : Int))] 5)
              obtain ⟨w4, hw4⟩ : ∃ w4, wr.alloc (.cells #[.int .u8 (97 + (k : Int))] 5) = w4 := ⟨_, rfl⟩
              rw [hw4] at hcv hb4
              have HO4 := Lib.hid (HO.out.to hb4)
              have hget := sget_any w4 b ρ [1, 5, 2, 8, 3, 1, 1, 4] _ HO4.out.one.at_ (nmB k) q
              have HK0 : 0 < K := by omega
              rcases findV_is HK0 (by omega) HLK.out hkK q with ⟨hw0, hf⟩ | ⟨x, u, hw0, hf, hxs⟩
              · rw [hf] at hget
                rw [hw0]
                have HG : Hid (Calls Try.prog 12 #[.pointer (some ⟨b, 0, none⟩), .string (nmB k), .int .i64 q] w4 fun e w' => e = .returned (.tuple #[.agg #[.string ⟨#[]⟩, .int .i64 0, .int .i64 0, .string ⟨#[]⟩, .string ⟨#[]⟩], .bool false]) ∧ Below w4.heap.size w4 w') := Lib.hid hget
                generalize nmB k = nm at *
                clear hget hf hw0 hv hvk HO hb4
                go_wp2_with fail
                refine HG.out.mono ?_
                rintro e w5 ⟨rfl, hb5⟩
                have HO5 := Lib.hid (HO4.out.to hb5)
                clear hb5 HG HO4
                go_wp2_with fail
                go_roundg (K - (k + 1))
                case measure => omega
                case rel => exact ⟨k + 1, by go_num, by omega, Nat.le_refl _, Lib.hid (HO5.out.to ((Below.refl _ _).alloc (Nat.le_refl _) _))⟩
              · rw [hf] at hget
                rw [hw0]
                obtain ⟨xn, xq, xk, xsp, xv⟩ := x
                obtain rfl : xq = (u : Int) + 1 := hxs
                have HG : Hid (Calls Try.prog 12 #[.pointer (some ⟨b, 0, none⟩), .string (nmB k), .int .i64 q] w4 fun e w' => e = .returned (.tuple #[.agg #[.string xn, .int .i64 ((u : Int) + 1), .int .i64 xk, .string xsp, .string xv], .bool true]) ∧ Below w4.heap.size w4 w') := Lib.hid hget
                have eu : ((u + 1 : Nat) : Int) = (u : Int) + 1 := by omega
                rw [eu]
                have eu2 : (0 : Int) < (u : Int) + 1 := by omega
                generalize nmB k = nm at *
                clear hget hf hw0 hv hvk HO hb4 eu
                generalize (u : Int) + 1 = uu at *
                go_wp2_with fail
                refine HG.out.mono ?_
                rintro e w5 ⟨rfl, hb5⟩
                have HO5 := Lib.hid (HO4.out.to hb5)
                clear hb5 HG HO4
                go_wp2_with fail
                go_roundg (K - (k + 1))
                case measure => omega
                case rel => exact ⟨k + 1, by go_num, by omega, Nat.le_refl _, Lib.hid (HO5.out.to ((Below.refl _ _).alloc (Nat.le_refl _) _))⟩
        · have HBE := Lib.hid HO.out.one.below
          clear HO hkk
          go_wp2_with fail
          go_ret
          exact ⟨rfl, HBE.out⟩
end Go.Proofs.Ytacaofnonmgfoaa
