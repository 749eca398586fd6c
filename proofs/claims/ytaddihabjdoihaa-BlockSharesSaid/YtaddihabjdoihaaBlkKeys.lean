/- The keys of the laws BlockSeek and BlockShares: two letters behind a text that all share. -/
import Derived.Test.YtaddihabjdoihaaBdOwn
import Derived.Test.YtaddihabjdoihaaBlkRMath
namespace Go.Proofs.Ytaddihabjdoihaa
set_option linter.unusedVariables false
set_option maxRecDepth 100000
open Go.RowKit
/-- TwoB letters. -/
def keyT (i : Nat) : List UInt8 := [UInt8.ofNat (97 + i / 26), UInt8.ofNat (97 + i % 26)]
def keyB (i : Nat) : ByteArray := ⟨(keyT i).toArray⟩
theorem keyB_list (i : Nat) : (keyB i).data.toList = keyT i := rfl
theorem keyB_size (i : Nat) : (keyB i).size = 2 := rfl
theorem conv_two (W : World) (i : Nat) (hi : i ≤ 200) : (convert 33 9 (.slice (some ⟨W.heap.size, 0, none⟩) 2 2)).run Try.prog (W.alloc (.cells #[.int .u8 (97 + (i : Int) / 26), .int .u8 (97 + (i : Int) % 26)] 5)) = .ok (.string (keyB i)) (W.alloc (.cells #[.int .u8 (97 + (i : Int) / 26), .int .u8 (97 + (i : Int) % 26)] 5)) := by
  refine RdB.text (bs := keyT i) (OwnB.lit W (keyT i) _ 2 0 rfl (by decide) ?_ (Nat.zero_le _)).rd
  unfold keyT
  have e1 : bv (UInt8.ofNat (97 + i / 26)) = .int .u8 (97 + (i : Int) / 26) := by unfold bv; rw [byte_of _ (by omega)]; congr 1
  have e2 : bv (UInt8.ofNat (97 + i % 26)) = .int .u8 (97 + (i : Int) % 26) := by unfold bv; rw [byte_of _ (by omega)]; congr 1
  rw [List.map_cons, List.map_cons, e1, e2]; rfl
theorem lt_app : ∀ (p : List UInt8) {x y : List UInt8}, x < y → p ++ x < p ++ y
  | [], _, _, h => h
  | a :: p, x, y, h => by
    rw [List.cons_append, List.cons_append, List.cons_lt_cons_iff]
    exact .inr ⟨rfl, lt_app p h⟩
theorem not_lt_app : ∀ (p : List UInt8) {x y : List UInt8}, ¬ x < y → ¬ p ++ x < p ++ y
  | [], _, _, h => h
  | a :: p, x, y, h => by
    rw [List.cons_append, List.cons_append, List.cons_lt_cons_iff]
    rintro (k | ⟨-, k⟩)
    · exact absurd k (UInt8.lt_irrefl a)
    · exact not_lt_app p h k
theorem bkKey_lt : ∀ i, i < 102 → ∀ j, j < i → keyT j < keyT i := by decide +kernel
theorem key_ltx : ∀ i, i < 102 → ∀ j, j < i + 1 → keyT j < keyT i ++ [120] := by decide +kernel
theorem key_nox : ∀ i, i < 102 → ¬ keyT (i + 1) < keyT i ++ [120] := by decide +kernel
/-- The rows of the laws. -/
def rowsH (p v : List UInt8) (n : Nat) : List Kv := (List.range n).map fun i => ⟨p ++ keyT i, v⟩
theorem rowsH_len (p v : List UInt8) (n : Nat) : (rowsH p v n).length = n := by unfold rowsH; rw [List.length_map, List.length_range]
theorem rowsH_succ (p v : List UInt8) (n : Nat) : rowsH p v (n + 1) = rowsH p v n ++ [⟨p ++ keyT n, v⟩] := by
  unfold rowsH; rw [List.range_succ, List.map_append]; rfl
theorem rowsH_at {p v : List UInt8} {n i : Nat} {r : Kv} (h : (rowsH p v n)[i]? = some r) : i < n ∧ r.k = p ++ keyT i := by
  unfold rowsH at h
  rw [List.getElem?_map] at h
  obtain ⟨j, hj, rfl⟩ := Option.map_eq_some_iff.1 h
  obtain ⟨h1, h2⟩ := List.getElem?_eq_some_iff.1 hj
  rw [List.length_range] at h1
  rw [List.getElem_range] at h2
  subst h2
  exact ⟨h1, rfl⟩
theorem rowsH_ok (p v : List UInt8) (n : Nat) (hn : n ≤ 101) : addOk (rowsH p v n) (p ++ keyT n) := by
  cases n with
  | zero => exact .inl rfl
  | succ n =>
    right
    rw [rowsH_succ, lastK_snoc]
    exact lt_app p (bkKey_lt (n + 1) (by omega) n (by omega))
theorem rowsH_add (p v : List UInt8) (n : Nat) (hn : n ≤ 101) : addK (rowsH p v n) ⟨p ++ keyT n, v⟩ = rowsH p v (n + 1) := by
  unfold addK
  rw [if_pos (rowsH_ok p v n hn), rowsH_succ]
theorem rowsH_rise (p v : List UInt8) : ∀ n, n ≤ 101 → RiseK (rowsH p v n)
  | 0, _ => List.Pairwise.nil
  | n + 1, hn => by
    rw [rowsH_succ]
    exact rise_snoc (rowsH_rise p v n (by omega)) (rowsH_ok p v n (by omega))
theorem rowsH_bd (p v : List UInt8) (n : Nat) (hn : n ≤ 101) (hp : p.length ≤ 200) (hv : v.length ≤ 200) : (bodyB 0 [] (rowsH p v n)).length ≤ 100000 := by
  have h := body_bd 202 (rowsH p v n) 0 [] fun r hr => by
    unfold rowsH at hr
    obtain ⟨i, -, rfl⟩ := List.mem_map.1 hr
    exact ⟨by rw [List.length_append]; show p.length + 2 ≤ 202; omega, by show v.length ≤ 202; omega⟩
  rw [rowsH_len] at h
  omega
theorem rowsH_block (p v : List UInt8) (n : Nat) (hn : n ≤ 101) (hp : p.length ≤ 200) (hv : v.length ≤ 200) : (blockB (rowsH p v n)).length ≤ 200000 := by
  have h := rowsH_bd p v n hn hp hv
  have := blockB_len (rowsH p v n)
  rw [rowsH_len] at this
  omega
theorem rowsH_seek (p v : List UInt8) (n i : Nat) (hn : n ≤ 100) (hi : i ≤ n) : seekK (rowsH p v n) (p ++ keyT i) = i := by
  refine seekK_at (fun j r hj hr => ?_) (fun r hr => ?_) (by rw [rowsH_len]; omega)
  · rw [(rowsH_at hr).2]
    exact lt_app p (bkKey_lt i (by omega) j hj)
  · rw [(rowsH_at hr).2]
    exact List.lt_irrefl _
theorem rowsH_seekx (p v : List UInt8) (n i : Nat) (hn : n ≤ 100) (hi : i ≤ n) : seekK (rowsH p v n) (p ++ (keyT i ++ [120])) = min (i + 1) n := by
  refine seekK_at (fun j r hj hr => ?_) (fun r hr => ?_) (by rw [rowsH_len]; omega)
  · rw [(rowsH_at hr).2]
    exact lt_app p (key_ltx i (by omega) j (by omega))
  · obtain ⟨h1, h2⟩ := rowsH_at hr
    rw [h2]
    have e : min (i + 1) n = i + 1 := by omega
    rw [e]
    exact not_lt_app p (key_nox i (by omega))
theorem seek_nil (rs : List Kv) : seekK rs [] = 0 := by
  refine seekK_at (fun i r hi => by omega) (fun r hr => ?_) (Nat.zero_le _)
  exact List.not_lt_nil _
theorem putN_one {n : Nat} (h : n < 128) : (putN n).length = 1 := by
  unfold putN putF; rw [if_pos h]; rfl
theorem putN_two {n : Nat} (h : n < 16384) : (putN n).length ≤ 2 := by
  unfold putN putF
  split
  · simp
  · unfold putF
    rw [if_pos (by omega)]; simp
theorem share_app : ∀ (p x y : List UInt8), p.length ≤ shareN (p ++ x) (p ++ y)
  | [], _, _ => Nat.zero_le _
  | a :: p, x, y => by
    rw [List.cons_append, List.cons_append, shareN, if_pos rfl, List.length_cons]
    have := share_app p x y
    omega
/-- Rows whose keys share much take few bytes. -/
theorem rowsH_small (p : List UInt8) (hp : p.length ≤ 200) : ∀ n, n ≤ 101 → (bodyB 0 [] (rowsH p [] n)).length ≤ (n + 3) / 4 * p.length + 6 * n
  | 0, _ => Nat.zero_le _
  | n + 1, hn => by
    have ih := rowsH_small p hp n (by omega)
    rw [rowsH_succ, bodyB_snoc, List.length_append, rowsH_len, Nat.zero_add, rowB_len]
    have hk : (p ++ keyT n).length = p.length + 2 := by rw [List.length_append]; rfl
    have h0 : (putN ([] : List UInt8).length).length = 1 := rfl
    simp only [hk, List.length_nil]
    have hs := (shB_le n (lastK [] (rowsH p [] n)) (p ++ keyT n)).2
    rw [hk] at hs
    by_cases h4 : n % 4 = 0
    · have e : (n + 1 + 3) / 4 = (n + 3) / 4 + 1 := by omega
      have e2 : shB n (lastK [] (rowsH p [] n)) (p ++ keyT n) = 0 := by unfold shB; rw [if_pos h4]
      have h1 : (putN 0).length = 1 := rfl
      have h2 := putN_two (n := p.length + 2 - 0) (by omega)
      rw [e, e2, Nat.add_mul, h1, Nat.one_mul]
      omega
    · have e : (n + 1 + 3) / 4 = (n + 3) / 4 := by omega
      have hp2 : p.length ≤ shB n (lastK [] (rowsH p [] n)) (p ++ keyT n) := by
        unfold shB
        rw [if_neg h4]
        obtain ⟨m, rfl⟩ : ∃ m, n = m + 1 := ⟨n - 1, by omega⟩
        rw [rowsH_succ, lastK_snoc]
        exact share_app _ _ _
      generalize shB n (lastK [] (rowsH p [] n)) (p ++ keyT n) = s at *
      have h1 := putN_two (n := s) (by omega)
      have h2 := putN_one (n := p.length + 2 - s) (by omega)
      have h3 : (putN 0).length = 1 := rfl
      rw [e]
      omega
end Go.Proofs.Ytaddihabjdoihaa
