/- For the law ManifestOld: what its edit makes. -/
import Derived.Test.YtmmkgopnccfiiaaGreatDoorManOldM
namespace Go.Proofs.YtmmkgopnccfiiaaGreatDoor
set_option linter.unusedVariables false
open Go.RowKit Go.Maps
/-- The law's edit. -/
def eO (lg : Int) (ds : List Nat) : Edt := ⟨100, lg, 0, ds.map tF, []⟩
theorem bl_ba : ¬ bl (tF 0).hi (tF 0).lo := by decide
theorem tF_right {d : Nat} (h0 : 1 ≤ d) (h : d < 100) : ¬ badTb (tF d) := by
  have hb : ¬ bl (tF d).hi (tF d).lo := bl_ba
  unfold badTb badTab
  rintro (h1 | h1 | h1 | h1 | h1 | h1 | h1 | h1)
  · have : (tF d).num = (d : Int) := rfl
    rw [this] at h1; omega
  · exact absurd h1 (by show ¬ (0 : Int) < 0; omega)
  · exact absurd h1 (by show ¬ (5 : Int) ≤ 0; omega)
  · exact absurd h1 (by show ¬ (0 : Int) < 0; omega)
  · exact absurd h1 (by show ¬ (16777216 : Int) < 0; omega)
  · exact absurd h1 (by show ¬ 13000 < 1; omega)
  · exact absurd h1 (by show ¬ 13000 < 1; omega)
  · exact hb h1
theorem adds_all : ∀ (ds : List Nat) (l : List Tbf), ds.Nodup → (∀ d ∈ ds, ¬ vHas l (d : Int)) → vAdds l (ds.map tF) = some (l ++ ds.map tF)
  | [], l, _, _ => by rw [List.map_nil, List.append_nil]; rfl
  | d :: r, l, hn, h => by
    obtain ⟨h1, h2⟩ := List.nodup_cons.1 hn
    rw [List.map_cons, vAdds, if_neg (show ¬ vHas l (tF d).num from h d (List.mem_cons_self ..)), adds_all r _ h2 fun k hk => ?_, List.append_assoc, List.singleton_append]
    rintro ⟨f, hf, he⟩
    rcases List.mem_append.1 hf with hf | hf
    · exact h k (List.mem_cons_of_mem _ hk) ⟨f, hf, he⟩
    · rw [List.mem_singleton.1 hf] at he
      have : (d : Int) = (k : Int) := he
      have : d = k := by omega
      exact h1 (this ▸ hk)
theorem oldE_is {lg : Int} (g0 : 0 ≤ lg) (g1 : lg ≤ 50) {ds : List Nat} (hn : ds.Nodup) (hd : ∀ d ∈ ds, 50 ≤ d ∧ d ≤ 90) (hl : ds.length ≤ 6) : applyV verC (eO lg ds) = some ⟨ds.map tF, 100, lg, 0⟩ := by
  have hm : mayE (eO lg ds) := by
    refine ⟨⟨(show okEdN 100 from ⟨by decide, by decide⟩), ⟨g0, by show lg ≤ _; omega⟩, (show okEdN 0 from ⟨by decide, by decide⟩)⟩, ⟨by show (ds.map tF).length ≤ 200; rw [List.length_map]; omega, Nat.zero_le _⟩, fun f hf => ?_, fun n hn => by cases hn⟩
    obtain ⟨d, hd2, rfl⟩ := List.mem_map.1 hf
    exact tF_right (by have := hd d hd2; omega) (by have := hd d hd2; omega)
  have ha : vAdds ([] : List Tbf) (ds.map tF) = some (ds.map tF) := by
    rw [adds_all ds [] hn fun d _ => by rintro ⟨f, hf, -⟩; cases hf]; rfl
  have hlg : vOr lg 0 = lg := by unfold vOr; split <;> omega
  unfold applyV
  rw [if_pos hm]
  show (match vAdds ([] : List Tbf) (ds.map tF) with
    | none => none
    | some m => if vMay verC ⟨m, vOr 100 2, vOr lg 0, vOr 0 0⟩ then some (⟨m, vOr 100 2, vOr lg 0, vOr 0 0⟩ : Ver) else none) = _
  rw [ha, hlg]
  show (if vMay verC ⟨ds.map tF, 100, lg, 0⟩ then some (⟨ds.map tF, 100, lg, 0⟩ : Ver) else none) = _
  rw [if_pos]
  refine ⟨?_, by show (ds.map tF).length ≤ 200; rw [List.length_map]; omega, (show (2 : Int) ≤ 100 by decide), g0, (show (0 : Int) ≤ 0 by decide), fun h => ?_, fun f hf => ?_⟩
  · show List.Pairwise _ (ds.map tF)
    rw [List.pairwise_map]
    exact List.pairwise_of_forall fun a b hc => absurd hc.2.1 (by show ¬ (0 : Int) < 0; omega)
  · have h1 : (100 : Int) ≤ lg := h.1
    omega
  · obtain ⟨d, hd2, rfl⟩ := List.mem_map.1 hf
    have := hd d hd2
    show (d : Int) < 100
    omega
theorem eO_ok (lg : Int) {ds : List Nat} (hl : ds.length ≤ 6) : (eO lg ds).ok := Edt.short.ok ⟨by show (ds.map tF).length ≤ 12; rw [List.length_map]; omega, Nat.zero_le _, fun f hf => by
  obtain ⟨d, -, rfl⟩ := List.mem_map.1 hf
  exact ⟨by show (1 : Nat) ≤ 20; omega, by show (1 : Nat) ≤ 20; omega⟩⟩
theorem eO_len (lg : Int) {ds : List Nat} (hl : ds.length ≤ 6) (a : Nat) : (layB smN a (edtB (eO lg ds))).length ≤ 1000 := by
  have h1 := edtB_thin (m := 20) (e := eO lg ds) fun f hf => by
    obtain ⟨d, -, rfl⟩ := List.mem_map.1 hf
    exact ⟨by show (1 : Nat) ≤ 20; omega, by show (1 : Nat) ≤ 20; omega⟩
  have h2 := layB_tight smN_len a (edtB (eO lg ds))
  have h3 : (eO lg ds).adds.length ≤ 6 := by show (ds.map tF).length ≤ 6; rw [List.length_map]; exact hl
  have h4 : (eO lg ds).dels.length = 0 := rfl
  omega
end Go.Proofs.YtmmkgopnccfiiaaGreatDoor
