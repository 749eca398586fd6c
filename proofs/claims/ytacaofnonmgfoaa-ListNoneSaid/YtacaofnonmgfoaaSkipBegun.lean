/- The list's laws: their begun. -/
import Derived.Test.YtacaofnonmgfoaaSkipSay
namespace Go.Proofs.Ytacaofnonmgfoaa
set_option linter.unusedVariables false
open Go.RowKit
theorem putB_nil (e : Ent) : putB [] e = true := by unfold putB; simp
theorem putE_nil (e : Ent) : putE [] e = [e] := by unfold putE; simp [intoE]
theorem one_node {N : List Nd} {e : Ent} (h : [e] = entsN N) : ∃ n, N = [n] ∧ n.e = e := by
  unfold entsN at h
  match N, h with
  | [n], h => exact ⟨n, rfl, by simpa using h.symm⟩
theorem ints_lit (w : World) (xs : List Int) (n : Nat) (hn : xs.length = n) (hm : n ≤ maxLen) : RdI (w.alloc (.cells (xs.map (Value.int .i64)).toArray 3)) (.slice (some ⟨w.heap.size, 0, none⟩) n n) xs := by
  have h := World.ownsRow_lit (base := 0) (e := 3) (size := 1) w (xs.map (Value.int .i64)).toArray n (Nat.zero_le _) hm (by simp [hn])
  have h2 : OwnV 3 0 (w.alloc (.cells (xs.map (Value.int .i64)).toArray 3)) (.slice (some ⟨w.heap.size, 0, none⟩) n n) (xs.map (Value.int .i64)) := by
    unfold OwnV
    have e : (xs.map (Value.int .i64)).length = n := by rw [List.length_map, hn]
    rw [e]; exact h
  exact h2.rd
theorem run_field0 (a : ByteArray) (q k : Int) (s v : ByteArray) (w : World) : (Instr.field 30 (.agg #[.string a, .int .i64 q, .int .i64 k, .string s, .string v]) 0).run Try.prog w = .ok (.string a) w := by kernel_rfl
theorem run_field1 (a : ByteArray) (q k : Int) (s v : ByteArray) (w : World) : (Instr.field 30 (.agg #[.string a, .int .i64 q, .int .i64 k, .string s, .string v]) 1).run Try.prog w = .ok (.int .i64 q) w := by kernel_rfl
def oneE : Ent := ⟨⟨#[97]⟩, 2, 1, ⟨#[]⟩, ⟨#[118]⟩⟩
theorem findE_one : findE [oneE] ⟨#[97]⟩ 5 = some oneE := by simp [findE, oneE]
set_option maxHeartbeats 4000000 in
set_option maxRecDepth 100000 in
theorem lbegun_any (w : World) : Calls Try.prog 7 #[] w fun e w' => e = .returned (.bool true) ∧ Below w.heap.size w w' := by
  have hb0 := (Below.refl w.heap.size w).alloc (Nat.le_refl _) (.cells #[.int .i64 3] 3)
  have HB0 := Lib.hid hb0
  have HN := Lib.hid (sknew_any _ [3] _ (ints_lit w [3] 1 rfl (by decide)) (by decide))
  clear hb0
  go_enter Try.func7, Try.ntmps7
  go_wp2_with fail
  refine HN.out.mono ?_
  rintro e w1 ⟨b, ρ, rfl, h1, hb1, hn1⟩
  have HB1 := Lib.hid (HB0.out.trans (hb1.mono HB0.out.size))
  have HR1 : Hid (∀ k, ρ k ≠ none → w.heap.size ≤ k) := Lib.hid fun k hk => Nat.le_trans HB0.out.size (hn1 k hk)
  have HP := Lib.hid (sput_any w1 b ρ [3] [] h1 oneE (by decide) (by decide) (by decide))
  clear h1 hb1 hn1 HN HB0
  unfold oneE at HP
  go_wp2_with fail
  refine HP.out.mono ?_
  rintro e w2 ⟨rfl, ρ2, h2, u2, n2⟩
  rw [putB_nil]
  rw [putE_nil] at h2
  have HB2 : Hid (Below w.heap.size w w2) := Lib.hid (HB1.out.trans (u2.below HB1.out.size fun k hk f => by have := HR1.out k f; omega))
  have HR2 : Hid (∀ k, ρ2 k ≠ none → w.heap.size ≤ k) := Lib.hid fun k hk => by
    rcases n2 k hk with h | h
    · exact HR1.out k h
    · exact Nat.le_trans HB1.out.size h
  have HS := Lib.hid h2
  clear u2 n2 HP HR1 HB1 h2
  change Hid (SkAt w2 b ρ2 [3] [oneE]) at HS
  have HG : Hid (Calls Try.prog 12 #[.pointer (some ⟨b, 0, none⟩), .string ⟨#[97]⟩, .int .i64 5] w2 fun e w' => e = .returned (.tuple #[.agg #[.string ⟨#[97]⟩, .int .i64 2, .int .i64 1, .string ⟨#[]⟩, .string ⟨#[118]⟩], .bool true]) ∧ Below w2.heap.size w2 w') := Lib.hid (by
    have h := sget_any w2 b ρ2 [3] _ HS.out ⟨#[97]⟩ 5
    rw [findE_one] at h
    exact h)
  go_wp2_with fail
  refine HG.out.mono ?_
  rintro e w3 ⟨rfl, hb3⟩
  have HI := Lib.hid (skiter_any (w3.alloc (.cells #[.string ⟨#[97]⟩, .int .i64 2, .int .i64 1, .string ⟨#[]⟩, .string ⟨#[118]⟩] 30)) b)
  have HV := Lib.hid (BlkAt.new w3 #[.string ⟨#[97]⟩, .int .i64 2, .int .i64 1, .string ⟨#[]⟩, .string ⟨#[118]⟩] 30)
  have HB4 := Lib.hid (hb3.trans (((Below.refl w3.heap.size w3).alloc (Nat.le_refl _) (.cells #[.string ⟨#[97]⟩, .int .i64 2, .int .i64 1, .string ⟨#[]⟩, .string ⟨#[118]⟩] 30)).mono hb3.size))
  clear HG hb3
  go_wp2_with fail
  refine HI.out.mono ?_
  rintro e w5 ⟨rfl, hi, hb5⟩
  obtain ⟨w4, hw4⟩ : ∃ w4, w3.alloc (.cells #[.string ⟨#[97]⟩, .int .i64 2, .int .i64 1, .string ⟨#[]⟩, .string ⟨#[118]⟩] 30) = w4 := ⟨_, rfl⟩
  rw [hw4] at HB4 HV hi hb5 ⊢
  obtain ⟨v, hv⟩ : ∃ v, w3.heap.size = v := ⟨_, rfl⟩
  rw [hv] at HV ⊢
  obtain ⟨i, hi0⟩ : ∃ i, w4.heap.size = i := ⟨_, rfl⟩
  have hvi : v < i := by rw [← hi0]; exact HV.out.lt
  have hbi : w2.heap.size ≤ i := by rw [← hi0]; exact HB4.out.size
  have HB5 := Lib.hid (HB4.out.trans (hb5.mono HB4.out.size))
  replace HV := Lib.hid (HV.out.below hb5)
  rw [hi0] at hi ⊢
  obtain ⟨hvv, N, hlay, hN⟩ := HS.out.below HB5.out
  obtain ⟨n, rfl, hn⟩ := one_node hN
  have HF := Lib.hid (itfirst_any w5 i b none hi ρ2 hvv [3] [n] hlay)
  have HL := Lib.hid hlay
  have HNE := Lib.hid hn
  have HBT := Lib.hid (HB2.out.trans (HB5.out.mono HB2.out.size))
  have hw5i : w.heap.size ≤ i := Nat.le_trans HB2.out.size hbi
  have hρi : Hid (∀ k, ρ2 k ≠ none → k ≠ i) := Lib.hid fun k hk => by
    obtain ⟨_, _, h, _⟩ := HS.out
    have := h.top k hk; omega
  clear hi hb5 hw4 hi0 hv hlay hN hn HI HB4 HS HB2
  go_wp2_with fail
  refine HF.out.mono ?_
  rintro e w6 ⟨rfl, hi6, u6⟩
  change ItAt w6 i b (some n.nb) at hi6
  have HL6 := Lib.hid (HL.out.same (fun k hk => u6.block k (HL.out.top k hk) (hρi.out k hk)) u6.size)
  have HV6 : Hid (BlkAt w6 v #[.string ⟨#[97]⟩, .int .i64 2, .int .i64 1, .string ⟨#[]⟩, .string ⟨#[118]⟩] 30) := Lib.hid ((u6.block v HV.out.lt (by show v ≠ i; omega)).trans HV.out)
  have HB6 : Hid (Below w.heap.size w w6) := Lib.hid (HBT.out.trans (u6.below HBT.out.size fun k hk f => by have : k = i := f; omega))
  have hd4 : w6.cell? ⟨v, 4, none⟩ = some (.string ⟨#[118]⟩) := HV6.out.at 4
  have hLn : Hid (Calls Try.prog 14 #[.pointer (some ⟨b, 0, none⟩)] w6 fun e w' => e = .returned (.int .i64 1) ∧ w6 = w') := Lib.hid (sklen_any w6 b ρ2 hvv [3] [n] HL6.out)
  have hSz : Hid (Calls Try.prog 20 #[.pointer (some ⟨b, 0, none⟩)] w6 fun e w' => e = .returned (.int .i64 34) ∧ w6 = w') := Lib.hid (by
    have h := sksize_any w6 b ρ2 hvv [3] [n] HL6.out
    have e1 : szA (entsN [n]) = 34 := by
      show szE n.e + 0 = 34
      rw [HNE.out]; rfl
    rw [e1] at h
    exact h)
  have hOk : Hid (Calls Try.prog 21 #[.pointer (some ⟨i, 0, none⟩)] w6 fun e w' => e = .returned (.bool true) ∧ w6 = w') := Lib.hid (itok_any w6 i b _ hi6)
  have hEn : Hid (Calls Try.prog 22 #[.pointer (some ⟨i, 0, none⟩)] w6 fun e w' => e = .returned (.agg #[.string ⟨#[97]⟩, .int .i64 2, .int .i64 1, .string ⟨#[]⟩, .string ⟨#[118]⟩]) ∧ Below w6.heap.size w6 w') := Lib.hid (by
    have h := itentry_any w6 i b [] [] n hi6 ρ2 hvv [3] HL6.out
    rw [HNE.out] at h
    exact h)
  clear hi6 u6 HF HL HV HBT HL6 HV6 HNE hρi
  go_wp2_with fail
  refine hLn.out.mono ?_
  rintro e w' ⟨rfl, rfl⟩
  go_wp2_with fail
  refine hSz.out.mono ?_
  rintro e w' ⟨rfl, rfl⟩
  go_wp2_with fail
  refine hOk.out.mono ?_
  rintro e w' ⟨rfl, rfl⟩
  go_wp2_with fail
  refine hEn.out.mono ?_
  rintro e w7 ⟨rfl, hb7⟩
  have hfl := run_field1 ⟨#[97]⟩ 2 1 ⟨#[]⟩ ⟨#[118]⟩ w7
  go_wp2_with fail
  go_ret
  exact ⟨rfl, HB6.out.trans (hb7.mono HB6.out.size)⟩
end Go.Proofs.Ytacaofnonmgfoaa
