/- For the law ManifestOld: another file is made, numbers of two digits, which names are old. -/
import Derived.Test.YtmmkgopnccfiiaaGreatDoorManDir
import Derived.Test.YtmmkgopnccfiiaaGreatDoorMOld
import Derived.Test.YtmmkgopnccfiiaaGreatDoorMBase
namespace Go.Proofs.YtmmkgopnccfiiaaGreatDoor
set_option linter.unusedVariables false
open Go.RowKit Go.Maps
/-- A number of two digits. -/
def twoD (n : Nat) : ByteArray := ⟨#[UInt8.ofNat (48 + n / 10 % 10), UInt8.ofNat (48 + n % 10)]⟩
def tabD (n : Nat) : ByteArray := twoD n ++ tabT
def stray : ByteArray := ⟨#[115, 116, 114, 97, 121]⟩
def log7 : ByteArray := ⟨#[55, 46, 108, 111, 103]⟩
theorem tab_num : ((List.range 100).drop 10).map (fun n => numN n tabT) = ((List.range 100).drop 10).map tabD := by kernel_rfl
theorem tab_parse : ((List.range 100).map fun n => badNum (Lib.parseIntB 64 (stemN (tabD n)).data.toList)) = (List.range 100).map fun _ => true := by kernel_rfl
theorem stray_parse : badNum (Lib.parseIntB 64 (stemN stray).data.toList) = true := by kernel_rfl
theorem log7_parse : Lib.parseIntB 64 (stemN log7).data.toList = .ok 7 := by kernel_rfl
theorem log7_is : numN 7 logT = log7 := by kernel_rfl
theorem tabD_is {n : Nat} (h0 : 10 ≤ n) (h : n < 100) : numN n tabT = tabD n := by
  have e := congrArg (fun l => l[n - 10]?) tab_num
  simp only [List.getElem?_map, List.getElem?_drop, show 10 + (n - 10) = n by omega, List.getElem?_range h, Option.map_some, Option.some.injEq] at e
  exact e
theorem tabD_parse {n : Nat} (h : n < 100) : badNum (Lib.parseIntB 64 (stemN (tabD n)).data.toList) = true := by
  have e := congrArg (fun l => l[n]?) tab_parse
  simp only [List.getElem?_map, List.getElem?_range h, Option.map_some, Option.some.injEq] at e
  exact e
theorem log_bad {x : ByteArray} (h : badNum (Lib.parseIntB 64 (stemN x).data.toList) = true) (lg : Int) : logFrom lg x = false := by
  unfold logFrom
  cases hq : Lib.parseIntB 64 (stemN x).data.toList
  · rw [hq] at h; cases h
  · rfl
  · rfl
theorem log_tab {n : Nat} (h : n < 100) (lg : Int) : logFrom lg (tabD n) = false := log_bad (tabD_parse h) lg
theorem log_stray (lg : Int) : logFrom lg stray = false := log_bad stray_parse lg
theorem log_seven (lg : Int) : logFrom lg log7 = decide (lg ≤ 7) := by
  unfold logFrom
  rw [log7_parse]
  show (decide (lg ≤ 7 ∧ (7 : Int) ≤ 1125899906842624) && decide (numN 7 logT = log7)) = _
  rw [log7_is, decide_eq_true rfl, Bool.and_true]
  by_cases h : lg ≤ 7
  · rw [decide_eq_true (show lg ≤ 7 ∧ (7 : Int) ≤ 1125899906842624 from ⟨h, by decide⟩), decide_eq_true h]
  · rw [decide_eq_false (fun k : lg ≤ 7 ∧ (7 : Int) ≤ 1125899906842624 => h k.1), decide_eq_false h]
theorem digit_bv (d : Nat) (h : d < 10) : Value.int .u8 (48 + (d : Int)) = bv (UInt8.ofNat (48 + d)) := by
  unfold bv
  congr 1
  have : (UInt8.ofNat (48 + d)).toNat = 48 + d := by simp; omega
  rw [this]; omega
set_option maxHeartbeats 2000000 in
theorem dec_any (n : Nat) (h : n < 100) (w : World) : Calls Tryz.prog 8 #[.int .i64 (n : Int)] w fun e w' => e = .returned (.string (twoD n)) ∧ Below w.heap.size w w' := by
  have hcv : ∀ W : World, (convert 51 9 (.slice (some ⟨W.heap.size, 0, none⟩) 2 2)).run Tryz.prog (W.alloc (.cells #[.int .u8 (48 + (n : Int) / 10 % 10), .int .u8 (48 + (n : Int) % 10)] 5)) = .ok (.string (twoD n)) (W.alloc (.cells #[.int .u8 (48 + (n : Int) / 10 % 10), .int .u8 (48 + (n : Int) % 10)] 5)) := fun W => by
    refine RdB.text (OwnB.lit W [UInt8.ofNat (48 + n / 10 % 10), UInt8.ofNat (48 + n % 10)] _ 2 0 rfl (by decide) ?_ (Nat.zero_le _)).rd
    rw [List.map_cons, List.map_cons, List.map_nil, ← digit_bv (n / 10 % 10) (by omega), ← digit_bv (n % 10) (by omega)]
    have e1 : ((n / 10 % 10 : Nat) : Int) = (n : Int) / 10 % 10 := by omega
    have e2 : ((n % 10 : Nat) : Int) = (n : Int) % 10 := by omega
    rw [e1, e2]
  have hn0 : (0 : Int) ≤ (n : Int) := by omega
  have hn1 : (n : Int) < 100 := by omega
  have hal : Below w.heap.size w (w.alloc (.cells #[.int .u8 (48 + (n : Int) / 10 % 10), .int .u8 (48 + (n : Int) % 10)] 5)) := (Below.refl _ w).alloc (Nat.le_refl _) _
  have HC := Lib.hid hal
  have hcw := hcv w
  generalize twoD n = T at *
  clear hcv hal
  go_enter Tryz.func8, Tryz.ntmps8
  go_wp2_with fail
  go_ret
  exact ⟨rfl, HC.out⟩
/-- A table of the law's. -/
def tF (m : Nat) : Tbf := ⟨(m : Int), 0, 0, ⟨#[97]⟩, ⟨#[98]⟩⟩
theorem tabN_tF {m : Nat} (h0 : 10 ≤ m) (h : m < 100) : tabN (tF m) = tabD m := by
  unfold tabN
  show numN ((m : Int)).toNat tabT = _
  rw [Int.toNat_natCast, tabD_is h0 h]
def codD (b : ByteArray) : Nat := (b.data.toList.getD 0 0).toNat * 10 + (b.data.toList.getD 1 0).toNat
theorem cod_all : (List.range 100).map (fun n => codD (tabD n)) = (List.range 100).map fun n => n + 528 := by kernel_rfl
theorem cod_at {n : Nat} (h : n < 100) : codD (tabD n) = n + 528 := by
  have e := congrArg (fun l => l[n]?) cod_all
  simp only [List.getElem?_map, List.getElem?_range h, Option.map_some, Option.some.injEq] at e
  exact e
theorem tabD_inj {m n : Nat} (hm : m < 100) (hn : n < 100) (h : tabD m = tabD n) : m = n := by
  have h1 := cod_at hm
  rw [h, cod_at hn] at h1
  omega
theorem tabD_size (m : Nat) : (tabD m).size = 6 := by
  unfold tabD
  rw [ByteArray.size_append]; rfl
theorem tabD_cur (m : Nat) : tabD m ≠ curN := fun h => by
  have := congrArg ByteArray.size h
  rw [tabD_size] at this
  exact absurd this (by decide)
theorem man1_is : manN 1 = ⟨#[49, 46, 109, 97, 110]⟩ := by kernel_rfl
theorem tabD_man (m : Nat) : tabD m ≠ manN 1 := fun h => by
  have := congrArg ByteArray.size h
  rw [tabD_size, man1_is] at this
  exact absurd this (by decide)
/-- Which table's name is needed. -/
theorem del_tab {ds : List Nat} {fs : List Tbf} (hds : ∀ d ∈ ds, 10 ≤ d ∧ d < 100) (hfs : ∀ f, f ∈ fs ↔ ∃ d ∈ ds, f = tF d) {m : Nat} (hm : m < 100) (lg : Int) : delP (needN 1 1 fs) lg (tabD m) = decide (m ∈ ds) := by
  unfold delP
  rw [log_tab hm, Bool.or_false, Bool.eq_iff_iff, Lib.containsS_iff, decide_eq_true_eq]
  unfold needN
  simp only [List.mem_cons, List.mem_map]
  constructor
  · rintro (h | h | h | ⟨f, hf, h⟩)
    · exact absurd h (tabD_cur m)
    · exact absurd h (tabD_man m)
    · exact absurd h (tabD_man m)
    · obtain ⟨d, hd, rfl⟩ := (hfs f).1 hf
      rw [tabN_tF (hds d hd).1 (hds d hd).2] at h
      rw [← tabD_inj (hds d hd).2 hm h]; exact hd
  · intro h
    exact .inr (.inr (.inr ⟨tF m, (hfs _).2 ⟨m, h, rfl⟩, tabN_tF (hds m h).1 (hds m h).2⟩))
theorem tabN_size6 {ds : List Nat} {fs : List Tbf} (hds : ∀ d ∈ ds, 10 ≤ d ∧ d < 100) (hfs : ∀ f, f ∈ fs ↔ ∃ d ∈ ds, f = tF d) : ∀ f ∈ fs, (tabN f).size = 6 := fun f hf => by
  obtain ⟨d, hd, rfl⟩ := (hfs f).1 hf
  rw [tabN_tF (hds d hd).1 (hds d hd).2, tabD_size]
theorem need_five {ds : List Nat} {fs : List Tbf} (hds : ∀ d ∈ ds, 10 ≤ d ∧ d < 100) (hfs : ∀ f, f ∈ fs ↔ ∃ d ∈ ds, f = tF d) {x : ByteArray} (h5 : x.size = 5) (hx : x ≠ manN 1) : x ∉ needN 1 1 fs := by
  unfold needN
  simp only [List.mem_cons, List.mem_map]
  rintro (h | h | h | ⟨f, hf, h⟩)
  · rw [h] at h5; exact absurd h5 (by decide)
  · exact hx h
  · exact hx h
  · have := tabN_size6 hds hfs f hf
    rw [h] at this; omega
theorem del_stray {ds : List Nat} {fs : List Tbf} (hds : ∀ d ∈ ds, 10 ≤ d ∧ d < 100) (hfs : ∀ f, f ∈ fs ↔ ∃ d ∈ ds, f = tF d) (lg : Int) : delP (needN 1 1 fs) lg stray = false := by
  unfold delP
  rw [log_stray, Bool.or_false, Bool.eq_false_iff]
  exact fun h => need_five hds hfs rfl (by rw [man1_is]; decide) ((Lib.containsS_iff _ _).1 h)
theorem del_seven {ds : List Nat} {fs : List Tbf} (hds : ∀ d ∈ ds, 10 ≤ d ∧ d < 100) (hfs : ∀ f, f ∈ fs ↔ ∃ d ∈ ds, f = tF d) (lg : Int) : delP (needN 1 1 fs) lg log7 = decide (lg ≤ 7) := by
  unfold delP
  rw [log_seven, show Lib.containsS (needN 1 1 fs) log7 = false from Bool.eq_false_iff.2 fun h => need_five hds hfs rfl (by rw [man1_is]; decide) ((Lib.containsS_iff _ _).1 h), Bool.false_or]
theorem del_need (fs : List Tbf) (lg : Int) {x : ByteArray} (h : x = curN ∨ x = manN 1) : delP (needN 1 1 fs) lg x = true := by
  unfold delP
  rw [(Lib.containsS_iff _ _).2 (by unfold needN; simp only [List.mem_cons]; rcases h with h | h <;> simp [h]), Bool.true_or]
end Go.Proofs.YtmmkgopnccfiiaaGreatDoor
