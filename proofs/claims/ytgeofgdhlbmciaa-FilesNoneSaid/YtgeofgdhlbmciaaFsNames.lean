/- simfs' names of a directory, rising: the library's keys of a map, sorted. -/
import Derived.Test.YtgeofgdhlbmciaaFsUsed
import Derived.Test.YtgeofgdhlbmciaaFsLays
namespace Go.Proofs.Ytgeofgdhlbmciaa
set_option linter.unusedVariables false
open Go.RowKit Go.Maps Go.Sort Go.Shelf
theorem sortsM (m : Nat) : AnyZ.SortsIn Try.prog sortedM_ren Fence.wide m :=
  ⟨fun blk off cap ss W hH hblk hsz => callsIn_wide.2 (AnyM.slices_Sort_string sortM blk off cap ss W hH hblk hsz),
   fun p cap W => callsIn_wide.2 (AnyM.slices_Sort_string_none sortM p cap W)⟩
theorem keys_c (mb : Option Nat) (W : World) : Calls Try.prog 37 #[.map mb] W fun e w' => e = .returned (.func (.func 41) #[] #[.pointer (some ⟨W.heap.size, 0, none⟩)]) ∧ w' = W.alloc (.cells #[.map mb] 49) :=
  callsIn_wide.1 (AnyZ.keys_in keysM Fence.wide 5 trivial rfl mb W)
def SortedAt (w : World) (l : Dir) (e : Ending) (w' : World) : Prop := ∃ v, e = .returned v ∧ OwnV 9 w.heap.size w' v (l.map fun x => .string x.1) ∧ Below w.heap.size w w'
theorem enc_str (s : ByteArray) : encStr s.data.toList = .string s := by unfold encStr; simp
theorem names_sorted {l : Dir} (h : DirOk l) {ss : List (List UInt8)} (hp : ss.Perm (strKeys (rawD l))) : (ss.mergeSort (fun x y => decide (x ≤ y))).map encStr = l.map fun x => .string x.1 := by
  have h1 : ss.mergeSort (fun x y => decide (x ≤ y)) = l.map fun x => x.1.data.toList := by
    rw [show ss.mergeSort (fun x y => decide (x ≤ y)) = ss.mergeSort leB from rfl, mergeSort_of_perm hp, raw_keys]
    refine List.mergeSort_of_pairwise (List.pairwise_map.2 (h.imp fun {x y} hxy => ?_))
    simp only [leB, decide_eq_true_eq]
    exact List.le_of_lt hxy
  rw [h1, List.map_map]
  exact List.map_congr_left fun x _ => enc_str x.1
theorem sorted_c (mb : Option Nat) (l : Dir) (w : World) (h : MB w mb l) (hok : DirOk l) (hl : l.length ≤ 1000000) :
    Calls Try.prog 36 #[.func (.func 41) #[] #[.pointer (some ⟨w.heap.size, 0, none⟩)]] (w.alloc (.cells #[.map mb] 49)) (SortedAt (w.alloc (.cells #[.map mb] 49)) l) := by
  cases mb with
  | none =>
    have hseq : SeqGives Fence.wide 2 Try.prog 41 #[.pointer (some ⟨w.heap.size, 0, none⟩)] encStr (fun ss : List (List UInt8) => ss = []) 0 (w.alloc (.cells #[.map none] 49)) :=
      AnyZ.keys_gives_nil (ρ := keysM_ren) { keysM with } Fence.wide _ trivial rfl w.heap.size _ (by simp) (by simp)
    refine Calls.mono (callsIn_wide.1 (AnyZ.sorted_in sortedM Fence.wide 5 trivial trivial trivial trivial rfl (by omega) (sortsM _) (enters_of Try.func40 (by kernel_rfl) rfl) 41 #[.pointer (some ⟨w.heap.size, 0, none⟩)] trivial (enters_of Try.func41 (by kernel_rfl) rfl) _ 0 (Nat.zero_le _) (by omega) _ hseq)) ?_
    rintro e w' ⟨v, ss, rfl, rfl, hrow, hnil, hb⟩
    have hl0 : l = [] := h
    subst hl0
    have h0 : ([] : List (List UInt8)).mergeSort (fun x y => decide (x ≤ y)) = [] := by simp
    rw [h0] at hrow
    exact ⟨v, rfl, hrow, hb⟩
  | some k =>
    have hown : w.ownsMap Try.prog 9 ptrR k l.length (rawD l) := h
    have hbl := hown.lt
    have hsz : Maps.size (rawD l) = l.length := raw_size l
    have hseq : SeqGives Fence.wide 2 Try.prog 41 #[.pointer (some ⟨w.heap.size, 0, none⟩)] encStr (fun ss => ss.Perm (strKeys (rawD l))) (Maps.size (rawD l)) (w.alloc (.cells #[.map (some k)] 49)) :=
      AnyZ.keys_gives (ρ := keysM_ren) { keysM with } Fence.wide _ trivial rfl (by omega) w.heap.size k l.length (rawD l) _ (by simp) (by simp) (by
        obtain ⟨es, clock, hb, Ft, hs, hD⟩ := hown
        exact ⟨es, clock, (Below.heap_alloc _ _ k hbl).trans hb, Ft, hs, hD⟩)
    refine Calls.mono (callsIn_wide.1 (AnyZ.sorted_in sortedM Fence.wide 5 trivial trivial trivial trivial rfl (by omega) (sortsM _) (enters_of Try.func40 (by kernel_rfl) rfl) 41 #[.pointer (some ⟨w.heap.size, 0, none⟩)] trivial (enters_of Try.func41 (by kernel_rfl) rfl) _ _ (by rw [hsz]; unfold maxLen; omega) (by rw [hsz]; omega) _ hseq)) ?_
    rintro e w' ⟨v, ss, rfl, hS, hrow, hnil, hb⟩
    refine ⟨v, rfl, ?_, hb⟩
    have hlen : ss.length = l.length := by rw [hS.length_eq, raw_keys, List.length_map]
    have hns := names_sorted hok hS
    unfold OwnV
    rw [List.length_map, ← hlen, ← hns]
    exact hrow
set_option maxHeartbeats 1000000 in
theorem names_any (mb : Option Nat) (l : Dir) (w : World) (h : MB w mb l) (hok : DirOk l) (hl : l.length ≤ 1000000) : Calls Try.prog 30 #[.map mb] w (SortedAt w l) := by
  have HK := Lib.hid (keys_c mb w)
  have HS := Lib.hid (sorted_c mb l w h hok hl)
  clear h hok hl
  go_enter Try.func30, Try.ntmps30
  go_wp2_with fail
  refine HK.out.mono ?_
  rintro e w1 ⟨rfl, rfl⟩
  go_wp2_with fail
  refine HS.out.mono ?_
  rintro e w2 ⟨v, rfl, h1, h2⟩
  go_wp2_with fail
  go_ret
  exact ⟨v, rfl, h1.base (by simp), ((Below.refl _ _).alloc (Nat.le_refl _) _).trans (h2.mono (by simp))⟩
theorem FsLay.fewO {w : World} {b : Nat} {ρ : Nat → Option Role} {S : Fs} {L : Lay} (h : FsLay w b ρ S L) : (dmap L.fb S.now).length ≤ 1000000 := by rw [dmap_len]; have := h.ok.few_now; omega
set_option maxHeartbeats 1000000 in
theorem fsnames_any (w : World) (b : Nat) (ρ : Nat → Option Role) (S : Fs) (h : FsAt w b ρ S) : Calls Try.prog 17 #[.pointer (some ⟨b, 0, none⟩)] w (SortedAt w S.now) := by
  obtain ⟨L, h⟩ := h
  have HN := Lib.hid (names_any L.mn _ w h.now (dmap_ok h.ok.now) h.fewO)
  have c0 := h.cells.c0
  clear h
  go_enter Try.func17, Try.ntmps17
  go_wp2_with fail
  refine HN.out.mono ?_
  rintro e w2 ⟨v, rfl, h1, h2⟩
  go_wp2_with fail
  go_ret
  refine ⟨v, rfl, ?_, h2⟩
  have e : (dmap L.fb S.now).map (fun x => Value.string x.1) = S.now.map (fun x => Value.string x.1) := by
    unfold dmap; rw [List.map_map]; rfl
  rw [← e]
  exact h1
end Go.Proofs.Ytgeofgdhlbmciaa
