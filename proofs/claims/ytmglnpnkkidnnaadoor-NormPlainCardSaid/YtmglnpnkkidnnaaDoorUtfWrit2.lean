/- The walks of utf.Write and of the reference's Write: both answer what one plain function gives. -/
import Derived.Test.YtmglnpnkkidnnaaDoorUtfWrite
import Derived.Test.YtmglnpnkkidnnaaDoorInts
import Derived.Laws.BytesArg
namespace Go.Proofs.YtmglnpnkkidnnaaDoor
set_option linter.unusedVariables false
open Go.RowKit

def writeP : List Int → Option (List UInt8)
  | [] => some []
  | c :: r => if vldB c = true then (writeP r).map (encP c ++ ·) else none
def WriteRes (w : World) (r : Option (List UInt8)) (e : Ending) (w' : World) : Prop :=
  Below w.heap.size w w' ∧ match r with
  | none => e = .returned (.tuple #[.string ⟨#[]⟩, .bool false])
  | some bs => e = .returned (.tuple #[.string ⟨bs.toArray⟩, .bool true])
theorem write_none {r : Option (List UInt8)} {xs : List Int} {k : Nat} {bs : List UInt8} (hk : k < xs.length) (H : Hid (r = (writeP (xs.drop k)).map (bs ++ ·))) (h : vldB (xs.getD k 0) = false) : r = none := by
  rw [H.out, List.drop_eq_getElem_cons hk]
  rw [List.getD_eq_getElem?_getD, List.getElem?_eq_getElem hk] at h
  unfold writeP; rw [if_neg (by simp at h; simp [h])]; rfl
theorem write_more {r : Option (List UInt8)} {xs : List Int} {k : Nat} {bs : List UInt8} (hk : k < xs.length) (H : Hid (r = (writeP (xs.drop k)).map (bs ++ ·))) (h : vldB (xs.getD k 0) = true) :
    Hid (r = (writeP (xs.drop (k + 1))).map ((bs ++ encP (xs.getD k 0)) ++ ·)) := by
  refine Lib.hid ?_
  rw [H.out, List.drop_eq_getElem_cons hk]
  rw [List.getD_eq_getElem?_getD, List.getElem?_eq_getElem hk] at h ⊢
  simp only [Option.getD_some] at h ⊢
  rw [writeP, if_pos h, Option.map_map]
  congr 1; funext l; simp
theorem write_end {r : Option (List UInt8)} {xs : List Int} {bs : List UInt8} (H : Hid (r = (writeP (xs.drop xs.length)).map (bs ++ ·))) : r = some bs := by
  rw [H.out, List.drop_length]; simp [writeP]
theorem enc_le (c : Int) : (encP c).length ≤ 4 := by rw [encP_length]; unfold szI; (repeat' split) <;> omega

theorem strOf_bytes (bs : List UInt8) : strOfNums (bs.map fun b => (b.toNat : Int)) = ⟨bs.toArray⟩ := by
  unfold strOfNums
  rw [List.map_map]
  have : (List.map ((fun n : Int => UInt8.ofNat n.toNat) ∘ fun b : UInt8 => (b.toNat : Int)) bs) = bs := by
    conv => rhs; rw [← List.map_id bs]
    apply List.map_congr_left
    intro b _
    simp
  rw [this]
/-- 'string(b)' of a slice of bytes of the call's own. -/
theorem conv_own {B : Nat} {w : World} {v : Value} {bs : List UInt8} (h : OwnV 5 B w v (bs.map bv)) : (convert 36 9 v).run Tryd.prog w = .ok (.string ⟨bs.toArray⟩) w := by
  rcases h.rd with ⟨a, cap, rfl, e⟩ | ⟨b, off, cap, rfl, h2, h3, h4, h5, h6⟩
  · have e2 : bs = [] := by simpa using e
    subst e2
    rcases h.nilOr with ⟨e1, -⟩ | ⟨g, cap', e1, -⟩
    · rw [e1]; exact run_convert_bytes_nil w 36 5 Tryd.underlying36 Tryd.underlying5 0 0 9 Tryd.underlying9
    · rw [e1]
      exact run_convert_bytes_arg w 36 5 Tryd.underlying36 Tryd.underlying5 g 0 0 cap' [] rfl (fun i hi => by omega) 9 Tryd.underlying9
  · rw [List.length_map] at h2 h3 h6 ⊢
    rw [← strOf_bytes]
    refine run_convert_bytes_arg w 36 5 Tryd.underlying36 Tryd.underlying5 b off bs.length cap _ (List.length_map _) (fun i hi => ?_) 9 Tryd.underlying9
    rw [h6 i hi]
    simp [List.getD_eq_getElem?_getD, List.getElem?_eq_getElem hi, bv]

set_option maxHeartbeats 1000000 in
set_option maxRecDepth 100000 in
theorem write_any (v : Value) (xs : List Int) (hx : xs.length ≤ 10000) (w : World) (hv : RdI w v xs) :
    Calls Tryd.prog 29 #[v] w (WriteRes w (writeP xs)) := by
  obtain ⟨r, hr⟩ : ∃ r, writeP xs = r := ⟨_, rfl⟩
  rcases hv.cases with ⟨a, cap, rfl, rfl⟩ | ⟨b, off, cap, rfl, hpos, hcap, hmax, hb, hcell⟩
  · rw [show writeP [] = some [] from rfl]
    have hcv := conv_own (bs := []) (show OwnV 5 0 w (.slice none 0 0) (([] : List UInt8).map bv) from OwnV.nil 5 0 w)
    go_enter Tryd.func29, Tryd.ntmps29
    go_wp2
    refine wp_loop_rounds 1 ?_
    rw [rounds_succ]
    go_wp2
    go_ret2
    exact ⟨Below.refl _ _, rfl⟩
  · have HR : Hid (r = (writeP (xs.drop 0)).map ([] ++ ·)) := Lib.hid (by rw [List.drop_zero, hr]; simp)
    rw [hr]
    clear hr
    have HC : Hid (∀ i, i < xs.length → w.cell? ⟨b, off + i, none⟩ = some (.int .i64 (xs.getD i 0))) := Lib.hid hcell
    clear hcell hmax
    go_enter Tryd.func29, Tryd.ntmps29
    go_wp2
    go_loopw [4, 9] (fun l i wr => ∃ (k : Nat) (bs : List UInt8), i = .int .i64 k ∧ k ≤ xs.length ∧ OwnV 5 w.heap.size wr l (bs.map bv) ∧ Below w.heap.size w wr ∧ bs.length ≤ 4 * k ∧ Hid (r = (writeP (xs.drop k)).map (bs ++ ·)))
      (fun _ i _ => xs.length - (intOf i).toNat)
    case atStart => exact ⟨0, [], rfl, Nat.zero_le _, OwnV.nil _ _ _, Below.refl _ _, Nat.zero_le _, HR⟩
    case round =>
      obtain ⟨k, bs, rfl, hk, hown, hbel, hlen, HRt⟩ := hrel
      have hwr := hbel.size
      by_cases hlt : k < xs.length
      · have hc : wr.cell? ⟨b, off + k, none⟩ = some (.int .i64 (xs.getD k 0)) := by rw [hbel.cell hb]; exact HC.out k hlt
        cases hvl : vldB (xs.getD k 0) with
        | false =>
          obtain rfl := write_none hlt HRt hvl
          have HV := Lib.hid hvl
          clear HRt hvl
          generalize xs.getD k 0 = c at *
          go_wp2_with (go_at_call 45; refine (valid_any _ _).mono ?_; rintro e w' ⟨rfl, rfl⟩; rw [HV.out])
          go_ret2
          exact ⟨hbel, rfl⟩
        | true =>
          have HRn := write_more hlt HRt hvl
          have HV := Lib.hid hvl
          have hv3 := (vldB_iff _).1 hvl
          clear HRt hvl
          generalize xs.getD k 0 = c at *
          have HA : Hid (∀ w', w' = wr → Calls Tryd.prog 46 #[u4, .int .i64 c] w' (AppRes w.heap.size w' (bs ++ encP c))) := Lib.hid fun w' e => by subst e; exact appendChar_any c hv3.1 hv3.2.1 _ bs (by omega) _ _ hwr hown
          have he4 := enc_le c
          go_wp2_with (first | (go_at_call 45; refine (valid_any _ _).mono ?_; rintro e w' ⟨rfl, rfl⟩; rw [HV.out]) | (go_at_call 46; refine (HA.out _ rfl).mono ?_; rintro e w1 ⟨v1, rfl, hown1, hb1⟩))
          go_roundw
          case rel => exact ⟨k + 1, bs ++ encP c, by go_num, hlt, hown1, hbel.trans hb1, by rw [List.length_append]; omega, HRn⟩
          case measure => simp [intOf]; omega
      · obtain rfl : k = xs.length := by omega
        obtain rfl := write_end HRt
        have hcv := conv_own hown
        clear HRt
        go_wp2
        go_ret2
        exact ⟨hbel, rfl⟩
end Go.Proofs.YtmglnpnkkidnnaaDoor
