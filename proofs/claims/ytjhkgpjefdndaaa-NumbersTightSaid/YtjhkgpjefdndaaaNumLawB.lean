/- The walks of the laws NumbersBytes and NumbersTight. -/
import Derived.Test.YtjhkgpjefdndaaaNumLawA
import Derived.Test.YtjhkgpjefdndaaaByShort
namespace Go.Proofs.Ytjhkgpjefdndaaa
set_option linter.unusedVariables false
open Go.RowKit
set_option maxHeartbeats 4000000 in
set_option maxRecDepth 100000 in
theorem numbersBytes_walk (w : World) (a : Option Addr) (len cap : Nat) (zs : List Int) (hz : RdV w (.slice a len cap) (zs.map (Value.int .u8))) (hw : ∀ n ∈ zs, (Lit.int .u8 n).wf = true) :
    Calls Try.prog 4 #[.slice a len cap] w fun e w' => e = .returned (.bool true) ∧ Below w.heap.size w w' := by
  obtain ⟨bs, hbs⟩ := bytes_of zs hw
  rw [hbs] at hz
  have HZ : Hid (RdB w (.slice a len cap) bs) := Lib.hid hz
  clear hz hw hbs
  go_enter Try.func4, Try.ntmps4
  go_wp2_with fail
  refine (vbegun_any _).mono ?_
  rintro e w1 ⟨rfl, B⟩
  have HS := Lib.hid (short_any a len cap bs 60 (by omega) w1 (HZ.out.below B))
  clear HZ
  go_wp2_with fail
  refine HS.out.mono ?_
  rintro e w' ⟨a2, l2, c2, rfl, hrd, rfl⟩
  clear HS
  obtain ⟨l, hl⟩ : ∃ l, bs.take 60 = l := ⟨_, rfl⟩
  rw [hl] at hrd
  have HR := Lib.hid hrd
  clear hl hrd
  have HG := Lib.hid (get_any _ l w1 HR.out)
  have HG2 := Lib.hid (rget_any _ l w1 HR.out)
  have HT := Lib.hid (gettext_any _ l w1 HR.out)
  have HT2 := Lib.hid (rgettext_any _ l w1 HR.out)
  clear HR
  generalize getN l = r at *
  generalize getT l = u at *
  go_wp2_with fail
  refine HG.out.mono ?_
  rintro e w' ⟨rfl, rfl⟩
  have hr : ∃ n k : Int, numRes r = .tuple #[.int .u64 n, .int .i64 k] := by
    rcases r with _ | ⟨n, k⟩
    · exact ⟨0, 0, rfl⟩
    · exact ⟨_, _, rfl⟩
  obtain ⟨n, k, hnk⟩ := hr
  have hu : ∃ (s : List UInt8) (k : Int), txtRes u = .tuple #[.string ⟨s.toArray⟩, .int .i64 k] := by
    rcases u with _ | ⟨s, k⟩
    · exact ⟨[], 0, rfl⟩
    · exact ⟨_, _, rfl⟩
  obtain ⟨s, q, hsq⟩ := hu
  unfold GetRes at HG2
  unfold TxtRes at HT HT2
  rw [hnk] at HG2 ⊢
  rw [hsq] at HT HT2
  clear HG hnk hsq
  go_wp2_with fail
  refine HG2.out.mono ?_
  rintro e w' ⟨rfl, rfl⟩
  clear HG2
  go_wp2_with fail
  refine HT.out.mono ?_
  rintro e w' ⟨rfl, rfl⟩
  clear HT
  go_wp2_with fail
  refine HT2.out.mono ?_
  rintro e w' ⟨rfl, rfl⟩
  clear HT2
  have h1 : (n == n) = true := by simp
  have h2 : (k == k) = true := by simp
  have h3 : (q == q) = true := by simp
  have h4 : ((⟨s.toArray⟩ : ByteArray).toList == (⟨s.toArray⟩ : ByteArray).toList) = true := by simp
  go_wp2_with fail
  go_ret
  exact ⟨rfl, B⟩
theorem OwnB.set {B : Nat} {w : World} {g n cap : Nat} {bs : List UInt8} (h : OwnB B w (.slice (some ⟨g, 0, none⟩) n cap) bs) (j : Nat) (x : UInt8) : OwnB B (w.setCell ⟨g, j, none⟩ (bv x)) (.slice (some ⟨g, 0, none⟩) n cap) (bs.set j x) := by
  have hn : n = (bs.map bv).length := by
    rcases h.2 with ⟨e, _⟩ | ⟨_, _, _, e, _⟩
    · simp at e
    · simp at e; simp [e.2.1]
  subst hn
  have := (World.ownsRow.stored h j (bv x)).1
  show World.ownsRow _ _ _ _ _ _ _
  rw [List.map_set, List.length_set]
  exact this
/-- bytes of 128 and more, then one (0 behind the first round) -/
def Tight (i : Nat) (l : List UInt8) : Prop := ∃ (q : List UInt8) (x : UInt8), l = q ++ [x] ∧ (∀ b ∈ q, 128 ≤ b.toNat) ∧ i ≤ q.length ∧ q.length ≤ 9 + i ∧ (0 < i → x = 0)
theorem tight_start (n : Nat) : Tight 0 (putN n) := by
  obtain ⟨p, x, e, h⟩ := putN_front n
  refine ⟨p, x, e, h, Nat.zero_le _, ?_, fun h => by omega⟩
  have := (putN_len n).2
  rw [e, List.length_append, List.length_singleton] at this
  omega
theorem tight_step {i : Nat} {l : List UInt8} (h : Tight i l) : ∃ x, l[l.length - 1]? = some x ∧ 1 ≤ l.length ∧ l.length ≤ 10 + i ∧ Tight (i + 1) (l.set (l.length - 1) (x ||| 128) ++ [0]) := by
  obtain ⟨q, x, rfl, h1, h2, h3, h4⟩ := h
  have e : (q ++ [x]).length - 1 = q.length := by rw [List.length_append, List.length_singleton]; omega
  refine ⟨x, by rw [e, List.getElem?_append_right (Nat.le_refl _), Nat.sub_self]; rfl, by rw [List.length_append, List.length_singleton]; omega, by rw [List.length_append, List.length_singleton]; omega, q ++ [x ||| 128], 0, ?_, ?_, ?_, ?_, fun _ => rfl⟩
  · rw [e, List.set_append_right _ _ (Nat.le_refl _), Nat.sub_self]; rfl
  · intro b hb
    rcases List.mem_append.1 hb with hb | hb
    · exact h1 b hb
    · rw [List.mem_singleton.1 hb]; exact or128 x
  · rw [List.length_append, List.length_singleton]; omega
  · rw [List.length_append, List.length_singleton]; omega
theorem tight_none {i : Nat} {l : List UInt8} (h : Tight i l) (hi : 0 < i) : getN l = none := by
  obtain ⟨q, x, rfl, h1, h2, h3, h4⟩ := h
  rw [h4 hi]
  exact get_tight q (by intro e; rw [e] at h2; simp at h2; omega) h1 []
theorem bv_or (x : UInt8) : Value.int .u8 (bits .or .u8 (x.toNat : Int) 128) = bv (x ||| 128) := by
  unfold bv
  rw [show (128 : Int) = ((128 : Nat) : Int) from rfl, u8_or_nat x.toNat 128 x.toNat_lt (by decide), UInt8.toNat_or]; rfl
set_option maxHeartbeats 4000000 in
set_option maxRecDepth 100000 in
theorem numbersTight_walk (w : World) (z : Int) (hz : (Lit.int .u64 z).wf = true) (more : Int) (hm : (Lit.int .i64 more).wf = true) :
    Calls Try.prog 6 #[.int .u64 z, .int .i64 more] w fun e w' => e = .returned (.bool true) ∧ Below w.heap.size w w' := by
  obtain ⟨n, rfl, hn⟩ := u64_of hz
  have HP := Lib.hid (rput_any n hn)
  have HT0 := Lib.hid (tight_start n)
  generalize putN n = P at *
  clear hz hm hn
  go_enter Try.func6, Try.ntmps6
  have B : Below w.heap.size w w := Below.refl _ _
  go_wp2_with fail
  refine (vbegun_any _).mono ?_
  rintro e w1 ⟨rfl, b1⟩
  replace B := B.trans (b1.mono B.size)
  clear b1
  by_cases h1 : more < 1
  · go_wp2_with fail
    go_ret
    exact ⟨rfl, B⟩
  · by_cases h12 : 12 < more
    · go_wp2_with fail
      go_ret
      exact ⟨rfl, B⟩
    · obtain ⟨M, rfl⟩ := Int.eq_ofNat_of_zero_le (show 0 ≤ more by omega)
      go_wp2_with fail
      refine (HP.out _).mono ?_
      rintro e w2 ⟨v2, rfl, o2, b2⟩
      have o2 := o2.base B.size
      replace B := B.trans (b2.mono B.size)
      clear b2 HP
      go_wp2_with fail
      go_loopw [6, 7] (fun v i wr => ∃ (j : Nat) (l : List UInt8), i = .int .i64 (j : Int) ∧ j ≤ M ∧ OwnB w.heap.size wr v l ∧ Below w.heap.size w wr ∧ Hid (Tight j l))
        (fun _ i _ => M - (intOf i).toNat)
      case atStart => exact ⟨0, P, rfl, Nat.zero_le _, o2, B, HT0⟩
      case round =>
        clear HT0 o2 B
        obtain ⟨j, l, rfl, hj, hown, hbel, HT⟩ := hrel
        have hwr := hbel.size
        by_cases hlt : j < M
        · have hzj : (j : Int) < (M : Int) := by omega
          obtain ⟨x, hx, hl1, hl2, HTn⟩ := tight_step HT.out
          have HTn := Lib.hid HTn
          obtain ⟨a, len, cap, rfl, hlen, hcap, hmax⟩ := hown.form
          obtain ⟨g, off, rfl, hg, hcell⟩ := hown.rd.at _ x hx
          obtain ⟨rfl, hBg⟩ : off = 0 ∧ w.heap.size ≤ g := by
            rcases OwnV.nilOr hown with ⟨e, -⟩ | ⟨g', cap', e, hb, -⟩
            · simp at e
            · simp at e; exact ⟨e.1.2, e.1.1 ▸ hb⟩
          have hcc : wr.cell? ⟨g, l.length - 1, none⟩ = some (.int .u8 (x.toNat : Int)) := by
            rw [← hcell, Nat.zero_add]
          have hff : wr.frozen? ⟨g, l.length - 1, none⟩ = false := by
            have ho : World.ownsRow wr w.heap.size 5 1 (.slice (some ⟨g, 0, none⟩) l.length cap) l.length (l.map bv) := by
              have := hown
              unfold OwnB OwnV at this
              rwa [List.length_map, hlen] at this
            exact ho.frozenAt _
          have hset : OwnB w.heap.size (wr.setCell ⟨g, l.length - 1, none⟩ (.int .u8 (bits .or .u8 (x.toNat : Int) 128))) (.slice (some ⟨g, 0, none⟩) len cap) (l.set (l.length - 1) (x ||| 128)) := by
            rw [bv_or]; exact hown.set _ _
          have hbs : Below w.heap.size w (wr.setCell ⟨g, l.length - 1, none⟩ (.int .u8 (bits .or .u8 (x.toNat : Int) 128))) := hbel.setCell (p := ⟨g, l.length - 1, none⟩) hBg _
          have HSET := Lib.hid hset
          have HBS := Lib.hid hbs
          have hll : (l.set (l.length - 1) (x ||| 128)).length = l.length := List.length_set ..
          obtain ⟨q, hq⟩ : ∃ q, l.length - 1 = q := ⟨_, rfl⟩
          rw [hq] at HSET HBS HTn hcc hff hll
          have hq1 : (len : Int) - 1 = (q : Int) := by omega
          have hq2 : q < len := by omega
          clear HT hx hcell hown hbel hset hbs
          go_wp2_with (at_builtin; refine wp_app1B _ _ (by rfl) (by rfl) (by rfl) HSET.out 0 _ rfl _ (by rfl) (by simp) ?c2 HBS.out.size ?_)
          case c2 => rw [hll]; omega
          intro v' w3 hown3 hb3
          go_wp2_with fail
          go_roundw
          case rel => exact ⟨j + 1, _, by go_num, hlt, hown3, HBS.out.trans hb3, HTn⟩
          case measure => simp [intOf]; omega
        · have HN : Hid (getN l = none) := Lib.hid (tight_none HT.out (by omega))
          have HG := Lib.hid (get_any _ l wr hown.rd)
          rw [HN.out] at HG
          have hzj : ¬ (j : Int) < (M : Int) := by omega
          clear HN HT hown hwr
          go_wp2_with fail
          refine HG.out.mono ?_
          rintro e w' ⟨rfl, rfl⟩
          unfold numRes
          go_wp2_with fail
          go_ret
          exact ⟨rfl, hbel⟩
end Go.Proofs.Ytjhkgpjefdndaaa
