/- The walks of varint.Put32, Put64, Get32, Get64, Text, GetText and of the reference's Text8, GetText. -/
import Derived.Test.YtpaoabdjbdlalaaNumFix
import Derived.Test.YtpaoabdjbdlalaaNumRGet
namespace Go.Proofs.Ytpaoabdjbdlalaa
set_option linter.unusedVariables false
open Go.RowKit
theorem unfN_lt : ∀ l : List UInt8, unfN l < 256 ^ l.length
  | [] => by simp [unfN]
  | b :: r => by
    have h1 := unfN_lt r
    have h2 : b.toNat < 256 := b.toNat_lt
    rw [unfN, List.length_cons, Nat.pow_succ]
    omega
theorem unfK_lt4 (l : List UInt8) : unfK 4 l < 4294967296 := by
  unfold unfK
  split
  · have := unfN_lt (l.take 4)
    rw [List.length_take, Nat.min_eq_left (by assumption)] at this
    exact this
  · omega
set_option maxHeartbeats 400000 in
theorem text_putL (s : ByteArray) (hs : s.size ≤ 1000000000000) (w : World) : Calls Try.prog 29 #[.string s] w (MkB (textE s.data.toList) w) := by
  have HF : Hid (∀ w, Calls Try.prog 28 #[.int .u64 (s.size : Int)] w (MkB (putN s.size) w)) := Lib.hid (put_any s.size (by omega))
  have hpl := (putN_len s.size).2
  go_enter Try.func29, Try.ntmps29
  go_wp2_with fail
  refine (HF.out _).mono ?_
  rintro e w1 ⟨v, rfl, h1, h2⟩
  go_wp2_with (at_builtin; refine wp_appTB (by rfl) _ _ (by rfl) (by rfl) h1 s (by rfl) ?c1 h2.size ?_)
  case c1 => omega
  intro v' w2 hown2 hb2
  go_wp2
  go_ret
  exact ⟨_, rfl, by unfold textE; rw [size_toList]; exact hown2, h2.trans hb2⟩
theorem text_put (s : ByteArray) (hs : s.size ≤ 1000000) (w : World) : Calls Try.prog 29 #[.string s] w (MkB (textE s.data.toList) w) := text_putL s (by omega) w
def txtRes (r : Option (List UInt8 × Nat)) : Value := match r with
  | none => .tuple #[.string ⟨#[]⟩, .int .i64 0]
  | some (s, k) => .tuple #[.string ⟨s.toArray⟩, .int .i64 (k : Int)]
def TxtRes (r : Option (List UInt8 × Nat)) (w : World) (e : Ending) (w' : World) : Prop := e = .returned (txtRes r) ∧ w = w'
/-- 'string(b[k:k+n])' -/
theorem cut_conv {w : World} {b off cap : Nat} {l : List UInt8} (h : RdB w (.slice (some ⟨b, off, none⟩) l.length cap) l) (k n : Nat) (hk : k ≤ l.length) (hn : n ≤ l.length - k) :
    (convert 28 9 (.slice (if cap = k then some ⟨b, off, none⟩ else some ⟨b, off + k, none⟩) n (cap - k))).run Try.prog w = .ok (.string ⟨((l.drop k).take n).toArray⟩) w := by
  have H := (RdB.mid h k (k + n) (by omega) (by omega)).text
  rw [List.drop_take, Nat.add_sub_cancel_left] at H
  rw [show (if cap = k then some ⟨b, off, none⟩ else some ⟨b, off + k, none⟩ : Option Addr) = if cap = k then some ⟨b, off, none⟩ else (some (⟨b, off, none⟩ : Addr)).map (·.add k) by simp [add_at]]
  exact H
set_option maxHeartbeats 1000000 in
set_option maxRecDepth 100000 in
theorem gettext_any (v : Value) (l : List UInt8) (w : World) (h : RdB w v l) : Calls Try.prog 39 #[v] w (TxtRes (getT l) w) := by
  have HF : Hid (Calls Try.prog 32 #[v] w (GetRes (getN l) w)) := Lib.hid (get_any v l w h)
  obtain ⟨r, hr⟩ : ∃ r, getT l = r := ⟨_, rfl⟩
  rw [hr]
  unfold getT at hr
  go_enter Try.func39, Try.ntmps39
  go_wp2_with fail
  refine HF.out.mono ?_
  rintro e w' ⟨rfl, rfl⟩
  cases hg : getN l with
  | none =>
    rw [hg] at hr
    subst hr
    clear HF hg h
    unfold numRes
    go_wp2
    go_ret2
    exact ⟨rfl, rfl⟩
  | some p =>
    obtain ⟨n, k⟩ := p
    obtain ⟨hk1, hk2, hk10, hn⟩ := getN_le hg
    rw [hg] at hr
    simp only at hr
    have HR := Lib.hid hr
    rcases id h with ⟨a, cap, rfl, e⟩ | ⟨b, off, cap, rfl, h1, h2, h3, h4, h5⟩
    · have : l = [] := by simpa using e
      subst this
      simp at hk2; omega
    · rw [List.length_map] at h1 h2 h ⊢
      unfold maxLen at h3
      clear hr h5 HF hg
      unfold numRes
      have hz0 : ¬ (k : Int) = 0 := by omega
      have hz1 : (k : Int) ≤ (l.length : Int) := by omega
      by_cases hle : n ≤ l.length - k
      · have hL := HR.out
        rw [if_pos hle] at hL
        subst hL
        have hz2 : ¬ (l.length : Int) - (k : Int) < (n : Int) := by omega
        have hcv := cut_conv h k n hk2 hle
        have hzb : ((k : Int) == 0) = false := by simp; omega
        clear HR h
        by_cases hck : cap = k
        · obtain rfl : n = 0 := by omega
          subst hck
          rw [if_pos rfl, Nat.sub_self] at hcv
          go_wp2
          go_ret2
          exact ⟨rfl, rfl⟩
        · rw [if_neg hck] at hcv
          go_wp2
          go_ret2
          exact ⟨rfl, rfl⟩
      · have hL := HR.out
        rw [if_neg hle] at hL
        subst hL
        have hz2 : (l.length : Int) - (k : Int) < (n : Int) := by omega
        have hzb : ((k : Int) == 0) = false := by simp; omega
        clear HR h
        go_wp2
        go_ret2
        exact ⟨rfl, rfl⟩
end Go.Proofs.Ytpaoabdjbdlalaa
