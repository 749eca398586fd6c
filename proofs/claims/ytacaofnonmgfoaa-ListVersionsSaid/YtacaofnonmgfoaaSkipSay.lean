/- skip: the calls of a list, in plain words. -/
import Derived.Test.YtacaofnonmgfoaaSkipPut
import Derived.Test.YtacaofnonmgfoaaSkipAll
namespace Go.Proofs.Ytacaofnonmgfoaa
set_option linter.unusedVariables false
open Go.RowKit
/-- A call on a list. -/
def SkTo (w : World) (b : Nat) (ρ : Nat → Option Rl) (w' : World) (H : List Int) (l : List Ent) : Prop := ∃ ρ', SkAt w' b ρ' H l ∧ UpdF (fun k => ρ k ≠ none) w w' ∧ ∀ k, ρ' k ≠ none → ρ k ≠ none ∨ w.heap.size ≤ k
def putB (l : List Ent) (e : Ent) : Bool := decide (¬ ∃ x ∈ l, likeE x e)
def SPut (w : World) (b : Nat) (ρ : Nat → Option Rl) (H : List Int) (l : List Ent) (e : Ent) (en : Ending) (w' : World) : Prop := en = .returned (.bool (putB l e)) ∧ SkTo w b ρ w' H (putE l e)
theorem sput_any (w : World) (b : Nat) (ρ : Nat → Option Rl) (H : List Int) (l : List Ent) (h : SkAt w b ρ H l) (e : Ent) (hk : e.kind ≤ 9223372036854775807) (hf : l.length < 1000000000) (hs : szA l + szE e ≤ 4000000000000000000) :
    Calls Try.prog 10 #[.pointer (some ⟨b, 0, none⟩), e.v] w (SPut w b ρ H l e) := by
  obtain ⟨hv, N, h, rfl⟩ := h
  have hlen : (entsN N).length = N.length := List.length_map _
  rw [hlen] at hf
  have ea := ahead_rest N (anyE e.norm e.seq)
  have hN := h
  rw [← ea] at hN
  refine (skput_any w b ρ hv H (aheadN N (anyE e.norm e.seq)) (restN N (anyE e.norm e.seq)) e hN (by rw [ea]) (by rw [ea]) hk (by rw [ea]; exact hf) (by rw [ea]; exact hs)).mono ?_
  have hlike := like_at h.ord h.kinds e
  rintro en w' (⟨h1, rfl, hb⟩ | ⟨h1, rfl, nd, rfl, h2, h3, h4⟩)
  · have hx := hlike.2 h1
    refine ⟨?_, ρ, ?_, UpdF.of hb, fun k hk => .inl hk⟩
    · unfold putB; rw [decide_eq_false (fun hn => hn hx)]
    · unfold putE; rw [if_pos hx]
      exact ⟨hv, N, h.below hb, rfl⟩
  · have hx := mt hlike.1 h1
    refine ⟨?_, newRl ρ nd, ⟨hv, _, h2, ?_⟩, h3, h4⟩
    · unfold putB; rw [decide_eq_true hx]
    · rw [into_at h.ord h.kinds nd.e hx, ents_app]; rfl
theorem sget_any (w : World) (b : Nat) (ρ : Nat → Option Rl) (H : List Int) (l : List Ent) (h : SkAt w b ρ H l) (s : ByteArray) (q : Int) :
    Calls Try.prog 12 #[.pointer (some ⟨b, 0, none⟩), .string s, .int .i64 q] w (GetRes w (findE l s q)) := by
  obtain ⟨hv, N, h, rfl⟩ := h
  exact skget_any w b ρ hv H N h s q
theorem slen_any (w : World) (b : Nat) (ρ : Nat → Option Rl) (H : List Int) (l : List Ent) (h : SkAt w b ρ H l) :
    Calls Try.prog 14 #[.pointer (some ⟨b, 0, none⟩)] w fun e w' => e = .returned (.int .i64 (l.length : Int)) ∧ w = w' := by
  obtain ⟨hv, N, h, rfl⟩ := h
  have := sklen_any w b ρ hv H N h
  rwa [show N.length = (entsN N).length from (List.length_map _).symm] at this
theorem ssize_any (w : World) (b : Nat) (ρ : Nat → Option Rl) (H : List Int) (l : List Ent) (h : SkAt w b ρ H l) :
    Calls Try.prog 20 #[.pointer (some ⟨b, 0, none⟩)] w fun e w' => e = .returned (.int .i64 (szA l : Nat)) ∧ w = w' := by
  obtain ⟨hv, N, h, rfl⟩ := h
  exact sksize_any w b ρ hv H N h
theorem sall_any (w : World) (b : Nat) (ρ : Nat → Option Rl) (H : List Int) (l : List Ent) (h : SkAt w b ρ H l) :
    Calls Try.prog 11 #[.pointer (some ⟨b, 0, none⟩)] w (RowE w l) := by
  obtain ⟨hv, N, h, rfl⟩ := h
  exact skall_any w b ρ hv H N h
/-! ### how much is put -/
theorem szA_into (e : Ent) : ∀ l : List Ent, szA (intoE e l) = szE e + szA l
  | [] => rfl
  | x :: l => by
    unfold intoE
    split
    · rfl
    · rw [szA, szA_into e l, szA]; omega
theorem putE_small (l : List Ent) (e : Ent) : (putE l e).length ≤ l.length + 1 ∧ szA (putE l e) ≤ szA l + szE e := by
  unfold putE
  split
  · exact ⟨by omega, by omega⟩
  · exact ⟨by rw [intoE_len]; exact Nat.le_refl _, by rw [szA_into]; omega⟩
theorem foldl_small {K : Nat} : ∀ (es : List Ent), (∀ e ∈ es, szE e ≤ K) → ∀ l : List Ent, (es.foldl putE l).length ≤ l.length + es.length ∧ szA (es.foldl putE l) ≤ szA l + K * es.length
  | [], _, l => ⟨Nat.le_refl _, by simp⟩
  | e :: es, h, l => by
    obtain ⟨h1, h2⟩ := foldl_small es (fun x hx => h x (List.mem_cons_of_mem _ hx)) (putE l e)
    obtain ⟨h3, h4⟩ := putE_small l e
    have h5 := h e (List.mem_cons_self ..)
    rw [List.foldl_cons, List.length_cons, Nat.mul_add]
    exact ⟨by omega, by omega⟩
theorem putAll_small {K : Nat} {es : List Ent} (h : ∀ e ∈ es, szE e ≤ K) : (putAll es).length ≤ es.length ∧ szA (putAll es) ≤ K * es.length := by
  have := foldl_small es h []
  simp only [List.length_nil, szA, Nat.zero_add] at this
  exact this
end Go.Proofs.Ytacaofnonmgfoaa
