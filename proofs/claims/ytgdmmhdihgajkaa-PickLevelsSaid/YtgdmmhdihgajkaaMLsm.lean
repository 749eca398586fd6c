/- Plain mathematics of stage 23: which entries go, what is seen, pieces. -/
import Derived.Test.YtgdmmhdihgajkaaMSkip
import Derived.Test.YtgdmmhdihgajkaaMVerA
namespace Go.Proofs.Ytgdmmhdihgajkaa
set_option linter.unusedVariables false
open Go.RowKit
/-- Is a number of sn at least a and below b? -/
def btwB (sn : List Int) (a b : Int) : Bool := sn.any fun s => decide (a ≤ s) && decide (s < b)
def blwB (sn : List Int) (a : Int) : Bool := sn.any fun s => decide (s < a)
theorem btwB_yes {sn : List Int} {s a b : Int} (h : s ∈ sn) (h0 : a ≤ s) (h1 : s < b) : btwB sn a b = true := by
  unfold btwB
  rw [List.any_eq_true]
  exact ⟨s, h, by rw [decide_eq_true h0, decide_eq_true h1]; rfl⟩
theorem btwB_more {sn : List Int} {a b c : Int} (h : btwB sn a b = true) (hc : b ≤ c) : btwB sn a c = true := by
  unfold btwB at h
  rw [List.any_eq_true] at h
  obtain ⟨s, h1, h2⟩ := h
  rw [Bool.and_eq_true, decide_eq_true_eq, decide_eq_true_eq] at h2
  exact btwB_yes h1 h2.1 (by omega)
/-- Is an entry hidden by the one ahead of it? -/
def hidB (sn : List Int) : Option Ent → Ent → Bool
  | none, _ => false
  | some q, e => decide (q.norm = e.norm) && !btwB sn e.seq q.seq
/-- What is left of the hidden ones. -/
def drop1 (sn : List Int) : Option Ent → List Ent → List Ent
  | _, [] => []
  | p, e :: r => if hidB sn p e = true then drop1 sn (some e) r else e :: drop1 sn (some e) r
/-- Is an entry the last of its norm? -/
def lastB (e : Ent) : List Ent → Bool
  | [] => true
  | x :: _ => decide (x.norm ≠ e.norm)
def goB (sn : List Int) (e : Ent) (r : List Ent) : Bool := lastB e r && decide (e.kind = 0) && !blwB sn e.seq
/-- What is left of the last deletions. -/
def drop2 (sn : List Int) : List Ent → List Ent
  | [] => []
  | e :: r => if goB sn e r = true then drop2 sn r else e :: drop2 sn r
def dropE (sn : List Int) (bot : Bool) (l : List Ent) : List Ent := if bot = true then drop2 sn (drop1 sn none l) else drop1 sn none l
/-- Is an entry the first one with a number not above s, and a put? -/
def seenP (s : Int) : Option Ent → Ent → Bool
  | none, e => decide (e.seq ≤ s) && decide (e.kind = 1)
  | some q, e => decide (e.seq ≤ s) && (decide (q.norm ≠ e.norm) || decide (s < q.seq)) && decide (e.kind = 1)
def seenE (s : Int) : Option Ent → List Ent → List Ent
  | _, [] => []
  | p, e :: r => if seenP s p e = true then e :: seenE s (some e) r else seenE s (some e) r
theorem drop1_sub (sn : List Int) : ∀ (l : List Ent) (p : Option Ent), (drop1 sn p l).Sublist l
  | [], _ => List.Sublist.slnil
  | e :: r, p => by
    unfold drop1
    split
    · exact (drop1_sub sn r _).cons _
    · exact (drop1_sub sn r _).cons_cons _
theorem drop2_sub (sn : List Int) : ∀ (l : List Ent), (drop2 sn l).Sublist l
  | [] => List.Sublist.slnil
  | e :: r => by
    unfold drop2
    split
    · exact (drop2_sub sn r).cons _
    · exact (drop2_sub sn r).cons_cons _
theorem dropE_sub (sn : List Int) (bot : Bool) (l : List Ent) : (dropE sn bot l).Sublist l := by
  unfold dropE
  split
  · exact (drop2_sub sn _).trans (drop1_sub sn _ _)
  · exact drop1_sub sn _ _
theorem seenE_sub (s : Int) : ∀ (l : List Ent) (p : Option Ent), (seenE s p l).Sublist l
  | [], _ => List.Sublist.slnil
  | e :: r, p => by
    unfold seenE
    split
    · exact (seenE_sub s r _).cons_cons _
    · exact (seenE_sub s r _).cons _
theorem dropE_ord {sn : List Int} {bot : Bool} {l : List Ent} (h : OrdK l) : OrdK (dropE sn bot l) := List.Pairwise.sublist (dropE_sub sn bot l) h
/-- Does an entry fit a norm and a number? -/
def fitB (n : ByteArray) (s : Int) (e : Ent) : Prop := e.norm = n ∧ e.seq ≤ s
instance (n : ByteArray) (s : Int) (e : Ent) : Decidable (fitB n s e) := inferInstanceAs (Decidable (_ ∧ _))
theorem findE_cons (e : Ent) (r : List Ent) (n : ByteArray) (s : Int) : findE (e :: r) n s = if fitB n s e then some e else findE r n s := by
  unfold findE
  rw [List.find?_cons]
  by_cases h : fitB n s e
  · rw [if_pos h, decide_eq_true h.1, decide_eq_true h.2]; rfl
  · rw [if_neg h]
    have : (decide (e.norm = n) && decide (e.seq ≤ s)) = false := by
      rw [Bool.eq_false_iff]
      intro k
      rw [Bool.and_eq_true, decide_eq_true_eq, decide_eq_true_eq] at k
      exact h k
    rw [this]
/-- The hidden ones are never found by a number of sn, nor by one that is not below all. -/
theorem find_drop1 {sn : List Int} {n : ByteArray} {s : Int} : ∀ (l : List Ent) (p : Option Ent), (∀ q, p = some q → ¬ fitB n s q) → (s ∈ sn ∨ (∀ e ∈ l, e.seq ≤ s) ∧ ∀ q, p = some q → q.seq ≤ s) → findE (drop1 sn p l) n s = findE l n s
  | [], _, _, _ => rfl
  | e :: r, p, hp, hs => by
    have hs' : s ∈ sn ∨ (∀ x ∈ r, x.seq ≤ s) ∧ ∀ q, some e = some q → q.seq ≤ s := by
      rcases hs with hs | ⟨h1, h2⟩
      · exact .inl hs
      · exact .inr ⟨fun x hx => h1 x (List.mem_cons_of_mem _ hx), fun q hq => by cases hq; exact h1 _ (List.mem_cons_self ..)⟩
    rw [findE_cons]
    by_cases hf : fitB n s e
    · rw [if_pos hf]
      have hh : ¬ hidB sn p e = true := fun hh => by
        cases p with
        | none => cases hh
        | some q =>
          unfold hidB at hh
          rw [Bool.and_eq_true, decide_eq_true_eq, Bool.not_eq_true'] at hh
          have hq : s < q.seq := by
            rcases Int.lt_or_le s q.seq with k | k
            · exact k
            · exact absurd ⟨hh.1.trans hf.1, k⟩ (hp q rfl)
          rcases hs with hs | ⟨-, h2⟩
          · rw [btwB_yes hs hf.2 hq] at hh; cases hh.2
          · have := h2 q rfl; omega
      rw [drop1, if_neg hh, findE_cons, if_pos hf]
    · rw [if_neg hf]
      have ih := find_drop1 r (some e) (fun q hq => by cases hq; exact hf) hs'
      rw [drop1]
      split
      · exact ih
      · rw [findE_cons, if_neg hf]; exact ih
theorem ord_last {e : Ent} {r : List Ent} (h : OrdK (e :: r)) (hl : lastB e r = true) : ∀ x ∈ r, x.norm ≠ e.norm := by
  obtain ⟨h1, h2⟩ := List.pairwise_cons.1 h
  cases r with
  | nil => intro x hx; cases hx
  | cons y r =>
    have hy : y.norm ≠ e.norm := of_decide_eq_true hl
    have hb : bl e.norm y.norm := by
      rcases h1 y (List.mem_cons_self ..) with k | ⟨k, -⟩
      · exact k
      · exact absurd k.symm hy
    intro x hx
    rcases List.mem_cons.1 hx with rfl | hx
    · exact hy
    · intro hxe
      rcases (List.pairwise_cons.1 h2).1 x hx with k | ⟨k, -⟩
      · have k : bl y.norm x.norm := k
        rw [hxe] at k
        exact bl_irr _ (bl_trans hb k)
      · have k : y.norm = x.norm := k
        exact hy (k.trans hxe)
theorem goB_parts {sn : List Int} {e : Ent} {r : List Ent} (h : goB sn e r = true) : lastB e r = true ∧ e.kind = 0 := by
  unfold goB at h
  rw [Bool.and_eq_true, Bool.and_eq_true, decide_eq_true_eq] at h
  exact h.1
def putO (o : Option Ent) : Option Ent := o.filter fun e => decide (e.kind = 1)
theorem find_nil_of {l : List Ent} {n : ByteArray} {s : Int} (h : ∀ x ∈ l, x.norm ≠ n) : findE l n s = none := by
  unfold findE
  rw [List.find?_eq_none]
  intro x hx k
  rw [Bool.and_eq_true, decide_eq_true_eq] at k
  exact h x hx k.1
/-- The last deletions change no put that is found. -/
theorem find_drop2 {sn : List Int} {n : ByteArray} {s : Int} : ∀ {l : List Ent}, OrdK l → putO (findE (drop2 sn l) n s) = putO (findE l n s)
  | [], _ => rfl
  | e :: r, h => by
    have ih := find_drop2 (sn := sn) (n := n) (s := s) (List.pairwise_cons.1 h).2
    rw [drop2, findE_cons]
    split
    · rename_i hg
      obtain ⟨g1, g2⟩ := goB_parts hg
      by_cases hf : fitB n s e
      · rw [if_pos hf, find_nil_of (n := n) fun x hx => by rw [← hf.1]; exact ord_last h g1 x ((drop2_sub sn r).subset hx)]
        unfold putO
        rw [Option.filter_none, Option.filter_some, g2]
        rfl
      · rw [if_neg hf]; exact ih
    · rw [findE_cons]
      by_cases hf : fitB n s e
      · rw [if_pos hf, if_pos hf]
      · rw [if_neg hf, if_neg hf]; exact ih
theorem drop2_gone {sn : List Int} {x : Ent} : ∀ {l : List Ent}, OrdK l → x ∈ l → x ∉ drop2 sn l → x.kind = 0 ∧ ∀ y ∈ l, y.norm = x.norm → ¬ y.seq < x.seq
  | e :: r, h, hx, hn => by
    have h2 := (List.pairwise_cons.1 h).2
    have h1 := (List.pairwise_cons.1 h).1
    rw [drop2] at hn
    have htail : x ∈ r → x ∉ drop2 sn r → x.kind = 0 ∧ ∀ y ∈ e :: r, y.norm = x.norm → ¬ y.seq < x.seq := fun hxr hn => by
      obtain ⟨k1, k2⟩ := drop2_gone h2 hxr hn
      refine ⟨k1, fun y hy hyn => ?_⟩
      rcases List.mem_cons.1 hy with rfl | hy
      · rcases h1 x hxr with k | ⟨-, k⟩
        · have k : bl y.norm x.norm := k
          rw [hyn] at k; exact absurd k (bl_irr _)
        · have k : x.seq < y.seq := k
          omega
      · exact k2 y hy hyn
    split at hn
    · rename_i hg
      obtain ⟨g1, g2⟩ := goB_parts hg
      rcases List.mem_cons.1 hx with rfl | hx
      · refine ⟨g2, fun y hy hyn => ?_⟩
        rcases List.mem_cons.1 hy with rfl | hy
        · omega
        · exact absurd hyn (ord_last h g1 y hy)
      · exact htail hx hn
    · rw [List.mem_cons, not_or] at hn
      rcases List.mem_cons.1 hx with rfl | hx
      · exact absurd rfl hn.1
      · exact htail hx hn.2
theorem find_drop {sn : List Int} {bot : Bool} {l : List Ent} (h : OrdK l) {n : ByteArray} {s : Int} (hs : s ∈ sn ∨ ∀ e ∈ l, e.seq ≤ s) : putO (findE (dropE sn bot l) n s) = putO (findE l n s) := by
  have h1 : findE (drop1 sn none l) n s = findE l n s := find_drop1 l none (fun q hq => by cases hq) (hs.imp id fun k => ⟨k, fun q hq => by cases hq⟩)
  unfold dropE
  split
  · rw [find_drop2 (List.Pairwise.sublist (drop1_sub sn _ _) h), h1]
  · rw [h1]
/-- Who is seen. -/
theorem seen_mem {s : Int} {x : Ent} : ∀ {l : List Ent} {p : Option Ent}, OrdK l → (∀ q, p = some q → ∀ y ∈ l, ltP (keyE q) (keyE y)) → (x ∈ seenE s p l ↔ findE l x.norm s = some x ∧ x.kind = 1 ∧ ∀ q, p = some q → ¬ fitB x.norm s q)
  | [], p, _, _ => by
    unfold seenE
    exact ⟨fun h => (by cases h), fun ⟨h, _⟩ => (by cases h)⟩
  | e :: r, p, h, hp => by
    obtain ⟨h1, h2⟩ := List.pairwise_cons.1 h
    have ih := seen_mem (s := s) (x := x) (p := some e) h2 fun q hq y hy => by cases hq; exact h1 y hy
    have hse : seenP s p e = true ↔ e.seq ≤ s ∧ e.kind = 1 ∧ ∀ q, p = some q → ¬ fitB e.norm s q := by
      cases p with
      | none =>
        unfold seenP
        rw [Bool.and_eq_true, decide_eq_true_eq, decide_eq_true_eq]
        exact ⟨fun k => ⟨k.1, k.2, fun q hq => by cases hq⟩, fun k => ⟨k.1, k.2.1⟩⟩
      | some q =>
        unfold seenP
        rw [Bool.and_eq_true, Bool.and_eq_true, Bool.or_eq_true, decide_eq_true_eq, decide_eq_true_eq, decide_eq_true_eq, decide_eq_true_eq]
        constructor
        · rintro ⟨⟨k1, k2⟩, k3⟩
          refine ⟨k1, k3, fun q' hq => ?_⟩
          cases hq
          rintro ⟨j1, j2⟩
          rcases k2 with k2 | k2
          · exact k2 j1
          · omega
        · rintro ⟨k1, k3, k2⟩
          refine ⟨⟨k1, ?_⟩, k3⟩
          by_cases hqe : q.norm = e.norm
          · right
            rcases Int.lt_or_le s q.seq with k | k
            · exact k
            · exact absurd ⟨hqe, k⟩ (k2 q rfl)
          · exact .inl hqe
    -- what p says of x, given what e says
    have hpe : x ∈ r → ¬ fitB x.norm s e → ∀ q, p = some q → ¬ fitB x.norm s q := fun hx hf q hq hfq => by
      have k1 := hp q hq e (List.mem_cons_self ..)
      have k2 := h1 x hx
      have hqx : q.norm = x.norm := hfq.1
      rcases k1 with k1 | ⟨k1, k1'⟩
      · have k1 : bl q.norm e.norm := k1
        rcases k2 with k2 | ⟨k2, -⟩
        · have k2 : bl e.norm x.norm := k2
          have := bl_trans k1 k2
          rw [hqx] at this; exact bl_irr _ this
        · have k2 : e.norm = x.norm := k2
          rw [k2, hqx] at k1; exact bl_irr _ k1
      · have k1 : q.norm = e.norm := k1
        have k1' : e.seq < q.seq := k1'
        exact hf ⟨k1.symm.trans hqx, by have := hfq.2; omega⟩
    rw [findE_cons]
    constructor
    · intro hx
      unfold seenE at hx
      have hcase : (x = e ∧ seenP s p e = true) ∨ x ∈ seenE s (some e) r := by
        split at hx
        · rename_i hse'
          rcases List.mem_cons.1 hx with rfl | hx
          · exact .inl ⟨rfl, hse'⟩
          · exact .inr hx
        · exact .inr hx
      rcases hcase with ⟨rfl, hs'⟩ | hx
      · obtain ⟨k1, k2, k3⟩ := hse.1 hs'
        exact ⟨if_pos ⟨rfl, k1⟩, k2, k3⟩
      · obtain ⟨k1, k2, k3⟩ := ih.1 hx
        have hf := k3 e rfl
        exact ⟨by rw [if_neg hf]; exact k1, k2, hpe ((seenE_sub s r _).subset hx) hf⟩
    · rintro ⟨k1, k2, k3⟩
      unfold seenE
      by_cases hf : fitB x.norm s e
      · rw [if_pos hf] at k1
        obtain rfl := Option.some.inj k1
        rw [if_pos (hse.2 ⟨hf.2, k2, k3⟩)]
        exact List.mem_cons_self ..
      · rw [if_neg hf] at k1
        have := ih.2 ⟨k1, k2, fun q hq => by cases hq; exact hf⟩
        split
        · exact List.mem_cons_of_mem _ this
        · exact this
theorem seen_mem0 {s : Int} {x : Ent} {l : List Ent} (h : OrdK l) : x ∈ seenE s none l ↔ findE l x.norm s = some x ∧ x.kind = 1 := by
  rw [seen_mem h fun q hq => by cases hq]
  exact ⟨fun k => ⟨k.1, k.2.1⟩, fun k => ⟨k.1, k.2, fun q hq => by cases hq⟩⟩
/-- What is seen stands in order, each norm once. -/
theorem seen_ord {s : Int} {l : List Ent} (h : OrdK l) : (seenE s none l).Pairwise fun a b => bl a.norm b.norm := by
  have h1 : (seenE s none l).Pairwise fun a b => ltP (keyE a) (keyE b) := List.Pairwise.sublist (seenE_sub s l none) h
  refine h1.imp_of_mem fun {a b} ha hb hab => ?_
  rcases hab with k | ⟨k, k2⟩
  · exact k
  · have k : a.norm = b.norm := k
    have ea := ((seen_mem0 h).1 ha).1
    have eb := ((seen_mem0 h).1 hb).1
    rw [k, eb] at ea
    obtain rfl := Option.some.inj ea
    have k2 : b.seq < b.seq := k2
    omega
theorem seen_same {s : Int} {l m : List Ent} (hl : OrdK l) (hm : OrdK m) (h : ∀ n, putO (findE l n s) = putO (findE m n s)) : seenE s none l = seenE s none m := by
  refine srt_uniq (R := fun a b => bl a.norm b.norm) (fun a => bl_irr _) (fun a b c => bl_trans) (seen_ord hl) (seen_ord hm) fun x => ?_
  have hx : ∀ {k : List Ent}, OrdK k → (x ∈ seenE s none k ↔ putO (findE k x.norm s) = some x) := fun {k} hk => by
    rw [seen_mem0 hk]
    unfold putO
    constructor
    · rintro ⟨k1, k2⟩
      rw [k1, Option.filter_some, k2]; rfl
    · intro e
      have := Option.filter_eq_some_iff.1 e
      exact ⟨this.1, of_decide_eq_true this.2⟩
  rw [hx hl, hx hm, h]
/-- Nobody's view is changed. -/
theorem seen_drop {sn : List Int} {bot : Bool} {l : List Ent} (h : OrdK l) {s : Int} (hs : s ∈ sn ∨ ∀ e ∈ l, e.seq ≤ s) : seenE s none (dropE sn bot l) = seenE s none l := seen_same (dropE_ord h) h fun n => find_drop h hs
/-! ### pieces -/
def weighE (e : Ent) : Nat := e.norm.size + e.spell.size + e.val.size + 32
/-- The rest, behind a piece that is being made and what it weighs. -/
def cutGo : List Ent → Nat → List Ent → List (List Ent)
  | now, _, [] => if now = [] then [] else [now]
  | now, n, e :: r => if 1500 ≤ n ∧ (now.getLast?).map Ent.norm ≠ some e.norm then now :: cutGo [e] (weighE e) r else cutGo (now ++ [e]) (n + weighE e) r
def cutP (l : List Ent) : List (List Ent) := cutGo [] 0 l
theorem cutGo_flat : ∀ (l now : List Ent) (n : Nat), (cutGo now n l).flatten = now ++ l
  | [], now, n => by
    unfold cutGo
    split
    · rename_i h; rw [h]; rfl
    · simp
  | e :: r, now, n => by
    unfold cutGo
    split
    · rw [List.flatten_cons, cutGo_flat r]; rfl
    · rw [cutGo_flat r, List.append_assoc]; rfl
theorem cutP_flat (l : List Ent) : (cutP l).flatten = l := cutGo_flat l [] 0
theorem cutGo_ne : ∀ (l now : List Ent) (n : Nat), (n = 0 → now = []) → (now = [] → n = 0) → ∀ c ∈ cutGo now n l, c ≠ []
  | [], now, n, h0, h1, c, hc => by
    unfold cutGo at hc
    split at hc
    · cases hc
    · rename_i h; rw [List.mem_singleton.1 hc]; exact h
  | e :: r, now, n, h0, h1, c, hc => by
    unfold cutGo at hc
    have hw : 0 < weighE e := by unfold weighE; omega
    split at hc
    · rename_i h
      rcases List.mem_cons.1 hc with rfl | hc
      · intro k; have := h1 k; omega
      · exact cutGo_ne r [e] (weighE e) (by omega) (fun k => by cases k) c hc
    · exact cutGo_ne r (now ++ [e]) (n + weighE e) (by omega) (fun k => by simp at k) c hc
theorem cutP_ne (l : List Ent) : ∀ c ∈ cutP l, c ≠ [] := cutGo_ne l [] 0 (fun _ => rfl) (fun _ => rfl)
/-! ### a store as all its entries -/
/-- Of the entries A: the one of norm n with the greatest number not above s. -/
def TopE (A : Ent → Prop) (n : ByteArray) (s : Int) (e : Ent) : Prop := A e ∧ fitB n s e ∧ ∀ x, A x → fitB n s x → x.seq ≤ e.seq
def ViewE (A : Ent → Prop) (n : ByteArray) (s : Int) (e : Ent) : Prop := TopE A n s e ∧ e.kind = 1
/-- The same is seen by the number s. -/
def SameV (A B : Ent → Prop) (s : Int) : Prop := ∀ n e, ViewE A n s e ↔ ViewE B n s e
theorem SameV.refl (A : Ent → Prop) (s : Int) : SameV A A s := fun _ _ => Iff.rfl
theorem SameV.symm {A B : Ent → Prop} {s : Int} (h : SameV A B s) : SameV B A s := fun n e => (h n e).symm
theorem SameV.trans {A B C : Ent → Prop} {s : Int} (h : SameV A B s) (k : SameV B C s) : SameV A C s := fun n e => (h n e).trans (k n e)
/-- No two of one norm and number. -/
def DistE (A : Ent → Prop) : Prop := ∀ x y, A x → A y → x.norm = y.norm → x.seq = y.seq → x = y
theorem TopE.uniq {A : Ent → Prop} (hd : DistE A) {n : ByteArray} {s : Int} {x y : Ent} (hx : TopE A n s x) (hy : TopE A n s y) : x = y := by
  have h1 := hx.2.2 y hy.1 hy.2.1
  have h2 := hy.2.2 x hx.1 hx.2.1
  exact hd x y hx.1 hy.1 (hx.2.1.1.trans hy.2.1.1.symm) (by omega)
theorem topE_ex {A : Ent → Prop} {n : ByteArray} {s : Int} : ∀ (k : Nat) (x : Ent), (s - x.seq).toNat = k → A x → fitB n s x → ∃ e, TopE A n s e ∧ x.seq ≤ e.seq := by
  intro k
  induction k using Nat.strongRecOn with
  | ind k ih =>
    intro x hk hA hf
    by_cases h : ∃ y, A y ∧ fitB n s y ∧ x.seq < y.seq
    · obtain ⟨y, y1, y2, y3⟩ := h
      have := y2.2
      obtain ⟨e, e1, e2⟩ := ih (s - y.seq).toNat (by omega) y rfl y1 y2
      exact ⟨e, e1, by omega⟩
    · refine ⟨x, ⟨hA, hf, fun y y1 y2 => ?_⟩, Int.le_refl _⟩
      rcases Int.lt_or_le x.seq y.seq with g | g
      · exact absurd ⟨y, y1, y2, g⟩ h
      · exact g
/-- A list in order tells it. -/
theorem find_top {l : List Ent} (h : OrdK l) {n : ByteArray} {s : Int} {e : Ent} : findE l n s = some e ↔ TopE (· ∈ l) n s e := by
  constructor
  · intro k
    obtain ⟨k1, k2, k3⟩ := sfind_some k
    exact ⟨k1, ⟨k2, k3⟩, fun x hx hf => find_max h k x hx hf.1 hf.2⟩
  · rintro ⟨k1, k2, k3⟩
    cases hf : findE l n s with
    | none => exact absurd k2.2 (sfind_none hf e k1 k2.1)
    | some y =>
      obtain ⟨y1, y2, y3⟩ := sfind_some hf
      have h1 := find_max h hf e k1 k2.1 k2.2
      have h2 := k3 y y1 ⟨y2, y3⟩
      have : keyE y = keyE e := Prod.ext (y2.trans k2.1.symm) (show y.seq = e.seq by omega)
      by_cases hye : y = e
      · rw [hye]
      · exfalso
        have hp : ∀ {l : List Ent}, OrdK l → y ∈ l → e ∈ l → keyE y = keyE e → y = e := by
          intro l
          induction l with
          | nil => intro _ hy; cases hy
          | cons a r ih =>
            intro hl hy he hk
            obtain ⟨l1, l2⟩ := List.pairwise_cons.1 hl
            rcases List.mem_cons.1 hy with h1 | hy1
            · rcases List.mem_cons.1 he with h2 | he1
              · rw [h1, h2]
              · have := l1 e he1; rw [← h1, hk] at this; exact absurd this (ltP_irr _)
            · rcases List.mem_cons.1 he with h2 | he1
              · have := l1 y hy1; rw [← h2, hk] at this; exact absurd this (ltP_irr _)
              · exact ih l2 hy1 he1 hk
        exact hye (hp h y1 k1 this)
theorem top_sub {A B : Ent → Prop} (hAB : ∀ x, A x → B x) {n : ByteArray} {s : Int} {e : Ent} (h : TopE B n s e) (he : A e) : TopE A n s e := ⟨he, h.2.1, fun x hx hf => h.2.2 x (hAB x hx) hf⟩
/-- What goes of some of a store's entries changes no view by a number of sn, nor by one that is not below all. -/
theorem same_drop {A : Ent → Prop} (hd : DistE A) {U : List Ent} (hU : OrdK U) (hA : ∀ x ∈ U, A x) {sn : List Int} {bot : Bool} (hb : bot = true → ∀ x ∈ U, ∀ y, A y → y ∉ U → y.norm = x.norm → ¬ y.seq < x.seq)
    {s : Int} (hs : s ∈ sn ∨ ∀ x, A x → x.seq ≤ s) : SameV A (fun x => (A x ∧ x ∉ U) ∨ x ∈ dropE sn bot U) s := by
  have hsU : s ∈ sn ∨ ∀ e ∈ U, e.seq ≤ s := hs.imp id fun k e he => k e (hA e he)
  have hsub : ∀ x, ((A x ∧ x ∉ U) ∨ x ∈ dropE sn bot U) → A x := fun x hx => by
    rcases hx with hx | hx
    · exact hx.1
    · exact hA x ((dropE_sub sn bot U).subset hx)
  intro n e
  constructor
  · rintro ⟨ht, hk⟩
    refine ⟨top_sub hsub ht ?_, hk⟩
    by_cases he : e ∈ U
    · right
      have h1 : findE U n s = some e := (find_top hU).2 (top_sub (A := (· ∈ U)) hA ht he)
      have h2 := find_drop (bot := bot) hU (n := n) hsU
      rw [h1] at h2
      have h3 : putO (some e) = some e := by unfold putO; rw [Option.filter_some, hk]; rfl
      rw [h3] at h2
      unfold putO at h2
      exact (sfind_some (Option.filter_eq_some_iff.1 h2).1).1
    · exact .inl ⟨ht.1, he⟩
  · rintro ⟨ht, hk⟩
    obtain ⟨f, f1, f2⟩ := topE_ex _ e rfl (hsub e ht.1) ht.2.1
    by_cases hf : (A f ∧ f ∉ U) ∨ f ∈ dropE sn bot U
    · have := TopE.uniq (fun x y hx hy => hd x y (hsub x hx) (hsub y hy)) ht (top_sub hsub f1 hf)
      subst this
      exact ⟨f1, hk⟩
    · exfalso
      have hfU : f ∈ U := by
        by_cases k : f ∈ U
        · exact k
        · exact absurd (.inl ⟨f1.1, k⟩) hf
      have hfD : f ∉ dropE sn bot U := fun k => hf (.inr k)
      have h1 : findE U n s = some f := (find_top hU).2 (top_sub (A := (· ∈ U)) hA f1 hfU)
      have h2 : findE (drop1 sn none U) n s = some f := by
        rw [find_drop1 U none (fun q hq => by cases hq) (hsU.imp id fun k => ⟨k, fun q hq => by cases hq⟩)]; exact h1
      have h3 := (sfind_some h2).1
      have hne : e ≠ f := fun k => by
        subst k; exact hf ht.1
      have hlt : e.seq < f.seq := by
        rcases Int.lt_or_le e.seq f.seq with g | g
        · exact g
        · exact absurd (hd e f (hsub e ht.1) f1.1 (ht.2.1.1.trans f1.2.1.1.symm) (by omega)) hne
      have hen : e.norm = f.norm := ht.2.1.1.trans f1.2.1.1.symm
      cases hbt : bot with
      | false =>
        rw [hbt] at hfD
        exact hfD h3
      | true =>
        rw [hbt] at hfD ht
        have hfD : f ∉ drop2 sn (drop1 sn none U) := hfD
        obtain ⟨-, g2⟩ := drop2_gone (List.Pairwise.sublist (drop1_sub sn U none) hU) h3 hfD
        rcases ht.1 with ⟨a1, a2⟩ | a1
        · exact hb hbt f hfU e a1 a2 hen hlt
        · have a1 : e ∈ drop2 sn (drop1 sn none U) := a1
          exact g2 e ((drop2_sub sn _).subset a1) hen hlt
end Go.Proofs.Ytgdmmhdihgajkaa
/- Plain mathematics of stage 24: levels of tables that are compacted; nobody's view is changed. -/
namespace Go.Proofs.Ytgdmmhdihgajkaa
set_option linter.unusedVariables false
open Go.RowKit
/-- Texts by bytes: not above. -/
def leT (a b : ByteArray) : Prop := ¬ bl b a
theorem leT_refl (a : ByteArray) : leT a a := bl_irr a
theorem leT_lt {a b : ByteArray} (h : bl a b) : leT a b := fun k => bl_irr _ (bl_trans h k)
theorem leT_trans {a b c : ByteArray} (h : leT a b) (k : leT b c) : leT a c := fun m => by
  rcases bl_tri a b with e | e | e
  · exact k (bl_trans m e)
  · subst e; exact k m
  · exact h e
theorem lt_le {a b c : ByteArray} (h : bl a b) (k : leT b c) : bl a c := by
  rcases bl_tri b c with e | e | e
  · exact bl_trans h e
  · subst e; exact h
  · exact absurd e k
theorem le_lt {a b c : ByteArray} (h : leT a b) (k : bl b c) : bl a c := by
  rcases bl_tri a b with e | e | e
  · exact bl_trans e k
  · subst e; exact k
  · exact absurd e h
theorem le_or (a b : ByteArray) : leT a b ∨ bl b a := by
  by_cases h : bl b a
  · exact .inr h
  · exact .inl h
/-- Has a table a text in common with the span from a to b? -/
def meetT (f : Tbf) (a b : ByteArray) : Prop := leT a f.hi ∧ leT f.lo b
/-- The entries of all tables. -/
def inT (V : Ver) (T : Int → List Ent) (x : Ent) : Prop := ∃ f ∈ V.fs, x ∈ T f.num
/-- What the tables of a store are; T: which entries the table of a number holds. -/
structure Lsm (V : Ver) (T : Int → List Ent) : Prop where
  good : GoodV V
  ord : ∀ f ∈ V.fs, OrdK (T f.num)
  span : ∀ f ∈ V.fs, ∀ x ∈ T f.num, leT f.lo x.norm ∧ leT x.norm f.hi
  age : ∀ f ∈ V.fs, ∀ g ∈ V.fs, f.lvl < g.lvl → ∀ x ∈ T f.num, ∀ y ∈ T g.num, x.norm = y.norm → y.seq < x.seq
  one : ∀ f ∈ V.fs, ∀ g ∈ V.fs, f ≠ g → ∀ x ∈ T f.num, ∀ y ∈ T g.num, ¬ (x.norm = y.norm ∧ x.seq = y.seq)
  age0 : ∀ f ∈ V.fs, ∀ g ∈ V.fs, f.lvl = 0 → g.lvl = 0 → g.num < f.num → ∀ x ∈ T f.num, ∀ y ∈ T g.num, x.norm = y.norm → y.seq < x.seq
theorem ord_one {l : List Ent} (h : OrdK l) {x y : Ent} (hx : x ∈ l) (hy : y ∈ l) (h1 : x.norm = y.norm) (h2 : x.seq = y.seq) : x = y := by
  have hk : keyE x = keyE y := Prod.ext h1 h2
  induction l with
  | nil => cases hx
  | cons a r ih =>
    obtain ⟨l1, l2⟩ := List.pairwise_cons.1 h
    rcases List.mem_cons.1 hx with e1 | hx1
    · rcases List.mem_cons.1 hy with e2 | hy1
      · rw [e1, e2]
      · have := l1 y hy1; rw [← e1, hk] at this; exact absurd this (ltP_irr _)
    · rcases List.mem_cons.1 hy with e2 | hy1
      · have := l1 x hx1; rw [← e2, hk] at this; exact absurd this (ltP_irr _)
      · exact ih l2 hx1 hy1
theorem Lsm.dist {V : Ver} {T : Int → List Ent} (h : Lsm V T) : DistE (inT V T) := by
  rintro x y ⟨f, f1, f2⟩ ⟨g, g1, g2⟩ h1 h2
  by_cases e : f = g
  · subst e; exact ord_one (h.ord f f1) f2 g2 h1 h2
  · exact absurd ⟨h1, h2⟩ (h.one f f1 g g1 e x f2 y g2)
/-- Of one level above 0 a norm lies in one table alone. -/
theorem Lsm.norm {V : Ver} {T : Int → List Ent} (h : Lsm V T) {f g : Tbf} (hf : f ∈ V.fs) (hg : g ∈ V.fs) (hl : f.lvl = g.lvl) (h0 : 0 < f.lvl) {x y : Ent} (hx : x ∈ T f.num) (hy : y ∈ T g.num) (hn : x.norm = y.norm) : f = g := by
  by_cases e : f = g
  · exact e
  · exfalso
    have h1 := h.span f hf x hx
    have h2 := h.span g hg y hy
    rw [← hn] at h2
    have := pair_any (R := fun f g => ¬ vClash f g) (fun k c => k (vClash_comm c)) h.good.apart hf hg e
    exact this ⟨hl, h0, leT_trans h1.1 h2.2, leT_trans h2.1 h1.2⟩
/-- A job: its tables Is of level n, those below Ws; from a to b: the span of Is; from c to d: that of both. -/
structure JobM (V : Ver) (n : Int) (Is Ws : List Tbf) (bot : Bool) (a b c d : ByteArray) : Prop where
  lv : 0 ≤ n
  ins : ∀ f ∈ Is, f ∈ V.fs ∧ f.lvl = n
  all0 : n = 0 → ∀ f ∈ V.fs, f.lvl = 0 → f ∈ Is
  ws : ∀ f, f ∈ Ws ↔ f ∈ V.fs ∧ f.lvl = n + 1 ∧ meetT f a b
  sp : ∀ f ∈ Is, leT a f.lo ∧ leT f.hi b
  sp2 : ∀ f, f ∈ Is ∨ f ∈ Ws → leT c f.lo ∧ leT f.hi d
  bot : bot = true → ∀ f ∈ V.fs, n + 2 ≤ f.lvl → ¬ meetT f c d
theorem JobM.mem {V : Ver} {n : Int} {Is Ws : List Tbf} {bot : Bool} {a b c d : ByteArray} (h : JobM V n Is Ws bot a b c d) {f : Tbf} (hf : f ∈ Is ∨ f ∈ Ws) : f ∈ V.fs ∧ n ≤ f.lvl ∧ f.lvl ≤ n + 1 := by
  rcases hf with hf | hf
  · have := h.ins f hf; exact ⟨this.1, by omega, by omega⟩
  · have := (h.ws f).1 hf; exact ⟨this.1, by omega, by omega⟩
/-- The entries of the job's tables. -/
def JobU (Is Ws : List Tbf) (T : Int → List Ent) (U : List Ent) : Prop := ∀ x, x ∈ U ↔ ∃ f, (f ∈ Is ∨ f ∈ Ws) ∧ x ∈ T f.num
/-- Another table of the next level lies on one side of all of them. -/
theorem JobM.side {V : Ver} {T : Int → List Ent} (hL : Lsm V T) {n : Int} {Is Ws : List Tbf} {bot : Bool} {a b c d : ByteArray} (h : JobM V n Is Ws bot a b c d) {U : List Ent} (hU : JobU Is Ws T U) {g : Tbf} (hg : g ∈ V.fs) (hl : g.lvl = n + 1) (hn : g ∉ Ws) :
    (∀ x ∈ U, bl g.hi x.norm) ∨ (∀ x ∈ U, bl x.norm g.lo) := by
  have hlv := h.lv
  have hlo : leT g.lo g.hi := fun k => hL.good.right g hg (by unfold badTb; simp [k])
  have hm : ¬ meetT g a b := fun k => hn ((h.ws g).2 ⟨hg, hl, k⟩)
  have hap : ∀ w ∈ Ws, bl g.hi w.lo ∨ bl w.hi g.lo := fun w hw => by
    obtain ⟨w1, w2, -⟩ := (h.ws w).1 hw
    have hne : w ≠ g := fun e => hn (e ▸ hw)
    have := pair_any (R := fun f g => ¬ vClash f g) (fun k c => k (vClash_comm c)) hL.good.apart w1 hg hne
    by_cases k1 : bl g.hi w.lo
    · exact .inl k1
    · by_cases k2 : bl w.hi g.lo
      · exact .inr k2
      · exact absurd ⟨by omega, by omega, k1, k2⟩ this
  rcases le_or a g.hi with h1 | h1
  · rcases le_or g.lo b with h2 | h2
    · exact absurd ⟨h1, h2⟩ hm
    · right
      intro x hx
      obtain ⟨f, hf, hxf⟩ := (hU x).1 hx
      have hs := hL.span f (h.mem hf).1 x hxf
      refine le_lt hs.2 ?_
      rcases hf with hf | hf
      · exact le_lt (h.sp f hf).2 h2
      · rcases hap f hf with k | k
        · exfalso
          have h3 := ((h.ws f).1 hf).2.2.2
          exact (leT_trans hlo (leT_lt k)) (le_lt h3 h2)
        · exact k
  · left
    intro x hx
    obtain ⟨f, hf, hxf⟩ := (hU x).1 hx
    have hs := hL.span f (h.mem hf).1 x hxf
    refine lt_le ?_ hs.1
    rcases hf with hf | hf
    · exact lt_le h1 (h.sp f hf).1
    · rcases hap f hf with k | k
      · exact k
      · exfalso
        have h3 := ((h.ws f).1 hf).2.2.1
        exact (leT_trans hlo (leT_lt h1)) (le_lt h3 k)
/-- Entries of other tables, of norms of the job's: those of the tables' own levels and above are later. -/
theorem JobM.later {V : Ver} {T : Int → List Ent} (hL : Lsm V T) {n : Int} {Is Ws : List Tbf} {bot : Bool} {a b c d : ByteArray} (h : JobM V n Is Ws bot a b c d) {f g : Tbf} (hf : f ∈ Is ∨ f ∈ Ws) (hg : g ∈ V.fs) (hn : ¬ (g ∈ Is ∨ g ∈ Ws)) (hl : g.lvl ≤ n + 1) {x y : Ent} (hx : x ∈ T f.num) (hy : y ∈ T g.num) (he : y.norm = x.norm) : x.seq < y.seq := by
  have hlv := h.lv
  obtain ⟨f1, f2, f3⟩ := h.mem hf
  by_cases k : g.lvl < f.lvl
  · exact hL.age g hg f f1 k y hy x hx he
  · exfalso
    by_cases k2 : g.lvl = f.lvl
    · by_cases k0 : 0 < g.lvl
      · have := hL.norm hg f1 k2 k0 hy hx he
        exact hn (this ▸ hf)
      · have : g.lvl = 0 := by omega
        exact hn (.inl (h.all0 (by omega) g hg this))
    · -- of the next level, the job's of level n
      have hg1 : g.lvl = n + 1 := by omega
      have hfI : f ∈ Is := by
        rcases hf with hf | hf
        · exact hf
        · have := ((h.ws f).1 hf).2.1; omega
      apply hn
      right
      refine (h.ws g).2 ⟨hg, hg1, ?_⟩
      have s1 := hL.span f f1 x hx
      have s2 := hL.span g hg y hy
      rw [he] at s2
      have s3 := h.sp f hfI
      exact ⟨leT_trans s3.1 (leT_trans s1.1 s2.2), leT_trans s2.1 (leT_trans s1.2 s3.2)⟩
/-- .. and none of the job's norms is deeper, if the job is at the bottom. -/
theorem JobM.deep {V : Ver} {T : Int → List Ent} (hL : Lsm V T) {n : Int} {Is Ws : List Tbf} {bot : Bool} {a b c d : ByteArray} (h : JobM V n Is Ws bot a b c d) (hb : bot = true) {f g : Tbf} (hf : f ∈ Is ∨ f ∈ Ws) (hg : g ∈ V.fs) (hl : n + 2 ≤ g.lvl) {x y : Ent} (hx : x ∈ T f.num) (hy : y ∈ T g.num) (he : y.norm = x.norm) : False := by
  have s1 := hL.span f (h.mem hf).1 x hx
  have s2 := hL.span g hg y hy
  rw [he] at s2
  have s3 := h.sp2 f hf
  exact h.bot hb g hg hl ⟨leT_trans s3.1 (leT_trans s1.1 s2.2), leT_trans s2.1 (leT_trans s1.2 s3.2)⟩
/-- A new table with its entries. -/
structure NewT (n : Int) (p : Tbf × List Ent) : Prop where
  lvl : p.1.lvl = n + 1
  span : ∀ x ∈ p.2, leT p.1.lo x.norm ∧ leT x.norm p.1.hi
  lo : ∃ x ∈ p.2, x.norm = p.1.lo
  hi : ∃ x ∈ p.2, x.norm = p.1.hi
/-- The new tables: pieces of D, one behind the other. -/
structure NewTs (V : Ver) (n : Int) (ps : List (Tbf × List Ent)) (D : List Ent) : Prop where
  each : ∀ p ∈ ps, NewT n p
  flat : (ps.map Prod.snd).flatten = D
  apart : ps.Pairwise fun p q => bl p.1.hi q.1.lo
  fresh : ∀ p ∈ ps, ∀ f ∈ V.fs, f.num ≠ p.1.num
  nums : (ps.map fun p => p.1.num).Nodup
/-- What a job leaves: V', T'. -/
structure DoneJ (V V' : Ver) (T T' : Int → List Ent) (Is Ws : List Tbf) (ps : List (Tbf × List Ent)) : Prop where
  fs : ∀ f, f ∈ V'.fs ↔ (f ∈ V.fs ∧ ¬ (f ∈ Is ∨ f ∈ Ws)) ∨ ∃ p ∈ ps, f = p.1
  old : ∀ f ∈ V.fs, T' f.num = T f.num
  new : ∀ p ∈ ps, T' p.1.num = p.2
theorem newTs_mem {V : Ver} {n : Int} {ps : List (Tbf × List Ent)} {D : List Ent} (h : NewTs V n ps D) {x : Ent} : x ∈ D ↔ ∃ p ∈ ps, x ∈ p.2 := by
  rw [← h.flat, List.mem_flatten]
  constructor
  · rintro ⟨l, hl, hx⟩
    obtain ⟨p, hp, rfl⟩ := List.mem_map.1 hl
    exact ⟨p, hp, hx⟩
  · rintro ⟨p, hp, hx⟩
    exact ⟨p.2, List.mem_map.2 ⟨p, hp, rfl⟩, hx⟩
theorem newTs_two {V : Ver} {n : Int} {ps : List (Tbf × List Ent)} {D : List Ent} (h : NewTs V n ps D) {p q : Tbf × List Ent} (hp : p ∈ ps) (hq : q ∈ ps) (hne : p ≠ q) : bl p.1.hi q.1.lo ∨ bl q.1.hi p.1.lo :=
  pair_any (R := fun p q => bl p.1.hi q.1.lo ∨ bl q.1.hi p.1.lo) (fun k => k.symm) (h.apart.imp fun k => Or.inl k) hp hq hne
/-- The entries behind a job. -/
theorem job_in {V V' : Ver} {T T' : Int → List Ent} (hL : Lsm V T) {n : Int} {Is Ws : List Tbf} {bot : Bool} {a b c d : ByteArray} (h : JobM V n Is Ws bot a b c d) {U : List Ent} (hU : JobU Is Ws T U) {ps : List (Tbf × List Ent)} {D : List Ent} (hN : NewTs V n ps D) (hD : DoneJ V V' T T' Is Ws ps) (x : Ent) :
    inT V' T' x ↔ (inT V T x ∧ x ∉ U) ∨ x ∈ D := by
  constructor
  · rintro ⟨f, f1, f2⟩
    rcases (hD.fs f).1 f1 with ⟨g1, g2⟩ | ⟨p, hp, rfl⟩
    · rw [hD.old f g1] at f2
      refine .inl ⟨⟨f, g1, f2⟩, fun hx => ?_⟩
      obtain ⟨g, hg, hxg⟩ := (hU x).1 hx
      have hne : f ≠ g := fun e => g2 (e ▸ hg)
      exact hL.one f g1 g (h.mem hg).1 hne x f2 x hxg ⟨rfl, rfl⟩
    · rw [hD.new p hp] at f2
      exact .inr ((newTs_mem hN).2 ⟨p, hp, f2⟩)
  · rintro (⟨⟨f, f1, f2⟩, hx⟩ | hx)
    · refine ⟨f, (hD.fs f).2 (.inl ⟨f1, fun k => hx ((hU x).2 ⟨f, k, f2⟩)⟩), by rw [hD.old f f1]; exact f2⟩
    · obtain ⟨p, hp, hxp⟩ := (newTs_mem hN).1 hx
      exact ⟨p.1, (hD.fs _).2 (.inr ⟨p, hp, rfl⟩), by rw [hD.new p hp]; exact hxp⟩
/-- No two tables clash behind it. -/
theorem job_apart {V : Ver} {T : Int → List Ent} (hL : Lsm V T) {n : Int} {Is Ws : List Tbf} {bot : Bool} {a b c d : ByteArray} (h : JobM V n Is Ws bot a b c d) {U : List Ent} (hU : JobU Is Ws T U) {ps : List (Tbf × List Ent)} {D : List Ent} (hDU : ∀ x ∈ D, x ∈ U) (hN : NewTs V n ps D)
    {f g : Tbf} (hf : (f ∈ V.fs ∧ ¬ (f ∈ Is ∨ f ∈ Ws)) ∨ ∃ p ∈ ps, f = p.1) (hg : (g ∈ V.fs ∧ ¬ (g ∈ Is ∨ g ∈ Ws)) ∨ ∃ p ∈ ps, g = p.1) (hne : f ≠ g) : ¬ vClash f g := by
  have hmix : ∀ {f : Tbf} {p : Tbf × List Ent}, f ∈ V.fs → ¬ (f ∈ Is ∨ f ∈ Ws) → p ∈ ps → ¬ vClash f p.1 := fun {f p} f1 f2 hp hc => by
    have hE := hN.each p hp
    obtain ⟨x, x1, x2⟩ := hE.lo
    obtain ⟨y, y1, y2⟩ := hE.hi
    have hxU := hDU x ((newTs_mem hN).2 ⟨p, hp, x1⟩)
    have hyU := hDU y ((newTs_mem hN).2 ⟨p, hp, y1⟩)
    rcases h.side hL hU f1 (hc.1.trans hE.lvl) (fun k => f2 (.inr k)) with k | k
    · have := k x hxU
      rw [x2] at this
      exact hc.2.2.2 this
    · have := k y hyU
      rw [y2] at this
      exact hc.2.2.1 this
  rcases hf with ⟨f1, f2⟩ | ⟨p, hp, rfl⟩
  · rcases hg with ⟨g1, g2⟩ | ⟨q, hq, rfl⟩
    · exact pair_any (R := fun f g => ¬ vClash f g) (fun k c => k (vClash_comm c)) hL.good.apart f1 g1 hne
    · exact hmix f1 f2 hq
  · rcases hg with ⟨g1, g2⟩ | ⟨q, hq, rfl⟩
    · exact fun k => hmix g1 g2 hp (vClash_comm k)
    · intro hc
      rcases newTs_two hN hp hq (fun e => hne (by rw [e])) with k | k
      · exact hc.2.2.2 k
      · exact hc.2.2.1 k
/-- The tables stand behind it. -/
theorem job_lsm {V V' : Ver} {T T' : Int → List Ent} (hL : Lsm V T) {n : Int} {Is Ws : List Tbf} {bot : Bool} {a b c d : ByteArray} (h : JobM V n Is Ws bot a b c d) {U : List Ent} (hU : JobU Is Ws T U) {ps : List (Tbf × List Ent)} {D : List Ent} (hO : OrdK D) (hDU : ∀ x ∈ D, x ∈ U) (hN : NewTs V n ps D) (hD : DoneJ V V' T T' Is Ws ps) (hg : GoodV V') : Lsm V' T' := by
  have hsub : ∀ {x : Ent} {p : Tbf × List Ent}, p ∈ ps → x ∈ p.2 → ∃ f, (f ∈ Is ∨ f ∈ Ws) ∧ x ∈ T f.num := fun {x p} hp hx => (hU x).1 (hDU x ((newTs_mem hN).2 ⟨p, hp, hx⟩))
  have hpo : ∀ p ∈ ps, OrdK p.2 := fun p hp => by
    have hs : p.2.Sublist D := by
      rw [← hN.flat]
      exact List.sublist_flatten_of_mem (List.mem_map.2 ⟨p, hp, rfl⟩)
    exact List.Pairwise.sublist hs hO
  have hlv := h.lv
  -- entries of an older table that stays, and of a new one
  have hold : ∀ {f : Tbf} {p : Tbf × List Ent} {x y : Ent}, f ∈ V.fs → ¬ (f ∈ Is ∨ f ∈ Ws) → p ∈ ps → x ∈ T f.num → y ∈ p.2 → ¬ (x.norm = y.norm ∧ x.seq = y.seq) := fun {f p x y} f1 f2 hp hx hy hk => by
    obtain ⟨g, hg1, hg2⟩ := hsub hp hy
    exact hL.one f f1 g (h.mem hg1).1 (fun e => f2 (e ▸ hg1)) x hx y hg2 hk
  refine ⟨hg, fun f hf => ?_, fun f hf x hx => ?_, fun f hf g hg' hlt x hx y hy he => ?_, fun f hf g hg' hne x hx y hy hk => ?_, fun f hf g hg' l1 l2 hnm x hx y hy he => ?_⟩
  · rcases (hD.fs f).1 hf with ⟨f1, -⟩ | ⟨p, hp, rfl⟩
    · rw [hD.old f f1]; exact hL.ord f f1
    · rw [hD.new p hp]; exact hpo p hp
  · rcases (hD.fs f).1 hf with ⟨f1, -⟩ | ⟨p, hp, rfl⟩
    · rw [hD.old f f1] at hx; exact hL.span f f1 x hx
    · rw [hD.new p hp] at hx; exact (hN.each p hp).span x hx
  · rcases (hD.fs f).1 hf with ⟨f1, f2⟩ | ⟨p, hp, rfl⟩
    · rw [hD.old f f1] at hx
      rcases (hD.fs g).1 hg' with ⟨g1, g2⟩ | ⟨q, hq, rfl⟩
      · rw [hD.old g g1] at hy; exact hL.age f f1 g g1 hlt x hx y hy he
      · rw [hD.new q hq] at hy
        obtain ⟨k, hk1, hk2⟩ := hsub hq hy
        have hql := (hN.each q hq).lvl
        exact h.later hL hk1 f1 f2 (by omega) hk2 hx he
    · rw [hD.new p hp] at hx
      have hpl := (hN.each p hp).lvl
      rcases (hD.fs g).1 hg' with ⟨g1, g2⟩ | ⟨q, hq, rfl⟩
      · rw [hD.old g g1] at hy
        obtain ⟨k, hk1, hk2⟩ := hsub hp hx
        have hm := h.mem hk1
        exact hL.age k hm.1 g g1 (by omega) x hk2 y hy he
      · have := (hN.each q hq).lvl; omega
  · rcases (hD.fs f).1 hf with ⟨f1, f2⟩ | ⟨p, hp, rfl⟩
    · rw [hD.old f f1] at hx
      rcases (hD.fs g).1 hg' with ⟨g1, g2⟩ | ⟨q, hq, rfl⟩
      · rw [hD.old g g1] at hy; exact hL.one f f1 g g1 hne x hx y hy hk
      · rw [hD.new q hq] at hy; exact hold f1 f2 hq hx hy hk
    · rw [hD.new p hp] at hx
      rcases (hD.fs g).1 hg' with ⟨g1, g2⟩ | ⟨q, hq, rfl⟩
      · rw [hD.old g g1] at hy; exact hold g1 g2 hp hy hx ⟨hk.1.symm, hk.2.symm⟩
      · rw [hD.new q hq] at hy
        have hx' := (hN.each p hp).span x hx
        have hy' := (hN.each q hq).span y hy
        rcases newTs_two hN hp hq (fun e => hne (by rw [e])) with k | k
        · have := lt_le (le_lt hx'.2 k) hy'.1
          rw [hk.1] at this; exact bl_irr _ this
        · have := lt_le (le_lt hy'.2 k) hx'.1
          rw [hk.1] at this; exact bl_irr _ this
  · rcases (hD.fs f).1 hf with ⟨f1, f2⟩ | ⟨p, hp, rfl⟩
    · rw [hD.old f f1] at hx
      rcases (hD.fs g).1 hg' with ⟨g1, g2⟩ | ⟨q, hq, rfl⟩
      · rw [hD.old g g1] at hy; exact hL.age0 f f1 g g1 l1 l2 hnm x hx y hy he
      · have := (hN.each q hq).lvl; omega
    · have := (hN.each p hp).lvl; omega
/-- Nobody's view is changed: by a number of sn, or one that is not below all. The memtable's entries, E, are later than all tables'. -/
theorem job_same {V V' : Ver} {T T' : Int → List Ent} (hL : Lsm V T) {n : Int} {Is Ws : List Tbf} {bot : Bool} {a b c d : ByteArray} (h : JobM V n Is Ws bot a b c d) {U : List Ent} (hU : JobU Is Ws T U) (hO : OrdK U) {sn : List Int} {ps : List (Tbf × List Ent)} (hN : NewTs V n ps (dropE sn bot U)) (hD : DoneJ V V' T T' Is Ws ps)
    {E : Ent → Prop} (hE : DistE E) (hEL : ∀ x y, E x → inT V T y → x.norm = y.norm → y.seq < x.seq) {s : Int} (hs : s ∈ sn ∨ ∀ x, E x ∨ inT V T x → x.seq ≤ s) : SameV (fun x => E x ∨ inT V T x) (fun x => E x ∨ inT V' T' x) s := by
  have hdist : DistE (fun x => E x ∨ inT V T x) := by
    rintro x y (hx | hx) (hy | hy) h1 h2
    · exact hE x y hx hy h1 h2
    · have := hEL x y hx hy h1; omega
    · have := hEL y x hy hx h1.symm; omega
    · exact hL.dist x y hx hy h1 h2
  have hUin : ∀ x ∈ U, inT V T x := fun x hx => by
    obtain ⟨f, hf, hxf⟩ := (hU x).1 hx
    exact ⟨f, (h.mem hf).1, hxf⟩
  have h1 := same_drop hdist hO (fun x hx => .inr (hUin x hx)) (sn := sn) (bot := bot) (fun hb x hx y hy hyU hn => by
    rcases hy with hy | ⟨g, g1, g2⟩
    · have := hEL y x hy (hUin x hx) hn; omega
    · obtain ⟨f, hf, hxf⟩ := (hU x).1 hx
      have hgn : ¬ (g ∈ Is ∨ g ∈ Ws) := fun k => hyU ((hU y).2 ⟨g, k, g2⟩)
      rcases Int.lt_or_le (n + 1) g.lvl with k | k
      · exact (h.deep hL hb hf g1 (by omega) hxf g2 hn).elim
      · have := h.later hL hf g1 hgn k hxf g2 hn; omega) hs
  have hset : ∀ x, (((E x ∨ inT V T x) ∧ x ∉ U) ∨ x ∈ dropE sn bot U) ↔ (E x ∨ inT V' T' x) := fun x => by
    rw [job_in hL h hU hN hD x]
    constructor
    · rintro (⟨k | k, k2⟩ | k)
      · exact .inl k
      · exact .inr (.inl ⟨k, k2⟩)
      · exact .inr (.inr k)
    · rintro (k | ⟨k, k2⟩ | k)
      · refine .inl ⟨.inl k, fun hx => ?_⟩
        have := hEL x x k (hUin x hx) rfl; omega
      · exact .inl ⟨.inr k, k2⟩
      · exact .inr k
  rw [funext fun x => propext (hset x)] at h1
  exact h1
end Go.Proofs.Ytgdmmhdihgajkaa
/- Plain mathematics of stage 22: what is to be compacted. -/
namespace Go.Proofs.Ytgdmmhdihgajkaa
set_option linter.unusedVariables false
open Go.RowKit
def minT (a b : ByteArray) : ByteArray := if bl b a then b else a
def maxT (a b : ByteArray) : ByteArray := if bl a b then b else a
theorem minT_l (a b : ByteArray) : leT (minT a b) a := by
  unfold minT
  split
  · rename_i h; exact leT_lt h
  · exact leT_refl _
theorem minT_r (a b : ByteArray) : leT (minT a b) b := by
  unfold minT
  split
  · exact leT_refl _
  · rename_i h; exact h
theorem maxT_l (a b : ByteArray) : leT a (maxT a b) := by
  unfold maxT
  split
  · rename_i h; exact leT_lt h
  · exact leT_refl _
theorem maxT_r (a b : ByteArray) : leT b (maxT a b) := by
  unfold maxT
  split
  · exact leT_refl _
  · rename_i h; exact h
/-- From the least to the greatest text of some tables. -/
def spanF (p : ByteArray × ByteArray) (l : List Tbf) : ByteArray × ByteArray := l.foldl (fun p g => (minT p.1 g.lo, maxT p.2 g.hi)) p
def spanV : List Tbf → ByteArray × ByteArray
  | [] => (⟨#[]⟩, ⟨#[]⟩)
  | f :: r => spanF (f.lo, f.hi) r
theorem spanF_le : ∀ (l : List Tbf) (p : ByteArray × ByteArray), leT (spanF p l).1 p.1 ∧ leT p.2 (spanF p l).2 ∧ ∀ f ∈ l, leT (spanF p l).1 f.lo ∧ leT f.hi (spanF p l).2
  | [], p => ⟨leT_refl _, leT_refl _, fun f hf => by cases hf⟩
  | g :: r, p => by
    obtain ⟨h1, h2, h3⟩ := spanF_le r (minT p.1 g.lo, maxT p.2 g.hi)
    refine ⟨leT_trans h1 (minT_l _ _), leT_trans (maxT_l _ _) h2, fun f hf => ?_⟩
    rcases List.mem_cons.1 hf with rfl | hf
    · exact ⟨leT_trans h1 (minT_r _ _), leT_trans (maxT_r _ _) h2⟩
    · exact h3 f hf
theorem spanV_le {l : List Tbf} : ∀ f ∈ l, leT (spanV l).1 f.lo ∧ leT f.hi (spanV l).2 := by
  cases l with
  | nil => intro f hf; cases hf
  | cons g r =>
    obtain ⟨h1, h2, h3⟩ := spanF_le r (g.lo, g.hi)
    intro f hf
    rcases List.mem_cons.1 hf with rfl | hf
    · exact ⟨h1, h2⟩
    · exact h3 f hf
/-- The table of the least number. -/
def leastV : List Tbf → Option Tbf
  | [] => none
  | f :: r => some (r.foldl (fun a g => if g.num < a.num then g else a) f)
theorem least_fold : ∀ (r : List Tbf) (f : Tbf), r.foldl (fun a g => if g.num < a.num then g else a) f = f ∨ r.foldl (fun a g => if g.num < a.num then g else a) f ∈ r
  | [], f => .inl rfl
  | g :: r, f => by
    rw [List.foldl_cons]
    rcases least_fold r (if g.num < f.num then g else f) with h | h
    · rw [h]
      split
      · exact .inr (List.mem_cons_self ..)
      · exact .inl rfl
    · exact .inr (List.mem_cons_of_mem _ h)
theorem leastV_mem {l : List Tbf} {f : Tbf} (h : leastV l = some f) : f ∈ l := by
  cases l with
  | nil => cases h
  | cons g r =>
    obtain rfl := Option.some.inj h
    rcases least_fold r g with e | e
    · rw [e]; exact List.mem_cons_self ..
    · exact List.mem_cons_of_mem _ e
theorem least_le : ∀ (r : List Tbf) (f : Tbf), (r.foldl (fun a g => if g.num < a.num then g else a) f).num ≤ f.num ∧ ∀ g ∈ r, (r.foldl (fun a g => if g.num < a.num then g else a) f).num ≤ g.num
  | [], f => ⟨Int.le_refl _, fun g hg => by cases hg⟩
  | h :: r, f => by
    rw [List.foldl_cons]
    obtain ⟨k1, k2⟩ := least_le r (if h.num < f.num then h else f)
    have e1 : (if h.num < f.num then h else f).num ≤ f.num ∧ (if h.num < f.num then h else f).num ≤ h.num := by split <;> omega
    refine ⟨by omega, fun g hg => ?_⟩
    rcases List.mem_cons.1 hg with rfl | hg
    · omega
    · exact k2 g hg
theorem leastV_le {l : List Tbf} {f : Tbf} (h : leastV l = some f) : ∀ g ∈ l, f.num ≤ g.num := by
  cases l with
  | nil => cases h
  | cons k r =>
    obtain rfl := Option.some.inj h
    obtain ⟨k1, k2⟩ := least_le r k
    intro g hg
    rcases List.mem_cons.1 hg with rfl | hg
    · exact k1
    · exact k2 g hg
/-- Bytes of a level's tables. -/
def sizV (n : Int) (l : List Tbf) : Int := ((levelV n l).map Tbf.siz).sum
/-- Which level is compacted. -/
def pickL (l : List Tbf) : Option Int :=
  if 4 ≤ (levelV 0 l).length then some 0 else if 2000 < sizV 1 l then some 1 else if 8000 < sizV 2 l then some 2 else if 32000 < sizV 3 l then some 3 else none
def insV (l : List Tbf) (n : Int) : List Tbf := if n = 0 then levelV 0 l else (leastV (levelV n l)).toList
structure JobV where
  lvl : Int
  ins : List Tbf
  below : List Tbf
  bot : Bool
def belV (l : List Tbf) (n : Int) : List Tbf := overV (n + 1) (spanV (insV l n)).1 (spanV (insV l n)).2 l
/-- Have the levels from n + 2 on a table that has a text in common with the span? -/
def botV (l : List Tbf) (n : Int) (a b : ByteArray) : Bool := ([2, 3, 4].filter fun m => decide (n + 2 ≤ m)).all fun m => (overV m a b l).isEmpty
def jobV (l : List Tbf) (n : Int) : JobV := ⟨n, insV l n, belV l n, botV l n (spanV (insV l n ++ belV l n)).1 (spanV (insV l n ++ belV l n)).2⟩
/-- The job of a version. -/
def pickV (l : List Tbf) : Option JobV := (pickL l).map (jobV l)
theorem level_mem {l : List Tbf} {n : Int} {f : Tbf} : f ∈ levelV n l ↔ f ∈ l ∧ f.lvl = n := by
  rw [(levelV_perm n l).mem_iff, List.mem_filter, decide_eq_true_eq]
theorem over_mem {l : List Tbf} {n : Int} {a b : ByteArray} (hab : leT a b) {f : Tbf} : f ∈ overV n a b l ↔ f ∈ l ∧ f.lvl = n ∧ meetT f a b := by
  unfold overV
  rw [List.mem_filter, level_mem]
  have : vOverB a b f = true ↔ meetT f a b := by
    unfold vOverB meetT leT
    simp only [Bool.and_eq_true, Bool.not_eq_true', decide_eq_false_iff_not]
    have : ¬ bl b a := hab
    constructor
    · intro h; simp_all
    · intro h; simp_all
  rw [this]
  exact ⟨fun h => ⟨h.1.1, h.1.2, h.2⟩, fun h => ⟨⟨h.1, h.2.1⟩, h.2.2⟩⟩
theorem pickL_lv {l : List Tbf} {n : Int} (h : pickL l = some n) : 0 ≤ n ∧ n ≤ 3 := by
  unfold pickL at h
  split at h
  · obtain rfl := Option.some.inj h; omega
  split at h
  · obtain rfl := Option.some.inj h; omega
  split at h
  · obtain rfl := Option.some.inj h; omega
  split at h
  · obtain rfl := Option.some.inj h; omega
  · cases h
theorem ins_mem {l : List Tbf} {n : Int} {f : Tbf} (h : f ∈ insV l n) : f ∈ l ∧ f.lvl = n := by
  unfold insV at h
  split at h
  · rename_i e; rw [e]; exact level_mem.1 h
  · rw [Option.mem_toList] at h
    exact level_mem.1 (leastV_mem h)
theorem siz_pos {l : List Tbf} {n : Int} (h : 0 < sizV n l) : leastV (levelV n l) ≠ none := by
  unfold sizV at h
  cases e : levelV n l with
  | nil => rw [e] at h; simp at h
  | cons f r => simp [leastV]
theorem ins_some {l : List Tbf} {n : Int} (h : pickL l = some n) : insV l n ≠ [] := by
  have key : ∀ m : Int, m ≠ 0 → 0 < sizV m l → insV l m ≠ [] := fun m hm hs => by
    unfold insV
    rw [if_neg hm]
    cases e : leastV (levelV m l) with
    | none => exact absurd e (siz_pos hs)
    | some f => simp
  unfold pickL at h
  split at h
  · obtain rfl := Option.some.inj h
    rename_i h0
    unfold insV
    rw [if_pos rfl]
    intro e; rw [e] at h0; simp at h0
  split at h
  · obtain rfl := Option.some.inj h
    exact key 1 (by omega) (by omega)
  split at h
  · obtain rfl := Option.some.inj h
    exact key 2 (by omega) (by omega)
  split at h
  · obtain rfl := Option.some.inj h
    exact key 3 (by omega) (by omega)
  · cases h
/-- It is one as its promises say. -/
theorem pick_job {V : Ver} (g : GoodV V) {n : Int} (h : pickL V.fs = some n) :
    JobM V n (insV V.fs n) (belV V.fs n) (jobV V.fs n).bot (spanV (insV V.fs n)).1 (spanV (insV V.fs n)).2 (spanV (insV V.fs n ++ belV V.fs n)).1 (spanV (insV V.fs n ++ belV V.fs n)).2 := by
  obtain ⟨n0, n3⟩ := pickL_lv h
  obtain ⟨f0, hf0⟩ := List.exists_mem_of_ne_nil _ (ins_some h)
  have hr : ∀ f ∈ V.fs, leT f.lo f.hi := fun f hf k => g.right f hf (by unfold badTb; simp [k])
  have hab : leT (spanV (insV V.fs n)).1 (spanV (insV V.fs n)).2 := by
    have h1 := spanV_le f0 hf0
    exact leT_trans h1.1 (leT_trans (hr f0 (ins_mem hf0).1) h1.2)
  have hcd : leT (spanV (insV V.fs n ++ belV V.fs n)).1 (spanV (insV V.fs n ++ belV V.fs n)).2 := by
    have h1 := spanV_le f0 (List.mem_append_left (belV V.fs n) hf0)
    exact leT_trans h1.1 (leT_trans (hr f0 (ins_mem hf0).1) h1.2)
  refine ⟨n0, fun f hf => ins_mem hf, fun e f hf hl => ?_, fun f => over_mem hab, fun f hf => spanV_le f hf, fun f hf => spanV_le f (List.mem_append.2 hf), fun hb f hf hl hm => ?_⟩
  · unfold insV
    rw [if_pos e]
    exact level_mem.2 ⟨hf, hl⟩
  · have hlv : f.lvl ≤ 4 := by
      have := g.right f hf
      unfold badTb at this; omega
    have hb : botV V.fs n _ _ = true := hb
    unfold botV at hb
    rw [List.all_eq_true] at hb
    have hmem : f.lvl ∈ ([2, 3, 4].filter fun m : Int => decide (n + 2 ≤ m)) := by
      rw [List.mem_filter, decide_eq_true_eq]
      refine ⟨?_, hl⟩
      simp only [List.mem_cons, List.not_mem_nil, or_false]
      omega
    have := hb f.lvl hmem
    rw [List.isEmpty_iff] at this
    have hin := (over_mem hcd (l := V.fs) (n := f.lvl)).2 ⟨hf, rfl, hm⟩
    rw [this] at hin; cases hin
/-- It does not hang on the order in which the tables are kept. -/
theorem pick_same {V W : Ver} (h : vSame V W) (g : GoodV V) : pickV V.fs = pickV W.fs := by
  have e : ∀ n : Int, 0 ≤ n → levelV n V.fs = levelV n W.fs := fun n hn => levelV_same h g n hn
  have e1 : ∀ n : Int, 0 ≤ n → sizV n V.fs = sizV n W.fs := fun n hn => by unfold sizV; rw [e n hn]
  have e2 : pickL V.fs = pickL W.fs := by
    unfold pickL
    rw [e 0 (by decide), e1 1 (by decide), e1 2 (by decide), e1 3 (by decide)]
  have e3 : ∀ n : Int, 0 ≤ n → insV V.fs n = insV W.fs n := fun n hn => by
    unfold insV; rw [e 0 (by decide), e n hn]
  have e4 : ∀ n : Int, 0 ≤ n → ∀ a b, overV n a b V.fs = overV n a b W.fs := fun n hn a b => by unfold overV; rw [e n hn]
  unfold pickV
  rw [e2]
  cases hp : pickL W.fs with
  | none => rfl
  | some n =>
    have hn := (pickL_lv hp).1
    show some (jobV V.fs n) = some (jobV W.fs n)
    have e5 : belV V.fs n = belV W.fs n := by unfold belV; rw [e3 n hn, e4 (n + 1) (by omega)]
    have e6 : ∀ a b, botV V.fs n a b = botV W.fs n a b := fun a b => by
      have hm : ∀ m ∈ ([2, 3, 4].filter fun m : Int => decide (n + 2 ≤ m)), (0 : Int) ≤ m := fun m hm => by
        have := (List.mem_filter.1 hm).1
        simp only [List.mem_cons, List.not_mem_nil, or_false] at this
        omega
      unfold botV
      rw [Bool.eq_iff_iff, List.all_eq_true, List.all_eq_true]
      exact ⟨fun k m hmm => by rw [← e4 m (hm m hmm)]; exact k m hmm, fun k m hmm => by rw [e4 m (hm m hmm)]; exact k m hmm⟩
    unfold jobV
    rw [e3 n hn, e5, e6]
end Go.Proofs.Ytgdmmhdihgajkaa
