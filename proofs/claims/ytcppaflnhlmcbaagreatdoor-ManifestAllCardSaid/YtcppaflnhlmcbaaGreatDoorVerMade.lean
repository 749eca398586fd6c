/- The laws' Made: a version behind edits, and the document's. -/
import Derived.Test.YtcppaflnhlmcbaaGreatDoorMVerR
import Derived.Test.YtcppaflnhlmcbaaGreatDoorMEdtR
namespace Go.Proofs.YtcppaflnhlmcbaaGreatDoor
set_option linter.unusedVariables false
set_option maxRecDepth 100000
open Go.RowKit
/-- The cells of an edit that came in. -/
structure EdCell (w : World) (b o : Nat) (x : Edt) (va vd : Value) : Prop where
  c0 : w.cell? ⟨b, o, none⟩ = some (.int .i64 x.nxt)
  c1 : w.cell? ⟨b, o + 1, none⟩ = some (.int .i64 x.lg)
  c2 : w.cell? ⟨b, o + 2, none⟩ = some (.int .i64 x.lst)
  c3 : w.cell? ⟨b, o + 3, none⟩ = some va
  c4 : w.cell? ⟨b, o + 4, none⟩ = some vd
/-- Edits that came in. -/
def EdtsAt (w : World) (v : Value) (xs : List Edt) : Prop := ∃ a cap, v = .slice a xs.length cap ∧ ∀ (i : Nat) (x : Edt), xs[i]? = some x → ∃ b o va vd, a = some ⟨b, o, none⟩ ∧ b < w.heap.size ∧ EdCell w b (o + i * 5) x va vd ∧ RdK encTbf 5 w va x.adds ∧ RdV w vd (x.dels.map encI64)
theorem EdtsAt.below {w w' : World} {v : Value} {xs : List Edt} (h : EdtsAt w v xs) (u : Below w.heap.size w w') : EdtsAt w' v xs := by
  obtain ⟨a, cap, h1, h2⟩ := h
  refine ⟨a, cap, h1, fun i x hx => ?_⟩
  obtain ⟨b, o, va, vd, h3, h4, h5, h6, h7⟩ := h2 i x hx
  exact ⟨b, o, va, vd, h3, Nat.lt_of_lt_of_le h4 u.size, ⟨(u.cell h4).trans h5.c0, (u.cell h4).trans h5.c1, (u.cell h4).trans h5.c2, (u.cell h4).trans h5.c3, (u.cell h4).trans h5.c4⟩, h6.below u, RdV.below h7 u⟩
/-- Both versions, and what they tell. -/
structure TwoV (B : Nat) (w : World) (b c : Nat) (V W : Ver) : Prop where
  v : VerAt B w b V
  r : RefAt B w c W
  s : vSame V W
theorem TwoV.below {B : Nat} {w w' : World} {b c : Nat} {V W : Ver} (h : TwoV B w b c V W) (u : Below w.heap.size w w') : TwoV B w' b c V W := ⟨h.v.below u, h.r.below u, h.s⟩
end Go.Proofs.YtcppaflnhlmcbaaGreatDoor
