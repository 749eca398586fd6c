/- The queue's methods, asked through an interface. -/
import Derived.Test.YtmndhmodcglkjaaMgPush
namespace Go.Proofs.Ytmndhmodcglkjaa
set_option linter.unusedVariables false
set_option maxRecDepth 100000
open Go.RowKit
theorem find_meth {P : Program} {T : TypeId} {name : String} {f : FuncId} {pr : Bool} (h : ((P.info? T).bind fun i => i.methods.find? (·.name == name)).map (fun m => (m.path, m.func)) = some (#[], some (f, pr))) : ∃ i m, P.info? T = some i ∧ i.methods.find? (·.name == name) = some m ∧ m.path = #[] ∧ m.func = some (f, pr) := by
  cases hi : P.info? T with
  | none => rw [hi] at h; cases h
  | some i =>
    rw [hi] at h
    simp only [Option.bind_some] at h
    cases hm : i.methods.find? (·.name == name) with
    | none => rw [hm] at h; cases h
    | some m =>
      rw [hm] at h
      simp only [Option.map_some, Option.some.injEq, Prod.mk.injEq] at h
      exact ⟨i, m, rfl, hm, h.1, h.2⟩
theorem wrap_run {P : Program} (T ty : TypeId) (a : Addr) (s n : String) (w : World) : (Builtin.ssaWrapNilChk_ #[T] ty #[.pointer (some a), strVal s, strVal n]).run P w = .ok (.pointer (some a)) w := rfl
/-- A method of a pointer's own type. -/
theorem method_self {P : Program} {T E : TypeId} {name : String} {f : FuncId} (h : ((P.info? T).bind fun i => i.methods.find? (·.name == name)).map (fun m => (m.path, m.func)) = some (#[], some (f, true))) (hu : P.underlying T = some (.pointer E)) (fuel : Nat) (x : Value) (w : World) : (method (fuel + 1) T x name).run P w = .ok (f, x) w := by
  obtain ⟨i, m, hi, hm, hp, hf⟩ := find_meth h
  have hr : (receiverAt T (.val x) true (if m.path.isEmpty then some ((name.splitOn ".").getLastD name) else none)).run P w = .ok x w := by
    unfold receiverAt
    rw [Sem.run_bind, run_underlying hu, Result.andThen_ok]
    rfl
  unfold method
  have h1 : (typeInfo T).run P w = .ok i w := by simp [typeInfo, hi, go_sem]
  rw [Sem.run_bind, h1, Result.andThen_ok]
  simp only [hm, hf, Sem.run_bind]
  rw [hp] at hr ⊢
  have h2 : (follow (#[] : Array FieldStep).toList T (Place.val x)).run P w = .ok (T, .val x) w := by simp [follow, go_sem]
  rw [h2, Result.andThen_ok, hr]
  rfl
/-- A method of what a pointer points to. -/
theorem method_ptr {P : Program} {T E : TypeId} {name : String} {f : FuncId} (h : ((P.info? T).bind fun i => i.methods.find? (·.name == name)).map (fun m => (m.path, m.func)) = some (#[], some (f, false))) (hu : P.underlying T = some (.pointer E)) (fuel : Nat) {a : Addr} {v : Value} {w : World}
    (hl : (loadVar E a).run P w = .ok v w) : (method (fuel + 1) T (.pointer (some a)) name).run P w = .ok (f, v) w := by
  obtain ⟨i, m, hi, hm, hp, hf⟩ := find_meth h
  unfold method
  have hr : ∀ o : String, (receiverAt T (.val (.pointer (some a))) false (some o)).run P w = .ok v w := fun o => by
    unfold receiverAt
    rw [Sem.run_bind, run_underlying hu, Result.andThen_ok]
    simp only [Place.get, Sem.run_bind, Sem.run_pure, Result.andThen_ok]
    rw [wrap_run]
    simp only [asAddr, Sem.run_pure, Result.andThen_ok]
    exact hl
  have h1 : (typeInfo T).run P w = .ok i w := by simp [typeInfo, hi, go_sem]
  rw [Sem.run_bind, h1, Result.andThen_ok]
  simp only [hm, hf, Sem.run_bind]
  rw [hp]
  have h2 : (follow (#[] : Array FieldStep).toList T (Place.val (.pointer (some a)))).run P w = .ok (T, .val (.pointer (some a))) w := by simp [follow, go_sem]
  rw [h2, Result.andThen_ok]
  simp only [Array.isEmpty_empty, if_true]
  rw [hr]
  rfl
section
variable {qb : Nat} {v : Value} {w : World}
theorem load_q (hc : w.cell? ⟨qb, 0, none⟩ = some v) (h1 : v.oneCell' = true) : (loadVar 54 ⟨qb, 0, none⟩).run Try.prog w = .ok v w := by
  go_simp
theorem u_pq : Try.prog.underlying 59 = some (.pointer 54) := by kernel_rfl
theorem m_len (hc : w.cell? ⟨qb, 0, none⟩ = some v) (h1 : v.oneCell' = true) : (method 195 59 (.pointer (some ⟨qb, 0, none⟩)) "Len").run Try.prog w = .ok (19, v) w := method_ptr (by kernel_rfl) u_pq _ (load_q hc h1)
theorem m_less (hc : w.cell? ⟨qb, 0, none⟩ = some v) (h1 : v.oneCell' = true) : (method 195 59 (.pointer (some ⟨qb, 0, none⟩)) "Less").run Try.prog w = .ok (46, v) w := method_ptr (by kernel_rfl) u_pq _ (load_q hc h1)
theorem m_swap (hc : w.cell? ⟨qb, 0, none⟩ = some v) (h1 : v.oneCell' = true) : (method 195 59 (.pointer (some ⟨qb, 0, none⟩)) "Swap").run Try.prog w = .ok (47, v) w := method_ptr (by kernel_rfl) u_pq _ (load_q hc h1)
theorem m_pop : (method 195 59 (.pointer (some ⟨qb, 0, none⟩)) "Pop").run Try.prog w = .ok (55, .pointer (some ⟨qb, 0, none⟩)) w := method_self (by kernel_rfl) u_pq _ _ _
theorem m_push : (method 195 59 (.pointer (some ⟨qb, 0, none⟩)) "Push").run Try.prog w = .ok (56, .pointer (some ⟨qb, 0, none⟩)) w := method_self (by kernel_rfl) u_pq _ _ _
end
end Go.Proofs.Ytmndhmodcglkjaa
