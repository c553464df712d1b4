/-
  A row of bytes as a text.
-/
import Derived.Test.YtgogpngobdafaaaDoorGen
import Derived.Test.YtgogpngobdafaaaDoorLb
import Derived.Laws.BytesArg
namespace Go.Proofs.YtgogpngobdafaaaDoor
set_option linter.unusedVariables false
set_option linter.unusedSimpArgs false
open Go.RowKit
set_option maxRecDepth 100000 in
/-- A row of bytes as a text. -/
theorem run_str (w : World) (A : Option Addr) (c : Nat) (xs : Bs) (h : Rd w A (xs.map Bv)) : (convert 30 9 (.slice A xs.length c)).run Tryd.prog w = .ok (.string (mkB xs)) w := by
  cases A with
  | none =>
    have : xs = [] := by
      cases xs with
      | nil => rfl
      | cons x r => obtain ⟨b, off, e, _⟩ := h 0 (Bv x) rfl; cases e
    subst this
    exact run_convert_bytes_nil w 30 5 Tryd.underlying30 Tryd.underlying5 0 c 9 Tryd.underlying9
  | some a =>
    cases xs with
    | nil =>
      obtain ⟨b, off, spot⟩ := a
      rw [run_convert_bytes_string w 30 9 5 _ _ _ Tryd.underlying30 Tryd.underlying5 Tryd.underlying9]
      have := run_bytesToString (P := Tryd.prog) w ⟨b, off, spot⟩ 0 c [] (by simp [loadCells, loadCellsFrom])
      exact this
    | cons x r =>
      obtain ⟨b, off, e, _⟩ := h 0 (Bv x) rfl
      injection e with e
      subst e
      have hget : ∀ i, (hi : i < (x :: r).length) → ((x :: r).map Bv)[i]? = some (Bv (x :: r)[i]) ∧ ((x :: r).map fun y => (y.toNat : Int)).getD i 0 = ((x :: r)[i].toNat : Int) := fun i hi => by
        generalize x :: r = l at hi ⊢
        exact ⟨by rw [List.getElem?_map, List.getElem?_eq_getElem hi]; rfl, by rw [List.getD, List.getElem?_map, List.getElem?_eq_getElem hi]; rfl⟩
      have hc := run_convert_bytes_arg (P := Tryd.prog) w 30 5 Tryd.underlying30 Tryd.underlying5 b off (x :: r).length c ((x :: r).map fun y => (y.toNat : Int)) (by simp) (fun i hi => by
        obtain ⟨b', off', e, hcell⟩ := h i _ (hget i hi).1
        injection e with e; injection e with e1 e2 _; subst e1; subst e2
        rw [hcell, (hget i hi).2]; rfl) 9 Tryd.underlying9
      rw [hc]
      congr 2
      unfold strOfNums mkB
      simp [Function.comp_def]
end Go.Proofs.YtgogpngobdafaaaDoor
