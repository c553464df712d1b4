/-
  Few and short texts, put together.
-/
import Derived.Test.YtleppphcjncfhaaDoorHq
import Derived.Test.YtleppphcjncfhaaDoorRr
namespace Go.Proofs.YtleppphcjncfhaaDoor
set_option linter.unusedVariables false
set_option linter.unusedSimpArgs false
open Go.RowKit

theorem joined_bound (P : List (Option Addr × Nat × List UInt8)) (h : ∀ p ∈ P, p.2.2.length ≤ 2000) : (joined P).length ≤ 2000 * P.length := by
  induction P with
  | nil => simp [joined]
  | cons p r ih =>
    have h1 := h p (List.mem_cons_self ..)
    have h2 := ih (fun q hq => h q (List.mem_cons_of_mem _ hq))
    simp only [joined, List.flatMap_cons, List.length_append, List.length_cons] at h2 ⊢
    omega
theorem joined_short {P : List (Option Addr × Nat × List UInt8)} (h : shortB P = true) : (joined P).length ≤ 60000 := by
  obtain ⟨h1, h2⟩ := shortB_spec h
  have := joined_bound P h1
  omega
theorem RowsRd.parts {w : World} {S : Option Addr} {P : List (Option Addr × Nat × List UInt8)} (h : RowsRd w S P) : PartsRd w S P :=
  ⟨h.1, fun p hp => ⟨(h.2 p hp).1, (h.2 p hp).2.1, by have := (h.2 p hp).2.2; unfold maxLen at this; omega⟩⟩
end Go.Proofs.YtleppphcjncfhaaDoor
