/-
  Rows of elements of some cells each, whatever they are.
-/
import Derived.Test.YtgogpngobdafaaaDoorGen
namespace Go.Proofs.YtgogpngobdafaaaDoor
set_option linter.unusedVariables false
set_option linter.unusedSimpArgs false
open Go.RowKit
section
variable {α : Type} {f : α → List Value} {m : Nat}
theorem flat_len (hm : ∀ x, (f x).length = m) : ∀ l : List α, (l.flatMap f).length = l.length * m
  | [] => by simp
  | x :: r => by rw [List.flatMap_cons, List.length_append, hm, flat_len hm r, List.length_cons, Nat.add_mul]; omega
theorem flat_at (hm : ∀ x, (f x).length = m) : ∀ (l : List α) (k : Nat) (hk : k < l.length) (i : Nat), i < m → (l.flatMap f)[k * m + i]? = (f l[k])[i]?
  | x :: r, 0, _, i, hi => by
    rw [List.flatMap_cons, Nat.zero_mul, Nat.zero_add, List.getElem?_append_left (by rw [hm]; exact hi)]; rfl
  | x :: r, k + 1, hk, i, hi => by
    rw [List.flatMap_cons, List.getElem?_append_right (by rw [hm, Nat.add_mul]; omega), hm, show (k + 1) * m + i - m = k * m + i by rw [Nat.add_mul]; omega]
    exact flat_at hm r k (by simpa using hk) i hi
theorem Rd.flat {w : World} {A : Option Addr} {l : List α} (h : Rd w A (l.flatMap f)) (hm : ∀ x, (f x).length = m) (h0 : 0 < m) {k : Nat} {x : α} (hk : l[k]? = some x) :
    ∃ b off, A = some ⟨b, off, none⟩ ∧ ∀ i v, (f x)[i]? = some v → w.cell? ⟨b, off + k * m + i, none⟩ = some v := by
  obtain ⟨hlt, rfl⟩ := List.getElem?_eq_some_iff.1 hk
  have hf0 : (f l[k])[0]? = some ((f l[k])[0]'(by rw [hm]; exact h0)) := List.getElem?_eq_getElem _
  obtain ⟨b, off, e, _⟩ := h (k * m + 0) _ ((flat_at hm l k hlt 0 h0).trans hf0)
  refine ⟨b, off, e, fun i v hv => ?_⟩
  have hi : i < m := by rw [← hm l[k]]; exact (List.getElem?_eq_some_iff.1 hv).1
  obtain ⟨b', off', e', c⟩ := h (k * m + i) v ((flat_at hm l k hlt i hi).trans hv)
  rw [e] at e'
  injection e' with e'; injection e' with e1 e2 _; subst e1; subst e2
  rw [Nat.add_assoc]; exact c
theorem rd_flat {w : World} {b off : Nat} {l : List α} (hm : ∀ x, (f x).length = m) (h0 : 0 < m) (h : ∀ k x, l[k]? = some x → ∀ i v, (f x)[i]? = some v → w.cell? ⟨b, off + k * m + i, none⟩ = some v) : Rd w (some ⟨b, off, none⟩) (l.flatMap f) := by
  intro j v hv
  refine ⟨b, off, rfl, ?_⟩
  have hj : j < l.length * m := by rw [← flat_len hm]; exact (List.getElem?_eq_some_iff.1 hv).1
  have hk : j / m < l.length := Nat.div_lt_of_lt_mul (by rw [Nat.mul_comm]; exact hj)
  have hi : j % m < m := Nat.mod_lt _ h0
  have e : j / m * m + j % m = j := by rw [Nat.mul_comm]; exact Nat.div_add_mod j m
  have := h (j / m) l[j / m] (List.getElem?_eq_getElem hk) (j % m) v (by rw [← flat_at hm l (j / m) hk (j % m) hi, e]; exact hv)
  rw [Nat.add_assoc, e] at this
  exact this
end
end Go.Proofs.YtgogpngobdafaaaDoor
