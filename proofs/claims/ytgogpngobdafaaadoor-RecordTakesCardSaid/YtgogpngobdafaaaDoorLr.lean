/-
  Lists of labels in memory: a label takes two cells.
-/
import Derived.Test.YtgogpngobdafaaaDoorGen
import Derived.Test.YtgogpngobdafaaaDoorLb
namespace Go.Proofs.YtgogpngobdafaaaDoor
set_option linter.unusedVariables false
set_option linter.unusedSimpArgs false
open Go.RowKit

/-- The cells of labels. -/
def lcells : List Lb → List Value
  | [] => []
  | x :: r => .string x.1 :: .string x.2 :: lcells r
def aggL (x : Lb) : Value := .agg #[.string x.1, .string x.2]
theorem lcells_len : ∀ l, (lcells l).length = l.length * 2
  | [] => rfl
  | x :: r => by simp only [lcells, List.length_cons, lcells_len r]; omega
theorem lcells_append : ∀ l m, lcells (l ++ m) = lcells l ++ lcells m
  | [], m => rfl
  | x :: r, m => by simp only [List.cons_append, lcells, lcells_append r m]
theorem lcells_one (x : Lb) : lcells [x] = [.string x.1, .string x.2] := rfl
theorem lcells_take : ∀ (l : List Lb) (k : Nat), lcells (l.take k) = (lcells l).take (k * 2)
  | [], k => by simp [lcells]
  | x :: r, 0 => by simp [lcells]
  | x :: r, k + 1 => by rw [show (k + 1) * 2 = k * 2 + 1 + 1 by omega]; simp only [List.take_succ_cons, lcells, lcells_take r k]
theorem lcells_drop : ∀ (l : List Lb) (k : Nat), lcells (l.drop k) = (lcells l).drop (k * 2)
  | [], k => by simp [lcells]
  | x :: r, 0 => by simp [lcells]
  | x :: r, k + 1 => by rw [show (k + 1) * 2 = k * 2 + 1 + 1 by omega]; simp only [List.drop_succ_cons, lcells, lcells_drop r k]
theorem lcells_fst : ∀ (l : List Lb) (k : Nat) (h : k < l.length), (lcells l)[k * 2]? = some (.string l[k].1)
  | [], k, h => absurd h (Nat.not_lt_zero _)
  | x :: r, 0, h => by simp [lcells]
  | x :: r, k + 1, h => by rw [show (k + 1) * 2 = k * 2 + 1 + 1 by omega]; simp only [lcells, List.getElem?_cons_succ, List.getElem_cons_succ]; exact lcells_fst r k (by simpa using h)
theorem lcells_snd : ∀ (l : List Lb) (k : Nat) (h : k < l.length), (lcells l)[k * 2 + 1]? = some (.string l[k].2)
  | [], k, h => absurd h (Nat.not_lt_zero _)
  | x :: r, 0, h => by simp [lcells]
  | x :: r, k + 1, h => by rw [show (k + 1) * 2 + 1 = (k * 2 + 1) + 1 + 1 by omega]; simp only [lcells, List.getElem?_cons_succ, List.getElem_cons_succ]; exact lcells_snd r k (by simpa using h)
theorem lcells_one' : ∀ (l : List Lb), ∀ u ∈ lcells l, u.oneCell' = true
  | [], u, h => by cases h
  | x :: r, u, h => by
    rcases List.mem_cons.1 h with rfl | h
    · rfl
    rcases List.mem_cons.1 h with rfl | h
    · rfl
    · exact lcells_one' r u h
/-- A label at its place. -/
theorem lb_at {w : World} {A : Option Addr} {l : List Lb} (h : Rd w A (lcells l)) {k : Nat} (hk : k < l.length) :
    ∃ b off, A = some ⟨b, off, none⟩ ∧ w.cell? ⟨b, off + k * 2, none⟩ = some (.string l[k].1) ∧ w.cell? ⟨b, off + k * 2 + 1, none⟩ = some (.string l[k].2) := by
  obtain ⟨b, off, e, c0⟩ := h (k * 2) _ (lcells_fst l k hk)
  obtain ⟨b', off', e', c1⟩ := h (k * 2 + 1) _ (lcells_snd l k hk)
  rw [e] at e'
  injection e' with e'
  injection e' with e1 e2 _
  subst e1; subst e2
  exact ⟨b, off, e, c0, c1⟩
theorem lb_nil {w : World} {l : List Lb} (h : Rd w none (lcells l)) : l = [] := by
  cases l with
  | nil => rfl
  | cons x r => obtain ⟨b, off, e, _⟩ := lb_at h (k := 0) (by simp); cases e
theorem rd_drop2 {w : World} {A : Option Addr} {l : List Lb} {k : Nat} (h : Rd w A (lcells l)) (b off : Nat) (hA : A = some ⟨b, off, none⟩) : Rd w (some ⟨b, off + k * 2, none⟩) (lcells (l.drop k)) := by
  subst hA
  intro j v hv
  rw [lcells_drop, List.getElem?_drop] at hv
  obtain ⟨b', off', e, hc⟩ := h _ v hv
  injection e with e; injection e with e1 e2 _; subst e1; subst e2
  exact ⟨b, off + k * 2, rfl, by rw [Nat.add_assoc]; exact hc⟩
theorem rd_take2 {w : World} {A : Option Addr} {l : List Lb} (h : Rd w A (lcells l)) (k : Nat) : Rd w A (lcells (l.take k)) := by rw [lcells_take]; exact h.take _
theorem infoLb : (Tryd.prog.info? 68).map (fun i => (i.zero, i.size, i.bytes)) = some (some (.agg #[.string ⟨#[]⟩, .string ⟨#[]⟩]), 2, 32) := by kernel_rfl
end Go.Proofs.YtgogpngobdafaaaDoor
