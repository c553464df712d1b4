/-
  Lists of points in memory: a point takes three cells.
-/
import Derived.Test.YtinjdlplbficiaaPp
namespace Go.Proofs.Ytinjdlplbficiaa
set_option linter.unusedVariables false
set_option linter.unusedSimpArgs false
open Go.RowKit

/-- The cells of points. -/
def pcells : List Pt → List Value
  | [] => []
  | x :: r => .int .i64 x.1 :: .int .u64 x.2.1 :: .int .u64 x.2.2 :: pcells r
def aggPt (x : Pt) : Value := .agg #[.int .i64 x.1, .int .u64 x.2.1, .int .u64 x.2.2]
theorem pcells_len : ∀ l, (pcells l).length = l.length * 3
  | [] => rfl
  | x :: r => by simp only [pcells, List.length_cons, pcells_len r]; omega
theorem pcells_append : ∀ l m, pcells (l ++ m) = pcells l ++ pcells m
  | [], m => rfl
  | x :: r, m => by simp only [List.cons_append, pcells, pcells_append r m]
theorem pcells_one (x : Pt) : pcells [x] = [.int .i64 x.1, .int .u64 x.2.1, .int .u64 x.2.2] := rfl
theorem pcells_take : ∀ (l : List Pt) (k : Nat), pcells (l.take k) = (pcells l).take (k * 3)
  | [], k => by simp [pcells]
  | x :: r, 0 => by simp [pcells]
  | x :: r, k + 1 => by rw [show (k + 1) * 3 = k * 3 + 1 + 1 + 1 by omega]; simp only [List.take_succ_cons, pcells, pcells_take r k]
theorem pcells_drop : ∀ (l : List Pt) (k : Nat), pcells (l.drop k) = (pcells l).drop (k * 3)
  | [], k => by simp [pcells]
  | x :: r, 0 => by simp [pcells]
  | x :: r, k + 1 => by rw [show (k + 1) * 3 = k * 3 + 1 + 1 + 1 by omega]; simp only [List.drop_succ_cons, pcells, pcells_drop r k]
theorem pcells_at : ∀ (l : List Pt) (k : Nat) (h : k < l.length), (pcells l)[k * 3]? = some (.int .i64 l[k].1) ∧ (pcells l)[k * 3 + 1]? = some (.int .u64 l[k].2.1) ∧ (pcells l)[k * 3 + 2]? = some (.int .u64 l[k].2.2)
  | [], k, h => absurd h (Nat.not_lt_zero _)
  | x :: r, 0, h => by simp [pcells]
  | x :: r, k + 1, h => by
    have ih := pcells_at r k (by simpa using h)
    rw [show (k + 1) * 3 = k * 3 + 1 + 1 + 1 by omega]
    refine ⟨?_, ?_, ?_⟩
    · simp only [pcells, List.getElem?_cons_succ, List.getElem_cons_succ]; exact ih.1
    · rw [show k * 3 + 1 + 1 + 1 + 1 = (k * 3 + 1) + 1 + 1 + 1 by omega]; simp only [pcells, List.getElem?_cons_succ, List.getElem_cons_succ]; exact ih.2.1
    · rw [show k * 3 + 1 + 1 + 1 + 2 = (k * 3 + 2) + 1 + 1 + 1 by omega]; simp only [pcells, List.getElem?_cons_succ, List.getElem_cons_succ]; exact ih.2.2
theorem pcells_one' : ∀ (l : List Pt), ∀ u ∈ pcells l, u.oneCell' = true
  | [], u, h => by cases h
  | x :: r, u, h => by
    rcases List.mem_cons.1 h with rfl | h
    · rfl
    rcases List.mem_cons.1 h with rfl | h
    · rfl
    rcases List.mem_cons.1 h with rfl | h
    · rfl
    · exact pcells_one' r u h
/-- A point at its place. -/
theorem pt_at {w : World} {A : Option Addr} {l : List Pt} (h : Rd w A (pcells l)) {k : Nat} (hk : k < l.length) :
    ∃ b off, A = some ⟨b, off, none⟩ ∧ w.cell? ⟨b, off + k * 3, none⟩ = some (.int .i64 l[k].1) ∧ w.cell? ⟨b, off + k * 3 + 1, none⟩ = some (.int .u64 l[k].2.1) ∧ w.cell? ⟨b, off + k * 3 + 2, none⟩ = some (.int .u64 l[k].2.2) := by
  obtain ⟨h0, h1, h2⟩ := pcells_at l k hk
  obtain ⟨b, off, e, c0⟩ := h (k * 3) _ h0
  obtain ⟨b', off', e', c1⟩ := h (k * 3 + 1) _ h1
  obtain ⟨b'', off'', e'', c2⟩ := h (k * 3 + 2) _ h2
  rw [e] at e' e''
  injection e' with e'
  injection e' with e1 e2 _
  injection e'' with e''
  injection e'' with e3 e4 _
  subst e1; subst e2; subst e3; subst e4
  exact ⟨b, off, e, c0, c1, c2⟩
theorem pt_nil {w : World} {l : List Pt} (h : Rd w none (pcells l)) : l = [] := by
  cases l with
  | nil => rfl
  | cons x r => obtain ⟨b, off, e, _⟩ := pt_at h (k := 0) (by simp); cases e
theorem rd_drop3 {w : World} {b off : Nat} {l : List Pt} {k : Nat} (h : Rd w (some ⟨b, off, none⟩) (pcells l)) : Rd w (some ⟨b, off + k * 3, none⟩) (pcells (l.drop k)) := by
  intro j v hv
  rw [pcells_drop, List.getElem?_drop] at hv
  obtain ⟨b', off', e, hc⟩ := h _ v hv
  injection e with e; injection e with e1 e2 _; subst e1; subst e2
  exact ⟨b, off + k * 3, rfl, by rw [Nat.add_assoc]; exact hc⟩
theorem rd_take3 {w : World} {A : Option Addr} {l : List Pt} (h : Rd w A (pcells l)) (k : Nat) : Rd w A (pcells (l.take k)) := by rw [pcells_take]; exact h.take _
theorem rd_pt {w : World} {b off : Nat} {l : List Pt} (h : ∀ k (hk : k < l.length), w.cell? ⟨b, off + k * 3, none⟩ = some (.int .i64 l[k].1) ∧ w.cell? ⟨b, off + k * 3 + 1, none⟩ = some (.int .u64 l[k].2.1) ∧ w.cell? ⟨b, off + k * 3 + 2, none⟩ = some (.int .u64 l[k].2.2)) : Rd w (some ⟨b, off, none⟩) (pcells l) := by
  intro j v hv
  refine ⟨b, off, rfl, ?_⟩
  have hj : j < l.length * 3 := by rw [← pcells_len]; exact (List.getElem?_eq_some_iff.1 hv).1
  obtain ⟨h0, h1, h2⟩ := h (j / 3) (by omega)
  obtain ⟨p0, p1, p2⟩ := pcells_at l (j / 3) (by omega)
  have h3 : j % 3 = 0 ∨ j % 3 = 1 ∨ j % 3 = 2 := by omega
  rcases h3 with e | e | e
  · rw [show j / 3 * 3 = j by omega] at p0 h0
    rw [p0] at hv; rw [h0, ← hv]
  · rw [show j / 3 * 3 + 1 = j by omega] at p1
    rw [show off + j / 3 * 3 + 1 = off + j by omega] at h1
    rw [p1] at hv; rw [h1, ← hv]
  · rw [show j / 3 * 3 + 2 = j by omega] at p2
    rw [show off + j / 3 * 3 + 2 = off + j by omega] at h2
    rw [p2] at hv; rw [h2, ← hv]
theorem infoPt : (Try.prog.info? 25).map (fun i => (i.zero, i.size, i.bytes)) = some (some (.agg #[.int .i64 0, .int .u64 0, .int .u64 0]), 3, 24) := by kernel_rfl
end Go.Proofs.Ytinjdlplbficiaa
