/-
  slices.DeleteFunc over labels of the call's own: those of which a function value says nothing stay, in order.
-/
import Derived.Test.YtmicbgcdnkomjaaDoorIf
import Derived.Laws.CopyRow
namespace Go.Proofs.YtmicbgcdnkomjaaDoor
set_option linter.unusedVariables false
set_option linter.unusedSimpArgs false
open Go.RowKit
def dropP (p : Lb → Bool) (l : List Lb) : List Lb := l.filter fun x => !p x
theorem lcells_set : ∀ (l : List Lb) (i : Nat) (x : Lb) (tl : List Value), i < l.length →
    (((lcells l ++ tl).set (i * 2) (.string x.1)).set (i * 2 + 1) (.string x.2)) = lcells (l.set i x) ++ tl
  | [], i, x, tl, h => absurd h (Nat.not_lt_zero _)
  | y :: r, 0, x, tl, h => rfl
  | y :: r, i + 1, x, tl, h => by
    rw [show (i + 1) * 2 = (i * 2 + 1) + 1 by omega, show i * 2 + 1 + 1 + 1 = (i * 2 + 1 + 1) + 1 by omega]
    simp only [lcells, List.cons_append, List.set_cons_succ]
    rw [lcells_set r i x tl (by simpa using h)]
/-- The state of the pass: j labels seen, i of them kept at the head, the rest as it was. -/
structure Kept (p : Lb → Bool) (l m : List Lb) (i j : Nat) : Prop where
  len : m.length = l.length
  lt : i < j
  le : j ≤ l.length
  head : m.take i = dropP p (l.take j)
  rest : ∀ k, j ≤ k → m[k]? = l[k]?
theorem Kept.ilen {p : Lb → Bool} {l m : List Lb} {i j : Nat} (h : Kept p l m i j) : (dropP p (l.take j)).length = i := by
  rw [← h.head, List.length_take]; have := h.len; have := h.lt; have := h.le; omega
theorem Kept.skip {p : Lb → Bool} {l m : List Lb} {i j : Nat} (h : Kept p l m i j) (hj : j < l.length) (hp : p l[j] = true) : Kept p l m i (j + 1) where
  len := h.len
  lt := by have := h.lt; omega
  le := hj
  head := by rw [h.head, List.take_succ_eq_append_getElem hj, dropP, dropP, List.filter_append]; simp [hp]
  rest := fun k hk => h.rest k (by omega)
theorem Kept.keep {p : Lb → Bool} {l m : List Lb} {i j : Nat} (h : Kept p l m i j) (hj : j < l.length) (hp : p l[j] = false) : Kept p l (m.set i l[j]) (i + 1) (j + 1) where
  len := by simp [h.len]
  lt := by have := h.lt; omega
  le := hj
  head := by
    have hi : i < m.length := by have := h.lt; have := h.len; omega
    rw [List.take_succ_eq_append_getElem (by simpa using hi), List.take_succ_eq_append_getElem hj]
    rw [dropP, List.filter_append, List.getElem_set_self, List.take_set_of_le (Nat.le_refl i), h.head]
    simp [dropP, hp]
  rest := fun k hk => by rw [List.getElem?_set_ne (by have := h.lt; omega)]; exact h.rest k (by omega)
theorem Kept.start {p : Lb → Bool} {l : List Lb} (h : l.findIdx p < l.length) : Kept p l l (l.findIdx p) (l.findIdx p + 1) where
  len := rfl
  lt := Nat.lt_succ_self _
  le := h
  head := by
    rw [List.take_succ_eq_append_getElem h]
    simp only [dropP, List.filter_append]
    have h1 : (l.take (l.findIdx p)).filter (fun x => !p x) = l.take (l.findIdx p) := by
      rw [List.filter_eq_self]
      intro x hx
      obtain ⟨k, hk, rfl⟩ := List.mem_iff_getElem.1 hx
      rw [List.length_take] at hk
      rw [List.getElem_take]
      have := List.not_of_lt_findIdx (p := p) (xs := l) (i := k) (by omega)
      simpa using this
    rw [h1]
    have := List.findIdx_getElem (w := h)
    simp [this]
  rest := fun _ _ => rfl
theorem own_parts {w : World} {B g cap : Nat} {l : List Lb} (h : w.ownsRow B 69 2 (.slice (some ⟨g, 0, none⟩) l.length cap) l.length (lcells l)) :
    B ≤ g ∧ l.length ≤ cap ∧ cap ≤ maxLen ∧ ∃ tl : List Value, (lcells l ++ tl).length = cap * 2 ∧ w.heap[g]? = some (.cells (lcells l ++ tl).toArray 69 (0, 0)) := by
  rcases h.2 with ⟨h1, _⟩ | ⟨g', cap', cur, e, hB, hg, hnc, hcm, hcs, htk⟩
  · cases h1
  · injection e with e1 e2 e3
    injection e1 with e1
    injection e1 with e1
    subst e1; subst e3
    refine ⟨hB, hnc, hcm, cur.toList.drop (l.length * 2), ?_, ?_⟩
    · rw [← htk, List.take_append_drop, Array.length_toList, hcs]
    · rw [← htk, List.take_append_drop]; exact hg
theorem own_made {w : World} {B g cap n : Nat} {l : List Lb} {tl : List Value} (hB : B ≤ g) (hn : n = l.length) (h1 : l.length ≤ cap) (h2 : cap ≤ maxLen) (h3 : (lcells l ++ tl).length = cap * 2) (hg : w.heap[g]? = some (.cells (lcells l ++ tl).toArray 69 (0, 0))) :
    w.ownsRow B 69 2 (.slice (some ⟨g, 0, none⟩) n cap) n (lcells l) := by
  subst hn
  refine ⟨lcells_len l, .inr ⟨g, cap, _, rfl, hB, hg, h1, h2, by simpa using h3, ?_⟩⟩
  rw [List.toList_toArray, List.take_append_of_le_length (by rw [lcells_len]; exact Nat.le_refl _), List.take_of_length_le (by rw [lcells_len]; exact Nat.le_refl _)]
section
set_option maxHeartbeats 1600000
set_option maxRecDepth 100000
theorem own_rd2 {w : World} {g : Nat} {l : List Lb} {tl : List Value} (hg : w.heap[g]? = some (.cells (lcells l ++ tl).toArray 69 (0, 0))) : Rd w (some ⟨g, 0, none⟩) (lcells l) := by
  intro k v hv
  refine ⟨g, 0, rfl, ?_⟩
  rw [Nat.zero_add, cell_blk hg k, List.getElem?_toArray, List.getElem?_append_left (List.getElem?_eq_some_iff.1 hv).1, hv]
theorem run_clear_lb (w : World) (g o n c : Nat) (cur : Array Value) (hg : w.heap[g]? = some (.cells cur 69 (0, 0))) (hfit : o + n * 2 ≤ cur.size) :
    ∃ w', (∀ ty, (Builtin.clear_ #[38] ty #[.slice (some ⟨g, o, none⟩) n c]).run Tryd.prog w = .ok (.tuple #[]) w') ∧ Mv (· = g) w w' ∧ ∃ cur', w'.heap[g]? = some (.cells cur' 69 (0, 0)) ∧ cur'.size = cur.size ∧ cur'.toList.take o = cur.toList.take o := by
  have hsz : (Builtin.zeroCells #[.string ⟨#[]⟩, .string ⟨#[]⟩] n).toList.length = n * 2 := by simp [Builtin.zeroCells]
  have h1 : ∀ v ∈ (Builtin.zeroCells #[.string ⟨#[]⟩, .string ⟨#[]⟩] n).toList, v.oneCell' = true := by
    intro v hv
    have : v = .string ⟨#[]⟩ := by
      simp [Builtin.zeroCells] at hv
      obtain ⟨a, ha, rfl⟩ := hv
      have : a % 2 = 0 ∨ a % 2 = 1 := by omega
      rcases this with h | h <;> simp [h]
    rw [this]; rfl
  have hst := run_storeCells_at Tryd.prog g o 69 (Builtin.zeroCells #[.string ⟨#[]⟩, .string ⟨#[]⟩] n).toList 0 cur w hg (by rw [hsz]; omega) h1
  simp only [Nat.add_zero] at hst
  have hv : ∀ w, (zeroValue 69).run Tryd.prog w = .ok (.agg #[.string ⟨#[]⟩, .string ⟨#[]⟩]) w := Tryd.zeroValue69
  cases n with
  | zero => exact ⟨w, fun _ => rfl, Mv.refl _ w, cur, hg, rfl, rfl⟩
  | succ n =>
    obtain ⟨cur2, hc2, hst⟩ : ∃ cur2, cur2 = _ ∧ (storeCells ⟨g, o, none⟩ (Builtin.zeroCells #[.string ⟨#[]⟩, .string ⟨#[]⟩] (n + 1)).toList 0).run Tryd.prog w = .ok () (w.setRow g cur2) := ⟨_, rfl, hst⟩
    refine ⟨w.setRow g cur2, ?_, ⟨rfl, rfl, rfl, by simp, fun k _ hk => setRow_other _ _ _ _ hk⟩, cur2, setRow_heap w g cur _ _ _ hg, ?_, ?_⟩
    rotate_left 1
    · subst hc2; have := hsz; simp only [List.size_toArray, List.length_append, List.length_take, List.length_drop, Array.length_toList] at this ⊢; omega
    · subst hc2; rw [List.toList_toArray, List.append_assoc, List.take_append_of_le_length (by simp; omega), List.take_take, Nat.min_self]
    · intro ty
      have ht := run_underlying (P := Tryd.prog) Tryd.underlying38
      simp only [Builtin.clear_, List.getElem?_toArray, List.getElem?_cons_zero, Sem.run_bind, ht, hv, Result.andThen_ok, Value.cells, hst, Sem.run_pure]
end
end Go.Proofs.YtmicbgcdnkomjaaDoor
