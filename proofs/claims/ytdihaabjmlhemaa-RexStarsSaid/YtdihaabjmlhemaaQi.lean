/-
  Atoms in memory with other followers.
-/
import Derived.Test.YtdihaabjmlhemaaQh
namespace Go.Proofs.Ytdihaabjmlhemaa
set_option linter.unusedVariables false
set_option linter.unusedSimpArgs false
open Go.RowKit
/-- A cell of a row of one's own with another value. -/
theorem own_set {w : World} {B : Nat} {e : TypeId} {size n cap g : Nat} {xs : List Value} (h : w.ownsRow B e size (.slice (some ⟨g, 0, none⟩) n cap) n xs) {j : Nat} (hj : j < n * size) (x : Value) :
    (w.setCell ⟨g, j, none⟩ x).ownsRow B e size (.slice (some ⟨g, 0, none⟩) n cap) n (xs.set j x) := by
  obtain ⟨hl, h2⟩ := h
  refine ⟨by rw [List.length_set]; exact hl, ?_⟩
  rcases h2 with ⟨e1, _⟩ | ⟨g', cap', cur, e1, hB, hh, hn, hc, hs, ht⟩
  · cases e1
  · injection e1 with e1 e2 e3
    injection e1 with e1; injection e1 with e1
    subst e1
    refine .inr ⟨g, cap', _, by rw [e3], hB, set_blk hh j x, hn, hc, by simpa using hs, ?_⟩
    rw [Array.toList_setIfInBounds, List.take_set, ht]
theorem atC_len (u : Value) (a : Atm) : (atC u a).length = 6 := rfl
theorem atsC_get : ∀ (us : List Value) (L : List Atm) (i : Nat) (u : Value) (a : Atm), us[i]? = some u → L[i]? = some a → ∀ j, j < 6 → (atsC us L)[i * 6 + j]? = (atC u a)[j]?
  | u :: us, a :: L, 0, u', a', hu, ha, j, hj => by
    simp at hu ha; subst hu; subst ha
    rw [atsC, Nat.zero_mul, Nat.zero_add, List.getElem?_append_left (by rw [atC_len]; exact hj)]
  | u :: us, a :: L, i + 1, u', a', hu, ha, j, hj => by
    simp only [List.getElem?_cons_succ] at hu ha
    rw [atsC, List.getElem?_append_right (by rw [atC_len]; omega), atC_len, ← atsC_get us L i u' a' hu ha j hj]
    congr 1; omega
  | [], _, i, _, _, hu, _, _, _ => by simp at hu
  | _ :: _, [], i, _, _, _, ha, _, _ => by simp at ha
def nextC (n : Nat) (i : Nat) (xs : List Value) : List Value := (((xs.set (i * 6 + 2) (.int .u64 (wd n 0 : Nat))).set (i * 6 + 3) (.int .u64 (wd n 1 : Nat))).set (i * 6 + 4) (.int .u64 (wd n 2 : Nat))).set (i * 6 + 5) (.int .u64 (wd n 3 : Nat))
theorem nextC_cons (n i : Nat) (x0 x1 x2 x3 x4 x5 : Value) (xs : List Value) : nextC n (i + 1) ([x0, x1, x2, x3, x4, x5] ++ xs) = [x0, x1, x2, x3, x4, x5] ++ nextC n i xs := by
  unfold nextC
  have e : ∀ k, (i + 1) * 6 + k = i * 6 + k + 6 := fun k => by omega
  simp only [e, List.cons_append, List.nil_append, List.set_cons_succ]
theorem atsC_next : ∀ (us : List Value) (L : List Atm) (i : Nat) (a : Atm) (n : Nat), us.length = L.length → L[i]? = some a → nextC n i (atsC us L) = atsC us (L.set i { a with next := n })
  | u :: us, a :: L, 0, a', n, hl, ha => by
    simp at ha; subst ha
    rfl
  | u :: us, a :: L, i + 1, a', n, hl, ha => by
    simp only [List.getElem?_cons_succ] at ha
    rw [List.set_cons_succ, atsC, atsC, ← atsC_next us L i a' n (by simpa using hl) ha]
    exact nextC_cons n i _ _ _ _ _ _ _
  | _, [], i, _, _, _, ha => by simp at ha
  | [], _ :: _, _, _, _, hl, _ => by simp at hl
/-- Followed as far as atom k. -/
def folK (these nx k : Nat) (L : List Atm) : List Atm := (followP these nx L).take k ++ L.drop k
theorem folK_zero (these nx : Nat) (L : List Atm) : folK these nx 0 L = L := by simp [folK]
theorem folP_len (these nx : Nat) : ∀ (A : List Atm) (k : Nat), (followF these nx k A).length = A.length
  | [], k => rfl
  | a :: t, k => by simp [followF, folP_len these nx t (k + 1)]
theorem folK_all (these nx : Nat) (L : List Atm) : folK these nx L.length L = followP these nx L := by
  unfold folK
  rw [List.drop_length, List.append_nil, List.take_of_length_le]
  unfold followP; rw [folP_len]; exact Nat.le_refl _
theorem folK_len (these nx k : Nat) (L : List Atm) (hk : k ≤ L.length) : (folK these nx k L).length = L.length := by
  have : (followP these nx L).length = L.length := folP_len _ _ _ _
  unfold folK
  rw [List.length_append, List.length_take, List.length_drop, this]; omega
theorem folF_get (these nx : Nat) : ∀ (A : List Atm) (k i : Nat), (followF these nx k A)[i]? = (A[i]?).map fun a => if these.testBit (k + i) then { a with next := a.next ||| nx } else a
  | [], k, i => by simp [followF]
  | a :: t, k, 0 => by simp [followF]
  | a :: t, k, i + 1 => by
    simp only [followF, List.getElem?_cons_succ]
    rw [folF_get these nx t (k + 1) i, show k + 1 + i = k + (i + 1) by omega]
theorem folK_at (these nx : Nat) {k : Nat} {L : List Atm} {a : Atm} (h : L[k]? = some a) : (folK these nx k L)[k]? = some a := by
  have hk := (List.getElem?_eq_some_iff.mp h).1
  have : (followP these nx L).length = L.length := folP_len _ _ _ _
  unfold folK
  rw [List.getElem?_append_right (by rw [List.length_take]; omega), List.length_take, List.getElem?_drop, this, show k + (k - min k L.length) = k by omega, h]
theorem folK_step (these nx : Nat) {k : Nat} {L : List Atm} {a : Atm} (h : L[k]? = some a) : folK these nx (k + 1) L = (folK these nx k L).set k (if these.testBit k then { a with next := a.next ||| nx } else a) := by
  have hk := (List.getElem?_eq_some_iff.mp h).1
  have hl : (followP these nx L).length = L.length := folP_len _ _ _ _
  have hg : (followP these nx L)[k]? = some (if these.testBit k then { a with next := a.next ||| nx } else a) := by
    unfold followP; rw [folF_get, h, Nat.zero_add]; rfl
  unfold folK
  rw [List.take_add_one, hg, List.set_append_right _ _ (by rw [List.length_take]; omega), List.length_take, hl, show k - min k L.length = 0 by omega, List.drop_eq_getElem_cons hk, List.set_cons_zero, List.append_assoc]
  rfl
theorem folK_same (these nx : Nat) {k : Nat} {L : List Atm} {a : Atm} (h : L[k]? = some a) (hf : these.testBit k = false) : folK these nx (k + 1) L = folK these nx k L := by
  rw [folK_step these nx h, hf]
  simp only [Bool.false_eq_true, if_false]
  apply List.ext_getElem?
  intro i
  rw [List.getElem?_set]
  split
  · rename_i e; subst e
    rw [folK_at these nx h]
    split
    · rfl
    · rename_i hx
      rw [folK_len these nx k L (by have := (List.getElem?_eq_some_iff.mp h).1; omega)] at hx
      exact absurd (List.getElem?_eq_some_iff.mp h).1 hx
  · rfl
theorem folK_sp (these nx k : Nat) {L : List Atm} {i : Nat} {a : Atm} (h : (folK these nx k L)[i]? = some a) : ∃ b, L[i]? = some b ∧ b.sp = a.sp := by
  have hl : (followP these nx L).length = L.length := folP_len _ _ _ _
  unfold folK at h
  by_cases hi : i < min k L.length
  · rw [List.getElem?_append_left (by rw [List.length_take, hl]; exact hi), List.getElem?_take, if_pos (by omega)] at h
    unfold followP at h
    rw [folF_get] at h
    cases hb : L[i]? with
    | none => rw [hb] at h; cases h
    | some b =>
      rw [hb] at h
      simp only [Option.map_some, Option.some.injEq] at h
      refine ⟨b, rfl, ?_⟩
      rw [← h]; split <;> rfl
  · rw [List.getElem?_append_right (by rw [List.length_take, hl]; omega), List.length_take, List.getElem?_drop, hl] at h
    refine ⟨a, ?_, rfl⟩
    rw [← h]
    have : i < L.length ∨ ¬ i < L.length := by omega
    rcases this with hlt | hlt
    · congr 1; omega
    · rw [List.getElem?_eq_none (by omega), List.getElem?_eq_none (by omega)]
end Go.Proofs.Ytdihaabjmlhemaa
