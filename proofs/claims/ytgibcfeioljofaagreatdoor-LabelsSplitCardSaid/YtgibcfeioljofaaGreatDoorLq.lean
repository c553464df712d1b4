/-
  A label and a list of texts as they are handed in.
-/
import Derived.Test.YtgibcfeioljofaaGreatDoorLw
import Derived.Test.YtgibcfeioljofaaGreatDoorTx
import Derived.Lib.SmallJoins
import Derived.SliceStrings
namespace Go.Proofs.YtgibcfeioljofaaGreatDoor
set_option linter.unusedVariables false
set_option linter.unusedSimpArgs false
open Go.ChangeShapes Go.WideShapes Go.ChangeAt Go.RowKit
theorem undrew {w w' : World} (h : RowKit.Below w.drew.heap.size w.drew w') : RowKit.Below w.heap.size w w' := ⟨h.os, h.tape, h.output, h.size, h.block⟩
theorem make_len (l : List Lb) : (makeP l).2.length ≤ l.length := by
  unfold makeP
  split
  · simp
  · split
    · simp
    · split
      · simp
      · simp only
        rw [(sortP_perm _).length_eq]
        unfold fullP
        exact List.length_filter_le _ _
theorem with_len {l : List Lb} {n v : ByteArray} (h : l.length ≤ 1000) : (withP l n v).2.length ≤ 1000000 := by
  have hf := List.length_filter_le (fun x : Lb => !decide (x.1 = n)) l
  unfold withP
  split
  · simp
  · have := make_len (l.filter (fun x => !decide (x.1 = n)) ++ [(n, v)])
    rw [List.length_append, List.length_singleton] at this
    omega
set_option maxRecDepth 100000 in
theorem open_label {H : Type} {enc : TypeId × Value → H} {W : World} {r : Reach} {b0 : Nat} {v : Value} {d : DataW H} {ps : List MemPlace}
    (hval : Value.okWide Tryz.prog W r b0 26 v) (h : DataW.Trod enc Tryz.prog W 0 (fun _ => true) true 26 v d ps) :
    ∃ x : Lb, v = .agg #[.string x.1, .string x.2] ∧ x.1.size ≤ maxLen ∧ x.2.size ≤ maxLen := by
  obtain ⟨v0, v1, y0, y1, n, rfl, _, _, t0, t1⟩ := Go.Joins.open_agg2 Tryz.underlying26 (by kernel_rfl) (by kernel_rfl) hval h
  obtain ⟨s0, e0, _, w0⟩ := DataW.trod_string Tryz.underlying9 t0
  obtain ⟨s1, e1, _, w1⟩ := DataW.trod_string Tryz.underlying9 t1
  simp at e0 e1
  exact ⟨(s0, s1), by rw [e0, e1], w0, w1⟩
set_option maxRecDepth 100000 in
theorem open_texts {H : Type} {enc : TypeId × Value → H} {W : World} {r : Reach} {b0 : Nat} {v : Value} {d : DataW H} {ps : List MemPlace}
    (hval : Value.okWide Tryz.prog W r b0 24 v) (h : DataW.Trod enc Tryz.prog W 0 (fun _ => true) true 24 v d ps) :
    ∃ (A : Option Addr) (cap : Nat) (l : List ByteArray), v = .slice A l.length cap ∧ (l.length ≤ cap ∧ cap ≤ maxLen) ∧ Rd W A (tcells l) ∧ ∀ x ∈ l, x.size ≤ maxLen := by
  obtain ⟨a0, len, cap, rfl⟩ := okWide_slice Tryz.underlying24 hval
  obtain ⟨fuel, hf⟩ := h
  rcases open_strings Tryz.underlying24 Tryz.underlying9 (by kernel_rfl) hf with ⟨hcs, _⟩ | ⟨a, len', cap', ss, hcs, _, hl, hm, hmm, _, hx, hsz⟩
  · simp [Value.cells] at hcs
    obtain ⟨rfl, rfl, rfl⟩ := hcs
    exact ⟨none, 0, [], rfl, ⟨by decide, by decide⟩, Rd.nil _ _, fun o ho => by cases ho⟩
  · simp [Value.cells] at hcs
    obtain ⟨rfl, rfl, rfl⟩ := hcs
    simp only [if_true] at hmm
    have hll : (ss.take len).length = len := by rw [List.length_take]; omega
    by_cases hc0 : len = 0
    · subst hc0
      exact ⟨some a, cap, [], rfl, ⟨by simp, hm⟩, Rd.nil _ _, fun o ho => by cases ho⟩
    · have c00 := hx 0 (by omega)
      obtain ⟨b, off, _, h00, _, _⟩ := addr_flat c00
      have := h00 rfl
      subst this
      refine ⟨some ⟨b, off, none⟩, cap, ss.take len, by rw [hll], ⟨by omega, hm⟩, fun k u hu => ⟨b, off, rfl, ?_⟩, fun o ho => hsz o (List.mem_of_mem_take ho)⟩
      unfold tcells at hu
      rw [List.getElem?_map, Option.map_eq_some_iff] at hu
      obtain ⟨s, hs, rfl⟩ := hu
      have hk : k < len := by
        have := (List.getElem?_eq_some_iff.1 hs).1
        omega
      rw [List.getElem?_take, if_pos hk] at hs
      have := hx k (by omega)
      rw [add_plain] at this
      rw [this, List.getD_eq_getElem?_getD, hs]; rfl
end Go.Proofs.YtgibcfeioljofaaGreatDoor
