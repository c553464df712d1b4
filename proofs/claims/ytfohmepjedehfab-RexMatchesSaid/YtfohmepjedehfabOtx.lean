/-
  A row of texts that came in.
-/
import Derived.Test.YtfohmepjedehfabLaw
import Derived.SliceStrings
namespace Go.Proofs.Ytfohmepjedehfab
set_option linter.unusedVariables false
set_option linter.unusedSimpArgs false
open Go.ChangeShapes Go.WideShapes Go.ChangeAt Go.RowKit
theorem str_at {w : World} {A : Option Addr} {ns : List ByteArray} (h : Rd w A (ns.map Value.string)) {k : Nat} (hk : k < ns.length) :
    ∃ b off, A = some ⟨b, off, none⟩ ∧ w.cell? ⟨b, off + k, none⟩ = some (.string ns[k]) := h k _ (by simp [hk])
set_option maxRecDepth 100000 in
theorem open_strs {H : Type} {enc : TypeId × Value → H} {W : World} {r : Reach} {b0 : Nat} {v : Value} {d : DataW H} {ps : List MemPlace}
    (hval : Value.okWide Try.prog W r b0 47 v) (h : DataW.Trod enc Try.prog W 0 (fun _ => true) true 47 v d ps) :
    ∃ (A : Option Addr) (cap : Nat) (l : List ByteArray), v = .slice A l.length cap ∧ (l.length ≤ cap ∧ cap ≤ maxLen) ∧ Rd W A (l.map Value.string) ∧ ∀ x ∈ l, x.size ≤ maxLen := by
  obtain ⟨a0, len, cap, rfl⟩ := okWide_slice Try.underlying47 hval
  obtain ⟨fuel, hf⟩ := h
  rcases open_strings Try.underlying47 Try.underlying9 (by kernel_rfl) hf with ⟨hcs, _⟩ | ⟨a, len', cap', ss, hcs, _, hl, hm, hmm, _, hx, hsz⟩
  · simp [Value.cells] at hcs
    obtain ⟨rfl, rfl, rfl⟩ := hcs
    exact ⟨none, 0, [], rfl, ⟨by decide, by decide⟩, Rd.nil _ _, fun o ho => by cases ho⟩
  · simp [Value.cells] at hcs
    obtain ⟨rfl, rfl, rfl⟩ := hcs
    simp only [if_true] at hmm
    have hll : (ss.take len).length = len := by rw [List.length_take]; omega
    by_cases hc0 : len = 0
    · subst hc0
      exact ⟨some a, cap, [], rfl, ⟨by simp, hm⟩, Rd.nil _ _, fun o ho => by cases ho⟩
    · have c00 := hx 0 (by omega)
      obtain ⟨b, off, _, h00, _, _⟩ := addr_flat c00
      have := h00 rfl
      subst this
      refine ⟨some ⟨b, off, none⟩, cap, ss.take len, by rw [hll], ⟨by omega, hm⟩, fun k u hu => ⟨b, off, rfl, ?_⟩, fun o ho => hsz o (List.mem_of_mem_take ho)⟩
      rw [List.getElem?_map, Option.map_eq_some_iff] at hu
      obtain ⟨s, hs, rfl⟩ := hu
      have hk : k < len := by
        have := (List.getElem?_eq_some_iff.1 hs).1
        omega
      rw [List.getElem?_take, if_pos hk] at hs
      have := hx k (by omega)
      rw [add_plain] at this
      rw [this, List.getD_eq_getElem?_getD, hs]; rfl
end Go.Proofs.Ytfohmepjedehfab
