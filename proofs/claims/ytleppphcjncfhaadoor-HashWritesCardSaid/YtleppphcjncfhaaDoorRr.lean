/-
  A list of rows of bytes that came in.
-/
import Derived.Test.YtleppphcjncfhaaDoorJoin
import Derived.Test.YtleppphcjncfhaaDoorLaw
import Derived.Deep.Matrix
namespace Go.Proofs.YtleppphcjncfhaaDoor
set_option linter.unusedVariables false
set_option linter.unusedSimpArgs false
open Go.ChangeShapes Go.WideShapes Go.ChangeAt Go.RowKit

/-- The cells from an address on are a list of rows of bytes. -/
def RowsRd (w : World) (A : Option Addr) (P : List (Option Addr × Nat × List UInt8)) : Prop := Rd w A (P.map partV) ∧ ∀ p ∈ P, Rd w p.1 (p.2.2.map Bv) ∧ p.2.2.length ≤ p.2.1 ∧ p.2.1 ≤ maxLen
theorem RowsRd.below {w w' : World} {A : Option Addr} {P : List (Option Addr × Nat × List UInt8)} (h : RowsRd w A P) (hb : Below w.heap.size w w') : RowsRd w' A P :=
  ⟨h.1.below hb, fun p hp => ⟨(h.2 p hp).1.below hb, (h.2 p hp).2⟩⟩
theorem RowsRd.drewN {w : World} {A : Option Addr} {P : List (Option Addr × Nat × List UInt8)} (h : RowsRd w A P) (n : Nat) : RowsRd (w.drewN n) A P := h
theorem RowsRd.take {w : World} {A : Option Addr} {P : List (Option Addr × Nat × List UInt8)} (h : RowsRd w A P) (n : Nat) : RowsRd w A (P.take n) :=
  ⟨by rw [List.map_take]; exact h.1.take n, fun p hp => h.2 p (List.mem_of_mem_take hp)⟩

theorem open_rows {H : Type} {enc : TypeId × Value → H} {W : World} {r : Reach} {b0 : Nat} {v : Value} {d : DataW H} {ps : List MemPlace}
    (hval : Value.okWide Tryd.prog W r b0 22 v) (h : DataW.Trod enc Tryd.prog W 0 (fun _ => true) true 22 v d ps) :
    ∃ (A : Option Addr) (cap : Nat) (P : List (Option Addr × Nat × List UInt8)), v = .slice A P.length cap ∧ (P.length ≤ cap ∧ cap ≤ maxLen) ∧ RowsRd W A P := by
  obtain ⟨a0, len, cap, rfl⟩ := okWide_slice Tryd.underlying22 hval
  obtain ⟨fuel, hf⟩ := h
  rcases Go.Deep.open_int_rows Tryd.underlying22 Tryd.underlying28 Tryd.underlying5 (by kernel_rfl) (by kernel_rfl) hf with ⟨hcs, _⟩ | ⟨a, len', cap', A, L, C, Z, hcs, _, hl, hm, _, hx⟩
  · simp [Value.cells] at hcs
    obtain ⟨rfl, rfl, rfl⟩ := hcs
    exact ⟨none, 0, [], rfl, ⟨by decide, by decide⟩, Rd.nil _ _, fun p hp => by cases hp⟩
  · simp [Value.cells] at hcs
    obtain ⟨rfl, rfl, rfl⟩ := hcs
    let f : Nat → Option Addr × Nat × List UInt8 := fun i => (A i, C i, ((Z i).take (L i)).map fun z => UInt8.ofNat z.toNat)
    have hfl : ∀ i, i < cap → (f i).2.2.length = L i := by
      intro i hi
      obtain ⟨_, h1, _, h2, _⟩ := hx i hi
      simp [f, h2]; omega
    refine ⟨some a, cap, (List.range len).map f, by simp, ⟨by simpa using hl, hm⟩, fun k u hk => ?_, fun p hp => ?_⟩
    · have hk' : k < len := by
        have := (List.getElem?_eq_some_iff.1 hk).1
        simpa using this
      obtain ⟨c0, _⟩ := hx k (by omega)
      obtain ⟨c00, _⟩ := hx 0 (by omega)
      obtain ⟨b, off, _, h00, _, _⟩ := addr_flat c00
      have := h00 rfl
      subst this
      refine ⟨b, off, rfl, ?_⟩
      rw [add_plain] at c0
      rw [c0, ← hk]
      have e : (((List.range len).map f).map partV)[k]? = some (partV (f k)) := by simp [hk']
      rw [e]
      unfold partV
      rw [hfl k (by omega)]
    · obtain ⟨i, hi, rfl⟩ := List.mem_map.1 hp
      have hi' : i < cap := by have := List.mem_range.1 hi; omega
      obtain ⟨_, h1, h2, h3, h4, h5, h6⟩ := hx i hi'
      refine ⟨?_, by rw [hfl i hi']; exact h1, h2⟩
      intro k u hk
      have hk' : k < L i := by
        have := (List.getElem?_eq_some_iff.1 hk).1
        rw [List.length_map, hfl i hi'] at this
        exact this
      cases hA : A i with
      | none => have := h5 hA; omega
      | some a' =>
        obtain ⟨_, h7⟩ := h6 a' hA
        have c0 := h7 0 (by omega)
        have ck := h7 k (by omega)
        obtain ⟨b, off, _, h00, _, _⟩ := addr_flat c0
        have := h00 rfl
        subst this
        refine ⟨b, off, by show A i = _; rw [hA], ?_⟩
        rw [add_plain] at ck
        rw [ck, ← hk]
        have hkz : k < (Z i).length := by omega
        have hb := bounds_u8 (h4 (Z i)[k] (List.getElem_mem hkz))
        simp [f, hk', hkz, Bv, List.getD]
        congr 1
        omega
end Go.Proofs.YtleppphcjncfhaaDoor
