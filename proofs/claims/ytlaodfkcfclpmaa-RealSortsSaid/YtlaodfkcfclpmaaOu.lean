/-
  A row of numbers of 64 bits that came in.
-/
import Derived.Test.YtlaodfkcfclpmaaLaw
import Derived.Test.YtlaodfkcfclpmaaFlv
namespace Go.Proofs.Ytlaodfkcfclpmaa
set_option linter.unusedVariables false
open Go.ChangeShapes Go.WideShapes Go.ChangeAt Go.RowKit
theorem open_u64s {H : Type} {enc : TypeId × Value → H} {W : World} {r : Reach} {b0 : Nat} {v : Value} {d : DataW H} {ps : List MemPlace}
    (hval : Value.okWide Try.prog W r b0 35 v) (h : DataW.Trod enc Try.prog W 0 (fun _ => true) true 35 v d ps) :
    ∃ (A : Option Addr) (cap : Nat) (xs : List Nat), v = .slice A xs.length cap ∧ (xs.length ≤ cap ∧ cap ≤ maxLen) ∧ Rd W A (xs.map Uv) ∧ (∀ x ∈ xs, x < 18446744073709551616) := by
  obtain ⟨A, cap, zs, rfl, hm, hr, hw⟩ := open_rd Try.underlying35 Try.underlying22 (by kernel_rfl) hval h
  refine ⟨A, cap, zs.map Int.toNat, by simp, by simpa using hm, ?_, ?_⟩
  · have e : (zs.map Int.toNat).map Uv = zs.map (Value.int .u64) := by
      rw [List.map_map]
      refine List.map_congr_left fun z hz => ?_
      have hb := bounds_u64 (hw z hz)
      simp only [Function.comp, Uv]
      congr 1
      omega
    rw [e]
    exact hr
  · intro x hx
    obtain ⟨z, hz, rfl⟩ := List.mem_map.1 hx
    have hb := bounds_u64 (hw z hz)
    omega
end Go.Proofs.Ytlaodfkcfclpmaa
