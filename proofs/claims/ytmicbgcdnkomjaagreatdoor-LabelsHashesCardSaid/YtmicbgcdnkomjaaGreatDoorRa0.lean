/-
  Bytes from an address on, as numbers.
-/
import Derived.Test.YtmicbgcdnkomjaaGreatDoorRot0
namespace Go.Proofs.YtmicbgcdnkomjaaGreatDoor
set_option linter.unusedVariables false
set_option linter.unusedSimpArgs false
open Go.RowKit
/-- Bytes from an address on, as numbers. -/
theorem Rd.at {w : World} {A : Option Addr} {xs : List UInt8} (h : Rd w A (xs.map Bv)) (h0 : 0 < xs.length) :
    ∃ b off, A = some ⟨b, off, none⟩ ∧ ∀ k, k < xs.length → w.cell? ⟨b, off + k, none⟩ = some (.int .u8 (bt xs k : Nat)) := by
  obtain ⟨b, off, rfl, _⟩ := h.byte h0
  refine ⟨b, off, rfl, fun k hk => ?_⟩
  obtain ⟨b1, o1, e, hc⟩ := h.byte hk
  injection e with e; injection e with e1 e2; subst e1 e2
  rw [hc]
  simp [bt, List.getD, hk]
theorem or4 (a b c d : Nat) (ha : a < 256) (hb : b < 256) (hc : c < 256) (hd : d < 256) :
    bits .or .u32 (bits .or .u32 (bits .or .u32 ((a : Int) * 16777216) ((b : Int) * 65536)) ((c : Int) * 256)) (d : Int) = ((a * 16777216 + b * 65536 + c * 256 + d : Nat) : Int) := by
  have e1 : (a : Int) * 16777216 = ((a * 16777216 : Nat) : Int) := rfl
  have e2 : (b : Int) * 65536 = ((b * 65536 : Nat) : Int) := rfl
  have e3 : (c : Int) * 256 = ((c * 256 : Nat) : Int) := rfl
  have o1 : (a * 16777216) ||| (b * 65536) = b * 65536 + a * 16777216 := by rw [Nat.or_comm]; exact or_beside (b * 65536) a 24 (by omega)
  have o2 : (b * 65536 + a * 16777216) ||| (c * 256) = c * 256 + (b * 65536 + a * 16777216) := by
    rw [Nat.or_comm, show b * 65536 + a * 16777216 = (b + a * 256) * 2 ^ 16 from by omega]; exact or_beside (c * 256) _ 16 (by omega)
  have o3 : (c * 256 + (b * 65536 + a * 16777216)) ||| d = d + (c * 256 + (b * 65536 + a * 16777216)) := by
    rw [Nat.or_comm, show c * 256 + (b * 65536 + a * 16777216) = (c + b * 256 + a * 65536) * 2 ^ 8 from by omega]; exact or_beside d _ 8 (by omega)
  rw [e1, e2, u32_or_nat _ _ (by omega) (by omega), o1, e3, u32_or_nat _ _ (by omega) (by omega), o2, u32_or_nat _ _ (by omega) (by omega), o3]
  congr 1; omega

end Go.Proofs.YtmicbgcdnkomjaaGreatDoor
