/-
  Whether a text has just runes, and texts as they are in a pattern: the plain answers' own.
-/
import Derived.Test.YtinjdlplbficiaaGreatDoorRza
namespace Go.Proofs.YtinjdlplbficiaaGreatDoor
set_option linter.unusedVariables false
set_option linter.unusedSimpArgs false
open Go.RowKit
/-- Whether a text has just runes. -/
def validB (s : ByteArray) : Bool := Lib.validD (bl s)
theorem chAt_valid (l : Bs) (a : Nat) : (∀ p ∈ chAt a l, 0 ≤ p.2) ↔ Lib.validD l = true := by
  rw [← places_valid l a]
  induction l using len_ind generalizing a with
  | h0 => simp [chAt_nil, placesAt_nil]
  | h1 l h ih =>
    rw [chAt_step a h, placesAt_step a h]
    simp only [List.forall_mem_cons]
    rw [ih]
    cases hb : badL l with
    | true => simp
    | false =>
      simp
theorem encode_enc {c : Nat} (h : okRune (c : Int)) : Utf8.encode (c : Int) = mkB (enc (c : Int)) := by
  have hv : Utf8.valid (c : Int) = true := by
    unfold okRune at h
    unfold Utf8.valid
    simp
    omega
  unfold Utf8.encode
  simp only
  rw [if_pos hv, Int.toNat_natCast]
  unfold enc Lib.encodeRune mkB
  unfold okRune at h
  by_cases h1 : c < 128
  · rw [if_pos h1, Lib.encodeRuneZ_one (by omega) (by omega)]
    rfl
  · rw [if_neg h1]
    by_cases h2 : c < 2048
    · rw [if_pos h2, Lib.encodeRuneZ_two (by omega) (by omega)]
      simp only [List.map_cons, List.map_nil]
      rw [show (192 + (c : Int) / 64).toNat = 192 + c / 64 by omega, show (128 + (c : Int) % 64).toNat = 128 + c % 64 by omega]
    · rw [if_neg h2]
      by_cases h3 : c < 65536
      · rw [if_pos h3, Lib.encodeRuneZ_three (by omega)]
        simp only [List.map_cons, List.map_nil]
        rw [show (224 + (c : Int) / 4096).toNat = 224 + c / 4096 by omega, show (128 + (c : Int) / 64 % 64).toNat = 128 + c / 64 % 64 by omega, show (128 + (c : Int) % 64).toNat = 128 + c % 64 by omega]
      · rw [if_neg h3, Lib.encodeRuneZ_four (by omega) (by omega)]
        simp only [List.map_cons, List.map_nil]
        rw [show (240 + (c : Int) / 262144).toNat = 240 + c / 262144 by omega, show (128 + (c : Int) / 4096 % 64).toNat = 128 + c / 4096 % 64 by omega, show (128 + (c : Int) / 64 % 64).toNat = 128 + c / 64 % 64 by omega, show (128 + (c : Int) % 64).toNat = 128 + c % 64 by omega]
theorem add_text (u : World) (a b : List UInt8) (h : a.length + b.length ≤ 1000000) : (Op.stringOp .add (mkB a) (mkB b)).run Tryz.prog u = .ok (.string (mkB (a ++ b))) u := by
  have h := run_string_add_sum (P := Tryz.prog) u (mkB a) (mkB b) (show (mkB a).size + (mkB b).size ≤ 9223372036854775807 by rw [← bl_len, ← bl_len, bl_mk, bl_mk]; omega)
  have e : mkB a ++ mkB b = mkB (a ++ b) := by
    rw [← mk_bl (mkB a ++ mkB b)]
    congr 1
  rw [e] at h
  exact h
end Go.Proofs.YtinjdlplbficiaaGreatDoor
