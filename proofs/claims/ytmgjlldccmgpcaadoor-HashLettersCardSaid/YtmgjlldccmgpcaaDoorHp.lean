/-
  Sums of parts that are handed on as they lie.
-/
import Derived.Test.YtmgjlldccmgpcaaDoorHw
namespace Go.Proofs.YtmgjlldccmgpcaaDoor
set_option linter.unusedVariables false
set_option linter.unusedSimpArgs false
open Go.RowKit

/-- One part. -/
theorem parts_one (w : World) (A : Option Addr) (ca n : Nat) (xs : List UInt8) (hn : xs.length = n) (hx : Rd w A (xs.map Bv)) (hc : n ≤ ca) (hm : ca ≤ 9223372036854775807) :
    PartsRd (w.alloc (.cells #[.slice A n ca] 28)) (some ⟨w.heap.size, 0, none⟩) [(A, ca, xs)] := by
  subst hn
  refine ⟨rd_row' w [partV (A, ca, xs)] _, fun p hp => ?_⟩
  simp only [List.mem_cons, List.not_mem_nil, or_false] at hp
  subst hp
  exact ⟨hx.alloc _, hc, hm⟩
theorem joined_one (A : Option Addr) (ca : Nat) (xs : List UInt8) : joined [(A, ca, xs)] = xs := by simp [joined]

/-- Parts that stand in a row of the call's own. -/
theorem parts_new (w : World) (P : List (Option Addr × Nat × List UInt8)) (h : ∀ p ∈ P, Rd w p.1 (p.2.2.map Bv) ∧ p.2.2.length ≤ p.2.1 ∧ p.2.1 ≤ 9223372036854775807) :
    PartsRd (w.alloc (.cells (P.map partV).toArray 28)) (some ⟨w.heap.size, 0, none⟩) P := ⟨rd_row' w _ _, fun p hp => ⟨(h p hp).1.alloc _, (h p hp).2⟩⟩
theorem hashSum_one (w : World) (A : Option Addr) (ca n : Nat) (xs : List UInt8) (hn : xs.length = n) (hx : Rd w A (xs.map Bv)) (hc : n ≤ ca) (hm : ca ≤ 9223372036854775807) (hl : n ≤ 100000000) (ht : AddsMet w) (l : List UInt8) (hs : sha xs = l) :
    Calls Tryd.prog 14 #[.slice (some ⟨w.heap.size, 0, none⟩) 1 1] (w.alloc (.cells #[.slice A n ca] 28)) fun e w' => e = .returned (sumV l) ∧ Below w.heap.size w w' := by
  have hb := (Below.refl _ w).alloc (Nat.le_refl _) (.cells #[.slice A n ca] 28)
  refine (hashSum_any _ (some ⟨w.heap.size, 0, none⟩) 1 1 [(A, ca, xs)] (ht.below hb) rfl (parts_one w A ca n xs hn hx hc hm) (by rw [joined_one, hn]; omega) (by decide)).mono ?_
  rintro e w' ⟨rfl, hb2⟩
  rw [joined_one, hs]
  exact ⟨rfl, hb.trans (hb2.mono (by simp))⟩
/-- The sum of parts that are laid beside one another. -/
theorem hashSum_parts (w : World) (P : List (Option Addr × Nat × List UInt8)) (cells : Array Value) (n : Nat) (l : List UInt8) (hc : cells = (P.map partV).toArray) (hn : P.length = n) (hl : joined P = l)
    (h : ∀ p ∈ P, Rd w p.1 (p.2.2.map Bv) ∧ p.2.2.length ≤ p.2.1 ∧ p.2.1 ≤ 9223372036854775807) (hll : l.length ≤ 100000000) (hnn : n ≤ 1000) (ht : AddsMet w) :
    Calls Tryd.prog 14 #[.slice (some ⟨w.heap.size, 0, none⟩) n n] (w.alloc (.cells cells 28)) fun e w' => e = .returned (sumV (sha l)) ∧ Below w.heap.size w w' := by
  subst hc hl
  have hb := (Below.refl _ w).alloc (Nat.le_refl _) (.cells (P.map partV).toArray 28)
  refine (hashSum_any _ (some ⟨w.heap.size, 0, none⟩) n n P (ht.below hb) hn (parts_new w P h) (by omega) (by omega)).mono ?_
  rintro e w' ⟨rfl, hb2⟩
  exact ⟨rfl, hb.trans (hb2.mono (by simp))⟩
end Go.Proofs.YtmgjlldccmgpcaaDoor
