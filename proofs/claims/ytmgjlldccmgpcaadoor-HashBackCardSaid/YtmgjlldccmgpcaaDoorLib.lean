/-
  Words for memory and for rows of bytes, used by the walks of this seat. Plain definitions and lemmas; nothing here speaks of the program.
-/
import Derived.WalkKit
import Derived.Handy
import Derived.Deep.Draws
import Derived.Deep.QuietTactic
import Derived.BigQuiet
import Derived.Lib.Hide
namespace Go.Proofs.YtmgjlldccmgpcaaDoor
set_option linter.unusedVariables false
set_option linter.unusedSimpArgs false
open Go.RowKit

/-- A byte as the model holds it. -/
def Bv (x : UInt8) : Value := .int .u8 (x.toNat : Int)
theorem Bv_def (x : UInt8) : Bv x = .int .u8 (x.toNat : Int) := rfl

/-- The cells from an address on hold these values. -/
def Rd (w : World) (A : Option Addr) (xs : List Value) : Prop :=
  ∀ k v, xs[k]? = some v → ∃ b off, A = some ⟨b, off, none⟩ ∧ w.cell? ⟨b, off + k, none⟩ = some v

theorem Rd.nil (w : World) (A : Option Addr) : Rd w A [] := fun k v h => by simp at h

theorem Rd.blk {w : World} {A : Option Addr} {xs : List Value} (h : Rd w A xs) {w' : World}
    (hk : ∀ b, b < w.heap.size → A.map (·.block) = some b → w'.heap[b]? = w.heap[b]?) : Rd w' A xs := by
  intro k v hv
  obtain ⟨b, off, rfl, hc⟩ := h k v hv
  refine ⟨b, off, rfl, ?_⟩
  have hb : b < w.heap.size := World.block_lt_of_cell? w _ hc
  rw [World.cell?_of_block (a := ⟨b, off + k, none⟩) (w := w) (hk _ hb rfl)]
  exact hc

theorem Rd.below {w w' : World} {A : Option Addr} {xs : List Value} (h : Rd w A xs) (hb : Below w.heap.size w w') : Rd w' A xs :=
  h.blk fun b hlt _ => hb.block b hlt
theorem Rd.drewN {w : World} {A : Option Addr} {xs : List Value} (h : Rd w A xs) (n : Nat) : Rd (w.drewN n) A xs := h
theorem Rd.alloc {w : World} {A : Option Addr} {xs : List Value} (h : Rd w A xs) (o : Obj) : Rd (w.alloc o) A xs :=
  h.blk fun b hlt _ => Below.heap_alloc w o b hlt
theorem Rd.setCell {w : World} {A : Option Addr} {xs : List Value} (h : Rd w A xs) {p : Addr} (hp : A.map (·.block) ≠ some p.block) (u : Value) : Rd (w.setCell p u) A xs :=
  h.blk fun b _ hb => Below.heap_setCell w p u b (fun e => hp (by rw [hb, e]))

/-- A byte row's place k. -/
theorem Rd.byte {w : World} {A : Option Addr} {xs : List UInt8} (h : Rd w A (xs.map Bv)) {k : Nat} (hk : k < xs.length) :
    ∃ b off, A = some ⟨b, off, none⟩ ∧ w.cell? ⟨b, off + k, none⟩ = some (.int .u8 (xs[k].toNat : Int)) :=
  h k (Bv xs[k]) (by simp [hk])

theorem Rd.take {w : World} {A : Option Addr} {xs : List Value} (h : Rd w A xs) (k : Nat) : Rd w A (xs.take k) := by
  intro j v hj
  rw [List.getElem?_take] at hj
  split at hj
  · exact h j v hj
  · cases hj
theorem Rd.bytes_take {w : World} {A : Option Addr} {xs : List UInt8} (h : Rd w A (xs.map Bv)) (k : Nat) : Rd w A ((xs.take k).map Bv) := by
  rw [List.map_take]; exact h.take k
theorem drop_cons {α : Type} {xs : List α} {k : Nat} (h : k < xs.length) : xs.drop k = xs[k] :: xs.drop (k + 1) := List.drop_eq_getElem_cons h
theorem take_succ_eq {α : Type} {xs ys : List α} {k : Nat} (h : k < xs.length) (h' : k < ys.length) (ht : xs.take k = ys.take k) (e : xs[k] = ys[k]) : xs.take (k+1) = ys.take (k+1) := by
  rw [List.take_succ_eq_append_getElem h, List.take_succ_eq_append_getElem h', ht, e]
theorem mask127 {c : Int} (h₀ : 0 ≤ c) (h₁ : c ≤ 255) : bits .and .u8 c 127 = c % 128 := bits_mask .u8 8 (by decide) wraps_u8 7 (by decide) c h₀ (by omega)
/-- Bits beside one another are a sum. -/
theorem or_beside (a m s : Nat) (ha : a < 2 ^ s) : a ||| (m * 2 ^ s) = a + m * 2 ^ s := by
  rw [← Nat.shiftLeft_eq, Nat.or_comm, ← Nat.shiftLeft_add_eq_or_of_lt ha, Nat.add_comm]

end Go.Proofs.YtmgjlldccmgpcaaDoor
