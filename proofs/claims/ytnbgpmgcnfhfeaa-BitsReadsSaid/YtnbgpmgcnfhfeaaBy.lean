
/-
  Rows of bits: what else is asked of a Writer; bytes in memory of their own.
-/
import Derived.Test.YtnbgpmgcnfhfeaaPut
namespace Go.Proofs.Ytnbgpmgcnfhfeaa
set_option linter.unusedVariables false
set_option linter.unusedSimpArgs false
open Go.RowKit

theorem Wis.below {w w' : World} {p : Nat} {v : Value} {l : List Bool} (h : Wis w p v l) (hb : Below w.heap.size w w') : Wis w' p v l :=
  ⟨(hb.block p (blk_lt h.1)).trans h.1, h.2.kept (row := none) ⟨hb.os, hb.tape, hb.output, hb.size, fun k hk _ => hb.block k hk⟩ (by cases v.ownBlock <;> simp)⟩
theorem Below.more {B : Nat} {w w' : World} (h : Below w.heap.size w w') (hB : B ≤ w.heap.size) : Below B w w' := h.mono hB
/-- A Writer all of whose blocks are new since B. -/
def WisB (B : Nat) (w : World) (p : Nat) (v : Value) (l : List Bool) : Prop := Wis w p v l ∧ B ≤ p ∧ ∀ i, v.ownBlock = some i → B ≤ i
theorem Put1.above {B : Nat} {w w' : World} {p : Nat} {v : Value} {l l0 : List Bool} (h : Put1 w w' p v l) (h0 : WisB B w p v l0) (hB : B ≤ w.heap.size) :
    ∃ v', WisB B w' p v' l ∧ Below B w w' := by
  obtain ⟨v', h1, h2, h3⟩ := h
  refine ⟨v', ⟨h1, h0.2.1, fun i hi => ?_⟩, h2.belowB hB fun k hk hs => ?_⟩
  · by_cases hlt : i < w.heap.size
    · exact h0.2.2 i (h3 i hlt hi)
    · omega
  · rcases hs with hs | hs
    · have := h0.2.1; omega
    · have := h0.2.2 k hs; omega

section
set_option maxHeartbeats 1600000
set_option maxRecDepth 100000
theorem new_any (w : World) : Calls Try.prog 12 #[] w fun e w' => e = .returned (.pointer (some ⟨w.heap.size, 0, none⟩)) ∧ Wis w' w.heap.size (.slice none 0 0) [] ∧ Below w.heap.size w w' := by
  go_enter Try.func12, Try.ntmps12
  go_wp2
  go_ret
  exact ⟨rfl, ⟨heap_alloc_new _ _, World.ownsRow_nil _ _ _ _⟩, (Below.refl _ _).alloc (Nat.le_refl _) _⟩

theorem len_any (w : World) (p : Nat) (v : Value) (l : List Bool) (hw : Wis w p v l) :
    Calls Try.prog 17 #[.pointer (some ⟨p, 0, none⟩)] w fun e w' => e = .returned (.int .i64 (l.length : Nat)) ∧ w = w' := by
  have hp2 := cell_blk hw.1 2
  simp at hp2
  go_enter Try.func17, Try.ntmps17
  go_wp2
  go_ret
  exact ⟨rfl, rfl⟩
theorem len_nil (w : World) : Calls Try.prog 17 #[.pointer none] w fun e w' => e = .returned (.int .i64 0) ∧ w = w' := by
  go_enter Try.func17, Try.ntmps17
  go_wp2
  go_ret
  exact ⟨rfl, rfl⟩
theorem len_cell (w : World) (p : Nat) (n : Int) (hp2 : w.cell? ⟨p, 2, none⟩ = some (.int .i64 n)) : Calls Try.prog 17 #[.pointer (some ⟨p, 0, none⟩)] w fun e w' => e = .returned (.int .i64 n) ∧ w = w' := by
  go_enter Try.func17, Try.ntmps17
  go_wp2
  go_ret
  exact ⟨rfl, rfl⟩

theorem copied_any (w : World) (A : Option Addr) (c : Nat) (xs : List UInt8) (hx : Rd w A (xs.map Bv)) (hl : xs.length ≤ 140737488351232) :
    Calls Try.prog 20 #[.slice A xs.length c] w fun e w' => ∃ v, e = .returned v ∧ w'.ownsRow w.heap.size 5 1 v xs.length (xs.map Bv) ∧ Below w.heap.size w w' := by
  obtain ⟨i0, hi, hz0, hz1, hz2⟩ := info_parts infoU8
  cases A with
  | none =>
    have h0 : xs = [] := by
      cases xs with
      | nil => rfl
      | cons a r => obtain ⟨b, off, e, _⟩ := hx 0 (Bv a) rfl; cases e
    subst h0
    go_enter Try.func20, Try.ntmps20
    go_wp2
    go_ret
    exact ⟨_, rfl, World.ownsRow_nil _ _ _ _, Below.refl _ _⟩
  | some ad =>
    have hc := Lib.hid (rd_cells hx)
    have h1 : ∀ u ∈ xs.map Bv, u.oneCell' = true := by intro u hu; obtain ⟨x, _, rfl⟩ := List.mem_map.1 hu; rfl
    have H1 := Lib.hid h1; clear h1 hx
    go_enter Try.func20, Try.ntmps20
    go_wp2_with (first | (at_builtin; go_must (refine wpList_append_own _ rfl _ _ 22 rfl w.heap.size 5 i0 (.int .u8 0) 1 1 Try.underlying22 hi hz0 hz1 hz2 rfl (by decide) _ _ _ rfl (World.ownsRow_nil _ _ _ _) ad xs.length c (xs.map Bv) rfl (by simp) hc.out H1.out (by unfold maxLen; omega) (by omega) (Nat.le_refl _) ?_; intro v' w1 hown hgrow _)) | fail)
    simp only [Nat.zero_add, List.nil_append] at hown
    go_wp2
    go_ret
    exact ⟨_, rfl, hown, (Below.refl _ _).grown hgrow (Nat.le_refl _) (fun k e => by cases e)⟩

theorem bytes_any (w : World) (p : Nat) (v : Value) (l : List Bool) (hw : Wis w p v l) (hl : (bytesOf l).length ≤ 140737488351232) :
    Calls Try.prog 16 #[.pointer (some ⟨p, 0, none⟩)] w fun e w' => ∃ v', e = .returned v' ∧ w'.ownsRow w.heap.size 5 1 v' (bytesOf l).length ((bytesOf l).map Bv) ∧ Below w.heap.size w w' := by
  obtain ⟨A, cap, rfl, hr, _⟩ := own_rd hw.2
  have hp1 := cell_blk hw.1 1
  simp at hp1
  go_enter Try.func16, Try.ntmps16
  go_wp2_with fail
  refine (copied_any w A cap (bytesOf l) hr hl).mono ?_
  rintro e w' ⟨v', rfl, hown, hb⟩
  go_wp2
  go_ret
  exact ⟨_, rfl, hown, hb⟩
theorem bytes_nil (w : World) : Calls Try.prog 16 #[.pointer none] w fun e w' => e = .returned (.slice none 0 0) ∧ w = w' := by
  go_enter Try.func16, Try.ntmps16
  go_wp2
  go_ret
  exact ⟨rfl, rfl⟩
theorem bytes_unmade (w : World) (p : Nat) (hp1 : w.cell? ⟨p, 1, none⟩ = some (.slice none 0 0)) : Calls Try.prog 16 #[.pointer (some ⟨p, 0, none⟩)] w fun e w' => e = .returned (.slice none 0 0) ∧ w = w' := by
  go_enter Try.func16, Try.ntmps16
  go_wp2
  go_ret
  exact ⟨rfl, rfl⟩
end
end Go.Proofs.Ytnbgpmgcnfhfeaa
