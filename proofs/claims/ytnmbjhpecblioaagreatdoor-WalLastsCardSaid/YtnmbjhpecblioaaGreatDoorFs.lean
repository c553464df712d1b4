/-
  Frames: sums of parts, how many bytes a frame has, the frame of bytes.
-/
import Derived.Test.YtnmbjhpecblioaaGreatDoorFm
import Derived.Test.YtnmbjhpecblioaaGreatDoorJn
import Derived.Test.YtnmbjhpecblioaaGreatDoorRuvB
namespace Go.Proofs.YtnmbjhpecblioaaGreatDoor
set_option linter.unusedVariables false
set_option linter.unusedSimpArgs false
open Go.RowKit

/-- How many bytes a frame of n bytes has. -/
def sizeF (n : Int) : Nat := if n < 0 ∨ 1048576 < n then 0 else (pu n.toNat).length + n.toNat + 4
/-- The length and the bytes. -/
def headF (xs : List UInt8) : List UInt8 := pu xs.length ++ xs
/-- The frame of bytes. -/
def frameF (xs : List UInt8) : List UInt8 := headF xs ++ low4 (maskN (crc 0 (headF xs)))
theorem frameF_length (xs : List UInt8) : (frameF xs).length = (pu xs.length).length + xs.length + 4 := by simp [frameF, headF, low4_length]; omega

section
set_option maxHeartbeats 1600000
set_option maxRecDepth 100000
theorem sum_any (w : World) (S : Option Addr) (cS : Nat) (P : List (Option Addr × Nat × List UInt8)) (hS : Rd w S (P.map partV)) (hP : ∀ p ∈ P, Rd w p.1 (p.2.2.map Bv)) (ht : StepsMet w)
    (hl : (joined P).length ≤ 140737488351232) (hn : P.length ≤ 9223372036854775807) :
    Calls Tryz.prog 98 #[.slice S P.length cS] w fun e w' => e = .returned (.int .u32 (crc 0 (joined P) : Nat)) ∧ w = w' := by
  have HT := Lib.hid ht; clear ht
  go_enter Tryz.func98, Tryz.ntmps98
  go_wp2
  go_loopw [3, 8] (fun v i wr => ∃ k : Nat, k ≤ P.length ∧ i = .int .i64 k ∧ v = .int .u32 (crc 0 (joined (P.take k)) : Nat) ∧ wr = w) (fun _ i _ => P.length - (intOf i).toNat)
  case atStart => exact ⟨0, by omega, rfl, congrArg (Value.int .u32) (by rw [show joined (P.take 0) = [] from rfl, crc_nil]; rfl), rfl⟩
  case round =>
    obtain ⟨k, hk, rfl, rfl, rfl⟩ := hrel
    by_cases hlt : k < P.length
    · obtain ⟨g, off, hSe, hc⟩ := hS k (partV P[k]) (by simp [hlt])
      subst hSe
      have hrd := hP P[k] (List.getElem_mem hlt)
      have hjt : joined (P.take (k + 1)) = joined (P.take k) ++ P[k].2.2 := by
        unfold joined; rw [List.take_succ_eq_append_getElem hlt, List.flatMap_append, List.flatMap_singleton]
      have hjl : (joined (P.take (k + 1))).length ≤ (joined P).length := by
        have : joined P = joined (P.take (k + 1)) ++ joined (P.drop (k + 1)) := by
          simp only [joined, ← List.flatMap_append, List.take_append_drop]
        rw [this, List.length_append]; omega
      have hjs : (joined (P.take (k + 1))).length = (joined (P.take k)).length + P[k].2.2.length := by rw [hjt, List.length_append]
      have hcl := crc_lt (s := 0) (by decide) (joined (P.take k))
      have HJ := Lib.hid hjt; clear hjt
      have HJS := Lib.hid hjs; clear hjs
      generalize hp : P[k] = pk at *
      obtain ⟨A, c, ys⟩ := pk
      simp only [partV] at hc hrd HJ HJS
      have HP := Lib.hid hp; clear hp
      go_wp2_with fail
      refine (more_any A c _ ys _ HT.out hcl hrd (by have := HJS.out; omega)).mono ?_
      rintro e w' ⟨rfl, rfl⟩
      rw [← crc_append, ← HJ.out]
      go_wp2
      go_roundw
      case rel => exact ⟨k + 1, by omega, by go_num, rfl, by first | rfl | trivial⟩
      case measure => simp [intOf]; omega
    · obtain rfl : k = P.length := by omega
      rw [List.take_length]
      go_wp2
      go_ret
      exact ⟨rfl, rfl⟩

theorem sum_two (w : World) (A B : Option Addr) (ca cb : Nat) (xs ys : List UInt8) (hx : Rd w A (xs.map Bv)) (hy : Rd w B (ys.map Bv)) (ht : StepsMet w) (hl : xs.length + ys.length ≤ 140737488351232) :
    Calls Tryz.prog 98 #[.slice (some ⟨w.heap.size, 0, none⟩) 2 2] (w.alloc (.cells #[.slice A xs.length ca, .slice B ys.length cb] 29)) fun e w' =>
      e = .returned (.int .u32 (crc 0 (xs ++ ys) : Nat)) ∧ w' = w.alloc (.cells #[.slice A xs.length ca, .slice B ys.length cb] 29) := by
  have hP : ∀ p ∈ [(A, ca, xs), (B, cb, ys)], Rd (w.alloc (.cells [partV (A, ca, xs), partV (B, cb, ys)].toArray 29)) p.1 (p.2.2.map Bv) := by
    intro p hp
    simp at hp
    rcases hp with rfl | rfl
    · exact hx.alloc _
    · exact hy.alloc _
  have hj : joined [(A, ca, xs), (B, cb, ys)] = xs ++ ys := by simp [joined]
  refine (sum_any _ (some ⟨w.heap.size, 0, none⟩) 2 [(A, ca, xs), (B, cb, ys)] (rd_row' w [partV (A, ca, xs), partV (B, cb, ys)] _) hP (ht.below ((Below.refl _ w).alloc (Nat.le_refl _) _)) (by rw [hj, List.length_append]; exact hl) (by simp)).mono ?_
  rintro e w4 ⟨rfl, rfl⟩
  rw [hj]
  exact ⟨rfl, rfl⟩
theorem sum_one (w : World) (A : Option Addr) (ca len : Nat) (xs : List UInt8) (hlen : xs.length = len) (hx : Rd w A (xs.map Bv)) (ht : StepsMet w) (hl : xs.length ≤ 140737488351232) :
    Calls Tryz.prog 98 #[.slice (some ⟨w.heap.size, 0, none⟩) 1 1] (w.alloc (.cells #[.slice A len ca] 29)) fun e w' =>
      e = .returned (.int .u32 (crc 0 xs : Nat)) ∧ w' = w.alloc (.cells #[.slice A len ca] 29) := by
  subst hlen
  have hP : ∀ p ∈ [(A, ca, xs)], Rd (w.alloc (.cells [partV (A, ca, xs)].toArray 29)) p.1 (p.2.2.map Bv) := by
    intro p hp
    simp at hp
    subst hp
    exact hx.alloc _
  have hj : joined [(A, ca, xs)] = xs := by simp [joined]
  refine (sum_any _ (some ⟨w.heap.size, 0, none⟩) 1 [(A, ca, xs)] (rd_row' w [partV (A, ca, xs)] _) hP (ht.below ((Below.refl _ w).alloc (Nat.le_refl _) _)) (by rw [hj]; exact hl) (by simp)).mono ?_
  rintro e w4 ⟨rfl, rfl⟩
  rw [hj]
  exact ⟨rfl, rfl⟩

end
end Go.Proofs.YtnmbjhpecblioaaGreatDoor
