
/-
  The plain answers' Join: all parts, one behind the other, in memory of its own.
-/
import Derived.Test.YtmgjlldccmgpcaaDoorGen
namespace Go.Proofs.YtmgjlldccmgpcaaDoor
set_option linter.unusedVariables false
set_option linter.unusedSimpArgs false
open Go.RowKit

/-- A part: where it lies, its capacity, its bytes. -/
def partV (p : Option Addr × Nat × List UInt8) : Value := .slice p.1 p.2.2.length p.2.1
def joined (P : List (Option Addr × Nat × List UInt8)) : List UInt8 := P.flatMap (·.2.2)

section
set_option maxHeartbeats 1600000
set_option maxRecDepth 100000
theorem join_any (w : World) (S : Option Addr) (cS : Nat) (P : List (Option Addr × Nat × List UInt8)) (hS : Rd w S (P.map partV)) (hP : ∀ p ∈ P, Rd w p.1 (p.2.2.map Bv))
    (hl : (joined P).length ≤ 140737488351232) (hn : P.length ≤ 9223372036854775807) :
    Calls Tryd.prog 17 #[.slice S P.length cS] w fun e w' => ∃ v, e = .returned v ∧ w'.ownsRow w.heap.size 5 1 v (joined P).length ((joined P).map Bv) ∧ Below w.heap.size w w' := by
  obtain ⟨i0, hi, hz0, hz1, hz2⟩ := info_parts infoU8
  go_enter Tryd.func17, Tryd.ntmps17
  go_wp2
  go_loopw [3, 9] (fun v i wr => ∃ k : Nat, k ≤ P.length ∧ i = .int .i64 k ∧ wr.ownsRow w.heap.size 5 1 v (joined (P.take k)).length ((joined (P.take k)).map Bv) ∧ Below w.heap.size w wr) (fun _ i _ => P.length - (intOf i).toNat)
  case atStart => exact ⟨0, by omega, rfl, World.ownsRow_made w #[] 0 (Nat.le_refl _) (by decide) rfl, (Below.refl _ _).alloc (Nat.le_refl _) _⟩
  case round =>
    obtain ⟨k, hk, rfl, hown, hb⟩ := hrel
    have HS := Lib.hid hb.size
    have hlo := fun (k : Nat) h => (hown.lt k h).1
    by_cases hlt : k < P.length
    · obtain ⟨g, off, hSe, hc⟩ := (hS.below hb) k (partV P[k]) (by simp [hlt])
      subst hSe
      have hrd := (hP P[k] (List.getElem_mem hlt)).below hb
      have hjt : joined (P.take (k + 1)) = joined (P.take k) ++ P[k].2.2 := by
        unfold joined; rw [List.take_succ_eq_append_getElem hlt, List.flatMap_append, List.flatMap_singleton]
      have hjl : (joined (P.take (k + 1))).length ≤ (joined P).length := by
        have : joined P = joined (P.take (k + 1)) ++ joined (P.drop (k + 1)) := by
          simp only [joined, ← List.flatMap_append, List.take_append_drop]
        rw [this, List.length_append]; omega
      have hjs : (joined (P.take (k + 1))).length = (joined (P.take k)).length + P[k].2.2.length := by rw [hjt, List.length_append]
      have HJ := Lib.hid hjt; clear hjt
      have HJS := Lib.hid hjs; clear hjs
      generalize hp : P[k] = pk at *
      obtain ⟨A, c, ys⟩ := pk
      simp only [partV] at hc hrd HJ HJS
      have HP := Lib.hid hp; clear hp
      have h1 : ∀ u ∈ ys.map Bv, u.oneCell' = true := by intro u hu; obtain ⟨x, _, rfl⟩ := List.mem_map.1 hu; rfl
      have H1 := Lib.hid h1; clear h1
      go_wp2_with (first | (at_builtin; go_must (refine wpList_append_rd rfl _ _ 28 rfl w.heap.size 5 i0 (.int .u8 0) 1 Tryd.underlying28 hi hz0 hz1 hz2 rfl _ _ _ rfl hown A c (ys.map Bv) (by simp; rfl) hrd H1.out (by have := HJS.out; rw [List.length_map]; unfold maxLen; omega) (by have := HJS.out; rw [List.length_map]; omega) HS.out ?_; intro v' w1 hown' hgrow)) | fail)
      go_wp2
      go_roundw
      case rel => exact ⟨k + 1, by omega, by go_num, by rw [HJS.out, HJ.out, List.map_append]; simpa using hown', hb.grown hgrow HS.out hlo⟩
      case measure => simp [intOf]; omega
    · have hkl : k = P.length := by omega
      have e : joined (P.take k) = joined P := by rw [hkl, List.take_length]
      rw [e] at hown
      have HK := Lib.hid hkl; clear hkl
      have HE := Lib.hid e; clear e
      go_wp2
      go_ret
      exact ⟨_, rfl, hown, hb⟩

theorem join_two (w : World) (A B : Option Addr) (ca cb : Nat) (xs ys : List UInt8) (hx : Rd w A (xs.map Bv)) (hy : Rd w B (ys.map Bv)) (hl : xs.length + ys.length ≤ 140737488351232) :
    Calls Tryd.prog 17 #[.slice (some ⟨w.heap.size, 0, none⟩) 2 2] (w.alloc (.cells #[.slice A xs.length ca, .slice B ys.length cb] 28)) fun e w' =>
      ∃ C c, e = .returned (.slice C (xs ++ ys).length c) ∧ Rd w' C ((xs ++ ys).map Bv) ∧ Below w.heap.size w w' := by
  have hP : ∀ p ∈ [(A, ca, xs), (B, cb, ys)], Rd (w.alloc (.cells [partV (A, ca, xs), partV (B, cb, ys)].toArray 28)) p.1 (p.2.2.map Bv) := by
    intro p hp
    simp at hp
    rcases hp with rfl | rfl
    · exact hx.alloc _
    · exact hy.alloc _
  have hj : joined [(A, ca, xs), (B, cb, ys)] = xs ++ ys := by simp [joined]
  refine (join_any _ (some ⟨w.heap.size, 0, none⟩) 2 [(A, ca, xs), (B, cb, ys)] (rd_row' w [partV (A, ca, xs), partV (B, cb, ys)] _) hP (by rw [hj, List.length_append]; exact hl) (by simp)).mono ?_
  rintro e w4 ⟨v4, rfl, own4, hb4⟩
  rw [hj] at own4
  obtain ⟨A4, c4, rfl, rd4, _⟩ := own_rd own4
  exact ⟨A4, c4, rfl, rd4, ((Below.refl _ w).alloc (Nat.le_refl _) _).trans (hb4.mono (by simp))⟩
theorem join_two_own (w : World) (A B : Option Addr) (ca cb : Nat) (xs ys : List UInt8) (hx : Rd w A (xs.map Bv)) (hy : Rd w B (ys.map Bv)) (hl : xs.length + ys.length ≤ 140737488351232) :
    Calls Tryd.prog 17 #[.slice (some ⟨w.heap.size, 0, none⟩) 2 2] (w.alloc (.cells #[.slice A xs.length ca, .slice B ys.length cb] 28)) fun e w' =>
      ∃ v, e = .returned v ∧ w'.ownsRow (w.heap.size + 1) 5 1 v (xs ++ ys).length ((xs ++ ys).map Bv) ∧ Below w.heap.size w w' := by
  have hP : ∀ p ∈ [(A, ca, xs), (B, cb, ys)], Rd (w.alloc (.cells [partV (A, ca, xs), partV (B, cb, ys)].toArray 28)) p.1 (p.2.2.map Bv) := by
    intro p hp
    simp at hp
    rcases hp with rfl | rfl
    · exact hx.alloc _
    · exact hy.alloc _
  have hj : joined [(A, ca, xs), (B, cb, ys)] = xs ++ ys := by simp [joined]
  refine (join_any _ (some ⟨w.heap.size, 0, none⟩) 2 [(A, ca, xs), (B, cb, ys)] (rd_row' w [partV (A, ca, xs), partV (B, cb, ys)] _) hP (by rw [hj, List.length_append]; exact hl) (by simp)).mono ?_
  rintro e w4 ⟨v4, rfl, own4, hb4⟩
  rw [hj, World.size_alloc] at own4
  exact ⟨v4, rfl, own4, ((Below.refl _ w).alloc (Nat.le_refl _) _).trans (hb4.mono (by simp))⟩
theorem join_one (w : World) (A : Option Addr) (ca : Nat) (xs : List UInt8) (hx : Rd w A (xs.map Bv)) (hl : xs.length ≤ 140737488351232) :
    Calls Tryd.prog 17 #[.slice (some ⟨w.heap.size, 0, none⟩) 1 1] (w.alloc (.cells #[.slice A xs.length ca] 28)) fun e w' =>
      ∃ v, e = .returned v ∧ w'.ownsRow (w.heap.size + 1) 5 1 v xs.length (xs.map Bv) ∧ Below w.heap.size w w' := by
  have hP : ∀ p ∈ [(A, ca, xs)], Rd (w.alloc (.cells [partV (A, ca, xs)].toArray 28)) p.1 (p.2.2.map Bv) := by
    intro p hp
    simp at hp
    subst hp
    exact hx.alloc _
  have hj : joined [(A, ca, xs)] = xs := by simp [joined]
  refine (join_any _ (some ⟨w.heap.size, 0, none⟩) 1 [(A, ca, xs)] (rd_row' w [partV (A, ca, xs)] _) hP (by rw [hj]; exact hl) (by simp)).mono ?_
  rintro e w4 ⟨v4, rfl, own4, hb4⟩
  rw [hj, World.size_alloc] at own4
  exact ⟨v4, rfl, own4, ((Below.refl _ w).alloc (Nat.le_refl _) _).trans (hb4.mono (by simp))⟩
end
end Go.Proofs.YtmgjlldccmgpcaaDoor
