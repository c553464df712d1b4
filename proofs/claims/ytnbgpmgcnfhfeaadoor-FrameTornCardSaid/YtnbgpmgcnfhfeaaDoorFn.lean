/-
  Frames one behind the other.
-/
import Derived.Test.YtnbgpmgcnfhfeaaDoorFt
import Derived.Test.YtnbgpmgcnfhfeaaDoorFa
import Derived.Test.YtnbgpmgcnfhfeaaDoorRr
namespace Go.Proofs.YtnbgpmgcnfhfeaaDoor
set_option linter.unusedVariables false
set_option linter.unusedSimpArgs false
open Go.RowKit

/-- Frames of rows of bytes, one behind the other. -/
def framesF (L : List (List UInt8)) : List UInt8 := L.flatMap frameF
theorem framesF_cons (l : List UInt8) (L : List (List UInt8)) : framesF (l :: L) = frameF l ++ framesF L := by simp [framesF]
theorem framesF_snoc (L : List (List UInt8)) (l : List UInt8) : framesF (L ++ [l]) = framesF L ++ frameF l := by simp [framesF]
theorem frameF_pos (l : List UInt8) : 0 < (frameF l).length := by rw [frameF_length]; omega
theorem frameF_ne (l : List UInt8) : frameF l ≠ [] := fun h => by have := frameF_pos l; rw [h] at this; simp at this

/-- How many of the frames are whole, and how many bytes these have. -/
def wholeF : List (List UInt8) → Nat → Nat × Nat
  | [], _ => (0, 0)
  | l :: L, cut => if (frameF l).length ≤ cut then ((wholeF L (cut - (frameF l).length)).1 + 1, (frameF l).length + (wholeF L (cut - (frameF l).length)).2) else (0, 0)

theorem getF_torn (xs : List UInt8) (cut : Nat) (hl : xs.length ≤ 1048576) (hc : cut < (frameF xs).length) : getF ((frameF xs).take cut) = ([], 0, 6) := by
  have hfl := frameF_length xs
  have hl10 := pu_len 10 xs.length (by omega)
  have e : frameF xs = pu xs.length ++ (xs ++ low4 (maskN (crc 0 (headF xs)))) := by simp [frameF, headF, List.append_assoc]
  by_cases hp : cut < (pu xs.length).length
  · have hu : uvS 0 0 ((frameF xs).take cut) = (0, 0, 6) := by
      rw [e, List.take_append_of_le_length (by omega)]
      exact uvS_cut xs.length 0 0 cut hp (by omega)
    unfold getF
    rw [hu]
    simp
  · have hu : uvS 0 0 ((frameF xs).take cut) = (xs.length, (pu xs.length).length, 0) := by
      rw [e, List.take_append, List.take_of_length_le (by omega)]
      exact uvS_head _ _ hl
    unfold getF
    rw [hu]
    simp only
    rw [if_neg (by simp), if_neg (by omega), if_pos (by rw [List.length_take]; omega)]

/-- Of frames that are cut off anywhere just those are whole all of whose bytes are there. -/
theorem allF_torn (L : List (List UInt8)) : ∀ cut, (∀ l ∈ L, l.length ≤ 1048576) → cut ≤ (framesF L).length →
    allF ((framesF L).take cut) = (L.take (wholeF L cut).1, (wholeF L cut).2, if (wholeF L cut).2 = cut then 0 else 6) ∧ (wholeF L cut).1 ≤ L.length ∧ (wholeF L cut).2 ≤ cut := by
  induction L with
  | nil =>
    intro cut _ hc
    have : cut = 0 := by simpa [framesF] using hc
    subst this
    simp [framesF, wholeF, allF_nil]
  | cons l L ih =>
    intro cut hl hc
    have hl1 := hl l (by simp)
    rw [framesF_cons, List.length_append] at hc
    rw [framesF_cons]
    unfold wholeF
    by_cases hf : (frameF l).length ≤ cut
    · rw [if_pos hf]
      obtain ⟨i1, i2, i3⟩ := ih (cut - (frameF l).length) (fun x hx => hl x (List.mem_cons_of_mem _ hx)) (by omega)
      have hg := getF_frame l ((framesF L).take (cut - (frameF l).length)) hl1
      rw [List.take_append, List.take_of_length_le hf]
      rw [allF_cons (by intro h; exact frameF_ne l (List.append_eq_nil_iff.1 h).1) (by rw [hg]), hg]
      simp only
      rw [List.drop_left' rfl, i1]
      refine ⟨?_, by simp only [List.length_cons]; omega, by omega⟩
      simp only [List.take_succ_cons, Prod.mk.injEq, true_and]
      have e2 : ((frameF l).length + (wholeF L (cut - (frameF l).length)).2 = cut) = ((wholeF L (cut - (frameF l).length)).2 = cut - (frameF l).length) := propext ⟨fun h => by omega, fun h => by omega⟩
      simp only [e2]
    · rw [if_neg hf]
      rw [List.take_append_of_le_length (by omega)]
      refine ⟨?_, by omega, by omega⟩
      by_cases h0 : cut = 0
      · subst h0; simp [allF_nil]
      · have hg := getF_torn l cut hl1 (by omega)
        have hne : (frameF l).take cut ≠ [] := by
          intro h; have h2 : min cut (frameF l).length = 0 := by rw [← List.length_take, h]; rfl
          have := frameF_pos l; omega
        rw [allF_err hne (by rw [hg]; decide), hg, if_neg (by omega)]
        simp
theorem wholeF_step (l : List UInt8) (L : List (List UInt8)) (cut : Nat) (h : (frameF l).length ≤ cut) : wholeF (l :: L) cut = ((wholeF L (cut - (frameF l).length)).1 + 1, (frameF l).length + (wholeF L (cut - (frameF l).length)).2) := by
  rw [wholeF, if_pos h]
theorem wholeF_stop (l : List UInt8) (L : List (List UInt8)) (cut : Nat) (h : ¬ (frameF l).length ≤ cut) : wholeF (l :: L) cut = (0, 0) := by
  rw [wholeF, if_neg h]
theorem wholeF_nil (cut : Nat) : wholeF [] cut = (0, 0) := rfl
theorem wholeF_all (L : List (List UInt8)) : ∀ cut, (framesF L).length ≤ cut → wholeF L cut = (L.length, (framesF L).length) := by
  induction L with
  | nil => intro cut _; rfl
  | cons l L ih =>
    intro cut hc
    rw [framesF_cons, List.length_append] at hc
    unfold wholeF
    rw [if_pos (by omega), ih _ (by omega), framesF_cons, List.length_append]
    simp
theorem allF_frames (L : List (List UInt8)) (hl : ∀ l ∈ L, l.length ≤ 1048576) : allF (framesF L) = (L, (framesF L).length, 0) := by
  have h := (allF_torn L (framesF L).length hl (Nat.le_refl _)).1
  rw [wholeF_all L _ (Nat.le_refl _), List.take_length, List.take_length, if_pos rfl] at h
  exact h
theorem sizeF_frame (xs : List UInt8) (hl : xs.length ≤ 1048576) : sizeF (xs.length : Int) = (frameF xs).length := by
  unfold sizeF
  rw [if_neg (by omega), Int.toNat_natCast, frameF_length]
theorem framesF_len (L : List (List UInt8)) (hl : ∀ l ∈ L, l.length ≤ 1048576) : (framesF L).length ≤ (L.flatten).length + 14 * L.length := by
  induction L with
  | nil => simp [framesF]
  | cons l L ih =>
    have := ih (fun x hx => hl x (List.mem_cons_of_mem _ hx))
    have h1 := frameF_length l
    have h2 := pu_len 10 l.length (by have := hl l (by simp); omega)
    rw [framesF_cons, List.length_append, List.flatten_cons, List.length_append, List.length_cons]
    omega
theorem joined_flat (P : List (Option Addr × Nat × List UInt8)) : joined P = (P.map (·.2.2)).flatten := by
  unfold joined; rw [List.flatMap_def]

/-- What 'few' tells. -/
def FewEnd (P : List (Option Addr × Nat × List UInt8)) (w : World) (e : Ending) (w' : World) : Prop := ∃ b : Bool, e = .returned (.bool b) ∧ w = w' ∧ (b = true → P.length ≤ 100 ∧ (joined P).length ≤ 4000)

section
set_option maxHeartbeats 1600000
set_option maxRecDepth 100000
theorem few_any (A : Option Addr) (ca : Nat) (P : List (Option Addr × Nat × List UInt8)) (w : World) (hA : RowsRd w A P) (hl : P.length ≤ 9223372036854775807) :
    Calls Tryd.prog 31 #[.slice A P.length ca] w fun e w' => FewEnd P w e w' := by
  go_enter Tryd.func31, Tryd.ntmps31
  go_wp2
  go_loopw [3, 8] (fun v i wr => ∃ k s : Nat, k ≤ P.length ∧ i = .int .i64 k ∧ v = .int .i64 s ∧ s ≤ 4000 ∧ (joined (P.take k)).length = s ∧ wr = w) (fun _ i _ => P.length - (intOf i).toNat)
  case atStart => exact ⟨0, 0, by omega, rfl, rfl, by omega, rfl, rfl⟩
  case round =>
    obtain ⟨k, s, hk, rfl, rfl, hs, hj, rfl⟩ := hrel
    by_cases hlt : k < P.length
    · obtain ⟨b, off, rfl, q0⟩ := hA.1 k (partV P[k]) (by simp [hlt])
      have hp := hA.2 P[k] (List.getElem_mem hlt)
      have hjt : (joined (P.take (k + 1))).length = s + P[k].2.2.length := by
        unfold joined at hj ⊢; rw [List.take_succ_eq_append_getElem hlt, List.flatMap_append, List.flatMap_singleton, List.length_append, hj]
      have hpl : P[k].2.2.length ≤ 9223372036854775807 := by have := hp.2; unfold maxLen at this; omega
      generalize P[k] = p at *
      obtain ⟨Ap, cp, xs⟩ := p
      simp only [partV] at q0 hjt hpl
      clear hp
      have HJ := Lib.hid hj; clear hj
      have HJT := Lib.hid hjt; clear hjt
      by_cases h5 : (xs.length : Int) ≤ 5000
      · have hmin : min (xs.length : Int) 5000 = (xs.length : Int) := by omega
        by_cases h4 : (s : Int) + (xs.length : Int) ≤ 4000
        · go_wp2
          go_roundw
          case rel => exact ⟨k + 1, s + xs.length, by omega, by go_num, by go_num, by omega, HJT.out, by first | rfl | trivial⟩
          case measure => simp [intOf]; omega
        · have h4' : decide (4000 < (s : Int) + (xs.length : Int)) = true := by simp; omega
          go_wp2
          go_ret
          exact ⟨false, rfl, rfl, fun h => by cases h⟩
      · have hmin : min (xs.length : Int) 5000 = 5000 := by omega
        go_wp2
        go_ret
        exact ⟨false, rfl, rfl, fun h => by cases h⟩
    · obtain rfl : k = P.length := by omega
      rw [List.take_length] at hj
      have HJ := Lib.hid hj; clear hj
      go_wp2
      go_ret
      exact ⟨_, rfl, rfl, fun h => ⟨by simp at h; omega, by rw [HJ.out]; exact hs⟩⟩
theorem laid_any (A : Option Addr) (ca : Nat) (P : List (Option Addr × Nat × List UInt8)) (w : World) (ht : StepsMet w) (hA : RowsRd w A P) (hl : P.length ≤ 100) (hj : (joined P).length ≤ 4000) :
    Calls Tryd.prog 32 #[.slice A P.length ca] w fun e w' => ∃ v, e = .returned (.tuple #[v, .bool true]) ∧ w'.ownsRow w.heap.size 5 1 v (framesF (P.map (·.2.2))).length ((framesF (P.map (·.2.2))).map Bv) ∧ Below w.heap.size w w' := by
  obtain ⟨i0, hi, hz0, hz1, hz2⟩ := info_parts infoU8
  have HT := Lib.hid ht; clear ht
  have hone : ∀ (l : List UInt8), ∀ u ∈ l.map Bv, u.oneCell' = true := by intro l u hu; obtain ⟨x, _, rfl⟩ := List.mem_map.1 hu; rfl
  have H1 := Lib.hid hone; clear hone
  go_enter Tryd.func32, Tryd.ntmps32
  go_wp2
  go_loopw [4, 12] (fun v i wr => ∃ (k : Nat) (Y : List UInt8), k ≤ P.length ∧ i = .int .i64 k ∧ Y = framesF ((P.take k).map (·.2.2)) ∧ Y.length ≤ 4100 * k ∧ wr.ownsRow w.heap.size 5 1 v Y.length (Y.map Bv) ∧ Below w.heap.size w wr) (fun _ i _ => P.length - (intOf i).toNat)
  case atStart => exact ⟨0, [], by omega, rfl, rfl, by simp, own_empty _ _, (Below.refl _ _).alloc (Nat.le_refl _) _⟩
  case round =>
    obtain ⟨k, Y, hk, rfl, hY, hYl, hown, hb⟩ := hrel
    by_cases hlt : k < P.length
    · obtain ⟨b, off, rfl, q0⟩ := (hA.1.below hb) k (partV P[k]) (by simp [hlt])
      have hp := hA.2 P[k] (List.getElem_mem hlt)
      have hrd := hp.1.below hb
      have hYs : Y ++ frameF P[k].2.2 = framesF ((P.take (k + 1)).map (·.2.2)) := by
        rw [List.take_succ_eq_append_getElem hlt, List.map_append, List.map_singleton, framesF_snoc, hY]
      have hpl : P[k].2.2.length ≤ 4000 := by
        have h1 : joined P = joined (P.take k) ++ joined (P.drop k) := by
          simp only [joined, ← List.flatMap_append, List.take_append_drop]
        rw [List.drop_eq_getElem_cons hlt] at h1
        have h2 := congrArg List.length h1
        simp only [joined, List.flatMap_cons, List.length_append] at h2
        unfold joined at hj
        omega
      generalize P[k] = p at *
      obtain ⟨Ap, cp, xs⟩ := p
      simp only [partV] at q0 hrd hYs hpl
      clear hp
      have hsz := sizeF_frame xs (by omega)
      have hfl := frameF_length xs
      have hl10 := pu_len 10 xs.length (by omega)
      obtain ⟨fr, hfr⟩ : ∃ fr, fr = frameF xs := ⟨_, rfl⟩
      rw [← hfr] at hsz hfl hYs
      have hfm : fr.length ≤ 4014 := by omega
      have hfm2 : (Y ++ fr).length ≤ 4100 * (k + 1) := by rw [List.length_append]; omega
      have HFR := Lib.hid hfr; clear hfr
      have HSZ := Lib.hid hsz; clear hsz hfl hl10
      have HYS := Lib.hid hYs; clear hYs
      have HFM2 := Lib.hid hfm2; clear hfm2
      have HY := Lib.hid hY; clear hY
      have HT1 := Lib.hid (HT.out.below hb)
      obtain ⟨Ay, cy, rfl, -⟩ := own_rd hown
      go_wp2_with fail
      refine (fput_any Ap cp xs wr HT1.out hrd (by omega)).mono ?_
      rintro e w2 ⟨v2, rfl, own2, hb2⟩
      rw [← HFR.out] at own2
      obtain ⟨A2, c2, rfl, rd2, -⟩ := own_rd own2
      have hb2' := hb.trans (hb2.mono hb.size)
      have hown2 := own_moved hown fun g hg => hb2.block g (hown.lt g hg).2
      clear own2 hown hb2 hrd
      go_wp2_with fail
      refine (size_any xs.length w2).mono ?_
      rintro e w3 ⟨rfl, hb3⟩
      rw [HSZ.out]
      have rd3 := rd2.below hb3
      have hb3' := hb2'.trans (hb3.mono hb2'.size)
      have hown3 := own_moved hown2 fun g hg => hb3.block g (hown2.lt g hg).2
      have hlo := fun (k : Nat) h => (hown3.lt k h).1
      clear hown2 hb3 rd2 hb2'
      go_wp2_with (first
        | (at_builtin; go_must (refine wpList_append_rd rfl _ _ 23 rfl w.heap.size 5 i0 (.int .u8 0) 1 Tryd.underlying23 hi hz0 hz1 hz2 rfl _ _ _ rfl hown3 A2 c2 (fr.map Bv) (by simp; rfl) rd3 (H1.out fr) (by rw [List.length_map]; unfold maxLen; omega) (by rw [List.length_map]; omega) hb3'.size ?_; intro v4 w4 own4 grow4))
        | fail)
      go_wp2
      go_roundw
      case rel => exact ⟨k + 1, Y ++ fr, by omega, by go_num, HYS.out, HFM2.out, by rw [List.length_append, List.map_append]; simpa using own4, hb3'.grown grow4 hb3'.size hlo⟩
      case measure => simp [intOf]; omega
    · obtain rfl : k = P.length := by omega
      rw [List.take_length] at hY
      subst hY
      obtain ⟨Ay, cy, rfl, -⟩ := own_rd hown
      go_wp2
      go_ret2
      exact ⟨_, rfl, hown, hb⟩
end
end Go.Proofs.YtnbgpmgcnfhfeaaDoor
