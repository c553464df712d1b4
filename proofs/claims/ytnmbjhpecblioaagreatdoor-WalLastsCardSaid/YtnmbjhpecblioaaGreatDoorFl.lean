/-
  Frames, plainly: what was put is got, whatever stands behind.
  Frames one behind the other, plainly.
-/
import Derived.Test.YtnmbjhpecblioaaGreatDoorFg
import Derived.Test.YtnmbjhpecblioaaGreatDoorUvLaws
import Derived.Test.YtnmbjhpecblioaaGreatDoorFa
namespace Go.Proofs.YtnmbjhpecblioaaGreatDoor
set_option linter.unusedVariables false
set_option linter.unusedSimpArgs false
section
set_option linter.unusedVariables false
set_option linter.unusedSimpArgs false

theorem uvS_head (n : Nat) (r : List UInt8) (hn : n ≤ 1048576) : uvS 0 0 (pu n ++ r) = (n, (pu n).length, 0) := by
  have hl10 := pu_len 10 n (by omega)
  have h := uvS_pu n 0 0 r (Or.inl rfl) (by omega) (by omega)
  rw [Nat.mul_zero, Nat.pow_zero, Nat.mul_one, Nat.zero_add, Nat.zero_add] at h
  exact h
theorem getF_frame (xs zs : List UInt8) (hl : xs.length ≤ 1048576) : getF (frameF xs ++ zs) = (xs, (frameF xs).length, 0) := by
  have hfl := frameF_length xs
  have e : frameF xs ++ zs = pu xs.length ++ (xs ++ (low4 (maskN (crc 0 (headF xs))) ++ zs)) := by simp [frameF, headF, List.append_assoc]
  have hu : uvS 0 0 (frameF xs ++ zs) = (xs.length, (pu xs.length).length, 0) := by rw [e]; exact uvS_head _ _ hl
  unfold getF
  rw [hu]
  simp only
  have hhd : (headF xs).length = (pu xs.length).length + xs.length := by simp [headF]
  have ht : (frameF xs ++ zs).take ((pu xs.length).length + xs.length) = headF xs := by
    rw [show frameF xs ++ zs = headF xs ++ (low4 (maskN (crc 0 (headF xs))) ++ zs) from by simp [frameF], ← hhd, List.take_left']; rfl
  have hd : (frameF xs ++ zs).drop ((pu xs.length).length + xs.length) = low4 (maskN (crc 0 (headF xs))) ++ zs := by
    rw [show frameF xs ++ zs = headF xs ++ (low4 (maskN (crc 0 (headF xs))) ++ zs) from by simp [frameF], ← hhd, List.drop_left']; rfl
  have hd2 : (frameF xs ++ zs).drop (pu xs.length).length = xs ++ (low4 (maskN (crc 0 (headF xs))) ++ zs) := by rw [e, List.drop_left']; rfl
  rw [if_neg (by simp), if_neg (by omega), if_neg (by rw [List.length_append]; omega), ht, hd, if_pos (by rfl), hd2, List.take_left' rfl, hfl]
theorem set_turn {α : Type} (l : List α) (i : Nat) (y : α) (h : i < l.length) : l = l.take i ++ l[i] :: l.drop (i + 1) ∧ l.set i y = l.take i ++ y :: l.drop (i + 1) := by
  refine ⟨?_, List.set_eq_take_append_cons_drop ▸ by rw [if_pos h]⟩
  rw [← List.drop_eq_getElem_cons h, List.take_append_drop]
/-- A frame of which one byte behind the length is another one. -/
theorem getF_turned (xs : List UInt8) (i : Nat) (y : UInt8) (hl : xs.length ≤ 1048576) (h0 : (pu xs.length).length ≤ i) (hi : i < (frameF xs).length) (hy : (frameF xs)[i]? ≠ some y) :
    getF ((frameF xs).set i y) = ([], 0, 20) := by
  have hfl := frameF_length xs
  have hhd : (headF xs).length = (pu xs.length).length + xs.length := by simp [headF]
  have hpt : (frameF xs).take (pu xs.length).length = pu xs.length := by
    rw [show frameF xs = pu xs.length ++ (xs ++ low4 (maskN (crc 0 (headF xs)))) from by simp [frameF, headF, List.append_assoc], List.take_left' rfl]
  have e : (frameF xs).set i y = pu xs.length ++ ((frameF xs).set i y).drop (pu xs.length).length := by
    conv => lhs; rw [← List.take_append_drop (pu xs.length).length ((frameF xs).set i y)]
    rw [List.take_set_of_le h0, hpt]
  have hu : uvS 0 0 ((frameF xs).set i y) = (xs.length, (pu xs.length).length, 0) := by rw [e]; exact uvS_head _ _ hl
  unfold getF
  rw [hu]
  simp only
  rw [if_neg (by simp), if_neg (by omega), if_neg (by rw [List.length_set]; omega), if_neg]
  by_cases hc : i < (headF xs).length
  · have hd : ((frameF xs).set i y).drop ((pu xs.length).length + xs.length) = low4 (maskN (crc 0 (headF xs))) := by
      rw [← hhd, List.drop_set_of_lt hc]
      unfold frameF
      rw [List.drop_left' rfl]
    have ht : ((frameF xs).set i y).take ((pu xs.length).length + xs.length) = (headF xs).set i y := by
      rw [← hhd]
      unfold frameF
      rw [List.set_append_left _ _ hc, List.take_left' (by rw [List.length_set])]
    rw [hd, ht]
    intro hlow
    have h1 := low4_inj (maskN_lt _) (maskN_lt _) hlow
    have h2 := mask_inj (crc_lt (by decide) _) (crc_lt (by decide) _) h1
    obtain ⟨s1, s2⟩ := set_turn (headF xs) i y hc
    rw [s2] at h2
    have h3 : crc 0 ((headF xs).take i ++ (headF xs)[i] :: (headF xs).drop (i + 1)) = crc 0 ((headF xs).take i ++ y :: (headF xs).drop (i + 1)) := by rw [← s1]; exact h2
    have h4 := crc_turn _ _ h3
    have h5 : (frameF xs)[i]? = some (headF xs)[i] := by
      unfold frameF
      rw [List.getElem?_append_left hc, List.getElem?_eq_getElem hc]
    exact hy (by rw [h5, h4])
  · have ht : ((frameF xs).set i y).take ((pu xs.length).length + xs.length) = headF xs := by
      rw [← hhd]
      unfold frameF
      rw [List.set_append_right _ _ (by omega), List.take_left' rfl]
    have hd : ((frameF xs).set i y).drop ((pu xs.length).length + xs.length) = (low4 (maskN (crc 0 (headF xs)))).set (i - (headF xs).length) y := by
      rw [← hhd]
      unfold frameF
      rw [List.set_append_right _ _ (by omega), List.drop_left' rfl]
    rw [hd, ht]
    intro hlow
    have hil : i - (headF xs).length < 4 := by omega
    rw [List.take_of_length_le (by rw [List.length_set, low4_length]; omega)] at hlow
    have h5 : (frameF xs)[i]? = (low4 (maskN (crc 0 (headF xs))))[i - (headF xs).length]? := by
      unfold frameF
      rw [List.getElem?_append_right (by omega)]
    have h6 : ((low4 (maskN (crc 0 (headF xs)))).set (i - (headF xs).length) y)[i - (headF xs).length]? = (low4 (maskN (crc 0 (headF xs))))[i - (headF xs).length]? := by rw [hlow]
    rw [List.getElem?_set_self (by rw [low4_length]; exact hil)] at h6
    exact hy (by rw [h5, ← h6])
end
section
set_option linter.unusedVariables false
set_option linter.unusedSimpArgs false
open Go.RowKit
/-- Frames of rows of bytes, one behind the other. -/
def framesF (L : List (List UInt8)) : List UInt8 := L.flatMap frameF
theorem framesF_cons (l : List UInt8) (L : List (List UInt8)) : framesF (l :: L) = frameF l ++ framesF L := by simp [framesF]
theorem framesF_snoc (L : List (List UInt8)) (l : List UInt8) : framesF (L ++ [l]) = framesF L ++ frameF l := by simp [framesF]
theorem frameF_pos (l : List UInt8) : 0 < (frameF l).length := by rw [frameF_length]; omega
theorem frameF_ne (l : List UInt8) : frameF l ≠ [] := fun h => by have := frameF_pos l; rw [h] at this; simp at this

/-- How many of the frames are whole, and how many bytes these have. -/
def wholeF : List (List UInt8) → Nat → Nat × Nat
  | [], _ => (0, 0)
  | l :: L, cut => if (frameF l).length ≤ cut then ((wholeF L (cut - (frameF l).length)).1 + 1, (frameF l).length + (wholeF L (cut - (frameF l).length)).2) else (0, 0)

theorem getF_torn (xs : List UInt8) (cut : Nat) (hl : xs.length ≤ 1048576) (hc : cut < (frameF xs).length) : getF ((frameF xs).take cut) = ([], 0, 6) := by
  have hfl := frameF_length xs
  have hl10 := pu_len 10 xs.length (by omega)
  have e : frameF xs = pu xs.length ++ (xs ++ low4 (maskN (crc 0 (headF xs)))) := by simp [frameF, headF, List.append_assoc]
  by_cases hp : cut < (pu xs.length).length
  · have hu : uvS 0 0 ((frameF xs).take cut) = (0, 0, 6) := by
      rw [e, List.take_append_of_le_length (by omega)]
      exact uvS_cut xs.length 0 0 cut hp (by omega)
    unfold getF
    rw [hu]
    simp
  · have hu : uvS 0 0 ((frameF xs).take cut) = (xs.length, (pu xs.length).length, 0) := by
      rw [e, List.take_append, List.take_of_length_le (by omega)]
      exact uvS_head _ _ hl
    unfold getF
    rw [hu]
    simp only
    rw [if_neg (by simp), if_neg (by omega), if_pos (by rw [List.length_take]; omega)]

/-- Of frames that are cut off anywhere just those are whole all of whose bytes are there. -/
theorem allF_torn (L : List (List UInt8)) : ∀ cut, (∀ l ∈ L, l.length ≤ 1048576) → cut ≤ (framesF L).length →
    allF ((framesF L).take cut) = (L.take (wholeF L cut).1, (wholeF L cut).2, if (wholeF L cut).2 = cut then 0 else 6) ∧ (wholeF L cut).1 ≤ L.length ∧ (wholeF L cut).2 ≤ cut := by
  induction L with
  | nil =>
    intro cut _ hc
    have : cut = 0 := by simpa [framesF] using hc
    subst this
    simp [framesF, wholeF, allF_nil]
  | cons l L ih =>
    intro cut hl hc
    have hl1 := hl l (by simp)
    rw [framesF_cons, List.length_append] at hc
    rw [framesF_cons]
    unfold wholeF
    by_cases hf : (frameF l).length ≤ cut
    · rw [if_pos hf]
      obtain ⟨i1, i2, i3⟩ := ih (cut - (frameF l).length) (fun x hx => hl x (List.mem_cons_of_mem _ hx)) (by omega)
      have hg := getF_frame l ((framesF L).take (cut - (frameF l).length)) hl1
      rw [List.take_append, List.take_of_length_le hf]
      rw [allF_cons (by intro h; exact frameF_ne l (List.append_eq_nil_iff.1 h).1) (by rw [hg]), hg]
      simp only
      rw [List.drop_left' rfl, i1]
      refine ⟨?_, by simp only [List.length_cons]; omega, by omega⟩
      simp only [List.take_succ_cons, Prod.mk.injEq, true_and]
      have e2 : ((frameF l).length + (wholeF L (cut - (frameF l).length)).2 = cut) = ((wholeF L (cut - (frameF l).length)).2 = cut - (frameF l).length) := propext ⟨fun h => by omega, fun h => by omega⟩
      simp only [e2]
    · rw [if_neg hf]
      rw [List.take_append_of_le_length (by omega)]
      refine ⟨?_, by omega, by omega⟩
      by_cases h0 : cut = 0
      · subst h0; simp [allF_nil]
      · have hg := getF_torn l cut hl1 (by omega)
        have hne : (frameF l).take cut ≠ [] := by
          intro h; have h2 : min cut (frameF l).length = 0 := by rw [← List.length_take, h]; rfl
          have := frameF_pos l; omega
        rw [allF_err hne (by rw [hg]; decide), hg, if_neg (by omega)]
        simp
theorem wholeF_step (l : List UInt8) (L : List (List UInt8)) (cut : Nat) (h : (frameF l).length ≤ cut) : wholeF (l :: L) cut = ((wholeF L (cut - (frameF l).length)).1 + 1, (frameF l).length + (wholeF L (cut - (frameF l).length)).2) := by
  rw [wholeF, if_pos h]
theorem wholeF_stop (l : List UInt8) (L : List (List UInt8)) (cut : Nat) (h : ¬ (frameF l).length ≤ cut) : wholeF (l :: L) cut = (0, 0) := by
  rw [wholeF, if_neg h]
theorem wholeF_nil (cut : Nat) : wholeF [] cut = (0, 0) := rfl
theorem wholeF_all (L : List (List UInt8)) : ∀ cut, (framesF L).length ≤ cut → wholeF L cut = (L.length, (framesF L).length) := by
  induction L with
  | nil => intro cut _; rfl
  | cons l L ih =>
    intro cut hc
    rw [framesF_cons, List.length_append] at hc
    unfold wholeF
    rw [if_pos (by omega), ih _ (by omega), framesF_cons, List.length_append]
    simp
theorem allF_frames (L : List (List UInt8)) (hl : ∀ l ∈ L, l.length ≤ 1048576) : allF (framesF L) = (L, (framesF L).length, 0) := by
  have h := (allF_torn L (framesF L).length hl (Nat.le_refl _)).1
  rw [wholeF_all L _ (Nat.le_refl _), List.take_length, List.take_length, if_pos rfl] at h
  exact h
theorem sizeF_frame (xs : List UInt8) (hl : xs.length ≤ 1048576) : sizeF (xs.length : Int) = (frameF xs).length := by
  unfold sizeF
  rw [if_neg (by omega), Int.toNat_natCast, frameF_length]
theorem framesF_len (L : List (List UInt8)) (hl : ∀ l ∈ L, l.length ≤ 1048576) : (framesF L).length ≤ (L.flatten).length + 14 * L.length := by
  induction L with
  | nil => simp [framesF]
  | cons l L ih =>
    have := ih (fun x hx => hl x (List.mem_cons_of_mem _ hx))
    have h1 := frameF_length l
    have h2 := pu_len 10 l.length (by have := hl l (by simp); omega)
    rw [framesF_cons, List.length_append, List.flatten_cons, List.length_append, List.length_cons]
    omega
end
end Go.Proofs.YtnmbjhpecblioaaGreatDoor
