/-
  Frames, plainly: what was put is got, whatever stands behind.
-/
import Derived.Test.YtnbgpmgcnfhfeaaDoorFg
import Derived.Test.YtnbgpmgcnfhfeaaDoorUvLaws
namespace Go.Proofs.YtnbgpmgcnfhfeaaDoor
set_option linter.unusedVariables false
set_option linter.unusedSimpArgs false

theorem uvS_head (n : Nat) (r : List UInt8) (hn : n ≤ 1048576) : uvS 0 0 (pu n ++ r) = (n, (pu n).length, 0) := by
  have hl10 := pu_len 10 n (by omega)
  have h := uvS_pu n 0 0 r (Or.inl rfl) (by omega) (by omega)
  rw [Nat.mul_zero, Nat.pow_zero, Nat.mul_one, Nat.zero_add, Nat.zero_add] at h
  exact h
theorem getF_frame (xs zs : List UInt8) (hl : xs.length ≤ 1048576) : getF (frameF xs ++ zs) = (xs, (frameF xs).length, 0) := by
  have hfl := frameF_length xs
  have e : frameF xs ++ zs = pu xs.length ++ (xs ++ (low4 (maskN (crc 0 (headF xs))) ++ zs)) := by simp [frameF, headF, List.append_assoc]
  have hu : uvS 0 0 (frameF xs ++ zs) = (xs.length, (pu xs.length).length, 0) := by rw [e]; exact uvS_head _ _ hl
  unfold getF
  rw [hu]
  simp only
  have hhd : (headF xs).length = (pu xs.length).length + xs.length := by simp [headF]
  have ht : (frameF xs ++ zs).take ((pu xs.length).length + xs.length) = headF xs := by
    rw [show frameF xs ++ zs = headF xs ++ (low4 (maskN (crc 0 (headF xs))) ++ zs) from by simp [frameF], ← hhd, List.take_left']; rfl
  have hd : (frameF xs ++ zs).drop ((pu xs.length).length + xs.length) = low4 (maskN (crc 0 (headF xs))) ++ zs := by
    rw [show frameF xs ++ zs = headF xs ++ (low4 (maskN (crc 0 (headF xs))) ++ zs) from by simp [frameF], ← hhd, List.drop_left']; rfl
  have hd2 : (frameF xs ++ zs).drop (pu xs.length).length = xs ++ (low4 (maskN (crc 0 (headF xs))) ++ zs) := by rw [e, List.drop_left']; rfl
  rw [if_neg (by simp), if_neg (by omega), if_neg (by rw [List.length_append]; omega), ht, hd, if_pos (by rfl), hd2, List.take_left' rfl, hfl]
theorem set_turn {α : Type} (l : List α) (i : Nat) (y : α) (h : i < l.length) : l = l.take i ++ l[i] :: l.drop (i + 1) ∧ l.set i y = l.take i ++ y :: l.drop (i + 1) := by
  refine ⟨?_, List.set_eq_take_append_cons_drop ▸ by rw [if_pos h]⟩
  rw [← List.drop_eq_getElem_cons h, List.take_append_drop]
/-- A frame of which one byte behind the length is another one. -/
theorem getF_turned (xs : List UInt8) (i : Nat) (y : UInt8) (hl : xs.length ≤ 1048576) (h0 : (pu xs.length).length ≤ i) (hi : i < (frameF xs).length) (hy : (frameF xs)[i]? ≠ some y) :
    getF ((frameF xs).set i y) = ([], 0, 20) := by
  have hfl := frameF_length xs
  have hhd : (headF xs).length = (pu xs.length).length + xs.length := by simp [headF]
  have hpt : (frameF xs).take (pu xs.length).length = pu xs.length := by
    rw [show frameF xs = pu xs.length ++ (xs ++ low4 (maskN (crc 0 (headF xs)))) from by simp [frameF, headF, List.append_assoc], List.take_left' rfl]
  have e : (frameF xs).set i y = pu xs.length ++ ((frameF xs).set i y).drop (pu xs.length).length := by
    conv => lhs; rw [← List.take_append_drop (pu xs.length).length ((frameF xs).set i y)]
    rw [List.take_set_of_le h0, hpt]
  have hu : uvS 0 0 ((frameF xs).set i y) = (xs.length, (pu xs.length).length, 0) := by rw [e]; exact uvS_head _ _ hl
  unfold getF
  rw [hu]
  simp only
  rw [if_neg (by simp), if_neg (by omega), if_neg (by rw [List.length_set]; omega), if_neg]
  by_cases hc : i < (headF xs).length
  · have hd : ((frameF xs).set i y).drop ((pu xs.length).length + xs.length) = low4 (maskN (crc 0 (headF xs))) := by
      rw [← hhd, List.drop_set_of_lt hc]
      unfold frameF
      rw [List.drop_left' rfl]
    have ht : ((frameF xs).set i y).take ((pu xs.length).length + xs.length) = (headF xs).set i y := by
      rw [← hhd]
      unfold frameF
      rw [List.set_append_left _ _ hc, List.take_left' (by rw [List.length_set])]
    rw [hd, ht]
    intro hlow
    have h1 := low4_inj (maskN_lt _) (maskN_lt _) hlow
    have h2 := mask_inj (crc_lt (by decide) _) (crc_lt (by decide) _) h1
    obtain ⟨s1, s2⟩ := set_turn (headF xs) i y hc
    rw [s2] at h2
    have h3 : crc 0 ((headF xs).take i ++ (headF xs)[i] :: (headF xs).drop (i + 1)) = crc 0 ((headF xs).take i ++ y :: (headF xs).drop (i + 1)) := by rw [← s1]; exact h2
    have h4 := crc_turn _ _ h3
    have h5 : (frameF xs)[i]? = some (headF xs)[i] := by
      unfold frameF
      rw [List.getElem?_append_left hc, List.getElem?_eq_getElem hc]
    exact hy (by rw [h5, h4])
  · have ht : ((frameF xs).set i y).take ((pu xs.length).length + xs.length) = headF xs := by
      rw [← hhd]
      unfold frameF
      rw [List.set_append_right _ _ (by omega), List.take_left' rfl]
    have hd : ((frameF xs).set i y).drop ((pu xs.length).length + xs.length) = (low4 (maskN (crc 0 (headF xs)))).set (i - (headF xs).length) y := by
      rw [← hhd]
      unfold frameF
      rw [List.set_append_right _ _ (by omega), List.drop_left' rfl]
    rw [hd, ht]
    intro hlow
    have hil : i - (headF xs).length < 4 := by omega
    rw [List.take_of_length_le (by rw [List.length_set, low4_length]; omega)] at hlow
    have h5 : (frameF xs)[i]? = (low4 (maskN (crc 0 (headF xs))))[i - (headF xs).length]? := by
      unfold frameF
      rw [List.getElem?_append_right (by omega)]
    have h6 : ((low4 (maskN (crc 0 (headF xs)))).set (i - (headF xs).length) y)[i - (headF xs).length]? = (low4 (maskN (crc 0 (headF xs))))[i - (headF xs).length]? := by rw [hlow]
    rw [List.getElem?_set_self (by rw [low4_length]; exact hil)] at h6
    exact hy (by rw [h5, ← h6])
end Go.Proofs.YtnbgpmgcnfhfeaaDoor
