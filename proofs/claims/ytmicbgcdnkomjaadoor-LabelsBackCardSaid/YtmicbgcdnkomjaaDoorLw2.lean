/-
  Labels there and back in bytes, plainly.
-/
import Derived.Test.YtmicbgcdnkomjaaDoorLu
import Derived.Test.YtmicbgcdnkomjaaDoorTb
namespace Go.Proofs.YtmicbgcdnkomjaaDoor
set_option linter.unusedVariables false
set_option linter.unusedSimpArgs false
open Go.RowKit
/-- So many labels: what they are, how many bytes they took, what was wrong. -/
def labsAt : Nat → Bs → List Lb × Nat × Nat
  | 0, _ => ([], 0, 0)
  | k + 1, b =>
    if (labelAt b).2.2 ≠ 0 then ([], 0, (labelAt b).2.2)
    else if (labsAt k (b.drop (labelAt b).2.1)).2.2 ≠ 0 then ([], 0, (labsAt k (b.drop (labelAt b).2.1)).2.2)
    else ((labelAt b).1 :: (labsAt k (b.drop (labelAt b).2.1)).1, (labelAt b).2.1 + (labsAt k (b.drop (labelAt b).2.1)).2.1, 0)
/-- The labels of bytes. -/
def takeP (b : Bs) : List Lb × Nat × Nat :=
  if (uvS 0 0 b).2.2 ≠ 0 then ([], 0, (uvS 0 0 b).2.2)
  else if 16 < (uvS 0 0 b).1 then ([], 0, 3)
  else if (labsAt (uvS 0 0 b).1 (b.drop (uvS 0 0 b).2.1)).2.2 ≠ 0 then ([], 0, (labsAt (uvS 0 0 b).1 (b.drop (uvS 0 0 b).2.1)).2.2)
  else if rightP (labsAt (uvS 0 0 b).1 (b.drop (uvS 0 0 b).2.1)).1 ≠ 0 then ([], 0, rightP (labsAt (uvS 0 0 b).1 (b.drop (uvS 0 0 b).2.1)).1)
  else ((labsAt (uvS 0 0 b).1 (b.drop (uvS 0 0 b).2.1)).1, (uvS 0 0 b).2.1 + (labsAt (uvS 0 0 b).1 (b.drop (uvS 0 0 b).2.1)).2.1, 0)
def Small (l : List Lb) : Prop := ∀ x ∈ l, x.1.size ≤ 64 ∧ x.2.size ≤ 128
theorem labBytes_cons (x : Lb) (l : List Lb) : labBytes (x :: l) = sizedP x.1 ++ sizedP x.2 ++ labBytes l := by unfold labBytes; rw [List.flatMap_cons]
theorem labsAt_put : ∀ (l : List Lb) (r : Bs), Small l → labsAt l.length (labBytes l ++ r) = (l, (labBytes l).length, 0)
  | [], r, _ => rfl
  | x :: l, r, h => by
    have hx := h x List.mem_cons_self
    have hl := labsAt_put l r (fun y hy => h y (List.mem_cons_of_mem _ hy))
    have e1 := labelAt_put hx.1 hx.2 (labBytes l ++ r)
    have e2 : (sizedP x.1 ++ sizedP x.2 ++ (labBytes l ++ r)).drop ((sizedP x.1).length + (sizedP x.2).length) = labBytes l ++ r := by
      rw [← List.length_append, List.drop_left]
    rw [labBytes_cons, List.append_assoc, List.length_cons, labsAt, e1]
    simp only
    rw [e2, hl]
    simp [Nat.add_assoc]
theorem labsAt_cut : ∀ (l : List Lb) (i : Nat), Small l → i < (labBytes l).length → labsAt l.length ((labBytes l).take i) = ([], 0, 6)
  | [], i, _, h => absurd h (Nat.not_lt_zero _)
  | x :: l, i, h, hi => by
    have hx := h x List.mem_cons_self
    rw [labBytes_cons] at hi ⊢
    rw [List.length_append, List.length_append] at hi
    rw [List.length_cons, labsAt]
    by_cases hc : i < (sizedP x.1).length + (sizedP x.2).length
    · have e : (sizedP x.1 ++ sizedP x.2 ++ labBytes l).take i = (sizedP x.1 ++ sizedP x.2).take i := List.take_append_of_le_length (by rw [List.length_append]; omega)
      rw [e, labelAt_cut hx.1 hx.2 hc]
      simp
    · have e : (sizedP x.1 ++ sizedP x.2 ++ labBytes l).take i = sizedP x.1 ++ sizedP x.2 ++ (labBytes l).take (i - ((sizedP x.1).length + (sizedP x.2).length)) := by
        rw [List.take_append, List.take_of_length_le (by rw [List.length_append]; omega), List.length_append]
      have e1 := labelAt_put hx.1 hx.2 ((labBytes l).take (i - ((sizedP x.1).length + (sizedP x.2).length)))
      have e2 : (sizedP x.1 ++ sizedP x.2 ++ (labBytes l).take (i - ((sizedP x.1).length + (sizedP x.2).length))).drop ((sizedP x.1).length + (sizedP x.2).length) = (labBytes l).take (i - ((sizedP x.1).length + (sizedP x.2).length)) := by
        rw [← List.length_append, List.drop_left]
      rw [e, e1]
      simp only
      rw [e2, labsAt_cut l _ (fun y hy => h y (List.mem_cons_of_mem _ hy)) (by omega)]
      simp
theorem takeP_put {l : List Lb} (h0 : rightP l = 0) (hs : Small l) (h16 : l.length ≤ 16) (r : Bs) : takeP (pu l.length ++ labBytes l ++ r) = (l, (pu l.length ++ labBytes l).length, 0) := by
  have hu : uvS 0 0 (pu l.length ++ labBytes l ++ r) = (l.length, (pu l.length).length, 0) := by rw [List.append_assoc]; exact uv_of_pu (by omega) _
  have e : (pu l.length ++ labBytes l ++ r).drop (pu l.length).length = labBytes l ++ r := by rw [List.append_assoc, List.drop_left]
  unfold takeP
  rw [hu]
  simp only
  rw [e, labsAt_put l r hs]
  simp only
  rw [if_neg (by simp), if_neg (by omega), if_neg (by simp), if_neg (by omega), List.length_append]
theorem takeP_cut {l : List Lb} (hs : Small l) (h16 : l.length ≤ 16) {i : Nat} (hi : i < (pu l.length ++ labBytes l).length) : takeP ((pu l.length ++ labBytes l).take i) = ([], 0, 6) := by
  have h10 := pu_len 10 l.length (by omega)
  rw [List.length_append] at hi
  by_cases h : i < (pu l.length).length
  · have e : (pu l.length ++ labBytes l).take i = (pu l.length).take i := List.take_append_of_le_length (by omega)
    have hu := uvS_cut l.length 0 0 i h (by omega)
    unfold takeP
    rw [e, hu]
    simp
  · have e : (pu l.length ++ labBytes l).take i = pu l.length ++ (labBytes l).take (i - (pu l.length).length) := by
      rw [List.take_append, List.take_of_length_le (by omega)]
    have hu := uv_of_pu (n := l.length) (by omega) ((labBytes l).take (i - (pu l.length).length))
    unfold takeP
    rw [e, hu]
    simp only
    rw [List.drop_left, labsAt_cut l _ hs (by omega)]
    simp only
    rw [if_neg (by simp), if_neg (by omega), if_pos (by simp)]
end Go.Proofs.YtmicbgcdnkomjaaDoor
