/-
  Texts and labels there and back in bytes, plainly.
  Labels there and back in bytes, plainly.
  Bytes that are taken as labels are those of the labels, plainly.
-/
import Derived.Test.YtgogpngobdafaaaDoorLa
import Derived.Test.YtgogpngobdafaaaDoorLp
import Derived.Test.YtgogpngobdafaaaDoorLb
namespace Go.Proofs.YtgogpngobdafaaaDoor
set_option linter.unusedVariables false
set_option linter.unusedSimpArgs false
section
set_option linter.unusedVariables false
set_option linter.unusedSimpArgs false
open Go.RowKit
theorem sizedP_len (s : ByteArray) : (sizedP s).length = (pu s.size).length + s.size := by unfold sizedP; rw [List.length_append, bl_len]
theorem uv_of_pu {n : Nat} (h : n ≤ 1000) (r : Bs) : uvS 0 0 (pu n ++ r) = (n, (pu n).length, 0) := by
  have h10 := pu_len 10 n (by omega)
  have := uvS_pu n 0 0 r (.inl rfl) (by omega) (by simp; omega)
  simpa using this
theorem textAt_put {s : ByteArray} {most : Nat} (hs : s.size ≤ most) (hm : most ≤ 1000) (r : Bs) : textAt (sizedP s ++ r) most = (s, (sizedP s).length, 0) := by
  have hu : uvS 0 0 (sizedP s ++ r) = (s.size, (pu s.size).length, 0) := by unfold sizedP; rw [List.append_assoc]; exact uv_of_pu (by omega) _
  have hl := sizedP_len s
  unfold textAt
  rw [hu]
  simp only
  rw [if_neg (by simp), if_neg (by omega), if_neg (by rw [List.length_append, hl]; omega)]
  have e : ((sizedP s ++ r).drop (pu s.size).length).take s.size = bl s := by
    unfold sizedP
    rw [List.append_assoc, List.drop_left, ← bl_len s, List.take_left]
  rw [e, mk_bl, hl]
theorem textAt_cut {s : ByteArray} {most i : Nat} (hs : s.size ≤ most) (hm : most ≤ 1000) (hi : i < (sizedP s).length) : textAt ((sizedP s).take i) most = (⟨#[]⟩, 0, 6) := by
  have h10 := pu_len 10 s.size (by omega)
  rw [sizedP_len] at hi
  by_cases h : i < (pu s.size).length
  · have e : (sizedP s).take i = (pu s.size).take i := by unfold sizedP; exact List.take_append_of_le_length (by omega)
    have hu := uvS_cut s.size 0 0 i h (by omega)
    unfold textAt
    rw [e, hu]
    simp
  · have e : (sizedP s).take i = pu s.size ++ (bl s).take (i - (pu s.size).length) := by
      unfold sizedP; rw [List.take_append, List.take_of_length_le (by omega)]
    have hu := uv_of_pu (n := s.size) (by omega) ((bl s).take (i - (pu s.size).length))
    unfold textAt
    rw [e, hu]
    simp only
    rw [if_neg (by simp), if_neg (by omega), if_pos]
    rw [List.length_append, List.length_take, bl_len]
    omega
theorem labelAt_put {x : Lb} (h1 : x.1.size ≤ 64) (h2 : x.2.size ≤ 128) (r : Bs) : labelAt (sizedP x.1 ++ sizedP x.2 ++ r) = (x, (sizedP x.1).length + (sizedP x.2).length, 0) := by
  have e1 : textAt (sizedP x.1 ++ sizedP x.2 ++ r) 64 = (x.1, (sizedP x.1).length, 0) := by rw [List.append_assoc]; exact textAt_put h1 (by decide) _
  have e2 : (sizedP x.1 ++ sizedP x.2 ++ r).drop (sizedP x.1).length = sizedP x.2 ++ r := by rw [List.append_assoc, List.drop_left]
  unfold labelAt
  rw [e1]
  simp only
  rw [e2, textAt_put h2 (by decide) r]
  simp
theorem labelAt_cut {x : Lb} {i : Nat} (h1 : x.1.size ≤ 64) (h2 : x.2.size ≤ 128) (hi : i < (sizedP x.1).length + (sizedP x.2).length) : labelAt ((sizedP x.1 ++ sizedP x.2).take i) = ((⟨#[]⟩, ⟨#[]⟩), 0, 6) := by
  by_cases h : i < (sizedP x.1).length
  · have e : (sizedP x.1 ++ sizedP x.2).take i = (sizedP x.1).take i := List.take_append_of_le_length (by omega)
    unfold labelAt
    rw [e, textAt_cut h1 (by decide) h]
    simp
  · have e : (sizedP x.1 ++ sizedP x.2).take i = sizedP x.1 ++ (sizedP x.2).take (i - (sizedP x.1).length) := by
      rw [List.take_append, List.take_of_length_le (by omega)]
    have e1 := textAt_put h1 (show 64 ≤ 1000 by decide) ((sizedP x.2).take (i - (sizedP x.1).length))
    unfold labelAt
    rw [e, e1]
    simp only
    rw [List.drop_left, textAt_cut h2 (by decide) (by omega)]
    simp
end
section
set_option linter.unusedVariables false
set_option linter.unusedSimpArgs false
open Go.RowKit
/-- So many labels: what they are, how many bytes they took, what was wrong. -/
def labsAt : Nat → Bs → List Lb × Nat × Nat
  | 0, _ => ([], 0, 0)
  | k + 1, b =>
    if (labelAt b).2.2 ≠ 0 then ([], 0, (labelAt b).2.2)
    else if (labsAt k (b.drop (labelAt b).2.1)).2.2 ≠ 0 then ([], 0, (labsAt k (b.drop (labelAt b).2.1)).2.2)
    else ((labelAt b).1 :: (labsAt k (b.drop (labelAt b).2.1)).1, (labelAt b).2.1 + (labsAt k (b.drop (labelAt b).2.1)).2.1, 0)
/-- The labels of bytes. -/
def takeP (b : Bs) : List Lb × Nat × Nat :=
  if (uvS 0 0 b).2.2 ≠ 0 then ([], 0, (uvS 0 0 b).2.2)
  else if 16 < (uvS 0 0 b).1 then ([], 0, 3)
  else if (labsAt (uvS 0 0 b).1 (b.drop (uvS 0 0 b).2.1)).2.2 ≠ 0 then ([], 0, (labsAt (uvS 0 0 b).1 (b.drop (uvS 0 0 b).2.1)).2.2)
  else if rightP (labsAt (uvS 0 0 b).1 (b.drop (uvS 0 0 b).2.1)).1 ≠ 0 then ([], 0, rightP (labsAt (uvS 0 0 b).1 (b.drop (uvS 0 0 b).2.1)).1)
  else ((labsAt (uvS 0 0 b).1 (b.drop (uvS 0 0 b).2.1)).1, (uvS 0 0 b).2.1 + (labsAt (uvS 0 0 b).1 (b.drop (uvS 0 0 b).2.1)).2.1, 0)
def Small (l : List Lb) : Prop := ∀ x ∈ l, x.1.size ≤ 64 ∧ x.2.size ≤ 128
theorem labBytes_cons (x : Lb) (l : List Lb) : labBytes (x :: l) = sizedP x.1 ++ sizedP x.2 ++ labBytes l := by unfold labBytes; rw [List.flatMap_cons]
theorem labsAt_put : ∀ (l : List Lb) (r : Bs), Small l → labsAt l.length (labBytes l ++ r) = (l, (labBytes l).length, 0)
  | [], r, _ => rfl
  | x :: l, r, h => by
    have hx := h x List.mem_cons_self
    have hl := labsAt_put l r (fun y hy => h y (List.mem_cons_of_mem _ hy))
    have e1 := labelAt_put hx.1 hx.2 (labBytes l ++ r)
    have e2 : (sizedP x.1 ++ sizedP x.2 ++ (labBytes l ++ r)).drop ((sizedP x.1).length + (sizedP x.2).length) = labBytes l ++ r := by
      rw [← List.length_append, List.drop_left]
    rw [labBytes_cons, List.append_assoc, List.length_cons, labsAt, e1]
    simp only
    rw [e2, hl]
    simp [Nat.add_assoc]
theorem labsAt_cut : ∀ (l : List Lb) (i : Nat), Small l → i < (labBytes l).length → labsAt l.length ((labBytes l).take i) = ([], 0, 6)
  | [], i, _, h => absurd h (Nat.not_lt_zero _)
  | x :: l, i, h, hi => by
    have hx := h x List.mem_cons_self
    rw [labBytes_cons] at hi ⊢
    rw [List.length_append, List.length_append] at hi
    rw [List.length_cons, labsAt]
    by_cases hc : i < (sizedP x.1).length + (sizedP x.2).length
    · have e : (sizedP x.1 ++ sizedP x.2 ++ labBytes l).take i = (sizedP x.1 ++ sizedP x.2).take i := List.take_append_of_le_length (by rw [List.length_append]; omega)
      rw [e, labelAt_cut hx.1 hx.2 hc]
      simp
    · have e : (sizedP x.1 ++ sizedP x.2 ++ labBytes l).take i = sizedP x.1 ++ sizedP x.2 ++ (labBytes l).take (i - ((sizedP x.1).length + (sizedP x.2).length)) := by
        rw [List.take_append, List.take_of_length_le (by rw [List.length_append]; omega), List.length_append]
      have e1 := labelAt_put hx.1 hx.2 ((labBytes l).take (i - ((sizedP x.1).length + (sizedP x.2).length)))
      have e2 : (sizedP x.1 ++ sizedP x.2 ++ (labBytes l).take (i - ((sizedP x.1).length + (sizedP x.2).length))).drop ((sizedP x.1).length + (sizedP x.2).length) = (labBytes l).take (i - ((sizedP x.1).length + (sizedP x.2).length)) := by
        rw [← List.length_append, List.drop_left]
      rw [e, e1]
      simp only
      rw [e2, labsAt_cut l _ (fun y hy => h y (List.mem_cons_of_mem _ hy)) (by omega)]
      simp
theorem takeP_put {l : List Lb} (h0 : rightP l = 0) (hs : Small l) (h16 : l.length ≤ 16) (r : Bs) : takeP (pu l.length ++ labBytes l ++ r) = (l, (pu l.length ++ labBytes l).length, 0) := by
  have hu : uvS 0 0 (pu l.length ++ labBytes l ++ r) = (l.length, (pu l.length).length, 0) := by rw [List.append_assoc]; exact uv_of_pu (by omega) _
  have e : (pu l.length ++ labBytes l ++ r).drop (pu l.length).length = labBytes l ++ r := by rw [List.append_assoc, List.drop_left]
  unfold takeP
  rw [hu]
  simp only
  rw [e, labsAt_put l r hs]
  simp only
  rw [if_neg (by simp), if_neg (by omega), if_neg (by simp), if_neg (by omega), List.length_append]
theorem takeP_cut {l : List Lb} (hs : Small l) (h16 : l.length ≤ 16) {i : Nat} (hi : i < (pu l.length ++ labBytes l).length) : takeP ((pu l.length ++ labBytes l).take i) = ([], 0, 6) := by
  have h10 := pu_len 10 l.length (by omega)
  rw [List.length_append] at hi
  by_cases h : i < (pu l.length).length
  · have e : (pu l.length ++ labBytes l).take i = (pu l.length).take i := List.take_append_of_le_length (by omega)
    have hu := uvS_cut l.length 0 0 i h (by omega)
    unfold takeP
    rw [e, hu]
    simp
  · have e : (pu l.length ++ labBytes l).take i = pu l.length ++ (labBytes l).take (i - (pu l.length).length) := by
      rw [List.take_append, List.take_of_length_le (by omega)]
    have hu := uv_of_pu (n := l.length) (by omega) ((labBytes l).take (i - (pu l.length).length))
    unfold takeP
    rw [e, hu]
    simp only
    rw [List.drop_left, labsAt_cut l _ hs (by omega)]
    simp only
    rw [if_neg (by simp), if_neg (by omega), if_pos (by simp)]
end
section
set_option linter.unusedVariables false
set_option linter.unusedSimpArgs false
open Go.RowKit
theorem pu_form {b : Bs} (h : (uvS 0 0 b).2.2 = 0) : pu (uvS 0 0 b).1 = b.take (uvS 0 0 b).2.1 ∧ (uvS 0 0 b).2.1 ≤ b.length := by
  obtain ⟨y, h1, h2, h3, h4, -⟩ := uvS_form_of b 0 0 (uvS 0 0 b).1 (uvS 0 0 b).2.1 (by omega) (Prod.ext rfl (Prod.ext rfl h))
  simp only [Nat.mul_zero, Nat.pow_zero, Nat.mul_one, Nat.zero_add, Nat.sub_zero] at h1 h3 h4
  rw [h1]
  exact ⟨h4, h3⟩
theorem take_two (b : Bs) (k n : Nat) : b.take k ++ (b.drop k).take n = b.take (k + n) := List.take_add.symm
theorem textAt_form {b : Bs} {most : Nat} (h : (textAt b most).2.2 = 0) : sizedP (textAt b most).1 = b.take (textAt b most).2.1 := by
  have hf := @pu_form b
  unfold textAt at h ⊢
  by_cases h1 : (uvS 0 0 b).2.2 ≠ 0
  · rw [if_pos h1] at h; exact absurd h h1
  · rw [if_neg h1] at h ⊢
    obtain ⟨f1, f2⟩ := hf (by omega)
    by_cases h2 : most < (uvS 0 0 b).1
    · rw [if_pos h2] at h; simp at h
    · rw [if_neg h2] at h ⊢
      by_cases h3 : b.length - (uvS 0 0 b).2.1 < (uvS 0 0 b).1
      · rw [if_pos h3] at h; simp at h
      · rw [if_neg h3]
        have hl : ((b.drop (uvS 0 0 b).2.1).take (uvS 0 0 b).1).length = (uvS 0 0 b).1 := by rw [List.length_take, List.length_drop]; omega
        unfold sizedP
        simp only [mkB_size, hl, bl_mk]
        rw [f1, take_two]
theorem labelAt_form {b : Bs} (h : (labelAt b).2.2 = 0) : sizedP (labelAt b).1.1 ++ sizedP (labelAt b).1.2 = b.take (labelAt b).2.1 := by
  have hf := @textAt_form b 64
  have hg := @textAt_form (b.drop (textAt b 64).2.1) 128
  unfold labelAt at h ⊢
  by_cases h1 : (textAt b 64).2.2 ≠ 0
  · rw [if_pos h1] at h; exact absurd h h1
  · rw [if_neg h1] at h ⊢
    by_cases h2 : (textAt (b.drop (textAt b 64).2.1) 128).2.2 ≠ 0
    · rw [if_pos h2] at h; exact absurd h h2
    · rw [if_neg h2]
      simp only
      rw [hf (by omega), hg (by omega), take_two]
theorem labsAt_form : ∀ (k : Nat) (b : Bs), (labsAt k b).2.2 = 0 → labBytes (labsAt k b).1 = b.take (labsAt k b).2.1 ∧ (labsAt k b).1.length = k ∧ (labsAt k b).2.1 ≤ b.length
  | 0, b, _ => ⟨by simp [labsAt, labBytes], rfl, Nat.zero_le _⟩
  | k + 1, b, h => by
    have hf := @labelAt_form b
    have hle := (labelAt_le b).1
    have ih := labsAt_form k (b.drop (labelAt b).2.1)
    rw [labsAt] at h ⊢
    by_cases h1 : (labelAt b).2.2 ≠ 0
    · rw [if_pos h1] at h; exact absurd h h1
    · rw [if_neg h1] at h ⊢
      by_cases h2 : (labsAt k (b.drop (labelAt b).2.1)).2.2 ≠ 0
      · rw [if_pos h2] at h; exact absurd h h2
      · rw [if_neg h2]
        obtain ⟨i1, i2, i3⟩ := ih (by omega)
        rw [List.length_drop] at i3
        refine ⟨?_, ?_, ?_⟩
        · simp only
          rw [labBytes_cons, hf (by omega), i1, take_two]
        · simp only [List.length_cons]; omega
        · simp only; omega
theorem takeP_form {b : Bs} (h : (takeP b).2.2 = 0) : bytesP (takeP b).1 = (0, b.take (takeP b).2.1) ∧ (takeP b).2.1 ≤ b.length := by
  have hf := @pu_form b
  have hg := labsAt_form (uvS 0 0 b).1 (b.drop (uvS 0 0 b).2.1)
  unfold takeP at h ⊢
  by_cases h1 : (uvS 0 0 b).2.2 ≠ 0
  · rw [if_pos h1] at h; exact absurd h h1
  · rw [if_neg h1] at h ⊢
    obtain ⟨f1, f2⟩ := hf (by omega)
    by_cases h2 : 16 < (uvS 0 0 b).1
    · rw [if_pos h2] at h; simp at h
    · rw [if_neg h2] at h ⊢
      by_cases h3 : (labsAt (uvS 0 0 b).1 (b.drop (uvS 0 0 b).2.1)).2.2 ≠ 0
      · rw [if_pos h3] at h; exact absurd h h3
      · rw [if_neg h3] at h ⊢
        obtain ⟨g1, g2, g3⟩ := hg (by omega)
        by_cases h4 : rightP (labsAt (uvS 0 0 b).1 (b.drop (uvS 0 0 b).2.1)).1 ≠ 0
        · rw [if_pos h4] at h; exact absurd h h4
        · rw [if_neg h4]
          rw [List.length_drop] at g3
          refine ⟨?_, by simp only; omega⟩
          simp only
          unfold bytesP
          rw [if_neg h4, g2, f1, g1, take_two]
theorem labsAt_small : ∀ (k : Nat) (b : Bs), Small (labsAt k b).1 ∧ (labsAt k b).1.length ≤ k ∧ (labsAt k b).2.1 ≤ b.length
  | 0, b => ⟨fun x hx => by simp [labsAt] at hx, Nat.le_refl _, Nat.zero_le _⟩
  | k + 1, b => by
    obtain ⟨l1, l2, l3⟩ := labelAt_le b
    obtain ⟨i1, i2, i3⟩ := labsAt_small k (b.drop (labelAt b).2.1)
    rw [List.length_drop] at i3
    rw [labsAt]
    by_cases h1 : (labelAt b).2.2 ≠ 0
    · rw [if_pos h1]; exact ⟨fun x hx => by simp at hx, Nat.zero_le _, Nat.zero_le _⟩
    · rw [if_neg h1]
      by_cases h2 : (labsAt k (b.drop (labelAt b).2.1)).2.2 ≠ 0
      · rw [if_pos h2]; exact ⟨fun x hx => by simp at hx, Nat.zero_le _, Nat.zero_le _⟩
      · rw [if_neg h2]
        refine ⟨fun x hx => ?_, by simp only [List.length_cons]; omega, by simp only; omega⟩
        rcases List.mem_cons.1 hx with rfl | hx
        · exact ⟨l2, l3⟩
        · exact i1 x hx
theorem takeP_small (b : Bs) : Small (takeP b).1 ∧ (takeP b).1.length ≤ 16 ∧ (takeP b).2.1 ≤ b.length := by
  have hk := uvS_le' b
  obtain ⟨i1, i2, i3⟩ := labsAt_small (uvS 0 0 b).1 (b.drop (uvS 0 0 b).2.1)
  rw [List.length_drop] at i3
  have hz : Small ([] : List Lb) := fun x hx => by simp at hx
  unfold takeP
  split
  · exact ⟨hz, Nat.zero_le _, Nat.zero_le _⟩
  · split
    · exact ⟨hz, Nat.zero_le _, Nat.zero_le _⟩
    · split
      · exact ⟨hz, Nat.zero_le _, Nat.zero_le _⟩
      · split
        · exact ⟨hz, Nat.zero_le _, Nat.zero_le _⟩
        · exact ⟨i1, by simp only; omega, by simp only; omega⟩
theorem small_few {l : List Lb} (h : Small l) (hl : l.length ≤ 16) : Few l := ⟨by omega, fun x hx => by have := h x hx; omega⟩
theorem right_small {l : List Lb} (h : rightP l = 0) : Small l ∧ l.length ≤ 16 := by
  obtain ⟨h1, h2, -⟩ := right_parts h
  refine ⟨fun x hx => ?_, h1⟩
  obtain ⟨n, v⟩ := fault_parts (h2 x hx).1
  unfold valuedP at v
  simp only [Bool.and_eq_true, decide_eq_true_eq] at v
  have := (named_parts n).2.1
  rw [bl_len] at this
  have h2 := v.1
  rw [bl_len] at h2
  exact ⟨this, h2⟩
end
end Go.Proofs.YtgogpngobdafaaaDoor
