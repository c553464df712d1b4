/-
  A log opened anew behind a crash, plainly. Nothing here speaks of the program.
-/
import Derived.Test.YtnmbjhpecblioaaGreatDoorWj
namespace Go.Proofs.YtnmbjhpecblioaaGreatDoor
set_option linter.unusedVariables false
set_option linter.unusedSimpArgs false
theorem crash_app (keep : Int) (A B : List Fl) : crashD keep (A ++ B) = crashD keep A ++ crashD keep B := by unfold crashD; rw [List.filterMap_append]
theorem crash_full (keep : Int) : ∀ (f : Nat) (ds : List Ch), (∀ d ∈ ds, d ≠ []) → crashD keep (fullW f ds) = fullW f ds
  | f, [], _ => rfl
  | f, d :: ds, h => by
    have ih := crash_full keep (f + 1) ds fun x hx => h x (List.mem_cons_of_mem _ hx)
    have hp := frames_ne (h d (List.mem_cons_self ..))
    unfold crashD at ih ⊢
    rw [fullW, List.filterMap_cons]
    have hl : leftD keep (titleN f, framesF d, (framesF d).length) = (framesF d).length := by unfold leftD; simp
    unfold crashF at ih ⊢
    rw [hl, if_neg (by omega)]
    simp only
    rw [List.take_length, ih]
theorem crash_tail (keep : Int) (n : Nat) (c : Ch) (m : Nat) (hm : m ≤ (framesF c).length) : ∃ cut, m ≤ cut ∧ cut ≤ (framesF c).length ∧ crashD keep (tailW n c m) = if c = [] ∨ cut = 0 then [] else [(titleN n, (framesF c).take cut, cut)] := by
  refine ⟨m + min keep.toNat ((framesF c).length - m), by omega, by omega, ?_⟩
  unfold tailW
  by_cases hc : c = []
  · rw [if_pos hc, if_pos (.inl hc)]; rfl
  · rw [if_neg hc]
    unfold crashD
    rw [List.filterMap_cons, List.filterMap_nil]
    unfold crashF
    have hl : leftD keep (titleN n, framesF c, m) = m + min keep.toNat ((framesF c).length - m) := rfl
    rw [hl]
    by_cases h0 : m + min keep.toNat ((framesF c).length - m) = 0
    · rw [if_pos h0, if_pos (.inr h0)]
    · rw [if_neg h0, if_neg (fun hh => hh.elim hc h0)]
theorem whole_ge : ∀ (c : Ch) (j cut : Nat), j ≤ c.length → (framesF (c.take j)).length ≤ cut → j ≤ (wholeF c cut).1
  | _, 0, _, _, _ => Nat.zero_le _
  | l :: L, j + 1, cut, hj, h => by
    rw [List.take_succ_cons, framesF_cons, List.length_append] at h
    have ih := whole_ge L j (cut - (frameF l).length) (by simpa using hj) (by omega)
    rw [wholeF_step l L cut (by omega)]
    simp only
    omega
/-- A log opened behind a crash: a beginning of its records, all that was sure. -/
theorem crash_view {g : Lg} {ds : List Ch} {c : Ch} {j : Nat} (h : Inv g ds c j) (keep : Int) : ¬ gapW (segsW (crashD keep g.1)) ∧
    ∃ x post cut, openR (crashD keep g.1) (lastW (segsW (crashD keep g.1))) (segsW (crashD keep g.1)) = (x, 0, cut) ∧ ds.flatten ++ c = x ++ post ∧ g.2.2.2 ≤ x.length := by
  have hb := h.few
  have hL : g.1 = fullW 1 ds ++ tailW (1 + ds.length) c (framesF (c.take j)).length := by rw [h.is]
  have hsu : g.2.2.2 = ds.flatten.length + j := by rw [h.is]
  have hml : (framesF (c.take j)).length ≤ (framesF c).length := by
    have : framesF c = framesF (c.take j) ++ framesF (c.drop j) := by unfold framesF; rw [← List.flatMap_append, List.take_append_drop]
    rw [this, List.length_append]; omega
  obtain ⟨cut, hc1, hc2, hct⟩ := crash_tail keep (1 + ds.length) c _ hml
  have hsm : ∀ d ∈ ds, Small d := h.small.2
  rw [hL, crash_app, crash_full keep 1 ds h.ne, hct]
  by_cases h0 : c = [] ∨ cut = 0
  · rw [if_pos h0, List.append_nil, segs_full 1 ds (by decide) (by omega)]
    have hj0 : j = 0 := by
      rcases h0 with h0 | h0
      · have := h.le; rw [h0] at this; simpa using this
      · have hz : (framesF (c.take j)).length = 0 := by omega
        by_cases hj : c.take j = []
        · have := congrArg List.length hj
          rw [List.length_take, List.length_nil] at this
          have := h.le; omega
        · have := frames_ne hj; omega
    refine ⟨gap_range _ _, ds.flatten, c, none, ?_, rfl, by rw [hsu, hj0]; omega⟩
    exact open_whole _ (fun i hi => by
      have := (bytes_full 1 ds [] i hi (by decide) (by omega)).2
      rwa [List.append_nil] at this) hsm _
  · rw [if_neg h0]
    have hcne : c ≠ [] := fun e => h0 (.inl e)
    obtain ⟨ht, hw1, hw2⟩ := allF_torn c cut h.small.1 hc2
    have hge := whole_ge c j cut h.le (by omega)
    have hsg : segsW (fullW 1 ds ++ [(titleN ((1 + ds.length : Nat)), (framesF c).take cut, cut)]) = List.range' 1 (ds.length + 1) := by
      rw [segs_app, segs_full 1 ds (by decide) (by omega), segs_one ⟨by omega, by omega⟩, List.range'_concat]
      simp
    have hla : lastW (List.range' 1 (ds.length + 1)) = 1 + ds.length := by rw [last_range (by omega)]; omega
    have hbl := (bytes_last (f := 1) (ds := ds) (by decide) (by omega) rfl ((framesF c).take cut) cut).2
    rw [hsg, hla]
    have hrg : List.range' 1 (ds.length + 1) = List.range' 1 ds.length ++ [1 + ds.length] := by rw [List.range'_concat]; simp
    refine ⟨gap_range _ _, ds.flatten ++ c.take (wholeF c cut).1, c.drop (wholeF c cut).1, if (wholeF c cut).2 = cut then none else some (wholeF c cut).2, ?_, by rw [List.append_assoc, List.take_append_drop], by rw [hsu, List.length_append, List.length_take]; omega⟩
    rw [hrg, open_full _ _ ds 1 [1 + ds.length] (fun i hi => (bytes_full 1 ds _ i hi (by decide) (by omega)).2) hsm, openR, hbl, ht]
    by_cases ha : (wholeF c cut).2 = cut
    · rw [if_pos ha, if_pos ha]
      simp only
      rw [if_pos trivial, openR]
      simp
    · rw [if_neg ha, if_neg ha]
      simp only
      rw [if_neg (by decide), if_pos ⟨trivial, trivial⟩]
end Go.Proofs.YtnmbjhpecblioaaGreatDoor
