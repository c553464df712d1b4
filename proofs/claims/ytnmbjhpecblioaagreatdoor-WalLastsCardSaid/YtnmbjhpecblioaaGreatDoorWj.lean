/-
  A log opened anew behind a drop or a crash, plainly. Nothing here speaks of the program.
-/
import Derived.Test.YtnmbjhpecblioaaGreatDoorWi
namespace Go.Proofs.YtnmbjhpecblioaaGreatDoor
set_option linter.unusedVariables false
set_option linter.unusedSimpArgs false
theorem last_range {f n : Nat} (h : 0 < n) : lastW (List.range' f n) = f + (n - 1) := by
  unfold lastW
  rw [List.length_range', List.getElem?_range' (by omega)]
  simp
theorem gap_range (f n : Nat) : ¬ gapW (List.range' f n) := by
  rintro ⟨h1, h2⟩
  rw [List.length_range'] at h1 h2
  rw [last_range h1] at h2
  have hf : firstW (List.range' f n) = f := by
    unfold firstW
    rw [List.getElem?_range' (by omega)]
    simp
  rw [hf] at h2
  omega
/-- Segments that are whole: they are read as they are. -/
theorem open_whole {f : Nat} {ks : List Ch} (L : List Fl) (hb : ∀ i (h : i < ks.length), bytesW L (f + i) = framesF ks[i]) (hs : ∀ d ∈ ks, Small d) (last : Nat) : openR L last (List.range' f ks.length) = (ks.flatten, 0, none) := by
  have := open_full L last ks f [] hb hs
  rw [List.append_nil, openR] at this
  rw [this]; simp
/-- What a drop leaves. -/
theorem drop_full : ∀ (f : Nat) (ds : List Ch) (R : List Fl) (S : List Nat) (n : Int), 1 ≤ f → f + ds.length ≤ 100000000 → (∀ x ∈ R, ∀ m : Nat, m < f + ds.length → x.1 ≠ titleN m) → (∀ m ∈ S, n ≤ (m : Int)) → (∀ x ∈ fullW f ds ++ R, x.1.size ≠ 0) →
    wdropL n (List.range' f ds.length ++ S) (fullW f ds ++ R) = fullW (f + min ds.length (n - f).toNat) (ds.drop (n - f).toNat) ++ R
  | f, [], R, S, n, _, _, _, hS, _ => by
    simp only [List.length_nil, List.range'_zero, List.nil_append, fullW, Nat.zero_min, List.drop_nil]
    cases S with
    | nil => rfl
    | cons m r => rw [wdropL, if_pos (hS m (List.mem_cons_self ..))]
  | f, d :: ds, R, S, n, h1, h2, hR, hS, hN => by
    rw [List.length_cons] at h2
    by_cases hn : n ≤ (f : Int)
    · rw [List.length_cons, List.range'_succ, List.cons_append, wdropL, if_pos hn]
      have : (n - f).toNat = 0 := by omega
      rw [this]; simp
    · rw [List.length_cons, List.range'_succ, List.cons_append, wdropL, if_neg hn]
      have hl : lookL (fullW f (d :: ds) ++ R) (titleN f) = some (titleN f, framesF d, (framesF d).length) := by
        rw [fullW, List.cons_append, look_cons, if_pos rfl]
      have hrm : (remD (fullW f (d :: ds) ++ R) (titleN f)).2 = fullW (f + 1) ds ++ R := by
        unfold remD
        rw [hl]
        simp only
        unfold delL
        rw [fullW, List.cons_append, List.filter_cons, if_neg (by simp), List.filter_eq_self]
        intro x hx
        simp only [Bool.not_eq_true', decide_eq_false_iff_not]
        rcases List.mem_append.1 hx with hx | hx
        · obtain ⟨i, hi, e⟩ := full_names hx
          rw [e]
          intro e2
          have := title_inj (m := f + 1 + i) (n := f) ⟨by omega, by omega⟩ ⟨h1, by omega⟩ e2
          omega
        · exact hR x hx f (by rw [List.length_cons]; omega)
      rw [hrm, drop_full (f + 1) ds R S n (by omega) (by omega) (fun x hx m hm => hR x hx m (by rw [List.length_cons]; omega)) hS (fun x hx => by
        refine hN x ?_
        rw [fullW, List.cons_append]
        exact List.mem_cons_of_mem _ hx)]
      have e1 : (n - f).toNat = (n - (f + 1 : Nat)).toNat + 1 := by omega
      rw [e1, List.drop_succ_cons]
      congr 2
      omega
/-- Whole segments and one more, from any number on. -/
theorem st_view {f : Nat} {ds : List Ch} {c : Ch} (m : Nat) (h1 : 1 ≤ f) (h2 : f + ds.length ≤ 90000000) : ∃ ks : List Ch, segsW (fullW f ds ++ tailW (f + ds.length) c m) = List.range' f ks.length ∧
    (∀ i (hi : i < ks.length), lookL (fullW f ds ++ tailW (f + ds.length) c m) (titleN ((f + i : Nat))) ≠ none ∧ bytesW (fullW f ds ++ tailW (f + ds.length) c m) (f + i) = framesF ks[i]) ∧ ks.flatten = ds.flatten ++ c ∧ ∀ d ∈ ks, d ∈ ds ∨ d = c := by
  by_cases hc : c = []
  · subst hc
    have ht : tailW (f + ds.length) [] m = [] := by unfold tailW; rw [if_pos rfl]
    refine ⟨ds, ?_, fun i hi => ?_, by simp, fun d hd => .inl hd⟩
    · rw [ht, List.append_nil, segs_full f ds h1 (by omega)]
    · exact bytes_full f ds _ i hi h1 (by omega)
  · have ht : tailW (f + ds.length) c m = [(titleN ((f + ds.length : Nat)), framesF c, m)] := by unfold tailW; rw [if_neg hc]
    refine ⟨ds ++ [c], ?_, fun i hi => ?_, by simp, fun d hd => ?_⟩
    · rw [ht, segs_app, segs_full f ds h1 (by omega), segs_one ⟨by omega, by omega⟩, List.length_append, List.length_singleton, List.range'_concat]
      simp
    · rw [ht]
      rw [List.length_append, List.length_singleton] at hi
      rcases Nat.lt_or_ge i ds.length with hlt | hge
      · rw [List.getElem_append_left hlt]
        exact bytes_full f ds _ i hlt h1 (by omega)
      · have : i = ds.length := by omega
        subst this
        rw [List.getElem_append_right (Nat.le_refl _)]
        simp only [Nat.sub_self, List.getElem_cons_zero]
        exact bytes_last h1 (by omega) rfl _ _
    · rcases List.mem_append.1 hd with hd | hd
      · exact .inl hd
      · rw [List.mem_singleton] at hd; exact .inr hd
theorem flatten_drop_le : ∀ (ds : List Ch) (k : Nat), ∃ pre, ds.flatten = pre ++ (ds.drop k).flatten := fun ds k => ⟨(ds.take k).flatten, by rw [← List.flatten_append, List.take_append_drop]⟩
/-- A log opened behind a drop: the last of its records. -/
theorem drop_view {g : Lg} {ds : List Ch} {c : Ch} {j : Nat} (h : Inv g ds c j) (hN : Named g.1) (n : Int) : ((wdropP g n).1 = 0 ↔ n ≤ (g.2.1 : Int)) ∧ ¬ gapW (segsW (wdropP g n).2.1) ∧
    ∃ x pre, openR (wdropP g n).2.1 (lastW (segsW (wdropP g n).2.1)) (segsW (wdropP g n).2.1) = (x, 0, none) ∧ ds.flatten ++ c = pre ++ x ∧ (pre = [] ∨ 1 < n ∧ n ≤ (g.2.1 : Int)) := by
  have hb := h.few
  have hseg : g.2.1 = 1 + ds.length := by rw [h.is]
  have hL : g.1 = fullW 1 ds ++ tailW (1 + ds.length) c (framesF (c.take j)).length := by rw [h.is]
  have hsm : ∀ d, d ∈ ds ∨ d = c → Small d := fun d hd => hd.elim (h.small.2 d) fun e => by rw [e]; exact h.small.1
  unfold wdropP
  by_cases hn : (g.2.1 : Int) < n
  · rw [if_pos hn]
    obtain ⟨ks, v1, v2, v3, v4⟩ := st_view (ds := ds) (c := c) (framesF (c.take j)).length (Nat.le_refl 1) (by omega)
    rw [← hL] at v1 v2
    refine ⟨⟨fun e => by simp at e, fun e => by omega⟩, by rw [v1]; exact gap_range _ _, ks.flatten, [], ?_, by rw [v3]; rfl, .inl rfl⟩
    rw [v1]
    exact open_whole _ (fun i hi => (v2 i hi).2) (fun d hd => hsm d (v4 d hd)) _
  · rw [if_neg hn]
    simp only
    obtain ⟨k, hk⟩ : ∃ k, k = (n - (1 : Nat)).toNat := ⟨_, rfl⟩
    have hkl : k ≤ ds.length := by omega
    have hdr : wdropL n (segsW g.1) g.1 = fullW (1 + k) (ds.drop k) ++ tailW (1 + ds.length) c (framesF (c.take j)).length := by
      have hs : segsW g.1 = List.range' 1 ds.length ++ (if c = [] then [] else [1 + ds.length]) := by
        rw [hL, segs_app, segs_full 1 ds (by decide) (by omega)]
        congr 1
        unfold tailW
        split
        · rfl
        · exact segs_one ⟨by omega, by omega⟩ _ _
      rw [hs]
      rw [hL] at hN ⊢
      have := drop_full 1 ds (tailW (1 + ds.length) c (framesF (c.take j)).length) (if c = [] then [] else [1 + ds.length]) n (by decide) (by omega) (fun x hx m hm => by
        unfold tailW at hx
        split at hx
        · cases hx
        · rw [List.mem_singleton] at hx
          subst hx
          intro e
          rcases Nat.lt_or_ge m 1 with h0 | h0
          · have h00 : m = 0 := by omega
            subst h00
            have h12 := title_size12 (n := 1 + ds.length) ⟨by omega, by omega⟩
            simp only at e
            rw [e, show ((0 : Nat) : Int) = 0 from rfl, title_zero] at h12
            exact absurd h12 (by decide)
          · have := title_inj (m := 1 + ds.length) (n := m) ⟨by omega, by omega⟩ ⟨h0, by omega⟩ e
            omega) (fun m hm => by
        split at hm
        · cases hm
        · rw [List.mem_singleton] at hm; omega) hN
      rw [this, ← hk, Nat.min_eq_right hkl]
    have hdl : (ds.drop k).length = ds.length - k := List.length_drop
    obtain ⟨ks, v1, v2, v3, v4⟩ := st_view (f := 1 + k) (ds := ds.drop k) (c := c) (framesF (c.take j)).length (by omega) (by omega)
    have e1 : 1 + k + (ds.drop k).length = 1 + ds.length := by omega
    rw [e1] at v1 v2
    obtain ⟨pre, hp⟩ := flatten_drop_le ds k
    refine ⟨⟨fun _ => by omega, fun _ => by trivial⟩, by rw [hdr, v1]; exact gap_range _ _, ks.flatten, pre, ?_, by rw [v3, hp, List.append_assoc], ?_⟩
    · rw [hdr, v1]
      exact open_whole _ (fun i hi => (v2 i hi).2) (fun d hd => hsm d ((v4 d hd).imp List.mem_of_mem_drop id)) _
    · by_cases h1 : 1 < n
      · exact .inr ⟨h1, by omega⟩
      · have hk0 : k = 0 := by omega
        rw [hk0, List.drop_zero] at hp
        exact .inl (by
          have := congrArg List.length hp
          rw [List.length_append] at this
          exact List.eq_nil_of_length_eq_zero (by omega))
end Go.Proofs.YtnmbjhpecblioaaGreatDoor
