/-
  There and back, plainly: a text between quotes, right labels by their text and by Make. Nothing here speaks of the program.
-/
import Derived.Test.YtmicbgcdnkomjaaDoorLt
namespace Go.Proofs.YtmicbgcdnkomjaaDoor
set_option linter.unusedVariables false
set_option linter.unusedSimpArgs false
theorem unq_esc : ∀ (s acc t : Bs) (n : Nat), unqGo (s.flatMap escP ++ 34 :: t) acc n = (acc ++ s, n + (s.flatMap escP).length + 1, 0)
  | [], acc, t, n => by rw [List.flatMap_nil, List.nil_append, unqGo_quote]; simp
  | c :: r, acc, t, n => by
    rw [List.flatMap_cons, List.append_assoc]
    by_cases h1 : c = 10
    · subst h1
      rw [show escP 10 = [92, 110] from rfl]
      show unqGo (92 :: 110 :: (r.flatMap escP ++ 34 :: t)) acc n = _
      rw [unqGo_n, unq_esc r]
      simp; omega
    · by_cases h2 : c = 34 ∨ c = 92
      · have e : escP c = [92, c] := by rcases h2 with rfl | rfl <;> rfl
        rw [e]
        show unqGo (92 :: c :: (r.flatMap escP ++ 34 :: t)) acc n = _
        rw [unqGo_esc _ _ _ _ h2, unq_esc r]
        simp; omega
      · have e : escP c = [c] := by unfold escP; rw [if_neg h1, if_neg h2]
        rw [e]
        show unqGo (c :: (r.flatMap escP ++ 34 :: t)) acc n = _
        rw [unqGo_plain _ _ _ _ (fun h => h2 (.inl h)) h1 (fun h => h2 (.inr h)), unq_esc r]
        simp; omega
theorem unq_quote (s t : Bs) : unqP (quoteP s ++ t) = (s, (quoteP s).length, 0) := by
  have e : quoteP s ++ t = 34 :: (s.flatMap escP ++ 34 :: t) := by unfold quoteP; simp
  rw [e, unqP_cons, if_pos rfl, unq_esc]
  unfold quoteP
  simp; omega
theorem bareP_cons {c : UInt8} (t : Bs) (h : c ≠ 32) : bareP (c :: t) = c :: t := by unfold bareP; rw [List.dropWhile_cons, if_neg (by simpa using h)]
theorem bareP_blank (t : Bs) : bareP (32 :: t) = bareP t := by unfold bareP; rw [List.dropWhile_cons, if_pos (by simp)]
theorem wordN_app : ∀ (s : Bs) (c : UInt8) (t : Bs), (s.all fun c => letterN c.toNat) = true → letterN c.toNat = false → wordN (s ++ c :: t) = s.length
  | [], c, t, _, h => by rw [List.nil_append, wordN_cons, if_neg (by simp [h])]; rfl
  | x :: s, c, t, hs, h => by
    rw [List.all_cons, Bool.and_eq_true] at hs
    rw [List.cons_append, wordN_cons, if_pos hs.1, wordN_app s c t hs.2 h]; rfl
theorem named_parts {s : Bs} (h : namedP s = true) : s ≠ [] ∧ s.length ≤ 64 ∧ (s.all fun c => letterN c.toNat) = true := by
  unfold namedP at h
  simp only [Bool.and_eq_true, decide_eq_true_eq] at h
  refine ⟨fun e => by rw [e] at h; simp at h, h.1.1.2, h.1.2⟩
theorem named_head {s : Bs} (h : namedP s = true) (t : Bs) : bareP (s ++ t) = s ++ t := by
  obtain ⟨h1, _, h3⟩ := named_parts h
  cases s with
  | nil => exact absurd rfl h1
  | cons c r =>
    rw [List.all_cons, Bool.and_eq_true] at h3
    rw [List.cons_append]
    refine bareP_cons _ (fun e => ?_)
    subst e
    have := h3.1
    revert this; decide
theorem first_lab (x : Lb) (t : Bs) (h : namedP (bl x.1) = true) : firstP (labP x ++ t) = some (x, t) := by
  obtain ⟨h1, _, h3⟩ := named_parts h
  have e : labP x ++ t = bl x.1 ++ 61 :: (quoteP (bl x.2) ++ t) := by unfold labP; simp
  have hw : wordN (labP x ++ t) = (bl x.1).length := by rw [e]; exact wordN_app _ _ _ h3 (by decide)
  have hd : (labP x ++ t).drop (bl x.1).length = 61 :: (quoteP (bl x.2) ++ t) := by rw [e, List.drop_left]
  have ht : (labP x ++ t).take (bl x.1).length = bl x.1 := by rw [e, List.take_left]
  have hq : bareP (quoteP (bl x.2) ++ t) = quoteP (bl x.2) ++ t := by unfold quoteP; exact bareP_cons _ (by decide)
  unfold firstP
  rw [hw, hd, bareP_cons _ (by decide), markP_cons, if_pos rfl, hq]
  have hu := unq_quote (bl x.2) t
  simp only [hu]
  rw [if_neg (by cases hh : bl x.1 with | nil => exact absurd hh h1 | cons _ _ => simp), if_neg (by simp), ht, mk_bl, mk_bl, List.drop_left]
theorem print_parse : ∀ (r : List Lb) (x : Lb) (acc : List Lb) (k j : Nat), (∀ y ∈ x :: r, namedP (bl y.1) = true) → r.length < k → parseA k (labP x ++ printFrom (j + 1) r) acc = some (acc ++ x :: r)
  | [], x, acc, 0, j, hn, hk => absurd hk (Nat.not_lt_zero _)
  | _ :: _, x, acc, 0, j, hn, hk => absurd hk (Nat.not_lt_zero _)
  | [], x, acc, k + 1, j, hn, hk => by
    rw [parseA, first_lab x _ (hn x (by simp))]
    simp only [printFrom]
    rw [bareP_cons _ (by decide), markP_cons, if_neg (by decide)]
    simp only
    unfold endP
    rw [markP_cons, if_pos rfl]
    rfl
  | y :: r, x, acc, k + 1, j, hn, hk => by
    have hy := hn y (by simp)
    rw [parseA, first_lab x _ (hn x (by simp))]
    simp only [printFrom]
    rw [if_neg (by omega)]
    have e1 : [44, 32] ++ labP y ++ printFrom (j + 1 + 1) r = 44 :: 32 :: (labP y ++ printFrom (j + 1 + 1) r) := by simp
    rw [e1, bareP_cons _ (by decide), markP_cons, if_pos rfl]
    simp only
    rw [bareP_blank]
    have e2 : bareP (labP y ++ printFrom (j + 1 + 1) r) = labP y ++ printFrom (j + 1 + 1) r := by
      unfold labP
      rw [List.append_assoc]
      exact named_head hy _
    rw [e2, print_parse r y (acc ++ [x]) k (j + 1) (fun z hz => hn z (List.mem_cons_of_mem _ hz)) (by simpa using hk)]
    simp
theorem list_print (l : List Lb) (hn : ∀ y ∈ l, namedP (bl y.1) = true) : listP (printP l) = some l := by
  unfold listP printP
  rw [bareP_cons _ (by decide), markP_cons, if_pos rfl]
  simp only
  cases l with
  | nil => rfl
  | cons x r =>
    have hx := hn x (by simp)
    have e1 : printFrom 0 (x :: r) = labP x ++ printFrom (0 + 1) r := by rw [printFrom]; simp
    have e2 : bareP (labP x ++ printFrom (0 + 1) r) = labP x ++ printFrom (0 + 1) r := by
      unfold labP
      rw [List.append_assoc]
      exact named_head hx _
    rw [e1, e2, print_parse r x [] _ 0 hn]
    · rfl
    · have : ∀ (k : Nat) (m : List Lb), m.length ≤ (printFrom k m).length := by
        intro k m
        induction m generalizing k with
        | nil => simp
        | cons y m ih => rw [printFrom, List.length_append, List.length_append, List.length_cons]; have := ih (k + 1); have : 1 ≤ (labP y).length := by unfold labP; simp; omega
                         omega
      have h2 := this (0 + 1) r
      simp only [List.length_cons, List.length_append]
      omega
theorem rightAt_zero {p : Option ByteArray} {x : Lb} (h : rightAt p x = 0) : faultP x = 0 ∧ x.2.size ≠ 0 ∧ ∀ q, p = some q → bl q < bl x.1 := by
  unfold rightAt at h
  by_cases h1 : faultP x ≠ 0
  · rw [if_pos h1] at h; exact absurd h h1
  · rw [if_neg h1] at h
    by_cases h2 : x.2.size = 0
    · rw [if_pos h2] at h; cases h
    · rw [if_neg h2] at h
      refine ⟨by omega, h2, fun q hq => ?_⟩
      subst hq
      simp only at h
      by_cases h3 : bl q < bl x.1
      · exact h3
      · rw [if_neg h3] at h; cases h
theorem rightGo_zero : ∀ {l : List Lb} {p : Option ByteArray}, rightGo p l = 0 → (∀ x ∈ l, faultP x = 0 ∧ x.2.size ≠ 0) ∧ Rising l ∧ ∀ q, p = some q → ∀ x ∈ l, bl q < bl x.1
  | [], p, _ => ⟨fun x hx => (by cases hx), by simp [Rising], fun q _ x hx => (by cases hx)⟩
  | x :: r, p, h => by
    rw [rightGo] at h
    by_cases h1 : rightAt p x ≠ 0
    · rw [if_pos h1] at h; exact absurd h h1
    · rw [if_neg h1] at h
      obtain ⟨a1, a2, a3⟩ := rightAt_zero (show rightAt p x = 0 by omega)
      obtain ⟨b1, b2, b3⟩ := rightGo_zero h
      refine ⟨fun y hy => ?_, List.pairwise_cons.2 ⟨b3 x.1 rfl, b2⟩, fun q hq y hy => ?_⟩
      · rcases List.mem_cons.1 hy with rfl | hy
        · exact ⟨a1, a2⟩
        · exact b1 y hy
      · rcases List.mem_cons.1 hy with rfl | hy
        · exact a3 q hq
        · exact ltB_trans (a3 q hq) (b3 x.1 rfl y hy)
theorem right_parts {l : List Lb} (h : rightP l = 0) : l.length ≤ 16 ∧ (∀ x ∈ l, faultP x = 0 ∧ x.2.size ≠ 0) ∧ Rising l := by
  unfold rightP at h
  by_cases h1 : 16 < l.length
  · rw [if_pos h1] at h; cases h
  · rw [if_neg h1] at h
    obtain ⟨a, b, _⟩ := rightGo_zero h
    exact ⟨by omega, a, b⟩
theorem faults_zero : ∀ {l : List Lb}, (∀ x ∈ l, faultP x = 0) → faultsP l = 0
  | [], _ => rfl
  | x :: r, h => by rw [faultsP, if_neg (by have := h x (by simp); omega)]; exact faults_zero fun y hy => h y (List.mem_cons_of_mem _ hy)
theorem fault_parts {x : Lb} (h : faultP x = 0) : namedP (bl x.1) = true ∧ valuedP (bl x.2) = true := by
  unfold faultP at h
  by_cases h1 : namedP (bl x.1) = false
  · rw [if_pos h1] at h; cases h
  · rw [if_neg h1] at h
    by_cases h2 : valuedP (bl x.2) = false
    · rw [if_pos h2] at h; cases h
    · exact ⟨by simpa using h1, by simpa using h2⟩
theorem right_make {l : List Lb} (h : rightP l = 0) : makeP l = (0, l) := by
  obtain ⟨h1, h2, h3⟩ := right_parts h
  have hf : fullP l = l := by
    unfold fullP
    rw [List.filter_eq_self]
    intro x hx
    simpa using (h2 x hx).2
  rw [make_of (faults_zero fun x hx => (h2 x hx).1) (List.Perm.refl _) h3, hf, if_neg (by omega)]
theorem right_parse {l : List Lb} (h : rightP l = 0) : parseP (printP l) = (0, l) := by
  obtain ⟨h1, h2, h3⟩ := right_parts h
  unfold parseP
  rw [list_print l fun y hy => (fault_parts (h2 y hy).1).1]
  exact right_make h
/-- Right labels have short texts. -/
theorem right_size {l : List Lb} (h : rightP l = 0) : (printP l).length ≤ 6000 := by
  obtain ⟨h1, h2, _⟩ := right_parts h
  have he : ∀ s : Bs, (s.flatMap escP).length ≤ 2 * s.length := by
    intro s
    induction s with
    | nil => simp
    | cons c r ih =>
      rw [List.flatMap_cons, List.length_append, List.length_cons]
      have : (escP c).length ≤ 2 := by
        unfold escP
        by_cases h1 : c = 10
        · rw [if_pos h1]; simp
        · rw [if_neg h1]
          by_cases h2 : c = 34 ∨ c = 92
          · rw [if_pos h2]; simp
          · rw [if_neg h2]; simp
      omega
  have hl : ∀ (m : List Lb) (k : Nat), (∀ x ∈ m, faultP x = 0) → (printFrom k m).length ≤ 330 * m.length + 1 := by
    intro m
    induction m with
    | nil => intro k _; simp [printFrom]
    | cons y m ih =>
      intro k hm
      obtain ⟨n1, n2⟩ := fault_parts (hm y (by simp))
      obtain ⟨_, n3, _⟩ := named_parts n1
      have n4 : (bl y.2).length ≤ 128 := by
        unfold valuedP at n2
        simp only [Bool.and_eq_true, decide_eq_true_eq] at n2
        exact n2.1
      have hy : (labP y).length ≤ 323 := by
        unfold labP quoteP
        have := he (bl y.2)
        simp only [List.length_append, List.length_cons, List.length_nil]
        omega
      have hr := ih (k + 1) fun x hx => hm x (List.mem_cons_of_mem _ hx)
      rw [printFrom]
      have h2 : (if k = 0 then ([] : Bs) else [44, 32]).length ≤ 2 := by split <;> simp
      simp only [List.length_append, List.length_cons] at *
      omega
  have := hl l 0 fun x hx => (h2 x hx).1
  unfold printP
  rw [List.length_cons]
  omega
end Go.Proofs.YtmicbgcdnkomjaaDoor
