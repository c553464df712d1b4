/-
  The plain answers' way of reading a text of matchers, plainly: it is the same. Nothing here speaks of the program.
-/
import Derived.Test.YtinjdlplbficiaaGreatDoorMp
namespace Go.Proofs.YtinjdlplbficiaaGreatDoor
set_option linter.unusedVariables false
set_option linter.unusedSimpArgs false
/-- A matcher that a text begins with, and what stands behind it. -/
def oneR (s : Bs) : Option (Mt' × Bs) :=
  if wordN s = 0 then none else match signF (bareP (s.drop (wordN s))) with
    | none => none
    | some (k, s2) => if (unqP (bareP s2)).2.2 ≠ 0 then none else
      some (((k : Int), mkB (s.take (wordN s)), mkB (unqP (bareP s2)).1), bareP ((bareP s2).drop (unqP (bareP s2)).2.1))
theorem oneR_lt {s r : Bs} {m : Mt'} (h : oneR s = some (m, r)) : r.length < s.length := by
  unfold oneR at h
  split at h
  · cases h
  · rename_i hw
    split at h
    · cases h
    · rename_i k s2 hs
      split at h
      · cases h
      · injection h with h; injection h with _ h; subst h
        have h1 := (sign_some hs).1
        have h2 := bareP_le (s.drop (wordN s))
        have h3 := bareP_le s2
        have h4 := bareP_le ((bareP s2).drop (unqP (bareP s2)).2.1)
        have h5 := wordN_le s
        rw [List.length_drop] at h2 h4
        omega
def bodyR : Nat → Bs → List Mt' → Option (List Mt' × Bs)
  | 0, _, _ => none
  | n + 1, s, l => if s = [] then none else if s.head? = some 125 then some (l, s.tail) else match oneR s with
    | none => none
    | some (m, r) => if r.head? = some 44 then bodyR n (bareP r.tail) (l ++ [m]) else if r.head? = some 125 then bodyR n r (l ++ [m]) else none
/-- The matchers that a text begins with, and what stands behind them. -/
def headR (s : Bs) : Option (List Mt' × Bs) :=
  if wordN s ≠ 0 ∧ digitN (s.headD 0).toNat = true then none
  else
    let l : List Mt' := if wordN s ≠ 0 then [(1, bareName, mkB (s.take (wordN s)))] else []
    if (bareP (s.drop (wordN s))).head? = some 123 then bodyR (s.length + 1) (bareP (bareP (s.drop (wordN s))).tail) l
    else if wordN s ≠ 0 then some (l, s.drop (wordN s)) else none
def readR (s : Bs) : Option (List Mt') := match headR (bareP s) with
  | none => none
  | some (l, r) => if bareP r = [] then some l else none
def lastR (o : Option (List Mt' × Bs)) : Option (List Mt') := match o with
  | none => none
  | some (l, r) => if bareP r = [] then some l else none
theorem rest_six (s : Bs) (l : List Mt') : restM 6 s l = if bareP s = [] then some l else none := by
  rw [rest_step]
  unfold stepM
  by_cases h : bareP s = [] <;> simp [h]
theorem rest_five (s : Bs) (l : List Mt') : restM 5 s l = if (bareP s).head? = some 44 then restM 2 (bareP s).tail l else if (bareP s).head? = some 125 then restM 6 (bareP s).tail l else none := by
  rw [rest_step]
  unfold stepM
  by_cases h : (bareP s).head? = some 44
  · simp [h]
  · by_cases h2 : (bareP s).head? = some 125
    · simp [h2]
    · simp [h, h2]
theorem rest_four (s : Bs) (l : List Mt') : restM 4 s l = if (unqP (bareP s)).2.2 = 0 then restM 5 ((bareP s).drop (unqP (bareP s)).2.1) (endV l (mkB (unqP (bareP s)).1)) else none := by
  rw [rest_step]
  unfold stepM
  by_cases h : (unqP (bareP s)).2.2 = 0 <;> simp [h]
theorem rest_three (s : Bs) (l : List Mt') : restM 3 s l = match signF (bareP s) with
    | none => none
    | some (k, r) => restM 4 r (endK l (k : Int)) := by
  rw [rest_step]
  unfold stepM
  cases h : signF (bareP s) with
  | none => simp
  | some q => obtain ⟨k, r⟩ := q; simp
theorem rest_two (s : Bs) (l : List Mt') : restM 2 s l = if wordN (bareP s) ≠ 0 then restM 3 ((bareP s).drop (wordN (bareP s))) (l ++ [(0, mkB ((bareP s).take (wordN (bareP s))), noneB)]) else if (bareP s).head? = some 125 then restM 6 (bareP s).tail l else none := by
  rw [rest_step]
  unfold stepM
  by_cases h : wordN (bareP s) ≠ 0
  · simp [h]
  · by_cases h2 : (bareP s).head? = some 125
    · simp at h; simp [h, h2]
    · simp at h; simp [h, h2]
theorem word_zero_nil : wordN [] = 0 := rfl
theorem endKV (l : List Mt') (n v : ByteArray) (k : Int) : endV (endK (l ++ [(0, n, noneB)]) k) v = l ++ [(k, n, v)] := by simp [endK, endV]
theorem word_letter {c : UInt8} {t : Bs} (h : wordN (c :: t) ≠ 0) : letterN c.toNat = true := by
  rw [wordN_cons] at h
  cases hh : letterN c.toNat with
  | true => rfl
  | false => rw [hh] at h; simp at h
theorem body_rest : ∀ (n : Nat) (s : Bs) (l : List Mt'), s.length < n → bareP s = s → restM 2 s l = lastR (bodyR n s l)
  | 0, _, _, h, _ => absurd h (Nat.not_lt_zero _)
  | n + 1, s, l, hn, hb => by
    rw [rest_two, hb]
    unfold bodyR
    cases s with
    | nil => simp [lastR, word_zero_nil]
    | cons c t =>
      rw [if_neg (show ¬ (c :: t) = [] by simp)]
      by_cases hw0 : wordN (c :: t) = 0
      rotate_left
      · have hw : wordN (c :: t) ≠ 0 := hw0
        rw [if_pos hw]
        have hc := word_letter hw
        have h125 : ¬ (c :: t).head? = some 125 := fun e => by
          simp at e; subst e; revert hc; decide
        rw [if_neg h125]
        cases ho : oneR (c :: t) with
        | none =>
          unfold oneR at ho
          rw [if_neg hw] at ho
          rw [rest_three]
          cases hs : signF (bareP ((c :: t).drop (wordN (c :: t)))) with
          | none => simp [lastR]
          | some q =>
            obtain ⟨k, s2⟩ := q
            rw [hs] at ho
            simp only at ho ⊢
            rw [rest_four]
            by_cases hu : (unqP (bareP s2)).2.2 = 0
            · rw [if_neg (by simp [hu])] at ho; cases ho
            · rw [if_neg hu]; simp [lastR]
        | some q =>
          obtain ⟨m, r⟩ := q
          have hlt := oneR_lt ho
          unfold oneR at ho
          rw [if_neg hw] at ho
          rw [rest_three]
          cases hs : signF (bareP ((c :: t).drop (wordN (c :: t)))) with
          | none => rw [hs] at ho; cases ho
          | some q =>
            obtain ⟨k, s2⟩ := q
            rw [hs] at ho
            simp only at ho ⊢
            rw [rest_four]
            by_cases hu : (unqP (bareP s2)).2.2 = 0
            · rw [if_neg (by simp [hu])] at ho
              injection ho with ho; injection ho with hm hr
              rw [if_pos hu, endKV, hm, ← rest_bare, hr]
              have hrb : bareP r = r := by rw [← hr, bareP_bare]
              rw [rest_five, hrb]
              by_cases h44 : r.head? = some 44
              · rw [if_pos h44, if_pos h44, ← rest_bare]
                have hlen : (bareP r.tail).length < n := by
                  have h1 := bareP_le r.tail
                  have h2 : r.tail.length ≤ r.length := by rw [List.length_tail]; omega
                  simp only [List.length_cons] at hn hlt; omega
                exact body_rest n _ _ hlen (bareP_bare _)
              · rw [if_neg h44, if_neg h44]
                by_cases h125' : r.head? = some 125
                · rw [if_pos h125', if_pos h125']
                  simp only [List.length_cons] at hn hlt
                  cases n with
                  | zero => omega
                  | succ n =>
                    unfold bodyR
                    have hne : r ≠ [] := fun e => by rw [e] at h125'; cases h125'
                    rw [if_neg hne, if_pos h125', rest_six]
                    rfl
                · rw [if_neg h125', if_neg h125']; rfl
            · rw [if_pos hu] at ho; cases ho
      · rw [if_neg (by simp [hw0])]
        by_cases h125 : (c :: t).head? = some 125
        · rw [if_pos h125, if_pos h125, rest_six]; rfl
        · rw [if_neg h125, if_neg h125]
          unfold oneR
          rw [if_pos hw0]
          rfl
theorem rest_one (s : Bs) (l : List Mt') : restM 1 s l = if (bareP s).head? = some 123 then restM 2 (bareP s).tail l else if bareP s = [] then some l else none := by
  rw [rest_step]
  unfold stepM
  by_cases h : (bareP s).head? = some 123
  · simp [h]
  · by_cases h2 : bareP s = []
    · simp [h2]
    · simp [h, h2]
theorem named_one {c : UInt8} (h : letterN c.toNat = true) : namedP [c] = !digitN c.toNat := by
  unfold namedP; simp [h]
theorem read_same (s : Bs) : readM s = readR s := by
  show restM 0 s [] = _
  unfold readR
  rw [← rest_bare]
  have hbb := bareP_bare s
  generalize bareP s = u at hbb
  show _ = lastR (headR u)
  unfold headR
  rw [rest_step, hbb]
  by_cases hw : wordN u ≠ 0
  · cases u with
    | nil => exact absurd word_zero_nil hw
    | cons c t =>
      have hc := word_letter hw
      have hmf : metricF (c :: t) = !digitN c.toNat := by
        unfold metricF
        rw [decide_eq_true hw, Bool.true_and]
        exact named_one hc
      have h123 : ¬ (c :: t).head? = some 123 := fun e => by simp at e; subst e; revert hc; decide
      cases hd : digitN c.toNat with
      | true =>
        rw [if_pos ⟨hw, hd⟩]
        unfold stepM
        rw [hmf, hd, if_neg (by simp), if_neg (fun e => h123 e.2), if_neg (by simp), if_neg (by simp), if_neg (by simp), if_neg (by simp), if_neg (by simp), if_neg (by simp)]
        rfl
      | false =>
        rw [if_neg (by simp [hd])]
        have : stepM 0 (c :: t) [] = .go 1 ((c :: t).drop (wordN (c :: t))) ([] ++ [(1, bareName, mkB ((c :: t).take (wordN (c :: t))))]) := by
          unfold stepM; rw [if_pos ⟨rfl, by rw [hmf, hd]; rfl⟩]
        rw [this]
        simp only [if_pos hw, List.nil_append]
        rw [rest_one]
        by_cases h2 : (bareP ((c :: t).drop (wordN (c :: t)))).head? = some 123
        · rw [if_pos h2, if_pos h2, ← rest_bare]
          refine body_rest _ _ _ ?_ (bareP_bare _)
          have h1 := bareP_le (bareP ((c :: t).drop (wordN (c :: t)))).tail
          have h3 := bareP_le ((c :: t).drop (wordN (c :: t)))
          rw [List.length_tail] at h1
          rw [List.length_drop] at h3
          omega
        · rw [if_neg h2, if_neg h2]; rfl
  · have hw0 : wordN u = 0 := by simpa using hw
    rw [if_neg (by simp [hw0])]
    have hmf : metricF u = false := by unfold metricF; simp [hw0]
    have hl : (if wordN u ≠ 0 then [((1 : Int), bareName, mkB (u.take (wordN u)))] else [] : List Mt') = [] := if_neg (by simp [hw0])
    have hd : bareP (u.drop (wordN u)) = u := by rw [hw0, List.drop_zero, hbb]
    simp only [hl, hd]
    by_cases h123 : u.head? = some 123
    · have : stepM 0 u [] = .go 2 u.tail [] := by unfold stepM; rw [if_neg (by simp [hmf]), if_pos ⟨by omega, h123⟩]
      rw [this, if_pos h123]
      simp only
      rw [← rest_bare]
      refine body_rest _ _ _ ?_ (bareP_bare _)
      have h1 := bareP_le u.tail
      rw [List.length_tail] at h1
      omega
    · have : stepM 0 u [] = .bad := by unfold stepM; simp [hmf, h123]
      rw [this, if_neg h123, if_neg (by simp [hw0])]
      rfl
end Go.Proofs.YtinjdlplbficiaaGreatDoor
