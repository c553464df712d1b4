/-
  Texts of labels, plainly: texts between quotes, labels as a text, the labels of a text. Nothing here speaks of the program.
-/
import Derived.Test.YtmicbgcdnkomjaaDoorLb
namespace Go.Proofs.YtmicbgcdnkomjaaDoor
set_option linter.unusedVariables false
set_option linter.unusedSimpArgs false

def escP (c : UInt8) : Bs := if c = 10 then [92, 110] else if c = 34 ∨ c = 92 then [92, c] else [c]
def quoteP (s : Bs) : Bs := 34 :: (s.flatMap escP ++ [34])
/-- What a text has up to the second quote: behind acc, n bytes having been taken. -/
def unqGo : Bs → Bs → Nat → Bs × Nat × Nat
  | [], _, _ => ([], 0, 6)
  | c :: r, acc, n =>
    if c = 34 then (acc, n + 1, 0)
    else if c = 10 then ([], 0, 8)
    else if c = 92 then
      match r with
      | [] => ([], 0, 6)
      | d :: r' => if d = 34 ∨ d = 92 then unqGo r' (acc ++ [d]) (n + 2) else if d = 110 then unqGo r' (acc ++ [10]) (n + 2) else ([], 0, 8)
    else unqGo r (acc ++ [c]) (n + 1)
def unqP : Bs → Bs × Nat × Nat
  | [] => ([], 0, 6)
  | c :: r => if c = 34 then unqGo r [] 1 else ([], 0, 8)
theorem unqP_cons (c : UInt8) (r : Bs) : unqP (c :: r) = if c = 34 then unqGo r [] 1 else ([], 0, 8) := rfl
theorem unqGo_end (acc : Bs) (n : Nat) : unqGo [] acc n = ([], 0, 6) := by rw [unqGo.eq_def]
theorem unqGo_quote (r acc : Bs) (n : Nat) : unqGo (34 :: r) acc n = (acc, n + 1, 0) := by rw [unqGo.eq_def]; simp
theorem unqGo_line (r acc : Bs) (n : Nat) : unqGo (10 :: r) acc n = ([], 0, 8) := by rw [unqGo.eq_def]; simp
theorem unqGo_back (acc : Bs) (n : Nat) : unqGo [92] acc n = ([], 0, 6) := by rw [unqGo.eq_def]; simp
theorem unqGo_esc (d : UInt8) (r acc : Bs) (n : Nat) (h : d = 34 ∨ d = 92) : unqGo (92 :: d :: r) acc n = unqGo r (acc ++ [d]) (n + 2) := by rw [unqGo.eq_def]; simp [h]
theorem unqGo_n (r acc : Bs) (n : Nat) : unqGo (92 :: 110 :: r) acc n = unqGo r (acc ++ [10]) (n + 2) := by rw [unqGo.eq_def]; simp
theorem unqGo_bad (d : UInt8) (r acc : Bs) (n : Nat) (h : ¬ (d = 34 ∨ d = 92)) (h' : d ≠ 110) : unqGo (92 :: d :: r) acc n = ([], 0, 8) := by rw [unqGo.eq_def]; simp [h, h']
theorem unqGo_plain (c : UInt8) (r acc : Bs) (n : Nat) (h1 : c ≠ 34) (h2 : c ≠ 10) (h3 : c ≠ 92) : unqGo (c :: r) acc n = unqGo r (acc ++ [c]) (n + 1) := by rw [unqGo.eq_def]; simp [h1, h2, h3]
/-- What was taken lies within the text. -/
theorem unqGo_le : ∀ (k : Nat) (r acc : Bs) (n : Nat), r.length ≤ k → (unqGo r acc n).2.2 = 0 → n < (unqGo r acc n).2.1 ∧ (unqGo r acc n).2.1 ≤ n + r.length ∧ (unqGo r acc n).1.length ≤ acc.length + r.length
  | _, [], acc, n, _, h => by rw [unqGo_end] at h; cases h
  | 0, _ :: _, acc, n, hk, h => by simp at hk
  | k + 1, c :: r, acc, n, hk, h => by
    simp only [List.length_cons] at hk ⊢
    by_cases h1 : c = 34
    · subst h1; rw [unqGo_quote]; simp only; omega
    · by_cases h2 : c = 10
      · subst h2; rw [unqGo_line] at h; cases h
      · by_cases h3 : c = 92
        · subst h3
          cases r with
          | nil => rw [unqGo_back] at h; cases h
          | cons d r =>
            simp only [List.length_cons] at hk ⊢
            by_cases h4 : d = 34 ∨ d = 92
            · rw [unqGo_esc _ _ _ _ h4] at h ⊢
              have := unqGo_le k r (acc ++ [d]) (n + 2) (by omega) h
              simp only [List.length_append, List.length_singleton] at this
              omega
            · by_cases h5 : d = 110
              · subst h5
                rw [unqGo_n] at h ⊢
                have := unqGo_le k r (acc ++ [10]) (n + 2) (by omega) h
                simp only [List.length_append, List.length_singleton] at this
                omega
              · rw [unqGo_bad _ _ _ _ h4 h5] at h; cases h
        · rw [unqGo_plain _ _ _ _ h1 h2 h3] at h ⊢
          have := unqGo_le k r (acc ++ [c]) (n + 1) (by omega) h
          simp only [List.length_append, List.length_singleton] at this
          omega
theorem unqP_le {s : Bs} (h : (unqP s).2.2 = 0) : 1 < (unqP s).2.1 ∧ (unqP s).2.1 ≤ s.length ∧ (unqP s).1.length ≤ s.length := by
  cases s with
  | nil => cases h
  | cons c r =>
    rw [unqP_cons] at h ⊢
    by_cases h1 : c = 34
    · rw [if_pos h1] at h ⊢
      have := unqGo_le r.length r [] 1 (Nat.le_refl _) h
      simp only [List.length_cons, List.length_nil] at this ⊢
      omega
    · rw [if_neg h1] at h; cases h
theorem unqP_err {s : Bs} (h : (unqP s).2.2 ≠ 0) : unqP s = ([], 0, (unqP s).2.2) := by
  have go : ∀ (k : Nat) (r acc : Bs) (n : Nat), r.length ≤ k → (unqGo r acc n).2.2 ≠ 0 → unqGo r acc n = ([], 0, (unqGo r acc n).2.2) := by
    intro k
    induction k with
    | zero => intro r acc n hk h; cases r with
      | nil => rw [unqGo_end]
      | cons _ _ => simp at hk
    | succ k ih =>
      intro r acc n hk h
      cases r with
      | nil => rw [unqGo_end]
      | cons c r =>
        simp only [List.length_cons] at hk
        by_cases h1 : c = 34
        · subst h1; rw [unqGo_quote] at h; exact absurd rfl h
        · by_cases h2 : c = 10
          · subst h2; rw [unqGo_line]
          · by_cases h3 : c = 92
            · subst h3
              cases r with
              | nil => rw [unqGo_back]
              | cons d r =>
                simp only [List.length_cons] at hk
                by_cases h4 : d = 34 ∨ d = 92
                · rw [unqGo_esc _ _ _ _ h4] at h ⊢; exact ih _ _ _ (by omega) h
                · by_cases h5 : d = 110
                  · subst h5; rw [unqGo_n] at h ⊢; exact ih _ _ _ (by omega) h
                  · rw [unqGo_bad _ _ _ _ h4 h5]
            · rw [unqGo_plain _ _ _ _ h1 h2 h3] at h ⊢; exact ih _ _ _ (by omega) h
  cases s with
  | nil => rfl
  | cons c r =>
    rw [unqP_cons] at h ⊢
    by_cases h1 : c = 34
    · rw [if_pos h1] at h ⊢; exact go _ _ _ _ (Nat.le_refl _) h
    · rw [if_neg h1]

/-- Labels as a text. -/
def labP (x : Lb) : Bs := bl x.1 ++ 61 :: quoteP (bl x.2)
def printFrom : Nat → List Lb → Bs
  | _, [] => [125]
  | k, x :: r => (if k = 0 then [] else [44, 32]) ++ labP x ++ printFrom (k + 1) r
def printP (l : List Lb) : Bs := 123 :: printFrom 0 l

/-- The labels of a text. -/
def bareP (s : Bs) : Bs := s.dropWhile (fun c => decide (c = 32))
def wordN (s : Bs) : Nat := (s.takeWhile fun c => letterN c.toNat).length
def markP (m : UInt8) : Bs → Option Bs
  | [] => none
  | c :: r => if c = m then some (bareP r) else none
def firstP (s : Bs) : Option (Lb × Bs) :=
  match markP 61 (bareP (s.drop (wordN s))) with
  | none => none
  | some r => if wordN s = 0 then none else if (unqP r).2.2 ≠ 0 then none else some ((mkB (s.take (wordN s)), mkB (unqP r).1), r.drop (unqP r).2.1)
def endP (s : Bs) (l : List Lb) : Option (List Lb) := if markP 125 s = some [] then some l else none
def parseA : Nat → Bs → List Lb → Option (List Lb)
  | 0, _, _ => none
  | k + 1, s, l =>
    match firstP s with
    | none => endP s l
    | some (x, r) =>
      match markP 44 (bareP r) with
      | some r' => parseA k r' (l ++ [x])
      | none => endP (bareP r) (l ++ [x])
def listP (s : Bs) : Option (List Lb) := match markP 123 (bareP s) with
  | none => none
  | some r => parseA (s.length + 1) r []
def parseP (s : Bs) : Nat × List Lb := match listP s with
  | none => (8, [])
  | some l => makeP l
theorem bareP_le (s : Bs) : (bareP s).length ≤ s.length := by unfold bareP; exact (List.dropWhile_sublist _).length_le
theorem bareP_bare (s : Bs) : bareP (bareP s) = bareP s := by unfold bareP; induction s with
  | nil => rfl
  | cons c r ih =>
    by_cases h : c = 32
    · simp [List.dropWhile_cons, h, ih]
    · simp [List.dropWhile_cons, h]
theorem markP_cons (m c : UInt8) (r : Bs) : markP m (c :: r) = if c = m then some (bareP r) else none := rfl
theorem markP_lt {m : UInt8} {s r : Bs} (h : markP m s = some r) : r.length < s.length := by
  cases s with
  | nil => cases h
  | cons c t =>
    rw [markP_cons] at h
    split at h
    · injection h with h; subst h; have := bareP_le t; simp only [List.length_cons]; omega
    · cases h
theorem firstP_lt {s r : Bs} {x : Lb} (h : firstP s = some (x, r)) : r.length < s.length := by
  unfold firstP at h
  split at h
  · cases h
  · rename_i t ht
    split at h
    · cases h
    · split at h
      · cases h
      · injection h with h; injection h with _ h; subst h
        have h1 := markP_lt ht
        have h2 := bareP_le (s.drop (wordN s))
        rw [List.length_drop] at *
        omega

/-- The same, as the document's answer goes: it looks for the end first. -/
def parseB : Nat → Bs → List Lb → Option (List Lb)
  | 0, _, _ => none
  | k + 1, s, l =>
    if s = [] ∨ s.headD 0 = 125 then endP s l
    else match firstP s with
      | none => none
      | some (x, r) =>
        if bareP r = [] then none
        else if (bareP r).headD 0 = 44 then parseB k (bareP (bareP r).tail) (l ++ [x])
        else if (bareP r).headD 0 = 125 then parseB k (bareP r) (l ++ [x])
        else none
theorem firstP_word {s r : Bs} {x : Lb} (h : firstP s = some (x, r)) : 0 < wordN s := by
  unfold firstP at h
  split at h
  · cases h
  · split at h
    · cases h
    · omega
theorem wordN_cons (c : UInt8) (t : Bs) : wordN (c :: t) = if letterN c.toNat = true then wordN t + 1 else 0 := by
  unfold wordN; rw [List.takeWhile_cons]; split <;> simp
theorem endP_not {s : Bs} {l : List Lb} (h : s.headD 0 ≠ 125) : endP s l = none := by
  unfold endP
  cases s with
  | nil => rfl
  | cons c t => rw [markP_cons, if_neg (show ¬ c = 125 from h)]; rfl
theorem parseB_eq : ∀ (k : Nat) (s : Bs) (l : List Lb), s.length < k → parseB k s l = parseA k s l
  | 0, _, _, h => absurd h (Nat.not_lt_zero _)
  | k + 1, s, l, h => by
    unfold parseB parseA
    by_cases h0 : s = [] ∨ s.headD 0 = 125
    · rw [if_pos h0]
      have hf : firstP s = none := by
        cases hx : firstP s with
        | none => rfl
        | some p =>
          have hw := firstP_word hx
          rcases h0 with rfl | h0
          · simp [wordN] at hw
          · cases s with
            | nil => cases h0
            | cons c t =>
              obtain rfl : c = 125 := h0
              rw [wordN_cons] at hw
              revert hw; simp [letterN]
      rw [hf]
    · rw [if_neg h0]
      have hne : s ≠ [] := fun e => h0 (.inl e)
      have hnh : s.headD 0 ≠ 125 := fun e => h0 (.inr e)
      cases hx : firstP s with
      | none => simp only; exact (endP_not hnh).symm
      | some p =>
        obtain ⟨x, r⟩ := p
        have hlt := firstP_lt hx
        have hbl := bareP_le r
        simp only
        cases hb : bareP r with
        | nil => rw [if_pos rfl]; rfl
        | cons c t =>
          have hbl' := hbl
          rw [hb, List.length_cons] at hbl'
          have htl := bareP_le t
          rw [if_neg (by simp), markP_cons]
          simp only [List.headD_cons, List.tail_cons]
          by_cases h4 : c = 44
          · refine (if_pos h4).trans ?_
            rw [if_pos h4]
            simp only
            exact parseB_eq k _ _ (by omega)
          · refine (if_neg h4).trans ?_
            rw [if_neg h4]
            simp only
            by_cases h5 : c = 125
            · refine (if_pos h5).trans ?_
              obtain ⟨k', rfl⟩ : ∃ k', k = k' + 1 := ⟨k - 1, by omega⟩
              unfold parseB
              rw [if_pos (.inr (by simpa using h5))]
            · refine (if_neg h5).trans ?_
              exact (endP_not (by simpa using h5)).symm
end Go.Proofs.YtmicbgcdnkomjaaDoor
