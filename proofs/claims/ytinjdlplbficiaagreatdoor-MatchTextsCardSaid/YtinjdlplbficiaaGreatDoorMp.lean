
/-
  Matchers, plainly: what is wrong with one and with several, what passes, their text and what a text is. Nothing here speaks of the program.
-/
import Derived.Test.YtinjdlplbficiaaGreatDoorLb
import Derived.Test.YtinjdlplbficiaaGreatDoorRd6
import Derived.Test.YtinjdlplbficiaaGreatDoorRe
namespace Go.Proofs.YtinjdlplbficiaaGreatDoor
set_option linter.unusedVariables false
set_option linter.unusedSimpArgs false
/-- A matcher: kind, name, value. -/
abbrev Mt' := Int × ByteArray × ByteArray
def reM (v s : ByteArray) : Bool := match rxP (bl v) with
  | .ok t => matchP (compP t []).1 (compP t []).2 (runesB (bl s))
  | .error _ => false
def passM (m : Mt') (s : ByteArray) : Bool :=
  if m.1 = 1 then decide (s = m.2.2) else if m.1 = 2 then !decide (s = m.2.2) else if m.1 = 3 then reM m.2.2 s else if m.1 = 4 then !reM m.2.2 s else false
def formM (v : ByteArray) : Nat := match rxP (bl v) with
  | .ok _ => 0
  | .error f => f.2
def checkM (m : Mt') : Nat :=
  if m.1 < 1 ∨ 4 < m.1 then 70 else if namedP (bl m.2.1) = false then 50 else if valuedP (bl m.2.2) = false then 51 else if m.1 < 3 then 0 else formM m.2.2
def oneM (m : Mt') (s : ByteArray) : Bool := decide (checkM m = 0) && passM m s
def checksM : List Mt' → Nat
  | [] => 0
  | m :: r => if checkM m ≠ 0 then checkM m else checksM r
def noneB : ByteArray := ⟨#[]⟩
def bareM (l : List Mt') : Bool := l.all fun m => passM m noneB
def rightM (l : List Mt') : Nat := if 16 < l.length then 3 else if checksM l ≠ 0 then checksM l else if bareM l then 71 else 0
def passesM (l : List Mt') (x : List Lb) : Bool := l.all fun m => passM m (getP x m.2.1)
def allM (l : List Mt') (x : List Lb) : Bool := decide (rightM l = 0) && passesM l x
theorem rxM_err {b : Bs} {f : Flt} (h : rxP b = .error f) : f.2 ≠ 0 := by
  unfold rxP at h
  split at h
  · injection h with h; subst h; decide
  · have := wholeP_ec (places_ok b 0) h
    unfold Ec at this; omega
theorem formM_zero {v : ByteArray} : formM v = 0 ↔ ∃ t, rxP (bl v) = .ok t := by
  unfold formM
  cases h : rxP (bl v) with
  | ok t => simp
  | error f => simp [rxM_err h]
theorem checksM_zero : ∀ {l : List Mt'}, checksM l = 0 ↔ ∀ m ∈ l, checkM m = 0
  | [] => by simp [checksM]
  | m :: r => by
    unfold checksM
    by_cases h : checkM m = 0
    · rw [if_neg (by simp [h]), checksM_zero]; simp [h]
    · rw [if_pos h]; simp [h]
theorem rightM_zero {l : List Mt'} : rightM l = 0 ↔ l.length ≤ 16 ∧ (∀ m ∈ l, checkM m = 0) ∧ ∃ m ∈ l, passM m noneB = false := by
  unfold rightM
  by_cases h1 : 16 < l.length
  · rw [if_pos h1]; exact ⟨fun e => (by cases e), fun h => by omega⟩
  · rw [if_neg h1]
    by_cases h2 : checksM l = 0
    · rw [if_neg (by simp [h2])]
      have h3 := checksM_zero.1 h2
      by_cases hb : bareM l = true
      · rw [if_pos hb]
        unfold bareM at hb
        rw [List.all_eq_true] at hb
        exact ⟨fun e => (by cases e), fun ⟨_, _, m, hm, hf⟩ => by rw [hb m hm] at hf; cases hf⟩
      · rw [if_neg hb]
        unfold bareM at hb
        rw [Bool.not_eq_true, List.all_eq_false] at hb
        exact ⟨fun _ => ⟨by omega, h3, by obtain ⟨m, hm, hf⟩ := hb; exact ⟨m, hm, by simpa using hf⟩⟩, fun _ => rfl⟩
    · rw [if_pos h2]
      exact ⟨fun e => absurd e h2, fun ⟨_, h, _⟩ => absurd (checksM_zero.2 h) h2⟩
theorem check_kind {m : Mt'} (h : checkM m = 0) : m.1 = 1 ∨ m.1 = 2 ∨ m.1 = 3 ∨ m.1 = 4 := by
  unfold checkM at h
  split at h
  · cases h
  · omega
theorem check_parts {m : Mt'} (h : checkM m = 0) : namedP (bl m.2.1) = true ∧ valuedP (bl m.2.2) = true ∧ (3 ≤ m.1 → formM m.2.2 = 0) := by
  unfold checkM at h
  split at h
  · cases h
  · split at h
    · cases h
    · split at h
      · cases h
      · rename_i h2 h3
        refine ⟨by simpa using h2, by simpa using h3, fun hk => ?_⟩
        rw [if_neg (by omega)] at h
        exact h

/-! ### the text -/
def signM (k : Int) : Bs := if k = 1 then [61] else if k = 2 then [33, 61] else if k = 3 then [61, 126] else if k = 4 then [33, 126] else [63]
def oneT (m : Mt') : Bs := bl m.2.1 ++ (signM m.1 ++ quoteP (bl m.2.2))
def bracesFrom : Nat → List Mt' → Bs
  | _, [] => [125]
  | k, m :: r => (if k = 0 then [] else [44, 32]) ++ (oneT m ++ bracesFrom (k + 1) r)
def bracesM (l : List Mt') : Bs := 123 :: bracesFrom 0 l
def metricM (m : Mt') : Bool := decide (m.1 = 1) && decide (bl m.2.1 = nameLabel) && namedP (bl m.2.2)
def printM : List Mt' → Bs
  | [] => bracesM []
  | [m] => if metricM m then bl m.2.2 else bracesM [m]
  | m :: n :: r => if metricM m then bl m.2.2 ++ bracesM (n :: r) else bracesM (m :: n :: r)

/-! ### what a text is -/
/-- The sign that a text begins with, and what stands behind it. -/
def signF : Bs → Option (Nat × Bs)
  | 33 :: 126 :: r => some (4, r)
  | 61 :: 126 :: r => some (3, r)
  | 33 :: 61 :: r => some (2, r)
  | 61 :: r => some (1, r)
  | _ => none
def endK (l : List Mt') (k : Int) : List Mt' := match l.getLast? with
  | some m => l.dropLast ++ [(k, m.2.1, m.2.2)]
  | none => []
def endV (l : List Mt') (v : ByteArray) : List Mt' := match l.getLast? with
  | some m => l.dropLast ++ [(m.1, m.2.1, v)]
  | none => []
def bareName : ByteArray := mkB nameLabel
inductive Stp
  | go (k : Nat) (s : Bs) (l : List Mt')
  | done (l : List Mt')
  | bad
def metricF (s : Bs) : Bool := decide (wordN s ≠ 0) && namedP (s.take 1)
/-- What comes next, of a text without a blank ahead. -/
def stepM (k : Nat) (s : Bs) (l : List Mt') : Stp :=
  if k = 0 ∧ metricF s = true then .go 1 (s.drop (wordN s)) (l ++ [(1, bareName, mkB (s.take (wordN s)))])
  else if k ≤ 1 ∧ s.head? = some 123 then .go 2 s.tail l
  else if k = 2 ∧ wordN s ≠ 0 then .go 3 (s.drop (wordN s)) (l ++ [(0, mkB (s.take (wordN s)), noneB)])
  else if k = 3 ∧ (signF s).isSome then .go 4 ((signF s).map (·.2)).get! (endK l (((signF s).map (·.1)).get! : Nat))
  else if k = 4 ∧ (unqP s).2.2 = 0 then .go 5 (s.drop (unqP s).2.1) (endV l (mkB (unqP s).1))
  else if k = 5 ∧ s.head? = some 44 then .go 2 s.tail l
  else if (k = 5 ∨ k = 2) ∧ s.head? = some 125 then .go 6 s.tail l
  else if (k = 6 ∨ k = 1) ∧ s = [] then .done l
  else .bad
def scanM : Nat → Nat → Bs → List Mt' → Option (List Mt')
  | 0, _, _, _ => none
  | n + 1, k, s, l => match stepM k (bareP s) l with
    | .go k' s' l' => scanM n k' s' l'
    | .done l' => some l'
    | .bad => none
def readM (s : Bs) : Option (List Mt') := scanM (s.length + 1) 0 s []
def parseM (s : Bs) : Nat × List Mt' := match readM s with
  | none => (8, [])
  | some l => if rightM l ≠ 0 then (rightM l, []) else (0, l)
theorem sign_some {s r : Bs} {k : Nat} (h : signF s = some (k, r)) : r.length < s.length ∧ 1 ≤ k ∧ k ≤ 4 := by
  unfold signF at h
  split at h <;> first | cases h | skip
  all_goals (simp only [List.length_cons]; omega)
/-- Each step takes something away. -/
theorem step_lt {k k' : Nat} {s s' : Bs} {l l' : List Mt'} (h : stepM k s l = .go k' s' l') : s'.length < s.length := by
  unfold stepM at h
  have hw := wordN_le s
  split at h
  · rename_i hc
    injection h with _ h _; subst h
    have : wordN s ≠ 0 := by have := hc.2; unfold metricF at this; simp at this; exact this.1
    rw [List.length_drop]; omega
  · split at h
    · rename_i hc
      injection h with _ h _; subst h
      cases s with | nil => simp at hc | cons _ _ => simp
    · split at h
      · rename_i hc
        injection h with _ h _; subst h
        rw [List.length_drop]; omega
      · split at h
        · rename_i hc
          injection h with _ h _; subst h
          obtain ⟨p, hp⟩ := Option.isSome_iff_exists.1 hc.2
          obtain ⟨k0, r⟩ := p
          rw [hp]; exact (sign_some hp).1
        · split at h
          · rename_i hc
            injection h with _ h _; subst h
            have := unqP_le hc.2
            rw [List.length_drop]; omega
          · split at h
            · rename_i hc
              injection h with _ h _; subst h
              cases s with | nil => simp at hc | cons _ _ => simp
            · split at h
              · rename_i hc
                injection h with _ h _; subst h
                cases s with | nil => simp at hc | cons _ _ => simp
              · split at h <;> cases h
theorem scan_more : ∀ (n m k : Nat) (s : Bs) (l : List Mt'), s.length < n → s.length < m → scanM n k s l = scanM m k s l
  | 0, _, _, _, _, h, _ => absurd h (Nat.not_lt_zero _)
  | _ + 1, 0, _, _, _, _, h => absurd h (Nat.not_lt_zero _)
  | n + 1, m + 1, k, s, l, hn, hm => by
    unfold scanM
    cases h : stepM k (bareP s) l with
    | go k' s' l' =>
      have := step_lt h
      have := bareP_le s
      exact scan_more n m k' s' l' (by omega) (by omega)
    | done l' => rfl
    | bad => rfl
/-- What is read of what is left. -/
def restM (k : Nat) (s : Bs) (l : List Mt') : Option (List Mt') := scanM (s.length + 1) k s l
theorem rest_step (k : Nat) (s : Bs) (l : List Mt') : restM k s l = match stepM k (bareP s) l with
    | .go k' s' l' => restM k' s' l'
    | .done l' => some l'
    | .bad => none := by
  unfold restM
  rw [scanM]
  cases h : stepM k (bareP s) l with
  | go k' s' l' =>
    have := step_lt h
    have := bareP_le s
    exact scan_more _ _ k' s' l' (by omega) (by omega)
  | done l' => rfl
  | bad => rfl
theorem rest_bare (k : Nat) (s : Bs) (l : List Mt') : restM k (bareP s) l = restM k s l := by
  rw [rest_step, rest_step k s, bareP_bare]

/-! ### there and back -/
theorem sign_of {k : Int} (hk : k = 1 ∨ k = 2 ∨ k = 3 ∨ k = 4) (r : Bs) : signF (signM k ++ 34 :: r) = some (k.toNat, 34 :: r) := by
  rcases hk with rfl | rfl | rfl | rfl <;> simp [signM, signF]
theorem sign_head {k : Int} (hk : k = 1 ∨ k = 2 ∨ k = 3 ∨ k = 4) : ∃ c t, signM k = c :: t ∧ letterN c.toNat = false ∧ c ≠ 32 := by
  rcases hk with rfl | rfl | rfl | rfl <;> simp [signM] <;> decide
theorem one_rest {m : Mt'} (hn : namedP (bl m.2.1) = true) (hk : m.1 = 1 ∨ m.1 = 2 ∨ m.1 = 3 ∨ m.1 = 4) (t : Bs) (l : List Mt') : restM 2 (oneT m ++ t) l = restM 5 t (l ++ [m]) := by
  obtain ⟨k, n, v⟩ := m
  obtain ⟨h1, h2, h3⟩ := named_parts hn
  obtain ⟨c, u, hs, hc, hb⟩ := sign_head hk
  simp only at hn h1 h2 h3 hs hk
  have e : oneT (k, n, v) ++ t = bl n ++ (signM k ++ (quoteP (bl v) ++ t)) := by unfold oneT; simp
  have hw : wordN (bl n ++ (signM k ++ (quoteP (bl v) ++ t))) = (bl n).length := by
    rw [hs, List.cons_append]; exact wordN_app _ _ _ h3 hc
  have hne : (bl n).length ≠ 0 := by cases hh : bl n with | nil => exact absurd hh h1 | cons _ _ => simp
  have hhd : (bl n ++ (signM k ++ (quoteP (bl v) ++ t))).head? ≠ some 123 := by
    cases hh : bl n with
    | nil => exact absurd hh h1
    | cons x y =>
      rw [hh, List.all_cons, Bool.and_eq_true] at h3
      simp only [List.cons_append, List.head?_cons, ne_eq, Option.some.injEq]
      rintro rfl; have := h3.1; revert this; decide
  rw [e, rest_step, named_head hn]
  have s1 : stepM 2 (bl n ++ (signM k ++ (quoteP (bl v) ++ t))) l = .go 3 (signM k ++ (quoteP (bl v) ++ t)) (l ++ [(0, n, noneB)]) := by
    unfold stepM
    rw [if_neg (by simp), if_neg (by omega), if_pos ⟨rfl, by rw [hw]; exact hne⟩, hw, List.drop_left, List.take_left, mk_bl]
  rw [s1]
  simp only
  have hbs : bareP (signM k ++ (quoteP (bl v) ++ t)) = signM k ++ (quoteP (bl v) ++ t) := by rw [hs, List.cons_append]; exact bareP_cons _ hb
  have hq : quoteP (bl v) ++ t = 34 :: ((bl v).flatMap escP ++ [34] ++ t) := by unfold quoteP; simp
  have s2 : stepM 3 (signM k ++ (quoteP (bl v) ++ t)) (l ++ [(0, n, noneB)]) = .go 4 (quoteP (bl v) ++ t) (l ++ [(k, n, noneB)]) := by
    have hf : signF (signM k ++ (quoteP (bl v) ++ t)) = some (k.toNat, quoteP (bl v) ++ t) := by rw [hq]; exact sign_of hk _
    have hkn : ((k.toNat : Nat) : Int) = k := by omega
    unfold stepM
    rw [if_neg (by simp), if_neg (by omega), if_neg (by omega), if_pos ⟨rfl, by rw [hf]; rfl⟩, hf]
    simp [endK, hkn]
  rw [rest_step, hbs, s2]
  simp only
  have hbq : bareP (quoteP (bl v) ++ t) = quoteP (bl v) ++ t := by rw [hq]; exact bareP_cons _ (by decide)
  have hu := unq_quote (bl v) t
  have s3 : stepM 4 (quoteP (bl v) ++ t) (l ++ [(k, n, noneB)]) = .go 5 t (l ++ [(k, n, v)]) := by
    unfold stepM
    rw [if_neg (by simp), if_neg (by omega), if_neg (by omega), if_neg (by omega), if_pos ⟨rfl, by rw [hu]⟩, hu, List.drop_left, mk_bl]
    simp [endV]
  rw [rest_step, hbq, s3]
theorem one_bare {m : Mt'} (hn : namedP (bl m.2.1) = true) (t : Bs) : bareP (oneT m ++ t) = oneT m ++ t := by
  unfold oneT; rw [List.append_assoc]; exact named_head hn _
theorem step_end (l : List Mt') : restM 6 [] l = some l := by
  rw [rest_step]; unfold stepM; simp [bareP]
theorem step_close (k : Nat) (hk : k = 5 ∨ k = 2) (l : List Mt') : restM k [125] l = some l := by
  rw [rest_step, bareP_cons _ (by decide)]
  have : stepM k [125] l = .go 6 [] l := by
    unfold stepM
    have hw : wordN [125] = 0 := by decide
    rw [if_neg (by omega), if_neg (by simp), if_neg (by simp [hw]), if_neg (by omega), if_neg (by omega), if_neg (by simp), if_pos ⟨by omega, by simp⟩]; rfl
  rw [this]; exact step_end l
theorem step_comma (t : Bs) (l : List Mt') : restM 5 (44 :: t) l = restM 2 t l := by
  rw [rest_step, bareP_cons _ (by decide)]
  have : stepM 5 (44 :: t) l = .go 2 t l := by
    unfold stepM
    rw [if_neg (by omega), if_neg (by omega), if_neg (by omega), if_neg (by omega), if_neg (by omega), if_pos ⟨rfl, by simp⟩]; rfl
  rw [this]
def OkT (m : Mt') : Prop := namedP (bl m.2.1) = true ∧ (m.1 = 1 ∨ m.1 = 2 ∨ m.1 = 3 ∨ m.1 = 4)
theorem braces_rest : ∀ (r : List Mt') (j : Nat) (l : List Mt'), (∀ m ∈ r, OkT m) → restM 5 (bracesFrom (j + 1) r) l = some (l ++ r)
  | [], j, l, _ => by rw [bracesFrom, step_close 5 (.inl rfl)]; simp
  | m :: r, j, l, h => by
    have hm := h m (by simp)
    rw [bracesFrom, if_neg (by omega)]
    have e1 : [44, 32] ++ (oneT m ++ bracesFrom (j + 1 + 1) r) = 44 :: 32 :: (oneT m ++ bracesFrom (j + 1 + 1) r) := by simp
    rw [e1, step_comma, ← rest_bare, bareP_blank, one_bare hm.1, one_rest hm.1 hm.2, braces_rest r (j + 1) _ fun x hx => h x (List.mem_cons_of_mem _ hx)]
    simp
theorem step_open (k : Nat) (hk : k = 0 ∨ k = 1) (t : Bs) (l : List Mt') : restM k (123 :: t) l = restM 2 t l := by
  rw [rest_step, bareP_cons _ (by decide)]
  have : stepM k (123 :: t) l = .go 2 t l := by
    unfold stepM
    have hw : wordN (123 :: t) = 0 := by rw [wordN_cons, if_neg (by decide)]
    rw [if_neg (by unfold metricF; simp [hw]), if_pos ⟨by omega, by simp⟩]; rfl
  rw [this]
theorem braces_read (k : Nat) (hk : k = 0 ∨ k = 1) (l acc : List Mt') (h : ∀ m ∈ l, OkT m) : restM k (bracesM l) acc = some (acc ++ l) := by
  unfold bracesM
  rw [step_open k hk]
  cases l with
  | nil => rw [bracesFrom, step_close 2 (.inr rfl)]; simp
  | cons m r =>
    have hm := h m (by simp)
    rw [bracesFrom, if_pos rfl, List.nil_append, one_rest hm.1 hm.2, braces_rest r 0 _ fun x hx => h x (List.mem_cons_of_mem _ hx)]
    simp
theorem take_all {p : UInt8 → Bool} : ∀ {s : Bs}, s.all p = true → s.takeWhile p = s
  | [], _ => rfl
  | c :: r, h => by
    rw [List.all_cons, Bool.and_eq_true] at h
    rw [List.takeWhile_cons, if_pos h.1, take_all h.2]
theorem metric_rest {m : Mt'} (h : metricM m = true) (t : Bs) (ht : t = [] ∨ ∃ u, t = 123 :: u) : restM 0 (bl m.2.2 ++ t) [] = restM 1 t [m] := by
  obtain ⟨k, n, v⟩ := m
  unfold metricM at h
  simp only [Bool.and_eq_true, decide_eq_true_eq] at h
  obtain ⟨⟨rfl, hn⟩, hv⟩ := h
  obtain ⟨h1, h2, h3⟩ := named_parts hv
  have hw : wordN (bl v ++ t) = (bl v).length := by
    rcases ht with rfl | ⟨u, rfl⟩
    · rw [List.append_nil]
      unfold wordN
      rw [take_all h3]
    · exact wordN_app _ _ _ h3 (by decide)
  rw [rest_step, named_head hv]
  have hm : metricF (bl v ++ t) = true := by
    unfold metricF
    rw [hw]
    cases hh : bl v with
    | nil => exact absurd hh h1
    | cons c r =>
      rw [hh] at hv h3
      unfold namedP at hv
      simp only [List.all_cons, Bool.and_eq_true, decide_eq_true_eq, List.headD_cons] at hv
      simp [namedP, hv.1.2.1, hv.2]
  have s1 : stepM 0 (bl v ++ t) [] = .go 1 t [(1, n, v)] := by
    unfold stepM
    rw [if_pos ⟨rfl, hm⟩, hw, List.drop_left, List.take_left, mk_bl, List.nil_append, show bareName = n from bl_inj (by rw [hn]; exact bl_mk _)]
  rw [s1]
theorem read_print {l : List Mt'} (h : ∀ m ∈ l, OkT m) : readM (printM l) = some l := by
  show restM 0 (printM l) [] = some l
  match l, h with
  | [], _ => exact braces_read 0 (.inl rfl) [] [] (by simp)
  | [m], h =>
    rw [show printM [m] = if metricM m then bl m.2.2 else bracesM [m] from rfl]
    by_cases hm : metricM m = true
    · rw [if_pos hm]
      have := metric_rest hm [] (.inl rfl)
      rw [List.append_nil] at this
      rw [this, rest_step]
      unfold stepM; simp [bareP, wordN]
    · rw [if_neg hm]; exact braces_read 0 (.inl rfl) [m] [] h
  | m :: n :: r, h =>
    rw [show printM (m :: n :: r) = if metricM m then bl m.2.2 ++ bracesM (n :: r) else bracesM (m :: n :: r) from rfl]
    by_cases hm : metricM m = true
    · rw [if_pos hm, metric_rest hm (bracesM (n :: r)) (.inr ⟨_, rfl⟩)]
      exact braces_read 1 (.inr rfl) (n :: r) [m] fun x hx => h x (List.mem_cons_of_mem _ hx)
    · rw [if_neg hm]; exact braces_read 0 (.inl rfl) (m :: n :: r) [] h
theorem parse_print {l : List Mt'} (h : rightM l = 0) : parseM (printM l) = (0, l) := by
  unfold parseM
  rw [read_print fun m hm => ⟨(check_parts ((rightM_zero.1 h).2.1 m hm)).1, check_kind ((rightM_zero.1 h).2.1 m hm)⟩]
  simp only
  rw [if_neg (by simp [h])]

/-! ### how long what is read is -/
def ValN (N : Nat) (l : List Mt') : Prop := ∀ m ∈ l, m.2.2.size ≤ N
theorem ValN.app {N : Nat} {l : List Mt'} {m : Mt'} (h : ValN N l) (hm : m.2.2.size ≤ N) : ValN N (l ++ [m]) := fun x hx => by
  rcases List.mem_append.1 hx with h1 | h1
  · exact h x h1
  · rw [List.mem_singleton.1 h1]; exact hm
theorem ValN.endK {N : Nat} {l : List Mt'} (h : ValN N l) (k : Int) : ValN N (endK l k) := by
  unfold Go.Proofs.YtinjdlplbficiaaGreatDoor.endK
  cases hl : l.getLast? with
  | none => intro m hm; cases hm
  | some m =>
    have hm := List.mem_of_getLast? hl
    exact ValN.app (fun x hx => h x (List.dropLast_subset l hx)) (h m hm)
theorem ValN.endV {N : Nat} {l : List Mt'} (h : ValN N l) {v : ByteArray} (hv : v.size ≤ N) : ValN N (endV l v) := by
  unfold Go.Proofs.YtinjdlplbficiaaGreatDoor.endV
  cases hl : l.getLast? with
  | none => intro m hm; cases hm
  | some m => exact ValN.app (fun x hx => h x (List.dropLast_subset l hx)) hv
theorem step_vals {N k k' : Nat} {s s' : Bs} {l l' : List Mt'} (h : stepM k s l = .go k' s' l') (hs : s.length ≤ N) (hl : ValN N l) : ValN N l' := by
  unfold stepM at h
  split at h
  · injection h with _ _ h; subst h
    exact hl.app (by simp only [mkB_size, List.length_take]; omega)
  · split at h
    · injection h with _ _ h; subst h; exact hl
    · split at h
      · injection h with _ _ h; subst h
        exact hl.app (by show (0 : Nat) ≤ N; omega)
      · split at h
        · injection h with _ _ h; subst h; exact hl.endK _
        · split at h
          · rename_i hc
            injection h with _ _ h; subst h
            exact hl.endV (by have := unqP_le hc.2; rw [mkB_size]; omega)
          · split at h
            · injection h with _ _ h; subst h; exact hl
            · split at h
              · injection h with _ _ h; subst h; exact hl
              · split at h <;> cases h
theorem step_done {k : Nat} {s : Bs} {l l' : List Mt'} (h : stepM k s l = .done l') : l' = l := by
  unfold stepM at h
  repeat' (split at h)
  all_goals (first | (injection h with h; exact h.symm) | cases h)
theorem scan_vals {N : Nat} : ∀ (n k : Nat) (s : Bs) (l r : List Mt'), s.length ≤ N → ValN N l → scanM n k s l = some r → ValN N r
  | 0, _, _, _, _, _, _, h => by cases h
  | n + 1, k, s, l, r, hs, hl, h => by
    unfold scanM at h
    have hb := bareP_le s
    cases hst : stepM k (bareP s) l with
    | go k' s' l' =>
      rw [hst] at h
      have := step_lt hst
      exact scan_vals n k' s' l' r (by omega) (step_vals hst (by omega) hl) h
    | done l' =>
      rw [hst] at h
      simp only at h
      injection h with h; subst h
      rw [step_done hst]; exact hl
    | bad => rw [hst] at h; cases h
theorem read_vals {s : Bs} {r : List Mt'} (h : readM s = some r) : ValN s.length r := scan_vals _ _ _ _ _ (Nat.le_refl _) (fun m hm => by cases hm) h
end Go.Proofs.YtinjdlplbficiaaGreatDoor
