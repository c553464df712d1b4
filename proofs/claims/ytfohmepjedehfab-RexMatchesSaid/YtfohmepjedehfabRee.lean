/-
  The faults of texts that are no patterns: each has one of the document's two numbers. Plain; nothing here speaks of the program.
  Patterns by reach: to which places of a text one comes by a part of a pattern from some places. Plain; nothing here speaks of the program.
-/
import Derived.Test.YtfohmepjedehfabRe
namespace Go.Proofs.Ytfohmepjedehfab
set_option linter.unusedVariables false
set_option linter.unusedSimpArgs false
section
set_option linter.unusedVariables false
set_option linter.unusedSimpArgs false
def Ec (f : Flt) : Prop := f.2 = 8 ∨ f.2 = 60
theorem rescP_ec {least : Int} {l : List Pc} {f : Flt} (e : rescP least l = .error f) : Ec f := by
  unfold rescP at e
  split at e
  · split at e
    · cases e
    · injection e with e; subst e; exact .inl rfl
  · injection e with e; subst e; exact .inl rfl
theorem singleP_ec {least : Int} {l : List Pc} {f : Flt} (e : singleP least l = .error f) : Ec f := by
  unfold singleP at e
  split at e
  · exact rescP_ec e
  · split at e
    · cases e
    · injection e with e; subst e; exact .inl rfl
theorem memberP_ec {l : List Pc} {f : Flt} (e : memberP l = .error f) : Ec f := by
  unfold memberP at e
  split at e
  · cases e
  · split at e
    · rename_i h; injection e with e; subst e; exact singleP_ec h
    · split at e
      · split at e
        · rename_i h; injection e with e; subst e; exact singleP_ec h
        · cases e
      · cases e
theorem membersP_ec : ∀ (n : Nat) (acc : Spans) (l : List Pc), OkL l → l.length ≤ n → ∀ {f : Flt}, membersP n acc l = .error f → Ec f
  | 0, acc, l, ho, hl, f, e => absurd (List.eq_nil_of_length_eq_zero (by omega)) ho.ne
  | n + 1, acc, l, ho, hl, f, e => by
    unfold membersP at e
    split at e
    · cases e
    · split at e
      · rename_i h; injection e with e; subst e; exact memberP_ec h
      · rename_i m l1 h
        have hs := memberP_shr ho h
        exact membersP_ec n _ l1 hs.le.ok (by have := hs.lt; omega) e
theorem classP_ec {l : List Pc} (h : OkL l) (hn : nowP l ≠ -1) {f : Flt} (e : classP l = .error f) : Ec f := by
  unfold classP at e
  simp only at e
  have ho : OkL (if decide (nowP l.tail = 94) = true then l.tail.tail else l.tail) := by
    split
    · rename_i h94
      exact (h.tail hn).tail (by rw [of_decide_eq_true h94]; decide)
    · exact h.tail hn
  split at e
  · rename_i hm; injection e with e; subst e; exact memberP_ec hm
  · rename_i m l2 hm
    have hs := memberP_shr ho hm
    split at e
    · rename_i hms; injection e with e; subst e; exact membersP_ec _ _ _ hs.le.ok (Nat.le_refl _) hms
    · cases e
theorem escapeP_ec {l : List Pc} {f : Flt} (e : escapeP l = .error f) : Ec f := by
  unfold escapeP at e
  split at e
  · cases e
  · split at e
    · rename_i h; injection e with e; subst e; exact rescP_ec h
    · cases e
def GrpEc (grp : List Pc → Rs Re) : Prop := ∀ (l : List Pc), OkL l → nowP l = 40 → ∀ {f : Flt}, grp l = .error f → Ec f
theorem atomP_ec {grp : List Pc → Rs Re} (hg : GrpEc grp) {l : List Pc} (h : OkL l) {f : Flt} (e : atomP grp l = .error f) : Ec f := by
  unfold atomP at e
  split at e
  · rename_i h1; exact hg l h h1 e
  · split at e
    · rename_i h1; exact classP_ec h (by rw [h1]; decide) e
    · split at e
      · exact escapeP_ec e
      · split at e
        · cases e
        · split at e
          · cases e
          · injection e with e; subst e; exact .inl rfl
theorem pieceP_ec {grp : List Pc → Rs Re} (hg : GrpEc grp) {l : List Pc} (h : OkL l) {f : Flt} (e : pieceP grp l = .error f) : Ec f := by
  unfold pieceP at e
  split at e
  · rename_i h1; injection e with e; subst e; exact atomP_ec hg h h1
  · split at e
    · cases e
    · cases e
theorem branchP_ec {grp : List Pc → Rs Re} (hg : GrpEc grp) (hk : GrpOk grp) : ∀ (n : Nat) (acc : Re) (l : List Pc), OkL l → l.length ≤ n → ∀ {f : Flt}, branchP grp n acc l = .error f → Ec f
  | 0, acc, l, ho, hl, f, e => absurd (List.eq_nil_of_length_eq_zero (by omega)) ho.ne
  | n + 1, acc, l, ho, hl, f, e => by
    unfold branchP at e
    split at e
    · cases e
    · split at e
      · rename_i h; injection e with e; subst e; exact pieceP_ec hg ho h
      · rename_i m l1 h
        have hs := pieceP_shr hk ho h
        exact branchP_ec hg hk n _ l1 hs.le.ok (by have := hs.lt; omega) e
theorem altsP_ec {grp : List Pc → Rs Re} (hg : GrpEc grp) (hk : GrpOk grp) : ∀ (n : Nat) (acc : Re) (l : List Pc), OkL l → l.length ≤ n → ∀ {f : Flt}, altsP grp n acc l = .error f → Ec f
  | 0, acc, l, ho, hl, f, e => absurd (List.eq_nil_of_length_eq_zero (by omega)) ho.ne
  | n + 1, acc, l, ho, hl, f, e => by
    unfold altsP at e
    split at e
    · rename_i h124
      have ht := ho.tail (by rw [h124]; decide)
      split at e
      · rename_i h; injection e with e; subst e; exact branchP_ec hg hk _ _ _ ht (Nat.le_refl _) h
      · rename_i b l1 h
        have hs := (branchP_less hk _ _ _ ht h).1
        have := hs.len
        have := tail_lt ho
        exact altsP_ec hg hk n _ l1 hs.ok (by omega) e
    · cases e
theorem patP_ec {grp : List Pc → Rs Re} (hg : GrpEc grp) (hk : GrpOk grp) {l : List Pc} (h : OkL l) {f : Flt} (e : patP grp l = .error f) : Ec f := by
  unfold patP at e
  split at e
  · rename_i hb; injection e with e; subst e; exact branchP_ec hg hk _ _ _ h (Nat.le_refl _) hb
  · rename_i b l1 hb
    exact altsP_ec hg hk _ _ _ (branchP_less hk _ _ _ h hb).1.ok (Nat.le_refl _) e
theorem grpP_ec : ∀ (d : Nat), GrpEc (grpP d)
  | 0 => fun l _ _ f e => by unfold grpP at e; injection e with e; subst e; exact .inr rfl
  | d + 1 => fun l h h40 f e => by
    unfold grpP at e
    split at e
    · rename_i hp; injection e with e; subst e; exact patP_ec (grpP_ec d) (grpP_ok d) (h.tail (by rw [h40]; decide)) hp
    · split at e
      · cases e
      · injection e with e; subst e; exact .inl rfl
theorem wholeP_ec {l : List Pc} (h : OkL l) {f : Flt} (e : wholeP l = .error f) : Ec f := by
  unfold wholeP at e
  split at e
  · rename_i hp; injection e with e; subst e; exact patP_ec (grpP_ec 20) (grpP_ok 20) h hp
  · split at e
    · cases e
    · injection e with e; subst e; exact .inl rfl
end
section
set_option linter.unusedVariables false
set_option linter.unusedSimpArgs false
abbrev bAt (l : List Bool) (k : Nat) : Bool := l.getD k false
def orL (a b : List Bool) : List Bool := List.zipWith (fun x y => x || y) a b
def freshL (next out : List Bool) : List Bool := List.zipWith (fun n o => n && !o) next out
def rounds (step : List Bool → List Bool) (once : Bool) : Nat → List Bool → List Bool → List Bool
  | 0, out, _ => out
  | n + 1, out, now => if once || !((freshL (step now) out).any id) then orL out (freshL (step now) out) else rounds step once n (orL out (freshL (step now) out)) (freshL (step now) out)
def setL' (sp : Spans) (neg : Bool) (w : List Int) (f : List Bool) : List Bool := false :: List.zipWith (fun c b => b && takesP sp neg c) w f
def endsR : Re → List Int → List Bool → List Bool
  | .set sp neg, w, f => setL' sp neg w f
  | .none, _, f => f
  | .cat a b, w, f => endsR b w (endsR a w f)
  | .alt a b, w, f => orL (endsR a w f) (endsR b w f)
  | .star a, w, f => rounds (endsR a w) false (f.length + 1) f f
  | .plus a, w, f => rounds (endsR a w) false (f.length + 1) (List.replicate f.length false) f
  | .may a, w, f => rounds (endsR a w) true (f.length + 1) f f
theorem orL_len {a b : List Bool} (h : a.length = b.length) : (orL a b).length = a.length := by simp [orL, h]
theorem freshL_len {a b : List Bool} (h : a.length = b.length) : (freshL a b).length = b.length := by simp [freshL, h]
theorem orL_at {a b : List Bool} (h : a.length = b.length) (k : Nat) : bAt (orL a b) k = (bAt a k || bAt b k) := by
  simp only [bAt, orL, List.getD_eq_getElem?_getD, List.getElem?_zipWith]
  by_cases hk : k < a.length
  · rw [List.getElem?_eq_getElem hk, List.getElem?_eq_getElem (h ▸ hk)]; rfl
  · rw [List.getElem?_eq_none (by omega), List.getElem?_eq_none (by omega)]; rfl
theorem freshL_at {a b : List Bool} (h : a.length = b.length) (k : Nat) : bAt (freshL a b) k = (bAt a k && !bAt b k) := by
  simp only [bAt, freshL, List.getD_eq_getElem?_getD, List.getElem?_zipWith]
  by_cases hk : k < a.length
  · rw [List.getElem?_eq_getElem hk, List.getElem?_eq_getElem (h ▸ hk)]; rfl
  · rw [List.getElem?_eq_none (by omega), List.getElem?_eq_none (by omega)]; rfl
theorem bAt_lt {l : List Bool} {k : Nat} (h : bAt l k = true) : k < l.length := by
  by_cases hk : k < l.length
  · exact hk
  · simp only [bAt, List.getD_eq_getElem?_getD, List.getElem?_eq_none (show l.length ≤ k by omega)] at h; cases h
theorem rounds_len {step : List Bool → List Bool} {n : Nat} (hs : ∀ f : List Bool, f.length = n → (step f).length = n) (once : Bool) : ∀ (m : Nat) (out now : List Bool), out.length = n → now.length = n → (rounds step once m out now).length = n
  | 0, out, now, h, _ => h
  | m + 1, out, now, h, h2 => by
    have h3 := hs now h2
    have h4 : (freshL (step now) out).length = n := by rw [freshL_len (by omega)]; exact h
    unfold rounds
    split
    · rw [orL_len (by omega)]; exact h
    · exact rounds_len hs once m _ _ (by rw [orL_len (by omega)]; exact h) h4
theorem ends_len (w : List Int) : ∀ (r : Re) (f : List Bool), f.length = w.length + 1 → (endsR r w f).length = w.length + 1
  | .set sp neg, f, h => by simp [endsR, setL', h]
  | .none, f, h => h
  | .cat a b, f, h => by unfold endsR; exact ends_len w b _ (ends_len w a f h)
  | .alt a b, f, h => by unfold endsR; rw [orL_len (by rw [ends_len w a f h, ends_len w b f h])]; exact ends_len w a f h
  | .star a, f, h => by unfold endsR; exact rounds_len (fun f h => ends_len w a f h) _ _ _ _ h h
  | .plus a, f, h => by unfold endsR; exact rounds_len (fun f h => ends_len w a f h) _ _ _ _ (by simp [h]) h
  | .may a, f, h => by unfold endsR; exact rounds_len (fun f h => ends_len w a f h) _ _ _ _ h h
/-- The part of a text between two places. -/
def seg (w : List Int) (j k : Nat) : List Int := (w.drop j).take (k - j)
def Sg (M : List Int → Prop) (w : List Int) (j k : Nat) : Prop := j ≤ k ∧ k ≤ w.length ∧ M (seg w j k)
theorem seg_self (w : List Int) (j : Nat) : seg w j j = [] := by simp [seg]
theorem seg_len {w : List Int} {j k : Nat} (h : j ≤ k) (h2 : k ≤ w.length) : (seg w j k).length = k - j := by simp [seg]; omega
theorem seg_app {w : List Int} {j m k : Nat} (h : j ≤ m) (h2 : m ≤ k) : seg w j m ++ seg w m k = seg w j k := by
  unfold seg
  rw [show k - j = (m - j) + (k - m) by omega, List.take_add, List.drop_drop, show j + (m - j) = m by omega]
theorem seg_split {w u v : List Int} {j k : Nat} (h : j ≤ k) (h2 : k ≤ w.length) (e : seg w j k = u ++ v) : j + u.length ≤ k ∧ u = seg w j (j + u.length) ∧ v = seg w (j + u.length) k := by
  have hl := congrArg List.length e
  rw [seg_len h h2, List.length_append] at hl
  have h3 : j + u.length ≤ k := by omega
  have e2 := e
  rw [← seg_app (w := w) (show j ≤ j + u.length by omega) h3] at e2
  have := List.append_inj e2 (by rw [seg_len (by omega) (by omega)]; omega)
  exact ⟨h3, this.1.symm, this.2.symm⟩
theorem Sg.none {w : List Int} {j k : Nat} : Sg (fun x => x = []) w j k ↔ j = k ∧ k ≤ w.length := by
  constructor
  · rintro ⟨h1, h2, h3⟩
    have := congrArg List.length h3
    rw [seg_len h1 h2] at this
    simp at this
    exact ⟨by omega, h2⟩
  · rintro ⟨rfl, h⟩; exact ⟨Nat.le_refl _, h, seg_self w j⟩
theorem Sg.cat {A B : List Int → Prop} {w : List Int} {j k : Nat} : Sg (fun x => ∃ u v, x = u ++ v ∧ A u ∧ B v) w j k ↔ ∃ m, Sg A w j m ∧ Sg B w m k := by
  constructor
  · rintro ⟨h1, h2, u, v, e, hu, hv⟩
    obtain ⟨h3, e1, e2⟩ := seg_split h1 h2 e
    exact ⟨j + u.length, ⟨by omega, by omega, e1 ▸ hu⟩, ⟨h3, h2, e2 ▸ hv⟩⟩
  · rintro ⟨m, ⟨h1, h2, h3⟩, ⟨h4, h5, h6⟩⟩
    exact ⟨by omega, h5, _, _, (seg_app h1 h4).symm, h3, h6⟩
/-- By steps of A from place to place. -/
inductive Rch (A : Nat → Nat → Prop) : Nat → Nat → Prop
  | refl (j : Nat) : Rch A j j
  | step {j m k : Nat} : A j m → Rch A m k → Rch A j k
theorem star_rch {A : List Int → Prop} {w x : List Int} (h : Star A x) : ∀ {j k : Nat}, j ≤ k → k ≤ w.length → seg w j k = x → Rch (Sg A w) j k := by
  induction h with
  | nil =>
    intro j k h1 h2 e
    have := congrArg List.length e
    rw [seg_len h1 h2] at this
    simp at this
    obtain rfl : j = k := by omega
    exact .refl _
  | cons hu _ ih =>
    intro j k h1 h2 e
    obtain ⟨h3, e1, e2⟩ := seg_split h1 h2 e
    exact .step ⟨by omega, by omega, e1 ▸ hu⟩ (ih h3 h2 e2.symm)
theorem rch_star {A : List Int → Prop} {w : List Int} {j k : Nat} (h : Rch (Sg A w) j k) : j ≤ w.length → Sg (Star A) w j k := by
  induction h with
  | refl j => intro hj; exact ⟨Nat.le_refl _, hj, by rw [seg_self]; exact .nil⟩
  | step h1 _ ih =>
    intro hj
    obtain ⟨h2, h3, h4⟩ := h1
    obtain ⟨h5, h6, h7⟩ := ih h3
    exact ⟨by omega, h6, by rw [← seg_app h2 h5]; exact .cons h4 h7⟩
theorem Sg.star {A : List Int → Prop} {w : List Int} {j k : Nat} (hj : j ≤ w.length) : Sg (Star A) w j k ↔ Rch (Sg A w) j k :=
  ⟨fun ⟨h1, h2, h3⟩ => star_rch h3 h1 h2 rfl, fun h => rch_star h hj⟩
theorem Rch.snoc {A : Nat → Nat → Prop} {j m k : Nat} (h : Rch A j m) (h2 : A m k) : Rch A j k := by
  induction h with
  | refl => exact .step h2 (.refl _)
  | step h3 _ ih => exact .step h3 (ih h2)
def cnt (l : List Bool) : Nat := l.countP id
theorem cnt_le (l : List Bool) : cnt l ≤ l.length := List.countP_le_length
theorem cnt_or : ∀ (a b : List Bool), a.length = b.length → cnt (orL a (freshL b a)) = cnt a + cnt (freshL b a)
  | [], [], _ => rfl
  | x :: a, y :: b, h => by
    have ih := cnt_or a b (by simpa using h)
    simp only [orL, freshL, List.zipWith_cons_cons, cnt, List.countP_cons] at ih ⊢
    cases x <;> cases y <;> simp [ih] <;> omega
  | [], _ :: _, h => by cases h
  | _ :: _, [], h => by cases h
theorem any_cnt {l : List Bool} (h : l.any id = true) : 1 ≤ cnt l := by
  obtain ⟨x, hx, h2⟩ := List.any_eq_true.mp h
  exact List.countP_pos_iff.mpr ⟨x, hx, h2⟩
theorem any_none {l : List Bool} (h : l.any id = false) (k : Nat) : bAt l k = false := by
  by_cases hk : k < l.length
  · rw [List.any_eq_false] at h
    have := h l[k] (List.getElem_mem hk)
    simp only [bAt, List.getD_eq_getElem?_getD, List.getElem?_eq_getElem hk, Option.getD_some]
    simpa using this
  · simp only [bAt, List.getD_eq_getElem?_getD, List.getElem?_eq_none (show l.length ≤ k by omega)]; rfl
/-- Rounds come to what is reached from what there was first, and from where they begin by a step at least. -/
theorem rounds_iff {step : List Bool → List Bool} {n : Nat} {A : Nat → Nat → Prop} (hl : ∀ f : List Bool, f.length = n → (step f).length = n)
    (hs : ∀ (f : List Bool), f.length = n → ∀ k, bAt (step f) k = true ↔ ∃ j, bAt f j = true ∧ A j k) :
    ∀ (m : Nat) (out now : List Bool), out.length = n → now.length = n → n + 1 ≤ m + cnt out → (∀ j k, bAt out j = true → A j k → bAt out k = true ∨ bAt now j = true) →
      ∀ k, bAt (rounds step false m out now) k = true ↔ bAt out k = true ∨ ∃ j i, bAt now j = true ∧ A j i ∧ Rch A i k
  | 0, out, now, h1, h2, hc, _, k => by have := cnt_le out; omega
  | m + 1, out, now, h1, h2, hc, hi, k => by
    have h3 := hl now h2
    have h4 : (freshL (step now) out).length = n := by rw [freshL_len (by omega)]; exact h1
    have h5 : (orL out (freshL (step now) out)).length = n := by rw [orL_len (by omega)]; exact h1
    have ho : ∀ k, bAt (orL out (freshL (step now) out)) k = true ↔ bAt out k = true ∨ ∃ j, bAt now j = true ∧ A j k := fun k => by
      rw [orL_at (by omega), freshL_at (by omega), ← hs now h2 k]
      cases bAt out k <;> simp
    unfold rounds
    rw [Bool.false_or]
    cases hf : (freshL (step now) out).any id with
    | false =>
      rw [if_pos (by rfl), ho]
      have hn : ∀ k, bAt (step now) k = true → bAt out k = true := fun k hk => by
        have := any_none hf k
        rw [freshL_at (by omega), hk] at this
        simpa using this
      have hcl : ∀ {i k : Nat}, Rch A i k → bAt out i = true → bAt out k = true := fun hr => by
        induction hr with
        | refl => exact fun h => h
        | step h6 _ ih =>
          intro h7
          refine ih ?_
          rcases hi _ _ h7 h6 with h | h
          · exact h
          · exact hn _ ((hs now h2 _).mpr ⟨_, h, h6⟩)
      constructor
      · rintro (h | ⟨j, h6, h7⟩)
        · exact .inl h
        · exact .inr ⟨j, k, h6, h7, .refl _⟩
      · rintro (h | ⟨j, i, h6, h7, h8⟩)
        · exact .inl h
        · exact .inl (hcl h8 (hn _ ((hs now h2 _).mpr ⟨_, h6, h7⟩)))
    | true =>
      rw [if_neg (by decide)]
      have hc2 := cnt_or out (step now) (by omega)
      have hc3 := any_cnt hf
      have hfr : ∀ k, bAt (freshL (step now) out) k = true ↔ (bAt out k = false ∧ ∃ j, bAt now j = true ∧ A j k) := fun k => by
        rw [freshL_at (by omega), ← hs now h2 k]
        cases bAt out k <;> simp
      have ih := rounds_iff hl hs m _ _ h5 h4 (by omega) (fun j k hj hA => by
        rw [ho] at hj
        rcases hj with hj | hj
        · rcases hi _ _ hj hA with h | h
          · exact .inl ((ho k).mpr (.inl h))
          · exact .inl ((ho k).mpr (.inr ⟨j, h, hA⟩))
        · cases hb : bAt out j with
          | false => exact .inr ((hfr j).mpr ⟨hb, hj⟩)
          | true =>
            rcases hi _ _ hb hA with h | h
            · exact .inl ((ho k).mpr (.inl h))
            · exact .inl ((ho k).mpr (.inr ⟨j, h, hA⟩))) k
      rw [ih, ho]
      -- what is reached by what had been there is there, or is reached from the fresh ones
      have key : ∀ {i k : Nat}, Rch A i k → bAt (orL out (freshL (step now) out)) i = true → bAt (orL out (freshL (step now) out)) k = true ∨ ∃ j i, bAt (freshL (step now) out) j = true ∧ A j i ∧ Rch A i k := fun {i k} hr => by
        induction hr with
        | refl => exact fun h => .inl h
        | @step j m k h6 h7 ih2 =>
          intro h8
          by_cases hfj : bAt (freshL (step now) out) j = true
          · exact .inr ⟨j, m, hfj, h6, h7⟩
          · refine ih2 ?_
            rw [ho] at h8 ⊢
            have hoj : bAt out j = true := by
              rcases h8 with h | h
              · exact h
              · cases hb : bAt out j with
                | true => rfl
                | false => exact absurd ((hfr j).mpr ⟨hb, h⟩) hfj
            rcases hi _ _ hoj h6 with h | h
            · exact .inl h
            · exact .inr ⟨j, h, h6⟩
      constructor
      · rintro ((h | ⟨j, h6, h7⟩) | ⟨j, i, h6, h7, h8⟩)
        · exact .inl h
        · exact .inr ⟨j, k, h6, h7, .refl _⟩
        · obtain ⟨_, j0, h9, h10⟩ := (hfr j).mp h6
          exact .inr ⟨j0, j, h9, h10, .step h7 h8⟩
      · rintro (h | ⟨j, i, h6, h7, h8⟩)
        · exact .inl (.inl h)
        · rcases key h8 ((ho i).mpr (.inr ⟨j, h6, h7⟩)) with h | h
          · exact .inl ((ho k).mp h)
          · exact .inr h
theorem set_at (sp : Spans) (neg : Bool) (w : List Int) (f : List Bool) (hf : f.length = w.length + 1) (k : Nat) :
    bAt (setL' sp neg w f) k = true ↔ ∃ j, bAt f j = true ∧ Sg (Mt (.set sp neg)) w j k := by
  cases k with
  | zero =>
    constructor
    · intro h; cases h
    · rintro ⟨j, _, h1, h2, c, h3, _⟩
      have := congrArg List.length h3
      rw [seg_len h1 h2] at this
      simp at this
  | succ k =>
    have e1 : bAt (setL' sp neg w f) (k + 1) = (List.zipWith (fun c b => b && takesP sp neg c) w f).getD k false := rfl
    rw [e1, List.getD_eq_getElem?_getD, List.getElem?_zipWith]
    have hsg : ∀ (hk : k < w.length), seg w k (k + 1) = [w[k]] := fun hk => by
      unfold seg
      rw [show k + 1 - k = 1 by omega, List.drop_eq_getElem_cons hk]; rfl
    constructor
    · intro h
      by_cases hk : k < w.length
      · rw [List.getElem?_eq_getElem hk, List.getElem?_eq_getElem (show k < f.length by omega)] at h
        simp only [Option.getD_some, Bool.and_eq_true] at h
        refine ⟨k, ?_, by omega, by omega, w[k], hsg hk, h.2⟩
        simp only [bAt, List.getD_eq_getElem?_getD, List.getElem?_eq_getElem (show k < f.length by omega)]
        exact h.1
      · rw [List.getElem?_eq_none (show w.length ≤ k by omega)] at h
        cases h
    · rintro ⟨j, h0, h1, h2, c, h3, h4⟩
      have hl := congrArg List.length h3
      rw [seg_len h1 h2] at hl
      simp at hl
      obtain rfl : j = k := by omega
      have hk : j < w.length := by omega
      rw [hsg hk] at h3
      injection h3 with h3
      rw [List.getElem?_eq_getElem hk, List.getElem?_eq_getElem (show j < f.length by omega)]
      simp only [bAt, List.getD_eq_getElem?_getD, List.getElem?_eq_getElem (show j < f.length by omega), Option.getD_some] at h0 ⊢
      rw [h0, h3, h4]; rfl
theorem ends_iff (w : List Int) : ∀ (r : Re) (f : List Bool), f.length = w.length + 1 → ∀ k, bAt (endsR r w f) k = true ↔ ∃ j, bAt f j = true ∧ Sg (Mt r) w j k
  | .set sp neg, f, h, k => set_at sp neg w f h k
  | .none, f, h, k => by
    constructor
    · intro hk; exact ⟨k, hk, Sg.none.mpr ⟨rfl, by have := bAt_lt (l := f) hk; omega⟩⟩
    · rintro ⟨j, hj, hs⟩; obtain ⟨rfl, _⟩ := Sg.none.mp hs; exact hj
  | .cat a b, f, h, k => by
    unfold endsR
    rw [ends_iff w b _ (ends_len w a f h) k]
    constructor
    · rintro ⟨m, hm, hs⟩
      obtain ⟨j, hj, ht⟩ := (ends_iff w a f h m).mp hm
      exact ⟨j, hj, Sg.cat.mpr ⟨m, ht, hs⟩⟩
    · rintro ⟨j, hj, hs⟩
      obtain ⟨m, h1, h2⟩ := Sg.cat.mp hs
      exact ⟨m, (ends_iff w a f h m).mpr ⟨j, hj, h1⟩, h2⟩
  | .alt a b, f, h, k => by
    unfold endsR
    rw [orL_at (by rw [ends_len w a f h, ends_len w b f h]), Bool.or_eq_true, ends_iff w a f h k, ends_iff w b f h k]
    constructor
    · rintro (⟨j, h1, h2, h3, h4⟩ | ⟨j, h1, h2, h3, h4⟩)
      · exact ⟨j, h1, h2, h3, .inl h4⟩
      · exact ⟨j, h1, h2, h3, .inr h4⟩
    · rintro ⟨j, h1, h2, h3, h4 | h4⟩
      · exact .inl ⟨j, h1, h2, h3, h4⟩
      · exact .inr ⟨j, h1, h2, h3, h4⟩
  | .star a, f, h, k => by
    unfold endsR
    rw [rounds_iff (n := w.length + 1) (A := Sg (Mt a) w) (fun f h => ends_len w a f h) (fun f h => ends_iff w a f h) _ _ _ h h (by omega) (fun j k h1 h2 => .inr h1)]
    constructor
    · rintro (h1 | ⟨j, i, h1, h2, h3⟩)
      · exact ⟨k, h1, (Sg.star (A := Mt a) (by have := bAt_lt h1; omega)).mpr (.refl _)⟩
      · exact ⟨j, h1, (Sg.star (A := Mt a) (by have := bAt_lt h1; omega)).mpr (.step h2 h3)⟩
    · rintro ⟨j, h1, h2⟩
      cases (Sg.star (A := Mt a) (by have := bAt_lt h1; omega)).mp h2 with
      | refl => exact .inl h1
      | step h3 h4 => exact .inr ⟨j, _, h1, h3, h4⟩
  | .plus a, f, h, k => by
    unfold endsR
    have hz : ∀ k, bAt (List.replicate f.length false) k = false := fun k => by
      simp only [bAt, List.getD_eq_getElem?_getD, List.getElem?_replicate]; split <;> rfl
    rw [rounds_iff (n := w.length + 1) (A := Sg (Mt a) w) (fun f h => ends_len w a f h) (fun f h => ends_iff w a f h) _ _ _ (by simp [h]) h (by omega) (fun j k h1 h2 => by rw [hz] at h1; cases h1)]
    constructor
    · rintro (h1 | ⟨j, i, h1, h2, h3⟩)
      · rw [hz] at h1; cases h1
      · exact ⟨j, h1, Sg.cat.mpr ⟨i, h2, (Sg.star (A := Mt a) h2.2.1).mpr h3⟩⟩
    · rintro ⟨j, h1, h2⟩
      obtain ⟨i, h3, h4⟩ := Sg.cat.mp h2
      exact .inr ⟨j, i, h1, h3, (Sg.star (A := Mt a) h3.2.1).mp h4⟩
  | .may a, f, h, k => by
    unfold endsR rounds
    have h3 := ends_len w a f h
    rw [if_pos (by rfl), orL_at (by rw [freshL_len (by omega)]), freshL_at (by omega)]
    have h1 := ends_iff w a f h k
    have e : (bAt f k || (bAt (endsR a w f) k && !bAt f k)) = true ↔ bAt f k = true ∨ bAt (endsR a w f) k = true := by cases bAt f k <;> simp
    rw [e, h1]
    constructor
    · rintro (h2 | ⟨j, h2, h3, h4, h5⟩)
      · exact ⟨k, h2, Nat.le_refl _, by have := bAt_lt h2; omega, .inl (seg_self w k)⟩
      · exact ⟨j, h2, h3, h4, .inr h5⟩
    · rintro ⟨j, h2, h3, h4, h5 | h5⟩
      · obtain ⟨rfl, _⟩ := Sg.none.mp ⟨h3, h4, h5⟩
        exact .inl h2
      · exact .inr ⟨j, h2, h3, h4, h5⟩
/-- A whole text matches just if its end is reached from its beginning. -/
theorem ends_match (r : Re) (w : List Int) : bAt (endsR r w (true :: List.replicate w.length false)) w.length = true ↔ Mt r w := by
  rw [ends_iff w r _ (by simp)]
  constructor
  · rintro ⟨j, h1, h2, h3, h4⟩
    cases j with
    | zero => simpa [seg] using h4
    | succ j =>
      have : bAt (true :: List.replicate w.length false) (j + 1) = false := by
        simp only [bAt, List.getD_eq_getElem?_getD, List.getElem?_cons_succ, List.getElem?_replicate]; split <;> rfl
      rw [this] at h1; cases h1
  · intro h
    exact ⟨0, rfl, Nat.zero_le _, Nat.le_refl _, by simpa [seg] using h⟩
end
end Go.Proofs.Ytfohmepjedehfab
