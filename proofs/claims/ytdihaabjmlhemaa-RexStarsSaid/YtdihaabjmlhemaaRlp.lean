/-
  Patterns within groups: what a text is as a pattern it is within brackets, too, whatever stands behind, as long as groups are not too deep. Plain; nothing here speaks of the program.
  Texts of patterns in brackets, beside one another, with a bar between, and with a sign behind, as patterns. Plain; nothing here speaks of the program.
-/
import Derived.Test.YtdihaabjmlhemaaRee
import Derived.Test.YtdihaabjmlhemaaRd6
namespace Go.Proofs.Ytdihaabjmlhemaa
set_option linter.unusedVariables false
set_option linter.unusedSimpArgs false
section
set_option linter.unusedVariables false
set_option linter.unusedSimpArgs false
/-- Two lists of places with the same runes, but for what stands at their ends. -/
def Ext (A B l m : List Pc) : Prop := ∃ X Y, l = X ++ A ∧ m = Y ++ B ∧ X.map (·.2) = Y.map (·.2) ∧ ∀ q ∈ X, q.2 ≠ -1
structure Ends (A B : List Pc) : Prop where
  a : nowP A = -1
  b : nowP B = 41
  oa : OkL A
  ob : OkL B
section
variable {A B : List Pc}
theorem Ext.end' (A B : List Pc) : Ext A B A B := ⟨[], [], rfl, rfl, rfl, by simp⟩
theorem ext_now (h : Ends A B) {l m : List Pc} (e : Ext A B l m) : (nowP l ≠ -1 ∧ nowP m = nowP l ∧ Ext A B l.tail m.tail) ∨ (nowP l = -1 ∧ nowP m = 41 ∧ l = A ∧ m = B) := by
  obtain ⟨X, Y, rfl, rfl, h1, h2⟩ := e
  cases X with
  | nil =>
    cases Y with
    | nil => exact .inr ⟨h.a, h.b, rfl, rfl⟩
    | cons y Y => simp at h1
  | cons x X =>
    cases Y with
    | nil => simp at h1
    | cons y Y =>
      simp only [List.map_cons, List.cons.injEq] at h1
      exact .inl ⟨h2 x List.mem_cons_self, h1.1.symm, X, Y, rfl, rfl, h1.2, fun q hq => h2 q (List.mem_cons_of_mem _ hq)⟩
theorem ext_ok (h : Ends A B) {l m : List Pc} (e : Ext A B l m) : OkL l ∧ OkL m := by
  obtain ⟨X, Y, rfl, rfl, h1, h2⟩ := e
  induction X generalizing Y with
  | nil =>
    cases Y with
    | nil => exact ⟨h.oa, h.ob⟩
    | cons y Y => simp at h1
  | cons x X ih =>
    cases Y with
    | nil => simp at h1
    | cons y Y =>
      simp only [List.map_cons, List.cons.injEq] at h1
      obtain ⟨i1, i2⟩ := ih Y h1.2 fun q hq => h2 q (List.mem_cons_of_mem _ hq)
      have hx := h2 x List.mem_cons_self
      refine ⟨?_, ?_⟩
      · show if x.2 = -1 then X ++ A = [] else OkL (X ++ A)
        rw [if_neg hx]; exact i1
      · show if y.2 = -1 then Y ++ B = [] else OkL (Y ++ B)
        rw [if_neg (by rw [← h1.1]; exact hx)]; exact i2
theorem ext_more (h : Ends A B) {l m : List Pc} (e : Ext A B l m) (hn : nowP l ≠ -1) : nowP m = nowP l ∧ Ext A B l.tail m.tail := by
  rcases ext_now h e with h1 | h1
  · exact ⟨h1.2.1, h1.2.2⟩
  · exact absurd h1.1 hn
def Lft (A B : List Pc) {α : Type} (r s : Rs α) : Prop := (∀ x l1, r = .ok (x, l1) → ∃ m1, s = .ok (x, m1) ∧ Ext A B l1 m1) ∧ (∀ a, r = .error (a, 60) → ∃ b, s = .error (b, 60))
theorem rescP_ext (h : Ends A B) {least : Int} {l m : List Pc} (e : Ext A B l m) (hn : nowP l ≠ -1) {c : Int} {l1 : List Pc} (r : rescP least l = .ok (c, l1)) : ∃ m1, rescP least m = .ok (c, m1) ∧ Ext A B l1 m1 := by
  obtain ⟨e1, e2⟩ := ext_more h e hn
  have hs := rescP_shr (ext_ok h e).1 hn r
  obtain ⟨e3, e4⟩ := ext_more h e2 hs.2
  unfold rescP at r ⊢
  rw [e3]
  split at r
  · rename_i h1
    rw [if_pos h1]
    split at r
    · rename_i h2
      rw [if_pos h2]
      injection r with r; injection r with r1 r2
      subst r1; subst r2
      exact ⟨_, rfl, e4⟩
    · cases r
  · cases r
theorem singleP_ext (h : Ends A B) {least : Int} (h0 : 0 ≤ least) {l m : List Pc} (e : Ext A B l m) {c : Int} {l1 : List Pc} (r : singleP least l = .ok (c, l1)) : ∃ m1, singleP least m = .ok (c, m1) ∧ Ext A B l1 m1 := by
  have hs := singleP_shr (ext_ok h e).1 h0 r
  obtain ⟨e1, e2⟩ := ext_more h e hs.2.1
  unfold singleP at r ⊢
  rw [e1]
  split at r
  · rename_i h1
    rw [if_pos h1]
    exact rescP_ext h e hs.2.1 r
  · rename_i h1
    rw [if_neg h1]
    split at r
    · rename_i h2
      rw [if_pos h2]
      injection r with r; injection r with r1 r2
      subst r1; subst r2
      exact ⟨_, rfl, e2⟩
    · cases r
theorem manyL_ext (h : Ends A B) {l m : List Pc} (e : Ext A B l m) : manyL m = manyL l := by
  unfold manyL
  rcases ext_now h e with ⟨h1, h2, h3⟩ | ⟨h1, h2, _, _⟩
  · rw [h2]
    split
    · rcases ext_now h h3 with ⟨g1, g2, _⟩ | ⟨g1, g2, _, _⟩
      · rw [g2]
      · rw [g1, g2]; rfl
    · rfl
  · rw [h1, h2]; rfl
theorem many_two (h : Ends A B) {l m : List Pc} (e : Ext A B l m) {g : Spans} (hm : manyL l = some g) : Ext A B l.tail.tail m.tail.tail := by
  obtain ⟨_, h2, h3⟩ := manyL_some (ext_ok h e).1 hm
  exact (ext_more h (ext_more h e (by rw [h2]; decide)).2 h3).2
theorem memberP_ext (h : Ends A B) {l m : List Pc} (e : Ext A B l m) {g : Spans} {l1 : List Pc} (r : memberP l = .ok (g, l1)) : ∃ m1, memberP m = .ok (g, m1) ∧ Ext A B l1 m1 := by
  unfold memberP at r ⊢
  rw [manyL_ext h e]
  cases hm : manyL l with
  | some g' =>
    rw [hm] at r
    simp only at r ⊢
    injection r with r; injection r with r1 r2
    subst r1; subst r2
    exact ⟨_, rfl, many_two h e hm⟩
  | none =>
    rw [hm] at r
    simp only at r ⊢
    cases hs : singleP 0 l with
    | error f => rw [hs] at r; cases r
    | ok x =>
      obtain ⟨lo, l2⟩ := x
      rw [hs] at r
      obtain ⟨m2, hm2, e2⟩ := singleP_ext h (by decide) e hs
      have hlo := (singleP_shr (ext_ok h e).1 (by decide) hs).2.2
      rw [hm2]
      simp only at r ⊢
      by_cases h45 : nowP l2 = 45
      · rw [if_pos h45] at r
        obtain ⟨e3, e4⟩ := ext_more h e2 (by rw [h45]; decide)
        rw [e3, if_pos h45]
        cases hs2 : singleP lo l2.tail with
        | error f => rw [hs2] at r; cases r
        | ok y =>
          obtain ⟨hi, l3⟩ := y
          rw [hs2] at r
          obtain ⟨m3, hm3, e5⟩ := singleP_ext h hlo e4 hs2
          rw [hm3]
          simp only at r ⊢
          injection r with r; injection r with r1 r2
          subst r1; subst r2
          exact ⟨_, rfl, e5⟩
      · rw [if_neg h45] at r
        have : nowP m2 ≠ 45 := by
          rcases ext_now h e2 with ⟨_, g2, _⟩ | ⟨_, g2, _, _⟩
          · rw [g2]; exact h45
          · rw [g2]; decide
        rw [if_neg this]
        injection r with r; injection r with r1 r2
        subst r1; subst r2
        exact ⟨_, rfl, e2⟩
theorem membersP_ext (h : Ends A B) : ∀ (n : Nat) (acc : Spans) {l m : List Pc}, l.length ≤ n → Ext A B l m → ∀ {g : Spans} {l1 : List Pc}, membersP l.length acc l = .ok (g, l1) → ∃ m1, membersP m.length acc m = .ok (g, m1) ∧ Ext A B l1 m1
  | 0, acc, l, m, hl, e, g, l1, r => absurd (List.eq_nil_of_length_eq_zero (by omega)) (ext_ok h e).1.ne
  | n + 1, acc, l, m, hl, e, g, l1, r => by
    obtain ⟨o1, o2⟩ := ext_ok h e
    rw [members_step acc o1] at r
    rw [members_step acc o2]
    by_cases h93 : nowP l = 93
    · rw [if_pos h93] at r
      rw [(ext_more h e (by rw [h93]; decide)).1, if_pos h93]
      injection r with r; injection r with r1 r2
      subst r1; subst r2
      exact ⟨_, rfl, e⟩
    · rw [if_neg h93] at r
      have : nowP m ≠ 93 := by
        rcases ext_now h e with ⟨_, g2, _⟩ | ⟨_, g2, _, _⟩
        · rw [g2]; exact h93
        · rw [g2]; decide
      rw [if_neg this]
      cases hm : memberP l with
      | error f => rw [hm] at r; cases r
      | ok x =>
        obtain ⟨g2, l2⟩ := x
        rw [hm] at r
        obtain ⟨m2, hm2, e2⟩ := memberP_ext h e hm
        rw [hm2]
        simp only at r ⊢
        exact membersP_ext h n _ (by have := (memberP_shr o1 hm).lt; omega) e2 r
theorem classP_ext (h : Ends A B) {l m : List Pc} (e : Ext A B l m) (hn : nowP l ≠ -1) {t : Re} {l1 : List Pc} (r : classP l = .ok (t, l1)) : ∃ m1, classP m = .ok (t, m1) ∧ Ext A B l1 m1 := by
  have e1 := (ext_more h e hn).2
  have key : ∀ {l2 m2 : List Pc} (neg : Bool), Ext A B l2 m2 → (match memberP l2 with | .error f => (.error f : Rs Re) | .ok (g, l3) => match membersP l3.length g l3 with | .error f => .error f | .ok (g, l4) => .ok (.set g neg, l4.tail)) = .ok (t, l1) →
      ∃ m1, (match memberP m2 with | .error f => (.error f : Rs Re) | .ok (g, l3) => match membersP l3.length g l3 with | .error f => .error f | .ok (g, l4) => .ok (.set g neg, l4.tail)) = .ok (t, m1) ∧ Ext A B l1 m1 := fun {l2 m2} neg e2 r => by
    cases hm : memberP l2 with
    | error f => rw [hm] at r; cases r
    | ok x =>
      obtain ⟨g, l3⟩ := x
      rw [hm] at r
      obtain ⟨m3, hm3, e3⟩ := memberP_ext h e2 hm
      rw [hm3]
      simp only at r ⊢
      cases hms : membersP l3.length g l3 with
      | error f => rw [hms] at r; cases r
      | ok y =>
        obtain ⟨g4, l4⟩ := y
        rw [hms] at r
        obtain ⟨m4, hm4, e4⟩ := membersP_ext h _ g (Nat.le_refl _) e3 hms
        have h93 := (membersP_less _ _ _ (ext_ok h e3).1 hms).2
        rw [hm4]
        simp only at r ⊢
        injection r with r; injection r with r1 r2
        subst r1; subst r2
        exact ⟨_, rfl, (ext_more h e4 (by rw [h93]; decide)).2⟩
  unfold classP at r ⊢
  simp only at r ⊢
  by_cases h94 : nowP l.tail = 94
  · obtain ⟨g1, g2⟩ := ext_more h e1 (by rw [h94]; decide)
    rw [decide_eq_true h94] at r
    rw [g1, decide_eq_true h94]
    simp only [if_true] at r ⊢
    exact key true g2 r
  · have : nowP m.tail ≠ 94 := by
      rcases ext_now h e1 with ⟨_, g2, _⟩ | ⟨_, g2, _, _⟩
      · rw [g2]; exact h94
      · rw [g2]; decide
    rw [decide_eq_false h94] at r
    rw [decide_eq_false this]
    simp only [Bool.false_eq_true, if_false] at r ⊢
    exact key false e1 r
theorem escapeP_ext (h : Ends A B) {l m : List Pc} (e : Ext A B l m) (hn : nowP l ≠ -1) {t : Re} {l1 : List Pc} (r : escapeP l = .ok (t, l1)) : ∃ m1, escapeP m = .ok (t, m1) ∧ Ext A B l1 m1 := by
  unfold escapeP at r ⊢
  rw [manyL_ext h e]
  cases hm : manyL l with
  | some g =>
    rw [hm] at r
    simp only at r ⊢
    injection r with r; injection r with r1 r2
    subst r1; subst r2
    exact ⟨_, rfl, many_two h e hm⟩
  | none =>
    rw [hm] at r
    simp only at r ⊢
    cases hs : rescP 0 l with
    | error f => rw [hs] at r; cases r
    | ok x =>
      obtain ⟨c, l2⟩ := x
      rw [hs] at r
      obtain ⟨m2, hm2, e2⟩ := rescP_ext h e hn hs
      rw [hm2]
      simp only at r ⊢
      injection r with r; injection r with r1 r2
      subst r1; subst r2
      exact ⟨_, rfl, e2⟩
def GrpL (A B : List Pc) (grp : List Pc → Rs Re) : Prop := ∀ l m, Ext A B l m → nowP l = 40 → Lft A B (grp l) (grp m)
theorem not60 {f : Flt} (h : f.2 = 8) {a : Nat} (e : f = (a, 60)) : False := by rw [e] at h; cases h
theorem atomP_ext (h : Ends A B) {grp : List Pc → Rs Re} (hg : GrpL A B grp) {l m : List Pc} (e : Ext A B l m) : Lft A B (atomP grp l) (atomP grp m) := by
  by_cases h40 : nowP l = 40
  · have e1 := (ext_more h e (by rw [h40]; decide)).1
    unfold atomP
    rw [e1, if_pos h40, if_pos h40]
    exact hg l m e h40
  · refine ⟨fun t l1 r => ?_, fun a r => ?_⟩
    · have hn : nowP l ≠ -1 := by
        intro hn
        unfold atomP at r
        rw [hn] at r
        simp [specialP] at r
      obtain ⟨e1, e2⟩ := ext_more h e hn
      unfold atomP at r ⊢
      rw [e1]
      rw [if_neg h40] at r ⊢
      split at r
      · rename_i h1; rw [if_pos h1]; exact classP_ext h e hn r
      · rename_i h1
        rw [if_neg h1]
        split at r
        · rename_i h2; rw [if_pos h2]; exact escapeP_ext h e hn r
        · rename_i h2
          rw [if_neg h2]
          split at r
          · rename_i h3
            rw [if_pos h3]
            injection r with r; injection r with r1 r2
            subst r1; subst r2
            exact ⟨_, rfl, e2⟩
          · rename_i h3
            rw [if_neg h3]
            split at r
            · rename_i h4
              rw [if_pos h4]
              injection r with r; injection r with r1 r2
              subst r1; subst r2
              exact ⟨_, rfl, e2⟩
            · cases r
    · exfalso
      unfold atomP at r
      rw [if_neg h40] at r
      have key : ∀ {l : List Pc} {f : Flt}, escapeP l = .error f → f.2 = 8 := fun {l f} e => by
        unfold escapeP at e
        split at e
        · cases e
        · split at e
          · rename_i h5; injection e with e; subst e
            unfold rescP at h5
            split at h5
            · split at h5
              · cases h5
              · injection h5 with h5; subst h5; rfl
            · injection h5 with h5; subst h5; rfl
          · cases e
      split at r
      · rename_i h1
        -- no fault of a class is that of depth
        have hs : ∀ {least : Int} {l : List Pc} {f : Flt}, singleP least l = .error f → f.2 = 8 := fun {least l f} e => by
          unfold singleP at e
          split at e
          · unfold rescP at e
            split at e
            · split at e
              · cases e
              · injection e with e; subst e; rfl
            · injection e with e; subst e; rfl
          · split at e
            · cases e
            · injection e with e; subst e; rfl
        have hmem : ∀ {l : List Pc} {f : Flt}, memberP l = .error f → f.2 = 8 := fun {l f} e => by
          unfold memberP at e
          split at e
          · cases e
          · split at e
            · rename_i h5; injection e with e; subst e; exact hs h5
            · split at e
              · split at e
                · rename_i h5; injection e with e; subst e; exact hs h5
                · cases e
              · cases e
        have hms : ∀ (n : Nat) (acc : Spans) (l : List Pc) {f : Flt}, membersP n acc l = .error f → f.2 ≠ 60 := fun n => by
          induction n with
          | zero => intro acc l f e; unfold membersP at e; injection e with e; subst e; decide
          | succ n ih =>
            intro acc l f e
            unfold membersP at e
            split at e
            · cases e
            · split at e
              · rename_i h5; injection e with e; subst e; rw [hmem h5]; decide
              · exact ih _ _ e
        unfold classP at r
        simp only at r
        split at r
        · rename_i h5; injection r with r; have := hmem h5; rw [r] at this; cases this
        · split at r
          · rename_i h5; injection r with r; have := hms _ _ _ h5; rw [r] at this; exact this rfl
          · cases r
      · split at r
        · have := key r; cases this
        · split at r
          · cases r
          · split at r
            · cases r
            · injection r with r; injection r with _ r; cases r
theorem timesP_ext (h : Ends A B) {l m : List Pc} (e : Ext A B l m) (t : Re) : timesP (nowP m) t = timesP (nowP l) t := by
  rcases ext_now h e with ⟨_, g2, _⟩ | ⟨g1, g2, _, _⟩
  · rw [g2]
  · rw [g1, g2]; rfl
theorem stopP_ext (h : Ends A B) {l m : List Pc} (e : Ext A B l m) : stopP (nowP m) = stopP (nowP l) := by
  rcases ext_now h e with ⟨_, g2, _⟩ | ⟨g1, g2, _, _⟩
  · rw [g2]
  · rw [g1, g2]; rfl
theorem pieceP_ext (h : Ends A B) {grp : List Pc → Rs Re} (hg : GrpL A B grp) {l m : List Pc} (e : Ext A B l m) : Lft A B (pieceP grp l) (pieceP grp m) := by
  have ha := atomP_ext h hg e
  unfold pieceP
  refine ⟨fun t l1 r => ?_, fun a r => ?_⟩
  · cases hr : atomP grp l with
    | error f => rw [hr] at r; cases r
    | ok x =>
      obtain ⟨t2, l2⟩ := x
      rw [hr] at r
      obtain ⟨m2, hm2, e2⟩ := ha.1 _ _ hr
      rw [hm2]
      simp only at r ⊢
      rw [timesP_ext h e2]
      cases ht : timesP (nowP l2) t2 with
      | some b =>
        rw [ht] at r
        simp only at r ⊢
        injection r with r; injection r with r1 r2
        subst r1; subst r2
        exact ⟨_, rfl, (ext_more h e2 (timesP_some ht)).2⟩
      | none =>
        rw [ht] at r
        simp only at r ⊢
        injection r with r; injection r with r1 r2
        subst r1; subst r2
        exact ⟨_, rfl, e2⟩
  · cases hr : atomP grp l with
    | error f =>
      rw [hr] at r
      simp only at r
      injection r with r
      obtain ⟨b, hb⟩ := ha.2 a (by rw [hr, r])
      exact ⟨b, by rw [hb]⟩
    | ok x =>
      obtain ⟨t2, l2⟩ := x
      rw [hr] at r
      simp only at r
      split at r <;> cases r
theorem branchP_ext (h : Ends A B) {grp : List Pc → Rs Re} (hg : GrpL A B grp) (hk : GrpOk grp) : ∀ (n : Nat) (acc : Re) {l m : List Pc}, l.length ≤ n → Ext A B l m → Lft A B (branchP grp l.length acc l) (branchP grp m.length acc m)
  | 0, acc, l, m, hl, e => absurd (List.eq_nil_of_length_eq_zero (by omega)) (ext_ok h e).1.ne
  | n + 1, acc, l, m, hl, e => by
    obtain ⟨o1, o2⟩ := ext_ok h e
    rw [branch_step hk acc o1, branch_step hk acc o2, stopP_ext h e]
    have hp := pieceP_ext h hg e
    cases hs : stopP (nowP l) with
    | true =>
      rw [if_pos rfl, if_pos rfl]
      exact ⟨fun t l1 r => by injection r with r; injection r with r1 r2; subst r1; subst r2; exact ⟨_, rfl, e⟩, fun a r => by cases r⟩
    | false =>
      rw [if_neg (by decide), if_neg (by decide)]
      cases hr : pieceP grp l with
      | error f =>
        refine ⟨fun t l1 r => (by cases r), fun a r => ?_⟩
        simp only at r
        injection r with r
        obtain ⟨b, hb⟩ := hp.2 a (by rw [hr, r])
        exact ⟨b, by rw [hb]⟩
      | ok x =>
        obtain ⟨t2, l2⟩ := x
        obtain ⟨m2, hm2, e2⟩ := hp.1 _ _ hr
        rw [hm2]
        exact branchP_ext h hg hk n _ (by have := (pieceP_shr hk o1 hr).lt; omega) e2
theorem altsP_ext (h : Ends A B) {grp : List Pc → Rs Re} (hg : GrpL A B grp) (hk : GrpOk grp) : ∀ (n : Nat) (acc : Re) {l m : List Pc}, l.length ≤ n → Ext A B l m → Lft A B (altsP grp l.length acc l) (altsP grp m.length acc m)
  | 0, acc, l, m, hl, e => absurd (List.eq_nil_of_length_eq_zero (by omega)) (ext_ok h e).1.ne
  | n + 1, acc, l, m, hl, e => by
    obtain ⟨o1, o2⟩ := ext_ok h e
    rw [alts_step hk acc o1, alts_step hk acc o2]
    by_cases h124 : nowP l = 124
    · obtain ⟨e1, e2⟩ := ext_more h e (by rw [h124]; decide)
      rw [if_pos h124, e1, if_pos h124]
      have hb := branchP_ext h hg hk _ .none (Nat.le_refl _) e2
      cases hr : branchP grp l.tail.length .none l.tail with
      | error f =>
        rw [hr] at hb
        refine ⟨fun t l1 r => (by cases r), fun a r => ?_⟩
        simp only at r
        obtain ⟨b, hb2⟩ := hb.2 a (by injection r with r; rw [r])
        exact ⟨b, by rw [hb2]⟩
      | ok x =>
        obtain ⟨t2, l2⟩ := x
        rw [hr] at hb
        obtain ⟨m2, hm2, e3⟩ := hb.1 _ _ rfl
        rw [hm2]
        simp only
        exact altsP_ext h hg hk n _ (by have := (branchP_less hk _ _ _ (ext_ok h e2).1 hr).1.len; have := tail_lt o1; omega) e3
    · have : nowP m ≠ 124 := by
        rcases ext_now h e with ⟨_, g2, _⟩ | ⟨_, g2, _, _⟩
        · rw [g2]; exact h124
        · rw [g2]; decide
      rw [if_neg h124, if_neg this]
      exact ⟨fun t l1 r => by injection r with r; injection r with r1 r2; subst r1; subst r2; exact ⟨_, rfl, e⟩, fun a r => by cases r⟩
theorem patP_ext (h : Ends A B) {grp : List Pc → Rs Re} (hg : GrpL A B grp) (hk : GrpOk grp) {l m : List Pc} (e : Ext A B l m) : Lft A B (patP grp l) (patP grp m) := by
  have hb := branchP_ext h hg hk _ .none (Nat.le_refl _) e
  unfold patP
  cases hr : branchP grp l.length .none l with
  | error f =>
    rw [hr] at hb
    refine ⟨fun t l1 r => (by cases r), fun a r => ?_⟩
    simp only at r
    obtain ⟨b, hb2⟩ := hb.2 a (by injection r with r; rw [r])
    exact ⟨b, by rw [hb2]⟩
  | ok x =>
    obtain ⟨t2, l2⟩ := x
    rw [hr] at hb
    obtain ⟨m2, hm2, e3⟩ := hb.1 _ _ rfl
    rw [hm2]
    simp only
    exact altsP_ext h hg hk _ _ (Nat.le_refl _) e3
theorem grpP_ext (h : Ends A B) : ∀ (d : Nat), GrpL A B (grpP d)
  | 0 => fun l m e h40 => ⟨fun t l1 r => (by unfold grpP at r; cases r), fun a r => ⟨_, rfl⟩⟩
  | d + 1 => fun l m e h40 => by
    obtain ⟨e1, e2⟩ := ext_more h e (by rw [h40]; decide)
    have hp := patP_ext h (grpP_ext h d) (grpP_ok d) e2
    unfold grpP
    cases hr : patP (grpP d) l.tail with
    | error f =>
      rw [hr] at hp
      refine ⟨fun t l1 r => (by cases r), fun a r => ?_⟩
      simp only at r
      obtain ⟨b, hb2⟩ := hp.2 a (by injection r with r; rw [r])
      exact ⟨b, by rw [hb2]⟩
    | ok x =>
      obtain ⟨t2, l2⟩ := x
      rw [hr] at hp
      obtain ⟨m2, hm2, e3⟩ := hp.1 _ _ rfl
      rw [hm2]
      simp only
      refine ⟨fun t l1 r => ?_, fun a r => ?_⟩
      · split at r
        · rename_i h41
          obtain ⟨e4, e5⟩ := ext_more h e3 (by rw [h41]; decide)
          rw [e4, if_pos h41]
          injection r with r; injection r with r1 r2
          subst r1; subst r2
          exact ⟨_, rfl, e5⟩
        · cases r
      · split at r
        · cases r
        · injection r with r; injection r with _ r; cases r
end
/-! ### depth -/
def Dp {α : Type} (r s : Rs α) : Prop := (∀ x, r = .ok x → s = .ok x ∨ ∃ a, s = .error (a, 60)) ∧ (∀ x, s = .ok x → r = .ok x)
theorem Dp.refl {α : Type} (r : Rs α) : Dp r r := ⟨fun x h => .inl h, fun x h => h⟩
def GrpD (g g' : List Pc → Rs Re) : Prop := ∀ l, OkL l → nowP l = 40 → Dp (g l) (g' l)
theorem atomP_dp {g g' : List Pc → Rs Re} (h : GrpD g g') {l : List Pc} (o : OkL l) : Dp (atomP g l) (atomP g' l) := by
  unfold atomP
  by_cases h40 : nowP l = 40
  · rw [if_pos h40, if_pos h40]; exact h l o h40
  · rw [if_neg h40, if_neg h40]; exact Dp.refl _
def bindR {α β : Type} (r : Rs α) (k : α → List Pc → Rs β) : Rs β := match r with | .error f => .error f | .ok (x, l) => k x l
/-- What is done with what was read. -/
theorem Dp.bind {α β : Type} {r s : Rs α} (h : Dp r s) (k k' : α → List Pc → Rs β) (hk : ∀ x l, r = .ok (x, l) → s = .ok (x, l) → Dp (k x l) (k' x l)) :
    Dp (bindR r k) (bindR s k') := by
  unfold bindR
  refine ⟨fun y e => ?_, fun y e => ?_⟩
  · cases hr : r with
    | error f => rw [hr] at e; cases e
    | ok x =>
      obtain ⟨x, l⟩ := x
      rw [hr] at e
      simp only at e
      rcases h.1 _ hr with hs | ⟨a, hs⟩
      · rw [hs]
        simp only
        exact (hk x l hr hs).1 y e
      · rw [hs]; exact .inr ⟨a, rfl⟩
  · cases hs : s with
    | error f => rw [hs] at e; cases e
    | ok x =>
      obtain ⟨x, l⟩ := x
      rw [hs] at e
      simp only at e
      have hr := h.2 _ hs
      rw [hr]
      simp only
      exact (hk x l hr hs).2 y e
theorem pieceP_dp {g g' : List Pc → Rs Re} (h : GrpD g g') {l : List Pc} (o : OkL l) : Dp (pieceP g l) (pieceP g' l) := by
  have e : ∀ g : List Pc → Rs Re, pieceP g l = bindR (atomP g l) fun a l1 => match timesP (nowP l1) a with | some b => .ok (b, l1.tail) | none => .ok (a, l1) := fun g => by
    unfold pieceP bindR
    cases atomP g l <;> rfl
  rw [e, e]
  exact (atomP_dp h o).bind _ _ fun x l1 _ _ => Dp.refl _
theorem branchP_dp {g g' : List Pc → Rs Re} (h : GrpD g g') (hk : GrpOk g) : ∀ (n : Nat) (acc : Re) (l : List Pc), OkL l → Dp (branchP g n acc l) (branchP g' n acc l)
  | 0, acc, l, o => Dp.refl _
  | n + 1, acc, l, o => by
    by_cases hs : stopP (nowP l) = true
    · unfold branchP
      rw [if_pos hs, if_pos hs]; exact Dp.refl _
    · have e : ∀ g : List Pc → Rs Re, branchP g (n + 1) acc l = bindR (pieceP g l) fun a l1 => branchP g n (.cat acc a) l1 := fun g => by
        rw [branchP, if_neg hs]
        unfold bindR
        cases pieceP g l <;> rfl
      rw [e, e]
      exact (pieceP_dp h o).bind _ _ fun x l1 hr _ => branchP_dp h hk n _ l1 (pieceP_shr hk o hr).le.ok
theorem altsP_dp {g g' : List Pc → Rs Re} (h : GrpD g g') (hk : GrpOk g) : ∀ (n : Nat) (acc : Re) (l : List Pc), OkL l → Dp (altsP g n acc l) (altsP g' n acc l)
  | 0, acc, l, o => Dp.refl _
  | n + 1, acc, l, o => by
    by_cases hs : nowP l = 124
    · have ot := o.tail (by rw [hs]; decide)
      have e : ∀ g : List Pc → Rs Re, altsP g (n + 1) acc l = bindR (branchP g l.tail.length .none l.tail) fun b l1 => altsP g n (.alt acc b) l1 := fun g => by
        rw [altsP, if_pos hs]
        unfold bindR
        cases branchP g l.tail.length .none l.tail <;> rfl
      rw [e, e]
      exact (branchP_dp h hk _ _ _ ot).bind _ _ fun x l1 hr _ => altsP_dp h hk n _ l1 (branchP_less hk _ _ _ ot hr).1.ok
    · unfold altsP
      rw [if_neg hs, if_neg hs]; exact Dp.refl _
theorem patP_dp {g g' : List Pc → Rs Re} (h : GrpD g g') (hk : GrpOk g) {l : List Pc} (o : OkL l) : Dp (patP g l) (patP g' l) := by
  have e : ∀ g : List Pc → Rs Re, patP g l = bindR (branchP g l.length .none l) fun b l1 => altsP g l1.length b l1 := fun g => by
    unfold patP bindR
    cases branchP g l.length .none l <;> rfl
  rw [e, e]
  exact (branchP_dp h hk _ _ _ o).bind _ _ fun x l1 hr _ => altsP_dp h hk _ _ l1 (branchP_less hk _ _ _ o hr).1.ok
theorem grpP_dp : ∀ k, GrpD (grpP (k + 1)) (grpP k)
  | 0 => fun l o h40 => ⟨fun x e => .inr ⟨_, rfl⟩, fun x e => (by unfold grpP at e; cases e)⟩
  | k + 1 => fun l o h40 => by
    have ot := o.tail (by rw [h40]; decide)
    have e : ∀ k, grpP (k + 1) l = bindR (patP (grpP k) l.tail) fun r l1 => if nowP l1 = 41 then .ok (r, l1.tail) else .error (atP l1, errFormN) := fun k => by
      rw [grpP]
      unfold bindR
      cases patP (grpP k) l.tail <;> rfl
    rw [e, e]
    exact (patP_dp (grpP_dp k) (grpP_ok (k + 1)) ot).bind _ _ fun x l1 _ _ => Dp.refl _
/-! ### groups beside one another -/
/-- A pattern that may stand in a group: it is one as deep as groups may be within another one. -/
def Fit (P : List Pc) (t : Re) : Prop := ∃ A, patP (grpP 19) P = .ok (t, A) ∧ nowP A = -1
theorem whole_end {P : List Pc} (o : OkL P) {t : Re} (e : wholeP P = .ok t) : ∃ A, patP (grpP 20) P = .ok (t, A) ∧ nowP A = -1 ∧ OkL A := by
  unfold wholeP at e
  cases hr : patP (grpP 20) P with
  | error f => rw [hr] at e; cases e
  | ok x =>
    obtain ⟨r, l1⟩ := x
    rw [hr] at e
    simp only at e
    split at e
    · rename_i h
      injection e with e; subst e
      exact ⟨l1, rfl, h, (patP_less (grpP_ok 20) o hr).1.ok⟩
    · cases e
theorem ok_split : ∀ {P A : List Pc}, OkL P → A <:+ P → nowP A = -1 → A ≠ [] → ∃ X, P = X ++ A ∧ ∀ q ∈ X, q.2 ≠ -1 := by
  intro P
  induction P with
  | nil => intro A o h1 h2 h3; exact absurd (List.suffix_nil.mp h1) h3
  | cons q t ih =>
    intro A o h1 h2 h3
    rcases List.suffix_cons_iff.mp h1 with rfl | h1
    · exact ⟨[], rfl, by simp⟩
    · unfold OkL at o
      by_cases hq : q.2 = -1
      · rw [if_pos hq] at o; subst o; exact absurd (List.suffix_nil.mp h1) h3
      · rw [if_neg hq] at o
        obtain ⟨X, e, hx⟩ := ih o h1 h2 h3
        exact ⟨q :: X, by rw [e]; rfl, fun y hy => by
          rcases List.mem_cons.mp hy with rfl | hy
          · exact hq
          · exact hx y hy⟩
/-- The runes of a whole pattern's places, then its end. -/
theorem whole_split {P : List Pc} (o : OkL P) {t : Re} (e : wholeP P = .ok t) : ∃ X A, P = X ++ A ∧ patP (grpP 20) P = .ok (t, A) ∧ nowP A = -1 ∧ OkL A ∧ ∀ q ∈ X, q.2 ≠ -1 := by
  obtain ⟨A, h1, h2, h3⟩ := whole_end o e
  obtain ⟨X, h4, h5⟩ := ok_split o (patP_less (grpP_ok 20) o h1).1.suf h2 h3.ne
  exact ⟨X, A, h4, h1, h2, h3, h5⟩
/-- Within brackets a pattern is what it is alone, if it is one there at all. -/
theorem group_is {P Y B : List Pc} {t : Re} (o : OkL P) (e : wholeP P = .ok t) {X A : List Pc} (hP : P = X ++ A) (hA : nowP A = -1) (hx : ∀ q ∈ X, q.2 ≠ -1) (hXY : X.map (·.2) = Y.map (·.2)) (hB : nowP B = 41) (oA : OkL A) (oB : OkL B)
    (hp : patP (grpP 20) P = .ok (t, A)) {r : Re} {l1 : List Pc} (hg : patP (grpP 19) (Y ++ B) = .ok (r, l1)) : r = t ∧ l1 = B ∧ patP (grpP 19) P = .ok (t, A) := by
  have hE : Ends A B := ⟨hA, hB, oA, oB⟩
  have hext : Ext A B P (Y ++ B) := ⟨X, Y, hP, rfl, hXY, hx⟩
  have hl := patP_ext hE (grpP_ext hE 19) (grpP_ok 19) hext
  have hd := patP_dp (grpP_dp 19) (grpP_ok 20) o
  rcases hd.1 _ hp with h | ⟨a, h⟩
  · obtain ⟨m1, hm, em⟩ := hl.1 _ _ h
    rw [hg] at hm
    injection hm with hm; injection hm with h1 h2
    subst h1; subst h2
    obtain ⟨X', Y', e1, e2, e3, e4⟩ := em
    have : X' = [] := by
      have := congrArg List.length e1
      rw [List.length_append] at this
      exact List.length_eq_zero_iff.mp (by omega)
    subst this
    have hy : Y' = [] := by simpa using e3.symm
    subst hy
    exact ⟨rfl, e2, h⟩
  · obtain ⟨b, hb⟩ := hl.2 a h
    rw [hg] at hb; cases hb
theorem group_lift {P Y B : List Pc} {t : Re} {X A : List Pc} (hP : P = X ++ A) (hA : nowP A = -1) (hx : ∀ q ∈ X, q.2 ≠ -1) (hXY : X.map (·.2) = Y.map (·.2)) (hB : nowP B = 41) (oA : OkL A) (oB : OkL B)
    (h : patP (grpP 19) P = .ok (t, A)) : patP (grpP 19) (Y ++ B) = .ok (t, B) := by
  have hE : Ends A B := ⟨hA, hB, oA, oB⟩
  have hext : Ext A B P (Y ++ B) := ⟨X, Y, hP, rfl, hXY, hx⟩
  obtain ⟨m1, hm, em⟩ := (patP_ext hE (grpP_ext hE 19) (grpP_ok 19) hext).1 _ _ h
  rw [hm]
  obtain ⟨X', Y', e1, e2, e3, e4⟩ := em
  have : X' = [] := by
    have := congrArg List.length e1
    rw [List.length_append] at this
    exact List.length_eq_zero_iff.mp (by omega)
  subst this
  have hy : Y' = [] := by simpa using e3.symm
  subst hy
  rw [e2]; rfl
/-- A group in brackets. -/
theorem atom_group {Y B : List Pc} {a : Nat} {t : Re} (h : patP (grpP 19) (Y ++ B) = .ok (t, B)) (hB : nowP B = 41) : atomP (grpP 20) ((a, 40) :: (Y ++ B)) = .ok (t, B.tail) := by
  unfold atomP
  rw [if_pos (show nowP ((a, 40) :: (Y ++ B)) = 40 from rfl), grpP]
  show (match patP (grpP 19) (Y ++ B) with | .error f => (.error f : Rs Re) | .ok (r, l1) => if nowP l1 = 41 then .ok (r, l1.tail) else .error (atP l1, errFormN)) = _
  rw [h]
  simp only
  rw [if_pos hB]
theorem atom_inner {Y B : List Pc} {a : Nat} {x : Re × List Pc} (h : atomP (grpP 20) ((a, 40) :: (Y ++ B)) = .ok x) : ∃ r l1, patP (grpP 19) (Y ++ B) = .ok (r, l1) := by
  unfold atomP at h
  rw [if_pos (show nowP ((a, 40) :: (Y ++ B)) = 40 from rfl), grpP] at h
  cases hp : patP (grpP 19) (Y ++ B) with
  | ok y => exact ⟨y.1, y.2, rfl⟩
  | error f =>
    have : (match patP (grpP 19) (Y ++ B) with | .error f => (.error f : Rs Re) | .ok (r, l1) => if nowP l1 = 41 then .ok (r, l1.tail) else .error (atP l1, errFormN)) = .ok x := h
    rw [hp] at this; cases this
end
section
set_option linter.unusedVariables false
set_option linter.unusedSimpArgs false
theorem get_l (l : List UInt8) (i : Nat) : (⟨l.toArray⟩ : ByteArray).get! i = l.getD i 0 := by
  show l.toArray[i]! = _
  rw [List.getD_eq_getElem?_getD, getElem!_def]
  simp
  cases l[i]? <;> rfl
theorem size_l (l : List UInt8) : (⟨l.toArray⟩ : ByteArray).size = l.length := rfl
theorem decL_app (l x : List UInt8) (y : UInt8) (hl : l ≠ []) (hy : y.toNat < 128) : Lib.decodeL (l ++ y :: x) = Lib.decodeL l := by
  have hq : y.toNat / 64 ≠ 2 := by omega
  unfold Lib.decodeL Utf8.decode
  simp only [get_l, size_l, Nat.zero_add]
  match l, hl with
  | [a], _ => simp [hq]
  | [a, b], _ => simp [hq]
  | [a, b, c], _ => simp [hq]
  | a :: b :: c :: d :: t, _ => simp
theorem dL_app (l x : Bs) (y : UInt8) (hl : l ≠ []) (hy : y.toNat < 128) : dL (l ++ y :: x) = dL l := decL_app l x y hl hy
theorem places_app (x : Bs) (y : UInt8) (hy : y.toNat < 128) (p : Bs) : ∀ a, placesAt a (p ++ y :: x) = (placesAt a p).dropLast ++ placesAt (a + p.length) (y :: x) := by
  induction p using len_ind with
  | h0 => intro a; rfl
  | h1 l h ih =>
    intro a
    have hd := dL_app l x y h hy
    have hb : badL (l ++ y :: x) = badL l := by unfold badL; rw [hd]
    have hle := dL_le h
    rw [placesAt_step a (show l ++ y :: x ≠ [] by simp), placesAt_step a h, hb, hd, List.drop_append_of_le_length hle, ih, List.dropLast_cons_of_ne_nil (places_ok _ _).ne, List.length_drop, List.cons_append]
    congr 3
    omega
theorem places_ascii (x : Bs) (y : UInt8) (hy : y.toNat < 128) (a : Nat) : placesAt a (y :: x) = (a, (y.toNat : Int)) :: placesAt (a + 1) x := by
  have hd : dL (y :: x) = (y.toNat, 1) := by
    show Lib.decodeL (y :: x) = _
    unfold Lib.decodeL Utf8.decode
    simp only [get_l, size_l, Nat.zero_add]
    simp [hy]
  have hb : badL (y :: x) = false := by
    unfold badL; rw [hd]
    simp
    omega
  rw [placesAt_step a (by simp), hb, hd]
  simp
theorem places_snd (p : Bs) : ∀ a b, (placesAt a p).map (·.2) = (placesAt b p).map (·.2) := by
  induction p using len_ind with
  | h0 => intro a b; rfl
  | h1 l h ih =>
    intro a b
    rw [placesAt_step a h, placesAt_step b h, List.map_cons, List.map_cons, ih (a + (dL l).2) (b + (dL l).2)]
theorem places_dl (p : Bs) (a b : Nat) : (placesAt a p).dropLast.map (·.2) = (placesAt b p).dropLast.map (·.2) := by
  rw [List.map_dropLast, List.map_dropLast, places_snd p a b]
def FitB (p : Bs) (t : Re) : Prop := ∃ A, patP (grpP 19) (placesAt 0 p) = .ok (t, A) ∧ nowP A = -1 ∧ OkL A
theorem ok_one {A : List Pc} (o : OkL A) (h : nowP A = -1) : A.length = 1 := by
  cases A with
  | nil => exact o.elim
  | cons q t =>
    have h : q.2 = -1 := h
    unfold OkL at o
    rw [if_pos h] at o; subst o; rfl
theorem split_dl {P X A : List Pc} (h : P = X ++ A) (hl : A.length = 1) : P.dropLast = X := by
  match A, hl with
  | [a], _ => rw [h]; simp
theorem in_group {p : Bs} {t : Re} (e : wholeP (placesAt 0 p) = .ok t) (a : Nat) {B : List Pc} (oB : OkL B) (hB : nowP B = 41) {r : Re} {l1 : List Pc} (hg : patP (grpP 19) ((placesAt a p).dropLast ++ B) = .ok (r, l1)) : r = t ∧ l1 = B ∧ FitB p t := by
  obtain ⟨X, A, h1, h2, h3, h4, h5⟩ := whole_split (places_ok p 0) e
  have hX := split_dl h1 (ok_one h4 h3)
  obtain ⟨g1, g2, g3⟩ := group_is (places_ok p 0) e h1 h3 h5 (by rw [← hX]; exact places_dl p 0 a) hB h4 oB h2 hg
  exact ⟨g1, g2, A, g3, h3, h4⟩
theorem FitB.group {p : Bs} {t : Re} (h : FitB p t) (a : Nat) {B : List Pc} (oB : OkL B) (hB : nowP B = 41) : patP (grpP 19) ((placesAt a p).dropLast ++ B) = .ok (t, B) := by
  obtain ⟨A, h1, h2, h3⟩ := h
  obtain ⟨X, h4, h5⟩ := ok_split (places_ok p 0) (patP_less (grpP_ok 19) (places_ok p 0) h1).1.suf h2 h3.ne
  have hX := split_dl h4 (ok_one h3 h2)
  exact group_lift h4 h2 h5 (by rw [← hX]; exact places_dl p 0 a) hB h3 oB h1
/-! ### how a text of groups is read -/
theorem piece_one {l l1 : List Pc} {t : Re} (h : atomP (grpP 20) l = .ok (t, l1)) (ht : timesP (nowP l1) t = none) : pieceP (grpP 20) l = .ok (t, l1) := by
  unfold pieceP; rw [h]; simp only; rw [ht]
theorem piece_times {l l1 : List Pc} {t u : Re} (h : atomP (grpP 20) l = .ok (t, l1)) (ht : timesP (nowP l1) t = some u) : pieceP (grpP 20) l = .ok (u, l1.tail) := by
  unfold pieceP; rw [h]; simp only; rw [ht]
theorem br_more {l l1 : List Pc} {acc t : Re} (o : OkL l) (hs : stopP (nowP l) = false) (hp : pieceP (grpP 20) l = .ok (t, l1)) : branchP (grpP 20) l.length acc l = branchP (grpP 20) l1.length (.cat acc t) l1 := by
  rw [branch_step (grpP_ok 20) acc o, if_neg (by rw [hs]; decide), hp]
theorem br_stop {l : List Pc} {acc : Re} (o : OkL l) (hs : stopP (nowP l) = true) : branchP (grpP 20) l.length acc l = .ok (acc, l) := by
  rw [branch_step (grpP_ok 20) acc o, if_pos hs]
theorem al_stop {l : List Pc} {acc : Re} (o : OkL l) (h : nowP l ≠ 124) : altsP (grpP 20) l.length acc l = .ok (acc, l) := by
  rw [alts_step (grpP_ok 20) acc o, if_neg h]
theorem whole_of {L l1 : List Pc} {t : Re} (h : patP (grpP 20) L = .ok (t, l1)) (he : nowP l1 = -1) : wholeP L = .ok t := by
  unfold wholeP; rw [h]; simp only; rw [if_pos he]
theorem ok_cons {q : Pc} {t : List Pc} (h : OkL t) (hq : q.2 ≠ -1) : OkL (q :: t) := by unfold OkL; rw [if_neg hq]; exact h
theorem ok_dl (p : Bs) (a : Nat) {B : List Pc} (h : OkL B) : OkL ((placesAt a p).dropLast ++ B) := by
  induction p using len_ind generalizing a with
  | h0 => exact h
  | h1 l hl ih =>
    rw [placesAt_step a hl, List.dropLast_cons_of_ne_nil (places_ok _ _).ne, List.cons_append]
    refine ok_cons (ih _) ?_
    simp only
    split
    · decide
    · omega
/-- A text "(p)" and what stands behind it. -/
def grpT (p : Bs) (x : Bs) : Bs := 40 :: (p ++ 41 :: x)
theorem grpT_places (p x : Bs) (a : Nat) : placesAt a (grpT p x) = (a, 40) :: ((placesAt (a + 1) p).dropLast ++ (a + 1 + p.length, 41) :: placesAt (a + 1 + p.length + 1) x) := by
  unfold grpT
  rw [places_ascii _ 40 (by decide), places_app x 41 (by decide), places_ascii x 41 (by decide)]
  rfl
theorem grpT_atom {p x : Bs} {t : Re} (h : FitB p t) (a : Nat) : atomP (grpP 20) (placesAt a (grpT p x)) = .ok (t, placesAt (a + 1 + p.length + 1) x) := by
  rw [grpT_places]
  exact atom_group (h.group (a + 1) (ok_cons (places_ok _ _) (show (41 : Int) ≠ -1 by decide)) rfl) rfl
theorem grpT_fit {p x : Bs} {t : Re} (e : wholeP (placesAt 0 p) = .ok t) {a : Nat} {y : Re × List Pc} (h : atomP (grpP 20) (placesAt a (grpT p x)) = .ok y) : FitB p t := by
  rw [grpT_places] at h
  obtain ⟨r, l1, hg⟩ := atom_inner h
  exact (in_group e (a + 1) (ok_cons (places_ok _ _) (show (41 : Int) ≠ -1 by decide)) rfl hg).2.2
theorem now_ascii (x : Bs) (y : UInt8) (hy : y.toNat < 128) (a : Nat) : nowP (placesAt a (y :: x)) = (y.toNat : Int) := by rw [places_ascii x y hy]; rfl
theorem grpT_now (p x : Bs) (a : Nat) : nowP (placesAt a (grpT p x)) = 40 := by rw [grpT_places]; rfl
theorem grpT_stop (p x : Bs) (a : Nat) : stopP (nowP (placesAt a (grpT p x))) = false := by rw [grpT_now]; rfl
theorem pat_of {L : List Pc} {t : Re} {l1 : List Pc} (hb : branchP (grpP 20) L.length .none L = .ok (t, l1)) (o : OkL l1) (h : nowP l1 ≠ 124) : patP (grpP 20) L = .ok (t, l1) := by
  unfold patP; rw [hb]; simp only; exact al_stop o h
/-- Two groups, one behind the other. -/
theorem both_is {p q : Bs} {tp tq : Re} (hp : FitB p tp) (hq : FitB q tq) : wholeP (placesAt 0 (grpT p (grpT q []))) = .ok (.cat (.cat .none tp) tq) := by
  have h1 := piece_one (grpT_atom (x := grpT q []) hp 0) (by rw [grpT_now]; rfl)
  have h2 := piece_one (grpT_atom (x := []) hq (0 + 1 + p.length + 1)) (by rw [placesAt_nil]; rfl)
  refine whole_of (l1 := placesAt (0 + 1 + p.length + 1 + 1 + q.length + 1) []) (pat_of ?_ (places_ok _ _) (by rw [placesAt_nil]; show (-1 : Int) ≠ 124; decide)) (by rw [placesAt_nil]; rfl)
  rw [br_more (places_ok _ _) (grpT_stop _ _ _) h1, br_more (places_ok _ _) (grpT_stop _ _ _) h2]
  exact br_stop (places_ok _ _) (by rw [placesAt_nil]; rfl)
/-- Two groups with a bar between. -/
theorem either_is {p q : Bs} {tp tq : Re} (hp : FitB p tp) (hq : FitB q tq) : wholeP (placesAt 0 (grpT p (124 :: grpT q []))) = .ok (.alt (.cat .none tp) (.cat .none tq)) := by
  have n1 : nowP (placesAt (0 + 1 + p.length + 1) (124 :: grpT q [])) = 124 := now_ascii _ _ (by decide) _
  have h1 := piece_one (grpT_atom (x := 124 :: grpT q []) hp 0) (by rw [n1]; rfl)
  have h2 := piece_one (grpT_atom (x := []) hq (0 + 1 + p.length + 1 + 1)) (by rw [placesAt_nil]; rfl)
  have hb : branchP (grpP 20) (placesAt 0 (grpT p (124 :: grpT q []))).length .none (placesAt 0 (grpT p (124 :: grpT q []))) = .ok (.cat .none tp, placesAt (0 + 1 + p.length + 1) (124 :: grpT q [])) := by
    rw [br_more (places_ok _ _) (grpT_stop _ _ _) h1]
    exact br_stop (places_ok _ _) (by rw [n1]; rfl)
  refine whole_of (l1 := placesAt (0 + 1 + p.length + 1 + 1 + 1 + q.length + 1) []) ?_ (by rw [placesAt_nil]; rfl)
  unfold patP
  rw [hb]
  simp only
  rw [alts_step (grpP_ok 20) _ (places_ok _ _), if_pos n1]
  have ht : (placesAt (0 + 1 + p.length + 1) (124 :: grpT q [])).tail = placesAt (0 + 1 + p.length + 1 + 1) (grpT q []) := by rw [places_ascii _ 124 (by decide)]; rfl
  rw [ht, br_more (places_ok _ _) (grpT_stop _ _ _) h2, br_stop (places_ok _ _) (by rw [placesAt_nil]; rfl)]
  simp only
  exact al_stop (places_ok _ _) (by rw [placesAt_nil]; show (-1 : Int) ≠ 124; decide)
/-- A group with a sign behind. -/
theorem times_is {p : Bs} {t u : Re} {c : UInt8} (hp : FitB p t) (hc : c.toNat < 128) (ht : timesP (c.toNat : Int) t = some u) : wholeP (placesAt 0 (grpT p [c])) = .ok (.cat .none u) := by
  have n1 : nowP (placesAt (0 + 1 + p.length + 1) [c]) = (c.toNat : Int) := now_ascii _ _ hc _
  have h1 := piece_times (grpT_atom (x := [c]) hp 0) (by rw [n1]; exact ht)
  have e : (placesAt (0 + 1 + p.length + 1) [c]).tail = placesAt (0 + 1 + p.length + 1 + 1) [] := by rw [places_ascii _ c hc]; rfl
  rw [e] at h1
  refine whole_of (l1 := placesAt (0 + 1 + p.length + 1 + 1) []) (pat_of ?_ (places_ok _ _) (by rw [placesAt_nil]; show (-1 : Int) ≠ 124; decide)) (by rw [placesAt_nil]; rfl)
  rw [br_more (places_ok _ _) (grpT_stop _ _ _) h1]
  exact br_stop (places_ok _ _) (by rw [placesAt_nil]; rfl)
/-- If two groups one behind the other are a pattern, both are patterns as deep as groups may be there. -/
theorem both_fit {p q : Bs} {tp tq u : Re} (hp : wholeP (placesAt 0 p) = .ok tp) (hq : wholeP (placesAt 0 q) = .ok tq) (h : wholeP (placesAt 0 (grpT p (grpT q []))) = .ok u) : FitB p tp ∧ FitB q tq := by
  have hb : ∃ y, branchP (grpP 20) (placesAt 0 (grpT p (grpT q []))).length .none (placesAt 0 (grpT p (grpT q []))) = .ok y := by
    unfold wholeP patP at h
    cases hb : branchP (grpP 20) (placesAt 0 (grpT p (grpT q []))).length .none (placesAt 0 (grpT p (grpT q []))) with
    | error f => rw [hb] at h; cases h
    | ok y => exact ⟨y, rfl⟩
  obtain ⟨y, hb⟩ := hb
  have atom_of : ∀ {l : List Pc} {acc : Re} {y : Re × List Pc}, OkL l → stopP (nowP l) = false → branchP (grpP 20) l.length acc l = .ok y → ∃ z, atomP (grpP 20) l = .ok z := fun {l acc y} o hs h => by
    rw [branch_step (grpP_ok 20) acc o, if_neg (by rw [hs]; decide)] at h
    unfold pieceP at h
    cases ha : atomP (grpP 20) l with
    | error f => rw [ha] at h; cases h
    | ok z => exact ⟨z, rfl⟩
  obtain ⟨z, hz⟩ := atom_of (places_ok _ _) (grpT_stop _ _ _) hb
  have fp := grpT_fit hp hz
  have h1 := piece_one (grpT_atom (x := grpT q []) fp 0) (by rw [grpT_now]; rfl)
  rw [br_more (places_ok _ _) (grpT_stop _ _ _) h1] at hb
  obtain ⟨z2, hz2⟩ := atom_of (places_ok _ _) (grpT_stop _ _ _) hb
  exact ⟨fp, grpT_fit hq hz2⟩
end
end Go.Proofs.Ytdihaabjmlhemaa
