/-
  The faults of texts that are no patterns: each has one of the document's two numbers. Plain; nothing here speaks of the program.
-/
import Derived.Test.YtdihaabjmlhemaaRe
namespace Go.Proofs.Ytdihaabjmlhemaa
set_option linter.unusedVariables false
set_option linter.unusedSimpArgs false
def Ec (f : Flt) : Prop := f.2 = 8 ∨ f.2 = 60
theorem rescP_ec {least : Int} {l : List Pc} {f : Flt} (e : rescP least l = .error f) : Ec f := by
  unfold rescP at e
  split at e
  · split at e
    · cases e
    · injection e with e; subst e; exact .inl rfl
  · injection e with e; subst e; exact .inl rfl
theorem singleP_ec {least : Int} {l : List Pc} {f : Flt} (e : singleP least l = .error f) : Ec f := by
  unfold singleP at e
  split at e
  · exact rescP_ec e
  · split at e
    · cases e
    · injection e with e; subst e; exact .inl rfl
theorem memberP_ec {l : List Pc} {f : Flt} (e : memberP l = .error f) : Ec f := by
  unfold memberP at e
  split at e
  · cases e
  · split at e
    · rename_i h; injection e with e; subst e; exact singleP_ec h
    · split at e
      · split at e
        · rename_i h; injection e with e; subst e; exact singleP_ec h
        · cases e
      · cases e
theorem membersP_ec : ∀ (n : Nat) (acc : Spans) (l : List Pc), OkL l → l.length ≤ n → ∀ {f : Flt}, membersP n acc l = .error f → Ec f
  | 0, acc, l, ho, hl, f, e => absurd (List.eq_nil_of_length_eq_zero (by omega)) ho.ne
  | n + 1, acc, l, ho, hl, f, e => by
    unfold membersP at e
    split at e
    · cases e
    · split at e
      · rename_i h; injection e with e; subst e; exact memberP_ec h
      · rename_i m l1 h
        have hs := memberP_shr ho h
        exact membersP_ec n _ l1 hs.le.ok (by have := hs.lt; omega) e
theorem classP_ec {l : List Pc} (h : OkL l) (hn : nowP l ≠ -1) {f : Flt} (e : classP l = .error f) : Ec f := by
  unfold classP at e
  simp only at e
  have ho : OkL (if decide (nowP l.tail = 94) = true then l.tail.tail else l.tail) := by
    split
    · rename_i h94
      exact (h.tail hn).tail (by rw [of_decide_eq_true h94]; decide)
    · exact h.tail hn
  split at e
  · rename_i hm; injection e with e; subst e; exact memberP_ec hm
  · rename_i m l2 hm
    have hs := memberP_shr ho hm
    split at e
    · rename_i hms; injection e with e; subst e; exact membersP_ec _ _ _ hs.le.ok (Nat.le_refl _) hms
    · cases e
theorem escapeP_ec {l : List Pc} {f : Flt} (e : escapeP l = .error f) : Ec f := by
  unfold escapeP at e
  split at e
  · cases e
  · split at e
    · rename_i h; injection e with e; subst e; exact rescP_ec h
    · cases e
def GrpEc (grp : List Pc → Rs Re) : Prop := ∀ (l : List Pc), OkL l → nowP l = 40 → ∀ {f : Flt}, grp l = .error f → Ec f
theorem atomP_ec {grp : List Pc → Rs Re} (hg : GrpEc grp) {l : List Pc} (h : OkL l) {f : Flt} (e : atomP grp l = .error f) : Ec f := by
  unfold atomP at e
  split at e
  · rename_i h1; exact hg l h h1 e
  · split at e
    · rename_i h1; exact classP_ec h (by rw [h1]; decide) e
    · split at e
      · exact escapeP_ec e
      · split at e
        · cases e
        · split at e
          · cases e
          · injection e with e; subst e; exact .inl rfl
theorem pieceP_ec {grp : List Pc → Rs Re} (hg : GrpEc grp) {l : List Pc} (h : OkL l) {f : Flt} (e : pieceP grp l = .error f) : Ec f := by
  unfold pieceP at e
  split at e
  · rename_i h1; injection e with e; subst e; exact atomP_ec hg h h1
  · split at e
    · cases e
    · cases e
theorem branchP_ec {grp : List Pc → Rs Re} (hg : GrpEc grp) (hk : GrpOk grp) : ∀ (n : Nat) (acc : Re) (l : List Pc), OkL l → l.length ≤ n → ∀ {f : Flt}, branchP grp n acc l = .error f → Ec f
  | 0, acc, l, ho, hl, f, e => absurd (List.eq_nil_of_length_eq_zero (by omega)) ho.ne
  | n + 1, acc, l, ho, hl, f, e => by
    unfold branchP at e
    split at e
    · cases e
    · split at e
      · rename_i h; injection e with e; subst e; exact pieceP_ec hg ho h
      · rename_i m l1 h
        have hs := pieceP_shr hk ho h
        exact branchP_ec hg hk n _ l1 hs.le.ok (by have := hs.lt; omega) e
theorem altsP_ec {grp : List Pc → Rs Re} (hg : GrpEc grp) (hk : GrpOk grp) : ∀ (n : Nat) (acc : Re) (l : List Pc), OkL l → l.length ≤ n → ∀ {f : Flt}, altsP grp n acc l = .error f → Ec f
  | 0, acc, l, ho, hl, f, e => absurd (List.eq_nil_of_length_eq_zero (by omega)) ho.ne
  | n + 1, acc, l, ho, hl, f, e => by
    unfold altsP at e
    split at e
    · rename_i h124
      have ht := ho.tail (by rw [h124]; decide)
      split at e
      · rename_i h; injection e with e; subst e; exact branchP_ec hg hk _ _ _ ht (Nat.le_refl _) h
      · rename_i b l1 h
        have hs := (branchP_less hk _ _ _ ht h).1
        have := hs.len
        have := tail_lt ho
        exact altsP_ec hg hk n _ l1 hs.ok (by omega) e
    · cases e
theorem patP_ec {grp : List Pc → Rs Re} (hg : GrpEc grp) (hk : GrpOk grp) {l : List Pc} (h : OkL l) {f : Flt} (e : patP grp l = .error f) : Ec f := by
  unfold patP at e
  split at e
  · rename_i hb; injection e with e; subst e; exact branchP_ec hg hk _ _ _ h (Nat.le_refl _) hb
  · rename_i b l1 hb
    exact altsP_ec hg hk _ _ _ (branchP_less hk _ _ _ h hb).1.ok (Nat.le_refl _) e
theorem grpP_ec : ∀ (d : Nat), GrpEc (grpP d)
  | 0 => fun l _ _ f e => by unfold grpP at e; injection e with e; subst e; exact .inr rfl
  | d + 1 => fun l h h40 f e => by
    unfold grpP at e
    split at e
    · rename_i hp; injection e with e; subst e; exact patP_ec (grpP_ec d) (grpP_ok d) (h.tail (by rw [h40]; decide)) hp
    · split at e
      · cases e
      · injection e with e; subst e; exact .inl rfl
theorem wholeP_ec {l : List Pc} (h : OkL l) {f : Flt} (e : wholeP l = .error f) : Ec f := by
  unfold wholeP at e
  split at e
  · rename_i hp; injection e with e; subst e; exact patP_ec (grpP_ec 20) (grpP_ok 20) h hp
  · split at e
    · cases e
    · injection e with e; subst e; exact .inl rfl
end Go.Proofs.Ytdihaabjmlhemaa
