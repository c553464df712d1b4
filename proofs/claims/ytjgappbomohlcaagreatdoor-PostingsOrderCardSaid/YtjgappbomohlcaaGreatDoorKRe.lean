/-
  Patterns, plainly: what a text of places is as a tree, or where it breaks; what a tree matches; the automaton of a tree's atoms. The automaton of a tree's atoms takes what the tree matches. The faults of texts that are no patterns: each has one of the document's two numbers. Plain; nothing here speaks of the program. Patterns by reach: to which places of a text one comes by a part of a pattern from some places. Plain; nothing here speaks of the program.
-/
import Derived.WalkKit
import Derived.Handy
import Derived.Test.YtjgappbomohlcaaGreatDoorRows
namespace Go.Proofs.YtjgappbomohlcaaGreatDoor
section
set_option linter.unusedVariables false
set_option linter.unusedSimpArgs false
section
set_option linter.unusedVariables false
set_option linter.unusedSimpArgs false

abbrev Spans := List (Int × Int)
/-- A rune, and at which byte it stands; -1: the end, -2: a byte that belongs to none. -/
abbrev Pc := Nat × Int
abbrev Flt := Nat × Nat

inductive Re
  | none
  | set (l : Spans) (neg : Bool)
  | cat (a b : Re)
  | alt (a b : Re)
  | star (a : Re)
  | plus (a : Re)
  | may (a : Re)
deriving DecidableEq, Inhabited

inductive Star (M : List Int → Prop) : List Int → Prop
  | nil : Star M []
  | cons {u v : List Int} : M u → Star M v → Star M (u ++ v)

def inSpans (l : Spans) (c : Int) : Bool := l.any fun s => decide (s.1 ≤ c) && decide (c ≤ s.2)
def takesP (l : Spans) (neg : Bool) (c : Int) : Bool := if inSpans l c then !neg else neg

def Mt : Re → List Int → Prop
  | .none, w => w = []
  | .set l neg, w => ∃ c, w = [c] ∧ takesP l neg c = true
  | .cat a b, w => ∃ u v, w = u ++ v ∧ Mt a u ∧ Mt b v
  | .alt a b, w => Mt a w ∨ Mt b w
  | .star a, w => Star (Mt a) w
  | .plus a, w => ∃ u v, w = u ++ v ∧ Mt a u ∧ Star (Mt a) v
  | .may a, w => w = [] ∨ Mt a w

/-! ### reading -/
def errFormN : Nat := 8
def errDeepN : Nat := 60
def specialP (c : Int) : Bool := c == 46 || c == 42 || c == 43 || c == 63 || c == 40 || c == 41 || c == 91 || c == 93 || c == 123 || c == 125 || c == 124 || c == 94 || c == 36 || c == 92
def manyP (c : Int) : Option Spans :=
  if c = 100 then some [(48, 57)] else if c = 119 then some [(48, 57), (65, 90), (97, 122), (95, 95)] else if c = 115 then some [(32, 32), (9, 10)] else Option.none
def nowP : List Pc → Int
  | [] => -1
  | p :: _ => p.2
def atP : List Pc → Nat
  | [] => 0
  | p :: _ => p.1
abbrev Rs (α : Type) := Except Flt (α × List Pc)

def rescP (least : Int) (l : List Pc) : Rs Int :=
  if least ≤ 125 then
    (if decide (least ≤ nowP l.tail) && (specialP (nowP l.tail) || nowP l.tail == 45 || nowP l.tail == 47) then .ok (nowP l.tail, l.tail.tail) else .error (atP l.tail, errFormN))
  else .error (atP l, errFormN)
def outsideP (c : Int) : Bool := c == 91 || c == 93 || c == 94 || c == 45
def singleP (least : Int) (l : List Pc) : Rs Int :=
  if nowP l = 92 then rescP least l
  else if decide (least ≤ nowP l) && !outsideP (nowP l) then .ok (nowP l, l.tail) else .error (atP l, errFormN)
def manyL (l : List Pc) : Option Spans := if nowP l = 92 then manyP (nowP l.tail) else Option.none
def memberP (l : List Pc) : Rs Spans :=
  match manyL l with
  | some g => .ok (g, l.tail.tail)
  | Option.none =>
    match singleP 0 l with
    | .error f => .error f
    | .ok (lo, l1) =>
      if nowP l1 = 45 then
        match singleP lo l1.tail with
        | .error f => .error f
        | .ok (hi, l2) => .ok ([(lo, hi)], l2)
      else .ok ([(lo, lo)], l1)
def membersP : Nat → Spans → List Pc → Rs Spans
  | 0, _, _ => .error (0, 0)
  | n + 1, acc, l =>
    if nowP l = 93 then .ok (acc, l)
    else match memberP l with
      | .error f => .error f
      | .ok (m, l1) => membersP n (acc ++ m) l1
def classP (l : List Pc) : Rs Re :=
  let neg := decide (nowP l.tail = 94)
  let l1 := if neg then l.tail.tail else l.tail
  match memberP l1 with
  | .error f => .error f
  | .ok (m, l2) =>
    match membersP l2.length m l2 with
    | .error f => .error f
    | .ok (m, l3) => .ok (.set m neg, l3.tail)
def escapeP (l : List Pc) : Rs Re :=
  match manyL l with
  | some g => .ok (.set g false, l.tail.tail)
  | Option.none =>
    match rescP 0 l with
    | .error f => .error f
    | .ok (c, l1) => .ok (.set [(c, c)] false, l1)
def atomP (grp : List Pc → Rs Re) (l : List Pc) : Rs Re :=
  if nowP l = 40 then grp l
  else if nowP l = 91 then classP l
  else if nowP l = 92 then escapeP l
  else if nowP l = 46 then .ok (.set [] true, l.tail)
  else if decide (0 ≤ nowP l) && !specialP (nowP l) then .ok (.set [(nowP l, nowP l)] false, l.tail)
  else .error (atP l, errFormN)
def timesP (c : Int) (a : Re) : Option Re := if c = 42 then some (.star a) else if c = 43 then some (.plus a) else if c = 63 then some (.may a) else Option.none
def pieceP (grp : List Pc → Rs Re) (l : List Pc) : Rs Re :=
  match atomP grp l with
  | .error f => .error f
  | .ok (a, l1) =>
    match timesP (nowP l1) a with
    | some b => .ok (b, l1.tail)
    | Option.none => .ok (a, l1)
def stopP (c : Int) : Bool := c == 124 || c == 41 || c == -1
def branchP (grp : List Pc → Rs Re) : Nat → Re → List Pc → Rs Re
  | 0, _, _ => .error (0, 0)
  | n + 1, acc, l =>
    if stopP (nowP l) then .ok (acc, l)
    else match pieceP grp l with
      | .error f => .error f
      | .ok (a, l1) => branchP grp n (.cat acc a) l1
def altsP (grp : List Pc → Rs Re) : Nat → Re → List Pc → Rs Re
  | 0, _, _ => .error (0, 0)
  | n + 1, acc, l =>
    if nowP l = 124 then
      match branchP grp l.tail.length .none l.tail with
      | .error f => .error f
      | .ok (b, l1) => altsP grp n (.alt acc b) l1
    else .ok (acc, l)
def patP (grp : List Pc → Rs Re) (l : List Pc) : Rs Re :=
  match branchP grp l.length .none l with
  | .error f => .error f
  | .ok (b, l1) => altsP grp l1.length b l1
def grpP : Nat → List Pc → Rs Re
  | 0, l => .error (atP l, errDeepN)
  | d + 1, l =>
    match patP (grpP d) l.tail with
    | .error f => .error f
    | .ok (r, l1) => if nowP l1 = 41 then .ok (r, l1.tail) else .error (atP l1, errFormN)
def wholeP (l : List Pc) : Except Flt Re :=
  match patP (grpP 20) l with
  | .error f => .error f
  | .ok (r, l1) => if nowP l1 = -1 then .ok r else .error (atP l1, errFormN)

/-! ### what is left is a part of what was there -/
/-- A text's places: the end is the last one, and nowhere else. -/
def OkL : List Pc → Prop
  | [] => False
  | p :: t => if p.2 = -1 then t = [] else OkL t
theorem OkL.ne {l : List Pc} (h : OkL l) : l ≠ [] := by rintro rfl; exact h
theorem OkL.tail {l : List Pc} (h : OkL l) (hn : nowP l ≠ -1) : OkL l.tail := by
  cases l with
  | nil => exact absurd rfl hn
  | cons p t => simp only [OkL] at h; rw [if_neg (show ¬ p.2 = -1 from hn)] at h; exact h
theorem tail_lt {l : List Pc} (h : OkL l) : l.tail.length < l.length := by
  cases l with
  | nil => exact h.elim
  | cons p t => simp
/-- l' is l without some of its first places, and has its end. -/
structure Less (l l' : List Pc) : Prop where
  ok : OkL l'
  suf : l' <:+ l
structure Shr (l l' : List Pc) : Prop where
  ok : OkL l'
  suf : l' <:+ l
  lt : l'.length < l.length
theorem Shr.le {l l' : List Pc} (h : Shr l l') : Less l l' := ⟨h.ok, h.suf⟩
theorem Less.refl {l : List Pc} (h : OkL l) : Less l l := ⟨h, List.suffix_refl _⟩
theorem Less.len {l l' : List Pc} (h : Less l l') : l'.length ≤ l.length := h.suf.length_le
theorem Less.trans {a b c : List Pc} (h : Less a b) (k : Less b c) : Less a c := ⟨k.ok, k.suf.trans h.suf⟩
theorem Shr.trans {a b c : List Pc} (h : Less a b) (k : Shr b c) : Shr a c := ⟨k.ok, k.suf.trans h.suf, by have := h.len; have := k.lt; omega⟩
theorem Shr.then {a b c : List Pc} (h : Shr a b) (k : Less b c) : Shr a c := ⟨k.ok, k.suf.trans h.suf, by have := k.len; have := h.lt; omega⟩
theorem Shr.tail {l : List Pc} (h : OkL l) (hn : nowP l ≠ -1) : Shr l l.tail := ⟨h.tail hn, List.tail_suffix _, tail_lt h⟩

theorem rescP_shr {least : Int} {l : List Pc} (h : OkL l) (hn : nowP l ≠ -1) {c : Int} {l1 : List Pc} (e : rescP least l = .ok (c, l1)) : Shr l l1 ∧ nowP l.tail ≠ -1 := by
  unfold rescP at e
  split at e
  · split at e
    · rename_i hc
      have hn1 : nowP l.tail ≠ -1 := by
        intro hm; rw [hm] at hc; simp [specialP] at hc
      injection e with e; injection e with _ e; subst e
      exact ⟨(Shr.tail h hn).trans (Less.refl h) |>.then (Shr.tail (h.tail hn) hn1).le, hn1⟩
    · cases e
  · cases e
theorem singleP_shr {least : Int} {l : List Pc} (h : OkL l) (hl : 0 ≤ least) {c : Int} {l1 : List Pc} (e : singleP least l = .ok (c, l1)) : Shr l l1 ∧ nowP l ≠ -1 ∧ least ≤ c := by
  unfold singleP at e
  split at e
  · rename_i h92
    have hn : nowP l ≠ -1 := by rw [h92]; decide
    refine ⟨(rescP_shr h hn e).1, hn, ?_⟩
    unfold rescP at e
    split at e
    · split at e
      · rename_i hc
        injection e with e; injection e with e _; subst e
        simp at hc; exact hc.1
      · cases e
    · cases e
  · split at e
    · rename_i hc
      simp at hc
      injection e with e; injection e with e1 e2; subst e2; subst e1
      have hn : nowP l ≠ -1 := by omega
      exact ⟨Shr.tail h hn, hn, hc.1⟩
    · cases e
theorem manyL_some {l : List Pc} (h : OkL l) {g : Spans} (e : manyL l = some g) : Shr l l.tail.tail ∧ nowP l = 92 ∧ nowP l.tail ≠ -1 := by
  unfold manyL at e
  split at e
  · rename_i h92
    have hn : nowP l ≠ -1 := by rw [h92]; decide
    have hn1 : nowP l.tail ≠ -1 := by intro hm; rw [hm] at e; simp [manyP] at e
    exact ⟨(Shr.tail h hn).then (Shr.tail (h.tail hn) hn1).le, h92, hn1⟩
  · cases e
theorem memberP_shr {l : List Pc} (h : OkL l) {m : Spans} {l1 : List Pc} (e : memberP l = .ok (m, l1)) : Shr l l1 := by
  unfold memberP at e
  split at e
  · rename_i g hg
    injection e with e; injection e with _ e; subst e
    exact (manyL_some h hg).1
  · split at e
    · cases e
    · rename_i lo l2 hs
      have s1 := singleP_shr h (by decide) hs
      split at e
      · rename_i h45
        split at e
        · cases e
        · rename_i hi l3 hs2
          injection e with e; injection e with _ e; subst e
          have hn : nowP l2 ≠ -1 := by rw [h45]; decide
          exact s1.1.then ((Shr.tail s1.1.ok hn).le.trans (singleP_shr (s1.1.ok.tail hn) s1.2.2 hs2).1.le)
      · injection e with e; injection e with _ e; subst e
        exact s1.1
theorem membersP_less : ∀ (n : Nat) (acc : Spans) (l : List Pc), OkL l → ∀ {m : Spans} {l1 : List Pc}, membersP n acc l = .ok (m, l1) → Less l l1 ∧ nowP l1 = 93
  | 0, _, _, _, _, _, e => by cases e
  | n + 1, acc, l, h, m, l1, e => by
    unfold membersP at e
    split at e
    · rename_i h93
      injection e with e; injection e with _ e; subst e
      exact ⟨Less.refl h, h93⟩
    · split at e
      · cases e
      · rename_i m1 l2 hm
        have := membersP_less n _ _ (memberP_shr h hm).ok e
        exact ⟨(memberP_shr h hm).le.trans this.1, this.2⟩
theorem classP_shr {l : List Pc} (h : OkL l) (hn : nowP l ≠ -1) {r : Re} {l1 : List Pc} (e : classP l = .ok (r, l1)) : Shr l l1 := by
  unfold classP at e
  simp only at e
  have hq : OkL (if decide (nowP l.tail = 94) = true then l.tail.tail else l.tail) ∧ Less l (if decide (nowP l.tail = 94) = true then l.tail.tail else l.tail) := by
    have h1 := Shr.tail h hn
    split
    · rename_i h94
      simp at h94
      have h2 := Shr.tail h1.ok (by rw [h94]; decide)
      exact ⟨h2.ok, h1.le.trans h2.le⟩
    · exact ⟨h1.ok, h1.le⟩
  revert e hq
  generalize (if decide (nowP l.tail = 94) = true then l.tail.tail else l.tail) = lq
  intro e hq
  split at e
  · cases e
  · rename_i m l2 hm
    split at e
    · cases e
    · rename_i m' l3 hms
      injection e with e; injection e with _ e; subst e
      have a := memberP_shr hq.1 hm
      have b := membersP_less _ _ _ a.ok hms
      exact (Shr.trans hq.2 a).then (b.1.trans (Shr.tail b.1.ok (by rw [b.2]; decide)).le)
theorem escapeP_shr {l : List Pc} (h : OkL l) (hn : nowP l ≠ -1) {r : Re} {l1 : List Pc} (e : escapeP l = .ok (r, l1)) : Shr l l1 := by
  unfold escapeP at e
  split at e
  · rename_i g hg
    injection e with e; injection e with _ e; subst e
    exact (manyL_some h hg).1
  · split at e
    · cases e
    · rename_i c l2 hc
      injection e with e; injection e with _ e; subst e
      exact (rescP_shr h hn hc).1
def GrpOk (grp : List Pc → Rs Re) : Prop := ∀ (l : List Pc), OkL l → nowP l = 40 → ∀ {r : Re} {l1 : List Pc}, grp l = .ok (r, l1) → Shr l l1
theorem atomP_shr {grp : List Pc → Rs Re} (hg : GrpOk grp) {l : List Pc} (h : OkL l) {r : Re} {l1 : List Pc} (e : atomP grp l = .ok (r, l1)) : Shr l l1 ∧ nowP l ≠ -1 := by
  unfold atomP at e
  split at e
  · rename_i h40; exact ⟨hg l h h40 e, by rw [h40]; decide⟩
  · split at e
    · rename_i hc; have hn : nowP l ≠ -1 := by rw [hc]; decide
      exact ⟨classP_shr h hn e, hn⟩
    · split at e
      · rename_i hc; have hn : nowP l ≠ -1 := by rw [hc]; decide
        exact ⟨escapeP_shr h hn e, hn⟩
      · split at e
        · rename_i hc; have hn : nowP l ≠ -1 := by rw [hc]; decide
          injection e with e; injection e with _ e; subst e
          exact ⟨Shr.tail h hn, hn⟩
        · split at e
          · rename_i hc
            simp at hc
            have hn : nowP l ≠ -1 := by omega
            injection e with e; injection e with _ e; subst e
            exact ⟨Shr.tail h hn, hn⟩
          · cases e
theorem timesP_some {c : Int} {a b : Re} (e : timesP c a = some b) : c ≠ -1 := by
  rintro rfl; simp [timesP] at e
theorem pieceP_shr {grp : List Pc → Rs Re} (hg : GrpOk grp) {l : List Pc} (h : OkL l) {r : Re} {l1 : List Pc} (e : pieceP grp l = .ok (r, l1)) : Shr l l1 := by
  unfold pieceP at e
  split at e
  · cases e
  · rename_i a l2 ha
    have s := atomP_shr hg h ha
    split at e
    · rename_i b hb
      injection e with e; injection e with _ e; subst e
      exact s.1.then (Shr.tail s.1.ok (timesP_some hb)).le
    · injection e with e; injection e with _ e; subst e
      exact s.1
theorem branchP_less {grp : List Pc → Rs Re} (hg : GrpOk grp) : ∀ (n : Nat) (acc : Re) (l : List Pc), OkL l → ∀ {r : Re} {l1 : List Pc}, branchP grp n acc l = .ok (r, l1) → Less l l1 ∧ stopP (nowP l1) = true
  | 0, _, _, _, _, _, e => by cases e
  | n + 1, acc, l, h, r, l1, e => by
    unfold branchP at e
    split at e
    · rename_i hs
      injection e with e; injection e with _ e; subst e
      exact ⟨Less.refl h, hs⟩
    · split at e
      · cases e
      · rename_i a l2 ha
        have s := pieceP_shr hg h ha
        have b := branchP_less hg n _ _ s.ok e
        exact ⟨s.le.trans b.1, b.2⟩
theorem altsP_less {grp : List Pc → Rs Re} (hg : GrpOk grp) : ∀ (n : Nat) (acc : Re) (l : List Pc), OkL l → ∀ {r : Re} {l1 : List Pc}, altsP grp n acc l = .ok (r, l1) → Less l l1 ∧ nowP l1 ≠ 124
  | 0, _, _, _, _, _, e => by cases e
  | n + 1, acc, l, h, r, l1, e => by
    unfold altsP at e
    split at e
    · rename_i h124
      split at e
      · cases e
      · rename_i b l2 hb
        have hn : nowP l ≠ -1 := by rw [h124]; decide
        have s := branchP_less hg _ _ _ (h.tail hn) hb
        have b := altsP_less hg n _ _ s.1.ok e
        exact ⟨(Shr.tail h hn).le.trans (s.1.trans b.1), b.2⟩
    · rename_i h124
      injection e with e; injection e with _ e; subst e
      exact ⟨Less.refl h, h124⟩
theorem patP_less {grp : List Pc → Rs Re} (hg : GrpOk grp) {l : List Pc} (h : OkL l) {r : Re} {l1 : List Pc} (e : patP grp l = .ok (r, l1)) : Less l l1 ∧ nowP l1 ≠ 124 := by
  unfold patP at e
  split at e
  · cases e
  · rename_i b l2 hb
    have s := branchP_less hg _ _ _ h hb
    have a := altsP_less hg _ _ _ s.1.ok e
    exact ⟨s.1.trans a.1, a.2⟩
theorem grpP_ok : ∀ (d : Nat), GrpOk (grpP d)
  | 0 => fun _ _ _ _ _ e => by cases e
  | d + 1 => fun l h h40 r l1 e => by
    unfold grpP at e
    have hn : nowP l ≠ -1 := by rw [h40]; decide
    split at e
    · cases e
    · rename_i r' l2 hp
      have s := patP_less (grpP_ok d) (h.tail hn) hp
      split at e
      · rename_i h41
        injection e with e; injection e with _ e; subst e
        exact (Shr.tail h hn).then (s.1.trans (Shr.tail s.1.ok (by rw [h41]; decide)).le)
      · cases e

/-! ### more steps than places make no difference -/
theorem membersP_fuel : ∀ (n : Nat) (acc : Spans) (l : List Pc), OkL l → l.length ≤ n → membersP n acc l = membersP l.length acc l
  | 0, _, l, h, hn => by cases l with | nil => exact h.elim | cons p t => simp at hn
  | n + 1, acc, l, h, hn => by
    cases hl : l.length with
    | zero => exact absurd (List.eq_nil_of_length_eq_zero hl) h.ne
    | succ k =>
      simp only [membersP]
      split
      · rfl
      · split
        · rfl
        · rename_i m l1 hm
          have s := memberP_shr h hm
          have := s.lt
          rw [membersP_fuel n _ _ s.ok (by omega), membersP_fuel k _ _ s.ok (by omega)]
theorem branchP_fuel {grp : List Pc → Rs Re} (hg : GrpOk grp) : ∀ (n : Nat) (acc : Re) (l : List Pc), OkL l → l.length ≤ n → branchP grp n acc l = branchP grp l.length acc l
  | 0, _, l, h, hn => by cases l with | nil => exact h.elim | cons p t => simp at hn
  | n + 1, acc, l, h, hn => by
    cases hl : l.length with
    | zero => exact absurd (List.eq_nil_of_length_eq_zero hl) h.ne
    | succ k =>
      simp only [branchP]
      split
      · rfl
      · split
        · rfl
        · rename_i m l1 hm
          have s := pieceP_shr hg h hm
          have := s.lt
          rw [branchP_fuel hg n _ _ s.ok (by omega), branchP_fuel hg k _ _ s.ok (by omega)]
theorem altsP_fuel {grp : List Pc → Rs Re} (hg : GrpOk grp) : ∀ (n : Nat) (acc : Re) (l : List Pc), OkL l → l.length ≤ n → altsP grp n acc l = altsP grp l.length acc l
  | 0, _, l, h, hn => by cases l with | nil => exact h.elim | cons p t => simp at hn
  | n + 1, acc, l, h, hn => by
    cases hl : l.length with
    | zero => exact absurd (List.eq_nil_of_length_eq_zero hl) h.ne
    | succ k =>
      simp only [altsP]
      split
      · rename_i h124
        have hx : nowP l ≠ -1 := by rw [h124]; decide
        split
        · rfl
        · rename_i b l1 hb
          have s := branchP_less hg _ _ _ (h.tail hx) hb
          have := s.1.len
          have := tail_lt h
          rw [altsP_fuel hg n _ _ s.1.ok (by omega), altsP_fuel hg k _ _ s.1.ok (by omega)]
      · rfl
theorem members_step (acc : Spans) {l : List Pc} (h : OkL l) : membersP l.length acc l = if nowP l = 93 then .ok (acc, l) else match memberP l with | .error f => .error f | .ok (m, l1) => membersP l1.length (acc ++ m) l1 := by
  cases hl : l.length with
  | zero => exact absurd (List.eq_nil_of_length_eq_zero hl) h.ne
  | succ k =>
    simp only [membersP]
    split
    · rfl
    · split
      · rfl
      · rename_i m l1 hm
        have s := memberP_shr h hm
        have := s.lt
        rw [membersP_fuel k _ _ s.ok (by omega)]
theorem branch_step {grp : List Pc → Rs Re} (hg : GrpOk grp) (acc : Re) {l : List Pc} (h : OkL l) : branchP grp l.length acc l = if stopP (nowP l) then .ok (acc, l) else match pieceP grp l with | .error f => .error f | .ok (a, l1) => branchP grp l1.length (.cat acc a) l1 := by
  cases hl : l.length with
  | zero => exact absurd (List.eq_nil_of_length_eq_zero hl) h.ne
  | succ k =>
    simp only [branchP]
    split
    · rfl
    · split
      · rfl
      · rename_i m l1 hm
        have s := pieceP_shr hg h hm
        have := s.lt
        rw [branchP_fuel hg k _ _ s.ok (by omega)]
theorem alts_step {grp : List Pc → Rs Re} (hg : GrpOk grp) (acc : Re) {l : List Pc} (h : OkL l) : altsP grp l.length acc l = if nowP l = 124 then (match branchP grp l.tail.length .none l.tail with | .error f => .error f | .ok (b, l1) => altsP grp l1.length (.alt acc b) l1) else .ok (acc, l) := by
  cases hl : l.length with
  | zero => exact absurd (List.eq_nil_of_length_eq_zero hl) h.ne
  | succ k =>
    simp only [altsP]
    split
    · rename_i h124
      have hx : nowP l ≠ -1 := by rw [h124]; decide
      split
      · rfl
      · rename_i b l1 hb
        have s := branchP_less hg _ _ _ (h.tail hx) hb
        have := s.1.len
        have := tail_lt h
        rw [altsP_fuel hg k _ _ s.1.ok (by omega)]
    · rfl

/-! ### the automaton -/
structure Atm where
  sp : Spans
  neg : Bool
  next : Nat
deriving DecidableEq, Inhabited
structure Prt where
  first : Nat
  last : Nat
  empty : Bool
deriving DecidableEq, Inhabited
def followF (these next : Nat) : Nat → List Atm → List Atm
  | _, [] => []
  | i, a :: t => (if these.testBit i then { a with next := a.next ||| next } else a) :: followF these next (i + 1) t
def followP (these next : Nat) (A : List Atm) : List Atm := followF these next 0 A
def joinP (a b : Prt) : Prt := ⟨if a.empty then a.first ||| b.first else a.first, if b.empty then b.last ||| a.last else b.last, a.empty && b.empty⟩
def eitherP (a b : Prt) : Prt := ⟨a.first ||| b.first, a.last ||| b.last, a.empty || b.empty⟩
def addP (sp : Spans) (neg : Bool) (A : List Atm) : Prt × List Atm := (⟨2 ^ A.length, 2 ^ A.length, false⟩, A ++ [⟨sp, neg, 0⟩])
def compP : Re → List Atm → Prt × List Atm
  | .none, A => (⟨0, 0, true⟩, A)
  | .set l neg, A => addP l neg A
  | .cat a b, A =>
    let x := compP a A
    let y := compP b x.2
    (joinP x.1 y.1, followP x.1.last y.1.first y.2)
  | .alt a b, A =>
    let x := compP a A
    let y := compP b x.2
    (eitherP x.1 y.1, y.2)
  | .star a, A => let x := compP a A; ({ x.1 with empty := true }, followP x.1.last x.1.first x.2)
  | .plus a, A => let x := compP a A; (x.1, followP x.1.last x.1.first x.2)
  | .may a, A => let x := compP a A; ({ x.1 with empty := true }, x.2)
def stepF (next last : Nat) (c : Int) : Nat → List Atm → Nat × Bool → Nat × Bool
  | _, [], r => r
  | i, a :: t, r => stepF next last c (i + 1) t (if next.testBit i && takesP a.sp a.neg c then (r.1 ||| a.next, r.2 || last.testBit i) else r)
def matchF (A : List Atm) (last : Nat) : List Int → Nat → Bool → Bool
  | [], _, ends => ends
  | c :: t, next, _ => if next = 0 then false else matchF A last t (stepF next last c 0 A (0, false)).1 (stepF next last c 0 A (0, false)).2
def matchP (p : Prt) (A : List Atm) (w : List Int) : Bool := matchF A p.last w p.first p.empty
end
section
set_option linter.unusedVariables false
set_option linter.unusedSimpArgs false

def Ed (A : List Atm) (i j : Nat) : Prop := ∃ a, A[i]? = some a ∧ a.next.testBit j = true
def Tk (A : List Atm) (i : Nat) (c : Int) : Prop := ∃ a, A[i]? = some a ∧ takesP a.sp a.neg c = true

inductive Path (E : Nat → Nat → Prop) (T : Nat → Int → Prop) : Nat → List Int → Nat → Prop
  | one {i : Nat} {c : Int} : T i c → Path E T i [c] i
  | cons {i k j : Nat} {c : Int} {w : List Int} : T i c → E i k → Path E T k w j → Path E T i (c :: w) j

section
variable {E E' : Nat → Nat → Prop} {T T' : Nat → Int → Prop}
theorem Path.ne {i j : Nat} {w : List Int} (h : Path E T i w j) : w ≠ [] := by cases h <;> simp
theorem Path.mono (hE : ∀ i j, E i j → E' i j) (hT : ∀ i c, T i c → T' i c) {i j : Nat} {w : List Int} (h : Path E T i w j) : Path E' T' i w j := by
  induction h with
  | one t => exact .one (hT _ _ t)
  | cons t e _ ih => exact .cons (hT _ _ t) (hE _ _ e) ih
theorem Path.app {i l f j : Nat} {u v : List Int} (h : Path E T i u l) (e : E l f) (k : Path E T f v j) : Path E T i (u ++ v) j := by
  induction h with
  | one t => exact .cons t e k
  | cons t e' _ ih => exact .cons t e' (ih e)
theorem Path.cut {L F : Nat → Prop} (hE : ∀ i j, E' i j → E i j ∨ (L i ∧ F j)) {i j : Nat} {w : List Int} (h : Path E' T i w j) :
    Path E T i w j ∨ ∃ u v l f, w = u ++ v ∧ Path E T i u l ∧ L l ∧ F f ∧ Path E' T f v j := by
  induction h with
  | one t => exact .inl (.one t)
  | @cons i k j c w t e hk ih =>
    rcases hE _ _ e with e | ⟨hl, hf⟩
    · rcases ih with p | ⟨u, v, l, f, rfl, p, hl, hf, q⟩
      · exact .inl (.cons t e p)
      · exact .inr ⟨c :: u, v, l, f, rfl, .cons t e p, hl, hf, q⟩
    · exact .inr ⟨[c], w, i, k, rfl, .one t, hl, hf, hk⟩
theorem Path.stay {S : Nat → Prop} (hE : ∀ i j, S i → E i j → E' i j ∧ S j) (hT : ∀ i c, S i → T i c → T' i c) {i j : Nat} {w : List Int} (h : Path E T i w j) (hi : S i) : Path E' T' i w j ∧ S j := by
  induction h with
  | one t => exact ⟨.one (hT _ _ hi t), hi⟩
  | cons t e _ ih =>
    have := hE _ _ hi e
    have q := ih this.2
    exact ⟨.cons (hT _ _ hi t) this.1 q.1, q.2⟩
end

theorem followF_get (these next : Nat) : ∀ (A : List Atm) (k i : Nat), (followF these next k A)[i]? = (A[i]?).map fun a => if these.testBit (k + i) then { a with next := a.next ||| next } else a
  | [], k, i => by simp [followF]
  | a :: t, k, 0 => by simp [followF]
  | a :: t, k, i + 1 => by
    simp only [followF, List.getElem?_cons_succ]
    rw [followF_get these next t (k + 1) i, show k + 1 + i = k + (i + 1) by omega]
theorem followF_len (these next : Nat) : ∀ (A : List Atm) (k : Nat), (followF these next k A).length = A.length
  | [], k => rfl
  | a :: t, k => by simp [followF, followF_len these next t (k + 1)]
theorem followP_len (these next : Nat) (A : List Atm) : (followP these next A).length = A.length := followF_len _ _ _ _
theorem followP_get (these next : Nat) (A : List Atm) (i : Nat) : (followP these next A)[i]? = (A[i]?).map fun a => if these.testBit i then { a with next := a.next ||| next } else a := by
  rw [followP, followF_get, Nat.zero_add]
theorem Ed_follow {these next : Nat} {A : List Atm} {i j : Nat} : Ed (followP these next A) i j ↔ Ed A i j ∨ (i < A.length ∧ these.testBit i = true ∧ next.testBit j = true) := by
  unfold Ed
  rw [followP_get]
  constructor
  · rintro ⟨a, ha, hj⟩
    cases hA : A[i]? with
    | none => rw [hA] at ha; cases ha
    | some b =>
      rw [hA] at ha
      simp only [Option.map_some, Option.some.injEq] at ha
      subst ha
      by_cases ht : these.testBit i = true
      · simp only [ht, if_true, Nat.testBit_or, Bool.or_eq_true] at hj
        rcases hj with hj | hj
        · exact .inl ⟨b, rfl, hj⟩
        · exact .inr ⟨(List.getElem?_eq_some_iff.mp hA).1, ht, hj⟩
      · rw [if_neg ht] at hj
        exact .inl ⟨b, rfl, hj⟩
  · rintro (⟨a, ha, hj⟩ | ⟨hi, ht, hj⟩)
    · rw [ha]
      refine ⟨_, rfl, ?_⟩
      by_cases ht : these.testBit i = true
      · simp [ht, Nat.testBit_or, hj]
      · simp [ht, hj]
    · rw [List.getElem?_eq_getElem hi]
      refine ⟨_, rfl, ?_⟩
      simp [ht, Nat.testBit_or, hj]
theorem Tk_follow {these next : Nat} {A : List Atm} {i : Nat} {c : Int} : Tk (followP these next A) i c ↔ Tk A i c := by
  unfold Tk
  rw [followP_get]
  cases hA : A[i]? with
  | none => simp
  | some b => by_cases ht : these.testBit i = true <;> simp [ht]
theorem Ed.lt {A : List Atm} {i j : Nat} (h : Ed A i j) : i < A.length := by obtain ⟨a, ha, _⟩ := h; exact (List.getElem?_eq_some_iff.mp ha).1
theorem Tk.lt {A : List Atm} {i : Nat} {c : Int} (h : Tk A i c) : i < A.length := by obtain ⟨a, ha, _⟩ := h; exact (List.getElem?_eq_some_iff.mp ha).1

structure Gl (r : Re) (m : Nat) (A : List Atm) (p : Prt) : Prop where
  le : m ≤ A.length
  first : ∀ i, p.first.testBit i = true → m ≤ i ∧ i < A.length
  last : ∀ i, p.last.testBit i = true → m ≤ i ∧ i < A.length
  closed : ∀ i j, m ≤ i → Ed A i j → m ≤ j ∧ j < A.length
  lang : ∀ w, w ≠ [] → (Mt r w ↔ ∃ i j, p.first.testBit i = true ∧ p.last.testBit j = true ∧ Path (Ed A) (Tk A) i w j)
  nil : Mt r [] ↔ p.empty = true
def Same (n : Nat) (A B : List Atm) : Prop := ∀ i, i < n → B[i]? = A[i]?
theorem Same.ed {n : Nat} {A B : List Atm} (h : Same n A B) {i j : Nat} (hi : i < n) : Ed B i j ↔ Ed A i j := by unfold Ed; rw [h i hi]
theorem Same.tk {n : Nat} {A B : List Atm} (h : Same n A B) {i : Nat} {c : Int} (hi : i < n) : Tk B i c ↔ Tk A i c := by unfold Tk; rw [h i hi]
theorem Same.follow {n : Nat} {A B : List Atm} (h : Same n A B) {these next : Nat} (ht : ∀ i, these.testBit i = true → n ≤ i) : Same n A (followP these next B) := by
  intro i hi
  rw [followP_get, h i hi]
  have hf : ¬ these.testBit i = true := fun hb => by have := ht i hb; omega
  cases A[i]? with
  | none => rfl
  | some a => simp [hf]
theorem Same.trans {n m : Nat} {A B C : List Atm} (h : Same n A B) (k : Same m B C) (hm : n ≤ m) : Same n A C := fun i hi => (k i (by omega)).trans (h i hi)

theorem Star.one {M : List Int → Prop} {w : List Int} (h : M w) : Star M w := by have := Star.cons h Star.nil; rwa [List.append_nil] at this
theorem Star.app {M : List Int → Prop} {u v : List Int} (h : Star M u) (k : Star M v) : Star M (u ++ v) := by
  induction h with
  | nil => exact k
  | cons a _ ih => rw [List.append_assoc]; exact .cons a ih
theorem Star.first {M : List Int → Prop} {w : List Int} (h : Star M w) : w = [] ∨ ∃ u v, w = u ++ v ∧ M u ∧ Star M v := by
  cases h with
  | nil => exact .inl rfl
  | cons a b => exact .inr ⟨_, _, rfl, a, b⟩
theorem none_bit (i : Nat) : ¬ (0 : Nat).testBit i = true := by simp
theorem bit_if (c : Bool) (x y i : Nat) : (if c then x ||| y else x).testBit i = true ↔ x.testBit i = true ∨ (c = true ∧ y.testBit i = true) := by
  cases c <;> simp [Nat.testBit_or]

theorem Gl.loop {a : Re} {m : Nat} {A : List Atm} {p : Prt} (h : Gl a m A p) {w : List Int} (hw : w ≠ []) :
    Star (Mt a) w ↔ ∃ i j, p.first.testBit i = true ∧ p.last.testBit j = true ∧ Path (Ed (followP p.last p.first A)) (Tk (followP p.last p.first A)) i w j := by
  have hmono : ∀ {i w j}, Path (Ed A) (Tk A) i w j → Path (Ed (followP p.last p.first A)) (Tk (followP p.last p.first A)) i w j := fun q => q.mono (fun i j e => Ed_follow.mpr (.inl e)) (fun i c t => Tk_follow.mpr t)
  constructor
  · intro hs
    induction hs with
    | nil => exact absurd rfl hw
    | @cons u v hu hv ih =>
      by_cases h0 : u = []
      · subst h0; exact ih hw
      · obtain ⟨i, l, hi, hl, q⟩ := (h.lang u h0).mp hu
        by_cases h1 : v = []
        · subst h1; rw [List.append_nil]; exact ⟨i, l, hi, hl, hmono q⟩
        · obtain ⟨f, j, hf, hj, q2⟩ := ih h1
          exact ⟨i, j, hi, hj, (hmono q).app (Ed_follow.mpr (.inr ⟨(h.last l hl).2, hl, hf⟩)) q2⟩
  · rintro ⟨i, j, hi, hj, q⟩
    have key : ∀ (n : Nat) (w : List Int) (i : Nat), w.length ≤ n → p.first.testBit i = true → Path (Ed (followP p.last p.first A)) (Tk (followP p.last p.first A)) i w j → Star (Mt a) w := by
      intro n
      induction n with
      | zero => intro w i hn _ q; exact absurd (List.eq_nil_of_length_eq_zero (by omega)) q.ne
      | succ n ih =>
        intro w i hn hi q
        have q' : Path (Ed (followP p.last p.first A)) (Tk A) i w j := q.mono (fun _ _ e => e) (fun _ _ t => Tk_follow.mp t)
        rcases q'.cut (E := Ed A) (L := fun i => p.last.testBit i = true) (F := fun j => p.first.testBit j = true) (fun i j e => (Ed_follow.mp e).imp id fun e => e.2) with q' | ⟨u, v, l, f, rfl, q1, hl, hf, q2⟩
        · exact Star.one ((h.lang w q'.ne).mpr ⟨i, j, hi, hj, q'⟩)
        · refine .cons ((h.lang u q1.ne).mpr ⟨i, l, hi, hl, q1⟩) (ih v f ?_ hf (q2.mono (fun _ _ e => e) (fun _ _ t => Tk_follow.mpr t)))
          have : 0 < u.length := List.length_pos_iff.mpr q1.ne
          simp at hn; omega
    exact key w.length w i (Nat.le_refl _) hi q

theorem Gl.loop_closed {a : Re} {m : Nat} {A : List Atm} {p : Prt} (h : Gl a m A p) (i j : Nat) (hi : m ≤ i) (e : Ed (followP p.last p.first A) i j) : m ≤ j ∧ j < (followP p.last p.first A).length := by
  rw [followP_len]
  rcases Ed_follow.mp e with e | ⟨_, _, hj⟩
  · exact h.closed i j hi e
  · exact h.first j hj

theorem comp_gl : ∀ (r : Re) (A : List Atm), Gl r A.length (compP r A).2 (compP r A).1 ∧ Same A.length A (compP r A).2
  | .none, A => by
    refine ⟨⟨Nat.le_refl _, fun i h => absurd h (none_bit i), fun i h => absurd h (none_bit i), fun i j hi e => ?_, fun w hw => ?_, by simp [Mt, compP]⟩, fun i _ => rfl⟩
    · have := e.lt; simp only [compP] at this; omega
    · simp only [Mt, compP]
      exact ⟨fun h => absurd h hw, fun ⟨i, j, h, _⟩ => absurd h (none_bit i)⟩
  | .set l neg, A => by
    have hlast : ∀ i, (2 ^ A.length).testBit i = true → i = A.length := fun i h => by rw [Nat.testBit_two_pow] at h; simpa using Eq.symm (of_decide_eq_true h)
    have hget : (A ++ [(⟨l, neg, 0⟩ : Atm)])[A.length]? = some ⟨l, neg, 0⟩ := by simp
    refine ⟨⟨by simp [compP, addP], fun i h => ?_, fun i h => ?_, fun i j hi e => ?_, fun w hw => ?_, ?_⟩, fun i hi => ?_⟩
    · have := hlast i h; simp [compP, addP, this]
    · have := hlast i h; simp [compP, addP, this]
    · have hlt := e.lt
      simp [compP, addP] at hlt
      have : i = A.length := by omega
      subst this
      obtain ⟨a, ha, hj⟩ := e
      simp only [compP, addP] at ha
      rw [hget] at ha; injection ha with ha; subst ha
      exact absurd hj (none_bit j)
    · simp only [Mt, compP, addP]
      constructor
      · rintro ⟨c, rfl, hc⟩
        exact ⟨A.length, A.length, by simp [Nat.testBit_two_pow_self], by simp [Nat.testBit_two_pow_self], .one ⟨_, hget, hc⟩⟩
      · rintro ⟨i, j, hi, hj, q⟩
        have hi' := hlast i hi; subst hi'
        cases q with
        | one t =>
          obtain ⟨a, ha, hc⟩ := t
          rw [hget] at ha; injection ha with ha; subst ha
          exact ⟨_, rfl, hc⟩
        | cons t e _ =>
          obtain ⟨a, ha, hj⟩ := e
          rw [hget] at ha; injection ha with ha; subst ha
          exact absurd hj (none_bit _)
    · simp [Mt, compP, addP]
    · simp only [compP, addP]
      rw [List.getElem?_append_left hi]
  | .cat a b, A => by
    obtain ⟨ga, sa⟩ := comp_gl a A
    obtain ⟨gb, sb⟩ := comp_gl b (compP a A).2
    simp only [compP]
    generalize (compP a A).2 = A1 at ga sa gb sb ⊢
    generalize (compP a A).1 = pa at ga ⊢
    generalize (compP b A1).2 = A2 at gb sb ⊢
    generalize (compP b A1).1 = pb at gb ⊢
    have l1 := ga.le; have l2 := gb.le
    have e3 : ∀ i j, Ed (followP pa.last pb.first A2) i j ↔ Ed A2 i j ∨ (i < A2.length ∧ pa.last.testBit i = true ∧ pb.first.testBit j = true) := fun i j => Ed_follow
    have up1 : ∀ {i w j}, Path (Ed A1) (Tk A1) i w j → Path (Ed A2) (Tk A2) i w j := fun q => q.mono (fun i j e => (sb.ed e.lt).mpr e) (fun i c t => (sb.tk t.lt).mpr t)
    have up2 : ∀ {i w j}, Path (Ed A2) (Tk A2) i w j → Path (Ed (followP pa.last pb.first A2)) (Tk (followP pa.last pb.first A2)) i w j := fun q => q.mono (fun i j e => (e3 i j).mpr (.inl e)) (fun i c t => Tk_follow.mpr t)
    have down1 : ∀ {i w j}, Path (Ed A2) (Tk A2) i w j → A.length ≤ i → i < A1.length → Path (Ed A1) (Tk A1) i w j ∧ A.length ≤ j ∧ j < A1.length := fun q h1 h2 =>
      q.stay (S := fun i => A.length ≤ i ∧ i < A1.length) (fun i j hs e => ⟨(sb.ed hs.2).mp e, ga.closed i j hs.1 ((sb.ed hs.2).mp e)⟩) (fun i c hs t => (sb.tk hs.2).mp t) ⟨h1, h2⟩
    have stay2 : ∀ {i w j}, Path (Ed A2) (Tk A2) i w j → A1.length ≤ i → A1.length ≤ j := fun q h1 =>
      (q.stay (E' := Ed A2) (T' := Tk A2) (S := fun i => A1.length ≤ i) (fun i j hs e => ⟨e, (gb.closed i j hs e).1⟩) (fun i c hs t => t) h1).2
    have stay3 : ∀ {i w j}, Path (Ed (followP pa.last pb.first A2)) (Tk A2) i w j → A1.length ≤ i → Path (Ed A2) (Tk A2) i w j ∧ A1.length ≤ j := fun q h1 =>
      q.stay (S := fun i => A1.length ≤ i) (fun i j hs e => by
        rcases (e3 i j).mp e with e | ⟨_, hl, _⟩
        · exact ⟨e, (gb.closed i j hs e).1⟩
        · have := (ga.last i hl).2; omega) (fun i c hs t => t) h1
    have hf : ∀ i, (joinP pa pb).first.testBit i = true ↔ pa.first.testBit i = true ∨ (pa.empty = true ∧ pb.first.testBit i = true) := fun i => bit_if _ _ _ _
    have hl : ∀ i, (joinP pa pb).last.testBit i = true ↔ pb.last.testBit i = true ∨ (pb.empty = true ∧ pa.last.testBit i = true) := fun i => bit_if _ _ _ _
    refine ⟨⟨by rw [followP_len]; omega, fun i h => ?_, fun i h => ?_, fun i j hi e => ?_, fun w hw => ?_, ?_⟩, ?_⟩
    · rw [followP_len]
      rcases (hf i).mp h with h | ⟨_, h⟩
      · have := ga.first i h; omega
      · have := gb.first i h; omega
    · rw [followP_len]
      rcases (hl i).mp h with h | ⟨_, h⟩
      · have := gb.last i h; omega
      · have := ga.last i h; omega
    · rw [followP_len]
      rcases (e3 i j).mp e with e | ⟨_, _, h⟩
      · by_cases hi1 : i < A1.length
        · have := ga.closed i j hi ((sb.ed hi1).mp e); omega
        · have := gb.closed i j (by omega) e; omega
      · have := gb.first j h; omega
    · simp only [Mt]
      constructor
      · rintro ⟨u, v, rfl, hu, hv⟩
        by_cases h0 : u = []
        · subst h0
          rw [List.nil_append] at hw ⊢
          obtain ⟨i, j, hi, hj, q⟩ := (gb.lang v hw).mp hv
          exact ⟨i, j, (hf i).mpr (.inr ⟨ga.nil.mp hu, hi⟩), (hl j).mpr (.inl hj), up2 q⟩
        · obtain ⟨i, l, hi, hl1, q⟩ := (ga.lang u h0).mp hu
          by_cases h1 : v = []
          · subst h1
            rw [List.append_nil]
            exact ⟨i, l, (hf i).mpr (.inl hi), (hl l).mpr (.inr ⟨gb.nil.mp hv, hl1⟩), up2 (up1 q)⟩
          · obtain ⟨f, j, hf1, hj, q2⟩ := (gb.lang v h1).mp hv
            refine ⟨i, j, (hf i).mpr (.inl hi), (hl j).mpr (.inl hj), (up2 (up1 q)).app ((e3 l f).mpr (.inr ⟨?_, hl1, hf1⟩)) (up2 q2)⟩
            have := ga.last l hl1; omega
      · rintro ⟨i, j, hi, hj, q⟩
        have q' : Path (Ed (followP pa.last pb.first A2)) (Tk A2) i w j := q.mono (fun _ _ e => e) (fun _ _ t => Tk_follow.mp t)
        rcases q'.cut (E := Ed A2) (L := fun i => pa.last.testBit i = true) (F := fun j => pb.first.testBit j = true) (fun i j e => ((e3 i j).mp e).imp id fun e => e.2) with q1 | ⟨u, v, l, f, rfl, q1, hl1, hf1, q2⟩
        · rcases (hf i).mp hi with hi | ⟨he, hi⟩
          · have hb := ga.first i hi
            obtain ⟨q0, hj0, hj1⟩ := down1 q1 hb.1 hb.2
            rcases (hl j).mp hj with hj | ⟨he, hj⟩
            · have := gb.last j hj; omega
            · exact ⟨w, [], by simp, (ga.lang w hw).mpr ⟨i, j, hi, hj, q0⟩, gb.nil.mpr he⟩
          · have hb := gb.first i hi
            have hj1 := stay2 q1 hb.1
            rcases (hl j).mp hj with hj | ⟨_, hj⟩
            · exact ⟨[], w, by simp, ga.nil.mpr he, (gb.lang w hw).mpr ⟨i, j, hi, hj, q1⟩⟩
            · have := ga.last j hj; omega
        · have hlb := ga.last l hl1
          have hfb := gb.first f hf1
          obtain ⟨q3, hj1⟩ := stay3 q2 hfb.1
          have hj' : pb.last.testBit j = true := by
            rcases (hl j).mp hj with hj | ⟨_, hj⟩
            · exact hj
            · have := ga.last j hj; omega
          rcases (hf i).mp hi with hi | ⟨_, hi⟩
          · have hb := ga.first i hi
            obtain ⟨q0, _, _⟩ := down1 q1 hb.1 hb.2
            exact ⟨u, v, rfl, (ga.lang u q1.ne).mpr ⟨i, l, hi, hl1, q0⟩, (gb.lang v q3.ne).mpr ⟨f, j, hf1, hj', q3⟩⟩
          · have hb := gb.first i hi
            have := stay2 q1 hb.1; omega
    · simp only [Mt, joinP, Bool.and_eq_true]
      rw [← ga.nil, ← gb.nil]
      constructor
      · rintro ⟨u, v, e, hu, hv⟩
        have := List.append_eq_nil_iff.mp e.symm
        rw [this.1] at hu; rw [this.2] at hv
        exact ⟨hu, hv⟩
      · rintro ⟨hu, hv⟩; exact ⟨[], [], rfl, hu, hv⟩
    · exact (sa.trans sb l1).follow fun i h => (ga.last i h).1
  | .alt a b, A => by
    obtain ⟨ga, sa⟩ := comp_gl a A
    obtain ⟨gb, sb⟩ := comp_gl b (compP a A).2
    simp only [compP]
    generalize (compP a A).2 = A1 at ga sa gb sb ⊢
    generalize (compP a A).1 = pa at ga ⊢
    generalize (compP b A1).2 = A2 at gb sb ⊢
    generalize (compP b A1).1 = pb at gb ⊢
    have l1 := ga.le; have l2 := gb.le
    have up1 : ∀ {i w j}, Path (Ed A1) (Tk A1) i w j → Path (Ed A2) (Tk A2) i w j := fun q => q.mono (fun i j e => (sb.ed e.lt).mpr e) (fun i c t => (sb.tk t.lt).mpr t)
    have down1 : ∀ {i w j}, Path (Ed A2) (Tk A2) i w j → A.length ≤ i → i < A1.length → Path (Ed A1) (Tk A1) i w j ∧ A.length ≤ j ∧ j < A1.length := fun q h1 h2 =>
      q.stay (S := fun i => A.length ≤ i ∧ i < A1.length) (fun i j hs e => ⟨(sb.ed hs.2).mp e, ga.closed i j hs.1 ((sb.ed hs.2).mp e)⟩) (fun i c hs t => (sb.tk hs.2).mp t) ⟨h1, h2⟩
    have stay2 : ∀ {i w j}, Path (Ed A2) (Tk A2) i w j → A1.length ≤ i → A1.length ≤ j := fun q h1 =>
      (q.stay (E' := Ed A2) (T' := Tk A2) (S := fun i => A1.length ≤ i) (fun i j hs e => ⟨e, (gb.closed i j hs e).1⟩) (fun i c hs t => t) h1).2
    have hf : ∀ i, (eitherP pa pb).first.testBit i = true ↔ pa.first.testBit i = true ∨ pb.first.testBit i = true := fun i => by simp [eitherP, Nat.testBit_or]
    have hl : ∀ i, (eitherP pa pb).last.testBit i = true ↔ pa.last.testBit i = true ∨ pb.last.testBit i = true := fun i => by simp [eitherP, Nat.testBit_or]
    refine ⟨⟨by omega, fun i h => ?_, fun i h => ?_, fun i j hi e => ?_, fun w hw => ?_, ?_⟩, sa.trans sb l1⟩
    · rcases (hf i).mp h with h | h
      · have := ga.first i h; omega
      · have := gb.first i h; omega
    · rcases (hl i).mp h with h | h
      · have := ga.last i h; omega
      · have := gb.last i h; omega
    · by_cases hi1 : i < A1.length
      · have := ga.closed i j hi ((sb.ed hi1).mp e); omega
      · have := gb.closed i j (by omega) e; omega
    · simp only [Mt]
      rw [ga.lang w hw, gb.lang w hw]
      constructor
      · rintro (⟨i, j, hi, hj, q⟩ | ⟨i, j, hi, hj, q⟩)
        · exact ⟨i, j, (hf i).mpr (.inl hi), (hl j).mpr (.inl hj), up1 q⟩
        · exact ⟨i, j, (hf i).mpr (.inr hi), (hl j).mpr (.inr hj), q⟩
      · rintro ⟨i, j, hi, hj, q⟩
        rcases (hf i).mp hi with hi | hi
        · have hb := ga.first i hi
          obtain ⟨q0, h0, h1⟩ := down1 q hb.1 hb.2
          rcases (hl j).mp hj with hj | hj
          · exact .inl ⟨i, j, hi, hj, q0⟩
          · have := gb.last j hj; omega
        · have hb := gb.first i hi
          have h1 := stay2 q hb.1
          rcases (hl j).mp hj with hj | hj
          · have := ga.last j hj; omega
          · exact .inr ⟨i, j, hi, hj, q⟩
    · simp only [Mt, eitherP, Bool.or_eq_true]
      rw [ga.nil, gb.nil]
  | .star a, A => by
    obtain ⟨ga, sa⟩ := comp_gl a A
    simp only [compP]
    generalize (compP a A).2 = A1 at ga sa ⊢
    generalize (compP a A).1 = pa at ga ⊢
    refine ⟨⟨by rw [followP_len]; exact ga.le, fun i h => by rw [followP_len]; exact ga.first i h, fun i h => by rw [followP_len]; exact ga.last i h, ga.loop_closed, fun w hw => ?_, ?_⟩, sa.follow fun i h => (ga.last i h).1⟩
    · simp only [Mt]; exact ga.loop hw
    · simp only [Mt]; exact ⟨fun _ => trivial, fun _ => .nil⟩
  | .plus a, A => by
    obtain ⟨ga, sa⟩ := comp_gl a A
    simp only [compP]
    generalize (compP a A).2 = A1 at ga sa ⊢
    generalize (compP a A).1 = pa at ga ⊢
    refine ⟨⟨by rw [followP_len]; exact ga.le, fun i h => by rw [followP_len]; exact ga.first i h, fun i h => by rw [followP_len]; exact ga.last i h, ga.loop_closed, fun w hw => ?_, ?_⟩, sa.follow fun i h => (ga.last i h).1⟩
    · simp only [Mt]
      rw [← ga.loop hw]
      constructor
      · rintro ⟨u, v, rfl, hu, hv⟩; exact .cons hu hv
      · intro h
        rcases h.first with h | ⟨u, v, e, hu, hv⟩
        · exact absurd h hw
        · exact ⟨u, v, e, hu, hv⟩
    · simp only [Mt]
      rw [← ga.nil]
      constructor
      · rintro ⟨u, v, e, hu, _⟩
        have := List.append_eq_nil_iff.mp e.symm
        rw [this.1] at hu; exact hu
      · intro h; exact ⟨[], [], rfl, h, .nil⟩
  | .may a, A => by
    obtain ⟨ga, sa⟩ := comp_gl a A
    simp only [compP]
    generalize (compP a A).2 = A1 at ga sa ⊢
    generalize (compP a A).1 = pa at ga ⊢
    refine ⟨⟨ga.le, ga.first, ga.last, ga.closed, fun w hw => ?_, ?_⟩, sa⟩
    · simp only [Mt]
      rw [ga.lang w hw]
      exact ⟨fun h => h.resolve_left hw, .inr⟩
    · simp [Mt]

/-! ### gone through at once -/
theorem stepF_spec (next last : Nat) (c : Int) : ∀ (L : List Atm) (i : Nat) (r : Nat × Bool),
    (∀ k, (stepF next last c i L r).1.testBit k = true ↔ r.1.testBit k = true ∨ ∃ d a, L[d]? = some a ∧ next.testBit (i + d) = true ∧ takesP a.sp a.neg c = true ∧ a.next.testBit k = true) ∧
    ((stepF next last c i L r).2 = true ↔ r.2 = true ∨ ∃ d a, L[d]? = some a ∧ next.testBit (i + d) = true ∧ takesP a.sp a.neg c = true ∧ last.testBit (i + d) = true)
  | [], i, r => by simp [stepF]
  | a :: t, i, r => by
    have ih := stepF_spec next last c t (i + 1)
    have shift : ∀ (P : Nat → Atm → Prop), (∃ d b, (a :: t)[d]? = some b ∧ P d b) ↔ P 0 a ∨ ∃ d b, t[d]? = some b ∧ P (d + 1) b := by
      intro P
      constructor
      · rintro ⟨d, b, hd, hp⟩
        cases d with
        | zero => simp at hd; subst hd; exact .inl hp
        | succ d => exact .inr ⟨d, b, by simpa using hd, hp⟩
      · rintro (h | ⟨d, b, hd, hp⟩)
        · exact ⟨0, a, rfl, h⟩
        · exact ⟨d + 1, b, by simpa using hd, hp⟩
    have e : ∀ d, i + 1 + d = i + (d + 1) := fun d => by omega
    simp only [stepF]
    refine ⟨fun k => ?_, ?_⟩
    · rw [(ih _).1 k, shift (fun d b => next.testBit (i + d) = true ∧ takesP b.sp b.neg c = true ∧ b.next.testBit k = true)]
      simp only [e, Nat.add_zero]
      cases hc : (next.testBit i && takesP a.sp a.neg c) with
      | true =>
        simp only [Bool.and_eq_true] at hc
        simp only [if_true, Nat.testBit_or, Bool.or_eq_true, hc, true_and, or_assoc]
      | false =>
        have : ¬ (next.testBit i = true ∧ takesP a.sp a.neg c = true ∧ a.next.testBit k = true) := fun h => by simp [h.1, h.2.1] at hc
        simp only [Bool.false_eq_true, if_false, this, false_or]
    · rw [(ih _).2, shift (fun d b => next.testBit (i + d) = true ∧ takesP b.sp b.neg c = true ∧ last.testBit (i + d) = true)]
      simp only [e, Nat.add_zero]
      cases hc : (next.testBit i && takesP a.sp a.neg c) with
      | true =>
        simp only [Bool.and_eq_true] at hc
        simp only [if_true, Bool.or_eq_true, hc, true_and, or_assoc]
      | false =>
        have : ¬ (next.testBit i = true ∧ takesP a.sp a.neg c = true ∧ last.testBit i = true) := fun h => by simp [h.1, h.2.1] at hc
        simp only [Bool.false_eq_true, if_false, this, false_or]
end
section
set_option linter.unusedVariables false
set_option linter.unusedSimpArgs false
section
def Ec (f : Flt) : Prop := f.2 = 8 ∨ f.2 = 60
theorem rescP_ec {least : Int} {l : List Pc} {f : Flt} (e : rescP least l = .error f) : Ec f := by
  unfold rescP at e
  split at e
  · split at e
    · cases e
    · injection e with e; subst e; exact .inl rfl
  · injection e with e; subst e; exact .inl rfl
theorem singleP_ec {least : Int} {l : List Pc} {f : Flt} (e : singleP least l = .error f) : Ec f := by
  unfold singleP at e
  split at e
  · exact rescP_ec e
  · split at e
    · cases e
    · injection e with e; subst e; exact .inl rfl
theorem memberP_ec {l : List Pc} {f : Flt} (e : memberP l = .error f) : Ec f := by
  unfold memberP at e
  split at e
  · cases e
  · split at e
    · rename_i h; injection e with e; subst e; exact singleP_ec h
    · split at e
      · split at e
        · rename_i h; injection e with e; subst e; exact singleP_ec h
        · cases e
      · cases e
theorem membersP_ec : ∀ (n : Nat) (acc : Spans) (l : List Pc), OkL l → l.length ≤ n → ∀ {f : Flt}, membersP n acc l = .error f → Ec f
  | 0, acc, l, ho, hl, f, e => absurd (List.eq_nil_of_length_eq_zero (by omega)) ho.ne
  | n + 1, acc, l, ho, hl, f, e => by
    unfold membersP at e
    split at e
    · cases e
    · split at e
      · rename_i h; injection e with e; subst e; exact memberP_ec h
      · rename_i m l1 h
        have hs := memberP_shr ho h
        exact membersP_ec n _ l1 hs.le.ok (by have := hs.lt; omega) e
theorem classP_ec {l : List Pc} (h : OkL l) (hn : nowP l ≠ -1) {f : Flt} (e : classP l = .error f) : Ec f := by
  unfold classP at e
  simp only at e
  have ho : OkL (if decide (nowP l.tail = 94) = true then l.tail.tail else l.tail) := by
    split
    · rename_i h94
      exact (h.tail hn).tail (by rw [of_decide_eq_true h94]; decide)
    · exact h.tail hn
  split at e
  · rename_i hm; injection e with e; subst e; exact memberP_ec hm
  · rename_i m l2 hm
    have hs := memberP_shr ho hm
    split at e
    · rename_i hms; injection e with e; subst e; exact membersP_ec _ _ _ hs.le.ok (Nat.le_refl _) hms
    · cases e
theorem escapeP_ec {l : List Pc} {f : Flt} (e : escapeP l = .error f) : Ec f := by
  unfold escapeP at e
  split at e
  · cases e
  · split at e
    · rename_i h; injection e with e; subst e; exact rescP_ec h
    · cases e
def GrpEc (grp : List Pc → Rs Re) : Prop := ∀ (l : List Pc), OkL l → nowP l = 40 → ∀ {f : Flt}, grp l = .error f → Ec f
theorem atomP_ec {grp : List Pc → Rs Re} (hg : GrpEc grp) {l : List Pc} (h : OkL l) {f : Flt} (e : atomP grp l = .error f) : Ec f := by
  unfold atomP at e
  split at e
  · rename_i h1; exact hg l h h1 e
  · split at e
    · rename_i h1; exact classP_ec h (by rw [h1]; decide) e
    · split at e
      · exact escapeP_ec e
      · split at e
        · cases e
        · split at e
          · cases e
          · injection e with e; subst e; exact .inl rfl
theorem pieceP_ec {grp : List Pc → Rs Re} (hg : GrpEc grp) {l : List Pc} (h : OkL l) {f : Flt} (e : pieceP grp l = .error f) : Ec f := by
  unfold pieceP at e
  split at e
  · rename_i h1; injection e with e; subst e; exact atomP_ec hg h h1
  · split at e
    · cases e
    · cases e
theorem branchP_ec {grp : List Pc → Rs Re} (hg : GrpEc grp) (hk : GrpOk grp) : ∀ (n : Nat) (acc : Re) (l : List Pc), OkL l → l.length ≤ n → ∀ {f : Flt}, branchP grp n acc l = .error f → Ec f
  | 0, acc, l, ho, hl, f, e => absurd (List.eq_nil_of_length_eq_zero (by omega)) ho.ne
  | n + 1, acc, l, ho, hl, f, e => by
    unfold branchP at e
    split at e
    · cases e
    · split at e
      · rename_i h; injection e with e; subst e; exact pieceP_ec hg ho h
      · rename_i m l1 h
        have hs := pieceP_shr hk ho h
        exact branchP_ec hg hk n _ l1 hs.le.ok (by have := hs.lt; omega) e
theorem altsP_ec {grp : List Pc → Rs Re} (hg : GrpEc grp) (hk : GrpOk grp) : ∀ (n : Nat) (acc : Re) (l : List Pc), OkL l → l.length ≤ n → ∀ {f : Flt}, altsP grp n acc l = .error f → Ec f
  | 0, acc, l, ho, hl, f, e => absurd (List.eq_nil_of_length_eq_zero (by omega)) ho.ne
  | n + 1, acc, l, ho, hl, f, e => by
    unfold altsP at e
    split at e
    · rename_i h124
      have ht := ho.tail (by rw [h124]; decide)
      split at e
      · rename_i h; injection e with e; subst e; exact branchP_ec hg hk _ _ _ ht (Nat.le_refl _) h
      · rename_i b l1 h
        have hs := (branchP_less hk _ _ _ ht h).1
        have := hs.len
        have := tail_lt ho
        exact altsP_ec hg hk n _ l1 hs.ok (by omega) e
    · cases e
theorem patP_ec {grp : List Pc → Rs Re} (hg : GrpEc grp) (hk : GrpOk grp) {l : List Pc} (h : OkL l) {f : Flt} (e : patP grp l = .error f) : Ec f := by
  unfold patP at e
  split at e
  · rename_i hb; injection e with e; subst e; exact branchP_ec hg hk _ _ _ h (Nat.le_refl _) hb
  · rename_i b l1 hb
    exact altsP_ec hg hk _ _ _ (branchP_less hk _ _ _ h hb).1.ok (Nat.le_refl _) e
theorem grpP_ec : ∀ (d : Nat), GrpEc (grpP d)
  | 0 => fun l _ _ f e => by unfold grpP at e; injection e with e; subst e; exact .inr rfl
  | d + 1 => fun l h h40 f e => by
    unfold grpP at e
    split at e
    · rename_i hp; injection e with e; subst e; exact patP_ec (grpP_ec d) (grpP_ok d) (h.tail (by rw [h40]; decide)) hp
    · split at e
      · cases e
      · injection e with e; subst e; exact .inl rfl
theorem wholeP_ec {l : List Pc} (h : OkL l) {f : Flt} (e : wholeP l = .error f) : Ec f := by
  unfold wholeP at e
  split at e
  · rename_i hp; injection e with e; subst e; exact patP_ec (grpP_ec 20) (grpP_ok 20) h hp
  · split at e
    · cases e
    · injection e with e; subst e; exact .inl rfl
end
section
set_option linter.unusedVariables false
set_option linter.unusedSimpArgs false
abbrev bAt (l : List Bool) (k : Nat) : Bool := l.getD k false
def orL (a b : List Bool) : List Bool := List.zipWith (fun x y => x || y) a b
def freshL (next out : List Bool) : List Bool := List.zipWith (fun n o => n && !o) next out
def rounds (step : List Bool → List Bool) (once : Bool) : Nat → List Bool → List Bool → List Bool
  | 0, out, _ => out
  | n + 1, out, now => if once || !((freshL (step now) out).any id) then orL out (freshL (step now) out) else rounds step once n (orL out (freshL (step now) out)) (freshL (step now) out)
def setL' (sp : Spans) (neg : Bool) (w : List Int) (f : List Bool) : List Bool := false :: List.zipWith (fun c b => b && takesP sp neg c) w f
def endsR : Re → List Int → List Bool → List Bool
  | .set sp neg, w, f => setL' sp neg w f
  | .none, _, f => f
  | .cat a b, w, f => endsR b w (endsR a w f)
  | .alt a b, w, f => orL (endsR a w f) (endsR b w f)
  | .star a, w, f => rounds (endsR a w) false (f.length + 1) f f
  | .plus a, w, f => rounds (endsR a w) false (f.length + 1) (List.replicate f.length false) f
  | .may a, w, f => rounds (endsR a w) true (f.length + 1) f f
/-- The part of a text between two places. -/
def seg (w : List Int) (j k : Nat) : List Int := (w.drop j).take (k - j)
def Sg (M : List Int → Prop) (w : List Int) (j k : Nat) : Prop := j ≤ k ∧ k ≤ w.length ∧ M (seg w j k)
theorem seg_self (w : List Int) (j : Nat) : seg w j j = [] := by simp [seg]
theorem seg_len {w : List Int} {j k : Nat} (h : j ≤ k) (h2 : k ≤ w.length) : (seg w j k).length = k - j := by simp [seg]; omega
theorem seg_app {w : List Int} {j m k : Nat} (h : j ≤ m) (h2 : m ≤ k) : seg w j m ++ seg w m k = seg w j k := by
  unfold seg
  rw [show k - j = (m - j) + (k - m) by omega, List.take_add, List.drop_drop, show j + (m - j) = m by omega]
theorem seg_split {w u v : List Int} {j k : Nat} (h : j ≤ k) (h2 : k ≤ w.length) (e : seg w j k = u ++ v) : j + u.length ≤ k ∧ u = seg w j (j + u.length) ∧ v = seg w (j + u.length) k := by
  have hl := congrArg List.length e
  rw [seg_len h h2, List.length_append] at hl
  have h3 : j + u.length ≤ k := by omega
  have e2 := e
  rw [← seg_app (w := w) (show j ≤ j + u.length by omega) h3] at e2
  have := List.append_inj e2 (by rw [seg_len (by omega) (by omega)]; omega)
  exact ⟨h3, this.1.symm, this.2.symm⟩
theorem Sg.none {w : List Int} {j k : Nat} : Sg (fun x => x = []) w j k ↔ j = k ∧ k ≤ w.length := by
  constructor
  · rintro ⟨h1, h2, h3⟩
    have := congrArg List.length h3
    rw [seg_len h1 h2] at this
    simp at this
    exact ⟨by omega, h2⟩
  · rintro ⟨rfl, h⟩; exact ⟨Nat.le_refl _, h, seg_self w j⟩
theorem Sg.cat {A B : List Int → Prop} {w : List Int} {j k : Nat} : Sg (fun x => ∃ u v, x = u ++ v ∧ A u ∧ B v) w j k ↔ ∃ m, Sg A w j m ∧ Sg B w m k := by
  constructor
  · rintro ⟨h1, h2, u, v, e, hu, hv⟩
    obtain ⟨h3, e1, e2⟩ := seg_split h1 h2 e
    exact ⟨j + u.length, ⟨by omega, by omega, e1 ▸ hu⟩, ⟨h3, h2, e2 ▸ hv⟩⟩
  · rintro ⟨m, ⟨h1, h2, h3⟩, ⟨h4, h5, h6⟩⟩
    exact ⟨by omega, h5, _, _, (seg_app h1 h4).symm, h3, h6⟩
/-- By steps of A from place to place. -/
inductive Rch (A : Nat → Nat → Prop) : Nat → Nat → Prop
  | refl (j : Nat) : Rch A j j
  | step {j m k : Nat} : A j m → Rch A m k → Rch A j k
theorem star_rch {A : List Int → Prop} {w x : List Int} (h : Star A x) : ∀ {j k : Nat}, j ≤ k → k ≤ w.length → seg w j k = x → Rch (Sg A w) j k := by
  induction h with
  | nil =>
    intro j k h1 h2 e
    have := congrArg List.length e
    rw [seg_len h1 h2] at this
    simp at this
    obtain rfl : j = k := by omega
    exact .refl _
  | cons hu _ ih =>
    intro j k h1 h2 e
    obtain ⟨h3, e1, e2⟩ := seg_split h1 h2 e
    exact .step ⟨by omega, by omega, e1 ▸ hu⟩ (ih h3 h2 e2.symm)
theorem rch_star {A : List Int → Prop} {w : List Int} {j k : Nat} (h : Rch (Sg A w) j k) : j ≤ w.length → Sg (Star A) w j k := by
  induction h with
  | refl j => intro hj; exact ⟨Nat.le_refl _, hj, by rw [seg_self]; exact .nil⟩
  | step h1 _ ih =>
    intro hj
    obtain ⟨h2, h3, h4⟩ := h1
    obtain ⟨h5, h6, h7⟩ := ih h3
    exact ⟨by omega, h6, by rw [← seg_app h2 h5]; exact .cons h4 h7⟩
theorem Sg.star {A : List Int → Prop} {w : List Int} {j k : Nat} (hj : j ≤ w.length) : Sg (Star A) w j k ↔ Rch (Sg A w) j k :=
  ⟨fun ⟨h1, h2, h3⟩ => star_rch h3 h1 h2 rfl, fun h => rch_star h hj⟩
theorem Rch.snoc {A : Nat → Nat → Prop} {j m k : Nat} (h : Rch A j m) (h2 : A m k) : Rch A j k := by
  induction h with
  | refl => exact .step h2 (.refl _)
  | step h3 _ ih => exact .step h3 (ih h2)
def cnt (l : List Bool) : Nat := l.countP id
end
end
end
end Go.Proofs.YtjgappbomohlcaaGreatDoor
