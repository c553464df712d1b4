/-
  Patterns, plainly: what a text of places is as a tree, or where it breaks; what a tree matches; the automaton of a tree's atoms.
-/
import Derived.WalkKit
import Derived.Handy
import Derived.Test.YtfohmepjedehfabRows
namespace Go.Proofs.Ytfohmepjedehfab
set_option linter.unusedVariables false
set_option linter.unusedSimpArgs false

abbrev Spans := List (Int × Int)
/-- A rune, and at which byte it stands; -1: the end, -2: a byte that belongs to none. -/
abbrev Pc := Nat × Int
abbrev Flt := Nat × Nat

inductive Re
  | none
  | set (l : Spans) (neg : Bool)
  | cat (a b : Re)
  | alt (a b : Re)
  | star (a : Re)
  | plus (a : Re)
  | may (a : Re)
deriving DecidableEq, Inhabited

inductive Star (M : List Int → Prop) : List Int → Prop
  | nil : Star M []
  | cons {u v : List Int} : M u → Star M v → Star M (u ++ v)

def inSpans (l : Spans) (c : Int) : Bool := l.any fun s => decide (s.1 ≤ c) && decide (c ≤ s.2)
def takesP (l : Spans) (neg : Bool) (c : Int) : Bool := if inSpans l c then !neg else neg

def Mt : Re → List Int → Prop
  | .none, w => w = []
  | .set l neg, w => ∃ c, w = [c] ∧ takesP l neg c = true
  | .cat a b, w => ∃ u v, w = u ++ v ∧ Mt a u ∧ Mt b v
  | .alt a b, w => Mt a w ∨ Mt b w
  | .star a, w => Star (Mt a) w
  | .plus a, w => ∃ u v, w = u ++ v ∧ Mt a u ∧ Star (Mt a) v
  | .may a, w => w = [] ∨ Mt a w

/-! ### reading -/
def errFormN : Nat := 8
def errDeepN : Nat := 60
def specialP (c : Int) : Bool := c == 46 || c == 42 || c == 43 || c == 63 || c == 40 || c == 41 || c == 91 || c == 93 || c == 123 || c == 125 || c == 124 || c == 94 || c == 36 || c == 92
def manyP (c : Int) : Option Spans :=
  if c = 100 then some [(48, 57)] else if c = 119 then some [(48, 57), (65, 90), (97, 122), (95, 95)] else if c = 115 then some [(32, 32), (9, 10)] else Option.none
def nowP : List Pc → Int
  | [] => -1
  | p :: _ => p.2
def atP : List Pc → Nat
  | [] => 0
  | p :: _ => p.1
abbrev Rs (α : Type) := Except Flt (α × List Pc)

def rescP (least : Int) (l : List Pc) : Rs Int :=
  if least ≤ 125 then
    (if decide (least ≤ nowP l.tail) && (specialP (nowP l.tail) || nowP l.tail == 45 || nowP l.tail == 47) then .ok (nowP l.tail, l.tail.tail) else .error (atP l.tail, errFormN))
  else .error (atP l, errFormN)
def outsideP (c : Int) : Bool := c == 91 || c == 93 || c == 94 || c == 45
def singleP (least : Int) (l : List Pc) : Rs Int :=
  if nowP l = 92 then rescP least l
  else if decide (least ≤ nowP l) && !outsideP (nowP l) then .ok (nowP l, l.tail) else .error (atP l, errFormN)
def manyL (l : List Pc) : Option Spans := if nowP l = 92 then manyP (nowP l.tail) else Option.none
def memberP (l : List Pc) : Rs Spans :=
  match manyL l with
  | some g => .ok (g, l.tail.tail)
  | Option.none =>
    match singleP 0 l with
    | .error f => .error f
    | .ok (lo, l1) =>
      if nowP l1 = 45 then
        match singleP lo l1.tail with
        | .error f => .error f
        | .ok (hi, l2) => .ok ([(lo, hi)], l2)
      else .ok ([(lo, lo)], l1)
def membersP : Nat → Spans → List Pc → Rs Spans
  | 0, _, _ => .error (0, 0)
  | n + 1, acc, l =>
    if nowP l = 93 then .ok (acc, l)
    else match memberP l with
      | .error f => .error f
      | .ok (m, l1) => membersP n (acc ++ m) l1
def classP (l : List Pc) : Rs Re :=
  let neg := decide (nowP l.tail = 94)
  let l1 := if neg then l.tail.tail else l.tail
  match memberP l1 with
  | .error f => .error f
  | .ok (m, l2) =>
    match membersP l2.length m l2 with
    | .error f => .error f
    | .ok (m, l3) => .ok (.set m neg, l3.tail)
def escapeP (l : List Pc) : Rs Re :=
  match manyL l with
  | some g => .ok (.set g false, l.tail.tail)
  | Option.none =>
    match rescP 0 l with
    | .error f => .error f
    | .ok (c, l1) => .ok (.set [(c, c)] false, l1)
def atomP (grp : List Pc → Rs Re) (l : List Pc) : Rs Re :=
  if nowP l = 40 then grp l
  else if nowP l = 91 then classP l
  else if nowP l = 92 then escapeP l
  else if nowP l = 46 then .ok (.set [] true, l.tail)
  else if decide (0 ≤ nowP l) && !specialP (nowP l) then .ok (.set [(nowP l, nowP l)] false, l.tail)
  else .error (atP l, errFormN)
def timesP (c : Int) (a : Re) : Option Re := if c = 42 then some (.star a) else if c = 43 then some (.plus a) else if c = 63 then some (.may a) else Option.none
def pieceP (grp : List Pc → Rs Re) (l : List Pc) : Rs Re :=
  match atomP grp l with
  | .error f => .error f
  | .ok (a, l1) =>
    match timesP (nowP l1) a with
    | some b => .ok (b, l1.tail)
    | Option.none => .ok (a, l1)
def stopP (c : Int) : Bool := c == 124 || c == 41 || c == -1
def branchP (grp : List Pc → Rs Re) : Nat → Re → List Pc → Rs Re
  | 0, _, _ => .error (0, 0)
  | n + 1, acc, l =>
    if stopP (nowP l) then .ok (acc, l)
    else match pieceP grp l with
      | .error f => .error f
      | .ok (a, l1) => branchP grp n (.cat acc a) l1
def altsP (grp : List Pc → Rs Re) : Nat → Re → List Pc → Rs Re
  | 0, _, _ => .error (0, 0)
  | n + 1, acc, l =>
    if nowP l = 124 then
      match branchP grp l.tail.length .none l.tail with
      | .error f => .error f
      | .ok (b, l1) => altsP grp n (.alt acc b) l1
    else .ok (acc, l)
def patP (grp : List Pc → Rs Re) (l : List Pc) : Rs Re :=
  match branchP grp l.length .none l with
  | .error f => .error f
  | .ok (b, l1) => altsP grp l1.length b l1
def grpP : Nat → List Pc → Rs Re
  | 0, l => .error (atP l, errDeepN)
  | d + 1, l =>
    match patP (grpP d) l.tail with
    | .error f => .error f
    | .ok (r, l1) => if nowP l1 = 41 then .ok (r, l1.tail) else .error (atP l1, errFormN)
def wholeP (l : List Pc) : Except Flt Re :=
  match patP (grpP 20) l with
  | .error f => .error f
  | .ok (r, l1) => if nowP l1 = -1 then .ok r else .error (atP l1, errFormN)

/-! ### what is left is a part of what was there -/
/-- A text's places: the end is the last one, and nowhere else. -/
def OkL : List Pc → Prop
  | [] => False
  | p :: t => if p.2 = -1 then t = [] else OkL t
theorem OkL.ne {l : List Pc} (h : OkL l) : l ≠ [] := by rintro rfl; exact h
theorem OkL.tail {l : List Pc} (h : OkL l) (hn : nowP l ≠ -1) : OkL l.tail := by
  cases l with
  | nil => exact absurd rfl hn
  | cons p t => simp only [OkL] at h; rw [if_neg (show ¬ p.2 = -1 from hn)] at h; exact h
theorem tail_lt {l : List Pc} (h : OkL l) : l.tail.length < l.length := by
  cases l with
  | nil => exact h.elim
  | cons p t => simp
/-- l' is l without some of its first places, and has its end. -/
structure Less (l l' : List Pc) : Prop where
  ok : OkL l'
  suf : l' <:+ l
structure Shr (l l' : List Pc) : Prop where
  ok : OkL l'
  suf : l' <:+ l
  lt : l'.length < l.length
theorem Shr.le {l l' : List Pc} (h : Shr l l') : Less l l' := ⟨h.ok, h.suf⟩
theorem Less.refl {l : List Pc} (h : OkL l) : Less l l := ⟨h, List.suffix_refl _⟩
theorem Less.len {l l' : List Pc} (h : Less l l') : l'.length ≤ l.length := h.suf.length_le
theorem Less.trans {a b c : List Pc} (h : Less a b) (k : Less b c) : Less a c := ⟨k.ok, k.suf.trans h.suf⟩
theorem Shr.trans {a b c : List Pc} (h : Less a b) (k : Shr b c) : Shr a c := ⟨k.ok, k.suf.trans h.suf, by have := h.len; have := k.lt; omega⟩
theorem Shr.then {a b c : List Pc} (h : Shr a b) (k : Less b c) : Shr a c := ⟨k.ok, k.suf.trans h.suf, by have := k.len; have := h.lt; omega⟩
theorem Shr.tail {l : List Pc} (h : OkL l) (hn : nowP l ≠ -1) : Shr l l.tail := ⟨h.tail hn, List.tail_suffix _, tail_lt h⟩

theorem rescP_shr {least : Int} {l : List Pc} (h : OkL l) (hn : nowP l ≠ -1) {c : Int} {l1 : List Pc} (e : rescP least l = .ok (c, l1)) : Shr l l1 ∧ nowP l.tail ≠ -1 := by
  unfold rescP at e
  split at e
  · split at e
    · rename_i hc
      have hn1 : nowP l.tail ≠ -1 := by
        intro hm; rw [hm] at hc; simp [specialP] at hc
      injection e with e; injection e with _ e; subst e
      exact ⟨(Shr.tail h hn).trans (Less.refl h) |>.then (Shr.tail (h.tail hn) hn1).le, hn1⟩
    · cases e
  · cases e
theorem singleP_shr {least : Int} {l : List Pc} (h : OkL l) (hl : 0 ≤ least) {c : Int} {l1 : List Pc} (e : singleP least l = .ok (c, l1)) : Shr l l1 ∧ nowP l ≠ -1 ∧ least ≤ c := by
  unfold singleP at e
  split at e
  · rename_i h92
    have hn : nowP l ≠ -1 := by rw [h92]; decide
    refine ⟨(rescP_shr h hn e).1, hn, ?_⟩
    unfold rescP at e
    split at e
    · split at e
      · rename_i hc
        injection e with e; injection e with e _; subst e
        simp at hc; exact hc.1
      · cases e
    · cases e
  · split at e
    · rename_i hc
      simp at hc
      injection e with e; injection e with e1 e2; subst e2; subst e1
      have hn : nowP l ≠ -1 := by omega
      exact ⟨Shr.tail h hn, hn, hc.1⟩
    · cases e
theorem manyL_some {l : List Pc} (h : OkL l) {g : Spans} (e : manyL l = some g) : Shr l l.tail.tail ∧ nowP l = 92 ∧ nowP l.tail ≠ -1 := by
  unfold manyL at e
  split at e
  · rename_i h92
    have hn : nowP l ≠ -1 := by rw [h92]; decide
    have hn1 : nowP l.tail ≠ -1 := by intro hm; rw [hm] at e; simp [manyP] at e
    exact ⟨(Shr.tail h hn).then (Shr.tail (h.tail hn) hn1).le, h92, hn1⟩
  · cases e
theorem memberP_shr {l : List Pc} (h : OkL l) {m : Spans} {l1 : List Pc} (e : memberP l = .ok (m, l1)) : Shr l l1 := by
  unfold memberP at e
  split at e
  · rename_i g hg
    injection e with e; injection e with _ e; subst e
    exact (manyL_some h hg).1
  · split at e
    · cases e
    · rename_i lo l2 hs
      have s1 := singleP_shr h (by decide) hs
      split at e
      · rename_i h45
        split at e
        · cases e
        · rename_i hi l3 hs2
          injection e with e; injection e with _ e; subst e
          have hn : nowP l2 ≠ -1 := by rw [h45]; decide
          exact s1.1.then ((Shr.tail s1.1.ok hn).le.trans (singleP_shr (s1.1.ok.tail hn) s1.2.2 hs2).1.le)
      · injection e with e; injection e with _ e; subst e
        exact s1.1
theorem membersP_less : ∀ (n : Nat) (acc : Spans) (l : List Pc), OkL l → ∀ {m : Spans} {l1 : List Pc}, membersP n acc l = .ok (m, l1) → Less l l1 ∧ nowP l1 = 93
  | 0, _, _, _, _, _, e => by cases e
  | n + 1, acc, l, h, m, l1, e => by
    unfold membersP at e
    split at e
    · rename_i h93
      injection e with e; injection e with _ e; subst e
      exact ⟨Less.refl h, h93⟩
    · split at e
      · cases e
      · rename_i m1 l2 hm
        have := membersP_less n _ _ (memberP_shr h hm).ok e
        exact ⟨(memberP_shr h hm).le.trans this.1, this.2⟩
theorem classP_shr {l : List Pc} (h : OkL l) (hn : nowP l ≠ -1) {r : Re} {l1 : List Pc} (e : classP l = .ok (r, l1)) : Shr l l1 := by
  unfold classP at e
  simp only at e
  have hq : OkL (if decide (nowP l.tail = 94) = true then l.tail.tail else l.tail) ∧ Less l (if decide (nowP l.tail = 94) = true then l.tail.tail else l.tail) := by
    have h1 := Shr.tail h hn
    split
    · rename_i h94
      simp at h94
      have h2 := Shr.tail h1.ok (by rw [h94]; decide)
      exact ⟨h2.ok, h1.le.trans h2.le⟩
    · exact ⟨h1.ok, h1.le⟩
  revert e hq
  generalize (if decide (nowP l.tail = 94) = true then l.tail.tail else l.tail) = lq
  intro e hq
  split at e
  · cases e
  · rename_i m l2 hm
    split at e
    · cases e
    · rename_i m' l3 hms
      injection e with e; injection e with _ e; subst e
      have a := memberP_shr hq.1 hm
      have b := membersP_less _ _ _ a.ok hms
      exact (Shr.trans hq.2 a).then (b.1.trans (Shr.tail b.1.ok (by rw [b.2]; decide)).le)
theorem escapeP_shr {l : List Pc} (h : OkL l) (hn : nowP l ≠ -1) {r : Re} {l1 : List Pc} (e : escapeP l = .ok (r, l1)) : Shr l l1 := by
  unfold escapeP at e
  split at e
  · rename_i g hg
    injection e with e; injection e with _ e; subst e
    exact (manyL_some h hg).1
  · split at e
    · cases e
    · rename_i c l2 hc
      injection e with e; injection e with _ e; subst e
      exact (rescP_shr h hn hc).1
def GrpOk (grp : List Pc → Rs Re) : Prop := ∀ (l : List Pc), OkL l → nowP l = 40 → ∀ {r : Re} {l1 : List Pc}, grp l = .ok (r, l1) → Shr l l1
theorem atomP_shr {grp : List Pc → Rs Re} (hg : GrpOk grp) {l : List Pc} (h : OkL l) {r : Re} {l1 : List Pc} (e : atomP grp l = .ok (r, l1)) : Shr l l1 ∧ nowP l ≠ -1 := by
  unfold atomP at e
  split at e
  · rename_i h40; exact ⟨hg l h h40 e, by rw [h40]; decide⟩
  · split at e
    · rename_i hc; have hn : nowP l ≠ -1 := by rw [hc]; decide
      exact ⟨classP_shr h hn e, hn⟩
    · split at e
      · rename_i hc; have hn : nowP l ≠ -1 := by rw [hc]; decide
        exact ⟨escapeP_shr h hn e, hn⟩
      · split at e
        · rename_i hc; have hn : nowP l ≠ -1 := by rw [hc]; decide
          injection e with e; injection e with _ e; subst e
          exact ⟨Shr.tail h hn, hn⟩
        · split at e
          · rename_i hc
            simp at hc
            have hn : nowP l ≠ -1 := by omega
            injection e with e; injection e with _ e; subst e
            exact ⟨Shr.tail h hn, hn⟩
          · cases e
theorem timesP_some {c : Int} {a b : Re} (e : timesP c a = some b) : c ≠ -1 := by
  rintro rfl; simp [timesP] at e
theorem pieceP_shr {grp : List Pc → Rs Re} (hg : GrpOk grp) {l : List Pc} (h : OkL l) {r : Re} {l1 : List Pc} (e : pieceP grp l = .ok (r, l1)) : Shr l l1 := by
  unfold pieceP at e
  split at e
  · cases e
  · rename_i a l2 ha
    have s := atomP_shr hg h ha
    split at e
    · rename_i b hb
      injection e with e; injection e with _ e; subst e
      exact s.1.then (Shr.tail s.1.ok (timesP_some hb)).le
    · injection e with e; injection e with _ e; subst e
      exact s.1
theorem branchP_less {grp : List Pc → Rs Re} (hg : GrpOk grp) : ∀ (n : Nat) (acc : Re) (l : List Pc), OkL l → ∀ {r : Re} {l1 : List Pc}, branchP grp n acc l = .ok (r, l1) → Less l l1 ∧ stopP (nowP l1) = true
  | 0, _, _, _, _, _, e => by cases e
  | n + 1, acc, l, h, r, l1, e => by
    unfold branchP at e
    split at e
    · rename_i hs
      injection e with e; injection e with _ e; subst e
      exact ⟨Less.refl h, hs⟩
    · split at e
      · cases e
      · rename_i a l2 ha
        have s := pieceP_shr hg h ha
        have b := branchP_less hg n _ _ s.ok e
        exact ⟨s.le.trans b.1, b.2⟩
theorem altsP_less {grp : List Pc → Rs Re} (hg : GrpOk grp) : ∀ (n : Nat) (acc : Re) (l : List Pc), OkL l → ∀ {r : Re} {l1 : List Pc}, altsP grp n acc l = .ok (r, l1) → Less l l1 ∧ nowP l1 ≠ 124
  | 0, _, _, _, _, _, e => by cases e
  | n + 1, acc, l, h, r, l1, e => by
    unfold altsP at e
    split at e
    · rename_i h124
      split at e
      · cases e
      · rename_i b l2 hb
        have hn : nowP l ≠ -1 := by rw [h124]; decide
        have s := branchP_less hg _ _ _ (h.tail hn) hb
        have b := altsP_less hg n _ _ s.1.ok e
        exact ⟨(Shr.tail h hn).le.trans (s.1.trans b.1), b.2⟩
    · rename_i h124
      injection e with e; injection e with _ e; subst e
      exact ⟨Less.refl h, h124⟩
theorem patP_less {grp : List Pc → Rs Re} (hg : GrpOk grp) {l : List Pc} (h : OkL l) {r : Re} {l1 : List Pc} (e : patP grp l = .ok (r, l1)) : Less l l1 ∧ nowP l1 ≠ 124 := by
  unfold patP at e
  split at e
  · cases e
  · rename_i b l2 hb
    have s := branchP_less hg _ _ _ h hb
    have a := altsP_less hg _ _ _ s.1.ok e
    exact ⟨s.1.trans a.1, a.2⟩
theorem grpP_ok : ∀ (d : Nat), GrpOk (grpP d)
  | 0 => fun _ _ _ _ _ e => by cases e
  | d + 1 => fun l h h40 r l1 e => by
    unfold grpP at e
    have hn : nowP l ≠ -1 := by rw [h40]; decide
    split at e
    · cases e
    · rename_i r' l2 hp
      have s := patP_less (grpP_ok d) (h.tail hn) hp
      split at e
      · rename_i h41
        injection e with e; injection e with _ e; subst e
        exact (Shr.tail h hn).then (s.1.trans (Shr.tail s.1.ok (by rw [h41]; decide)).le)
      · cases e

/-! ### more steps than places make no difference -/
theorem membersP_fuel : ∀ (n : Nat) (acc : Spans) (l : List Pc), OkL l → l.length ≤ n → membersP n acc l = membersP l.length acc l
  | 0, _, l, h, hn => by cases l with | nil => exact h.elim | cons p t => simp at hn
  | n + 1, acc, l, h, hn => by
    cases hl : l.length with
    | zero => exact absurd (List.eq_nil_of_length_eq_zero hl) h.ne
    | succ k =>
      simp only [membersP]
      split
      · rfl
      · split
        · rfl
        · rename_i m l1 hm
          have s := memberP_shr h hm
          have := s.lt
          rw [membersP_fuel n _ _ s.ok (by omega), membersP_fuel k _ _ s.ok (by omega)]
theorem branchP_fuel {grp : List Pc → Rs Re} (hg : GrpOk grp) : ∀ (n : Nat) (acc : Re) (l : List Pc), OkL l → l.length ≤ n → branchP grp n acc l = branchP grp l.length acc l
  | 0, _, l, h, hn => by cases l with | nil => exact h.elim | cons p t => simp at hn
  | n + 1, acc, l, h, hn => by
    cases hl : l.length with
    | zero => exact absurd (List.eq_nil_of_length_eq_zero hl) h.ne
    | succ k =>
      simp only [branchP]
      split
      · rfl
      · split
        · rfl
        · rename_i m l1 hm
          have s := pieceP_shr hg h hm
          have := s.lt
          rw [branchP_fuel hg n _ _ s.ok (by omega), branchP_fuel hg k _ _ s.ok (by omega)]
theorem altsP_fuel {grp : List Pc → Rs Re} (hg : GrpOk grp) : ∀ (n : Nat) (acc : Re) (l : List Pc), OkL l → l.length ≤ n → altsP grp n acc l = altsP grp l.length acc l
  | 0, _, l, h, hn => by cases l with | nil => exact h.elim | cons p t => simp at hn
  | n + 1, acc, l, h, hn => by
    cases hl : l.length with
    | zero => exact absurd (List.eq_nil_of_length_eq_zero hl) h.ne
    | succ k =>
      simp only [altsP]
      split
      · rename_i h124
        have hx : nowP l ≠ -1 := by rw [h124]; decide
        split
        · rfl
        · rename_i b l1 hb
          have s := branchP_less hg _ _ _ (h.tail hx) hb
          have := s.1.len
          have := tail_lt h
          rw [altsP_fuel hg n _ _ s.1.ok (by omega), altsP_fuel hg k _ _ s.1.ok (by omega)]
      · rfl
theorem members_step (acc : Spans) {l : List Pc} (h : OkL l) : membersP l.length acc l = if nowP l = 93 then .ok (acc, l) else match memberP l with | .error f => .error f | .ok (m, l1) => membersP l1.length (acc ++ m) l1 := by
  cases hl : l.length with
  | zero => exact absurd (List.eq_nil_of_length_eq_zero hl) h.ne
  | succ k =>
    simp only [membersP]
    split
    · rfl
    · split
      · rfl
      · rename_i m l1 hm
        have s := memberP_shr h hm
        have := s.lt
        rw [membersP_fuel k _ _ s.ok (by omega)]
theorem branch_step {grp : List Pc → Rs Re} (hg : GrpOk grp) (acc : Re) {l : List Pc} (h : OkL l) : branchP grp l.length acc l = if stopP (nowP l) then .ok (acc, l) else match pieceP grp l with | .error f => .error f | .ok (a, l1) => branchP grp l1.length (.cat acc a) l1 := by
  cases hl : l.length with
  | zero => exact absurd (List.eq_nil_of_length_eq_zero hl) h.ne
  | succ k =>
    simp only [branchP]
    split
    · rfl
    · split
      · rfl
      · rename_i m l1 hm
        have s := pieceP_shr hg h hm
        have := s.lt
        rw [branchP_fuel hg k _ _ s.ok (by omega)]
theorem alts_step {grp : List Pc → Rs Re} (hg : GrpOk grp) (acc : Re) {l : List Pc} (h : OkL l) : altsP grp l.length acc l = if nowP l = 124 then (match branchP grp l.tail.length .none l.tail with | .error f => .error f | .ok (b, l1) => altsP grp l1.length (.alt acc b) l1) else .ok (acc, l) := by
  cases hl : l.length with
  | zero => exact absurd (List.eq_nil_of_length_eq_zero hl) h.ne
  | succ k =>
    simp only [altsP]
    split
    · rename_i h124
      have hx : nowP l ≠ -1 := by rw [h124]; decide
      split
      · rfl
      · rename_i b l1 hb
        have s := branchP_less hg _ _ _ (h.tail hx) hb
        have := s.1.len
        have := tail_lt h
        rw [altsP_fuel hg k _ _ s.1.ok (by omega)]
    · rfl

/-! ### the automaton -/
structure Atm where
  sp : Spans
  neg : Bool
  next : Nat
deriving DecidableEq, Inhabited
structure Prt where
  first : Nat
  last : Nat
  empty : Bool
deriving DecidableEq, Inhabited
def followF (these next : Nat) : Nat → List Atm → List Atm
  | _, [] => []
  | i, a :: t => (if these.testBit i then { a with next := a.next ||| next } else a) :: followF these next (i + 1) t
def followP (these next : Nat) (A : List Atm) : List Atm := followF these next 0 A
def joinP (a b : Prt) : Prt := ⟨if a.empty then a.first ||| b.first else a.first, if b.empty then b.last ||| a.last else b.last, a.empty && b.empty⟩
def eitherP (a b : Prt) : Prt := ⟨a.first ||| b.first, a.last ||| b.last, a.empty || b.empty⟩
def addP (sp : Spans) (neg : Bool) (A : List Atm) : Prt × List Atm := (⟨2 ^ A.length, 2 ^ A.length, false⟩, A ++ [⟨sp, neg, 0⟩])
def compP : Re → List Atm → Prt × List Atm
  | .none, A => (⟨0, 0, true⟩, A)
  | .set l neg, A => addP l neg A
  | .cat a b, A =>
    let x := compP a A
    let y := compP b x.2
    (joinP x.1 y.1, followP x.1.last y.1.first y.2)
  | .alt a b, A =>
    let x := compP a A
    let y := compP b x.2
    (eitherP x.1 y.1, y.2)
  | .star a, A => let x := compP a A; ({ x.1 with empty := true }, followP x.1.last x.1.first x.2)
  | .plus a, A => let x := compP a A; (x.1, followP x.1.last x.1.first x.2)
  | .may a, A => let x := compP a A; ({ x.1 with empty := true }, x.2)
def stepF (next last : Nat) (c : Int) : Nat → List Atm → Nat × Bool → Nat × Bool
  | _, [], r => r
  | i, a :: t, r => stepF next last c (i + 1) t (if next.testBit i && takesP a.sp a.neg c then (r.1 ||| a.next, r.2 || last.testBit i) else r)
def matchF (A : List Atm) (last : Nat) : List Int → Nat → Bool → Bool
  | [], _, ends => ends
  | c :: t, next, _ => if next = 0 then false else matchF A last t (stepF next last c 0 A (0, false)).1 (stepF next last c 0 A (0, false)).2
def matchP (p : Prt) (A : List Atm) (w : List Int) : Bool := matchF A p.last w p.first p.empty
end Go.Proofs.Ytfohmepjedehfab
