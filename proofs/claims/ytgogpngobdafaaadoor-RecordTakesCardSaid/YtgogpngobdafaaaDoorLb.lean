/-
  Labels, plainly: texts as lists of bytes, names, values, what is wrong with labels, labels as they are right, parts, an order. Nothing here speaks of the program.
  Texts of labels, plainly: texts between quotes, labels as a text, the labels of a text. Nothing here speaks of the program.
  There and back, plainly: a text between quotes, right labels by their text and by Make. Nothing here speaks of the program.
  Labels parted and with another value, plainly: parts of right labels are right, what is set is got. Nothing here speaks of the program.
  UTF-8, plainly: how many bytes the rune has that bytes begin with, or none, as the document's answer counts them; and that a text is valid as the library says just if all its runes are there. Nothing here speaks of the program.
-/
import Derived.Lib.ValidLaws
import Derived.Lib.Bytealg
import Derived.Sort.LotA
namespace Go.Proofs.YtgogpngobdafaaaDoor
set_option linter.unusedVariables false
set_option linter.unusedSimpArgs false
section
set_option linter.unusedVariables false
set_option linter.unusedSimpArgs false

abbrev Bs := List UInt8
def mkB (l : Bs) : ByteArray := ⟨l.toArray⟩
def bl (s : ByteArray) : Bs := s.data.toList
theorem bl_mk (l : Bs) : bl (mkB l) = l := by simp [bl, mkB]
theorem mk_bl (s : ByteArray) : mkB (bl s) = s := by cases s; simp [bl, mkB]
theorem bl_len (s : ByteArray) : (bl s).length = s.size := by cases s; simp [bl, ByteArray.size]
theorem bl_inj {a b : ByteArray} (h : bl a = bl b) : a = b := by rw [← mk_bl a, h, mk_bl]
theorem bl_inj_iff {a b : ByteArray} : bl a = bl b ↔ a = b := ⟨bl_inj, fun h => by rw [h]⟩
theorem toList_bl (s : ByteArray) : s.toList = bl s := ByteArray.toList_eq s
theorem mkB_size (l : Bs) : (mkB l).size = l.length := by simp [mkB, ByteArray.size]

/-- The order of texts. -/
theorem ltB_irrefl (a : Bs) : ¬ a < a := by simp
theorem ltB_trans {a b c : Bs} (h : a < b) (k : b < c) : a < c := by
  have := Go.Sort.swo_ltStr.trans a b c (by simpa [Go.Sort.ltStr] using h) (by simpa [Go.Sort.ltStr] using k)
  simpa [Go.Sort.ltStr] using this
theorem ltB_asymm {a b : Bs} (h : a < b) : ¬ b < a := fun k => ltB_irrefl a (ltB_trans h k)
theorem cmpB_spec : ∀ a b : Bs, (Lib.compareBytes a b = -1 ∧ a < b) ∨ (Lib.compareBytes a b = 0 ∧ a = b) ∨ (Lib.compareBytes a b = 1 ∧ b < a)
  | [], [] => .inr (.inl ⟨rfl, rfl⟩)
  | [], _ :: _ => .inl ⟨rfl, by simp⟩
  | _ :: _, [] => .inr (.inr ⟨rfl, by simp⟩)
  | x :: a, y :: b => by
    unfold Lib.compareBytes
    simp only [List.cons_lt_cons_iff]
    by_cases h1 : x < y
    · exact .inl ⟨by rw [if_pos h1], .inl h1⟩
    · by_cases h2 : y < x
      · exact .inr (.inr ⟨by rw [if_neg h1, if_pos h2], .inl h2⟩)
      · rw [if_neg h1, if_neg h2]
        have e : x = y := UInt8.le_antisymm (UInt8.not_lt.1 h2) (UInt8.not_lt.1 h1)
        subst e
        rcases cmpB_spec a b with ⟨e, h⟩ | ⟨e, h⟩ | ⟨e, h⟩
        · exact .inl ⟨e, .inr ⟨rfl, h⟩⟩
        · exact .inr (.inl ⟨e, by rw [h]⟩)
        · exact .inr (.inr ⟨e, .inr ⟨rfl, h⟩⟩)
theorem ltB_total (a b : Bs) : a < b ∨ a = b ∨ b < a := by
  rcases cmpB_spec a b with ⟨_, h⟩ | ⟨_, h⟩ | ⟨_, h⟩
  · exact .inl h
  · exact .inr (.inl h)
  · exact .inr (.inr h)
theorem cmpB_lt {a b : Bs} (h : a < b) : Lib.compareBytes a b = -1 := by
  rcases cmpB_spec a b with ⟨e, _⟩ | ⟨e, h'⟩ | ⟨e, h'⟩
  · exact e
  · subst h'; exact absurd h (ltB_irrefl _)
  · exact absurd h (ltB_asymm h')
theorem cmpB_gt {a b : Bs} (h : b < a) : Lib.compareBytes a b = 1 := by
  rcases cmpB_spec a b with ⟨e, h'⟩ | ⟨e, h'⟩ | ⟨e, h'⟩
  · exact absurd h (ltB_asymm h')
  · subst h'; exact absurd h (ltB_irrefl _)
  · exact e
theorem cmpB_self (a : Bs) : Lib.compareBytes a a = 0 := by
  rcases cmpB_spec a a with ⟨e, h⟩ | ⟨e, h⟩ | ⟨e, h⟩
  · exact absurd h (ltB_irrefl _)
  · exact e
  · exact absurd h (ltB_irrefl _)
theorem cmpB_zero {a b : Bs} : Lib.compareBytes a b = 0 ↔ a = b := by
  constructor
  · intro h
    rcases cmpB_spec a b with ⟨e, _⟩ | ⟨_, h'⟩ | ⟨e, _⟩
    · rw [e] at h; cases h
    · exact h'
    · rw [e] at h; cases h
  · rintro rfl; exact cmpB_self a
theorem cmpB_neg {a b : Bs} : Lib.compareBytes a b < 0 ↔ a < b := by
  rcases cmpB_spec a b with ⟨e, h⟩ | ⟨e, h⟩ | ⟨e, h⟩
  · rw [e]; simp [h]
  · subst h; rw [e]; simp [ltB_irrefl]
  · rw [e]; simp [ltB_asymm h]

/-- A label: a name and a value. -/
abbrev Lb := ByteArray × ByteArray
def letterN (c : Nat) : Bool := c == 95 || (decide (97 ≤ c) && decide (c ≤ 122)) || (decide (65 ≤ c) && decide (c ≤ 90)) || (decide (48 ≤ c) && decide (c ≤ 57))
def digitN (c : Nat) : Bool := decide (48 ≤ c) && decide (c ≤ 57)
def namedP (l : Bs) : Bool := decide (1 ≤ l.length) && decide (l.length ≤ 64) && l.all (fun c => letterN c.toNat) && !digitN (l.headD 0).toNat
def valuedP (l : Bs) : Bool := decide (l.length ≤ 128) && Lib.validD l
def faultP (x : Lb) : Nat := if namedP (bl x.1) = false then 50 else if valuedP (bl x.2) = false then 51 else 0
def rightAt (prev : Option ByteArray) (x : Lb) : Nat :=
  if faultP x ≠ 0 then faultP x else if x.2.size = 0 then 51 else match prev with
    | none => 0
    | some p => if bl p < bl x.1 then 0 else 53
def rightGo : Option ByteArray → List Lb → Nat
  | _, [] => 0
  | p, x :: r => if rightAt p x ≠ 0 then rightAt p x else rightGo (some x.1) r
def rightP (l : List Lb) : Nat := if 16 < l.length then 3 else rightGo none l
def prevAt (l : List Lb) (k : Nat) : Option ByteArray := if k = 0 then none else (l[k - 1]?).map (·.1)
theorem rightGo_step {l : List Lb} {k : Nat} (h : k < l.length) : rightGo (prevAt l k) (l.drop k) = if rightAt (prevAt l k) l[k] ≠ 0 then rightAt (prevAt l k) l[k] else rightGo (prevAt l (k + 1)) (l.drop (k + 1)) := by
  rw [List.drop_eq_getElem_cons h, rightGo]
  have : prevAt l (k + 1) = some l[k].1 := by simp [prevAt, h]
  rw [this]
theorem faultP_le (x : Lb) : faultP x = 0 ∨ faultP x = 50 ∨ faultP x = 51 := by unfold faultP; repeat' split <;> simp

/-- What is wrong first with labels by themselves. -/
def faultsP : List Lb → Nat
  | [] => 0
  | x :: r => if faultP x ≠ 0 then faultP x else faultsP r
def putP (x : Lb) : List Lb → List Lb
  | [] => [x]
  | y :: r => if bl y.1 < bl x.1 then y :: putP x r else x :: y :: r
def sortP : List Lb → List Lb
  | [] => []
  | x :: r => putP x (sortP r)
def fullP (l : List Lb) : List Lb := l.filter fun x => x.2.size != 0
def makeP (l : List Lb) : Nat × List Lb :=
  if faultsP l ≠ 0 then (faultsP l, []) else if ¬ (l.map fun x => bl x.1).Nodup then (52, []) else if 16 < (fullP l).length then (3, []) else (0, sortP (fullP l))
/-- By rising names. -/
def Rising (l : List Lb) : Prop := l.Pairwise fun x y => bl x.1 < bl y.1
theorem putP_perm (x : Lb) : ∀ l, (putP x l).Perm (x :: l)
  | [] => List.Perm.refl _
  | y :: r => by
    unfold putP
    split
    · exact ((putP_perm x r).cons y).trans (List.Perm.swap x y r)
    · exact List.Perm.refl _
theorem sortP_perm : ∀ l, (sortP l).Perm l
  | [] => List.Perm.refl _
  | x :: r => (putP_perm x _).trans ((sortP_perm r).cons x)
theorem putP_rising {x : Lb} : ∀ {l}, Rising l → (∀ y ∈ l, bl y.1 ≠ bl x.1) → Rising (putP x l)
  | [], _, _ => by simp [putP, Rising]
  | y :: r, h, hn => by
    have h' := List.pairwise_cons.1 h
    unfold putP
    split
    · rename_i hlt
      refine List.pairwise_cons.2 ⟨fun z hz => ?_, putP_rising h'.2 fun z hz => hn z (List.mem_cons_of_mem _ hz)⟩
      rcases List.mem_cons.1 ((putP_perm x r).subset hz) with rfl | hz
      · exact hlt
      · exact h'.1 z hz
    · rename_i hlt
      have hxy : bl x.1 < bl y.1 := by
        rcases ltB_total (bl y.1) (bl x.1) with h | h | h
        · exact absurd h hlt
        · exact absurd h (hn y List.mem_cons_self)
        · exact h
      refine List.pairwise_cons.2 ⟨fun z hz => ?_, h⟩
      rcases List.mem_cons.1 hz with rfl | hz
      · exact hxy
      · exact ltB_trans hxy (h'.1 z hz)
theorem sortP_rising : ∀ {l : List Lb}, (l.map fun x => bl x.1).Nodup → Rising (sortP l)
  | [], _ => by simp [sortP, Rising]
  | x :: r, h => by
    rw [List.map_cons, List.nodup_cons] at h
    refine putP_rising (sortP_rising h.2) fun y hy e => h.1 ?_
    rw [← e]
    exact List.mem_map_of_mem ((sortP_perm r).subset hy)
/-- Of the same labels there is one list by rising names. -/
theorem rising_unique : ∀ {l m : List Lb}, l.Perm m → Rising l → Rising m → l = m := by
  intro l m h hl hm
  refine h.eq_of_pairwise (le := fun x y : Lb => bl x.1 < bl y.1) (fun a b _ _ h1 h2 => absurd h1 (ltB_asymm h2)) hl hm
theorem rising_filter {l : List Lb} (p : Lb → Bool) (h : Rising l) : Rising (l.filter p) := List.Pairwise.filter p h
theorem nodup_filter {l : List Lb} (p : Lb → Bool) (h : (l.map fun x => bl x.1).Nodup) : ((l.filter p).map fun x => bl x.1).Nodup :=
  h.sublist (List.filter_sublist.map _)
theorem nodup_perm {l m : List Lb} (h : l.Perm m) : (l.map fun x => bl x.1).Nodup ↔ (m.map fun x => bl x.1).Nodup := (h.map _).nodup_iff
theorem rising_nodup {l : List Lb} (h : Rising l) : (l.map fun x => bl x.1).Nodup := by
  unfold Rising at h
  rw [List.Nodup, List.pairwise_map]
  exact h.imp fun hlt e => by rw [e] at hlt; exact ltB_irrefl _ hlt

/-- What is sorted and has no two names alike beside one another is by rising names. -/
theorem sorted_rising {m : List Lb} (hs : m.Pairwise fun x y => ¬ bl y.1 < bl x.1) (ha : ∀ j, (h : j + 1 < m.length) → bl m[j].1 ≠ bl m[j + 1].1) : Rising m := by
  unfold Rising
  rw [List.pairwise_iff_getElem] at hs ⊢
  intro i j hi hj hij
  have h1 := hs i j hi hj hij
  rcases ltB_total (bl m[i].1) (bl m[j].1) with h | h | h
  · exact h
  · exfalso
    by_cases e : j = i + 1
    · subst e; exact ha i hj h
    · have a1 := hs i (i + 1) hi (by omega) (by omega)
      have a2 := hs (i + 1) j (by omega) hj (by omega)
      rw [← h] at a2
      rcases ltB_total (bl m[i].1) (bl m[i + 1].1) with k | k | k
      · exact a2 k
      · exact ha i (by omega) k
      · exact a1 k
  · exact absurd h h1
theorem twice_not {m : List Lb} {j : Nat} (h : j + 1 < m.length) (e : bl m[j].1 = bl m[j + 1].1) : ¬ (m.map fun x => bl x.1).Nodup := by
  intro hn
  rw [List.Nodup, List.pairwise_iff_getElem] at hn
  have := hn j (j + 1) (by simp; omega) (by simpa using h) (by omega)
  simp at this
  exact this e
theorem make_of {l m : List Lb} (h0 : faultsP l = 0) (hp : m.Perm l) (hr : Rising m) : makeP l = if 16 < (fullP m).length then (3, []) else (0, fullP m) := by
  have hn : (l.map fun x => bl x.1).Nodup := (nodup_perm hp).1 (rising_nodup hr)
  have hf : (fullP m).Perm (fullP l) := hp.filter _
  have he : sortP (fullP l) = fullP m := rising_unique ((sortP_perm _).trans hf.symm) (sortP_rising (nodup_filter _ hn)) (rising_filter _ hr)
  unfold makeP
  rw [if_neg (by omega), if_neg (by simpa using hn), he, hf.length_eq]
theorem make_twice {l m : List Lb} (h0 : faultsP l = 0) (hp : m.Perm l) (hn : ¬ (m.map fun x => bl x.1).Nodup) : makeP l = (52, []) := by
  unfold makeP
  rw [if_neg (by omega), if_pos (fun h => hn ((nodup_perm hp).2 h))]
/-- A name's value; the labels of some names; labels with another value. -/
def getP (l : List Lb) (n : ByteArray) : ByteArray := ((l.find? fun x => decide (x.1 = n)).map (·.2)).getD (mkB [])
def byP (l : List Lb) (ns : List ByteArray) : List Lb := l.filter fun x => decide (bl x.1 ∈ ns.map bl)
def nameLabel : Bs := [95, 95, 110, 97, 109, 101, 95, 95]
def woP (l : List Lb) (ns : List ByteArray) : List Lb := l.filter fun x => !decide (bl x.1 = nameLabel) && !decide (bl x.1 ∈ ns.map bl)
def withP (l : List Lb) (n v : ByteArray) : Nat × List Lb := if rightP l ≠ 0 then (rightP l, []) else makeP (l.filter (fun x => !decide (x.1 = n)) ++ [(n, v)])

/-- Labels held against each other. -/
def compareP : List Lb → List Lb → Int
  | [], [] => 0
  | [], _ :: _ => -1
  | _ :: _, [] => 1
  | x :: a, y :: b => if Lib.compareBytes (bl x.1) (bl y.1) ≠ 0 then Lib.compareBytes (bl x.1) (bl y.1) else if Lib.compareBytes (bl x.2) (bl y.2) ≠ 0 then Lib.compareBytes (bl x.2) (bl y.2) else compareP a b
end
section
set_option linter.unusedVariables false
set_option linter.unusedSimpArgs false

def escP (c : UInt8) : Bs := if c = 10 then [92, 110] else if c = 34 ∨ c = 92 then [92, c] else [c]
def quoteP (s : Bs) : Bs := 34 :: (s.flatMap escP ++ [34])
/-- What a text has up to the second quote: behind acc, n bytes having been taken. -/
def unqGo : Bs → Bs → Nat → Bs × Nat × Nat
  | [], _, _ => ([], 0, 6)
  | c :: r, acc, n =>
    if c = 34 then (acc, n + 1, 0)
    else if c = 10 then ([], 0, 8)
    else if c = 92 then
      match r with
      | [] => ([], 0, 6)
      | d :: r' => if d = 34 ∨ d = 92 then unqGo r' (acc ++ [d]) (n + 2) else if d = 110 then unqGo r' (acc ++ [10]) (n + 2) else ([], 0, 8)
    else unqGo r (acc ++ [c]) (n + 1)
def unqP : Bs → Bs × Nat × Nat
  | [] => ([], 0, 6)
  | c :: r => if c = 34 then unqGo r [] 1 else ([], 0, 8)
theorem unqP_cons (c : UInt8) (r : Bs) : unqP (c :: r) = if c = 34 then unqGo r [] 1 else ([], 0, 8) := rfl
theorem unqGo_end (acc : Bs) (n : Nat) : unqGo [] acc n = ([], 0, 6) := by rw [unqGo.eq_def]
theorem unqGo_quote (r acc : Bs) (n : Nat) : unqGo (34 :: r) acc n = (acc, n + 1, 0) := by rw [unqGo.eq_def]; simp
theorem unqGo_line (r acc : Bs) (n : Nat) : unqGo (10 :: r) acc n = ([], 0, 8) := by rw [unqGo.eq_def]; simp
theorem unqGo_back (acc : Bs) (n : Nat) : unqGo [92] acc n = ([], 0, 6) := by rw [unqGo.eq_def]; simp
theorem unqGo_esc (d : UInt8) (r acc : Bs) (n : Nat) (h : d = 34 ∨ d = 92) : unqGo (92 :: d :: r) acc n = unqGo r (acc ++ [d]) (n + 2) := by rw [unqGo.eq_def]; simp [h]
theorem unqGo_n (r acc : Bs) (n : Nat) : unqGo (92 :: 110 :: r) acc n = unqGo r (acc ++ [10]) (n + 2) := by rw [unqGo.eq_def]; simp
theorem unqGo_bad (d : UInt8) (r acc : Bs) (n : Nat) (h : ¬ (d = 34 ∨ d = 92)) (h' : d ≠ 110) : unqGo (92 :: d :: r) acc n = ([], 0, 8) := by rw [unqGo.eq_def]; simp [h, h']
theorem unqGo_plain (c : UInt8) (r acc : Bs) (n : Nat) (h1 : c ≠ 34) (h2 : c ≠ 10) (h3 : c ≠ 92) : unqGo (c :: r) acc n = unqGo r (acc ++ [c]) (n + 1) := by rw [unqGo.eq_def]; simp [h1, h2, h3]
/-- What was taken lies within the text. -/
theorem unqGo_le : ∀ (k : Nat) (r acc : Bs) (n : Nat), r.length ≤ k → (unqGo r acc n).2.2 = 0 → n < (unqGo r acc n).2.1 ∧ (unqGo r acc n).2.1 ≤ n + r.length ∧ (unqGo r acc n).1.length ≤ acc.length + r.length
  | _, [], acc, n, _, h => by rw [unqGo_end] at h; cases h
  | 0, _ :: _, acc, n, hk, h => by simp at hk
  | k + 1, c :: r, acc, n, hk, h => by
    simp only [List.length_cons] at hk ⊢
    by_cases h1 : c = 34
    · subst h1; rw [unqGo_quote]; simp only; omega
    · by_cases h2 : c = 10
      · subst h2; rw [unqGo_line] at h; cases h
      · by_cases h3 : c = 92
        · subst h3
          cases r with
          | nil => rw [unqGo_back] at h; cases h
          | cons d r =>
            simp only [List.length_cons] at hk ⊢
            by_cases h4 : d = 34 ∨ d = 92
            · rw [unqGo_esc _ _ _ _ h4] at h ⊢
              have := unqGo_le k r (acc ++ [d]) (n + 2) (by omega) h
              simp only [List.length_append, List.length_singleton] at this
              omega
            · by_cases h5 : d = 110
              · subst h5
                rw [unqGo_n] at h ⊢
                have := unqGo_le k r (acc ++ [10]) (n + 2) (by omega) h
                simp only [List.length_append, List.length_singleton] at this
                omega
              · rw [unqGo_bad _ _ _ _ h4 h5] at h; cases h
        · rw [unqGo_plain _ _ _ _ h1 h2 h3] at h ⊢
          have := unqGo_le k r (acc ++ [c]) (n + 1) (by omega) h
          simp only [List.length_append, List.length_singleton] at this
          omega
theorem unqP_le {s : Bs} (h : (unqP s).2.2 = 0) : 1 < (unqP s).2.1 ∧ (unqP s).2.1 ≤ s.length ∧ (unqP s).1.length ≤ s.length := by
  cases s with
  | nil => cases h
  | cons c r =>
    rw [unqP_cons] at h ⊢
    by_cases h1 : c = 34
    · rw [if_pos h1] at h ⊢
      have := unqGo_le r.length r [] 1 (Nat.le_refl _) h
      simp only [List.length_cons, List.length_nil] at this ⊢
      omega
    · rw [if_neg h1] at h; cases h
theorem unqP_err {s : Bs} (h : (unqP s).2.2 ≠ 0) : unqP s = ([], 0, (unqP s).2.2) := by
  have go : ∀ (k : Nat) (r acc : Bs) (n : Nat), r.length ≤ k → (unqGo r acc n).2.2 ≠ 0 → unqGo r acc n = ([], 0, (unqGo r acc n).2.2) := by
    intro k
    induction k with
    | zero => intro r acc n hk h; cases r with
      | nil => rw [unqGo_end]
      | cons _ _ => simp at hk
    | succ k ih =>
      intro r acc n hk h
      cases r with
      | nil => rw [unqGo_end]
      | cons c r =>
        simp only [List.length_cons] at hk
        by_cases h1 : c = 34
        · subst h1; rw [unqGo_quote] at h; exact absurd rfl h
        · by_cases h2 : c = 10
          · subst h2; rw [unqGo_line]
          · by_cases h3 : c = 92
            · subst h3
              cases r with
              | nil => rw [unqGo_back]
              | cons d r =>
                simp only [List.length_cons] at hk
                by_cases h4 : d = 34 ∨ d = 92
                · rw [unqGo_esc _ _ _ _ h4] at h ⊢; exact ih _ _ _ (by omega) h
                · by_cases h5 : d = 110
                  · subst h5; rw [unqGo_n] at h ⊢; exact ih _ _ _ (by omega) h
                  · rw [unqGo_bad _ _ _ _ h4 h5]
            · rw [unqGo_plain _ _ _ _ h1 h2 h3] at h ⊢; exact ih _ _ _ (by omega) h
  cases s with
  | nil => rfl
  | cons c r =>
    rw [unqP_cons] at h ⊢
    by_cases h1 : c = 34
    · rw [if_pos h1] at h ⊢; exact go _ _ _ _ (Nat.le_refl _) h
    · rw [if_neg h1]

/-- Labels as a text. -/
def labP (x : Lb) : Bs := bl x.1 ++ 61 :: quoteP (bl x.2)
def printFrom : Nat → List Lb → Bs
  | _, [] => [125]
  | k, x :: r => (if k = 0 then [] else [44, 32]) ++ labP x ++ printFrom (k + 1) r
def printP (l : List Lb) : Bs := 123 :: printFrom 0 l

/-- The labels of a text. -/
def bareP (s : Bs) : Bs := s.dropWhile (fun c => decide (c = 32))
def wordN (s : Bs) : Nat := (s.takeWhile fun c => letterN c.toNat).length
def markP (m : UInt8) : Bs → Option Bs
  | [] => none
  | c :: r => if c = m then some (bareP r) else none
def firstP (s : Bs) : Option (Lb × Bs) :=
  match markP 61 (bareP (s.drop (wordN s))) with
  | none => none
  | some r => if wordN s = 0 then none else if (unqP r).2.2 ≠ 0 then none else some ((mkB (s.take (wordN s)), mkB (unqP r).1), r.drop (unqP r).2.1)
def endP (s : Bs) (l : List Lb) : Option (List Lb) := if markP 125 s = some [] then some l else none
def parseA : Nat → Bs → List Lb → Option (List Lb)
  | 0, _, _ => none
  | k + 1, s, l =>
    match firstP s with
    | none => endP s l
    | some (x, r) =>
      match markP 44 (bareP r) with
      | some r' => parseA k r' (l ++ [x])
      | none => endP (bareP r) (l ++ [x])
def listP (s : Bs) : Option (List Lb) := match markP 123 (bareP s) with
  | none => none
  | some r => parseA (s.length + 1) r []
def parseP (s : Bs) : Nat × List Lb := match listP s with
  | none => (8, [])
  | some l => makeP l
theorem bareP_le (s : Bs) : (bareP s).length ≤ s.length := by unfold bareP; exact (List.dropWhile_sublist _).length_le
theorem bareP_bare (s : Bs) : bareP (bareP s) = bareP s := by unfold bareP; induction s with
  | nil => rfl
  | cons c r ih =>
    by_cases h : c = 32
    · simp [List.dropWhile_cons, h, ih]
    · simp [List.dropWhile_cons, h]
theorem markP_cons (m c : UInt8) (r : Bs) : markP m (c :: r) = if c = m then some (bareP r) else none := rfl
theorem markP_lt {m : UInt8} {s r : Bs} (h : markP m s = some r) : r.length < s.length := by
  cases s with
  | nil => cases h
  | cons c t =>
    rw [markP_cons] at h
    split at h
    · injection h with h; subst h; have := bareP_le t; simp only [List.length_cons]; omega
    · cases h
theorem firstP_lt {s r : Bs} {x : Lb} (h : firstP s = some (x, r)) : r.length < s.length := by
  unfold firstP at h
  split at h
  · cases h
  · rename_i t ht
    split at h
    · cases h
    · split at h
      · cases h
      · injection h with h; injection h with _ h; subst h
        have h1 := markP_lt ht
        have h2 := bareP_le (s.drop (wordN s))
        rw [List.length_drop] at *
        omega

/-- The same, as the document's answer goes: it looks for the end first. -/
def parseB : Nat → Bs → List Lb → Option (List Lb)
  | 0, _, _ => none
  | k + 1, s, l =>
    if s = [] ∨ s.headD 0 = 125 then endP s l
    else match firstP s with
      | none => none
      | some (x, r) =>
        if bareP r = [] then none
        else if (bareP r).headD 0 = 44 then parseB k (bareP (bareP r).tail) (l ++ [x])
        else if (bareP r).headD 0 = 125 then parseB k (bareP r) (l ++ [x])
        else none
theorem firstP_word {s r : Bs} {x : Lb} (h : firstP s = some (x, r)) : 0 < wordN s := by
  unfold firstP at h
  split at h
  · cases h
  · split at h
    · cases h
    · omega
theorem wordN_cons (c : UInt8) (t : Bs) : wordN (c :: t) = if letterN c.toNat = true then wordN t + 1 else 0 := by
  unfold wordN; rw [List.takeWhile_cons]; split <;> simp
theorem endP_not {s : Bs} {l : List Lb} (h : s.headD 0 ≠ 125) : endP s l = none := by
  unfold endP
  cases s with
  | nil => rfl
  | cons c t => rw [markP_cons, if_neg (show ¬ c = 125 from h)]; rfl
theorem parseB_eq : ∀ (k : Nat) (s : Bs) (l : List Lb), s.length < k → parseB k s l = parseA k s l
  | 0, _, _, h => absurd h (Nat.not_lt_zero _)
  | k + 1, s, l, h => by
    unfold parseB parseA
    by_cases h0 : s = [] ∨ s.headD 0 = 125
    · rw [if_pos h0]
      have hf : firstP s = none := by
        cases hx : firstP s with
        | none => rfl
        | some p =>
          have hw := firstP_word hx
          rcases h0 with rfl | h0
          · simp [wordN] at hw
          · cases s with
            | nil => cases h0
            | cons c t =>
              obtain rfl : c = 125 := h0
              rw [wordN_cons] at hw
              revert hw; simp [letterN]
      rw [hf]
    · rw [if_neg h0]
      have hne : s ≠ [] := fun e => h0 (.inl e)
      have hnh : s.headD 0 ≠ 125 := fun e => h0 (.inr e)
      cases hx : firstP s with
      | none => simp only; exact (endP_not hnh).symm
      | some p =>
        obtain ⟨x, r⟩ := p
        have hlt := firstP_lt hx
        have hbl := bareP_le r
        simp only
        cases hb : bareP r with
        | nil => rw [if_pos rfl]; rfl
        | cons c t =>
          have hbl' := hbl
          rw [hb, List.length_cons] at hbl'
          have htl := bareP_le t
          rw [if_neg (by simp), markP_cons]
          simp only [List.headD_cons, List.tail_cons]
          by_cases h4 : c = 44
          · refine (if_pos h4).trans ?_
            rw [if_pos h4]
            simp only
            exact parseB_eq k _ _ (by omega)
          · refine (if_neg h4).trans ?_
            rw [if_neg h4]
            simp only
            by_cases h5 : c = 125
            · refine (if_pos h5).trans ?_
              obtain ⟨k', rfl⟩ : ∃ k', k = k' + 1 := ⟨k - 1, by omega⟩
              unfold parseB
              rw [if_pos (.inr (by simpa using h5))]
            · refine (if_neg h5).trans ?_
              exact (endP_not (by simpa using h5)).symm
end
section
set_option linter.unusedVariables false
set_option linter.unusedSimpArgs false
theorem unq_esc : ∀ (s acc t : Bs) (n : Nat), unqGo (s.flatMap escP ++ 34 :: t) acc n = (acc ++ s, n + (s.flatMap escP).length + 1, 0)
  | [], acc, t, n => by rw [List.flatMap_nil, List.nil_append, unqGo_quote]; simp
  | c :: r, acc, t, n => by
    rw [List.flatMap_cons, List.append_assoc]
    by_cases h1 : c = 10
    · subst h1
      rw [show escP 10 = [92, 110] from rfl]
      show unqGo (92 :: 110 :: (r.flatMap escP ++ 34 :: t)) acc n = _
      rw [unqGo_n, unq_esc r]
      simp; omega
    · by_cases h2 : c = 34 ∨ c = 92
      · have e : escP c = [92, c] := by rcases h2 with rfl | rfl <;> rfl
        rw [e]
        show unqGo (92 :: c :: (r.flatMap escP ++ 34 :: t)) acc n = _
        rw [unqGo_esc _ _ _ _ h2, unq_esc r]
        simp; omega
      · have e : escP c = [c] := by unfold escP; rw [if_neg h1, if_neg h2]
        rw [e]
        show unqGo (c :: (r.flatMap escP ++ 34 :: t)) acc n = _
        rw [unqGo_plain _ _ _ _ (fun h => h2 (.inl h)) h1 (fun h => h2 (.inr h)), unq_esc r]
        simp; omega
theorem unq_quote (s t : Bs) : unqP (quoteP s ++ t) = (s, (quoteP s).length, 0) := by
  have e : quoteP s ++ t = 34 :: (s.flatMap escP ++ 34 :: t) := by unfold quoteP; simp
  rw [e, unqP_cons, if_pos rfl, unq_esc]
  unfold quoteP
  simp; omega
theorem bareP_cons {c : UInt8} (t : Bs) (h : c ≠ 32) : bareP (c :: t) = c :: t := by unfold bareP; rw [List.dropWhile_cons, if_neg (by simpa using h)]
theorem bareP_blank (t : Bs) : bareP (32 :: t) = bareP t := by unfold bareP; rw [List.dropWhile_cons, if_pos (by simp)]
theorem wordN_app : ∀ (s : Bs) (c : UInt8) (t : Bs), (s.all fun c => letterN c.toNat) = true → letterN c.toNat = false → wordN (s ++ c :: t) = s.length
  | [], c, t, _, h => by rw [List.nil_append, wordN_cons, if_neg (by simp [h])]; rfl
  | x :: s, c, t, hs, h => by
    rw [List.all_cons, Bool.and_eq_true] at hs
    rw [List.cons_append, wordN_cons, if_pos hs.1, wordN_app s c t hs.2 h]; rfl
theorem named_parts {s : Bs} (h : namedP s = true) : s ≠ [] ∧ s.length ≤ 64 ∧ (s.all fun c => letterN c.toNat) = true := by
  unfold namedP at h
  simp only [Bool.and_eq_true, decide_eq_true_eq] at h
  refine ⟨fun e => by rw [e] at h; simp at h, h.1.1.2, h.1.2⟩
theorem named_head {s : Bs} (h : namedP s = true) (t : Bs) : bareP (s ++ t) = s ++ t := by
  obtain ⟨h1, _, h3⟩ := named_parts h
  cases s with
  | nil => exact absurd rfl h1
  | cons c r =>
    rw [List.all_cons, Bool.and_eq_true] at h3
    rw [List.cons_append]
    refine bareP_cons _ (fun e => ?_)
    subst e
    have := h3.1
    revert this; decide
theorem first_lab (x : Lb) (t : Bs) (h : namedP (bl x.1) = true) : firstP (labP x ++ t) = some (x, t) := by
  obtain ⟨h1, _, h3⟩ := named_parts h
  have e : labP x ++ t = bl x.1 ++ 61 :: (quoteP (bl x.2) ++ t) := by unfold labP; simp
  have hw : wordN (labP x ++ t) = (bl x.1).length := by rw [e]; exact wordN_app _ _ _ h3 (by decide)
  have hd : (labP x ++ t).drop (bl x.1).length = 61 :: (quoteP (bl x.2) ++ t) := by rw [e, List.drop_left]
  have ht : (labP x ++ t).take (bl x.1).length = bl x.1 := by rw [e, List.take_left]
  have hq : bareP (quoteP (bl x.2) ++ t) = quoteP (bl x.2) ++ t := by unfold quoteP; exact bareP_cons _ (by decide)
  unfold firstP
  rw [hw, hd, bareP_cons _ (by decide), markP_cons, if_pos rfl, hq]
  have hu := unq_quote (bl x.2) t
  simp only [hu]
  rw [if_neg (by cases hh : bl x.1 with | nil => exact absurd hh h1 | cons _ _ => simp), if_neg (by simp), ht, mk_bl, mk_bl, List.drop_left]
theorem print_parse : ∀ (r : List Lb) (x : Lb) (acc : List Lb) (k j : Nat), (∀ y ∈ x :: r, namedP (bl y.1) = true) → r.length < k → parseA k (labP x ++ printFrom (j + 1) r) acc = some (acc ++ x :: r)
  | [], x, acc, 0, j, hn, hk => absurd hk (Nat.not_lt_zero _)
  | _ :: _, x, acc, 0, j, hn, hk => absurd hk (Nat.not_lt_zero _)
  | [], x, acc, k + 1, j, hn, hk => by
    rw [parseA, first_lab x _ (hn x (by simp))]
    simp only [printFrom]
    rw [bareP_cons _ (by decide), markP_cons, if_neg (by decide)]
    simp only
    unfold endP
    rw [markP_cons, if_pos rfl]
    rfl
  | y :: r, x, acc, k + 1, j, hn, hk => by
    have hy := hn y (by simp)
    rw [parseA, first_lab x _ (hn x (by simp))]
    simp only [printFrom]
    rw [if_neg (by omega)]
    have e1 : [44, 32] ++ labP y ++ printFrom (j + 1 + 1) r = 44 :: 32 :: (labP y ++ printFrom (j + 1 + 1) r) := by simp
    rw [e1, bareP_cons _ (by decide), markP_cons, if_pos rfl]
    simp only
    rw [bareP_blank]
    have e2 : bareP (labP y ++ printFrom (j + 1 + 1) r) = labP y ++ printFrom (j + 1 + 1) r := by
      unfold labP
      rw [List.append_assoc]
      exact named_head hy _
    rw [e2, print_parse r y (acc ++ [x]) k (j + 1) (fun z hz => hn z (List.mem_cons_of_mem _ hz)) (by simpa using hk)]
    simp
theorem list_print (l : List Lb) (hn : ∀ y ∈ l, namedP (bl y.1) = true) : listP (printP l) = some l := by
  unfold listP printP
  rw [bareP_cons _ (by decide), markP_cons, if_pos rfl]
  simp only
  cases l with
  | nil => rfl
  | cons x r =>
    have hx := hn x (by simp)
    have e1 : printFrom 0 (x :: r) = labP x ++ printFrom (0 + 1) r := by rw [printFrom]; simp
    have e2 : bareP (labP x ++ printFrom (0 + 1) r) = labP x ++ printFrom (0 + 1) r := by
      unfold labP
      rw [List.append_assoc]
      exact named_head hx _
    rw [e1, e2, print_parse r x [] _ 0 hn]
    · rfl
    · have : ∀ (k : Nat) (m : List Lb), m.length ≤ (printFrom k m).length := by
        intro k m
        induction m generalizing k with
        | nil => simp
        | cons y m ih => rw [printFrom, List.length_append, List.length_append, List.length_cons]; have := ih (k + 1); have : 1 ≤ (labP y).length := by unfold labP; simp; omega
                         omega
      have h2 := this (0 + 1) r
      simp only [List.length_cons, List.length_append]
      omega
theorem rightAt_zero {p : Option ByteArray} {x : Lb} (h : rightAt p x = 0) : faultP x = 0 ∧ x.2.size ≠ 0 ∧ ∀ q, p = some q → bl q < bl x.1 := by
  unfold rightAt at h
  by_cases h1 : faultP x ≠ 0
  · rw [if_pos h1] at h; exact absurd h h1
  · rw [if_neg h1] at h
    by_cases h2 : x.2.size = 0
    · rw [if_pos h2] at h; cases h
    · rw [if_neg h2] at h
      refine ⟨by omega, h2, fun q hq => ?_⟩
      subst hq
      simp only at h
      by_cases h3 : bl q < bl x.1
      · exact h3
      · rw [if_neg h3] at h; cases h
theorem rightGo_zero : ∀ {l : List Lb} {p : Option ByteArray}, rightGo p l = 0 → (∀ x ∈ l, faultP x = 0 ∧ x.2.size ≠ 0) ∧ Rising l ∧ ∀ q, p = some q → ∀ x ∈ l, bl q < bl x.1
  | [], p, _ => ⟨fun x hx => (by cases hx), by simp [Rising], fun q _ x hx => (by cases hx)⟩
  | x :: r, p, h => by
    rw [rightGo] at h
    by_cases h1 : rightAt p x ≠ 0
    · rw [if_pos h1] at h; exact absurd h h1
    · rw [if_neg h1] at h
      obtain ⟨a1, a2, a3⟩ := rightAt_zero (show rightAt p x = 0 by omega)
      obtain ⟨b1, b2, b3⟩ := rightGo_zero h
      refine ⟨fun y hy => ?_, List.pairwise_cons.2 ⟨b3 x.1 rfl, b2⟩, fun q hq y hy => ?_⟩
      · rcases List.mem_cons.1 hy with rfl | hy
        · exact ⟨a1, a2⟩
        · exact b1 y hy
      · rcases List.mem_cons.1 hy with rfl | hy
        · exact a3 q hq
        · exact ltB_trans (a3 q hq) (b3 x.1 rfl y hy)
theorem right_parts {l : List Lb} (h : rightP l = 0) : l.length ≤ 16 ∧ (∀ x ∈ l, faultP x = 0 ∧ x.2.size ≠ 0) ∧ Rising l := by
  unfold rightP at h
  by_cases h1 : 16 < l.length
  · rw [if_pos h1] at h; cases h
  · rw [if_neg h1] at h
    obtain ⟨a, b, _⟩ := rightGo_zero h
    exact ⟨by omega, a, b⟩
theorem faults_zero : ∀ {l : List Lb}, (∀ x ∈ l, faultP x = 0) → faultsP l = 0
  | [], _ => rfl
  | x :: r, h => by rw [faultsP, if_neg (by have := h x (by simp); omega)]; exact faults_zero fun y hy => h y (List.mem_cons_of_mem _ hy)
theorem fault_parts {x : Lb} (h : faultP x = 0) : namedP (bl x.1) = true ∧ valuedP (bl x.2) = true := by
  unfold faultP at h
  by_cases h1 : namedP (bl x.1) = false
  · rw [if_pos h1] at h; cases h
  · rw [if_neg h1] at h
    by_cases h2 : valuedP (bl x.2) = false
    · rw [if_pos h2] at h; cases h
    · exact ⟨by simpa using h1, by simpa using h2⟩
theorem right_make {l : List Lb} (h : rightP l = 0) : makeP l = (0, l) := by
  obtain ⟨h1, h2, h3⟩ := right_parts h
  have hf : fullP l = l := by
    unfold fullP
    rw [List.filter_eq_self]
    intro x hx
    simpa using (h2 x hx).2
  rw [make_of (faults_zero fun x hx => (h2 x hx).1) (List.Perm.refl _) h3, hf, if_neg (by omega)]
theorem right_parse {l : List Lb} (h : rightP l = 0) : parseP (printP l) = (0, l) := by
  obtain ⟨h1, h2, h3⟩ := right_parts h
  unfold parseP
  rw [list_print l fun y hy => (fault_parts (h2 y hy).1).1]
  exact right_make h
/-- Right labels have short texts. -/
theorem right_size {l : List Lb} (h : rightP l = 0) : (printP l).length ≤ 6000 := by
  obtain ⟨h1, h2, _⟩ := right_parts h
  have he : ∀ s : Bs, (s.flatMap escP).length ≤ 2 * s.length := by
    intro s
    induction s with
    | nil => simp
    | cons c r ih =>
      rw [List.flatMap_cons, List.length_append, List.length_cons]
      have : (escP c).length ≤ 2 := by
        unfold escP
        by_cases h1 : c = 10
        · rw [if_pos h1]; simp
        · rw [if_neg h1]
          by_cases h2 : c = 34 ∨ c = 92
          · rw [if_pos h2]; simp
          · rw [if_neg h2]; simp
      omega
  have hl : ∀ (m : List Lb) (k : Nat), (∀ x ∈ m, faultP x = 0) → (printFrom k m).length ≤ 330 * m.length + 1 := by
    intro m
    induction m with
    | nil => intro k _; simp [printFrom]
    | cons y m ih =>
      intro k hm
      obtain ⟨n1, n2⟩ := fault_parts (hm y (by simp))
      obtain ⟨_, n3, _⟩ := named_parts n1
      have n4 : (bl y.2).length ≤ 128 := by
        unfold valuedP at n2
        simp only [Bool.and_eq_true, decide_eq_true_eq] at n2
        exact n2.1
      have hy : (labP y).length ≤ 323 := by
        unfold labP quoteP
        have := he (bl y.2)
        simp only [List.length_append, List.length_cons, List.length_nil]
        omega
      have hr := ih (k + 1) fun x hx => hm x (List.mem_cons_of_mem _ hx)
      rw [printFrom]
      have h2 : (if k = 0 then ([] : Bs) else [44, 32]).length ≤ 2 := by split <;> simp
      simp only [List.length_append, List.length_cons] at *
      omega
  have := hl l 0 fun x hx => (h2 x hx).1
  unfold printP
  rw [List.length_cons]
  omega
end
section
set_option linter.unusedVariables false
set_option linter.unusedSimpArgs false
theorem rightGo_of : ∀ {l : List Lb} {p : Option ByteArray}, (∀ x ∈ l, faultP x = 0 ∧ x.2.size ≠ 0) → Rising l → (∀ q, p = some q → ∀ x ∈ l, bl q < bl x.1) → rightGo p l = 0
  | [], p, _, _, _ => rfl
  | x :: r, p, h1, h2, h3 => by
    obtain ⟨a1, a2⟩ := h1 x List.mem_cons_self
    obtain ⟨b1, b2⟩ := List.pairwise_cons.1 h2
    have h0 : rightAt p x = 0 := by
      unfold rightAt
      rw [if_neg (by omega), if_neg a2]
      cases p with
      | none => rfl
      | some q => simp only; rw [if_pos (h3 q rfl x List.mem_cons_self)]
    rw [rightGo, if_neg (by omega)]
    refine rightGo_of (fun y hy => h1 y (List.mem_cons_of_mem _ hy)) b2 fun q hq y hy => ?_
    injection hq with hq
    subst hq
    exact b1 y hy
theorem right_of {l : List Lb} (h0 : l.length ≤ 16) (h1 : ∀ x ∈ l, faultP x = 0 ∧ x.2.size ≠ 0) (h2 : Rising l) : rightP l = 0 := by
  unfold rightP
  rw [if_neg (by omega)]
  exact rightGo_of h1 h2 fun q hq => by cases hq
theorem right_filter {l : List Lb} (p : Lb → Bool) (h : rightP l = 0) : rightP (l.filter p) = 0 := by
  obtain ⟨h1, h2, h3⟩ := right_parts h
  exact right_of (Nat.le_trans (List.length_filter_le _ _) h1) (fun x hx => h2 x (List.mem_filter.1 hx).1) (rising_filter p h3)
theorem faults_mem : ∀ {l : List Lb}, faultsP l = 0 → ∀ x ∈ l, faultP x = 0
  | [], _, x, hx => by cases hx
  | y :: r, h, x, hx => by
    rw [faultsP] at h
    by_cases h1 : faultP y ≠ 0
    · rw [if_pos h1] at h; exact absurd h h1
    · rw [if_neg h1] at h
      rcases List.mem_cons.1 hx with rfl | hx
      · omega
      · exact faults_mem h x hx
/-- What Make makes is right. -/
theorem make_right {l : List Lb} (h : (makeP l).1 = 0) : rightP (makeP l).2 = 0 ∧ ∀ x, x ∈ (makeP l).2 ↔ x ∈ fullP l := by
  unfold makeP at h ⊢
  by_cases h1 : faultsP l ≠ 0
  · rw [if_pos h1] at h; exact absurd h h1
  · rw [if_neg h1] at h ⊢
    by_cases h2 : ¬ (l.map fun x => bl x.1).Nodup
    · rw [if_pos h2] at h; simp at h
    · rw [if_neg h2] at h ⊢
      by_cases h3 : 16 < (fullP l).length
      · rw [if_pos h3] at h; simp at h
      · rw [if_neg h3]
        simp only
        have hn : (l.map fun x => bl x.1).Nodup := by simpa using h2
        have hp := sortP_perm (fullP l)
        refine ⟨right_of (by rw [hp.length_eq]; omega) (fun x hx => ?_) (sortP_rising (nodup_filter _ hn)), fun x => hp.mem_iff⟩
        have hx' := hp.mem_iff.1 hx
        unfold fullP at hx'
        obtain ⟨m1, m2⟩ := List.mem_filter.1 hx'
        exact ⟨faults_mem (by omega) x m1, by simpa using m2⟩
theorem getP_mem {l : List Lb} {x : Lb} (hr : Rising l) (hx : x ∈ l) : getP l x.1 = x.2 := by
  unfold getP
  cases hf : l.find? (fun y => decide (y.1 = x.1)) with
  | none =>
    rw [List.find?_eq_none] at hf
    exact absurd (hf x hx) (by simp)
  | some y =>
    have h1 := List.find?_some hf
    have h2 := List.mem_of_find?_eq_some hf
    simp only [decide_eq_true_eq] at h1
    have hn := rising_nodup hr
    have : y = x := by
      obtain ⟨i, hi, e1⟩ := List.mem_iff_getElem.1 h2
      obtain ⟨j, hj, e2⟩ := List.mem_iff_getElem.1 hx
      have hij : i = j := by
        rw [List.Nodup, List.pairwise_iff_getElem] at hn
        rcases Nat.lt_trichotomy i j with h | h | h
        · have := hn i j (by simpa using hi) (by simpa using hj) h
          simp only [List.getElem_map] at this
          rw [e1, e2] at this
          exact absurd (by rw [h1]) this
        · exact h
        · have := hn j i (by simpa using hj) (by simpa using hi) h
          simp only [List.getElem_map] at this
          rw [e1, e2] at this
          exact absurd (by rw [h1]) this
      subst hij
      rw [← e1, ← e2]
    subst this
    rfl
theorem getP_none {l : List Lb} {n : ByteArray} (h : ∀ x ∈ l, x.1 ≠ n) : getP l n = mkB [] := by
  unfold getP
  rw [List.find?_eq_none.2 fun x hx => by simpa using h x hx]
  rfl
theorem with_right {l : List Lb} {n v : ByteArray} (h : (withP l n v).1 = 0) : rightP (withP l n v).2 = 0 ∧ getP (withP l n v).2 n = v := by
  unfold withP at h ⊢
  by_cases h1 : rightP l ≠ 0
  · rw [if_pos h1] at h; exact absurd h h1
  · rw [if_neg h1] at h ⊢
    obtain ⟨r1, r2⟩ := make_right h
    refine ⟨r1, ?_⟩
    obtain ⟨-, -, hri⟩ := right_parts r1
    by_cases hv : v.size = 0
    · rw [getP_none fun x hx e => ?_]
      · have hb : bl v = [] := List.eq_nil_of_length_eq_zero (by rw [bl_len]; exact hv)
        rw [← hb, mk_bl]
      · have hx' := (r2 x).1 hx
        unfold fullP at hx'
        obtain ⟨m1, m2⟩ := List.mem_filter.1 hx'
        rcases List.mem_append.1 m1 with m1 | m1
        · have := (List.mem_filter.1 m1).2
          simp at this
          exact this e
        · rw [List.mem_singleton] at m1
          subst m1
          simp [hv] at m2
    · have : (n, v) ∈ (makeP (l.filter (fun x => !decide (x.1 = n)) ++ [(n, v)])).2 := by
        rw [r2]
        unfold fullP
        exact List.mem_filter.2 ⟨List.mem_append.2 (Or.inr (List.mem_singleton.2 rfl)), by simpa using hv⟩
      exact getP_mem hri this
theorem by_mem {l : List Lb} {ns : List ByteArray} {y : Lb} : y ∈ byP l ns ↔ y ∈ l ∧ bl y.1 ∈ ns.map bl := by
  unfold byP; rw [List.mem_filter]; simp
theorem wo_mem {l : List Lb} {ns : List ByteArray} {y : Lb} : y ∈ woP l ns ↔ y ∈ l ∧ bl y.1 ≠ nameLabel ∧ ¬ bl y.1 ∈ ns.map bl := by
  unfold woP; rw [List.mem_filter]; simp
/-- How often a label stands in a list. -/
def cntL (y : Lb) (l : List Lb) : Nat := l.countP fun z => decide (z = y)
theorem cnt_pos {y : Lb} {l : List Lb} : 0 < cntL y l ↔ y ∈ l := by
  unfold cntL
  rw [List.countP_pos_iff]
  exact ⟨fun ⟨a, h, e⟩ => by rw [of_decide_eq_true e] at h; exact h, fun h => ⟨y, h, by simp⟩⟩
theorem cnt_zero {y : Lb} {l : List Lb} : cntL y l = 0 ↔ y ∉ l := by rw [← cnt_pos]; omega
/-- A label is in one part at most; in none only the metric's name. -/
theorem split_one {l : List Lb} {ns : List ByteArray} {y : Lb} (hy : y ∈ l) : ¬ (0 < cntL y (byP l ns) ∧ 0 < cntL y (woP l ns)) ∧ (cntL y (byP l ns) = 0 → cntL y (woP l ns) = 0 → bl y.1 = nameLabel) := by
  rw [cnt_pos, cnt_pos, cnt_zero, cnt_zero, by_mem, wo_mem]
  refine ⟨fun ⟨h1, h2⟩ => h2.2.2 h1.2, fun h1 h2 => ?_⟩
  have h3 : ¬ bl y.1 ∈ ns.map bl := fun h => h1 ⟨hy, h⟩
  by_cases e : bl y.1 = nameLabel
  · exact e
  · exact absurd ⟨hy, e, h3⟩ h2
theorem split_len (l : List Lb) (ns : List ByteArray) : (byP l ns).length + (woP l ns).length ≤ l.length := by
  unfold byP woP
  induction l with
  | nil => simp
  | cons x r ih =>
    by_cases h : bl x.1 ∈ ns.map bl
    · simp only [List.filter_cons, h, decide_true, if_true, Bool.not_true, Bool.and_false, Bool.false_eq_true, if_false, List.length_cons]; omega
    · simp only [List.filter_cons, h, decide_false, Bool.false_eq_true, if_false, Bool.not_false, Bool.and_true]
      by_cases e : bl x.1 = nameLabel
      · simp only [e, decide_true, Bool.not_true, Bool.false_eq_true, if_false, List.length_cons]; omega
      · simp only [e, decide_false, Bool.not_false, if_true, List.length_cons]; omega
end
section
set_option linter.unusedVariables false
set_option linter.unusedSimpArgs false

/-- How many bytes the rune has at the head of n bytes that begin b0 b1 b2 b3; 0: there is none. -/
def stepN (n b0 b1 b2 b3 : Nat) : Nat :=
  if b0 < 128 then 1
  else if (194 ≤ b0 ∧ b0 < 224) ∧ (1 < n ∧ b1 / 64 = 2) then 2
  else if (224 ≤ b0 ∧ b0 < 240) ∧ (1 < n ∧ b1 / 64 = 2) ∧ (2 < n ∧ b2 / 64 = 2) then
    (if 2048 ≤ b0 % 16 * 4096 + b1 % 64 * 64 + b2 % 64 ∧ (b0 % 16 * 4096 + b1 % 64 * 64 + b2 % 64 < 55296 ∨ 57343 < b0 % 16 * 4096 + b1 % 64 * 64 + b2 % 64) then 3 else 0)
  else if (240 ≤ b0 ∧ b0 < 245) ∧ (1 < n ∧ b1 / 64 = 2) ∧ (2 < n ∧ b2 / 64 = 2) ∧ (3 < n ∧ b3 / 64 = 2) then
    (if 65536 ≤ b0 % 8 * 262144 + b1 % 64 * 4096 + b2 % 64 * 64 + b3 % 64 ∧ b0 % 8 * 262144 + b1 % 64 * 4096 + b2 % 64 * 64 + b3 % 64 ≤ 1114111 then 4 else 0)
  else 0
set_option maxRecDepth 100000 in
set_option maxHeartbeats 4000000 in
theorem stepN_decode (n b0 b1 b2 b3 : Nat) (h0 : b0 < 256) (h1 : b1 < 256) (h2 : b2 < 256) (h3 : b3 < 256) :
    (stepN n b0 b1 b2 b3 = 0 ∧ Lib.decodeN n b0 b1 b2 b3 = (65533, 1)) ∨ (0 < stepN n b0 b1 b2 b3 ∧ (Lib.decodeN n b0 b1 b2 b3).2 = stepN n b0 b1 b2 b3 ∧ ¬ ((Lib.decodeN n b0 b1 b2 b3).1 = 65533 ∧ (Lib.decodeN n b0 b1 b2 b3).2 = 1)) := by
  unfold stepN Lib.decodeN
  by_cases a0 : b0 < 128
  · rw [if_pos a0, if_pos a0]; right; simp; omega
  rw [if_neg a0, if_neg a0]
  by_cases a1 : b0 / 32 = 6 ∧ (1 < n ∧ b1 / 64 = 2)
  · rw [if_pos a1]
    by_cases a2 : 194 ≤ b0
    · rw [if_pos ⟨⟨a2, by omega⟩, a1.2⟩, if_pos (by omega)]; right; simp
    · rw [if_neg (by omega), if_neg (by omega), if_neg (by omega), if_neg (by omega)]; left; simp
  rw [if_neg a1, if_neg (fun h => a1 ⟨by omega, h.2⟩)]
  by_cases b1' : b0 / 16 = 14 ∧ (1 < n ∧ b1 / 64 = 2) ∧ (2 < n ∧ b2 / 64 = 2)
  · rw [if_pos b1', if_pos ⟨⟨by omega, by omega⟩, b1'.2⟩]
    have hv : b0 % 16 * 4096 + b1 % 64 * 64 + b2 % 64 ≤ 1114111 := by omega
    by_cases c : 2048 ≤ b0 % 16 * 4096 + b1 % 64 * 64 + b2 % 64 ∧ (b0 % 16 * 4096 + b1 % 64 * 64 + b2 % 64 < 55296 ∨ 57343 < b0 % 16 * 4096 + b1 % 64 * 64 + b2 % 64)
    · rw [if_pos c, if_pos ⟨c.1, by omega⟩]; right; simp
    · rw [if_neg c, if_neg (fun h => c ⟨h.1, by omega⟩)]; left; simp
  rw [if_neg b1', if_neg (fun h => b1' ⟨by omega, h.2⟩)]
  by_cases d1 : b0 / 8 = 30 ∧ (1 < n ∧ b1 / 64 = 2) ∧ (2 < n ∧ b2 / 64 = 2) ∧ (3 < n ∧ b3 / 64 = 2)
  · rw [if_pos d1]
    by_cases a2 : b0 < 245
    · rw [if_pos ⟨⟨by omega, a2⟩, d1.2⟩]
      by_cases c : 65536 ≤ b0 % 8 * 262144 + b1 % 64 * 4096 + b2 % 64 * 64 + b3 % 64 ∧ b0 % 8 * 262144 + b1 % 64 * 4096 + b2 % 64 * 64 + b3 % 64 ≤ 1114111
      · rw [if_pos c, if_pos ⟨c.1, by omega⟩]; right; simp
      · rw [if_neg c, if_neg (by omega)]; left; simp
    · rw [if_neg (by omega), if_neg (by omega)]; left; simp
  · rw [if_neg d1, if_neg (fun h => d1 ⟨by omega, h.2⟩)]; left; simp
def stepB (l : Bs) : Nat := stepN l.length (l.getD 0 0).toNat (l.getD 1 0).toNat (l.getD 2 0).toNat (l.getD 3 0).toNat
theorem valid_stepB (l : Bs) (hne : l ≠ []) : Lib.validD l = if stepB l = 0 then false else Lib.validD (l.drop (stepB l)) := by
  rw [Lib.validD_step l hne, Lib.decodeL_N]
  rcases stepN_decode l.length (l.getD 0 0).toNat (l.getD 1 0).toNat (l.getD 2 0).toNat (l.getD 3 0).toNat (l.getD 0 0).toNat_lt (l.getD 1 0).toNat_lt (l.getD 2 0).toNat_lt (l.getD 3 0).toNat_lt with ⟨h, e⟩ | ⟨h, e, n⟩
  · rw [e, if_pos ⟨rfl, rfl⟩, if_pos (show stepB l = 0 from h)]
  · rw [if_neg n, if_neg (by unfold stepB; omega), e]; rfl
theorem stepB_le (l : Bs) : stepB l ≤ l.length ∨ l = [] := by
  by_cases h : l = []
  · exact .inr h
  · left
    have hl : 0 < l.length := List.length_pos_iff.2 h
    unfold stepB stepN
    repeat' split
    all_goals omega
end
theorem wordN_le (s : Bs) : wordN s ≤ s.length := by unfold wordN; exact (List.takeWhile_prefix _).length_le
end Go.Proofs.YtgogpngobdafaaaDoor
