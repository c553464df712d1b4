/-
  Labels, plainly: texts as lists of bytes, names, values, what is wrong with labels, labels as they are right, parts, an order. Nothing here speaks of the program. Texts of labels, plainly: texts between quotes, labels as a text, the labels of a text. Nothing here speaks of the program. There and back, plainly: a text between quotes, right labels by their text and by Make. Nothing here speaks of the program. Labels parted and with another value, plainly: parts of right labels are right, what is set is got. Nothing here speaks of the program. UTF-8, plainly: how many bytes the rune has that bytes begin with, or none, as the document's answer counts them; and that a text is valid as the library says just if all its runes are there. Nothing here speaks of the program.
-/
import Derived.Lib.ValidLaws
import Derived.Lib.Bytealg
import Derived.Sort.LotA
namespace Go.Proofs.YtjgappbomohlcaaGreatDoor
section
set_option linter.unusedVariables false
set_option linter.unusedSimpArgs false
section
set_option linter.unusedVariables false
set_option linter.unusedSimpArgs false

abbrev Bs := List UInt8
def mkB (l : Bs) : ByteArray := ⟨l.toArray⟩
def bl (s : ByteArray) : Bs := s.data.toList
theorem bl_mk (l : Bs) : bl (mkB l) = l := by simp [bl, mkB]
theorem mk_bl (s : ByteArray) : mkB (bl s) = s := by cases s; simp [bl, mkB]
theorem bl_len (s : ByteArray) : (bl s).length = s.size := by cases s; simp [bl, ByteArray.size]
theorem bl_inj {a b : ByteArray} (h : bl a = bl b) : a = b := by rw [← mk_bl a, h, mk_bl]
theorem bl_inj_iff {a b : ByteArray} : bl a = bl b ↔ a = b := ⟨bl_inj, fun h => by rw [h]⟩
theorem toList_bl (s : ByteArray) : s.toList = bl s := ByteArray.toList_eq s
theorem mkB_size (l : Bs) : (mkB l).size = l.length := by simp [mkB, ByteArray.size]

/-- The order of texts. -/
theorem ltB_irrefl (a : Bs) : ¬ a < a := by simp
theorem ltB_trans {a b c : Bs} (h : a < b) (k : b < c) : a < c := by
  have := Go.Sort.swo_ltStr.trans a b c (by simpa [Go.Sort.ltStr] using h) (by simpa [Go.Sort.ltStr] using k)
  simpa [Go.Sort.ltStr] using this
theorem ltB_asymm {a b : Bs} (h : a < b) : ¬ b < a := fun k => ltB_irrefl a (ltB_trans h k)
theorem cmpB_spec : ∀ a b : Bs, (Lib.compareBytes a b = -1 ∧ a < b) ∨ (Lib.compareBytes a b = 0 ∧ a = b) ∨ (Lib.compareBytes a b = 1 ∧ b < a)
  | [], [] => .inr (.inl ⟨rfl, rfl⟩)
  | [], _ :: _ => .inl ⟨rfl, by simp⟩
  | _ :: _, [] => .inr (.inr ⟨rfl, by simp⟩)
  | x :: a, y :: b => by
    unfold Lib.compareBytes
    simp only [List.cons_lt_cons_iff]
    by_cases h1 : x < y
    · exact .inl ⟨by rw [if_pos h1], .inl h1⟩
    · by_cases h2 : y < x
      · exact .inr (.inr ⟨by rw [if_neg h1, if_pos h2], .inl h2⟩)
      · rw [if_neg h1, if_neg h2]
        have e : x = y := UInt8.le_antisymm (UInt8.not_lt.1 h2) (UInt8.not_lt.1 h1)
        subst e
        rcases cmpB_spec a b with ⟨e, h⟩ | ⟨e, h⟩ | ⟨e, h⟩
        · exact .inl ⟨e, .inr ⟨rfl, h⟩⟩
        · exact .inr (.inl ⟨e, by rw [h]⟩)
        · exact .inr (.inr ⟨e, .inr ⟨rfl, h⟩⟩)
theorem ltB_total (a b : Bs) : a < b ∨ a = b ∨ b < a := by
  rcases cmpB_spec a b with ⟨_, h⟩ | ⟨_, h⟩ | ⟨_, h⟩
  · exact .inl h
  · exact .inr (.inl h)
  · exact .inr (.inr h)
/-- A label: a name and a value. -/
abbrev Lb := ByteArray × ByteArray
def letterN (c : Nat) : Bool := c == 95 || (decide (97 ≤ c) && decide (c ≤ 122)) || (decide (65 ≤ c) && decide (c ≤ 90)) || (decide (48 ≤ c) && decide (c ≤ 57))
def digitN (c : Nat) : Bool := decide (48 ≤ c) && decide (c ≤ 57)
def namedP (l : Bs) : Bool := decide (1 ≤ l.length) && decide (l.length ≤ 64) && l.all (fun c => letterN c.toNat) && !digitN (l.headD 0).toNat
def valuedP (l : Bs) : Bool := decide (l.length ≤ 128) && Lib.validD l
def faultP (x : Lb) : Nat := if namedP (bl x.1) = false then 50 else if valuedP (bl x.2) = false then 51 else 0
def rightAt (prev : Option ByteArray) (x : Lb) : Nat :=
  if faultP x ≠ 0 then faultP x else if x.2.size = 0 then 51 else match prev with
    | none => 0
    | some p => if bl p < bl x.1 then 0 else 53
def rightGo : Option ByteArray → List Lb → Nat
  | _, [] => 0
  | p, x :: r => if rightAt p x ≠ 0 then rightAt p x else rightGo (some x.1) r
def rightP (l : List Lb) : Nat := if 16 < l.length then 3 else rightGo none l
def prevAt (l : List Lb) (k : Nat) : Option ByteArray := if k = 0 then none else (l[k - 1]?).map (·.1)
theorem rightGo_step {l : List Lb} {k : Nat} (h : k < l.length) : rightGo (prevAt l k) (l.drop k) = if rightAt (prevAt l k) l[k] ≠ 0 then rightAt (prevAt l k) l[k] else rightGo (prevAt l (k + 1)) (l.drop (k + 1)) := by
  rw [List.drop_eq_getElem_cons h, rightGo]
  have : prevAt l (k + 1) = some l[k].1 := by simp [prevAt, h]
  rw [this]
/-- What is wrong first with labels by themselves. -/
def faultsP : List Lb → Nat
  | [] => 0
  | x :: r => if faultP x ≠ 0 then faultP x else faultsP r
def putP (x : Lb) : List Lb → List Lb
  | [] => [x]
  | y :: r => if bl y.1 < bl x.1 then y :: putP x r else x :: y :: r
def sortP : List Lb → List Lb
  | [] => []
  | x :: r => putP x (sortP r)
def fullP (l : List Lb) : List Lb := l.filter fun x => x.2.size != 0
def makeP (l : List Lb) : Nat × List Lb :=
  if faultsP l ≠ 0 then (faultsP l, []) else if ¬ (l.map fun x => bl x.1).Nodup then (52, []) else if 16 < (fullP l).length then (3, []) else (0, sortP (fullP l))
/-- By rising names. -/
def Rising (l : List Lb) : Prop := l.Pairwise fun x y => bl x.1 < bl y.1
theorem rising_nodup {l : List Lb} (h : Rising l) : (l.map fun x => bl x.1).Nodup := by
  unfold Rising at h
  rw [List.Nodup, List.pairwise_map]
  exact h.imp fun hlt e => by rw [e] at hlt; exact ltB_irrefl _ hlt

/-- A name's value; the labels of some names; labels with another value. -/
def getP (l : List Lb) (n : ByteArray) : ByteArray := ((l.find? fun x => decide (x.1 = n)).map (·.2)).getD (mkB [])
def byP (l : List Lb) (ns : List ByteArray) : List Lb := l.filter fun x => decide (bl x.1 ∈ ns.map bl)
def nameLabel : Bs := [95, 95, 110, 97, 109, 101, 95, 95]
def woP (l : List Lb) (ns : List ByteArray) : List Lb := l.filter fun x => !decide (bl x.1 = nameLabel) && !decide (bl x.1 ∈ ns.map bl)
def withP (l : List Lb) (n v : ByteArray) : Nat × List Lb := if rightP l ≠ 0 then (rightP l, []) else makeP (l.filter (fun x => !decide (x.1 = n)) ++ [(n, v)])

/-- Labels held against each other. -/
def compareP : List Lb → List Lb → Int
  | [], [] => 0
  | [], _ :: _ => -1
  | _ :: _, [] => 1
  | x :: a, y :: b => if Lib.compareBytes (bl x.1) (bl y.1) ≠ 0 then Lib.compareBytes (bl x.1) (bl y.1) else if Lib.compareBytes (bl x.2) (bl y.2) ≠ 0 then Lib.compareBytes (bl x.2) (bl y.2) else compareP a b
end
section
set_option linter.unusedVariables false
set_option linter.unusedSimpArgs false

def escP (c : UInt8) : Bs := if c = 10 then [92, 110] else if c = 34 ∨ c = 92 then [92, c] else [c]
def quoteP (s : Bs) : Bs := 34 :: (s.flatMap escP ++ [34])
/-- What a text has up to the second quote: behind acc, n bytes having been taken. -/
def unqGo : Bs → Bs → Nat → Bs × Nat × Nat
  | [], _, _ => ([], 0, 6)
  | c :: r, acc, n =>
    if c = 34 then (acc, n + 1, 0)
    else if c = 10 then ([], 0, 8)
    else if c = 92 then
      match r with
      | [] => ([], 0, 6)
      | d :: r' => if d = 34 ∨ d = 92 then unqGo r' (acc ++ [d]) (n + 2) else if d = 110 then unqGo r' (acc ++ [10]) (n + 2) else ([], 0, 8)
    else unqGo r (acc ++ [c]) (n + 1)
def unqP : Bs → Bs × Nat × Nat
  | [] => ([], 0, 6)
  | c :: r => if c = 34 then unqGo r [] 1 else ([], 0, 8)
/-- Labels as a text. -/
def labP (x : Lb) : Bs := bl x.1 ++ 61 :: quoteP (bl x.2)
def printFrom : Nat → List Lb → Bs
  | _, [] => [125]
  | k, x :: r => (if k = 0 then [] else [44, 32]) ++ labP x ++ printFrom (k + 1) r
def printP (l : List Lb) : Bs := 123 :: printFrom 0 l

/-- The labels of a text. -/
def bareP (s : Bs) : Bs := s.dropWhile (fun c => decide (c = 32))
def wordN (s : Bs) : Nat := (s.takeWhile fun c => letterN c.toNat).length
def markP (m : UInt8) : Bs → Option Bs
  | [] => none
  | c :: r => if c = m then some (bareP r) else none
def firstP (s : Bs) : Option (Lb × Bs) :=
  match markP 61 (bareP (s.drop (wordN s))) with
  | none => none
  | some r => if wordN s = 0 then none else if (unqP r).2.2 ≠ 0 then none else some ((mkB (s.take (wordN s)), mkB (unqP r).1), r.drop (unqP r).2.1)
def endP (s : Bs) (l : List Lb) : Option (List Lb) := if markP 125 s = some [] then some l else none
def parseA : Nat → Bs → List Lb → Option (List Lb)
  | 0, _, _ => none
  | k + 1, s, l =>
    match firstP s with
    | none => endP s l
    | some (x, r) =>
      match markP 44 (bareP r) with
      | some r' => parseA k r' (l ++ [x])
      | none => endP (bareP r) (l ++ [x])
def listP (s : Bs) : Option (List Lb) := match markP 123 (bareP s) with
  | none => none
  | some r => parseA (s.length + 1) r []
def parseP (s : Bs) : Nat × List Lb := match listP s with
  | none => (8, [])
  | some l => makeP l
/-- The same, as the document's answer goes: it looks for the end first. -/
def parseB : Nat → Bs → List Lb → Option (List Lb)
  | 0, _, _ => none
  | k + 1, s, l =>
    if s = [] ∨ s.headD 0 = 125 then endP s l
    else match firstP s with
      | none => none
      | some (x, r) =>
        if bareP r = [] then none
        else if (bareP r).headD 0 = 44 then parseB k (bareP (bareP r).tail) (l ++ [x])
        else if (bareP r).headD 0 = 125 then parseB k (bareP r) (l ++ [x])
        else none
end
section
set_option linter.unusedVariables false
set_option linter.unusedSimpArgs false
theorem named_parts {s : Bs} (h : namedP s = true) : s ≠ [] ∧ s.length ≤ 64 ∧ (s.all fun c => letterN c.toNat) = true := by
  unfold namedP at h
  simp only [Bool.and_eq_true, decide_eq_true_eq] at h
  refine ⟨fun e => by rw [e] at h; simp at h, h.1.1.2, h.1.2⟩
theorem rightAt_zero {p : Option ByteArray} {x : Lb} (h : rightAt p x = 0) : faultP x = 0 ∧ x.2.size ≠ 0 ∧ ∀ q, p = some q → bl q < bl x.1 := by
  unfold rightAt at h
  by_cases h1 : faultP x ≠ 0
  · rw [if_pos h1] at h; exact absurd h h1
  · rw [if_neg h1] at h
    by_cases h2 : x.2.size = 0
    · rw [if_pos h2] at h; cases h
    · rw [if_neg h2] at h
      refine ⟨by omega, h2, fun q hq => ?_⟩
      subst hq
      simp only at h
      by_cases h3 : bl q < bl x.1
      · exact h3
      · rw [if_neg h3] at h; cases h
theorem rightGo_zero : ∀ {l : List Lb} {p : Option ByteArray}, rightGo p l = 0 → (∀ x ∈ l, faultP x = 0 ∧ x.2.size ≠ 0) ∧ Rising l ∧ ∀ q, p = some q → ∀ x ∈ l, bl q < bl x.1
  | [], p, _ => ⟨fun x hx => (by cases hx), by simp [Rising], fun q _ x hx => (by cases hx)⟩
  | x :: r, p, h => by
    rw [rightGo] at h
    by_cases h1 : rightAt p x ≠ 0
    · rw [if_pos h1] at h; exact absurd h h1
    · rw [if_neg h1] at h
      obtain ⟨a1, a2, a3⟩ := rightAt_zero (show rightAt p x = 0 by omega)
      obtain ⟨b1, b2, b3⟩ := rightGo_zero h
      refine ⟨fun y hy => ?_, List.pairwise_cons.2 ⟨b3 x.1 rfl, b2⟩, fun q hq y hy => ?_⟩
      · rcases List.mem_cons.1 hy with rfl | hy
        · exact ⟨a1, a2⟩
        · exact b1 y hy
      · rcases List.mem_cons.1 hy with rfl | hy
        · exact a3 q hq
        · exact ltB_trans (a3 q hq) (b3 x.1 rfl y hy)
theorem right_parts {l : List Lb} (h : rightP l = 0) : l.length ≤ 16 ∧ (∀ x ∈ l, faultP x = 0 ∧ x.2.size ≠ 0) ∧ Rising l := by
  unfold rightP at h
  by_cases h1 : 16 < l.length
  · rw [if_pos h1] at h; cases h
  · rw [if_neg h1] at h
    obtain ⟨a, b, _⟩ := rightGo_zero h
    exact ⟨by omega, a, b⟩
theorem fault_parts {x : Lb} (h : faultP x = 0) : namedP (bl x.1) = true ∧ valuedP (bl x.2) = true := by
  unfold faultP at h
  by_cases h1 : namedP (bl x.1) = false
  · rw [if_pos h1] at h; cases h
  · rw [if_neg h1] at h
    by_cases h2 : valuedP (bl x.2) = false
    · rw [if_pos h2] at h; cases h
    · exact ⟨by simpa using h1, by simpa using h2⟩
end
section
set_option linter.unusedVariables false
set_option linter.unusedSimpArgs false
theorem getP_mem {l : List Lb} {x : Lb} (hr : Rising l) (hx : x ∈ l) : getP l x.1 = x.2 := by
  unfold getP
  cases hf : l.find? (fun y => decide (y.1 = x.1)) with
  | none =>
    rw [List.find?_eq_none] at hf
    exact absurd (hf x hx) (by simp)
  | some y =>
    have h1 := List.find?_some hf
    have h2 := List.mem_of_find?_eq_some hf
    simp only [decide_eq_true_eq] at h1
    have hn := rising_nodup hr
    have : y = x := by
      obtain ⟨i, hi, e1⟩ := List.mem_iff_getElem.1 h2
      obtain ⟨j, hj, e2⟩ := List.mem_iff_getElem.1 hx
      have hij : i = j := by
        rw [List.Nodup, List.pairwise_iff_getElem] at hn
        rcases Nat.lt_trichotomy i j with h | h | h
        · have := hn i j (by simpa using hi) (by simpa using hj) h
          simp only [List.getElem_map] at this
          rw [e1, e2] at this
          exact absurd (by rw [h1]) this
        · exact h
        · have := hn j i (by simpa using hj) (by simpa using hi) h
          simp only [List.getElem_map] at this
          rw [e1, e2] at this
          exact absurd (by rw [h1]) this
      subst hij
      rw [← e1, ← e2]
    subst this
    rfl
theorem getP_none {l : List Lb} {n : ByteArray} (h : ∀ x ∈ l, x.1 ≠ n) : getP l n = mkB [] := by
  unfold getP
  rw [List.find?_eq_none.2 fun x hx => by simpa using h x hx]
  rfl
/-- How often a label stands in a list. -/
def cntL (y : Lb) (l : List Lb) : Nat := l.countP fun z => decide (z = y)
end
section
set_option linter.unusedVariables false
set_option linter.unusedSimpArgs false

/-- How many bytes the rune has at the head of n bytes that begin b0 b1 b2 b3; 0: there is none. -/
def stepN (n b0 b1 b2 b3 : Nat) : Nat :=
  if b0 < 128 then 1
  else if (194 ≤ b0 ∧ b0 < 224) ∧ (1 < n ∧ b1 / 64 = 2) then 2
  else if (224 ≤ b0 ∧ b0 < 240) ∧ (1 < n ∧ b1 / 64 = 2) ∧ (2 < n ∧ b2 / 64 = 2) then
    (if 2048 ≤ b0 % 16 * 4096 + b1 % 64 * 64 + b2 % 64 ∧ (b0 % 16 * 4096 + b1 % 64 * 64 + b2 % 64 < 55296 ∨ 57343 < b0 % 16 * 4096 + b1 % 64 * 64 + b2 % 64) then 3 else 0)
  else if (240 ≤ b0 ∧ b0 < 245) ∧ (1 < n ∧ b1 / 64 = 2) ∧ (2 < n ∧ b2 / 64 = 2) ∧ (3 < n ∧ b3 / 64 = 2) then
    (if 65536 ≤ b0 % 8 * 262144 + b1 % 64 * 4096 + b2 % 64 * 64 + b3 % 64 ∧ b0 % 8 * 262144 + b1 % 64 * 4096 + b2 % 64 * 64 + b3 % 64 ≤ 1114111 then 4 else 0)
  else 0
set_option maxRecDepth 100000 in
set_option maxHeartbeats 4000000 in
theorem stepN_decode (n b0 b1 b2 b3 : Nat) (h0 : b0 < 256) (h1 : b1 < 256) (h2 : b2 < 256) (h3 : b3 < 256) :
    (stepN n b0 b1 b2 b3 = 0 ∧ Lib.decodeN n b0 b1 b2 b3 = (65533, 1)) ∨ (0 < stepN n b0 b1 b2 b3 ∧ (Lib.decodeN n b0 b1 b2 b3).2 = stepN n b0 b1 b2 b3 ∧ ¬ ((Lib.decodeN n b0 b1 b2 b3).1 = 65533 ∧ (Lib.decodeN n b0 b1 b2 b3).2 = 1)) := by
  unfold stepN Lib.decodeN
  by_cases a0 : b0 < 128
  · rw [if_pos a0, if_pos a0]; right; simp; omega
  rw [if_neg a0, if_neg a0]
  by_cases a1 : b0 / 32 = 6 ∧ (1 < n ∧ b1 / 64 = 2)
  · rw [if_pos a1]
    by_cases a2 : 194 ≤ b0
    · rw [if_pos ⟨⟨a2, by omega⟩, a1.2⟩, if_pos (by omega)]; right; simp
    · rw [if_neg (by omega), if_neg (by omega), if_neg (by omega), if_neg (by omega)]; left; simp
  rw [if_neg a1, if_neg (fun h => a1 ⟨by omega, h.2⟩)]
  by_cases b1' : b0 / 16 = 14 ∧ (1 < n ∧ b1 / 64 = 2) ∧ (2 < n ∧ b2 / 64 = 2)
  · rw [if_pos b1', if_pos ⟨⟨by omega, by omega⟩, b1'.2⟩]
    have hv : b0 % 16 * 4096 + b1 % 64 * 64 + b2 % 64 ≤ 1114111 := by omega
    by_cases c : 2048 ≤ b0 % 16 * 4096 + b1 % 64 * 64 + b2 % 64 ∧ (b0 % 16 * 4096 + b1 % 64 * 64 + b2 % 64 < 55296 ∨ 57343 < b0 % 16 * 4096 + b1 % 64 * 64 + b2 % 64)
    · rw [if_pos c, if_pos ⟨c.1, by omega⟩]; right; simp
    · rw [if_neg c, if_neg (fun h => c ⟨h.1, by omega⟩)]; left; simp
  rw [if_neg b1', if_neg (fun h => b1' ⟨by omega, h.2⟩)]
  by_cases d1 : b0 / 8 = 30 ∧ (1 < n ∧ b1 / 64 = 2) ∧ (2 < n ∧ b2 / 64 = 2) ∧ (3 < n ∧ b3 / 64 = 2)
  · rw [if_pos d1]
    by_cases a2 : b0 < 245
    · rw [if_pos ⟨⟨by omega, a2⟩, d1.2⟩]
      by_cases c : 65536 ≤ b0 % 8 * 262144 + b1 % 64 * 4096 + b2 % 64 * 64 + b3 % 64 ∧ b0 % 8 * 262144 + b1 % 64 * 4096 + b2 % 64 * 64 + b3 % 64 ≤ 1114111
      · rw [if_pos c, if_pos ⟨c.1, by omega⟩]; right; simp
      · rw [if_neg c, if_neg (by omega)]; left; simp
    · rw [if_neg (by omega), if_neg (by omega)]; left; simp
  · rw [if_neg d1, if_neg (fun h => d1 ⟨by omega, h.2⟩)]; left; simp
def stepB (l : Bs) : Nat := stepN l.length (l.getD 0 0).toNat (l.getD 1 0).toNat (l.getD 2 0).toNat (l.getD 3 0).toNat
theorem valid_stepB (l : Bs) (hne : l ≠ []) : Lib.validD l = if stepB l = 0 then false else Lib.validD (l.drop (stepB l)) := by
  rw [Lib.validD_step l hne, Lib.decodeL_N]
  rcases stepN_decode l.length (l.getD 0 0).toNat (l.getD 1 0).toNat (l.getD 2 0).toNat (l.getD 3 0).toNat (l.getD 0 0).toNat_lt (l.getD 1 0).toNat_lt (l.getD 2 0).toNat_lt (l.getD 3 0).toNat_lt with ⟨h, e⟩ | ⟨h, e, n⟩
  · rw [e, if_pos ⟨rfl, rfl⟩, if_pos (show stepB l = 0 from h)]
  · rw [if_neg n, if_neg (by unfold stepB; omega), e]; rfl
theorem stepB_le (l : Bs) : stepB l ≤ l.length ∨ l = [] := by
  by_cases h : l = []
  · exact .inr h
  · left
    have hl : 0 < l.length := List.length_pos_iff.2 h
    unfold stepB stepN
    repeat' split
    all_goals omega
end
end
end Go.Proofs.YtjgappbomohlcaaGreatDoor
