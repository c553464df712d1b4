/-
  Labels, plainly: texts as lists of bytes, names, values, what is wrong with labels, labels as they are right, parts, an order. Nothing here speaks of the program.
-/
import Derived.Lib.ValidLaws
import Derived.Lib.Bytealg
import Derived.Sort.LotA
namespace Go.Proofs.YtmgjlldccmgpcaaDoor
set_option linter.unusedVariables false
set_option linter.unusedSimpArgs false

abbrev Bs := List UInt8
def mkB (l : Bs) : ByteArray := ⟨l.toArray⟩
def bl (s : ByteArray) : Bs := s.data.toList
theorem bl_mk (l : Bs) : bl (mkB l) = l := by simp [bl, mkB]
theorem mk_bl (s : ByteArray) : mkB (bl s) = s := by cases s; simp [bl, mkB]
theorem bl_len (s : ByteArray) : (bl s).length = s.size := by cases s; simp [bl, ByteArray.size]
theorem bl_inj {a b : ByteArray} (h : bl a = bl b) : a = b := by rw [← mk_bl a, h, mk_bl]
theorem bl_inj_iff {a b : ByteArray} : bl a = bl b ↔ a = b := ⟨bl_inj, fun h => by rw [h]⟩
theorem toList_bl (s : ByteArray) : s.toList = bl s := ByteArray.toList_eq s
theorem mkB_size (l : Bs) : (mkB l).size = l.length := by simp [mkB, ByteArray.size]

/-- The order of texts. -/
theorem ltB_irrefl (a : Bs) : ¬ a < a := by simp
theorem ltB_trans {a b c : Bs} (h : a < b) (k : b < c) : a < c := by
  have := Go.Sort.swo_ltStr.trans a b c (by simpa [Go.Sort.ltStr] using h) (by simpa [Go.Sort.ltStr] using k)
  simpa [Go.Sort.ltStr] using this
theorem ltB_asymm {a b : Bs} (h : a < b) : ¬ b < a := fun k => ltB_irrefl a (ltB_trans h k)
theorem cmpB_spec : ∀ a b : Bs, (Lib.compareBytes a b = -1 ∧ a < b) ∨ (Lib.compareBytes a b = 0 ∧ a = b) ∨ (Lib.compareBytes a b = 1 ∧ b < a)
  | [], [] => .inr (.inl ⟨rfl, rfl⟩)
  | [], _ :: _ => .inl ⟨rfl, by simp⟩
  | _ :: _, [] => .inr (.inr ⟨rfl, by simp⟩)
  | x :: a, y :: b => by
    unfold Lib.compareBytes
    simp only [List.cons_lt_cons_iff]
    by_cases h1 : x < y
    · exact .inl ⟨by rw [if_pos h1], .inl h1⟩
    · by_cases h2 : y < x
      · exact .inr (.inr ⟨by rw [if_neg h1, if_pos h2], .inl h2⟩)
      · rw [if_neg h1, if_neg h2]
        have e : x = y := UInt8.le_antisymm (UInt8.not_lt.1 h2) (UInt8.not_lt.1 h1)
        subst e
        rcases cmpB_spec a b with ⟨e, h⟩ | ⟨e, h⟩ | ⟨e, h⟩
        · exact .inl ⟨e, .inr ⟨rfl, h⟩⟩
        · exact .inr (.inl ⟨e, by rw [h]⟩)
        · exact .inr (.inr ⟨e, .inr ⟨rfl, h⟩⟩)
theorem ltB_total (a b : Bs) : a < b ∨ a = b ∨ b < a := by
  rcases cmpB_spec a b with ⟨_, h⟩ | ⟨_, h⟩ | ⟨_, h⟩
  · exact .inl h
  · exact .inr (.inl h)
  · exact .inr (.inr h)
theorem cmpB_lt {a b : Bs} (h : a < b) : Lib.compareBytes a b = -1 := by
  rcases cmpB_spec a b with ⟨e, _⟩ | ⟨e, h'⟩ | ⟨e, h'⟩
  · exact e
  · subst h'; exact absurd h (ltB_irrefl _)
  · exact absurd h (ltB_asymm h')
theorem cmpB_gt {a b : Bs} (h : b < a) : Lib.compareBytes a b = 1 := by
  rcases cmpB_spec a b with ⟨e, h'⟩ | ⟨e, h'⟩ | ⟨e, h'⟩
  · exact absurd h (ltB_asymm h')
  · subst h'; exact absurd h (ltB_irrefl _)
  · exact e
theorem cmpB_self (a : Bs) : Lib.compareBytes a a = 0 := by
  rcases cmpB_spec a a with ⟨e, h⟩ | ⟨e, h⟩ | ⟨e, h⟩
  · exact absurd h (ltB_irrefl _)
  · exact e
  · exact absurd h (ltB_irrefl _)
theorem cmpB_zero {a b : Bs} : Lib.compareBytes a b = 0 ↔ a = b := by
  constructor
  · intro h
    rcases cmpB_spec a b with ⟨e, _⟩ | ⟨_, h'⟩ | ⟨e, _⟩
    · rw [e] at h; cases h
    · exact h'
    · rw [e] at h; cases h
  · rintro rfl; exact cmpB_self a
theorem cmpB_neg {a b : Bs} : Lib.compareBytes a b < 0 ↔ a < b := by
  rcases cmpB_spec a b with ⟨e, h⟩ | ⟨e, h⟩ | ⟨e, h⟩
  · rw [e]; simp [h]
  · subst h; rw [e]; simp [ltB_irrefl]
  · rw [e]; simp [ltB_asymm h]

/-- A label: a name and a value. -/
abbrev Lb := ByteArray × ByteArray
def letterN (c : Nat) : Bool := c == 95 || (decide (97 ≤ c) && decide (c ≤ 122)) || (decide (65 ≤ c) && decide (c ≤ 90)) || (decide (48 ≤ c) && decide (c ≤ 57))
def digitN (c : Nat) : Bool := decide (48 ≤ c) && decide (c ≤ 57)
def namedP (l : Bs) : Bool := decide (1 ≤ l.length) && decide (l.length ≤ 64) && l.all (fun c => letterN c.toNat) && !digitN (l.headD 0).toNat
def valuedP (l : Bs) : Bool := decide (l.length ≤ 128) && Lib.validD l
def faultP (x : Lb) : Nat := if namedP (bl x.1) = false then 50 else if valuedP (bl x.2) = false then 51 else 0
def rightAt (prev : Option ByteArray) (x : Lb) : Nat :=
  if faultP x ≠ 0 then faultP x else if x.2.size = 0 then 51 else match prev with
    | none => 0
    | some p => if bl p < bl x.1 then 0 else 53
def rightGo : Option ByteArray → List Lb → Nat
  | _, [] => 0
  | p, x :: r => if rightAt p x ≠ 0 then rightAt p x else rightGo (some x.1) r
def rightP (l : List Lb) : Nat := if 16 < l.length then 3 else rightGo none l
def prevAt (l : List Lb) (k : Nat) : Option ByteArray := if k = 0 then none else (l[k - 1]?).map (·.1)
theorem rightGo_step {l : List Lb} {k : Nat} (h : k < l.length) : rightGo (prevAt l k) (l.drop k) = if rightAt (prevAt l k) l[k] ≠ 0 then rightAt (prevAt l k) l[k] else rightGo (prevAt l (k + 1)) (l.drop (k + 1)) := by
  rw [List.drop_eq_getElem_cons h, rightGo]
  have : prevAt l (k + 1) = some l[k].1 := by simp [prevAt, h]
  rw [this]
theorem faultP_le (x : Lb) : faultP x = 0 ∨ faultP x = 50 ∨ faultP x = 51 := by unfold faultP; repeat' split <;> simp

/-- What is wrong first with labels by themselves. -/
def faultsP : List Lb → Nat
  | [] => 0
  | x :: r => if faultP x ≠ 0 then faultP x else faultsP r
def putP (x : Lb) : List Lb → List Lb
  | [] => [x]
  | y :: r => if bl y.1 < bl x.1 then y :: putP x r else x :: y :: r
def sortP : List Lb → List Lb
  | [] => []
  | x :: r => putP x (sortP r)
def fullP (l : List Lb) : List Lb := l.filter fun x => x.2.size != 0
def makeP (l : List Lb) : Nat × List Lb :=
  if faultsP l ≠ 0 then (faultsP l, []) else if ¬ (l.map fun x => bl x.1).Nodup then (52, []) else if 16 < (fullP l).length then (3, []) else (0, sortP (fullP l))
/-- By rising names. -/
def Rising (l : List Lb) : Prop := l.Pairwise fun x y => bl x.1 < bl y.1
theorem putP_perm (x : Lb) : ∀ l, (putP x l).Perm (x :: l)
  | [] => List.Perm.refl _
  | y :: r => by
    unfold putP
    split
    · exact ((putP_perm x r).cons y).trans (List.Perm.swap x y r)
    · exact List.Perm.refl _
theorem sortP_perm : ∀ l, (sortP l).Perm l
  | [] => List.Perm.refl _
  | x :: r => (putP_perm x _).trans ((sortP_perm r).cons x)
theorem putP_rising {x : Lb} : ∀ {l}, Rising l → (∀ y ∈ l, bl y.1 ≠ bl x.1) → Rising (putP x l)
  | [], _, _ => by simp [putP, Rising]
  | y :: r, h, hn => by
    have h' := List.pairwise_cons.1 h
    unfold putP
    split
    · rename_i hlt
      refine List.pairwise_cons.2 ⟨fun z hz => ?_, putP_rising h'.2 fun z hz => hn z (List.mem_cons_of_mem _ hz)⟩
      rcases List.mem_cons.1 ((putP_perm x r).subset hz) with rfl | hz
      · exact hlt
      · exact h'.1 z hz
    · rename_i hlt
      have hxy : bl x.1 < bl y.1 := by
        rcases ltB_total (bl y.1) (bl x.1) with h | h | h
        · exact absurd h hlt
        · exact absurd h (hn y List.mem_cons_self)
        · exact h
      refine List.pairwise_cons.2 ⟨fun z hz => ?_, h⟩
      rcases List.mem_cons.1 hz with rfl | hz
      · exact hxy
      · exact ltB_trans hxy (h'.1 z hz)
theorem sortP_rising : ∀ {l : List Lb}, (l.map fun x => bl x.1).Nodup → Rising (sortP l)
  | [], _ => by simp [sortP, Rising]
  | x :: r, h => by
    rw [List.map_cons, List.nodup_cons] at h
    refine putP_rising (sortP_rising h.2) fun y hy e => h.1 ?_
    rw [← e]
    exact List.mem_map_of_mem ((sortP_perm r).subset hy)
/-- Of the same labels there is one list by rising names. -/
theorem rising_unique : ∀ {l m : List Lb}, l.Perm m → Rising l → Rising m → l = m := by
  intro l m h hl hm
  refine h.eq_of_pairwise (le := fun x y : Lb => bl x.1 < bl y.1) (fun a b _ _ h1 h2 => absurd h1 (ltB_asymm h2)) hl hm
theorem rising_filter {l : List Lb} (p : Lb → Bool) (h : Rising l) : Rising (l.filter p) := List.Pairwise.filter p h
theorem nodup_filter {l : List Lb} (p : Lb → Bool) (h : (l.map fun x => bl x.1).Nodup) : ((l.filter p).map fun x => bl x.1).Nodup :=
  h.sublist (List.filter_sublist.map _)
theorem nodup_perm {l m : List Lb} (h : l.Perm m) : (l.map fun x => bl x.1).Nodup ↔ (m.map fun x => bl x.1).Nodup := (h.map _).nodup_iff
theorem rising_nodup {l : List Lb} (h : Rising l) : (l.map fun x => bl x.1).Nodup := by
  unfold Rising at h
  rw [List.Nodup, List.pairwise_map]
  exact h.imp fun hlt e => by rw [e] at hlt; exact ltB_irrefl _ hlt

/-- What is sorted and has no two names alike beside one another is by rising names. -/
theorem sorted_rising {m : List Lb} (hs : m.Pairwise fun x y => ¬ bl y.1 < bl x.1) (ha : ∀ j, (h : j + 1 < m.length) → bl m[j].1 ≠ bl m[j + 1].1) : Rising m := by
  unfold Rising
  rw [List.pairwise_iff_getElem] at hs ⊢
  intro i j hi hj hij
  have h1 := hs i j hi hj hij
  rcases ltB_total (bl m[i].1) (bl m[j].1) with h | h | h
  · exact h
  · exfalso
    by_cases e : j = i + 1
    · subst e; exact ha i hj h
    · have a1 := hs i (i + 1) hi (by omega) (by omega)
      have a2 := hs (i + 1) j (by omega) hj (by omega)
      rw [← h] at a2
      rcases ltB_total (bl m[i].1) (bl m[i + 1].1) with k | k | k
      · exact a2 k
      · exact ha i (by omega) k
      · exact a1 k
  · exact absurd h h1
theorem twice_not {m : List Lb} {j : Nat} (h : j + 1 < m.length) (e : bl m[j].1 = bl m[j + 1].1) : ¬ (m.map fun x => bl x.1).Nodup := by
  intro hn
  rw [List.Nodup, List.pairwise_iff_getElem] at hn
  have := hn j (j + 1) (by simp; omega) (by simpa using h) (by omega)
  simp at this
  exact this e
theorem make_of {l m : List Lb} (h0 : faultsP l = 0) (hp : m.Perm l) (hr : Rising m) : makeP l = if 16 < (fullP m).length then (3, []) else (0, fullP m) := by
  have hn : (l.map fun x => bl x.1).Nodup := (nodup_perm hp).1 (rising_nodup hr)
  have hf : (fullP m).Perm (fullP l) := hp.filter _
  have he : sortP (fullP l) = fullP m := rising_unique ((sortP_perm _).trans hf.symm) (sortP_rising (nodup_filter _ hn)) (rising_filter _ hr)
  unfold makeP
  rw [if_neg (by omega), if_neg (by simpa using hn), he, hf.length_eq]
theorem make_twice {l m : List Lb} (h0 : faultsP l = 0) (hp : m.Perm l) (hn : ¬ (m.map fun x => bl x.1).Nodup) : makeP l = (52, []) := by
  unfold makeP
  rw [if_neg (by omega), if_pos (fun h => hn ((nodup_perm hp).2 h))]
/-- A name's value; the labels of some names; labels with another value. -/
def getP (l : List Lb) (n : ByteArray) : ByteArray := ((l.find? fun x => decide (x.1 = n)).map (·.2)).getD (mkB [])
def byP (l : List Lb) (ns : List ByteArray) : List Lb := l.filter fun x => decide (bl x.1 ∈ ns.map bl)
def nameLabel : Bs := [95, 95, 110, 97, 109, 101, 95, 95]
def woP (l : List Lb) (ns : List ByteArray) : List Lb := l.filter fun x => !decide (bl x.1 = nameLabel) && !decide (bl x.1 ∈ ns.map bl)
def withP (l : List Lb) (n v : ByteArray) : Nat × List Lb := if rightP l ≠ 0 then (rightP l, []) else makeP (l.filter (fun x => !decide (x.1 = n)) ++ [(n, v)])

/-- Labels held against each other. -/
def compareP : List Lb → List Lb → Int
  | [], [] => 0
  | [], _ :: _ => -1
  | _ :: _, [] => 1
  | x :: a, y :: b => if Lib.compareBytes (bl x.1) (bl y.1) ≠ 0 then Lib.compareBytes (bl x.1) (bl y.1) else if Lib.compareBytes (bl x.2) (bl y.2) ≠ 0 then Lib.compareBytes (bl x.2) (bl y.2) else compareP a b
end Go.Proofs.YtmgjlldccmgpcaaDoor
