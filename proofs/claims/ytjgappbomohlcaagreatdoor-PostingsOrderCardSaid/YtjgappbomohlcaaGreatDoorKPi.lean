/-
  Postings, plainly: numbers that rise, each once; series by their numbers, what comes of adding and of taking away; which numbers a selector selects.
-/
import Derived.Test.YtjgappbomohlcaaGreatDoorK02
import Derived.Test.YtjgappbomohlcaaGreatDoorK00
import Derived.Test.YtjgappbomohlcaaGreatDoorK01
namespace Go.Proofs.YtjgappbomohlcaaGreatDoor
section
set_option linter.unusedVariables false
set_option linter.unusedSimpArgs false
/-! ### series -/
abbrev Ser := Nat × List Lb
def refIn (L : List Ser) (n : Nat) : Bool := L.any fun s => decide (s.1 = n)
def labIn (L : List Ser) (l : List Lb) : Bool := L.any fun s => decide (s.2 = l)
def addC (L : List Ser) (n : Nat) (l : List Lb) : Nat := if rightP l ≠ 0 then rightP l else if (refIn L n || labIn L l) = true then 100 else if L.length = 4096 then 5 else 0
def addL (L : List Ser) (n : Nat) (l : List Lb) : List Ser := if addC L n l = 0 then L ++ [(n, l)] else L
def cutC (L : List Ser) (n : Nat) : Nat := if refIn L n = true then 0 else 101
def cutL (L : List Ser) (n : Nat) : List Ser := L.filter fun s => !decide (s.1 = n)
def refAt (L : List Ser) (l : List Lb) : Option Nat := (L.find? fun s => decide (s.2 = l)).map (·.1)
def labAt (L : List Ser) (n : Nat) : Option (List Lb) := (L.find? fun s => decide (s.1 = n)).map (·.2)
structure Wf (L : List Ser) : Prop where
  refs : (L.map (·.1)).Nodup
  labs : (L.map (·.2)).Nodup
  right : ∀ s ∈ L, rightP s.2 = 0
  few : L.length ≤ 4096
  num : ∀ s ∈ L, s.1 < 18446744073709551616
theorem refIn_iff {L : List Ser} {n : Nat} : refIn L n = true ↔ ∃ s ∈ L, s.1 = n := by unfold refIn; rw [List.any_eq_true]; simp
theorem labIn_iff {L : List Ser} {l : List Lb} : labIn L l = true ↔ ∃ s ∈ L, s.2 = l := by unfold labIn; rw [List.any_eq_true]; simp
theorem addC_zero {L : List Ser} {n : Nat} {l : List Lb} (h : addC L n l = 0) : rightP l = 0 ∧ refIn L n = false ∧ labIn L l = false ∧ L.length ≠ 4096 := by
  unfold addC at h
  split at h
  · omega
  · rename_i h1
    split at h
    · cases h
    · rename_i h2
      split at h
      · cases h
      · rename_i h3
        rw [Bool.or_eq_true, not_or] at h2
        exact ⟨by omega, by simpa using h2.1, by simpa using h2.2, h3⟩
theorem Wf.nil : Wf [] := ⟨List.nodup_nil, List.nodup_nil, by simp, by simp, by simp⟩
theorem Wf.add {L : List Ser} (h : Wf L) {n : Nat} (hn : n < 18446744073709551616) (l : List Lb) : Wf (addL L n l) := by
  unfold addL
  split
  · rename_i h0
    obtain ⟨h1, h2, h3, h4⟩ := addC_zero h0
    have g2 : ¬ ∃ s ∈ L, s.1 = n := by rw [← refIn_iff]; simp [h2]
    have g3 : ¬ ∃ s ∈ L, s.2 = l := by rw [← labIn_iff]; simp [h3]
    refine ⟨?_, ?_, ?_, ?_, ?_⟩
    · rw [List.map_append, List.nodup_append]
      refine ⟨h.refs, by simp, fun a ha b hb => ?_⟩
      obtain ⟨s, hs, rfl⟩ := List.mem_map.1 ha
      simp at hb; subst hb
      exact fun e => g2 ⟨s, hs, e⟩
    · rw [List.map_append, List.nodup_append]
      refine ⟨h.labs, by simp, fun a ha b hb => ?_⟩
      obtain ⟨s, hs, rfl⟩ := List.mem_map.1 ha
      simp at hb; subst hb
      exact fun e => g3 ⟨s, hs, e⟩
    · intro s hs
      rcases List.mem_append.1 hs with hs | hs
      · exact h.right s hs
      · rw [List.mem_singleton.1 hs]; exact h1
    · have := h.few; simp; omega
    · intro s hs
      rcases List.mem_append.1 hs with hs | hs
      · exact h.num s hs
      · rw [List.mem_singleton.1 hs]; exact hn
  · exact h
theorem Wf.cut {L : List Ser} (h : Wf L) (n : Nat) : Wf (cutL L n) :=
  ⟨List.Nodup.sublist (List.filter_sublist.map _) h.refs, List.Nodup.sublist (List.filter_sublist.map _) h.labs, fun s hs => h.right s (List.mem_filter.1 hs).1,
    Nat.le_trans (List.length_filter_le _ _) h.few, fun s hs => h.num s (List.mem_filter.1 hs).1⟩
theorem nodup_map_inj {α β : Type} {f : α → β} : ∀ {l : List α}, (l.map f).Nodup → ∀ {x y : α}, x ∈ l → y ∈ l → f x = f y → x = y
  | [], _, _, _, hx, _, _ => by simp at hx
  | a :: r, hn, x, y, hx, hy, e => by
    rw [List.map_cons, List.nodup_cons] at hn
    rcases List.mem_cons.1 hx with ex | hx
    · rcases List.mem_cons.1 hy with ey | hy
      · rw [ex, ey]
      · exact absurd (List.mem_map.2 ⟨y, hy, by rw [← e, ex]⟩) hn.1
    · rcases List.mem_cons.1 hy with ey | hy
      · exact absurd (List.mem_map.2 ⟨x, hx, by rw [e, ey]⟩) hn.1
      · exact nodup_map_inj hn.2 hx hy e
theorem Wf.one {L : List Ser} (h : Wf L) {s t : Ser} (hs : s ∈ L) (ht : t ∈ L) (e : s.1 = t.1) : s = t := nodup_map_inj h.refs hs ht e
theorem Wf.lab {L : List Ser} (h : Wf L) {s t : Ser} (hs : s ∈ L) (ht : t ∈ L) (e : s.2 = t.2) : s = t := nodup_map_inj h.labs hs ht e
theorem labAt_of {L : List Ser} (h : Wf L) {s : Ser} (hs : s ∈ L) : labAt L s.1 = some s.2 := by
  unfold labAt
  cases hf : L.find? fun t => decide (t.1 = s.1) with
  | none => simpa using List.find?_eq_none.1 hf s hs
  | some t =>
    have h1 := List.find?_some hf
    simp only [decide_eq_true_eq] at h1
    rw [h.one (List.mem_of_find?_eq_some hf) hs h1]; rfl
theorem labAt_some {L : List Ser} {n : Nat} {l : List Lb} (h : labAt L n = some l) : (n, l) ∈ L := by
  unfold labAt at h
  obtain ⟨t, ht, rfl⟩ := Option.map_eq_some_iff.1 h
  have h1 := List.find?_some ht
  simp only [decide_eq_true_eq] at h1
  rw [← h1]; exact List.mem_of_find?_eq_some ht
theorem labAt_none {L : List Ser} {n : Nat} : labAt L n = none ↔ refIn L n = false := by
  unfold labAt
  rw [Option.map_eq_none_iff, List.find?_eq_none, ← Bool.not_eq_true, refIn_iff]
  simp only [decide_eq_true_eq, not_exists, not_and]
theorem refAt_none {L : List Ser} {l : List Lb} : refAt L l = none ↔ labIn L l = false := by
  unfold refAt
  rw [Option.map_eq_none_iff, List.find?_eq_none, ← Bool.not_eq_true, labIn_iff]
  simp only [decide_eq_true_eq, not_exists, not_and]

/-! ### the bytes of labels tell which they are -/
theorem ofNat_inj {a b : Nat} (ha : a < 256) (hb : b < 256) (h : UInt8.ofNat a = UInt8.ofNat b) : a = b := by
  have := congrArg UInt8.toNat h
  rwa [ofNat_toNat' ha, ofNat_toNat' hb] at this
theorem pu_app (a : Nat) : ∀ (b : Nat) (r s : Bs), pu a ++ r = pu b ++ s → a = b ∧ r = s := by
  induction a using Nat.strongRecOn with
  | _ a ih =>
    intro b r s h
    by_cases ha : a < 128
    · by_cases hb : b < 128
      · rw [pu_last ha, pu_last hb] at h
        injection h with h1 h2
        exact ⟨ofNat_inj (by omega) (by omega) h1, h2⟩
      · rw [pu_last ha, pu_more (by omega)] at h
        injection h with h1 h2
        have := ofNat_inj (by omega) (by omega) h1
        omega
    · by_cases hb : b < 128
      · rw [pu_last hb, pu_more (by omega)] at h
        injection h with h1 h2
        have := ofNat_inj (by omega) (by omega) h1
        omega
      · rw [pu_more (by omega), pu_more (n := b) (by omega)] at h
        injection h with h1 h2
        have e1 := ofNat_inj (by omega) (by omega) h1
        obtain ⟨e2, e3⟩ := ih (a / 128) (by omega) _ _ _ h2
        exact ⟨by omega, e3⟩
theorem sizedP_app {x y : ByteArray} {r s : Bs} (h : sizedP x ++ r = sizedP y ++ s) : x = y ∧ r = s := by
  unfold sizedP at h
  rw [List.append_assoc, List.append_assoc] at h
  obtain ⟨e1, e2⟩ := pu_app _ _ _ _ h
  have := List.append_inj e2 (by rw [bl_len, bl_len, e1])
  exact ⟨bl_inj this.1, this.2⟩
theorem labBytes_app : ∀ {l m : List Lb} {r s : Bs}, l.length = m.length → labBytes l ++ r = labBytes m ++ s → l = m
  | [], [], _, _, _, _ => rfl
  | [], _ :: _, _, _, h, _ => by cases h
  | _ :: _, [], _, _, h, _ => by cases h
  | x :: l, y :: m, r, s, hl, h => by
    unfold labBytes at h
    rw [List.flatMap_cons, List.flatMap_cons] at h
    simp only [List.append_assoc] at h
    obtain ⟨e1, h⟩ := sizedP_app h
    obtain ⟨e2, h⟩ := sizedP_app h
    have e3 := labBytes_app (l := l) (m := m) (r := r) (s := s) (by simpa using hl) h
    rw [e3, show x = y from Prod.ext e1 e2]
theorem bytesP_inj {l m : List Lb} (hl : rightP l = 0) (hm : rightP m = 0) (h : (bytesP l).2 = (bytesP m).2) : l = m := by
  unfold bytesP at h
  rw [if_neg (by simp [hl]), if_neg (by simp [hm])] at h
  obtain ⟨e1, e2⟩ := pu_app _ _ _ _ h
  exact labBytes_app (r := []) (s := []) e1 (by simpa using e2)
def keyB (l : List Lb) : ByteArray := mkB (bytesP l).2
theorem keyB_inj {l m : List Lb} (hl : rightP l = 0) (hm : rightP m = 0) (h : keyB l = keyB m) : l = m := by
  refine bytesP_inj hl hm ?_
  have := congrArg bl h
  unfold keyB at this
  rwa [bl_mk, bl_mk] at this

/-! ### which series have a label -/
def inL (x : Lb) (l : List Lb) : Bool := l.any fun y => decide (y = x)
theorem inL_iff {x : Lb} {l : List Lb} : inL x l = true ↔ x ∈ l := by unfold inL; rw [List.any_eq_true]; simp
theorem inL_not {x : Lb} {l : List Lb} (h : x ∉ l) : inL x l = false := by rw [← Bool.not_eq_true, inL_iff]; exact h
def hasL (L : List Ser) (x : Lb) : List Nat := (L.filter fun s => inL x s.2).map (·.1)
theorem hasL_mem {L : List Ser} {x : Lb} {n : Nat} : n ∈ hasL L x ↔ ∃ s ∈ L, s.1 = n ∧ x ∈ s.2 := by
  unfold hasL
  rw [List.mem_map]
  constructor
  · rintro ⟨s, hs, rfl⟩; obtain ⟨h1, h2⟩ := List.mem_filter.1 hs; exact ⟨s, h1, rfl, inL_iff.1 h2⟩
  · rintro ⟨s, h1, rfl, h2⟩; exact ⟨s, List.mem_filter.2 ⟨h1, inL_iff.2 h2⟩, rfl⟩
theorem hasL_app (L : List Ser) (n : Nat) {l : List Lb} {x : Lb} (h : x ∈ l) : hasL (L ++ [(n, l)]) x = hasL L x ++ [n] := by
  unfold hasL
  rw [List.filter_append, List.map_append, List.filter_cons, if_pos (inL_iff.2 h)]; rfl
theorem hasL_app_not (L : List Ser) (n : Nat) {l : List Lb} {x : Lb} (h : x ∉ l) : hasL (L ++ [(n, l)]) x = hasL L x := by
  unfold hasL
  rw [List.filter_append, List.map_append, List.filter_cons, if_neg (by rw [inL_not h]; simp)]; simp
theorem hasL_len (L : List Ser) (x : Lb) : (hasL L x).length ≤ L.length := by unfold hasL; rw [List.length_map]; exact List.length_filter_le _ _
theorem hasL_cut (L : List Ser) (n : Nat) (x : Lb) : hasL (cutL L n) x = (hasL L x).filter fun m => !decide (m = n) := by
  unfold hasL cutL
  rw [List.filter_map, List.filter_filter, List.filter_filter]
  congr 1
  apply List.filter_congr
  intro s _
  simp only [Function.comp]
  rw [Bool.and_comm]

/-! ### selectors -/
def oppK (k : Int) : Int := if k = 1 then 2 else if k = 2 then 1 else if k = 3 then 4 else 3
def oppM (m : Mt') : Mt' := (oppK m.1, m.2)
theorem opp_check {m : Mt'} (h : checkM m = 0) : checkM (oppM m) = 0 := by
  have hk := check_kind h
  obtain ⟨k, n, v⟩ := m
  unfold oppM oppK
  unfold checkM at h ⊢
  simp only at h hk ⊢
  rcases hk with rfl | rfl | rfl | rfl <;> exact h
theorem opp_pass {m : Mt'} (h : checkM m = 0) (s : ByteArray) : passM (oppM m) s = !passM m s := by
  have hk := check_kind h
  obtain ⟨k, n, v⟩ := m
  unfold oppM oppK passM
  simp only at hk ⊢
  rcases hk with rfl | rfl | rfl | rfl <;> simp
theorem noneB_mk : noneB = mkB [] := rfl
theorem pass_get {l : List Lb} (hr : rightP l = 0) {n : ByteArray} {p : ByteArray → Bool} (h0 : p noneB = false) : p (getP l n) = true ↔ ∃ x ∈ l, x.1 = n ∧ p x.2 = true := by
  have hris := (right_parts hr).2.2
  by_cases h : ∃ x ∈ l, x.1 = n
  · obtain ⟨x, hx, rfl⟩ := h
    rw [getP_mem hris hx]
    constructor
    · intro hp; exact ⟨x, hx, rfl, hp⟩
    · rintro ⟨y, hy, e, hp⟩
      have e1 := getP_mem hris hy
      rw [e, getP_mem hris hx] at e1
      rw [e1]; exact hp
  · rw [getP_none fun x hx e => h ⟨x, hx, e⟩, ← noneB_mk, h0]
    exact ⟨fun e => (by cases e), fun ⟨x, hx, e, _⟩ => absurd ⟨x, hx, e⟩ h⟩
def selL (L : List Ser) (m : List Mt') : List Nat := riseN ((L.filter fun s => passesM m s.2).map (·.1))
/-- Does a matcher begin: does it ask for a label? -/
def asksM (m : Mt') : Bool := !passM m noneB
/-- The matcher whose labels are looked for. -/
def lookM (m : Mt') : Mt' := if asksM m = true then m else oppM m
theorem look_none {m : Mt'} (h : checkM m = 0) : passM (lookM m) noneB = false := by
  unfold lookM asksM
  cases hp : passM m noneB with
  | true => rw [if_neg (by simp), opp_pass h, hp]; rfl
  | false => rw [if_pos (by rfl)]; exact hp
theorem look_name (m : Mt') : (lookM m).2 = m.2 := by unfold lookM; split <;> rfl
theorem right_one {m : Mt'} (h : checkM m = 0) : rightM [m] = if asksM m = true then 0 else 71 := by
  unfold rightM checksM checksM bareM asksM
  rw [if_neg (by simp), if_neg (by simp [h])]
  cases hp : passM m noneB <;> simp [hp]
/-- The numbers that are told of a matcher. -/
def ToldN (L : List Ser) (m : Mt') (r : List Nat) : Prop := ∀ n, n ∈ r ↔ ∃ s ∈ L, s.1 = n ∧ ∃ x ∈ s.2, x.1 = m.2.1 ∧ passM (lookM m) x.2 = true
theorem told_pass {L : List Ser} (hL : Wf L) {m : Mt'} (h : checkM m = 0) {r : List Nat} (hr : ToldN L m r) (n : Nat) : n ∈ r ↔ ∃ s ∈ L, s.1 = n ∧ passM m (getP s.2 m.2.1) = asksM m := by
  rw [hr n]
  constructor
  · rintro ⟨s, hs, e, hx⟩
    refine ⟨s, hs, e, ?_⟩
    have h1 := (pass_get (hL.right s hs) (n := m.2.1) (p := passM (lookM m)) (look_none h)).2 hx
    unfold lookM at h1
    cases ha : asksM m with
    | true => rw [ha, if_pos rfl] at h1; exact h1
    | false => rw [ha, if_neg (by simp), opp_pass h] at h1; simpa using h1
  · rintro ⟨s, hs, e, hp⟩
    refine ⟨s, hs, e, (pass_get (hL.right s hs) (n := m.2.1) (p := passM (lookM m)) (look_none h)).1 ?_⟩
    unfold lookM
    cases ha : asksM m with
    | true => rw [if_pos rfl, hp, ha]
    | false => rw [if_neg (by simp), opp_pass h, hp, ha]; rfl
/-- What was found behind some matchers, and what is gone. -/
structure SelAt (L : List Ser) (m : List Mt') (begun : Bool) (f g : List Nat) : Prop where
  beg : begun = m.any asksM
  fnd : ∀ n, n ∈ f ↔ begun = true ∧ ∃ s ∈ L, s.1 = n ∧ ∀ x ∈ m, asksM x = true → passM x (getP s.2 x.2.1) = true
  gon : ∀ n, n ∈ g ↔ ∃ s ∈ L, s.1 = n ∧ ∃ x ∈ m, asksM x = false ∧ passM x (getP s.2 x.2.1) = false
theorem SelAt.nil (L : List Ser) : SelAt L [] false [] [] := ⟨rfl, fun n => by simp, fun n => by simp⟩
theorem SelAt.gone {L : List Ser} (hL : Wf L) {m : List Mt'} {b : Bool} {f g r : List Nat} (h : SelAt L m b f g) {x : Mt'} (hc : checkM x = 0) (ha : asksM x = false) (hr : ToldN L x r) : SelAt L (m ++ [x]) b f (orN g r) where
  beg := by rw [h.beg, List.any_append]; simp [ha]
  fnd n := by
    rw [h.fnd n]
    constructor
    · rintro ⟨hb, s, hs, e, ht⟩
      refine ⟨hb, s, hs, e, fun y hy hay => ?_⟩
      rcases List.mem_append.1 hy with hy | hy
      · exact ht y hy hay
      · rw [List.mem_singleton.1 hy, ha] at hay; cases hay
    · rintro ⟨hb, s, hs, e, ht⟩
      exact ⟨hb, s, hs, e, fun y hy hay => ht y (List.mem_append_left _ hy) hay⟩
  gon n := by
    rw [orN_mem, h.gon n, told_pass hL hc hr]
    constructor
    · rintro (⟨s, hs, e, y, hy, h1, h2⟩ | ⟨s, hs, e, hp⟩)
      · exact ⟨s, hs, e, y, List.mem_append_left _ hy, h1, h2⟩
      · exact ⟨s, hs, e, x, by simp, ha, by rw [hp, ha]⟩
    · rintro ⟨s, hs, e, y, hy, h1, h2⟩
      rcases List.mem_append.1 hy with hy | hy
      · exact .inl ⟨s, hs, e, y, hy, h1, h2⟩
      · rw [List.mem_singleton.1 hy] at h1 h2; exact .inr ⟨s, hs, e, by rw [h2, h1]⟩
theorem SelAt.first {L : List Ser} (hL : Wf L) {m : List Mt'} {f g r : List Nat} (h : SelAt L m false f g) {x : Mt'} (hc : checkM x = 0) (ha : asksM x = true) (hr : ToldN L x r) : SelAt L (m ++ [x]) true r g where
  beg := by rw [List.any_append]; simp [ha]
  fnd n := by
    rw [told_pass hL hc hr]
    have hno := h.beg
    constructor
    · rintro ⟨s, hs, e, hp⟩
      refine ⟨rfl, s, hs, e, fun y hy hay => ?_⟩
      rcases List.mem_append.1 hy with hy | hy
      · exact absurd (List.any_eq_true.2 ⟨y, hy, hay⟩) (by rw [← hno]; simp)
      · rw [List.mem_singleton.1 hy, hp, ha]
    · rintro ⟨_, s, hs, e, ht⟩
      exact ⟨s, hs, e, by rw [ht x (by simp) ha, ha]⟩
  gon n := by
    rw [h.gon n]
    constructor
    · rintro ⟨s, hs, e, y, hy, h1, h2⟩; exact ⟨s, hs, e, y, List.mem_append_left _ hy, h1, h2⟩
    · rintro ⟨s, hs, e, y, hy, h1, h2⟩
      rcases List.mem_append.1 hy with hy | hy
      · exact ⟨s, hs, e, y, hy, h1, h2⟩
      · rw [List.mem_singleton.1 hy, ha] at h1; cases h1
theorem SelAt.more {L : List Ser} (hL : Wf L) {m : List Mt'} {f g r : List Nat} (h : SelAt L m true f g) {x : Mt'} (hc : checkM x = 0) (ha : asksM x = true) (hr : ToldN L x r) : SelAt L (m ++ [x]) true (andN f r) g where
  beg := by rw [List.any_append]; simp [ha]
  fnd n := by
    rw [andN_mem, h.fnd n, told_pass hL hc hr]
    constructor
    · rintro ⟨⟨_, s, hs, e, ht⟩, t, ht1, e2, hp⟩
      have : t = s := hL.one ht1 hs (e2.trans e.symm)
      subst this
      refine ⟨rfl, t, hs, e, fun y hy hay => ?_⟩
      rcases List.mem_append.1 hy with hy | hy
      · exact ht y hy hay
      · rw [List.mem_singleton.1 hy, hp, ha]
    · rintro ⟨_, s, hs, e, ht⟩
      exact ⟨⟨rfl, s, hs, e, fun y hy hay => ht y (List.mem_append_left _ hy) hay⟩, s, hs, e, by rw [ht x (by simp) ha, ha]⟩
  gon n := by
    rw [h.gon n]
    constructor
    · rintro ⟨s, hs, e, y, hy, h1, h2⟩; exact ⟨s, hs, e, y, List.mem_append_left _ hy, h1, h2⟩
    · rintro ⟨s, hs, e, y, hy, h1, h2⟩
      rcases List.mem_append.1 hy with hy | hy
      · exact ⟨s, hs, e, y, hy, h1, h2⟩
      · rw [List.mem_singleton.1 hy, ha] at h1; cases h1
theorem SelAt.done {L : List Ser} (hL : Wf L) {m : List Mt'} {b : Bool} {f g : List Nat} (h : SelAt L m b f g) (hr : rightM m = 0) : lessN f g = selL L m := by
  obtain ⟨_, _, y, hy, hny⟩ := rightM_zero.1 hr
  have hb : b = true := by rw [h.beg]; exact List.any_eq_true.2 ⟨y, hy, by unfold asksM; rw [hny]; rfl⟩
  subst hb
  refine rise_of (riseN_ris _) fun n => ?_
  rw [lessN_mem, h.fnd n, h.gon n, List.mem_map]
  constructor
  · rintro ⟨⟨_, s, hs, e, ht⟩, hng⟩
    refine ⟨s, List.mem_filter.2 ⟨hs, ?_⟩, e⟩
    unfold passesM
    rw [List.all_eq_true]
    intro x hx
    cases ha : asksM x with
    | true => exact ht x hx ha
    | false =>
      cases hp : passM x (getP s.2 x.2.1) with
      | true => rfl
      | false => exact absurd ⟨s, hs, e, x, hx, ha, hp⟩ hng
  · rintro ⟨s, hs, e⟩
    obtain ⟨hs, hp⟩ := List.mem_filter.1 hs
    unfold passesM at hp
    rw [List.all_eq_true] at hp
    refine ⟨⟨rfl, s, hs, e, fun x hx _ => hp x hx⟩, ?_⟩
    rintro ⟨t, ht, e2, x, hx, _, hf⟩
    have : t = s := hL.one ht hs (e2.trans e.symm)
    subst this
    rw [hp x hx] at hf; cases hf
end
end Go.Proofs.YtjgappbomohlcaaGreatDoor
