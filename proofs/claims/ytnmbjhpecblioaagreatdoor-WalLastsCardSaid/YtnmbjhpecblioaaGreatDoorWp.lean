/-
  Segments of a log, plainly: their names, the numbers of names, what a disk's files have of them. Nothing here speaks of the program.
  A log, plainly: what its calls make of a disk's files. Nothing here speaks of the program.
-/
import Derived.Lib.AtoiAll
import Derived.Lib.ItoaNum
import Derived.Lib.Repeat
import Derived.Lib.Strings
import Derived.Test.YtnmbjhpecblioaaGreatDoorDk
import Derived.Test.YtnmbjhpecblioaaGreatDoorFs
namespace Go.Proofs.YtnmbjhpecblioaaGreatDoor
set_option linter.unusedVariables false
set_option linter.unusedSimpArgs false
section
set_option linter.unusedVariables false
set_option linter.unusedSimpArgs false
def wpre : Bs := [119, 97, 108, 46]
def wdig (n : Nat) : Bs := Lib.repeatL [48] (8 - (Lib.decDigits n).length) ++ Lib.decDigits n
def titleN (n : Int) : ByteArray := if n < 1 ∨ 99999999 < n then ⟨#[]⟩ else mkB (wpre ++ wdig n.toNat)
def digV (acc : Nat) (l : Bs) : Nat := l.foldl (fun a c => a * 10 + (c.toNat - 48)) acc
def DigsOk (l : Bs) : Prop := ∀ c ∈ l, 48 ≤ c.toNat ∧ c.toNat ≤ 57
def atoiV (l : Bs) : Int := match Lib.atoiAll l with | .ok v => v | .syntax => 0 | .range => Lib.atoiSat l
def numOf (s : ByteArray) : Option Nat := if 1 ≤ atoiV (Lib.trimPrefix (bl s) wpre) ∧ titleN (atoiV (Lib.trimPrefix (bl s) wpre)) = s then some (atoiV (Lib.trimPrefix (bl s) wpre)).toNat else none
theorem digV_app (acc : Nat) (a b : Bs) : digV acc (a ++ b) = digV (digV acc a) b := by unfold digV; rw [List.foldl_append]
theorem digV_zeros : ∀ k, digV 0 (Lib.repeatL [48] k) = 0
  | 0 => rfl
  | k + 1 => by
    show digV 0 ([48] ++ Lib.repeatL [48] k) = 0
    rw [digV_app]; exact digV_zeros k
theorem zeros_ok : ∀ k, DigsOk (Lib.repeatL [48] k)
  | 0 => fun c hc => by cases hc
  | k + 1 => fun c hc => by
    rcases List.mem_cons.1 (show c ∈ 48 :: Lib.repeatL [48] k from hc) with rfl | hc
    · decide
    · exact zeros_ok k c hc
theorem digit_nat {d : Nat} (h : d < 10) : (UInt8.ofNat (48 + d)).toNat = 48 + d := by rw [UInt8.toNat_ofNat', Nat.mod_eq_of_lt (by omega)]
theorem dec_ok : ∀ n, DigsOk (Lib.decDigits n) := by
  intro n
  induction n using Nat.strongRecOn with
  | _ n ih =>
    intro c hc
    rw [Lib.decDigits] at hc
    split at hc
    · rw [List.mem_singleton] at hc; subst hc
      rw [digit_nat (by assumption)]; omega
    · rcases List.mem_append.1 hc with hc | hc
      · exact ih (n / 10) (by omega) c hc
      · rw [List.mem_singleton] at hc; subst hc
        rw [digit_nat (by omega)]; omega
theorem dec_val : ∀ n, digV 0 (Lib.decDigits n) = n := by
  intro n
  induction n using Nat.strongRecOn with
  | _ n ih =>
    rw [Lib.decDigits]
    split
    · show 0 * 10 + ((UInt8.ofNat (48 + n)).toNat - 48) = n
      rw [digit_nat (by assumption)]; omega
    · rw [digV_app, ih (n / 10) (by omega)]
      show n / 10 * 10 + ((UInt8.ofNat (48 + n % 10)).toNat - 48) = n
      rw [digit_nat (by omega)]; omega
theorem dec_len : ∀ k n, n < 10 ^ (k + 1) → (Lib.decDigits n).length ≤ k + 1
  | 0, n, h => by rw [Lib.decDigits, dif_pos (by simpa using h)]; simp
  | k + 1, n, h => by
    rw [Lib.decDigits]
    split
    · simp
    · rw [List.length_append]
      have := dec_len k (n / 10) (by
        rw [Nat.pow_succ] at h
        omega)
      simp only [List.length_cons, List.length_nil]
      omega
theorem dec_pos (n : Nat) : Lib.decDigits n ≠ [] := by
  rw [Lib.decDigits]; split <;> simp
theorem wdig_len {n : Nat} (h : n ≤ 99999999) : (wdig n).length = 8 := by
  have := dec_len 7 n (by omega)
  unfold wdig
  rw [List.length_append, Lib.repeatL_length]
  simp only [List.length_cons, List.length_nil]
  omega
theorem wdig_ok (n : Nat) : DigsOk (wdig n) := fun c hc => by
  rcases List.mem_append.1 hc with hc | hc
  · exact zeros_ok _ c hc
  · exact dec_ok n c hc
theorem wdig_val (n : Nat) : digV 0 (wdig n) = n := by unfold wdig; rw [digV_app, digV_zeros, dec_val]
theorem digV_ge : ∀ (l : Bs) (acc : Nat), acc ≤ digV acc l
  | [], acc => Nat.le_refl _
  | c :: r, acc => by
    show acc ≤ digV (acc * 10 + (c.toNat - 48)) r
    have := digV_ge r (acc * 10 + (c.toNat - 48)); omega
theorem parse_digs : ∀ (l : Bs) (acc : Nat), DigsOk l → digV acc l ≤ 1000000000000000000 → Lib.parseUint10 acc l = .ok (digV acc l)
  | [], acc, _, _ => rfl
  | c :: r, acc, h, hb => by
    have hc := h c (List.mem_cons_self ..)
    have hb' : digV (acc * 10 + (c.toNat - 48)) r ≤ 1000000000000000000 := hb
    have hge := digV_ge r (acc * 10 + (c.toNat - 48))
    rw [Lib.parseUint10, if_pos hc, if_neg (by omega), if_neg (by omega)]
    exact parse_digs r _ (fun d hd => h d (List.mem_cons_of_mem _ hd)) hb'
theorem atoi_digs {l : Bs} (h : DigsOk l) (h0 : l ≠ []) (hb : digV 0 l ≤ 1000000000000000000) : Lib.atoiAll l = .ok (digV 0 l : Nat) := by
  cases l with
  | nil => exact absurd rfl h0
  | cons c r =>
    have hc := h c (List.mem_cons_self ..)
    have hp := parse_digs (c :: r) 0 h hb
    unfold Lib.atoiAll
    simp only
    rw [if_neg (by omega)]
    unfold Lib.parseMag
    rw [if_neg h0, hp]
    simp only
    rw [if_neg (by omega), if_neg (by omega), if_neg (by omega)]
theorem trim_title (l : Bs) : Lib.trimPrefix (wpre ++ l) wpre = l := by
  unfold Lib.trimPrefix Lib.hasPrefix
  rw [if_pos (by simp [wpre])]
  simp [wpre]
theorem title_in {n : Nat} (h : 1 ≤ n ∧ n ≤ 99999999) : titleN n = mkB (wpre ++ wdig n) := by
  unfold titleN; rw [if_neg (by omega)]; simp
theorem atoi_title {n : Nat} (h : 1 ≤ n ∧ n ≤ 99999999) : atoiV (Lib.trimPrefix (bl (titleN n)) wpre) = n := by
  have hl := wdig_len h.2
  rw [title_in h, bl_mk, trim_title]
  unfold atoiV
  rw [atoi_digs (wdig_ok n) (by intro e; rw [e] at hl; simp at hl) (by rw [wdig_val]; omega), wdig_val]
theorem num_title {n : Nat} (h : 1 ≤ n ∧ n ≤ 99999999) : numOf (titleN n) = some n := by
  unfold numOf
  rw [atoi_title h, if_pos ⟨by omega, rfl⟩]; simp
theorem title_size12 {n : Nat} (h : 1 ≤ n ∧ n ≤ 99999999) : (titleN n).size = 12 := by
  rw [← bl_len, title_in h, bl_mk, List.length_append, wdig_len h.2]; rfl
theorem title_zero : titleN 0 = ⟨#[]⟩ := by unfold titleN; rw [if_pos (by omega)]
theorem num_some {s : ByteArray} (hs : s.size ≠ 0) {n : Nat} (h : numOf s = some n) : (1 ≤ n ∧ n ≤ 99999999) ∧ titleN n = s := by
  unfold numOf at h
  split at h
  · rename_i hh
    injection h with h
    have h1 : (n : Int) = atoiV (Lib.trimPrefix (bl s) wpre) := by rw [← h]; omega
    rw [← h1] at hh
    refine ⟨⟨by omega, ?_⟩, hh.2⟩
    by_cases hb : (99999999 : Int) < n
    · have := hh.2
      unfold titleN at this
      rw [if_pos (.inr hb)] at this
      rw [← this] at hs
      exact absurd rfl hs
    · omega
  · cases h
theorem title_inj {m n : Nat} (hm : 1 ≤ m ∧ m ≤ 99999999) (hn : 1 ≤ n ∧ n ≤ 99999999) (h : titleN m = titleN n) : m = n := by
  have := num_title hm
  rw [h, num_title hn] at this
  injection this with this
  exact this.symm
theorem digV_split : ∀ (l : Bs) (acc : Nat), digV acc l = acc * 10 ^ l.length + digV 0 l
  | [], acc => by simp [digV]
  | c :: r, acc => by
    show digV (acc * 10 + (c.toNat - 48)) r = acc * 10 ^ (r.length + 1) + digV (0 * 10 + (c.toNat - 48)) r
    rw [digV_split r (acc * 10 + (c.toNat - 48)), digV_split r (0 * 10 + (c.toNat - 48)), Nat.pow_succ, Nat.zero_mul, Nat.zero_add, Nat.add_mul, Nat.mul_assoc, Nat.mul_comm 10, Nat.add_assoc]
theorem digV_lt : ∀ (l : Bs), DigsOk l → digV 0 l < 10 ^ l.length
  | [], _ => by simp [digV]
  | c :: r, h => by
    have hc := h c (List.mem_cons_self ..)
    have ih := digV_lt r fun d hd => h d (List.mem_cons_of_mem _ hd)
    show digV (0 * 10 + (c.toNat - 48)) r < 10 ^ (r.length + 1)
    rw [digV_split, Nat.zero_mul, Nat.zero_add, Nat.pow_succ]
    have : (c.toNat - 48) * 10 ^ r.length ≤ 9 * 10 ^ r.length := Nat.mul_le_mul_right _ (by omega)
    omega
theorem digs_order : ∀ (a b : Bs), DigsOk a → DigsOk b → a.length = b.length → digV 0 a < digV 0 b → a < b
  | [], [], _, _, _, h => absurd h (by simp [digV])
  | [], _ :: _, _, _, h, _ => by simp at h
  | _ :: _, [], _, _, h, _ => by simp at h
  | x :: a, y :: b, ha, hb, hl, h => by
    have hx := ha x (List.mem_cons_self ..); have hy := hb y (List.mem_cons_self ..)
    have ha' : DigsOk a := fun d hd => ha d (List.mem_cons_of_mem _ hd)
    have hb' : DigsOk b := fun d hd => hb d (List.mem_cons_of_mem _ hd)
    have hl' : a.length = b.length := by simpa using hl
    have h' : digV (0 * 10 + (x.toNat - 48)) a < digV (0 * 10 + (y.toNat - 48)) b := h
    rw [digV_split a, digV_split b, Nat.zero_mul, Nat.zero_add, Nat.zero_add, hl'] at h'
    have l1 := digV_lt a ha'; have l2 := digV_lt b hb'
    rw [hl'] at l1
    rcases Nat.lt_trichotomy x.toNat y.toNat with hxy | hxy | hxy
    · exact List.cons_lt_cons_iff.2 (.inl (UInt8.lt_iff_toNat_lt.2 hxy))
    · have : x = y := UInt8.toNat_inj.1 hxy
      subst this
      exact List.cons_lt_cons_iff.2 (.inr ⟨rfl, digs_order a b ha' hb' hl' (by omega)⟩)
    · have : (y.toNat - 48 + 1) * 10 ^ b.length ≤ (x.toNat - 48) * 10 ^ b.length := Nat.mul_le_mul_right _ (by omega)
      rw [Nat.add_mul] at this
      omega
theorem app_order (p : Bs) {a b : Bs} (h : a < b) : p ++ a < p ++ b := by
  induction p with
  | nil => exact h
  | cons x p ih => exact List.cons_lt_cons_iff.2 (.inr ⟨rfl, ih⟩)
theorem title_order {m n : Nat} (hm : 1 ≤ m ∧ m ≤ 99999999) (hn : 1 ≤ n ∧ n ≤ 99999999) (h : m < n) : bl (titleN m) < bl (titleN n) := by
  rw [title_in hm, title_in hn, bl_mk, bl_mk]
  exact app_order _ (digs_order _ _ (wdig_ok m) (wdig_ok n) (by rw [wdig_len hm.2, wdig_len hn.2]) (by rw [wdig_val, wdig_val]; exact h))
theorem title_rises {m n : Nat} (hm : 1 ≤ m ∧ m ≤ 99999999) (hn : 1 ≤ n ∧ n ≤ 99999999) (h : bl (titleN m) < bl (titleN n)) : m < n := by
  rcases Nat.lt_trichotomy m n with hh | hh | hh
  · exact hh
  · subst hh; exact absurd h (ltB_irrefl _)
  · exact absurd h (ltB_asymm (title_order hn hm hh))
/-- The numbers of the segments that a disk's files have, in the files' order. -/
def segsW (L : List Fl) : List Nat := L.filterMap fun f => numOf f.1
theorem segs_rise {L : List Fl} (hp : L.Pairwise fun a b => bl a.1 < bl b.1) (h0 : ∀ f ∈ L, f.1.size ≠ 0) : (segsW L).Pairwise (· < ·) := by
  induction L with
  | nil => exact List.Pairwise.nil
  | cons f r ih =>
    rw [List.pairwise_cons] at hp
    have ih := ih hp.2 fun g hg => h0 g (List.mem_cons_of_mem _ hg)
    unfold segsW at ih ⊢
    rw [List.filterMap_cons]
    cases hn : numOf f.1 with
    | none => exact ih
    | some n =>
      obtain ⟨b1, e1⟩ := num_some (h0 f (List.mem_cons_self ..)) hn
      simp only
      rw [List.pairwise_cons]
      refine ⟨fun m hm => ?_, ih⟩
      obtain ⟨g, hg, hm⟩ := List.mem_filterMap.1 hm
      obtain ⟨b2, e2⟩ := num_some (h0 g (List.mem_cons_of_mem _ hg)) hm
      refine title_rises b1 b2 ?_
      rw [e1, e2]
      exact hp.1 g hg
theorem mem_segs {L : List Fl} (h0 : ∀ f ∈ L, f.1.size ≠ 0) {n : Nat} : n ∈ segsW L ↔ (1 ≤ n ∧ n ≤ 99999999) ∧ ∃ f ∈ L, f.1 = titleN n := by
  unfold segsW
  rw [List.mem_filterMap]
  constructor
  · rintro ⟨f, hf, hn⟩
    obtain ⟨b, e⟩ := num_some (h0 f hf) hn
    exact ⟨b, f, hf, e.symm⟩
  · rintro ⟨b, f, hf, e⟩
    exact ⟨f, hf, by rw [e]; exact num_title b⟩
end
section
set_option linter.unusedVariables false
set_option linter.unusedSimpArgs false
/-- All files have names. -/
def Named (L : List Fl) : Prop := ∀ f ∈ L, f.1.size ≠ 0
/-- How many bytes the segment of that number has. -/
def lenW (L : List Fl) (n : Nat) : Nat := match lookL L (titleN n) with | none => 0 | some f => f.2.1.length
abbrev Lg := List Fl × Nat × Nat × Nat
def wsyncP (g : Lg) : Lg := ((syncD g.1 (titleN g.2.1)).2, g.2.1, g.2.2.1, g.2.2.1)
def wrollP (g : Lg) : Int × Lg := if g.2.1 = 99999999 then (5, g) else (0, (wsyncP g).1, (if 0 < lenW g.1 g.2.1 then g.2.1 + 1 else g.2.1), g.2.2.1, g.2.2.1)
def wtoP (g : Lg) (n : Nat) : Nat := if 0 < lenW g.1 g.2.1 ∧ 4096 < lenW g.1 g.2.1 + n then g.2.1 + 1 else g.2.1
def wtakesP (room : Nat) (L : List Fl) (n size : Nat) : Int := if 99999999 < n ∨ room < lenL L + size then 5 else if lookL L (titleN n) = none ∧ 64 ≤ L.length then 3 else 0
def wappP (room : Nat) (g : Lg) (b : List UInt8) : Int × Lg :=
  if 1048576 < b.length then (3, g)
  else if wtakesP room g.1 (wtoP g (frameF b).length) (frameF b).length ≠ 0 then (wtakesP room g.1 (wtoP g (frameF b).length) (frameF b).length, g)
  else (0, (appD room (if wtoP g (frameF b).length = g.2.1 then g.1 else (wsyncP g).1) (titleN (wtoP g (frameF b).length)) (frameF b)).2, wtoP g (frameF b).length, g.2.2.1 + 1, if wtoP g (frameF b).length = g.2.1 then g.2.2.2 else g.2.2.1)
def wdropL (n : Int) : List Nat → List Fl → List Fl
  | [], L => L
  | k :: r, L => if n ≤ (k : Int) then L else wdropL n r (remD L (titleN k)).2
def wdropP (g : Lg) (n : Int) : Int × Lg := if (g.2.1 : Int) < n then (1, g) else (0, wdropL n (segsW g.1) g.1, g.2.1, g.2.2.1, g.2.2.2)
theorem look_mem {L : List Fl} {s : ByteArray} {f : Fl} (h : lookL L s = some f) : f ∈ L ∧ f.1 = s := ⟨List.mem_of_find?_eq_some h, by simpa using List.find?_some h⟩
theorem look_of : ∀ {L : List Fl}, (L.Pairwise fun a b => a.1 ≠ b.1) → ∀ {g : Fl}, g ∈ L → lookL L g.1 = some g
  | x :: r, hp, g, hg => by
    rw [List.pairwise_cons] at hp
    unfold lookL
    rw [List.find?_cons]
    rcases List.mem_cons.1 hg with rfl | hg
    · simp
    · rw [decide_eq_false (hp.1 g hg)]
      exact look_of hp.2 hg
theorem look_none {L : List Fl} {s : ByteArray} (h : lookL L s = none) : ∀ f ∈ L, f.1 ≠ s := fun f hf e => by
  have := List.find?_eq_none.1 h f hf
  simp [e] at this
theorem distinct {L : List Fl} (hp : L.Pairwise fun a b => bl a.1 < bl b.1) : L.Pairwise fun a b => a.1 ≠ b.1 := hp.imp fun hlt e => by rw [e] at hlt; exact ltB_irrefl _ hlt
theorem upd_names (L : List Fl) (x : Fl) : (updL L x).map (fun f => f.1) = L.map fun f => f.1 := by
  unfold updL
  rw [List.map_map]
  refine List.map_congr_left fun f hf => ?_
  simp only [Function.comp]
  split
  · rename_i h; exact h.symm
  · rfl
theorem upd_pairs {L : List Fl} (hp : L.Pairwise fun a b => a.1 ≠ b.1) {s : ByteArray} {f : Fl} (h : lookL L s = some f) (m : Nat) : (updL L (s, f.2.1, m)).map (fun f => (f.1, f.2.1)) = L.map fun f => (f.1, f.2.1) := by
  unfold updL
  rw [List.map_map]
  refine List.map_congr_left fun g hg => ?_
  simp only [Function.comp]
  split
  · rename_i e
    have := look_of hp hg
    rw [e, h] at this
    injection this with this
    rw [← e, this]
  · rfl
/-- Sync leaves all names and bytes. -/
theorem sync_pairs {L : List Fl} (hp : L.Pairwise fun a b => a.1 ≠ b.1) (s : ByteArray) : ((syncD L s).2).map (fun f => (f.1, f.2.1)) = L.map fun f => (f.1, f.2.1) := by
  unfold syncD
  cases h : lookL L s with
  | none => rfl
  | some f => exact upd_pairs hp h _
theorem pairs_len {L M : List Fl} (h : L.map (fun f => (f.1, f.2.1)) = M.map fun f => (f.1, f.2.1)) : lenL L = lenL M ∧ L.length = M.length := by
  refine ⟨?_, ?_⟩
  · have := congrArg (List.map fun p : ByteArray × List UInt8 => p.2.length) h
    rw [List.map_map, List.map_map] at this
    exact congrArg List.sum this
  · have := congrArg List.length h
    rwa [List.length_map, List.length_map] at this
theorem pairs_look {L M : List Fl} (h : L.map (fun f => (f.1, f.2.1)) = M.map fun f => (f.1, f.2.1)) (s : ByteArray) : (lookL L s).map (fun f => f.2.1) = (lookL M s).map fun f => f.2.1 := by
  have key : ∀ K : List Fl, (lookL K s).map (fun f => f.2.1) = ((K.map fun f => (f.1, f.2.1)).find? fun p => decide (p.1 = s)).map fun p => p.2 := fun K => by
    unfold lookL
    rw [List.find?_map, Option.map_map]; rfl
  rw [key, key, h]
theorem pairs_lenW {L M : List Fl} (h : L.map (fun f => (f.1, f.2.1)) = M.map fun f => (f.1, f.2.1)) (n : Nat) : lenW L n = lenW M n := by
  have key : ∀ K : List Fl, lenW K n = (((lookL K (titleN n)).map fun f => f.2.1).getD []).length := fun K => by
    unfold lenW
    cases lookL K (titleN n) <;> rfl
  rw [key, key, pairs_look h]
theorem pairs_none {L M : List Fl} (h : L.map (fun f => (f.1, f.2.1)) = M.map fun f => (f.1, f.2.1)) (s : ByteArray) : lookL L s = none ↔ lookL M s = none := by
  have := pairs_look h s
  cases h1 : lookL L s <;> cases h2 : lookL M s <;> rw [h1, h2] at this <;> simp at this ⊢
theorem named_upd {L : List Fl} (h : Named L) {x : Fl} (hx : x.1.size ≠ 0) : Named (updL L x) := fun f hf => by
  unfold updL at hf
  obtain ⟨g, hg, rfl⟩ := List.mem_map.1 hf
  split
  · exact hx
  · exact h g hg
theorem named_sync {L : List Fl} (h : Named L) (s : ByteArray) : Named (syncD L s).2 := by
  unfold syncD
  cases hl : lookL L s with
  | none => exact h
  | some f => exact named_upd h (by obtain ⟨h1, h2⟩ := look_mem hl; rw [← h2]; exact h f h1)
theorem named_cut {L : List Fl} (h : Named L) (s : ByteArray) (n : Int) : Named (cutD L s n).2 := by
  unfold cutD
  cases hl : lookL L s with
  | none => exact h
  | some f =>
    simp only
    split
    · exact h
    · exact named_upd h (by obtain ⟨h1, h2⟩ := look_mem hl; rw [← h2]; exact h f h1)
theorem named_sub {L M : List Fl} (h : Named L) (hs : ∀ f ∈ M, f ∈ L) : Named M := fun f hf => h f (hs f hf)
theorem named_rem {L : List Fl} (h : Named L) (s : ByteArray) : Named (remD L s).2 := by
  unfold remD
  cases lookL L s with
  | none => exact h
  | some f => exact named_sub h fun g hg => (List.mem_filter.1 hg).1
theorem named_crash {L : List Fl} (h : Named L) (keep : Int) : Named (crashD keep L) := fun f hf => by
  unfold crashD at hf
  obtain ⟨g, hg, he⟩ := List.mem_filterMap.1 hf
  unfold crashF at he
  split at he
  · cases he
  · injection he with he; rw [← he]; exact h g hg
theorem mem_insL {x f : Fl} : ∀ {L : List Fl}, f ∈ insL x L → f = x ∨ f ∈ L
  | [], h => by rw [insL] at h; exact .inl (by simpa using h)
  | y :: r, h => by
    rw [insL] at h
    split at h
    · rcases List.mem_cons.1 h with rfl | h
      · exact .inl rfl
      · exact .inr h
    · rcases List.mem_cons.1 h with rfl | h
      · exact .inr (List.mem_cons_self ..)
      · rcases mem_insL h with h | h
        · exact .inl h
        · exact .inr (List.mem_cons_of_mem _ h)
theorem titleB_size {s : ByteArray} (h : ¬ titleB (bl s) = false) : s.size ≠ 0 := fun e => h (by
  unfold titleB
  rw [bl_len, e]; rfl)
theorem named_app {L : List Fl} (h : Named L) (room : Nat) (s : ByteArray) (b : List UInt8) : Named (appD room L s b).2 := by
  unfold appD
  by_cases ht : titleB (bl s) = false
  · rw [if_pos ht]; exact h
  · rw [if_neg ht]
    have hs := titleB_size ht
    cases lookL L s with
    | some f =>
      simp only
      split
      · exact h
      · exact named_upd h hs
    | none =>
      simp only
      split
      · exact h
      · split
        · exact h
        · intro f hf
          rcases mem_insL hf with rfl | hf
          · exact hs
          · exact h f (List.mem_filter.1 hf).1
theorem digC {c : UInt8} (h : 48 ≤ c.toNat ∧ c.toNat ≤ 57) : titleC c.toNat = true := by
  unfold titleC
  rw [decide_eq_true h.1, decide_eq_true h.2]; simp
theorem title_valid {n : Nat} (h : 1 ≤ n ∧ n ≤ 99999999) : titleB (bl (titleN n)) = true := by
  rw [title_in h, bl_mk]
  unfold titleB
  rw [List.length_append, wdig_len h.2, List.all_append]
  have h1 : (wpre.all fun c => titleC c.toNat) = true := by decide
  have h2 : ((wdig n).all fun c => titleC c.toNat) = true := List.all_eq_true.2 fun c hc => digC (wdig_ok n c hc)
  rw [h1, h2]; rfl
/-- What was asked ahead holds: the frame is written. -/
theorem wapp_ok {room : Nat} {g : Lg} {n : Nat} {b : List UInt8} (hp : g.1.Pairwise fun a b => a.1 ≠ b.1) (h : wtakesP room g.1 n b.length = 0) (hn : 1 ≤ n) :
    (appD room g.1 (titleN n) b).1 = 0 ∧ (appD room (wsyncP g).1 (titleN n) b).1 = 0 := by
  have key : ∀ L : List Fl, L.map (fun f => (f.1, f.2.1)) = g.1.map (fun f => (f.1, f.2.1)) → (appD room L (titleN n) b).1 = 0 := fun L hL => by
    obtain ⟨e1, e2⟩ := pairs_len hL
    have e3 := pairs_none hL (titleN n)
    unfold wtakesP at h
    split at h
    · cases h
    · rename_i h1
      have hv := title_valid (n := n) ⟨hn, by omega⟩
      split at h
      · cases h
      · rename_i h2
        unfold appD
        rw [if_neg (by rw [hv]; decide)]
        cases hl : lookL L (titleN n) with
        | some f => simp only; rw [if_neg (by omega)]
        | none =>
          simp only
          rw [if_neg (fun hh => h2 ⟨e3.1 hl, by omega⟩), if_neg (by omega)]
  exact ⟨key _ rfl, key _ (sync_pairs hp _)⟩
end
end Go.Proofs.YtnmbjhpecblioaaGreatDoor
