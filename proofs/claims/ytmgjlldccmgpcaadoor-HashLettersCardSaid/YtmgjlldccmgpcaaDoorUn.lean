/-
  Letters as bytes again, plainly: what letters of w bits each stand for, there and back.
-/
import Derived.Test.YtmgjlldccmgpcaaDoorDg
import Derived.Test.YtmgjlldccmgpcaaDoorRputs
namespace Go.Proofs.YtmgjlldccmgpcaaDoor
set_option linter.unusedVariables false
set_option linter.unusedSimpArgs false
/-- The bits of letters. -/
def unBits (w : Nat) (f : UInt8 → Nat) (s : List UInt8) : List Bool := s.flatMap fun c => bitsOf (f c) w
theorem unBits_nil (w : Nat) (f : UInt8 → Nat) : unBits w f [] = [] := rfl
theorem unBits_snoc (w : Nat) (f : UInt8 → Nat) (s : List UInt8) (c : UInt8) : unBits w f (s ++ [c]) = unBits w f s ++ bitsOf (f c) w := by
  unfold unBits; rw [List.flatMap_append]; simp
theorem unBits_length (w : Nat) (f : UInt8 → Nat) (s : List UInt8) : (unBits w f s).length = w * s.length := by
  induction s with
  | nil => simp [unBits]
  | cons c r ih =>
    have e : unBits w f (c :: r) = bitsOf (f c) w ++ unBits w f r := by simp [unBits]
    rw [e, List.length_append, bitsOf_length, ih, List.length_cons, Nat.mul_add, Nat.mul_one, Nat.add_comm]
/-- The bytes of letters of w bits each: what is wrong with them, and the bytes. -/
def unP (w : Nat) (f : UInt8 → Nat) (s : List UInt8) : Nat × List UInt8 :=
  if (s.all fun c => decide (f c < 2 ^ w)) = true then
    (if w ≤ (unBits w f s).length % 8 ∨ natOf ((unBits w f s).drop (8 * ((unBits w f s).length / 8))) ≠ 0 then (8, []) else (0, bytesN ((unBits w f s).length / 8) (unBits w f s)))
  else (8, [])
theorem natOf_zero {l : List Bool} (h : natOf l = 0) : l = List.replicate l.length false := by
  induction l with
  | nil => rfl
  | cons b r ih =>
    rw [natOf_cons] at h
    have h2 : natOf r = 0 := by omega
    have h1 : b.toNat * 2 ^ r.length = 0 := by omega
    have hb : b = false := by
      cases b
      · rfl
      · have := Nat.two_pow_pos r.length
        simp at h1
    rw [List.length_cons, List.replicate_succ, ← ih h2, hb]
theorem natOf_inj : ∀ {l m : List Bool}, l.length = m.length → natOf l = natOf m → l = m
  | [], [], _, _ => rfl
  | [], b :: m, h, _ => by simp at h
  | b :: l, [], h, _ => by simp at h
  | b :: l, c :: m, h, e => by
    rw [List.length_cons, List.length_cons] at h
    have h' : l.length = m.length := by omega
    rw [natOf_cons, natOf_cons, h'] at e
    have h1 := natOf_lt l
    have h2 := natOf_lt m
    rw [h'] at h1
    have hb : b = c := by
      cases b <;> cases c <;> simp at e ⊢ <;> omega
    subst hb
    rw [natOf_inj h' (by omega)]
theorem bitsOf_natOf (l : List Bool) : bitsOf (natOf l) l.length = l := by
  refine natOf_inj (bitsOf_length _ _) ?_
  rw [natOf_bitsOf, Nat.mod_eq_of_lt (natOf_lt l)]
/-- The numbers of a row of bits as bits again. -/
theorem digs_bits (w n : Nat) (l : List Bool) (h : l.length = w * n) : (digs w n l).flatMap (fun d => bitsOf d w) = l := by
  induction n generalizing l with
  | zero =>
    have : l = [] := List.eq_nil_of_length_eq_zero (by omega)
    subst this; rfl
  | succ n ih =>
    have e : digs w (n + 1) l = natOf (l.take w) :: digs w n (l.drop w) := by
      unfold digs
      rw [List.range_succ_eq_map, List.map_cons, List.map_map, Nat.mul_zero, List.drop_zero]
      congr 1
      refine List.map_congr_left fun i _ => ?_
      simp only [Function.comp_def, List.drop_drop]
      rw [show w * i.succ = w + w * i from by rw [Nat.mul_succ, Nat.add_comm]]
    have hl : (l.take w).length = w := by rw [List.length_take, h, Nat.mul_succ]; omega
    rw [e, List.flatMap_cons, ih (l.drop w) (by rw [List.length_drop, h, Nat.mul_succ]; omega)]
    have := bitsOf_natOf (l.take w)
    rw [hl] at this
    rw [this, List.take_append_drop]
theorem bits_digs (w : Nat) (ds : List Nat) (h : ∀ d ∈ ds, d < 2 ^ w) : digs w ds.length (ds.flatMap fun d => bitsOf d w) = ds := by
  induction ds with
  | nil => rfl
  | cons d r ih =>
    rw [List.flatMap_cons, List.length_cons, Nat.add_comm, digs_add w 1 r.length _ _ (by rw [bitsOf_length]; omega), ih (fun x hx => h x (List.mem_cons_of_mem _ hx))]
    have e : digs w 1 (bitsOf d w) = [d] := by
      show [natOf (((bitsOf d w).drop (w * 0)).take w)] = [d]
      rw [Nat.mul_zero, List.drop_zero, List.take_of_length_le (by rw [bitsOf_length]; omega), natOf_bitsOf, Nat.mod_eq_of_lt (h d List.mem_cons_self)]
    rw [e]; rfl
theorem bytesN_rb (xs : List UInt8) (z : List Bool) : bytesN xs.length (rb xs ++ z) = xs := by
  apply List.ext_getElem
  · rw [bytesN_len]
  · intro i h1 h2
    have hg : (bytesN xs.length (rb xs ++ z))[i] = UInt8.ofNat (packB (((rb xs ++ z).drop (8 * i)).take 8)) := by simp [bytesN]
    rw [hg]
    have hp := rb_part (xs := xs) (at_ := 8 * i) (c := 8) (by omega) (by omega)
    have h0 : 8 * i / 8 = i := by omega
    simp only [h0, Nat.mul_mod_right, Nat.sub_zero, Nat.sub_self, Nat.pow_zero, Nat.div_one] at hp
    rw [List.drop_append_of_le_length (by rw [rb_length]; omega), List.take_append_of_le_length (by rw [List.length_drop, rb_length]; omega), hp]
    unfold packB
    rw [natOf_bitsOf, bitsOf_length, Nat.sub_self, Nat.pow_zero, Nat.mul_one, Nat.mod_eq_of_lt (UInt8.toNat_lt _)]
    simp
theorem rb_bytesN (N : Nat) (l : List Bool) (h : 8 * N ≤ l.length) : rb (bytesN N l) = l.take (8 * N) := by
  induction N with
  | zero => simp [bytesN, rb]
  | succ N ih =>
    have e : bytesN (N + 1) l = bytesN N l ++ [UInt8.ofNat (packB ((l.drop (8 * N)).take 8))] := by
      unfold bytesN; rw [List.range_succ, List.map_append, List.map_singleton]
    have hl : ((l.drop (8 * N)).take 8).length = 8 := by rw [List.length_take, List.length_drop]; omega
    have hb := bitsOf_natOf ((l.drop (8 * N)).take 8)
    have hn := natOf_lt ((l.drop (8 * N)).take 8)
    rw [hl] at hb hn
    have hp : packB ((l.drop (8 * N)).take 8) = natOf ((l.drop (8 * N)).take 8) := by unfold packB; rw [hl, Nat.sub_self, Nat.pow_zero, Nat.mul_one]
    rw [e, rb_append, ih (by omega), rb_one, hp, UInt8.toNat_ofNat', Nat.mod_eq_of_lt (by omega), hb, show 8 * (N + 1) = 8 * N + 8 by omega, List.take_add]
/-- What letters and their values are to one another. -/
structure Letters (w : Nat) (L : List UInt8) (f : UInt8 → Nat) : Prop where
  len : L.length = 2 ^ w
  val : ∀ d, d < 2 ^ w → f (ltr L d) = d
  ltr : ∀ c, f c < 2 ^ w → ltr L (f c) = c
theorem armS_length (w : Nat) (L : List UInt8) (xs : List UInt8) : (armS w L xs).length = (8 * xs.length + fillN w (8 * xs.length)) / w := by
  unfold armS armB fillB
  rw [lettersOf_length, digs_length, List.length_append, List.length_replicate, rb_length]
theorem fill_whole (w n : Nat) (hw : 0 < w) : ∃ m, n + fillN w n = w * m := by
  unfold fillN
  have h1 := Nat.div_add_mod n w
  have h2 := Nat.mod_lt n hw
  by_cases h0 : n % w = 0
  · refine ⟨n / w, ?_⟩
    rw [h0, Nat.sub_zero, Nat.mod_self]; omega
  · refine ⟨n / w + 1, ?_⟩
    rw [Nat.mod_eq_of_lt (show w - n % w < w by omega), Nat.mul_add]; omega
theorem flat_congr {α β : Type} {g h : α → List β} : ∀ {l : List α}, (∀ x ∈ l, g x = h x) → l.flatMap g = l.flatMap h
  | [], _ => rfl
  | x :: r, e => by rw [List.flatMap_cons, List.flatMap_cons, e x List.mem_cons_self, flat_congr fun y hy => e y (List.mem_cons_of_mem _ hy)]
/-- Bytes are got again of their letters. -/
theorem un_arm {w : Nat} {L : List UInt8} {f : UInt8 → Nat} (hL : Letters w L f) (hw : 0 < w) (h8 : w ≤ 8) (xs : List UInt8) : unP w f (armS w L xs) = (0, xs) := by
  obtain ⟨m, hm⟩ := fill_whole w (8 * xs.length) hw
  have hfl : (fillB w (rb xs)).length = w * m := by unfold fillB; rw [List.length_append, List.length_replicate, rb_length, hm]
  have hd : armS w L xs = lettersOf L (digs w m (fillB w (rb xs))) := by
    unfold armS armB; rw [hfl, Nat.mul_div_cancel_left _ hw]
  have hlt : ∀ d ∈ digs w m (fillB w (rb xs)), d < 2 ^ w := by
    intro d hd
    unfold digs at hd
    obtain ⟨i, _, rfl⟩ := List.mem_map.1 hd
    exact natOf_take_lt _ _ _
  have hub : unBits w f (armS w L xs) = fillB w (rb xs) := by
    rw [hd]
    unfold unBits lettersOf
    rw [List.flatMap_map]
    have : ∀ d ∈ digs w m (fillB w (rb xs)), bitsOf (f (ltr L d)) w = bitsOf d w := fun d h => by rw [hL.val d (hlt d h)]
    rw [flat_congr this, digs_bits w m _ hfl]
  have hfn : fillN w (rb xs).length < w := by unfold fillN; exact Nat.mod_lt _ hw
  have hl8 : (fillB w (rb xs)).length = 8 * xs.length + fillN w (rb xs).length := by unfold fillB; rw [List.length_append, List.length_replicate, rb_length]
  have hq : (fillB w (rb xs)).length / 8 = xs.length := by omega
  have hr : (fillB w (rb xs)).length % 8 = fillN w (rb xs).length := by omega
  unfold unP
  rw [if_pos, hub, hq, hr, if_neg]
  · have : fillB w (rb xs) = rb xs ++ List.replicate (fillN w (rb xs).length) false := rfl
    rw [this, bytesN_rb]
  · intro hc
    rcases hc with hc | hc
    · omega
    · refine hc ?_
      have : fillB w (rb xs) = rb xs ++ List.replicate (fillN w (rb xs).length) false := rfl
      rw [this, List.drop_append, List.drop_of_length_le (by rw [rb_length]; omega), List.nil_append, rb_length, Nat.sub_self, List.drop_zero, natOf_zeros]
  · rw [List.all_eq_true]
    intro c hc
    rw [hd] at hc
    unfold lettersOf at hc
    obtain ⟨d, h1, rfl⟩ := List.mem_map.1 hc
    rw [hL.val d (hlt d h1)]
    exact decide_eq_true (hlt d h1)
/-- Letters that all have values: they are those of the bytes just if no letter is too many, and what fills up is 0. -/
theorem arm_un {w : Nat} {L : List UInt8} {f : UInt8 → Nat} (hL : Letters w L f) (hw : w = 4 ∨ w = 6) (s : List UInt8) (hs : ∀ c ∈ s, f c < 2 ^ w) :
    armS w L (bytesN ((unBits w f s).length / 8) (unBits w f s)) = s ↔ ¬ (w ≤ (unBits w f s).length % 8 ∨ natOf ((unBits w f s).drop (8 * ((unBits w f s).length / 8))) ≠ 0) := by
  have hlen := unBits_length w f s
  have hub : unBits w f s = (s.map f).flatMap fun d => bitsOf d w := by unfold unBits; rw [List.flatMap_map]
  have hds : digs w s.length (unBits w f s) = s.map f := by
    have := bits_digs w (s.map f) (fun d hd => by obtain ⟨c, hc, rfl⟩ := List.mem_map.1 hd; exact hs c hc)
    rwa [← hub, List.length_map] at this
  have hsl : lettersOf L (digs w s.length (unBits w f s)) = s := by
    rw [hds]; unfold lettersOf; rw [List.map_map]
    have : ∀ c ∈ s, ((fun d => ltr L d) ∘ f) c = c := fun c hc => hL.ltr c (hs c hc)
    rw [List.map_congr_left this, List.map_id']
  generalize unBits w f s = l at *
  clear hub hds
  have hq : 8 * (l.length / 8) ≤ l.length := by omega
  have hrb := rb_bytesN (l.length / 8) l hq
  have hrl : (l.take (8 * (l.length / 8))).length = 8 * (l.length / 8) := by rw [List.length_take]; omega
  have ha : armS w L (bytesN (l.length / 8) l) = armB w L (l.take (8 * (l.length / 8))) := by unfold armS; rw [hrb]
  rw [ha]
  have hal : (armB w L (l.take (8 * (l.length / 8)))).length = (8 * (l.length / 8) + fillN w (8 * (l.length / 8))) / w := by
    unfold armB fillB; rw [lettersOf_length, digs_length, List.length_append, List.length_replicate, hrl]
  by_cases hr : w ≤ l.length % 8
  · constructor
    · intro e
      rw [e] at hal
      exfalso
      unfold fillN at hal
      rcases hw with rfl | rfl <;> omega
    · intro h; exact absurd (Or.inl hr) h
  · have hfn : fillN w (8 * (l.length / 8)) = l.length % 8 := by
      unfold fillN
      rcases hw with rfl | rfl <;> omega
    have hfb : armB w L (l.take (8 * (l.length / 8))) = lettersOf L (digs w s.length (l.take (8 * (l.length / 8)) ++ List.replicate (l.length % 8) false)) := by
      unfold armB fillB
      rw [hrl, hfn]
      congr 2
      rw [List.length_append, List.length_replicate, hrl]
      have : 8 * (l.length / 8) + l.length % 8 = l.length := by omega
      rw [this, hlen, Nat.mul_div_cancel_left _ (by omega)]
    rw [hfb]
    have hzl : (l.take (8 * (l.length / 8)) ++ List.replicate (l.length % 8) false).length = w * s.length := by
      rw [List.length_append, List.length_replicate, hrl]; omega
    constructor
    · intro e
      rw [← hsl] at e
      have e2 : ∀ a b : List Nat, (∀ d ∈ a, d < 2 ^ w) → (∀ d ∈ b, d < 2 ^ w) → lettersOf L a = lettersOf L b → a = b := by
        intro a
        induction a with
        | nil => intro b _ _ h; cases b with
          | nil => rfl
          | cons x r => simp [lettersOf] at h
        | cons x r ih => intro b h1 h2 h; cases b with
          | nil => simp [lettersOf] at h
          | cons y q =>
            unfold lettersOf at h
            rw [List.map_cons, List.map_cons] at h
            obtain ⟨h3, h4⟩ := List.cons.inj h
            have hx := hL.val x (h1 x List.mem_cons_self)
            have hy := hL.val y (h2 y List.mem_cons_self)
            rw [ih q (fun d hd => h1 d (List.mem_cons_of_mem _ hd)) (fun d hd => h2 d (List.mem_cons_of_mem _ hd)) h4, ← hx, ← hy, h3]
      have hb : ∀ z : List Bool, ∀ d ∈ digs w s.length z, d < 2 ^ w := by
        intro z d hd
        unfold digs at hd
        obtain ⟨i, _, rfl⟩ := List.mem_map.1 hd
        exact natOf_take_lt _ _ _
      have hb1 : ∀ z : List Bool, ∀ d ∈ digs w (lettersOf L (digs w s.length l)).length z, d < 2 ^ w := by rw [hsl]; exact hb
      rw [hsl] at e
      rw [← hsl] at e
      have e3 := e2 _ _ (by rw [hsl]; exact hb _) (hb _) e
      rw [hsl] at e3
      have e4 : l.take (8 * (l.length / 8)) ++ List.replicate (l.length % 8) false = l := by
        rw [← digs_bits w s.length _ hzl, e3, digs_bits w s.length l hlen]
      have e5 : l.drop (8 * (l.length / 8)) = List.replicate (l.length % 8) false := by
        have h6 : (l.take (8 * (l.length / 8)) ++ List.replicate (l.length % 8) false).drop (8 * (l.length / 8)) = List.replicate (l.length % 8) false := List.drop_left' hrl
        rwa [e4] at h6
      intro h
      rcases h with h | h
      · exact hr h
      · exact h (by rw [e5, natOf_zeros])
    · intro h
      have h0 : natOf (l.drop (8 * (l.length / 8))) = 0 := by
        by_cases hz : natOf (l.drop (8 * (l.length / 8))) = 0
        · exact hz
        · exact absurd (Or.inr hz) h
      have h1 := natOf_zero h0
      have h2 : (l.drop (8 * (l.length / 8))).length = l.length % 8 := by rw [List.length_drop]; omega
      rw [h2] at h1
      rw [← h1, List.take_append_drop, hsl]
/-- Letters that are taken are those of the bytes. -/
theorem arm_of_un {w : Nat} {L : List UInt8} {f : UInt8 → Nat} (hL : Letters w L f) (hw : w = 4 ∨ w = 6) (s : List UInt8) (h : (unP w f s).1 = 0) : armS w L (unP w f s).2 = s := by
  unfold unP at h ⊢
  by_cases h1 : (s.all fun c => decide (f c < 2 ^ w)) = true
  · rw [if_pos h1] at h ⊢
    by_cases h2 : w ≤ (unBits w f s).length % 8 ∨ natOf ((unBits w f s).drop (8 * ((unBits w f s).length / 8))) ≠ 0
    · rw [if_pos h2] at h; simp at h
    · rw [if_neg h2]
      refine (arm_un hL hw s (fun c hc => ?_)).2 h2
      rw [List.all_eq_true] at h1
      exact of_decide_eq_true (h1 c hc)
  · rw [if_neg h1] at h; simp at h
theorem armS_mono (w : Nat) (L : List UInt8) (hw : w = 4 ∨ w = 6) (xs ys : List UInt8) (h : xs.length ≤ ys.length) : (armS w L xs).length ≤ (armS w L ys).length := by
  rw [armS_length, armS_length]
  unfold fillN
  rcases hw with rfl | rfl <;> omega
theorem hex_length (xs : List UInt8) : (armS 4 hexL xs).length = 2 * xs.length := by
  rw [armS_length]; unfold fillN; omega
/-- What a letter of addresses, and a digit, stands for; 64 and 16: nothing. -/
def armV (c : UInt8) : Nat := if 65 ≤ c.toNat ∧ c.toNat ≤ 90 then c.toNat - 65 else if 97 ≤ c.toNat ∧ c.toNat ≤ 122 then c.toNat - 97 + 26 else if 48 ≤ c.toNat ∧ c.toNat ≤ 57 then c.toNat - 48 + 52 else if c.toNat = 45 then 62 else if c.toNat = 95 then 63 else 64
def hexV (c : UInt8) : Nat := if 48 ≤ c.toNat ∧ c.toNat ≤ 57 then c.toNat - 48 else if 97 ≤ c.toNat ∧ c.toNat ≤ 102 then c.toNat - 97 + 10 else 16
theorem all_u8 {p : UInt8 → Bool} (h : ((List.range 256).all fun n => p (UInt8.ofNat n)) = true) (c : UInt8) : p c = true := by
  rw [List.all_eq_true] at h
  have := h c.toNat (List.mem_range.2 c.toNat_lt)
  simpa using this
theorem arm_letters : Letters 6 armL armV :=
  ⟨by decide, by decide +kernel, fun c hc => by
    have := all_u8 (p := fun c => !decide (armV c < 2 ^ 6) || decide (ltr armL (armV c) = c)) (by decide +kernel) c
    simpa [hc] using this⟩
theorem hex_letters : Letters 4 hexL hexV :=
  ⟨by decide, by decide +kernel, fun c hc => by
    have := all_u8 (p := fun c => !decide (hexV c < 2 ^ 4) || decide (ltr hexL (hexV c) = c)) (by decide +kernel) c
    simpa [hc] using this⟩
end Go.Proofs.YtmgjlldccmgpcaaDoor
