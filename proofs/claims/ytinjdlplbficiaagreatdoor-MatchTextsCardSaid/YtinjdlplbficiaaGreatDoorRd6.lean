/-
  The runes of a text, plainly: what a range over a text gives, the places of a text, and that runes come back of their bytes.
  The values of a pattern, plainly: which there are, and that it matches just these; a text as it is in a pattern.
-/
import Derived.Lib.MapLaws
import Derived.Test.YtinjdlplbficiaaGreatDoorLb
import Derived.Test.YtinjdlplbficiaaGreatDoorRe
namespace Go.Proofs.YtinjdlplbficiaaGreatDoor
set_option linter.unusedVariables false
set_option linter.unusedSimpArgs false
section
set_option linter.unusedVariables false
set_option linter.unusedSimpArgs false

abbrev dL (l : Bs) : Nat × Nat := Lib.decodeL l
def okRune (c : Int) : Prop := (0 ≤ c ∧ c < 55296) ∨ (57343 < c ∧ c ≤ 1114111)
def badL (l : Bs) : Bool := decide ((dL l).1 = 65533) && decide ((dL l).2 = 1)
/-- The runes of a text's bytes. -/
def runesF : Nat → Bs → List Int
  | 0, _ => []
  | _ + 1, [] => []
  | n + 1, x :: t => ((dL (x :: t)).1 : Int) :: runesF n ((x :: t).drop (dL (x :: t)).2)
def runesB (l : Bs) : List Int := runesF l.length l
/-- The places of what is left of a text from the byte at on. -/
def placesF : Nat → Nat → Bs → List Pc
  | 0, at', _ => [(at', -1)]
  | _ + 1, at', [] => [(at', -1)]
  | n + 1, at', x :: t => (at', if badL (x :: t) then -2 else ((dL (x :: t)).1 : Int)) :: placesF n (at' + (dL (x :: t)).2) ((x :: t).drop (dL (x :: t)).2)
def placesB (l : Bs) : List Pc := placesF l.length 0 l

theorem dL_pos (l : Bs) : 1 ≤ (dL l).2 := Lib.decodeL_width l
theorem dL_le {l : Bs} (h : l ≠ []) : (dL l).2 ≤ l.length := Lib.decodeL_le l h
theorem runesF_fuel : ∀ (n : Nat) (l : Bs), l.length ≤ n → runesF n l = runesB l := by
  have key : ∀ (m : Nat) (l : Bs), l.length ≤ m → ∀ n, l.length ≤ n → runesF n l = runesF m l := by
    intro m
    induction m with
    | zero => intro l h n hn; have : l = [] := List.eq_nil_of_length_eq_zero (by omega); subst this; cases n <;> rfl
    | succ m ih =>
      intro l h n hn
      cases l with
      | nil => cases n <;> rfl
      | cons x t =>
        cases n with
        | zero => simp at hn
        | succ n =>
          simp only [runesF]
          have hp := dL_pos (x :: t)
          have hd : ((x :: t).drop (dL (x :: t)).2).length = (x :: t).length - (dL (x :: t)).2 := List.length_drop
          rw [ih _ (by omega) n (by omega)]
  exact fun n l h => key l.length l (Nat.le_refl _) n h
theorem runesB_step {l : Bs} (h : l ≠ []) : runesB l = ((dL l).1 : Int) :: runesB (l.drop (dL l).2) := by
  cases l with
  | nil => exact absurd rfl h
  | cons x t =>
    rw [show runesB (x :: t) = runesF (t.length + 1) (x :: t) from rfl, runesF, runesF_fuel]
    have hp := dL_pos (x :: t)
    rw [List.length_drop, List.length_cons]; omega
theorem runesB_nil : runesB [] = [] := rfl
theorem placesF_fuel (l : Bs) : ∀ (n a : Nat), l.length ≤ n → placesF n a l = placesF l.length a l := by
  have key : ∀ (m : Nat) (l : Bs), l.length ≤ m → ∀ n a, l.length ≤ n → placesF n a l = placesF m a l := by
    intro m
    induction m with
    | zero => intro l h n a hn; have : l = [] := List.eq_nil_of_length_eq_zero (by omega); subst this; cases n <;> rfl
    | succ m ih =>
      intro l h n a hn
      cases l with
      | nil => cases n <;> rfl
      | cons x t =>
        cases n with
        | zero => simp at hn
        | succ n =>
          simp only [placesF]
          have hp := dL_pos (x :: t)
          have hd : ((x :: t).drop (dL (x :: t)).2).length = (x :: t).length - (dL (x :: t)).2 := List.length_drop
          rw [ih _ (by omega) n _ (by omega)]
  exact fun n a h => key l.length l (Nat.le_refl _) n a h
def placesAt (a : Nat) (l : Bs) : List Pc := placesF l.length a l
theorem placesAt_nil (a : Nat) : placesAt a [] = [(a, -1)] := rfl
theorem placesAt_step (a : Nat) {l : Bs} (h : l ≠ []) : placesAt a l = (a, if badL l then -2 else ((dL l).1 : Int)) :: placesAt (a + (dL l).2) (l.drop (dL l).2) := by
  cases l with
  | nil => exact absurd rfl h
  | cons x t =>
    rw [show placesAt a (x :: t) = placesF (t.length + 1) a (x :: t) from rfl, placesF]
    unfold placesAt
    rw [placesF_fuel _ t.length]
    have hp := dL_pos (x :: t)
    rw [List.length_drop, List.length_cons]; omega
theorem len_ind {P : Bs → Prop} (h0 : P []) (h1 : ∀ l, l ≠ [] → P (l.drop (dL l).2) → P l) (l : Bs) : P l := by
  have key : ∀ (n : Nat) (l : Bs), l.length ≤ n → P l := by
    intro n
    induction n with
    | zero => intro l h; have : l = [] := List.eq_nil_of_length_eq_zero (by omega); subst this; exact h0
    | succ n ih =>
      intro l h
      by_cases hl : l = []
      · subst hl; exact h0
      · have hp := dL_pos l
        exact h1 l hl (ih _ (by rw [List.length_drop]; have : 0 < l.length := List.length_pos_iff.mpr hl; omega))
  exact key l.length l (Nat.le_refl _)
theorem places_ok (l : Bs) : ∀ a, OkL (placesAt a l) := by
  refine len_ind (P := fun l => ∀ a, OkL (placesAt a l)) (fun a => rfl) (fun l h ih a => ?_) l
  rw [placesAt_step a h]
  simp only [OkL]
  rw [if_neg]
  · exact ih _
  · split <;> omega
theorem places_len (l : Bs) : ∀ a, (placesAt a l).length ≤ l.length + 1 := by
  refine len_ind (P := fun l => ∀ a, (placesAt a l).length ≤ l.length + 1) (fun a => by simp [placesAt_nil]) (fun l h ih a => ?_) l
  rw [placesAt_step a h, List.length_cons]
  have := ih (a + (dL l).2)
  rw [List.length_drop] at this
  have := dL_pos l; have := dL_le h
  omega
/-- What is laid at a place is small. -/
def SmallL (l : List Pc) : Prop := ∀ p ∈ l, p.1 ≤ 1000000 ∧ -2 ≤ p.2 ∧ p.2 ≤ 1114111
theorem places_small (l : Bs) : ∀ a, a + l.length ≤ 1000000 → SmallL (placesAt a l) := by
  refine len_ind (P := fun l => ∀ a, a + l.length ≤ 1000000 → SmallL (placesAt a l)) (fun a h p hp => ?_) (fun l h ih a hs p hp => ?_) l
  · rw [placesAt_nil, List.mem_singleton] at hp; subst hp; simp at h ⊢; omega
  · rw [placesAt_step a h, List.mem_cons] at hp
    rcases hp with rfl | hp
    · have := Lib.decodeL_rune l
      simp only
      refine ⟨by omega, ?_⟩
      show -2 ≤ (if badL l then -2 else ((dL l).1 : Int)) ∧ (if badL l then -2 else ((dL l).1 : Int)) ≤ 1114111
      split
      · omega
      · have : (dL l).1 ≤ 1114111 := this
        omega
    · refine ih _ ?_ p hp
      rw [List.length_drop]
      have := dL_le h
      omega
theorem dL_ok (l : Bs) (h : l ≠ []) : okRune (dL l).1 := by
  unfold okRune
  show (0 ≤ ((Lib.decodeL l).1 : Int) ∧ ((Lib.decodeL l).1 : Int) < 55296) ∨ (57343 < ((Lib.decodeL l).1 : Int) ∧ ((Lib.decodeL l).1 : Int) ≤ 1114111)
  rw [Lib.decodeL_N]
  have k0 := (l.getD 0 0).toNat_lt
  have k1 := (l.getD 1 0).toNat_lt
  have k2 := (l.getD 2 0).toNat_lt
  have k3 := (l.getD 3 0).toNat_lt
  rcases Lib.decodeN_shape l.length (l.getD 0 0).toNat (l.getD 1 0).toNat (l.getD 2 0).toNat (l.getD 3 0).toNat with ⟨c, e⟩ | ⟨c1, c2, c3, cv, e⟩ | ⟨c1, c2, c3, c4, cv, cs, e⟩ | ⟨c1, c2, c3, c4, c5, cv, cw, e⟩ | e
  all_goals (rw [e]; dsimp only; omega)

def enc (c : Int) : Bs := Lib.encodeRune c
def encs (l : List Int) : Bs := l.flatMap enc
theorem encs_cons (c : Int) (l : List Int) : encs (c :: l) = enc c ++ encs l := by simp [encs]
theorem encs_app (a b : List Int) : encs (a ++ b) = encs a ++ encs b := by simp [encs]
theorem enc_ne (c : Int) : enc c ≠ [] := by
  have := Lib.encodeRuneZ_length c
  intro h
  have h2 : (enc c).length = (Lib.encodeRuneZ c).length := by simp [enc, Lib.encodeRune]
  rw [h] at h2; simp at h2; omega
set_option maxRecDepth 100000 in
/-- A rune comes back of its bytes. -/
theorem dec_enc {c : Int} (h : okRune c) (t : Bs) : dL (enc c ++ t) = (c.toNat, (enc c).length) := by
  unfold okRune at h
  have tb : ∀ x : Int, 0 ≤ x → x < 256 → x.toNat.toUInt8.toNat = x.toNat := fun x h0 h1 => by
    show (UInt8.ofNat x.toNat).toNat = x.toNat
    rw [UInt8.toNat_ofNat']; omega
  show Lib.decodeL (Lib.encodeRune c ++ t) = (c.toNat, (Lib.encodeRune c).length)
  rw [Lib.decodeL_N]
  unfold Lib.encodeRune
  by_cases h1 : c ≤ 127
  · rw [Lib.encodeRuneZ_one (by omega) h1]
    simp only [List.map_cons, List.map_nil, List.cons_append, List.nil_append, List.getD_cons_zero, List.length_cons, List.length_nil]
    rw [tb c (by omega) (by omega)]
    generalize (List.getD _ 1 0 : UInt8).toNat = b1
    generalize (List.getD _ 2 0 : UInt8).toNat = b2
    generalize (List.getD _ 3 0 : UInt8).toNat = b3
    unfold Lib.decodeN
    rw [if_pos (by omega)]
  · by_cases h2 : c ≤ 2047
    · rw [Lib.encodeRuneZ_two (by omega) h2]
      simp only [List.map_cons, List.map_nil, List.cons_append, List.nil_append, List.getD_cons_zero, List.getD_cons_succ, List.length_cons, List.length_nil]
      rw [tb (192 + c / 64) (by omega) (by omega), tb (128 + c % 64) (by omega) (by omega)]
      generalize (List.getD _ 0 0 : UInt8).toNat = b2
      generalize (List.getD _ 1 0 : UInt8).toNat = b3
      unfold Lib.decodeN
      rw [if_neg (by omega), if_pos (by omega), if_pos (by omega)]
      exact Prod.ext (by simp only; omega) rfl
    · by_cases h3 : c ≤ 65535
      · rw [Lib.encodeRuneZ_three (by omega)]
        simp only [List.map_cons, List.map_nil, List.cons_append, List.nil_append, List.getD_cons_zero, List.getD_cons_succ, List.length_cons, List.length_nil]
        rw [tb (224 + c / 4096) (by omega) (by omega), tb (128 + c / 64 % 64) (by omega) (by omega), tb (128 + c % 64) (by omega) (by omega)]
        generalize (List.getD _ 0 0 : UInt8).toNat = b3
        unfold Lib.decodeN
        rw [if_neg (by omega), if_neg (by omega), if_pos (by omega), if_pos (by omega)]
        exact Prod.ext (by simp only; omega) rfl
      · rw [Lib.encodeRuneZ_four (by omega) (by omega)]
        simp only [List.map_cons, List.map_nil, List.cons_append, List.nil_append, List.getD_cons_zero, List.getD_cons_succ, List.length_cons, List.length_nil]
        rw [tb (240 + c / 262144) (by omega) (by omega), tb (128 + c / 4096 % 64) (by omega) (by omega), tb (128 + c / 64 % 64) (by omega) (by omega), tb (128 + c % 64) (by omega) (by omega)]
        unfold Lib.decodeN
        rw [if_neg (by omega), if_neg (by omega), if_neg (by omega), if_pos (by omega), if_pos (by omega)]
        exact Prod.ext (by simp only; omega) rfl
theorem okRune.nonneg {c : Int} (h : okRune c) : 0 ≤ c := by unfold okRune at h; omega
theorem runes_encs : ∀ (l : List Int), (∀ c ∈ l, okRune c) → ∀ t, runesB (encs l ++ t) = l ++ runesB t
  | [], _, t => rfl
  | c :: l, h, t => by
    have hc := h c List.mem_cons_self
    rw [encs_cons, List.append_assoc, runesB_step (by simp [enc_ne c]), dec_enc hc]
    simp only
    rw [List.drop_left, runes_encs l (fun x hx => h x (List.mem_cons_of_mem _ hx)) t, Int.toNat_of_nonneg hc.nonneg]
    rfl
theorem runes_of_encs (l : List Int) (h : ∀ c ∈ l, okRune c) : runesB (encs l) = l := by
  have := runes_encs l h []
  rwa [List.append_nil, runesB_nil, List.append_nil] at this
theorem runes_okRune (l : Bs) : ∀ c ∈ runesB l, okRune c := by
  refine len_ind (P := fun l => ∀ c ∈ runesB l, okRune c) (fun c hc => by cases hc) (fun l h ih c hc => ?_) l
  rw [runesB_step h, List.mem_cons] at hc
  rcases hc with rfl | hc
  · exact dL_ok l h
  · exact ih c hc
/-- A text that is right is its runes' bytes. -/
theorem encs_runes (l : Bs) : Lib.validD l = true → encs (runesB l) = l := by
  refine len_ind (P := fun l => Lib.validD l = true → encs (runesB l) = l) (fun _ => rfl) (fun l h ih hv => ?_) l
  rw [Lib.validD_step l h] at hv
  split at hv
  · cases hv
  · rename_i hb
    rw [runesB_step h, encs_cons, ih hv, enc, Lib.encode_decode l h hb, List.take_append_drop]
theorem badL_iff (l : Bs) : badL l = true ↔ (dL l).1 = 65533 ∧ (dL l).2 = 1 := by simp [badL]
theorem places_valid (l : Bs) : ∀ a, (∀ p ∈ placesAt a l, p.2 ≠ -2) ↔ Lib.validD l = true := by
  refine len_ind (P := fun l => ∀ a, (∀ p ∈ placesAt a l, p.2 ≠ -2) ↔ Lib.validD l = true) (fun a => ?_) (fun l h ih a => ?_) l
  · simp [placesAt_nil, Lib.validD, Lib.validGoD]
  · rw [Lib.validD_step l h, placesAt_step a h]
    simp only [List.forall_mem_cons, ih]
    by_cases hb : badL l = true
    · rw [if_pos ((badL_iff l).mp hb)]; simp [hb]
    · rw [if_neg (fun e => hb ((badL_iff l).mpr e))]
      simp only [hb]
      constructor
      · exact fun e => e.2
      · intro e; refine ⟨?_, e⟩; simp
/-- The runes of a text that is right are its places'. -/
theorem places_runes (l : Bs) : ∀ a, Lib.validD l = true → (placesAt a l).map (·.2) = runesB l ++ [-1] := by
  refine len_ind (P := fun l => ∀ a, Lib.validD l = true → (placesAt a l).map (·.2) = runesB l ++ [-1]) (fun a _ => rfl) (fun l h ih a hv => ?_) l
  rw [Lib.validD_step l h] at hv
  split at hv
  · cases hv
  · rename_i hb
    have hb' : badL l = false := by rw [Bool.eq_false_iff]; exact fun e => hb ((badL_iff l).mp e)
    rw [placesAt_step a h, runesB_step h, List.map_cons, ih _ hv, hb']
    rfl
/-- The pattern of a text's bytes, or its fault. -/
def rxP (b : Bs) : Except Flt Re := if 256 < b.length then .error (0, 3) else wholeP (placesAt 0 b)
end
section
set_option linter.unusedVariables false
set_option linter.unusedSimpArgs false

def onceP (l : List Bs) (v : Bs) : List Bs := if l.contains v then l else l ++ [v]
def valF : List Int → List Bs → Bs → Bool → Option (List Bs)
  | [], list, v, _ => some (onceP list v)
  | c :: t, list, v, esc =>
    if esc then (if (manyP c).isSome then none else valF t list (v ++ enc c) false)
    else if c = 92 then valF t list v true
    else if c = 124 then valF t (onceP list v) [] false
    else if specialP c then none
    else valF t list (v ++ enc c) false
def valP (cs : List Int) : Option (List Bs) := valF cs [] [] false
def quoteC (cs : List Int) : List Int := cs.flatMap fun c => if specialP c then [92, c] else [c]

def catC (acc : Re) (cs : List Int) : Re := cs.foldl (fun a c => .cat a (.set [(c, c)] false)) acc
theorem catC_app (acc : Re) (a b : List Int) : catC acc (a ++ b) = catC (catC acc a) b := by simp [catC]
theorem takes_one (x c : Int) : takesP [(x, x)] false c = decide (c = x) := by
  unfold takesP inSpans
  simp only [List.any_cons, List.any_nil, Bool.or_false, Bool.not_false]
  by_cases h : c = x
  · subst h; simp
  · have : ¬ (x ≤ c ∧ c ≤ x) := by omega
    simp [h, this]
theorem mt_catC : ∀ (cs : List Int) (acc : Re) (w : List Int), Mt (catC acc cs) w ↔ ∃ u, Mt acc u ∧ w = u ++ cs
  | [], acc, w => by simp [catC]
  | c :: t, acc, w => by
    rw [show catC acc (c :: t) = catC (.cat acc (.set [(c, c)] false)) t from rfl, mt_catC t]
    simp only [Mt, takes_one, decide_eq_true_eq]
    constructor
    · rintro ⟨u, ⟨a, b, rfl, ha, d, rfl, rfl⟩, rfl⟩
      exact ⟨a, ha, by simp⟩
    · rintro ⟨u, hu, rfl⟩
      exact ⟨u ++ [c], ⟨u, [c], rfl, hu, c, rfl, rfl⟩, by simp⟩

/-- A rune as a range over a text gives it. -/
def seen (c : Int) : Int := if c = -2 then 65533 else c
/-- The runes of what is left. -/
def rn (l : List Pc) : List Int := (l.map fun p => seen p.2).dropLast
theorem rn_cons {l : List Pc} (h : OkL l) (hn : nowP l ≠ -1) : rn l = seen (nowP l) :: rn l.tail := by
  cases l with
  | nil => exact h.elim
  | cons p t =>
    have := h.tail hn
    cases t with
    | nil => exact this.elim
    | cons q r => simp [rn, nowP]
theorem rn_end {l : List Pc} (h : OkL l) (hn : nowP l = -1) : rn l = [] := by
  cases l with
  | nil => exact h.elim
  | cons p t =>
    simp only [OkL] at h
    rw [if_pos (show p.2 = -1 from hn)] at h
    subst h; rfl
theorem rn_places (l : Bs) : ∀ a, rn (placesAt a l) = runesB l := by
  refine len_ind (P := fun l => ∀ a, rn (placesAt a l) = runesB l) (fun a => rfl) (fun l h ih a => ?_) l
  have ho := places_ok l a
  have hd : 0 ≤ ((dL l).1 : Int) := by omega
  have hn : nowP (placesAt a l) ≠ -1 := by
    rw [placesAt_step a h]; simp only [nowP]; split <;> omega
  rw [rn_cons ho hn, runesB_step h]
  rw [placesAt_step a h]
  simp only [nowP, List.tail_cons, ih]
  congr 1
  by_cases hb : badL l = true
  · rw [if_pos hb, ((badL_iff l).mp hb).1]; rfl
  · rw [if_neg hb, seen, if_neg (by omega)]
def RuneL (l : List Pc) : Prop := ∀ p ∈ l, p.2 = -1 ∨ p.2 = -2 ∨ okRune p.2
theorem places_rune (l : Bs) : ∀ a, RuneL (placesAt a l) := by
  refine len_ind (P := fun l => ∀ a, RuneL (placesAt a l)) (fun a p hp => ?_) (fun l h ih a p hp => ?_) l
  · rw [placesAt_nil, List.mem_singleton] at hp; subst hp; exact .inl rfl
  · rw [placesAt_step a h, List.mem_cons] at hp
    rcases hp with rfl | hp
    · right
      simp only
      by_cases hb : badL l = true
      · rw [if_pos hb]; exact .inl rfl
      · rw [if_neg hb]; exact .inr (dL_ok l h)
    · exact ih _ p hp
theorem RuneL.now {l : List Pc} (h : RuneL l) (h0 : 0 ≤ nowP l) : okRune (nowP l) := by
  cases l with
  | nil => simp [nowP] at h0
  | cons p t =>
    rcases h p List.mem_cons_self with e | e | e
    · simp only [nowP] at h0; omega
    · simp only [nowP] at h0; omega
    · exact e
theorem RuneL.suf {l l' : List Pc} (h : RuneL l) (hs : l' <:+ l) : RuneL l' := fun p hp => h p (hs.subset hp)

theorem special_many {c : Int} (h : specialP c = true) : manyP c = none := by
  unfold specialP at h; unfold manyP
  simp only [Bool.or_eq_true, beq_iff_eq] at h
  rw [if_neg (by omega), if_neg (by omega), if_neg (by omega)]
theorem special_val {l : List Pc} (h : OkL l) {list : List Bs} {v : Bs} {vs : List Bs} (hv : valF (rn l) list v false = some vs) : specialP (nowP l) = false ∨ nowP l = 92 ∨ nowP l = 124 := by
  by_cases hn : nowP l = -1
  · left; rw [hn]; decide
  · rw [rn_cons h hn] at hv
    by_cases h92 : nowP l = 92
    · exact .inr (.inl h92)
    · by_cases h124 : nowP l = 124
      · exact .inr (.inr h124)
      · left
        cases hs : specialP (nowP l) with
        | false => rfl
        | true =>
          exfalso
          have h2 : nowP l ≠ -2 := by intro e; rw [e] at hs; revert hs; decide
          rw [seen, if_neg h2] at hv
          simp only [valF, Bool.false_eq_true, if_false, if_neg h92, if_neg h124, hs, if_true] at hv
          cases hv
theorem times_special {c : Int} {a : Re} (h : specialP c = false ∨ c = 92 ∨ c = 124) : timesP c a = none := by
  unfold timesP
  have : ¬ c = 42 ∧ ¬ c = 43 ∧ ¬ c = 63 := by
    rcases h with h | h | h
    · refine ⟨?_, ?_, ?_⟩ <;> (rintro rfl; revert h; decide)
    · omega
    · omega
  rw [if_neg this.1, if_neg this.2.1, if_neg this.2.2]
/-- An atom of a pattern that has values, ahead of which the scan stands. -/
theorem val_piece {grp : List Pc → Rs Re} {l : List Pc} (h : OkL l) (hr : RuneL l) (hs : stopP (nowP l) = false) {list : List Bs} {v : Bs} {vs : List Bs} (hv : valF (rn l) list v false = some vs)
    {r : Re} {l1 : List Pc} (e : pieceP grp l = .ok (r, l1)) : ∃ c, r = .set [(c, c)] false ∧ okRune c ∧ valF (rn l1) list (v ++ enc c) false = some vs ∧ Shr l l1 := by
  have hst : nowP l ≠ 124 ∧ nowP l ≠ 41 ∧ nowP l ≠ -1 := by
    unfold stopP at hs
    simp only [Bool.or_eq_false_iff, beq_eq_false_iff_ne] at hs
    exact ⟨hs.1.1, hs.1.2, hs.2⟩
  have hsp := special_val h hv
  have hsp' : specialP (nowP l) = false ∨ nowP l = 92 := by
    rcases hsp with a | a | a
    · exact .inl a
    · exact .inr a
    · exact absurd a hst.1
  have h1 := h.tail hst.2.2
  -- what the atom is
  have hat : ∃ c l2, atomP grp l = .ok (.set [(c, c)] false, l2) ∧ okRune c ∧ valF (rn l2) list (v ++ enc c) false = some vs ∧ Shr l l2 := by
    rw [rn_cons h hst.2.2] at hv
    by_cases h92 : nowP l = 92
    · have e2 := e
      unfold pieceP at e2
      have ha : atomP grp l = escapeP l := by unfold atomP; rw [h92]; rfl
      rw [ha] at e2
      rw [ha]
      rw [h92, show seen 92 = 92 from rfl] at hv
      simp only [valF, Bool.false_eq_true, if_false, if_true] at hv
      by_cases hn1 : nowP l.tail = -1
      · exfalso
        have : escapeP l = .error (atP l.tail, errFormN) := by
          unfold escapeP manyL; rw [if_pos h92, hn1]; unfold rescP; rw [hn1]; rfl
        rw [this] at e2; cases e2
      · rw [rn_cons h1 hn1] at hv
        have hsn : 0 ≤ nowP l.tail → seen (nowP l.tail) = nowP l.tail := fun h0 => by unfold seen; rw [if_neg (by omega)]
        by_cases h0 : 0 ≤ nowP l.tail
        · rw [hsn h0] at hv
          simp only [valF, if_true] at hv
          cases hm : manyP (nowP l.tail) with
          | some g => rw [hm] at hv; simp at hv
          | none =>
            rw [hm] at hv
            simp only [Option.isSome_none, Bool.false_eq_true, if_false] at hv
            by_cases hk : (decide (0 ≤ nowP l.tail) && (specialP (nowP l.tail) || nowP l.tail == 45 || nowP l.tail == 47)) = true
            · refine ⟨nowP l.tail, l.tail.tail, ?_, (hr.suf (List.tail_suffix _)).now h0, hv, (Shr.tail h hst.2.2).then (Shr.tail h1 hn1).le⟩
              unfold escapeP manyL; rw [if_pos h92, hm]; unfold rescP; rw [if_pos (by omega), if_pos hk]
            · exfalso
              have : escapeP l = .error (atP l.tail, errFormN) := by
                unfold escapeP manyL; rw [if_pos h92, hm]; unfold rescP; rw [if_pos (by omega), if_neg hk]
              rw [this] at e2; cases e2
        · exfalso
          have hm : manyP (nowP l.tail) = none := by unfold manyP; rw [if_neg (by omega), if_neg (by omega), if_neg (by omega)]
          have : escapeP l = .error (atP l.tail, errFormN) := by
            unfold escapeP manyL; rw [if_pos h92, hm]; unfold rescP; rw [if_pos (by omega), if_neg (by simp [h0])]
          rw [this] at e2; cases e2
    · have hsp2 : specialP (nowP l) = false := hsp'.resolve_right h92
      have hx : nowP l ≠ 40 ∧ nowP l ≠ 91 ∧ nowP l ≠ 46 := by refine ⟨?_, ?_, ?_⟩ <;> (intro hh; rw [hh] at hsp2; revert hsp2; decide)
      by_cases h0 : 0 ≤ nowP l
      · have hsn : seen (nowP l) = nowP l := by unfold seen; rw [if_neg (by omega)]
        rw [hsn] at hv
        simp only [valF, Bool.false_eq_true, if_false, if_neg h92, if_neg hst.1, hsp2] at hv
        refine ⟨nowP l, l.tail, ?_, hr.now h0, hv, Shr.tail h hst.2.2⟩
        unfold atomP
        rw [if_neg hx.1, if_neg hx.2.1, if_neg h92, if_neg hx.2.2, if_pos (by simp [h0, hsp2])]
      · exfalso
        unfold pieceP atomP at e
        rw [if_neg hx.1, if_neg hx.2.1, if_neg h92, if_neg hx.2.2, if_neg (by simp [h0])] at e
        cases e
  obtain ⟨c, l2, ha, hc, hv2, hsh⟩ := hat
  unfold pieceP at e
  rw [ha] at e
  simp only [times_special (special_val hsh.ok hv2)] at e
  injection e with e; injection e with e1 e2
  subst e1; subst e2
  exact ⟨c, rfl, hc, hv2, hsh⟩
theorem val_branch {grp : List Pc → Rs Re} : ∀ (n : Nat) (acc : Re) (l : List Pc), OkL l → RuneL l → ∀ {list : List Bs} {v : Bs} {vs : List Bs}, valF (rn l) list v false = some vs →
    ∀ {r : Re} {l1 : List Pc}, branchP grp n acc l = .ok (r, l1) → ∃ cs, r = catC acc cs ∧ (∀ c ∈ cs, okRune c) ∧ valF (rn l1) list (v ++ encs cs) false = some vs ∧ Less l l1
  | 0, _, _, _, _, _, _, _, _, _, _, e => by cases e
  | n + 1, acc, l, h, hr, list, v, vs, hv, r, l1, e => by
    unfold branchP at e
    cases hs : stopP (nowP l) with
    | true =>
      rw [if_pos hs] at e
      injection e with e; injection e with e1 e2; subst e1; subst e2
      exact ⟨[], rfl, (fun c hc => by cases hc), (by simpa [encs] using hv), Less.refl h⟩
    | false =>
      rw [if_neg (by rw [hs]; simp)] at e
      split at e
      · cases e
      · rename_i a l2 ha
        obtain ⟨c, rfl, hc, hv2, hsh⟩ := val_piece h hr hs hv ha
        obtain ⟨cs, rfl, hcs, hv3, hl⟩ := val_branch n _ _ hsh.ok (hr.suf hsh.suf) hv2 e
        refine ⟨c :: cs, rfl, fun x hx => ?_, ?_, hsh.le.trans hl⟩
        · rcases List.mem_cons.mp hx with rfl | hx
          · exact hc
          · exact hcs x hx
        · rw [encs_cons, ← List.append_assoc]; exact hv3
structure Reps (acc : Re) (list : List Bs) (v : Bs) (L : List (List Int)) : Prop where
  mt : ∀ w, Mt acc w ↔ w ∈ L
  has : ∀ b, (b ∈ list ∨ b = v) ↔ ∃ w ∈ L, b = encs w
  ok : ∀ w ∈ L, ∀ c ∈ w, okRune c
theorem mem_once {l : List Bs} {v b : Bs} : b ∈ onceP l v ↔ b ∈ l ∨ b = v := by
  unfold onceP
  split
  · rename_i h
    have h' : v ∈ l := by simpa using h
    constructor
    · exact .inl
    · rintro (hb | rfl)
      · exact hb
      · exact h'
  · simp
theorem val_alts {grp : List Pc → Rs Re} : ∀ (n : Nat) (acc : Re) (l : List Pc), OkL l → RuneL l → ∀ {list : List Bs} {v : Bs} {vs : List Bs}, valF (rn l) list v false = some vs →
    ∀ {L : List (List Int)}, Reps acc list v L → ∀ {r : Re} {l1 : List Pc}, altsP grp n acc l = .ok (r, l1) → ∃ list' v' L', Reps r list' v' L' ∧ valF (rn l1) list' v' false = some vs ∧ Less l l1
  | 0, _, _, _, _, _, _, _, _, _, _, _, _, e => by cases e
  | n + 1, acc, l, h, hr, list, v, vs, hv, L, R, r, l1, e => by
    unfold altsP at e
    split at e
    · rename_i h124
      have hn : nowP l ≠ -1 := by rw [h124]; decide
      split at e
      · cases e
      · rename_i b l2 hb
        rw [rn_cons h hn, h124, show seen 124 = 124 from rfl] at hv
        simp only [valF, Bool.false_eq_true, if_false, if_true] at hv
        rw [if_neg (by decide)] at hv
        have h1 := h.tail hn
        have hr1 := hr.suf (List.tail_suffix _)
        obtain ⟨cs, rfl, hcs, hv3, hl⟩ := val_branch _ _ _ h1 hr1 hv hb
        rw [List.nil_append] at hv3
        have R2 : Reps (.alt acc (catC .none cs)) (onceP list v) (encs cs) (L ++ [cs]) := by
          refine ⟨fun w => ?_, fun b => ?_, fun w hw c hc => ?_⟩
          · simp only [Mt, mt_catC, R.mt, List.mem_append, List.mem_singleton]
            constructor
            · rintro (hw | ⟨u, rfl, rfl⟩)
              · exact .inl hw
              · exact .inr (by simp)
            · rintro (hw | rfl)
              · exact .inl hw
              · exact .inr ⟨[], rfl, by simp⟩
          · rw [mem_once, R.has]
            constructor
            · rintro (⟨w, hw, rfl⟩ | rfl)
              · exact ⟨w, by simp [hw], rfl⟩
              · exact ⟨cs, by simp, rfl⟩
            · rintro ⟨w, hw, rfl⟩
              rcases List.mem_append.mp hw with hw | hw
              · exact .inl ⟨w, hw, rfl⟩
              · rw [List.mem_singleton.mp hw]; exact .inr rfl
          · rcases List.mem_append.mp hw with hw | hw
            · exact R.ok w hw c hc
            · rw [List.mem_singleton.mp hw] at hc; exact hcs c hc
        obtain ⟨list', v', L', R', hv', hl'⟩ := val_alts n _ _ hl.ok (hr1.suf hl.suf) hv3 R2 e
        exact ⟨list', v', L', R', hv', (Shr.tail h hn).le.trans (hl.trans hl')⟩
    · injection e with e; injection e with e1 e2; subst e1; subst e2
      exact ⟨list, v, L, R, hv, Less.refl h⟩
/-- A pattern that has values matches just these. -/
theorem val_whole {b : Bs} {r : Re} {vs : List Bs} (e : wholeP (placesAt 0 b) = .ok r) (hv : valP (runesB b) = some vs) :
    vs ≠ [] ∧ (∀ v ∈ vs, Mt r (runesB v)) ∧ ∀ s, Lib.validD s = true → (Mt r (runesB s) ↔ s ∈ vs) := by
  have h := places_ok b 0
  have hr := places_rune b 0
  unfold valP at hv
  rw [← rn_places b 0] at hv
  generalize placesAt 0 b = l at e hv h hr
  unfold wholeP patP at e
  split at e
  · cases e
  · rename_i r' l1 hp
    split at hp
    · cases hp
    · rename_i b' l2 hb
      obtain ⟨cs, rfl, hcs, hv2, hl⟩ := val_branch _ _ _ h hr hv hb
      rw [List.nil_append] at hv2
      have R : Reps (catC .none cs) [] (encs cs) [cs] := by
        refine ⟨fun w => ?_, fun b => by simp, fun w hw c hc => ?_⟩
        · rw [mt_catC, List.mem_singleton]
          constructor
          · rintro ⟨u, rfl, rfl⟩; simp
          · rintro rfl; exact ⟨[], rfl, by simp⟩
        · rw [List.mem_singleton.mp hw] at hc; exact hcs c hc
      obtain ⟨list', v', L', R', hv', hl'⟩ := val_alts _ _ _ hl.ok (hr.suf hl.suf) hv2 R hp
      split at e
      · rename_i hend
        injection e with e; subst e
        rw [rn_end hl'.ok hend] at hv'
        simp only [valF, Option.some.injEq] at hv'
        subst hv'
        have hmem : ∀ s, s ∈ onceP list' v' ↔ ∃ w ∈ L', s = encs w := fun s => by rw [mem_once, R'.has]
        refine ⟨?_, fun v hv => ?_, fun s hs => ?_⟩
        · have : v' ∈ onceP list' v' := by rw [mem_once]; exact .inr rfl
          exact List.ne_nil_of_mem this
        · obtain ⟨w, hw, rfl⟩ := (hmem v).mp hv
          rw [runes_of_encs w (R'.ok w hw)]
          exact (R'.mt w).mpr hw
        · rw [R'.mt, hmem]
          constructor
          · intro hw; exact ⟨_, hw, (encs_runes s hs).symm⟩
          · rintro ⟨w, hw, rfl⟩
            rw [runes_of_encs w (R'.ok w hw)]; exact hw
      · cases e

/-! ### as it is -/
theorem quoteC_ok {cs : List Int} (h : ∀ c ∈ cs, okRune c) : ∀ c ∈ quoteC cs, okRune c := by
  intro c hc
  unfold quoteC at hc
  obtain ⟨x, hx, hc⟩ := List.mem_flatMap.mp hc
  split at hc
  · simp at hc
    rcases hc with rfl | rfl
    · unfold okRune; omega
    · exact h _ hx
  · simp at hc; subst hc; exact h _ hx
theorem enc_len_big : (enc 65533).length = 3 := by decide
theorem places_encs : ∀ (cs : List Int), (∀ c ∈ cs, okRune c) → ∀ a, (placesAt a (encs cs)).map (·.2) = cs ++ [-1]
  | [], _, a => rfl
  | c :: t, h, a => by
    have hc := h c List.mem_cons_self
    have hne : encs (c :: t) ≠ [] := by rw [encs_cons]; simp [enc_ne c]
    rw [placesAt_step a hne]
    have hd : dL (encs (c :: t)) = (c.toNat, (enc c).length) := by rw [encs_cons, dec_enc hc]
    have hb : badL (encs (c :: t)) = false := by
      rw [Bool.eq_false_iff]; intro hb
      obtain ⟨h1, h2⟩ := (badL_iff _).mp hb
      rw [hd] at h1 h2
      simp only at h1 h2
      have := hc.nonneg
      have : c = 65533 := by omega
      subst this
      rw [enc_len_big] at h2; omega
    rw [hb, hd, List.map_cons]
    simp only [Bool.false_eq_true, if_false]
    rw [encs_cons, List.drop_left, places_encs t (fun x hx => h x (List.mem_cons_of_mem _ hx)), Int.toNat_of_nonneg hc.nonneg]
    rfl
theorem quote_branch {grp : List Pc → Rs Re} (cs : List Int) : ∀ (n : Nat) (acc : Re) (l : List Pc), OkL l → (∀ c ∈ cs, okRune c) → l.map (·.2) = quoteC cs ++ [-1] → l.length ≤ n → ∃ l1, branchP grp n acc l = .ok (catC acc cs, l1) ∧ nowP l1 = -1 ∧ OkL l1 := by
  induction cs with
  | nil =>
    intro n acc l h _ hl hn
    cases n with
    | zero => exact absurd (List.eq_nil_of_length_eq_zero (by omega)) h.ne
    | succ n =>
      have : nowP l = -1 := by
        cases l with
        | nil => exact h.elim
        | cons p t => simp [quoteC] at hl; exact hl.1
      exact ⟨l, by unfold branchP; rw [this]; rfl, this, h⟩
  | cons c t ih =>
    intro n acc l h hok hl hn
    have hc := hok c List.mem_cons_self
    have ht := fun x hx => hok x (List.mem_cons_of_mem c hx)
    have hc0 := hc.nonneg
    cases n with
    | zero => exact absurd (List.eq_nil_of_length_eq_zero (by omega)) h.ne
    | succ n =>
      have hq : quoteC (c :: t) = (if specialP c then [92, c] else [c]) ++ quoteC t := by simp [quoteC]
      -- the sign behind is none that says how often
      have nt : ∀ (l' : List Pc) (a : Re), OkL l' → l'.map (·.2) = quoteC t ++ [-1] → timesP (nowP l') a = none := by
        intro l' a h' hl'
        apply times_special
        cases l' with
        | nil => exact h'.elim
        | cons p r =>
          simp only [nowP]
          cases t with
          | nil => simp [quoteC] at hl'; left; rw [hl'.1]; decide
          | cons d s =>
            have hq2 : quoteC (d :: s) = (if specialP d then [92, d] else [d]) ++ quoteC s := by simp [quoteC]
            rw [hq2] at hl'
            cases hsd : specialP d with
            | true => rw [hsd] at hl'; simp at hl'; right; left; exact hl'.1
            | false => rw [hsd] at hl'; simp at hl'; left; rw [hl'.1]; exact hsd
      cases hs : specialP c with
      | true =>
        rw [hq, hs] at hl
        obtain ⟨p1, l', rfl⟩ : ∃ p1 l', l = p1 :: l' := by cases l with | nil => exact h.elim | cons p t => exact ⟨p, t, rfl⟩
        simp only [if_true, List.cons_append, List.nil_append, List.map_cons, List.cons.injEq] at hl
        obtain ⟨e1, hl⟩ := hl
        obtain ⟨p2, l2, rfl⟩ : ∃ p2 l2, l' = p2 :: l2 := by cases l' with | nil => simp at hl | cons p t => exact ⟨p, t, rfl⟩
        simp only [List.map_cons, List.cons.injEq] at hl
        obtain ⟨e2, hl⟩ := hl
        have h1 : OkL (p2 :: l2) := h.tail (by simp only [nowP]; rw [e1]; decide)
        have h2 : OkL l2 := h1.tail (by simp only [nowP]; rw [e2]; omega)
        have hpc : pieceP grp (p1 :: p2 :: l2) = .ok (.set [(c, c)] false, l2) := by
          unfold pieceP
          have : atomP grp (p1 :: p2 :: l2) = .ok (.set [(c, c)] false, l2) := by
            unfold atomP
            simp only [nowP, e1]
            rw [if_neg (by decide), if_neg (by decide), if_pos trivial]
            unfold escapeP manyL
            simp only [nowP, e1, List.tail_cons, e2, if_true, special_many hs]
            unfold rescP
            simp only [nowP, List.tail_cons, e2]
            rw [if_pos (by decide), if_pos (by simp [hc0, hs])]
          rw [this]
          simp only [nt l2 _ h2 hl]
        obtain ⟨l1, hb, hend, hok1⟩ := ih n (.cat acc (.set [(c, c)] false)) l2 h2 ht hl (by simp at hn; omega)
        refine ⟨l1, ?_, hend, hok1⟩
        unfold branchP
        have hst : stopP (nowP (p1 :: p2 :: l2)) = false := by simp only [nowP]; rw [e1]; decide
        rw [hst, hpc]
        exact hb
      | false =>
        rw [hq, hs] at hl
        obtain ⟨p1, l2, rfl⟩ : ∃ p1 l', l = p1 :: l' := by cases l with | nil => exact h.elim | cons p t => exact ⟨p, t, rfl⟩
        simp only [Bool.false_eq_true, if_false, List.cons_append, List.nil_append, List.map_cons, List.cons.injEq] at hl
        obtain ⟨e1, hl⟩ := hl
        have h2 : OkL l2 := h.tail (by simp only [nowP]; rw [e1]; omega)
        have hx : c ≠ 40 ∧ c ≠ 91 ∧ c ≠ 92 ∧ c ≠ 46 ∧ c ≠ 124 ∧ c ≠ 41 := by refine ⟨?_, ?_, ?_, ?_, ?_, ?_⟩ <;> (rintro rfl; revert hs; decide)
        have hpc : pieceP grp (p1 :: l2) = .ok (.set [(c, c)] false, l2) := by
          unfold pieceP
          have : atomP grp (p1 :: l2) = .ok (.set [(c, c)] false, l2) := by
            unfold atomP
            simp only [nowP, e1, List.tail_cons]
            rw [if_neg hx.1, if_neg hx.2.1, if_neg hx.2.2.1, if_neg hx.2.2.2.1, if_pos (by simp [hc0, hs])]
          rw [this]
          simp only [nt l2 _ h2 hl]
        obtain ⟨l1, hb, hend, hok1⟩ := ih n (.cat acc (.set [(c, c)] false)) l2 h2 ht hl (by simp at hn; omega)
        refine ⟨l1, ?_, hend, hok1⟩
        unfold branchP
        have hst : stopP (nowP (p1 :: l2)) = false := by
          simp only [nowP]; rw [e1]; unfold stopP
          simp only [Bool.or_eq_false_iff, beq_eq_false_iff_ne]
          exact ⟨⟨hx.2.2.2.2.1, hx.2.2.2.2.2⟩, by omega⟩
        rw [hst, hpc]
        exact hb
/-- A text as it is in a pattern is the pattern of its runes. -/
theorem quote_whole (cs : List Int) (h : ∀ c ∈ cs, okRune c) : wholeP (placesAt 0 (encs (quoteC cs))) = .ok (catC .none cs) := by
  have ho := places_ok (encs (quoteC cs)) 0
  have hp := places_encs (quoteC cs) (quoteC_ok h) 0
  generalize placesAt 0 (encs (quoteC cs)) = l at ho hp
  obtain ⟨l1, hb, hend, hok⟩ := quote_branch (grp := grpP 20) cs l.length .none l ho h hp (Nat.le_refl _)
  unfold wholeP patP
  rw [hb]
  simp only
  have ha : altsP (grpP 20) l1.length (catC .none cs) l1 = .ok (catC .none cs, l1) := by
    cases hl : l1.length with
    | zero => exact absurd (List.eq_nil_of_length_eq_zero hl) hok.ne
    | succ k => simp only [altsP]; rw [if_neg (by rw [hend]; decide)]
  rw [ha]
  simp only [hend, if_true]
theorem quote_match (cs w : List Int) : Mt (catC .none cs) w ↔ w = cs := by
  rw [mt_catC]
  constructor
  · rintro ⟨u, rfl, rfl⟩; simp
  · rintro rfl; exact ⟨[], rfl, by simp⟩
end
end Go.Proofs.YtinjdlplbficiaaGreatDoor
