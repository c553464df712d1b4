/-
  The runes of a text, plainly: what a range over a text gives, the places of a text, and that runes come back of their bytes.
-/
import Derived.Lib.MapLaws
import Derived.Test.YtfohmepjedehfabLb
import Derived.Test.YtfohmepjedehfabRe
namespace Go.Proofs.Ytfohmepjedehfab
set_option linter.unusedVariables false
set_option linter.unusedSimpArgs false

abbrev dL (l : Bs) : Nat × Nat := Lib.decodeL l
def okRune (c : Int) : Prop := (0 ≤ c ∧ c < 55296) ∨ (57343 < c ∧ c ≤ 1114111)
def badL (l : Bs) : Bool := decide ((dL l).1 = 65533) && decide ((dL l).2 = 1)
/-- The runes of a text's bytes. -/
def runesF : Nat → Bs → List Int
  | 0, _ => []
  | _ + 1, [] => []
  | n + 1, x :: t => ((dL (x :: t)).1 : Int) :: runesF n ((x :: t).drop (dL (x :: t)).2)
def runesB (l : Bs) : List Int := runesF l.length l
/-- The places of what is left of a text from the byte at on. -/
def placesF : Nat → Nat → Bs → List Pc
  | 0, at', _ => [(at', -1)]
  | _ + 1, at', [] => [(at', -1)]
  | n + 1, at', x :: t => (at', if badL (x :: t) then -2 else ((dL (x :: t)).1 : Int)) :: placesF n (at' + (dL (x :: t)).2) ((x :: t).drop (dL (x :: t)).2)
def placesB (l : Bs) : List Pc := placesF l.length 0 l

theorem dL_pos (l : Bs) : 1 ≤ (dL l).2 := Lib.decodeL_width l
theorem dL_le {l : Bs} (h : l ≠ []) : (dL l).2 ≤ l.length := Lib.decodeL_le l h
theorem runesF_fuel : ∀ (n : Nat) (l : Bs), l.length ≤ n → runesF n l = runesB l := by
  have key : ∀ (m : Nat) (l : Bs), l.length ≤ m → ∀ n, l.length ≤ n → runesF n l = runesF m l := by
    intro m
    induction m with
    | zero => intro l h n hn; have : l = [] := List.eq_nil_of_length_eq_zero (by omega); subst this; cases n <;> rfl
    | succ m ih =>
      intro l h n hn
      cases l with
      | nil => cases n <;> rfl
      | cons x t =>
        cases n with
        | zero => simp at hn
        | succ n =>
          simp only [runesF]
          have hp := dL_pos (x :: t)
          have hd : ((x :: t).drop (dL (x :: t)).2).length = (x :: t).length - (dL (x :: t)).2 := List.length_drop
          rw [ih _ (by omega) n (by omega)]
  exact fun n l h => key l.length l (Nat.le_refl _) n h
theorem runesB_step {l : Bs} (h : l ≠ []) : runesB l = ((dL l).1 : Int) :: runesB (l.drop (dL l).2) := by
  cases l with
  | nil => exact absurd rfl h
  | cons x t =>
    rw [show runesB (x :: t) = runesF (t.length + 1) (x :: t) from rfl, runesF, runesF_fuel]
    have hp := dL_pos (x :: t)
    rw [List.length_drop, List.length_cons]; omega
theorem runesB_nil : runesB [] = [] := rfl
theorem placesF_fuel (l : Bs) : ∀ (n a : Nat), l.length ≤ n → placesF n a l = placesF l.length a l := by
  have key : ∀ (m : Nat) (l : Bs), l.length ≤ m → ∀ n a, l.length ≤ n → placesF n a l = placesF m a l := by
    intro m
    induction m with
    | zero => intro l h n a hn; have : l = [] := List.eq_nil_of_length_eq_zero (by omega); subst this; cases n <;> rfl
    | succ m ih =>
      intro l h n a hn
      cases l with
      | nil => cases n <;> rfl
      | cons x t =>
        cases n with
        | zero => simp at hn
        | succ n =>
          simp only [placesF]
          have hp := dL_pos (x :: t)
          have hd : ((x :: t).drop (dL (x :: t)).2).length = (x :: t).length - (dL (x :: t)).2 := List.length_drop
          rw [ih _ (by omega) n _ (by omega)]
  exact fun n a h => key l.length l (Nat.le_refl _) n a h
def placesAt (a : Nat) (l : Bs) : List Pc := placesF l.length a l
theorem placesAt_nil (a : Nat) : placesAt a [] = [(a, -1)] := rfl
theorem placesAt_step (a : Nat) {l : Bs} (h : l ≠ []) : placesAt a l = (a, if badL l then -2 else ((dL l).1 : Int)) :: placesAt (a + (dL l).2) (l.drop (dL l).2) := by
  cases l with
  | nil => exact absurd rfl h
  | cons x t =>
    rw [show placesAt a (x :: t) = placesF (t.length + 1) a (x :: t) from rfl, placesF]
    unfold placesAt
    rw [placesF_fuel _ t.length]
    have hp := dL_pos (x :: t)
    rw [List.length_drop, List.length_cons]; omega
theorem len_ind {P : Bs → Prop} (h0 : P []) (h1 : ∀ l, l ≠ [] → P (l.drop (dL l).2) → P l) (l : Bs) : P l := by
  have key : ∀ (n : Nat) (l : Bs), l.length ≤ n → P l := by
    intro n
    induction n with
    | zero => intro l h; have : l = [] := List.eq_nil_of_length_eq_zero (by omega); subst this; exact h0
    | succ n ih =>
      intro l h
      by_cases hl : l = []
      · subst hl; exact h0
      · have hp := dL_pos l
        exact h1 l hl (ih _ (by rw [List.length_drop]; have : 0 < l.length := List.length_pos_iff.mpr hl; omega))
  exact key l.length l (Nat.le_refl _)
theorem places_ok (l : Bs) : ∀ a, OkL (placesAt a l) := by
  refine len_ind (P := fun l => ∀ a, OkL (placesAt a l)) (fun a => rfl) (fun l h ih a => ?_) l
  rw [placesAt_step a h]
  simp only [OkL]
  rw [if_neg]
  · exact ih _
  · split <;> omega
theorem places_len (l : Bs) : ∀ a, (placesAt a l).length ≤ l.length + 1 := by
  refine len_ind (P := fun l => ∀ a, (placesAt a l).length ≤ l.length + 1) (fun a => by simp [placesAt_nil]) (fun l h ih a => ?_) l
  rw [placesAt_step a h, List.length_cons]
  have := ih (a + (dL l).2)
  rw [List.length_drop] at this
  have := dL_pos l; have := dL_le h
  omega
/-- What is laid at a place is small. -/
def SmallL (l : List Pc) : Prop := ∀ p ∈ l, p.1 ≤ 1000000 ∧ -2 ≤ p.2 ∧ p.2 ≤ 1114111
theorem places_small (l : Bs) : ∀ a, a + l.length ≤ 1000000 → SmallL (placesAt a l) := by
  refine len_ind (P := fun l => ∀ a, a + l.length ≤ 1000000 → SmallL (placesAt a l)) (fun a h p hp => ?_) (fun l h ih a hs p hp => ?_) l
  · rw [placesAt_nil, List.mem_singleton] at hp; subst hp; simp at h ⊢; omega
  · rw [placesAt_step a h, List.mem_cons] at hp
    rcases hp with rfl | hp
    · have := Lib.decodeL_rune l
      simp only
      refine ⟨by omega, ?_⟩
      show -2 ≤ (if badL l then -2 else ((dL l).1 : Int)) ∧ (if badL l then -2 else ((dL l).1 : Int)) ≤ 1114111
      split
      · omega
      · have : (dL l).1 ≤ 1114111 := this
        omega
    · refine ih _ ?_ p hp
      rw [List.length_drop]
      have := dL_le h
      omega
theorem dL_ok (l : Bs) (h : l ≠ []) : okRune (dL l).1 := by
  unfold okRune
  show (0 ≤ ((Lib.decodeL l).1 : Int) ∧ ((Lib.decodeL l).1 : Int) < 55296) ∨ (57343 < ((Lib.decodeL l).1 : Int) ∧ ((Lib.decodeL l).1 : Int) ≤ 1114111)
  rw [Lib.decodeL_N]
  have k0 := (l.getD 0 0).toNat_lt
  have k1 := (l.getD 1 0).toNat_lt
  have k2 := (l.getD 2 0).toNat_lt
  have k3 := (l.getD 3 0).toNat_lt
  rcases Lib.decodeN_shape l.length (l.getD 0 0).toNat (l.getD 1 0).toNat (l.getD 2 0).toNat (l.getD 3 0).toNat with ⟨c, e⟩ | ⟨c1, c2, c3, cv, e⟩ | ⟨c1, c2, c3, c4, cv, cs, e⟩ | ⟨c1, c2, c3, c4, c5, cv, cw, e⟩ | e
  all_goals (rw [e]; dsimp only; omega)

def enc (c : Int) : Bs := Lib.encodeRune c
def encs (l : List Int) : Bs := l.flatMap enc
theorem encs_cons (c : Int) (l : List Int) : encs (c :: l) = enc c ++ encs l := by simp [encs]
theorem encs_app (a b : List Int) : encs (a ++ b) = encs a ++ encs b := by simp [encs]
theorem enc_ne (c : Int) : enc c ≠ [] := by
  have := Lib.encodeRuneZ_length c
  intro h
  have h2 : (enc c).length = (Lib.encodeRuneZ c).length := by simp [enc, Lib.encodeRune]
  rw [h] at h2; simp at h2; omega
set_option maxRecDepth 100000 in
/-- A rune comes back of its bytes. -/
theorem dec_enc {c : Int} (h : okRune c) (t : Bs) : dL (enc c ++ t) = (c.toNat, (enc c).length) := by
  unfold okRune at h
  have tb : ∀ x : Int, 0 ≤ x → x < 256 → x.toNat.toUInt8.toNat = x.toNat := fun x h0 h1 => by
    show (UInt8.ofNat x.toNat).toNat = x.toNat
    rw [UInt8.toNat_ofNat']; omega
  show Lib.decodeL (Lib.encodeRune c ++ t) = (c.toNat, (Lib.encodeRune c).length)
  rw [Lib.decodeL_N]
  unfold Lib.encodeRune
  by_cases h1 : c ≤ 127
  · rw [Lib.encodeRuneZ_one (by omega) h1]
    simp only [List.map_cons, List.map_nil, List.cons_append, List.nil_append, List.getD_cons_zero, List.length_cons, List.length_nil]
    rw [tb c (by omega) (by omega)]
    generalize (List.getD _ 1 0 : UInt8).toNat = b1
    generalize (List.getD _ 2 0 : UInt8).toNat = b2
    generalize (List.getD _ 3 0 : UInt8).toNat = b3
    unfold Lib.decodeN
    rw [if_pos (by omega)]
  · by_cases h2 : c ≤ 2047
    · rw [Lib.encodeRuneZ_two (by omega) h2]
      simp only [List.map_cons, List.map_nil, List.cons_append, List.nil_append, List.getD_cons_zero, List.getD_cons_succ, List.length_cons, List.length_nil]
      rw [tb (192 + c / 64) (by omega) (by omega), tb (128 + c % 64) (by omega) (by omega)]
      generalize (List.getD _ 0 0 : UInt8).toNat = b2
      generalize (List.getD _ 1 0 : UInt8).toNat = b3
      unfold Lib.decodeN
      rw [if_neg (by omega), if_pos (by omega), if_pos (by omega)]
      exact Prod.ext (by simp only; omega) rfl
    · by_cases h3 : c ≤ 65535
      · rw [Lib.encodeRuneZ_three (by omega)]
        simp only [List.map_cons, List.map_nil, List.cons_append, List.nil_append, List.getD_cons_zero, List.getD_cons_succ, List.length_cons, List.length_nil]
        rw [tb (224 + c / 4096) (by omega) (by omega), tb (128 + c / 64 % 64) (by omega) (by omega), tb (128 + c % 64) (by omega) (by omega)]
        generalize (List.getD _ 0 0 : UInt8).toNat = b3
        unfold Lib.decodeN
        rw [if_neg (by omega), if_neg (by omega), if_pos (by omega), if_pos (by omega)]
        exact Prod.ext (by simp only; omega) rfl
      · rw [Lib.encodeRuneZ_four (by omega) (by omega)]
        simp only [List.map_cons, List.map_nil, List.cons_append, List.nil_append, List.getD_cons_zero, List.getD_cons_succ, List.length_cons, List.length_nil]
        rw [tb (240 + c / 262144) (by omega) (by omega), tb (128 + c / 4096 % 64) (by omega) (by omega), tb (128 + c / 64 % 64) (by omega) (by omega), tb (128 + c % 64) (by omega) (by omega)]
        unfold Lib.decodeN
        rw [if_neg (by omega), if_neg (by omega), if_neg (by omega), if_pos (by omega), if_pos (by omega)]
        exact Prod.ext (by simp only; omega) rfl
theorem okRune.nonneg {c : Int} (h : okRune c) : 0 ≤ c := by unfold okRune at h; omega
theorem runes_encs : ∀ (l : List Int), (∀ c ∈ l, okRune c) → ∀ t, runesB (encs l ++ t) = l ++ runesB t
  | [], _, t => rfl
  | c :: l, h, t => by
    have hc := h c List.mem_cons_self
    rw [encs_cons, List.append_assoc, runesB_step (by simp [enc_ne c]), dec_enc hc]
    simp only
    rw [List.drop_left, runes_encs l (fun x hx => h x (List.mem_cons_of_mem _ hx)) t, Int.toNat_of_nonneg hc.nonneg]
    rfl
theorem runes_of_encs (l : List Int) (h : ∀ c ∈ l, okRune c) : runesB (encs l) = l := by
  have := runes_encs l h []
  rwa [List.append_nil, runesB_nil, List.append_nil] at this
theorem runes_okRune (l : Bs) : ∀ c ∈ runesB l, okRune c := by
  refine len_ind (P := fun l => ∀ c ∈ runesB l, okRune c) (fun c hc => by cases hc) (fun l h ih c hc => ?_) l
  rw [runesB_step h, List.mem_cons] at hc
  rcases hc with rfl | hc
  · exact dL_ok l h
  · exact ih c hc
/-- A text that is right is its runes' bytes. -/
theorem encs_runes (l : Bs) : Lib.validD l = true → encs (runesB l) = l := by
  refine len_ind (P := fun l => Lib.validD l = true → encs (runesB l) = l) (fun _ => rfl) (fun l h ih hv => ?_) l
  rw [Lib.validD_step l h] at hv
  split at hv
  · cases hv
  · rename_i hb
    rw [runesB_step h, encs_cons, ih hv, enc, Lib.encode_decode l h hb, List.take_append_drop]
theorem badL_iff (l : Bs) : badL l = true ↔ (dL l).1 = 65533 ∧ (dL l).2 = 1 := by simp [badL]
theorem places_valid (l : Bs) : ∀ a, (∀ p ∈ placesAt a l, p.2 ≠ -2) ↔ Lib.validD l = true := by
  refine len_ind (P := fun l => ∀ a, (∀ p ∈ placesAt a l, p.2 ≠ -2) ↔ Lib.validD l = true) (fun a => ?_) (fun l h ih a => ?_) l
  · simp [placesAt_nil, Lib.validD, Lib.validGoD]
  · rw [Lib.validD_step l h, placesAt_step a h]
    simp only [List.forall_mem_cons, ih]
    by_cases hb : badL l = true
    · rw [if_pos ((badL_iff l).mp hb)]; simp [hb]
    · rw [if_neg (fun e => hb ((badL_iff l).mpr e))]
      simp only [hb]
      constructor
      · exact fun e => e.2
      · intro e; refine ⟨?_, e⟩; simp
/-- The runes of a text that is right are its places'. -/
theorem places_runes (l : Bs) : ∀ a, Lib.validD l = true → (placesAt a l).map (·.2) = runesB l ++ [-1] := by
  refine len_ind (P := fun l => ∀ a, Lib.validD l = true → (placesAt a l).map (·.2) = runesB l ++ [-1]) (fun a _ => rfl) (fun l h ih a hv => ?_) l
  rw [Lib.validD_step l h] at hv
  split at hv
  · cases hv
  · rename_i hb
    have hb' : badL l = false := by rw [Bool.eq_false_iff]; exact fun e => hb ((badL_iff l).mp e)
    rw [placesAt_step a h, runesB_step h, List.map_cons, ih _ hv, hb']
    rfl
end Go.Proofs.Ytfohmepjedehfab
