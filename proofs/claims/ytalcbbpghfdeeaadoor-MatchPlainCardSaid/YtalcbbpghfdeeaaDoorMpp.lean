/-
  A form of letters and digits alone, plainly: it is a pattern, and matches the text itself alone. Nothing here speaks of the program.
-/
import Derived.Test.YtalcbbpghfdeeaaDoorMp
import Derived.Test.YtalcbbpghfdeeaaDoorRd6
import Derived.Laws.RangeAny
namespace Go.Proofs.YtalcbbpghfdeeaaDoor
set_option linter.unusedVariables false
set_option linter.unusedSimpArgs false
def alnumN (c : Nat) : Bool := (decide (97 ≤ c) && decide (c ≤ 122)) || (decide (65 ≤ c) && decide (c ≤ 90)) || (decide (48 ≤ c) && decide (c ≤ 57))
def alnumL (l : Bs) : Bool := l.all fun c => alnumN c.toNat
theorem alnum_lt {c : Nat} (h : alnumN c = true) : 48 ≤ c ∧ c ≤ 122 := by
  unfold alnumN at h
  simp only [Bool.or_eq_true, Bool.and_eq_true, decide_eq_true_eq] at h
  omega
theorem alnum_plain {c : Nat} (h : alnumN c = true) : specialP (c : Int) = false := by
  have h1 := alnum_lt h
  have : ∀ n : Fin 123, alnumN n.val = true → specialP ((n.val : Nat) : Int) = false := by decide
  exact this ⟨c, by omega⟩ h
theorem enc_low {c : UInt8} (h : c.toNat < 128) : enc ((c.toNat : Nat) : Int) = [c] := by
  have : ∀ n : Fin 128, enc ((n.val : Nat) : Int) = [UInt8.ofNat n.val] := by decide +kernel
  rw [this ⟨c.toNat, h⟩]; simp
def ints (l : Bs) : List Int := l.map fun c => ((c.toNat : Nat) : Int)
theorem runes_low : ∀ (l : Bs), (∀ c ∈ l, c.toNat < 128) → runesB l = ints l
  | [], _ => rfl
  | c :: r, h => by
    have hd : dL (c :: r) = (c.toNat, 1) := Lib.decodeL_ascii c r (h c (by simp))
    rw [runesB_step (by simp), hd, List.drop_one, List.tail_cons, runes_low r fun x hx => h x (by simp [hx])]; rfl
theorem encs_low : ∀ (l : Bs), (∀ c ∈ l, c.toNat < 128) → encs (ints l) = l
  | [], _ => rfl
  | c :: r, h => by
    show encs (((c.toNat : Nat) : Int) :: ints r) = c :: r
    rw [encs_cons, enc_low (h c (by simp)), encs_low r fun x hx => h x (by simp [hx])]; rfl
theorem quote_plain : ∀ (l : Bs), alnumL l = true → quoteC (ints l) = ints l
  | [], _ => rfl
  | c :: r, h => by
    unfold alnumL at h
    rw [List.all_cons, Bool.and_eq_true] at h
    show (((if specialP ((c.toNat : Nat) : Int) then [92, ((c.toNat : Nat) : Int)] else [((c.toNat : Nat) : Int)]) ++ quoteC (ints r)) : List Int) = ((c.toNat : Nat) : Int) :: ints r
    rw [alnum_plain h.1, quote_plain r h.2]; rfl
theorem alnum_low {l : Bs} (h : alnumL l = true) : ∀ c ∈ l, c.toNat < 128 := fun c hc => by
  have := alnum_lt (List.all_eq_true.1 h c hc); omega
theorem head_high (b : UInt8) (r : Bs) (h : 128 ≤ b.toNat) : 128 ≤ (dL (b :: r)).1 := by
  have hd := Lib.decodeL_drop (mkB (b :: r)) 0
  rw [List.drop_zero] at hd
  have hs : 0 < (mkB (b :: r)).size := by rw [mkB_size]; simp
  have := (decode_high (mkB (b :: r)) 0 hs (by exact h)).1
  rw [← hd] at this
  exact this
theorem ints_low : ∀ (t l : Bs), (∀ c ∈ t, c.toNat < 128) → runesB l = ints t → l = t
  | [], l, _, e => by
    cases l with
    | nil => rfl
    | cons b r => rw [runesB_step (by simp)] at e; cases e
  | c :: t, l, h, e => by
    cases l with
    | nil => cases e
    | cons b r =>
      rw [runesB_step (by simp)] at e
      have e' : ((dL (b :: r)).1 : Int) :: runesB ((b :: r).drop (dL (b :: r)).2) = ((c.toNat : Nat) : Int) :: ints t := e
      injection e' with e1 e2
      have hc := h c (by simp)
      by_cases hb : b.toNat < 128
      · have hd : dL (b :: r) = (b.toNat, 1) := Lib.decodeL_ascii b r hb
        rw [hd] at e1 e2
        rw [List.drop_one, List.tail_cons] at e2
        have hbc : b = c := UInt8.toNat_inj.1 (by simp only at e1; omega)
        rw [hbc, ints_low t r (fun x hx => h x (by simp [hx])) e2]
      · have := head_high b r (by omega)
        omega
theorem plain_is (cs w : List Int) : matchP (compP (catC .none cs) []).1 (compP (catC .none cs) []).2 w = decide (w = cs) := by
  have h := match_iff (catC .none cs) w
  rw [quote_match] at h
  by_cases e : w = cs
  · rw [decide_eq_true e]; exact h.mpr e
  · rw [decide_eq_false e]
    cases hm : matchP (compP (catC .none cs) []).1 (compP (catC .none cs) []).2 w with
    | false => rfl
    | true => exact absurd (h.mp hm) e
theorem plain_rx {l : Bs} (h : alnumL l = true) (hl : l.length ≤ 256) : rxP l = .ok (catC .none (ints l)) := by
  have hlow := alnum_low h
  have hw := quote_whole (ints l) (fun c hc => by
    obtain ⟨b, hb, rfl⟩ := List.mem_map.1 hc
    have := hlow b hb
    unfold okRune; omega)
  rw [quote_plain l h, encs_low l hlow] at hw
  unfold rxP
  rw [if_neg (by omega), hw]
theorem plain_re {t : ByteArray} (h : alnumL (bl t) = true) (hl : t.size ≤ 256) (v : ByteArray) : reM t v = decide (v = t) := by
  unfold reM
  rw [plain_rx h (by rw [bl_len]; exact hl)]
  simp only
  rw [plain_is]
  refine decide_eq_decide.2 ⟨fun e => ?_, fun e => ?_⟩
  · exact bl_inj (ints_low _ _ (alnum_low h) e)
  · rw [e, runes_low _ (alnum_low h)]
theorem plain_check {n t : ByteArray} (h : alnumL (bl t) = true) (hl : t.size ≤ 256) : checkM (3, n, t) = checkM (1, n, t) := by
  unfold checkM formM
  rw [plain_rx h (by rw [bl_len]; exact hl)]
  simp
theorem plain_one {n t : ByteArray} (h : alnumL (bl t) = true) (hl : t.size ≤ 256) (v : ByteArray) : oneM (3, n, t) v = oneM (1, n, t) v := by
  unfold oneM
  rw [plain_check h hl]
  unfold passM
  simp [plain_re h hl]
end Go.Proofs.YtalcbbpghfdeeaaDoor
