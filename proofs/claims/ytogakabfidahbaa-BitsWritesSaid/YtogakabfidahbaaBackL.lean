/-
  The bits of a row's bytes are the row. Plain lemmas.
-/
import Derived.Test.YtogakabfidahbaaRd
namespace Go.Proofs.Ytogakabfidahbaa
set_option linter.unusedVariables false
set_option linter.unusedSimpArgs false

theorem bitsOf_natOf (t : List Bool) : bitsOf (natOf t) t.length = t := by
  induction t with
  | nil => rfl
  | cons b t ih =>
    rw [List.length_cons, bitsOf, natOf_cons]
    have hlt := natOf_lt t
    have h1 : (b.toNat * 2 ^ t.length + natOf t).testBit t.length = b := by
      rw [Nat.testBit_eq_decide_div_mod_eq, Nat.add_comm, Nat.add_mul_div_right _ _ (Nat.two_pow_pos _), Nat.div_eq_of_lt hlt]
      cases b <;> rfl
    have h2 : bitsOf (b.toNat * 2 ^ t.length + natOf t) t.length = bitsOf (natOf t) t.length := by
      have key : ∀ (w n m : Nat), n % 2 ^ w = m % 2 ^ w → bitsOf n w = bitsOf m w := by
        intro w
        induction w with
        | zero => intro n m _; rfl
        | succ w ih =>
          intro n m h
          have hw : n % 2 ^ w = m % 2 ^ w := by
            have := congrArg (· % 2 ^ w) h
            simpa [Nat.pow_succ, Nat.mod_mod_of_dvd] using this
          rw [bitsOf, bitsOf, ih n m hw]
          congr 1
          have e1 : n.testBit w = (n % 2 ^ (w + 1)).testBit w := by rw [Nat.testBit_mod_two_pow]; simp
          have e2 : m.testBit w = (m % 2 ^ (w + 1)).testBit w := by rw [Nat.testBit_mod_two_pow]; simp
          rw [e1, e2, h]
      exact key _ _ _ (by rw [Nat.add_comm, Nat.add_mul_mod_self_right])
    rw [h1, h2, ih]
theorem bitsOf_zeros (m k : Nat) : bitsOf (m * 2 ^ k) k = List.replicate k false := by
  have key : ∀ w, w ≤ k → bitsOf (m * 2 ^ k) w = List.replicate w false := by
    intro w
    induction w with
    | zero => intro _; rfl
    | succ w ih =>
      intro h
      rw [bitsOf, ih (by omega), List.replicate_succ, Nat.mul_comm, Nat.testBit_two_pow_mul]
      simp; omega
  exact key k (Nat.le_refl k)
theorem bitsOf_packB (t : List Bool) (h : t.length ≤ 8) : bitsOf (packB t) 8 = t ++ List.replicate (8 - t.length) false := by
  have e := bitsOf_add (packB t) t.length (8 - t.length)
  rw [show t.length + (8 - t.length) = 8 from by omega] at e
  rw [e, packB, Nat.mul_div_cancel _ (Nat.two_pow_pos _), bitsOf_natOf, bitsOf_zeros]
theorem bytesOf_cons (l : List Bool) (h : 0 < l.length) : bytesOf l = UInt8.ofNat (packB (l.take 8)) :: bytesOf (l.drop 8) := by
  unfold bytesOf
  have e : (l.length + 7) / 8 = ((l.drop 8).length + 7) / 8 + 1 := by rw [List.length_drop]; omega
  rw [e, List.range_succ_eq_map, List.map_cons, List.map_map]
  congr 1
  refine List.map_congr_left fun i _ => ?_
  simp only [Function.comp, List.drop_drop]
  rw [show 8 + 8 * i = 8 * (i + 1) from by omega]
theorem rb_bytesOf (n : Nat) : ∀ l : List Bool, l.length ≤ n → (rb (bytesOf l)).take l.length = l := by
  induction n using Nat.strongRecOn with
  | ind n ih =>
    intro l hl
    by_cases h0 : l.length = 0
    · have : l = [] := List.eq_nil_of_length_eq_zero h0
      subst this
      rfl
    · rw [bytesOf_cons l (by omega)]
      have ht8 : (l.take 8).length ≤ 8 := by rw [List.length_take]; omega
      have e : rb (UInt8.ofNat (packB (l.take 8)) :: bytesOf (l.drop 8)) = (l.take 8 ++ List.replicate (8 - (l.take 8).length) false) ++ rb (bytesOf (l.drop 8)) := by
        unfold rb
        rw [List.flatMap_cons, ofNat_toNat (packB_lt _ ht8), bitsOf_packB _ ht8]
      rw [e]
      by_cases h8 : l.length ≤ 8
      · have ht : l.take 8 = l := List.take_of_length_le h8
        rw [ht, List.append_assoc, List.take_left' rfl]
      · have hlen : (l.take 8).length = 8 := by rw [List.length_take]; omega
        rw [hlen, Nat.sub_self, List.replicate_zero, List.append_nil]
        have e2 : l.length = (l.take 8).length + (l.drop 8).length := by rw [hlen, List.length_drop]; omega
        rw [e2, List.take_append, List.take_of_length_le (by omega), Nat.add_sub_cancel_left, ih (n - 8) (by omega) (l.drop 8) (by rw [List.length_drop]; omega), List.take_append_drop]
/-- The next bits of a row, read off its bytes. -/
theorem numAt_bytesOf (l : List Bool) (a c : Nat) (h : a + c ≤ l.length) : numAt (bytesOf l) a c = natOf ((l.drop a).take c) := by
  have e := rb_bytesOf l.length l (Nat.le_refl _)
  unfold numAt
  congr 1
  conv => rhs; rw [← e]
  rw [List.drop_take, List.take_take, Nat.min_eq_left (by omega)]

/-- What is put, one behind the other. -/
def bitsAll (l : List (Nat × Int)) : List Bool := l.flatMap fun o => bitsOf o.1 o.2.toNat
theorem bitsAll_snoc (l : List (Nat × Int)) (o : Nat × Int) : bitsAll (l ++ [o]) = bitsAll l ++ bitsOf o.1 o.2.toNat := by
  unfold bitsAll; rw [List.flatMap_append, List.flatMap_singleton]
/-- A number that may be put. -/
def Fits (o : Nat × Int) : Prop := 0 ≤ o.2 ∧ o.2 ≤ 64 ∧ o.1 < 2 ^ o.2.toNat
theorem putE_fits {len : Nat} {o : Nat × Int} (h : putE len o.1 o.2 = 0) : Fits o := by
  unfold putE at h
  split at h
  · simp at h
  · rename_i hn
    exact ⟨by omega, by omega, by have := (not_or.1 (not_or.1 hn).2).2; omega⟩
theorem bitsAll_len (l : List (Nat × Int)) (h : ∀ o ∈ l, Fits o) : (bitsAll l).length ≤ 64 * l.length := by
  induction l with
  | nil => simp [bitsAll]
  | cons o l ih =>
    have h1 := h o (List.mem_cons_self ..)
    have h2 := ih fun x hx => h x (List.mem_cons_of_mem _ hx)
    have e : bitsAll (o :: l) = bitsOf o.1 o.2.toNat ++ bitsAll l := by simp [bitsAll]
    rw [e, List.length_append, bitsOf_length, List.length_cons]
    have := h1.2.1
    omega
/-- What is got where the k-th number was put is that number. -/
theorem got (l : List (Nat × Int)) (k : Nat) (hk : k < l.length) (h : ∀ o ∈ l, Fits o) :
    (bitsAll (l.take k)).length + l[k].2.toNat ≤ (bitsAll l).length ∧ numAt (bytesOf (bitsAll l)) (bitsAll (l.take k)).length l[k].2.toNat = l[k].1 ∧
      (bitsAll (l.take (k + 1))).length = (bitsAll (l.take k)).length + l[k].2.toNat := by
  have e : bitsAll l = bitsAll (l.take k) ++ (bitsOf l[k].1 l[k].2.toNat ++ bitsAll (l.drop (k + 1))) := by
    have e0 : l = l.take k ++ l[k] :: l.drop (k + 1) := by rw [← List.drop_eq_getElem_cons hk, List.take_append_drop]
    exact (congrArg bitsAll e0).trans (by unfold bitsAll; rw [List.flatMap_append, List.flatMap_cons])
  have hle : (bitsAll (l.take k)).length + l[k].2.toNat ≤ (bitsAll l).length := by
    rw [e, List.length_append, List.length_append, bitsOf_length]; omega
  refine ⟨hle, ?_, ?_⟩
  · rw [numAt_bytesOf _ _ _ hle, e, List.drop_left' rfl, List.take_left' (bitsOf_length _ _), natOf_bitsOf, Nat.mod_eq_of_lt (h _ (List.getElem_mem hk)).2.2]
  · rw [List.take_succ_eq_append_getElem hk, bitsAll_snoc, List.length_append, bitsOf_length]
end Go.Proofs.Ytogakabfidahbaa
