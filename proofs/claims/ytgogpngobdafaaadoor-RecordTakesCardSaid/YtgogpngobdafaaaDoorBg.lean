/-
  A number in eight bytes, and the number of eight bytes: the plain answers' own.
-/
import Derived.Test.YtgogpngobdafaaaDoorJa
import Derived.Test.YtgogpngobdafaaaDoorRbits
import Derived.Test.YtgogpngobdafaaaDoorRputs
namespace Go.Proofs.YtgogpngobdafaaaDoor
set_option linter.unusedVariables false
set_option linter.unusedSimpArgs false
open Go.RowKit

theorem natOf_rbcons (x : UInt8) (r : List UInt8) : natOf (rb (x :: r)) = x.toNat * 2 ^ (8 * r.length) + natOf (rb r) := by
  have e : rb (x :: r) = bitsOf x.toNat 8 ++ rb r := by simp [rb]
  rw [e, natOf_append, natOf_bitsOf, rb_length, Nat.mod_eq_of_lt x.toNat_lt]
theorem natOf_ofB (b : Bs) : natOf (rb b) = ofB b := by
  refine rev_ind (P := fun b => natOf (rb b) = ofB b) (by simp [rb, natOf, ofB]) (fun l x ih => ?_) b
  have e : rb (l ++ [x]) = rb l ++ bitsOf x.toNat 8 := by simp [rb]
  rw [e, natOf_append, natOf_bitsOf, bitsOf_length, ofB_snoc, ih, Nat.mod_eq_of_lt x.toNat_lt]
theorem bigN_eq (n : Nat) : bytesOf (bitsOf n 64) = bigN 8 n := by
  unfold bytesOf
  rw [bitsOf_length]
  have e : ∀ i, i < 8 → UInt8.ofNat (packB (((bitsOf n 64).drop (8 * i)).take 8)) = UInt8.ofNat (n / 256 ^ (7 - i) % 256) := by
    intro i hi
    rw [bitsOf_drop _ _ _ (by omega), bitsOf_take _ _ _ (by omega)]
    unfold packB
    rw [bitsOf_length, natOf_bitsOf, Nat.sub_self, Nat.pow_zero, Nat.mul_one, show 64 - 8 * i - 8 = 8 * (7 - i) from by omega, Nat.pow_mul]
  rw [bigN_cons, bigN_cons, bigN_cons, bigN_cons, bigN_cons, bigN_cons, bigN_cons, bigN_cons]
  simp only [bigN]
  have e2 : (List.range ((64 + 7) / 8)) = [0, 1, 2, 3, 4, 5, 6, 7] := by decide
  first | rw [e2] | rw [show (List.range (64 / 8)) = [0, 1, 2, 3, 4, 5, 6, 7] from by decide]
  simp only [List.map_cons, List.map_nil]
  rw [e 0 (by omega), e 1 (by omega), e 2 (by omega), e 3 (by omega), e 4 (by omega), e 5 (by omega), e 6 (by omega), e 7 (by omega)]

section
set_option maxHeartbeats 1600000
set_option maxRecDepth 100000
theorem natnumE_at (W : World) (A : Option Addr) (c m : Nat) (l : List Bool) (hm : l.length = m) (hx : Rd W A (l.map Value.bool)) (hl : m ≤ 64) :
    Calls Tryd.prog 113 #[.slice A m c] W fun e w' => e = .returned (.int .u64 (natOf l : Nat)) ∧ Below W.heap.size W w' := by
  subst hm; exact natnum_any W A c l hx hl
theorem rof_any (w : World) (A : Option Addr) (c n : Nat) (xs : List UInt8) (hn : xs.length = n) (h8 : n ≤ 8) (hx : Rd w A (xs.map Bv)) :
    Calls Tryd.prog 89 #[.slice A n c] w fun e w' => e = .returned (.int .u64 (natOf (rb xs) : Nat)) ∧ Below w.heap.size w w' := by
  have h1 := rbits_any w A c (8 * n) xs hx (by omega) (by omega)
  have hrl : (rb xs).length = 8 * n := by rw [rb_length, hn]
  rw [List.take_of_length_le (by omega), hn] at h1
  have e8 : ((8 * n : Nat) : Int) = 8 * (n : Int) := by omega
  rw [e8] at h1
  have H1 := Lib.hid h1; clear h1 e8 hn
  generalize rb xs = l at *
  obtain ⟨q, hq⟩ : ∃ q, q = natOf l := ⟨_, rfl⟩
  rw [← hq]
  have HQ := Lib.hid hq; clear hq
  go_enter Tryd.func89, Tryd.ntmps89
  go_wp2_with fail
  refine H1.out.mono ?_
  rintro e w1 ⟨v, rfl, own1, hb1⟩
  obtain ⟨A1, c1, rfl, rd1, _⟩ := own_rd own1
  clear own1 H1
  go_wp2_with fail
  refine (natnumE_at w1 A1 c1 (8 * n) l hrl rd1 (by omega)).mono ?_
  rintro e w2 ⟨rfl, hb2⟩
  rw [← HQ.out]
  have hb3 := hb1.trans (hb2.mono hb1.size)
  go_wp2
  go_ret
  exact ⟨rfl, hb3⟩
theorem rbig_any (w : World) (n : Nat) (hn : n < 18446744073709551616) :
    Calls Tryd.prog 45 #[.int .u64 n] w fun e w' => ∃ v, e = .returned v ∧ w'.ownsRow w.heap.size 5 1 v 8 ((bigN 8 n).map Bv) ∧ Below w.heap.size w w' := by
  have h1 := rput_any w.heap.size w (.slice none 0 0) [] n 64 ⟨rfl, .inl ⟨rfl, rfl⟩⟩ (Nat.le_refl _) hn (by decide) (by decide)
  have H1 := Lib.hid h1; clear h1
  go_enter Tryd.func45, Tryd.ntmps45
  go_wp2_with fail
  refine H1.out.mono ?_
  rintro e w1 ⟨v, rfl, own1, hm1, _⟩
  have hb1 : Below w.heap.size w w1 := hm1.belowB (Nat.le_refl _) (fun k hk e => by cases e)
  obtain ⟨A1, c1, rfl, rd1, _⟩ := own_rd own1
  rw [List.nil_append] at rd1 ⊢
  rw [bitsOf_length] at *
  clear own1 H1
  have h2 := rbytes_any w1 A1 c1 (bitsOf n 64) (by rw [bitsOf_length]; decide) rd1
  rw [bigN_eq, bigN_len, bitsOf_length] at h2
  have H2 := Lib.hid h2; clear h2 rd1
  go_wp2_with fail
  refine H2.out.mono ?_
  rintro e w2 ⟨v2, rfl, own2, hb2⟩
  have hb3 := hb1.trans (hb2.mono hb1.size)
  have own3 := own2.lower hb1.size
  go_wp2
  go_ret
  exact ⟨v2, rfl, own3, hb3⟩
end
end Go.Proofs.YtgogpngobdafaaaDoor
