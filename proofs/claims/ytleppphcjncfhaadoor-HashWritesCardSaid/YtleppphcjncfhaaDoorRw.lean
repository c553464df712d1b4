/-
  The plain answers' SHA-256: words turned, numbers of bytes and back, a block's words.
-/
import Derived.Test.YtleppphcjncfhaaDoorHw
import Derived.Test.YtleppphcjncfhaaDoorRbits
import Derived.Test.YtleppphcjncfhaaDoorRputs
namespace Go.Proofs.YtleppphcjncfhaaDoor
set_option linter.unusedVariables false
set_option linter.unusedSimpArgs false
open Go.RowKit

theorem big8_eq (n : Nat) : bytesOf (bitsOf n 64) = big8 n := by
  unfold bytesOf big8
  rw [bitsOf_length]
  refine List.map_congr_left fun i hi => ?_
  have hi' : i < 8 := by simpa using hi
  rw [bitsOf_drop _ _ _ (by omega), bitsOf_take _ _ _ (by omega)]
  unfold packB
  rw [bitsOf_length, natOf_bitsOf, Nat.sub_self, Nat.pow_zero, Nat.mul_one, show 64 - 8 * i - 8 = 8 * (7 - i) from by omega]
theorem natOf_rb_cons (x : UInt8) (r : List UInt8) : natOf (rb (x :: r)) = x.toNat * 2 ^ (8 * r.length) + natOf (rb r) := by
  have e : rb (x :: r) = bitsOf x.toNat 8 ++ rb r := by simp [rb]
  rw [e, natOf_append, natOf_bitsOf, rb_length, Nat.mod_eq_of_lt x.toNat_lt]
theorem of_be4 (xs : List UInt8) (i : Nat) (h : i + 4 ≤ xs.length) : natOf (rb ((xs.drop i).take 4)) = be4 xs i := by
  have e : (xs.drop i).take 4 = [xs.getD i 0, xs.getD (i + 1) 0, xs.getD (i + 2) 0, xs.getD (i + 3) 0] := by
    rw [drop_cons (show i < xs.length by omega), drop_cons (show i + 1 < xs.length by omega), drop_cons (show i + 1 + 1 < xs.length by omega), drop_cons (show i + 1 + 1 + 1 < xs.length by omega)]
    simp only [List.getD_eq_getElem?_getD, List.getElem?_eq_getElem (show i < xs.length by omega), List.getElem?_eq_getElem (show i + 1 < xs.length by omega), List.getElem?_eq_getElem (show i + 2 < xs.length by omega), List.getElem?_eq_getElem (show i + 3 < xs.length by omega), Option.getD_some, List.take_succ_cons, List.take_zero]
  rw [e, natOf_rb_cons, natOf_rb_cons, natOf_rb_cons, natOf_rb_cons]
  unfold be4 bt
  simp [rb, natOf]
  omega

section
set_option maxHeartbeats 1600000
set_option maxRecDepth 100000
theorem natnum_at (W : World) (A : Option Addr) (c m : Nat) (l : List Bool) (hm : l.length = m) (hx : Rd W A (l.map Value.bool)) (hl : m ≤ 64) :
    Calls Tryd.prog 53 #[.slice A m c] W fun e w' => e = .returned (.int .u64 (natOf l : Nat)) ∧ Below W.heap.size W w' := by
  subst hm; exact natnum_any W A c l hx hl
theorem of_any (w : World) (A : Option Addr) (c n : Nat) (xs : List UInt8) (hn : xs.length = n) (h8 : n ≤ 8) (hx : Rd w A (xs.map Bv)) :
    Calls Tryd.prog 72 #[.slice A n c] w fun e w' => e = .returned (.int .u64 (natOf (rb xs) : Nat)) ∧ Below w.heap.size w w' := by
  have h1 := rbits_any w A c (8 * n) xs hx (by omega) (by omega)
  have hrl : (rb xs).length = 8 * n := by rw [rb_length, hn]
  rw [List.take_of_length_le (by omega), hn] at h1
  have e8 : ((8 * n : Nat) : Int) = 8 * (n : Int) := by omega
  rw [e8] at h1
  have H1 := Lib.hid h1; clear h1 e8 hn
  generalize rb xs = l at *
  obtain ⟨q, hq⟩ : ∃ q, q = natOf l := ⟨_, rfl⟩
  rw [← hq]
  have HQ := Lib.hid hq; clear hq
  go_enter Tryd.func72, Tryd.ntmps72
  go_wp2_with fail
  refine H1.out.mono ?_
  rintro e w1 ⟨v, rfl, own1, hb1⟩
  obtain ⟨A1, c1, rfl, rd1, _⟩ := own_rd own1
  clear own1 H1
  go_wp2_with fail
  refine (natnum_at w1 A1 c1 (8 * n) l hrl rd1 (by omega)).mono ?_
  rintro e w2 ⟨rfl, hb2⟩
  rw [← HQ.out]
  have hb3 := hb1.trans (hb2.mono hb1.size)
  go_wp2
  go_ret
  exact ⟨rfl, hb3⟩
theorem big_any (w : World) (n : Nat) (hn : n < 18446744073709551616) :
    Calls Tryd.prog 36 #[.int .u64 n] w fun e w' => ∃ v, e = .returned v ∧ w'.ownsRow w.heap.size 5 1 v 8 ((big8 n).map Bv) ∧ Below w.heap.size w w' := by
  have h1 := rput_any w.heap.size w (.slice none 0 0) [] n 64 ⟨rfl, .inl ⟨rfl, rfl⟩⟩ (Nat.le_refl _) hn (by decide) (by decide)
  have H1 := Lib.hid h1; clear h1
  go_enter Tryd.func36, Tryd.ntmps36
  go_wp2_with fail
  refine H1.out.mono ?_
  rintro e w1 ⟨v, rfl, own1, hm1, _⟩
  have hb1 : Below w.heap.size w w1 := hm1.belowB (Nat.le_refl _) (fun k hk e => by cases e)
  obtain ⟨A1, c1, rfl, rd1, _⟩ := own_rd own1
  rw [List.nil_append] at rd1 ⊢
  rw [bitsOf_length] at *
  clear own1 H1
  have h2 := rbytes_any w1 A1 c1 (bitsOf n 64) (by rw [bitsOf_length]; decide) rd1
  rw [big8_eq, big8_length, bitsOf_length] at h2
  have H2 := Lib.hid h2; clear h2 rd1
  go_wp2_with fail
  refine H2.out.mono ?_
  rintro e w2 ⟨v2, rfl, own2, hb2⟩
  have hb3 := hb1.trans (hb2.mono hb1.size)
  have own3 := own2.lower hb1.size
  go_wp2
  go_ret
  exact ⟨v2, rfl, own3, hb3⟩
end
end Go.Proofs.YtleppphcjncfhaaDoor
