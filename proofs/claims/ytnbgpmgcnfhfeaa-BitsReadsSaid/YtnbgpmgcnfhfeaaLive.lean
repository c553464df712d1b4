
/-
  The chapter's examples, which each law of this layer asks first: they come out as the document says.
-/
import Derived.Test.YtnbgpmgcnfhfeaaBy
import Derived.Test.YtnbgpmgcnfhfeaaEq
import Derived.Test.YtnbgpmgcnfhfeaaUv
import Derived.Test.YtnbgpmgcnfhfeaaZigA
namespace Go.Proofs.Ytnbgpmgcnfhfeaa
set_option linter.unusedVariables false
set_option linter.unusedSimpArgs false
open Go.RowKit

section
set_option maxHeartbeats 1600000
set_option maxRecDepth 100000
/-- Put, met where all that the Writer has is new since B. -/
theorem put_above (B : Nat) (W : World) (p n : Nat) (wd : Int) (v : Value) (l : List Bool) (hw : WisB B W p v l) (hB : B ≤ W.heap.size) (hn : n < 18446744073709551616) (hl2 : l.length ≤ 8388608) :
    Calls Try.prog 13 #[.pointer (some ⟨p, 0, none⟩), .int .u64 n, .int .i64 wd] W fun e w' => e = .returned (.int .i64 (putE l.length n wd : Nat)) ∧
      ∃ v', WisB B w' p v' (if putE l.length n wd = 0 then l ++ bitsOf n wd.toNat else l) ∧ Below B W w' :=
  (put_any W p n wd v l hw.1 hn hl2).mono fun _ _ ⟨he, hp⟩ => ⟨he, hp.above hw hB⟩

theorem live_any (w : World) : Calls Try.prog 4 #[] w fun e w' => e = .returned (.bool true) ∧ Below w.heap.size w w' := by
  go_enter Try.func4, Try.ntmps4
  go_wp2_with fail
  refine (new_any _).mono ?_
  rintro e w1 ⟨rfl, hw1, hb1⟩
  go_wp2_with fail
  refine (put_above w.heap.size w1 w.heap.size 5 3 _ [] ⟨hw1, Nat.le_refl _, fun i h => by cases h⟩ hb1.size (by decide) (by decide)).mono ?_
  rintro e w2 ⟨rfl, v2, hw2, hb2⟩
  rw [show (putE ([] : List Bool).length 5 3) = 0 from by decide] at hw2 ⊢
  simp only [List.nil_append, if_true] at hw2
  have hb2 := hb1.trans hb2
  clear hb1
  go_wp2_with fail
  refine (put_above w.heap.size w2 w.heap.size 1 6 _ _ hw2 hb2.size (by decide) (by rw [bitsOf_length]; decide)).mono ?_
  rintro e w3 ⟨rfl, v3, hw3, hb3⟩
  rw [show (putE (bitsOf 5 (Int.toNat 3)).length 1 6) = 0 from by decide] at hw3 ⊢
  simp only [if_true] at hw3
  have hb3 := hb2.trans hb3
  clear hb2 hw2 hw1
  have hl : (bitsOf 5 (Int.toNat 3) ++ bitsOf 1 (Int.toNat 6)).length = 9 := by decide
  have hby : bytesOf (bitsOf 5 (Int.toNat 3) ++ bitsOf 1 (Int.toNat 6)) = [160, 128] := by decide
  have HL := Lib.hid hl; clear hl
  have HB := Lib.hid hby; clear hby
  have hz3 := hb3.size
  go_wp2_with fail
  refine (uvarint_any _ 3 [172, 2, 7] _ (rd_lit w3 [172, 2, 7] _) (by decide)).mono ?_
  rintro e w4 ⟨rfl, rfl⟩
  rw [show uvS 0 0 [172, 2, 7] = (300, 2, 0) from by decide]
  have hw4 : Wis (w3.alloc (.cells #[Bv 172, Bv 2, Bv 7] 5)) _ _ _ := hw3.1.below ((Below.refl _ w3).alloc (Nat.le_refl _) (.cells ([172, 2, 7].map Bv).toArray 5))
  have hb4 : Below w.heap.size w (w3.alloc (.cells #[Bv 172, Bv 2, Bv 7] 5)) := hb3.alloc hz3 _
  simp only [uvT]
  clear hb3 hw3 hz3
  go_wp2_with fail
  generalize w3.alloc (.cells #[Bv 172, Bv 2, Bv 7] 5) = w4 at hw4 hb4 ⊢
  refine (bytes_any w4 w.heap.size v3 _ hw4 (by rw [HB.out]; decide)).mono ?_
  rintro e w5 ⟨v', rfl, hown, hb5⟩
  rw [HB.out] at hown
  obtain ⟨A, cap, rfl, hrd, _⟩ := own_rd hown
  have hw5 := hw4.below hb5
  have hb5 := hb4.trans (hb5.mono hb4.size)
  go_wp2_with fail
  refine (equal_any A _ cap 2 [160, 128] [160, 128] _ (hrd.alloc _) (rd_lit w5 [160, 128] _) (by decide) (by decide)).mono ?_
  rintro e w6 ⟨rfl, nn, rfl⟩
  rw [show decide (([160, 128] : List UInt8) = [160, 128]) = true from by decide]
  have hw6 := hw5.below (((Below.refl _ w5).alloc (Nat.le_refl _) (.cells ([160, 128].map Bv).toArray 5)))
  have hw6 : Wis ((w5.alloc (.cells #[Bv 160, Bv 128] 5)).drewN nn) _ _ _ := hw6
  have hb6 : Below w.heap.size w ((w5.alloc (.cells #[Bv 160, Bv 128] 5)).drewN nn) := by
    have h := hb5.alloc hb5.size (.cells ([160, 128].map Bv).toArray 5)
    exact ⟨h.os, h.tape, h.output, h.size, h.block⟩
  go_wp2_with fail
  refine (len_any _ _ _ _ hw6).mono ?_
  rintro e w7 ⟨rfl, rfl⟩
  rw [HL.out]
  go_wp2_with fail
  refine (zig_any (-1) _ (by decide) (by decide)).mono ?_
  rintro e w7 ⟨rfl, rfl⟩
  rw [show zigN (-1) = 1 from by decide]
  go_wp2_with fail
  refine (lead_any 1 _ (by decide)).mono ?_
  rintro e w7 ⟨rfl, rfl⟩
  rw [show Lib.bitLen 1 = 1 from by decide]
  go_wp2
  go_ret
  exact ⟨rfl, hb6⟩
end
end Go.Proofs.Ytnbgpmgcnfhfeaa
