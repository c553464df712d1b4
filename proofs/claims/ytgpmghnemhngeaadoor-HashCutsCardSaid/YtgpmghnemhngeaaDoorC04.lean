/-
  Sums with a key, of a key of any length; two parts one behind the other, at worlds that a region leaves.
-/
import Derived.Deep.RegionHeld3
import Derived.Laws.MakeOwn
import Derived.Test.YtgpmghnemhngeaaDoorC03
import Derived.Test.YtgpmghnemhngeaaDoorCKn
import Derived.Test.YtgpmghnemhngeaaDoorC01
namespace Go.Proofs.YtgpmghnemhngeaaDoor
section
set_option linter.unusedVariables false
set_option linter.unusedSimpArgs false
open Go.ChangeShapes Go.WideShapes Go.ChangeAt Go.RowKit
theorem macS_length' (K l : List UInt8) : (macS K l).length = 32 := sha_length _
theorem parts_two (w : World) (A B : Option Addr) (ca cb n m : Nat) (xs ys : List UInt8) (hn : xs.length = n) (hm : ys.length = m) (hx : Rd w A (xs.map Bv)) (hy : Rd w B (ys.map Bv)) (hc : n ≤ ca) (hca : ca ≤ 9223372036854775807) (hd : m ≤ cb) (hcb : cb ≤ 9223372036854775807) :
    PartsRd (w.alloc (.cells #[.slice A n ca, .slice B m cb] 28)) (some ⟨w.heap.size, 0, none⟩) [(A, ca, xs), (B, cb, ys)] := by
  subst hn hm
  exact parts_new w [(A, ca, xs), (B, cb, ys)] fun p hp => by
    simp only [List.mem_cons, List.not_mem_nil, or_false] at hp
    rcases hp with rfl | rfl
    · exact ⟨hx, hc, hca⟩
    · exact ⟨hy, hd, hcb⟩
theorem mac_one (w : World) (A B : Option Addr) (ca cb n m : Nat) (K T : List UInt8) (l : List UInt8) (hl : macS K T = l) (hn : K.length = n) (hm : T.length = m) (hx : Rd w A (K.map Bv)) (hy : Rd w B (T.map Bv)) (hc : n ≤ ca) (hca : ca ≤ 9223372036854775807) (hd : m ≤ cb) (hcb : cb ≤ 9223372036854775807)
    (hb : n ≤ 100000000) (hb2 : m ≤ 90000000) (ht : AddsMet w) :
    Calls Tryd.prog 19 #[.slice A n ca, .slice (some ⟨w.heap.size, 0, none⟩) 1 1] (w.alloc (.cells #[.slice B m cb] 28)) fun e w' => e = .returned (sumV l) ∧ Below w.heap.size w w' := by
  subst hl
  have hbl := (Below.refl _ w).alloc (Nat.le_refl _) (.cells #[.slice B m cb] 28)
  refine (mac_any _ A (some ⟨w.heap.size, 0, none⟩) ca n 1 1 K [(B, cb, T)] hn (hx.below hbl) hc hca hb (ht.below hbl) rfl (parts_one w B cb m T hm hy hd hcb) (by rw [joined_one, hm]; exact hb2) (by decide)).mono ?_
  rintro e w' ⟨rfl, h2⟩
  rw [joined_one]
  exact ⟨rfl, hbl.trans (h2.mono (by simp))⟩
theorem join_two_here (w : World) (A B : Option Addr) (ca cb la lb : Nat) (xs ys zs : List UInt8) (hz : xs ++ ys = zs) (hla : xs.length = la) (hlb : ys.length = lb) (hx : Rd w A (xs.map Bv)) (hy : Rd w B (ys.map Bv)) (hl : la + lb ≤ 140737488351232) :
    Calls Tryd.prog 13 #[.slice (some ⟨w.heap.size, 0, none⟩) 2 2] (w.alloc (.cells #[.slice A la ca, .slice B lb cb] 28)) fun e w' =>
      ∃ C c, e = .returned (.slice C (la + lb) c) ∧ Rd w' C (zs.map Bv) ∧ la + lb ≤ c ∧ c ≤ maxLen ∧ Below w.heap.size w w' := by
  subst hz hla hlb
  refine (join_two_own w A B ca cb xs ys hx hy hl).mono ?_
  rintro e w' ⟨v, rfl, h1, h2⟩
  obtain ⟨C, c, rfl, rd, _, h3, h4⟩ := own_rd h1
  rw [List.length_append] at h3 ⊢
  exact ⟨C, c, rfl, rd, h3, h4, h2⟩
theorem join_far (W : World) (R : Nat) (A B : Option Addr) (ca cb la lb : Nat) (xs ys : List UInt8) (hla : xs.length = la) (hlb : ys.length = lb) (hr : W.heap[R]? = some (.cells #[.slice A la ca, .slice B lb cb] 28)) (hx : Rd W A (xs.map Bv)) (hy : Rd W B (ys.map Bv)) (hl : la + lb ≤ 140737488351232) :
    Calls Tryd.prog 13 #[.slice (some ⟨R, 0, none⟩) 2 2] W fun e w' => ∃ C c, e = .returned (.slice C (la + lb) c) ∧ Rd w' C ((xs ++ ys).map Bv) ∧ la + lb ≤ c ∧ c ≤ maxLen ∧ Below W.heap.size W w' := by
  subst hla hlb
  have hP : ∀ p ∈ [(A, ca, xs), (B, cb, ys)], Rd W p.1 (p.2.2.map Bv) := by
    intro p hp
    simp at hp
    rcases hp with rfl | rfl
    · exact hx
    · exact hy
  have hj : joined [(A, ca, xs), (B, cb, ys)] = xs ++ ys := by simp [joined]
  have hS : Rd W (some ⟨R, 0, none⟩) ([(A, ca, xs), (B, cb, ys)].map partV) := by
    intro k v hv
    refine ⟨R, 0, rfl, ?_⟩
    rw [cell_blk hr, Nat.zero_add]
    simpa [partV] using hv
  refine (join_any W (some ⟨R, 0, none⟩) 2 [(A, ca, xs), (B, cb, ys)] hS hP (by rw [hj, List.length_append]; exact hl) (by simp)).mono ?_
  rintro e w4 ⟨v4, rfl, own4, hb4⟩
  rw [hj] at own4
  obtain ⟨A4, c4, rfl, rd4, _, h3, h4⟩ := own_rd own4
  rw [List.length_append] at h3 ⊢
  exact ⟨A4, c4, rfl, rd4, h3, h4, hb4⟩
theorem mac_far (W : World) (R : Nat) (A B : Option Addr) (ca cb n m : Nat) (K T : List UInt8) (l : List UInt8) (hl : macS K T = l) (hn : K.length = n) (hm : T.length = m) (hr : W.heap[R]? = some (.cells #[.slice B m cb] 28)) (hx : Rd W A (K.map Bv)) (hy : Rd W B (T.map Bv)) (hc : n ≤ ca) (hca : ca ≤ 9223372036854775807) (hd : m ≤ cb) (hcb : cb ≤ 9223372036854775807)
    (hb : n ≤ 100000000) (hb2 : m ≤ 90000000) (ht : AddsMet W) :
    Calls Tryd.prog 19 #[.slice A n ca, .slice (some ⟨R, 0, none⟩) 1 1] W fun e w' => e = .returned (sumV l) ∧ Below W.heap.size W w' := by
  subst hl
  have hp : PartsRd W (some ⟨R, 0, none⟩) [(B, cb, T)] := by
    subst hm
    refine ⟨fun k v hv => ⟨R, 0, rfl, ?_⟩, fun p hp => ?_⟩
    · rw [cell_blk hr, Nat.zero_add]; simpa [partV] using hv
    · simp only [List.mem_cons, List.not_mem_nil, or_false] at hp
      subst hp
      exact ⟨hy, hd, hcb⟩
  refine (mac_any W A (some ⟨R, 0, none⟩) ca n 1 1 K [(B, cb, T)] hn hx hc hca hb ht rfl hp (by rw [joined_one, hm]; exact hb2) (by decide)).mono ?_
  rintro e w' ⟨rfl, h2⟩
  rw [joined_one]
  exact ⟨rfl, h2⟩
end
end Go.Proofs.YtgpmghnemhngeaaDoor
