/-
  The label that bytes begin with: the program's takeLabel.
-/
import Derived.Test.YtmicbgcdnkomjaaDoorLk
import Derived.Test.YtmicbgcdnkomjaaDoorFi
namespace Go.Proofs.YtmicbgcdnkomjaaDoor
set_option linter.unusedVariables false
set_option linter.unusedSimpArgs false
open Go.RowKit
/-- A label: what it is, how many bytes it took, what was wrong. -/
def labelAt (b : Bs) : Lb × Nat × Nat :=
  if (textAt b 64).2.2 ≠ 0 then ((⟨#[]⟩, ⟨#[]⟩), 0, (textAt b 64).2.2)
  else if (textAt (b.drop (textAt b 64).2.1) 128).2.2 ≠ 0 then ((⟨#[]⟩, ⟨#[]⟩), 0, (textAt (b.drop (textAt b 64).2.1) 128).2.2)
  else (((textAt b 64).1, (textAt (b.drop (textAt b 64).2.1) 128).1), (textAt b 64).2.1 + (textAt (b.drop (textAt b 64).2.1) 128).2.1, 0)
theorem labelAt_le (b : Bs) : (labelAt b).2.1 ≤ b.length ∧ (labelAt b).1.1.size ≤ 64 ∧ (labelAt b).1.2.size ≤ 128 := by
  have h1 := textAt_le b 64
  have h2 := textAt_le (b.drop (textAt b 64).2.1) 128
  rw [List.length_drop] at h2
  unfold labelAt
  split
  · exact ⟨Nat.zero_le _, Nat.zero_le _, Nat.zero_le _⟩
  · split
    · exact ⟨Nat.zero_le _, Nat.zero_le _, Nat.zero_le _⟩
    · exact ⟨by simp only; omega, h1.2, h2.2⟩
section
set_option maxHeartbeats 1600000
set_option maxRecDepth 100000
theorem text_at_len (A : Option Addr) (c len : Nat) (xs : Bs) (most : Nat) (w : World) (hle : xs.length = len) (hx : Rd w A (xs.map Bv)) (hc : len ≤ c) (hl : len ≤ 1000000) (hm : most ≤ 1000) :
    Calls Tryd.prog 75 #[.slice A len c, .int .u64 (most : Nat)] w fun e w' => e = .returned (.tuple #[.string (textAt xs most).1, .int .i64 ((textAt xs most).2.1 : Nat), .int .i64 ((textAt xs most).2.2 : Nat)]) ∧ w' = w := by
  subst hle; exact text_at_any A c xs most w hx hc hl hm
theorem label_at_any (A : Option Addr) (c len : Nat) (xs : Bs) (w : World) (hle : xs.length = len) (hx : Rd w A (xs.map Bv)) (hc : len ≤ c) (hl : len ≤ 1000000) :
    Calls Tryd.prog 50 #[.slice A len c] w fun e w' => e = .returned (.tuple #[.agg #[.string (labelAt xs).1.1, .string (labelAt xs).1.2], .int .i64 ((labelAt xs).2.1 : Nat), .int .i64 ((labelAt xs).2.2 : Nat)]) ∧ Below w.heap.size w w' := by
  have hxw := hx.alloc (.cells #[.string ⟨#[]⟩, .string ⟨#[]⟩] 69)
  have h1 := text_at_len A c len xs 64 _ hle hxw hc hl (by decide)
  have hle1 := (textAt_le xs 64).1
  rw [hle] at hle1
  obtain ⟨R, hR⟩ : ∃ R, R = labelAt xs := ⟨_, rfl⟩
  rw [← hR]
  unfold labelAt at hR
  generalize textAt xs 64 = T at h1 hle1 hR
  obtain ⟨s1, n1, e1⟩ := T
  simp only at h1 hle1 hR
  have HX := Lib.hid hxw; clear hx hxw
  have HLE := Lib.hid hle; clear hle
  have H1 := Lib.hid h1; clear h1
  have hbx := RowKit.Below.refl (w.alloc (.cells #[.string ⟨#[]⟩, .string ⟨#[]⟩] 69)).heap.size (w.alloc (.cells #[.string ⟨#[]⟩, .string ⟨#[]⟩] 69))
  obtain ⟨d0, d1, f0, f1⟩ := box_facts hbx
  have HBX := Lib.hid hbx; clear hbx
  by_cases he : e1 = 0
  · subst he
    rw [if_neg (by simp)] at hR
    generalize hT2 : textAt (xs.drop n1) 128 = T2 at hR
    obtain ⟨s2, n2, e2⟩ := T2
    simp only at hR
    have h2 : ∀ A2, Rd (w.alloc (.cells #[.string ⟨#[]⟩, .string ⟨#[]⟩] 69)) A2 ((xs.drop n1).map Bv) → Calls Tryd.prog 75 #[.slice A2 (len - n1) (c - n1), .int .u64 (128 : Nat)] (w.alloc (.cells #[.string ⟨#[]⟩, .string ⟨#[]⟩] 69)) fun e w' => e = .returned (.tuple #[.string s2, .int .i64 (n2 : Nat), .int .i64 (e2 : Nat)]) ∧ w' = (w.alloc (.cells #[.string ⟨#[]⟩, .string ⟨#[]⟩] 69)) := fun A2 h => by
      have := text_at_len A2 (c - n1) (len - n1) (xs.drop n1) 128 _ (by rw [List.length_drop, HLE.out]) h (by omega) (by omega) (by decide)
      rwa [hT2] at this
    have hle2 := (textAt_le (xs.drop n1) 128).1
    rw [hT2, List.length_drop, HLE.out] at hle2
    simp only at hle2
    have H2 := Lib.hid h2; clear h2 hT2
    by_cases he2 : e2 = 0
    · subst he2
      rw [if_neg (by simp)] at hR
      subst hR
      go_enter Tryd.func50, Tryd.ntmps50
      go_wp2_with fail
      refine H1.out.mono ?_
      rintro e w1 ⟨rfl, rfl⟩
      go_wp2_with (first
        | (refine wpList_slice_any (o := ⟨some 23, _, _, _, _, _⟩) ?_ 22 (.tmp 21) (some (.tmp 22)) none ?_ 5 Tryd.underlying22 (by kernel_rfl) A len c n1 len ?_ ?_ ?_ hle1 hc ?_; rfl; rfl; rfl; exact .inl rfl; exact .inr ⟨rfl, rfl⟩; intro A2 hA2 hrd2)
        | fail)
      have hr2 := hrd2 _ (by rw [List.length_map, HLE.out]; exact hc) HX.out
      rw [← List.map_drop] at hr2
      have HR2 := Lib.hid hr2; clear hr2 hrd2 hA2
      refine (H2.out _ HR2.out).mono ?_
      rintro e w2 ⟨rfl, rfl⟩
      go_wp2
      exact post_lb3 rfl _ _ rfl (heap_alloc_new w _) rfl rfl ⟨rfl, (RowKit.Below.refl _ w).alloc (Nat.le_refl _) _⟩
    · rw [if_pos he2] at hR
      subst hR
      have g0 : ((e2 : Int) != 0) = true := by rw [bne_iff_ne]; omega
      go_enter Tryd.func50, Tryd.ntmps50
      go_wp2_with fail
      refine H1.out.mono ?_
      rintro e w1 ⟨rfl, rfl⟩
      go_wp2_with (first
        | (refine wpList_slice_any (o := ⟨some 23, _, _, _, _, _⟩) ?_ 22 (.tmp 21) (some (.tmp 22)) none ?_ 5 Tryd.underlying22 (by kernel_rfl) A len c n1 len ?_ ?_ ?_ hle1 hc ?_; rfl; rfl; rfl; exact .inl rfl; exact .inr ⟨rfl, rfl⟩; intro A2 hA2 hrd2)
        | fail)
      have hr2 := hrd2 _ (by rw [List.length_map, HLE.out]; exact hc) HX.out
      rw [← List.map_drop] at hr2
      have HR2 := Lib.hid hr2; clear hr2 hrd2 hA2
      refine (H2.out _ HR2.out).mono ?_
      rintro e w2 ⟨rfl, rfl⟩
      go_wp2
      exact post_lb3 rfl _ _ rfl (heap_alloc_new w _) rfl rfl ⟨rfl, (RowKit.Below.refl _ w).alloc (Nat.le_refl _) _⟩
  · rw [if_pos he] at hR
    subst hR
    have g0 : ((e1 : Int) != 0) = true := by rw [bne_iff_ne]; omega
    go_enter Tryd.func50, Tryd.ntmps50
    go_wp2_with fail
    refine H1.out.mono ?_
    rintro e w1 ⟨rfl, rfl⟩
    go_wp2
    exact post_lb3 rfl _ _ rfl (heap_alloc_new w _) rfl rfl ⟨rfl, (RowKit.Below.refl _ w).alloc (Nat.le_refl _) _⟩
end
end Go.Proofs.YtmicbgcdnkomjaaDoor
