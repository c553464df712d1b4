/-
  The text that bytes begin with: the program's takeText.
  The label that bytes begin with: the program's takeLabel.
-/
import Derived.Test.YtgogpngobdafaaaDoorPua
import Derived.Test.YtgogpngobdafaaaDoorGen
import Derived.Test.YtgogpngobdafaaaDoorSr
import Derived.Test.YtgogpngobdafaaaDoorLg
namespace Go.Proofs.YtgogpngobdafaaaDoor
set_option linter.unusedVariables false
set_option linter.unusedSimpArgs false
section
set_option linter.unusedVariables false
set_option linter.unusedSimpArgs false
open Go.RowKit
/-- A text of at most so many bytes: what it is, how many bytes it took, what was wrong. -/
def textAt (b : Bs) (most : Nat) : ByteArray × Nat × Nat :=
  if (uvS 0 0 b).2.2 ≠ 0 then (⟨#[]⟩, 0, (uvS 0 0 b).2.2) else if most < (uvS 0 0 b).1 then (⟨#[]⟩, 0, 3)
  else if b.length - (uvS 0 0 b).2.1 < (uvS 0 0 b).1 then (⟨#[]⟩, 0, 6) else (mkB ((b.drop (uvS 0 0 b).2.1).take (uvS 0 0 b).1), (uvS 0 0 b).2.1 + (uvS 0 0 b).1, 0)
theorem textAt_le (b : Bs) (most : Nat) : (textAt b most).2.1 ≤ b.length ∧ (textAt b most).1.size ≤ most := by
  have hk := uvS_le' b
  unfold textAt
  split
  · exact ⟨Nat.zero_le _, Nat.zero_le _⟩
  · split
    · exact ⟨Nat.zero_le _, Nat.zero_le _⟩
    · split
      · exact ⟨Nat.zero_le _, Nat.zero_le _⟩
      · refine ⟨by simp only; omega, ?_⟩
        simp only [mkB_size, List.length_take]
        omega
section
set_option maxHeartbeats 1600000
set_option maxRecDepth 100000
theorem text_at_any (A : Option Addr) (c : Nat) (xs : Bs) (most : Nat) (w : World) (hx : Rd w A (xs.map Bv)) (hc : xs.length ≤ c) (hl : xs.length ≤ 1000000) (hm : most ≤ 1000) :
    Calls Tryd.prog 123 #[.slice A xs.length c, .int .u64 (most : Nat)] w fun e w' => e = .returned (.tuple #[.string (textAt xs most).1, .int .i64 ((textAt xs most).2.1 : Nat), .int .i64 ((textAt xs most).2.2 : Nat)]) ∧ w' = w := by
  have hu := uvarint_any A c xs w hx (by omega)
  have hk := uvS_le' xs
  have hn := uvS_lt' xs
  obtain ⟨R, hR⟩ : ∃ R, R = textAt xs most := ⟨_, rfl⟩
  rw [← hR]
  unfold textAt at hR
  generalize uvS 0 0 xs = U at hu hk hn hR
  obtain ⟨n, k, e⟩ := U
  simp only at hk hn hR
  have hut : uvT (n, k, e) = .tuple #[.int .u64 (n : Int), .int .i64 (k : Int), .int .i64 (e : Int)] := rfl
  rw [hut] at hu
  have HU := Lib.hid hu; clear hu hut
  by_cases he : e = 0
  · subst he
    rw [if_neg (by simp)] at hR
    by_cases h1 : most < n
    · rw [if_pos h1] at hR
      subst hR
      have g1 : (most : Int) < (n : Int) := by omega
      go_enter Tryd.func123, Tryd.ntmps123
      go_wp2_with fail
      refine HU.out.mono ?_
      rintro e w1 ⟨rfl, rfl⟩
      go_wp2
      go_ret3
      exact ⟨rfl, rfl⟩
    · rw [if_neg h1] at hR
      have g1 : ¬ (most : Int) < (n : Int) := by omega
      have hsub : ((xs.length : Int) - (k : Int)) = ((xs.length - k : Nat) : Int) := by omega
      by_cases h2 : xs.length - k < n
      · rw [if_pos h2] at hR
        subst hR
        have g2 : ((xs.length : Int) - (k : Int)) < (n : Int) := by omega
        go_enter Tryd.func123, Tryd.ntmps123
        go_wp2_with fail
        refine HU.out.mono ?_
        rintro e w1 ⟨rfl, rfl⟩
        go_wp2
        go_ret3
        exact ⟨rfl, rfl⟩
      · rw [if_neg h2] at hR
        subst hR
        have g2 : ¬ ((xs.length : Int) - (k : Int)) < (n : Int) := by omega
        have hlen : ((xs.drop k).take n).length = n := by rw [List.length_take, List.length_drop]; omega
        generalize hz : (xs.drop k).take n = z at hlen
        have hd : Rd w (A.map (·.add k)) (z.map Bv) := by have h := (hx.drop k).take n; rwa [← List.map_drop, ← List.map_take, hz] at h
        have hs2 := run_str w _ (c - k) z hd
        rw [hlen] at hs2
        clear hd hz
        have k2 : (k : Int) ≤ (k : Int) + (n : Int) := by omega
        have k3 : (k : Int) + (n : Int) ≤ (c : Int) := by omega
        by_cases hn0 : n = 0
        · subst hn0
          obtain rfl : z = [] := List.eq_nil_of_length_eq_zero hlen
          have hs1 := run_str w A 0 [] (Rd.nil _ _)
          simp only [List.length_nil] at hs1
          go_enter Tryd.func123, Tryd.ntmps123
          go_wp2_with fail
          refine HU.out.mono ?_
          rintro e w1 ⟨rfl, rfl⟩
          go_wp2
          all_goals
            go_ret3
            exact ⟨rfl, rfl⟩
        · have hck : ¬ c = k := by omega
          go_enter Tryd.func123, Tryd.ntmps123
          go_wp2_with fail
          refine HU.out.mono ?_
          rintro e w1 ⟨rfl, rfl⟩
          go_wp2
          go_ret3
          exact ⟨rfl, rfl⟩
  · rw [if_pos he] at hR
    subst hR
    have g0 : ((e : Int) != 0) = true := by rw [bne_iff_ne]; omega
    go_enter Tryd.func123, Tryd.ntmps123
    go_wp2_with fail
    refine HU.out.mono ?_
    rintro e w1 ⟨rfl, rfl⟩
    go_wp2
    go_ret3
    exact ⟨rfl, rfl⟩
end
end
section
set_option linter.unusedVariables false
set_option linter.unusedSimpArgs false
open Go.RowKit
/-- A label: what it is, how many bytes it took, what was wrong. -/
def labelAt (b : Bs) : Lb × Nat × Nat :=
  if (textAt b 64).2.2 ≠ 0 then ((⟨#[]⟩, ⟨#[]⟩), 0, (textAt b 64).2.2)
  else if (textAt (b.drop (textAt b 64).2.1) 128).2.2 ≠ 0 then ((⟨#[]⟩, ⟨#[]⟩), 0, (textAt (b.drop (textAt b 64).2.1) 128).2.2)
  else (((textAt b 64).1, (textAt (b.drop (textAt b 64).2.1) 128).1), (textAt b 64).2.1 + (textAt (b.drop (textAt b 64).2.1) 128).2.1, 0)
theorem labelAt_le (b : Bs) : (labelAt b).2.1 ≤ b.length ∧ (labelAt b).1.1.size ≤ 64 ∧ (labelAt b).1.2.size ≤ 128 := by
  have h1 := textAt_le b 64
  have h2 := textAt_le (b.drop (textAt b 64).2.1) 128
  rw [List.length_drop] at h2
  unfold labelAt
  split
  · exact ⟨Nat.zero_le _, Nat.zero_le _, Nat.zero_le _⟩
  · split
    · exact ⟨Nat.zero_le _, Nat.zero_le _, Nat.zero_le _⟩
    · exact ⟨by simp only; omega, h1.2, h2.2⟩
section
set_option maxHeartbeats 1600000
set_option maxRecDepth 100000
theorem text_at_len (A : Option Addr) (c len : Nat) (xs : Bs) (most : Nat) (w : World) (hle : xs.length = len) (hx : Rd w A (xs.map Bv)) (hc : len ≤ c) (hl : len ≤ 1000000) (hm : most ≤ 1000) :
    Calls Tryd.prog 123 #[.slice A len c, .int .u64 (most : Nat)] w fun e w' => e = .returned (.tuple #[.string (textAt xs most).1, .int .i64 ((textAt xs most).2.1 : Nat), .int .i64 ((textAt xs most).2.2 : Nat)]) ∧ w' = w := by
  subst hle; exact text_at_any A c xs most w hx hc hl hm
theorem label_at_any (A : Option Addr) (c len : Nat) (xs : Bs) (w : World) (hle : xs.length = len) (hx : Rd w A (xs.map Bv)) (hc : len ≤ c) (hl : len ≤ 1000000) :
    Calls Tryd.prog 105 #[.slice A len c] w fun e w' => e = .returned (.tuple #[.agg #[.string (labelAt xs).1.1, .string (labelAt xs).1.2], .int .i64 ((labelAt xs).2.1 : Nat), .int .i64 ((labelAt xs).2.2 : Nat)]) ∧ Below w.heap.size w w' := by
  have hxw := hx.alloc (.cells #[.string ⟨#[]⟩, .string ⟨#[]⟩] 68)
  have h1 := text_at_len A c len xs 64 _ hle hxw hc hl (by decide)
  have hle1 := (textAt_le xs 64).1
  rw [hle] at hle1
  obtain ⟨R, hR⟩ : ∃ R, R = labelAt xs := ⟨_, rfl⟩
  rw [← hR]
  unfold labelAt at hR
  generalize textAt xs 64 = T at h1 hle1 hR
  obtain ⟨s1, n1, e1⟩ := T
  simp only at h1 hle1 hR
  have HX := Lib.hid hxw; clear hx hxw
  have HLE := Lib.hid hle; clear hle
  have H1 := Lib.hid h1; clear h1
  have hbx := RowKit.Below.refl (w.alloc (.cells #[.string ⟨#[]⟩, .string ⟨#[]⟩] 68)).heap.size (w.alloc (.cells #[.string ⟨#[]⟩, .string ⟨#[]⟩] 68))
  obtain ⟨d0, d1, f0, f1⟩ := box_facts hbx
  have HBX := Lib.hid hbx; clear hbx
  by_cases he : e1 = 0
  · subst he
    rw [if_neg (by simp)] at hR
    generalize hT2 : textAt (xs.drop n1) 128 = T2 at hR
    obtain ⟨s2, n2, e2⟩ := T2
    simp only at hR
    have h2 : ∀ A2, Rd (w.alloc (.cells #[.string ⟨#[]⟩, .string ⟨#[]⟩] 68)) A2 ((xs.drop n1).map Bv) → Calls Tryd.prog 123 #[.slice A2 (len - n1) (c - n1), .int .u64 (128 : Nat)] (w.alloc (.cells #[.string ⟨#[]⟩, .string ⟨#[]⟩] 68)) fun e w' => e = .returned (.tuple #[.string s2, .int .i64 (n2 : Nat), .int .i64 (e2 : Nat)]) ∧ w' = (w.alloc (.cells #[.string ⟨#[]⟩, .string ⟨#[]⟩] 68)) := fun A2 h => by
      have := text_at_len A2 (c - n1) (len - n1) (xs.drop n1) 128 _ (by rw [List.length_drop, HLE.out]) h (by omega) (by omega) (by decide)
      rwa [hT2] at this
    have hle2 := (textAt_le (xs.drop n1) 128).1
    rw [hT2, List.length_drop, HLE.out] at hle2
    simp only at hle2
    have H2 := Lib.hid h2; clear h2 hT2
    by_cases he2 : e2 = 0
    · subst he2
      rw [if_neg (by simp)] at hR
      subst hR
      go_enter Tryd.func105, Tryd.ntmps105
      go_wp2_with fail
      refine H1.out.mono ?_
      rintro e w1 ⟨rfl, rfl⟩
      go_wp2_with (first
        | (refine wpList_slice_any (o := ⟨some 23, _, _, _, _, _⟩) ?_ 30 (.tmp 21) (some (.tmp 22)) none ?_ 5 Tryd.underlying30 (by kernel_rfl) A len c n1 len ?_ ?_ ?_ hle1 hc ?_; rfl; rfl; rfl; exact .inl rfl; exact .inr ⟨rfl, rfl⟩; intro A2 hA2 hrd2)
        | fail)
      have hr2 := hrd2 _ (by rw [List.length_map, HLE.out]; exact hc) HX.out
      rw [← List.map_drop] at hr2
      have HR2 := Lib.hid hr2; clear hr2 hrd2 hA2
      refine (H2.out _ HR2.out).mono ?_
      rintro e w2 ⟨rfl, rfl⟩
      go_wp2
      exact post_lb3 rfl _ _ rfl (heap_alloc_new w _) rfl rfl ⟨rfl, (RowKit.Below.refl _ w).alloc (Nat.le_refl _) _⟩
    · rw [if_pos he2] at hR
      subst hR
      have g0 : ((e2 : Int) != 0) = true := by rw [bne_iff_ne]; omega
      go_enter Tryd.func105, Tryd.ntmps105
      go_wp2_with fail
      refine H1.out.mono ?_
      rintro e w1 ⟨rfl, rfl⟩
      go_wp2_with (first
        | (refine wpList_slice_any (o := ⟨some 23, _, _, _, _, _⟩) ?_ 30 (.tmp 21) (some (.tmp 22)) none ?_ 5 Tryd.underlying30 (by kernel_rfl) A len c n1 len ?_ ?_ ?_ hle1 hc ?_; rfl; rfl; rfl; exact .inl rfl; exact .inr ⟨rfl, rfl⟩; intro A2 hA2 hrd2)
        | fail)
      have hr2 := hrd2 _ (by rw [List.length_map, HLE.out]; exact hc) HX.out
      rw [← List.map_drop] at hr2
      have HR2 := Lib.hid hr2; clear hr2 hrd2 hA2
      refine (H2.out _ HR2.out).mono ?_
      rintro e w2 ⟨rfl, rfl⟩
      go_wp2
      exact post_lb3 rfl _ _ rfl (heap_alloc_new w _) rfl rfl ⟨rfl, (RowKit.Below.refl _ w).alloc (Nat.le_refl _) _⟩
  · rw [if_pos he] at hR
    subst hR
    have g0 : ((e1 : Int) != 0) = true := by rw [bne_iff_ne]; omega
    go_enter Tryd.func105, Tryd.ntmps105
    go_wp2_with fail
    refine H1.out.mono ?_
    rintro e w1 ⟨rfl, rfl⟩
    go_wp2
    exact post_lb3 rfl _ _ rfl (heap_alloc_new w _) rfl rfl ⟨rfl, (RowKit.Below.refl _ w).alloc (Nat.le_refl _) _⟩
end
end
end Go.Proofs.YtgogpngobdafaaaDoor
