/-
  The record of a series that bytes are: the plain answers' series.
-/
import Derived.Test.YtgogpngobdafaaaDoorJq
import Derived.Test.YtgogpngobdafaaaDoorRte
import Derived.Test.YtgogpngobdafaaaDoorVi
namespace Go.Proofs.YtgogpngobdafaaaDoor
set_option linter.unusedVariables false
set_option linter.unusedSimpArgs false
open Go.RowKit
section
set_option maxHeartbeats 3200000
set_option maxRecDepth 100000
theorem rser_any (A : Option Addr) (c len : Nat) (xs : Bs) (w : World) (hle : xs.length = len) (hx : Rd w A (xs.map Bv)) (hc : len ≤ c) (hl : len ≤ 1000000) (hcm : c ≤ 9223372036854775807) :
    Calls Tryd.prog 50 #[.slice A len c] w (TakeRes w (serR xs)) := by
  subst hle
  obtain ⟨w2, hw2⟩ : ∃ w2, w2 = w.alloc (.cells #[.int .i64 0, .int .u32 0, .slice none 0 0, .slice none 0 0] 27) := ⟨_, rfl⟩
  obtain ⟨b2, hb2⟩ : ∃ b, b = w.heap.size := ⟨_, rfl⟩
  have h2 : w2.heap[b2]? = some (.cells #[.int .i64 0, .int .u32 0, .slice none 0 0, .slice none 0 0] 27 (0, 0)) := by rw [hw2, hb2]; exact heap_alloc_new w _
  have hbe : RowKit.Below w.heap.size w w2 := by rw [hw2]; exact (RowKit.Below.refl _ w).alloc (Nat.le_refl _) _
  have H2 := Lib.hid h2; have HB2 := Lib.hid hbe
  have H2B := Lib.hid (show w.heap.size ≤ b2 from by omega)
  have HW2 := Lib.hid hw2; have HB := Lib.hid hb2
  have HX := Lib.hid hx
  clear hw2 hb2 h2 hx
  obtain ⟨R, hR⟩ : ∃ R, R = serR xs := ⟨_, rfl⟩
  rw [← hR]
  unfold serR at hR
  have hu := ruvarint_any A c xs w2 (HX.out.below hbe) (by omega)
  have hk := uvS_le' xs
  have hn := uvS_lt' xs
  generalize uvS 0 0 xs = U at hu hk hn hR
  obtain ⟨n, k, er⟩ := U
  simp only at hk hn hR
  have hut : uvT (n, k, er) = .tuple #[.int .u64 (n : Int), .int .i64 (k : Int), .int .i64 (er : Int)] := rfl
  rw [hut] at hu
  have HU := Lib.hid hu
  clear hu hut hbe
  by_cases he : er = 0
  · subst he
    rw [if_neg (by simp)] at hR
    by_cases hb : n = 0 ∨ 4294967295 < n
    · rw [if_pos hb] at hR
      have HR := Lib.hid hR
      clear hR
      by_cases hz : (n : Int) < 1
      · clear hb
        go_enter Tryd.func50, Tryd.ntmps50
        go_wp2_with fail
        rw [← HB.out, ← HW2.out]
        refine HU.out.mono ?_
        rintro e w3 ⟨rfl, rfl⟩
        go_wp2_with (first
          | (refine wpList_store_agg (o := ⟨none, _, _, _, _, _⟩) ?_ 27 (.tmp 2) (.tmp 25) ?_ b2 0 [.int .i64 0, .int .u32 0, .slice none 0 0, .slice none 0 0] ?_ ?_ 27 _ H2.out (by kernel_rfl) (by show 0 + 4 ≤ 4; decide) (by intro v hv; simp at hv; rcases hv with rfl | rfl | rfl | rfl <;> rfl) ?_; rfl; rfl; rfl; rfl; intro w9 hg9 hmv9 hs9)
          | fail)
        refine post_rv2 (by rfl) b2 (rvC ⟨0, 0, none, 0, [], none, 0, []⟩) (by rfl) hg9 (by rfl) (by rfl) ?_
        exact ⟨⟨0, 0, none, 0, [], none, 0, []⟩, by rw [HR.out]; rfl, by rw [HR.out]; rfl, ⟨Rd.nil _ _, Rd.nil _ _⟩, HB2.out.trans (hmv9.belowB HB2.out.size (fun i hi e => by have := H2B.out; omega))⟩
      · have hz2 : (4294967295 : Int) < (n : Int) := by omega
        clear hb
        go_enter Tryd.func50, Tryd.ntmps50
        go_wp2_with fail
        rw [← HB.out, ← HW2.out]
        refine HU.out.mono ?_
        rintro e w3 ⟨rfl, rfl⟩
        go_wp2_with (first
          | (refine wpList_store_agg (o := ⟨none, _, _, _, _, _⟩) ?_ 27 (.tmp 2) (.tmp 25) ?_ b2 0 [.int .i64 0, .int .u32 0, .slice none 0 0, .slice none 0 0] ?_ ?_ 27 _ H2.out (by kernel_rfl) (by show 0 + 4 ≤ 4; decide) (by intro v hv; simp at hv; rcases hv with rfl | rfl | rfl | rfl <;> rfl) ?_; rfl; rfl; rfl; rfl; intro w9 hg9 hmv9 hs9)
          | fail)
        refine post_rv2 (by rfl) b2 (rvC ⟨0, 0, none, 0, [], none, 0, []⟩) (by rfl) hg9 (by rfl) (by rfl) ?_
        exact ⟨⟨0, 0, none, 0, [], none, 0, []⟩, by rw [HR.out]; rfl, by rw [HR.out]; rfl, ⟨Rd.nil _ _, Rd.nil _ _⟩, HB2.out.trans (hmv9.belowB HB2.out.size (fun i hi e => by have := H2B.out; omega))⟩
    · rw [if_neg hb] at hR
      have hn32 : n < 4294967296 := by omega
      have hz : ¬ (n : Int) < 1 := by omega
      have hz2 : ¬ (4294967295 : Int) < (n : Int) := by omega
      have htk := fun A2 W hr => rtake_any A2 (c - k) (xs.drop k) W hr (by rw [List.length_drop]; omega) (by rw [List.length_drop]; omega) (by omega)
      rw [List.length_drop] at htk
      have hq := (takeP_small (xs.drop k)).2.2
      rw [List.length_drop] at hq
      generalize takeP (xs.drop k) = T at htk hR hq
      obtain ⟨ls, q, e2⟩ := T
      unfold LabsRes at htk
      simp only at htk hR hq
      have HR := Lib.hid hR; have HTK := Lib.hid htk
      clear hR hb htk
      go_enter Tryd.func50, Tryd.ntmps50
      go_wp2_with fail
      rw [← HB.out, ← HW2.out]
      refine HU.out.mono ?_
      rintro e w3 ⟨rfl, rfl⟩
      go_wp2_with (first
        | (refine wpList_slice_any (o := ⟨some 29, _, _, _, _, _⟩) ?_ 30 (.tmp 27) (some (.tmp 28)) none ?_ 5 Tryd.underlying30 (by kernel_rfl) A xs.length c k xs.length ?_ ?_ ?_ hk hc ?_; rfl; rfl; rfl; exact .inl rfl; exact .inr ⟨rfl, rfl⟩; intro A2 hA2 hrd2)
        | fail)
      have hr2 := hrd2 _ (by rw [List.length_map]; exact hc) (HX.out.below HB2.out)
      rw [← List.map_drop] at hr2
      have HR2 := Lib.hid hr2; clear hr2 hrd2 hA2
      refine (HTK.out _ _ HR2.out).mono ?_
      rintro e w5 ⟨A5, c5, rfl, hr5, hb5⟩
      have h25 := (hb5.block _ (blk_lt H2.out)).trans H2.out
      have hb5' := HB2.out.trans (hb5.mono HB2.out.size)
      have H25 := Lib.hid h25; have HB5 := Lib.hid hb5'; have HR5 := Lib.hid hr5
      clear h25 hb5' hb5 hr5
      have hR := HR.out
      clear HR
      by_cases h2 : e2 = 0
      · subst h2
        rw [if_neg (by simp)] at hR
        by_cases hs : k + q < xs.length
        · rw [if_pos hs] at hR
          have HR := Lib.hid hR
          have g1 : ((k : Int) + (q : Int) != (xs.length : Int)) = true := by rw [bne_iff_ne]; omega
          clear hR
          go_wp2_with (first
            | (refine wpList_store_agg (o := ⟨none, _, _, _, _, _⟩) ?_ 27 (.tmp 2) (.tmp 44) ?_ b2 0 [.int .i64 0, .int .u32 0, .slice none 0 0, .slice none 0 0] ?_ ?_ 27 _ H25.out (by kernel_rfl) (by show 0 + 4 ≤ 4; decide) (by intro v hv; simp at hv; rcases hv with rfl | rfl | rfl | rfl <;> rfl) ?_; rfl; rfl; rfl; rfl; intro w9 hg9 hmv9 hs9)
            | fail)
          refine post_rv2 (by rfl) b2 (rvC ⟨0, 0, none, 0, [], none, 0, []⟩) (by rfl) hg9 (by rfl) (by rfl) ?_
          exact ⟨⟨0, 0, none, 0, [], none, 0, []⟩, by rw [HR.out]; rfl, by rw [HR.out]; rfl, ⟨Rd.nil _ _, Rd.nil _ _⟩, HB5.out.trans (hmv9.belowB HB5.out.size (fun i hi e => by have := H2B.out; omega))⟩
        · rw [if_neg hs] at hR
          have HR := Lib.hid hR
          have g1 : ((k : Int) + (q : Int) != (xs.length : Int)) = false := by rw [bne_eq_false_iff_eq]; omega
          clear hR
          go_wp2_with (first
            | (refine wpList_store_agg (o := ⟨none, _, _, _, _, _⟩) ?_ 27 (.tmp 2) (.tmp 48) ?_ b2 0 [.int .i64 1, .int .u32 (n : Nat), .slice A5 ls.length c5, .slice none 0 0] ?_ ?_ 27 _ H25.out (by kernel_rfl) (by show 0 + 4 ≤ 4; decide) (by intro v hv; simp at hv; rcases hv with rfl | rfl | rfl | rfl <;> rfl) ?_; rfl; rfl; rfl; rfl; intro w9 hg9 hmv9 hs9)
            | fail)
          have hr9 := lab_mv hmv9 HR5.out H25.out (no_text (fun s h => by cases h) (fun s h => by cases h))
          refine post_rv2 (by rfl) b2 (rvC ⟨1, n, A5, c5, ls, none, 0, []⟩) (by rfl) hg9 (by rfl) (by rfl) ?_
          exact ⟨⟨1, n, A5, c5, ls, none, 0, []⟩, by rw [HR.out]; rfl, by rw [HR.out]; rfl, ⟨hr9, Rd.nil _ _⟩, HB5.out.trans (hmv9.belowB HB5.out.size (fun i hi e => by have := H2B.out; omega))⟩
      · rw [if_pos h2] at hR
        have HR := Lib.hid hR
        have g1 : ((e2 : Int) != 0) = true := by rw [bne_iff_ne]; omega
        clear hR
        go_wp2_with (first
          | (refine wpList_store_agg (o := ⟨none, _, _, _, _, _⟩) ?_ 27 (.tmp 2) (.tmp 36) ?_ b2 0 [.int .i64 0, .int .u32 0, .slice none 0 0, .slice none 0 0] ?_ ?_ 27 _ H25.out (by kernel_rfl) (by show 0 + 4 ≤ 4; decide) (by intro v hv; simp at hv; rcases hv with rfl | rfl | rfl | rfl <;> rfl) ?_; rfl; rfl; rfl; rfl; intro w9 hg9 hmv9 hs9)
          | fail)
        refine post_rv2 (by rfl) b2 (rvC ⟨0, 0, none, 0, [], none, 0, []⟩) (by rfl) hg9 (by rfl) (by rfl) ?_
        exact ⟨⟨0, 0, none, 0, [], none, 0, []⟩, by rw [HR.out]; rfl, by rw [HR.out]; rfl, ⟨Rd.nil _ _, Rd.nil _ _⟩, HB5.out.trans (hmv9.belowB HB5.out.size (fun i hi e => by have := H2B.out; omega))⟩
  · rw [if_pos he] at hR
    have g0 : ((er : Int) != 0) = true := by rw [bne_iff_ne]; omega
    have HR := Lib.hid hR
    clear hR
    go_enter Tryd.func50, Tryd.ntmps50
    go_wp2_with fail
    rw [← HB.out, ← HW2.out]
    refine HU.out.mono ?_
    rintro e w3 ⟨rfl, rfl⟩
    go_wp2_with (first
      | (refine wpList_store_agg (o := ⟨none, _, _, _, _, _⟩) ?_ 27 (.tmp 2) (.tmp 17) ?_ b2 0 [.int .i64 0, .int .u32 0, .slice none 0 0, .slice none 0 0] ?_ ?_ 27 _ H2.out (by kernel_rfl) (by show 0 + 4 ≤ 4; decide) (by intro v hv; simp at hv; rcases hv with rfl | rfl | rfl | rfl <;> rfl) ?_; rfl; rfl; rfl; rfl; intro w9 hg9 hmv9 hs9)
      | fail)
    refine post_rv2 (by rfl) b2 (rvC ⟨0, 0, none, 0, [], none, 0, []⟩) (by rfl) hg9 (by rfl) (by rfl) ?_
    exact ⟨⟨0, 0, none, 0, [], none, 0, []⟩, by rw [HR.out]; rfl, by rw [HR.out]; rfl, ⟨Rd.nil _ _, Rd.nil _ _⟩, HB2.out.trans (hmv9.belowB HB2.out.size (fun i hi e => by have := H2B.out; omega))⟩
end
end Go.Proofs.YtgogpngobdafaaaDoor
