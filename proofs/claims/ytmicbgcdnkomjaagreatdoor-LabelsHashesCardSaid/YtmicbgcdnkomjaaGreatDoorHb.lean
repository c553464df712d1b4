/-
  The sum of labels: the plain answers' own.
-/
import Derived.Test.YtmicbgcdnkomjaaGreatDoorHa
import Derived.Test.YtmicbgcdnkomjaaGreatDoorJn
import Derived.Test.YtmicbgcdnkomjaaGreatDoorRr2
import Derived.Test.YtmicbgcdnkomjaaGreatDoorRy
namespace Go.Proofs.YtmicbgcdnkomjaaGreatDoor
set_option linter.unusedVariables false
set_option linter.unusedSimpArgs false
open Go.RowKit
section
set_option maxHeartbeats 3200000
set_option maxRecDepth 100000
theorem rxx_sum (w : World) (A : Option Addr) (c n : Nat) (zs : List UInt8) (hm : zs.length = n) (hx : Rd w A (zs.map Bv)) (hmc : n ≤ c) (hc : c ≤ 9223372036854775807) :
    Calls Tryz.prog 48 #[.slice A n c] w fun e w' => e = .returned (.int .u64 (xx zs : Nat)) ∧ Below w.heap.size w w' := by
  by_cases h : n < 32
  · exact rxx_small w A c n zs hm hx hmc hc h
  · exact rxx_large w A c n zs hm hx hmc hc (by omega)
theorem rhash_any (A : Option Addr) (c : Nat) (l : List Lb) (w : World) (hx : Rd w A (lcells l)) (hf : Few l) :
    Calls Tryz.prog 25 #[.slice A l.length c] w fun e w' => e = .returned (.tuple #[.int .u64 ((hashP l).1 : Nat), .int .i64 ((hashP l).2 : Nat)]) ∧ Below w.heap.size w w' := by
  have hr := rright_any A c l w hx hf
  obtain ⟨r, hrr⟩ : ∃ r, r = rightP l := ⟨_, rfl⟩
  obtain ⟨R, hR⟩ : ∃ R, R = hashP l := ⟨_, rfl⟩
  rw [← hR]
  unfold hashP at hR
  rw [← hrr] at hr hR
  clear hrr
  have HRI := Lib.hid hr; clear hr
  have hfl := hf.1
  have HF := Lib.hid hf; clear hf
  by_cases h0 : r = 0
  · subst h0
    rw [if_neg (by simp)] at hR
    obtain ⟨Y, hY⟩ : ∃ Y, Y = hashBs l := ⟨_, rfl⟩
    rw [← hY] at hR
    have hst : Y = [] ++ hashBs (l.drop 0) := by rw [hY]; rfl
    have HST := Lib.hid hst; have HR := Lib.hid hR; clear hst hR hY
    go_enter Tryz.func25, Tryz.ntmps25
    go_wp2_with fail
    refine HRI.out.mono ?_
    rintro e w1 ⟨rfl, hb1⟩
    have HB1 := Lib.hid (hb1.alloc hb1.size (.cells #[] 5)); clear hb1
    go_wp2
    go_loopw [5, 16] (fun s5 s16 wr => ∃ (k : Nat) (acc : Bs) (A5 : Option Addr) (c5 : Nat), s16 = .int .i64 k ∧ s5 = .slice A5 acc.length c5 ∧ k ≤ l.length ∧ acc.length ≤ k * 20000 ∧ acc.length ≤ c5 ∧ c5 ≤ 9223372036854775807 ∧ Aside (Rd wr A5 (acc.map Bv)) ∧ Aside (RowKit.Below w.heap.size w wr) ∧ Aside (Y = acc ++ hashBs (l.drop k))) (fun _ s16 _ => l.length - (intOf s16).toNat)
    case atStart => exact ⟨0, [], _, 0, rfl, rfl, by omega, by simp, by simp, by omega, Rd.nil _ _, HB1.out, HST.out⟩
    case round =>
      obtain ⟨k, acc, A5, c5, rfl, rfl, hk, hal, hac5, hcm5, RD, BW, E⟩ := hrel
      have k0 : (0 : Int) ≤ (k : Int) := by omega
      by_cases hlt : k < l.length
      · have k1 : (k : Int) < (l.length : Int) := by omega
        obtain ⟨b, off, rfl, c0, c1⟩ := lb_at (hx.below BW.out) hlt
        have hfx := HF.out.2 l[k] (List.getElem_mem hlt)
        have hE : Y = (acc ++ bl l[k].1 ++ [255] ++ bl l[k].2 ++ [255]) ++ hashBs (l.drop (k + 1)) := by
          rw [E.out]; unfold hashBs; rw [List.drop_eq_getElem_cons hlt, List.flatMap_cons]; simp only [List.append_assoc, endB]
        have HE := Lib.hid hE; clear hE E hx hac5 hcm5
        generalize l[k] = x at c0 c1 hfx HE
        obtain ⟨x1, x2⟩ := x
        simp only at hfx c0 c1
        obtain ⟨f1, f2⟩ := hfx
        -- the world from step to step
        obtain ⟨W1, hW1⟩ : ∃ W1, W1 = wr.alloc (.cells #[.string x1, .string x2] 26) := ⟨_, rfl⟩
        have hbx1 : W1.heap[wr.heap.size]? = some (.cells #[.string x1, .string x2] 26 (0, 0)) := by rw [hW1]; exact heap_alloc_new _ _
        have hbb1 : RowKit.Below w.heap.size w W1 := by rw [hW1]; exact BW.out.alloc BW.out.size _
        have hrd1 : Rd W1 A5 (acc.map Bv) := by rw [hW1]; exact RD.out.alloc _
        obtain ⟨c2, W2, hrun1, hr2, hs2, hb2⟩ := run_bytes W1 x1 37 9 5 Tryz.underlying9 Tryz.underlying37 Tryz.underlying5
        have hbx2 := (hb2.block _ (blk_lt hbx1)).trans hbx1
        have hlt2 := blk_lt hbx2
        have hbx3 := (Below.heap_alloc W2 (.cells #[.int .u8 255] 5) _ hlt2).trans hbx2
        have hb3 : RowKit.Below W2.heap.size W2 (W2.alloc (.cells #[.int .u8 255] 5)) := (RowKit.Below.refl _ _).alloc (Nat.le_refl _) _
        obtain ⟨c4, W4, hrun2, hr4, hs4, hb4⟩ := run_bytes (W2.alloc (.cells #[.int .u8 255] 5)) x2 37 9 5 Tryz.underlying9 Tryz.underlying37 Tryz.underlying5
        have d1 := cell_blk hbx1 0
        have d3 := cell_blk hbx3 1
        simp only [List.getElem?_toArray, List.getElem?_cons_zero, List.getElem?_cons_succ] at d1 d3
        have hb5 : RowKit.Below W4.heap.size W4 (W4.alloc (.cells #[.int .u8 255] 5)) := (RowKit.Below.refl _ _).alloc (Nat.le_refl _) _
        have hr255a : Rd (W2.alloc (.cells #[.int .u8 255] 5)) (some ⟨W2.heap.size, 0, none⟩) (([255] : Bs).map Bv) := rd255 W2
        have hr255b : Rd (W4.alloc (.cells #[.int .u8 255] 5)) (some ⟨W4.heap.size, 0, none⟩) (([255] : Bs).map Bv) := rd255 W4
        obtain ⟨a4, ha4⟩ : ∃ a4, a4 = acc ++ bl x1 ++ [255] ++ bl x2 ++ [255] := ⟨_, rfl⟩
        have hal4 : a4.length ≤ (k + 1) * 20000 := by rw [ha4]; simp only [List.length_append, List.length_singleton, bl_len]; omega
        have hj := join_here (W4.alloc (.cells #[.int .u8 255] 5)) [(A5, c5, acc), (some ⟨W1.heap.size, 0, none⟩, c2, bl x1), (some ⟨W2.heap.size, 0, none⟩, 1, [255]), (some ⟨(W2.alloc (.cells #[.int .u8 255] 5)).heap.size, 0, none⟩, c4, bl x2), (some ⟨W4.heap.size, 0, none⟩, 1, [255])] 5 rfl (by
          intro z hz
          simp only [List.mem_cons, List.not_mem_nil, or_false] at hz
          rcases hz with rfl | rfl | rfl | rfl | rfl
          · exact (((hrd1.below hb2).below hb3).below hb4).below hb5
          · exact ((hr2.below hb3).below hb4).below hb5
          · exact (hr255a.below hb4).below hb5
          · exact hr4.below hb5
          · exact hr255b) a4 (by rw [ha4]; simp [joined]) (by omega) (by decide)
        simp only [List.map_cons, List.map_nil, partV, bl_len, List.length_cons, List.length_nil] at hj
        have hB5 : RowKit.Below w.heap.size w (W4.alloc (.cells #[.int .u8 255] 5)) := by
          have s1 := hbb1.trans (hb2.mono hbb1.size)
          have s2 := s1.trans (hb3.mono s1.size)
          have s3 := s2.trans (hb4.mono s2.size)
          exact s3.trans (hb5.mono s3.size)
        rw [← ha4] at HE
        rw [World.size_alloc] at hrun2
        rw [hW1] at hj
        simp only [World.size_alloc, Nat.zero_add] at hj
        have HJ := Lib.hid hj; have HB5 := Lib.hid hB5; have HW1 := Lib.hid hW1; have HS := Lib.hid (And.intro hs2 hs4)
        clear hj hB5 hbx1 hbx2 hbx3 hb2 hb3 hb4 hb5 hr2 hr4 hr255a hr255b hrd1 hbb1 ha4 hs2 hs4 hlt2
        rw [hW1] at hrun1 d1
        go_wp2_with fail
        refine HJ.out.mono ?_
        rintro e w6 ⟨A6, c6, rfl, ho6, hb6⟩
        obtain ⟨A6', c6', e6, hr6, -, hac6, hcm6⟩ := own_rd ho6
        injection e6 with e6 _ e6c
        subst e6
        subst e6c
        have HB6 := Lib.hid (HB5.out.trans (hb6.mono (by have := HB5.out.size; rw [World.size_alloc] at this; exact this)))
        have HO6 := Lib.hid hr6
        clear ho6 hb6 hr6 d1 d3
        unfold maxLen at hcm6
        go_wp2
        go_roundw
        case rel => exact ⟨k + 1, a4, A6, c6, by go_num, rfl, by omega, by omega, by omega, by omega, (show Aside _ from HO6.out), (show Aside _ from HB6.out), (show Aside _ from HE.out)⟩
        case measure => simp [intOf]; omega
      · obtain rfl : k = l.length := by omega
        have hy : Y = acc := by rw [E.out, List.drop_length]; simp [hashBs]
        have hxx := rxx_sum wr A5 c5 acc.length acc rfl RD.out hac5 hcm5
        have hR := HR.out
        rw [hy] at hR
        obtain ⟨z, hz⟩ : ∃ z, z = xx acc := ⟨_, rfl⟩
        rw [← hz] at hR hxx
        subst hR
        have HX := Lib.hid hxx; clear hxx hy E hz hac5 hcm5
        go_wp2_with fail
        refine HX.out.mono ?_
        rintro e w3 ⟨rfl, hb3⟩
        have HB3 := Lib.hid (BW.out.trans (hb3.mono BW.out.size)); clear hb3
        go_wp2
        go_ret2
        exact ⟨rfl, HB3.out⟩
  · rw [if_pos h0] at hR
    subst hR
    have g0 : ((r : Int) != 0) = true := by rw [bne_iff_ne]; omega
    go_enter Tryz.func25, Tryz.ntmps25
    go_wp2_with fail
    refine HRI.out.mono ?_
    rintro e w1 ⟨rfl, hb1⟩
    go_wp2
    go_ret2
    exact ⟨rfl, hb1⟩
end
end Go.Proofs.YtmicbgcdnkomjaaGreatDoor
