
/-
  The chapter's examples, which each law of this layer asks first: they come out as the document says.
-/
import Derived.Test.YtmgjlldccmgpcaaDoorHp
import Derived.Test.YtmgjlldccmgpcaaDoorRh
import Derived.Test.YtmgjlldccmgpcaaDoorWn
import Derived.Test.YtmgjlldccmgpcaaDoorXX
import Derived.Test.YtmgjlldccmgpcaaDoorAq
import Derived.Test.YtmgjlldccmgpcaaDoorLit
namespace Go.Proofs.YtmgjlldccmgpcaaDoor
set_option linter.unusedVariables false
set_option linter.unusedSimpArgs false
open Go.RowKit

/-- The sum of abc. -/
def abcL : List UInt8 := [186, 120, 22, 191, 143, 1, 207, 234, 65, 65, 64, 222, 93, 174, 34, 35, 176, 3, 97, 163, 150, 23, 122, 156, 180, 16, 255, 97, 242, 0, 21, 173]
theorem abc_sha : sha [97, 98, 99] = abcL := by decide +kernel
theorem abc_hex : abcL.flatMap hexB = [98, 97, 55, 56, 49, 54, 98, 102, 56, 102, 48, 49, 99, 102, 101, 97, 52, 49, 52, 49, 52, 48, 100, 101, 53, 100, 97, 101, 50, 50, 50, 51, 98, 48, 48, 51, 54, 49, 97, 51, 57, 54, 49, 55, 55, 97, 57, 99, 98, 52, 49, 48, 102, 102, 54, 49, 102, 50, 48, 48, 49, 53, 97, 100] := by decide +kernel
theorem two_arm : armS 6 armL [251, 255] = [45, 95, 56] := by decide +kernel
theorem none_xx : xx [] = 17241709254077376921 := by decide +kernel
attribute [local go_sem ↓] load_is
attribute [local go_sem] run_sumLoadV
section
set_option maxHeartbeats 1600000
set_option maxRecDepth 100000
theorem write_lits (w : World) (p : Nat) (hi : HashIs w p []) (ht : AddsMet w) :
    Calls Tryd.prog 20 #[.pointer (some ⟨p, 0, none⟩), .slice (some ⟨w.heap.size + 1 + 1, 0, none⟩) 2 2] (((w.alloc (.cells #[.int .u8 97] 5 (1, 2))).alloc (.cells #[.int .u8 98, .int .u8 99] 5 (2, 3))).alloc (.cells #[.slice (some ⟨w.heap.size, 0, none⟩) 1 1, .slice (some ⟨w.heap.size + 1, 0, none⟩) 2 2] 28))
      fun e w' => e = .returned (.int .i64 0) ∧ HashIs w' p [97, 98, 99] ∧ Mv (fun k => k = p) w w' := by
  have hpl := hi.lt
  have hb := (((Below.refl _ w).alloc (Nat.le_refl _) (.cells ([97].map Bv).toArray 5 (1, 2))).alloc (by simp) (.cells ([98, 99].map Bv).toArray 5 (2, 3))).alloc (by simp; omega) (.cells #[.slice (some ⟨w.heap.size, 0, none⟩) 1 1, .slice (some ⟨w.heap.size + 1, 0, none⟩) 2 2] 28)
  have r1 := ((rd_mark w ([97].map Bv) 5 (1, 2)).alloc (.cells ([98, 99].map Bv).toArray 5 (2, 3))).alloc (.cells #[.slice (some ⟨w.heap.size, 0, none⟩) 1 1, .slice (some ⟨w.heap.size + 1, 0, none⟩) 2 2] 28)
  have r2 := (rd_mark (w.alloc (.cells ([97].map Bv).toArray 5 (1, 2))) ([98, 99].map Bv) 5 (2, 3)).alloc (.cells #[.slice (some ⟨w.heap.size, 0, none⟩) 1 1, .slice (some ⟨w.heap.size + 1, 0, none⟩) 2 2] 28)
  have r3 := rd_row ((w.alloc (.cells ([97].map Bv).toArray 5 (1, 2))).alloc (.cells ([98, 99].map Bv).toArray 5 (2, 3))) [.slice (some ⟨w.heap.size, 0, none⟩) 1 1, .slice (some ⟨w.heap.size + 1, 0, none⟩) 2 2] 28
  rw [World.size_alloc] at r2
  rw [World.size_alloc, World.size_alloc] at r3
  have hP : PartsRd (((w.alloc (.cells ([97].map Bv).toArray 5 (1, 2))).alloc (.cells ([98, 99].map Bv).toArray 5 (2, 3))).alloc (.cells #[.slice (some ⟨w.heap.size, 0, none⟩) 1 1, .slice (some ⟨w.heap.size + 1, 0, none⟩) 2 2] 28))
      (some ⟨w.heap.size + 1 + 1, 0, none⟩) [(some ⟨w.heap.size, 0, none⟩, 1, [97]), (some ⟨w.heap.size + 1, 0, none⟩, 2, [98, 99])] := by
    refine ⟨r3, fun q hq => ?_⟩
    simp only [List.mem_cons, List.not_mem_nil, or_false] at hq
    rcases hq with rfl | rfl
    · exact ⟨r1, Nat.le_refl 1, show (1 : Nat) ≤ 9223372036854775807 from by decide⟩
    · exact ⟨r2, Nat.le_refl 2, show (2 : Nat) ≤ 9223372036854775807 from by decide⟩
  have hO : PartsOff p (some ⟨w.heap.size + 1 + 1, 0, none⟩) [(some ⟨w.heap.size, 0, none⟩, 1, [97]), (some ⟨w.heap.size + 1, 0, none⟩, 2, [98, 99])] := by
    refine ⟨fun _ k e => by simp at e; omega, fun q hq _ k e => ?_⟩
    simp only [List.mem_cons, List.not_mem_nil, or_false] at hq
    rcases hq with rfl | rfl <;> simp at e <;> omega
  refine (write_any _ p [] _ 2 2 _ (hi.below hb) (ht.below hb) rfl hP hO (by simp [joined]) (by decide)).mono ?_
  rintro e w' ⟨rfl, h1, h2⟩
  refine ⟨rfl, by simpa [joined] using h1, (Mv.of_below hb _).trans h2 (fun _ _ h => h)⟩
theorem rhex_lit (w : World) (b : Nat) (h : w.heap[b]? = some (.cells (abcL.map Bv).toArray 25 (0, 0))) :
    Calls Tryd.prog 33 #[.slice (some ⟨b, 0, none⟩) 32 32] w fun e w' => e = .returned (.string ⟨#[98, 97, 55, 56, 49, 54, 98, 102, 56, 102, 48, 49, 99, 102, 101, 97, 52, 49, 52, 49, 52, 48, 100, 101, 53, 100, 97, 101, 50, 50, 50, 51, 98, 48, 48, 51, 54, 49, 97, 51, 57, 54, 49, 55, 55, 97, 57, 99, 98, 52, 49, 48, 102, 102, 54, 49, 102, 50, 48, 48, 49, 53, 97, 100]⟩) ∧ ∃ m, w' = w.drewN m := by
  refine (rhex_any w (some ⟨b, 0, none⟩) 32 32 abcL rfl ?_ (by decide)).mono ?_
  · intro k v hv
    refine ⟨b, 0, rfl, ?_⟩
    rw [cell_blk h, Nat.zero_add]
    simpa using hv
  · rintro e w' ⟨rfl, hm⟩
    rw [abc_hex]
    exact ⟨rfl, hm⟩
theorem sum_lit (w : World) (p : Nat) (cm : List Value) (hc : cm = abcL.map Bv) (h : HashIs w p [97, 98, 99]) (ht : AddsMet w) :
    Calls Tryd.prog 21 #[.pointer (some ⟨p, 0, none⟩)] w fun e w' => e = .returned (.agg cm.toArray) ∧ Below w.heap.size w w' := by
  subst hc
  refine (hsum_any w p [97, 98, 99] h ht (by decide)).mono ?_
  rintro e w' ⟨rfl, hb⟩
  rw [abc_sha]
  exact ⟨rfl, hb⟩
theorem armor_lit (w : World) : Calls Tryd.prog 30 #[.slice (some ⟨w.heap.size, 0, none⟩) 2 2] (w.alloc (.cells #[.int .u8 251, .int .u8 255] 5)) fun e w' => e = .returned (.string ⟨#[45, 95, 56]⟩) ∧ Below w.heap.size w w' := by
  refine (armor_any _ (some ⟨w.heap.size, 0, none⟩) 2 2 [251, 255] rfl (rd_lit w [251, 255] 5) (by decide)).mono ?_
  rintro e w' ⟨rfl, hb⟩
  rw [two_arm]
  exact ⟨rfl, ((Below.refl _ w).alloc (Nat.le_refl _) _).trans (hb.mono (by simp))⟩
theorem xx_lit (w : World) : Calls Tryd.prog 34 #[.slice none 0 0] w fun e w' => e = .returned (.int .u64 17241709254077376921) ∧ Below w.heap.size w w' := by
  refine (xx_any w none 0 0 [] rfl (Rd.nil _ _) (Nat.le_refl _) (by decide)).mono ?_
  rintro e w' ⟨rfl, hb⟩
  rw [none_xx]
  exact ⟨rfl, hb⟩
theorem live_any (w : World) (ht : AddsMet w) : Calls Tryd.prog 12 #[] w fun e w' => e = .returned (.bool true) ∧ Below w.heap.size w w' := by
  have HT := Lib.hid ht; clear ht
  have hcv := lit_bytes w #[.int .u8 97, .int .u8 98, .int .u8 99] 3 3
  go_enter Tryd.func12, Tryd.ntmps12
  go_wp2_with fail
  clear hcv
  have hb0 := (Below.refl _ w).alloc (Nat.le_refl _) (.cells ([97, 98, 99].map Bv).toArray 5 (3, 4))
  have h1 := hashSum_one (w.alloc (.cells ([97, 98, 99].map Bv).toArray 5 (3, 4))) (some ⟨w.heap.size, 0, none⟩) 3 3 [97, 98, 99] rfl (rd_mark w ([97, 98, 99].map Bv) _ _) (by decide) (by decide) (by decide) (HT.out.below hb0) abcL abc_sha
  rw [World.size_alloc] at h1
  refine h1.mono ?_
  clear h1
  rintro e w1 ⟨rfl, hb1⟩
  have hb1' := hb0.trans (hb1.mono (by simp))
  have HT1 := Lib.hid (HT.out.below hb1')
  have hs1 := hb1'.size
  clear hb0 hb1 HT
  obtain ⟨cm, hcm⟩ : ∃ cm, cm = abcL.map Bv := ⟨_, rfl⟩
  have hcn : cm.length = 32 := by rw [hcm]; rfl
  have hone : ∀ v ∈ cm, v.oneCell' = true := by rw [hcm]; intro v hv; obtain ⟨x, _, rfl⟩ := List.mem_map.1 hv; rfl
  unfold sumV
  rw [← hcm]
  have HCM := Lib.hid hcm; clear hcm
  have HCN := Lib.hid hcn; clear hcn
  have HON := Lib.hid hone; clear hone
  go_wp2_with (first
    | (refine wpList_store_agg (o := ⟨none, _, _, _, _, _⟩) ?_ 25 (.tmp 1) (.tmp 6) ?_ w1.heap.size 0 cm ?_ ?_ 25 _ (heap_alloc_new w1 _) ?_ ?_ HON.out ?_; rfl; rfl; rfl; rfl; (rw [HCN.out]; kernel_rfl); (rw [HCN.out]; decide); intro w2 hg2 hm2 hs2)
    | fail)
  have hg2' : w2.heap[w1.heap.size]? = some (.cells (abcL.map Bv).toArray 25 (0, 0)) := by
    rw [hg2, ← HCM.out]
    congr 2
    simp [spl, splice, HCN.out]
  have hb2 : Below w.heap.size w w2 := (hb1'.alloc hs1 _).trans (hm2.belowB (by simp; omega) (fun k hk e => by omega))
  have ht2 : AddsMet w2 := (HT1.out.below ((Below.refl _ w1).alloc (Nat.le_refl _) _)).mv hm2 (by have := World.block_lt_of_cell? w1 _ (HT1.out 0 (by decide)); simp only at this; omega)
  have hs2' : w2.heap.size = w1.heap.size + 1 := by rw [hs2]; simp
  have HG2 := Lib.hid hg2'; clear hg2' hg2
  have HT2 := Lib.hid ht2; clear ht2 HT1
  have HS2 := Lib.hid hs2'; clear hs2' hs2
  clear hm2 hb1'
  refine (new_any w2).mono ?_
  rintro e w3 ⟨rfl, hi3, hb3⟩
  have HI3 := Lib.hid hi3; clear hi3
  have HG3 := Lib.hid ((hb3.block w1.heap.size (by rw [HS2.out]; omega)).trans HG2.out); clear HG2
  have HT3 := Lib.hid (HT2.out.below hb3)
  have hal := World.block_lt_of_cell? w2 _ (HT2.out 0 (by decide)); clear HT2
  have hb3' := hb2.trans (hb3.mono hb2.size)
  have hz3 : w2.heap.size < w3.heap.size := HI3.out.lt
  have hz3' : w1.heap.size < w2.heap.size := by rw [HS2.out]; omega
  clear hb3 hb2
  have hcv1 := lit_bytes w3 #[.int .u8 97] 1 1
  have hcv2 := lit_bytes_at (w3.alloc (.cells #[.int .u8 97] 5 (1, 2))) #[.int .u8 98, .int .u8 99] 2 2 (w3.heap.size + 1) (by simp)
  go_wp2_with fail
  clear hcv1 hcv2
  refine (write_lits w3 w2.heap.size HI3.out HT3.out).mono ?_
  rintro e w4 ⟨rfl, hi4, hm4⟩
  have HI4 := Lib.hid hi4; clear hi4
  have hb4 : Below w.heap.size w w4 := hb3'.trans (hm4.belowB hb3'.size (fun k hk e => by omega))
  have HG4 := Lib.hid ((hm4.block w1.heap.size (by omega) (by omega)).trans HG3.out)
  have HT4 := Lib.hid (HT3.out.mv hm4 (by omega))
  clear HG3 HT3 HI3 hm4 hb3'
  go_wp2
  have heq : ∀ u : World, (Op.equalIn 10000 25 (.agg cm.toArray) (.agg cm.toArray)).run Tryd.prog u = .ok true u := fun u => by
    rw [HCM.out, eq_bytes u 25 32 abcL abcL Tryd.underlying25 rfl rfl]; simp
  have hgd : Tryd.prog.eqGuardType Tryd.prog.depth 25 = false := by kernel_rfl
  have hz4 : w1.heap.size < w4.heap.size := blk_lt HG4.out
  have hra : readAgg w4.drew w1.heap.size 32 = some cm.toArray := readAgg_of (w := w4.drew) (by rw [HCM.out]; exact HG4.out) (by rw [List.size_toArray, HCN.out])
  have hrb : ∀ m, readAgg (w4.drewN m) w1.heap.size 32 = some cm.toArray := fun m => readAgg_of (w := w4.drewN m) (by rw [HCM.out]; exact HG4.out) (by rw [List.size_toArray, HCN.out])
  have hzn : cm.toArray.size = 32 := by rw [List.size_toArray, HCN.out]
  have HZN := Lib.hid hzn; clear hzn
  go_region_with (first
    | ((go_at_call 33; refine (rhex_lit w4.drew w1.heap.size HG4.out).mono ?_; rintro e w5 ⟨rfl, m5, rfl⟩))
    | ((go_at_call 21; refine (sum_lit (w4.drewN (1 + m5)) w2.heap.size cm HCM.out HI4.out HT4.out).mono ?_; rintro e w6 ⟨rfl, hb6⟩; have hr6 : readAgg w6 w1.heap.size 32 = some cm.toArray := readAgg_of (w := w6) ((hb6.block _ hz4).trans (by rw [HCM.out]; exact HG4.out)) HZN.out; have HB6 := Lib.hid hb6; clear hb6))
    | ((go_at_call 30; refine (armor_lit w6).mono ?_; rintro e w7 ⟨rfl, hb7⟩; have HB7 := Lib.hid hb7; clear hb7))
    | ((go_at_call 34; refine (xx_lit w7).mono ?_; rintro e w8 ⟨rfl, hb8⟩; have HB8 := Lib.hid hb8; clear hb8)))
  all_goals
    go_wp2
    go_ret
    have b6 : Below w.heap.size w w6 := hb4.trans ((show Below w4.heap.size w4 w6 from ⟨HB6.out.os, HB6.out.tape, HB6.out.output, HB6.out.size, HB6.out.block⟩).mono hb4.size)
    have b7 := b6.trans (HB7.out.mono b6.size)
    exact ⟨rfl, b7.trans (HB8.out.mono b7.size)⟩
end
end Go.Proofs.YtmgjlldccmgpcaaDoor
