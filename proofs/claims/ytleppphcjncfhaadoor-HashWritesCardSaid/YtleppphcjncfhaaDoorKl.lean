/-
  A long key; sums with a key.
-/
import Derived.Test.YtleppphcjncfhaaDoorKm
namespace Go.Proofs.YtleppphcjncfhaaDoor
set_option linter.unusedVariables false
set_option linter.unusedSimpArgs false
open Go.RowKit

section
set_option maxHeartbeats 1600000
set_option maxRecDepth 100000
theorem full_large (w : World) (A : Option Addr) (ca n : Nat) (K : List UInt8) (hn : K.length = n) (hx : Rd w A (K.map Bv)) (hc : n ≤ ca) (hl : 64 < n) (hm : ca ≤ 9223372036854775807) (hb : n ≤ 100000000) (ht : AddsMet w) :
    Calls Tryd.prog 41 #[.slice A n ca] w fun e w' => e = .returned (.agg ((fullK K).map Bv).toArray) ∧ Below w.heap.size w w' := by
  have hf : splice (List.replicate 64 (Value.int .u8 0)) 0 ((sha K).map Bv) = (fullK K).map Bv := by
    have e := spl_zeros (sha K) (by rw [sha_length]; decide)
    have e2 := congrArg Array.toList e
    unfold spl at e2
    rw [sha_length, Array.toList_replicate] at e2
    unfold fullK
    rw [if_pos (by omega)]
    simpa using e2
  have hb0 := ((Below.refl _ w).alloc (Nat.le_refl _) (.cells (Array.replicate 64 (.int .u8 0)) 55)).alloc (by simp) (.cells (Array.replicate 64 (.int .u8 0)) 55)
  have hx2 := hx.below hb0
  have ht2 := ht.below hb0
  have hg2 := heap_alloc_new2 w (.cells (Array.replicate 64 (.int .u8 0)) 55) (.cells (Array.replicate 64 (.int .u8 0)) 55)
  have hgr := (heap_alloc_old _ (.cells (Array.replicate 64 (.int .u8 0)) 55) (by simp)).trans (heap_alloc_new w (.cells (Array.replicate 64 (.int .u8 0)) 55))
  have hz0 : ((w.alloc (.cells (Array.replicate 64 (.int .u8 0)) 55)).alloc (.cells (Array.replicate 64 (.int .u8 0)) 55)).heap.size = w.heap.size + 2 := by simp
  have hgt : ((n : Int) > 64) = True := by simp; omega
  have HX := Lib.hid hx2; clear hx2
  have HT := Lib.hid ht2; clear ht2 ht
  have HG := Lib.hid hg2; clear hg2
  have HGR := Lib.hid hgr; clear hgr
  have HF := Lib.hid hf; clear hf
  have HN := Lib.hid hn; clear hn
  clear hgt
  go_enter Tryd.func41, Tryd.ntmps41
  go_wp2_with fail
  have hcall := hashSum_one ((w.alloc (.cells (Array.replicate 64 (.int .u8 0)) 55)).alloc (.cells (Array.replicate 64 (.int .u8 0)) 55)) A ca n K HN.out HX.out hc hm hb HT.out (sha K) rfl
  rw [hz0] at hcall
  refine hcall.mono ?_
  rintro e w1 ⟨rfl, hb1⟩
  have hb1' := hb0.trans (hb1.mono (by omega))
  have hg1 := (hb1.block (w.heap.size + 1) (by omega)).trans HG.out
  have hr1 := (hb1.block w.heap.size (by omega)).trans HGR.out
  have hs1 : w.heap.size + 2 ≤ w1.heap.size := by have := hb1.size; rw [hz0] at this; exact this
  obtain ⟨cs, hcs⟩ : ∃ cs, cs = (sha K).map Bv := ⟨_, rfl⟩
  have hcsn : cs.length = 32 := by rw [hcs, List.length_map, sha_length]
  have hone : ∀ v ∈ cs, v.oneCell' = true := by rw [hcs]; exact bytes_one _
  unfold sumV
  rw [← hcs]
  rw [← hcs] at HF
  obtain ⟨cm, hcm⟩ : ∃ cm, cm = (fullK K).map Bv := ⟨_, rfl⟩
  have hcn : cm.length = 64 := by rw [hcm, List.length_map, fullK_length]
  have hon2 : ∀ v ∈ cm, v.oneCell' = true := by rw [hcm]; exact bytes_one _
  rw [← hcm] at HF
  have HON := Lib.hid hone; clear hone
  have HON2 := Lib.hid hon2; clear hon2
  have HCN := Lib.hid hcn; clear hcn
  have HSN := Lib.hid hcsn; clear hcsn
  have HG1 := Lib.hid hg1; clear hg1
  have HR1 := Lib.hid hr1; clear hr1
  have HCM := Lib.hid hcm; clear hcm
  clear hcs hcall hb1 hb0 HG HGR HX HT hz0
  go_wp2_with (first
    | (refine wpList_store_agg (o := ⟨none, _, _, _, _, _⟩) ?_ 25 (.tmp 4) (.tmp 10) ?_ w1.heap.size 0 cs ?_ ?_ 25 _ (heap_alloc_new w1 _) ?_ ?_ HON.out ?_; rfl; rfl; rfl; rfl; (rw [HSN.out]; kernel_rfl); (rw [HSN.out]; decide); intro w2 hg2 hm2 hs2)
    | fail)
  have hg2' : Rd w2 (some ⟨w1.heap.size, 0, none⟩) cs := by
    intro j v hv
    refine ⟨_, 0, rfl, ?_⟩
    rw [cell_blk hg2, spl_get (by rw [HSN.out]; decide), if_neg (by omega), if_pos (by have := (List.getElem?_eq_some_iff.1 hv).1; omega)]
    simpa using hv
  have hgz := (hm2.block (w.heap.size + 1) (by rw [World.size_alloc]; omega) (by omega)).trans ((heap_alloc_old _ _ (by omega)).trans HG1.out)
  have hgr := (hm2.block w.heap.size (by simp; omega) (by omega)).trans ((heap_alloc_old _ _ (by omega)).trans HR1.out)
  have hb2 : Below w.heap.size w w2 := (hb1'.alloc (by omega) _).trans (hm2.belowB (by simp; omega) (fun k hk e => by omega))
  have hz2 : w.heap.size + 2 ≤ w2.heap.size := by rw [hs2]; simp; omega
  have hgz' : w2.heap[w.heap.size + 1]? = some (.cells (List.replicate 64 (Value.int .u8 0)).toArray 55 (0, 0)) := by rw [hgz]; congr 2
  have HGZ := Lib.hid hgz'; clear hgz' hgz
  have HGR := Lib.hid hgr; clear hgr
  have HRD := Lib.hid hg2'; clear hg2'
  clear hg2 hm2 hs2 HG1 HR1 hb1'
  go_region_law (refine step_copy_splice rfl (.tmp 11) (.tmp 12) 28 28 rfl 5 Tryd.underlying28 (by kernel_rfl) (some ⟨w.heap.size + 1, 0, none⟩) (some ⟨w1.heap.size, 0, none⟩) 64 64 32 32 (by simp [Act.eval, Act.put]) (by simp [Act.eval, Act.put]) (w.heap.size + 1) 0 (List.replicate 64 (Value.int .u8 0)) 55 HGZ.out cs (by rw [HSN.out]; rfl) (fun _ => ⟨rfl, _, rfl, rd_cells (show Rd w2.drew _ _ from HRD.out)⟩) (by rw [HSN.out]; decide) HON.out (w.heap.size + 1) w2.drew (Below.refl _ _) (Nat.le_refl _) ?_; intro w4 hg4 hb4)
  rw [HF.out] at hg4
  have hgr4 := (hb4.block w.heap.size (by omega)).trans HGR.out
  have hb5 : Below w.heap.size w w4 := hb2.trans (show Below w.heap.size w2 w4 from ⟨hb4.os, hb4.tape, hb4.output, hb4.size, fun k hk => hb4.block k (by omega)⟩)
  have hz4 := hb4.size
  have HGR4 := Lib.hid hgr4; clear hgr4
  clear hb4
  go_wp2_with (first
    | (refine wpList_load_agg (o := ⟨some 14, _, _, _, _, _⟩) ?_ 55 (.tmp 3) ?_ (w.heap.size + 1) 0 ?_ cm ?_ ?_ ?_ ?_; rfl; rfl; rfl; kernel_rfl; (rw [HCN.out]; kernel_rfl); (intro i v hv; rw [cell_blk hg4.out, Nat.zero_add]; simpa using hv))
    | (refine wpList_store_agg (o := ⟨none, _, _, _, _, _⟩) ?_ 55 (.tmp 2) (.tmp 14) ?_ w.heap.size 0 cm ?_ ?_ 55 _ HGR4.out ?_ ?_ HON2.out ?_; rfl; rfl; rfl; rfl; (rw [HCN.out]; kernel_rfl); (rw [HCN.out]; decide); intro w7 hg7 hm7 hs7)
    | fail)
  have hg8 : w7.heap[w.heap.size]? = some (.cells cm.toArray 55 (0, 0)) := by
    rw [hg7]
    congr 2
    simp [spl, splice, HCN.out, List.drop_eq_nil_of_le]
  have HG8 := Lib.hid hg8; clear hg8 hg7 hs7
  exact bodyPost_cell rfl w.heap.size 55 cm.toArray rfl HG8.out (by kernel_rfl) (by rw [List.size_toArray, HCN.out]; kernel_rfl) rfl ⟨by rw [HCM.out], hb5.trans (hm7.belowB (by have := hb5.size; omega) (fun k hk e => by omega))⟩
theorem full_any (w : World) (A : Option Addr) (ca n : Nat) (K : List UInt8) (hn : K.length = n) (hx : Rd w A (K.map Bv)) (hc : n ≤ ca) (hm : ca ≤ 9223372036854775807) (hb : n ≤ 100000000) (ht : AddsMet w) :
    Calls Tryd.prog 41 #[.slice A n ca] w fun e w' => e = .returned (.agg ((fullK K).map Bv).toArray) ∧ Below w.heap.size w w' := by
  by_cases h : n ≤ 64
  · exact full_small w A ca n K hn hx hc h hm
  · exact full_large w A ca n K hn hx hc (by omega) hm hb ht
end
end Go.Proofs.YtleppphcjncfhaaDoor
