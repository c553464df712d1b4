/-
  The plain answers' SHA-256: a block's words.
-/
import Derived.Test.YtleppphcjncfhaaDoorRw
import Derived.IntWalk
namespace Go.Proofs.YtleppphcjncfhaaDoor
set_option linter.unusedVariables false
set_option linter.unusedSimpArgs false
open Go.RowKit

section
set_option maxHeartbeats 1600000
set_option maxRecDepth 100000
theorem rwords_any (w : World) (A : Option Addr) (ca n : Nat) (xs : List UInt8) (hn : xs.length = n) (hx : Rd w A (xs.map Bv)) (hl : 64 ≤ n) (hc : n ≤ ca) (hm : ca ≤ 9223372036854775807) :
    Calls Tryd.prog 62 #[.slice A n ca] w fun e w' => ∃ cs : Array Value, e = .returned (.agg cs) ∧ cs.size = 64 ∧ (∀ t, t < 64 → cs[t]? = some (.int .u32 (wW xs t : Nat))) ∧ Below w.heap.size w w' := by
  have HN := Lib.hid hn; clear hn
  go_enter Tryd.func62, Tryd.ntmps62
  go_wp2
  go_loopw [7] (fun i wr => ∃ k : Nat, k ≤ 64 ∧ i = .int .i64 k ∧ WordsAt wr (w.heap.size + 1) 84 64 k (wW xs) ∧ WordsAt wr w.heap.size 84 64 0 (wW xs) ∧ Below w.heap.size w wr) (fun i _ => 64 - (intOf i).toNat)
  case atStart => exact ⟨0, by omega, rfl, ⟨_, heap_alloc_new2 w _ _, rfl, fun i h => by omega⟩, ⟨_, heap_alloc2_old w _ _, rfl, fun i h => by omega⟩, ((Below.refl _ w).alloc (Nat.le_refl _) _).alloc (by simp) _⟩
  case round =>
    obtain ⟨k, hk, rfl, hW, hZ, hb⟩ := hrel
    by_cases hlt : k < 64
    · by_cases h16 : k < 16
      · have hdl : ((xs.drop (4 * k)).take 4).length = 4 := by rw [List.length_take, List.length_drop, HN.out]; omega
        have hst := wW_first xs k h16
        have hbe := of_be4 xs (4 * k) (by rw [HN.out]; omega)
        have hlw := wW_lt xs k
        rw [← hst] at hbe
        obtain ⟨v0, hv0⟩ := hW.cell (i := k) (by omega)
        have hfz := hW.free k
        have e1 : 4 * (k : Int) = ((4 * k : Nat) : Int) := by omega
        have e2 : 4 * (k : Int) + 4 = ((4 * k + 4 : Nat) : Int) := by omega
        have hxr := hx.below hb
        have HDL := Lib.hid hdl; clear hdl
        have HBE := Lib.hid hbe; clear hbe
        have HXR := Lib.hid hxr; clear hxr
        have HE1 := Lib.hid e1; clear e1
        have HE2 := Lib.hid e2; clear e2
        have HWW := Lib.hid hW; clear hW
        have HZ := Lib.hid hZ; clear hZ
        clear hst
        obtain ⟨x, hxx⟩ : ∃ x, x = wW xs k := ⟨_, rfl⟩
        rw [← hxx] at HBE hlw
        have HXX := Lib.hid hxx; clear hxx
        go_wp2_with (first
          | (refine wpList_slice_any (o := ⟨some 19, _, _, _, _, _⟩) ?_ 28 (.tmp 13) (some (.tmp 15)) (some (.tmp 18)) ?_ 5 Tryd.underlying28 (by kernel_rfl) A n ca (4 * k) (4 * k + 4) ?_ ?_ ?_ (by omega) (by omega) ?_; rfl; rfl; rfl; exact .inl (by rw [← HE1.out]; rfl); exact .inl (by rw [← HE2.out]; rfl); intro A2 hA2 hrd2)
          | fail)
        have hrd3 := hrd2 _ (by rw [List.length_map, HN.out]; exact hc) HXR.out
        rw [← List.map_drop] at hrd3
        have hrd4 := hrd3.bytes_take 4
        refine (of_any wr A2 _ 4 _ HDL.out (by decide) hrd4).mono ?_
        rintro e w1 ⟨rfl, hb1⟩
        rw [HBE.out]
        clear hrd2 hrd3 hrd4 hA2
        have hv1 := (hb1.cell (p := ⟨w.heap.size + 1, k, none⟩) (World.block_lt_of_cell? wr _ hv0)).trans hv0
        have hW1 := HWW.out.block (hb1.block _ HWW.out.lt)
        have hZ1 := HZ.out.block (hb1.block _ HZ.out.lt)
        have hf1 := hW1.free k
        have HW1 := Lib.hid hW1; clear hW1
        have HZ1 := Lib.hid hZ1; clear hZ1
        have hb2 := hb.trans (hb1.mono hb.size)
        clear hb1 hv0 hfz
        go_wp2
        go_roundw
        case rel => exact ⟨k + 1, by omega, by go_num, HW1.out.set (by omega) (by rw [HXX.out]), HZ1.out.block (heap_setCell_other _ _ _ _ (by simp)), hb2.setCell (by simp) _⟩
        case measure => simp [intOf]; omega
      · have hk0 : 16 ≤ k := by omega
        have hdec : decide ((k : Int) < 16) = false := by simp; omega
        clear h16
        have c0 := hW.get (i := k - 15) (by omega)
        have c1 := hW.get (i := k - 2) (by omega)
        have c2 := hW.get (i := k - 16) (by omega)
        have c3 := hW.get (i := k - 7) (by omega)
        obtain ⟨v0, hv0⟩ := hW.cell (i := k) (by omega)
        have hfz := hW.free k
        have hst := wW_next xs k hk0
        have l0 := wW_lt xs (k - 15); have l1 := wW_lt xs (k - 2); have l2 := wW_lt xs (k - 16); have l3 := wW_lt xs (k - 7)
        generalize wW xs (k - 15) = x0 at *
        generalize wW xs (k - 2) = x1 at *
        generalize wW xs (k - 16) = x2 at *
        generalize wW xs (k - 7) = x3 at *
        have HST := Lib.hid hst; clear hst
        have f0 : bits .xor .u32 (bits .xor .u32 ((rotr x0 7 : Nat) : Int) ((rotr x0 18 : Nat) : Int)) ((x0 : Int) / 8) = ((sg0 x0 : Nat) : Int) := by
          rw [u32_xor_nat _ _ (rotr_lt l0) (rotr_lt l0), show (x0 : Int) / 8 = ((x0 / 8 : Nat) : Int) from rfl, u32_xor_nat _ _ (xor_lt32 (rotr_lt l0) (rotr_lt l0)) (by omega)]; rfl
        have f1 : bits .xor .u32 (bits .xor .u32 ((rotr x1 17 : Nat) : Int) ((rotr x1 19 : Nat) : Int)) ((x1 : Int) / 1024) = ((sg1 x1 : Nat) : Int) := by
          rw [u32_xor_nat _ _ (rotr_lt l1) (rotr_lt l1), show (x1 : Int) / 1024 = ((x1 / 1024 : Nat) : Int) from rfl, u32_xor_nat _ _ (xor_lt32 (rotr_lt l1) (rotr_lt l1)) (by omega)]; rfl
        have s0 := sg0_lt l0
        have s1 := sg1_lt l1
        have C07 : ∀ u : World, Calls Tryd.prog 63 #[.int .u32 (x0 : Nat), .int .u64 7] u fun e w' => e = .returned (.int .u32 (rotr x0 7 : Nat)) ∧ w' = u := fun u => (right_any x0 7 u l0 (by decide) (by decide)).mono fun _ _ h => ⟨h.1, h.2.symm⟩
        have C018 : ∀ u : World, Calls Tryd.prog 63 #[.int .u32 (x0 : Nat), .int .u64 18] u fun e w' => e = .returned (.int .u32 (rotr x0 18 : Nat)) ∧ w' = u := fun u => (right_any x0 18 u l0 (by decide) (by decide)).mono fun _ _ h => ⟨h.1, h.2.symm⟩
        have C117 : ∀ u : World, Calls Tryd.prog 63 #[.int .u32 (x1 : Nat), .int .u64 17] u fun e w' => e = .returned (.int .u32 (rotr x1 17 : Nat)) ∧ w' = u := fun u => (right_any x1 17 u l1 (by decide) (by decide)).mono fun _ _ h => ⟨h.1, h.2.symm⟩
        have C119 : ∀ u : World, Calls Tryd.prog 63 #[.int .u32 (x1 : Nat), .int .u64 19] u fun e w' => e = .returned (.int .u32 (rotr x1 19 : Nat)) ∧ w' = u := fun u => (right_any x1 19 u l1 (by decide) (by decide)).mono fun _ _ h => ⟨h.1, h.2.symm⟩
        generalize rotr x0 7 = r0 at *
        generalize rotr x0 18 = r1 at *
        generalize rotr x1 17 = r2 at *
        generalize rotr x1 19 = r3 at *
        generalize sg0 x0 = y0 at *
        generalize sg1 x1 = y1 at *
        have K07 := Lib.hid C07; clear C07
        have K018 := Lib.hid C018; clear C018
        have K117 := Lib.hid C117; clear C117
        have K119 := Lib.hid C119; clear C119
        have ga15 : IntKind.i64.wrap ((k : Int) - 15) = (k : Int) - 15 := IntWalk.i64_in _ (by omega)
        have gb15 : (0 : Int) ≤ (k : Int) - 15 := by omega
        have gc15 : (k : Int) - 15 < 64 := by omega
        have gd15 : ((k : Int) - 15).toNat = k - 15 := by omega
        have ge15 : (15 : Int) ≤ (k : Int) := by omega
        have gf15 : k - 15 < 64 := by omega
        have ga2 : IntKind.i64.wrap ((k : Int) - 2) = (k : Int) - 2 := IntWalk.i64_in _ (by omega)
        have gb2 : (0 : Int) ≤ (k : Int) - 2 := by omega
        have gc2 : (k : Int) - 2 < 64 := by omega
        have gd2 : ((k : Int) - 2).toNat = k - 2 := by omega
        have ge2 : (2 : Int) ≤ (k : Int) := by omega
        have gf2 : k - 2 < 64 := by omega
        have ga16 : IntKind.i64.wrap ((k : Int) - 16) = (k : Int) - 16 := IntWalk.i64_in _ (by omega)
        have gb16 : (0 : Int) ≤ (k : Int) - 16 := by omega
        have gc16 : (k : Int) - 16 < 64 := by omega
        have gd16 : ((k : Int) - 16).toNat = k - 16 := by omega
        have ge16 : (16 : Int) ≤ (k : Int) := by omega
        have gf16 : k - 16 < 64 := by omega
        have ga7 : IntKind.i64.wrap ((k : Int) - 7) = (k : Int) - 7 := IntWalk.i64_in _ (by omega)
        have gb7 : (0 : Int) ≤ (k : Int) - 7 := by omega
        have gc7 : (k : Int) - 7 < 64 := by omega
        have gd7 : ((k : Int) - 7).toNat = k - 7 := by omega
        have ge7 : (7 : Int) ≤ (k : Int) := by omega
        have gf7 : k - 7 < 64 := by omega
        have HWW := Lib.hid hW; clear hW
        have HZ := Lib.hid hZ; clear hZ
        go_wp2
        go_quiet (first
          | ((go_at_call 63; with_reducible exact Calls.quiet_of_same (K07.out _)))
          | ((go_at_call 63; with_reducible exact Calls.quiet_of_same (K018.out _))))
        go_wp2
        go_quiet (first
          | ((go_at_call 63; with_reducible exact (K117.out _).mono fun _ _ h => ⟨h.1, _, h.2⟩))
          | ((go_at_call 63; with_reducible exact (K119.out _).mono fun _ _ h => ⟨h.1, _, h.2⟩)))
        go_wp2
        go_region
        go_wp2
        go_roundw
        case rel => exact ⟨k + 1, by omega, by go_num, HWW.out.set (by omega) (by rw [HST.out]; omega), HZ.out.block (heap_setCell_other _ _ _ _ (by simp)), ((below_drewN hb _).setCell (by simp) _)⟩
        case measure => simp [intOf]; omega
    · have e64 : k = 64 := by omega
      rw [e64] at hW
      clear e64
      obtain ⟨cs, hcs, hsz, hcf⟩ := hW
      obtain ⟨zs, hzs, hzz, _⟩ := hZ
      have hcl : ∀ (j : Nat) v, cs.toList[j]? = some v → wr.cell? ⟨w.heap.size + 1, 0 + j, none⟩ = some v := by
        intro j v hv; rw [cell_blk hcs, Nat.zero_add]; simpa using hv
      have h1c : ∀ v ∈ cs.toList, v.oneCell' = true := by
        intro v hv
        obtain ⟨i, hi, e⟩ := List.getElem_of_mem hv
        have := hcf i (by simp at hi; omega)
        rw [Array.getElem?_eq_getElem (by simpa using hi)] at this
        have e2 : cs[i]'(by simpa using hi) = v := by simpa using e
        rw [e2] at this
        injection this with this; rw [this]; rfl
      have hil : (Tryd.prog.info? 84).map (·.size) = some cs.toList.length := by rw [Array.length_toList, hsz]; kernel_rfl
      have HCL := Lib.hid hcl; clear hcl
      have H1 := Lib.hid h1c; clear h1c
      have HIL := Lib.hid hil; clear hil
      have HSZ := Lib.hid hsz; clear hsz
      have HZZ := Lib.hid hzz; clear hzz
      have HCF := Lib.hid hcf; clear hcf
      have HCS := Lib.hid hcs; clear hcs
      have HZS := Lib.hid hzs; clear hzs
      obtain ⟨cl, hcl⟩ : ∃ cl, cl = cs.toList := ⟨_, rfl⟩
      rw [← hcl] at HCL H1 HIL
      have HC := Lib.hid hcl; clear hcl
      go_wp2_with (first
        | (refine wpList_load_agg (o := ⟨some 73, _, _, _, _, _⟩) ?_ 84 (.tmp 3) ?_ (w.heap.size + 1) 0 ?_ cl ?_ ?_ ?_ ?_; rfl; rfl; rfl; kernel_rfl; exact HIL.out; exact HCL.out)
        | (refine wpList_store_agg (o := ⟨none, _, _, _, _, _⟩) ?_ 84 (.tmp 2) (.tmp 73) ?_ w.heap.size 0 cl ?_ ?_ 84 zs HZS.out HIL.out ?_ H1.out ?_; rfl; rfl; rfl; rfl; (rw [HC.out, Array.length_toList, HSZ.out, HZZ.out]; decide); intro w4 hg4 hm4 hs4)
        | fail)
      have hg5 : w4.heap[w.heap.size]? = some (.cells cs 84 (0, 0)) := by
        rw [hg4, HC.out]
        congr 2
        simp [spl, splice, HSZ.out, HZZ.out, List.drop_eq_nil_of_le]
      have HG5 := Lib.hid hg5; clear hg5 hg4 hs4
      refine bodyPost_cell rfl w.heap.size 84 cs rfl HG5.out (by kernel_rfl) (by rw [HSZ.out]; kernel_rfl) rfl ⟨cs, rfl, HSZ.out, HCF.out, hb.trans (hm4.belowB (by have := hb.size; omega) (fun k hk e => by omega))⟩
end
end Go.Proofs.YtleppphcjncfhaaDoor
