/-
  A key's 64 bytes, plain and xored; rows of bytes held against one another to the end.
-/
import Derived.Test.YtleppphcjncfhaaDoorHp
import Derived.Deep.RegionLaw
import Derived.Laws.BitsAllLaws
namespace Go.Proofs.YtleppphcjncfhaaDoor
set_option linter.unusedVariables false
set_option linter.unusedSimpArgs false
open Go.RowKit

/-- Each byte xored with c. -/
def maskL (K : List UInt8) (c : UInt8) : List UInt8 := K.map fun b => b ^^^ c
def maskK (K : List UInt8) (c : UInt8) (k : Nat) : List UInt8 := maskL (K.take k) c ++ K.drop k
theorem maskL_length (K : List UInt8) (c : UInt8) : (maskL K c).length = K.length := by simp [maskL]
theorem maskK_length (K : List UInt8) (c : UInt8) (k : Nat) : (maskK K c k).length = K.length := by simp [maskK, maskL]; omega
theorem maskK_zero (K : List UInt8) (c : UInt8) : maskK K c 0 = K := by simp [maskK, maskL]
theorem maskK_full (K : List UInt8) (c : UInt8) : maskK K c K.length = maskL K c := by simp [maskK]
theorem maskK_get {K : List UInt8} {c : UInt8} {k : Nat} (h : k < K.length) : (maskK K c k)[k]? = some K[k] := by
  unfold maskK
  have hl : (maskL (K.take k) c).length = k := by rw [maskL_length, List.length_take]; omega
  rw [List.getElem?_append_right (by omega), hl, Nat.sub_self, List.getElem?_drop]
  simp [h]
theorem maskK_set {K : List UInt8} {c : UInt8} {k : Nat} (h : k < K.length) : (maskK K c k).set k (K[k] ^^^ c) = maskK K c (k + 1) := by
  unfold maskK
  have hl : (maskL (K.take k) c).length = k := by rw [maskL_length, List.length_take]; omega
  rw [List.set_append, if_neg (by omega), hl, Nat.sub_self, drop_cons h, List.set_cons_zero, List.take_succ_eq_append_getElem h]
  unfold maskL
  rw [List.map_append, List.map_singleton, List.append_assoc]
  rfl
theorem u8_xor (x y : UInt8) : bits .xor .u8 (x.toNat : Int) (y.toNat : Int) = ((x ^^^ y).toNat : Int) := by
  rw [u8_xor_nat _ _ x.toNat_lt y.toNat_lt, UInt8.toNat_xor]
/-- A whole block of bytes. -/
def Blk (w : World) (b : Nat) (t : TypeId) (l : List UInt8) : Prop := w.heap[b]? = some (.cells (l.map Bv).toArray t (0, 0))
theorem Blk.block {w w' : World} {b : Nat} {t : TypeId} {l : List UInt8} (h : Blk w b t l) (hb : w'.heap[b]? = w.heap[b]?) : Blk w' b t l := hb.trans h
theorem Blk.set {w : World} {b k : Nat} {t : TypeId} {l : List UInt8} (h : Blk w b t l) (y : UInt8) : Blk (w.setCell ⟨b, k, none⟩ (.int .u8 (y.toNat : Int))) b t (l.set k y) := by
  unfold Blk
  rw [set_blk h]
  simp [Bv, List.map_set]
theorem Blk.cell {w : World} {b k : Nat} {t : TypeId} {l : List UInt8} (h : Blk w b t l) : w.cell? ⟨b, k, none⟩ = (l.map Bv)[k]? := by rw [cell_blk h]; simp
theorem Blk.rd {w : World} {b : Nat} {t : TypeId} {l : List UInt8} (h : Blk w b t l) : Rd w (some ⟨b, 0, none⟩) (l.map Bv) := fun k v hv => ⟨b, 0, rfl, by rw [Nat.zero_add, h.cell]; exact hv⟩
theorem Blk.lt {w : World} {b : Nat} {t : TypeId} {l : List UInt8} (h : Blk w b t l) : b < w.heap.size := blk_lt h
theorem bytes_one (l : List UInt8) : ∀ v ∈ l.map Bv, v.oneCell' = true := by intro v hv; obtain ⟨x, _, rfl⟩ := List.mem_map.1 hv; rfl

section
set_option maxHeartbeats 1600000
set_option maxRecDepth 100000
theorem masked_any (w : World) (K : List UInt8) (c : UInt8) (x : Int) (cl : List Value) (hc : cl = K.map Bv) (hx : x = (c.toNat : Int)) (hK : K.length = 64) :
    Calls Tryd.prog 42 #[.agg cl.toArray, .int .u8 x] w fun e w' => e = .returned (.agg ((maskL K c).map Bv).toArray) ∧ Below w.heap.size w w' := by
  subst hx
  have hcl : cl.length = 64 := by rw [hc, List.length_map, hK]
  have HC := Lib.hid hc; clear hc
  have HK := Lib.hid hK; clear hK
  have HCL := Lib.hid hcl; clear hcl
  have hc8 := c.toNat_lt
  go_enter Tryd.func42, Tryd.ntmps42
  go_wp2
  go_loopw [6] (fun i wr => ∃ k : Nat, k ≤ 64 ∧ i = .int .i64 k ∧ Blk wr w.heap.size 55 (maskK K c k) ∧ Blk wr (w.heap.size + 1) 55 (List.replicate 64 0) ∧ Below w.heap.size w wr) (fun i _ => 64 - (intOf i).toNat)
  case atStart => exact ⟨0, by omega, rfl, by rw [maskK_zero]; unfold Blk; rw [← HC.out]; exact (heap_alloc_old _ _ (by simp)).trans (heap_alloc_new w _), heap_alloc_new2 w _ _, ((Below.refl _ w).alloc (Nat.le_refl _) _).alloc (by simp) _⟩
  case round =>
    obtain ⟨k, hk, rfl, hB, hZ, hb⟩ := hrel
    by_cases hlt : k < 64
    · have hkK : k < K.length := by rw [HK.out]; exact hlt
      have hck : wr.cell? ⟨w.heap.size, k, none⟩ = some (.int .u8 (K[k].toNat : Int)) := by
        rw [hB.cell, List.getElem?_map, maskK_get hkK]; rfl
      have hfk := free_blk hB k
      have hxo := u8_xor K[k] c
      have hst := maskK_set (c := c) hkK
      have HB := Lib.hid hB; clear hB
      have HZ := Lib.hid hZ; clear hZ
      have HST := Lib.hid hst; clear hst
      generalize K[k] = y at *
      go_wp2
      go_roundw
      case rel => exact ⟨k + 1, by omega, by go_num, by have h9 := HB.out.set (k := k) (y ^^^ c); rw [UInt8.toNat_xor] at h9; rw [← HST.out]; exact h9, HZ.out.block (heap_setCell_other _ _ _ _ (by simp)), hb.setCell (Nat.le_refl _) _⟩
      case measure => simp [intOf]; omega
    · have h8 : k = 64 := by omega
      rw [h8, ← HK.out, maskK_full] at hB
      clear h8
      obtain ⟨cm, hcm⟩ : ∃ cm, cm = (maskL K c).map Bv := ⟨_, rfl⟩
      have hcn : cm.length = 64 := by rw [hcm, List.length_map, maskL_length, HK.out]
      have hone : ∀ v ∈ cm, v.oneCell' = true := by rw [hcm]; exact bytes_one _
      unfold Blk at hB
      rw [← hcm] at hB
      have HCM := Lib.hid hcm; clear hcm
      have HCN := Lib.hid hcn; clear hcn
      have HON := Lib.hid hone; clear hone
      have HB := Lib.hid hB; clear hB
      have HZ := Lib.hid hZ; clear hZ
      go_wp2_with (first
        | (refine wpList_load_agg (o := ⟨some 16, _, _, _, _, _⟩) ?_ 55 (.tmp 2) ?_ w.heap.size 0 ?_ cm ?_ ?_ ?_ ?_; rfl; rfl; rfl; kernel_rfl; (rw [HCN.out]; kernel_rfl); (intro i v hv; rw [cell_blk HB.out, Nat.zero_add]; simpa using hv))
        | (refine wpList_store_agg (o := ⟨none, _, _, _, _, _⟩) ?_ 55 (.tmp 4) (.tmp 16) ?_ (w.heap.size + 1) 0 cm ?_ ?_ 55 _ HZ.out ?_ ?_ HON.out ?_; rfl; rfl; rfl; rfl; (rw [HCN.out]; kernel_rfl); (rw [HCN.out]; decide); intro w7 hg7 hm7 hs7)
        | fail)
      have hg8 : w7.heap[w.heap.size + 1]? = some (.cells cm.toArray 55 (0, 0)) := by
        rw [hg7]
        congr 2
        simp [spl, splice, HCN.out, List.drop_eq_nil_of_le]
      have HG8 := Lib.hid hg8; clear hg8 hg7 hs7
      exact bodyPost_cell rfl (w.heap.size + 1) 55 cm.toArray rfl HG8.out (by kernel_rfl) (by rw [List.size_toArray, HCN.out]; kernel_rfl) rfl ⟨by rw [HCM.out], hb.trans (hm7.belowB (by have := hb.size; omega) (fun k hk e => by omega))⟩

/-- A key's 64 bytes: as it is with bytes 0 behind it, or its sum. -/
def fullK (K : List UInt8) : List UInt8 := if 64 < K.length then sha K ++ List.replicate 32 0 else K ++ List.replicate (64 - K.length) 0
theorem fullK_length (K : List UInt8) : (fullK K).length = 64 := by
  unfold fullK
  split
  · rw [List.length_append, sha_length, List.length_replicate]
  · rw [List.length_append, List.length_replicate]; omega
theorem spl_zeros (l : List UInt8) (h : l.length ≤ 64) : spl (Array.replicate 64 (Value.int .u8 0)) 0 (l.map Bv) = ((l ++ List.replicate (64 - l.length) 0).map Bv).toArray := by
  have e : (Array.replicate 64 (Value.int .u8 0)).toList = (List.replicate 64 (0 : UInt8)).map Bv := by rw [Array.toList_replicate, List.map_replicate]; rfl
  unfold spl splice
  rw [e, List.take_zero, List.nil_append, Nat.zero_add, List.length_map, ← List.map_drop, List.drop_replicate, List.map_append]
theorem full_small (w : World) (A : Option Addr) (ca n : Nat) (K : List UInt8) (hn : K.length = n) (hx : Rd w A (K.map Bv)) (hc : n ≤ ca) (hl : n ≤ 64) (hm : ca ≤ 9223372036854775807) :
    Calls Tryd.prog 41 #[.slice A n ca] w fun e w' => e = .returned (.agg ((fullK K).map Bv).toArray) ∧ Below w.heap.size w w' := by
  have hf : spl (Array.replicate 64 (Value.int .u8 0)) 0 (K.map Bv) = ((fullK K).map Bv).toArray := by
    rw [spl_zeros K (by omega)]; unfold fullK; rw [if_neg (by omega)]
  have hx2 := (hx.alloc (.cells (Array.replicate 64 (.int .u8 0)) 55)).alloc (.cells (Array.replicate 64 (.int .u8 0)) 55)
  have hg2 := heap_alloc_new2 w (.cells (Array.replicate 64 (.int .u8 0)) 55) (.cells (Array.replicate 64 (.int .u8 0)) 55)
  have hlk : (K.map Bv).length = n := by rw [List.length_map, hn]
  have hone := bytes_one K
  obtain ⟨kl, hkl⟩ : ∃ kl, kl = K.map Bv := ⟨_, rfl⟩
  obtain ⟨cm, hcm⟩ : ∃ cm, cm = (fullK K).map Bv := ⟨_, rfl⟩
  have hcn : cm.length = 64 := by rw [hcm, List.length_map, fullK_length]
  have hon2 : ∀ v ∈ cm, v.oneCell' = true := by rw [hcm]; exact bytes_one _
  rw [← hkl] at hf hlk hone hx2
  rw [← hcm] at hf ⊢
  have HF := Lib.hid hf; clear hf
  have HX := Lib.hid hx2; clear hx2
  have HG := Lib.hid hg2; clear hg2
  have HLK := Lib.hid hlk; clear hlk
  have HON := Lib.hid hone; clear hone
  have HON2 := Lib.hid hon2; clear hon2
  have HCN := Lib.hid hcn; clear hcn
  clear hkl hcm hn
  go_enter Tryd.func41, Tryd.ntmps41
  go_wp2_with (first
    | (refine wpList_copy_mv (o := ⟨some 17, _, _, _, _, _⟩) ?_ (.tmp 15) (.tmp 16) 28 28 ?_ 5 Tryd.underlying28 (by kernel_rfl) (some ⟨w.heap.size + 1, 0, none⟩) A 64 64 n ca ?_ ?_ (w.heap.size + 1) 0 _ 55 HG.out kl ?_ ?_ HX.out ?_ HON.out ?_; rfl; rfl; rfl; rfl; (rw [HLK.out]; exact (Nat.min_eq_left hl).symm); (intro _; rfl); (rw [HLK.out, Array.size_replicate]; omega); intro w2 hg2 hm2 hs2; rw [HF.out] at hg2; have HG2 := Lib.hid hg2; clear hg2)
    | (refine wpList_load_agg (o := ⟨some 18, _, _, _, _, _⟩) ?_ 55 (.tmp 3) ?_ (w.heap.size + 1) 0 ?_ cm ?_ ?_ ?_ ?_; rfl; rfl; rfl; kernel_rfl; (rw [HCN.out]; kernel_rfl); (intro i v hv; rw [cell_blk HG2.out, Nat.zero_add]; simpa using hv); have hgr := (hm2.block w.heap.size (by simp; omega) (by omega)).trans ((heap_alloc_old _ _ (by simp)).trans (heap_alloc_new w _)); have HGR := Lib.hid hgr; clear hgr)
    | (refine wpList_store_agg (o := ⟨none, _, _, _, _, _⟩) ?_ 55 (.tmp 2) (.tmp 18) ?_ w.heap.size 0 cm ?_ ?_ 55 _ HGR.out ?_ ?_ HON2.out ?_; rfl; rfl; rfl; rfl; (rw [HCN.out]; kernel_rfl); (rw [HCN.out]; decide); intro w7 hg7 hm7 hs7)
    | fail)
  have hg8 : w7.heap[w.heap.size]? = some (.cells cm.toArray 55 (0, 0)) := by
    rw [hg7]
    congr 2
    simp [spl, splice, HCN.out, List.drop_eq_nil_of_le]
  have HG8 := Lib.hid hg8; clear hg8 hg7 hs7
  exact bodyPost_cell rfl w.heap.size 55 cm.toArray rfl HG8.out (by kernel_rfl) (by rw [List.size_toArray, HCN.out]; kernel_rfl) rfl ⟨rfl, (((Below.refl _ w).alloc (Nat.le_refl _) _).alloc (by simp) _).trans ((hm2.belowB (by simp; omega) (fun k hk e => by omega)).trans (hm7.belowB (by rw [hs2]; simp; omega) (fun k hk e => by omega)))⟩
end
end Go.Proofs.YtleppphcjncfhaaDoor
