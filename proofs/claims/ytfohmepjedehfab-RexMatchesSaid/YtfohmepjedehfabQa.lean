/-
  Sets of atoms: what a set holds, one atom's, two together.
-/
import Derived.Test.YtfohmepjedehfabGen
import Derived.Test.YtfohmepjedehfabRe
import Derived.Test.YtfohmepjedehfabShelf
namespace Go.Proofs.Ytfohmepjedehfab
set_option linter.unusedVariables false
set_option linter.unusedSimpArgs false
open Go.RowKit

/-- A word of a set. -/
def wd (n k : Nat) : Nat := n / 2 ^ (64 * k) % 18446744073709551616
theorem wd_lt (n k : Nat) : wd n k < 18446744073709551616 := Nat.mod_lt _ (by decide)
def setL (n : Nat) : List Value := [.int .u64 (wd n 0 : Nat), .int .u64 (wd n 1 : Nat), .int .u64 (wd n 2 : Nat), .int .u64 (wd n 3 : Nat)]
def setV (n : Nat) : Value := .agg (setL n).toArray
theorem setL_len (n : Nat) : (setL n).length = 4 := rfl
theorem setL_at (n : Nat) {q : Nat} (h : q < 4) : (setL n)[q]? = some (.int .u64 (wd n q : Nat)) := by
  match q, h with
  | 0, _ => rfl
  | 1, _ => rfl
  | 2, _ => rfl
  | 3, _ => rfl
theorem setL_one (n : Nat) : ∀ v ∈ setL n, v.oneCell' = true := by
  intro v hv
  simp only [setL, List.mem_cons, List.not_mem_nil, or_false] at hv
  rcases hv with rfl | rfl | rfl | rfl <;> rfl
theorem wd_bit (n k j : Nat) : (wd n k).testBit j = (decide (j < 64) && n.testBit (64 * k + j)) := by
  unfold wd
  rw [show (18446744073709551616 : Nat) = 2 ^ 64 from by decide, Nat.testBit_mod_two_pow, ← Nat.shiftRight_eq_div_pow, Nat.testBit_shiftRight]
theorem wd_or (n m k : Nat) : wd (n ||| m) k = wd n k ||| wd m k := by
  apply Nat.eq_of_testBit_eq
  intro j
  rw [Nat.testBit_or, wd_bit, wd_bit, wd_bit, Nat.testBit_or]
  cases decide (j < 64) <;> simp
theorem wd_pow (i k : Nat) : wd (2 ^ i) k = if i / 64 = k then 2 ^ (i % 64) else 0 := by
  apply Nat.eq_of_testBit_eq
  intro j
  rw [wd_bit, Nat.testBit_two_pow]
  split
  · rename_i h
    rw [Nat.testBit_two_pow]
    by_cases hj : j < 64
    · simp only [hj, decide_true, Bool.true_and]
      exact decide_eq_decide.2 (by omega)
    · have : ¬ i % 64 = j := by omega
      simp [hj, this]
  · rename_i h
    rw [Nat.zero_testBit]
    by_cases hj : j < 64
    · have : ¬ i = 64 * k + j := by omega
      simp [this]
    · simp [hj]
theorem bit_div (x k : Nat) : x.testBit k = decide (x / 2 ^ k % 2 = 1) := by
  rw [Nat.testBit_eq_decide_div_mod_eq]
theorem has_eq (n i : Nat) : n.testBit i = decide (wd n (i / 64) / 2 ^ (i % 64) % 2 = 1) := by
  rw [← bit_div, wd_bit, decide_eq_true (by omega : i % 64 < 64), Bool.true_and]
  congr 1
  omega
section
set_option maxHeartbeats 1600000
set_option maxRecDepth 100000
theorem has_any (n i : Nat) (hi : i < 256) (w : World) : Calls Try.prog 65 #[setV n, .int .i64 (i : Nat)] w fun e w' => e = .returned (.bool (n.testBit i)) ∧ RowKit.Below w.heap.size w w' := by
  have hb : RowKit.Below w.heap.size w (w.alloc (.cells (setL n).toArray 83)) := (RowKit.Below.refl _ w).alloc (Nat.le_refl _) _
  have HB := Lib.hid hb; clear hb
  have hcell : (w.alloc (.cells (setL n).toArray 83)).cell? ⟨w.heap.size, i / 64, none⟩ = some (.int .u64 (wd n (i / 64) : Nat)) := by
    have := cell_blk (heap_alloc_new w (.cells (setL n).toArray 83)) (i / 64)
    rw [this, List.getElem?_toArray, setL_at n (by omega)]
  have hR := has_eq n i
  generalize n.testBit i = R at hR ⊢
  have hx := wd_lt n (i / 64)
  generalize wd n (i / 64) = x at hx hcell hR
  have hm : bits .and .u64 ((x : Int) / 2 ^ (i % 64)) 1 = ((x / 2 ^ (i % 64) % 2 : Nat) : Int) := by
    have hd : ((x : Int) / 2 ^ (i % 64)) = ((x / 2 ^ (i % 64) : Nat) : Int) := by rw [Int.natCast_ediv, Int.natCast_pow]; rfl
    rw [hd]
    have hlt : x / 2 ^ (i % 64) < 18446744073709551616 := Nat.lt_of_le_of_lt (Nat.div_le_self _ _) hx
    generalize x / 2 ^ (i % 64) = d at hlt ⊢
    have := bits_mask .u64 64 (by decide) (fun n h0 h1 => by have := h1; simp [IntKind.wrap, IntKind.bits, IntKind.signed]; omega) 1 (by decide) ((d : Nat) : Int) (by omega) (by omega)
    rw [show ((2 : Int) ^ 1 - 1) = 1 from rfl] at this
    rw [this, Int.natCast_emod]; rfl
  have hbb : (bits .and .u64 ((x : Int) / 2 ^ (i % 64)) 1 == 1) = R := by
    rw [hm, hR]
    by_cases h : x / 2 ^ (i % 64) % 2 = 1
    · rw [h]; rfl
    · have : x / 2 ^ (i % 64) % 2 = 0 := by omega
      rw [this]; rfl
  have HBB := Lib.hid hbb; clear hm hR hx
  unfold setV
  generalize setL n = sl at hcell HB ⊢
  go_enter Try.func65, Try.ntmps65
  go_wp2
  go_ret
  exact ⟨rfl, HB.out⟩
/-- The words of two sets together, as far as place k, and those of the first behind. -/
def MixC (n m k : Nat) (cur : List Value) : Prop := cur.length = 4 ∧ ∀ q, q < 4 → cur[q]? = some (.int .u64 ((if q < k then wd (n ||| m) q else wd n q : Nat) : Int))
theorem MixC.start (n m : Nat) : MixC n m 0 (setL n) := ⟨rfl, fun q h => by rw [setL_at n h, if_neg (by omega)]⟩
theorem MixC.step {n m k : Nat} {cur : List Value} (h : MixC n m k cur) (hk : k < 4) {x : Int} (hx : x = ((wd (n ||| m) k : Nat) : Int)) : MixC n m (k + 1) (cur.set k (.int .u64 x)) := by
  refine ⟨by rw [List.length_set]; exact h.1, fun q hq => ?_⟩
  rw [List.getElem?_set]
  by_cases e : k = q
  · subst e
    rw [if_pos rfl, if_pos (by rw [h.1]; exact hk), if_pos (by omega), hx]
  · rw [if_neg e, h.2 q hq]
    by_cases hq2 : q < k
    · rw [if_pos hq2, if_pos (by omega)]
    · rw [if_neg hq2, if_neg (by omega)]
theorem MixC.done {n m : Nat} {cur : List Value} (h : MixC n m 4 cur) : cur = setL (n ||| m) := by
  apply List.ext_getElem?
  intro q
  by_cases hq : q < 4
  · rw [h.2 q hq, if_pos hq, setL_at _ hq]
  · rw [List.getElem?_eq_none (by rw [h.1]; omega), List.getElem?_eq_none (by rw [setL_len]; omega)]
theorem with_any (n m : Nat) (w : World) : Calls Try.prog 67 #[setV n, setV m] w fun e w' => e = .returned (setV (n ||| m)) ∧ RowKit.Below w.heap.size w w' := by
  obtain ⟨W, hW⟩ : ∃ W, W = ((w.alloc (.cells (setL n).toArray 83)).alloc (.cells (setL m).toArray 83)).alloc (.cells #[.int .u64 0, .int .u64 0, .int .u64 0, .int .u64 0] 83) := ⟨_, rfl⟩
  have hb : RowKit.Below w.heap.size w W := by rw [hW]; exact (((RowKit.Below.refl _ w).alloc (Nat.le_refl _) _).alloc (by simp) _).alloc (by simp; omega) _
  have h2 : W.heap[w.heap.size]? = some (.cells (setL n).toArray 83 (0, 0)) := by
    rw [hW, Below.heap_alloc _ _ _ (by simp; omega), Below.heap_alloc _ _ _ (by simp)]; exact heap_alloc_new _ _
  have h3 : W.heap[w.heap.size + 1]? = some (.cells (setL m).toArray 83 (0, 0)) := by
    rw [hW, Below.heap_alloc _ _ _ (by simp)]; exact heap_alloc_new2 _ _ _
  have h4 : W.heap[w.heap.size + 1 + 1]? = some (.cells #[.int .u64 0, .int .u64 0, .int .u64 0, .int .u64 0] 83 (0, 0)) := by
    have := heap_alloc_new ((w.alloc (.cells (setL n).toArray 83)).alloc (.cells (setL m).toArray 83)) (.cells #[.int .u64 0, .int .u64 0, .int .u64 0, .int .u64 0] 83)
    rw [hW]; simpa using this
  have hsz : W.heap.size = w.heap.size + 3 := by rw [hW]; simp
  have HB := Lib.hid hb; have H2 := Lib.hid h2; have H3 := Lib.hid h3; have H4 := Lib.hid h4; have HSZ := Lib.hid hsz; have HW := Lib.hid hW
  have HM := Lib.hid (MixC.start n m)
  clear hb h2 h3 h4 hsz hW
  have ha3 := fun q (h : q < 4) => setL_at m h
  have HA3 := Lib.hid ha3; clear ha3
  unfold setV
  generalize setL n = sn at HW H2 HM ⊢
  generalize setL m = sm at HW H3 HA3 ⊢
  go_enter Try.func67, Try.ntmps67
  go_wp2
  rw [← HW.out]
  generalize hg : w.heap.size = g at H2 H3 H4
  have HG := Lib.hid hg; clear hg
  go_loopw [6] (fun s6 wr => ∃ (k : Nat) (cur : List Value), s6 = .int .i64 k ∧ k ≤ 4 ∧ Aside (wr.heap[g]? = some (.cells cur.toArray 83 (0, 0))) ∧ Aside (MixC n m k cur) ∧ Aside (Mv (fun i => i = g) W wr)) (fun s6 _ => 4 - (intOf s6).toNat)
  case atStart => exact ⟨0, sn, rfl, by omega, H2.out, HM.out, Mv.refl _ _⟩
  case round =>
    obtain ⟨k, cur, rfl, hk, HC, HX, BW⟩ := hrel
    have k0 : (0 : Int) ≤ (k : Int) := by omega
    have h3' : wr.heap[g + 1]? = some (.cells sm.toArray 83 (0, 0)) := (BW.out.block _ (blk_lt H3.out) (by omega)).trans H3.out
    have h4' : wr.heap[g + 1 + 1]? = some (.cells #[.int .u64 0, .int .u64 0, .int .u64 0, .int .u64 0] 83 (0, 0)) := (BW.out.block _ (blk_lt H4.out) (by omega)).trans H4.out
    by_cases hlt : k < 4
    · have k1 : (k : Int) < 4 := by omega
      have c0 := cell_blk HC.out k
      have c1 := cell_blk h3' k
      have f0 := free_blk HC.out k
      rw [List.getElem?_toArray, HX.out.2 k hlt, if_neg (by omega)] at c0
      rw [List.getElem?_toArray, HA3.out k hlt] at c1
      have hst := fun x hx => HX.out.step hlt (x := x) hx
      have hor := wd_or n m k
      have HN := Lib.hid (And.intro hst hor); clear hst hor
      have hbor := bits_or_u64_nat (wd n k) (wd m k) (wd_lt _ _) (wd_lt _ _)
      have HBO := Lib.hid hbor; clear hbor HX
      generalize wd n k = x at c0 HN HBO
      generalize wd m k = y at c1 HN HBO
      have hset := set_blk HC.out k (.int .u64 (bits .or .u64 (x : Int) (y : Int)))
      rw [List.setIfInBounds_toArray] at hset
      have HS := Lib.hid hset; clear hset
      clear h3' h4'
      go_wp2
      go_region
      go_wp2
      go_roundw
      case rel => exact ⟨k + 1, _, by go_num, by omega, (show Aside _ from HS.out), (show Aside _ from HN.out.1 _ (by rw [HBO.out, HN.out.2])), (show Aside _ from (BW.out.setCell (fun _ => rfl) _).drew)⟩
      case measure => simp [intOf]; omega
    · obtain rfl : k = 4 := by omega
      have hcur := HX.out.done
      have hc : ∀ j v, cur[j]? = some v → wr.cell? ⟨g, 0 + j, none⟩ = some v := fun j v hv => by rw [Nat.zero_add, cell_blk HC.out j]; simpa using hv
      have hlen := HX.out.1
      have hone : ∀ v ∈ cur, v.oneCell' = true := by rw [hcur]; exact setL_one _
      have HCC := Lib.hid hc; have H4' := Lib.hid h4'; have HCU := Lib.hid hcur; have HL := Lib.hid hlen; have HO := Lib.hid hone; clear hc h4' h3' k0 hlt hk hlen hone hcur HX
      go_wp2_with (first
        | (refine wpList_load_agg (o := ⟨some 18, _, _, _, _, _⟩) ?_ 83 (.tmp 2) ?_ g 0 ?_ cur ?_ ?_ ?_ ?_; rfl; rfl; rfl; kernel_rfl; (rw [HL.out]; kernel_rfl); exact HCC.out)
        | (refine wpList_store_agg (o := ⟨none, _, _, _, _, _⟩) ?_ 83 (.tmp 4) (.tmp 18) ?_ (g + 1 + 1) 0 cur ?_ ?_ 83 _ H4'.out ?_ ?_ ?_ ?_; rfl; rfl; rfl; rfl; (rw [HL.out]; kernel_rfl); (rw [HL.out]; decide); exact HO.out; intro w2 hw2 hm2 hs2)
        | fail)
      have hg8 : w2.heap[g + 1 + 1]? = some (.cells cur.toArray 83 (0, 0)) := by
        rw [hw2]
        congr 2
        simp [spl, splice, HL.out, List.drop_eq_nil_of_le]
      have hbq : RowKit.Below w.heap.size w w2 := (HB.out.trans (BW.out.belowB (by have := HSZ.out; omega) (fun k hk e => by have := HG.out; omega))).trans (hm2.belowB (by have := HSZ.out; have := BW.out.size; omega) (fun k hk e => by have := HG.out; omega))
      refine bodyPost_cell rfl (g + 1 + 1) 83 cur.toArray rfl hg8 (by kernel_rfl) (by rw [List.size_toArray, HL.out]; kernel_rfl) rfl ⟨?_, hbq⟩
      rw [HCU.out]
theorem pow_word (i : Nat) : IntKind.u64.wrap ((2 : Int) ^ (i % 64)) = 2 ^ (i % 64) := by
  have hp64 : 2 ^ (i % 64) < 18446744073709551616 := by
    have : 2 ^ (i % 64) < 2 ^ 64 := Nat.pow_lt_pow_right (by decide) (by omega)
    simpa using this
  have hp : ((2 : Int) ^ (i % 64)) = ((2 ^ (i % 64) : Nat) : Int) := by rw [Int.natCast_pow]; rfl
  rw [hp]
  generalize 2 ^ (i % 64) = d at hp64
  simp [IntKind.wrap, IntKind.bits, IntKind.signed]; omega
theorem only_0 (i : Nat) (hq : i / 64 = 0) (w : World) : Calls Try.prog 109 #[.int .i64 (i : Nat)] w fun e w' => e = .returned (setV (2 ^ i)) ∧ RowKit.Below w.heap.size w w' := by
  have hw1 := pow_word i
  have hq2 : (i : Int) / 64 = 0 := by omega
  have hv : setV (2 ^ i) = .agg #[.int .u64 (2 ^ (i % 64)), .int .u64 0, .int .u64 0, .int .u64 0] := by
    unfold setV setL
    simp only [wd_pow, hq]
    rw [show ((2 : Int) ^ (i % 64)) = ((2 ^ (i % 64) : Nat) : Int) from by rw [Int.natCast_pow]; rfl]
    rfl
  rw [hv]
  clear hv
  have hb : RowKit.Below w.heap.size w ((w.alloc (.cells #[.int .u64 (2 ^ (i % 64)), .int .u64 0, .int .u64 0, .int .u64 0] 83)).alloc (.cells #[.int .u64 (2 ^ (i % 64)), .int .u64 0, .int .u64 0, .int .u64 0] 83)) := ((RowKit.Below.refl _ w).alloc (Nat.le_refl _) _).alloc (by simp) _
  have HB := Lib.hid hb; clear hb hq
  go_enter Try.func109, Try.ntmps109
  go_wp2
  refine bodyPost_cell rfl w.heap.size 83 #[.int .u64 (2 ^ (i % 64)), .int .u64 0, .int .u64 0, .int .u64 0] rfl (by rw [Below.heap_alloc _ _ _ (by simp)]; exact heap_alloc_new _ _) (by kernel_rfl) (by kernel_rfl) rfl ⟨rfl, HB.out⟩
theorem only_1 (i : Nat) (hq : i / 64 = 1) (w : World) : Calls Try.prog 109 #[.int .i64 (i : Nat)] w fun e w' => e = .returned (setV (2 ^ i)) ∧ RowKit.Below w.heap.size w w' := by
  have hw1 := pow_word i
  have hq2 : (i : Int) / 64 = 1 := by omega
  have hv : setV (2 ^ i) = .agg #[.int .u64 0, .int .u64 (2 ^ (i % 64)), .int .u64 0, .int .u64 0] := by
    unfold setV setL
    simp only [wd_pow, hq]
    rw [show ((2 : Int) ^ (i % 64)) = ((2 ^ (i % 64) : Nat) : Int) from by rw [Int.natCast_pow]; rfl]
    rfl
  rw [hv]
  clear hv
  have hb : RowKit.Below w.heap.size w ((w.alloc (.cells #[.int .u64 0, .int .u64 (2 ^ (i % 64)), .int .u64 0, .int .u64 0] 83)).alloc (.cells #[.int .u64 0, .int .u64 (2 ^ (i % 64)), .int .u64 0, .int .u64 0] 83)) := ((RowKit.Below.refl _ w).alloc (Nat.le_refl _) _).alloc (by simp) _
  have HB := Lib.hid hb; clear hb hq
  go_enter Try.func109, Try.ntmps109
  go_wp2
  refine bodyPost_cell rfl w.heap.size 83 #[.int .u64 0, .int .u64 (2 ^ (i % 64)), .int .u64 0, .int .u64 0] rfl (by rw [Below.heap_alloc _ _ _ (by simp)]; exact heap_alloc_new _ _) (by kernel_rfl) (by kernel_rfl) rfl ⟨rfl, HB.out⟩
theorem only_2 (i : Nat) (hq : i / 64 = 2) (w : World) : Calls Try.prog 109 #[.int .i64 (i : Nat)] w fun e w' => e = .returned (setV (2 ^ i)) ∧ RowKit.Below w.heap.size w w' := by
  have hw1 := pow_word i
  have hq2 : (i : Int) / 64 = 2 := by omega
  have hv : setV (2 ^ i) = .agg #[.int .u64 0, .int .u64 0, .int .u64 (2 ^ (i % 64)), .int .u64 0] := by
    unfold setV setL
    simp only [wd_pow, hq]
    rw [show ((2 : Int) ^ (i % 64)) = ((2 ^ (i % 64) : Nat) : Int) from by rw [Int.natCast_pow]; rfl]
    rfl
  rw [hv]
  clear hv
  have hb : RowKit.Below w.heap.size w ((w.alloc (.cells #[.int .u64 0, .int .u64 0, .int .u64 (2 ^ (i % 64)), .int .u64 0] 83)).alloc (.cells #[.int .u64 0, .int .u64 0, .int .u64 (2 ^ (i % 64)), .int .u64 0] 83)) := ((RowKit.Below.refl _ w).alloc (Nat.le_refl _) _).alloc (by simp) _
  have HB := Lib.hid hb; clear hb hq
  go_enter Try.func109, Try.ntmps109
  go_wp2
  refine bodyPost_cell rfl w.heap.size 83 #[.int .u64 0, .int .u64 0, .int .u64 (2 ^ (i % 64)), .int .u64 0] rfl (by rw [Below.heap_alloc _ _ _ (by simp)]; exact heap_alloc_new _ _) (by kernel_rfl) (by kernel_rfl) rfl ⟨rfl, HB.out⟩
theorem only_3 (i : Nat) (hq : i / 64 = 3) (w : World) : Calls Try.prog 109 #[.int .i64 (i : Nat)] w fun e w' => e = .returned (setV (2 ^ i)) ∧ RowKit.Below w.heap.size w w' := by
  have hw1 := pow_word i
  have hq2 : (i : Int) / 64 = 3 := by omega
  have hv : setV (2 ^ i) = .agg #[.int .u64 0, .int .u64 0, .int .u64 0, .int .u64 (2 ^ (i % 64))] := by
    unfold setV setL
    simp only [wd_pow, hq]
    rw [show ((2 : Int) ^ (i % 64)) = ((2 ^ (i % 64) : Nat) : Int) from by rw [Int.natCast_pow]; rfl]
    rfl
  rw [hv]
  clear hv
  have hb : RowKit.Below w.heap.size w ((w.alloc (.cells #[.int .u64 0, .int .u64 0, .int .u64 0, .int .u64 (2 ^ (i % 64))] 83)).alloc (.cells #[.int .u64 0, .int .u64 0, .int .u64 0, .int .u64 (2 ^ (i % 64))] 83)) := ((RowKit.Below.refl _ w).alloc (Nat.le_refl _) _).alloc (by simp) _
  have HB := Lib.hid hb; clear hb hq
  go_enter Try.func109, Try.ntmps109
  go_wp2
  refine bodyPost_cell rfl w.heap.size 83 #[.int .u64 0, .int .u64 0, .int .u64 0, .int .u64 (2 ^ (i % 64))] rfl (by rw [Below.heap_alloc _ _ _ (by simp)]; exact heap_alloc_new _ _) (by kernel_rfl) (by kernel_rfl) rfl ⟨rfl, HB.out⟩
theorem only_any (i : Nat) (hi : i < 256) (w : World) : Calls Try.prog 109 #[.int .i64 (i : Nat)] w fun e w' => e = .returned (setV (2 ^ i)) ∧ RowKit.Below w.heap.size w w' := by
  have h4 : i / 64 = 0 ∨ i / 64 = 1 ∨ i / 64 = 2 ∨ i / 64 = 3 := by omega
  rcases h4 with h | h | h | h
  · exact only_0 i h w
  · exact only_1 i h w
  · exact only_2 i h w
  · exact only_3 i h w
end
end Go.Proofs.Ytfohmepjedehfab
