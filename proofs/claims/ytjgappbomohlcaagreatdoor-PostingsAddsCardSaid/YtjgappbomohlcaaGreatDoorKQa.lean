/-
  Sets of atoms: what a set holds, one atom's, two together. Parts of a pattern: values of sets and parts as cells; either of two parts. Either of two parts, the first one matching nothing. Either of two parts, the first one not matching nothing. Either of two parts. A parser in memory: what is left of a text, and its atoms; the rune that comes next, what goes past it, what refuses it. A parser in memory stays what it is where other blocks turn; the parser goes past a rune. Whether a rune is one of a few signs of ASCII. An escape of a rune, a single rune of a class. A single rune of a class; an escape of several runes.
-/
import Derived.Deep.RegionHeld3
import Derived.Deep.RegionWith
import Derived.Deep.MidRow
import Derived.Lib.Hide
import Derived.WalkSmall
import Derived.Laws.RangeAny
import Derived.Laws.Runes
import Derived.Test.YtjgappbomohlcaaGreatDoorKGen
import Derived.Test.YtjgappbomohlcaaGreatDoorKRe
import Derived.Test.YtjgappbomohlcaaGreatDoorShelf
import Derived.Test.YtjgappbomohlcaaGreatDoorK01
namespace Go.Proofs.YtjgappbomohlcaaGreatDoor
section
set_option linter.unusedVariables false
set_option linter.unusedSimpArgs false
section
set_option linter.unusedVariables false
set_option linter.unusedSimpArgs false
open Go.RowKit

/-- A word of a set. -/
def wd (n k : Nat) : Nat := n / 2 ^ (64 * k) % 18446744073709551616
theorem wd_lt (n k : Nat) : wd n k < 18446744073709551616 := Nat.mod_lt _ (by decide)
def setL (n : Nat) : List Value := [.int .u64 (wd n 0 : Nat), .int .u64 (wd n 1 : Nat), .int .u64 (wd n 2 : Nat), .int .u64 (wd n 3 : Nat)]
def setV (n : Nat) : Value := .agg (setL n).toArray
theorem setL_len (n : Nat) : (setL n).length = 4 := rfl
theorem setL_at (n : Nat) {q : Nat} (h : q < 4) : (setL n)[q]? = some (.int .u64 (wd n q : Nat)) := by
  match q, h with
  | 0, _ => rfl
  | 1, _ => rfl
  | 2, _ => rfl
  | 3, _ => rfl
theorem setL_one (n : Nat) : ∀ v ∈ setL n, v.oneCell' = true := by
  intro v hv
  simp only [setL, List.mem_cons, List.not_mem_nil, or_false] at hv
  rcases hv with rfl | rfl | rfl | rfl <;> rfl
theorem wd_bit (n k j : Nat) : (wd n k).testBit j = (decide (j < 64) && n.testBit (64 * k + j)) := by
  unfold wd
  rw [show (18446744073709551616 : Nat) = 2 ^ 64 from by decide, Nat.testBit_mod_two_pow, ← Nat.shiftRight_eq_div_pow, Nat.testBit_shiftRight]
theorem wd_or (n m k : Nat) : wd (n ||| m) k = wd n k ||| wd m k := by
  apply Nat.eq_of_testBit_eq
  intro j
  rw [Nat.testBit_or, wd_bit, wd_bit, wd_bit, Nat.testBit_or]
  cases decide (j < 64) <;> simp
theorem wd_pow (i k : Nat) : wd (2 ^ i) k = if i / 64 = k then 2 ^ (i % 64) else 0 := by
  apply Nat.eq_of_testBit_eq
  intro j
  rw [wd_bit, Nat.testBit_two_pow]
  split
  · rename_i h
    rw [Nat.testBit_two_pow]
    by_cases hj : j < 64
    · simp only [hj, decide_true, Bool.true_and]
      exact decide_eq_decide.2 (by omega)
    · have : ¬ i % 64 = j := by omega
      simp [hj, this]
  · rename_i h
    rw [Nat.zero_testBit]
    by_cases hj : j < 64
    · have : ¬ i = 64 * k + j := by omega
      simp [this]
    · simp [hj]
theorem bit_div (x k : Nat) : x.testBit k = decide (x / 2 ^ k % 2 = 1) := by
  rw [Nat.testBit_eq_decide_div_mod_eq]
theorem has_eq (n i : Nat) : n.testBit i = decide (wd n (i / 64) / 2 ^ (i % 64) % 2 = 1) := by
  rw [← bit_div, wd_bit, decide_eq_true (by omega : i % 64 < 64), Bool.true_and]
  congr 1
  omega
section
set_option maxHeartbeats 1600000
set_option maxRecDepth 100000
theorem has_any (n i : Nat) (hi : i < 256) (w : World) : Calls Tryz.prog 159 #[setV n, .int .i64 (i : Nat)] w fun e w' => e = .returned (.bool (n.testBit i)) ∧ RowKit.Below w.heap.size w w' := by
  have hb : RowKit.Below w.heap.size w (w.alloc (.cells (setL n).toArray 184)) := (RowKit.Below.refl _ w).alloc (Nat.le_refl _) _
  have HB := Lib.hid hb; clear hb
  have hcell : (w.alloc (.cells (setL n).toArray 184)).cell? ⟨w.heap.size, i / 64, none⟩ = some (.int .u64 (wd n (i / 64) : Nat)) := by
    have := cell_blk (heap_alloc_new w (.cells (setL n).toArray 184)) (i / 64)
    rw [this, List.getElem?_toArray, setL_at n (by omega)]
  have hR := has_eq n i
  generalize n.testBit i = R at hR ⊢
  have hx := wd_lt n (i / 64)
  generalize wd n (i / 64) = x at hx hcell hR
  have hm : bits .and .u64 ((x : Int) / 2 ^ (i % 64)) 1 = ((x / 2 ^ (i % 64) % 2 : Nat) : Int) := by
    have hd : ((x : Int) / 2 ^ (i % 64)) = ((x / 2 ^ (i % 64) : Nat) : Int) := by rw [Int.natCast_ediv, Int.natCast_pow]; rfl
    rw [hd]
    have hlt : x / 2 ^ (i % 64) < 18446744073709551616 := Nat.lt_of_le_of_lt (Nat.div_le_self _ _) hx
    generalize x / 2 ^ (i % 64) = d at hlt ⊢
    have := bits_mask .u64 64 (by decide) (fun n h0 h1 => by have := h1; simp [IntKind.wrap, IntKind.bits, IntKind.signed]; omega) 1 (by decide) ((d : Nat) : Int) (by omega) (by omega)
    rw [show ((2 : Int) ^ 1 - 1) = 1 from rfl] at this
    rw [this, Int.natCast_emod]; rfl
  have hbb : (bits .and .u64 ((x : Int) / 2 ^ (i % 64)) 1 == 1) = R := by
    rw [hm, hR]
    by_cases h : x / 2 ^ (i % 64) % 2 = 1
    · rw [h]; rfl
    · have : x / 2 ^ (i % 64) % 2 = 0 := by omega
      rw [this]; rfl
  have HBB := Lib.hid hbb; clear hm hR hx
  unfold setV
  generalize setL n = sl at hcell HB ⊢
  go_enter Tryz.func159, Tryz.ntmps159
  go_wp2
  go_ret
  exact ⟨rfl, HB.out⟩
/-- The words of two sets together, as far as place k, and those of the first behind. -/
def MixC (n m k : Nat) (cur : List Value) : Prop := cur.length = 4 ∧ ∀ q, q < 4 → cur[q]? = some (.int .u64 ((if q < k then wd (n ||| m) q else wd n q : Nat) : Int))
theorem MixC.start (n m : Nat) : MixC n m 0 (setL n) := ⟨rfl, fun q h => by rw [setL_at n h, if_neg (by omega)]⟩
theorem MixC.step {n m k : Nat} {cur : List Value} (h : MixC n m k cur) (hk : k < 4) {x : Int} (hx : x = ((wd (n ||| m) k : Nat) : Int)) : MixC n m (k + 1) (cur.set k (.int .u64 x)) := by
  refine ⟨by rw [List.length_set]; exact h.1, fun q hq => ?_⟩
  rw [List.getElem?_set]
  by_cases e : k = q
  · subst e
    rw [if_pos rfl, if_pos (by rw [h.1]; exact hk), if_pos (by omega), hx]
  · rw [if_neg e, h.2 q hq]
    by_cases hq2 : q < k
    · rw [if_pos hq2, if_pos (by omega)]
    · rw [if_neg hq2, if_neg (by omega)]
theorem MixC.done {n m : Nat} {cur : List Value} (h : MixC n m 4 cur) : cur = setL (n ||| m) := by
  apply List.ext_getElem?
  intro q
  by_cases hq : q < 4
  · rw [h.2 q hq, if_pos hq, setL_at _ hq]
  · rw [List.getElem?_eq_none (by rw [h.1]; omega), List.getElem?_eq_none (by rw [setL_len]; omega)]
theorem with_any (n m : Nat) (w : World) : Calls Tryz.prog 161 #[setV n, setV m] w fun e w' => e = .returned (setV (n ||| m)) ∧ RowKit.Below w.heap.size w w' := by
  obtain ⟨W, hW⟩ : ∃ W, W = ((w.alloc (.cells (setL n).toArray 184)).alloc (.cells (setL m).toArray 184)).alloc (.cells #[.int .u64 0, .int .u64 0, .int .u64 0, .int .u64 0] 184) := ⟨_, rfl⟩
  have hb : RowKit.Below w.heap.size w W := by rw [hW]; exact (((RowKit.Below.refl _ w).alloc (Nat.le_refl _) _).alloc (by simp) _).alloc (by simp; omega) _
  have h2 : W.heap[w.heap.size]? = some (.cells (setL n).toArray 184 (0, 0)) := by
    rw [hW, Below.heap_alloc _ _ _ (by simp; omega), Below.heap_alloc _ _ _ (by simp)]; exact heap_alloc_new _ _
  have h3 : W.heap[w.heap.size + 1]? = some (.cells (setL m).toArray 184 (0, 0)) := by
    rw [hW, Below.heap_alloc _ _ _ (by simp)]; exact heap_alloc_new2 _ _ _
  have h4 : W.heap[w.heap.size + 1 + 1]? = some (.cells #[.int .u64 0, .int .u64 0, .int .u64 0, .int .u64 0] 184 (0, 0)) := by
    have := heap_alloc_new ((w.alloc (.cells (setL n).toArray 184)).alloc (.cells (setL m).toArray 184)) (.cells #[.int .u64 0, .int .u64 0, .int .u64 0, .int .u64 0] 184)
    rw [hW]; simpa using this
  have hsz : W.heap.size = w.heap.size + 3 := by rw [hW]; simp
  have HB := Lib.hid hb; have H2 := Lib.hid h2; have H3 := Lib.hid h3; have H4 := Lib.hid h4; have HSZ := Lib.hid hsz; have HW := Lib.hid hW
  have HM := Lib.hid (MixC.start n m)
  clear hb h2 h3 h4 hsz hW
  have ha3 := fun q (h : q < 4) => setL_at m h
  have HA3 := Lib.hid ha3; clear ha3
  unfold setV
  generalize setL n = sn at HW H2 HM ⊢
  generalize setL m = sm at HW H3 HA3 ⊢
  go_enter Tryz.func161, Tryz.ntmps161
  go_wp2
  rw [← HW.out]
  generalize hg : w.heap.size = g at H2 H3 H4
  have HG := Lib.hid hg; clear hg
  go_loopw [6] (fun s6 wr => ∃ (k : Nat) (cur : List Value), s6 = .int .i64 k ∧ k ≤ 4 ∧ Aside (wr.heap[g]? = some (.cells cur.toArray 184 (0, 0))) ∧ Aside (MixC n m k cur) ∧ Aside (Mv (fun i => i = g) W wr)) (fun s6 _ => 4 - (intOf s6).toNat)
  case atStart => exact ⟨0, sn, rfl, by omega, H2.out, HM.out, Mv.refl _ _⟩
  case round =>
    obtain ⟨k, cur, rfl, hk, HC, HX, BW⟩ := hrel
    have k0 : (0 : Int) ≤ (k : Int) := by omega
    have h3' : wr.heap[g + 1]? = some (.cells sm.toArray 184 (0, 0)) := (BW.out.block _ (blk_lt H3.out) (by omega)).trans H3.out
    have h4' : wr.heap[g + 1 + 1]? = some (.cells #[.int .u64 0, .int .u64 0, .int .u64 0, .int .u64 0] 184 (0, 0)) := (BW.out.block _ (blk_lt H4.out) (by omega)).trans H4.out
    by_cases hlt : k < 4
    · have k1 : (k : Int) < 4 := by omega
      have c0 := cell_blk HC.out k
      have c1 := cell_blk h3' k
      have f0 := free_blk HC.out k
      rw [List.getElem?_toArray, HX.out.2 k hlt, if_neg (by omega)] at c0
      rw [List.getElem?_toArray, HA3.out k hlt] at c1
      have hst := fun x hx => HX.out.step hlt (x := x) hx
      have hor := wd_or n m k
      have HN := Lib.hid (And.intro hst hor); clear hst hor
      have hbor := bits_or_u64_nat (wd n k) (wd m k) (wd_lt _ _) (wd_lt _ _)
      have HBO := Lib.hid hbor; clear hbor HX
      generalize wd n k = x at c0 HN HBO
      generalize wd m k = y at c1 HN HBO
      have hset := set_blk HC.out k (.int .u64 (bits .or .u64 (x : Int) (y : Int)))
      rw [List.setIfInBounds_toArray] at hset
      have HS := Lib.hid hset; clear hset
      clear h3' h4'
      go_wp2
      go_region
      go_wp2
      go_roundw
      case rel => exact ⟨k + 1, _, by go_num, by omega, (show Aside _ from HS.out), (show Aside _ from HN.out.1 _ (by rw [HBO.out, HN.out.2])), (show Aside _ from (BW.out.setCell (fun _ => rfl) _).drew)⟩
      case measure => simp [intOf]; omega
    · obtain rfl : k = 4 := by omega
      have hcur := HX.out.done
      have hc : ∀ j v, cur[j]? = some v → wr.cell? ⟨g, 0 + j, none⟩ = some v := fun j v hv => by rw [Nat.zero_add, cell_blk HC.out j]; simpa using hv
      have hlen := HX.out.1
      have hone : ∀ v ∈ cur, v.oneCell' = true := by rw [hcur]; exact setL_one _
      have HCC := Lib.hid hc; have H4' := Lib.hid h4'; have HCU := Lib.hid hcur; have HL := Lib.hid hlen; have HO := Lib.hid hone; clear hc h4' h3' k0 hlt hk hlen hone hcur HX
      go_wp2_with (first
        | (refine wpList_load_agg (o := ⟨some 18, _, _, _, _, _⟩) ?_ 184 (.tmp 2) ?_ g 0 ?_ cur ?_ ?_ ?_ ?_; rfl; rfl; rfl; kernel_rfl; (rw [HL.out]; kernel_rfl); exact HCC.out)
        | (refine wpList_store_agg (o := ⟨none, _, _, _, _, _⟩) ?_ 184 (.tmp 4) (.tmp 18) ?_ (g + 1 + 1) 0 cur ?_ ?_ 184 _ H4'.out ?_ ?_ ?_ ?_; rfl; rfl; rfl; rfl; (rw [HL.out]; kernel_rfl); (rw [HL.out]; decide); exact HO.out; intro w2 hw2 hm2 hs2)
        | fail)
      have hg8 : w2.heap[g + 1 + 1]? = some (.cells cur.toArray 184 (0, 0)) := by
        rw [hw2]
        congr 2
        simp [spl, splice, HL.out, List.drop_eq_nil_of_le]
      have hbq : RowKit.Below w.heap.size w w2 := (HB.out.trans (BW.out.belowB (by have := HSZ.out; omega) (fun k hk e => by have := HG.out; omega))).trans (hm2.belowB (by have := HSZ.out; have := BW.out.size; omega) (fun k hk e => by have := HG.out; omega))
      refine bodyPost_cell rfl (g + 1 + 1) 184 cur.toArray rfl hg8 (by kernel_rfl) (by rw [List.size_toArray, HL.out]; kernel_rfl) rfl ⟨?_, hbq⟩
      rw [HCU.out]
theorem pow_word (i : Nat) : IntKind.u64.wrap ((2 : Int) ^ (i % 64)) = 2 ^ (i % 64) := by
  have hp64 : 2 ^ (i % 64) < 18446744073709551616 := by
    have : 2 ^ (i % 64) < 2 ^ 64 := Nat.pow_lt_pow_right (by decide) (by omega)
    simpa using this
  have hp : ((2 : Int) ^ (i % 64)) = ((2 ^ (i % 64) : Nat) : Int) := by rw [Int.natCast_pow]; rfl
  rw [hp]
  generalize 2 ^ (i % 64) = d at hp64
  simp [IntKind.wrap, IntKind.bits, IntKind.signed]; omega
theorem only_0 (i : Nat) (hq : i / 64 = 0) (w : World) : Calls Tryz.prog 193 #[.int .i64 (i : Nat)] w fun e w' => e = .returned (setV (2 ^ i)) ∧ RowKit.Below w.heap.size w w' := by
  have hw1 := pow_word i
  have hq2 : (i : Int) / 64 = 0 := by omega
  have hv : setV (2 ^ i) = .agg #[.int .u64 (2 ^ (i % 64)), .int .u64 0, .int .u64 0, .int .u64 0] := by
    unfold setV setL
    simp only [wd_pow, hq]
    rw [show ((2 : Int) ^ (i % 64)) = ((2 ^ (i % 64) : Nat) : Int) from by rw [Int.natCast_pow]; rfl]
    rfl
  rw [hv]
  clear hv
  have hb : RowKit.Below w.heap.size w ((w.alloc (.cells #[.int .u64 (2 ^ (i % 64)), .int .u64 0, .int .u64 0, .int .u64 0] 184)).alloc (.cells #[.int .u64 (2 ^ (i % 64)), .int .u64 0, .int .u64 0, .int .u64 0] 184)) := ((RowKit.Below.refl _ w).alloc (Nat.le_refl _) _).alloc (by simp) _
  have HB := Lib.hid hb; clear hb hq
  go_enter Tryz.func193, Tryz.ntmps193
  go_wp2
  refine bodyPost_cell rfl w.heap.size 184 #[.int .u64 (2 ^ (i % 64)), .int .u64 0, .int .u64 0, .int .u64 0] rfl (by rw [Below.heap_alloc _ _ _ (by simp)]; exact heap_alloc_new _ _) (by kernel_rfl) (by kernel_rfl) rfl ⟨rfl, HB.out⟩
theorem only_1 (i : Nat) (hq : i / 64 = 1) (w : World) : Calls Tryz.prog 193 #[.int .i64 (i : Nat)] w fun e w' => e = .returned (setV (2 ^ i)) ∧ RowKit.Below w.heap.size w w' := by
  have hw1 := pow_word i
  have hq2 : (i : Int) / 64 = 1 := by omega
  have hv : setV (2 ^ i) = .agg #[.int .u64 0, .int .u64 (2 ^ (i % 64)), .int .u64 0, .int .u64 0] := by
    unfold setV setL
    simp only [wd_pow, hq]
    rw [show ((2 : Int) ^ (i % 64)) = ((2 ^ (i % 64) : Nat) : Int) from by rw [Int.natCast_pow]; rfl]
    rfl
  rw [hv]
  clear hv
  have hb : RowKit.Below w.heap.size w ((w.alloc (.cells #[.int .u64 0, .int .u64 (2 ^ (i % 64)), .int .u64 0, .int .u64 0] 184)).alloc (.cells #[.int .u64 0, .int .u64 (2 ^ (i % 64)), .int .u64 0, .int .u64 0] 184)) := ((RowKit.Below.refl _ w).alloc (Nat.le_refl _) _).alloc (by simp) _
  have HB := Lib.hid hb; clear hb hq
  go_enter Tryz.func193, Tryz.ntmps193
  go_wp2
  refine bodyPost_cell rfl w.heap.size 184 #[.int .u64 0, .int .u64 (2 ^ (i % 64)), .int .u64 0, .int .u64 0] rfl (by rw [Below.heap_alloc _ _ _ (by simp)]; exact heap_alloc_new _ _) (by kernel_rfl) (by kernel_rfl) rfl ⟨rfl, HB.out⟩
theorem only_2 (i : Nat) (hq : i / 64 = 2) (w : World) : Calls Tryz.prog 193 #[.int .i64 (i : Nat)] w fun e w' => e = .returned (setV (2 ^ i)) ∧ RowKit.Below w.heap.size w w' := by
  have hw1 := pow_word i
  have hq2 : (i : Int) / 64 = 2 := by omega
  have hv : setV (2 ^ i) = .agg #[.int .u64 0, .int .u64 0, .int .u64 (2 ^ (i % 64)), .int .u64 0] := by
    unfold setV setL
    simp only [wd_pow, hq]
    rw [show ((2 : Int) ^ (i % 64)) = ((2 ^ (i % 64) : Nat) : Int) from by rw [Int.natCast_pow]; rfl]
    rfl
  rw [hv]
  clear hv
  have hb : RowKit.Below w.heap.size w ((w.alloc (.cells #[.int .u64 0, .int .u64 0, .int .u64 (2 ^ (i % 64)), .int .u64 0] 184)).alloc (.cells #[.int .u64 0, .int .u64 0, .int .u64 (2 ^ (i % 64)), .int .u64 0] 184)) := ((RowKit.Below.refl _ w).alloc (Nat.le_refl _) _).alloc (by simp) _
  have HB := Lib.hid hb; clear hb hq
  go_enter Tryz.func193, Tryz.ntmps193
  go_wp2
  refine bodyPost_cell rfl w.heap.size 184 #[.int .u64 0, .int .u64 0, .int .u64 (2 ^ (i % 64)), .int .u64 0] rfl (by rw [Below.heap_alloc _ _ _ (by simp)]; exact heap_alloc_new _ _) (by kernel_rfl) (by kernel_rfl) rfl ⟨rfl, HB.out⟩
theorem only_3 (i : Nat) (hq : i / 64 = 3) (w : World) : Calls Tryz.prog 193 #[.int .i64 (i : Nat)] w fun e w' => e = .returned (setV (2 ^ i)) ∧ RowKit.Below w.heap.size w w' := by
  have hw1 := pow_word i
  have hq2 : (i : Int) / 64 = 3 := by omega
  have hv : setV (2 ^ i) = .agg #[.int .u64 0, .int .u64 0, .int .u64 0, .int .u64 (2 ^ (i % 64))] := by
    unfold setV setL
    simp only [wd_pow, hq]
    rw [show ((2 : Int) ^ (i % 64)) = ((2 ^ (i % 64) : Nat) : Int) from by rw [Int.natCast_pow]; rfl]
    rfl
  rw [hv]
  clear hv
  have hb : RowKit.Below w.heap.size w ((w.alloc (.cells #[.int .u64 0, .int .u64 0, .int .u64 0, .int .u64 (2 ^ (i % 64))] 184)).alloc (.cells #[.int .u64 0, .int .u64 0, .int .u64 0, .int .u64 (2 ^ (i % 64))] 184)) := ((RowKit.Below.refl _ w).alloc (Nat.le_refl _) _).alloc (by simp) _
  have HB := Lib.hid hb; clear hb hq
  go_enter Tryz.func193, Tryz.ntmps193
  go_wp2
  refine bodyPost_cell rfl w.heap.size 184 #[.int .u64 0, .int .u64 0, .int .u64 0, .int .u64 (2 ^ (i % 64))] rfl (by rw [Below.heap_alloc _ _ _ (by simp)]; exact heap_alloc_new _ _) (by kernel_rfl) (by kernel_rfl) rfl ⟨rfl, HB.out⟩
theorem only_any (i : Nat) (hi : i < 256) (w : World) : Calls Tryz.prog 193 #[.int .i64 (i : Nat)] w fun e w' => e = .returned (setV (2 ^ i)) ∧ RowKit.Below w.heap.size w w' := by
  have h4 : i / 64 = 0 ∨ i / 64 = 1 ∨ i / 64 = 2 ∨ i / 64 = 3 := by omega
  rcases h4 with h | h | h | h
  · exact only_0 i h w
  · exact only_1 i h w
  · exact only_2 i h w
  · exact only_3 i h w
end
end
section
set_option linter.unusedVariables false
set_option linter.unusedSimpArgs false
open Go.RowKit
/-- A part's cells. -/
def partC (p : Prt) : Array Value := #[.int .u64 (wd p.first 0 : Nat), .int .u64 (wd p.first 1 : Nat), .int .u64 (wd p.first 2 : Nat), .int .u64 (wd p.first 3 : Nat), .int .u64 (wd p.last 0 : Nat), .int .u64 (wd p.last 1 : Nat), .int .u64 (wd p.last 2 : Nat), .int .u64 (wd p.last 3 : Nat), .bool p.empty]
def partV (p : Prt) : Value := .agg (partC p)
section
set_option maxHeartbeats 1600000
set_option maxRecDepth 100000
theorem with_lit (n m : Nat) (w : World) : Calls Tryz.prog 161 #[.agg #[.int .u64 (wd n 0 : Nat), .int .u64 (wd n 1 : Nat), .int .u64 (wd n 2 : Nat), .int .u64 (wd n 3 : Nat)], .agg #[.int .u64 (wd m 0 : Nat), .int .u64 (wd m 1 : Nat), .int .u64 (wd m 2 : Nat), .int .u64 (wd m 3 : Nat)]] w fun e w' => e = .returned (.agg #[.int .u64 (wd (n ||| m) 0 : Nat), .int .u64 (wd (n ||| m) 1 : Nat), .int .u64 (wd (n ||| m) 2 : Nat), .int .u64 (wd (n ||| m) 3 : Nat)]) ∧ RowKit.Below w.heap.size w w' := with_any n m w
theorem has_lit (n i : Nat) (hi : i < 256) (w : World) : Calls Tryz.prog 159 #[.agg #[.int .u64 (wd n 0 : Nat), .int .u64 (wd n 1 : Nat), .int .u64 (wd n 2 : Nat), .int .u64 (wd n 3 : Nat)], .int .i64 (i : Nat)] w fun e w' => e = .returned (.bool (n.testBit i)) ∧ RowKit.Below w.heap.size w w' := has_any n i hi w
def Qs (g : Nat) (W w2 : World) : Prop := Mv (fun k => k = g) W w2
theorem Qs.drew {g : Nat} {W w2 : World} (h : Qs g W w2) : Qs g W w2.drew := Mv.drew h
theorem Qs.setCell {g : Nat} {W w2 : World} (h : Qs g W w2) (k : Nat) (u : Value) : Qs g W (w2.setCell ⟨g, k, none⟩ u) := Mv.setCell h (fun _ => rfl) u
theorem undrew {w w2 : World} (h : RowKit.Below w.drew.heap.size w.drew w2) : RowKit.Below w.heap.size w w2 := ⟨h.os, h.tape, h.output, h.size, h.block⟩
theorem stored9 {w : World} {g : Nat} {t : TypeId} {a0 a1 a2 a3 a4 a5 a6 a7 a8 v0 v1 v2 v3 v4 v5 v6 v7 v8 : Value} (h : w.heap[g]? = some (.cells #[a0, a1, a2, a3, a4, a5, a6, a7, a8] t (0, 0))) : (((((((((w.setCell ⟨g, 0, none⟩ v0).setCell ⟨g, 1, none⟩ v1).setCell ⟨g, 2, none⟩ v2).setCell ⟨g, 3, none⟩ v3).setCell ⟨g, 4, none⟩ v4).setCell ⟨g, 5, none⟩ v5).setCell ⟨g, 6, none⟩ v6).setCell ⟨g, 7, none⟩ v7).setCell ⟨g, 8, none⟩ v8).heap[g]? = some (.cells #[v0, v1, v2, v3, v4, v5, v6, v7, v8] t (0, 0)) := by
  have := (set_blk (set_blk (set_blk (set_blk (set_blk (set_blk (set_blk (set_blk (set_blk h 0 v0) 1 v1) 2 v2) 3 v3) 4 v4) 5 v5) 6 v6) 7 v7) 8 v8)
  simpa using this
theorem one9 {a b c d e f g h : Int} {x : Bool} : ∀ v ∈ ([.int .u64 a, .int .u64 b, .int .u64 c, .int .u64 d, .int .u64 e, .int .u64 f, .int .u64 g, .int .u64 h, .bool x] : List Value), v.oneCell' = true := by
  intro v hv
  simp only [List.mem_cons, List.not_mem_nil, or_false] at hv
  rcases hv with rfl | rfl | rfl | rfl | rfl | rfl | rfl | rfl | rfl <;> rfl
end
end
section
set_option linter.unusedVariables false
set_option linter.unusedSimpArgs false
open Go.RowKit
section
set_option maxHeartbeats 3200000
set_option maxRecDepth 100000
theorem either_t (f l : Nat) (b : Prt) (w : World) : Calls Tryz.prog 174 #[partV ⟨f, l, true⟩, partV b] w fun e w' => e = .returned (partV (eitherP ⟨f, l, true⟩ b)) ∧ RowKit.Below w.heap.size w w' := by
  obtain ⟨f2, l2, em2⟩ := b
  obtain ⟨W, hW⟩ : ∃ W, W = ((w.alloc (.cells #[.int .u64 (wd f 0 : Nat), .int .u64 (wd f 1 : Nat), .int .u64 (wd f 2 : Nat), .int .u64 (wd f 3 : Nat), .int .u64 (wd l 0 : Nat), .int .u64 (wd l 1 : Nat), .int .u64 (wd l 2 : Nat), .int .u64 (wd l 3 : Nat), .bool true] 186)).alloc (.cells #[.int .u64 (wd f2 0 : Nat), .int .u64 (wd f2 1 : Nat), .int .u64 (wd f2 2 : Nat), .int .u64 (wd f2 3 : Nat), .int .u64 (wd l2 0 : Nat), .int .u64 (wd l2 1 : Nat), .int .u64 (wd l2 2 : Nat), .int .u64 (wd l2 3 : Nat), .bool em2] 186)).alloc (.cells #[.int .u64 0, .int .u64 0, .int .u64 0, .int .u64 0, .int .u64 0, .int .u64 0, .int .u64 0, .int .u64 0, .bool false] 186) := ⟨_, rfl⟩
  have hb : RowKit.Below w.heap.size w W := by rw [hW]; exact (((RowKit.Below.refl _ w).alloc (Nat.le_refl _) _).alloc (by simp) _).alloc (by simp; omega) _
  have h2 : W.heap[w.heap.size]? = some (.cells #[.int .u64 (wd f 0 : Nat), .int .u64 (wd f 1 : Nat), .int .u64 (wd f 2 : Nat), .int .u64 (wd f 3 : Nat), .int .u64 (wd l 0 : Nat), .int .u64 (wd l 1 : Nat), .int .u64 (wd l 2 : Nat), .int .u64 (wd l 3 : Nat), .bool true] 186 (0, 0)) := by
    rw [hW, Below.heap_alloc _ _ _ (by simp; omega), Below.heap_alloc _ _ _ (by simp)]; exact heap_alloc_new _ _
  have h3 : W.heap[w.heap.size + 1]? = some (.cells #[.int .u64 (wd f2 0 : Nat), .int .u64 (wd f2 1 : Nat), .int .u64 (wd f2 2 : Nat), .int .u64 (wd f2 3 : Nat), .int .u64 (wd l2 0 : Nat), .int .u64 (wd l2 1 : Nat), .int .u64 (wd l2 2 : Nat), .int .u64 (wd l2 3 : Nat), .bool em2] 186 (0, 0)) := by
    rw [hW, Below.heap_alloc _ _ _ (by simp)]; exact heap_alloc_new2 _ _ _
  have h4 : W.heap[w.heap.size + 1 + 1]? = some (.cells #[.int .u64 0, .int .u64 0, .int .u64 0, .int .u64 0, .int .u64 0, .int .u64 0, .int .u64 0, .int .u64 0, .bool false] 186 (0, 0)) := by
    have := heap_alloc_new ((w.alloc (.cells #[.int .u64 (wd f 0 : Nat), .int .u64 (wd f 1 : Nat), .int .u64 (wd f 2 : Nat), .int .u64 (wd f 3 : Nat), .int .u64 (wd l 0 : Nat), .int .u64 (wd l 1 : Nat), .int .u64 (wd l 2 : Nat), .int .u64 (wd l 3 : Nat), .bool true] 186)).alloc (.cells #[.int .u64 (wd f2 0 : Nat), .int .u64 (wd f2 1 : Nat), .int .u64 (wd f2 2 : Nat), .int .u64 (wd f2 3 : Nat), .int .u64 (wd l2 0 : Nat), .int .u64 (wd l2 1 : Nat), .int .u64 (wd l2 2 : Nat), .int .u64 (wd l2 3 : Nat), .bool em2] 186)) (.cells #[.int .u64 0, .int .u64 0, .int .u64 0, .int .u64 0, .int .u64 0, .int .u64 0, .int .u64 0, .int .u64 0, .bool false] 186)
    rw [hW]; simpa using this
  have hsz : W.heap.size = w.heap.size + 3 := by rw [hW]; simp
  have hs : ∀ W', Mv (fun k => k = w.heap.size + 1 + 1) W W' → W'.cell? ⟨w.heap.size, 0, none⟩ = some (.int .u64 (wd f 0 : Nat)) ∧ W'.cell? ⟨w.heap.size, 1, none⟩ = some (.int .u64 (wd f 1 : Nat)) ∧ W'.cell? ⟨w.heap.size, 2, none⟩ = some (.int .u64 (wd f 2 : Nat)) ∧ W'.cell? ⟨w.heap.size, 3, none⟩ = some (.int .u64 (wd f 3 : Nat)) ∧ W'.cell? ⟨w.heap.size, 4, none⟩ = some (.int .u64 (wd l 0 : Nat)) ∧ W'.cell? ⟨w.heap.size, 5, none⟩ = some (.int .u64 (wd l 1 : Nat)) ∧ W'.cell? ⟨w.heap.size, 6, none⟩ = some (.int .u64 (wd l 2 : Nat)) ∧ W'.cell? ⟨w.heap.size, 7, none⟩ = some (.int .u64 (wd l 3 : Nat)) ∧ W'.cell? ⟨w.heap.size, 8, none⟩ = some (.bool true) ∧ W'.cell? ⟨w.heap.size + 1, 0, none⟩ = some (.int .u64 (wd f2 0 : Nat)) ∧ W'.cell? ⟨w.heap.size + 1, 1, none⟩ = some (.int .u64 (wd f2 1 : Nat)) ∧ W'.cell? ⟨w.heap.size + 1, 2, none⟩ = some (.int .u64 (wd f2 2 : Nat)) ∧ W'.cell? ⟨w.heap.size + 1, 3, none⟩ = some (.int .u64 (wd f2 3 : Nat)) ∧ W'.cell? ⟨w.heap.size + 1, 4, none⟩ = some (.int .u64 (wd l2 0 : Nat)) ∧ W'.cell? ⟨w.heap.size + 1, 5, none⟩ = some (.int .u64 (wd l2 1 : Nat)) ∧ W'.cell? ⟨w.heap.size + 1, 6, none⟩ = some (.int .u64 (wd l2 2 : Nat)) ∧ W'.cell? ⟨w.heap.size + 1, 7, none⟩ = some (.int .u64 (wd l2 3 : Nat)) ∧ W'.cell? ⟨w.heap.size + 1, 8, none⟩ = some (.bool em2) := fun W' hb' => by
    have k2 := (hb'.block _ (by omega) (by omega)).trans h2
    have k3 := (hb'.block _ (by omega) (by omega)).trans h3
    refine ⟨?_, ?_, ?_, ?_, ?_, ?_, ?_, ?_, ?_, ?_, ?_, ?_, ?_, ?_, ?_, ?_, ?_, ?_⟩ <;> first | (rw [cell_blk k2]; rfl) | (rw [cell_blk k3]; rfl)
  have hz : ∀ W', RowKit.Below W.heap.size W W' → W'.cell? ⟨w.heap.size + 1 + 1, 0, none⟩ = some (.int .u64 0) ∧ W'.cell? ⟨w.heap.size + 1 + 1, 1, none⟩ = some (.int .u64 0) ∧ W'.cell? ⟨w.heap.size + 1 + 1, 2, none⟩ = some (.int .u64 0) ∧ W'.cell? ⟨w.heap.size + 1 + 1, 3, none⟩ = some (.int .u64 0) ∧ W'.cell? ⟨w.heap.size + 1 + 1, 4, none⟩ = some (.int .u64 0) ∧ W'.cell? ⟨w.heap.size + 1 + 1, 5, none⟩ = some (.int .u64 0) ∧ W'.cell? ⟨w.heap.size + 1 + 1, 6, none⟩ = some (.int .u64 0) ∧ W'.cell? ⟨w.heap.size + 1 + 1, 7, none⟩ = some (.int .u64 0) ∧ W'.cell? ⟨w.heap.size + 1 + 1, 8, none⟩ = some (.bool false) ∧ ∀ i, W'.frozen? ⟨w.heap.size + 1 + 1, i, none⟩ = false := fun W' hb' => by
    have k4 := (hb'.block _ (by omega)).trans h4
    refine ⟨?_, ?_, ?_, ?_, ?_, ?_, ?_, ?_, ?_, ?_⟩ <;> first | (rw [cell_blk k4]; rfl) | (intro i; exact free_blk k4 i)
  have h4b : ∀ W', RowKit.Below W.heap.size W W' → W'.heap[w.heap.size + 1 + 1]? = some (.cells #[.int .u64 0, .int .u64 0, .int .u64 0, .int .u64 0, .int .u64 0, .int .u64 0, .int .u64 0, .int .u64 0, .bool false] 186 (0, 0)) := fun W' hb' => (hb'.block _ (by omega)).trans h4
  have HB := Lib.hid hb; have HS := Lib.hid hs; have HZ := Lib.hid hz; have H4 := Lib.hid h4b; have HSZ := Lib.hid hsz; have HW := Lib.hid hW
  have HWW := Lib.hid (RowKit.Below.refl W.heap.size W)
  have HMV := Lib.hid (show Qs (w.heap.size + 1 + 1) W W from Mv.refl _ W)
  clear hb h2 h3 h4 hsz hW hs h4b hz
  unfold partV partC
  simp only [eitherP, Bool.true_or, Bool.false_or]
  go_enter Tryz.func174, Tryz.ntmps174
  go_wp2
  rw [← HW.out]
  generalize hg : w.heap.size = g at HS H4 HZ HMV ⊢
  have HG := Lib.hid hg; clear hg
  have r0 : ∀ w', Qs (g + 1 + 1) W w' → w'.cell? ⟨g, 0, none⟩ = some (.int .u64 (wd f 0 : Nat)) := fun w' h => (HS.out _ h).1
  have r1 : ∀ w', Qs (g + 1 + 1) W w' → w'.cell? ⟨g, 1, none⟩ = some (.int .u64 (wd f 1 : Nat)) := fun w' h => (HS.out _ h).2.1
  have r2 : ∀ w', Qs (g + 1 + 1) W w' → w'.cell? ⟨g, 2, none⟩ = some (.int .u64 (wd f 2 : Nat)) := fun w' h => (HS.out _ h).2.2.1
  have r3 : ∀ w', Qs (g + 1 + 1) W w' → w'.cell? ⟨g, 3, none⟩ = some (.int .u64 (wd f 3 : Nat)) := fun w' h => (HS.out _ h).2.2.2.1
  have r4 : ∀ w', Qs (g + 1 + 1) W w' → w'.cell? ⟨g, 4, none⟩ = some (.int .u64 (wd l 0 : Nat)) := fun w' h => (HS.out _ h).2.2.2.2.1
  have r5 : ∀ w', Qs (g + 1 + 1) W w' → w'.cell? ⟨g, 5, none⟩ = some (.int .u64 (wd l 1 : Nat)) := fun w' h => (HS.out _ h).2.2.2.2.2.1
  have r6 : ∀ w', Qs (g + 1 + 1) W w' → w'.cell? ⟨g, 6, none⟩ = some (.int .u64 (wd l 2 : Nat)) := fun w' h => (HS.out _ h).2.2.2.2.2.2.1
  have r7 : ∀ w', Qs (g + 1 + 1) W w' → w'.cell? ⟨g, 7, none⟩ = some (.int .u64 (wd l 3 : Nat)) := fun w' h => (HS.out _ h).2.2.2.2.2.2.2.1
  have r8 : ∀ w', Qs (g + 1 + 1) W w' → w'.cell? ⟨g, 8, none⟩ = some (.bool true) := fun w' h => (HS.out _ h).2.2.2.2.2.2.2.2.1
  have r9 : ∀ w', Qs (g + 1 + 1) W w' → w'.cell? ⟨g + 1, 0, none⟩ = some (.int .u64 (wd f2 0 : Nat)) := fun w' h => (HS.out _ h).2.2.2.2.2.2.2.2.2.1
  have r10 : ∀ w', Qs (g + 1 + 1) W w' → w'.cell? ⟨g + 1, 1, none⟩ = some (.int .u64 (wd f2 1 : Nat)) := fun w' h => (HS.out _ h).2.2.2.2.2.2.2.2.2.2.1
  have r11 : ∀ w', Qs (g + 1 + 1) W w' → w'.cell? ⟨g + 1, 2, none⟩ = some (.int .u64 (wd f2 2 : Nat)) := fun w' h => (HS.out _ h).2.2.2.2.2.2.2.2.2.2.2.1
  have r12 : ∀ w', Qs (g + 1 + 1) W w' → w'.cell? ⟨g + 1, 3, none⟩ = some (.int .u64 (wd f2 3 : Nat)) := fun w' h => (HS.out _ h).2.2.2.2.2.2.2.2.2.2.2.2.1
  have r13 : ∀ w', Qs (g + 1 + 1) W w' → w'.cell? ⟨g + 1, 4, none⟩ = some (.int .u64 (wd l2 0 : Nat)) := fun w' h => (HS.out _ h).2.2.2.2.2.2.2.2.2.2.2.2.2.1
  have r14 : ∀ w', Qs (g + 1 + 1) W w' → w'.cell? ⟨g + 1, 5, none⟩ = some (.int .u64 (wd l2 1 : Nat)) := fun w' h => (HS.out _ h).2.2.2.2.2.2.2.2.2.2.2.2.2.2.1
  have r15 : ∀ w', Qs (g + 1 + 1) W w' → w'.cell? ⟨g + 1, 6, none⟩ = some (.int .u64 (wd l2 2 : Nat)) := fun w' h => (HS.out _ h).2.2.2.2.2.2.2.2.2.2.2.2.2.2.2.1
  have r16 : ∀ w', Qs (g + 1 + 1) W w' → w'.cell? ⟨g + 1, 7, none⟩ = some (.int .u64 (wd l2 3 : Nat)) := fun w' h => (HS.out _ h).2.2.2.2.2.2.2.2.2.2.2.2.2.2.2.2.1
  have r17 : ∀ w', Qs (g + 1 + 1) W w' → w'.cell? ⟨g + 1, 8, none⟩ = some (.bool em2) := fun w' h => (HS.out _ h).2.2.2.2.2.2.2.2.2.2.2.2.2.2.2.2.2
  refine wp_region_noPanic ?_
  refine wp_region_held_drew (S := fun w' => Qs (g + 1 + 1) W w') (by kernel_rfl) ?_ (fun hHeld => ?_)
  · try dsimp only
    (first | (with_reducible exact HMV.out) | (with_reducible exact Qs.drew HMV.out) | (repeat (first | (with_reducible exact HMV.out) | (with_reducible refine Qs.setCell ?_ _ _) | (with_reducible refine Qs.drew ?_))))
  refine wpAnyH_take (i := 0) (oi := ⟨_, _, _, _, _, _⟩) (v := ?_) rfl (by kernel_rfl) (by kernel_rfl) (by kernel_rfl) (fun _ _ _ h => h) (Or.inl ⟨by rfl, ?_⟩) (by assumption) ?_
  rotate_left
  · intro w hSw; (try dsimp only at hSw); go_simp; try with_reducible rfl
  try simp only [Act.put, List.setIfInBounds_toArray, List.set_cons_zero, List.set_cons_succ]
  refine wpAnyH_take (i := 1) (oi := ⟨_, _, _, _, _, _⟩) (v := ?_) rfl (by kernel_rfl) (by kernel_rfl) (by kernel_rfl) (fun _ _ _ h => h) (Or.inl ⟨by rfl, ?_⟩) (by assumption) ?_
  rotate_left
  · intro w hSw; (try dsimp only at hSw); go_simp; try with_reducible rfl
  try simp only [Act.put, List.setIfInBounds_toArray, List.set_cons_zero, List.set_cons_succ]
  refine wpAnyH_take (i := 2) (oi := ⟨_, _, _, _, _, _⟩) (v := ?_) rfl (by kernel_rfl) (by kernel_rfl) (by kernel_rfl) (fun _ _ _ h => h) (Or.inl ⟨by rfl, ?_⟩) (by assumption) ?_
  rotate_left
  · intro w hSw; (try dsimp only at hSw); go_simp; try with_reducible rfl
  try simp only [Act.put, List.setIfInBounds_toArray, List.set_cons_zero, List.set_cons_succ]
  refine wpAnyH_take (i := 3) (oi := ⟨_, _, _, _, _, _⟩) (v := ?_) rfl (by kernel_rfl) (by kernel_rfl) (by kernel_rfl) (fun _ _ _ h => h) (Or.inl ⟨by rfl, ?_⟩) (by assumption) ?_
  rotate_left
  · intro w hSw; (try dsimp only at hSw); go_simp; try with_reducible rfl
  try simp only [Act.put, List.setIfInBounds_toArray, List.set_cons_zero, List.set_cons_succ]
  refine wpAnyH_take (i := 5) (oi := ⟨_, _, _, _, _, _⟩) (v := ?_) rfl (by kernel_rfl) (by kernel_rfl) (by kernel_rfl) (fun _ _ _ h => h) (Or.inl ⟨by rfl, ?_⟩) (by assumption) ?_
  rotate_left
  · intro w hSw; (try dsimp only at hSw); go_simp; try with_reducible rfl
  try simp only [Act.put, List.setIfInBounds_toArray, List.set_cons_zero, List.set_cons_succ]
  refine wpAnyH_take (i := 6) (oi := ⟨_, _, _, _, _, _⟩) (v := ?_) rfl (by kernel_rfl) (by kernel_rfl) (by kernel_rfl) (fun _ _ _ h => h) (Or.inl ⟨by rfl, ?_⟩) (by assumption) ?_
  rotate_left
  · intro w hSw; (try dsimp only at hSw); go_simp; try with_reducible rfl
  try simp only [Act.put, List.setIfInBounds_toArray, List.set_cons_zero, List.set_cons_succ]
  refine wpAnyH_take (i := 7) (oi := ⟨_, _, _, _, _, _⟩) (v := ?_) rfl (by kernel_rfl) (by kernel_rfl) (by kernel_rfl) (fun _ _ _ h => h) (Or.inl ⟨by rfl, ?_⟩) (by assumption) ?_
  rotate_left
  · intro w hSw; (try dsimp only at hSw); go_simp; try with_reducible rfl
  try simp only [Act.put, List.setIfInBounds_toArray, List.set_cons_zero, List.set_cons_succ]
  refine wpAnyH_take (i := 8) (oi := ⟨_, _, _, _, _, _⟩) (v := ?_) rfl (by kernel_rfl) (by kernel_rfl) (by kernel_rfl) (fun _ _ _ h => h) (Or.inl ⟨by rfl, ?_⟩) (by assumption) ?_
  rotate_left
  · intro w hSw; (try dsimp only at hSw); go_simp; try with_reducible rfl
  try simp only [Act.put, List.setIfInBounds_toArray, List.set_cons_zero, List.set_cons_succ]
  refine wpAnyH_take (i := 10) (oi := ⟨_, _, _, _, _, _⟩) (v := ?_) rfl (by kernel_rfl) (by kernel_rfl) (by kernel_rfl) (fun _ _ _ h => h) (Or.inl ⟨by rfl, ?_⟩) (by assumption) ?_
  rotate_left
  · intro w hSw; (try dsimp only at hSw); go_simp; try with_reducible rfl
  try simp only [Act.put, List.setIfInBounds_toArray, List.set_cons_zero, List.set_cons_succ]
  refine wpAnyH_take (i := 11) (oi := ⟨_, _, _, _, _, _⟩) (v := ?_) rfl (by kernel_rfl) (by kernel_rfl) (by kernel_rfl) (fun _ _ _ h => h) (Or.inl ⟨by rfl, ?_⟩) (by assumption) ?_
  rotate_left
  · intro w hSw; (try dsimp only at hSw); go_simp; try with_reducible rfl
  try simp only [Act.put, List.setIfInBounds_toArray, List.set_cons_zero, List.set_cons_succ]
  refine wpAnyH_ready (rs := [4]) (by kernel_rfl) (by simp) ?_
  refine AllReadyH.cons (o := ⟨_, _, _, _, _, _⟩) rfl (fun K hK => ?_) AllReadyH.nil
  go_simp
  (go_at_call 161; go_must ((with_reducible refine (with_lit _ _ _).mono ?_); rintro e wq ⟨rfl, hbq⟩; (try (have hq1 := undrew hbq; clear hbq; have hbq := hq1; clear hq1)); have hq1 := HWW.out.trans (hbq.mono HWW.out.size); have HWW := Lib.hid hq1; have hq2 := HZ.out _ hq1; have HMV := Lib.hid (show Qs (g + 1 + 1) W wq from Mv.of_below hq1 _); clear hq1 hbq; obtain ⟨z0, z1, z2, z3, z4, z5, z6, z7, z8, zf⟩ := hq2))
  try (go_wp2_with fail)
  refine hK.out _ _ ?_ (fun hHeld => ?_)
  · try dsimp only
    (first | (with_reducible exact HMV.out) | (with_reducible exact Qs.drew HMV.out) | (repeat (first | (with_reducible exact HMV.out) | (with_reducible refine Qs.setCell ?_ _ _) | (with_reducible refine Qs.drew ?_))))
  clear hK K
  try simp only [Act.put, List.setIfInBounds_toArray, List.set_cons_zero, List.set_cons_succ]
  refine wpAnyH_ready (rs := [9]) (by kernel_rfl) (by simp) ?_
  refine AllReadyH.cons (o := ⟨_, _, _, _, _, _⟩) rfl (fun K hK => ?_) AllReadyH.nil
  go_simp
  (go_at_call 161; go_must ((with_reducible refine (with_lit _ _ _).mono ?_); rintro e wq ⟨rfl, hbq⟩; (try (have hq1 := undrew hbq; clear hbq; have hbq := hq1; clear hq1)); have hq1 := HWW.out.trans (hbq.mono HWW.out.size); have HWW := Lib.hid hq1; have hq2 := HZ.out _ hq1; have HMV := Lib.hid (show Qs (g + 1 + 1) W wq from Mv.of_below hq1 _); clear hq1 hbq; obtain ⟨z0, z1, z2, z3, z4, z5, z6, z7, z8, zf⟩ := hq2))
  try (go_wp2_with fail)
  refine hK.out _ _ ?_ (fun hHeld => ?_)
  · try dsimp only
    (first | (with_reducible exact HMV.out) | (with_reducible exact Qs.drew HMV.out) | (repeat (first | (with_reducible exact HMV.out) | (with_reducible refine Qs.setCell ?_ _ _) | (with_reducible refine Qs.drew ?_))))
  clear hK K
  try simp only [Act.put, List.setIfInBounds_toArray, List.set_cons_zero, List.set_cons_succ]
  refine wpAnyH_take (i := 12) (oi := ⟨_, _, _, _, _, _⟩) (v := ?_) rfl (by kernel_rfl) (by kernel_rfl) (by kernel_rfl) (fun _ _ _ h => h) (Or.inl ⟨by rfl, ?_⟩) (by assumption) ?_
  rotate_left
  · intro w hSw; (try dsimp only at hSw); go_simp; try with_reducible rfl
  try simp only [Act.put, List.setIfInBounds_toArray, List.set_cons_zero, List.set_cons_succ]
  refine wpAnyH_take (i := 13) (oi := ⟨_, _, _, _, _, _⟩) rfl (by kernel_rfl) (by kernel_rfl) (by kernel_rfl) (fun _ _ _ h => h) (Or.inr ⟨by rfl, rfl⟩) (by assumption) ?_
  try simp only [Act.put, List.setIfInBounds_toArray, List.set_cons_zero, List.set_cons_succ]
  refine wpAnyH_take (i := 14) (oi := ⟨_, _, _, _, _, _⟩) rfl (by kernel_rfl) (by kernel_rfl) (by kernel_rfl) (fun _ _ _ h => h) (Or.inr ⟨by rfl, rfl⟩) (by assumption) ?_
  try simp only [Act.put, List.setIfInBounds_toArray, List.set_cons_zero, List.set_cons_succ]
  refine wpAnyH_take (i := 15) (oi := ⟨_, _, _, _, _, _⟩) (v := ?_) rfl (by kernel_rfl) (by kernel_rfl) (by kernel_rfl) (fun _ _ _ h => h) (Or.inl ⟨by rfl, ?_⟩) (by assumption) ?_
  rotate_left
  · intro w hSw; (try dsimp only at hSw); go_simp; try with_reducible rfl
  try simp only [Act.put, List.setIfInBounds_toArray, List.set_cons_zero, List.set_cons_succ]
  refine wpAnyH_take (i := 16) (oi := ⟨_, _, _, _, _, _⟩) (v := ?_) rfl (by kernel_rfl) (by kernel_rfl) (by kernel_rfl) (fun _ _ _ h => h) (Or.inl ⟨by rfl, ?_⟩) (by assumption) ?_
  rotate_left
  · intro w hSw; (try dsimp only at hSw); go_simp; try with_reducible rfl
  try simp only [Act.put, List.setIfInBounds_toArray, List.set_cons_zero, List.set_cons_succ]
  refine wpAnyH_ready (rs := [17]) (by kernel_rfl) (by simp) ?_
  refine AllReadyH.cons (o := ⟨_, _, _, _, _, _⟩) rfl (fun K hK => ?_) AllReadyH.nil
  go_simp
  refine hK.out _ _ ?_ (fun hHeld => ?_)
  · try dsimp only
    (first | (with_reducible exact HMV.out) | (with_reducible exact Qs.drew HMV.out) | (repeat (first | (with_reducible exact HMV.out) | (with_reducible refine Qs.setCell ?_ _ _) | (with_reducible refine Qs.drew ?_))))
  clear hK K
  try simp only [Act.put, List.setIfInBounds_toArray, List.set_cons_zero, List.set_cons_succ]
  refine wpAnyH_done (by kernel_rfl) ?_ _
  refine NoPanic.normal ?_
  go_wp2
  refine bodyPost_cell rfl (g + 1 + 1) 186 #[.int .u64 (wd (f ||| f2) 0 : Nat), .int .u64 (wd (f ||| f2) 1 : Nat), .int .u64 (wd (f ||| f2) 2 : Nat), .int .u64 (wd (f ||| f2) 3 : Nat), .int .u64 (wd (l ||| l2) 0 : Nat), .int .u64 (wd (l ||| l2) 1 : Nat), .int .u64 (wd (l ||| l2) 2 : Nat), .int .u64 (wd (l ||| l2) 3 : Nat), .bool true] rfl (by with_reducible exact stored9 (H4.out _ HWW.out)) (by kernel_rfl) (by kernel_rfl) rfl ⟨rfl, HB.out.trans (Mv.belowB (S := fun k => k = g + 1 + 1) ?_ (by have := HSZ.out; omega) (fun k hk e => by have := HG.out; omega))⟩
  show Qs (g + 1 + 1) W _
  repeat (first | (with_reducible exact HMV.out) | (with_reducible refine Qs.setCell ?_ _ _) | (with_reducible refine Qs.drew ?_))
end
end
section
set_option linter.unusedVariables false
set_option linter.unusedSimpArgs false
open Go.RowKit
section
set_option maxHeartbeats 3200000
set_option maxRecDepth 100000
theorem either_f (f l : Nat) (b : Prt) (w : World) : Calls Tryz.prog 174 #[partV ⟨f, l, false⟩, partV b] w fun e w' => e = .returned (partV (eitherP ⟨f, l, false⟩ b)) ∧ RowKit.Below w.heap.size w w' := by
  obtain ⟨f2, l2, em2⟩ := b
  obtain ⟨W, hW⟩ : ∃ W, W = ((w.alloc (.cells #[.int .u64 (wd f 0 : Nat), .int .u64 (wd f 1 : Nat), .int .u64 (wd f 2 : Nat), .int .u64 (wd f 3 : Nat), .int .u64 (wd l 0 : Nat), .int .u64 (wd l 1 : Nat), .int .u64 (wd l 2 : Nat), .int .u64 (wd l 3 : Nat), .bool false] 186)).alloc (.cells #[.int .u64 (wd f2 0 : Nat), .int .u64 (wd f2 1 : Nat), .int .u64 (wd f2 2 : Nat), .int .u64 (wd f2 3 : Nat), .int .u64 (wd l2 0 : Nat), .int .u64 (wd l2 1 : Nat), .int .u64 (wd l2 2 : Nat), .int .u64 (wd l2 3 : Nat), .bool em2] 186)).alloc (.cells #[.int .u64 0, .int .u64 0, .int .u64 0, .int .u64 0, .int .u64 0, .int .u64 0, .int .u64 0, .int .u64 0, .bool false] 186) := ⟨_, rfl⟩
  have hb : RowKit.Below w.heap.size w W := by rw [hW]; exact (((RowKit.Below.refl _ w).alloc (Nat.le_refl _) _).alloc (by simp) _).alloc (by simp; omega) _
  have h2 : W.heap[w.heap.size]? = some (.cells #[.int .u64 (wd f 0 : Nat), .int .u64 (wd f 1 : Nat), .int .u64 (wd f 2 : Nat), .int .u64 (wd f 3 : Nat), .int .u64 (wd l 0 : Nat), .int .u64 (wd l 1 : Nat), .int .u64 (wd l 2 : Nat), .int .u64 (wd l 3 : Nat), .bool false] 186 (0, 0)) := by
    rw [hW, Below.heap_alloc _ _ _ (by simp; omega), Below.heap_alloc _ _ _ (by simp)]; exact heap_alloc_new _ _
  have h3 : W.heap[w.heap.size + 1]? = some (.cells #[.int .u64 (wd f2 0 : Nat), .int .u64 (wd f2 1 : Nat), .int .u64 (wd f2 2 : Nat), .int .u64 (wd f2 3 : Nat), .int .u64 (wd l2 0 : Nat), .int .u64 (wd l2 1 : Nat), .int .u64 (wd l2 2 : Nat), .int .u64 (wd l2 3 : Nat), .bool em2] 186 (0, 0)) := by
    rw [hW, Below.heap_alloc _ _ _ (by simp)]; exact heap_alloc_new2 _ _ _
  have h4 : W.heap[w.heap.size + 1 + 1]? = some (.cells #[.int .u64 0, .int .u64 0, .int .u64 0, .int .u64 0, .int .u64 0, .int .u64 0, .int .u64 0, .int .u64 0, .bool false] 186 (0, 0)) := by
    have := heap_alloc_new ((w.alloc (.cells #[.int .u64 (wd f 0 : Nat), .int .u64 (wd f 1 : Nat), .int .u64 (wd f 2 : Nat), .int .u64 (wd f 3 : Nat), .int .u64 (wd l 0 : Nat), .int .u64 (wd l 1 : Nat), .int .u64 (wd l 2 : Nat), .int .u64 (wd l 3 : Nat), .bool false] 186)).alloc (.cells #[.int .u64 (wd f2 0 : Nat), .int .u64 (wd f2 1 : Nat), .int .u64 (wd f2 2 : Nat), .int .u64 (wd f2 3 : Nat), .int .u64 (wd l2 0 : Nat), .int .u64 (wd l2 1 : Nat), .int .u64 (wd l2 2 : Nat), .int .u64 (wd l2 3 : Nat), .bool em2] 186)) (.cells #[.int .u64 0, .int .u64 0, .int .u64 0, .int .u64 0, .int .u64 0, .int .u64 0, .int .u64 0, .int .u64 0, .bool false] 186)
    rw [hW]; simpa using this
  have hsz : W.heap.size = w.heap.size + 3 := by rw [hW]; simp
  have hs : ∀ W', Mv (fun k => k = w.heap.size + 1 + 1) W W' → W'.cell? ⟨w.heap.size, 0, none⟩ = some (.int .u64 (wd f 0 : Nat)) ∧ W'.cell? ⟨w.heap.size, 1, none⟩ = some (.int .u64 (wd f 1 : Nat)) ∧ W'.cell? ⟨w.heap.size, 2, none⟩ = some (.int .u64 (wd f 2 : Nat)) ∧ W'.cell? ⟨w.heap.size, 3, none⟩ = some (.int .u64 (wd f 3 : Nat)) ∧ W'.cell? ⟨w.heap.size, 4, none⟩ = some (.int .u64 (wd l 0 : Nat)) ∧ W'.cell? ⟨w.heap.size, 5, none⟩ = some (.int .u64 (wd l 1 : Nat)) ∧ W'.cell? ⟨w.heap.size, 6, none⟩ = some (.int .u64 (wd l 2 : Nat)) ∧ W'.cell? ⟨w.heap.size, 7, none⟩ = some (.int .u64 (wd l 3 : Nat)) ∧ W'.cell? ⟨w.heap.size, 8, none⟩ = some (.bool false) ∧ W'.cell? ⟨w.heap.size + 1, 0, none⟩ = some (.int .u64 (wd f2 0 : Nat)) ∧ W'.cell? ⟨w.heap.size + 1, 1, none⟩ = some (.int .u64 (wd f2 1 : Nat)) ∧ W'.cell? ⟨w.heap.size + 1, 2, none⟩ = some (.int .u64 (wd f2 2 : Nat)) ∧ W'.cell? ⟨w.heap.size + 1, 3, none⟩ = some (.int .u64 (wd f2 3 : Nat)) ∧ W'.cell? ⟨w.heap.size + 1, 4, none⟩ = some (.int .u64 (wd l2 0 : Nat)) ∧ W'.cell? ⟨w.heap.size + 1, 5, none⟩ = some (.int .u64 (wd l2 1 : Nat)) ∧ W'.cell? ⟨w.heap.size + 1, 6, none⟩ = some (.int .u64 (wd l2 2 : Nat)) ∧ W'.cell? ⟨w.heap.size + 1, 7, none⟩ = some (.int .u64 (wd l2 3 : Nat)) ∧ W'.cell? ⟨w.heap.size + 1, 8, none⟩ = some (.bool em2) := fun W' hb' => by
    have k2 := (hb'.block _ (by omega) (by omega)).trans h2
    have k3 := (hb'.block _ (by omega) (by omega)).trans h3
    refine ⟨?_, ?_, ?_, ?_, ?_, ?_, ?_, ?_, ?_, ?_, ?_, ?_, ?_, ?_, ?_, ?_, ?_, ?_⟩ <;> first | (rw [cell_blk k2]; rfl) | (rw [cell_blk k3]; rfl)
  have hz : ∀ W', RowKit.Below W.heap.size W W' → W'.cell? ⟨w.heap.size + 1 + 1, 0, none⟩ = some (.int .u64 0) ∧ W'.cell? ⟨w.heap.size + 1 + 1, 1, none⟩ = some (.int .u64 0) ∧ W'.cell? ⟨w.heap.size + 1 + 1, 2, none⟩ = some (.int .u64 0) ∧ W'.cell? ⟨w.heap.size + 1 + 1, 3, none⟩ = some (.int .u64 0) ∧ W'.cell? ⟨w.heap.size + 1 + 1, 4, none⟩ = some (.int .u64 0) ∧ W'.cell? ⟨w.heap.size + 1 + 1, 5, none⟩ = some (.int .u64 0) ∧ W'.cell? ⟨w.heap.size + 1 + 1, 6, none⟩ = some (.int .u64 0) ∧ W'.cell? ⟨w.heap.size + 1 + 1, 7, none⟩ = some (.int .u64 0) ∧ W'.cell? ⟨w.heap.size + 1 + 1, 8, none⟩ = some (.bool false) ∧ ∀ i, W'.frozen? ⟨w.heap.size + 1 + 1, i, none⟩ = false := fun W' hb' => by
    have k4 := (hb'.block _ (by omega)).trans h4
    refine ⟨?_, ?_, ?_, ?_, ?_, ?_, ?_, ?_, ?_, ?_⟩ <;> first | (rw [cell_blk k4]; rfl) | (intro i; exact free_blk k4 i)
  have h4b : ∀ W', RowKit.Below W.heap.size W W' → W'.heap[w.heap.size + 1 + 1]? = some (.cells #[.int .u64 0, .int .u64 0, .int .u64 0, .int .u64 0, .int .u64 0, .int .u64 0, .int .u64 0, .int .u64 0, .bool false] 186 (0, 0)) := fun W' hb' => (hb'.block _ (by omega)).trans h4
  have HB := Lib.hid hb; have HS := Lib.hid hs; have HZ := Lib.hid hz; have H4 := Lib.hid h4b; have HSZ := Lib.hid hsz; have HW := Lib.hid hW
  have HWW := Lib.hid (RowKit.Below.refl W.heap.size W)
  have HMV := Lib.hid (show Qs (w.heap.size + 1 + 1) W W from Mv.refl _ W)
  clear hb h2 h3 h4 hsz hW hs h4b hz
  unfold partV partC
  simp only [eitherP, Bool.false_or]
  go_enter Tryz.func174, Tryz.ntmps174
  go_wp2
  rw [← HW.out]
  generalize hg : w.heap.size = g at HS H4 HZ HMV ⊢
  have HG := Lib.hid hg; clear hg
  have r0 : ∀ w', Qs (g + 1 + 1) W w' → w'.cell? ⟨g, 0, none⟩ = some (.int .u64 (wd f 0 : Nat)) := fun w' h => (HS.out _ h).1
  have r1 : ∀ w', Qs (g + 1 + 1) W w' → w'.cell? ⟨g, 1, none⟩ = some (.int .u64 (wd f 1 : Nat)) := fun w' h => (HS.out _ h).2.1
  have r2 : ∀ w', Qs (g + 1 + 1) W w' → w'.cell? ⟨g, 2, none⟩ = some (.int .u64 (wd f 2 : Nat)) := fun w' h => (HS.out _ h).2.2.1
  have r3 : ∀ w', Qs (g + 1 + 1) W w' → w'.cell? ⟨g, 3, none⟩ = some (.int .u64 (wd f 3 : Nat)) := fun w' h => (HS.out _ h).2.2.2.1
  have r4 : ∀ w', Qs (g + 1 + 1) W w' → w'.cell? ⟨g, 4, none⟩ = some (.int .u64 (wd l 0 : Nat)) := fun w' h => (HS.out _ h).2.2.2.2.1
  have r5 : ∀ w', Qs (g + 1 + 1) W w' → w'.cell? ⟨g, 5, none⟩ = some (.int .u64 (wd l 1 : Nat)) := fun w' h => (HS.out _ h).2.2.2.2.2.1
  have r6 : ∀ w', Qs (g + 1 + 1) W w' → w'.cell? ⟨g, 6, none⟩ = some (.int .u64 (wd l 2 : Nat)) := fun w' h => (HS.out _ h).2.2.2.2.2.2.1
  have r7 : ∀ w', Qs (g + 1 + 1) W w' → w'.cell? ⟨g, 7, none⟩ = some (.int .u64 (wd l 3 : Nat)) := fun w' h => (HS.out _ h).2.2.2.2.2.2.2.1
  have r8 : ∀ w', Qs (g + 1 + 1) W w' → w'.cell? ⟨g, 8, none⟩ = some (.bool false) := fun w' h => (HS.out _ h).2.2.2.2.2.2.2.2.1
  have r9 : ∀ w', Qs (g + 1 + 1) W w' → w'.cell? ⟨g + 1, 0, none⟩ = some (.int .u64 (wd f2 0 : Nat)) := fun w' h => (HS.out _ h).2.2.2.2.2.2.2.2.2.1
  have r10 : ∀ w', Qs (g + 1 + 1) W w' → w'.cell? ⟨g + 1, 1, none⟩ = some (.int .u64 (wd f2 1 : Nat)) := fun w' h => (HS.out _ h).2.2.2.2.2.2.2.2.2.2.1
  have r11 : ∀ w', Qs (g + 1 + 1) W w' → w'.cell? ⟨g + 1, 2, none⟩ = some (.int .u64 (wd f2 2 : Nat)) := fun w' h => (HS.out _ h).2.2.2.2.2.2.2.2.2.2.2.1
  have r12 : ∀ w', Qs (g + 1 + 1) W w' → w'.cell? ⟨g + 1, 3, none⟩ = some (.int .u64 (wd f2 3 : Nat)) := fun w' h => (HS.out _ h).2.2.2.2.2.2.2.2.2.2.2.2.1
  have r13 : ∀ w', Qs (g + 1 + 1) W w' → w'.cell? ⟨g + 1, 4, none⟩ = some (.int .u64 (wd l2 0 : Nat)) := fun w' h => (HS.out _ h).2.2.2.2.2.2.2.2.2.2.2.2.2.1
  have r14 : ∀ w', Qs (g + 1 + 1) W w' → w'.cell? ⟨g + 1, 5, none⟩ = some (.int .u64 (wd l2 1 : Nat)) := fun w' h => (HS.out _ h).2.2.2.2.2.2.2.2.2.2.2.2.2.2.1
  have r15 : ∀ w', Qs (g + 1 + 1) W w' → w'.cell? ⟨g + 1, 6, none⟩ = some (.int .u64 (wd l2 2 : Nat)) := fun w' h => (HS.out _ h).2.2.2.2.2.2.2.2.2.2.2.2.2.2.2.1
  have r16 : ∀ w', Qs (g + 1 + 1) W w' → w'.cell? ⟨g + 1, 7, none⟩ = some (.int .u64 (wd l2 3 : Nat)) := fun w' h => (HS.out _ h).2.2.2.2.2.2.2.2.2.2.2.2.2.2.2.2.1
  have r17 : ∀ w', Qs (g + 1 + 1) W w' → w'.cell? ⟨g + 1, 8, none⟩ = some (.bool em2) := fun w' h => (HS.out _ h).2.2.2.2.2.2.2.2.2.2.2.2.2.2.2.2.2
  (go_region_held3 (fun w' => Qs (g + 1 + 1) W w') (first | (with_reducible exact HMV.out) | (with_reducible exact Qs.drew HMV.out) | (repeat (first | (with_reducible exact HMV.out) | (with_reducible refine Qs.setCell ?_ _ _) | (with_reducible refine Qs.drew ?_)))) (first
    | (go_at_call 161; go_must ((with_reducible refine (with_lit _ _ _).mono ?_); rintro e wq ⟨rfl, hbq⟩; (try (have hq1 := undrew hbq; clear hbq; have hbq := hq1; clear hq1)); have hq1 := HWW.out.trans (hbq.mono HWW.out.size); have HWW := Lib.hid hq1; have hq2 := HZ.out _ hq1; have HMV := Lib.hid (show Qs (g + 1 + 1) W wq from Mv.of_below hq1 _); clear hq1 hbq; obtain ⟨z0, z1, z2, z3, z4, z5, z6, z7, z8, zf⟩ := hq2))
    | fail))

  go_wp2
  refine bodyPost_cell rfl (g + 1 + 1) 186 #[.int .u64 (wd (f ||| f2) 0 : Nat), .int .u64 (wd (f ||| f2) 1 : Nat), .int .u64 (wd (f ||| f2) 2 : Nat), .int .u64 (wd (f ||| f2) 3 : Nat), .int .u64 (wd (l ||| l2) 0 : Nat), .int .u64 (wd (l ||| l2) 1 : Nat), .int .u64 (wd (l ||| l2) 2 : Nat), .int .u64 (wd (l ||| l2) 3 : Nat), .bool em2] rfl (by with_reducible exact stored9 (H4.out _ HWW.out)) (by kernel_rfl) (by kernel_rfl) rfl ⟨rfl, HB.out.trans (Mv.belowB (S := fun k => k = g + 1 + 1) ?_ (by have := HSZ.out; omega) (fun k hk e => by have := HG.out; omega))⟩
  show Qs (g + 1 + 1) W _
  repeat (first | (with_reducible exact HMV.out) | (with_reducible refine Qs.setCell ?_ _ _) | (with_reducible refine Qs.drew ?_))
end
end
section
open Go.RowKit
theorem either_any (a b : Prt) (w : World) : Calls Tryz.prog 174 #[partV a, partV b] w fun e w' => e = .returned (partV (eitherP a b)) ∧ RowKit.Below w.heap.size w w' := by
  obtain ⟨f, l, em⟩ := a
  cases em with
  | true => exact either_t f l b w
  | false => exact either_f f l b w
end
section
set_option linter.unusedVariables false
set_option linter.unusedSimpArgs false
section
open Go.RowKit
def spC (l : Spans) : List Value := l.flatMap fun s => [.int .i32 s.1, .int .i32 s.2]
def pcC (l : List Pc) : List Value := l.flatMap fun p => [.int .i64 (p.1 : Nat), .int .i32 p.2]
theorem pcC_cons (p : Pc) (l : List Pc) : pcC (p :: l) = .int .i64 (p.1 : Nat) :: .int .i32 p.2 :: pcC l := rfl
theorem pcC_app (a b : List Pc) : pcC (a ++ b) = pcC a ++ pcC b := by simp [pcC]
theorem spC_app (a b : Spans) : spC (a ++ b) = spC a ++ spC b := by simp [spC]
theorem spC_len (l : Spans) : (spC l).length = l.length * 2 := by
  induction l with
  | nil => rfl
  | cons p t ih => rw [show spC (p :: t) = .int .i32 p.1 :: .int .i32 p.2 :: spC t from rfl, List.length_cons, List.length_cons, ih, List.length_cons]; omega
/-- An atom's cells, its spans' slice given. -/
def atC (u : Value) (a : Atm) : List Value := [u, .bool a.neg, .int .u64 (wd a.next 0 : Nat), .int .u64 (wd a.next 1 : Nat), .int .u64 (wd a.next 2 : Nat), .int .u64 (wd a.next 3 : Nat)]
def atsC : List Value → List Atm → List Value
  | u :: us, a :: r => atC u a ++ atsC us r
  | _, _ => []
/-- Atoms in memory: a row of the parser's own, each atom's spans a row of its own. -/
structure AtIs (w : World) (B : Nat) (v : Value) (us : List Value) (L : List Atm) : Prop where
  len : us.length = L.length
  row : w.ownsRow B 217 6 v L.length (atsC us L)
  sp : ∀ (i : Nat) (u : Value) (a : Atm), us[i]? = some u → L[i]? = some a → w.ownsRow B 234 2 u a.sp.length (spC a.sp)
/-- What is left of a text, in the parser's box in block p. -/
structure PIs (w : World) (p : Nat) (l : List Pc) (v : Value) (us : List Value) (L : List Atm) : Prop where
  box : ∃ pb off c, w.heap[p]? = some (.cells #[.slice (some ⟨pb, off, none⟩) l.length c, v] 211 (0, 0)) ∧ pb < p ∧ l.length ≤ c ∧ c ≤ maxLen ∧ Rd w (some ⟨pb, off, none⟩) (pcC l)
  at' : AtIs w (p + 1) v us L
  ok : OkL l
  small : ∀ q ∈ l, q.1 ≤ 1000000 ∧ -2 ≤ q.2 ∧ q.2 ≤ 1114111
  few : L.length + l.length ≤ 257

theorem PIs.now {w : World} {p : Nat} {l : List Pc} {v : Value} {us : List Value} {L : List Atm} (h : PIs w p l v us L) :
    ∃ pb off c, w.heap[p]? = some (.cells #[.slice (some ⟨pb, off, none⟩) l.length c, v] 211 (0, 0)) ∧ 0 < l.length ∧ w.cell? ⟨pb, off, none⟩ = some (.int .i64 (atP l : Nat)) ∧ w.cell? ⟨pb, off + 1, none⟩ = some (.int .i32 (nowP l)) := by
  obtain ⟨pb, off, c, hb, _, _, _, hr⟩ := h.box
  obtain ⟨q, t, rfl⟩ : ∃ q t, l = q :: t := by
    cases l with
    | nil => exact absurd rfl h.ok.ne
    | cons q t => exact ⟨q, t, rfl⟩
  refine ⟨pb, off, c, hb, by simp, ?_, ?_⟩
  · obtain ⟨b, o, e, hc⟩ := hr 0 (.int .i64 (q.1 : Nat)) rfl
    injection e with e; injection e with e1 e2; subst e1; subst e2
    exact hc
  · obtain ⟨b, o, e, hc⟩ := hr 1 (.int .i32 q.2) rfl
    injection e with e; injection e with e1 e2; subst e1; subst e2
    exact hc
section
set_option maxHeartbeats 1600000
set_option maxRecDepth 100000
theorem now_any (p : Nat) (l : List Pc) (v : Value) (us : List Value) (L : List Atm) (w : World) (h : PIs w p l v us L) : Calls Tryz.prog 158 #[.pointer (some ⟨p, 0, none⟩)] w fun e w' => e = .returned (.int .i32 (nowP l)) ∧ w' = w := by
  obtain ⟨pb, off, c, hb, hl, c0, c1⟩ := h.now
  have b0 := cell_blk hb 0
  simp only [List.getElem?_toArray, List.getElem?_cons_zero] at b0
  generalize nowP l = x at c1 ⊢
  have hl' : (0 : Int) < (l.length : Int) := by omega
  clear h hb hl c0
  go_enter Tryz.func158, Tryz.ntmps158
  go_wp2
  go_ret
  exact ⟨rfl, rfl⟩
theorem refuse_any (p : Nat) (l : List Pc) (v : Value) (us : List Value) (L : List Atm) (k : Int) (w : World) (h : PIs w p l v us L) : Calls Tryz.prog 175 #[.pointer (some ⟨p, 0, none⟩), .int .i64 k] w fun e w' => e = .panicked [{ v := .iface 179 (.agg #[.int .i64 (atP l : Nat), .int .i64 k]), recovered := false }] ∧ w' = w := by
  obtain ⟨pb, off, c, hb, hl, c0, c1⟩ := h.now
  have b0 := cell_blk hb 0
  simp only [List.getElem?_toArray, List.getElem?_cons_zero] at b0
  generalize atP l = x at c0 ⊢
  have hl' : (0 : Int) < (l.length : Int) := by omega
  clear h hb hl c1
  go_enter Tryz.func175, Tryz.ntmps175
  go_wp2
  exact ⟨rfl, rfl, rfl⟩
theorem must_yes (p : Nat) (w : World) : Calls Tryz.prog 157 #[.pointer (some ⟨p, 0, none⟩), .bool true] w fun e w' => e = .returned (.tuple #[]) ∧ w' = w := by
  go_enter Tryz.func157, Tryz.ntmps157
  go_wp2
  go_end0
  exact ⟨rfl, rfl⟩
theorem must_no (p : Nat) (l : List Pc) (v : Value) (us : List Value) (L : List Atm) (w : World) (h : PIs w p l v us L) : Calls Tryz.prog 157 #[.pointer (some ⟨p, 0, none⟩), .bool false] w fun e w' => e = .panicked [{ v := .iface 179 (.agg #[.int .i64 (atP l : Nat), .int .i64 8]), recovered := false }] ∧ w' = w := by
  have hr := refuse_any p l v us L 8 w h
  generalize atP l = x at hr ⊢
  have HR := Lib.hid hr; clear hr h
  go_enter Tryz.func157, Tryz.ntmps157
  go_wp2_with fail
  refine HR.out.mono ?_
  rintro e w1 ⟨rfl, rfl⟩
  go_wp2
  first | exact ⟨rfl, rfl, rfl⟩ | (trace_state; sorry)
end
end
section
set_option linter.unusedVariables false
set_option linter.unusedSimpArgs false
open Go.RowKit
theorem own_mv {S : Nat → Prop} {w w' : World} {B : Nat} {e : TypeId} {size n : Nat} {u : Value} {xs : List Value} (h : w.ownsRow B e size u n xs) (m : Mv S w w') (hS : ∀ k, u.ownBlock = some k → ¬ S k) : w'.ownsRow B e size u n xs :=
  own_moved h fun g hg => m.block g (h.lt g hg).2 (hS g hg)
theorem AtIs.mv {S : Nat → Prop} {w w' : World} {B : Nat} {v : Value} {us : List Value} {L : List Atm} (h : AtIs w B v us L) (m : Mv S w w') (hS : ∀ k, B ≤ k → ¬ S k) : AtIs w' B v us L :=
  ⟨h.len, own_mv h.row m fun k hk => hS k (h.row.lt k hk).1, fun i u a hu ha => own_mv (h.sp i u a hu ha) m fun k hk => hS k ((h.sp i u a hu ha).lt k hk).1⟩
/-- What lies in the box of a parser whose text is not at its end. -/
theorem PIs.more {w : World} {p : Nat} {l : List Pc} {v : Value} {us : List Value} {L : List Atm} (h : PIs w p l v us L) (hn : nowP l ≠ -1) : 2 ≤ l.length := by
  have h1 := h.ok.tail hn
  have h2 := h.ok.ne
  cases l with
  | nil => exact absurd rfl h2
  | cons q t =>
    cases t with
    | nil => exact h1.elim
    | cons r s => simp
theorem PIs.other {S : Nat → Prop} {w w' : World} {p : Nat} {l : List Pc} {v : Value} {us : List Value} {L : List Atm} (h : PIs w p l v us L) (m : Mv S w w') (hS : ∀ k, k ≤ p → ¬ S k) (ha : ∀ k, p < k → ¬ S k) : PIs w' p l v us L := by
  obtain ⟨pb, off, c, hb, hp, hlc, hc, hr⟩ := h.box
  refine ⟨⟨pb, off, c, (m.block _ (blk_lt hb) (hS _ (Nat.le_refl _))).trans hb, hp, hlc, hc, hr.blk fun b hb' e => ?_⟩, h.at'.mv m fun k hk => ha k (by omega), h.ok, h.small, h.few⟩
  injection e with e
  simp only at e
  subst e
  exact m.block _ hb' (hS _ (by omega))
theorem PIs.below {w w' : World} {p : Nat} {l : List Pc} {v : Value} {us : List Value} {L : List Atm} (h : PIs w p l v us L) (m : Below w.heap.size w w') : PIs w' p l v us L :=
  h.other (S := fun _ => False) (Mv.of_below m _) (fun _ _ f => f) (fun _ _ f => f)
/-- The box with other things in it. -/
theorem PIs.rest {w w' : World} {p : Nat} {l l' : List Pc} {v : Value} {us : List Value} {L : List Atm} (h : PIs w p l v us L) (m : Mv (fun k => k = p) w w') {pb off c : Nat}
    (hb : w'.heap[p]? = some (.cells #[.slice (some ⟨pb, off, none⟩) l'.length c, v] 211 (0, 0))) (hp : pb < p) (hlc : l'.length ≤ c) (hc : c ≤ maxLen) (hr : Rd w (some ⟨pb, off, none⟩) (pcC l')) (ho : OkL l') (hs : ∀ q ∈ l', q ∈ l) (hf : l'.length ≤ l.length) : PIs w' p l' v us L :=
  ⟨⟨pb, off, c, hb, hp, hlc, hc, hr.blk fun b hb' e => by injection e with e; simp only at e; subst e; exact m.block _ hb' (by omega)⟩, h.at'.mv m fun k hk => by omega, ho, fun q hq => h.small q (hs q hq), by have := h.few; omega⟩
section
set_option maxHeartbeats 1600000
set_option maxRecDepth 100000
theorem pass_any (p : Nat) (l : List Pc) (v : Value) (us : List Value) (L : List Atm) (w : World) (h : PIs w p l v us L) (hn : nowP l ≠ -1) : Calls Tryz.prog 173 #[.pointer (some ⟨p, 0, none⟩)] w fun e w' => e = .returned (.tuple #[]) ∧ PIs w' p l.tail v us L ∧ Mv (fun k => k = p) w w' := by
  have h2 := h.more hn
  obtain ⟨pb, off, c, hb, hp, hlc, hc, hr⟩ := h.box
  have b0 := cell_blk hb 0
  have f0 := free_blk hb 0
  simp only [List.getElem?_toArray, List.getElem?_cons_zero] at b0
  have hH := fun w' m pb off c hb hp hlc hc hr => h.rest (w' := w') (l' := l.tail) m (pb := pb) (off := off) (c := c) hb hp hlc hc hr (h.ok.tail hn) (fun q hq => List.mem_of_mem_tail hq) (by simp)
  have hr2 : Rd w (some ⟨pb, off + 2, none⟩) (pcC l.tail) := by
    obtain ⟨q, t, rfl⟩ : ∃ q t, l = q :: t := by
      cases l with
      | nil => simp at h2
      | cons q t => exact ⟨q, t, rfl⟩
    have := hr.drop 2
    simpa [pcC_cons, Addr.add] using this
  have hst := set_blk hb 0 (.slice (some ⟨pb, off + 2, none⟩) (l.length - 1) (c - 1))
  have HF := Lib.hid (hH _ ((Mv.refl (fun k => k = p) w).setCell (fun _ => rfl) (.slice (some ⟨pb, off + 2, none⟩) (l.length - 1) (c - 1)) (p := ⟨p, 0, none⟩)) pb (off + 2) (c - 1) (by rw [hst]; simp) hp (by simp; omega) (by omega) hr2)
  have HM := Lib.hid ((Mv.refl (fun k => k = p) w).setCell (fun _ => rfl) (.slice (some ⟨pb, off + 2, none⟩) (l.length - 1) (c - 1)) (p := ⟨p, 0, none⟩))
  have g1 : (1 : Int) ≤ (l.length : Int) := by omega
  have g2 : ¬ c = 1 := by omega
  have g3 : 1 ≤ l.length := by omega
  have g4 : 1 ≤ c := by omega
  clear h hb hr hr2 hst hH hn
  generalize l.length = n at *
  go_enter Tryz.func173, Tryz.ntmps173
  go_wp2
  go_end0
  exact ⟨rfl, HF.out, HM.out⟩
end
end
end
section
set_option linter.unusedVariables false
set_option linter.unusedSimpArgs false
open Go.RowKit
def AsciiS (s : ByteArray) : Prop := ∀ (i : Nat) (h : i < s.size), (s[i]'h).toNat < 128
theorem index_none : ∀ {l : Bs} {b : UInt8}, (∀ x ∈ l, x ≠ b) → Lib.indexByte l b < 0
  | [], b, _ => by simp [Lib.indexByte]
  | x :: t, b, h => by
    have h1 : (x == b) = false := by simpa using h x List.mem_cons_self
    have h2 := index_none (l := t) (b := b) fun y hy => h y (List.mem_cons_of_mem _ hy)
    have h3 := Lib.indexByte_ge t b
    have h4 : Lib.indexByte t b = -1 := by omega
    unfold Lib.indexByte
    rw [h1, h4]; decide
def byG (s : ByteArray) (d : Nat) : Nat := ((bl s).getD d 0).toNat
theorem run_index_g (w : World) (s : ByteArray) (k : IntKind) (d : Nat) (hd : d < s.size) :
    (Instr.index 9 (.string s) (.int k (d : Nat))).run Tryz.prog w = .ok (.int .u8 (byG s d : Nat)) w := by
  have hs : (s[d]'hd).toNat = byG s d := by
    unfold byG
    have : d < (bl s).length := by rw [bl_len]; exact hd
    rw [List.getD_eq_getElem?_getD, List.getElem?_eq_getElem this]
    rfl
  simp [Instr.index, asIntOf, run_underlying Tryz.underlying9, hd, hs]
theorem slice_from (u : World) (s : ByteArray) (k : Nat) (h : k ≤ s.size) : (Instr.sliceAt 9 (.string s) (some (.int .i64 ((k : Nat) : Int))) none none).run Tryz.prog u = .ok (.string (s.extract k s.size)) u := by
  have b1 := run_bound (P := Tryz.prog) u k s.size .sliceB h
  simp [Instr.sliceAt, Instr.slice, Instr.sliceBounds, run_underlying Tryz.underlying9, b1, h]
theorem extract_tailG (s : ByteArray) (n : Nat) : s.extract n s.size = mkB ((bl s).drop n) := by
  rw [Lib.extract_eq]
  unfold mkB bl
  rw [List.take_of_length_le]
  rw [List.length_drop]
  exact Nat.sub_le_sub_right (Nat.le_of_eq (bl_len s)) n
theorem bl_tailG (s : ByteArray) (n : Nat) : bl (s.extract n s.size) = (bl s).drop n := by rw [extract_tailG, bl_mk]
theorem enc_last (r : Int) (h0 : 128 ≤ r) : ∃ n, (Utf8.encode r).size = n + 1 ∧ 1 ≤ n ∧ n ≤ 3 ∧ 128 ≤ byG (Utf8.encode r) n := by
  have hb : ∀ x : Nat, x < 256 → (UInt8.ofNat x).toNat = x := fun x hx => by rw [UInt8.toNat_ofNat']; omega
  unfold Utf8.encode
  simp only
  have hc : 128 ≤ (if Utf8.valid r = true then r.toNat else Utf8.runeError) := by
    split
    · omega
    · exact (by decide : 128 ≤ 65533)
  generalize (if Utf8.valid r = true then r.toNat else Utf8.runeError) = c at hc
  rw [if_neg (by omega)]
  split
  · exact ⟨1, rfl, by omega, by omega, by show 128 ≤ (UInt8.ofNat (128 + c % 64)).toNat; rw [hb _ (by omega)]; omega⟩
  · split
    · exact ⟨2, rfl, by omega, by omega, by show 128 ≤ (UInt8.ofNat (128 + c % 64)).toNat; rw [hb _ (by omega)]; omega⟩
    · exact ⟨3, rfl, by omega, by omega, by show 128 ≤ (UInt8.ofNat (128 + c % 64)).toNat; rw [hb _ (by omega)]; omega⟩
theorem byG_ascii {s : ByteArray} (h : AsciiS s) {n : Nat} (hn : n < s.size) : byG s n < 128 := by
  have := h n hn
  unfold byG
  have h2 : n < (bl s).length := by rw [bl_len]; exact hn
  rw [List.getD_eq_getElem?_getD, List.getElem?_eq_getElem h2]
  exact this
theorem ascii_mem {s : ByteArray} (h : AsciiS s) {x : UInt8} (hx : x ∈ bl s) : x.toNat < 128 := by
  obtain ⟨i, hi, e⟩ := List.mem_iff_getElem.mp hx
  have := h i (by rw [← bl_len]; exact hi)
  rw [← e]; exact this
section
set_option maxHeartbeats 1600000
set_option maxRecDepth 100000
theorem irune_high (s : ByteArray) (r : Int) (w : World) (hs : AsciiS s) (h4 : 4 ≤ s.size) (hl : s.size ≤ 1000) (h0 : 128 ≤ r) (h1 : r ≤ 1114111) :
    Calls Tryz.prog 194 #[.string s, .int .i32 r] w fun e w' => e = .returned (.int .i64 (-1)) ∧ RowKit.Below w.heap.size w w' := by
  have g0 : (0 : Int) ≤ r := by omega
  have g1 : ¬ r < 128 := by omega
  by_cases hE : r = 65533
  · subst hE
    go_enter Tryz.func194, Tryz.ntmps194
    go_wp2
    go_loopw [] (fun wr => ∃ pos : Nat, wr = w.iter s pos ∧ pos ≤ s.size) (fun wr => s.size - wr.iterPos w.heap.size)
    case atStart => exact ⟨0, rfl, by omega⟩
    case round =>
      obtain ⟨pos, rfl, hp⟩ := hrel
      have hbw : ∀ q, RowKit.Below w.heap.size w (w.iter s q) := fun q => (RowKit.Below.refl _ w).alloc (Nat.le_refl _) _
      have HBW := Lib.hid hbw; clear hbw
      by_cases hlt : pos < s.size
      · have hnx : ∀ ty, (Instr.next (.pointer (some ⟨w.heap.size, 0, none⟩)) true ty).run Tryz.prog (w.iter s pos) = _ := fun ty => run_next_ascii w s pos ty hlt (hs pos hlt)
        have hc := hs pos hlt
        generalize (s[pos]'hlt).toNat = c at hnx hc
        have hcc : ((c : Int) == 65533) = false := by rw [beq_eq_false_iff_ne]; omega
        go_wp2
        go_roundw
        case rel => exact ⟨pos + 1, rfl, by omega⟩
        case measure => simp; omega
      · have hnx : ∀ ty, (Instr.next (.pointer (some ⟨w.heap.size, 0, none⟩)) true ty).run Tryz.prog (w.iter s pos) = _ := fun ty => run_next_end w s pos ty hlt
        go_wp2
        go_ret
        exact ⟨rfl, HBW.out _⟩
  · have g2 : (r == 65533) = false := by rw [beq_eq_false_iff_ne]; exact hE
    have hv := fun W => Tryz.utf8_ValidRune r W
    cases hvr : Lib.validRune r with
    | false =>
      rw [hvr] at hv
      have HV := Lib.hid hv; clear hv hvr
      go_enter Tryz.func194, Tryz.ntmps194
      go_wp2_with fail
      refine (HV.out _).mono ?_
      rintro e w1 ⟨rfl, rfl⟩
      go_wp2
      go_ret
      exact ⟨rfl, RowKit.Below.refl _ _⟩
    | true =>
      rw [hvr] at hv
      have HV := Lib.hid hv; clear hv hvr
      go_enter Tryz.func194, Tryz.ntmps194
      go_wp2_with fail
      refine (HV.out _).mono ?_
      rintro e w1 ⟨rfl, rfl⟩
      obtain ⟨E, hEE⟩ : ∃ E, Utf8.encode r = E := ⟨_, rfl⟩
      obtain ⟨n, hn⟩ : ∃ n, E.size = n + 1 ∧ 1 ≤ n ∧ n ≤ 3 ∧ 128 ≤ byG E n := by rw [← hEE]; exact enc_last r h0
      obtain ⟨hn, hn1, hn3, hb⟩ := hn
      have hix : ∀ u, (Instr.index 9 (.string E) (.int .i64 (n : Nat))).run Tryz.prog u = .ok (.int .u8 (byG E n : Nat)) u := fun u => run_index_g u E .i64 n (by omega)
      have hix2 : ∀ u, (Instr.index 9 (.string s) (.int .i64 (n : Nat))).run Tryz.prog u = .ok (.int .u8 (byG s n : Nat)) u := fun u => run_index_g u s .i64 n (by omega)
      have ha : byG s n < 128 := byG_ascii hs (by omega)
      have hb2 : byG E n < 256 := UInt8.toNat_lt _
      generalize byG E n = b at hix hb hb2
      generalize byG s n = a at hix2 ha
      have hab : ((a : Int) != (b : Int)) = true := by rw [bne_iff_ne]; omega
      have hsz : (E.size : Int) - 1 = n := by omega
      have g4 : ((n : Int)) < (s.size : Int) := by omega
      obtain ⟨o, ho⟩ : ∃ o : Int, o = Lib.indexByte (s.extract (n + 1) s.size).data.toList (b : Int).toNat.toUInt8 := ⟨_, rfl⟩
      have ho0 : o < 0 := by
        rw [ho]
        refine index_none fun x hx e => ?_
        have h1 : x ∈ bl s := by
          have : (s.extract (n + 1) s.size).data.toList = (bl s).drop (n + 1) := by
            exact bl_tailG s (n + 1)
          rw [this] at hx
          exact List.mem_of_mem_drop hx
        have h2 := ascii_mem hs h1
        rw [e] at h2
        have h3 : ((b : Int).toNat.toUInt8).toNat = b := by
          show (UInt8.ofNat (b : Int).toNat).toNat = b
          rw [UInt8.toNat_ofNat']; omega
        omega
      have hcall := fun W => Tryz.strings_IndexByte (s.extract (n + 1) s.size) (b : Int) W
      rw [← ho] at hcall
      have HC := Lib.hid hcall; clear hcall ho
      have g5 : (n : Int) + 1 ≤ (s.size : Int) := by omega
      have g6 : n + 1 ≤ s.size := by omega
      have hwr : IntKind.i64.wrap ((n : Int) + 1) = (n : Int) + 1 := by simp [IntKind.wrap, IntKind.bits, IntKind.signed]; omega
      have hsl : ∀ u, (Instr.sliceAt 9 (.string s) (some (.int .i64 ((n : Int) + 1))) none none).run Tryz.prog u = .ok (.string (s.extract (n + 1) s.size)) u := fun u => slice_from u s (n + 1) g6
      clear hs hb hn3
      go_wp2
      go_step3
      go_wp2
      go_loopw [9] (fun s9 wr => s9 = .int .i64 (n : Nat) ∧ wr = w1) (fun _ _ => 0)
      case atStart => exact ⟨rfl, rfl⟩
      case round =>
        obtain ⟨rfl, rfl⟩ := hrel
        go_wp2_with fail
        go_step3
        go_wp2_with fail
        go_quiet (fail)
        go_wp2_with fail
        go_quiet (first | (go_at_call 197; with_reducible exact (HC.out _).mono fun _ _ h => ⟨h.1, _, h.2⟩) | fail)
        go_wp2
        rw [Exit.noGoto_ret]
        go_wp2
        rw [Exit.noGoto_ret]
        go_ret
        exact ⟨rfl, below_drewN (RowKit.Below.refl _ _) _⟩
theorem contains_high (s : ByteArray) (r : Int) (w : World) (hs : AsciiS s) (h4 : 4 ≤ s.size) (hl : s.size ≤ 1000) (h0 : 128 ≤ r) (h1 : r ≤ 1114111) :
    Calls Tryz.prog 189 #[.string s, .int .i32 r] w fun e w' => e = .returned (.bool false) ∧ RowKit.Below w.heap.size w w' := by
  have hi := irune_high s r w hs h4 hl h0 h1
  have HI := Lib.hid hi; clear hi
  go_enter Tryz.func189, Tryz.ntmps189
  go_wp2_with fail
  refine HI.out.mono ?_
  rintro e w1 ⟨rfl, hb⟩
  go_wp2
  go_ret
  exact ⟨rfl, hb⟩
theorem signs_low : ∀ n : Nat, n < 128 → decide (0 ≤ Lib.indexByte [46, 42, 43, 63, 40, 41, 91, 93, 123, 125, 124, 94, 36, 92] ((n : Nat) : Int).toNat.toUInt8) = (specialP ((n : Nat) : Int)) := by decide
/-- What stands for itself only behind a backslash. -/
theorem signs_any (r : Int) (w : World) (h0 : 0 ≤ r) (h1 : r ≤ 1114111) : Calls Tryz.prog 189 #[.string ⟨#[46, 42, 43, 63, 40, 41, 91, 93, 123, 125, 124, 94, 36, 92]⟩, .int .i32 r] w fun e w' => e = .returned (.bool (specialP r)) ∧ RowKit.Below w.heap.size w w' := by
  by_cases h : r < 128
  · refine (Tryz.strings_ContainsRune_ascii _ r w h0 h).mono ?_
    rintro e w' ⟨rfl, rfl⟩
    refine ⟨?_, RowKit.Below.refl _ _⟩
    obtain ⟨n, rfl⟩ := Int.eq_ofNat_of_zero_le h0
    have := signs_low n (by omega)
    rw [← this]
  · refine (contains_high _ r w ?_ (by decide) (by decide) (by omega) h1).mono ?_
    · intro i hi
      have hx : ((⟨#[46, 42, 43, 63, 40, 41, 91, 93, 123, 125, 124, 94, 36, 92]⟩ : ByteArray)[i]'hi) ∈ ([46, 42, 43, 63, 40, 41, 91, 93, 123, 125, 124, 94, 36, 92] : List UInt8) := List.getElem_mem (l := [46, 42, 43, 63, 40, 41, 91, 93, 123, 125, 124, 94, 36, 92]) hi
      revert hx
      generalize ((⟨#[46, 42, 43, 63, 40, 41, 91, 93, 123, 125, 124, 94, 36, 92]⟩ : ByteArray)[i]'hi) = x
      intro hx
      simp only [List.mem_cons, List.not_mem_nil, or_false] at hx
      rcases hx with rfl | rfl | rfl | rfl | rfl | rfl | rfl | rfl | rfl | rfl | rfl | rfl | rfl | rfl <;> decide
    · rintro e w' ⟨rfl, hb⟩
      refine ⟨?_, hb⟩
      have : (specialP r) = false := by
        unfold specialP
        simp only [Bool.or_eq_false_iff, beq_eq_false_iff_ne]
        omega
      rw [this]
theorem marks_low : ∀ n : Nat, n < 128 → decide (0 ≤ Lib.indexByte [46, 42, 43, 63, 40, 41, 91, 93, 123, 125, 124, 94, 36, 92, 45, 47] ((n : Nat) : Int).toNat.toUInt8) = (specialP ((n : Nat) : Int) || ((n : Nat) : Int) == 45 || ((n : Nat) : Int) == 47) := by decide
/-- What may stand behind a backslash. -/
theorem marks_any (r : Int) (w : World) (h0 : 0 ≤ r) (h1 : r ≤ 1114111) : Calls Tryz.prog 189 #[.string ⟨#[46, 42, 43, 63, 40, 41, 91, 93, 123, 125, 124, 94, 36, 92, 45, 47]⟩, .int .i32 r] w fun e w' => e = .returned (.bool (specialP r || r == 45 || r == 47)) ∧ RowKit.Below w.heap.size w w' := by
  by_cases h : r < 128
  · refine (Tryz.strings_ContainsRune_ascii _ r w h0 h).mono ?_
    rintro e w' ⟨rfl, rfl⟩
    refine ⟨?_, RowKit.Below.refl _ _⟩
    obtain ⟨n, rfl⟩ := Int.eq_ofNat_of_zero_le h0
    have := marks_low n (by omega)
    rw [← this]
  · refine (contains_high _ r w ?_ (by decide) (by decide) (by omega) h1).mono ?_
    · intro i hi
      have hx : ((⟨#[46, 42, 43, 63, 40, 41, 91, 93, 123, 125, 124, 94, 36, 92, 45, 47]⟩ : ByteArray)[i]'hi) ∈ ([46, 42, 43, 63, 40, 41, 91, 93, 123, 125, 124, 94, 36, 92, 45, 47] : List UInt8) := List.getElem_mem (l := [46, 42, 43, 63, 40, 41, 91, 93, 123, 125, 124, 94, 36, 92, 45, 47]) hi
      revert hx
      generalize ((⟨#[46, 42, 43, 63, 40, 41, 91, 93, 123, 125, 124, 94, 36, 92, 45, 47]⟩ : ByteArray)[i]'hi) = x
      intro hx
      simp only [List.mem_cons, List.not_mem_nil, or_false] at hx
      rcases hx with rfl | rfl | rfl | rfl | rfl | rfl | rfl | rfl | rfl | rfl | rfl | rfl | rfl | rfl | rfl | rfl <;> decide
    · rintro e w' ⟨rfl, hb⟩
      refine ⟨?_, hb⟩
      have : (specialP r || r == 45 || r == 47) = false := by
        unfold specialP
        simp only [Bool.or_eq_false_iff, beq_eq_false_iff_ne]
        omega
      rw [this]
theorem outs_low : ∀ n : Nat, n < 128 → decide (0 ≤ Lib.indexByte [91, 93, 94, 45] ((n : Nat) : Int).toNat.toUInt8) = (outsideP ((n : Nat) : Int)) := by decide
/-- What stands for itself in a class only behind a backslash. -/
theorem outs_any (r : Int) (w : World) (h0 : 0 ≤ r) (h1 : r ≤ 1114111) : Calls Tryz.prog 189 #[.string ⟨#[91, 93, 94, 45]⟩, .int .i32 r] w fun e w' => e = .returned (.bool (outsideP r)) ∧ RowKit.Below w.heap.size w w' := by
  by_cases h : r < 128
  · refine (Tryz.strings_ContainsRune_ascii _ r w h0 h).mono ?_
    rintro e w' ⟨rfl, rfl⟩
    refine ⟨?_, RowKit.Below.refl _ _⟩
    obtain ⟨n, rfl⟩ := Int.eq_ofNat_of_zero_le h0
    have := outs_low n (by omega)
    rw [← this]
  · refine (contains_high _ r w ?_ (by decide) (by decide) (by omega) h1).mono ?_
    · intro i hi
      have hx : ((⟨#[91, 93, 94, 45]⟩ : ByteArray)[i]'hi) ∈ ([91, 93, 94, 45] : List UInt8) := List.getElem_mem (l := [91, 93, 94, 45]) hi
      revert hx
      generalize ((⟨#[91, 93, 94, 45]⟩ : ByteArray)[i]'hi) = x
      intro hx
      simp only [List.mem_cons, List.not_mem_nil, or_false] at hx
      rcases hx with rfl | rfl | rfl | rfl <;> decide
    · rintro e w' ⟨rfl, hb⟩
      refine ⟨?_, hb⟩
      have : (outsideP r) = false := by
        unfold outsideP
        simp only [Bool.or_eq_false_iff, beq_eq_false_iff_ne]
        omega
      rw [this]
end
end
section
set_option linter.unusedVariables false
set_option linter.unusedSimpArgs false
open Go.RowKit
def flE (f : Flt) : Ending := .panicked [{ v := .iface 179 (.agg #[.int .i64 (f.1 : Nat), .int .i64 (f.2 : Nat)]), recovered := false }]
def OutC (p : Nat) (v : Value) (us : List Value) (L : List Atm) (w : World) (r : Rs Int) (e : Ending) (w' : World) : Prop :=
  match r with
  | .ok (c, l') => e = .returned (.int .i32 c) ∧ PIs w' p l' v us L ∧ Mv (fun k => k = p) w w'
  | .error f => e = flE f ∧ Mv (fun k => k = p) w w'
theorem PIs.lt {w : World} {p : Nat} {l : List Pc} {v : Value} {us : List Value} {L : List Atm} (h : PIs w p l v us L) : p < w.heap.size := by
  obtain ⟨pb, off, c, hb, _⟩ := h.box; exact blk_lt hb
theorem PIs.now_le {w : World} {p : Nat} {l : List Pc} {v : Value} {us : List Value} {L : List Atm} (h : PIs w p l v us L) : nowP l ≤ 1114111 := by
  cases l with
  | nil => exact absurd rfl h.ok.ne
  | cons q t => exact (h.small q List.mem_cons_self).2.2
section
set_option maxHeartbeats 1600000
set_option maxRecDepth 100000
theorem escaped_any (p : Nat) (l : List Pc) (v : Value) (us : List Value) (L : List Atm) (least : Int) (w : World) (h : PIs w p l v us L) (hn : nowP l ≠ -1) (h0 : 0 ≤ least) (hl : least ≤ 1114111) :
    Calls Tryz.prog 192 #[.pointer (some ⟨p, 0, none⟩), .int .i32 least] w (OutC p v us L w (rescP least l)) := by
  obtain ⟨R, hR⟩ : ∃ R, R = rescP least l := ⟨_, rfl⟩
  rw [← hR]
  unfold rescP at hR
  by_cases h1 : least ≤ 125
  · rw [if_pos h1] at hR
    have HR := Lib.hid hR; clear hR
    have hy := must_yes p w
    have hp := pass_any p l v us L w h hn
    have HY := Lib.hid hy; have HP := Lib.hid hp; clear hy hp
    go_enter Tryz.func192, Tryz.ntmps192
    go_wp2_with fail
    refine HY.out.mono ?_
    rintro e w1 ⟨rfl, rfl⟩
    go_wp2_with fail
    refine HP.out.mono ?_
    rintro e w1 ⟨rfl, h1', hm1⟩
    have HM1 := Lib.hid hm1; clear hm1
    have hnow := now_any p _ v us L w1 h1'
    have hle := h1'.now_le
    have H1 := Lib.hid h1'; clear h1'
    have HNOW := Lib.hid hnow; clear hnow
    go_wp2_with fail
    refine HNOW.out.mono ?_
    rintro e w2 ⟨rfl, rfl⟩
    have hno := must_no p _ v us L w2 H1.out
    have hye := must_yes p w2
    by_cases h2 : least ≤ nowP l.tail
    · have hc := marks_any (nowP l.tail) w2 (by omega) hle
      cases hk : (specialP (nowP l.tail) || nowP l.tail == 45 || nowP l.tail == 47) with
      | true =>
        have hR := HR.out
        rw [if_pos (by rw [decide_eq_true h2, hk]; rfl)] at hR
        have HRR := Lib.hid hR; clear hR HR
        rw [hk] at hc
        have hn1 : nowP l.tail ≠ -1 := by omega
        have HPP := Lib.hid (fun W (m : Below w2.heap.size w2 W) => pass_any p _ v us L W (H1.out.below m) hn1)
        have HYY := Lib.hid (fun W => must_yes p W)
        have HC := Lib.hid hc; clear hc hno hye hk hn1
        generalize nowP l.tail = c at *
        go_wp2_with fail
        refine HC.out.mono ?_
        rintro e w3 ⟨rfl, hb3⟩
        have HB3 := Lib.hid hb3; clear hb3
        go_wp2_with fail
        refine (HYY.out _).mono ?_
        rintro e w4 ⟨rfl, rfl⟩
        go_wp2_with fail
        refine (HPP.out _ HB3.out).mono ?_
        rintro e w5 ⟨rfl, h5, hm5⟩
        go_wp2
        go_ret
        rw [HRR.out]
        exact ⟨rfl, h5, HM1.out.trans ((Mv.of_below HB3.out (fun k => k = p)).trans hm5 fun _ _ h => h) fun _ _ h => h⟩
      | false =>
        have hR := HR.out
        rw [if_neg (by rw [decide_eq_true h2, hk]; simp)] at hR
        have HRR := Lib.hid hR; clear hR HR
        rw [hk] at hc
        have HNN := Lib.hid (fun W (m : Below w2.heap.size w2 W) => must_no p _ v us L W (H1.out.below m))
        have HC := Lib.hid hc; clear hc hno hye hk
        generalize nowP l.tail = c at *
        generalize atP l.tail = a at HNN HRR
        go_wp2_with fail
        refine HC.out.mono ?_
        rintro e w3 ⟨rfl, hb3⟩
        have HB3 := Lib.hid hb3; clear hb3
        go_wp2_with fail
        refine (HNN.out _ HB3.out).mono ?_
        rintro e w4 ⟨rfl, rfl⟩
        go_wp2
        rw [HRR.out]
        exact ⟨rfl, rfl, HM1.out.trans (Mv.of_below HB3.out (fun k => k = p)) fun _ _ h => h⟩
    · have hR := HR.out
      rw [if_neg (by rw [decide_eq_false h2]; simp)] at hR
      have HRR := Lib.hid hR; clear hR HR
      have HNN := Lib.hid hno; clear hno hye
      generalize nowP l.tail = c at *
      generalize atP l.tail = a at HNN HRR
      have h2' : c < least := by omega
      go_wp2_with fail
      refine HNN.out.mono ?_
      rintro e w4 ⟨rfl, rfl⟩
      go_wp2
      rw [HRR.out]
      exact ⟨rfl, rfl, HM1.out⟩
  · rw [if_neg h1] at hR
    have HRR := Lib.hid hR; clear hR
    have hno := must_no p _ v us L w h
    have HNO := Lib.hid hno; clear hno h
    generalize atP l = a at HNO HRR
    go_enter Tryz.func192, Tryz.ntmps192
    go_wp2_with fail
    refine HNO.out.mono ?_
    rintro e w1 ⟨rfl, rfl⟩
    go_wp2
    rw [HRR.out]
    exact ⟨rfl, rfl, Mv.refl _ _⟩
end
end
section
set_option linter.unusedVariables false
set_option linter.unusedSimpArgs false
open Go.RowKit
theorem own_fresh {w : World} {e : TypeId} {size n : Nat} {xs : List Value} (hl : xs.length = n * size) (hn : n ≤ maxLen) : (w.alloc (.cells xs.toArray e)).ownsRow w.heap.size e size (.slice (some ⟨w.heap.size, 0, none⟩) n n) n xs :=
  ⟨hl, .inr ⟨w.heap.size, n, xs.toArray, rfl, Nat.le_refl _, heap_alloc_new _ _, Nat.le_refl _, hn, by simp [hl], by rw [List.toList_toArray, ← hl, List.take_length]⟩⟩
section
set_option maxHeartbeats 1600000
set_option maxRecDepth 100000
theorem single_any (p : Nat) (l : List Pc) (v : Value) (us : List Value) (L : List Atm) (least : Int) (w : World) (h : PIs w p l v us L) (h0 : 0 ≤ least) (hl : least ≤ 1114111) :
    Calls Tryz.prog 195 #[.pointer (some ⟨p, 0, none⟩), .int .i32 least] w (OutC p v us L w (singleP least l)) := by
  obtain ⟨R, hR⟩ : ∃ R, R = singleP least l := ⟨_, rfl⟩
  rw [← hR]
  unfold singleP at hR
  have hnow := now_any p l v us L w h
  have hle := h.now_le
  have H := Lib.hid h
  by_cases h92 : nowP l = 92
  · rw [if_pos h92] at hR
    have he := escaped_any p l v us L least w h (by omega) h0 hl
    rw [← hR] at he
    rw [h92] at hnow
    have HN := Lib.hid hnow; have HE := Lib.hid he; clear hnow he h hR
    go_enter Tryz.func195, Tryz.ntmps195
    go_wp2_with fail
    refine HN.out.mono ?_
    rintro e w1 ⟨rfl, rfl⟩
    go_wp2_with fail
    refine HE.out.mono ?_
    intro e w2 ho
    cases R with
    | ok r =>
      obtain ⟨c, l'⟩ := r
      obtain ⟨rfl, h2, hm2⟩ := ho
      go_wp2
      go_ret
      exact ⟨rfl, h2, hm2⟩
    | error f =>
      obtain ⟨rfl, hm2⟩ := ho
      unfold flE
      go_wp2
      exact ⟨rfl, rfl, hm2⟩
  · rw [if_neg h92] at hR
    have g92 : (nowP l == 92) = false := by rw [beq_eq_false_iff_ne]; exact h92
    have hno := must_no p l v us L w h
    by_cases h2 : least ≤ nowP l
    · have hc := outs_any (nowP l) w (by omega) hle
      cases hk : outsideP (nowP l) with
      | false =>
        rw [if_pos (by rw [decide_eq_true h2, hk]; rfl)] at hR
        have hn1 : nowP l ≠ -1 := by omega
        rw [hk] at hc
        have HPP := Lib.hid (fun W (m : Below w.heap.size w W) => pass_any p l v us L W (H.out.below m) hn1)
        have HYY := Lib.hid (fun W => must_yes p W)
        have HC := Lib.hid hc; have HN := Lib.hid hnow; have HR := Lib.hid hR; clear hc hno hnow hR hk hn1 h
        generalize nowP l = c at *
        go_enter Tryz.func195, Tryz.ntmps195
        go_wp2_with fail
        refine HN.out.mono ?_
        rintro e w1 ⟨rfl, rfl⟩
        go_wp2_with fail
        refine HC.out.mono ?_
        rintro e w3 ⟨rfl, hb3⟩
        have HB3 := Lib.hid hb3; clear hb3
        go_wp2_with fail
        refine (HYY.out _).mono ?_
        rintro e w4 ⟨rfl, rfl⟩
        go_wp2_with fail
        refine (HPP.out _ HB3.out).mono ?_
        rintro e w5 ⟨rfl, h5, hm5⟩
        go_wp2
        go_ret
        rw [HR.out]
        exact ⟨rfl, h5, (Mv.of_below HB3.out (fun k => k = p)).trans hm5 fun _ _ h => h⟩
      | true =>
        rw [if_neg (by rw [decide_eq_true h2, hk]; simp)] at hR
        rw [hk] at hc
        have HNN := Lib.hid (fun W (m : Below w.heap.size w W) => must_no p l v us L W (H.out.below m))
        have HC := Lib.hid hc; have HN := Lib.hid hnow; have HR := Lib.hid hR; clear hc hno hnow hR hk h
        generalize nowP l = c at *
        generalize atP l = a at HNN HR
        go_enter Tryz.func195, Tryz.ntmps195
        go_wp2_with fail
        refine HN.out.mono ?_
        rintro e w1 ⟨rfl, rfl⟩
        go_wp2_with fail
        refine HC.out.mono ?_
        rintro e w3 ⟨rfl, hb3⟩
        have HB3 := Lib.hid hb3; clear hb3
        go_wp2_with fail
        refine (HNN.out _ HB3.out).mono ?_
        rintro e w4 ⟨rfl, rfl⟩
        go_wp2
        rw [HR.out]
        exact ⟨rfl, rfl, Mv.of_below HB3.out (fun k => k = p)⟩
    · rw [if_neg (by rw [decide_eq_false h2]; simp)] at hR
      have HNN := Lib.hid hno; have HN := Lib.hid hnow; have HR := Lib.hid hR; clear hno hnow hR h
      generalize nowP l = c at *
      generalize atP l = a at HNN HR
      have h2' : c < least := by omega
      go_enter Tryz.func195, Tryz.ntmps195
      go_wp2_with fail
      refine HN.out.mono ?_
      rintro e w1 ⟨rfl, rfl⟩
      go_wp2_with fail
      refine HNN.out.mono ?_
      rintro e w4 ⟨rfl, rfl⟩
      go_wp2
      rw [HR.out]
      exact ⟨rfl, rfl, Mv.refl _ _⟩
theorem several_none (c : Int) (w : World) (h : manyP c = none) : Calls Tryz.prog 196 #[.int .i32 c] w fun e w' => e = .returned (.slice none 0 0) ∧ w' = w := by
  unfold manyP at h
  have h1 : ¬ c = 100 := by intro e; rw [if_pos e] at h; cases h
  rw [if_neg h1] at h
  have h2 : ¬ c = 119 := by intro e; rw [if_pos e] at h; cases h
  rw [if_neg h2] at h
  have h3 : ¬ c = 115 := by intro e; rw [if_pos e] at h; cases h
  have g1 : (c == 100) = false := by rw [beq_eq_false_iff_ne]; exact h1
  have g2 : (c == 119) = false := by rw [beq_eq_false_iff_ne]; exact h2
  have g3 : (c == 115) = false := by rw [beq_eq_false_iff_ne]; exact h3
  clear h h1 h2 h3
  go_enter Tryz.func196, Tryz.ntmps196
  go_wp2
  go_ret
  exact ⟨rfl, rfl⟩
theorem several_some (c : Int) (g : Spans) (w : World) (h : manyP c = some g) : Calls Tryz.prog 196 #[.int .i32 c] w fun e w' => e = .returned (.slice (some ⟨w.heap.size, 0, none⟩) g.length g.length) ∧ w'.ownsRow w.heap.size 234 2 (.slice (some ⟨w.heap.size, 0, none⟩) g.length g.length) g.length (spC g) ∧ RowKit.Below w.heap.size w w' := by
  have key : ∀ (xs : List Value), xs = spC g → (w.alloc (.cells xs.toArray 234)).ownsRow w.heap.size 234 2 (.slice (some ⟨w.heap.size, 0, none⟩) g.length g.length) g.length (spC g) ∧ RowKit.Below w.heap.size w (w.alloc (.cells xs.toArray 234)) := fun xs e => by
    subst e
    refine ⟨own_fresh (spC_len g) ?_, (RowKit.Below.refl _ w).alloc (Nat.le_refl _) _⟩
    unfold manyP at h
    split at h
    · injection h with h; subst h; decide
    · split at h
      · injection h with h; subst h; decide
      · split at h
        · injection h with h; subst h; decide
        · cases h
  unfold manyP at h
  split at h
  · rename_i hc; subst hc; injection h with h; subst h
    have K := Lib.hid (key _ rfl); clear key
    go_enter Tryz.func196, Tryz.ntmps196
    go_wp2
    go_ret
    exact ⟨rfl, K.out⟩
  · split at h
    · rename_i hc; subst hc; injection h with h; subst h
      have K := Lib.hid (key _ rfl); clear key
      go_enter Tryz.func196, Tryz.ntmps196
      go_wp2
      go_ret
      exact ⟨rfl, K.out⟩
    · split at h
      · rename_i hc; subst hc; injection h with h; subst h
        have K := Lib.hid (key _ rfl); clear key
        go_enter Tryz.func196, Tryz.ntmps196
        go_wp2
        go_ret
        exact ⟨rfl, K.out⟩
      · cases h
end
end
end
end Go.Proofs.YtjgappbomohlcaaGreatDoor
