/-
  The plain answers' rows of bits: a number put behind them, the bytes of them.
-/
import Derived.Test.YtgogpngobdafaaaDoorRb
import Derived.Test.YtgogpngobdafaaaDoorBo
namespace Go.Proofs.YtgogpngobdafaaaDoor
set_option linter.unusedVariables false
set_option linter.unusedSimpArgs false
open Go.RowKit

theorem bits_step {n wd k : Nat} (hk0 : 0 < k) (hk : k ≤ wd) : bitsOf (n / 2 ^ (k - 1)) (wd - (k - 1)) = bitsOf (n / 2 ^ k) (wd - k) ++ [n.testBit (k - 1)] := by
  rw [show wd - (k - 1) = (wd - k) + 1 from by omega, bitsOf_add, Nat.div_div_eq_div_mul, ← Nat.pow_add, show k - 1 + 1 = k from by omega]
  congr 1
  simp only [bitsOf, Nat.testBit_div_two_pow, Nat.zero_add]
/-- The first N bytes of a row of bits. -/
def bytesN (N : Nat) (l : List Bool) : List UInt8 := (List.range N).map fun j => UInt8.ofNat (packB ((l.drop (8 * j)).take 8))
theorem bytesN_len (N : Nat) (l : List Bool) : (bytesN N l).length = N := by simp [bytesN]
theorem bytesN_nil (N : Nat) : bytesN N [] = List.replicate N 0 := by
  unfold bytesN
  apply List.ext_getElem?
  intro i
  by_cases h : i < N
  · simp [h]; rfl
  · simp [h]
theorem bytesN_get (N : Nat) (l : List Bool) (j : Nat) (h : j < N) : (bytesN N l)[j]? = some (UInt8.ofNat (packB ((l.drop (8 * j)).take 8))) := by simp [bytesN, h]
theorem bytesN_last (N : Nat) (t : List Bool) (h : t.length / 8 < N) : (bytesN N t)[t.length / 8]? = some (UInt8.ofNat (packB (t.drop (8 * (t.length / 8))))) := by
  rw [bytesN_get N t _ h, List.take_of_length_le (by simp; omega)]
theorem bytesN_step (N : Nat) (t : List Bool) (b : Bool) (h : t.length / 8 < N) :
    bytesN N (t ++ [b]) = (bytesN N t).set (t.length / 8) (UInt8.ofNat (packB (t.drop (8 * (t.length / 8))) ||| (b.toNat * 128 / 2 ^ (t.length % 8)))) := by
  apply List.ext_getElem?
  intro j
  rw [List.getElem?_set]
  by_cases hj : j < N
  · rw [bytesN_get N _ j hj]
    by_cases h1 : t.length / 8 = j
    · rw [if_pos h1, if_pos (by rw [bytesN_len]; omega), List.drop_append_of_le_length (by omega), ← h1, List.take_of_length_le (by simp; omega)]
      have hp := packB_append (t.drop (8 * (t.length / 8))) [b] (by simp; omega)
      rw [hp]
      have e1 : natOf [b] = b.toNat := by simp [natOf]
      have e2 : (t.drop (8 * (t.length / 8))).length = t.length % 8 := by simp; omega
      rw [e1, e2]
      rfl
    · rw [if_neg h1, bytesN_get N _ j hj]
      by_cases h2 : j < t.length / 8
      · rw [List.drop_append_of_le_length (by omega), List.take_append_of_le_length (by simp; omega)]
      · rw [List.drop_eq_nil_of_le (by simp; omega), List.drop_eq_nil_of_le (by omega)]
  · rw [List.getElem?_eq_none (by rw [bytesN_len]; omega), if_neg (by omega), List.getElem?_eq_none (by rw [bytesN_len]; omega)]
theorem bytesN_zero (N : Nat) (t : List Bool) (h : t.length / 8 < N) : bytesN N (t ++ [false]) = bytesN N t := by
  rw [bytesN_step N t false h]
  apply List.ext_getElem?
  intro j
  rw [List.getElem?_set]
  split
  · rename_i e
    subst e
    rw [if_pos (by rw [bytesN_len]; omega), bytesN_last N t h]
    simp
  · rfl
section
set_option maxHeartbeats 1600000
set_option maxRecDepth 100000
theorem rput_any (B : Nat) (W : World) (u : Value) (l : List Bool) (n wd : Nat) (hu : W.ownsRow B 4 1 u l.length (l.map Value.bool)) (hB : B ≤ W.heap.size) (hn : n < 18446744073709551616) (hwd : wd ≤ 64) (hl : l.length ≤ 8388608) :
    Calls Tryd.prog 78 #[u, .int .u64 n, .int .i64 wd] W fun e w' => ∃ u', e = .returned u' ∧ w'.ownsRow B 4 1 u' (l ++ bitsOf n wd).length ((l ++ bitsOf n wd).map Value.bool) ∧
      Mv (fun i => u.ownBlock = some i) W w' ∧ (∀ i, i < W.heap.size → u'.ownBlock = some i → u.ownBlock = some i) := by
  obtain ⟨i0, hi, hz0, hz1, hz2⟩ := info_parts infoBool
  go_enter Tryd.func78, Tryd.ntmps78
  go_wp2
  go_loopw [0, 7] (fun u' i wr => ∃ k : Nat, k ≤ wd ∧ i = .int .i64 ((k : Int) - 1) ∧ wr.ownsRow B 4 1 u' (l ++ bitsOf (n / 2 ^ k) (wd - k)).length ((l ++ bitsOf (n / 2 ^ k) (wd - k)).map Value.bool) ∧
      Mv (fun i => u.ownBlock = some i) W wr ∧ (∀ i, i < W.heap.size → u'.ownBlock = some i → u.ownBlock = some i)) (fun _ i _ => (intOf i + 1).toNat)
  case atStart => exact ⟨wd, Nat.le_refl _, rfl, by rw [Nat.sub_self, bitsOf, List.append_nil]; exact hu, Mv.refl _ _, fun _ _ h => h⟩
  case round =>
    obtain ⟨k, hk, rfl, hown, hm, htr⟩ := hrel
    by_cases hk0 : 0 < k
    · have hge : (0 : Int) ≤ (k : Int) - 1 := by omega
      have htn : ((k : Int) - 1).toNat = k - 1 := by omega
      have hb := bit1 (k - 1) hn
      have hbc := bit1c n (k - 1)
      have hst : l ++ bitsOf (n / 2 ^ (k - 1)) (wd - (k - 1)) = (l ++ bitsOf (n / 2 ^ k) (wd - k)) ++ [n.testBit (k - 1)] := by rw [bits_step (n := n) hk0 hk, List.append_assoc]
      have hlen : (l ++ bitsOf (n / 2 ^ k) (wd - k)).length = l.length + (wd - k) := by rw [List.length_append, bitsOf_length]
      have HST := Lib.hid hst; clear hst
      have HL := Lib.hid hlen; clear hlen
      have HS := Lib.hid (Nat.le_trans hB hm.size)
      generalize l ++ bitsOf (n / 2 ^ k) (wd - k) = cur at *
      generalize n.testBit (k - 1) = bt at *
      go_wp2_with (first | (at_builtin; go_must (refine wpList_append_lies _ rfl _ _ 48 rfl B 4 i0 (.bool false) 1 1 Tryd.underlying48 hi hz0 hz1 hz2 rfl (by decide) _ cur.length (cur.map Value.bool) rfl (hown.alloc _) ⟨wr.heap.size, 0, none⟩ 1 1 [.bool bt] rfl rfl (World.news_of_block (heap_alloc_new _ _)) (by simp [Value.oneCell']) (by omega) (by have := HL.out; unfold maxLen; omega) (by have := HL.out; omega) (by have := HS.out; simp; omega) (wr.heap.size + 1) (by simp) ?_; intro g cap w1 hown1 hgrow1 hg1 hlt1)) | fail)
      go_wp2
      go_roundw
      case rel =>
        refine ⟨k - 1, by omega, congrArg (Value.int .i64) (by omega), by rw [HST.out, List.length_append, List.map_append]; exact hown1, (hm.alloc _).grown hgrow1 (fun i hi h => htr i hi h), fun i hi h => ?_⟩
        have hgi : g = i := by simpa [Value.ownBlock] using h
        subst hgi
        rcases hg1 with hg1 | hg1
        · exact htr g hi hg1
        · have := hm.size; omega
      case measure => simp [intOf]; omega
    · obtain rfl : k = 0 := by omega
      go_wp2
      go_ret
      exact ⟨_, rfl, by simpa using hown, hm, htr⟩
theorem rbytes_any (W : World) (A : Option Addr) (c : Nat) (l : List Bool) (hl : l.length ≤ 8388608) (hx : Rd W A (l.map Value.bool)) :
    Calls Tryd.prog 77 #[.slice A l.length c] W fun e w' => ∃ v, e = .returned v ∧ w'.ownsRow W.heap.size 5 1 v (bytesOf l).length ((bytesOf l).map Bv) ∧ Below W.heap.size W w' := by
  obtain ⟨i0, hi, hz0, hz1, hz2⟩ := info_parts infoU8
  obtain ⟨N, hN⟩ : ∃ N, N = (l.length + 7) / 8 := ⟨_, rfl⟩
  have hbo : bytesOf l = bytesN N l := by rw [hN]; rfl
  have hdiv : ((l.length : Int) + 7) / 8 = (N : Int) := by omega
  have HN := Lib.hid hN; clear hN
  have HB := Lib.hid hbo; clear hbo
  have hN0 : (0 : Int) ≤ (N : Int) := by omega
  go_enter Tryd.func77, Tryd.ntmps77
  go_wp2_with (first | (at_make; go_must (refine wpList_make_full _ rfl _ _ 30 rfl W.heap.size 5 i0 (.int .u8 0) 1 Tryd.underlying30 hi hz0 hz1 _ _ _ _ N rfl rfl hdiv hdiv (by rw [hz2]; have := HN.out; omega) (by have := HN.out; unfold maxLen; omega) (Nat.le_refl _) ?_; intro w1 hown hgrow)) | fail)
  have hb1 : Below W.heap.size W w1 := (Below.refl _ _).grown hgrow (Nat.le_refl _) (fun k e => by cases e)
  have hown1 : w1.ownsRow W.heap.size 5 1 (.slice (some ⟨W.heap.size, 0, none⟩) N N) N ((bytesN N (l.take 0)).map Bv) := by
    rw [List.take_zero, bytesN_nil]
    have e : (madeCells (Value.int .u8 0).cells (N * 1)).toList = (List.replicate N (0 : UInt8)).map Bv := by
      rw [Nat.mul_one, List.map_replicate]
      exact toList_madeCells_one (.int .u8 0) N
    rw [← e]
    exact hown
  clear hown hgrow
  go_wp2_with fail
  go_loopw [13] (fun i wr => ∃ k : Nat, k ≤ l.length ∧ i = .int .i64 k ∧ wr.ownsRow W.heap.size 5 1 (.slice (some ⟨W.heap.size, 0, none⟩) N N) N ((bytesN N (l.take k)).map Bv) ∧ Below W.heap.size W wr) (fun i _ => l.length - (intOf i).toNat)
  case atStart => exact ⟨0, by omega, rfl, hown1, hb1⟩
  case round =>
    obtain ⟨k, hk, rfl, hown, hb⟩ := hrel
    by_cases hlt : k < l.length
    · obtain ⟨b, off, rfl, hc⟩ := (hx.below hb).boolAt hlt
      have htk : (l.take k).length = k := by rw [List.length_take]; omega
      have htk1 : l.take (k + 1) = l.take k ++ [l[k]] := List.take_succ_eq_append_getElem hlt
      have hkN : k / 8 < N := by have := HN.out; omega
      have hst := bytesN_step N (l.take k) l[k] (by rw [htk]; exact hkN)
      have hze := bytesN_zero N (l.take k) (by rw [htk]; exact hkN)
      have hla := bytesN_last N (l.take k) (by rw [htk]; exact hkN)
      rw [htk] at hst hla
      rw [← htk1] at hst
      obtain ⟨y, hy⟩ : ∃ y, y = packB ((l.take k).drop (8 * (k / 8))) := ⟨_, rfl⟩
      have hy8 : y < 256 := by rw [hy]; exact packB_lt _ (by rw [List.length_drop, htk]; omega)
      rw [← hy] at hst hla
      have hcy := hown.cells (g := W.heap.size) rfl (k / 8) (Bv (UInt8.ofNat y)) (by rw [List.getElem?_map, hla]; rfl)
      have hfr : wr.frozen? ⟨W.heap.size, k / 8, none⟩ = false := hown.frozenAt (k / 8)
      rw [show (⟨W.heap.size, 0, none⟩ : Addr).add (k / 8) = ⟨W.heap.size, k / 8, none⟩ from by unfold Addr.add; split <;> simp_all, ← byte_of (x := (y : Int)) rfl hy8] at hcy
      have hsto := hown.stored (k / 8)
      have hkd : (k : Int) / 8 < (N : Int) := by omega
      have hkg : (0 : Int) ≤ (k : Int) / 8 := by omega
      have HTK := Lib.hid htk; clear htk
      have HST := Lib.hid hst; clear hst
      have HZE := Lib.hid hze; clear hze
      have HT1 := Lib.hid htk1; clear htk1
      have HY := Lib.hid hy; clear hy
      clear hla
      cases hbk : l[k] with
      | false =>
        rw [hbk] at hc
        have HBK := Lib.hid hbk; clear hbk
        clear hsto
        go_wp2
        go_roundw
        case rel => exact ⟨k + 1, by omega, by go_num, by rw [HT1.out, HBK.out, HZE.out]; exact hown, hb⟩
        case measure => simp [intOf]; omega
      | true =>
        rw [hbk] at hc
        have HBK := Lib.hid hbk; clear hbk
        have HSO := Lib.hid hsto; clear hsto
        go_wp2
        go_roundw
        case rel =>
          have hq : 128 / 2 ^ (k % 8) ≤ 128 := Nat.div_le_self _ _
          have hor : y ||| 128 / 2 ^ (k % 8) < 256 := Nat.or_lt_two_pow (n := 8) (by omega) (by omega)
          have e : (128 : Int) / 2 ^ (k % 8) = ((128 / 2 ^ (k % 8) : Nat) : Int) := by rw [Int.natCast_ediv, Int.natCast_pow]; rfl
          refine ⟨k + 1, by omega, by go_num, ?_, hb.setCell (Nat.le_refl _) _⟩
          rw [e, u8_or_nat _ _ hy8 (by omega), byte_of rfl hor, HST.out, List.map_set, HBK.out, show true.toNat * 128 / 2 ^ (k % 8) = 128 / 2 ^ (k % 8) from rfl]
          exact (HSO.out _).1
        case measure => simp [intOf]; omega
    · have hke : k = l.length := by omega
      rw [hke, List.take_length] at hown
      have hlen : N = (bytesOf l).length := by rw [HB.out, bytesN_len]
      have HL := Lib.hid hlen; clear hlen
      have HK := Lib.hid hke; clear hke
      go_wp2
      go_ret
      exact ⟨_, rfl, by rw [← HL.out, HB.out]; exact hown, hb⟩
end
end Go.Proofs.YtgogpngobdafaaaDoor
