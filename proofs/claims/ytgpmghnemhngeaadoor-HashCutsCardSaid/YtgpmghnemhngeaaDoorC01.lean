/-
  Words turned left and right, plainly.
  Words of 64 bits turned left.
  Words of 32 bits turned right.
  Bytes from an address on, as numbers.
  The words of a block.
  Arrays of bytes, held against one another.
  A strings.Builder of the call's own, grown once and written byte by byte.
  Rows of bits as lists: the bits of a number, the number of bits, the bytes of a row; what a part that fits into the last byte does to the bytes. Plain lemmas on lists and numbers.
  Rows of bits of bytes: plain lemmas.
  Rows of bits as letters, plainly.
  Two rows of bytes, held against one another by the plain answers' own function: it tells whether they are the same list.
  The plain answers' Join: all parts, one behind the other, in memory of its own. The plain answers' Join of parts that have just been listed; a text as a row of bytes of its own.
  Bytes as digits, as the plain answers write them.
  xxHash64's small parts, the package's and the plain answers'.
  Numbers of bytes, the lowest one first.
  What is left behind the stripes, as the package reckons it.
  Texts of the program's own, as rows of bytes.
  From a contract 'it returns true, and nothing that was there has moved' to a row; the arguments opened.
  A list of rows of bytes that came in.
  Rows of bytes held against one another to the end.
-/
import Derived.BigRegion
import Derived.ChangeKeysEq
import Derived.Laws.StructEq
import Derived.Lib.ConvBytes
import Derived.WalkSpells
import Derived.Lib.SmallJoins
import Derived.Lib.SlBytesConst
import Derived.Laws.BytesArg
import Derived.ProofKit
import Derived.OpenShut
import Derived.Deep.Grids
import Derived.Deep.SlicePairs
import Derived.Deep.Matrix
import Derived.Laws.BitsAllLaws
import Derived.Test.YtgpmghnemhngeaaDoorCGen
import Derived.Test.YtgpmghnemhngeaaDoorC00
import Derived.Test.YtgpmghnemhngeaaDoorShelf
import Derived.Test.YtgpmghnemhngeaaDoorRows
namespace Go.Proofs.YtgpmghnemhngeaaDoor
section
set_option linter.unusedVariables false
set_option linter.unusedSimpArgs false
open Go.RowKit

theorem ret_u32 {a b : Int} (h : a = b) : Ending.returned (.int .u32 a) = .returned (.int .u32 b) := by rw [h]
theorem ret_u64 {a b : Int} (h : a = b) : Ending.returned (.int .u64 a) = .returned (.int .u64 b) := by rw [h]
theorem wrap_u64_eq (n : Int) : IntKind.u64.wrap n = n % 18446744073709551616 := by simp [IntKind.wrap, IntKind.bits, IntKind.signed]
theorem natCast_two_pow (m : Nat) : ((2 : Int) ^ m) = ((2 ^ m : Nat) : Int) := by simp
theorem rotr_or {x n m : Nat} (hx : x < 4294967296) (hm : n + m = 32) : bits .or .u32 ((x : Int) * 2 ^ m % 4294967296) ((x : Int) / 2 ^ (32 - m)) = ((rotr x n : Nat) : Int) := by
  have e1 : (x : Int) * 2 ^ m % 4294967296 = ((x * 2 ^ m % 4294967296 : Nat) : Int) := by rw [natCast_two_pow]; rfl
  have e2 : (x : Int) / 2 ^ (32 - m) = ((x / 2 ^ (32 - m) : Nat) : Int) := by rw [natCast_two_pow]; rfl
  rw [e1, e2, u32_or_nat _ _ (Nat.mod_lt _ (by decide)) (Nat.lt_of_le_of_lt (Nat.div_le_self _ _) hx)]
  unfold rotr
  rw [show 32 - m = n from by omega, show 32 - n = m from by omega, Nat.or_comm]
theorem rotl_or {x n : Nat} (hx : x < 18446744073709551616) : bits .or .u64 ((x : Int) * 2 ^ n % 18446744073709551616) ((x : Int) / 2 ^ (64 - n)) = ((rotl x n : Nat) : Int) := by
  have e1 : (x : Int) * 2 ^ n % 18446744073709551616 = ((x * 2 ^ n % 18446744073709551616 : Nat) : Int) := by rw [natCast_two_pow]; rfl
  have e2 : (x : Int) / 2 ^ (64 - n) = ((x / 2 ^ (64 - n) : Nat) : Int) := by rw [natCast_two_pow]; rfl
  rw [e1, e2, u64_or_nat _ _ (Nat.mod_lt _ (by decide)) (Nat.lt_of_le_of_lt (Nat.div_le_self _ _) hx)]
  rfl
end
section
set_option linter.unusedVariables false
set_option linter.unusedSimpArgs false
open Go.RowKit
section
set_option maxHeartbeats 400000
theorem rot64_any (x n : Nat) (w : World) (hx : x < 18446744073709551616) (h0 : 0 < n) (h1 : n < 64) :
    Calls Tryd.prog 48 #[.int .u64 x, .int .i64 (n : Int)] w fun e w' => e = .returned (.int .u64 (rotl x n : Nat)) ∧ w = w' := by
  have hb : bits .and .u64 (n : Int) 63 = (n : Int) := by
    rw [show (63 : Int) = ((63 : Nat) : Int) from rfl, u64_and_nat _ _ (by omega) (by omega), show (63 : Nat) = 2 ^ 6 - 1 from rfl, Nat.and_two_pow_sub_one_eq_mod]
    omega
  go_enter Tryd.func48, Tryd.ntmps48
  go_wp2
  go_ret
  exact ⟨ret_u64 (rotl_or hx), rfl⟩
end
end
section
set_option linter.unusedVariables false
set_option linter.unusedSimpArgs false
open Go.RowKit
section
set_option maxHeartbeats 400000
theorem rot32_any (x n : Nat) (w : World) (hx : x < 4294967296) (h0 : 0 < n) (h1 : n < 32) :
    Calls Tryd.prog 55 #[.int .u32 x, .int .i64 (-(n : Int))] w fun e w' => e = .returned (.int .u32 (rotr x n : Nat)) ∧ w = w' := by
  obtain ⟨m, hm⟩ : ∃ m, n + m = 32 := ⟨32 - n, by omega⟩
  have hb : bits .and .u64 (IntKind.u64.wrap (-(n : Int))) 31 = (m : Int) := by
    rw [wrap_u64_eq]
    have e : (-(n : Int)) % 18446744073709551616 = ((18446744073709551616 - n : Nat) : Int) := by omega
    rw [e, show (31 : Int) = ((31 : Nat) : Int) from rfl, u64_and_nat _ _ (by omega) (by omega), show (31 : Nat) = 2 ^ 5 - 1 from rfl, Nat.and_two_pow_sub_one_eq_mod]
    omega
  have hm1 : m < 32 := by omega
  have HM := Lib.hid hm; clear hm
  go_enter Tryd.func55, Tryd.ntmps55
  go_wp2
  go_ret
  exact ⟨ret_u32 (rotr_or hx HM.out), rfl⟩
end
end
section
set_option linter.unusedVariables false
set_option linter.unusedSimpArgs false
open Go.RowKit
/-- Bytes from an address on, as numbers. -/
theorem Rd.at {w : World} {A : Option Addr} {xs : List UInt8} (h : Rd w A (xs.map Bv)) (h0 : 0 < xs.length) :
    ∃ b off, A = some ⟨b, off, none⟩ ∧ ∀ k, k < xs.length → w.cell? ⟨b, off + k, none⟩ = some (.int .u8 (bt xs k : Nat)) := by
  obtain ⟨b, off, rfl, _⟩ := h.byte h0
  refine ⟨b, off, rfl, fun k hk => ?_⟩
  obtain ⟨b1, o1, e, hc⟩ := h.byte hk
  injection e with e; injection e with e1 e2; subst e1 e2
  rw [hc]
  simp [bt, List.getD, hk]
theorem or4 (a b c d : Nat) (ha : a < 256) (hb : b < 256) (hc : c < 256) (hd : d < 256) :
    bits .or .u32 (bits .or .u32 (bits .or .u32 ((a : Int) * 16777216) ((b : Int) * 65536)) ((c : Int) * 256)) (d : Int) = ((a * 16777216 + b * 65536 + c * 256 + d : Nat) : Int) := by
  have e1 : (a : Int) * 16777216 = ((a * 16777216 : Nat) : Int) := rfl
  have e2 : (b : Int) * 65536 = ((b * 65536 : Nat) : Int) := rfl
  have e3 : (c : Int) * 256 = ((c * 256 : Nat) : Int) := rfl
  have o1 : (a * 16777216) ||| (b * 65536) = b * 65536 + a * 16777216 := by rw [Nat.or_comm]; exact or_beside (b * 65536) a 24 (by omega)
  have o2 : (b * 65536 + a * 16777216) ||| (c * 256) = c * 256 + (b * 65536 + a * 16777216) := by
    rw [Nat.or_comm, show b * 65536 + a * 16777216 = (b + a * 256) * 2 ^ 16 from by omega]; exact or_beside (c * 256) _ 16 (by omega)
  have o3 : (c * 256 + (b * 65536 + a * 16777216)) ||| d = d + (c * 256 + (b * 65536 + a * 16777216)) := by
    rw [Nat.or_comm, show c * 256 + (b * 65536 + a * 16777216) = (c + b * 256 + a * 65536) * 2 ^ 8 from by omega]; exact or_beside d _ 8 (by omega)
  rw [e1, e2, u32_or_nat _ _ (by omega) (by omega), o1, e3, u32_or_nat _ _ (by omega) (by omega), o2, u32_or_nat _ _ (by omega) (by omega), o3]
  congr 1; omega
end
section
set_option linter.unusedVariables false
set_option linter.unusedSimpArgs false
open Go.RowKit

/-- An array of n words in block b, of which the first k are told. -/
def WordsAt (w : World) (b : Nat) (t : TypeId) (n k : Nat) (f : Nat → Nat) : Prop :=
  ∃ cs : Array Value, w.heap[b]? = some (.cells cs t (0, 0)) ∧ cs.size = n ∧ ∀ i, i < k → cs[i]? = some (.int .u32 (f i : Nat))
theorem WordsAt.get {w : World} {b : Nat} {t : TypeId} {n k : Nat} {f : Nat → Nat} (h : WordsAt w b t n k f) {i : Nat} (hi : i < k) : w.cell? ⟨b, i, none⟩ = some (.int .u32 (f i : Nat)) := by
  obtain ⟨cs, hb, _, hf⟩ := h
  rw [cell_blk hb, hf i hi]
theorem WordsAt.cell {w : World} {b : Nat} {t : TypeId} {n k : Nat} {f : Nat → Nat} (h : WordsAt w b t n k f) {i : Nat} (hi : i < n) : ∃ v, w.cell? ⟨b, i, none⟩ = some v := by
  obtain ⟨cs, hb, hn, hf⟩ := h
  exact ⟨cs[i]'(by omega), by rw [cell_blk hb]; simp [hn, hi]⟩
theorem WordsAt.free {w : World} {b : Nat} {t : TypeId} {n k : Nat} {f : Nat → Nat} (h : WordsAt w b t n k f) (i : Nat) : w.frozen? ⟨b, i, none⟩ = false := by
  obtain ⟨cs, hb, _, _⟩ := h
  exact free_blk hb i
theorem WordsAt.lt {w : World} {b : Nat} {t : TypeId} {n k : Nat} {f : Nat → Nat} (h : WordsAt w b t n k f) : b < w.heap.size := by
  obtain ⟨cs, hb, _, _⟩ := h
  exact blk_lt hb
theorem WordsAt.set {w : World} {b : Nat} {t : TypeId} {n k : Nat} {f : Nat → Nat} (h : WordsAt w b t n k f) {x : Int} (hk : k < n) (hx : x = (f k : Nat)) : WordsAt (w.setCell ⟨b, k, none⟩ (.int .u32 x)) b t n (k + 1) f := by
  obtain ⟨cs, hb, hn, hf⟩ := h
  refine ⟨_, set_blk hb k _, by simp [hn], fun i hi => ?_⟩
  rw [Array.getElem?_setIfInBounds]
  by_cases e : k = i
  · subst e; rw [if_pos rfl, if_pos (by omega), hx]
  · rw [if_neg e]; exact hf i (by omega)
theorem WordsAt.block {w w' : World} {b : Nat} {t : TypeId} {n k : Nat} {f : Nat → Nat} (h : WordsAt w b t n k f) (hb : w'.heap[b]? = w.heap[b]?) : WordsAt w' b t n k f := by
  obtain ⟨cs, h1, h2⟩ := h
  exact ⟨cs, hb.trans h1, h2⟩
theorem WordsAt.new (w : World) (t : TypeId) (cs : Array Value) (f : Nat → Nat) : WordsAt (w.alloc (.cells cs t)) w.heap.size t cs.size 0 f :=
  ⟨cs, heap_alloc_new w _, rfl, fun i hi => by omega⟩

section
set_option maxHeartbeats 1600000
set_option maxRecDepth 100000
theorem spread_any (w : World) (A : Option Addr) (ca n : Nat) (xs : List UInt8) (hn : xs.length = n) (hx : Rd w A (xs.map Bv)) (hl : 64 ≤ n) (hm : n ≤ 9223372036854775807) :
    Calls Tryd.prog 54 #[.slice A n ca] w fun e w' => ∃ cs : Array Value, e = .returned (.agg cs) ∧ cs.size = 64 ∧ (∀ t, t < 64 → cs[t]? = some (.int .u32 (wW xs t : Nat))) ∧ Below w.heap.size w w' := by
  have HN := Lib.hid hn; clear hn
  go_enter Tryd.func54, Tryd.ntmps54
  go_wp2
  go_loopw [10] (fun i wr => ∃ k : Nat, k ≤ 16 ∧ i = .int .i64 k ∧ WordsAt wr (w.heap.size + 1) 70 64 k (wW xs) ∧ WordsAt wr w.heap.size 70 64 0 (wW xs) ∧ Below w.heap.size w wr) (fun i _ => 16 - (intOf i).toNat)
  case atStart => exact ⟨0, by omega, rfl, ⟨_, heap_alloc_new2 w _ _, rfl, fun i h => by omega⟩, ⟨_, heap_alloc2_old w _ _, rfl, fun i h => by omega⟩, ((Below.refl _ w).alloc (Nat.le_refl _) _).alloc (by simp) _⟩
  case round =>
    obtain ⟨k, hk, rfl, hW, hZ, hb⟩ := hrel
    by_cases hlt : k < 16
    · obtain ⟨b, off, rfl, hc⟩ := (hx.below hb).at (by have := HN.out; omega)
      have c0 := hc (4 * k) (by have := HN.out; omega)
      have c1 := hc (4 * k + 1) (by have := HN.out; omega)
      have c2 := hc (4 * k + 2) (by have := HN.out; omega)
      have c3 := hc (4 * k + 3) (by have := HN.out; omega)
      obtain ⟨v0, hv0⟩ := hW.cell (i := k) (by omega)
      have hfz := hW.free k
      have hst := wW_first xs k hlt
      have h0 := bt_lt xs (4 * k); have h1 := bt_lt xs (4 * k + 1); have h2 := bt_lt xs (4 * k + 2); have h3 := bt_lt xs (4 * k + 3)
      have ho := or4 _ _ _ _ h0 h1 h2 h3
      unfold be4 at hst
      rw [← hst] at ho
      clear hc hst
      generalize bt xs (4 * k) = z0 at *
      generalize bt xs (4 * k + 1) = z1 at *
      generalize bt xs (4 * k + 2) = z2 at *
      generalize bt xs (4 * k + 3) = z3 at *
      have HO := Lib.hid ho; clear ho
      go_wp2
      go_region
      go_wp2
      go_roundw
      case rel => exact ⟨k + 1, by omega, by go_num, hW.set (by omega) HO.out, hZ.block (heap_setCell_other _ _ _ _ (by simp)), (hb.setCell (by simp) _).drew⟩
      case measure => simp [intOf]; omega
    · have e16 : k = 16 := by omega
      rw [e16] at hW
      clear e16
      go_wp2
      obtain ⟨w0, hw0⟩ : ∃ w0, w0 = wr := ⟨_, rfl⟩
      rw [← hw0]
      clear hx
      go_loopw [5] (fun i wq => ∃ k : Nat, 16 ≤ k ∧ k ≤ 64 ∧ i = .int .i64 k ∧ WordsAt wq (w.heap.size + 1) 70 64 k (wW xs) ∧ WordsAt wq w.heap.size 70 64 0 (wW xs) ∧ Below w.heap.size w wq) (fun i _ => 64 - (intOf i).toNat)
      case atStart => exact ⟨16, by omega, by omega, rfl, by rw [hw0]; exact hW, by rw [hw0]; exact hZ, by rw [hw0]; exact hb⟩
      clear hW hZ hb hw0
      case round =>
        obtain ⟨k, hk0, hk, rfl, hW, hZ, hb⟩ := hrel
        by_cases hlt : k < 64
        · have c0 := hW.get (i := k - 15) (by omega)
          have c1 := hW.get (i := k - 2) (by omega)
          have c2 := hW.get (i := k - 16) (by omega)
          have c3 := hW.get (i := k - 7) (by omega)
          obtain ⟨v0, hv0⟩ := hW.cell (i := k) (by omega)
          have hfz := hW.free k
          have hst := wW_next xs k hk0
          have l0 := wW_lt xs (k - 15); have l1 := wW_lt xs (k - 2); have l2 := wW_lt xs (k - 16); have l3 := wW_lt xs (k - 7)
          generalize wW xs (k - 15) = x0 at *
          generalize wW xs (k - 2) = x1 at *
          generalize wW xs (k - 16) = x2 at *
          generalize wW xs (k - 7) = x3 at *
          have HST := Lib.hid hst; clear hst
          have f0 : bits .xor .u32 (bits .xor .u32 ((rotr x0 7 : Nat) : Int) ((rotr x0 18 : Nat) : Int)) ((x0 : Int) / 8) = ((sg0 x0 : Nat) : Int) := by
            rw [u32_xor_nat _ _ (rotr_lt l0) (rotr_lt l0), show (x0 : Int) / 8 = ((x0 / 8 : Nat) : Int) from rfl, u32_xor_nat _ _ (xor_lt32 (rotr_lt l0) (rotr_lt l0)) (by omega)]; rfl
          have f1 : bits .xor .u32 (bits .xor .u32 ((rotr x1 17 : Nat) : Int) ((rotr x1 19 : Nat) : Int)) ((x1 : Int) / 1024) = ((sg1 x1 : Nat) : Int) := by
            rw [u32_xor_nat _ _ (rotr_lt l1) (rotr_lt l1), show (x1 : Int) / 1024 = ((x1 / 1024 : Nat) : Int) from rfl, u32_xor_nat _ _ (xor_lt32 (rotr_lt l1) (rotr_lt l1)) (by omega)]; rfl
          have s0 := sg0_lt l0
          have s1 := sg1_lt l1
          generalize sg0 x0 = y0 at *
          generalize sg1 x1 = y1 at *
          go_wp2
          go_quiet (fail)
          go_wp2_with fail
          refine (rot32_any x0 7 _ l0 (by decide) (by decide)).mono ?_
          rintro e w' ⟨rfl, rfl⟩
          go_wp2_with fail
          refine (rot32_any x0 18 _ l0 (by decide) (by decide)).mono ?_
          rintro e w' ⟨rfl, rfl⟩
          go_wp2_with fail
          refine (rot32_any x1 17 _ l1 (by decide) (by decide)).mono ?_
          rintro e w' ⟨rfl, rfl⟩
          go_wp2_with fail
          refine (rot32_any x1 19 _ l1 (by decide) (by decide)).mono ?_
          rintro e w' ⟨rfl, rfl⟩
          generalize rotr x0 7 = r0 at *
          generalize rotr x0 18 = r1 at *
          generalize rotr x1 17 = r2 at *
          generalize rotr x1 19 = r3 at *
          go_wp2
          go_region
          go_wp2
          go_roundw
          case rel => exact ⟨k + 1, by omega, by omega, by go_num, hW.set (by omega) (by rw [HST.out]; omega), hZ.block (heap_setCell_other _ _ _ _ (by simp)), ((below_drewN hb _).setCell (by simp) _)⟩
          case measure => simp [intOf]; omega
        · have e64 : k = 64 := by omega
          rw [e64] at hW
          clear e64
          obtain ⟨cs, hcs, hsz, hcf⟩ := hW
          obtain ⟨zs, hzs, hzz, _⟩ := hZ
          have hcl : ∀ (j : Nat) v, cs.toList[j]? = some v → wr.cell? ⟨w.heap.size + 1, 0 + j, none⟩ = some v := by
            intro j v hv; rw [cell_blk hcs, Nat.zero_add]; simpa using hv
          have h1c : ∀ v ∈ cs.toList, v.oneCell' = true := by
            intro v hv
            obtain ⟨i, hi, e⟩ := List.getElem_of_mem hv
            have := hcf i (by simp at hi; omega)
            rw [Array.getElem?_eq_getElem (by simpa using hi)] at this
            have e2 : cs[i]'(by simpa using hi) = v := by simpa using e
            rw [e2] at this
            injection this with this; rw [this]; rfl
          have hil : (Tryd.prog.info? 70).map (·.size) = some cs.toList.length := by rw [Array.length_toList, hsz]; kernel_rfl
          have HCL := Lib.hid hcl; clear hcl
          have H1 := Lib.hid h1c; clear h1c
          have HIL := Lib.hid hil; clear hil
          have HSZ := Lib.hid hsz; clear hsz
          have HZZ := Lib.hid hzz; clear hzz
          have HCF := Lib.hid hcf; clear hcf
          have HCS := Lib.hid hcs; clear hcs
          have HZS := Lib.hid hzs; clear hzs
          obtain ⟨cl, hcl⟩ : ∃ cl, cl = cs.toList := ⟨_, rfl⟩
          rw [← hcl] at HCL H1 HIL
          have HC := Lib.hid hcl; clear hcl
          go_wp2_with (first
            | (refine wpList_load_agg (o := ⟨some 92, _, _, _, _, _⟩) ?_ 70 (.tmp 3) ?_ (w.heap.size + 1) 0 ?_ cl ?_ ?_ ?_ ?_; rfl; rfl; rfl; kernel_rfl; exact HIL.out; exact HCL.out)
            | (refine wpList_store_agg (o := ⟨none, _, _, _, _, _⟩) ?_ 70 (.tmp 2) (.tmp 92) ?_ w.heap.size 0 cl ?_ ?_ 70 zs HZS.out HIL.out ?_ H1.out ?_; rfl; rfl; rfl; rfl; (rw [HC.out, Array.length_toList, HSZ.out, HZZ.out]; decide); intro w4 hg4 hm4 hs4)
            | fail)
          have hg5 : w4.heap[w.heap.size]? = some (.cells cs 70 (0, 0)) := by
            rw [hg4, HC.out]
            congr 2
            simp [spl, splice, HSZ.out, HZZ.out, List.drop_eq_nil_of_le]
          have HG5 := Lib.hid hg5; clear hg5 hg4 hs4
          refine bodyPost_cell rfl w.heap.size 70 cs rfl HG5.out (by kernel_rfl) (by rw [HSZ.out]; kernel_rfl) rfl ⟨cs, rfl, HSZ.out, HCF.out, hb.trans (hm4.belowB (by have := hb.size; omega) (fun k hk e => by omega))⟩
end
end
section
set_option linter.unusedVariables false
set_option linter.unusedSimpArgs false
open Go.RowKit

theorem part_byte (w : World) (xs : List UInt8) (s : Nat) (h : s < xs.length) : (part 5 (xs.map Bv).toArray (s * 1)).run Tryd.prog w = .ok (Bv xs[s]) w := by
  have h1 := run_isAggB_no (P := Tryd.prog) w (ty := 5) (by kernel_rfl) (by kernel_rfl)
  simp [part, Sem.run_bind, h1, h]
theorem eq_byte (w : World) (d : Nat) (x y : UInt8) : (Op.equalIn (d + 1) 5 (Bv x) (Bv y)).run Tryd.prog w = .ok (decide (x = y)) w := by
  have h : ((x.toNat : Int) == (y.toNat : Int)) = decide (x = y) := by
    rw [Bool.eq_iff_iff]
    simp only [beq_iff_eq, decide_eq_true_eq]
    exact ⟨fun e => UInt8.toNat_inj.1 (by omega), fun e => by rw [e]⟩
  simp [Op.equalIn, Bv, run_underlying Tryd.underlying5, h]
theorem eqItems_bytes (w : World) (d : Nat) (xs ys : List UInt8) (hl : xs.length = ys.length) : ∀ m s, s + m = xs.length →
    (Op.eqItems (d + 1) 5 1 (xs.map Bv).toArray (ys.map Bv).toArray (List.range' s m)).run Tryd.prog w = .ok (decide (xs.drop s = ys.drop s)) w := by
  intro m
  induction m with
  | zero =>
    intro s hs
    have e1 : xs.drop s = [] := List.drop_eq_nil_of_le (by omega)
    have e2 : ys.drop s = [] := List.drop_eq_nil_of_le (by omega)
    rw [e1, e2]
    simp [Op.eqItems]
  | succ m ih =>
    intro s hs
    have h1 : s < xs.length := by omega
    have h2 : s < ys.length := by omega
    rw [List.range'_succ, drop_cons h1, drop_cons h2]
    simp only [Op.eqItems, Sem.run_bind, part_byte w xs s h1, part_byte w ys s h2, Result.andThen_ok, eq_byte]
    by_cases hx : xs[s] = ys[s]
    · have e : decide (xs[s] :: xs.drop (s + 1) = ys[s] :: ys.drop (s + 1)) = decide (xs.drop (s + 1) = ys.drop (s + 1)) := by
        rw [decide_eq_decide, hx, List.cons_inj_right]
      rw [e, decide_eq_true hx]
      exact ih (s + 1) (by omega)
    · have e : decide (xs[s] :: xs.drop (s + 1) = ys[s] :: ys.drop (s + 1)) = false := by
        rw [decide_eq_false_iff_not]; intro h; exact hx (List.cons.inj h).1
      rw [e, decide_eq_false hx]
      rfl
/-- Two arrays of bytes are the same just where their bytes are. -/
theorem eq_bytes (w : World) (t : TypeId) (N : Nat) (xs ys : List UInt8) (ht : Tryd.prog.underlying t = some (.array N 5)) (hx : xs.length = N) (hy : ys.length = N) :
    (Op.equalIn 10000 t (.agg (xs.map Bv).toArray) (.agg (ys.map Bv).toArray)).run Tryd.prog w = .ok (decide (xs = ys)) w := by
  have hc : Tryd.prog.cellsOf 5 = 1 := by kernel_rfl
  obtain ⟨i0, hi, _⟩ := info_parts (show (Tryd.prog.info? 5).map (fun i => (i.zero, i.size, i.bytes)) = some (some (.int .u8 0), 1, 1) from by kernel_rfl)
  rw [run_equalIn_array (d := 9999) (w := w) _ _ ht hi, hc, List.range_eq_range']
  have h := eqItems_bytes w 9998 xs ys (by omega) N 0 (by omega)
  simpa using h

/-- A whole block of n cells, as it reads. -/
def readAgg (w : World) (b n : Nat) : Option (Array Value) := match w.heap[b]? with
  | some (.cells cs _ _) => if cs.size = n then some cs else none
  | _ => none
theorem readAgg_of {w : World} {b n : Nat} {cs : Array Value} {t : TypeId} {fr : Nat × Nat} (h : w.heap[b]? = some (.cells cs t fr)) (hn : cs.size = n) : readAgg w b n = some cs := by
  unfold readAgg
  rw [h]
  simp [hn]
noncomputable def otherLoad (w : World) (b : Nat) : Result Value := (loadVar 25 ⟨b, 0, none⟩).run Tryd.prog w
set_option maxRecDepth 100000 in
/-- A whole sum read from a block, as one step. -/
theorem load_sum (w : World) (b : Nat) : (loadVar 25 ⟨b, 0, none⟩).run Tryd.prog w = match readAgg w b 32 with | some cs => .ok (.agg cs) w | none => otherLoad w b := by
  cases h : readAgg w b 32 with
  | none => rfl
  | some cs =>
    unfold readAgg at h
    split at h
    · rename_i c t fr hb
      split at h
      · rename_i hn
        injection h with h
        subst h
        have := run_load_agg (P := Tryd.prog) w b 0 25 c.toList (by kernel_rfl) (by rw [Array.length_toList, hn]; kernel_rfl) (fun j v hv => by
          rw [Nat.zero_add, cell_of_row w b j c t fr hb]
          simpa using hv)
        simpa using this
      · cases h
    · cases h
/-- The read of a sum, as one operation. -/
def sumLoadV (x : Value) : Sem Value := Instr.loadAt 25 x
theorem load_is (x : Value) : Instr.loadAt 25 x = sumLoadV x := rfl
theorem run_sumLoadV (b : Nat) (w : World) : (sumLoadV (.pointer (some ⟨b, 0, none⟩))).run Tryd.prog w = match readAgg w b 32 with | some cs => .ok (.agg cs) w | none => otherLoad w b := by
  rw [← load_sum]
  simp [sumLoadV, Instr.loadAt, Instr.sureAddr]
end
section
set_option linter.unusedVariables false
set_option linter.unusedSimpArgs false
open Go.RowKit

/-- A builder in block b that holds these bytes. -/
def BldIs (B b : Nat) (xs : List UInt8) (w : World) : Prop := Lib.BuilderAt 78 5 B b (.pointer (some ⟨b, 0, none⟩)) (xs.map Bv) w
theorem BldIs.drewN {B b : Nat} {xs : List UInt8} {w : World} (h : BldIs B b xs w) (n : Nat) : BldIs B b xs (w.drewN n) := h

theorem infoBu : (Tryd.prog.info? 78).map (fun i => (i.zero, i.size, i.bytes)) = some (some (.agg #[.pointer none, .slice none 0 0]), 2, 32) := by kernel_rfl
section
set_option maxHeartbeats 800000
set_option maxRecDepth 100000
theorem check_any (w : World) (b : Nat) (h : w.cell? ⟨b, 0, none⟩ = some (.pointer (some ⟨b, 0, none⟩))) :
    Calls Tryd.prog 56 #[.pointer (some ⟨b, 0, none⟩)] w fun e w' => e = .returned (.tuple #[]) ∧ w = w' := by
  obtain ⟨j, hj, _⟩ := info_parts infoBu
  have hnp := fun (u : World) => Lib.run_neq_ptr_same u (⟨b, 0, none⟩ : Addr) Tryd.underlying76 hj
  go_enter Tryd.func56, Tryd.ntmps56
  go_wp2
  go_end0
  exact ⟨rfl, rfl⟩
theorem wb_any (B b n : Nat) (xs : List UInt8) (w : World) (h : BldIs B b xs w) (hB : B ≤ w.heap.size) (hn : n < 256) (hl : xs.length + 1 ≤ 140737488355328) :
    Calls Tryd.prog 51 #[.pointer (some ⟨b, 0, none⟩), .int .u8 (n : Nat)] w fun e w' => e = .returned .nilIface ∧ BldIs B b (xs ++ [UInt8.ofNat n]) w' ∧ Below B w w' := by
  obtain ⟨i0, hi, hz0, hz1, hz2⟩ := info_parts infoU8
  obtain ⟨hBb, v, hbk, hown, hv⟩ := h
  have c0 := cell_blk hbk 0
  have c1 := cell_blk hbk 1
  have f1 := free_blk hbk 1
  simp only [List.getElem?_toArray, List.getElem?_cons_zero, List.getElem?_cons_succ] at c0 c1
  rw [List.length_map] at hown
  have hne := own_blk hown hbk (by decide)
  have hbl := blk_lt hbk
  have HB := Lib.hid hbk; clear hbk
  have HV := Lib.hid hv; clear hv
  have HNE := Lib.hid hne; clear hne
  go_enter Tryd.func51, Tryd.ntmps51
  go_wp2_with fail
  refine (check_any w b c0).mono ?_
  rintro e w1 ⟨rfl, rfl⟩
  go_wp2_with (first | (at_builtin; go_must (refine wpList_append_own _ rfl _ _ 28 rfl B 5 i0 (.int .u8 0) 1 1 Tryd.underlying28 hi hz0 hz1 hz2 rfl (by decide) _ xs.length (xs.map Bv) rfl (hown.alloc _) ⟨w.heap.size, 0, none⟩ 1 1 [.int .u8 (n : Nat)] rfl rfl (World.news_of_block (heap_alloc_new _ _)) (by simp [Value.oneCell']) (by unfold maxLen; omega) (by omega) (by simp; omega) ?_; intro v' w2 hown' hgrow hg'; have hb2 := (hgrow.block b (by simp; omega) (Ne.symm HNE.out)).trans ((heap_alloc_old w _ hbl).trans HB.out); have k1 := cell_blk hb2 1; have g1 := free_blk hb2 1; simp only [List.getElem?_toArray, List.getElem?_cons_zero, List.getElem?_cons_succ] at k1; have HB2 := Lib.hid hb2; clear hb2; obtain ⟨A2, c2, rfl, -⟩ := own_rd hown')) | fail)
  have hne2 := own_blk hown' HB2.out (by decide)
  have hrow : (w2.setCell ⟨b, 1, none⟩ (.slice A2 (xs.length + 1) c2)).ownsRow B 5 1 (.slice A2 (xs.length + 1) c2) (xs.length + 1) (xs.map Bv ++ [.int .u8 (n : Nat)]) :=
    own_moved hown' (fun g hg => heap_setCell_other _ _ _ _ (fun e => hne2 (by rw [hg, e])))
  have hset := set_blk HB2.out 1 (.slice A2 (xs.length + 1) c2)
  have hbl2 : Below B w w2 := (((Below.refl _ w).alloc (Nat.le_refl _) _).mono hB).grown hgrow (by simp; omega) (fun k e => (hown.lt k e).1)
  have hlast : (xs ++ [UInt8.ofNat n]).map Bv = xs.map Bv ++ [.int .u8 (n : Nat)] := by rw [List.map_append, List.map_singleton, ← byte_of rfl hn]
  have HL := Lib.hid hlast; clear hlast
  have HSET := Lib.hid hset; clear hset
  have HROW := Lib.hid hrow; clear hrow
  have HNE2 := Lib.hid hne2; clear hne2
  go_ret
  refine ⟨rfl, ⟨hBb, .slice A2 (xs.length + 1) c2, HSET.out, ?_, HNE2.out⟩, hbl2.setCell hBb _⟩
  rw [HL.out]
  have := HROW.out
  rw [List.length_append, List.length_map]
  exact this
end
end
section
set_option linter.unusedVariables false
set_option linter.unusedSimpArgs false

/-- The w lowest bits of n, the highest one first. -/
def bitsOf : Nat → Nat → List Bool
  | _, 0 => []
  | n, w + 1 => n.testBit w :: bitsOf n w
/-- Bits as a number, the first one highest. -/
def natOf (l : List Bool) : Nat := l.foldl (fun a b => 2 * a + b.toNat) 0
/-- Up to eight bits as a byte, the first one highest. -/
def packB (l : List Bool) : Nat := natOf l * 2 ^ (8 - l.length)
/-- A row's bytes. -/
def bytesOf (l : List Bool) : List UInt8 := (List.range ((l.length + 7) / 8)).map fun i => UInt8.ofNat (packB ((l.drop (8 * i)).take 8))
/-- The bytes with one byte 0 more where the last one is full. -/
def extB (l : List Bool) : List UInt8 := if l.length % 8 = 0 then bytesOf l ++ [0] else bytesOf l

theorem bitsOf_length (n w : Nat) : (bitsOf n w).length = w := by
  induction w with
  | zero => rfl
  | succ w ih => simp [bitsOf, ih]
theorem foldl_bits (m : List Bool) (a : Nat) : m.foldl (fun a b => 2 * a + b.toNat) a = a * 2 ^ m.length + natOf m := by
  induction m generalizing a with
  | nil => simp [natOf]
  | cons b m ih =>
    simp only [List.foldl_cons, natOf, List.length_cons]
    rw [ih, ih (2 * 0 + b.toNat), Nat.pow_succ, Nat.add_mul, Nat.add_mul]
    have : 2 * a * 2 ^ m.length = a * (2 ^ m.length * 2) := by rw [Nat.mul_comm 2 a, Nat.mul_assoc, Nat.mul_comm 2]
    omega
theorem natOf_append (l m : List Bool) : natOf (l ++ m) = natOf l * 2 ^ m.length + natOf m := by
  rw [natOf, List.foldl_append, foldl_bits]; rfl
theorem natOf_cons (b : Bool) (l : List Bool) : natOf (b :: l) = b.toNat * 2 ^ l.length + natOf l := by
  rw [natOf, List.foldl_cons, foldl_bits]; simp
theorem natOf_lt (l : List Bool) : natOf l < 2 ^ l.length := by
  induction l with
  | nil => decide
  | cons b l ih =>
    rw [natOf_cons, List.length_cons, Nat.pow_succ]
    have : b.toNat * 2 ^ l.length ≤ 1 * 2 ^ l.length := Nat.mul_le_mul_right _ (by cases b <;> decide)
    omega
theorem natOf_bitsOf (n w : Nat) : natOf (bitsOf n w) = n % 2 ^ w := by
  induction w with
  | zero => simp [bitsOf, natOf, Nat.mod_one]
  | succ w ih =>
    rw [bitsOf, natOf_cons, ih, bitsOf_length, Nat.mod_pow_succ, Nat.toNat_testBit, Nat.mul_comm]
    omega
end
section
set_option linter.unusedVariables false
set_option linter.unusedSimpArgs false
open Go.RowKit

/-- The bits of bytes, the first one of each highest. -/
def rb (xs : List UInt8) : List Bool := xs.flatMap fun x => bitsOf x.toNat 8
theorem rb_length (xs : List UInt8) : (rb xs).length = 8 * xs.length := by
  induction xs with
  | nil => rfl
  | cons x r ih => simp only [rb, List.flatMap_cons, List.length_append, bitsOf_length, List.length_cons] at ih ⊢; omega
/-- The number of the next bits. -/
def numAt (xs : List UInt8) (at_ c : Nat) : Nat := natOf (((rb xs).drop at_).take c)
end
section
set_option linter.unusedVariables false
set_option linter.unusedSimpArgs false

/-- The first n numbers of w bits each. -/
def digs (w n : Nat) (l : List Bool) : List Nat := (List.range n).map fun i => natOf ((l.drop (w * i)).take w)
theorem digs_length (w n : Nat) (l : List Bool) : (digs w n l).length = n := by simp [digs]
theorem digs_succ (w n : Nat) (l : List Bool) : digs w (n + 1) l = digs w n l ++ [natOf ((l.drop (w * n)).take w)] := by
  unfold digs
  rw [List.range_succ, List.map_append, List.map_singleton]
theorem digs_append (w n : Nat) (l m : List Bool) (h : w * n ≤ l.length) : digs w n (l ++ m) = digs w n l := by
  unfold digs
  refine List.map_congr_left fun i hi => ?_
  have hi' := List.mem_range.1 hi
  have hw : w * i + w ≤ w * n := by
    have := Nat.mul_le_mul_left w (show i + 1 ≤ n from hi')
    rw [Nat.mul_add, Nat.mul_one] at this
    exact this
  rw [List.drop_append_of_le_length (by omega), List.take_append_of_le_length (by rw [List.length_drop]; omega)]
/-- A letter. -/
def ltr (L : List UInt8) (d : Nat) : UInt8 := L.getD d 0
/-- Numbers as letters. -/
def lettersOf (L : List UInt8) (ds : List Nat) : List UInt8 := ds.map fun d => ltr L d
theorem lettersOf_snoc (L : List UInt8) (ds : List Nat) (d : Nat) : lettersOf L (ds ++ [d]) = lettersOf L ds ++ [ltr L d] := by simp [lettersOf]
theorem lettersOf_length (L : List UInt8) (ds : List Nat) : (lettersOf L ds).length = ds.length := by simp [lettersOf]
/-- The bits 0 that fill a row up to whole letters. -/
def fillN (w n : Nat) : Nat := (w - n % w) % w
def fillB (w : Nat) (l : List Bool) : List Bool := l ++ List.replicate (fillN w l.length) false
/-- A row of bits as letters of w bits each. -/
def armB (w : Nat) (L : List UInt8) (l : List Bool) : List UInt8 := lettersOf L (digs w ((fillB w l).length / w) (fillB w l))
/-- Bytes as letters. -/
def armS (w : Nat) (L : List UInt8) (xs : List UInt8) : List UInt8 := armB w L (rb xs)

theorem rb_append (xs ys : List UInt8) : rb (xs ++ ys) = rb xs ++ rb ys := by simp [rb]
theorem rb_one (x : UInt8) : rb [x] = bitsOf x.toNat 8 := by simp [rb]
theorem natOf_zeros (n : Nat) : natOf (List.replicate n false) = 0 := by
  induction n with
  | zero => rfl
  | succ n ih => rw [List.replicate_succ, natOf_cons, ih]; simp
/-- What stands ahead and behind in a row of bits. -/
theorem natOf_split (l : List Bool) (k : Nat) (h : k ≤ l.length) : natOf l = natOf (l.take k) * 2 ^ (l.length - k) + natOf (l.drop k) := by
  conv => lhs; rw [← List.take_append_drop k l]
  rw [natOf_append, List.length_drop]
theorem natOf_high (l : List Bool) (k : Nat) (h : k ≤ l.length) : natOf l / 2 ^ (l.length - k) = natOf (l.take k) := by
  have hd : natOf (l.drop k) < 2 ^ (l.length - k) := by have := natOf_lt (l.drop k); rwa [List.length_drop] at this
  rw [natOf_split l k h, Nat.add_comm, Nat.add_mul_div_right _ _ (Nat.two_pow_pos _), Nat.div_eq_of_lt hd, Nat.zero_add]
theorem natOf_low (l : List Bool) (k : Nat) (h : k ≤ l.length) : natOf l % 2 ^ (l.length - k) = natOf (l.drop k) := by
  have hd : natOf (l.drop k) < 2 ^ (l.length - k) := by have := natOf_lt (l.drop k); rwa [List.length_drop] at this
  rw [natOf_split l k h, Nat.add_comm, Nat.add_mul_mod_self_right, Nat.mod_eq_of_lt hd]
/-- Whole letters: nothing fills up. -/
theorem fillN_whole (w n q : Nat) (hw : 0 < w) (h : n = w * q) : fillN w n = 0 := by unfold fillN; rw [h, Nat.mul_mod_right, Nat.sub_zero, Nat.mod_self]
theorem armB_whole (w : Nat) (L : List UInt8) (l : List Bool) (q : Nat) (hw : 0 < w) (h : l.length = w * q) : armB w L l = lettersOf L (digs w q l) := by
  have hf := fillN_whole w l.length q hw h
  unfold armB fillB
  rw [hf, List.replicate_zero, List.append_nil, h, Nat.mul_div_cancel_left _ hw]
/-- A last letter that is filled up. -/
theorem armB_part (w : Nat) (L : List UInt8) (l : List Bool) (q c : Nat) (hc0 : 0 < c) (hc : c < w) (h : l.length = w * q + c) :
    armB w L l = lettersOf L (digs w q l) ++ [ltr L (natOf (l.drop (w * q)) * 2 ^ (w - c))] := by
  have hm : l.length % w = c := by rw [h, Nat.mul_add_mod, Nat.mod_eq_of_lt hc]
  have hf : fillN w l.length = w - c := by unfold fillN; rw [hm, Nat.mod_eq_of_lt (by omega)]
  have hlen : (l ++ List.replicate (w - c) false).length = w * (q + 1) := by rw [List.length_append, List.length_replicate, h, Nat.mul_add, Nat.mul_one]; omega
  unfold armB fillB
  rw [hf, hlen, Nat.mul_div_cancel_left _ (by omega), digs_succ, lettersOf_snoc, digs_append _ _ _ _ (by omega)]
  congr 3
  rw [List.drop_append_of_le_length (by omega), List.take_of_length_le (by rw [List.length_append, List.length_drop, List.length_replicate]; omega), natOf_append, natOf_zeros, List.length_replicate, Nat.add_zero]
theorem natOf_take_lt (l : List Bool) (w k : Nat) : natOf ((l.drop k).take w) < 2 ^ w := Nat.lt_of_lt_of_le (natOf_lt _) (Nat.pow_le_pow_right (by decide) (List.length_take_le _ _))
/-- The letters of addresses, and of digits. -/
def armL : List UInt8 := [65, 66, 67, 68, 69, 70, 71, 72, 73, 74, 75, 76, 77, 78, 79, 80, 81, 82, 83, 84, 85, 86, 87, 88, 89, 90, 97, 98, 99, 100, 101, 102, 103, 104, 105, 106, 107, 108, 109, 110, 111, 112, 113, 114, 115, 116, 117, 118, 119, 120, 121, 122, 48, 49, 50, 51, 52, 53, 54, 55, 56, 57, 45, 95]
def hexL : List UInt8 := [48, 49, 50, 51, 52, 53, 54, 55, 56, 57, 97, 98, 99, 100, 101, 102]
/-- Bytes as digits, byte by byte. -/
def hexB (x : UInt8) : List UInt8 := [ltr hexL (x.toNat / 16), ltr hexL (x.toNat % 16)]
end
section
set_option linter.unusedVariables false
set_option linter.unusedSimpArgs false
open Go.RowKit
section
set_option maxHeartbeats 400000

theorem equal_any (A B : Option Addr) (ca cb : Nat) (xs ys : List UInt8) (w : World) (hx : Rd w A (xs.map Bv)) (hy : Rd w B (ys.map Bv))
   (hlx : xs.length ≤ 9223372036854775807) (hly : ys.length ≤ 9223372036854775807) :
    Calls Tryd.prog 11 #[.slice A xs.length ca, .slice B ys.length cb] w fun e w' => e = .returned (.bool (decide (xs = ys))) ∧ ∃ n, w' = w.drewN n := by
  by_cases hl : xs.length = ys.length
  · have hl' : ((xs.length : Int) != ys.length) = false := by simp [hl]
    have Hl := Lib.hid hl; clear hl
    go_enter Tryd.func11, Tryd.ntmps11
    go_wp2
    go_loopw [13] (fun i wr => ∃ k n : Nat, k ≤ xs.length ∧ i = .int .i64 k ∧ xs.take k = ys.take k ∧ wr = w.drewN n) (fun i _ => xs.length - (intOf i).toNat)
    case atStart => exact ⟨0, 0, by omega, rfl, by simp, rfl⟩
    case round =>
      obtain ⟨k, n, hk, rfl, ht, rfl⟩ := hrel
      have Ht := Lib.hid ht; clear ht
      by_cases hlt : k < xs.length
      · obtain ⟨b, off, rfl, hc⟩ := hx.byte hlt
        obtain ⟨b', off', rfl, hc'⟩ := hy.byte (k := k) (by rw [← Hl.out]; exact hlt)
        have hlt' : k < ys.length := by rw [← Hl.out]; exact hlt
        by_cases hb : xs[k] = ys[k]
        · have hb' : ((xs[k].toNat : Int) != ys[k].toNat) = false := by simp [hb]
          have Hb := Lib.hid hb; clear hb
          go_wp2
          go_quiet (fail)
          go_wp2
          go_roundw
          case rel => exact ⟨k+1, _, by omega, by go_num, take_succ_eq hlt hlt' Ht.out Hb.out, rfl⟩
          case measure => simp [intOf]; omega
        · have hb' : ((xs[k].toNat : Int) != ys[k].toNat) = true := by rw [bne_iff_ne]; intro e; exact hb (UInt8.toNat_inj.1 (by omega))
          have hne : xs ≠ ys := by rintro rfl; exact hb rfl
          have Hb := Lib.hid hb; clear hb
          have Hne := Lib.hid hne; clear hne
          go_wp2
          go_quiet (fail)
          go_wp2
          go_ret
          exact ⟨by simp [Hne.out], _, World.drewN_drewN _ _ _⟩
      · have hlt' : ¬ k < ys.length := by rw [← Hl.out]; exact hlt
        have he : xs = ys := by have := Ht.out; rwa [List.take_of_length_le (by omega), List.take_of_length_le (by omega)] at this
        have He := Lib.hid he; clear he
        go_wp2
        go_ret
        exact ⟨by simp [He.out], _, rfl⟩
  · have hl' : ((xs.length : Int) != ys.length) = true := by simp; omega
    have hne : xs ≠ ys := by rintro rfl; exact hl rfl
    have Hne := Lib.hid hne; clear hne
    clear hl
    go_enter Tryd.func11, Tryd.ntmps11
    go_wp2
    go_ret
    exact ⟨by simp [Hne.out], 0, rfl⟩

theorem equal_at (A B : Option Addr) (ca cb la lb : Nat) (xs ys : List UInt8) (w : World) (hla : xs.length = la) (hlb : ys.length = lb) (hx : Rd w A (xs.map Bv)) (hy : Rd w B (ys.map Bv))
   (hlx : xs.length ≤ 9223372036854775807) (hly : ys.length ≤ 9223372036854775807) :
    Calls Tryd.prog 11 #[.slice A la ca, .slice B lb cb] w fun e w' => e = .returned (.bool (decide (xs = ys))) ∧ ∃ n, w' = w.drewN n := by
  subst hla hlb
  exact equal_any A B ca cb xs ys w hx hy hlx hly

theorem equal_yes (A B : Option Addr) (ca cb la lb : Nat) (xs ys : List UInt8) (w : World) (he : xs = ys) (hla : xs.length = la) (hlb : ys.length = lb) (hx : Rd w A (xs.map Bv)) (hy : Rd w B (ys.map Bv))
   (hlx : xs.length ≤ 9223372036854775807) :
    Calls Tryd.prog 11 #[.slice A la ca, .slice B lb cb] w fun e w' => e = .returned (.bool true) ∧ ∃ n, w' = w.drewN n := by
  have h := equal_at A B ca cb la lb xs ys w hla hlb hx hy hlx (by rw [← he]; exact hlx)
  rw [decide_eq_true he] at h
  exact h
end
end
section
set_option linter.unusedVariables false
set_option linter.unusedSimpArgs false
section
set_option linter.unusedVariables false
set_option linter.unusedSimpArgs false
open Go.RowKit

/-- A part: where it lies, its capacity, its bytes. -/
def partV (p : Option Addr × Nat × List UInt8) : Value := .slice p.1 p.2.2.length p.2.1
def joined (P : List (Option Addr × Nat × List UInt8)) : List UInt8 := P.flatMap (·.2.2)

section
set_option maxHeartbeats 1600000
set_option maxRecDepth 100000
theorem join_any (w : World) (S : Option Addr) (cS : Nat) (P : List (Option Addr × Nat × List UInt8)) (hS : Rd w S (P.map partV)) (hP : ∀ p ∈ P, Rd w p.1 (p.2.2.map Bv))
    (hl : (joined P).length ≤ 140737488351232) (hn : P.length ≤ 9223372036854775807) :
    Calls Tryd.prog 13 #[.slice S P.length cS] w fun e w' => ∃ v, e = .returned v ∧ w'.ownsRow w.heap.size 5 1 v (joined P).length ((joined P).map Bv) ∧ Below w.heap.size w w' := by
  obtain ⟨i0, hi, hz0, hz1, hz2⟩ := info_parts infoU8
  go_enter Tryd.func13, Tryd.ntmps13
  go_wp2
  go_loopw [3, 9] (fun v i wr => ∃ k : Nat, k ≤ P.length ∧ i = .int .i64 k ∧ wr.ownsRow w.heap.size 5 1 v (joined (P.take k)).length ((joined (P.take k)).map Bv) ∧ Below w.heap.size w wr) (fun _ i _ => P.length - (intOf i).toNat)
  case atStart => exact ⟨0, by omega, rfl, World.ownsRow_made w #[] 0 (Nat.le_refl _) (by decide) rfl, (Below.refl _ _).alloc (Nat.le_refl _) _⟩
  case round =>
    obtain ⟨k, hk, rfl, hown, hb⟩ := hrel
    have HS := Lib.hid hb.size
    have hlo := fun (k : Nat) h => (hown.lt k h).1
    by_cases hlt : k < P.length
    · obtain ⟨g, off, hSe, hc⟩ := (hS.below hb) k (partV P[k]) (by simp [hlt])
      subst hSe
      have hrd := (hP P[k] (List.getElem_mem hlt)).below hb
      have hjt : joined (P.take (k + 1)) = joined (P.take k) ++ P[k].2.2 := by
        unfold joined; rw [List.take_succ_eq_append_getElem hlt, List.flatMap_append, List.flatMap_singleton]
      have hjl : (joined (P.take (k + 1))).length ≤ (joined P).length := by
        have : joined P = joined (P.take (k + 1)) ++ joined (P.drop (k + 1)) := by
          simp only [joined, ← List.flatMap_append, List.take_append_drop]
        rw [this, List.length_append]; omega
      have hjs : (joined (P.take (k + 1))).length = (joined (P.take k)).length + P[k].2.2.length := by rw [hjt, List.length_append]
      have HJ := Lib.hid hjt; clear hjt
      have HJS := Lib.hid hjs; clear hjs
      generalize hp : P[k] = pk at *
      obtain ⟨A, c, ys⟩ := pk
      simp only [partV] at hc hrd HJ HJS
      have HP := Lib.hid hp; clear hp
      have h1 : ∀ u ∈ ys.map Bv, u.oneCell' = true := by intro u hu; obtain ⟨x, _, rfl⟩ := List.mem_map.1 hu; rfl
      have H1 := Lib.hid h1; clear h1
      go_wp2_with (first | (at_builtin; go_must (refine wpList_append_rd rfl _ _ 28 rfl w.heap.size 5 i0 (.int .u8 0) 1 Tryd.underlying28 hi hz0 hz1 hz2 rfl _ _ _ rfl hown A c (ys.map Bv) (by simp; rfl) hrd H1.out (by have := HJS.out; rw [List.length_map]; unfold maxLen; omega) (by have := HJS.out; rw [List.length_map]; omega) HS.out ?_; intro v' w1 hown' hgrow)) | fail)
      go_wp2
      go_roundw
      case rel => exact ⟨k + 1, by omega, by go_num, by rw [HJS.out, HJ.out, List.map_append]; simpa using hown', hb.grown hgrow HS.out hlo⟩
      case measure => simp [intOf]; omega
    · have hkl : k = P.length := by omega
      have e : joined (P.take k) = joined P := by rw [hkl, List.take_length]
      rw [e] at hown
      have HK := Lib.hid hkl; clear hkl
      have HE := Lib.hid e; clear e
      go_wp2
      go_ret
      exact ⟨_, rfl, hown, hb⟩

theorem join_two_own (w : World) (A B : Option Addr) (ca cb : Nat) (xs ys : List UInt8) (hx : Rd w A (xs.map Bv)) (hy : Rd w B (ys.map Bv)) (hl : xs.length + ys.length ≤ 140737488351232) :
    Calls Tryd.prog 13 #[.slice (some ⟨w.heap.size, 0, none⟩) 2 2] (w.alloc (.cells #[.slice A xs.length ca, .slice B ys.length cb] 28)) fun e w' =>
      ∃ v, e = .returned v ∧ w'.ownsRow (w.heap.size + 1) 5 1 v (xs ++ ys).length ((xs ++ ys).map Bv) ∧ Below w.heap.size w w' := by
  have hP : ∀ p ∈ [(A, ca, xs), (B, cb, ys)], Rd (w.alloc (.cells [partV (A, ca, xs), partV (B, cb, ys)].toArray 28)) p.1 (p.2.2.map Bv) := by
    intro p hp
    simp at hp
    rcases hp with rfl | rfl
    · exact hx.alloc _
    · exact hy.alloc _
  have hj : joined [(A, ca, xs), (B, cb, ys)] = xs ++ ys := by simp [joined]
  refine (join_any _ (some ⟨w.heap.size, 0, none⟩) 2 [(A, ca, xs), (B, cb, ys)] (rd_row' w [partV (A, ca, xs), partV (B, cb, ys)] _) hP (by rw [hj, List.length_append]; exact hl) (by simp)).mono ?_
  rintro e w4 ⟨v4, rfl, own4, hb4⟩
  rw [hj, World.size_alloc] at own4
  exact ⟨v4, rfl, own4, ((Below.refl _ w).alloc (Nat.le_refl _) _).trans (hb4.mono (by simp))⟩
end
end
section
set_option linter.unusedVariables false
set_option linter.unusedSimpArgs false
open Go.RowKit
end
end
section
set_option linter.unusedVariables false
set_option linter.unusedSimpArgs false
open Go.RowKit

theorem letter_slice (u : World) (d : Nat) (hd : d < 16) : (Instr.sliceAt 9 (.string ⟨#[48, 49, 50, 51, 52, 53, 54, 55, 56, 57, 97, 98, 99, 100, 101, 102]⟩) (some (.int .u8 (d : Nat))) (some (.int .u8 ((d : Int) + 1))) none).run Tryd.prog u = .ok (.string ⟨#[ltr hexL d]⟩) u := by
  have b1 : (Instr.sliceBound (.int .u8 ((d : Int) + 1)) 16 .sliceAlen).run Tryd.prog u = .ok (d + 1) u := by simp [Instr.sliceBound, asIntOf]; omega
  have b2 : (Instr.sliceBound (.int .u8 ((d : Nat) : Int)) (d + 1) .sliceB).run Tryd.prog u = .ok d u := by simp [Instr.sliceBound, asIntOf]; intro h; omega
  have hx : ∀ i : Fin 16, (⟨#[48, 49, 50, 51, 52, 53, 54, 55, 56, 57, 97, 98, 99, 100, 101, 102]⟩ : ByteArray).extract i.val (i.val + 1) = ⟨#[ltr hexL i.val]⟩ := by decide +kernel
  have hz : (⟨#[48, 49, 50, 51, 52, 53, 54, 55, 56, 57, 97, 98, 99, 100, 101, 102]⟩ : ByteArray).size = 16 := rfl
  have hxd := hx ⟨d, hd⟩
  simp only at hxd
  simp only [Instr.sliceAt, Instr.slice, Instr.sliceBounds, Sem.run_bind, run_underlying Tryd.underlying9, Result.andThen_ok, hz, Sem.run_pure, b1, b2, Option.isSome_none, hxd, Bool.false_eq_true, if_false]
theorem bytes_app (a b : List UInt8) : (⟨a.toArray⟩ : ByteArray) ++ ⟨b.toArray⟩ = ⟨(a ++ b).toArray⟩ := by
  apply ByteArray.ext
  rw [ByteArray.data_append]
  simp
theorem two_letters (u : World) (p q : UInt8) : (Op.stringOp .add ⟨#[p]⟩ ⟨#[q]⟩).run Tryd.prog u = .ok (.string ⟨#[p, q]⟩) u := by
  have h := run_string_add_sum (P := Tryd.prog) u (⟨[p].toArray⟩ : ByteArray) ⟨[q].toArray⟩ (show [p].length + [q].length ≤ 9223372036854775807 from by simp)
  rw [bytes_app] at h
  exact h
theorem more_letters (u : World) (acc : List UInt8) (p q : UInt8) (h : acc.length ≤ 4000000) : (Op.stringOp .add ⟨acc.toArray⟩ ⟨#[p, q]⟩).run Tryd.prog u = .ok (.string ⟨(acc ++ [p, q]).toArray⟩) u := by
  have h := run_string_add_sum (P := Tryd.prog) u (⟨acc.toArray⟩ : ByteArray) ⟨[p, q].toArray⟩ (show acc.length + [p, q].length ≤ 9223372036854775807 from by simp; omega)
  rw [bytes_app] at h
  exact h

section
set_option maxHeartbeats 1600000
set_option maxRecDepth 100000
theorem rhex_any (w : World) (A : Option Addr) (ca n : Nat) (xs : List UInt8) (hn : xs.length = n) (hx : Rd w A (xs.map Bv)) (hl : n ≤ 1000000) :
    Calls Tryd.prog 23 #[.slice A n ca] w fun e w' => e = .returned (.string ⟨(xs.flatMap hexB).toArray⟩) ∧ ∃ m, w' = w.drewN m := by
  have HN := Lib.hid hn; clear hn
  go_enter Tryd.func23, Tryd.ntmps23
  go_wp2
  go_loopw [3, 8] (fun v i wr => ∃ k m : Nat, k ≤ n ∧ i = .int .i64 k ∧ v = .string ⟨((xs.take k).flatMap hexB).toArray⟩ ∧ wr = w.drewN m) (fun _ i _ => n - (intOf i).toNat)
  case atStart => exact ⟨0, 0, by omega, rfl, rfl, rfl⟩
  case round =>
    obtain ⟨k, m, hk, rfl, rfl, rfl⟩ := hrel
    by_cases hlt : k < n
    · have hkx : k < xs.length := by rw [HN.out]; exact hlt
      obtain ⟨b, off, rfl, hc⟩ := hx.byte hkx
      have hx8 := xs[k].toNat_lt
      obtain ⟨a, ha⟩ : ∃ a, a = xs[k].toNat / 16 := ⟨_, rfl⟩
      obtain ⟨b2, hb2⟩ : ∃ b, b = xs[k].toNat % 16 := ⟨_, rfl⟩
      have ha16 : a < 16 := by omega
      have hb16 : b2 < 16 := by omega
      have q1 : (xs[k].toNat : Int).tdiv 16 = (a : Int) := by rw [Int.tdiv_eq_ediv_of_nonneg (by omega)]; omega
      have q2 : (xs[k].toNat : Int).tmod 16 = (b2 : Int) := by rw [Int.tmod_eq_emod_of_nonneg (by omega)]; omega
      have q3 : (xs[k].toNat : Int) / 16 = (a : Int) := by omega
      have q4 : (xs[k].toNat : Int) % 16 = (b2 : Int) := by omega
      have w1 : IntKind.u8.wrap (a : Int) = (a : Int) := by rw [IntKind.wrap_u8]; omega
      have w2 : IntKind.u8.wrap (b2 : Int) = (b2 : Int) := by rw [IntKind.wrap_u8]; omega
      have w3 : IntKind.u8.wrap ((a : Int) + 1) = (a : Int) + 1 := by rw [IntKind.wrap_u8]; omega
      have w4 : IntKind.u8.wrap ((b2 : Int) + 1) = (b2 : Int) + 1 := by rw [IntKind.wrap_u8]; omega
      have hst : (xs.take (k + 1)).flatMap hexB = (xs.take k).flatMap hexB ++ [ltr hexL a, ltr hexL b2] := by
        rw [List.take_succ_eq_append_getElem hkx, List.flatMap_append, List.flatMap_singleton, ha, hb2]; rfl
      have hal : ((xs.take k).flatMap hexB).length ≤ 4000000 := by
        have e : ((xs.take k).flatMap hexB).length = 2 * (xs.take k).length := by
          induction xs.take k with
          | nil => rfl
          | cons y r ih => rw [List.flatMap_cons, List.length_append, ih]; simp [hexB]; omega
        rw [e, List.length_take]; omega
      have HA := Lib.hid ha; clear ha
      have HB := Lib.hid hb2; clear hb2
      have HST := Lib.hid hst; clear hst
      generalize (xs.take k).flatMap hexB = acc at *
      have s1 := fun u => letter_slice u a ha16
      have s2 := fun u => letter_slice u b2 hb16
      have s3 := fun u => two_letters u (ltr hexL a) (ltr hexL b2)
      have s4 := fun u => more_letters u acc (ltr hexL a) (ltr hexL b2) hal
      go_wp2
      go_quiet (fail)
      go_wp2
      go_roundw
      case rel => exact ⟨k + 1, _, by omega, by go_num, by rw [HST.out], rfl⟩
      case measure => simp [intOf]; omega
    · have hkn : xs.take k = xs := List.take_of_length_le (by rw [HN.out]; omega)
      rw [hkn]
      clear hkn
      go_wp2
      go_ret
      exact ⟨rfl, _, rfl⟩
end
end
section
set_option linter.unusedVariables false
set_option linter.unusedSimpArgs false
open Go.RowKit

theorem W1 (a x c : Nat) : IntKind.u64.wrap ((a : Int) + IntKind.u64.wrap ((x : Int) * (c : Int))) = (((a + x * c) % 18446744073709551616 : Nat) : Int) := by
  rw [wrap_u64_eq, wrap_u64_eq, Int.add_emod_emod]; rfl
theorem W2 (x c : Nat) : IntKind.u64.wrap ((x : Int) * (c : Int)) = ((x * c % 18446744073709551616 : Nat) : Int) := by
  rw [wrap_u64_eq]; rfl
theorem W3 (x c d : Nat) : IntKind.u64.wrap (IntKind.u64.wrap ((x : Int) * (c : Int)) + (d : Int)) = (((x * c + d) % 18446744073709551616 : Nat) : Int) := by
  rw [wrap_u64_eq, wrap_u64_eq, Int.emod_add_emod]; rfl

section
set_option maxHeartbeats 800000
set_option maxRecDepth 100000
theorem round_any (a x : Nat) (w : World) (ha : a < 18446744073709551616) (hx : x < 18446744073709551616) :
    Calls Tryd.prog 46 #[.int .u64 (a : Nat), .int .u64 (x : Nat)] w fun e w' => e = .returned (.int .u64 (xround a x : Nat)) ∧ w = w' := by
  have h1 : IntKind.u64.wrap ((a : Int) + IntKind.u64.wrap ((x : Int) * 14029467366897019727)) = (((a + x * 14029467366897019727) % 18446744073709551616 : Nat) : Int) := W1 a x 14029467366897019727
  have hl : (a + x * 14029467366897019727) % 18446744073709551616 < 18446744073709551616 := Nat.mod_lt _ (by decide)
  have hr : xround a x = rotl ((a + x * 14029467366897019727) % 18446744073709551616) 31 * 11400714785074694791 % 18446744073709551616 := by simp only [xround, q1, q2]
  rw [hr]
  clear hr
  generalize (a + x * 14029467366897019727) % 18446744073709551616 = y at *
  have h2 := W2 (rotl y 31) 11400714785074694791
  have H2 := Lib.hid h2; clear h2
  go_enter Tryd.func46, Tryd.ntmps46
  go_wp2_with fail
  refine (rot64_any y 31 w hl (by decide) (by decide)).mono ?_
  rintro e w' ⟨rfl, rfl⟩
  clear h1
  go_wp2
  go_ret
  exact ⟨ret_u64 H2.out, rfl⟩
theorem merge_any (h a : Nat) (w : World) (hh : h < 18446744073709551616) (ha : a < 18446744073709551616) :
    Calls Tryd.prog 49 #[.int .u64 (h : Nat), .int .u64 (a : Nat)] w fun e w' => e = .returned (.int .u64 (xmerge h a : Nat)) ∧ w = w' := by
  have hr : xmerge h a = ((h ^^^ xround 0 a) * 11400714785074694791 + 9650029242287828579) % 18446744073709551616 := by simp only [xmerge, q1, q4]
  rw [hr]
  clear hr
  have hx := u64_xor_nat h (xround 0 a) hh (xround_lt _ _)
  have h3 := W3 (h ^^^ xround 0 a) 11400714785074694791 9650029242287828579
  have H3 := Lib.hid h3; clear h3
  generalize h ^^^ xround 0 a = y at *
  go_enter Tryd.func49, Tryd.ntmps49
  go_wp2_with fail
  refine (round_any 0 a w (by decide) ha).mono ?_
  rintro e w' ⟨rfl, rfl⟩
  go_wp2
  go_ret
  exact ⟨ret_u64 H3.out, rfl⟩
theorem settle_eq (h y z u v t : Nat) (hz : h ^^^ (h / 8589934592) = z) (hy : z * 14029467366897019727 % 18446744073709551616 = y) (hv : y ^^^ (y / 536870912) = v) (hu : v * 1609587929392839161 % 18446744073709551616 = u) (ht : u ^^^ (u / 4294967296) = t) : xsettle h = t := by
  simp only [xsettle, q2, q3, hz, hy, hv, hu, ht]
theorem settled_any (h : Nat) (w : World) (hh : h < 18446744073709551616) :
    Calls Tryd.prog 33 #[.int .u64 (h : Nat)] w fun e w' => e = .returned (.int .u64 (xsettle h : Nat)) ∧ w = w' := by
  obtain ⟨z, hz⟩ : ∃ z, h ^^^ (h / 8589934592) = z := ⟨_, rfl⟩
  obtain ⟨y, hy⟩ : ∃ y, z * 14029467366897019727 % 18446744073709551616 = y := ⟨_, rfl⟩
  obtain ⟨v, hv⟩ : ∃ v, y ^^^ (y / 536870912) = v := ⟨_, rfl⟩
  obtain ⟨u, hu⟩ : ∃ u, v * 1609587929392839161 % 18446744073709551616 = u := ⟨_, rfl⟩
  obtain ⟨t, ht⟩ : ∃ t, u ^^^ (u / 4294967296) = t := ⟨_, rfl⟩
  rw [settle_eq h y z u v t hz hy hv hu ht]
  have l1 : y < 18446744073709551616 := by rw [← hy]; exact Nat.mod_lt _ (by decide)
  have l2 : u < 18446744073709551616 := by rw [← hu]; exact Nat.mod_lt _ (by decide)
  have x1 : bits .xor .u64 (h : Int) ((h : Int) / 8589934592) = ((z : Nat) : Int) := by rw [← hz]; exact u64_xor_nat h (h / 8589934592) hh (by omega)
  have m1 : IntKind.u64.wrap ((z : Int) * 14029467366897019727) = (y : Int) := by rw [← hy]; exact W2 z 14029467366897019727
  have x2 : bits .xor .u64 (y : Int) ((y : Int) / 536870912) = (v : Int) := by rw [← hv]; exact u64_xor_nat y (y / 536870912) l1 (by omega)
  have m2 : IntKind.u64.wrap ((v : Int) * 1609587929392839161) = (u : Int) := by rw [← hu]; exact W2 v 1609587929392839161
  have x3 : bits .xor .u64 (u : Int) ((u : Int) / 4294967296) = (t : Int) := by rw [← ht]; exact u64_xor_nat u (u / 4294967296) l2 (by omega)
  clear hz hy hv hu ht
  go_enter Tryd.func33, Tryd.ntmps33
  go_wp2
  go_ret
  exact ⟨rfl, rfl⟩
end
end
section
set_option linter.unusedVariables false
set_option linter.unusedSimpArgs false
open Go.RowKit

theorem leN_le (xs : List UInt8) (k : Nat) (h : xs.length ≤ k) : leN xs < 2 ^ (8 * k) := by
  have := leN_lt xs
  rw [show 256 = 2 ^ 8 from rfl, ← Nat.pow_mul] at this
  exact Nat.lt_of_lt_of_le this (Nat.pow_le_pow_right (by decide) (by omega))
theorem leN_take_succ {xs : List UInt8} {k : Nat} (h : k < xs.length) : leN (xs.take (k + 1)) = leN (xs.take k) + bt xs k * 2 ^ (8 * k) := by
  have e : bt xs k = xs[k].toNat := by simp [bt, List.getD, h]
  rw [List.take_succ_eq_append_getElem h, leN_snoc, List.length_take, Nat.min_eq_left (by omega), e]
/-- What another byte does. -/
theorem leN_round {xs : List UInt8} {k : Nat} (h : k < xs.length) (hk : k < 8) :
    leN (xs.take k) < 18446744073709551616 ∧ bt xs k * 2 ^ (8 * k) < 18446744073709551616 ∧ leN (xs.take k) ||| bt xs k * 2 ^ (8 * k) = leN (xs.take (k + 1)) ∧ leN (xs.take (k + 1)) < 18446744073709551616 := by
  have h1 := leN_le (xs.take k) k (List.length_take_le _ _)
  have h2 := leN_le (xs.take (k + 1)) (k + 1) (List.length_take_le _ _)
  have h3 : 2 ^ (8 * (k + 1)) ≤ 2 ^ 64 := Nat.pow_le_pow_right (by decide) (by omega)
  have h4 := leN_take_succ h
  have h5 := or_beside (leN (xs.take k)) (bt xs k) (8 * k) h1
  refine ⟨?_, ?_, by rw [h5, h4], ?_⟩ <;> omega

section
set_option maxHeartbeats 800000
set_option maxRecDepth 100000
theorem number_any (w : World) (A : Option Addr) (c m n : Nat) (xs : List UInt8) (hm : xs.length = m) (hx : Rd w A (xs.map Bv)) (hn : n ≤ m) (hmc : m ≤ c) (hn8 : n ≤ 8) (hc : c ≤ 9223372036854775807) :
    Calls Tryd.prog 47 #[.slice A m c, .int .i64 (n : Nat)] w fun e w' => e = .returned (.int .u64 (leN (xs.take n) : Nat)) ∧ w = w' := by
  have HM := Lib.hid hm; clear hm
  go_enter Tryd.func47, Tryd.ntmps47
  go_wp2_with (first
    | (refine wpList_slice_any (o := ⟨some 10, _, _, _, _, _⟩) ?_ 28 (.tmp 8) none (some (.tmp 9)) ?_ 5 Tryd.underlying28 (by kernel_rfl) A m c 0 n ?_ ?_ ?_ (Nat.zero_le _) (by omega) ?_; rfl; rfl; rfl; exact .inr ⟨rfl, rfl⟩; exact .inl rfl; intro A2 hA2 hrd2)
    | fail)
  have hx2 := hrd2 _ (by rw [List.length_map, HM.out]; exact hmc) hx
  rw [List.drop_zero] at hx2
  clear hrd2 hA2
  go_wp2
  go_loopw [5, 12] (fun v i wr => ∃ k : Nat, k ≤ n ∧ i = .int .i64 k ∧ v = .int .u64 (leN (xs.take k) : Nat) ∧ wr = w) (fun _ i _ => n - (intOf i).toNat)
  case atStart => exact ⟨0, by omega, rfl, rfl, rfl⟩
  case round =>
    obtain ⟨k, hk, rfl, rfl, rfl⟩ := hrel
    by_cases hlt : k < n
    · have hkx : k < xs.length := by rw [HM.out]; omega
      obtain ⟨b, off, rfl, hcl⟩ := hx2.at (by omega)
      have hck := hcl k hkx
      obtain ⟨l1, l2, ho, l3⟩ := leN_round hkx (by omega)
      have hb8 := bt_lt xs k
      obtain ⟨e, he⟩ : ∃ e, e = 8 * k := ⟨_, rfl⟩
      have he2 : (8 : Int) * (k : Int) = (e : Int) := by omega
      have he3 : e ≤ 56 := by omega
      rw [← he] at l2 ho
      have HE := Lib.hid he; clear he hcl
      generalize bt xs k = p at *
      have hs1 : (p : Int) * 2 ^ e = ((p * 2 ^ e : Nat) : Int) := by rw [natCast_two_pow]; rfl
      have hs2 : IntKind.u64.wrap ((p : Int) * 2 ^ e) = ((p * 2 ^ e : Nat) : Int) := by rw [wrap_u64_eq, hs1]; omega
      have hor := u64_or_nat _ _ l1 l2
      rw [ho] at hor
      have HS := Lib.hid hs1; clear hs1 ho
      generalize p * 2 ^ e = y at *
      obtain ⟨x1, hx1⟩ : ∃ x1, x1 = leN (xs.take (k + 1)) := ⟨_, rfl⟩
      rw [← hx1] at hor l3
      have HX1 := Lib.hid hx1; clear hx1
      generalize leN (xs.take k) = x0 at *
      go_wp2
      go_roundw
      case rel => exact ⟨k + 1, by omega, by go_num, by rw [HX1.out], by first | rfl | trivial⟩
      case measure => simp [intOf]; omega
    · have hkn : k = n := by omega
      have HK := Lib.hid hkn; clear hkn
      go_wp2
      go_ret
      exact ⟨by rw [HK.out]; rfl, rfl⟩
end
end
section
set_option linter.unusedVariables false
set_option linter.unusedSimpArgs false
open Go.RowKit

/-- One byte more. -/
theorem tailsB_succ {h : Nat} {ys : List UInt8} {k : Nat} (hk : k < ys.length) : tailsB h (ys.take (k + 1)) = (rotl (tailsB h (ys.take k) ^^^ (bt ys k * 2870177450012600261 % 18446744073709551616)) 11 * 11400714785074694791) % 18446744073709551616 := by
  have e : bt ys k = ys[k].toNat := by simp [bt, List.getD, hk]
  rw [List.take_succ_eq_append_getElem hk, tailsB, List.foldl_append, List.foldl_cons, List.foldl_nil, e]
  simp only [tail1, tailsB, q1, q5]
theorem tail8_eq (h : Nat) (xs : List UInt8) (l z r : Nat) (hl : leN (xs.take 8) = l) (hz : h ^^^ xround 0 l = z) (hr : rotl z 27 = r) : tail8 h xs = (r * 11400714785074694791 + 9650029242287828579) % 18446744073709551616 := by
  simp only [tail8, q1, q4, hl, hz, hr]
theorem tail4_eq (h : Nat) (xs : List UInt8) (l y z r : Nat) (hl : leN (xs.take 4) = l) (hy : l * 11400714785074694791 % 18446744073709551616 = y) (hz : h ^^^ y = z) (hr : rotl z 23 = r) : tail4 h xs = (r * 14029467366897019727 + 1609587929392839161) % 18446744073709551616 := by
  simp only [tail4, q1, q2, q3, hl, hy, hz, hr]
theorem leN_take_lt (xs : List UInt8) (k : Nat) (h : k ≤ 8) : leN (xs.take k) < 18446744073709551616 := by
  have h1 := leN_le (xs.take k) k (List.length_take_le _ _)
  have h3 : 2 ^ (8 * k) ≤ 2 ^ 64 := Nat.pow_le_pow_right (by decide) (by omega)
  omega

section
set_option maxHeartbeats 1600000
set_option maxRecDepth 100000
theorem ended_any (w : World) (h : Nat) (A : Option Addr) (c n : Nat) (xs : List UInt8) (hh : h < 18446744073709551616) (hm : xs.length = n) (hx : Rd w A (xs.map Bv)) (hmc : n ≤ c) (hc : c ≤ 9223372036854775807) :
    Calls Tryd.prog 34 #[.int .u64 (h : Nat), .slice A n c] w fun e w' => e = .returned (.int .u64 (xend h xs : Nat)) ∧ w = w' := by
  have HM := Lib.hid hm; clear hm
  go_enter Tryd.func34, Tryd.ntmps34
  go_wp2
  go_loopw [0, 1] (fun v s wr => ∃ (j : Nat) (A' : Option Addr) (c' : Nat), 8 * j ≤ n ∧ n - 8 * j ≤ c' ∧ c' ≤ 9223372036854775807 ∧ v = .int .u64 (tails8 h j xs : Nat) ∧ s = .slice A' (n - 8 * j) c' ∧ Rd w A' ((xs.drop (8 * j)).map Bv) ∧ wr = w) (fun _ s _ => match s with | .slice _ m _ => m | _ => 0)
  case atStart => exact ⟨0, A, c, by omega, by omega, hc, rfl, rfl, hx, rfl⟩
  case round =>
    obtain ⟨j, A', c', hj, hjc, hc', rfl, rfl, hrd, rfl⟩ := hrel
    have hlen : (xs.drop (8 * j)).length = n - 8 * j := by rw [List.length_drop, HM.out]
    have hgl := tails8_lt hh j xs
    by_cases hlt : 8 ≤ n - 8 * j
    · have hst : tails8 h (j + 1) xs = tail8 (tails8 h j xs) (xs.drop (8 * j)) := tails8_succ h j xs
      have hll := leN_take_lt (xs.drop (8 * j)) 8 (by decide)
      generalize tails8 h j xs = g at *
      obtain ⟨l, hl⟩ : ∃ l, leN ((xs.drop (8 * j)).take 8) = l := ⟨_, rfl⟩
      obtain ⟨z, hz⟩ : ∃ z, g ^^^ xround 0 l = z := ⟨_, rfl⟩
      obtain ⟨r, hr⟩ : ∃ r, rotl z 27 = r := ⟨_, rfl⟩
      rw [tail8_eq g _ l z r hl hz hr] at hst
      rw [hl] at hll
      have hx1 := u64_xor_nat g (xround 0 l) hgl (xround_lt _ _)
      have hzl := xor_lt64 hgl (xround_lt 0 l)
      rw [hz] at hx1 hzl
      have w3 : IntKind.u64.wrap (IntKind.u64.wrap ((r : Int) * 11400714785074694791) + 9650029242287828579) = (((r * 11400714785074694791 + 9650029242287828579) % 18446744073709551616 : Nat) : Int) := W3 r 11400714785074694791 9650029242287828579
      obtain ⟨g1, hg1⟩ : ∃ g1, g1 = tails8 h (j + 1) xs := ⟨_, rfl⟩
      rw [← hst, ← hg1] at w3
      have HL := Lib.hid hl; clear hl
      have HZ := Lib.hid hz; clear hz
      have HR := Lib.hid hr; clear hr
      have HG1 := Lib.hid hg1; clear hg1 hst
      have HLEN := Lib.hid hlen; clear hlen
      go_wp2_with fail
      refine (number_any _ A' c' (n - 8 * j) 8 (xs.drop (8 * j)) HLEN.out hrd hlt hjc (by decide) hc').mono ?_
      rintro _ w' ⟨rfl, rfl⟩
      rw [HL.out]
      go_wp2_with fail
      refine (round_any 0 l _ (by decide) hll).mono ?_
      rintro _ w' ⟨rfl, rfl⟩
      go_wp2_with fail
      refine (rot64_any z 27 _ hzl (by decide) (by decide)).mono ?_
      rintro _ w' ⟨rfl, rfl⟩
      rw [HR.out]
      go_wp2_with (first
        | (refine wpList_slice_any (o := ⟨some 20, _, _, _, _, _⟩) ?_ 28 (.tmp 19) (some (.const (.int .i64 8))) none ?_ 5 Tryd.underlying28 (by kernel_rfl) A' (n - 8 * j) c' 8 (n - 8 * j) ?_ ?_ ?_ hlt hjc ?_; rfl; rfl; rfl; exact .inl rfl; exact .inr ⟨rfl, rfl⟩; intro A2 hA2 hrd2)
        | fail)
      have hd := hrd2 _ (by rw [List.length_map, HLEN.out]; exact hjc) hrd
      rw [← List.map_drop, List.drop_drop] at hd
      go_roundw
      case rel => exact ⟨j + 1, A2, c' - 8, by omega, by omega, by omega, by rw [HG1.out], by rw [show n - 8 * (j + 1) = n - 8 * j - 8 from by omega], by rw [show 8 * (j + 1) = 8 * j + 8 from by omega]; exact hd, by first | rfl | trivial⟩
      case measure => simp; omega
    · have hje : xs.length / 8 = j := by rw [HM.out]; omega
      by_cases h4 : 4 ≤ n - 8 * j
      · obtain ⟨ys, hys⟩ : ∃ ys, ys = (xs.drop (8 * j)).drop 4 := ⟨_, rfl⟩
        have hend : xend h xs = tailsB (tail4 (tails8 h j xs) (xs.drop (8 * j))) ys := by
          simp only [xend, hje]
          rw [if_pos (by rw [hlen]; exact h4), hys]
        have hyl : ys.length = n - 8 * j - 4 := by rw [hys, List.length_drop, hlen]
        have hll := leN_take_lt (xs.drop (8 * j)) 4 (by decide)
        generalize tails8 h j xs = g at *
        obtain ⟨l, hl⟩ : ∃ l, leN ((xs.drop (8 * j)).take 4) = l := ⟨_, rfl⟩
        obtain ⟨y, hyy⟩ : ∃ y, l * 11400714785074694791 % 18446744073709551616 = y := ⟨_, rfl⟩
        obtain ⟨z, hz⟩ : ∃ z, g ^^^ y = z := ⟨_, rfl⟩
        obtain ⟨r, hr⟩ : ∃ r, rotl z 23 = r := ⟨_, rfl⟩
        rw [tail4_eq g _ l y z r hl hyy hz hr] at hend
        rw [hl] at hll
        have hyl2 : y < 18446744073709551616 := by rw [← hyy]; exact Nat.mod_lt _ (by decide)
        have w1 : IntKind.u64.wrap ((l : Int) * 11400714785074694791) = (y : Int) := by rw [← hyy]; exact W2 l 11400714785074694791
        have x1 := u64_xor_nat g y hgl hyl2
        have hzl := xor_lt64 hgl hyl2
        rw [hz] at x1 hzl
        obtain ⟨g0, hg0e⟩ : ∃ g0, g0 = (r * 14029467366897019727 + 1609587929392839161) % 18446744073709551616 := ⟨_, rfl⟩
        rw [← hg0e] at hend
        have w3 : IntKind.u64.wrap (IntKind.u64.wrap ((r : Int) * 14029467366897019727) + 1609587929392839161) = (g0 : Int) := by rw [hg0e]; exact W3 r 14029467366897019727 1609587929392839161
        have hg0 : g0 < 18446744073709551616 := by rw [hg0e]; exact Nat.mod_lt _ (by decide)
        have HL := Lib.hid hl; clear hl
        have HR := Lib.hid hr; clear hr
        have HLEN := Lib.hid hlen; clear hlen
        have HEND := Lib.hid hend; clear hend
        have HYL := Lib.hid hyl; clear hyl
        have HYS := Lib.hid hys; clear hys
        clear hyy hz hg0e hje
        go_wp2_with fail
        refine (number_any _ A' c' (n - 8 * j) 4 (xs.drop (8 * j)) HLEN.out hrd h4 hjc (by decide) hc').mono ?_
        rintro _ w' ⟨rfl, rfl⟩
        rw [HL.out]
        go_wp2_with fail
        refine (rot64_any z 23 _ hzl (by decide) (by decide)).mono ?_
        rintro _ w' ⟨rfl, rfl⟩
        rw [HR.out]
        go_wp2_with (first
          | (refine wpList_slice_any (o := ⟨some 34, _, _, _, _, _⟩) ?_ 28 (.tmp 33) (some (.const (.int .i64 4))) none ?_ 5 Tryd.underlying28 (by kernel_rfl) A' (n - 8 * j) c' 4 (n - 8 * j) ?_ ?_ ?_ h4 hjc ?_; rfl; rfl; rfl; exact .inl rfl; exact .inr ⟨rfl, rfl⟩; intro A2 hA2 hrd2)
          | fail)
        have hy := hrd2 _ (by rw [List.length_map, HLEN.out]; exact hjc) hrd
        rw [← List.map_drop, ← HYS.out] at hy
        clear hrd2 w1 w3 x1
        go_loopw [0, 37] (fun v i wq => ∃ k : Nat, k ≤ (n - 8 * j - 4) ∧ i = .int .i64 k ∧ v = .int .u64 (tailsB g0 (ys.take k) : Nat) ∧ wq = wr) (fun _ i _ => (n - 8 * j - 4) - (intOf i).toNat)
        case atStart => exact ⟨0, by omega, rfl, rfl, rfl⟩
        case round =>
          obtain ⟨k, hk, rfl, rfl, rfl⟩ := hrel
          by_cases hlt2 : k < (n - 8 * j - 4)
          · have hkx : k < ys.length := by rw [HYL.out]; exact hlt2
            obtain ⟨b, off, rfl, hcl⟩ := hy.at (by omega)
            have hck := hcl k hkx
            have hb8 := bt_lt ys k
            have hst := tailsB_succ (h := g0) hkx
            have hll := tailsB_lt hg0 (ys.take k)
            generalize bt ys k = p at *
            generalize tailsB g0 (ys.take k) = g at *
            obtain ⟨y, hyy⟩ : ∃ y, p * 2870177450012600261 % 18446744073709551616 = y := ⟨_, rfl⟩
            obtain ⟨z, hz⟩ : ∃ z, g ^^^ y = z := ⟨_, rfl⟩
            obtain ⟨r, hr⟩ : ∃ r, rotl z 11 = r := ⟨_, rfl⟩
            rw [hyy, hz, hr] at hst
            have hyl2 : y < 18446744073709551616 := by rw [← hyy]; exact Nat.mod_lt _ (by decide)
            have w1 : IntKind.u64.wrap ((p : Int) * 2870177450012600261) = (y : Int) := by rw [← hyy]; exact W2 p 2870177450012600261
            have x1 := u64_xor_nat g y hll hyl2
            have hzl := xor_lt64 hll hyl2
            rw [hz] at x1 hzl
            obtain ⟨g1, hg1⟩ : ∃ g1, g1 = tailsB g0 (ys.take (k + 1)) := ⟨_, rfl⟩
            rw [← hg1] at hst
            have w2 : IntKind.u64.wrap ((r : Int) * 11400714785074694791) = (g1 : Int) := by rw [hst]; exact W2 r 11400714785074694791
            have HR := Lib.hid hr
            have HG1 := Lib.hid hg1
            clear hyy hz hr hg1 hst hcl
            go_wp2_with fail
            refine (rot64_any z 11 _ hzl (by decide) (by decide)).mono ?_
            rintro _ w' ⟨rfl, rfl⟩
            rw [HR.out]
            go_wp2
            go_roundw
            case rel => exact ⟨k + 1, by omega, by go_num, by rw [HG1.out], by first | rfl | trivial⟩
            case measure => simp [intOf]; omega
          · have hkn : ys.take k = ys := List.take_of_length_le (by rw [HYL.out]; omega)
            rw [hkn]
            clear hkn
            go_wp2
            go_ret
            exact ⟨by rw [HEND.out]; rfl, rfl⟩
      · obtain ⟨ys, hys⟩ : ∃ ys, ys = xs.drop (8 * j) := ⟨_, rfl⟩
        have hend : xend h xs = tailsB (tails8 h j xs) ys := by
          simp only [xend, hje]
          rw [if_neg (by rw [hlen]; exact h4), hys]
        have HYL : Hid (ys.length = n - 8 * j) := by rw [hys]; exact Lib.hid hlen
        have hy := hrd
        rw [← hys] at hy
        have hg0 := hgl
        generalize tails8 h j xs = g0 at *
        have HEND := Lib.hid hend; clear hend
        have HYS := Lib.hid hys; clear hys hje hlen
        go_wp2
        go_loopw [0, 37] (fun v i wq => ∃ k : Nat, k ≤ (n - 8 * j) ∧ i = .int .i64 k ∧ v = .int .u64 (tailsB g0 (ys.take k) : Nat) ∧ wq = wr) (fun _ i _ => (n - 8 * j) - (intOf i).toNat)
        case atStart => exact ⟨0, by omega, rfl, rfl, rfl⟩
        case round =>
          obtain ⟨k, hk, rfl, rfl, rfl⟩ := hrel
          by_cases hlt2 : k < (n - 8 * j)
          · have hkx : k < ys.length := by rw [HYL.out]; exact hlt2
            obtain ⟨b, off, rfl, hcl⟩ := hy.at (by omega)
            have hck := hcl k hkx
            have hb8 := bt_lt ys k
            have hst := tailsB_succ (h := g0) hkx
            have hll := tailsB_lt hg0 (ys.take k)
            generalize bt ys k = p at *
            generalize tailsB g0 (ys.take k) = g at *
            obtain ⟨y, hyy⟩ : ∃ y, p * 2870177450012600261 % 18446744073709551616 = y := ⟨_, rfl⟩
            obtain ⟨z, hz⟩ : ∃ z, g ^^^ y = z := ⟨_, rfl⟩
            obtain ⟨r, hr⟩ : ∃ r, rotl z 11 = r := ⟨_, rfl⟩
            rw [hyy, hz, hr] at hst
            have hyl2 : y < 18446744073709551616 := by rw [← hyy]; exact Nat.mod_lt _ (by decide)
            have w1 : IntKind.u64.wrap ((p : Int) * 2870177450012600261) = (y : Int) := by rw [← hyy]; exact W2 p 2870177450012600261
            have x1 := u64_xor_nat g y hll hyl2
            have hzl := xor_lt64 hll hyl2
            rw [hz] at x1 hzl
            obtain ⟨g1, hg1⟩ : ∃ g1, g1 = tailsB g0 (ys.take (k + 1)) := ⟨_, rfl⟩
            rw [← hg1] at hst
            have w2 : IntKind.u64.wrap ((r : Int) * 11400714785074694791) = (g1 : Int) := by rw [hst]; exact W2 r 11400714785074694791
            have HR := Lib.hid hr
            have HG1 := Lib.hid hg1
            clear hyy hz hr hg1 hst hcl
            go_wp2_with fail
            refine (rot64_any z 11 _ hzl (by decide) (by decide)).mono ?_
            rintro _ w' ⟨rfl, rfl⟩
            rw [HR.out]
            go_wp2
            go_roundw
            case rel => exact ⟨k + 1, by omega, by go_num, by rw [HG1.out], by first | rfl | trivial⟩
            case measure => simp [intOf]; omega
          · have hkn : ys.take k = ys := List.take_of_length_le (by rw [HYL.out]; omega)
            rw [hkn]
            clear hkn
            go_wp2
            go_ret
            exact ⟨by rw [HEND.out]; rfl, rfl⟩
end
end
section
set_option linter.unusedVariables false
set_option linter.unusedSimpArgs false
open Go.RowKit

theorem rd_mark (w : World) (cs : List Value) (t : TypeId) (fr : Nat × Nat) : Rd (w.alloc (.cells cs.toArray t fr)) (some ⟨w.heap.size, 0, none⟩) cs := by
  intro k v hv
  refine ⟨_, 0, rfl, ?_⟩
  rw [World.cell?_alloc_mark]
  simpa using hv
theorem lit_bytes (w : World) (C : Array Value) (n c : Nat) : (convert 28 28 (.slice (some ⟨w.heap.size, 0, none⟩) n c)).run Tryd.prog (w.alloc (.cells C 5)) = .ok (.slice (some ⟨w.heap.size, 0, none⟩) n c) (w.alloc (.cells C 5 (C.size, C.size + 1))) :=
  Lib.run_convert_bytes_const w 28 5 C n c Tryd.underlying28 Tryd.underlying5
theorem lit_bytes_at (w : World) (C : Array Value) (n c g : Nat) (hg : g = w.heap.size) : (convert 28 28 (.slice (some ⟨g, 0, none⟩) n c)).run Tryd.prog (w.alloc (.cells C 5)) = .ok (.slice (some ⟨g, 0, none⟩) n c) (w.alloc (.cells C 5 (C.size, C.size + 1))) := by
  subst hg; exact lit_bytes w C n c
end
section
set_option linter.unusedVariables false
set_option linter.unusedSimpArgs false
open Go.ChangeShapes Go.WideShapes Go.ChangeAt Go.RowKit

/-- All arguments read as they did, below the old heap's size nothing having moved. -/
theorem trodAll_below {H : Type} {enc : TypeId × Value → H} {P : Program} (hl : laidOutB P = true) {W W' : World} (hb : Below W.heap.size W W') :
    ∀ {ts : List TypeId} {vs : List Value} {ds : List (DataW H)} {ps : List MemPlace}, (ts.all fun t => P.readableRec t && decide (t < P.types.size)) = true →
      DataW.TrodAll enc P W 0 (fun _ => true) true ts vs ds ps → (∀ x ∈ ps, x.block < W.heap.size) → DataW.TrodAll enc P W' 0 (fun b => decide (b < W.heap.size)) true ts vs ds ps
  | [], [], [], _, _, h, _ => h
  | t :: ts, v :: vs, d :: ds, ps, hr, ⟨p, q, h1, h2, e⟩, hlt => by
    simp only [List.all_cons, Bool.and_eq_true, decide_eq_true_eq] at hr
    subst e
    exact ⟨p, q, Below.trod hl hr.1.1 hr.1.2 h1 hb (fun x hx => hlt x (List.mem_append_left _ hx)), trodAll_below hl hb hr.2 h2 (fun x hx => hlt x (List.mem_append_right _ hx)), rfl⟩
  | [], [], _ :: _, _, _, h, _ => h.elim
  | [], _ :: _, [], _, _, h, _ => h.elim
  | [], _ :: _, _ :: _, _, _, h, _ => h.elim
  | _ :: _, [], _, _, _, h, _ => h.elim
  | _ :: _, _ :: _, [], _, _, h, _ => h.elim

/-- A law's row: the call returned true, and below the old heap's size nothing has moved. -/
theorem law_end {H : Type} {enc : TypeId × Value → H} {P : Program} {f : Func} {s : ChangeSpec} {W W' : World} {args : Array Value} {ds gs : List (DataW H)} {before : List MemPlace} {t : TypeId}
    (hl : laidOutB P = true) (hpar : (f.params.toList.all fun t => P.readableRec t && decide (t < P.types.size)) = true) (hres : f.resultTypes = #[t]) (ht : P.underlying t = some .bool)
    (hvars : s.vars = []) (hW : DataW.Whole enc P f.params.toList s.vars false W args.toList ds gs before)
    (hfn : (s.fn H (ds ++ gs)).results = [.lit (.bool true)] ∧ (s.fn H (ds ++ gs)).args = ds ∧ (s.fn H (ds ++ gs)).vars = []) (hb : Below W.heap.size W W') :
    s.post enc P f false true false false W args (.bool true) W' := by
  have hlt := hW.lt
  have hW' := hW
  obtain ⟨p, q, hA, hV, rfl, _, _⟩ := hW
  rw [hvars] at hV
  obtain ⟨hg, hq⟩ := trodVars_none hV
  subst hq
  refine ⟨ds, gs, p ++ [], [], p, [], hW', ?_, ?_, ?_, hb.frame _, fun h => by cases h⟩
  · rw [hfn.1, hres]
    exact trodAll_mk1 (shut_bool ht true)
  · rw [hfn.2.1]
    exact trodAll_below hl hb hpar hA (fun x hx => hlt x (List.mem_append_left _ hx))
  · rw [hfn.2.2, hvars]
    exact rfl

section
variable {H : Type} {enc : TypeId × Value → H} {P : Program} {W : World} {r : Reach} {b0 : Nat} {v : Value} {d : DataW H} {ps : List MemPlace}

theorem addr_flat {w : World} {a : Addr} {n : Nat} {u : Value} (h : w.cell? (a.add n) = some u) : (∃ b off, a.add n = ⟨b, off + n, none⟩ ∧ (n = 0 → a = ⟨b, off, none⟩) ∧ b = a.block ∧ off = a.off) := by
  by_cases hn : n = 0
  · subst hn
    have hs : a.spot = none := by simpa [Addr.add] using World.cell?_spot h
    obtain ⟨b, off, spot⟩ := a
    simp at hs
    subst hs
    exact ⟨b, off, by simp [Addr.add], fun _ => rfl, rfl, rfl⟩
  · exact ⟨a.block, a.off, by simp [Addr.add, hn], fun h => absurd h hn, rfl, rfl⟩

/-- A row of integers that came in. -/
theorem open_rd {t e : TypeId} {k : IntKind} (ht : P.underlying t = some (.slice e)) (he : P.underlying e = some (.int k)) (hc : P.cellsOf e = 1)
    (hval : Value.okWide P W r b0 t v) (h : DataW.Trod enc P W 0 (fun _ => true) true t v d ps) :
    ∃ (A : Option Addr) (cap : Nat) (zs : List Int), v = .slice A zs.length cap ∧ (zs.length ≤ cap ∧ cap ≤ maxLen) ∧ Rd W A (zs.map (Value.int k)) ∧ (∀ n ∈ zs, (Lit.int k n).wf = true) := by
  obtain ⟨a0, len, cap, rfl⟩ := okWide_slice ht hval
  obtain ⟨fuel, hf⟩ := h
  rcases open_ints ht he hc hf with ⟨hcs, _⟩ | ⟨a, len', cap', zs, hcs, _, hl, hm, hz, _, hcell, hwz⟩
  · simp [Value.cells] at hcs
    obtain ⟨rfl, rfl, rfl⟩ := hcs
    exact ⟨none, 0, [], rfl, ⟨by decide, by decide⟩, Rd.nil _ _, by simp⟩
  · simp [Value.cells] at hcs
    obtain ⟨rfl, rfl, rfl⟩ := hcs
    simp only [if_true] at hz
    have hlen : (zs.take len).length = len := by simp; omega
    refine ⟨some a, cap, zs.take len, by rw [hlen], ⟨by omega, hm⟩, fun j u hu => ?_, fun n hn => hwz n (List.mem_of_mem_take hn)⟩
    have hj : j < len := by
      have := (List.getElem?_eq_some_iff.1 hu).1
      rw [List.length_map, hlen] at this
      exact this
    have h0 := hcell 0 (by omega)
    obtain ⟨b, off, _, h00, _, _⟩ := addr_flat h0
    have := h00 rfl
    subst this
    have hcj := hcell j (by omega)
    refine ⟨b, off, rfl, ?_⟩
    rw [add_plain] at hcj
    rw [hcj, ← hu]
    simp [List.getD, hj, show j < zs.length by omega]
/-- A row of bytes that came in. -/
theorem open_bytes {t e : TypeId} (ht : P.underlying t = some (.slice e)) (he : P.underlying e = some (.int .u8)) (hc : P.cellsOf e = 1)
    (hval : Value.okWide P W r b0 t v) (h : DataW.Trod enc P W 0 (fun _ => true) true t v d ps) :
    ∃ (A : Option Addr) (cap : Nat) (xs : List UInt8), v = .slice A xs.length cap ∧ (xs.length ≤ cap ∧ cap ≤ maxLen) ∧ Rd W A (xs.map Bv) := by
  obtain ⟨A, cap, zs, rfl, hm, hr, hw⟩ := open_rd ht he hc hval h
  refine ⟨A, cap, zs.map fun z => UInt8.ofNat z.toNat, by simp, by simpa using hm, ?_⟩
  have e : (zs.map fun z => UInt8.ofNat z.toNat).map Bv = zs.map (Value.int .u8) := by
    rw [List.map_map]
    refine List.map_congr_left fun z hz => ?_
    have hb := bounds_u8 (hw z hz)
    simp only [Function.comp, Bv]
    congr 1
    rw [UInt8.toNat_ofNat', Nat.mod_eq_of_lt (by omega)]
    omega
  rw [e]
  exact hr
end
end
section
set_option linter.unusedVariables false
set_option linter.unusedSimpArgs false
open Go.ChangeShapes Go.WideShapes Go.ChangeAt Go.RowKit

/-- The cells from an address on are a list of rows of bytes. -/
def RowsRd (w : World) (A : Option Addr) (P : List (Option Addr × Nat × List UInt8)) : Prop := Rd w A (P.map partV) ∧ ∀ p ∈ P, Rd w p.1 (p.2.2.map Bv) ∧ p.2.2.length ≤ p.2.1 ∧ p.2.1 ≤ maxLen
theorem RowsRd.below {w w' : World} {A : Option Addr} {P : List (Option Addr × Nat × List UInt8)} (h : RowsRd w A P) (hb : Below w.heap.size w w') : RowsRd w' A P :=
  ⟨h.1.below hb, fun p hp => ⟨(h.2 p hp).1.below hb, (h.2 p hp).2⟩⟩
theorem RowsRd.drewN {w : World} {A : Option Addr} {P : List (Option Addr × Nat × List UInt8)} (h : RowsRd w A P) (n : Nat) : RowsRd (w.drewN n) A P := h
theorem RowsRd.take {w : World} {A : Option Addr} {P : List (Option Addr × Nat × List UInt8)} (h : RowsRd w A P) (n : Nat) : RowsRd w A (P.take n) :=
  ⟨by rw [List.map_take]; exact h.1.take n, fun p hp => h.2 p (List.mem_of_mem_take hp)⟩
end
section
set_option linter.unusedVariables false
set_option linter.unusedSimpArgs false
open Go.RowKit

theorem or_lt8 {a b : Nat} (ha : a < 256) (hb : b < 256) : a ||| b < 256 := Nat.or_lt_two_pow (n := 8) ha hb
theorem xor_lt8 {a b : Nat} (ha : a < 256) (hb : b < 256) : a ^^^ b < 256 := Nat.xor_lt_two_pow (n := 8) ha hb
theorem xor_zero_iff {a b : Nat} : a ^^^ b = 0 ↔ a = b := by
  constructor
  · intro h
    have : (a ^^^ b) ^^^ b = 0 ^^^ b := by rw [h]
    rwa [Nat.xor_assoc, Nat.xor_self, Nat.xor_zero, Nat.zero_xor] at this
  · rintro rfl; exact Nat.xor_self a
theorem or_zero_iff {a b : Nat} : a ||| b = 0 ↔ a = 0 ∧ b = 0 := by
  constructor
  · intro h
    have h1 : a ≤ a ||| b := Nat.left_le_or
    have h2 : b ≤ a ||| b := Nat.right_le_or
    omega
  · rintro ⟨rfl, rfl⟩; rfl
section
set_option maxHeartbeats 800000
theorem heq_any (A B : Option Addr) (ca cb la lb : Nat) (xs ys : List UInt8) (w : World) (hla : xs.length = la) (hlb : ys.length = lb) (hx : Rd w A (xs.map Bv)) (hy : Rd w B (ys.map Bv))
   (hlx : la ≤ 9223372036854775807) (hly : lb ≤ 9223372036854775807) :
    Calls Tryd.prog 20 #[.slice A la ca, .slice B lb cb] w fun e w' => e = .returned (.bool (decide (xs = ys))) ∧ ∃ n, w' = w.drewN n := by
  by_cases hl : la = lb
  · have hl' : ((la : Int) != lb) = false := by simp [hl]
    have Hl := Lib.hid hl; clear hl
    have HLA := Lib.hid hla; clear hla
    have HLB := Lib.hid hlb; clear hlb
    go_enter Tryd.func20, Tryd.ntmps20
    go_wp2
    go_loopw [5, 14] (fun o i wr => ∃ k n t : Nat, k ≤ la ∧ i = .int .i64 k ∧ o = .int .u8 (t : Nat) ∧ t < 256 ∧ (t = 0 ↔ xs.take k = ys.take k) ∧ wr = w.drewN n) (fun _ i _ => la - (intOf i).toNat)
    case atStart => exact ⟨0, 0, 0, by omega, rfl, rfl, by decide, by simp, rfl⟩
    case round =>
      obtain ⟨k, n, t, hk, rfl, rfl, ht8, ht, rfl⟩ := hrel
      have Ht := Lib.hid ht; clear ht
      by_cases hlt : k < la
      · have hkx : k < xs.length := by rw [HLA.out]; exact hlt
        have hky : k < ys.length := by rw [HLB.out, ← Hl.out]; exact hlt
        obtain ⟨b, off, rfl, hc⟩ := hx.byte hkx
        obtain ⟨b', off', rfl, hc'⟩ := hy.byte hky
        have hlt' : k < lb := by rw [← Hl.out]; exact hlt
        have hx8 := xs[k].toNat_lt
        have hy8 := ys[k].toNat_lt
        have hxo := u8_xor_nat xs[k].toNat ys[k].toNat hx8 hy8
        have hor := u8_or_nat t (xs[k].toNat ^^^ ys[k].toNat) ht8 (xor_lt8 hx8 hy8)
        have hnx : (t ||| (xs[k].toNat ^^^ ys[k].toNat)) = 0 ↔ xs.take (k + 1) = ys.take (k + 1) := by
          rw [or_zero_iff, xor_zero_iff, Ht.out]
          constructor
          · rintro ⟨h1, h2⟩
            exact take_succ_eq hkx hky h1 (UInt8.toNat_inj.1 h2)
          · intro h
            rw [List.take_succ_eq_append_getElem hkx, List.take_succ_eq_append_getElem hky] at h
            have hh := List.append_inj' h rfl
            exact ⟨hh.1, by rw [List.singleton_inj.1 hh.2]⟩
        have hl8 := or_lt8 ht8 (xor_lt8 hx8 hy8)
        have HNX := Lib.hid hnx; clear hnx
        generalize xs[k].toNat = x at *
        generalize ys[k].toNat = y at *
        go_wp2
        go_quiet (fail)
        go_wp2
        go_roundw
        case rel => exact ⟨k + 1, _, t ||| (x ^^^ y), by omega, by go_num, rfl, hl8, HNX.out, rfl⟩
        case measure => simp [intOf]; omega
      · have hkn : (t = 0 ↔ xs = ys) := by
          have h := Ht.out
          rwa [List.take_of_length_le (by rw [HLA.out]; omega), List.take_of_length_le (by rw [HLB.out, ← Hl.out]; omega)] at h
        by_cases h0 : t = 0
        · subst h0
          have he : decide (xs = ys) = true := by simpa using hkn
          have HE := Lib.hid he; clear he hkn
          go_wp2
          go_ret
          exact ⟨by rw [HE.out]; rfl, _, rfl⟩
        · have he : decide (xs = ys) = false := by rw [decide_eq_false_iff_not, ← hkn]; exact h0
          have HE := Lib.hid he; clear he hkn
          have hb0 : ((t : Int) == 0) = false := by simp; omega
          go_wp2
          go_ret
          exact ⟨by rw [HE.out]; rfl, _, rfl⟩
  · have hl' : ((la : Int) != lb) = true := by simp; omega
    have hne : xs ≠ ys := by rintro rfl; exact hl (hla.symm.trans hlb)
    have Hne := Lib.hid hne; clear hne
    clear hl hla hlb
    go_enter Tryd.func20, Tryd.ntmps20
    go_wp2
    go_ret
    exact ⟨by simp [Hne.out], 0, rfl⟩
end
end
end Go.Proofs.YtgpmghnemhngeaaDoor
