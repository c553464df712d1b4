/-
  The plain answers' bits of bytes, and their number.
-/
import Derived.Test.YtgogpngobdafaaaDoorRb
import Derived.Test.YtgogpngobdafaaaDoorBo
namespace Go.Proofs.YtgogpngobdafaaaDoor
set_option linter.unusedVariables false
set_option linter.unusedSimpArgs false
open Go.RowKit

section
set_option maxHeartbeats 1600000
set_option maxRecDepth 100000
theorem u8bit {x : UInt8} (s : Nat) : bits .and .u8 ((x.toNat : Int) / 2 ^ s) 1 = (x.toNat : Int) / 2 ^ s % 2 := by
  have e1 : ((x.toNat : Int) / 2 ^ s) = ((x.toNat / 2 ^ s : Nat) : Int) := by rw [Int.natCast_ediv, Int.natCast_pow]; rfl
  have e : (1 : Int) = ((1 : Nat) : Int) := rfl
  rw [e1, e, u8_and_nat _ _ (Nat.lt_of_le_of_lt (Nat.div_le_self _ _) x.toNat_lt) (by omega), show (1 : Nat) = 2 ^ 1 - 1 from rfl, Nat.and_two_pow_sub_one_eq_mod]
  rfl
theorem u8bitc (x : UInt8) (s : Nat) : ((x.toNat : Int) / 2 ^ s % 2 == 1) = (x.toNat / 2 ^ s).testBit 0 := by
  rw [bit1c, Nat.testBit_div_two_pow, Nat.zero_add]
theorem rbits_any (W : World) (A : Option Addr) (c n : Nat) (xs : List UInt8) (hx : Rd W A (xs.map Bv)) (hn : n ≤ 8 * xs.length) (hl : xs.length ≤ 2000) :
    Calls Tryd.prog 114 #[.slice A xs.length c, .int .i64 n] W fun e w' => ∃ v, e = .returned v ∧ w'.ownsRow W.heap.size 4 1 v ((rb xs).take n).length (((rb xs).take n).map Value.bool) ∧ Below W.heap.size W w' := by
  obtain ⟨i0, hi, hz0, hz1, hz2⟩ := info_parts infoBool
  go_enter Tryd.func114, Tryd.ntmps114
  go_wp2
  go_loopw [5, 9] (fun u i wr => ∃ k : Nat, k ≤ n ∧ i = .int .i64 k ∧ wr.ownsRow W.heap.size 4 1 u ((rb xs).take k).length (((rb xs).take k).map Value.bool) ∧ Below W.heap.size W wr) (fun _ i _ => n - (intOf i).toNat)
  case atStart =>
    refine ⟨0, by omega, rfl, ?_, by first | exact Below.refl _ _ | exact (Below.refl _ _).alloc (Nat.le_refl _) _⟩
    exact World.ownsRow_made W #[] 0 (Nat.le_refl _) (by decide) rfl
  case round =>
    obtain ⟨k, hk, rfl, hown, hb⟩ := hrel
    by_cases hlt : k < n
    · have hk8 : k / 8 < xs.length := by omega
      obtain ⟨b, off, rfl, c0⟩ := (hx.below hb).byte hk8
      have hrl := rb_length xs
      have hst := rb_take_succ hk8
      have hlen : ((rb xs).take k).length = k := by rw [List.length_take]; omega
      have hx255 := xs[k / 8].toNat_lt
      have HST := Lib.hid hst; clear hst
      have HL := Lib.hid hlen; clear hlen hrl
      have HS := Lib.hid hb.size
      generalize xs[k / 8] = x at *
      have hbb := u8bit (x := x) (7 - k % 8)
      have hbc := u8bitc x (7 - k % 8)
      generalize (x.toNat / 2 ^ (7 - k % 8)).testBit 0 = bt at *
      generalize List.take k (rb xs) = cur at *
      go_wp2_with (first | (at_builtin; go_must (refine wpList_append_own _ rfl _ _ 48 rfl W.heap.size 4 i0 (.bool false) 1 1 Tryd.underlying48 hi hz0 hz1 hz2 rfl (by decide) _ cur.length (cur.map Value.bool) rfl (hown.alloc _) ⟨wr.heap.size, 0, none⟩ 1 1 [.bool bt] rfl rfl (World.news_of_block (heap_alloc_new _ _)) (by simp [Value.oneCell']) (by have := HL.out; unfold maxLen; omega) (by have := HL.out; omega) (by have := HS.out; simp; omega) ?_; intro u' w5 hown5 hgrow5 _)) | fail)
      go_wp2
      go_roundw
      case rel =>
        refine ⟨k + 1, by omega, by go_num, by rw [HST.out, List.length_append, List.map_append]; exact hown5, (hb.alloc HS.out _).grown hgrow5 (by have := HS.out; simp; omega) (fun k h => (hown.lt k h).1)⟩
      case measure => simp [intOf]; omega
    · obtain rfl : k = n := by omega
      go_wp2
      go_ret
      exact ⟨_, rfl, hown, hb⟩
theorem natnum_any (W : World) (A : Option Addr) (c : Nat) (l : List Bool) (hx : Rd W A (l.map Value.bool)) (hl : l.length ≤ 64) :
    Calls Tryd.prog 113 #[.slice A l.length c] W fun e w' => e = .returned (.int .u64 (natOf l : Nat)) ∧ Below W.heap.size W w' := by
  go_enter Tryd.func113, Tryd.ntmps113
  go_wp2
  go_loopw [3, 8] (fun nv i wr => ∃ k : Nat, k ≤ l.length ∧ i = .int .i64 k ∧ nv = .int .u64 (natOf (l.take k) : Nat) ∧ wr = W) (fun _ i _ => l.length - (intOf i).toNat)
  case atStart => exact ⟨0, by omega, rfl, by simp [natOf], rfl⟩
  case round =>
    obtain ⟨k, hk, rfl, rfl, rfl⟩ := hrel
    by_cases hlt : k < l.length
    · obtain ⟨b, off, rfl, c0⟩ := hx.boolAt hlt
      have hst : natOf (l.take (k + 1)) = natOf (l.take k) * 2 + (l[k]).toNat := by
        rw [List.take_add_one, List.getElem?_eq_getElem hlt, natOf_append]
        simp [natOf]
      have hmb : natOf (l.take k) < 9223372036854775808 := by
        have h1 := natOf_lt (l.take k)
        have h2 : 2 ^ (l.take k).length ≤ 2 ^ 63 := Nat.pow_le_pow_right (by omega) (by rw [List.length_take]; omega)
        omega
      have HST := Lib.hid hst; clear hst
      generalize natOf (l.take k) = m at *
      cases hbk : l[k] with
      | true =>
        rw [hbk] at c0 HST
        go_wp2
        go_roundw
        case rel => exact ⟨k + 1, by omega, by go_num, by rw [HST.out]; simp, by first | rfl | trivial⟩
        case measure => simp [intOf]; omega
      | false =>
        rw [hbk] at c0 HST
        go_wp2
        go_roundw
        case rel => exact ⟨k + 1, by omega, by go_num, by rw [HST.out]; simp, by first | rfl | trivial⟩
        case measure => simp [intOf]; omega
    · obtain rfl : k = l.length := by omega
      rw [List.take_length]
      go_wp2
      go_ret
      exact ⟨rfl, Below.refl _ _⟩
end
end Go.Proofs.YtgogpngobdafaaaDoor
