/-
  A Reader that is cloned; the plain answers' bits of bytes, and their number.
-/
import Derived.Test.YtnbgpmgcnfhfeaaRd
import Derived.Test.YtnbgpmgcnfhfeaaBo
import Derived.Deep.RegionHeld3
namespace Go.Proofs.Ytnbgpmgcnfhfeaa
set_option linter.unusedVariables false
set_option linter.unusedSimpArgs false
open Go.RowKit

theorem rclone_any (W : World) (p : Nat) (v : Value) (xs : List UInt8) (n a : Nat) (h : Ris W p v xs n a) :
    Calls Try.prog 8 #[.pointer (some ⟨p, 0, none⟩)] W fun e w' => ∃ p' v', e = .returned (.pointer (some ⟨p', 0, none⟩)) ∧ Ris w' p' v' xs n a ∧ W.heap.size ≤ p' ∧ (∀ i, v'.ownBlock = some i → W.heap.size ≤ i) ∧ Below W.heap.size W w' := by
  obtain ⟨hb, hown, hn, ha, hl⟩ := h
  obtain ⟨A, cap, rfl, rd, _⟩ := own_rd hown
  have hp0 := cell_blk hb 0
  have hp1 := cell_blk hb 1
  have hp2 := cell_blk hb 2
  have hp3 := cell_blk hb 3
  simp at hp0 hp1 hp2 hp3
  have hpl := blk_lt hb
  go_enter Try.func8, Try.ntmps8
  go_wp2
  go_region_held3 (fun w' => w'.cell? ⟨p, 1, none⟩ = some (.slice A xs.length cap) ∧ w'.cell? ⟨p, 2, none⟩ = some (.int .i64 (a : Nat)) ∧ w'.cell? ⟨p, 3, none⟩ = some (.int .i64 (n : Nat))) (first | exact ⟨hp1, hp2, hp3⟩ | exact ⟨k1, k2, k3⟩ | exact ⟨(Below.cell (p := ⟨p, 1, none⟩) ((Below.refl w6.heap.size _).alloc (Nat.le_refl _) _) hp6).trans k1, (Below.cell (p := ⟨p, 2, none⟩) ((Below.refl w6.heap.size _).alloc (Nat.le_refl _) _) hp6).trans k2, (Below.cell (p := ⟨p, 3, none⟩) ((Below.refl w6.heap.size _).alloc (Nat.le_refl _) _) hp6).trans k3⟩)
    (first
      | (go_at_call 20; go_must (refine (copied_any _ A cap xs (by exact rd) hl).mono ?_; rintro e w6 ⟨v6, rfl, own6, hb6⟩; have k1 : w6.cell? ⟨p, 1, none⟩ = some (.slice A xs.length cap) := (hb6.cell (p := ⟨p, 1, none⟩) hpl).trans hp1; have k2 : w6.cell? ⟨p, 2, none⟩ = some (.int .i64 (a : Nat)) := (hb6.cell (p := ⟨p, 2, none⟩) hpl).trans hp2; have k3 : w6.cell? ⟨p, 3, none⟩ = some (.int .i64 (n : Nat)) := (hb6.cell (p := ⟨p, 3, none⟩) hpl).trans hp3; have hp6 : p < w6.heap.size := Nat.lt_of_lt_of_le hpl hb6.size; obtain ⟨A6, c6, rfl, _⟩ := own_rd own6)))
  all_goals
    go_wp2
    go_ret
    obtain ⟨r1, r2, r3, r4⟩ := ris_new (w := W) (by exact own6) ⟨hb6.os, hb6.tape, hb6.output, hb6.size, hb6.block⟩ (Nat.le_refl _) hn ha hl
    exact ⟨_, _, rfl, r1, r2, r3, r4⟩

theorem rb_take_succ {xs : List UInt8} {k : Nat} (hk : k / 8 < xs.length) : (rb xs).take (k + 1) = (rb xs).take k ++ [(xs[k / 8].toNat / 2 ^ (7 - k % 8)).testBit 0] := by
  have h := rb_part (xs := xs) (at_ := k) (c := 1) hk (by omega)
  rw [List.take_add, h, show 8 - k % 8 - 1 = 7 - k % 8 by omega]
  rfl

theorem u8bit {x : UInt8} (s : Nat) : bits .and .u8 ((x.toNat : Int) / 2 ^ s) 1 = (x.toNat : Int) / 2 ^ s % 2 := by
  have e1 : ((x.toNat : Int) / 2 ^ s) = ((x.toNat / 2 ^ s : Nat) : Int) := by rw [Int.natCast_ediv, Int.natCast_pow]; rfl
  have e : (1 : Int) = ((1 : Nat) : Int) := rfl
  rw [e1, e, u8_and_nat _ _ (Nat.lt_of_le_of_lt (Nat.div_le_self _ _) x.toNat_lt) (by omega), show (1 : Nat) = 2 ^ 1 - 1 from rfl, Nat.and_two_pow_sub_one_eq_mod]
  rfl
theorem u8bitc (x : UInt8) (s : Nat) : ((x.toNat : Int) / 2 ^ s % 2 == 1) = (x.toNat / 2 ^ s).testBit 0 := by
  rw [bit1c, Nat.testBit_div_two_pow, Nat.zero_add]

theorem rbits_any (W : World) (A : Option Addr) (c n : Nat) (xs : List UInt8) (hx : Rd W A (xs.map Bv)) (hn : n ≤ 8 * xs.length) (hl : xs.length ≤ 2000) :
    Calls Try.prog 7 #[.slice A xs.length c, .int .i64 n] W fun e w' => ∃ v, e = .returned v ∧ w'.ownsRow W.heap.size 4 1 v ((rb xs).take n).length (((rb xs).take n).map Value.bool) ∧ Below W.heap.size W w' := by
  obtain ⟨i0, hi, hz0, hz1, hz2⟩ := info_parts infoBool
  go_enter Try.func7, Try.ntmps7
  go_wp2
  go_loopw [5, 9] (fun u i wr => ∃ k : Nat, k ≤ n ∧ i = .int .i64 k ∧ wr.ownsRow W.heap.size 4 1 u ((rb xs).take k).length (((rb xs).take k).map Value.bool) ∧ Below W.heap.size W wr) (fun _ i _ => n - (intOf i).toNat)
  case atStart =>
    refine ⟨0, by omega, rfl, ?_, by first | exact Below.refl _ _ | exact (Below.refl _ _).alloc (Nat.le_refl _) _⟩
    exact World.ownsRow_made W #[] 0 (Nat.le_refl _) (by decide) rfl
  case round =>
    obtain ⟨k, hk, rfl, hown, hb⟩ := hrel
    by_cases hlt : k < n
    · have hk8 : k / 8 < xs.length := by omega
      obtain ⟨b, off, rfl, c0⟩ := (hx.below hb).byte hk8
      have hrl := rb_length xs
      have hst := rb_take_succ hk8
      have hlen : ((rb xs).take k).length = k := by rw [List.length_take]; omega
      have hx255 := xs[k / 8].toNat_lt
      have HST := Lib.hid hst; clear hst
      have HL := Lib.hid hlen; clear hlen hrl
      have HS := Lib.hid hb.size
      generalize xs[k / 8] = x at *
      have hbb := u8bit (x := x) (7 - k % 8)
      have hbc := u8bitc x (7 - k % 8)
      generalize (x.toNat / 2 ^ (7 - k % 8)).testBit 0 = bt at *
      generalize List.take k (rb xs) = cur at *
      go_wp2_with (first | (at_builtin; go_must (refine wpList_append_own _ rfl _ _ 30 rfl W.heap.size 4 i0 (.bool false) 1 1 Try.underlying30 hi hz0 hz1 hz2 rfl (by decide) _ cur.length (cur.map Value.bool) rfl (hown.alloc _) ⟨wr.heap.size, 0, none⟩ 1 1 [.bool bt] rfl rfl (World.news_of_block (heap_alloc_new _ _)) (by simp [Value.oneCell']) (by have := HL.out; unfold maxLen; omega) (by have := HL.out; omega) (by have := HS.out; simp; omega) ?_; intro u' w5 hown5 hgrow5 _)) | fail)
      go_wp2
      go_roundw
      case rel =>
        refine ⟨k + 1, by omega, by go_num, by rw [HST.out, List.length_append, List.map_append]; exact hown5, (hb.alloc HS.out _).grown hgrow5 (by have := HS.out; simp; omega) (fun k h => (hown.lt k h).1)⟩
      case measure => simp [intOf]; omega
    · obtain rfl : k = n := by omega
      go_wp2
      go_ret
      exact ⟨_, rfl, hown, hb⟩

theorem number_any (W : World) (A : Option Addr) (c : Nat) (l : List Bool) (hx : Rd W A (l.map Value.bool)) (hl : l.length ≤ 64) :
    Calls Try.prog 10 #[.slice A l.length c] W fun e w' => e = .returned (.int .u64 (natOf l : Nat)) ∧ Below W.heap.size W w' := by
  go_enter Try.func10, Try.ntmps10
  go_wp2
  go_loopw [3, 8] (fun nv i wr => ∃ k : Nat, k ≤ l.length ∧ i = .int .i64 k ∧ nv = .int .u64 (natOf (l.take k) : Nat) ∧ wr = W) (fun _ i _ => l.length - (intOf i).toNat)
  case atStart => exact ⟨0, by omega, rfl, by simp [natOf], rfl⟩
  case round =>
    obtain ⟨k, hk, rfl, rfl, rfl⟩ := hrel
    by_cases hlt : k < l.length
    · obtain ⟨b, off, rfl, c0⟩ := hx.boolAt hlt
      have hst : natOf (l.take (k + 1)) = natOf (l.take k) * 2 + (l[k]).toNat := by
        rw [List.take_add_one, List.getElem?_eq_getElem hlt, natOf_append]
        simp [natOf]
      have hmb : natOf (l.take k) < 9223372036854775808 := by
        have h1 := natOf_lt (l.take k)
        have h2 : 2 ^ (l.take k).length ≤ 2 ^ 63 := Nat.pow_le_pow_right (by omega) (by rw [List.length_take]; omega)
        omega
      have HST := Lib.hid hst; clear hst
      generalize natOf (l.take k) = m at *
      cases hbk : l[k] with
      | true =>
        rw [hbk] at c0 HST
        go_wp2
        go_roundw
        case rel => exact ⟨k + 1, by omega, by go_num, by rw [HST.out]; simp, by first | rfl | trivial⟩
        case measure => simp [intOf]; omega
      | false =>
        rw [hbk] at c0 HST
        go_wp2
        go_roundw
        case rel => exact ⟨k + 1, by omega, by go_num, by rw [HST.out]; simp, by first | rfl | trivial⟩
        case measure => simp [intOf]; omega
    · obtain rfl : k = l.length := by omega
      rw [List.take_length]
      go_wp2
      go_ret
      exact ⟨rfl, Below.refl _ _⟩
end Go.Proofs.Ytnbgpmgcnfhfeaa
