/-
  Sums: what the package's functions and the plain answers' give for bytes anywhere in memory.
-/
import Derived.Test.YtnmbjhpecblioaaGreatDoorGen
import Derived.Test.YtnmbjhpecblioaaGreatDoorCrc
namespace Go.Proofs.YtnmbjhpecblioaaGreatDoor
set_option linter.unusedVariables false
set_option linter.unusedSimpArgs false
open Go.RowKit

/-- The table holds what its initialiser lays. -/
def StepsMet (w : World) : Prop := ∀ i : Nat, i < 16 → w.cell? ⟨0, i, none⟩ = some (.int .u32 (stepsL.getD i 0 : Nat))
theorem StepsMet.below {w w' : World} (h : StepsMet w) (hb : Below w.heap.size w w') : StepsMet w' := fun i hi =>
  (hb.cell (p := ⟨0, i, none⟩) (World.block_lt_of_cell? w _ (h i hi))).trans (h i hi)

theorem u32_not {s : Nat} (h : s < 4294967296) : bits .xor .u32 IntKind.u32.max (s : Int) = ((notW s : Nat) : Int) := by
  have e : IntKind.u32.max = ((4294967295 : Nat) : Int) := by decide
  rw [e, u32_xor_nat _ _ (by omega) h]
  unfold notW
  rw [Nat.xor_comm]
theorem mask15 {n : Nat} (h : n < 4294967296) : bits .and .u32 (n : Int) 15 = (n : Int) % 16 := by
  have e : (15 : Int) = ((15 : Nat) : Int) := rfl
  rw [e, u32_and_nat _ _ h (by omega), show (15 : Nat) = 2 ^ 4 - 1 from rfl, Nat.and_two_pow_sub_one_eq_mod]
  rfl
theorem nib_val {y : Nat} (h : y < 4294967296) : bits .xor .u32 ((y : Int) / 16) (stepsL.getD (y % 16) 0 : Nat) = ((crcNib y : Nat) : Int) := by
  have e : (y : Int) / 16 = ((y / 16 : Nat) : Int) := rfl
  rw [e, u32_xor_nat _ _ (by omega) (stepsL_lt _)]
  rfl

section
set_option maxHeartbeats 1600000
set_option maxRecDepth 100000
theorem more_any (A : Option Addr) (ca s : Nat) (xs : List UInt8) (w : World) (ht : StepsMet w) (hs : s < 4294967296) (hx : Rd w A (xs.map Bv)) (hlx : xs.length ≤ 9223372036854775807) :
    Calls Tryz.prog 118 #[.int .u32 s, .slice A xs.length ca] w fun e w' => e = .returned (.int .u32 (crc s xs : Nat)) ∧ w = w' := by
  have HT := Lib.hid ht; clear ht
  go_enter Tryz.func118, Tryz.ntmps118
  go_wp2
  go_loopw [5, 12] (fun u i wr => ∃ k : Nat, k ≤ xs.length ∧ i = .int .i64 k ∧ u = .int .u32 (crcG (notW s) (xs.take k) : Nat) ∧ wr = w) (fun _ i _ => xs.length - (intOf i).toNat)
  case atStart => exact ⟨0, by omega, rfl, congrArg (Value.int .u32) (by rw [u32_not hs]; rfl), rfl⟩
  case round =>
    obtain ⟨k, hk, rfl, rfl, rfl⟩ := hrel
    by_cases hlt : k < xs.length
    · obtain ⟨b, off, rfl, c0⟩ := hx.byte hlt
      have hst : crcG (notW s) (xs.take (k + 1)) = crcByte (crcG (notW s) (xs.take k)) xs[k] := by
        rw [List.take_succ_eq_append_getElem hlt, crcG_append]; rfl
      have hg := crcG_lt (notW_lt hs) (xs.take k)
      have HST := Lib.hid hst; clear hst
      generalize crcG (notW s) (xs.take k) = g at *
      have h0 := xs[k].toNat_lt
      have f1 : bits .xor .u32 (g : Int) (xs[k].toNat : Int) = ((g ^^^ xs[k].toNat : Nat) : Int) := u32_xor_nat _ _ hg (by omega)
      obtain ⟨y1, hy1⟩ : ∃ y, y = g ^^^ xs[k].toNat := ⟨_, rfl⟩
      have hl1 : y1 < 4294967296 := by rw [hy1]; exact xor_lt32 hg (by omega)
      have f2 := nib_val hl1
      obtain ⟨y2, hy2⟩ : ∃ y, y = crcNib y1 := ⟨_, rfl⟩
      have hl2 : y2 < 4294967296 := by rw [hy2]; exact crcNib_lt hl1
      have f3 := nib_val hl2
      have m1 := mask15 hl1
      have m2 := mask15 hl2
      have t1 := HT.out (y1 % 16) (Nat.mod_lt _ (by omega))
      have t2 := HT.out (y2 % 16) (Nat.mod_lt _ (by omega))
      rw [← hy1] at f1
      rw [← hy2] at f2
      have HY1 := Lib.hid hy1; clear hy1
      have HY2 := Lib.hid hy2; clear hy2
      generalize stepsL.getD (y1 % 16) 0 = v1 at *
      generalize stepsL.getD (y2 % 16) 0 = v2 at *
      go_wp2
      go_roundw
      case rel => exact ⟨k + 1, by omega, by go_num, by rw [HST.out]; unfold crcByte; rw [← HY1.out, ← HY2.out], by first | rfl | trivial⟩
      case measure => simp [intOf]; omega
    · obtain rfl : k = xs.length := by omega
      rw [List.take_length]
      go_wp2
      go_ret
      exact ⟨by rw [u32_not (crcG_lt (notW_lt hs) xs)]; rfl, rfl⟩

/-- Eight bits fall out, one by one. -/
def crcBits : Nat → Nat → Nat
  | 0, s => s
  | k + 1, s => crcBit (crcBits k s)
theorem crcBits_lt {s : Nat} (h : s < 4294967296) (k : Nat) : crcBits k s < 4294967296 := by
  induction k with
  | zero => exact h
  | succ k ih => exact crcBit_lt ih
theorem crcBits8 (s : Nat) (x : UInt8) : crcBits 8 (s ^^^ x.toNat) = crcByte s x := by
  unfold crcByte
  rw [← bits4, ← bits4]
  rfl
theorem rmore_any (A : Option Addr) (ca s : Nat) (xs : List UInt8) (w : World) (hs : s < 4294967296) (hx : Rd w A (xs.map Bv)) (hlx : xs.length ≤ 9223372036854775807) :
    Calls Tryz.prog 110 #[.int .u32 s, .slice A xs.length ca] w fun e w' => e = .returned (.int .u32 (crc s xs : Nat)) ∧ w = w' := by
  have hn0 : bits .xor .u32 (s : Int) 4294967295 = ((notW s : Nat) : Int) := u32_xor_nat s 4294967295 hs (by omega)
  go_enter Tryz.func110, Tryz.ntmps110
  go_wp2
  go_loopw [5, 12] (fun u i wr => ∃ k : Nat, k ≤ xs.length ∧ i = .int .i64 k ∧ u = .int .u32 (crcG (notW s) (xs.take k) : Nat) ∧ wr = w) (fun _ i _ => xs.length - (intOf i).toNat)
  case atStart => exact ⟨0, by omega, rfl, rfl, rfl⟩
  case round =>
    obtain ⟨k, hk, rfl, rfl, rfl⟩ := hrel
    by_cases hlt : k < xs.length
    · obtain ⟨b, off, rfl, c0⟩ := hx.byte hlt
      have hst : crcG (notW s) (xs.take (k + 1)) = crcByte (crcG (notW s) (xs.take k)) xs[k] := by
        rw [List.take_succ_eq_append_getElem hlt, crcG_append]; rfl
      have hg := crcG_lt (notW_lt hs) (xs.take k)
      have HST := Lib.hid hst; clear hst
      generalize crcG (notW s) (xs.take k) = g at *
      have h0 := xs[k].toNat_lt
      have f1 : bits .xor .u32 (g : Int) (xs[k].toNat : Int) = ((g ^^^ xs[k].toNat : Nat) : Int) := u32_xor_nat _ _ hg (by omega)
      obtain ⟨y1, hy1⟩ : ∃ y, y = g ^^^ xs[k].toNat := ⟨_, rfl⟩
      have hl1 : y1 < 4294967296 := by rw [hy1]; exact xor_lt32 hg (by omega)
      rw [← hy1] at f1
      have HY1 := Lib.hid hy1; clear hy1
      go_wp2
      go_loopw [5, 20] (fun u i wr2 => ∃ j : Nat, j ≤ 8 ∧ i = .int .i64 j ∧ u = .int .u32 (crcBits j y1 : Nat) ∧ wr2 = wr) (fun _ i _ => 8 - (intOf i).toNat)
      case atStart => exact ⟨0, by omega, rfl, rfl, rfl⟩
      case round =>
        obtain ⟨j, hj, rfl, rfl, rfl⟩ := hrel
        by_cases hj8 : j < 8
        · have hz := crcBits_lt hl1 j
          have hnx : crcBits (j + 1) y1 = crcBit (crcBits j y1) := rfl
          have HN := Lib.hid hnx; clear hnx
          generalize crcBits j y1 = z at *
          by_cases h2 : z % 2 = 1
          · have h2' : ((z : Int) % 2 == 1) = true := by rw [beq_iff_eq]; omega
            have f4 : bits .xor .u32 ((z : Int) / 2) 2197175160 = ((crcBit z : Nat) : Int) := by
              have e : (z : Int) / 2 = ((z / 2 : Nat) : Int) := rfl
              have e2 : (2197175160 : Int) = ((2197175160 : Nat) : Int) := rfl
              rw [e, e2, u32_xor_nat _ _ (by omega) (by omega), crcBit, if_pos h2]
            clear h2
            go_wp2
            go_roundw
            case rel => exact ⟨j + 1, by omega, by go_num, by rw [HN.out], by first | rfl | trivial⟩
            case measure => simp [intOf]; omega
          · have h2' : ((z : Int) % 2 == 1) = false := by rw [beq_eq_false_iff_ne]; omega
            have f4 : (z : Int) / 2 = ((crcBit z : Nat) : Int) := by rw [crcBit, if_neg h2]; rfl
            have F4 := Lib.hid f4; clear h2 f4
            go_wp2
            go_roundw
            case rel => exact ⟨j + 1, by omega, by go_num, by rw [HN.out, F4.out], by first | rfl | trivial⟩
            case measure => simp [intOf]; omega
        · obtain rfl : j = 8 := by omega
          go_wp2
          go_roundw
          case rel => exact ⟨k + 1, by omega, by go_num, by rw [HST.out, ← crcBits8, HY1.out], by first | rfl | trivial⟩
          case measure => simp [intOf]; omega
    · obtain rfl : k = xs.length := by omega
      rw [List.take_length]
      have hn1 : bits .xor .u32 ((crcG (notW s) xs : Nat) : Int) 4294967295 = ((crc s xs : Nat) : Int) := u32_xor_nat _ 4294967295 (crcG_lt (notW_lt hs) xs) (by omega)
      go_wp2
      go_ret
      exact ⟨rfl, rfl⟩
theorem rot17 {s : Nat} (h : s < 4294967296) : bits .or .u32 ((s : Int) / 32768) ((s : Int) * 131072 % 4294967296) = ((s / 32768 + s % 32768 * 131072 : Nat) : Int) := by
  have e1 : (s : Int) / 32768 = ((s / 32768 : Nat) : Int) := rfl
  have e2 : (s : Int) * 131072 % 4294967296 = ((s % 32768 * 131072 : Nat) : Int) := by omega
  have h2 := or_beside (s / 32768) (s % 32768) 17 (by omega)
  have h3 : s / 32768 ||| s % 32768 * 131072 = s / 32768 + s % 32768 * 131072 := h2
  rw [e1, e2, u32_or_nat _ _ (by omega) (by omega), h3]
theorem rot15 {r : Nat} (h : r < 4294967296) : bits .or .u32 ((r : Int) * 32768 % 4294967296) ((r : Int) / 131072) = ((r % 131072 * 32768 + r / 131072 : Nat) : Int) := by
  have e1 : (r : Int) / 131072 = ((r / 131072 : Nat) : Int) := rfl
  have e2 : (r : Int) * 32768 % 4294967296 = ((r % 131072 * 32768 : Nat) : Int) := by omega
  have h2 := or_beside (r / 131072) (r % 131072) 15 (by omega)
  have h3 : r / 131072 ||| r % 131072 * 32768 = r / 131072 + r % 131072 * 32768 := h2
  rw [e1, e2, u32_or_nat _ _ (by omega) (by omega), Nat.or_comm, h3, Nat.add_comm]
theorem rot15' {r : Nat} (h : r < 4294967296) : bits .or .u32 ((r : Int) / 131072) ((r : Int) * 32768 % 4294967296) = ((r % 131072 * 32768 + r / 131072 : Nat) : Int) := by
  have e1 : (r : Int) / 131072 = ((r / 131072 : Nat) : Int) := rfl
  have e2 : (r : Int) * 32768 % 4294967296 = ((r % 131072 * 32768 : Nat) : Int) := by omega
  have h2 := or_beside (r / 131072) (r % 131072) 15 (by omega)
  have h3 : r / 131072 ||| r % 131072 * 32768 = r / 131072 + r % 131072 * 32768 := h2
  rw [e1, e2, u32_or_nat _ _ (by omega) (by omega), h3, Nat.add_comm]
theorem ret_u32 {a b : Int} (h : a = b) : Ending.returned (.int .u32 a) = .returned (.int .u32 b) := by rw [h]
theorem unmask_in (n : Nat) : ((n : Int) - 2726488792) % 4294967296 = (((n + 1568478504) % 4294967296 : Nat) : Int) := by omega
theorem mask_any (s : Nat) (w : World) (hs : s < 4294967296) : Calls Tryz.prog 97 #[.int .u32 s] w fun e w' => e = .returned (.int .u32 (maskN s : Nat)) ∧ w = w' := by
  have hr := rot17 hs
  go_enter Tryz.func97, Tryz.ntmps97
  go_wp2
  go_ret
  refine ⟨ret_u32 ?_, rfl⟩
  unfold maskN; omega
theorem rmask_any (s : Nat) (w : World) (hs : s < 4294967296) : Calls Tryz.prog 87 #[.int .u32 s] w fun e w' => e = .returned (.int .u32 (maskN s : Nat)) ∧ w = w' := by
  have hr := rot17 hs
  go_enter Tryz.func87, Tryz.ntmps87
  go_wp2
  go_ret
  refine ⟨ret_u32 ?_, rfl⟩
  unfold maskN; omega
theorem rsum_any (A : Option Addr) (ca : Nat) (xs : List UInt8) (w : World) (hx : Rd w A (xs.map Bv)) (hlx : xs.length ≤ 9223372036854775807) :
    Calls Tryz.prog 88 #[.slice A xs.length ca] w fun e w' => e = .returned (.int .u32 (crc 0 xs : Nat)) ∧ w = w' := by
  go_enter Tryz.func88, Tryz.ntmps88
  go_wp2_with fail
  refine (rmore_any A ca 0 xs w (by decide) hx hlx).mono ?_
  rintro e w' ⟨rfl, rfl⟩
  go_wp2
  go_ret
  exact ⟨rfl, rfl⟩
end
end Go.Proofs.YtnmbjhpecblioaaGreatDoor
