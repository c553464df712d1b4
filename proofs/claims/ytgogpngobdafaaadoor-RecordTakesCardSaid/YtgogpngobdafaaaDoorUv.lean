/-
  Numbers in few bytes, read: what the scan of a row of bytes comes to, and that both readers of the program (the package's and the plain one) come to it.
-/
import Derived.Test.YtgogpngobdafaaaDoorRows
import Derived.Test.YtgogpngobdafaaaDoorGen
namespace Go.Proofs.YtgogpngobdafaaaDoor
set_option linter.unusedVariables false
set_option linter.unusedSimpArgs false
open Go.RowKit

/-- The scan from the k-th byte on, n being what the bytes ahead came to: the number, how many bytes, the error's number. -/
def uvS : Nat → Nat → List UInt8 → Nat × Nat × Nat
  | _, _, [] => (0, 0, 6)
  | k, n, b :: r =>
    if k = 9 ∧ 1 < b.toNat then (0, 0, 9)
    else if b.toNat < 128 then (if 0 < k ∧ b.toNat = 0 then (0, 0, 8) else (n + b.toNat % 128 * 2 ^ (7 * k), k + 1, 0))
    else uvS (k + 1) (n + b.toNat % 128 * 2 ^ (7 * k)) r

theorem pow7 (k : Nat) : 2 ^ (7 * (k + 1)) = 128 * 2 ^ (7 * k) := by rw [Nat.mul_add, Nat.pow_add]; omega
theorem uv_lt {k N x : Nat} (hN : N < 2 ^ (7 * k)) : N + x % 128 * 2 ^ (7 * k) < 2 ^ (7 * (k + 1)) := by
  rw [pow7]
  have : x % 128 * 2 ^ (7 * k) ≤ 127 * 2 ^ (7 * k) := Nat.mul_le_mul_right _ (by omega)
  omega
theorem uv_small {k x : Nat} (hk : k ≤ 9) (h9 : k = 9 → x ≤ 1) : x % 128 * 2 ^ (7 * k) < 18446744073709551616 := by
  by_cases h : k = 9
  · subst h
    have : x % 128 ≤ 1 := by have := h9 rfl; omega
    have := Nat.mul_le_mul_right (2 ^ 63) this
    omega
  · have h1 : 2 ^ (7 * k) ≤ 2 ^ 56 := Nat.pow_le_pow_right (by omega) (by omega)
    have := Nat.mul_le_mul (show x % 128 ≤ 127 by omega) h1
    omega
theorem uv_sum {k N x : Nat} (hk : k ≤ 9) (hN : N < 2 ^ (7 * k)) (h9 : k = 9 → x ≤ 1) : N + x % 128 * 2 ^ (7 * k) < 18446744073709551616 := by
  by_cases h : k = 9
  · subst h
    have h1 : x % 128 ≤ 1 := by have := h9 rfl; omega
    have h2 := Nat.mul_le_mul_right (2 ^ 63) h1
    have h3 : (2 : Nat) ^ (7 * 9) = 2 ^ 63 := rfl
    rw [h3] at hN ⊢
    omega
  · have h1 : 2 ^ (7 * (k + 1)) ≤ 2 ^ 63 := Nat.pow_le_pow_right (by omega) (by omega)
    have := uv_lt (x := x) hN
    omega
/-- What the walk has of 'n |= uint64(b[i]&0x7f) << (7 * i)'. -/
theorem uv_or {k N x : Nat} (hk : k ≤ 9) (hN : N < 2 ^ (7 * k)) (h9 : k = 9 → x ≤ 1) :
    bits .or .u64 (N : Int) (IntKind.u64.wrap ((x : Int) % 128 * 2 ^ (7 * k))) = ((N + x % 128 * 2 ^ (7 * k) : Nat) : Int) := by
  have h := uv_small (x := x) hk h9
  have e : ((x : Int) % 128 * 2 ^ (7 * k)) = ((x % 128 * 2 ^ (7 * k) : Nat) : Int) := by push_cast; rfl
  have hs := uv_sum hk hN h9
  rw [e, IntWalk.u64_in _ (by omega), u64_or_nat _ _ (by omega) (by omega), or_beside _ _ _ hN]

def uvT (r : Nat × Nat × Nat) : Value := .tuple #[.int .u64 (r.1 : Int), .int .i64 (r.2.1 : Int), .int .i64 (r.2.2 : Int)]

theorem uvT_ok (n k : Nat) : uvT (n, k, 0) = .tuple #[.int .u64 (n : Int), .int .i64 (k : Int), .int .i64 0] := rfl
theorem ret3 {a b c a' b' c' : Int} (h : a = a') (h' : b = b') (h'' : c = c') : Ending.returned (.tuple #[.int .u64 a, .int .i64 b, .int .i64 c]) = .returned (.tuple #[.int .u64 a', .int .i64 b', .int .i64 c']) := by rw [h, h', h'']
section
variable {k n : Nat} {b : UInt8} {r : List UInt8}
theorem uvS_over (h9 : k = 9) (h : 1 < b.toNat) : uvS k n (b :: r) = (0, 0, 9) := by unfold uvS; rw [if_pos ⟨h9, h⟩]
theorem uvS_form (h9 : k = 9 → b.toNat ≤ 1) (hk : 0 < k) (hb : b.toNat = 0) : uvS k n (b :: r) = (0, 0, 8) := by
  unfold uvS; rw [if_neg (fun h => by have := h9 h.1; omega), if_pos (by omega), if_pos ⟨hk, hb⟩]
theorem uvS_done (h9 : k = 9 → b.toNat ≤ 1) (hb : b.toNat < 128) (h0 : ¬ (0 < k ∧ b.toNat = 0)) : uvS k n (b :: r) = (n + b.toNat % 128 * 2 ^ (7 * k), k + 1, 0) := by
  unfold uvS; rw [if_neg (fun h => by have := h9 h.1; omega), if_pos hb, if_neg h0]
theorem uvS_more (h9 : k ≠ 9) (hb : 128 ≤ b.toNat) : uvS k n (b :: r) = uvS (k + 1) (n + b.toNat % 128 * 2 ^ (7 * k)) r := by
  conv => lhs; unfold uvS
  rw [if_neg (fun h => h9 h.1), if_neg (by omega)]
end

section
set_option maxHeartbeats 1000000
set_option maxRecDepth 100000
theorem uvarint_any (A : Option Addr) (ca : Nat) (xs : List UInt8) (w : World) (hx : Rd w A (xs.map Bv)) (hlx : xs.length ≤ 9223372036854775807) :
    Calls Tryd.prog 84 #[.slice A xs.length ca] w fun e w' => e = .returned (uvT (uvS 0 0 xs)) ∧ w = w' := by
  go_enter Tryd.func84, Tryd.ntmps84
  go_wp2
  go_step3
  go_wp2
  go_step3
  go_wp2
  all_goals
    go_loop [5,6,11] (fun n s i => ∃ k N : Nat, k ≤ xs.length ∧ k ≤ 9 ∧ N < 2 ^ (7 * k) ∧ i = .int .i64 k ∧ n = .int .u64 N ∧ s = .int .i64 0 ∧ uvS 0 0 xs = uvS k N (xs.drop k)) (fun _ _ i => xs.length - (intOf i).toNat)
    case atStart => exact ⟨0, 0, by omega, by omega, by decide, rfl, rfl, rfl, rfl⟩
    case round =>
      obtain ⟨k, N, hk, hk9, hN, rfl, rfl, rfl, hu⟩ := hrel
      by_cases hlt : k < xs.length
      · obtain ⟨b, off, rfl, hc⟩ := hx.byte hlt
        rw [drop_cons hlt] at hu
        have h1 := xs[k].toNat_lt
        have HN := Lib.hid hN; clear hN
        have HU := Lib.hid hu; clear hu
        have hlt10 : (k : Int) < 10 := by omega
        by_cases h9 : k = 9
        · have h9' : ((k : Int) == 9) = true := by simp [h9]
          by_cases hx1 : 1 < xs[k].toNat
          · have hv : uvS 0 0 xs = (0, 0, 9) := by rw [HU.out]; exact uvS_over h9 hx1
            have HV := Lib.hid hv; clear hv HU HN
            generalize xs[k].toNat = x at hc h1 hx1 ⊢
            have hm := mask127 (c := (x : Int)) (by omega) (by omega)
            have H9 := Lib.hid h9; clear h9
            go_wp2
            go_ret3
            exact ⟨by rw [HV.out]; rfl, rfl⟩
          · have HO := Lib.hid (uv_or (x := xs[k].toNat) (by omega) HN.out (fun _ => by omega))
            by_cases hx0 : xs[k].toNat = 0
            · have hv : uvS 0 0 xs = (0, 0, 8) := by rw [HU.out]; exact uvS_form (by omega) (by omega) hx0
              have HV := Lib.hid hv; clear hv HU HN HO
              have hb0 : ((xs[k].toNat : Int) == 0) = true := by simp [hx0]
              have hx2 : (xs[k].toNat : Int) < 128 := by omega
              have hx3 : (xs[k].toNat : Int) ≤ 1 := by omega
              generalize xs[k].toNat = x at hc h1 hb0 hx2 hx3 ⊢
              clear hx1 hx0
              have hm := mask127 (c := (x : Int)) (by omega) (by omega)
              have hk0 : ((k : Int) + 1 == 0) = false := by simp; omega
              have hk1 : 1 < (k : Int) + 1 := by omega
              have H9 := Lib.hid h9; clear h9
              go_wp2
              go_ret3
              exact ⟨by rw [HV.out]; rfl, rfl⟩
            · have hv : uvS 0 0 xs = (N + xs[k].toNat % 128 * 2 ^ (7 * k), k + 1, 0) := by rw [HU.out]; exact uvS_done (by omega) (by omega) (by omega)
              have HV := Lib.hid hv; clear hv HU HN
              have hb0 : ((xs[k].toNat : Int) == 0) = false := by simp [hx0]
              have hx2 : (xs[k].toNat : Int) < 128 := by omega
              have hx3 : (xs[k].toNat : Int) ≤ 1 := by omega
              generalize xs[k].toNat = x at *
              have hm := mask127 (c := (x : Int)) (by omega) (by omega)
              have hk0 : ((k : Int) + 1 == 0) = false := by simp; omega
              have hk1 : 1 < (k : Int) + 1 := by omega
              have H9 := Lib.hid h9; clear h9 hx0
              go_wp2
              go_ret3
              exact ⟨by rw [HV.out]; exact ret3 HO.out (by simp) rfl, rfl⟩
        · have h9' : ((k : Int) == 9) = false := by simp; omega
          have HO := Lib.hid (uv_or (x := xs[k].toNat) (by omega) HN.out (fun e => absurd e h9))
          by_cases hx2 : xs[k].toNat < 128
          · by_cases hx0 : xs[k].toNat = 0
            · have hb0 : ((xs[k].toNat : Int) == 0) = true := by simp [hx0]
              by_cases hk0 : k = 0
              · have hv : uvS 0 0 xs = (N + xs[k].toNat % 128 * 2 ^ (7 * k), k + 1, 0) := by rw [HU.out]; exact uvS_done (by omega) (by omega) (by omega)
                have HV := Lib.hid hv; clear hv HU HN
                generalize xs[k].toNat = x at *
                have hm := mask127 (c := (x : Int)) (by omega) (by omega)
                have hk00 : ((k : Int) + 1 == 0) = false := by simp; omega
                have hk1 : (k : Int) + 1 ≤ 1 := by omega
                clear hx0 hk0 h9
                go_wp2
                go_ret3
                exact ⟨by rw [HV.out]; exact ret3 HO.out (by simp) rfl, rfl⟩
              · have hv : uvS 0 0 xs = (0, 0, 8) := by rw [HU.out]; exact uvS_form (by omega) (by omega) hx0
                have HV := Lib.hid hv; clear hv HU HN HO
                generalize xs[k].toNat = x at *
                have hm := mask127 (c := (x : Int)) (by omega) (by omega)
                have hk00 : ((k : Int) + 1 == 0) = false := by simp; omega
                have hk1 : 1 < (k : Int) + 1 := by omega
                clear hx0 h9
                go_wp2
                go_ret3
                exact ⟨by rw [HV.out]; rfl, rfl⟩
            · have hb0 : ((xs[k].toNat : Int) == 0) = false := by simp [hx0]
              have hv : uvS 0 0 xs = (N + xs[k].toNat % 128 * 2 ^ (7 * k), k + 1, 0) := by rw [HU.out]; exact uvS_done (by omega) (by omega) (by omega)
              have HV := Lib.hid hv; clear hv HU HN
              generalize xs[k].toNat = x at *
              have hm := mask127 (c := (x : Int)) (by omega) (by omega)
              have hk00 : ((k : Int) + 1 == 0) = false := by simp; omega
              clear hx0 h9
              go_wp2
              all_goals
                go_ret3
                exact ⟨by rw [HV.out]; exact ret3 HO.out (by simp) rfl, rfl⟩
          · have hv : uvS 0 0 xs = uvS (k + 1) (N + xs[k].toNat % 128 * 2 ^ (7 * k)) (xs.drop (k + 1)) := by rw [HU.out]; exact uvS_more h9 (by omega)
            have HV := Lib.hid hv; clear hv HU
            have HL := Lib.hid (uv_lt (x := xs[k].toNat) HN.out)
            generalize xs[k].toNat = x at *
            have hm := mask127 (c := (x : Int)) (by omega) (by omega)
            have hx3 : 128 ≤ (x : Int) := by omega
            go_wp2
            go_round
            case rel => exact ⟨k + 1, _, by omega, by omega, HL.out, by go_num, congrArg (Value.int .u64) HO.out, rfl, HV.out⟩
            case measure => simp [intOf]; omega
      · have hv : uvS 0 0 xs = (0, 0, 6) := by rw [hu, List.drop_eq_nil_of_le (by omega)]; rfl
        have HV := Lib.hid hv; clear hv hu hN
        go_wp2
        all_goals
          go_ret3
          exact ⟨by rw [HV.out]; rfl, rfl⟩
theorem uvarint_len (A : Option Addr) (ca len : Nat) (xs : List UInt8) (w : World) (hl : xs.length = len) (hx : Rd w A (xs.map Bv)) (hlx : xs.length ≤ 9223372036854775807) :
    Calls Tryd.prog 84 #[.slice A len ca] w fun e w' => e = .returned (uvT (uvS 0 0 xs)) ∧ w = w' := by
  subst hl
  exact uvarint_any A ca xs w hx hlx
end
end Go.Proofs.YtgogpngobdafaaaDoor
