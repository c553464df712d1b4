/-
  Rows of numbers that are put; what the plain answers say of putting.
-/
import Derived.Test.YtogakabfidahbaaLaw
import Derived.Test.YtogakabfidahbaaJoin
namespace Go.Proofs.Ytogakabfidahbaa
set_option linter.unusedVariables false
set_option linter.unusedSimpArgs false
open Go.ChangeShapes Go.WideShapes Go.ChangeAt Go.RowKit

/-- The cells from an address on are these numbers and widths. -/
def OpsRd (w : World) (A : Option Addr) (l : List (Nat × Int)) : Prop :=
  ∀ k (h : k < l.length), ∃ b off, A = some ⟨b, off, none⟩ ∧ w.cell? ⟨b, off + k * 2, none⟩ = some (.int .u64 (l[k].1 : Nat)) ∧ w.cell? ⟨b, off + k * 2 + 1, none⟩ = some (.int .i64 l[k].2)
def OpsOk (l : List (Nat × Int)) : Prop := ∀ o ∈ l, o.1 < 18446744073709551616 ∧ -9223372036854775808 ≤ o.2 ∧ o.2 ≤ 9223372036854775807

theorem OpsRd.below {w w' : World} {A : Option Addr} {l : List (Nat × Int)} (h : OpsRd w A l) (hb : Below w.heap.size w w') : OpsRd w' A l := by
  intro k hk
  obtain ⟨b, off, rfl, h1, h2⟩ := h k hk
  have hlt := World.block_lt_of_cell? w _ h1
  exact ⟨b, off, rfl, (hb.cell (p := ⟨b, off + k * 2, none⟩) hlt).trans h1, (hb.cell (p := ⟨b, off + k * 2 + 1, none⟩) hlt).trans h2⟩

theorem open_pairs {H : Type} {enc : TypeId × Value → H} {W : World} {r : Reach} {b0 : Nat} {v : Value} {d : DataW H} {ps : List MemPlace}
    (hval : Value.okWide Try.prog W r b0 22 v) (h : DataW.Trod enc Try.prog W 0 (fun _ => true) true 22 v d ps) :
    ∃ (A : Option Addr) (cap : Nat) (l : List (Nat × Int)), v = .slice A l.length cap ∧ (l.length ≤ cap ∧ cap ≤ maxLen) ∧ OpsRd W A l ∧ OpsOk l := by
  obtain ⟨a0, len, cap, rfl⟩ := okWide_slice Try.underlying22 hval
  obtain ⟨fuel, hf⟩ := h
  rcases Go.Deep.open_slice_pairs Try.underlying22 Try.underlying30 (by kernel_rfl) rfl rfl (by kernel_rfl) (by kernel_rfl) hf with ⟨hcs, _⟩ | ⟨a, len', cap', m, n, V0, V1, D0, D1, P0, P1, hcs, _, hl, hm, hmm, _, hx⟩
  · simp [Value.cells] at hcs
    obtain ⟨rfl, rfl, rfl⟩ := hcs
    exact ⟨none, 0, [], rfl, ⟨by decide, by decide⟩, fun k hk => absurd hk (by simp), fun o ho => by cases ho⟩
  · simp [Value.cells] at hcs
    obtain ⟨rfl, rfl, rfl⟩ := hcs
    simp only [if_true] at hmm
    rw [hmm] at hx
    clear hmm
    have each : ∀ i, i < cap → ∃ o : Nat × Int, V0 i = .int .u64 (o.1 : Nat) ∧ V1 i = .int .i64 o.2 ∧ o.1 < 18446744073709551616 ∧ -9223372036854775808 ≤ o.2 ∧ o.2 ≤ 9223372036854775807 := by
      intro i hi
      obtain ⟨_, _, t0, t1⟩ := hx i hi
      obtain ⟨n0, e0, _, w0⟩ := DataW.trod_int Try.underlying28 t0
      obtain ⟨n1, e1, _, w1⟩ := DataW.trod_int Try.underlying3 t1
      simp at e0 e1
      have b0 := bounds_u64 w0
      have b1 := bounds_i64 w1
      refine ⟨(n0.toNat, n1), ?_, e1, by simp; omega, b1.1, b1.2⟩
      rw [e0]
      congr 1
      simp; omega
    let f : Nat → Nat × Int := fun i => if h : i < cap then (each i h).choose else (0, 0)
    have hfs : ∀ i, i < cap → V0 i = .int .u64 ((f i).1 : Nat) ∧ V1 i = .int .i64 (f i).2 ∧ (f i).1 < 18446744073709551616 ∧ -9223372036854775808 ≤ (f i).2 ∧ (f i).2 ≤ 9223372036854775807 := by
      intro i hi
      have : f i = (each i hi).choose := dif_pos hi
      rw [this]
      exact (each i hi).choose_spec
    refine ⟨some a, cap, (List.range len).map f, by simp, ⟨by simpa using hl, hm⟩, fun k hk => ?_, fun o ho => ?_⟩
    · have hk' : k < len := by simpa using hk
      obtain ⟨c0, c1, _, _⟩ := hx k (by omega)
      obtain ⟨c00, _, _, _⟩ := hx 0 (by omega)
      rw [Nat.zero_mul] at c00
      obtain ⟨b, off, _, h00, _, _⟩ := addr_flat c00
      have := h00 rfl
      subst this
      obtain ⟨s0, s1, _⟩ := hfs k (by omega)
      refine ⟨b, off, rfl, ?_, ?_⟩
      · rw [add_plain] at c0
        rw [c0, s0]; simp
      · rw [add_plain, ← Nat.add_assoc] at c1
        rw [c1, s1]; simp
    · obtain ⟨i, hi, rfl⟩ := List.mem_map.1 ho
      exact (hfs i (by have := List.mem_range.1 hi; omega)).2.2

section
set_option maxHeartbeats 1600000
set_option maxRecDepth 100000
theorem few_any (w : World) (A : Option Addr) (c n : Nat) : Calls Try.prog 11 #[.slice A n c] w fun e w' => e = .returned (.bool (decide ((n : Int) ≤ 200))) ∧ w = w' := by
  go_enter Try.func11, Try.ntmps11
  go_wp2
  go_ret
  exact ⟨rfl, rfl⟩

theorem shift_ne {n k : Nat} : ((n : Int) / 2 ^ k != 0) = decide (2 ^ k ≤ n) := by
  have e : ((n : Int) / 2 ^ k) = ((n / 2 ^ k : Nat) : Int) := by rw [Int.natCast_ediv, Int.natCast_pow]; rfl
  rw [e]
  by_cases h : 2 ^ k ≤ n
  · have : n / 2 ^ k ≠ 0 := by rw [Nat.div_ne_zero_iff]; exact ⟨by have := Nat.two_pow_pos k; omega, h⟩
    rw [decide_eq_true h, bne_iff_ne]; omega
  · rw [Nat.div_eq_of_lt (by omega), decide_eq_false h]; rfl
theorem high_any (w : World) (n k : Nat) (hk : k ≤ 64) (hn : n < 18446744073709551616) :
    Calls Try.prog 39 #[.int .u64 n, .int .i64 k] w fun e w' => e = .returned (.bool (decide (2 ^ k ≤ n))) ∧ w = w' := by
  by_cases h64 : k < 64
  · have hs := shift_ne (n := n) (k := k)
    go_enter Try.func39, Try.ntmps39
    go_wp2
    go_ret
    exact ⟨rfl, rfl⟩
  · have hd : decide (2 ^ k ≤ n) = false := by rw [decide_eq_false_iff_not, show k = 64 from by omega]; omega
    have HD := Lib.hid hd; clear hd
    go_enter Try.func39, Try.ntmps39
    go_wp2
    go_ret
    exact ⟨by rw [HD.out]; rfl, rfl⟩
theorem may_any (w : World) (len n : Nat) (wd : Int) (hl : len ≤ 8388608) (hn : n < 18446744073709551616) (h0 : -9223372036854775808 ≤ wd) (h1 : wd ≤ 9223372036854775807) :
    Calls Try.prog 14 #[.int .i64 len, .int .u64 n, .int .i64 wd] w fun e w' => e = .returned (.int .i64 (putE len n wd : Nat)) ∧ w = w' := by
  by_cases hA : wd < 0 ∨ 64 < wd ∨ 2 ^ wd.toNat ≤ n
  · have he : putE len n wd = 1 := putE_arg hA
    rw [he]
    by_cases a : wd < 0
    · clear hA he
      go_enter Try.func14, Try.ntmps14
      go_wp2
      go_ret
      exact ⟨rfl, rfl⟩
    · by_cases b : 64 < wd
      · have a' : 0 ≤ wd := by omega
        clear hA he
        go_enter Try.func14, Try.ntmps14
        go_wp2
        go_ret
        exact ⟨rfl, rfl⟩
      · obtain ⟨k, rfl⟩ := Int.eq_ofNat_of_zero_le (show 0 ≤ wd by omega)
        have hp : decide (2 ^ k ≤ n) = true := by rw [decide_eq_true_iff]; exact (hA.resolve_left a).resolve_left b
        have hk : k ≤ 64 := by omega
        clear hA he
        go_enter Try.func14, Try.ntmps14
        go_wp2_with (first | (go_at_call 39; refine (high_any _ n k hk hn).mono ?_; rintro e w' ⟨rfl, rfl⟩))
        go_ret
        exact ⟨rfl, rfl⟩
  · obtain ⟨k, rfl⟩ := Int.eq_ofNat_of_zero_le (show 0 ≤ wd by omega)
    have hp : decide (2 ^ k ≤ n) = false := by rw [decide_eq_false_iff_not]; exact (not_or.1 (not_or.1 hA).2).2
    have hk : k ≤ 64 := by omega
    by_cases hf : 8388608 < (len : Int) + (k : Int)
    · have he : putE len n (k : Int) = 5 := by unfold putE; rw [if_neg hA, if_pos hf]
      rw [he]
      have hf' : 8388608 - (k : Int) < (len : Int) := by omega
      clear hA he hf
      go_enter Try.func14, Try.ntmps14
      go_wp2_with (first | (go_at_call 39; refine (high_any _ n k hk hn).mono ?_; rintro e w' ⟨rfl, rfl⟩))
      go_ret
      exact ⟨rfl, rfl⟩
    · have he : putE len n (k : Int) = 0 := by unfold putE; rw [if_neg hA, if_neg hf]
      rw [he]
      have hf' : (len : Int) ≤ 8388608 - (k : Int) := by omega
      clear hA he hf
      go_enter Try.func14, Try.ntmps14
      go_wp2_with (first | (go_at_call 39; refine (high_any _ n k hk hn).mono ?_; rintro e w' ⟨rfl, rfl⟩))
      go_ret
      exact ⟨rfl, rfl⟩
end
end Go.Proofs.Ytogakabfidahbaa
