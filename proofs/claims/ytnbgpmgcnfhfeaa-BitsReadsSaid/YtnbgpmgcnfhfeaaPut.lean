/-
  Rows of bits, written: a whole number is put part by part.
-/
import Derived.Test.YtnbgpmgcnfhfeaaWr
namespace Go.Proofs.Ytnbgpmgcnfhfeaa
set_option linter.unusedVariables false
set_option linter.unusedSimpArgs false
open Go.RowKit

/-- What Put answers. -/
def putE (len n : Nat) (wd : Int) : Nat := if wd < 0 ∨ 64 < wd ∨ 2 ^ wd.toNat ≤ n then 1 else if 8388608 < (len : Int) + wd then 5 else 0

/-- On the way: the bits from the k-th on are put. -/
def PutAt (W wr : World) (p q n wd k : Nat) (v : Value) (l : List Bool) : Prop :=
  W.heap.size ≤ q ∧ wr.heap[q]? = some (.cells #[.pointer (some ⟨p, 0, none⟩)] 39 (0, 0)) ∧ Put1 W wr p v (l ++ bitsOf (n / 2 ^ k) (wd - k))

theorem putAt_start {W : World} {p n wd : Nat} {v : Value} {l : List Bool} (hw : Wis W p v l) :
    PutAt W (W.alloc (.cells #[.pointer (some ⟨p, 0, none⟩)] 39)) p W.heap.size n wd wd v l := by
  refine ⟨Nat.le_refl _, heap_alloc_new W _, v, ⟨?_, ?_⟩, (Mv.refl _ _).alloc _, fun _ _ h => h⟩
  · rw [Nat.sub_self, bitsOf, List.append_nil, Below.heap_alloc W _ p (blk_lt hw.1)]; exact hw.1
  · rw [Nat.sub_self, bitsOf, List.append_nil]; exact hw.2.alloc _

theorem putAt_step {W wr w' : World} {p q n wd k c : Nat} {v v1 : Value} {l : List Bool} (hk : k ≤ wd) (hc : c ≤ k) (hc8 : c ≤ 8)
    (hq : W.heap.size ≤ q) (kq : wr.heap[q]? = some (.cells #[.pointer (some ⟨p, 0, none⟩)] 39 (0, 0))) (hw : Wis wr p v1 (l ++ bitsOf (n / 2 ^ k) (wd - k)))
    (hmv : Mv (fun i => i = p ∨ v.ownBlock = some i) W wr) (htr : ∀ i, i < W.heap.size → v1.ownBlock = some i → v.ownBlock = some i)
    (h : Put1 wr w' p v1 (l ++ bitsOf (n / 2 ^ k) (wd - k) ++ bitsOf (n / 2 ^ (k - c) % 256) c)) : PutAt W w' p q n wd (k - c) v l := by
  obtain ⟨v2, h1, h2, h3⟩ := h
  have e : bitsOf (n / 2 ^ (k - c)) (wd - (k - c)) = bitsOf (n / 2 ^ k) (wd - k) ++ bitsOf (n / 2 ^ (k - c) % 256) c := by
    rw [bitsOf_mod _ _ hc8, show wd - (k - c) = (wd - k) + c from by omega, bitsOf_add, Nat.div_div_eq_div_mul, ← Nat.pow_add, show k - c + c = k from by omega]
  refine ⟨hq, ?_, v2, ?_, hmv.trans h2 (fun i hi h => ?_), fun i hi h => htr i hi (h3 i (Nat.lt_of_lt_of_le hi hmv.size) h)⟩
  · rw [h2.block q (blk_lt kq) ?_]
    · exact kq
    · rintro (h | h)
      · exact ne_blk kq hw.1 (by decide) h
      · exact own_blk hw.2 kq (by decide) h
  · rw [e, ← List.append_assoc]; exact h1
  · rcases h with h | h
    · exact Or.inl h
    · exact Or.inr (htr i hi h)

section
set_option maxHeartbeats 1600000
set_option maxRecDepth 100000
theorem put_ok (W : World) (p n wd : Nat) (v : Value) (l : List Bool) (hw : Wis W p v l) (hn : n < 2 ^ wd) (hwd : wd ≤ 64) (hl : l.length + wd ≤ 8388608) :
    Calls Try.prog 13 #[.pointer (some ⟨p, 0, none⟩), .int .u64 n, .int .i64 wd] W fun e w' => e = .returned (.int .i64 0) ∧ Put1 W w' p v (l ++ bitsOf n wd) := by
  have hp0 := cell_blk hw.1 0
  have hp2 := cell_blk hw.1 2
  simp at hp0 hp2
  have hpl := blk_lt hw.1
  have hmf : ∀ (fn : Fn) (first cap : Array Value) (w : World), (Instr.makeFunc fn first cap).run Try.prog w = .ok (.func fn first cap) w := fun _ _ _ _ => rfl
  have hsh : ((n : Int) / 2 ^ wd != 0) = false := by
    have : n / 2 ^ wd = 0 := Nat.div_eq_of_lt hn
    have e : ((n : Int) / 2 ^ wd) = ((n / 2 ^ wd : Nat) : Int) := by rw [Int.natCast_ediv, Int.natCast_pow]; rfl
    rw [e, this]; rfl
  have Hn := Lib.hid hn; clear hn
  go_enter Try.func13, Try.ntmps13
  go_wp2
  go_loopw [8] (fun i wr => ∃ k : Nat, k ≤ wd ∧ i = .int .i64 k ∧ PutAt W wr p W.heap.size n wd k v l) (fun i _ => (intOf i).toNat)
  case atStart => exact ⟨wd, Nat.le_refl _, rfl, putAt_start hw⟩
  case round =>
    obtain ⟨k, hk, rfl, hq, kq, v1, hw1, hmv, htr⟩ := hrel
    clear hp0 hp2
    by_cases hk0 : 0 < k
    · have hlen : (l ++ bitsOf (n / 2 ^ k) (wd - k)).length = l.length + (wd - k) := by rw [List.length_append, bitsOf_length]
      have hqc := cell_blk kq 0
      have hp2 := cell_blk hw1.1 2
      simp only [List.getElem?_toArray, List.getElem?_cons_zero, List.getElem?_cons_succ] at hqc hp2
      obtain ⟨s, hs⟩ : ∃ s, s = (l ++ bitsOf (n / 2 ^ k) (wd - k)).length := ⟨_, rfl⟩
      rw [← hs] at hp2 hlen
      have hs8 : s ≤ 8388608 := by omega
      have KQ := Lib.hid kq; clear kq
      have HS := Lib.hid hs; clear hs
      have HL := Lib.hid hlen; clear hlen
      have hpk : (n / 2 ^ (k - (8 - s % 8)) % 256) < 256 := Nat.mod_lt _ (by omega)
      go_wp2_with fail
      · refine (into_at _ p _ (n / 2 ^ (k - (8 - s % 8)) % 256) (8 - s % 8) _ _ v1 _ ?_ (by omega) KQ.out hw1 hpk (by omega) (by rw [← HS.out]; omega) (by rw [← HS.out]; have := HL.out; omega)).mono ?_
        · rw [show ((k : Int) - (8 - (s : Int) % 8)).toNat = k - (8 - s % 8) from by omega, Int.natCast_emod, Int.natCast_ediv, Int.natCast_pow]; rfl
        · rintro e w' ⟨rfl, hput⟩
          go_wp2
          go_roundw
          case rel => exact ⟨k - (8 - s % 8), by omega, congrArg (Value.int .i64) (by omega), putAt_step hk (by omega) (by omega) hq KQ.out hw1 hmv htr hput⟩
          case measure => simp [intOf]; omega
      · refine (into_at _ p _ (n / 2 ^ (k - k) % 256) k _ _ v1 _ ?_ rfl KQ.out hw1 (Nat.mod_lt _ (by omega)) hk0 (by rw [← HS.out]; omega) (by rw [← HS.out]; have := HL.out; omega)).mono ?_
        · rw [Nat.sub_self, Nat.pow_zero, Nat.div_one]; rfl
        · rintro e w' ⟨rfl, hput⟩
          go_wp2
          go_roundw
          case rel => exact ⟨k - k, by omega, congrArg (Value.int .i64) (by omega), putAt_step hk (by omega) (by omega) hq KQ.out hw1 hmv htr hput⟩
          case measure => simp [intOf]; omega
    · obtain rfl : k = 0 := by omega
      go_wp2
      go_ret
      have hput : Put1 W wr p v (l ++ bitsOf (n / 2 ^ 0) (wd - 0)) := ⟨v1, hw1, hmv, htr⟩
      exact ⟨rfl, by simpa using hput⟩

theorem putE_arg {len n : Nat} {wd : Int} (h : wd < 0 ∨ 64 < wd ∨ 2 ^ wd.toNat ≤ n) : putE len n wd = 1 := by unfold putE; rw [if_pos h]
theorem put1_alloc {W : World} {p : Nat} {v : Value} {l : List Bool} (hw : Wis W p v l) (o : Obj) : Put1 W (W.alloc o) p v l :=
  ⟨v, ⟨(Below.heap_alloc W _ p (blk_lt hw.1)).trans hw.1, hw.2.alloc _⟩, (Mv.refl _ _).alloc _, fun _ _ h => h⟩

theorem put_arg (W : World) (p n : Nat) (wd : Int) (v : Value) (l : List Bool) (hw : Wis W p v l) (hn : n < 18446744073709551616) (h : wd < 0 ∨ 64 < wd ∨ 2 ^ wd.toNat ≤ n) :
    Calls Try.prog 13 #[.pointer (some ⟨p, 0, none⟩), .int .u64 n, .int .i64 wd] W fun e w' => e = .returned (.int .i64 1) ∧ Put1 W w' p v l := by
  have hp0 := cell_blk hw.1 0
  simp at hp0
  have hpl := blk_lt hw.1
  by_cases h0 : wd < 0
  · go_enter Try.func13, Try.ntmps13
    go_wp2
    go_ret
    exact ⟨rfl, put1_alloc hw _⟩
  · by_cases h1 : 64 < wd
    · have h0' : 0 ≤ wd := by omega
      go_enter Try.func13, Try.ntmps13
      go_wp2
      go_ret
      exact ⟨rfl, put1_alloc hw _⟩
    · obtain ⟨k, rfl⟩ := Int.eq_ofNat_of_zero_le (show 0 ≤ wd by omega)
      have h2 : 2 ^ k ≤ n := (h.resolve_left h0).resolve_left h1
      have hsh : ((n : Int) / 2 ^ k != 0) = true := by
        have : n / 2 ^ k ≠ 0 := by rw [Nat.div_ne_zero_iff]; exact ⟨by have := Nat.two_pow_pos k; omega, h2⟩
        have e : ((n : Int) / 2 ^ k) = ((n / 2 ^ k : Nat) : Int) := by rw [Int.natCast_ediv, Int.natCast_pow]; rfl
        rw [e, bne_iff_ne]; omega
      have hk : k ≤ 64 := by omega
      clear h h2 h0 h1
      go_enter Try.func13, Try.ntmps13
      go_wp2
      go_ret
      exact ⟨rfl, put1_alloc hw _⟩

theorem put_full (W : World) (p n wd : Nat) (v : Value) (l : List Bool) (hw : Wis W p v l) (hn : n < 2 ^ wd) (hwd : wd ≤ 64) (hl : 8388608 < l.length + wd) (hl2 : l.length ≤ 8388608) :
    Calls Try.prog 13 #[.pointer (some ⟨p, 0, none⟩), .int .u64 n, .int .i64 wd] W fun e w' => e = .returned (.int .i64 5) ∧ Put1 W w' p v l := by
  have hp0 := cell_blk hw.1 0
  have hp2 := cell_blk hw.1 2
  simp at hp0 hp2
  have hpl := blk_lt hw.1
  have hsh : ((n : Int) / 2 ^ wd != 0) = false := by
    have : n / 2 ^ wd = 0 := Nat.div_eq_of_lt hn
    have e : ((n : Int) / 2 ^ wd) = ((n / 2 ^ wd : Nat) : Int) := by rw [Int.natCast_ediv, Int.natCast_pow]; rfl
    rw [e, this]; rfl
  have Hn := Lib.hid hn; clear hn
  go_enter Try.func13, Try.ntmps13
  go_wp2
  go_ret
  exact ⟨rfl, put1_alloc hw _⟩

/-- Put, whatever is put. -/
theorem put_any (W : World) (p n : Nat) (wd : Int) (v : Value) (l : List Bool) (hw : Wis W p v l) (hn : n < 18446744073709551616) (hl2 : l.length ≤ 8388608) :
    Calls Try.prog 13 #[.pointer (some ⟨p, 0, none⟩), .int .u64 n, .int .i64 wd] W fun e w' => e = .returned (.int .i64 (putE l.length n wd : Nat)) ∧
      Put1 W w' p v (if putE l.length n wd = 0 then l ++ bitsOf n wd.toNat else l) := by
  by_cases h : wd < 0 ∨ 64 < wd ∨ 2 ^ wd.toNat ≤ n
  · rw [putE_arg h]
    exact put_arg W p n wd v l hw hn h
  · obtain ⟨k, rfl⟩ := Int.eq_ofNat_of_zero_le (show 0 ≤ wd by omega)
    have hk : n < 2 ^ k := by
      have := (not_or.1 (not_or.1 h).2).2
      simpa using this
    have hk64 : k ≤ 64 := by omega
    by_cases hf : 8388608 < l.length + k
    · have e : putE l.length n (k : Int) = 5 := by unfold putE; rw [if_neg h, if_pos (by omega)]
      rw [e]
      exact put_full W p n k v l hw hk hk64 hf hl2
    · have e : putE l.length n (k : Int) = 0 := by unfold putE; rw [if_neg h, if_neg (by omega)]
      rw [e]
      exact put_ok W p n k v l hw hk hk64 (by omega)

theorem put_nil (W : World) (n : Nat) (wd : Int) :
    Calls Try.prog 13 #[.pointer none, .int .u64 n, .int .i64 wd] W fun e w' => e = .returned (.int .i64 2) ∧ Mv (fun _ => False) W w' := by
  go_enter Try.func13, Try.ntmps13
  go_wp2
  go_ret
  exact ⟨rfl, (Mv.refl _ _).alloc _⟩
theorem put_unmade (W : World) (p n : Nat) (wd : Int) (hp0 : W.cell? ⟨p, 0, none⟩ = some (.bool false)) (hpl : p < W.heap.size) :
    Calls Try.prog 13 #[.pointer (some ⟨p, 0, none⟩), .int .u64 n, .int .i64 wd] W fun e w' => e = .returned (.int .i64 2) ∧ Mv (fun _ => False) W w' := by
  go_enter Try.func13, Try.ntmps13
  go_wp2
  go_ret
  exact ⟨rfl, (Mv.refl _ _).alloc _⟩
end
end Go.Proofs.Ytnbgpmgcnfhfeaa
