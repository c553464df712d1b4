/-
  Rows of bits, read.
-/
import Derived.Test.YtnbgpmgcnfhfeaaBy
namespace Go.Proofs.Ytnbgpmgcnfhfeaa
set_option linter.unusedVariables false
set_option linter.unusedSimpArgs false
open Go.RowKit

/-- The bits of bytes, the first one of each highest. -/
def rb (xs : List UInt8) : List Bool := xs.flatMap fun x => bitsOf x.toNat 8
theorem rb_length (xs : List UInt8) : (rb xs).length = 8 * xs.length := by
  induction xs with
  | nil => rfl
  | cons x r ih => simp only [rb, List.flatMap_cons, List.length_append, bitsOf_length, List.length_cons] at ih ⊢; omega
theorem rb_drop8 (xs : List UInt8) (k : Nat) : (rb xs).drop (8 * k) = rb (xs.drop k) := by
  induction k generalizing xs with
  | zero => simp
  | succ k ih =>
    cases xs with
    | nil => simp [rb]
    | cons x r =>
      have e : rb (x :: r) = bitsOf x.toNat 8 ++ rb r := by simp [rb]
      rw [e, show 8 * (k + 1) = (bitsOf x.toNat 8).length + 8 * k from by rw [bitsOf_length]; omega, List.drop_append, List.drop_succ_cons, ← ih, List.drop_of_length_le (by omega), Nat.add_sub_cancel_left, List.nil_append]
theorem bitsOf_drop (x a t : Nat) (h : t ≤ a) : (bitsOf x a).drop t = bitsOf x (a - t) := by
  have := bitsOf_add x t (a - t)
  rw [show t + (a - t) = a from by omega] at this
  rw [this, List.drop_left' (bitsOf_length _ _)]
theorem bitsOf_take (x a c : Nat) (h : c ≤ a) : (bitsOf x a).take c = bitsOf (x / 2 ^ (a - c)) c := by
  have := bitsOf_add x c (a - c)
  rw [show c + (a - c) = a from by omega] at this
  rw [this, List.take_left' (bitsOf_length _ _)]
/-- A part of one byte, taken out of the row. -/
theorem rb_part {xs : List UInt8} {at_ c : Nat} (hk : at_ / 8 < xs.length) (hc : at_ % 8 + c ≤ 8) :
    ((rb xs).drop at_).take c = bitsOf (xs[at_ / 8].toNat / 2 ^ (8 - at_ % 8 - c)) c := by
  have e1 : (rb xs).drop at_ = ((rb xs).drop (8 * (at_ / 8))).drop (at_ % 8) := by rw [List.drop_drop]; congr 1; omega
  have e2 : rb (xs.drop (at_ / 8)) = bitsOf xs[at_ / 8].toNat 8 ++ rb (xs.drop (at_ / 8 + 1)) := by
    rw [List.drop_eq_getElem_cons hk]
    unfold rb
    rw [List.flatMap_cons]
  rw [e1, rb_drop8, e2, List.drop_append_of_le_length (by rw [bitsOf_length]; omega), List.take_append_of_le_length (by rw [List.length_drop, bitsOf_length]; omega),
    bitsOf_drop _ _ _ (by omega), bitsOf_take _ _ _ (by omega)]
theorem part_val (x t c : Nat) (h : t + c ≤ 8) : x * 2 ^ t % 256 / 2 ^ (8 - c) = x / 2 ^ (8 - t - c) % 2 ^ c := by
  have e1 : x * 2 ^ t % 256 = x % 2 ^ (8 - t) * 2 ^ t := by
    have : 256 = 2 ^ (8 - t) * 2 ^ t := by rw [← Nat.pow_add, show 8 - t + t = 8 from by omega]
    rw [this, Nat.mul_mod_mul_right]
  have e2 : 2 ^ (8 - c) = 2 ^ (8 - t - c) * 2 ^ t := by rw [← Nat.pow_add, show 8 - t - c + t = 8 - c from by omega]
  have e3 : 2 ^ (8 - t) = 2 ^ (8 - t - c) * 2 ^ c := by rw [← Nat.pow_add, show 8 - t - c + c = 8 - t from by omega]
  rw [e1, e2, Nat.mul_div_mul_right _ _ (Nat.two_pow_pos t), e3, Nat.mod_mul_right_div_self]
/-- The number of the next bits. -/
def numAt (xs : List UInt8) (at_ c : Nat) : Nat := natOf (((rb xs).drop at_).take c)
theorem numAt_lt (xs : List UInt8) (at_ c : Nat) : numAt xs at_ c < 2 ^ c := Nat.lt_of_lt_of_le (natOf_lt _) (Nat.pow_le_pow_right (by omega) (List.length_take_le _ _))
theorem numAt_zero (xs : List UInt8) (at_ : Nat) : numAt xs at_ 0 = 0 := by simp [numAt, natOf]
theorem numAt_add {xs : List UInt8} {at_ a c : Nat} (h : at_ + a + c ≤ 8 * xs.length) : numAt xs at_ (a + c) = numAt xs at_ a * 2 ^ c + numAt xs (at_ + a) c := by
  unfold numAt
  rw [List.take_add, natOf_append, List.drop_drop]
  have : (((rb xs).drop (at_ + a)).take c).length = c := by rw [List.length_take, List.length_drop, rb_length]; omega
  rw [this]
theorem numAt_part {xs : List UInt8} {at_ c : Nat} (hk : at_ / 8 < xs.length) (hc : at_ % 8 + c ≤ 8) : numAt xs at_ c = xs[at_ / 8].toNat * 2 ^ (at_ % 8) % 256 / 2 ^ (8 - c) := by
  unfold numAt
  rw [rb_part hk hc, natOf_bitsOf, part_val _ _ _ hc]

/-- Block p is a Reader of the first n bits of xs, at_ of them taken. -/
def Ris (w : World) (p : Nat) (v : Value) (xs : List UInt8) (n at_ : Nat) : Prop :=
  w.heap[p]? = some (.cells #[.bool true, v, .int .i64 (at_ : Nat), .int .i64 (n : Nat)] 51 (0, 0)) ∧ w.ownsRow 0 5 1 v xs.length (xs.map Bv) ∧ n ≤ 8 * xs.length ∧ at_ ≤ n ∧ xs.length ≤ 140737488351232

theorem Ris.moved {w w' : World} {p : Nat} {v : Value} {xs : List UInt8} {n a : Nat} {S : Nat → Prop} (h : Ris w p v xs n a) (hm : Mv S w w') (hp : ¬ S p) (hv : ∀ i, v.ownBlock = some i → ¬ S i) : Ris w' p v xs n a := by
  refine ⟨(hm.block p (blk_lt h.1) hp).trans h.1, ?_, h.2.2⟩
  have ho := h.2.1
  refine ⟨ho.1, ?_⟩
  rcases ho.2 with hn | ⟨g, cap, cur, rfl, hb, hg, rest⟩
  · exact .inl hn
  · exact .inr ⟨g, cap, cur, rfl, hb, (hm.block g (blk_lt hg) (hv g rfl)).trans hg, rest⟩

section
set_option maxHeartbeats 1600000
set_option maxRecDepth 100000
theorem left_any (w : World) (p : Nat) (v : Value) (xs : List UInt8) (n a : Nat) (h : Ris w p v xs n a) :
    Calls Try.prog 11 #[.pointer (some ⟨p, 0, none⟩)] w fun e w' => e = .returned (.int .i64 ((n - a : Nat) : Int)) ∧ ∃ m, w' = w.drewN m := by
  obtain ⟨hb, _, h1, h2, h3⟩ := h
  have c2 := cell_blk hb 2
  have c3 := cell_blk hb 3
  simp at c2 c3
  have hn : (n : Int) ≤ 9223372036854775807 := by omega
  have hle : (a : Int) ≤ (n : Int) := by omega
  have e : ((n - a : Nat) : Int) = (n : Int) - (a : Int) := by omega
  have E := Lib.hid e; clear e
  have HB := Lib.hid hb; clear hb
  go_enter Try.func11, Try.ntmps11
  go_wp2
  go_quiet (fail)
  go_wp2
  go_ret
  exact ⟨by rw [E.out]; rfl, _, rfl⟩

/-- On the way: all but k of wd bits are taken. -/
def GetAt (W wr : World) (p : Nat) (v : Value) (xs : List UInt8) (n a wd k : Nat) : Prop := Ris wr p v xs n (a + (wd - k)) ∧ Mv (fun i => i = p) W wr
theorem getAt_step {W wr wq : World} {p : Nat} {v : Value} {xs : List UInt8} {n a wd k c : Nat} (h : GetAt W wr p v xs n a wd k) (hk : k ≤ wd) (hc : c ≤ k) (hn : a + wd ≤ n) (hq : ∀ i : Nat, wq.heap[i]? = wr.heap[i]?) (hq2 : Mv (fun _ => False) wr wq) :
    GetAt W (wq.setCell ⟨p, 2, none⟩ (.int .i64 ((a + (wd - k) : Nat) + (c : Int)))) p v xs n a wd (k - c) := by
  obtain ⟨⟨hb, ho, h1, h2, h3⟩, hm⟩ := h
  have hb' : wq.heap[p]? = some (.cells #[.bool true, v, .int .i64 ((a + (wd - k) : Nat) : Int), .int .i64 (n : Nat)] 51 (0, 0)) := (hq p).trans hb
  have ho' : wq.ownsRow 0 5 1 v xs.length (xs.map Bv) := by
    refine ⟨ho.1, ?_⟩
    rcases ho.2 with hn | ⟨g, cap, cur, rfl, hbb, hg, rest⟩
    · exact .inl hn
    · exact .inr ⟨g, cap, cur, rfl, hbb, (hq g).trans hg, rest⟩
  refine ⟨⟨?_, ownsRow_setCell_other ho' (own_blk ho' hb' (by decide)) _, h1, by omega, h3⟩, Mv.setCell (S := fun i => i = p) (hm.trans hq2 (fun _ _ f => f.elim)) (fun _ => rfl) _⟩
  rw [set_blk hb']
  have : ((a + (wd - k) : Nat) : Int) + (c : Int) = ((a + (wd - (k - c)) : Nat) : Int) := by omega
  rw [this]
  rfl

theorem get_or {N c v : Nat} (hN : N * 2 ^ c < 18446744073709551616) (hv : v < 2 ^ c) (hc : c ≤ 8) :
    bits .or .u64 (IntKind.u64.wrap ((N : Int) * 2 ^ c)) (v : Int) = ((N * 2 ^ c + v : Nat) : Int) := by
  have e : (N : Int) * 2 ^ c = ((N * 2 ^ c : Nat) : Int) := by rw [Int.natCast_mul, Int.natCast_pow]; rfl
  have hs : N * 2 ^ c ||| v = N * 2 ^ c + v := by rw [Nat.or_comm, or_beside _ _ _ hv, Nat.add_comm]
  have h8 : 2 ^ c ≤ 2 ^ 8 := Nat.pow_le_pow_right (by omega) hc
  rw [e, IntWalk.u64_in _ (by omega), u64_or_nat _ _ hN (by omega), hs]

theorem get_val {N c x t : Nat} (hN : N * 2 ^ c < 18446744073709551616) (hc : t + c ≤ 8) (hx : x < 256) :
    bits .or .u64 (IntKind.u64.wrap ((N : Int) * 2 ^ c)) (IntKind.u64.wrap ((x : Int) * 2 ^ t % 256 / 2 ^ (8 - c))) = ((N * 2 ^ c + x * 2 ^ t % 256 / 2 ^ (8 - c) : Nat) : Int) := by
  have e : (x : Int) * 2 ^ t % 256 / 2 ^ (8 - c) = ((x * 2 ^ t % 256 / 2 ^ (8 - c) : Nat) : Int) := by
    rw [Int.natCast_ediv, Int.natCast_emod, Int.natCast_mul, Int.natCast_pow, Int.natCast_pow]; rfl
  have h1 : x * 2 ^ t % 256 / 2 ^ (8 - c) < 2 ^ c := by rw [part_val _ _ _ hc]; exact Nat.mod_lt _ (Nat.two_pow_pos _)
  have h2 : 2 ^ c ≤ 2 ^ 8 := Nat.pow_le_pow_right (by omega) (by omega)
  rw [e]
  generalize x * 2 ^ t % 256 / 2 ^ (8 - c) = y at h1 ⊢
  rw [IntWalk.u64_in (y : Int) (by omega)]
  exact get_or hN h1 (by omega)
theorem get_next {xs : List UInt8} {a wd k c s : Nat} (hs : s = a + (wd - k)) (hk : k ≤ wd) (hck : c ≤ k) (hwd : wd ≤ 64) (hn : a + wd ≤ 8 * xs.length) (hi : s / 8 < xs.length) (hc : s % 8 + c ≤ 8) :
    numAt xs a (wd - k) * 2 ^ c < 18446744073709551616 ∧ numAt xs a (wd - (k - c)) = numAt xs a (wd - k) * 2 ^ c + xs[s / 8].toNat * 2 ^ (s % 8) % 256 / 2 ^ (8 - c) := by
  refine ⟨?_, ?_⟩
  · have h1 := Nat.mul_lt_mul_of_pos_right (numAt_lt xs a (wd - k)) (Nat.two_pow_pos c)
    rw [← Nat.pow_add] at h1
    exact Nat.lt_of_lt_of_le h1 (show 2 ^ (wd - k + c) ≤ 2 ^ 64 from Nat.pow_le_pow_right (by omega) (by omega))
  · rw [show wd - (k - c) = (wd - k) + c from by omega, numAt_add (by omega), ← hs, numAt_part hi hc]

theorem get_ok (W : World) (p wd : Nat) (v : Value) (xs : List UInt8) (n a : Nat) (h : Ris W p v xs n a) (hwd : wd ≤ 64) (hn : a + wd ≤ n) :
    Calls Try.prog 9 #[.pointer (some ⟨p, 0, none⟩), .int .i64 wd] W fun e w' => e = .returned (.tuple #[.int .u64 (numAt xs a wd : Nat), .int .i64 0]) ∧ GetAt W w' p v xs n a wd 0 := by
  have c0 := cell_blk h.1 0
  simp at c0
  have hnl : n ≤ 1125899906842624 := by have := h.2.2.1; have := h.2.2.2.2; omega
  have hle : ((wd : Int)) ≤ ((n - a : Nat) : Int) := by omega
  have hdl : decide (n - a < wd) = false := by rw [decide_eq_false_iff_not]; omega
  go_enter Try.func9, Try.ntmps9
  go_wp2_with (first | (go_at_call 11; refine (left_any _ _ _ _ _ _ h).mono ?_; rintro e w' ⟨rfl, m, rfl⟩))
  go_loopw [6, 7] (fun N i wr => ∃ k : Nat, k ≤ wd ∧ i = .int .i64 k ∧ N = .int .u64 (numAt xs a (wd - k) : Nat) ∧ GetAt W wr p v xs n a wd k) (fun _ i _ => (intOf i).toNat)
  case atStart => exact ⟨wd, Nat.le_refl _, rfl, by rw [Nat.sub_self, numAt_zero]; rfl, ⟨by rw [Nat.sub_self]; exact h.1, h.2.1, h.2.2.1, by rw [Nat.sub_self]; exact h.2.2.2.1, h.2.2.2.2⟩, (Mv.refl _ _).drewN _⟩
  case round =>
    obtain ⟨k, hk, rfl, rfl, hg⟩ := hrel
    have hg' := hg
    obtain ⟨⟨kb, ko, k1, k2, k3⟩, km⟩ := hg
    have r0 := cell_blk kb 0
    have r1 := cell_blk kb 1
    have r2 := cell_blk kb 2
    have f2 := free_blk kb 2
    simp at r0 r1 r2
    obtain ⟨s, hs⟩ : ∃ s, s = a + (wd - k) := ⟨_, rfl⟩
    rw [← Int.natCast_add, ← hs] at r2
    by_cases hk0 : 0 < k
    · have hs8 : s / 8 < xs.length := by omega
      obtain ⟨A, cap, rfl, rd, _, hcap, _⟩ := own_rd ko
      obtain ⟨g, off, rfl, hc⟩ := rd.byte hs8
      have hx := xs[s / 8].toNat_lt
      have hcl : (s : Int) / 8 < (xs.length : Int) := by omega
      have hge : (0 : Int) ≤ (s : Int) / 8 := by omega
      have hsl : s ≤ 1125899906842624 := by omega
      have KB := Lib.hid kb; clear kb
      have HS := Lib.hid hs; clear hs
      have hA : s % 8 + (8 - s % 8) ≤ 8 := by omega
      go_wp2_with fail
      · have hck : 8 - s % 8 ≤ k := by omega
        obtain ⟨hN, hnx⟩ := get_next HS.out hk hck hwd (by omega) hs8 hA
        have hval := get_val (x := xs[s / 8].toNat) (t := s % 8) hN hA (by omega)
        have HX := Lib.hid hnx; clear hnx
        have HV := Lib.hid hval; clear hval hN
        go_quiet (fail)
        go_wp2
        go_roundw
        case rel =>
          refine ⟨k - (8 - s % 8), by omega, congrArg (Value.int .i64) (by omega), by rw [HX.out]; exact congrArg (Value.int .u64) HV.out, ?_⟩
          have hst := getAt_step (c := 8 - s % 8) hg' hk hck hn (wq := wr.drewN nq) (fun _ => rfl) ((Mv.refl _ _).drewN _)
          have e : ((a + (wd - k) : Nat) : Int) + ((8 - s % 8 : Nat) : Int) = (s : Int) + (8 - (s : Int) % 8) := by have := HS.out; omega
          rw [e] at hst
          exact hst
        case measure => simp [intOf]; omega
      · have hB : s % 8 + k ≤ 8 := by omega
        obtain ⟨hN, hnx⟩ := get_next HS.out hk (Nat.le_refl k) hwd (by omega) hs8 hB
        have hval := get_val (x := xs[s / 8].toNat) (t := s % 8) hN hB (by omega)
        have HX := Lib.hid hnx; clear hnx
        have HV := Lib.hid hval; clear hval hN
        go_quiet (fail)
        go_wp2
        go_roundw
        case rel =>
          refine ⟨k - k, by omega, congrArg (Value.int .i64) (by omega), by rw [HX.out]; exact congrArg (Value.int .u64) HV.out, ?_⟩
          have hst := getAt_step (c := k) hg' hk (Nat.le_refl k) hn (wq := wr.drewN nq) (fun _ => rfl) ((Mv.refl _ _).drewN _)
          have e : ((a + (wd - k) : Nat) : Int) + (k : Int) = (s : Int) + (k : Int) := by have := HS.out; omega
          rw [e] at hst
          exact hst
        case measure => simp [intOf]; omega
    · obtain rfl : k = 0 := by omega
      go_wp2
      go_ret2
      exact ⟨rfl, hg'⟩

/-- What Get answers. -/
def getE (left : Nat) (wd : Int) : Nat := if wd < 0 ∨ 64 < wd then 1 else if (left : Int) < wd then 6 else 0
theorem GetAt.none {W w' : World} {p : Nat} {v : Value} {xs : List UInt8} {n a wd : Nat} (h : GetAt W w' p v xs n a wd 0) : Ris w' p v xs n (a + wd) ∧ Mv (fun i => i = p) W w' := h
theorem get_any (W : World) (p : Nat) (wd : Int) (v : Value) (xs : List UInt8) (n a : Nat) (h : Ris W p v xs n a) :
    Calls Try.prog 9 #[.pointer (some ⟨p, 0, none⟩), .int .i64 wd] W fun e w' =>
      e = .returned (.tuple #[.int .u64 ((if getE (n - a) wd = 0 then numAt xs a wd.toNat else 0 : Nat) : Int), .int .i64 (getE (n - a) wd : Nat)]) ∧
      Ris w' p v xs n (if getE (n - a) wd = 0 then a + wd.toNat else a) ∧ Mv (fun i => i = p) W w' := by
  have c0 := cell_blk h.1 0
  simp at c0
  by_cases hw : wd < 0 ∨ 64 < wd
  · have he : getE (n - a) wd = 1 := by unfold getE; rw [if_pos hw]
    rw [he, if_neg (by decide), if_neg (by decide)]
    have HE := Lib.hid he; clear he
    rcases hw with hw | hw
    · go_enter Try.func9, Try.ntmps9
      go_wp2
      go_ret2
      exact ⟨rfl, h, Mv.refl _ _⟩
    · have h0 : 0 ≤ wd := by omega
      go_enter Try.func9, Try.ntmps9
      go_wp2
      go_ret2
      exact ⟨rfl, h, Mv.refl _ _⟩
  · obtain ⟨k, rfl⟩ := Int.eq_ofNat_of_zero_le (show 0 ≤ wd by omega)
    have hk : k ≤ 64 := by omega
    by_cases hs : n - a < k
    · have he : getE (n - a) (k : Int) = 6 := by unfold getE; rw [if_neg hw, if_pos (by omega)]
      rw [he, if_neg (by decide), if_neg (by decide)]
      have hgt : ((n - a : Nat) : Int) < (k : Int) := by omega
      have HE := Lib.hid he; clear he hw
      go_enter Try.func9, Try.ntmps9
      go_wp2_with (first | (go_at_call 11; refine (left_any _ _ _ _ _ _ h).mono ?_; rintro e w' ⟨rfl, m, rfl⟩))
      go_ret2
      exact ⟨rfl, h, (Mv.refl _ _).drewN _⟩
    · have he : getE (n - a) (k : Int) = 0 := by unfold getE; rw [if_neg hw, if_neg (by omega)]
      rw [he, if_pos rfl, if_pos rfl]
      refine (get_ok W p k v xs n a h hk (by have := h.2.2.2.1; omega)).mono ?_
      rintro e w' ⟨rfl, hg⟩
      exact ⟨rfl, hg.1, hg.2⟩

theorem copied_len (w : World) (A : Option Addr) (c len : Nat) (xs : List UInt8) (hlen : xs.length = len) (hx : Rd w A (xs.map Bv)) (hl : xs.length ≤ 140737488351232) :
    Calls Try.prog 20 #[.slice A len c] w fun e w' => ∃ v, e = .returned v ∧ w'.ownsRow w.heap.size 5 1 v xs.length (xs.map Bv) ∧ Below w.heap.size w w' := by
  subst hlen
  exact copied_any w A c xs hx hl

theorem ris_new {w w1 : World} {v : Value} {xs : List UInt8} {n a B : Nat} (ho : w1.ownsRow B 5 1 v xs.length (xs.map Bv)) (hb : Below w.heap.size w w1) (hB : w.heap.size ≤ B) (hn : n ≤ 8 * xs.length) (ha : a ≤ n) (hl : xs.length ≤ 140737488351232) :
    Ris (w1.alloc (.cells #[.bool true, v, .int .i64 (a : Nat), .int .i64 (n : Nat)] 51)) w1.heap.size v xs n a ∧
    w.heap.size ≤ w1.heap.size ∧ (∀ i, v.ownBlock = some i → w.heap.size ≤ i) ∧ Below w.heap.size w (w1.alloc (.cells #[.bool true, v, .int .i64 (a : Nat), .int .i64 (n : Nat)] 51)) := by
  have ho' := ho.alloc (.cells #[.bool true, v, .int .i64 (a : Nat), .int .i64 (n : Nat)] 51)
  refine ⟨⟨heap_alloc_new _ _, ?_, hn, ha, hl⟩, hb.size, fun i hi => Nat.le_trans hB (ho.lt i hi).1, hb.alloc hb.size _⟩
  refine ⟨ho'.1, ?_⟩
  rcases ho'.2 with hn | ⟨g, cap, cur, rfl, hbb, hg, rest⟩
  · exact .inl hn
  · exact .inr ⟨g, cap, cur, rfl, Nat.zero_le _, hg, rest⟩

/-- NewReader, of so many bits as there are. -/
theorem newr_ok (w : World) (A : Option Addr) (ca n : Nat) (xs : List UInt8) (hx : Rd w A (xs.map Bv)) (hc : xs.length ≤ ca) (hl : xs.length ≤ 140737488351232) (hn : n ≤ 8 * xs.length) :
    Calls Try.prog 6 #[.slice A xs.length ca, .int .i64 n] w fun e w' => ∃ p v, e = .returned (.tuple #[.pointer (some ⟨p, 0, none⟩), .int .i64 0]) ∧ Ris w' p v (xs.take ((n + 7) / 8)) n 0 ∧
      w.heap.size ≤ p ∧ (∀ i, v.ownBlock = some i → w.heap.size ≤ i) ∧ Below w.heap.size w w' := by
  have hwl : (xs.take ((n + 7) / 8)).length = (n + 7) / 8 := by rw [List.length_take]; omega
  have hrd := hx.bytes_take ((n + 7) / 8)
  have hn2 : (n : Int) ≤ 1125899906842624 := by omega
  by_cases h8 : n % 8 = 0
  · have hm : ((n : Int) % 8 != 0) = false := by rw [bne_eq_false_iff_eq]; omega
    have hle : (n : Int) / 8 ≤ (xs.length : Int) := by omega
    have hle2 : (n : Int) / 8 ≤ (ca : Int) := by omega
    have hge : (0 : Int) ≤ (n : Int) / 8 := by omega
    have e8 : (n + 7) / 8 = n / 8 := by omega
    rw [e8] at hwl hrd ⊢
    generalize xs.take (n / 8) = ys at hwl hrd ⊢
    have H8 := Lib.hid h8; clear h8
    have HW := Lib.hid hwl; clear hwl
    clear e8
    go_enter Try.func6, Try.ntmps6
    go_wp2_with fail
    refine (copied_len w A ca (n / 8) ys HW.out hrd (by rw [HW.out]; omega)).mono ?_
    rintro e w1 ⟨v, rfl, ho, hb⟩
    obtain ⟨A', c', rfl, _⟩ := own_rd ho
    go_wp2
    go_ret2
    obtain ⟨r1, r2, r3, r4⟩ := ris_new (n := n) (a := 0) ho hb (Nat.le_refl _) (by rw [HW.out]; have := H8.out; omega) (by omega) (by rw [HW.out]; omega)
    exact ⟨_, _, rfl, r1, r2, r3, r4⟩
  · have hm : ((n : Int) % 8 != 0) = true := by rw [bne_iff_ne]; omega
    have hle : (n : Int) / 8 + 1 ≤ (xs.length : Int) := by omega
    have hle2 : (n : Int) / 8 + 1 ≤ (ca : Int) := by omega
    have hge : (0 : Int) ≤ (n : Int) / 8 := by omega
    have e8 : (n + 7) / 8 = n / 8 + 1 := by omega
    rw [e8] at hwl hrd ⊢
    generalize xs.take (n / 8 + 1) = ys at hwl hrd ⊢
    have H8 := Lib.hid h8; clear h8
    have HW := Lib.hid hwl; clear hwl
    clear e8
    go_enter Try.func6, Try.ntmps6
    go_wp2_with fail
    refine (copied_len w A ca (n / 8 + 1) ys HW.out hrd (by rw [HW.out]; omega)).mono ?_
    rintro e w1 ⟨v, rfl, ho, hb⟩
    obtain ⟨A', c', rfl, _⟩ := own_rd ho
    go_wp2
    go_ret2
    obtain ⟨r1, r2, r3, r4⟩ := ris_new (n := n) (a := 0) ho hb (Nat.le_refl _) (by rw [HW.out]; have := H8.out; omega) (by omega) (by rw [HW.out]; omega)
    exact ⟨_, _, rfl, r1, r2, r3, r4⟩
/-- NewReader, of fewer than none, or of more than there are. -/
theorem newr_no (w : World) (A : Option Addr) (ca : Nat) (n : Int) (xs : List UInt8) (hl : xs.length ≤ 140737488351232) (hn : n < 0 ∨ 8 * (xs.length : Int) < n) (hr : n ≤ 9223372036854775807) :
    Calls Try.prog 6 #[.slice A xs.length ca, .int .i64 n] w fun e w' => e = .returned (.tuple #[.pointer none, .int .i64 1]) ∧ w = w' := by
  rcases hn with hn | hn
  · go_enter Try.func6, Try.ntmps6
    go_wp2
    go_ret2
    exact ⟨rfl, rfl⟩
  · obtain ⟨k, rfl⟩ := Int.eq_ofNat_of_zero_le (show 0 ≤ n by omega)
    by_cases h8 : k % 8 = 0
    · have hm : ((k : Int) % 8 != 0) = false := by rw [bne_eq_false_iff_eq]; omega
      have hgt : (xs.length : Int) < (k : Int) / 8 := by omega
      have H8 := Lib.hid h8; clear h8
      go_enter Try.func6, Try.ntmps6
      go_wp2
      go_ret2
      exact ⟨rfl, rfl⟩
    · have hm : ((k : Int) % 8 != 0) = true := by rw [bne_iff_ne]; omega
      have hgt : (xs.length : Int) < (k : Int) / 8 + 1 := by omega
      have H8 := Lib.hid h8; clear h8
      go_enter Try.func6, Try.ntmps6
      go_wp2
      go_ret2
      exact ⟨rfl, rfl⟩
end
end Go.Proofs.Ytnbgpmgcnfhfeaa
