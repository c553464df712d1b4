/-
  A text that is summed, as it lies in memory.
  xxHash64 as the package reckons it.
-/
import Derived.Test.YtgpmghnemhngeaaDoorCMx
import Derived.Test.YtgpmghnemhngeaaDoorCXs
namespace Go.Proofs.YtgpmghnemhngeaaDoor
section
set_option linter.unusedVariables false
set_option linter.unusedSimpArgs false
open Go.RowKit

/-- The cells of a text that is summed: its state, what is behind the whole blocks, how many bytes it has. -/
def hashC (s : St) (R : List UInt8) (n : Nat) : List Value := .bool true :: (stC s ++ (R.map Bv ++ [.int .i64 (n : Nat)]))
theorem hashC_length {s : St} {R : List UInt8} {n : Nat} (h : R.length = 64) : (hashC s R n).length = 74 := by simp [hashC, stC, h]
theorem hashC_made (s : St) (R : List UInt8) (n : Nat) : (hashC s R n)[0]? = some (.bool true) := rfl
theorem hashC_state (s : St) (R : List UInt8) (n i : Nat) (h : i < 8) : (hashC s R n)[1 + i]? = some (.int .u32 (s.at i : Nat)) := by
  unfold hashC
  rw [Nat.add_comm, List.getElem?_cons_succ, List.getElem?_append_left (by simpa [stC] using h)]
  exact stC_get s i h
theorem hashC_rest (s : St) (R : List UInt8) (n i : Nat) (h : i < R.length) : (hashC s R n)[9 + i]? = some (Bv R[i]) := by
  unfold hashC
  rw [show 9 + i = (8 + i) + 1 from by omega, List.getElem?_cons_succ, List.getElem?_append_right (by simp [stC]), List.getElem?_append_left (by simp [stC]; omega)]
  simp [stC, h]
theorem hashC_size {s : St} {R : List UInt8} {n : Nat} (h : R.length = 64) : (hashC s R n)[73]? = some (.int .i64 (n : Nat)) := by
  unfold hashC
  rw [show 73 = 72 + 1 from rfl, List.getElem?_cons_succ, List.getElem?_append_right (by simp [stC]), List.getElem?_append_right (by simp [stC, h])]
  simp [stC, h]
theorem hashC_setState {s s' : St} {R : List UInt8} {n : Nat} (h : R.length = 64) : spl (hashC s R n).toArray 1 (stC s') = (hashC s' R n).toArray := by
  simp [spl, splice, hashC, stC]
theorem hashC_setSize {s : St} {R : List UInt8} {n m : Nat} (h : R.length = 64) : (hashC s R n).toArray.setIfInBounds 73 (.int .i64 (m : Nat)) = (hashC s R m).toArray := by
  have hl := hashC_length (s := s) (n := n) h
  have e : (hashC s R n).set 73 (.int .i64 (m : Nat)) = hashC s R m := by
    unfold hashC
    have hs : (stC s).length = 8 := rfl
    have hr : (R.map Bv).length = 64 := by rw [List.length_map, h]
    rw [show (73 : Nat) = 72 + 1 from rfl, List.set_cons_succ, List.set_append, if_neg (by omega), List.set_append, if_neg (by omega), hs, hr]
    rfl
  rw [← e]
  simp
theorem hashC_setRest {s : St} {R ys : List UInt8} {n o : Nat} (h : R.length = 64) (ho : o + ys.length ≤ 64) : spl (hashC s R n).toArray (9 + o) (ys.map Bv) = (hashC s (R.take o ++ ys ++ R.drop (o + ys.length)) n).toArray := by
  unfold spl splice hashC
  congr 1
  have hs : (stC s).length = 8 := rfl
  have e1 : (Value.bool true :: (stC s ++ (R.map Bv ++ [.int .i64 (n : Nat)]))).take (9 + o) = Value.bool true :: (stC s ++ (R.take o).map Bv) := by
    rw [show 9 + o = (8 + o) + 1 from by omega, List.take_succ_cons, List.take_append, hs, List.take_of_length_le (by omega), show 8 + o - 8 = o from by omega, List.take_append_of_le_length (by simp; omega), List.map_take]
  have e2 : (Value.bool true :: (stC s ++ (R.map Bv ++ [.int .i64 (n : Nat)]))).drop (9 + o + ys.length) = (R.drop (o + ys.length)).map Bv ++ [.int .i64 (n : Nat)] := by
    rw [show 9 + o + ys.length = (8 + (o + ys.length)) + 1 from by omega, List.drop_succ_cons, List.drop_append, hs, List.drop_of_length_le (by omega), show 8 + (o + ys.length) - 8 = o + ys.length from by omega, List.nil_append, List.drop_append_of_le_length (by simp; omega), List.map_drop]
  simp only [List.length_map]
  rw [e1, e2]
  simp [List.append_assoc]

/-- A text that is summed lies in block p. -/
def HashRaw (w : World) (p : Nat) (s : St) (R : List UInt8) (n : Nat) : Prop := w.heap[p]? = some (.cells (hashC s R n).toArray 53 (0, 0)) ∧ R.length = 64
/-- All that was written is xs. -/
def HashIs (w : World) (p : Nat) (xs : List UInt8) : Prop :=
  ∃ R, HashRaw w p (blocksS iv (xs.length / 64) xs) R xs.length ∧ R.take (xs.length % 64) = xs.drop (64 * (xs.length / 64))
theorem HashRaw.block {w w' : World} {p : Nat} {s : St} {R : List UInt8} {n : Nat} (h : HashRaw w p s R n) (hb : w'.heap[p]? = w.heap[p]?) : HashRaw w' p s R n := ⟨hb.trans h.1, h.2⟩
theorem HashRaw.lt {w : World} {p : Nat} {s : St} {R : List UInt8} {n : Nat} (h : HashRaw w p s R n) : p < w.heap.size := blk_lt h.1
theorem HashIs.lt {w : World} {p : Nat} {xs : List UInt8} (h : HashIs w p xs) : p < w.heap.size := by obtain ⟨R, h, _⟩ := h; exact h.lt
theorem HashIs.below {w w' : World} {p : Nat} {xs : List UInt8} (h : HashIs w p xs) (hb : Below w.heap.size w w') : HashIs w' p xs := by
  obtain ⟨R, h1, h2⟩ := h
  exact ⟨R, h1.block (hb.block p h1.lt), h2⟩
theorem HashIs.mv {w w' : World} {p : Nat} {xs : List UInt8} {S : Nat → Prop} (h : HashIs w p xs) (hb : Mv S w w') (hS : ¬ S p) : HashIs w' p xs := by
  obtain ⟨R, h1, h2⟩ := h
  exact ⟨R, h1.block (hb.block p h1.lt hS), h2⟩
theorem HashRaw.cell {w : World} {p : Nat} {s : St} {R : List UInt8} {n : Nat} (h : HashRaw w p s R n) (i : Nat) : w.cell? ⟨p, i, none⟩ = (hashC s R n)[i]? := by
  rw [cell_blk h.1]; simp
theorem HashRaw.rest {w : World} {p : Nat} {s : St} {R : List UInt8} {n : Nat} (h : HashRaw w p s R n) : Rd w (some ⟨p, 9, none⟩) (R.map Bv) := by
  intro k v hv
  refine ⟨p, 9, rfl, ?_⟩
  have hk : k < R.length := by have := (List.getElem?_eq_some_iff.1 hv).1; simpa using this
  rw [h.cell, hashC_rest s R n k hk, ← hv]
  simp [hk]
/-- The table and a text that is summed lie in two blocks. -/
theorem HashRaw.ne_table {w : World} {p : Nat} {s : St} {R : List UInt8} {n : Nat} (h : HashRaw w p s R n) (ht : AddsMet w) : p ≠ 0 := by
  rintro rfl
  have h0 := ht 0 (by decide)
  rw [h.cell, hashC_made] at h0
  cases h0
theorem AddsMet.moved {w w' : World} {p : Nat} (h : AddsMet w) (hb : Mv (fun k => k = p) w w') (hp : p ≠ 0) : AddsMet w' := h.mv hb (fun e => hp e.symm)

section
set_option maxHeartbeats 1600000
set_option maxRecDepth 100000
theorem new_any (w : World) : Calls Tryd.prog 14 #[] w fun e w' => e = .returned (.pointer (some ⟨w.heap.size, 0, none⟩)) ∧ HashIs w' w.heap.size [] ∧ Below w.heap.size w w' := by
  go_enter Tryd.func14, Tryd.ntmps14
  go_wp2
  go_ret
  refine ⟨rfl, ⟨List.replicate 64 0, ⟨?_, rfl⟩, rfl⟩, (Below.refl _ _).alloc (Nat.le_refl _) _⟩
  rw [heap_alloc_new]
  rfl
end
end
section
set_option linter.unusedVariables false
set_option linter.unusedSimpArgs false
open Go.RowKit

theorem xend_lt {h : Nat} (hh : h < 18446744073709551616) (xs : List UInt8) : xend h xs < 18446744073709551616 := by
  unfold xend
  simp only
  split
  · exact tailsB_lt (tail4_lt _ _) _
  · exact tailsB_lt (tails8_lt hh _ _) _
theorem W5 (a b : Nat) : IntKind.u64.wrap ((a : Int) + (b : Int)) = (((a + b) % 18446744073709551616 : Nat) : Int) := by
  rw [wrap_u64_eq]; rfl
theorem xx_small {xs : List UInt8} {n : Nat} (hn : xs.length = n) (h : n < 32) : xx xs = xsettle (xend ((q5 + n) % 18446744073709551616) xs) := by
  simp only [xx, hn]
  rw [if_neg (by omega), if_neg (by omega)]
theorem xx_large {xs : List UInt8} {n : Nat} (hn : xs.length = n) (h : 32 ≤ n) : xx xs = xsettle (xend ((laneEnd (lanes la0 (n / 32) xs) + n) % 18446744073709551616) (xs.drop (32 * (n / 32)))) := by
  simp only [xx, hn]
  rw [if_pos h, if_pos h]

section
set_option maxHeartbeats 1600000
set_option maxRecDepth 100000
theorem xx_any (w : World) (A : Option Addr) (c n : Nat) (xs : List UInt8) (hm : xs.length = n) (hx : Rd w A (xs.map Bv)) (hmc : n ≤ c) (hc : c ≤ 9223372036854775807) :
    Calls Tryd.prog 21 #[.slice A n c] w fun e w' => e = .returned (.int .u64 (xx xs : Nat)) ∧ Below w.heap.size w w' := by
  by_cases h32 : n < 32
  · have hend := xx_small hm h32
    obtain ⟨g, hg⟩ : ∃ g, g = (q5 + n) % 18446744073709551616 := ⟨_, rfl⟩
    rw [← hg] at hend
    have hgl : g < 18446744073709551616 := by rw [hg]; exact Nat.mod_lt _ (by decide)
    have hw : IntKind.u64.wrap (2870177450012600261 + (n : Int)) = (g : Int) := by rw [hg]; exact W5 2870177450012600261 n
    have HEND := Lib.hid hend; clear hend hg
    have HM := Lib.hid hm; clear hm
    go_enter Tryd.func21, Tryd.ntmps21
    go_wp2_with fail
    refine (ended_any w g A c n xs hgl HM.out hx hmc hc).mono ?_
    rintro _ w' ⟨rfl, rfl⟩
    have hxl := xend_lt hgl xs
    generalize xend g xs = y at *
    go_wp2_with fail
    refine (settled_any y w hxl).mono ?_
    rintro _ w' ⟨rfl, rfl⟩
    go_wp2
    go_ret
    exact ⟨by rw [HEND.out]; rfl, Below.refl _ _⟩
  · have h32' : 32 ≤ n := by omega
    have hend := xx_large hm h32'
    obtain ⟨q, hq⟩ : ∃ q, q = n / 32 := ⟨_, rfl⟩
    rw [← hq] at hend
    have hst := stripes_any w A c n xs hm hx hmc hc
    rw [← hq] at hst
    have hql : 32 * q ≤ n := by omega
    have hdl : (xs.drop (32 * q)).length = n - 32 * q := by rw [List.length_drop, hm]
    have hll := laneEnd_lt (lanes la0 q xs)
    generalize laneEnd (lanes la0 q xs) = h0 at *
    obtain ⟨g, hg⟩ : ∃ g, g = (h0 + n) % 18446744073709551616 := ⟨_, rfl⟩
    rw [← hg] at hend
    have hgl : g < 18446744073709551616 := by rw [hg]; exact Nat.mod_lt _ (by decide)
    have hw : IntKind.u64.wrap ((h0 : Int) + (n : Int)) = (g : Int) := by rw [hg]; exact W5 h0 n
    have HEND := Lib.hid hend; clear hend hg
    have HM := Lib.hid hm; clear hm
    have HDL := Lib.hid hdl; clear hdl
    have HST := Lib.hid hst; clear hst
    have HQ := Lib.hid hq; clear hq
    clear h32
    go_enter Tryd.func21, Tryd.ntmps21
    go_wp2_with fail
    refine HST.out.mono ?_
    rintro _ w1 ⟨A2, rfl, hrd, hb⟩
    go_wp2_with fail
    refine (ended_any w1 g A2 (c - 32 * q) (n - 32 * q) (xs.drop (32 * q)) hgl HDL.out hrd (by omega) (by omega)).mono ?_
    rintro _ w' ⟨rfl, rfl⟩
    have hxl := xend_lt hgl (xs.drop (32 * q))
    generalize xend g (xs.drop (32 * q)) = y at *
    go_wp2_with fail
    refine (settled_any y w1 hxl).mono ?_
    rintro _ w' ⟨rfl, rfl⟩
    go_wp2
    go_ret
    exact ⟨by rw [HEND.out]; rfl, hb⟩
end
end
end Go.Proofs.YtgpmghnemhngeaaDoor
