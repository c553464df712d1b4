/-
  Arrays of bytes, held against one another.
-/
import Derived.Test.YtmgjlldccmgpcaaDoorGen
import Derived.ChangeKeysEq
import Derived.Laws.StructEq
namespace Go.Proofs.YtmgjlldccmgpcaaDoor
set_option linter.unusedVariables false
set_option linter.unusedSimpArgs false
open Go.RowKit

theorem part_byte (w : World) (xs : List UInt8) (s : Nat) (h : s < xs.length) : (part 5 (xs.map Bv).toArray (s * 1)).run Tryd.prog w = .ok (Bv xs[s]) w := by
  have h1 := run_isAggB_no (P := Tryd.prog) w (ty := 5) (by kernel_rfl) (by kernel_rfl)
  simp [part, Sem.run_bind, h1, h]
theorem eq_byte (w : World) (d : Nat) (x y : UInt8) : (Op.equalIn (d + 1) 5 (Bv x) (Bv y)).run Tryd.prog w = .ok (decide (x = y)) w := by
  have h : ((x.toNat : Int) == (y.toNat : Int)) = decide (x = y) := by
    rw [Bool.eq_iff_iff]
    simp only [beq_iff_eq, decide_eq_true_eq]
    exact ⟨fun e => UInt8.toNat_inj.1 (by omega), fun e => by rw [e]⟩
  simp [Op.equalIn, Bv, run_underlying Tryd.underlying5, h]
theorem eqItems_bytes (w : World) (d : Nat) (xs ys : List UInt8) (hl : xs.length = ys.length) : ∀ m s, s + m = xs.length →
    (Op.eqItems (d + 1) 5 1 (xs.map Bv).toArray (ys.map Bv).toArray (List.range' s m)).run Tryd.prog w = .ok (decide (xs.drop s = ys.drop s)) w := by
  intro m
  induction m with
  | zero =>
    intro s hs
    have e1 : xs.drop s = [] := List.drop_eq_nil_of_le (by omega)
    have e2 : ys.drop s = [] := List.drop_eq_nil_of_le (by omega)
    rw [e1, e2]
    simp [Op.eqItems]
  | succ m ih =>
    intro s hs
    have h1 : s < xs.length := by omega
    have h2 : s < ys.length := by omega
    rw [List.range'_succ, drop_cons h1, drop_cons h2]
    simp only [Op.eqItems, Sem.run_bind, part_byte w xs s h1, part_byte w ys s h2, Result.andThen_ok, eq_byte]
    by_cases hx : xs[s] = ys[s]
    · have e : decide (xs[s] :: xs.drop (s + 1) = ys[s] :: ys.drop (s + 1)) = decide (xs.drop (s + 1) = ys.drop (s + 1)) := by
        rw [decide_eq_decide, hx, List.cons_inj_right]
      rw [e, decide_eq_true hx]
      exact ih (s + 1) (by omega)
    · have e : decide (xs[s] :: xs.drop (s + 1) = ys[s] :: ys.drop (s + 1)) = false := by
        rw [decide_eq_false_iff_not]; intro h; exact hx (List.cons.inj h).1
      rw [e, decide_eq_false hx]
      rfl
/-- Two arrays of bytes are the same just where their bytes are. -/
theorem eq_bytes (w : World) (t : TypeId) (N : Nat) (xs ys : List UInt8) (ht : Tryd.prog.underlying t = some (.array N 5)) (hx : xs.length = N) (hy : ys.length = N) :
    (Op.equalIn 10000 t (.agg (xs.map Bv).toArray) (.agg (ys.map Bv).toArray)).run Tryd.prog w = .ok (decide (xs = ys)) w := by
  have hc : Tryd.prog.cellsOf 5 = 1 := by kernel_rfl
  obtain ⟨i0, hi, _⟩ := info_parts (show (Tryd.prog.info? 5).map (fun i => (i.zero, i.size, i.bytes)) = some (some (.int .u8 0), 1, 1) from by kernel_rfl)
  rw [run_equalIn_array (d := 9999) (w := w) _ _ ht hi, hc, List.range_eq_range']
  have h := eqItems_bytes w 9998 xs ys (by omega) N 0 (by omega)
  simpa using h

/-- A whole block of n cells, as it reads. -/
def readAgg (w : World) (b n : Nat) : Option (Array Value) := match w.heap[b]? with
  | some (.cells cs _ _) => if cs.size = n then some cs else none
  | _ => none
theorem readAgg_of {w : World} {b n : Nat} {cs : Array Value} {t : TypeId} {fr : Nat × Nat} (h : w.heap[b]? = some (.cells cs t fr)) (hn : cs.size = n) : readAgg w b n = some cs := by
  unfold readAgg
  rw [h]
  simp [hn]
noncomputable def otherLoad (w : World) (b : Nat) : Result Value := (loadVar 25 ⟨b, 0, none⟩).run Tryd.prog w
set_option maxRecDepth 100000 in
/-- A whole sum read from a block, as one step. -/
theorem load_sum (w : World) (b : Nat) : (loadVar 25 ⟨b, 0, none⟩).run Tryd.prog w = match readAgg w b 32 with | some cs => .ok (.agg cs) w | none => otherLoad w b := by
  cases h : readAgg w b 32 with
  | none => rfl
  | some cs =>
    unfold readAgg at h
    split at h
    · rename_i c t fr hb
      split at h
      · rename_i hn
        injection h with h
        subst h
        have := run_load_agg (P := Tryd.prog) w b 0 25 c.toList (by kernel_rfl) (by rw [Array.length_toList, hn]; kernel_rfl) (fun j v hv => by
          rw [Nat.zero_add, cell_of_row w b j c t fr hb]
          simpa using hv)
        simpa using this
      · cases h
    · cases h
/-- The read of a sum, as one operation. -/
def sumLoadV (x : Value) : Sem Value := Instr.loadAt 25 x
theorem load_is (x : Value) : Instr.loadAt 25 x = sumLoadV x := rfl
theorem run_sumLoadV (b : Nat) (w : World) : (sumLoadV (.pointer (some ⟨b, 0, none⟩))).run Tryd.prog w = match readAgg w b 32 with | some cs => .ok (.agg cs) w | none => otherLoad w b := by
  rw [← load_sum]
  simp [sumLoadV, Instr.loadAt, Instr.sureAddr]
end Go.Proofs.YtmgjlldccmgpcaaDoor
