/-
  Whole arrays and structs, read from memory and written into it, anywhere in a block; copies into a row.
-/
import Derived.Test.YtmgjlldccmgpcaaDoorMv
import Derived.Laws.CopyOwn
import Derived.Laws.Tables
namespace Go.Proofs.YtmgjlldccmgpcaaDoor
set_option linter.unusedVariables false
set_option linter.unusedSimpArgs false
open Go.RowKit

section
variable {P : Program}
theorem add_at (b off j : Nat) : (⟨b, off, none⟩ : Addr).add j = ⟨b, off + j, none⟩ := by unfold Addr.add; split <;> simp_all
/-- A type of several cells. -/
def isAggB (P : Program) (ty : TypeId) : Bool := match P.underlying ty with | some (.struct _) => true | some (.array _ _) => true | _ => false
theorem run_isAggB {P : Program} (w : World) {ty : TypeId} (h : isAggB P ty = true) : (isAgg ty).run P w = .ok true w := by
  unfold isAggB at h
  cases hu : P.underlying ty with
  | none => rw [hu] at h; cases h
  | some d =>
    unfold isAgg
    rw [Sem.run_bind, run_underlying hu w]
    rw [hu] at h
    cases d <;> simp_all
theorem run_load_agg (w : World) (b off : Nat) (ty : TypeId) (cs : List Value) (hd : isAggB P ty = true) (hi : (P.info? ty).map (·.size) = some cs.length)
    (hc : ∀ j v, cs[j]? = some v → w.cell? ⟨b, off + j, none⟩ = some v) : (loadVar ty ⟨b, off, none⟩).run P w = .ok (.agg cs.toArray) w := by
  have hl : (loadCells ⟨b, off, none⟩ cs.length).run P w = .ok cs.toArray w :=
    run_loadCells_list (P := P) w ⟨b, off, none⟩ cs (fun j v hv => by rw [add_at]; exact hc j v hv)
  cases hq : P.info? ty with
  | none => simp [hq] at hi
  | some i =>
    have hs : i.size = cs.length := by simpa [hq] using hi
    have hagg := run_isAggB (P := P) w hd
    simp [loadVar, Sem.run_bind, hagg, sizeOf, typeInfo, hq, hs, hl]
theorem wp_load_agg {o : Oper} {a : Act} {w : World} {K : Act → World → Prop} {Q : Exit → Act → World → Prop} (ty : TypeId) (x : Operand) (ho : o.op = .load ty x)
    (b off : Nat) (hx : a.eval x = .pointer (some ⟨b, off, none⟩)) (cs : List Value) (hd : isAggB P ty = true)
    (hi : (P.info? ty).map (·.size) = some cs.length) (hc : ∀ j v, cs[j]? = some v → w.cell? ⟨b, off + j, none⟩ = some v)
    (h : K (a.put o.dst (.agg cs.toArray)) w) : o.wp P a w K Q := by
  unfold Oper.wp execOp
  simp only [ho, hx, Instr.loadAt, Instr.sureAddr, Sem.run_bind, Sem.run_pure, Result.andThen_ok, run_load_agg w b off ty cs hd hi hc]
  exact h
/-- A whole array or struct, read from anywhere. -/
theorem wpList_load_agg {ops : Array Oper} {rest : List Oper} {o : Oper} {a : Act} {w : World} {Q : Exit → Act → World → Prop} (hgd : o.guard = none) (ty : TypeId) (x : Operand) (ho : o.op = .load ty x)
    (b off : Nat) (hx : a.eval x = .pointer (some ⟨b, off, none⟩)) (cs : List Value) (hd : isAggB P ty = true)
    (hi : (P.info? ty).map (·.size) = some cs.length) (hc : ∀ j v, cs[j]? = some v → w.cell? ⟨b, off + j, none⟩ = some v)
    (h : wpList P ops Q rest (a.put o.dst (.agg cs.toArray)) w) : wpList P ops Q (o :: rest) a w :=
  wpList_plain hgd fun _ hK => wp_load_agg ty x ho b off hx cs hd hi hc (hK _ _ h)

/-- Cells laid over a row from a place on. -/
def spl (cur : Array Value) (off : Nat) (cs : List Value) : Array Value := (splice cur.toList off cs).toArray
theorem spl_size {cur : Array Value} {off : Nat} {cs : List Value} (h : off + cs.length ≤ cur.size) : (spl cur off cs).size = cur.size := by
  simp only [spl, List.size_toArray]
  rw [length_splice _ _ _ (by simpa using h)]; simp
theorem spl_get {cur : Array Value} {off : Nat} {cs : List Value} (h : off + cs.length ≤ cur.size) (j : Nat) : (spl cur off cs)[j]? = if j < off then cur[j]? else if j < off + cs.length then cs[j - off]? else cur[j]? := by
  have hl : (cur.toList.take off).length = off := by rw [List.length_take, Array.length_toList]; omega
  have e : (spl cur off cs)[j]? = (splice cur.toList off cs)[j]? := by simp only [spl, List.getElem?_toArray]
  rw [e, splice]
  by_cases h1 : j < off
  · rw [if_pos h1, List.getElem?_append_left (by omega), List.getElem?_take, if_pos h1]; simp
  · rw [if_neg h1, List.getElem?_append_right (by omega), hl]
    by_cases h2 : j < off + cs.length
    · rw [if_pos h2, List.getElem?_append_left (by omega)]
    · rw [if_neg h2, List.getElem?_append_right (by omega), List.getElem?_drop, show off + cs.length + (j - off - cs.length) = j from by omega]; simp
theorem spl_in {cur : Array Value} {off : Nat} {cs : List Value} (h : off + cs.length ≤ cur.size) {j : Nat} (hj : j < cs.length) : (spl cur off cs)[off + j]? = cs[j]? := by
  rw [spl_get h, if_neg (by omega), if_pos (by omega), show off + j - off = j from by omega]
theorem spl_before {cur : Array Value} {off : Nat} {cs : List Value} (h : off + cs.length ≤ cur.size) {j : Nat} (hj : j < off) : (spl cur off cs)[j]? = cur[j]? := by
  rw [spl_get h, if_pos hj]
theorem spl_behind {cur : Array Value} {off : Nat} {cs : List Value} (h : off + cs.length ≤ cur.size) {j : Nat} (hj : off + cs.length ≤ j) : (spl cur off cs)[j]? = cur[j]? := by
  rw [spl_get h, if_neg (by omega), if_neg (by omega)]
theorem mv_setRow (w : World) (g : Nat) (cs : Array Value) : Mv (fun k => k = g) w (w.setRow g cs) := ⟨rfl, rfl, rfl, by simp, fun k _ hk => setRow_other w g k cs hk⟩
theorem run_store_agg (w : World) (g off : Nat) (t ty : TypeId) (cur : Array Value) (cells : List Value) (hg : w.heap[g]? = some (.cells cur t (0, 0))) (hi : (P.info? ty).map (·.size) = some cells.length)
    (ho : off + cells.length ≤ cur.size) (h1 : ∀ v ∈ cells, v.oneCell' = true) :
    (storeVar ty ⟨g, off, none⟩ (.agg cells.toArray)).run P w = .ok () (w.setRow g (spl cur off cells)) := by
  have := run_storeCells_at P g off t cells 0 cur w hg (by simpa using ho) h1
  cases hq : P.info? ty with
  | none => simp [hq] at hi
  | some i =>
    have hs : cells.length = i.size := by simp [hq] at hi; omega
    have e : (cur.toList.take (off + 0) ++ cells ++ cur.toList.drop (off + 0 + cells.length)).toArray = spl cur off cells := by simp [spl, splice, List.append_assoc]
    rw [e] at this
    simp [storeVar, sizeOf, typeInfo, hq, Value.cells, hs, this]
/-- A whole array or struct, written into a block. -/
theorem wpList_store_agg {ops : Array Oper} {rest : List Oper} {o : Oper} {a : Act} {w : World} {Q : Exit → Act → World → Prop} (hgd : o.guard = none) (ty : TypeId) (x y : Operand) (ho : o.op = .store ty x y)
    (g off : Nat) (cells : List Value) (hx : a.eval x = .pointer (some ⟨g, off, none⟩)) (hy : a.eval y = .agg cells.toArray)
    (t : TypeId) (cur : Array Value) (hg : w.heap[g]? = some (.cells cur t (0, 0))) (hi : (P.info? ty).map (·.size) = some cells.length)
    (hfit : off + cells.length ≤ cur.size) (h1 : ∀ v ∈ cells, v.oneCell' = true)
    (h : ∀ w', w'.heap[g]? = some (.cells (spl cur off cells) t (0, 0)) → Mv (fun k => k = g) w w' → w'.heap.size = w.heap.size → wpList P ops Q rest (a.put o.dst undef) w') : wpList P ops Q (o :: rest) a w := by
  refine wpList_plain hgd fun _ hK => ?_
  unfold Oper.wp execOp
  simp only [ho, hx, hy, Instr.storeAt, Instr.sureAddr, Sem.run_bind, Sem.run_pure, Result.andThen_ok, run_store_agg w g off t ty cur cells hg hi hfit h1]
  exact hK _ _ (h _ (setRow_heap w g cur _ t _ hg) (mv_setRow w g _) (by simp))
/-- A copy into a block: as many cells as the shorter of the two has. -/
theorem wpList_copy_mv {w : World} {ops : Array Oper} {rest : List Oper} {o : Oper} {a : Act} {Q : Exit → Act → World → Prop} (hgd : o.guard = none) (d s : Operand) (dT sT : TypeId)
    (ho : o.op = .call { callee := .builtin .copy, args := #[d, s], argTypes := #[dT, sT] }) (elem : TypeId) (hu : P.underlying dT = some (.slice elem)) (hsz : (P.info? elem).map (·.size) = some 1)
    (dp sp : Option Addr) (dLen dCap sLen sCap : Nat) (hd : a.eval d = .slice dp dLen dCap) (hs : a.eval s = .slice sp sLen sCap)
    (g off : Nat) (cur : Array Value) (t : TypeId) (hg : w.heap[g]? = some (.cells cur t (0, 0))) (cs : List Value) (hn : cs.length = Nat.min sLen dLen)
    (hpos : 0 < cs.length → dp = some ⟨g, off, none⟩) (hsrc : Rd w sp cs)
    (hfit : off + cs.length ≤ cur.size) (h1 : ∀ v ∈ cs, v.oneCell' = true)
    (h : ∀ w', w'.heap[g]? = some (.cells (spl cur off cs) t (0, 0)) → Mv (fun k => k = g) w w' → w'.heap.size = w.heap.size → wpList P ops Q rest (a.put o.dst (goInt cs.length)) w') :
    wpList P ops Q (o :: rest) a w := by
  by_cases h0 : cs.length = 0
  · obtain rfl : cs = [] := List.eq_nil_of_length_eq_zero h0
    refine wpList_copy_nothing hgd d s dT sT ho elem hu hsz dp sp dLen dCap sLen sCap hd hs (by simpa using hn.symm) ?_
    have e : spl cur off [] = cur := by simp [spl, splice]
    exact h w (by rw [e]; exact hg) (Mv.refl _ _) rfl
  · obtain rfl := hpos (by omega)
    obtain ⟨b, o2, rfl, _⟩ := hsrc 0 cs[0] (by simp)
    refine wpList_copy_own hgd d s dT sT ho elem hu hsz g off dLen dCap ⟨b, o2, none⟩ sLen sCap hd hs cur t hg cs hn (fun j v hv => by
      obtain ⟨b', o', e, hc⟩ := hsrc j v hv
      injection e with e; injection e with e1 e2; subst e1 e2
      rw [add_at]; exact hc) hfit h1 ?_
    exact h _ (setRow_heap w g cur _ t _ hg) (mv_setRow w g _) (by simp)
/-- The end of a function whose result lies in a block. -/
theorem bodyPost_cell {fn : Func} {R : Ending → World → Prop} {a : Act} {w : World} {p : Tmp} {ty : TypeId} (hr : fn.results = #[.cell p ty]) (g : Nat) (t : TypeId) (cs : Array Value)
    (hp : a.tmps.getD p undef = .pointer (some ⟨g, 0, none⟩)) (hg : w.heap[g]? = some (.cells cs t (0, 0))) (hd : isAggB P ty = true)
    (hi : (P.info? ty).map (·.size) = some cs.size) (hdf : a.defers = []) (hR : R (.returned (.agg cs)) w) : bodyPost P fn R .ret a w := by
  unfold isAggB at hd
  cases hu : P.underlying ty with
  | none => rw [hu] at hd; cases hd
  | some d =>
    rw [hu] at hd
    exact bodyPost_ret (results_cell_row hr a.tmps w g t cs (0, 0) d hp hg hu (by cases d <;> simp_all) hi) hdf hR
theorem run_isAggB_no {P : Program} (w : World) {ty : TypeId} (h : isAggB P ty = false) (hu : (P.underlying ty).isSome = true) : (isAgg ty).run P w = .ok false w := by
  unfold isAggB at h
  cases hq : P.underlying ty with
  | none => rw [hq] at hu; cases hu
  | some d =>
    unfold isAgg
    rw [Sem.run_bind, run_underlying hq w]
    rw [hq] at h
    cases d <;> simp_all
/-- A value's part by its place. -/
theorem run_index_agg (w : World) (t e : TypeId) (len k : Nat) (cs : Array Value) (v : Value) (ht : P.underlying t = some (.array len e)) (hs : (P.info? e).map (·.size) = some 1) (hag : isAggB P e = false) (hu : (P.underlying e).isSome = true) (hk : k < len) (hv : cs[k]? = some v) :
    (Instr.index t (.agg cs) (.int .i64 k)).run P w = .ok v w := by
  cases hq : P.info? e with
  | none => simp [hq] at hs
  | some i =>
    have hi : i.size = 1 := by simpa [hq] using hs
    simp [Instr.index, asIntOf, run_underlying ht, sizeOf, typeInfo, hq, hi, hk, part, run_isAggB_no (P := P) w hag hu, hv]
end
end Go.Proofs.YtmgjlldccmgpcaaDoor
