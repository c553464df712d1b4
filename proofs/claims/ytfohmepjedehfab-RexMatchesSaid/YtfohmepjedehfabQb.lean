/-
  Parts of a pattern: values of sets and parts as cells; either of two parts.
-/
import Derived.Test.YtfohmepjedehfabQa
import Derived.Deep.RegionHeld3
import Derived.Deep.RegionWith
import Derived.Deep.MidRow
namespace Go.Proofs.Ytfohmepjedehfab
set_option linter.unusedVariables false
set_option linter.unusedSimpArgs false
open Go.RowKit
theorem setV_lit (n : Nat) : setV n = .agg #[.int .u64 (wd n 0 : Nat), .int .u64 (wd n 1 : Nat), .int .u64 (wd n 2 : Nat), .int .u64 (wd n 3 : Nat)] := rfl
/-- A part's cells. -/
def partC (p : Prt) : Array Value := #[.int .u64 (wd p.first 0 : Nat), .int .u64 (wd p.first 1 : Nat), .int .u64 (wd p.first 2 : Nat), .int .u64 (wd p.first 3 : Nat), .int .u64 (wd p.last 0 : Nat), .int .u64 (wd p.last 1 : Nat), .int .u64 (wd p.last 2 : Nat), .int .u64 (wd p.last 3 : Nat), .bool p.empty]
def partV (p : Prt) : Value := .agg (partC p)
section
set_option maxHeartbeats 1600000
set_option maxRecDepth 100000
theorem with_lit (n m : Nat) (w : World) : Calls Try.prog 67 #[.agg #[.int .u64 (wd n 0 : Nat), .int .u64 (wd n 1 : Nat), .int .u64 (wd n 2 : Nat), .int .u64 (wd n 3 : Nat)], .agg #[.int .u64 (wd m 0 : Nat), .int .u64 (wd m 1 : Nat), .int .u64 (wd m 2 : Nat), .int .u64 (wd m 3 : Nat)]] w fun e w' => e = .returned (.agg #[.int .u64 (wd (n ||| m) 0 : Nat), .int .u64 (wd (n ||| m) 1 : Nat), .int .u64 (wd (n ||| m) 2 : Nat), .int .u64 (wd (n ||| m) 3 : Nat)]) ∧ RowKit.Below w.heap.size w w' := with_any n m w
theorem has_lit (n i : Nat) (hi : i < 256) (w : World) : Calls Try.prog 65 #[.agg #[.int .u64 (wd n 0 : Nat), .int .u64 (wd n 1 : Nat), .int .u64 (wd n 2 : Nat), .int .u64 (wd n 3 : Nat)], .int .i64 (i : Nat)] w fun e w' => e = .returned (.bool (n.testBit i)) ∧ RowKit.Below w.heap.size w w' := has_any n i hi w
def Qs (g : Nat) (W w2 : World) : Prop := Mv (fun k => k = g) W w2
theorem Qs.drew {g : Nat} {W w2 : World} (h : Qs g W w2) : Qs g W w2.drew := Mv.drew h
theorem Qs.setCell {g : Nat} {W w2 : World} (h : Qs g W w2) (k : Nat) (u : Value) : Qs g W (w2.setCell ⟨g, k, none⟩ u) := Mv.setCell h (fun _ => rfl) u
theorem undrew {w w2 : World} (h : RowKit.Below w.drew.heap.size w.drew w2) : RowKit.Below w.heap.size w w2 := ⟨h.os, h.tape, h.output, h.size, h.block⟩
theorem stored9 {w : World} {g : Nat} {t : TypeId} {a0 a1 a2 a3 a4 a5 a6 a7 a8 v0 v1 v2 v3 v4 v5 v6 v7 v8 : Value} (h : w.heap[g]? = some (.cells #[a0, a1, a2, a3, a4, a5, a6, a7, a8] t (0, 0))) : (((((((((w.setCell ⟨g, 0, none⟩ v0).setCell ⟨g, 1, none⟩ v1).setCell ⟨g, 2, none⟩ v2).setCell ⟨g, 3, none⟩ v3).setCell ⟨g, 4, none⟩ v4).setCell ⟨g, 5, none⟩ v5).setCell ⟨g, 6, none⟩ v6).setCell ⟨g, 7, none⟩ v7).setCell ⟨g, 8, none⟩ v8).heap[g]? = some (.cells #[v0, v1, v2, v3, v4, v5, v6, v7, v8] t (0, 0)) := by
  have := (set_blk (set_blk (set_blk (set_blk (set_blk (set_blk (set_blk (set_blk (set_blk h 0 v0) 1 v1) 2 v2) 3 v3) 4 v4) 5 v5) 6 v6) 7 v7) 8 v8)
  simpa using this
theorem wp_store_agg {P : Program} {o : Oper} {a : Act} {w : World} {K : Act → World → Prop} {Q : Exit → Act → World → Prop} (ty : TypeId) (x y : Operand) (ho : o.op = .store ty x y)
    (g off : Nat) (cells : List Value) (hx : a.eval x = .pointer (some ⟨g, off, none⟩)) (hy : a.eval y = .agg cells.toArray)
    (t : TypeId) (cur : Array Value) (hg : w.heap[g]? = some (.cells cur t (0, 0))) (hi : (P.info? ty).map (·.size) = some cells.length)
    (hfit : off + cells.length ≤ cur.size) (h1 : ∀ v ∈ cells, v.oneCell' = true)
    (h : ∀ w', w'.heap[g]? = some (.cells (spl cur off cells) t (0, 0)) → Mv (fun k => k = g) w w' → w'.heap.size = w.heap.size → K (a.put o.dst undef) w') : o.wp P a w K Q := by
  unfold Oper.wp execOp
  simp only [ho, hx, hy, Instr.storeAt, Instr.sureAddr, Sem.run_bind, Sem.run_pure, Result.andThen_ok, run_store_agg w g off t ty cur cells hg hi hfit h1]
  exact h _ (setRow_heap w g cur _ t _ hg) (mv_setRow w g _) (by simp)
theorem one9 {a b c d e f g h : Int} {x : Bool} : ∀ v ∈ ([.int .u64 a, .int .u64 b, .int .u64 c, .int .u64 d, .int .u64 e, .int .u64 f, .int .u64 g, .int .u64 h, .bool x] : List Value), v.oneCell' = true := by
  intro v hv
  simp only [List.mem_cons, List.not_mem_nil, or_false] at hv
  rcases hv with rfl | rfl | rfl | rfl | rfl | rfl | rfl | rfl | rfl <;> rfl
theorem range_of {w : World} {b : Nat} {cs : Array Value} {t : TypeId} (h : w.heap[b]? = some (.cells cs t (0, 0))) (o : Nat) (l : List Value) (hl : ∀ j v, l[j]? = some v → cs[o + j]? = some v) : w.rangeAt b o l := fun j v hv => by
  rw [cell_blk h]; exact hl j v hv
end
end Go.Proofs.Ytfohmepjedehfab
