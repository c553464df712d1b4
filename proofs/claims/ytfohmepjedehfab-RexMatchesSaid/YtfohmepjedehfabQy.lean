/-
  What the parser's panic is caught by.
-/
import Derived.Test.YtfohmepjedehfabQw
import Derived.Defers
import Derived.Recover
namespace Go.Proofs.Ytfohmepjedehfab
set_option linter.unusedVariables false
set_option linter.unusedSimpArgs false
open Go.RowKit
section
set_option maxHeartbeats 1600000
set_option maxRecDepth 100000
theorem catch_idle (g g2 : Nat) (w : World) :
    CallsD Try.prog 57 #[.pointer (some ⟨g, 0, none⟩), .pointer (some ⟨g2, 0, none⟩)] .returning w fun e u' w' => e = .returned (.tuple #[]) ∧ u' = .returning ∧ w' = w := by
  refine callsD_of_wpS Try.func57 rfl fun c₀ cs hu => ?_
  apply wpS_seq
  apply wpS_region
  simp [wpOpsS, go_sem, recoverD, hu, Try.ntmps57, Exit.thenS]
  refine wpS_of_wp ?_
  go_wp2
  cases c₀
  simp_all [bodyPostS, results, Try.results57]
theorem hta (a : Value) (u : World) : (Instr.typeAssert (.iface 69 a) 20 69 false).run Try.prog u = .ok a u := by
  first | rfl | kernel_rfl | (simp [Instr.typeAssert, go_sem]; done) | (unfold Instr.typeAssert; trace_state; sorry)
theorem catch_panicking (g g2 : Nat) (hg : g ≠ g2) (x y z : Value) (f : Flt) (w : World) (h1 : w.heap[g]? = some (.cells #[x] 48 (0, 0))) (h2 : w.heap[g2]? = some (.cells #[y, z] 69 (0, 0))) :
    CallsD Try.prog 57 #[.pointer (some ⟨g, 0, none⟩), .pointer (some ⟨g2, 0, none⟩)] (.panicking ({ v := .iface 69 (.agg #[.int .i64 (f.1 : Nat), .int .i64 (f.2 : Nat)]), recovered := false } :: [])) w fun e u' w' =>
      e = .returned (.tuple #[]) ∧ u' = .panicking ({ v := .iface 69 (.agg #[.int .i64 (f.1 : Nat), .int .i64 (f.2 : Nat)]), recovered := true } :: []) ∧ w'.heap[g]? = some (.cells #[.pointer none] 48 (0, 0)) ∧ w'.heap[g2]? = some (.cells #[.int .i64 (f.1 : Nat), .int .i64 (f.2 : Nat)] 69 (0, 0)) ∧ Mv (fun k => k = g ∨ k = g2) w w' := by
  have hg' := hg.symm
  have c0 := cell_blk h1 0
  have c1 := cell_blk h2 0
  have c2 := cell_blk h2 1
  have f0 := free_blk h1 0
  have f1 := free_blk h2 0
  have f2 := free_blk h2 1
  simp only [List.getElem?_toArray, List.getElem?_cons_zero, List.getElem?_cons_succ] at c0 c1 c2
  have hta := hta (.agg #[.int .i64 (f.1 : Nat), .int .i64 (f.2 : Nat)])
  refine callsD_of_wpS Try.func57 rfl fun c₀ cs hu => ?_
  apply wpS_seq
  apply wpS_region
  simp [wpOpsS, go_sem, recoverD, hu, Try.ntmps57, Exit.thenS]
  refine wpS_of_wp ?_
  go_wp2
  go_region
  all_goals
    have m1 : Mv (fun k => k = g) w (w.setCell ⟨g, 0, none⟩ (.pointer none)) := (Mv.refl (fun k => k = g) w).setCell (p := ⟨g, 0, none⟩) (fun _ => rfl) _
    have s1 := set_blk h1 0 (.pointer none)
    have s2 := (m1.block g2 (blk_lt h2) hg').trans h2
    have m2 : Mv (fun k => k = g2) (w.setCell ⟨g, 0, none⟩ (.pointer none)) (((w.setCell ⟨g, 0, none⟩ (.pointer none)).setCell ⟨g2, 0, none⟩ (.int .i64 (f.1 : Nat))).setCell ⟨g2, 1, none⟩ (.int .i64 (f.2 : Nat))).drew :=
      (((Mv.refl (fun k => k = g2) (w.setCell ⟨g, 0, none⟩ (.pointer none))).setCell (p := ⟨g2, 0, none⟩) (fun _ => rfl) (.int .i64 (f.1 : Nat))).setCell (p := ⟨g2, 1, none⟩) (fun _ => rfl) (.int .i64 (f.2 : Nat))).drew
    have k1 := (m2.block g (blk_lt s1) hg).trans s1
    have k2 := set_blk (set_blk s2 0 (.int .i64 (f.1 : Nat))) 1 (.int .i64 (f.2 : Nat))
    have mm := (m1.mono (T := fun k => k = g ∨ k = g2) fun _ _ h => .inl h).trans m2 fun _ _ h => .inr h
    have key : ∀ W' : World, W' = (((w.setCell ⟨g, 0, none⟩ (.pointer none)).setCell ⟨g2, 0, none⟩ (.int .i64 (f.1 : Nat))).setCell ⟨g2, 1, none⟩ (.int .i64 (f.2 : Nat))).drew → W'.heap[g]? = some (.cells #[.pointer none] 48 (0, 0)) ∧ W'.heap[g2]? = some (.cells #[.int .i64 (f.1 : Nat), .int .i64 (f.2 : Nat)] 69 (0, 0)) ∧ Mv (fun k => k = g ∨ k = g2) w W' := fun W' e => by
      subst e
      exact ⟨by simpa using k1, by have : (((w.setCell ⟨g, 0, none⟩ (.pointer none)).setCell ⟨g2, 0, none⟩ (.int .i64 (f.1 : Nat))).setCell ⟨g2, 1, none⟩ (.int .i64 (f.2 : Nat))).drew.heap[g2]? = _ := k2; simpa using this, mm⟩
    generalize hW' : (((w.setCell ⟨g, 0, none⟩ (.pointer none)).setCell ⟨g2, 0, none⟩ (.int .i64 (f.1 : Nat))).setCell ⟨g2, 1, none⟩ (.int .i64 (f.2 : Nat))).drew = W'
    have hk := key W' hW'.symm
    clear hW' key k1 k2 mm m1 m2 s1 s2 c0 c1 c2 f0 f1 f2 h1 h2
    cases c₀
    exact ⟨rfl, .panicking ({ v := .iface 69 (.agg #[.int .i64 (f.1 : Nat), .int .i64 (f.2 : Nat)]), recovered := true } :: []), rfl, .tuple #[], by simp [results, Try.results57], rfl, rfl, hk⟩
end
end Go.Proofs.Ytfohmepjedehfab
