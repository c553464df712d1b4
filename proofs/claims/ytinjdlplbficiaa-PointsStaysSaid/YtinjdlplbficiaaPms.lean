/-
  Points appended at a step of a region whose order is open; what blocks such a region moves.
-/
import Derived.Test.YtinjdlplbficiaaPo
namespace Go.Proofs.Ytinjdlplbficiaa
set_option linter.unusedVariables false
set_option linter.unusedSimpArgs false
open Go.RowKit
theorem own_mvP {S : Nat → Prop} {w w' : World} {B : Nat} {e : TypeId} {size n : Nat} {u : Value} {xs : List Value} (h : w.ownsRow B e size u n xs) (m : Mv S w w') (hS : ∀ k, u.ownBlock = some k → ¬ S k) : w'.ownsRow B e size u n xs :=
  own_moved h fun g hg => m.block g (h.lt g hg).2 (hS g hg)
theorem undrewP {S : Nat → Prop} {w w' : World} (m : Mv S w.drew w') : Mv S w w' := ⟨m.os, m.tape, m.output, m.size, m.block⟩
theorem ungrownP {w w' : World} {row : Option Nat} (h : w.drew.grownBy w' row) : w.grownBy w' row := by
  obtain ⟨a, b, c, d, e⟩ := h
  exact ⟨a, b, c, d, e⟩
theorem rd_mvP {w w' : World} {A : Option Addr} {xs : List Value} (h : Rd w A xs) (m : Mv (fun _ => False) w w') : Rd w' A xs := h.below m.below
theorem box_mvP {w w' : World} {b : Nat} {p : Pt} (h : PBox w b p) (m : Mv (fun _ => False) w w') : PBox w' b p := h.below m.below
theorem wp_append_pt {w : World} {o : Oper} {a : Act} {K : Act → World → Prop} {Q : Exit → Act → World → Prop} (s x : Operand)
    (ho : o.op = .call { callee := .builtin .append, args := #[s, x], argTypes := #[22, 22] })
    (base : Nat) (v : Value) (xs : List Pt) (hs : a.eval s = v) (hown : w.ownsRow base 25 3 v xs.length (pcells xs))
    (A : Option Addr) (c m : Nat) (ys : List Pt) (hx : a.eval x = .slice A m c) (hm : ys.length = m) (hy : Rd w A (pcells ys))
    (hl : xs.length + ys.length ≤ 1000000) (hbase : base ≤ w.heap.size)
    (h : ∀ v' w', w'.ownsRow base 25 3 v' (xs ++ ys).length (pcells (xs ++ ys)) → w.grownBy w' v.ownBlock → K (a.put o.dst v') w') : o.wp Try.prog a w K Q := by
  subst hm
  obtain ⟨i0, hi, hz0, hz1, hz2⟩ := info_parts infoPt
  rw [List.length_append, pcells_append] at h
  unfold Oper.wp execOp
  cases A with
  | some ad =>
    obtain ⟨v', w', hrun, r1, r2, _⟩ := run_append_own (P := Try.prog) w base 22 o.type 25 i0 (.agg #[.int .i64 0, .int .u64 0, .int .u64 0]) 3 24 Try.underlying22 hi hz0 hz1 hz2 rfl (by decide) v xs.length (pcells xs) hown ad ys.length c (pcells ys) (pcells_len ys) (rd_cells hy) (pcells_one' ys) (by unfold maxLen; omega) (by omega) hbase
    simp only [ho, resolve, invoke, builtin, Sem.run_bind, Sem.run_pure, Result.andThen_ok, List.map_toArray, List.map_cons, List.map_nil, hs, hx, hrun]
    exact h v' w' r1 r2
  | none =>
    obtain rfl := pt_nil hy
    have hrun := run_append_none (P := Try.prog) base 22 o.type 25 i0 3 Try.underlying22 hi v xs.length c (pcells xs) hown
    simp only [ho, resolve, invoke, builtin, Sem.run_bind, Sem.run_pure, Result.andThen_ok, List.map_toArray, List.map_cons, List.map_nil, hs, hx, List.length_nil, hrun]
    exact h v w (by simpa [pcells] using hown) ⟨rfl, rfl, rfl, Nat.le_refl _, fun _ _ _ => rfl⟩
theorem step_append_pt {w : World} {ops : Array Oper} {o : Oper} {a : Act} {K : Act → World → Prop} {Q : Exit → Act → World → Prop} {E : Prop} (hgd : o.guard = none) (s x : Operand)
    (ho : o.op = .call { callee := .builtin .append, args := #[s, x], argTypes := #[22, 22] })
    (base : Nat) (v : Value) (xs : List Pt) (hs : a.eval s = v) (hown : w.ownsRow base 25 3 v xs.length (pcells xs))
    (A : Option Addr) (c m : Nat) (ys : List Pt) (hx : a.eval x = .slice A m c) (hm : ys.length = m) (hy : Rd w A (pcells ys))
    (hl : xs.length + ys.length ≤ 1000000) (hbase : base ≤ w.heap.size)
    (h : ∀ v' w', w'.ownsRow base 25 3 v' (xs ++ ys).length (pcells (xs ++ ys)) → w.grownBy w' v.ownBlock → K (a.put o.dst v') w') : if Region.wanted o (yielded ops a.tmps) = true then Oper.wp Try.prog o a w K Q else E := by
  have hw : Region.wanted o (yielded ops a.tmps) = true := by simp [Region.wanted, hgd]
  rw [if_pos hw]
  exact wp_append_pt s x ho base v xs hs hown A c m ys hx hm hy hl hbase h
theorem step_append_cut {w : World} {ops : Array Oper} {o : Oper} {a : Act} {K : Act → World → Prop} {Q : Exit → Act → World → Prop} {E : Prop} (hgd : o.guard = none) (s x : Operand)
    (ho : o.op = .call { callee := .builtin .append, args := #[s, x], argTypes := #[22, 22] })
    (A : Option Addr) (k : Nat) (xs : List Pt) (hs : a.eval s = .slice A k k) (hk : xs.length = k) (hr : Rd w A (pcells xs))
    (ad : Addr) (c m : Nat) (ys : List Pt) (hx : a.eval x = .slice (some ad) m c) (hm : ys.length = m) (hy : Rd w (some ad) (pcells ys)) (hyl : 0 < ys.length)
    (hl : xs.length + ys.length ≤ 1000000)
    (h : ∀ v' w', w'.ownsRow w.heap.size 25 3 v' (xs ++ ys).length (pcells (xs ++ ys)) → w.grownBy w' none → K (a.put o.dst v') w') : if Region.wanted o (yielded ops a.tmps) = true then Oper.wp Try.prog o a w K Q else E := by
  have hw : Region.wanted o (yielded ops a.tmps) = true := by simp [Region.wanted, hgd]
  rw [if_pos hw]
  subst hm; subst hk
  obtain ⟨i0, hi, hz0, hz1, hz2⟩ := info_parts infoPt
  rw [List.length_append, pcells_append] at h
  unfold Oper.wp execOp
  cases A with
  | some b =>
    obtain ⟨v', w', hrun, r1, r2⟩ := run_append_arg_grows (P := Try.prog) w 22 o.type 25 i0 (.agg #[.int .i64 0, .int .u64 0, .int .u64 0]) 3 24 Try.underlying22 hi hz0 hz1 hz2 rfl (by decide) b xs.length xs.length (pcells xs) (pcells_len xs) (rd_cells hr) ad ys.length c (pcells ys) (pcells_len ys) (rd_cells hy) (by omega) (by unfold maxLen; omega) (by omega)
    simp only [ho, resolve, invoke, builtin, Sem.run_bind, Sem.run_pure, Result.andThen_ok, List.map_toArray, List.map_cons, List.map_nil, hs, hx, hrun]
    exact h v' w' r1 r2
  | none =>
    obtain rfl := pt_nil hr
    obtain ⟨v', w', hrun, r1, r2, _⟩ := run_append_own (P := Try.prog) w w.heap.size 22 o.type 25 i0 (.agg #[.int .i64 0, .int .u64 0, .int .u64 0]) 3 24 Try.underlying22 hi hz0 hz1 hz2 rfl (by decide) (.slice none 0 0) 0 [] (World.ownsRow_nil w _ 25 3) ad ys.length c (pcells ys) (pcells_len ys) (rd_cells hy) (pcells_one' ys) (by unfold maxLen; omega) (by omega) (Nat.le_refl _)
    simp only [ho, resolve, invoke, builtin, Sem.run_bind, Sem.run_pure, Result.andThen_ok, List.map_toArray, List.map_cons, List.map_nil, hs, hx, List.length_nil, hrun]
    exact h v' w' (by simpa [pcells] using r1) (by simpa [Value.ownBlock] using r2)
theorem step_store_pt {w : World} {ops : Array Oper} {o : Oper} {a : Act} {K : Act → World → Prop} {Q : Exit → Act → World → Prop} {E : Prop} (hgd : o.guard = none) (x y : Operand)
    (ho : o.op = .store 25 x y) (g : Nat) (p : Pt) (hx : a.eval x = .pointer (some ⟨g, 0, none⟩)) (hy : a.eval y = aggPt p) (q : Pt) (hg : PBox w g q)
    (h : ∀ w', PBox w' g p → Mv (fun k => k = g) w w' → K (a.put o.dst undef) w') : if Region.wanted o (yielded ops a.tmps) = true then Oper.wp Try.prog o a w K Q else E := by
  have hw : Region.wanted o (yielded ops a.tmps) = true := by simp [Region.wanted, hgd]
  rw [if_pos hw]
  unfold Oper.wp execOp
  have hr := run_store_agg (P := Try.prog) w g 0 25 25 (boxPt q) (ptL p) hg (by kernel_rfl) (by show 0 + 3 ≤ 3; decide) (ptL_one p)
  rw [spl3] at hr
  simp only [ho, hx, hy, Instr.storeAt, Instr.sureAddr, Sem.run_bind, Sem.run_pure, Result.andThen_ok]
  rw [show aggPt p = .agg (ptL p).toArray from rfl, hr]
  exact h _ (setRow_heap w g (boxPt q) _ 25 _ hg) (mv_setRow w g _)
theorem pt_cells {w : World} {b off : Nat} {l : List Pt} (h : Rd w (some ⟨b, off, none⟩) (pcells l)) {k : Nat} {q : Pt} (hk : l[k]? = some q) :
    w.cell? ⟨b, off + k * 3, none⟩ = some (.int .i64 q.1) ∧ w.cell? ⟨b, off + k * 3 + 1, none⟩ = some (.int .u64 q.2.1) ∧ w.cell? ⟨b, off + k * 3 + 2, none⟩ = some (.int .u64 q.2.2) := by
  obtain ⟨hl, rfl⟩ := List.getElem?_eq_some_iff.1 hk
  obtain ⟨b', off', e, h0, h1, h2⟩ := pt_at h hl
  injection e with e; injection e with e1 e2 _; subst e1; subst e2
  exact ⟨h0, h1, h2⟩
/-- A goal at a world, told by what is known of it. -/
theorem withW {F : World → Prop} {X : World} (T : World → Prop) (h1 : T X) (h2 : ∀ w, T w → F w) : F X := h2 X h1
theorem PBox.set3 {w : World} {g : Nat} {q : Pt} (h : PBox w g q) (r : Pt) : PBox (((w.setCell ⟨g, 0, none⟩ (.int .i64 r.1)).setCell ⟨g, 1, none⟩ (.int .u64 r.2.1)).setCell ⟨g, 2, none⟩ (.int .u64 r.2.2)) g r := by
  have h1 := set_blk h 0 (.int .i64 r.1)
  have h2 := set_blk h1 1 (.int .u64 r.2.1)
  have h3 := set_blk h2 2 (.int .u64 r.2.2)
  exact h3
end Go.Proofs.Ytinjdlplbficiaa
