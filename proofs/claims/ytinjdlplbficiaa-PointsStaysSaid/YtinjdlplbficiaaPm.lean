/-
  Lists of points in memory: rows of the call's own, cuts, and appends.
-/
import Derived.ArgAppend
import Derived.Deep.LoopGhost
import Derived.Test.YtinjdlplbficiaaPn
namespace Go.Proofs.Ytinjdlplbficiaa
set_option linter.unusedVariables false
set_option linter.unusedSimpArgs false
open Go.RowKit

theorem own_rd_pt {w : World} {B : Nat} {v : Value} {l : List Pt} (h : w.ownsRow B 25 3 v l.length (pcells l)) : ∃ A c, v = .slice A l.length c ∧ Rd w A (pcells l) ∧ l.length ≤ c ∧ c ≤ maxLen := by
  rcases h.2 with ⟨rfl, h0⟩ | ⟨g, cap, cur, rfl, hB, hg, hnc, hcm, hcs, htk⟩
  · have : l = [] := List.eq_nil_of_length_eq_zero h0
    subst this
    exact ⟨none, 0, rfl, Rd.nil _ _, Nat.le_refl _, by decide⟩
  · refine ⟨some ⟨g, 0, none⟩, cap, rfl, fun k u hk => ?_, hnc, hcm⟩
    have := h.cells (g := g) rfl k u hk
    have hadd : (⟨g, 0, none⟩ : Addr).add k = ⟨g, k, none⟩ := by unfold Addr.add; split <;> simp_all
    exact ⟨g, 0, rfl, by rw [hadd] at this; simpa using this⟩
theorem own_below_pt {w w' : World} {B : Nat} {v : Value} {n : Nat} {xs : List Value} (h : w.ownsRow B 25 3 v n xs) (hb : RowKit.Below w.heap.size w w') : w'.ownsRow B 25 3 v n xs :=
  own_moved h (fun g hg => hb.block g (h.lt g hg).2)
theorem own_empty_pt (w : World) : (w.alloc (.cells #[] 25)).ownsRow w.heap.size 25 3 (.slice (some ⟨w.heap.size, 0, none⟩) 0 0) 0 [] :=
  World.ownsRow_made w #[] 0 (Nat.le_refl _) (by decide) rfl

/-- x[l:h:m] of points. -/
theorem run_slice_pt (w : World) (A : Option Addr) (n c l h m : Nat) (lo hi mx : Option Value) (hlo : lo = some (.int .i64 (l : Nat)) ∨ lo = none ∧ l = 0)
    (hhi : hi = some (.int .i64 (h : Nat)) ∨ hi = none ∧ mx = none ∧ h = n) (hmx : mx = some (.int .i64 (m : Nat)) ∨ mx = none ∧ m = c) (hl : l ≤ h) (hh : h ≤ m) (hm : m ≤ c) :
    (Instr.sliceAt 22 (.slice A n c) lo hi mx).run Try.prog w = .ok (.slice (if m = l then A else A.map (·.add (l * 3))) (h - l) (m - l)) w := by
  obtain ⟨i0, hi0, hz0, hz1, hz2⟩ := info_parts infoPt
  have b1 := fun cd => run_bound (P := Try.prog) w l h cd hl
  have b2 := fun cd => run_bound (P := Try.prog) w h m cd hh
  have b3 := fun cd => run_bound (P := Try.prog) w m c cd hm
  rcases hmx with rfl | ⟨rfl, rfl⟩
  · rcases hhi with rfl | ⟨_, h0, _⟩
    · rcases hlo with rfl | ⟨rfl, rfl⟩ <;>
        simp [Instr.sliceAt, Instr.slice, Instr.sliceBounds, run_underlying Try.underlying22, sizeOf, typeInfo, hi0, hz1, b1, b2, b3]
    · cases h0
  · rcases hlo with rfl | ⟨rfl, rfl⟩ <;> rcases hhi with rfl | ⟨rfl, _, rfl⟩ <;>
      simp [Instr.sliceAt, Instr.slice, Instr.sliceBounds, run_underlying Try.underlying22, sizeOf, typeInfo, hi0, hz1, b1, b2, b3]
theorem add_pt {w : World} {A : Option Addr} {l : List Pt} (h : Rd w A (pcells l)) (k m : Nat) (hk : m = k → l.length ≤ m) : Rd w (if m = k then A else A.map (·.add (k * 3))) (pcells (l.drop k)) := by
  split
  · rename_i e
    rw [List.drop_eq_nil_of_le (by have := hk e; omega)]
    exact Rd.nil _ _
  · rw [pcells_drop]; exact h.drop (k * 3)
theorem wpList_slice_pt {w : World} {ops : Array Oper} {rest : List Oper} {o : Oper} {a : Act} {Q : Exit → Act → World → Prop} (hgd : o.guard = none) (x : Operand) (lo hi mx : Option Operand)
    (ho : o.op = .slice 22 x lo hi mx) (A : Option Addr) (n c l h m : Nat) (hx : a.eval x = .slice A n c)
    (hlo : lo.map a.eval = some (.int .i64 (l : Nat)) ∨ lo.map a.eval = none ∧ l = 0)
    (hhi : hi.map a.eval = some (.int .i64 (h : Nat)) ∨ hi.map a.eval = none ∧ mx.map a.eval = none ∧ h = n) (hmx : mx.map a.eval = some (.int .i64 (m : Nat)) ∨ mx.map a.eval = none ∧ m = c) (hl : l ≤ h) (hh : h ≤ m) (hm : m ≤ c)
    (hK : ∀ A', A' = (if m = l then A else A.map (·.add (l * 3))) → wpList Try.prog ops Q rest (a.put o.dst (.slice A' (h - l) (m - l))) w) : wpList Try.prog ops Q (o :: rest) a w := by
  have hr := run_slice_pt w A n c l h m (lo.map a.eval) (hi.map a.eval) (mx.map a.eval) hlo hhi hmx hl hh hm
  refine wpList_plain hgd fun K hK' => ?_
  unfold Oper.wp
  simp only [execOp, ho, hx, Sem.run_bind, Sem.run_pure, hr, Result.andThen_ok]
  exact hK' _ _ (hK _ rfl)
/-- append of points that came from anywhere onto a row of the call's own. -/
theorem wpList_append_pt {w : World} {ops : Array Oper} {rest : List Oper} {o : Oper} {a : Act} {Q : Exit → Act → World → Prop} (hgd : o.guard = none) (s x : Operand)
    (ho : o.op = .call { callee := .builtin .append, args := #[s, x], argTypes := #[22, 22] }) (hty : o.type = 22)
    (base : Nat) (v : Value) (xs : List Pt) (hs : a.eval s = v) (hown : w.ownsRow base 25 3 v xs.length (pcells xs))
    (A : Option Addr) (c : Nat) (ys : List Pt) (hx : a.eval x = .slice A ys.length c) (hy : Rd w A (pcells ys))
    (hl : xs.length + ys.length ≤ 1000000) (hbase : base ≤ w.heap.size)
    (h : ∀ v' w', w'.ownsRow base 25 3 v' (xs ++ ys).length (pcells (xs ++ ys)) → w.grownBy w' v.ownBlock → wpList Try.prog ops Q rest (a.put o.dst v') w') : wpList Try.prog ops Q (o :: rest) a w := by
  obtain ⟨i0, hi, hz0, hz1, hz2⟩ := info_parts infoPt
  rw [List.length_append, pcells_append] at h
  cases A with
  | some ad =>
    exact wpList_append_own w hgd s x 22 ho base 25 i0 (.agg #[.int .i64 0, .int .u64 0, .int .u64 0]) 3 24 Try.underlying22 hi hz0 hz1 hz2 rfl (by decide) v xs.length (pcells xs) hs hown ad ys.length c (pcells ys) hx (pcells_len ys) (rd_cells hy) (pcells_one' ys) (by unfold maxLen; omega) (by omega) hbase (fun v' w' a b _ => h v' w' a b)
  | none =>
    obtain rfl := pt_nil hy
    have hrun := run_append_none (P := Try.prog) base 22 o.type 25 i0 3 Try.underlying22 hi v xs.length c (pcells xs) hown
    refine wpList_plain hgd fun K hK => ?_
    unfold Oper.wp execOp
    simp only [ho, resolve, invoke, builtin, Sem.run_bind, Sem.run_pure, Result.andThen_ok, List.map_toArray, List.map_cons, List.map_nil, hs, hx, List.length_nil, hrun]
    exact hK _ _ (h v w (by simpa [pcells] using hown) ⟨rfl, rfl, rfl, Nat.le_refl _, fun _ _ _ => rfl⟩)
/-- append of points onto what was cut so that it has no room: new memory. -/
theorem wpList_append_cut {w : World} {ops : Array Oper} {rest : List Oper} {o : Oper} {a : Act} {Q : Exit → Act → World → Prop} (hgd : o.guard = none) (s x : Operand)
    (ho : o.op = .call { callee := .builtin .append, args := #[s, x], argTypes := #[22, 22] })
    (A : Option Addr) (xs : List Pt) (hs : a.eval s = .slice A xs.length xs.length) (hr : Rd w A (pcells xs))
    (ad : Addr) (c : Nat) (ys : List Pt) (hx : a.eval x = .slice (some ad) ys.length c) (hy : Rd w (some ad) (pcells ys)) (hyl : 0 < ys.length)
    (hl : xs.length + ys.length ≤ 1000000)
    (h : ∀ v' w', w'.ownsRow w.heap.size 25 3 v' (xs ++ ys).length (pcells (xs ++ ys)) → w.grownBy w' none → wpList Try.prog ops Q rest (a.put o.dst v') w') : wpList Try.prog ops Q (o :: rest) a w := by
  obtain ⟨i0, hi, hz0, hz1, hz2⟩ := info_parts infoPt
  rw [List.length_append, pcells_append] at h
  exact wpList_append_grows w hgd s x 22 ho 25 i0 (.agg #[.int .i64 0, .int .u64 0, .int .u64 0]) 3 24 Try.underlying22 hi hz0 hz1 hz2 rfl (by decide) A xs.length xs.length (pcells xs) hs
    (fun e => by subst e; rw [pt_nil hr]; exact ⟨rfl, rfl⟩) (pcells_len xs) (fun b e => by subst e; exact rd_cells hr) ad ys.length c (pcells ys) hx (pcells_len ys) (rd_cells hy) (pcells_one' ys) (by omega) (by unfold maxLen; omega) (by omega) h
theorem grown_none {B : Nat} {w w1 w2 : World} (h : RowKit.Below B w w1) (hB : B ≤ w1.heap.size) (hg : w1.grownBy w2 none) : RowKit.Below B w w2 :=
  h.grown hg hB (by simp)
end Go.Proofs.Ytinjdlplbficiaa
