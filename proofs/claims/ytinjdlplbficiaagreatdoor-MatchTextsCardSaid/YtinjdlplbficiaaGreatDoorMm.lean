/-
  Lists of matchers in memory: a matcher takes three cells; rows of the call's own, cuts, and appends.
-/
import Derived.ArgAppend
import Derived.Deep.LoopGhost
import Derived.Test.YtinjdlplbficiaaGreatDoorGen
import Derived.Test.YtinjdlplbficiaaGreatDoorMp
namespace Go.Proofs.YtinjdlplbficiaaGreatDoor
set_option linter.unusedVariables false
set_option linter.unusedSimpArgs false
open Go.RowKit

/-- The cells of matchers. -/
def mcells : List Mt' → List Value
  | [] => []
  | x :: r => .int .i64 x.1 :: .string x.2.1 :: .string x.2.2 :: mcells r
def aggMt (x : Mt') : Value := .agg #[.int .i64 x.1, .string x.2.1, .string x.2.2]
theorem mcells_len : ∀ l, (mcells l).length = l.length * 3
  | [] => rfl
  | x :: r => by simp only [mcells, List.length_cons, mcells_len r]; omega
theorem mcells_append : ∀ l m, mcells (l ++ m) = mcells l ++ mcells m
  | [], m => rfl
  | x :: r, m => by simp only [List.cons_append, mcells, mcells_append r m]
theorem mcells_one (x : Mt') : mcells [x] = [.int .i64 x.1, .string x.2.1, .string x.2.2] := rfl
theorem mcells_take : ∀ (l : List Mt') (k : Nat), mcells (l.take k) = (mcells l).take (k * 3)
  | [], k => by simp [mcells]
  | x :: r, 0 => by simp [mcells]
  | x :: r, k + 1 => by rw [show (k + 1) * 3 = k * 3 + 1 + 1 + 1 by omega]; simp only [List.take_succ_cons, mcells, mcells_take r k]
theorem mcells_drop : ∀ (l : List Mt') (k : Nat), mcells (l.drop k) = (mcells l).drop (k * 3)
  | [], k => by simp [mcells]
  | x :: r, 0 => by simp [mcells]
  | x :: r, k + 1 => by rw [show (k + 1) * 3 = k * 3 + 1 + 1 + 1 by omega]; simp only [List.drop_succ_cons, mcells, mcells_drop r k]
theorem mcells_at : ∀ (l : List Mt') (k : Nat) (h : k < l.length), (mcells l)[k * 3]? = some (.int .i64 l[k].1) ∧ (mcells l)[k * 3 + 1]? = some (.string l[k].2.1) ∧ (mcells l)[k * 3 + 2]? = some (.string l[k].2.2)
  | [], k, h => absurd h (Nat.not_lt_zero _)
  | x :: r, 0, h => by simp [mcells]
  | x :: r, k + 1, h => by
    have ih := mcells_at r k (by simpa using h)
    rw [show (k + 1) * 3 = k * 3 + 1 + 1 + 1 by omega]
    refine ⟨?_, ?_, ?_⟩
    · simp only [mcells, List.getElem?_cons_succ, List.getElem_cons_succ]; exact ih.1
    · rw [show k * 3 + 1 + 1 + 1 + 1 = (k * 3 + 1) + 1 + 1 + 1 by omega]; simp only [mcells, List.getElem?_cons_succ, List.getElem_cons_succ]; exact ih.2.1
    · rw [show k * 3 + 1 + 1 + 1 + 2 = (k * 3 + 2) + 1 + 1 + 1 by omega]; simp only [mcells, List.getElem?_cons_succ, List.getElem_cons_succ]; exact ih.2.2
theorem mcells_one' : ∀ (l : List Mt'), ∀ u ∈ mcells l, u.oneCell' = true
  | [], u, h => by cases h
  | x :: r, u, h => by
    rcases List.mem_cons.1 h with rfl | h
    · rfl
    rcases List.mem_cons.1 h with rfl | h
    · rfl
    rcases List.mem_cons.1 h with rfl | h
    · rfl
    · exact mcells_one' r u h
/-- A matcher at its place. -/
theorem mt_at {w : World} {A : Option Addr} {l : List Mt'} (h : Rd w A (mcells l)) {k : Nat} (hk : k < l.length) :
    ∃ b off, A = some ⟨b, off, none⟩ ∧ w.cell? ⟨b, off + k * 3, none⟩ = some (.int .i64 l[k].1) ∧ w.cell? ⟨b, off + k * 3 + 1, none⟩ = some (.string l[k].2.1) ∧ w.cell? ⟨b, off + k * 3 + 2, none⟩ = some (.string l[k].2.2) := by
  obtain ⟨h0, h1, h2⟩ := mcells_at l k hk
  obtain ⟨b, off, e, c0⟩ := h (k * 3) _ h0
  obtain ⟨b', off', e', c1⟩ := h (k * 3 + 1) _ h1
  obtain ⟨b'', off'', e'', c2⟩ := h (k * 3 + 2) _ h2
  rw [e] at e' e''
  injection e' with e'
  injection e' with e1 e2 _
  injection e'' with e''
  injection e'' with e3 e4 _
  subst e1; subst e2; subst e3; subst e4
  exact ⟨b, off, e, c0, c1, c2⟩
theorem mt_nil {w : World} {l : List Mt'} (h : Rd w none (mcells l)) : l = [] := by
  cases l with
  | nil => rfl
  | cons x r => obtain ⟨b, off, e, _⟩ := mt_at h (k := 0) (by simp); cases e
theorem rd_dropM {w : World} {b off : Nat} {l : List Mt'} {k : Nat} (h : Rd w (some ⟨b, off, none⟩) (mcells l)) : Rd w (some ⟨b, off + k * 3, none⟩) (mcells (l.drop k)) := by
  intro j v hv
  rw [mcells_drop, List.getElem?_drop] at hv
  obtain ⟨b', off', e, hc⟩ := h _ v hv
  injection e with e; injection e with e1 e2 _; subst e1; subst e2
  exact ⟨b, off + k * 3, rfl, by rw [Nat.add_assoc]; exact hc⟩
theorem rd_takeM {w : World} {A : Option Addr} {l : List Mt'} (h : Rd w A (mcells l)) (k : Nat) : Rd w A (mcells (l.take k)) := by rw [mcells_take]; exact h.take _
theorem rd_mt {w : World} {b off : Nat} {l : List Mt'} (h : ∀ k (hk : k < l.length), w.cell? ⟨b, off + k * 3, none⟩ = some (.int .i64 l[k].1) ∧ w.cell? ⟨b, off + k * 3 + 1, none⟩ = some (.string l[k].2.1) ∧ w.cell? ⟨b, off + k * 3 + 2, none⟩ = some (.string l[k].2.2)) : Rd w (some ⟨b, off, none⟩) (mcells l) := by
  intro j v hv
  refine ⟨b, off, rfl, ?_⟩
  have hj : j < l.length * 3 := by rw [← mcells_len]; exact (List.getElem?_eq_some_iff.1 hv).1
  obtain ⟨h0, h1, h2⟩ := h (j / 3) (by omega)
  obtain ⟨p0, p1, p2⟩ := mcells_at l (j / 3) (by omega)
  have h3 : j % 3 = 0 ∨ j % 3 = 1 ∨ j % 3 = 2 := by omega
  rcases h3 with e | e | e
  · rw [show j / 3 * 3 = j by omega] at p0 h0
    rw [p0] at hv; rw [h0, ← hv]
  · rw [show j / 3 * 3 + 1 = j by omega] at p1
    rw [show off + j / 3 * 3 + 1 = off + j by omega] at h1
    rw [p1] at hv; rw [h1, ← hv]
  · rw [show j / 3 * 3 + 2 = j by omega] at p2
    rw [show off + j / 3 * 3 + 2 = off + j by omega] at h2
    rw [p2] at hv; rw [h2, ← hv]
theorem infoMt : (Tryz.prog.info? 37).map (fun i => (i.zero, i.size, i.bytes)) = some (some (.agg #[.int .i64 0, .string ⟨#[]⟩, .string ⟨#[]⟩]), 3, 40) := by kernel_rfl

theorem own_rd_mt {w : World} {B : Nat} {v : Value} {l : List Mt'} (h : w.ownsRow B 37 3 v l.length (mcells l)) : ∃ A c, v = .slice A l.length c ∧ Rd w A (mcells l) ∧ l.length ≤ c ∧ c ≤ maxLen := by
  rcases h.2 with ⟨rfl, h0⟩ | ⟨g, cap, cur, rfl, hB, hg, hnc, hcm, hcs, htk⟩
  · have : l = [] := List.eq_nil_of_length_eq_zero h0
    subst this
    exact ⟨none, 0, rfl, Rd.nil _ _, Nat.le_refl _, by decide⟩
  · refine ⟨some ⟨g, 0, none⟩, cap, rfl, fun k u hk => ?_, hnc, hcm⟩
    have := h.cells (g := g) rfl k u hk
    have hadd : (⟨g, 0, none⟩ : Addr).add k = ⟨g, k, none⟩ := by unfold Addr.add; split <;> simp_all
    exact ⟨g, 0, rfl, by rw [hadd] at this; simpa using this⟩
theorem own_below_mt {w w' : World} {B : Nat} {v : Value} {n : Nat} {xs : List Value} (h : w.ownsRow B 37 3 v n xs) (hb : RowKit.Below w.heap.size w w') : w'.ownsRow B 37 3 v n xs :=
  own_moved h (fun g hg => hb.block g (h.lt g hg).2)
theorem own_emptyM (w : World) : (w.alloc (.cells #[] 37)).ownsRow w.heap.size 37 3 (.slice (some ⟨w.heap.size, 0, none⟩) 0 0) 0 [] :=
  World.ownsRow_made w #[] 0 (Nat.le_refl _) (by decide) rfl

/-- x[l:h:m] of matchers. -/
theorem run_slice_mt (w : World) (A : Option Addr) (n c l h m : Nat) (lo hi mx : Option Value) (hlo : lo = some (.int .i64 (l : Nat)) ∨ lo = none ∧ l = 0)
    (hhi : hi = some (.int .i64 (h : Nat)) ∨ hi = none ∧ mx = none ∧ h = n) (hmx : mx = some (.int .i64 (m : Nat)) ∨ mx = none ∧ m = c) (hl : l ≤ h) (hh : h ≤ m) (hm : m ≤ c) :
    (Instr.sliceAt 22 (.slice A n c) lo hi mx).run Tryz.prog w = .ok (.slice (if m = l then A else A.map (·.add (l * 3))) (h - l) (m - l)) w := by
  obtain ⟨i0, hi0, hz0, hz1, hz2⟩ := info_parts infoMt
  have b1 := fun cd => run_bound (P := Tryz.prog) w l h cd hl
  have b2 := fun cd => run_bound (P := Tryz.prog) w h m cd hh
  have b3 := fun cd => run_bound (P := Tryz.prog) w m c cd hm
  rcases hmx with rfl | ⟨rfl, rfl⟩
  · rcases hhi with rfl | ⟨_, h0, _⟩
    · rcases hlo with rfl | ⟨rfl, rfl⟩ <;>
        simp [Instr.sliceAt, Instr.slice, Instr.sliceBounds, run_underlying Tryz.underlying22, sizeOf, typeInfo, hi0, hz1, b1, b2, b3]
    · cases h0
  · rcases hlo with rfl | ⟨rfl, rfl⟩ <;> rcases hhi with rfl | ⟨rfl, _, rfl⟩ <;>
      simp [Instr.sliceAt, Instr.slice, Instr.sliceBounds, run_underlying Tryz.underlying22, sizeOf, typeInfo, hi0, hz1, b1, b2, b3]
theorem add_mt {w : World} {A : Option Addr} {l : List Mt'} (h : Rd w A (mcells l)) (k m : Nat) (hk : m = k → l.length ≤ m) : Rd w (if m = k then A else A.map (·.add (k * 3))) (mcells (l.drop k)) := by
  split
  · rename_i e
    rw [List.drop_eq_nil_of_le (by have := hk e; omega)]
    exact Rd.nil _ _
  · rw [mcells_drop]; exact h.drop (k * 3)
theorem wpList_slice_mt {w : World} {ops : Array Oper} {rest : List Oper} {o : Oper} {a : Act} {Q : Exit → Act → World → Prop} (hgd : o.guard = none) (x : Operand) (lo hi mx : Option Operand)
    (ho : o.op = .slice 22 x lo hi mx) (A : Option Addr) (n c l h m : Nat) (hx : a.eval x = .slice A n c)
    (hlo : lo.map a.eval = some (.int .i64 (l : Nat)) ∨ lo.map a.eval = none ∧ l = 0)
    (hhi : hi.map a.eval = some (.int .i64 (h : Nat)) ∨ hi.map a.eval = none ∧ mx.map a.eval = none ∧ h = n) (hmx : mx.map a.eval = some (.int .i64 (m : Nat)) ∨ mx.map a.eval = none ∧ m = c) (hl : l ≤ h) (hh : h ≤ m) (hm : m ≤ c)
    (hK : ∀ A', A' = (if m = l then A else A.map (·.add (l * 3))) → wpList Tryz.prog ops Q rest (a.put o.dst (.slice A' (h - l) (m - l))) w) : wpList Tryz.prog ops Q (o :: rest) a w := by
  have hr := run_slice_mt w A n c l h m (lo.map a.eval) (hi.map a.eval) (mx.map a.eval) hlo hhi hmx hl hh hm
  refine wpList_plain hgd fun K hK' => ?_
  unfold Oper.wp
  simp only [execOp, ho, hx, Sem.run_bind, Sem.run_pure, hr, Result.andThen_ok]
  exact hK' _ _ (hK _ rfl)
/-- append of matchers that came from anywhere onto a row of the call's own. -/
theorem wpList_append_mt {w : World} {ops : Array Oper} {rest : List Oper} {o : Oper} {a : Act} {Q : Exit → Act → World → Prop} (hgd : o.guard = none) (s x : Operand)
    (ho : o.op = .call { callee := .builtin .append, args := #[s, x], argTypes := #[22, 22] }) (hty : o.type = 22)
    (base : Nat) (v : Value) (xs : List Mt') (hs : a.eval s = v) (hown : w.ownsRow base 37 3 v xs.length (mcells xs))
    (A : Option Addr) (c : Nat) (ys : List Mt') (hx : a.eval x = .slice A ys.length c) (hy : Rd w A (mcells ys))
    (hl : xs.length + ys.length ≤ 1000000) (hbase : base ≤ w.heap.size)
    (h : ∀ v' w', w'.ownsRow base 37 3 v' (xs ++ ys).length (mcells (xs ++ ys)) → w.grownBy w' v.ownBlock → wpList Tryz.prog ops Q rest (a.put o.dst v') w') : wpList Tryz.prog ops Q (o :: rest) a w := by
  obtain ⟨i0, hi, hz0, hz1, hz2⟩ := info_parts infoMt
  rw [List.length_append, mcells_append] at h
  cases A with
  | some ad =>
    exact wpList_append_own w hgd s x 22 ho base 37 i0 (.agg #[.int .i64 0, .string ⟨#[]⟩, .string ⟨#[]⟩]) 3 40 Tryz.underlying22 hi hz0 hz1 hz2 rfl (by decide) v xs.length (mcells xs) hs hown ad ys.length c (mcells ys) hx (mcells_len ys) (rd_cells hy) (mcells_one' ys) (by unfold maxLen; omega) (by omega) hbase (fun v' w' a b _ => h v' w' a b)
  | none =>
    obtain rfl := mt_nil hy
    have hrun := run_append_none (P := Tryz.prog) base 22 o.type 37 i0 3 Tryz.underlying22 hi v xs.length c (mcells xs) hown
    refine wpList_plain hgd fun K hK => ?_
    unfold Oper.wp execOp
    simp only [ho, resolve, invoke, builtin, Sem.run_bind, Sem.run_pure, Result.andThen_ok, List.map_toArray, List.map_cons, List.map_nil, hs, hx, List.length_nil, hrun]
    exact hK _ _ (h v w (by simpa [mcells] using hown) ⟨rfl, rfl, rfl, Nat.le_refl _, fun _ _ _ => rfl⟩)
/-- append of matchers onto what was cut so that it has no room: new memory. -/
theorem wpList_append_cutM {w : World} {ops : Array Oper} {rest : List Oper} {o : Oper} {a : Act} {Q : Exit → Act → World → Prop} (hgd : o.guard = none) (s x : Operand)
    (ho : o.op = .call { callee := .builtin .append, args := #[s, x], argTypes := #[22, 22] })
    (A : Option Addr) (xs : List Mt') (hs : a.eval s = .slice A xs.length xs.length) (hr : Rd w A (mcells xs))
    (ad : Addr) (c : Nat) (ys : List Mt') (hx : a.eval x = .slice (some ad) ys.length c) (hy : Rd w (some ad) (mcells ys)) (hyl : 0 < ys.length)
    (hl : xs.length + ys.length ≤ 1000000)
    (h : ∀ v' w', w'.ownsRow w.heap.size 37 3 v' (xs ++ ys).length (mcells (xs ++ ys)) → w.grownBy w' none → wpList Tryz.prog ops Q rest (a.put o.dst v') w') : wpList Tryz.prog ops Q (o :: rest) a w := by
  obtain ⟨i0, hi, hz0, hz1, hz2⟩ := info_parts infoMt
  rw [List.length_append, mcells_append] at h
  exact wpList_append_grows w hgd s x 22 ho 37 i0 (.agg #[.int .i64 0, .string ⟨#[]⟩, .string ⟨#[]⟩]) 3 40 Tryz.underlying22 hi hz0 hz1 hz2 rfl (by decide) A xs.length xs.length (mcells xs) hs
    (fun e => by subst e; rw [mt_nil hr]; exact ⟨rfl, rfl⟩) (mcells_len xs) (fun b e => by subst e; exact rd_cells hr) ad ys.length c (mcells ys) hx (mcells_len ys) (rd_cells hy) (mcells_one' ys) (by omega) (by unfold maxLen; omega) (by omega) h
theorem grown_noneM {B : Nat} {w w1 w2 : World} (h : RowKit.Below B w w1) (hB : B ≤ w1.heap.size) (hg : w1.grownBy w2 none) : RowKit.Below B w w2 :=
  h.grown hg hB (by simp)
theorem own_mvP {S : Nat → Prop} {w w' : World} {B : Nat} {e : TypeId} {size n : Nat} {u : Value} {xs : List Value} (h : w.ownsRow B e size u n xs) (m : Mv S w w') (hS : ∀ k, u.ownBlock = some k → ¬ S k) : w'.ownsRow B e size u n xs :=
  own_moved h fun g hg => m.block g (h.lt g hg).2 (hS g hg)
theorem undrewP {S : Nat → Prop} {w w' : World} (m : Mv S w.drew w') : Mv S w w' := ⟨m.os, m.tape, m.output, m.size, m.block⟩
theorem ungrownP {w w' : World} {row : Option Nat} (h : w.drew.grownBy w' row) : w.grownBy w' row := by
  obtain ⟨a, b, c, d, e⟩ := h
  exact ⟨a, b, c, d, e⟩
theorem rd_mvP {w w' : World} {A : Option Addr} {xs : List Value} (h : Rd w A xs) (m : Mv (fun _ => False) w w') : Rd w' A xs := h.below m.below
theorem wp_append_mt {w : World} {o : Oper} {a : Act} {K : Act → World → Prop} {Q : Exit → Act → World → Prop} (s x : Operand)
    (ho : o.op = .call { callee := .builtin .append, args := #[s, x], argTypes := #[22, 22] })
    (base : Nat) (v : Value) (xs : List Mt') (hs : a.eval s = v) (hown : w.ownsRow base 37 3 v xs.length (mcells xs))
    (A : Option Addr) (c m : Nat) (ys : List Mt') (hx : a.eval x = .slice A m c) (hm : ys.length = m) (hy : Rd w A (mcells ys))
    (hl : xs.length + ys.length ≤ 1000000) (hbase : base ≤ w.heap.size)
    (h : ∀ v' w', w'.ownsRow base 37 3 v' (xs ++ ys).length (mcells (xs ++ ys)) → w.grownBy w' v.ownBlock → K (a.put o.dst v') w') : o.wp Tryz.prog a w K Q := by
  subst hm
  obtain ⟨i0, hi, hz0, hz1, hz2⟩ := info_parts infoMt
  rw [List.length_append, mcells_append] at h
  unfold Oper.wp execOp
  cases A with
  | some ad =>
    obtain ⟨v', w', hrun, r1, r2, _⟩ := run_append_own (P := Tryz.prog) w base 22 o.type 37 i0 (.agg #[.int .i64 0, .string ⟨#[]⟩, .string ⟨#[]⟩]) 3 40 Tryz.underlying22 hi hz0 hz1 hz2 rfl (by decide) v xs.length (mcells xs) hown ad ys.length c (mcells ys) (mcells_len ys) (rd_cells hy) (mcells_one' ys) (by unfold maxLen; omega) (by omega) hbase
    simp only [ho, resolve, invoke, builtin, Sem.run_bind, Sem.run_pure, Result.andThen_ok, List.map_toArray, List.map_cons, List.map_nil, hs, hx, hrun]
    exact h v' w' r1 r2
  | none =>
    obtain rfl := mt_nil hy
    have hrun := run_append_none (P := Tryz.prog) base 22 o.type 37 i0 3 Tryz.underlying22 hi v xs.length c (mcells xs) hown
    simp only [ho, resolve, invoke, builtin, Sem.run_bind, Sem.run_pure, Result.andThen_ok, List.map_toArray, List.map_cons, List.map_nil, hs, hx, List.length_nil, hrun]
    exact h v w (by simpa [mcells] using hown) ⟨rfl, rfl, rfl, Nat.le_refl _, fun _ _ _ => rfl⟩
theorem step_append_mt {w : World} {ops : Array Oper} {o : Oper} {a : Act} {K : Act → World → Prop} {Q : Exit → Act → World → Prop} {E : Prop} (hgd : o.guard = none) (s x : Operand)
    (ho : o.op = .call { callee := .builtin .append, args := #[s, x], argTypes := #[22, 22] })
    (base : Nat) (v : Value) (xs : List Mt') (hs : a.eval s = v) (hown : w.ownsRow base 37 3 v xs.length (mcells xs))
    (A : Option Addr) (c m : Nat) (ys : List Mt') (hx : a.eval x = .slice A m c) (hm : ys.length = m) (hy : Rd w A (mcells ys))
    (hl : xs.length + ys.length ≤ 1000000) (hbase : base ≤ w.heap.size)
    (h : ∀ v' w', w'.ownsRow base 37 3 v' (xs ++ ys).length (mcells (xs ++ ys)) → w.grownBy w' v.ownBlock → K (a.put o.dst v') w') : if Region.wanted o (yielded ops a.tmps) = true then Oper.wp Tryz.prog o a w K Q else E := by
  have hw : Region.wanted o (yielded ops a.tmps) = true := by simp [Region.wanted, hgd]
  rw [if_pos hw]
  exact wp_append_mt s x ho base v xs hs hown A c m ys hx hm hy hl hbase h
end Go.Proofs.YtinjdlplbficiaaGreatDoor
