/-
  A record's points in memory: a point takes four cells.
-/
import Derived.Deep.LoopGhost
import Derived.Shelf.Abstract
import Derived.ArgAppend
import Derived.Test.YtgogpngobdafaaaDoorJa
import Derived.Test.YtgogpngobdafaaaDoorRfm
namespace Go.Proofs.YtgogpngobdafaaaDoor
set_option linter.unusedVariables false
set_option linter.unusedSimpArgs false
open Go.RowKit

/-- The cells of a point. -/
def enC (x : En) : List Value := [.int .u32 (x.1 : Nat), .int .i64 x.2.1, .int .u64 (x.2.2.1 : Nat), .int .u64 (x.2.2.2 : Nat)]
theorem enC_len (x : En) : (enC x).length = 4 := rfl
/-- The cells of points. -/
def ecells (l : List En) : List Value := l.flatMap enC
theorem ecells_len (l : List En) : (ecells l).length = l.length * 4 := flat_len enC_len l
theorem ecells_append (l m : List En) : ecells (l ++ m) = ecells l ++ ecells m := by unfold ecells; rw [List.flatMap_append]
theorem ecells_cons (x : En) (l : List En) : ecells (x :: l) = enC x ++ ecells l := by unfold ecells; rw [List.flatMap_cons]
theorem ecells_one (x : En) : ecells [x] = enC x := by unfold ecells; simp
theorem ecells_one' (l : List En) : ∀ u ∈ ecells l, u.oneCell' = true := by
  intro u hu
  unfold ecells at hu
  rw [List.mem_flatMap] at hu
  obtain ⟨x, _, hx⟩ := hu
  simp only [enC, List.mem_cons, List.not_mem_nil, or_false] at hx
  rcases hx with rfl | rfl | rfl | rfl <;> rfl
theorem en_at {w : World} {A : Option Addr} {l : List En} (h : Rd w A (ecells l)) {k : Nat} {x : En} (hk : l[k]? = some x) :
    ∃ b off, A = some ⟨b, off, none⟩ ∧ w.cell? ⟨b, off + k * 4, none⟩ = some (.int .u32 (x.1 : Nat)) ∧ w.cell? ⟨b, off + k * 4 + 1, none⟩ = some (.int .i64 x.2.1) ∧ w.cell? ⟨b, off + k * 4 + 2, none⟩ = some (.int .u64 (x.2.2.1 : Nat)) ∧ w.cell? ⟨b, off + k * 4 + 3, none⟩ = some (.int .u64 (x.2.2.2 : Nat)) := by
  obtain ⟨b, off, e, hc⟩ := Rd.flat (m := 4) h enC_len (by decide) hk
  exact ⟨b, off, e, hc 0 _ rfl, hc 1 _ rfl, hc 2 _ rfl, hc 3 _ rfl⟩
theorem en_nil {w : World} {l : List En} (h : Rd w none (ecells l)) : l = [] := by
  cases l with
  | nil => rfl
  | cons x r => obtain ⟨b, off, e, _⟩ := en_at h (k := 0) (x := x) rfl; cases e
/-- A point in a box. -/
def boxEn (x : En) : Array Value := #[.int .u32 (x.1 : Nat), .int .i64 x.2.1, .int .u64 (x.2.2.1 : Nat), .int .u64 (x.2.2.2 : Nat)]
def aggEn (x : En) : Value := .agg (boxEn x)
def EBox (w : World) (b : Nat) (x : En) : Prop := w.heap[b]? = some (.cells (boxEn x) 47 (0, 0))
theorem EBox.new (w : World) (x : En) : EBox (w.alloc (.cells (boxEn x) 47)) w.heap.size x := heap_alloc_new w _
theorem EBox.below {w w' : World} {b : Nat} {x : En} (h : EBox w b x) (hb : Below w.heap.size w w') : EBox w' b x := (hb.block _ (blk_lt h)).trans h
theorem EBox.low {B : Nat} {w w' : World} {b : Nat} {x : En} (h : EBox w b x) (hb : Below B w w') (hB : b < B) : EBox w' b x := (hb.block _ hB).trans h
theorem EBox.alloc {w : World} {b : Nat} {x : En} (h : EBox w b x) (o : Obj) : EBox (w.alloc o) b x := (Below.heap_alloc w o b (blk_lt h)).trans h
theorem EBox.cells {w : World} {b : Nat} {x : En} (h : EBox w b x) : w.cell? ⟨b, 0, none⟩ = some (.int .u32 (x.1 : Nat)) ∧ w.cell? ⟨b, 1, none⟩ = some (.int .i64 x.2.1) ∧ w.cell? ⟨b, 2, none⟩ = some (.int .u64 (x.2.2.1 : Nat)) ∧ w.cell? ⟨b, 3, none⟩ = some (.int .u64 (x.2.2.2 : Nat)) :=
  ⟨cell_blk h 0, cell_blk h 1, cell_blk h 2, cell_blk h 3⟩
theorem EBox.free {w : World} {b : Nat} {x : En} (h : EBox w b x) (i : Nat) : w.frozen? ⟨b, i, none⟩ = false := free_blk h i
theorem EBox.rd {w : World} {b : Nat} {x : En} (h : EBox w b x) : Rd w (some ⟨b, 0, none⟩) (ecells [x]) := by
  intro k v hv
  refine ⟨b, 0, rfl, ?_⟩
  rw [Nat.zero_add, cell_blk h]
  simpa [ecells_one, enC, boxEn] using hv
theorem infoEn : (Tryd.prog.info? 47).map (fun i => (i.zero, i.size, i.bytes)) = some (some (.agg #[.int .u32 0, .int .i64 0, .int .u64 0, .int .u64 0]), 4, 32) := by kernel_rfl
theorem own_rd_en {w : World} {B : Nat} {v : Value} {l : List En} (h : w.ownsRow B 47 4 v l.length (ecells l)) : ∃ A c, v = .slice A l.length c ∧ Rd w A (ecells l) ∧ l.length ≤ c ∧ c ≤ maxLen := by
  rcases h.2 with ⟨rfl, h0⟩ | ⟨g, cap, cur, rfl, hB, hg, hnc, hcm, hcs, htk⟩
  · have : l = [] := List.eq_nil_of_length_eq_zero h0
    subst this
    exact ⟨none, 0, rfl, Rd.nil _ _, Nat.le_refl _, by decide⟩
  · refine ⟨some ⟨g, 0, none⟩, cap, rfl, fun k u hk => ?_, hnc, hcm⟩
    have := h.cells (g := g) rfl k u hk
    have hadd : (⟨g, 0, none⟩ : Addr).add k = ⟨g, k, none⟩ := by unfold Addr.add; split <;> simp_all
    exact ⟨g, 0, rfl, by rw [hadd] at this; simpa using this⟩
/-- append of points that came from anywhere onto a row of the call's own. -/
theorem wpList_append_en {w : World} {ops : Array Oper} {rest : List Oper} {o : Oper} {a : Act} {Q : Exit → Act → World → Prop} (hgd : o.guard = none) (s x : Operand)
    (ho : o.op = .call { callee := .builtin .append, args := #[s, x], argTypes := #[25, 25] }) (hty : o.type = 25)
    (base : Nat) (v : Value) (xs : List En) (hs : a.eval s = v) (hown : w.ownsRow base 47 4 v xs.length (ecells xs))
    (A : Option Addr) (c m : Nat) (ys : List En) (hx : a.eval x = .slice A m c) (hm : ys.length = m) (hy : Rd w A (ecells ys))
    (hl : xs.length + ys.length ≤ 1000000) (hbase : base ≤ w.heap.size)
    (h : ∀ v' w', w'.ownsRow base 47 4 v' (xs ++ ys).length (ecells (xs ++ ys)) → w.grownBy w' v.ownBlock → wpList Tryd.prog ops Q rest (a.put o.dst v') w') : wpList Tryd.prog ops Q (o :: rest) a w := by
  subst hm
  obtain ⟨i0, hi, hz0, hz1, hz2⟩ := info_parts infoEn
  rw [List.length_append, ecells_append] at h
  cases A with
  | some ad =>
    exact wpList_append_own w hgd s x 25 ho base 47 i0 (.agg #[.int .u32 0, .int .i64 0, .int .u64 0, .int .u64 0]) 4 32 Tryd.underlying25 hi hz0 hz1 hz2 rfl (by decide) v xs.length (ecells xs) hs hown ad ys.length c (ecells ys) hx (ecells_len ys) (rd_cells hy) (ecells_one' ys) (by unfold maxLen; omega) (by omega) hbase (fun v' w' a b _ => h v' w' a b)
  | none =>
    obtain rfl := en_nil hy
    have hrun := run_append_none (P := Tryd.prog) base 25 o.type 47 i0 4 Tryd.underlying25 hi v xs.length c (ecells xs) hown
    refine wpList_plain hgd fun K hK => ?_
    unfold Oper.wp execOp
    simp only [ho, resolve, invoke, builtin, Sem.run_bind, Sem.run_pure, Result.andThen_ok, List.map_toArray, List.map_cons, List.map_nil, hs, hx, List.length_nil, hrun]
    exact hK _ _ (h v w (by simpa [ecells] using hown) ⟨rfl, rfl, rfl, Nat.le_refl _, fun _ _ _ => rfl⟩)
/-- A record in memory: its kind, its number, its labels and its points. -/
structure Rv where
  kd : Int
  r : Nat
  A : Option Addr
  ca : Nat
  ls : List Lb
  B : Option Addr
  cb : Nat
  ps : List En
def Rv.p (x : Rv) : Rp := (x.kd, x.r, x.ls, x.ps)
def rvC (x : Rv) : Array Value := #[.int .i64 x.kd, .int .u32 (x.r : Nat), .slice x.A x.ls.length x.ca, .slice x.B x.ps.length x.cb]
structure RvIs (w : World) (x : Rv) : Prop where
  la : Rd w x.A (lcells x.ls)
  lb : Rd w x.B (ecells x.ps)
theorem RvIs.below {w w' : World} {x : Rv} (h : RvIs w x) (hb : Below w.heap.size w w') : RvIs w' x := ⟨h.la.below hb, h.lb.below hb⟩
end Go.Proofs.YtgogpngobdafaaaDoor
