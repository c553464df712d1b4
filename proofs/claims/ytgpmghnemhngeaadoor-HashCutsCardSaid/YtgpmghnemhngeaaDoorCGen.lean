/-
  Words for memory and for rows of bytes, used by the walks of this seat. Plain definitions and lemmas; nothing here speaks of the program. What a call may have moved: 'Mv S w w'': of the blocks of w all but those in S are as they were; and an append, as one step of a statement whose order is open. Slices of slices: a row cut from a place on, or between two places. Slices of slices, at whatever world: the address does not hang on the world. Whole arrays and structs, read from memory and written into it, anywhere in a block; copies into a row. Rows in memory, of the call's own and handed in: what each layer's walks need. Nothing here speaks of the program but for the size of a byte.
-/
import Derived.WalkKit
import Derived.Handy
import Derived.Deep.Draws
import Derived.Deep.QuietTactic
import Derived.BigQuiet
import Derived.Lib.Hide
import Derived.Deep.RegionLaw
import Derived.Deep.AppendLies
import Derived.Deep.DeepMust
import Derived.Laws.CopyOwn
import Derived.Laws.Tables
import Derived.Deep.DeepCutAuto
import Derived.Deep.CutRange
import Derived.BigRegion
import Derived.Test.YtgpmghnemhngeaaDoorRows
namespace Go.Proofs.YtgpmghnemhngeaaDoor
section
set_option linter.unusedVariables false
set_option linter.unusedSimpArgs false
section
set_option linter.unusedVariables false
set_option linter.unusedSimpArgs false
open Go.RowKit

/-- A byte as the model holds it. -/
def Bv (x : UInt8) : Value := .int .u8 (x.toNat : Int)
/-- The cells from an address on hold these values. -/
def Rd (w : World) (A : Option Addr) (xs : List Value) : Prop :=
  ∀ k v, xs[k]? = some v → ∃ b off, A = some ⟨b, off, none⟩ ∧ w.cell? ⟨b, off + k, none⟩ = some v

theorem Rd.nil (w : World) (A : Option Addr) : Rd w A [] := fun k v h => by simp at h

theorem Rd.blk {w : World} {A : Option Addr} {xs : List Value} (h : Rd w A xs) {w' : World}
    (hk : ∀ b, b < w.heap.size → A.map (·.block) = some b → w'.heap[b]? = w.heap[b]?) : Rd w' A xs := by
  intro k v hv
  obtain ⟨b, off, rfl, hc⟩ := h k v hv
  refine ⟨b, off, rfl, ?_⟩
  have hb : b < w.heap.size := World.block_lt_of_cell? w _ hc
  rw [World.cell?_of_block (a := ⟨b, off + k, none⟩) (w := w) (hk _ hb rfl)]
  exact hc

theorem Rd.below {w w' : World} {A : Option Addr} {xs : List Value} (h : Rd w A xs) (hb : Below w.heap.size w w') : Rd w' A xs :=
  h.blk fun b hlt _ => hb.block b hlt
theorem Rd.drewN {w : World} {A : Option Addr} {xs : List Value} (h : Rd w A xs) (n : Nat) : Rd (w.drewN n) A xs := h
theorem Rd.alloc {w : World} {A : Option Addr} {xs : List Value} (h : Rd w A xs) (o : Obj) : Rd (w.alloc o) A xs :=
  h.blk fun b hlt _ => Below.heap_alloc w o b hlt
theorem Rd.setCell {w : World} {A : Option Addr} {xs : List Value} (h : Rd w A xs) {p : Addr} (hp : A.map (·.block) ≠ some p.block) (u : Value) : Rd (w.setCell p u) A xs :=
  h.blk fun b _ hb => Below.heap_setCell w p u b (fun e => hp (by rw [hb, e]))

/-- A byte row's place k. -/
theorem Rd.byte {w : World} {A : Option Addr} {xs : List UInt8} (h : Rd w A (xs.map Bv)) {k : Nat} (hk : k < xs.length) :
    ∃ b off, A = some ⟨b, off, none⟩ ∧ w.cell? ⟨b, off + k, none⟩ = some (.int .u8 (xs[k].toNat : Int)) :=
  h k (Bv xs[k]) (by simp [hk])

theorem Rd.take {w : World} {A : Option Addr} {xs : List Value} (h : Rd w A xs) (k : Nat) : Rd w A (xs.take k) := by
  intro j v hj
  rw [List.getElem?_take] at hj
  split at hj
  · exact h j v hj
  · cases hj
theorem Rd.bytes_take {w : World} {A : Option Addr} {xs : List UInt8} (h : Rd w A (xs.map Bv)) (k : Nat) : Rd w A ((xs.take k).map Bv) := by
  rw [List.map_take]; exact h.take k
theorem drop_cons {α : Type} {xs : List α} {k : Nat} (h : k < xs.length) : xs.drop k = xs[k] :: xs.drop (k + 1) := List.drop_eq_getElem_cons h
theorem take_succ_eq {α : Type} {xs ys : List α} {k : Nat} (h : k < xs.length) (h' : k < ys.length) (ht : xs.take k = ys.take k) (e : xs[k] = ys[k]) : xs.take (k+1) = ys.take (k+1) := by
  rw [List.take_succ_eq_append_getElem h, List.take_succ_eq_append_getElem h', ht, e]
/-- Bits beside one another are a sum. -/
theorem or_beside (a m s : Nat) (ha : a < 2 ^ s) : a ||| (m * 2 ^ s) = a + m * 2 ^ s := by
  rw [← Nat.shiftLeft_eq, Nat.or_comm, ← Nat.shiftLeft_add_eq_or_of_lt ha, Nat.add_comm]
end
section
set_option linter.unusedVariables false
set_option linter.unusedSimpArgs false
open Go.RowKit

/-- Of the blocks of w all but those in S are in w' as they were; the streams are as they were. -/
structure Mv (S : Nat → Prop) (w w' : World) : Prop where
  os : w'.os = w.os
  tape : w'.tape = w.tape
  output : w'.output = w.output
  size : w.heap.size ≤ w'.heap.size
  block : ∀ k, k < w.heap.size → ¬ S k → w'.heap[k]? = w.heap[k]?

section
variable {S T : Nat → Prop} {w w1 w2 : World}
theorem Mv.refl (S : Nat → Prop) (w : World) : Mv S w w := ⟨rfl, rfl, rfl, Nat.le_refl _, fun _ _ _ => rfl⟩
theorem Mv.trans (h : Mv S w w1) (k : Mv T w1 w2) (hT : ∀ i, i < w.heap.size → T i → S i) : Mv S w w2 :=
  ⟨k.os.trans h.os, k.tape.trans h.tape, k.output.trans h.output, Nat.le_trans h.size k.size,
    fun i hi hn => (k.block i (Nat.lt_of_lt_of_le hi h.size) (fun ht => hn (hT i hi ht))).trans (h.block i hi hn)⟩
theorem Mv.mono (h : Mv S w w1) (hS : ∀ i, i < w.heap.size → S i → T i) : Mv T w w1 :=
  ⟨h.os, h.tape, h.output, h.size, fun k hk hn => h.block k hk (fun hs => hn (hS k hk hs))⟩
theorem Mv.drew (h : Mv S w w1) : Mv S w w1.drew := ⟨h.os, h.tape, h.output, h.size, h.block⟩
theorem Mv.drewN (h : Mv S w w1) (n : Nat) : Mv S w (w1.drewN n) := ⟨h.os, h.tape, h.output, h.size, h.block⟩
theorem Mv.alloc (h : Mv S w w1) (o : Obj) : Mv S w (w1.alloc o) :=
  h.trans (T := fun _ => False) ⟨rfl, rfl, rfl, by simp, fun k hk _ => Below.heap_alloc _ _ _ hk⟩ (fun _ _ h => h.elim)
theorem Mv.setCell (h : Mv S w w1) {p : Addr} (hp : p.block < w.heap.size → S p.block) (u : Value) : Mv S w (w1.setCell p u) :=
  h.trans (T := fun k => k = p.block) ⟨rfl, rfl, rfl, by simp [World.setCell], fun k _ hk => Below.heap_setCell _ _ _ _ hk⟩ (fun i hi e => by subst e; exact hp hi)
theorem Mv.grown {row : Option Nat} (h : Mv S w w1) (hg : w1.grownBy w2 row) (hr : ∀ k, k < w.heap.size → row = some k → S k) : Mv S w w2 :=
  h.trans (T := fun k => row = some k) ⟨hg.os, hg.tape, hg.output, hg.size, fun k hk hn => hg.block k hk (fun e => hn e.symm)⟩ hr
theorem Mv.below (h : Mv (fun _ => False) w w1) : Below w.heap.size w w1 := ⟨h.os, h.tape, h.output, h.size, fun k hk => h.block k hk (fun f => f)⟩
theorem Mv.of_below (h : Below w.heap.size w w1) (S : Nat → Prop) : Mv S w w1 := ⟨h.os, h.tape, h.output, h.size, fun k hk _ => h.block k hk⟩
theorem Mv.belowB {B : Nat} (h : Mv S w w1) (hB : B ≤ w.heap.size) (hS : ∀ k, k < B → ¬ S k) : Below B w w1 := ⟨h.os, h.tape, h.output, h.size, fun k hk => h.block k (by omega) (hS k hk)⟩
theorem Mv.rd {A : Option Addr} {xs : List Value} (h : Mv S w w1) (r : Rd w A xs) (hA : ∀ k, k < w.heap.size → A.map (·.block) = some k → ¬ S k) : Rd w1 A xs :=
  r.blk fun b hb hm => h.block b hb (hA b hb hm)
end

theorem heap_alloc_new2 (w : World) (o o' : Obj) : ((w.alloc o).alloc o').heap[w.heap.size + 1]? = some o' := by
  have h := heap_alloc_new (w.alloc o) o'
  rwa [World.size_alloc] at h
theorem blk_lt {w : World} {b : Nat} {o : Obj} (h : w.heap[b]? = some o) : b < w.heap.size := lt_of_block h
theorem cell_blk {w : World} {b : Nat} {cs : Array Value} {t : TypeId} (h : w.heap[b]? = some (.cells cs t (0, 0))) (i : Nat) : w.cell? ⟨b, i, none⟩ = cs[i]? := cell_of_row w b i cs t (0, 0) h
theorem free_blk {w : World} {b : Nat} {cs : Array Value} {t : TypeId} (h : w.heap[b]? = some (.cells cs t (0, 0))) (i : Nat) : w.frozen? ⟨b, i, none⟩ = false := by simp [World.frozen?, h]
theorem ne_blk {w : World} {b b' : Nat} {cs cs' : Array Value} {t t' : TypeId} (h : w.heap[b]? = some (.cells cs t (0, 0))) (h' : w.heap[b']? = some (.cells cs' t' (0, 0))) (ht : t ≠ t') : b ≠ b' := by
  rintro rfl; rw [h] at h'; injection h' with h'; injection h' with _ h2; exact ht h2
theorem set_blk {w : World} {b : Nat} {cs : Array Value} {t : TypeId} (h : w.heap[b]? = some (.cells cs t (0, 0))) (i : Nat) (u : Value) : (w.setCell ⟨b, i, none⟩ u).heap[b]? = some (.cells (cs.setIfInBounds i u) t (0, 0)) := by
  simp [World.setCell, Array.getElem?_modify, h]
theorem own_blk {w : World} {base : Nat} {e t : TypeId} {size n : Nat} {v : Value} {xs : List Value} {b : Nat} {cs : Array Value}
    (h : w.ownsRow base e size v n xs) (hb : w.heap[b]? = some (.cells cs t (0, 0))) (ht : e ≠ t) : v.ownBlock ≠ some b := by
  rcases h.2 with ⟨rfl, _⟩ | ⟨g, cap, cur, rfl, _, hh, _⟩
  · simp [Value.ownBlock]
  · intro he
    have : g = b := by simpa [Value.ownBlock] using he
    subst this
    exact ne_blk hh hb ht rfl
end
section
set_option linter.unusedVariables false
set_option linter.unusedSimpArgs false
open Go.RowKit

section
variable {P : Program}
theorem Rd.drop {w : World} {A : Option Addr} {vs : List Value} (h : Rd w A vs) (k : Nat) : Rd w (A.map (·.add k)) (vs.drop k) := by
  intro j v hv
  rw [List.getElem?_drop] at hv
  obtain ⟨b, off, rfl, hc⟩ := h (k + j) v hv
  refine ⟨b, off + k, ?_, by rw [Nat.add_assoc]; exact hc⟩
  simp only [Option.map_some, Addr.add]
  by_cases h0 : k = 0 <;> simp [h0]
theorem run_bound (w : World) (k cap : Nat) (c : BoundsCode) (h : k ≤ cap) : (Instr.sliceBound (.int .i64 (k : Nat)) cap c).run P w = .ok k w := by
  simp [Instr.sliceBound, asIntOf, h]
theorem run_slice_any (w : World) (ty e : TypeId) (A : Option Addr) (n c l h : Nat) (lo hi : Option Value) (hu : P.underlying ty = some (.slice e)) (hs : (P.info? e).map (·.size) = some 1)
    (hlo : lo = some (.int .i64 (l : Nat)) ∨ lo = none ∧ l = 0) (hhi : hi = some (.int .i64 (h : Nat)) ∨ hi = none ∧ h = n) (hl : l ≤ h) (hh : h ≤ c) :
    ∃ A', (Instr.sliceAt ty (.slice A n c) lo hi none).run P w = .ok (.slice A' (h - l) (c - l)) w ∧ A'.map (·.block) = A.map (·.block) ∧ ∀ vs : List Value, vs.length ≤ c → Rd w A vs → Rd w A' (vs.drop l) := by
  refine ⟨if c = l then A else A.map (·.add l), ?_, ?_, fun vs hv hr => ?_⟩
  · cases hq : P.info? e with
    | none => simp [hq] at hs
    | some i =>
      have hsz : i.size = 1 := by simpa [hq] using hs
      have b1 := run_bound (P := P) w l h
      have b2 := run_bound (P := P) w h c
      rcases hlo with rfl | ⟨rfl, rfl⟩ <;> rcases hhi with rfl | ⟨rfl, rfl⟩ <;>
        simp [Instr.sliceAt, Instr.slice, Instr.sliceBounds, run_underlying hu, sizeOf, typeInfo, hq, hsz, b1, b2, hl, hh]
  · split
    · rfl
    · cases A with
      | none => rfl
      | some ad => simp only [Option.map_some, Addr.add]; split <;> rfl
  · split
    · rename_i e1
      rw [List.drop_eq_nil_of_le (by omega)]
      exact Rd.nil _ _
    · exact hr.drop l
theorem run_slice_array (w : World) (t e : TypeId) (N b off l : Nat) (ht : P.underlying t = some (.array N e)) (hs : (P.info? e).map (·.size) = some 1) (hl : l < N) :
    (Instr.sliceAt t (.pointer (some ⟨b, off, none⟩)) (some (.int .i64 (l : Nat))) none none).run P w = .ok (.slice (some ⟨b, off + l, none⟩) (N - l) (N - l)) w := by
  cases hq : P.info? e with
  | none => simp [hq] at hs
  | some i =>
    have hsz : i.size = 1 := by simpa [hq] using hs
    have b1 := run_bound (P := P) w l N
    have hne : ¬ N = l := by omega
    by_cases h0 : l = 0
    · subst h0
      have b1' := b1 .sliceB (by omega)
      simp at b1'
      simp [Instr.sliceAt, Instr.sureAddr, Instr.sliceBounds, run_underlying ht, sizeOf, typeInfo, hq, hsz, b1', hne, Addr.add]
    · simp [Instr.sliceAt, Instr.sureAddr, Instr.sliceBounds, run_underlying ht, sizeOf, typeInfo, hq, hsz, b1 .sliceB (by omega), hne, Addr.add, h0]
theorem wpList_slice_any {w : World} {ops : Array Oper} {rest : List Oper} {o : Oper} {a : Act} {Q : Exit → Act → World → Prop} (hgd : o.guard = none) (ty : TypeId) (x : Operand) (lo hi : Option Operand)
    (ho : o.op = .slice ty x lo hi none) (e : TypeId) (hu : P.underlying ty = some (.slice e)) (hs : (P.info? e).map (·.size) = some 1) (A : Option Addr) (n c l h : Nat) (hx : a.eval x = .slice A n c)
    (hlo : lo.map a.eval = some (.int .i64 (l : Nat)) ∨ lo = none ∧ l = 0) (hhi : hi.map a.eval = some (.int .i64 (h : Nat)) ∨ hi = none ∧ h = n) (hl : l ≤ h) (hh : h ≤ c)
    (hK : ∀ A', A'.map (·.block) = A.map (·.block) → (∀ vs : List Value, vs.length ≤ c → Rd w A vs → Rd w A' (vs.drop l)) → wpList P ops Q rest (a.put o.dst (.slice A' (h - l) (c - l))) w) : wpList P ops Q (o :: rest) a w := by
  obtain ⟨A', hr, hbl, hv⟩ := run_slice_any (P := P) w ty e A n c l h (lo.map a.eval) (hi.map a.eval) hu hs (by rcases hlo with h | ⟨rfl, h⟩; exact .inl h; exact .inr ⟨rfl, h⟩) (by rcases hhi with h | ⟨rfl, h⟩; exact .inl h; exact .inr ⟨rfl, h⟩) hl hh
  refine wpList_plain hgd fun K hK' => ?_
  unfold Oper.wp
  simp only [execOp, ho, hx, Option.map_none, Sem.run_bind, Sem.run_pure, hr, Result.andThen_ok]
  exact hK' _ _ (hK A' hbl hv)
end
end
section
set_option linter.unusedVariables false
set_option linter.unusedSimpArgs false
open Go.RowKit
section
variable {P : Program}
theorem run_slice_all (ty e : TypeId) (A : Option Addr) (n c l h : Nat) (lo hi : Option Value) (hu : P.underlying ty = some (.slice e)) (hs : (P.info? e).map (·.size) = some 1)
    (hlo : lo = some (.int .i64 (l : Nat)) ∨ lo = none ∧ l = 0) (hhi : hi = some (.int .i64 (h : Nat)) ∨ hi = none ∧ h = n) (hl : l ≤ h) (hh : h ≤ c) :
    ∃ A', (∀ w, (Instr.sliceAt ty (.slice A n c) lo hi none).run P w = .ok (.slice A' (h - l) (c - l)) w) ∧ ∀ (w : World) (vs : List Value), vs.length ≤ c → Rd w A vs → Rd w A' (vs.drop l) := by
  refine ⟨if c = l then A else A.map (·.add l), fun w => ?_, fun w vs hv hr => ?_⟩
  · cases hq : P.info? e with
    | none => simp [hq] at hs
    | some i =>
      have hsz : i.size = 1 := by simpa [hq] using hs
      have b1 := run_bound (P := P) w l h
      have b2 := run_bound (P := P) w h c
      rcases hlo with rfl | ⟨rfl, rfl⟩ <;> rcases hhi with rfl | ⟨rfl, rfl⟩ <;>
        simp [Instr.sliceAt, Instr.slice, Instr.sliceBounds, run_underlying hu, sizeOf, typeInfo, hq, hsz, b1, b2, hl, hh]
  · split
    · rename_i e1
      rw [List.drop_eq_nil_of_le (by omega)]
      exact Rd.nil _ _
    · exact hr.drop l
end
end
section
set_option linter.unusedVariables false
set_option linter.unusedSimpArgs false
open Go.RowKit

section
variable {P : Program}
theorem add_at (b off j : Nat) : (⟨b, off, none⟩ : Addr).add j = ⟨b, off + j, none⟩ := by unfold Addr.add; split <;> simp_all
/-- A type of several cells. -/
def isAggB (P : Program) (ty : TypeId) : Bool := match P.underlying ty with | some (.struct _) => true | some (.array _ _) => true | _ => false
theorem run_isAggB {P : Program} (w : World) {ty : TypeId} (h : isAggB P ty = true) : (isAgg ty).run P w = .ok true w := by
  unfold isAggB at h
  cases hu : P.underlying ty with
  | none => rw [hu] at h; cases h
  | some d =>
    unfold isAgg
    rw [Sem.run_bind, run_underlying hu w]
    rw [hu] at h
    cases d <;> simp_all
theorem run_load_agg (w : World) (b off : Nat) (ty : TypeId) (cs : List Value) (hd : isAggB P ty = true) (hi : (P.info? ty).map (·.size) = some cs.length)
    (hc : ∀ j v, cs[j]? = some v → w.cell? ⟨b, off + j, none⟩ = some v) : (loadVar ty ⟨b, off, none⟩).run P w = .ok (.agg cs.toArray) w := by
  have hl : (loadCells ⟨b, off, none⟩ cs.length).run P w = .ok cs.toArray w :=
    run_loadCells_list (P := P) w ⟨b, off, none⟩ cs (fun j v hv => by rw [add_at]; exact hc j v hv)
  cases hq : P.info? ty with
  | none => simp [hq] at hi
  | some i =>
    have hs : i.size = cs.length := by simpa [hq] using hi
    have hagg := run_isAggB (P := P) w hd
    simp [loadVar, Sem.run_bind, hagg, sizeOf, typeInfo, hq, hs, hl]
theorem wp_load_agg {o : Oper} {a : Act} {w : World} {K : Act → World → Prop} {Q : Exit → Act → World → Prop} (ty : TypeId) (x : Operand) (ho : o.op = .load ty x)
    (b off : Nat) (hx : a.eval x = .pointer (some ⟨b, off, none⟩)) (cs : List Value) (hd : isAggB P ty = true)
    (hi : (P.info? ty).map (·.size) = some cs.length) (hc : ∀ j v, cs[j]? = some v → w.cell? ⟨b, off + j, none⟩ = some v)
    (h : K (a.put o.dst (.agg cs.toArray)) w) : o.wp P a w K Q := by
  unfold Oper.wp execOp
  simp only [ho, hx, Instr.loadAt, Instr.sureAddr, Sem.run_bind, Sem.run_pure, Result.andThen_ok, run_load_agg w b off ty cs hd hi hc]
  exact h
/-- A whole array or struct, read from anywhere. -/
theorem wpList_load_agg {ops : Array Oper} {rest : List Oper} {o : Oper} {a : Act} {w : World} {Q : Exit → Act → World → Prop} (hgd : o.guard = none) (ty : TypeId) (x : Operand) (ho : o.op = .load ty x)
    (b off : Nat) (hx : a.eval x = .pointer (some ⟨b, off, none⟩)) (cs : List Value) (hd : isAggB P ty = true)
    (hi : (P.info? ty).map (·.size) = some cs.length) (hc : ∀ j v, cs[j]? = some v → w.cell? ⟨b, off + j, none⟩ = some v)
    (h : wpList P ops Q rest (a.put o.dst (.agg cs.toArray)) w) : wpList P ops Q (o :: rest) a w :=
  wpList_plain hgd fun _ hK => wp_load_agg ty x ho b off hx cs hd hi hc (hK _ _ h)

/-- Cells laid over a row from a place on. -/
def spl (cur : Array Value) (off : Nat) (cs : List Value) : Array Value := (splice cur.toList off cs).toArray
theorem spl_get {cur : Array Value} {off : Nat} {cs : List Value} (h : off + cs.length ≤ cur.size) (j : Nat) : (spl cur off cs)[j]? = if j < off then cur[j]? else if j < off + cs.length then cs[j - off]? else cur[j]? := by
  have hl : (cur.toList.take off).length = off := by rw [List.length_take, Array.length_toList]; omega
  have e : (spl cur off cs)[j]? = (splice cur.toList off cs)[j]? := by simp only [spl, List.getElem?_toArray]
  rw [e, splice]
  by_cases h1 : j < off
  · rw [if_pos h1, List.getElem?_append_left (by omega), List.getElem?_take, if_pos h1]; simp
  · rw [if_neg h1, List.getElem?_append_right (by omega), hl]
    by_cases h2 : j < off + cs.length
    · rw [if_pos h2, List.getElem?_append_left (by omega)]
    · rw [if_neg h2, List.getElem?_append_right (by omega), List.getElem?_drop, show off + cs.length + (j - off - cs.length) = j from by omega]; simp
theorem mv_setRow (w : World) (g : Nat) (cs : Array Value) : Mv (fun k => k = g) w (w.setRow g cs) := ⟨rfl, rfl, rfl, by simp, fun k _ hk => setRow_other w g k cs hk⟩
theorem run_store_agg (w : World) (g off : Nat) (t ty : TypeId) (cur : Array Value) (cells : List Value) (hg : w.heap[g]? = some (.cells cur t (0, 0))) (hi : (P.info? ty).map (·.size) = some cells.length)
    (ho : off + cells.length ≤ cur.size) (h1 : ∀ v ∈ cells, v.oneCell' = true) :
    (storeVar ty ⟨g, off, none⟩ (.agg cells.toArray)).run P w = .ok () (w.setRow g (spl cur off cells)) := by
  have := run_storeCells_at P g off t cells 0 cur w hg (by simpa using ho) h1
  cases hq : P.info? ty with
  | none => simp [hq] at hi
  | some i =>
    have hs : cells.length = i.size := by simp [hq] at hi; omega
    have e : (cur.toList.take (off + 0) ++ cells ++ cur.toList.drop (off + 0 + cells.length)).toArray = spl cur off cells := by simp [spl, splice, List.append_assoc]
    rw [e] at this
    simp [storeVar, sizeOf, typeInfo, hq, Value.cells, hs, this]
/-- A whole array or struct, written into a block. -/
theorem wpList_store_agg {ops : Array Oper} {rest : List Oper} {o : Oper} {a : Act} {w : World} {Q : Exit → Act → World → Prop} (hgd : o.guard = none) (ty : TypeId) (x y : Operand) (ho : o.op = .store ty x y)
    (g off : Nat) (cells : List Value) (hx : a.eval x = .pointer (some ⟨g, off, none⟩)) (hy : a.eval y = .agg cells.toArray)
    (t : TypeId) (cur : Array Value) (hg : w.heap[g]? = some (.cells cur t (0, 0))) (hi : (P.info? ty).map (·.size) = some cells.length)
    (hfit : off + cells.length ≤ cur.size) (h1 : ∀ v ∈ cells, v.oneCell' = true)
    (h : ∀ w', w'.heap[g]? = some (.cells (spl cur off cells) t (0, 0)) → Mv (fun k => k = g) w w' → w'.heap.size = w.heap.size → wpList P ops Q rest (a.put o.dst undef) w') : wpList P ops Q (o :: rest) a w := by
  refine wpList_plain hgd fun _ hK => ?_
  unfold Oper.wp execOp
  simp only [ho, hx, hy, Instr.storeAt, Instr.sureAddr, Sem.run_bind, Sem.run_pure, Result.andThen_ok, run_store_agg w g off t ty cur cells hg hi hfit h1]
  exact hK _ _ (h _ (setRow_heap w g cur _ t _ hg) (mv_setRow w g _) (by simp))
/-- A copy into a block: as many cells as the shorter of the two has. -/
theorem wpList_copy_mv {w : World} {ops : Array Oper} {rest : List Oper} {o : Oper} {a : Act} {Q : Exit → Act → World → Prop} (hgd : o.guard = none) (d s : Operand) (dT sT : TypeId)
    (ho : o.op = .call { callee := .builtin .copy, args := #[d, s], argTypes := #[dT, sT] }) (elem : TypeId) (hu : P.underlying dT = some (.slice elem)) (hsz : (P.info? elem).map (·.size) = some 1)
    (dp sp : Option Addr) (dLen dCap sLen sCap : Nat) (hd : a.eval d = .slice dp dLen dCap) (hs : a.eval s = .slice sp sLen sCap)
    (g off : Nat) (cur : Array Value) (t : TypeId) (hg : w.heap[g]? = some (.cells cur t (0, 0))) (cs : List Value) (hn : cs.length = Nat.min sLen dLen)
    (hpos : 0 < cs.length → dp = some ⟨g, off, none⟩) (hsrc : Rd w sp cs)
    (hfit : off + cs.length ≤ cur.size) (h1 : ∀ v ∈ cs, v.oneCell' = true)
    (h : ∀ w', w'.heap[g]? = some (.cells (spl cur off cs) t (0, 0)) → Mv (fun k => k = g) w w' → w'.heap.size = w.heap.size → wpList P ops Q rest (a.put o.dst (goInt cs.length)) w') :
    wpList P ops Q (o :: rest) a w := by
  by_cases h0 : cs.length = 0
  · obtain rfl : cs = [] := List.eq_nil_of_length_eq_zero h0
    refine wpList_copy_nothing hgd d s dT sT ho elem hu hsz dp sp dLen dCap sLen sCap hd hs (by simpa using hn.symm) ?_
    have e : spl cur off [] = cur := by simp [spl, splice]
    exact h w (by rw [e]; exact hg) (Mv.refl _ _) rfl
  · obtain rfl := hpos (by omega)
    obtain ⟨b, o2, rfl, _⟩ := hsrc 0 cs[0] (by simp)
    refine wpList_copy_own hgd d s dT sT ho elem hu hsz g off dLen dCap ⟨b, o2, none⟩ sLen sCap hd hs cur t hg cs hn (fun j v hv => by
      obtain ⟨b', o', e, hc⟩ := hsrc j v hv
      injection e with e; injection e with e1 e2; subst e1 e2
      rw [add_at]; exact hc) hfit h1 ?_
    exact h _ (setRow_heap w g cur _ t _ hg) (mv_setRow w g _) (by simp)
/-- The end of a function whose result lies in a block. -/
theorem bodyPost_cell {fn : Func} {R : Ending → World → Prop} {a : Act} {w : World} {p : Tmp} {ty : TypeId} (hr : fn.results = #[.cell p ty]) (g : Nat) (t : TypeId) (cs : Array Value)
    (hp : a.tmps.getD p undef = .pointer (some ⟨g, 0, none⟩)) (hg : w.heap[g]? = some (.cells cs t (0, 0))) (hd : isAggB P ty = true)
    (hi : (P.info? ty).map (·.size) = some cs.size) (hdf : a.defers = []) (hR : R (.returned (.agg cs)) w) : bodyPost P fn R .ret a w := by
  unfold isAggB at hd
  cases hu : P.underlying ty with
  | none => rw [hu] at hd; cases hd
  | some d =>
    rw [hu] at hd
    exact bodyPost_ret (results_cell_row hr a.tmps w g t cs (0, 0) d hp hg hu (by cases d <;> simp_all) hi) hdf hR
theorem run_isAggB_no {P : Program} (w : World) {ty : TypeId} (h : isAggB P ty = false) (hu : (P.underlying ty).isSome = true) : (isAgg ty).run P w = .ok false w := by
  unfold isAggB at h
  cases hq : P.underlying ty with
  | none => rw [hq] at hu; cases hu
  | some d =>
    unfold isAgg
    rw [Sem.run_bind, run_underlying hq w]
    rw [hq] at h
    cases d <;> simp_all
/-- A value's part by its place. -/
theorem run_index_agg (w : World) (t e : TypeId) (len k : Nat) (cs : Array Value) (v : Value) (ht : P.underlying t = some (.array len e)) (hs : (P.info? e).map (·.size) = some 1) (hag : isAggB P e = false) (hu : (P.underlying e).isSome = true) (hk : k < len) (hv : cs[k]? = some v) :
    (Instr.index t (.agg cs) (.int .i64 k)).run P w = .ok v w := by
  cases hq : P.info? e with
  | none => simp [hq] at hs
  | some i =>
    have hi : i.size = 1 := by simpa [hq] using hs
    simp [Instr.index, asIntOf, run_underlying ht, sizeOf, typeInfo, hq, hi, hk, part, run_isAggB_no (P := P) w hag hu, hv]
end
end
section
set_option linter.unusedVariables false
set_option linter.unusedSimpArgs false
open Go.RowKit

theorem infoU8 : (Tryd.prog.info? 5).map (fun i => (i.zero, i.size, i.bytes)) = some (some (.int .u8 0), 1, 1) := by kernel_rfl
theorem own_rd {w : World} {base : Nat} {e : TypeId} {v : Value} {n : Nat} {xs : List Value} (h : w.ownsRow base e 1 v n xs) :
    ∃ A cap, v = .slice A n cap ∧ Rd w A xs ∧ A.map (·.block) = v.ownBlock ∧ n ≤ cap ∧ cap ≤ maxLen := by
  rcases h.2 with ⟨rfl, rfl⟩ | ⟨g, cap, cur, rfl, _, _, hnc, hcm, _⟩
  · have : xs = [] := List.eq_nil_of_length_eq_zero (by simpa using h.1)
    subst this
    exact ⟨none, 0, rfl, Rd.nil _ _, rfl, Nat.le_refl _, Nat.zero_le _⟩
  · refine ⟨some ⟨g, 0, none⟩, cap, rfl, fun k u hk => ?_, rfl, hnc, hcm⟩
    have := h.cells (g := g) rfl k u hk
    have hadd : (⟨g, 0, none⟩ : Addr).add k = ⟨g, k, none⟩ := by unfold Addr.add; split <;> simp_all
    exact ⟨g, 0, rfl, by rw [hadd] at this; simpa using this⟩
theorem rd_cells {w : World} {ad : Addr} {xs : List Value} (h : Rd w (some ad) xs) : ∀ j u, xs[j]? = some u → w.cell? (ad.add j) = some u := by
  intro j u hu
  obtain ⟨b, off, e, hc⟩ := h j u hu
  injection e with e
  subst e
  by_cases hj : j = 0
  · subst hj; simpa [Addr.add] using hc
  · simpa [Addr.add, hj] using hc
theorem byte_of {x : Int} {n : Nat} (h : x = (n : Int)) (hn : n < 256) : Value.int .u8 x = Bv (UInt8.ofNat n) := by
  subst h
  simp only [Bv, UInt8.toNat_ofNat', Nat.mod_eq_of_lt hn]
theorem rd_lit (w : World) (xs : List UInt8) (t : TypeId) : Rd (w.alloc (.cells (xs.map Bv).toArray t)) (some ⟨w.heap.size, 0, none⟩) (xs.map Bv) := by
  intro k v hv
  refine ⟨_, 0, rfl, ?_⟩
  rw [cell_blk (heap_alloc_new w _)]
  simpa using hv
theorem rd_row (w : World) (cs : List Value) (t : TypeId) : Rd (w.alloc (.cells cs.toArray t)) (some ⟨w.heap.size, 0, none⟩) cs := by
  intro k v hv
  refine ⟨_, 0, rfl, ?_⟩
  rw [cell_blk (heap_alloc_new w _)]
  simpa using hv
theorem below_drewN {B : Nat} {w w' : World} (h : Below B w w') (n : Nat) : Below B w (w'.drewN n) := ⟨h.os, h.tape, h.output, h.size, h.block⟩
/-- A row that is owned stays so where its block does. -/
theorem own_moved {w w' : World} {base : Nat} {e : TypeId} {size : Nat} {u : Value} {n : Nat} {xs : List Value} (h : w.ownsRow base e size u n xs) (hk : ∀ g, u.ownBlock = some g → w'.heap[g]? = w.heap[g]?) : w'.ownsRow base e size u n xs := by
  refine ⟨h.1, ?_⟩
  rcases h.2 with hn | ⟨g, cap, cur, rfl, hb, hg, rest⟩
  · exact .inl hn
  · exact .inr ⟨g, cap, cur, rfl, hb, (hk g rfl).trans hg, rest⟩
theorem run_append_none {P : Program} {w : World} (base : Nat) (t ty e : TypeId) (i : TypeInfo) (size : Nat) (ht : P.underlying t = some (.slice e)) (hi : P.info? e = some i)
    (v : Value) (n c : Nat) (xs : List Value) (hown : w.ownsRow base e size v n xs) :
    (Builtin.append_ #[t, t] ty #[v, .slice none 0 c]).run P w = .ok v w := by
  rcases hown.2 with ⟨rfl, rfl⟩ | ⟨g, cap, cur, rfl, _, _, hnc, _⟩
  · simp [Builtin.append_, run_underlying ht, sizeOf, typeInfo, hi, Builtin.lenOf, Builtin.firstCells]
  · simp [Builtin.append_, run_underlying ht, sizeOf, typeInfo, hi, Builtin.lenOf, Builtin.firstCells, hnc, storeCells]
/-- append of a row that came from anywhere (nil, empty or not) onto a row of the call's own, cells of one value. -/
theorem wpList_append_rd {P : Program} {w : World} {ops : Array Oper} {rest : List Oper} {o : Oper} {a : Act} {Q : Exit → Act → World → Prop} (hgd : o.guard = none) (s x : Operand) (t : TypeId)
    (ho : o.op = .call { callee := .builtin .append, args := #[s, x], argTypes := #[t, t] })
    (base : Nat) (e : TypeId) (i : TypeInfo) (z : Value) (bytes : Nat) (ht : P.underlying t = some (.slice e)) (hi : P.info? e = some i) (hz : i.zero = some z)
    (hsize : i.size = 1) (hby : i.bytes = bytes) (hzs : z.cells.size = 1)
    (v : Value) (n : Nat) (xs : List Value) (hs : a.eval s = v) (hown : w.ownsRow base e 1 v n xs)
    (A : Option Addr) (c : Nat) (news : List Value) (hx : a.eval x = .slice A news.length c) (hnews : Rd w A news) (h1 : ∀ u ∈ news, u.oneCell' = true)
    (h63 : n + news.length ≤ maxLen) (hbytes : (n + news.length) * bytes ≤ 140737488355328) (hbase : base ≤ w.heap.size)
    (h : ∀ v' w', w'.ownsRow base e 1 v' (n + news.length) (xs ++ news) → w.grownBy w' v.ownBlock → wpList P ops Q rest (a.put o.dst v') w') : wpList P ops Q (o :: rest) a w := by
  cases A with
  | some ad =>
    exact wpList_append_own w hgd s x t ho base e i z 1 bytes ht hi hz hsize hby hzs (by omega) v n xs hs hown ad news.length c news hx (by simp) (rd_cells hnews) h1 h63 hbytes hbase (fun v' w' a b _ => h v' w' a b)
  | none =>
    have h0 : news = [] := by
      cases news with
      | nil => rfl
      | cons u r => obtain ⟨b, off, e', _⟩ := hnews 0 u rfl; cases e'
    subst h0
    have hrun := run_append_none (P := P) base t o.type e i 1 ht hi v n c xs hown
    refine wpList_plain hgd fun K hK => ?_
    unfold Oper.wp execOp
    simp only [ho, resolve, invoke, builtin, Sem.run_bind, Sem.run_pure, Result.andThen_ok, List.map_toArray, List.map_cons, List.map_nil, hs, hx, List.length_nil, hrun]
    exact hK _ _ (h v w (by simpa using hown) ⟨rfl, rfl, rfl, Nat.le_refl _, fun _ _ _ => rfl⟩)
theorem rd_row' (w : World) (cs : List Value) (t : TypeId) : Rd (w.alloc (.cells cs.toArray t)) (some ⟨w.heap.size, 0, none⟩) cs := by
  intro k v hv
  refine ⟨_, 0, rfl, ?_⟩
  rw [cell_blk (heap_alloc_new w _)]
  simpa using hv
theorem ofNat_toNat {n : Nat} (h : n < 256) : (UInt8.ofNat n).toNat = n := by simp; omega
theorem add_flat (g i : Nat) : (⟨g, 0, none⟩ : Addr).add i = ⟨g, i, none⟩ := by unfold Addr.add; split <;> simp_all
end
end
end Go.Proofs.YtgpmghnemhngeaaDoor
