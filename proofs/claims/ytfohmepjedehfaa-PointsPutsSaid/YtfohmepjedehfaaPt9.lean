/-
  A list in memory of its own, with room behind it.
-/
import Derived.Laws.MakeOwn
import Derived.Test.YtfohmepjedehfaaPms
namespace Go.Proofs.Ytfohmepjedehfaa
set_option linter.unusedVariables false
set_option linter.unusedSimpArgs false
open Go.RowKit
theorem made_zero (n : Nat) : madeCells #[.int .i64 0, .int .u64 0, .int .u64 0] (n * 3) = (pcells (List.replicate n (0, 0, 0))).toArray := by
  apply Array.ext_getElem?
  intro i
  by_cases hi : i < n * 3
  · have hk : i / 3 < (List.replicate n ((0, 0, 0) : Pt)).length := by rw [List.length_replicate]; omega
    obtain ⟨a0, a1, a2⟩ := pcells_at _ (i / 3) hk
    rw [List.getElem_replicate] at a0 a1 a2
    have hm : (madeCells #[.int .i64 0, .int .u64 0, .int .u64 0] (n * 3))[i]? = some ((#[.int .i64 0, .int .u64 0, .int .u64 0] : Array Value)[i % 3]!) := by
      unfold madeCells
      rw [Array.getElem?_map, Array.getElem?_range]
      simp [hi]
    rw [hm, List.getElem?_toArray]
    rcases (by omega : i = i / 3 * 3 ∧ i % 3 = 0 ∨ i = i / 3 * 3 + 1 ∧ i % 3 = 1 ∨ i = i / 3 * 3 + 2 ∧ i % 3 = 2) with ⟨h, h'⟩ | ⟨h, h'⟩ | ⟨h, h'⟩
    · rw [← h] at a0; rw [a0, h']; rfl
    · rw [← h] at a1; rw [a1, h']; rfl
    · rw [← h] at a2; rw [a2, h']; rfl
  · rw [Array.getElem?_eq_none (by rw [size_madeCells]; omega), List.getElem?_toArray, List.getElem?_eq_none (by rw [pcells_len, List.length_replicate]; omega)]
theorem run_make_pt (w : World) (n : Nat) (hn : n ≤ 100000) : (Instr.makeSlice 22 (.int .i64 0) (.int .i64 (n : Int))).run Try.prog w = .ok (.slice (some ⟨w.heap.size, 0, none⟩) 0 n) (w.alloc (.cells (pcells (List.replicate n (0, 0, 0))).toArray 25)) := by
  obtain ⟨i0, hi, hz0, hz1, hz2⟩ := info_parts infoPt
  have := run_makeSlice (P := Try.prog) w 22 25 i0 (.agg #[.int .i64 0, .int .u64 0, .int .u64 0]) Try.underlying22 hi hz0 .i64 .i64 0 (n : Int) (by omega) (by omega) (by rw [hz1]; omega) (by rw [hz2]; omega) (by omega)
  rw [hz1, Int.toNat_natCast] at this
  rw [← made_zero]
  exact this
theorem wpList_append_room_pt {w : World} {ops : Array Oper} {rest : List Oper} {o : Oper} {a : Act} {Q : Exit → Act → World → Prop} (hgd : o.guard = none) (s x : Operand)
    (ho : o.op = .call { callee := .builtin .append, args := #[s, x], argTypes := #[22, 22] })
    (g n : Nat) (hs : a.eval s = .slice (some ⟨g, 0, none⟩) 0 (n + 2)) (hg : w.heap[g]? = some (.cells (pcells (List.replicate (n + 2) (0, 0, 0))).toArray 25 (0, 0)))
    (A : Option Addr) (c : Nat) (ys : List Pt) (hx : a.eval x = .slice A ys.length c) (hy : Rd w A (pcells ys)) (hn : ys.length = n)
    (h : ∀ w', w'.heap[g]? = some (.cells (pcells (ys ++ [(0, 0, 0), (0, 0, 0)])).toArray 25 (0, 0)) → Mv (fun k => k = g) w w' → wpList Try.prog ops Q rest (a.put o.dst (.slice (some ⟨g, 0, none⟩) ys.length (n + 2))) w') : wpList Try.prog ops Q (o :: rest) a w := by
  obtain ⟨i0, hi, hz0, hz1, hz2⟩ := info_parts infoPt
  have hrep : ∀ k, List.replicate (k + 2) ((0, 0, 0) : Pt) = List.replicate k (0, 0, 0) ++ [(0, 0, 0), (0, 0, 0)] := fun k => by
    rw [show [((0, 0, 0) : Pt), (0, 0, 0)] = List.replicate 2 (0, 0, 0) from rfl, List.replicate_append_replicate]
  refine wpList_plain hgd fun K hK => ?_
  unfold Oper.wp execOp
  cases A with
  | some ad =>
    have hrun := run_append_room (P := Try.prog) w 22 o.type 25 i0 Try.underlying22 hi g 0 (n + 2) _ hg ad ys.length c (pcells ys) (by rw [pcells_len, hz1]) (rd_cells hy) (pcells_one' ys) (by omega) (by simp [pcells_len, hz1]; omega)
    rw [Nat.zero_add] at hrun
    simp only [ho, resolve, invoke, builtin, Sem.run_bind, Sem.run_pure, Result.andThen_ok, List.map_toArray, List.map_cons, List.map_nil, hs, hx, hrun]
    refine hK _ _ (h _ ?_ (mv_setRow w g _))
    rw [setRow_heap w g _ _ 25 _ hg]
    simp only [Nat.zero_mul, List.take_zero, List.nil_append, Nat.zero_add]
    rw [pcells_append, pcells_len, hrep, pcells_append, List.drop_append_of_le_length (by rw [pcells_len, List.length_replicate]; omega), List.drop_eq_nil_of_le (by rw [pcells_len, List.length_replicate]; omega), List.nil_append]
  | none =>
    obtain rfl := pt_nil hy
    have hn0 : n = 0 := by simpa using hn.symm
    subst hn0
    have hrun := run_append_none (P := Try.prog) g 22 o.type 25 i0 3 Try.underlying22 hi (.slice (some ⟨g, 0, none⟩) 0 2) 0 c [] ⟨rfl, .inr ⟨g, 2, _, rfl, Nat.le_refl _, hg, by omega, by decide, by simp [pcells], by simp⟩⟩
    simp only [ho, resolve, invoke, builtin, Sem.run_bind, Sem.run_pure, Result.andThen_ok, List.map_toArray, List.map_cons, List.map_nil, hs, hx, List.length_nil, hrun]
    exact hK _ _ (h w (by rw [hg]; rfl) (Mv.refl _ _))
section
set_option maxHeartbeats 1600000
set_option maxRecDepth 100000
theorem copied_any (A : Option Addr) (c : Nat) (l : List Pt) (w : World) (hx : Rd w A (pcells l)) (hl : l.length ≤ 2000) :
    Calls Try.prog 17 #[.slice A l.length c] w fun e w' => ∃ g, e = .returned (.slice (some ⟨g, 0, none⟩) l.length (l.length + 2)) ∧ w'.heap[g]? = some (.cells (pcells (l ++ [(0, 0, 0), (0, 0, 0)])).toArray 25 (0, 0)) ∧ w.heap.size ≤ g ∧ RowKit.Below w.heap.size w w' := by
  have hmk := fun W => run_make_pt W (l.length + 2) (by omega)
  have hcast : ((l.length + 2 : Nat) : Int) = (l.length : Int) + 2 := by omega
  rw [hcast] at hmk
  obtain ⟨W, hW⟩ : ∃ W, W = w.alloc (.cells (pcells (List.replicate (l.length + 2) (0, 0, 0))).toArray 25) := ⟨_, rfl⟩
  have hbw : RowKit.Below w.heap.size w W := by rw [hW]; exact (RowKit.Below.refl _ w).alloc (Nat.le_refl _) _
  have hg : W.heap[w.heap.size]? = some (.cells (pcells (List.replicate (l.length + 2) (0, 0, 0))).toArray 25 (0, 0)) := by rw [hW]; exact heap_alloc_new _ _
  have HX := Lib.hid (hx.below hbw); have HG := Lib.hid hg; have HBW := Lib.hid hbw; have HW := Lib.hid hW
  have q1 : IntKind.i64.wrap ((l.length : Int) + 2) = (l.length : Int) + 2 := IntWalk.i64_in _ (by omega)
  clear hx hg hbw hW hcast
  go_enter Try.func17, Try.ntmps17
  go_wp2_with (first
    | (at_builtin; go_must (rw [← HW.out]; refine wpList_append_room_pt rfl _ _ rfl w.heap.size l.length rfl HG.out A c l rfl HX.out rfl ?_; intro w3 hg3 hm3))
    | fail)
  go_ret
  exact ⟨w.heap.size, rfl, hg3, Nat.le_refl _, HBW.out.trans (hm3.belowB HBW.out.size (fun k hk e => by omega))⟩
end
end Go.Proofs.Ytfohmepjedehfaa
