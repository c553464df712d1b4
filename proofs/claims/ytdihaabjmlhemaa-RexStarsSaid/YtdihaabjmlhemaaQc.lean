/-
  A parser in memory: what is left of a text, and its atoms; the rune that comes next, what goes past it, what refuses it.
-/
import Derived.Test.YtdihaabjmlhemaaQb
import Derived.Lib.Hide
import Derived.WalkSmall
namespace Go.Proofs.Ytdihaabjmlhemaa
set_option linter.unusedVariables false
set_option linter.unusedSimpArgs false
open Go.RowKit
def spC (l : Spans) : List Value := l.flatMap fun s => [.int .i32 s.1, .int .i32 s.2]
def pcC (l : List Pc) : List Value := l.flatMap fun p => [.int .i64 (p.1 : Nat), .int .i32 p.2]
theorem pcC_cons (p : Pc) (l : List Pc) : pcC (p :: l) = .int .i64 (p.1 : Nat) :: .int .i32 p.2 :: pcC l := rfl
theorem pcC_app (a b : List Pc) : pcC (a ++ b) = pcC a ++ pcC b := by simp [pcC]
theorem pcC_len (l : List Pc) : (pcC l).length = l.length * 2 := by
  induction l with
  | nil => rfl
  | cons p t ih => rw [pcC_cons, List.length_cons, List.length_cons, ih, List.length_cons]; omega
theorem spC_app (a b : Spans) : spC (a ++ b) = spC a ++ spC b := by simp [spC]
theorem spC_len (l : Spans) : (spC l).length = l.length * 2 := by
  induction l with
  | nil => rfl
  | cons p t ih => rw [show spC (p :: t) = .int .i32 p.1 :: .int .i32 p.2 :: spC t from rfl, List.length_cons, List.length_cons, ih, List.length_cons]; omega
/-- An atom's cells, its spans' slice given. -/
def atC (u : Value) (a : Atm) : List Value := [u, .bool a.neg, .int .u64 (wd a.next 0 : Nat), .int .u64 (wd a.next 1 : Nat), .int .u64 (wd a.next 2 : Nat), .int .u64 (wd a.next 3 : Nat)]
def atsC : List Value → List Atm → List Value
  | u :: us, a :: r => atC u a ++ atsC us r
  | _, _ => []
/-- Atoms in memory: a row of the parser's own, each atom's spans a row of its own. -/
structure AtIs (w : World) (B : Nat) (v : Value) (us : List Value) (L : List Atm) : Prop where
  len : us.length = L.length
  row : w.ownsRow B 100 6 v L.length (atsC us L)
  sp : ∀ (i : Nat) (u : Value) (a : Atm), us[i]? = some u → L[i]? = some a → w.ownsRow B 106 2 u a.sp.length (spC a.sp)
/-- What is left of a text, in the parser's box in block p. -/
structure PIs (w : World) (p : Nat) (l : List Pc) (v : Value) (us : List Value) (L : List Atm) : Prop where
  box : ∃ pb off c, w.heap[p]? = some (.cells #[.slice (some ⟨pb, off, none⟩) l.length c, v] 90 (0, 0)) ∧ pb < p ∧ l.length ≤ c ∧ c ≤ maxLen ∧ Rd w (some ⟨pb, off, none⟩) (pcC l)
  at' : AtIs w (p + 1) v us L
  ok : OkL l
  small : ∀ q ∈ l, q.1 ≤ 1000000 ∧ -2 ≤ q.2 ∧ q.2 ≤ 1114111
  few : L.length + l.length ≤ 257

theorem PIs.now {w : World} {p : Nat} {l : List Pc} {v : Value} {us : List Value} {L : List Atm} (h : PIs w p l v us L) :
    ∃ pb off c, w.heap[p]? = some (.cells #[.slice (some ⟨pb, off, none⟩) l.length c, v] 90 (0, 0)) ∧ 0 < l.length ∧ w.cell? ⟨pb, off, none⟩ = some (.int .i64 (atP l : Nat)) ∧ w.cell? ⟨pb, off + 1, none⟩ = some (.int .i32 (nowP l)) := by
  obtain ⟨pb, off, c, hb, _, _, _, hr⟩ := h.box
  obtain ⟨q, t, rfl⟩ : ∃ q t, l = q :: t := by
    cases l with
    | nil => exact absurd rfl h.ok.ne
    | cons q t => exact ⟨q, t, rfl⟩
  refine ⟨pb, off, c, hb, by simp, ?_, ?_⟩
  · obtain ⟨b, o, e, hc⟩ := hr 0 (.int .i64 (q.1 : Nat)) rfl
    injection e with e; injection e with e1 e2; subst e1; subst e2
    exact hc
  · obtain ⟨b, o, e, hc⟩ := hr 1 (.int .i32 q.2) rfl
    injection e with e; injection e with e1 e2; subst e1; subst e2
    exact hc
section
set_option maxHeartbeats 1600000
set_option maxRecDepth 100000
theorem now_any (p : Nat) (l : List Pc) (v : Value) (us : List Value) (L : List Atm) (w : World) (h : PIs w p l v us L) : Calls Try.prog 39 #[.pointer (some ⟨p, 0, none⟩)] w fun e w' => e = .returned (.int .i32 (nowP l)) ∧ w' = w := by
  obtain ⟨pb, off, c, hb, hl, c0, c1⟩ := h.now
  have b0 := cell_blk hb 0
  simp only [List.getElem?_toArray, List.getElem?_cons_zero] at b0
  generalize nowP l = x at c1 ⊢
  have hl' : (0 : Int) < (l.length : Int) := by omega
  clear h hb hl c0
  go_enter Try.func39, Try.ntmps39
  go_wp2
  go_ret
  exact ⟨rfl, rfl⟩
theorem refuse_any (p : Nat) (l : List Pc) (v : Value) (us : List Value) (L : List Atm) (k : Int) (w : World) (h : PIs w p l v us L) : Calls Try.prog 56 #[.pointer (some ⟨p, 0, none⟩), .int .i64 k] w fun e w' => e = .panicked [{ v := .iface 43 (.agg #[.int .i64 (atP l : Nat), .int .i64 k]), recovered := false }] ∧ w' = w := by
  obtain ⟨pb, off, c, hb, hl, c0, c1⟩ := h.now
  have b0 := cell_blk hb 0
  simp only [List.getElem?_toArray, List.getElem?_cons_zero] at b0
  generalize atP l = x at c0 ⊢
  have hl' : (0 : Int) < (l.length : Int) := by omega
  clear h hb hl c1
  go_enter Try.func56, Try.ntmps56
  go_wp2
  exact ⟨rfl, rfl, rfl⟩
theorem must_yes (p : Nat) (w : World) : Calls Try.prog 38 #[.pointer (some ⟨p, 0, none⟩), .bool true] w fun e w' => e = .returned (.tuple #[]) ∧ w' = w := by
  go_enter Try.func38, Try.ntmps38
  go_wp2
  go_end0
  exact ⟨rfl, rfl⟩
theorem must_no (p : Nat) (l : List Pc) (v : Value) (us : List Value) (L : List Atm) (w : World) (h : PIs w p l v us L) : Calls Try.prog 38 #[.pointer (some ⟨p, 0, none⟩), .bool false] w fun e w' => e = .panicked [{ v := .iface 43 (.agg #[.int .i64 (atP l : Nat), .int .i64 8]), recovered := false }] ∧ w' = w := by
  have hr := refuse_any p l v us L 8 w h
  generalize atP l = x at hr ⊢
  have HR := Lib.hid hr; clear hr h
  go_enter Try.func38, Try.ntmps38
  go_wp2_with fail
  refine HR.out.mono ?_
  rintro e w1 ⟨rfl, rfl⟩
  go_wp2
  first | exact ⟨rfl, rfl, rfl⟩ | (trace_state; sorry)
end
end Go.Proofs.Ytdihaabjmlhemaa
