/-
  A parser in memory: what is left of a text, and its atoms; the rune that comes next, what goes past it, what refuses it.
  A parser in memory stays what it is where other blocks turn; the parser goes past a rune.
-/
import Derived.Lib.Hide
import Derived.WalkSmall
import Derived.Test.YtfohmepjedehfabQb
namespace Go.Proofs.Ytfohmepjedehfab
set_option linter.unusedVariables false
set_option linter.unusedSimpArgs false
section
set_option linter.unusedVariables false
set_option linter.unusedSimpArgs false
open Go.RowKit
def spC (l : Spans) : List Value := l.flatMap fun s => [.int .i32 s.1, .int .i32 s.2]
def pcC (l : List Pc) : List Value := l.flatMap fun p => [.int .i64 (p.1 : Nat), .int .i32 p.2]
theorem pcC_cons (p : Pc) (l : List Pc) : pcC (p :: l) = .int .i64 (p.1 : Nat) :: .int .i32 p.2 :: pcC l := rfl
theorem pcC_app (a b : List Pc) : pcC (a ++ b) = pcC a ++ pcC b := by simp [pcC]
theorem pcC_len (l : List Pc) : (pcC l).length = l.length * 2 := by
  induction l with
  | nil => rfl
  | cons p t ih => rw [pcC_cons, List.length_cons, List.length_cons, ih, List.length_cons]; omega
theorem spC_app (a b : Spans) : spC (a ++ b) = spC a ++ spC b := by simp [spC]
theorem spC_len (l : Spans) : (spC l).length = l.length * 2 := by
  induction l with
  | nil => rfl
  | cons p t ih => rw [show spC (p :: t) = .int .i32 p.1 :: .int .i32 p.2 :: spC t from rfl, List.length_cons, List.length_cons, ih, List.length_cons]; omega
/-- An atom's cells, its spans' slice given. -/
def atC (u : Value) (a : Atm) : List Value := [u, .bool a.neg, .int .u64 (wd a.next 0 : Nat), .int .u64 (wd a.next 1 : Nat), .int .u64 (wd a.next 2 : Nat), .int .u64 (wd a.next 3 : Nat)]
def atsC : List Value → List Atm → List Value
  | u :: us, a :: r => atC u a ++ atsC us r
  | _, _ => []
/-- Atoms in memory: a row of the parser's own, each atom's spans a row of its own. -/
structure AtIs (w : World) (B : Nat) (v : Value) (us : List Value) (L : List Atm) : Prop where
  len : us.length = L.length
  row : w.ownsRow B 124 6 v L.length (atsC us L)
  sp : ∀ (i : Nat) (u : Value) (a : Atm), us[i]? = some u → L[i]? = some a → w.ownsRow B 128 2 u a.sp.length (spC a.sp)
/-- What is left of a text, in the parser's box in block p. -/
structure PIs (w : World) (p : Nat) (l : List Pc) (v : Value) (us : List Value) (L : List Atm) : Prop where
  box : ∃ pb off c, w.heap[p]? = some (.cells #[.slice (some ⟨pb, off, none⟩) l.length c, v] 112 (0, 0)) ∧ pb < p ∧ l.length ≤ c ∧ c ≤ maxLen ∧ Rd w (some ⟨pb, off, none⟩) (pcC l)
  at' : AtIs w (p + 1) v us L
  ok : OkL l
  small : ∀ q ∈ l, q.1 ≤ 1000000 ∧ -2 ≤ q.2 ∧ q.2 ≤ 1114111
  few : L.length + l.length ≤ 257

theorem PIs.now {w : World} {p : Nat} {l : List Pc} {v : Value} {us : List Value} {L : List Atm} (h : PIs w p l v us L) :
    ∃ pb off c, w.heap[p]? = some (.cells #[.slice (some ⟨pb, off, none⟩) l.length c, v] 112 (0, 0)) ∧ 0 < l.length ∧ w.cell? ⟨pb, off, none⟩ = some (.int .i64 (atP l : Nat)) ∧ w.cell? ⟨pb, off + 1, none⟩ = some (.int .i32 (nowP l)) := by
  obtain ⟨pb, off, c, hb, _, _, _, hr⟩ := h.box
  obtain ⟨q, t, rfl⟩ : ∃ q t, l = q :: t := by
    cases l with
    | nil => exact absurd rfl h.ok.ne
    | cons q t => exact ⟨q, t, rfl⟩
  refine ⟨pb, off, c, hb, by simp, ?_, ?_⟩
  · obtain ⟨b, o, e, hc⟩ := hr 0 (.int .i64 (q.1 : Nat)) rfl
    injection e with e; injection e with e1 e2; subst e1; subst e2
    exact hc
  · obtain ⟨b, o, e, hc⟩ := hr 1 (.int .i32 q.2) rfl
    injection e with e; injection e with e1 e2; subst e1; subst e2
    exact hc
section
set_option maxHeartbeats 1600000
set_option maxRecDepth 100000
theorem now_any (p : Nat) (l : List Pc) (v : Value) (us : List Value) (L : List Atm) (w : World) (h : PIs w p l v us L) : Calls Try.prog 61 #[.pointer (some ⟨p, 0, none⟩)] w fun e w' => e = .returned (.int .i32 (nowP l)) ∧ w' = w := by
  obtain ⟨pb, off, c, hb, hl, c0, c1⟩ := h.now
  have b0 := cell_blk hb 0
  simp only [List.getElem?_toArray, List.getElem?_cons_zero] at b0
  generalize nowP l = x at c1 ⊢
  have hl' : (0 : Int) < (l.length : Int) := by omega
  clear h hb hl c0
  go_enter Try.func61, Try.ntmps61
  go_wp2
  go_ret
  exact ⟨rfl, rfl⟩
theorem refuse_any (p : Nat) (l : List Pc) (v : Value) (us : List Value) (L : List Atm) (k : Int) (w : World) (h : PIs w p l v us L) : Calls Try.prog 78 #[.pointer (some ⟨p, 0, none⟩), .int .i64 k] w fun e w' => e = .panicked [{ v := .iface 69 (.agg #[.int .i64 (atP l : Nat), .int .i64 k]), recovered := false }] ∧ w' = w := by
  obtain ⟨pb, off, c, hb, hl, c0, c1⟩ := h.now
  have b0 := cell_blk hb 0
  simp only [List.getElem?_toArray, List.getElem?_cons_zero] at b0
  generalize atP l = x at c0 ⊢
  have hl' : (0 : Int) < (l.length : Int) := by omega
  clear h hb hl c1
  go_enter Try.func78, Try.ntmps78
  go_wp2
  exact ⟨rfl, rfl, rfl⟩
theorem must_yes (p : Nat) (w : World) : Calls Try.prog 60 #[.pointer (some ⟨p, 0, none⟩), .bool true] w fun e w' => e = .returned (.tuple #[]) ∧ w' = w := by
  go_enter Try.func60, Try.ntmps60
  go_wp2
  go_end0
  exact ⟨rfl, rfl⟩
theorem must_no (p : Nat) (l : List Pc) (v : Value) (us : List Value) (L : List Atm) (w : World) (h : PIs w p l v us L) : Calls Try.prog 60 #[.pointer (some ⟨p, 0, none⟩), .bool false] w fun e w' => e = .panicked [{ v := .iface 69 (.agg #[.int .i64 (atP l : Nat), .int .i64 8]), recovered := false }] ∧ w' = w := by
  have hr := refuse_any p l v us L 8 w h
  generalize atP l = x at hr ⊢
  have HR := Lib.hid hr; clear hr h
  go_enter Try.func60, Try.ntmps60
  go_wp2_with fail
  refine HR.out.mono ?_
  rintro e w1 ⟨rfl, rfl⟩
  go_wp2
  first | exact ⟨rfl, rfl, rfl⟩ | (trace_state; sorry)
end
end
section
set_option linter.unusedVariables false
set_option linter.unusedSimpArgs false
open Go.RowKit
theorem own_mv {S : Nat → Prop} {w w' : World} {B : Nat} {e : TypeId} {size n : Nat} {u : Value} {xs : List Value} (h : w.ownsRow B e size u n xs) (m : Mv S w w') (hS : ∀ k, u.ownBlock = some k → ¬ S k) : w'.ownsRow B e size u n xs :=
  own_moved h fun g hg => m.block g (h.lt g hg).2 (hS g hg)
theorem AtIs.mv {S : Nat → Prop} {w w' : World} {B : Nat} {v : Value} {us : List Value} {L : List Atm} (h : AtIs w B v us L) (m : Mv S w w') (hS : ∀ k, B ≤ k → ¬ S k) : AtIs w' B v us L :=
  ⟨h.len, own_mv h.row m fun k hk => hS k (h.row.lt k hk).1, fun i u a hu ha => own_mv (h.sp i u a hu ha) m fun k hk => hS k ((h.sp i u a hu ha).lt k hk).1⟩
/-- What lies in the box of a parser whose text is not at its end. -/
theorem PIs.more {w : World} {p : Nat} {l : List Pc} {v : Value} {us : List Value} {L : List Atm} (h : PIs w p l v us L) (hn : nowP l ≠ -1) : 2 ≤ l.length := by
  have h1 := h.ok.tail hn
  have h2 := h.ok.ne
  cases l with
  | nil => exact absurd rfl h2
  | cons q t =>
    cases t with
    | nil => exact h1.elim
    | cons r s => simp
theorem PIs.other {S : Nat → Prop} {w w' : World} {p : Nat} {l : List Pc} {v : Value} {us : List Value} {L : List Atm} (h : PIs w p l v us L) (m : Mv S w w') (hS : ∀ k, k ≤ p → ¬ S k) (ha : ∀ k, p < k → ¬ S k) : PIs w' p l v us L := by
  obtain ⟨pb, off, c, hb, hp, hlc, hc, hr⟩ := h.box
  refine ⟨⟨pb, off, c, (m.block _ (blk_lt hb) (hS _ (Nat.le_refl _))).trans hb, hp, hlc, hc, hr.blk fun b hb' e => ?_⟩, h.at'.mv m fun k hk => ha k (by omega), h.ok, h.small, h.few⟩
  injection e with e
  simp only at e
  subst e
  exact m.block _ hb' (hS _ (by omega))
theorem PIs.below {w w' : World} {p : Nat} {l : List Pc} {v : Value} {us : List Value} {L : List Atm} (h : PIs w p l v us L) (m : Below w.heap.size w w') : PIs w' p l v us L :=
  h.other (S := fun _ => False) (Mv.of_below m _) (fun _ _ f => f) (fun _ _ f => f)
/-- The box with other things in it. -/
theorem PIs.rest {w w' : World} {p : Nat} {l l' : List Pc} {v : Value} {us : List Value} {L : List Atm} (h : PIs w p l v us L) (m : Mv (fun k => k = p) w w') {pb off c : Nat}
    (hb : w'.heap[p]? = some (.cells #[.slice (some ⟨pb, off, none⟩) l'.length c, v] 112 (0, 0))) (hp : pb < p) (hlc : l'.length ≤ c) (hc : c ≤ maxLen) (hr : Rd w (some ⟨pb, off, none⟩) (pcC l')) (ho : OkL l') (hs : ∀ q ∈ l', q ∈ l) (hf : l'.length ≤ l.length) : PIs w' p l' v us L :=
  ⟨⟨pb, off, c, hb, hp, hlc, hc, hr.blk fun b hb' e => by injection e with e; simp only at e; subst e; exact m.block _ hb' (by omega)⟩, h.at'.mv m fun k hk => by omega, ho, fun q hq => h.small q (hs q hq), by have := h.few; omega⟩
section
set_option maxHeartbeats 1600000
set_option maxRecDepth 100000
theorem pass_any (p : Nat) (l : List Pc) (v : Value) (us : List Value) (L : List Atm) (w : World) (h : PIs w p l v us L) (hn : nowP l ≠ -1) : Calls Try.prog 76 #[.pointer (some ⟨p, 0, none⟩)] w fun e w' => e = .returned (.tuple #[]) ∧ PIs w' p l.tail v us L ∧ Mv (fun k => k = p) w w' := by
  have h2 := h.more hn
  obtain ⟨pb, off, c, hb, hp, hlc, hc, hr⟩ := h.box
  have b0 := cell_blk hb 0
  have f0 := free_blk hb 0
  simp only [List.getElem?_toArray, List.getElem?_cons_zero] at b0
  have hH := fun w' m pb off c hb hp hlc hc hr => h.rest (w' := w') (l' := l.tail) m (pb := pb) (off := off) (c := c) hb hp hlc hc hr (h.ok.tail hn) (fun q hq => List.mem_of_mem_tail hq) (by simp)
  have hr2 : Rd w (some ⟨pb, off + 2, none⟩) (pcC l.tail) := by
    obtain ⟨q, t, rfl⟩ : ∃ q t, l = q :: t := by
      cases l with
      | nil => simp at h2
      | cons q t => exact ⟨q, t, rfl⟩
    have := hr.drop 2
    simpa [pcC_cons, Addr.add] using this
  have hst := set_blk hb 0 (.slice (some ⟨pb, off + 2, none⟩) (l.length - 1) (c - 1))
  have HF := Lib.hid (hH _ ((Mv.refl (fun k => k = p) w).setCell (fun _ => rfl) (.slice (some ⟨pb, off + 2, none⟩) (l.length - 1) (c - 1)) (p := ⟨p, 0, none⟩)) pb (off + 2) (c - 1) (by rw [hst]; simp) hp (by simp; omega) (by omega) hr2)
  have HM := Lib.hid ((Mv.refl (fun k => k = p) w).setCell (fun _ => rfl) (.slice (some ⟨pb, off + 2, none⟩) (l.length - 1) (c - 1)) (p := ⟨p, 0, none⟩))
  have g1 : (1 : Int) ≤ (l.length : Int) := by omega
  have g2 : ¬ c = 1 := by omega
  have g3 : 1 ≤ l.length := by omega
  have g4 : 1 ≤ c := by omega
  clear h hb hr hr2 hst hH hn
  generalize l.length = n at *
  go_enter Try.func76, Try.ntmps76
  go_wp2
  go_end0
  exact ⟨rfl, HF.out, HM.out⟩
end
end
end Go.Proofs.Ytfohmepjedehfab
