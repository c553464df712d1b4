/-
  Slices of slices: a row cut from a place on, or between two places.
-/
import Derived.Test.YtmgjlldccmgpcaaDoorMv
namespace Go.Proofs.YtmgjlldccmgpcaaDoor
set_option linter.unusedVariables false
set_option linter.unusedSimpArgs false
open Go.RowKit

section
variable {P : Program}
theorem Rd.drop {w : World} {A : Option Addr} {vs : List Value} (h : Rd w A vs) (k : Nat) : Rd w (A.map (·.add k)) (vs.drop k) := by
  intro j v hv
  rw [List.getElem?_drop] at hv
  obtain ⟨b, off, rfl, hc⟩ := h (k + j) v hv
  refine ⟨b, off + k, ?_, by rw [Nat.add_assoc]; exact hc⟩
  simp only [Option.map_some, Addr.add]
  by_cases h0 : k = 0 <;> simp [h0]
theorem run_bound (w : World) (k cap : Nat) (c : BoundsCode) (h : k ≤ cap) : (Instr.sliceBound (.int .i64 (k : Nat)) cap c).run P w = .ok k w := by
  simp [Instr.sliceBound, asIntOf, h]
theorem run_slice_any (w : World) (ty e : TypeId) (A : Option Addr) (n c l h : Nat) (lo hi : Option Value) (hu : P.underlying ty = some (.slice e)) (hs : (P.info? e).map (·.size) = some 1)
    (hlo : lo = some (.int .i64 (l : Nat)) ∨ lo = none ∧ l = 0) (hhi : hi = some (.int .i64 (h : Nat)) ∨ hi = none ∧ h = n) (hl : l ≤ h) (hh : h ≤ c) :
    ∃ A', (Instr.sliceAt ty (.slice A n c) lo hi none).run P w = .ok (.slice A' (h - l) (c - l)) w ∧ A'.map (·.block) = A.map (·.block) ∧ ∀ vs : List Value, vs.length ≤ c → Rd w A vs → Rd w A' (vs.drop l) := by
  refine ⟨if c = l then A else A.map (·.add l), ?_, ?_, fun vs hv hr => ?_⟩
  · cases hq : P.info? e with
    | none => simp [hq] at hs
    | some i =>
      have hsz : i.size = 1 := by simpa [hq] using hs
      have b1 := run_bound (P := P) w l h
      have b2 := run_bound (P := P) w h c
      rcases hlo with rfl | ⟨rfl, rfl⟩ <;> rcases hhi with rfl | ⟨rfl, rfl⟩ <;>
        simp [Instr.sliceAt, Instr.slice, Instr.sliceBounds, run_underlying hu, sizeOf, typeInfo, hq, hsz, b1, b2, hl, hh]
  · split
    · rfl
    · cases A with
      | none => rfl
      | some ad => simp only [Option.map_some, Addr.add]; split <;> rfl
  · split
    · rename_i e1
      rw [List.drop_eq_nil_of_le (by omega)]
      exact Rd.nil _ _
    · exact hr.drop l
theorem run_slice_array (w : World) (t e : TypeId) (N b off l : Nat) (ht : P.underlying t = some (.array N e)) (hs : (P.info? e).map (·.size) = some 1) (hl : l < N) :
    (Instr.sliceAt t (.pointer (some ⟨b, off, none⟩)) (some (.int .i64 (l : Nat))) none none).run P w = .ok (.slice (some ⟨b, off + l, none⟩) (N - l) (N - l)) w := by
  cases hq : P.info? e with
  | none => simp [hq] at hs
  | some i =>
    have hsz : i.size = 1 := by simpa [hq] using hs
    have b1 := run_bound (P := P) w l N
    have hne : ¬ N = l := by omega
    by_cases h0 : l = 0
    · subst h0
      have b1' := b1 .sliceB (by omega)
      simp at b1'
      simp [Instr.sliceAt, Instr.sureAddr, Instr.sliceBounds, run_underlying ht, sizeOf, typeInfo, hq, hsz, b1', hne, Addr.add]
    · simp [Instr.sliceAt, Instr.sureAddr, Instr.sliceBounds, run_underlying ht, sizeOf, typeInfo, hq, hsz, b1 .sliceB (by omega), hne, Addr.add, h0]
theorem wpList_slice_any {w : World} {ops : Array Oper} {rest : List Oper} {o : Oper} {a : Act} {Q : Exit → Act → World → Prop} (hgd : o.guard = none) (ty : TypeId) (x : Operand) (lo hi : Option Operand)
    (ho : o.op = .slice ty x lo hi none) (e : TypeId) (hu : P.underlying ty = some (.slice e)) (hs : (P.info? e).map (·.size) = some 1) (A : Option Addr) (n c l h : Nat) (hx : a.eval x = .slice A n c)
    (hlo : lo.map a.eval = some (.int .i64 (l : Nat)) ∨ lo = none ∧ l = 0) (hhi : hi.map a.eval = some (.int .i64 (h : Nat)) ∨ hi = none ∧ h = n) (hl : l ≤ h) (hh : h ≤ c)
    (hK : ∀ A', A'.map (·.block) = A.map (·.block) → (∀ vs : List Value, vs.length ≤ c → Rd w A vs → Rd w A' (vs.drop l)) → wpList P ops Q rest (a.put o.dst (.slice A' (h - l) (c - l))) w) : wpList P ops Q (o :: rest) a w := by
  obtain ⟨A', hr, hbl, hv⟩ := run_slice_any (P := P) w ty e A n c l h (lo.map a.eval) (hi.map a.eval) hu hs (by rcases hlo with h | ⟨rfl, h⟩; exact .inl h; exact .inr ⟨rfl, h⟩) (by rcases hhi with h | ⟨rfl, h⟩; exact .inl h; exact .inr ⟨rfl, h⟩) hl hh
  refine wpList_plain hgd fun K hK' => ?_
  unfold Oper.wp
  simp only [execOp, ho, hx, Option.map_none, Sem.run_bind, Sem.run_pure, hr, Result.andThen_ok]
  exact hK' _ _ (hK A' hbl hv)
end
end Go.Proofs.YtmgjlldccmgpcaaDoor
