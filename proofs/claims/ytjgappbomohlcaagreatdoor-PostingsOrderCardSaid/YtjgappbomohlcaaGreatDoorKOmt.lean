/-
  Matchers that came in: a list of them, and one.
-/
import Derived.Deep.SlicePairs
import Derived.Lib.SmallJoins
import Derived.Test.YtjgappbomohlcaaGreatDoorK01
namespace Go.Proofs.YtjgappbomohlcaaGreatDoor
section
set_option linter.unusedVariables false
set_option linter.unusedSimpArgs false
open Go.ChangeShapes Go.WideShapes Go.ChangeAt Go.RowKit
section
variable {H : Type} {enc : TypeId × Value → H} {P : Program} {w : World} {base : Nat} {spare : Nat → Bool} {held : Bool}
theorem open_slice_threeM {t e : TypeId} {f0 f1 f2 : Field} {fuel : Nat} {cs : List Value} {x : DataW H × List MemPlace} (ht : P.underlying t = some (.slice e)) (he : P.underlying e = some (.struct #[f0, f1, f2]))
    (ce : P.cellsOf e = 3) (o0 : f0.offset = 0) (o1 : f1.offset = 1) (o2 : f2.offset = 2) (c0 : P.cellsOf f0.type = 1) (c1 : P.cellsOf f1.type = 1) (c2 : P.cellsOf f2.type = 1)
    (h : DataW.trod enc P w base spare held fuel t cs = some x) :
    (cs = [.slice none 0 0] ∧ x = (.nil, [])) ∨
    ∃ (a : Addr) (len cap m n : Nat), cs = [.slice (some a) len cap] ∧ base ≤ a.block ∧ len ≤ cap ∧ cap ≤ maxLen ∧ m = (if spare a.block then cap else len) ∧
      ∀ i, i < m → ∃ (v0 v1 v2 : Value) (y0 y1 y2 : DataW H × List MemPlace), w.cell? (a.add (i * 3)) = some v0 ∧ w.cell? (a.add (i * 3 + 1)) = some v1 ∧ w.cell? (a.add (i * 3 + 2)) = some v2 ∧
        DataW.trod enc P w base spare held n f0.type [v0] = some y0 ∧ DataW.trod enc P w base spare held n f1.type [v1] = some y1 ∧ DataW.trod enc P w base spare held n f2.type [v2] = some y2 := by
  rcases Go.Deep.open_slice ht h with h0 | ⟨a, len, cap, m, n, D, Pl, rfl, hb, hl, hm, hmm, rfl, hx⟩
  · exact Or.inl h0
  refine Or.inr ⟨a, len, cap, m, n - 1, rfl, hb, hl, hm, hmm, fun i hi => ?_⟩
  obtain ⟨cs', h1, h2⟩ := hx i hi
  rw [ce] at h1
  obtain ⟨_, hlen, hcell⟩ := World.cells?_some h1
  obtain ⟨xs, k, hk, hxy, _, hxl, hf⟩ := DataW.trod_struct he h2
  have hk' : k = n - 1 := by omega
  subst hk'
  match xs, hxl, cs', hlen with
  | [y0, y1, y2], _, [v0, v1, v2], _ =>
    have g0 := hf 0 f0 rfl
    have g1 := hf 1 f1 rfl
    have g2 := hf 2 f2 rfl
    simp [o0, o1, o2, c0, c1, c2] at g0 g1 g2
    have e0 := hcell 0 (by omega)
    have e1 := hcell 1 (by omega)
    have e2 := hcell 2 (by omega)
    rw [Go.Deep.add_add] at e0 e1 e2
    exact ⟨v0, v1, v2, y0, y1, y2, by simpa using e0, by simpa using e1, by simpa using e2, g0, g1, g2⟩
end
theorem mcells_lenP : ∀ l, (mcells l).length = l.length * 3
  | [] => rfl
  | x :: r => by simp only [mcells, List.length_cons, mcells_lenP r]; omega
theorem rd_mtP {w : World} {b off : Nat} {l : List Mt'} (h : ∀ k (hk : k < l.length), w.cell? ⟨b, off + k * 3, none⟩ = some (.int .i64 l[k].1) ∧ w.cell? ⟨b, off + k * 3 + 1, none⟩ = some (.string l[k].2.1) ∧ w.cell? ⟨b, off + k * 3 + 2, none⟩ = some (.string l[k].2.2)) : Rd w (some ⟨b, off, none⟩) (mcells l) := by
  intro j v hv
  refine ⟨b, off, rfl, ?_⟩
  have hj : j < l.length * 3 := by rw [← mcells_lenP]; exact (List.getElem?_eq_some_iff.1 hv).1
  obtain ⟨h0, h1, h2⟩ := h (j / 3) (by omega)
  obtain ⟨p0, p1, p2⟩ := mcells_at l (j / 3) (by omega)
  have h3 : j % 3 = 0 ∨ j % 3 = 1 ∨ j % 3 = 2 := by omega
  rcases h3 with e | e | e
  · rw [show j / 3 * 3 = j by omega] at p0 h0
    rw [p0] at hv; rw [h0, ← hv]
  · rw [show j / 3 * 3 + 1 = j by omega] at p1
    rw [show off + j / 3 * 3 + 1 = off + j by omega] at h1
    rw [p1] at hv; rw [h1, ← hv]
  · rw [show j / 3 * 3 + 2 = j by omega] at p2
    rw [show off + j / 3 * 3 + 2 = off + j by omega] at h2
    rw [p2] at hv; rw [h2, ← hv]
set_option maxRecDepth 100000 in
theorem open_matchers {H : Type} {enc : TypeId × Value → H} {W : World} {r : Reach} {b0 : Nat} {v : Value} {d : DataW H} {ps : List MemPlace}
    (hval : Value.okWide Tryz.prog W r b0 45 v) (h : DataW.Trod enc Tryz.prog W 0 (fun _ => true) true 45 v d ps) :
    ∃ (A : Option Addr) (cap : Nat) (l : List Mt'), v = .slice A l.length cap ∧ (l.length ≤ cap ∧ cap ≤ maxLen) ∧ Rd W A (mcells l) ∧ ∀ m ∈ l, m.2.1.size ≤ maxLen ∧ m.2.2.size ≤ maxLen := by
  obtain ⟨a0, len, cap, rfl⟩ := okWide_slice Tryz.underlying45 hval
  obtain ⟨fuel, hf⟩ := h
  rcases open_slice_threeM Tryz.underlying45 Tryz.underlying66 (by kernel_rfl) rfl rfl rfl (by kernel_rfl) (by kernel_rfl) (by kernel_rfl) hf with ⟨hcs, _⟩ | ⟨a, len', cap', m, n, hcs, _, hl, hm, hmm, hx⟩
  · simp [Value.cells] at hcs
    obtain ⟨rfl, rfl, rfl⟩ := hcs
    exact ⟨none, 0, [], rfl, ⟨by decide, by decide⟩, Rd.nil _ _, fun o ho => by cases ho⟩
  · simp [Value.cells] at hcs
    obtain ⟨rfl, rfl, rfl⟩ := hcs
    simp only [if_true] at hmm
    rw [hmm] at hx
    clear hmm
    have each : ∀ i, i < cap → ∃ o : Mt', W.cell? (a.add (i * 3)) = some (.int .i64 o.1) ∧ W.cell? (a.add (i * 3 + 1)) = some (.string o.2.1) ∧ W.cell? (a.add (i * 3 + 2)) = some (.string o.2.2) ∧ o.2.1.size ≤ maxLen ∧ o.2.2.size ≤ maxLen := by
      intro i hi
      obtain ⟨v0, v1, v2, y0, y1, y2, k0, k1, k2, t0, t1, t2⟩ := hx i hi
      obtain ⟨n0, e0, _, _⟩ := DataW.trod_int Tryz.underlying3 t0
      obtain ⟨n1, e1, _, w1⟩ := DataW.trod_string Tryz.underlying9 t1
      obtain ⟨n2, e2, _, w2⟩ := DataW.trod_string Tryz.underlying9 t2
      simp at e0 e1 e2
      exact ⟨(n0, n1, n2), by rw [k0, e0], by rw [k1, e1], by rw [k2, e2], w1, w2⟩
    let f : Nat → Mt' := fun i => if h : i < cap then (each i h).choose else (0, ⟨#[]⟩, ⟨#[]⟩)
    have hfs : ∀ i, i < cap → W.cell? (a.add (i * 3)) = some (.int .i64 (f i).1) ∧ W.cell? (a.add (i * 3 + 1)) = some (.string (f i).2.1) ∧ W.cell? (a.add (i * 3 + 2)) = some (.string (f i).2.2) ∧ (f i).2.1.size ≤ maxLen ∧ (f i).2.2.size ≤ maxLen := by
      intro i hi
      have : f i = (each i hi).choose := dif_pos hi
      rw [this]
      exact (each i hi).choose_spec
    by_cases hc0 : len = 0
    · subst hc0
      exact ⟨some a, cap, [], rfl, ⟨by simp, hm⟩, Rd.nil _ _, fun o ho => by cases ho⟩
    · have c00 := (hfs 0 (by omega)).1
      rw [Nat.zero_mul] at c00
      obtain ⟨b, off, _, h00, _, _⟩ := addr_flat c00
      have := h00 rfl
      subst this
      refine ⟨some ⟨b, off, none⟩, cap, (List.range len).map f, by simp, ⟨by simpa using hl, hm⟩, rd_mtP fun k hk => ?_, fun o ho => ?_⟩
      rotate_left
      · obtain ⟨i, hi, rfl⟩ := List.mem_map.1 ho
        exact (hfs i (by have := List.mem_range.1 hi; omega)).2.2.2
      have hk' : k < len := by simpa using hk
      obtain ⟨c0, c1, c2, _⟩ := hfs k (by omega)
      rw [add_plain] at c0 c1 c2
      rw [← Nat.add_assoc] at c1 c2
      simp only [List.getElem_map, List.getElem_range]
      exact ⟨c0, c1, c2⟩
end
end Go.Proofs.YtjgappbomohlcaaGreatDoor
