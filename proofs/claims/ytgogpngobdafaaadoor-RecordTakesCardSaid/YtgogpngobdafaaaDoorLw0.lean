/-
  What the laws of labels share, without the law's own words: the two tables from what the row lays, a world for the witnesses, labels that came in.
-/
import Derived.Test.YtgogpngobdafaaaDoorLr
import Derived.Test.YtgogpngobdafaaaDoorVd
import Derived.Test.YtgogpngobdafaaaDoorLaw
import Derived.Test.YtgogpngobdafaaaDoorCards
import Derived.Test.YtgogpngobdafaaaDoorTie
import Derived.Deep.DeepHandedRow
import Derived.Lib.LaidTab
import Derived.Lib.LaidIn
import Derived.Lib.LaidU8T
namespace Go.Proofs.YtgogpngobdafaaaDoor
set_option linter.unusedVariables false
set_option linter.unusedSimpArgs false
open Go.ChangeShapes Go.WideShapes Go.ChangeAt Go.RowKit
theorem data_first : (Rows.laid_unicode_utf8_first : DataW Unit) = Lib.firstData := by kernel_rfl
theorem data_accept : (Rows.laid_unicode_utf8_acceptRanges : DataW Unit) = Lib.acceptData := by kernel_rfl
theorem tabs {W : World} (h : laidMetH Tryd.prog [("unicode/utf8.acceptRanges", Rows.laid_unicode_utf8_acceptRanges), ("unicode/utf8.first", Rows.laid_unicode_utf8_first)] W) : Tabs W :=
  utf8Tabs_of_readsT (U8Types.of196 Tryd.validL) ⟨by kernel_rfl, by kernel_rfl, by kernel_rfl, by kernel_rfl, by kernel_rfl, by kernel_rfl, by kernel_rfl⟩
    (by rw [← data_first]; exact Lib.laidMet.reads h (.tail _ (.head _))) (by rw [← data_accept]; exact Lib.laidMet.reads h (.head _))
/-- A world for the witness: the settled one, the tables holding what their initialisers lay. -/
noncomputable def laidWorld (os : Os) : World :=
  let w0 := World.holding Tryd.prog os ⟨#[], #[], []⟩
  let put (h : Array Obj) (g : Nat) (cs : Array Value) : Array Obj := h.modify g fun
    | .cells _ t frozen => .cells cs t frozen
    | o => o
  let h1 := put w0.heap 1 (Lib.firstTab.map fun z => Value.int .u8 z).toArray
  let h2 := put h1 2 ((List.range 16).flatMap fun i => [Value.int .u8 (Lib.accLo i), Value.int .u8 (Lib.accHi i)]).toArray
  { w0 with heap := h2 }
theorem laid_met (os : Os) (args : Array Value) : laidMet Tryd.prog [("unicode/utf8.acceptRanges", Rows.laid_unicode_utf8_acceptRanges), ("unicode/utf8.first", Rows.laid_unicode_utf8_first)] ((laidWorld os).forCall (fun _ _ => 0) ⟨#[], args, []⟩).memory :=
  (LaidIn.of_run (l := [("unicode/utf8.acceptRanges", Rows.laid_unicode_utf8_acceptRanges), ("unicode/utf8.first", Rows.laid_unicode_utf8_first)]) [1, 2] 8 (by kernel_rfl) (by kernel_rfl) (by kernel_rfl) (by kernel_rfl)).met
theorem drawn_below {B : Nat} {w w1 w2 : World} (h : RowKit.Below B w w1) (hd : ∃ n, w2 = w1.drewN n) : RowKit.Below B w w2 := by
  obtain ⟨n, rfl⟩ := hd
  exact below_drewN h n
theorem rd_lb {w : World} {b off : Nat} {l : List Lb} (h : ∀ k (hk : k < l.length), w.cell? ⟨b, off + k * 2, none⟩ = some (.string l[k].1) ∧ w.cell? ⟨b, off + k * 2 + 1, none⟩ = some (.string l[k].2)) : Rd w (some ⟨b, off, none⟩) (lcells l) := by
  intro j v hv
  refine ⟨b, off, rfl, ?_⟩
  have hj : j < l.length * 2 := by rw [← lcells_len]; exact (List.getElem?_eq_some_iff.1 hv).1
  obtain ⟨h0, h1⟩ := h (j / 2) (by omega)
  rcases Nat.mod_two_eq_zero_or_one j with e | e
  · have := lcells_fst l (j / 2) (by omega)
    rw [show j / 2 * 2 = j by omega] at this h0
    rw [this] at hv
    rw [h0, ← hv]
  · have := lcells_snd l (j / 2) (by omega)
    rw [show j / 2 * 2 + 1 = j by omega] at this
    rw [show off + j / 2 * 2 + 1 = off + j by omega] at h1
    rw [this] at hv
    rw [h1, ← hv]
set_option maxRecDepth 100000 in
theorem open_labels {H : Type} {enc : TypeId × Value → H} {W : World} {r : Reach} {b0 : Nat} {v : Value} {d : DataW H} {ps : List MemPlace}
    (hval : Value.okWide Tryd.prog W r b0 24 v) (h : DataW.Trod enc Tryd.prog W 0 (fun _ => true) true 24 v d ps) :
    ∃ (A : Option Addr) (cap : Nat) (l : List Lb), v = .slice A l.length cap ∧ (l.length ≤ cap ∧ cap ≤ maxLen) ∧ Rd W A (lcells l) ∧ ∀ x ∈ l, x.1.size ≤ maxLen ∧ x.2.size ≤ maxLen := by
  obtain ⟨a0, len, cap, rfl⟩ := okWide_slice Tryd.underlying24 hval
  obtain ⟨fuel, hf⟩ := h
  rcases Go.Deep.open_slice_pairs Tryd.underlying24 Tryd.underlying68 (by kernel_rfl) rfl rfl (by kernel_rfl) (by kernel_rfl) hf with ⟨hcs, _⟩ | ⟨a, len', cap', m, n, V0, V1, D0, D1, P0, P1, hcs, _, hl, hm, hmm, _, hx⟩
  · simp [Value.cells] at hcs
    obtain ⟨rfl, rfl, rfl⟩ := hcs
    exact ⟨none, 0, [], rfl, ⟨by decide, by decide⟩, Rd.nil _ _, fun o ho => by cases ho⟩
  · simp [Value.cells] at hcs
    obtain ⟨rfl, rfl, rfl⟩ := hcs
    simp only [if_true] at hmm
    rw [hmm] at hx
    clear hmm
    have each : ∀ i, i < cap → ∃ o : Lb, V0 i = .string o.1 ∧ V1 i = .string o.2 ∧ o.1.size ≤ maxLen ∧ o.2.size ≤ maxLen := by
      intro i hi
      obtain ⟨_, _, t0, t1⟩ := hx i hi
      obtain ⟨s0, e0, _, w0⟩ := DataW.trod_string Tryd.underlying9 t0
      obtain ⟨s1, e1, _, w1⟩ := DataW.trod_string Tryd.underlying9 t1
      simp at e0 e1
      exact ⟨(s0, s1), e0, e1, w0, w1⟩
    let f : Nat → Lb := fun i => if h : i < cap then (each i h).choose else (⟨#[]⟩, ⟨#[]⟩)
    have hfs : ∀ i, i < cap → V0 i = .string (f i).1 ∧ V1 i = .string (f i).2 ∧ (f i).1.size ≤ maxLen ∧ (f i).2.size ≤ maxLen := by
      intro i hi
      have : f i = (each i hi).choose := dif_pos hi
      rw [this]
      exact (each i hi).choose_spec
    by_cases hc0 : len = 0
    · subst hc0
      exact ⟨some a, cap, [], rfl, ⟨by simp, hm⟩, Rd.nil _ _, fun o ho => by cases ho⟩
    · obtain ⟨c00, _, _, _⟩ := hx 0 (by omega)
      rw [Nat.zero_mul] at c00
      obtain ⟨b, off, _, h00, _, _⟩ := addr_flat c00
      have := h00 rfl
      subst this
      refine ⟨some ⟨b, off, none⟩, cap, (List.range len).map f, by simp, ⟨by simpa using hl, hm⟩, rd_lb fun k hk => ?_, fun o ho => ?_⟩
      · have hk' : k < len := by simpa using hk
        obtain ⟨c0, c1, _, _⟩ := hx k (by omega)
        obtain ⟨s0, s1, _⟩ := hfs k (by omega)
        refine ⟨?_, ?_⟩
        · rw [add_plain] at c0
          rw [c0, s0]; simp
        · rw [add_plain, ← Nat.add_assoc] at c1
          rw [c1, s1]; simp
      · obtain ⟨i, hi, rfl⟩ := List.mem_map.1 ho
        exact (hfs i (by have := List.mem_range.1 hi; omega)).2.2
end Go.Proofs.YtgogpngobdafaaaDoor
