/-
  A list of texts, each once; a builder emptied.
-/
import Derived.Test.YtfohmepjedehfabRq6
namespace Go.Proofs.Ytfohmepjedehfab
set_option linter.unusedVariables false
set_option linter.unusedSimpArgs false
open Go.RowKit
def stC (l : List Bs) : List Value := l.map fun b => .string (mkB b)
theorem stC_one (l : List Bs) : ∀ u ∈ stC l, u.oneCell' = true := by
  intro u hu
  unfold stC at hu
  rw [List.mem_map] at hu
  obtain ⟨b, _, rfl⟩ := hu
  rfl
theorem infoStr : (Try.prog.info? 9).map (fun i => (i.zero, i.size, i.bytes)) = some (some (.string ⟨#[]⟩), 1, 16) := by kernel_rfl
theorem contS_eq (l : List Bs) (x : Bs) : Lib.containsS (l.map mkB) (mkB x) = l.contains x := by
  rw [Bool.eq_iff_iff, Lib.containsS_iff, List.contains_iff_mem, List.mem_map]
  refine ⟨fun ⟨a, ha, e⟩ => ?_, fun h => ⟨x, h, rfl⟩⟩
  have := congrArg bl e
  rw [bl_mk, bl_mk] at this
  rwa [← this]
section
set_option maxHeartbeats 3200000
set_option maxRecDepth 100000
theorem once_any (B : Nat) (v : Value) (l : List Bs) (x : Bs) (w : World) (h : w.ownsRow B 9 1 v l.length (stC l)) (hB : B ≤ w.heap.size) (hl : l.length ≤ 100000) :
    Calls Try.prog 51 #[v, .string (mkB x)] w fun e w' => ∃ v', e = .returned v' ∧ w'.ownsRow B 9 1 v' (onceP l x).length (stC (onceP l x)) ∧ Mv (fun k => v.ownBlock = some k) w w' := by
  have hcont : Calls Try.prog 71 #[v, .string (mkB x)] w fun e w' => e = .returned (.bool (l.contains x)) ∧ w' = w := by
    rcases h.2 with ⟨rfl, h0⟩ | ⟨g, cap, cur, e1, _, _, _, _, _⟩
    · have : l = [] := List.eq_nil_of_length_eq_zero h0
      subst this
      refine (Try.slices_Contains_string_empty none 0 (mkB x) w).mono ?_
      rintro e w' h
      exact h
    · have hc := h.cells (g := g) (by rw [e1]; rfl)
      rw [e1]
      refine (Try.slices_Contains_string g 0 l.length cap (l.map mkB) (mkB x) w (by simp) (by omega) ?_).mono ?_
      · intro j hj
        rw [List.length_map] at hj
        have := hc j (.string (mkB (l[j]'hj))) (by simp [stC, List.getElem?_eq_getElem hj])
        rw [Nat.zero_add]
        rw [add_flat] at this
        rw [this]
        simp [hj]
      · rintro e w' h
        rw [List.take_of_length_le (by simp), contS_eq] at h
        exact h
  have HC := Lib.hid hcont
  have HH := Lib.hid h
  obtain ⟨A, cv, rfl, -, -, -⟩ := own_rdg h
  cases hcc : l.contains x with
  | true =>
    rw [hcc] at HC
    have HO := Lib.hid (show onceP l x = l by unfold onceP; rw [if_pos hcc])
    clear hcont h hcc
    go_enter Try.func51, Try.ntmps51
    go_wp2_with fail
    refine HC.out.mono ?_
    rintro e w1 ⟨rfl, rfl⟩
    go_wp2
    go_ret
    exact ⟨_, rfl, by rw [HO.out]; exact HH.out, Mv.refl _ _⟩
  | false =>
    rw [hcc] at HC
    have HO := Lib.hid (show onceP l x = l ++ [x] by unfold onceP; rw [if_neg (by rw [hcc]; simp)])
    obtain ⟨n, hn⟩ : ∃ n, n = l.length := ⟨_, rfl⟩
    have hl' : n ≤ 100000 := by omega
    rw [← hn] at HC HH
    rw [← hn]
    have HN := Lib.hid hn
    have hown := HH.out
    clear hcont h hcc hn hl
    go_enter Try.func51, Try.ntmps51
    go_wp2_with fail
    refine HC.out.mono ?_
    rintro e w1 ⟨rfl, rfl⟩
    go_wp2_with (first
      | (at_builtin; (refine wpList_append_g rfl _ _ 47 9 (.string ⟨#[]⟩) 1 16 infoStr Try.underlying47 rfl (by decide) rfl B (.slice A n cv) n (stC l) rfl (hown.alloc _) _ 1 1 [.string (mkB x)] rfl (rd_row _ _ 9) rfl (stC_one [x]) (by unfold maxLen; omega) (by omega) (by simp; omega) ?_; intro v4 w4 ho4 hg4; have HO4 := Lib.hid ho4; have HG4 := Lib.hid hg4; clear ho4 hg4))
      | fail)
    go_ret
    refine ⟨_, rfl, ?_, ((Mv.refl _ _).alloc _).grown HG4.out fun _ _ h => h⟩
    rw [HO.out, List.length_append, ← HN.out]
    unfold stC
    rw [List.map_append]
    exact HO4.out
theorem reset_any (b : Nat) (x y : Value) (w : World) (h : w.heap[b]? = some (.cells #[x, y] 97 (0, 0))) : Calls Try.prog 53 #[.pointer (some ⟨b, 0, none⟩)] w fun e w' => e = .returned (.tuple #[]) ∧ w'.heap[b]? = some (.cells #[.pointer none, .slice none 0 0] 97 (0, 0)) ∧ Mv (fun k => k = b) w w' := by
  have c0 := cell_blk h 0
  have c1 := cell_blk h 1
  have f0 := free_blk h 0
  have f1 := free_blk h 1
  simp only [List.getElem?_toArray, List.getElem?_cons_zero, List.getElem?_cons_succ] at c0 c1
  have HB := Lib.hid (set_blk (set_blk h 0 (.pointer none)) 1 (.slice none 0 0))
  have HM := Lib.hid (((Mv.refl (fun k => k = b) w).setCell (p := ⟨b, 0, none⟩) (fun _ => rfl) (.pointer none)).setCell (p := ⟨b, 1, none⟩) (fun _ => rfl) (.slice none 0 0))
  clear h
  go_enter Try.func53, Try.ntmps53
  go_wp2
  go_end0
  exact ⟨rfl, by simpa using HB.out, HM.out⟩
end
end Go.Proofs.Ytfohmepjedehfab
