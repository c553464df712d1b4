/-
  A list of points in memory of its own; a list with a point more.
-/
import Derived.Deep.AppendLies
import Derived.Lib.SliceRun
import Derived.Test.YtinjdlplbficiaaPt3
import Derived.Test.YtinjdlplbficiaaPms
namespace Go.Proofs.Ytinjdlplbficiaa
set_option linter.unusedVariables false
set_option linter.unusedSimpArgs false
open Go.RowKit
theorem slice_head (A : Option Addr) (n c k : Nat) (h : k ≤ c) (W : World) : (Instr.sliceAt 22 (.slice A n c) none (some (.int .i64 (k : Int))) (some (.int .i64 (k : Int)))).run Try.prog W = .ok (.slice A k k) W := by
  rw [run_slice_pt W A n c 0 k k none _ _ (.inr ⟨rfl, rfl⟩) (.inl rfl) (.inl rfl) (by omega) (Nat.le_refl _) h]
  have : (if k = 0 then A else A.map (·.add (0 * 3))) = A := by
    split
    · rfl
    · cases A with
      | none => rfl
      | some a => simp [Addr.add]
  rw [this]; rfl
theorem slice_tail (A : Option Addr) (n c k : Nat) (h : k ≤ n) (hn : n ≤ c) : ∃ A', (∀ W, (Instr.sliceAt 22 (.slice A n c) (some (.int .i64 (k : Int))) none none).run Try.prog W = .ok (.slice A' (n - k) (c - k)) W) ∧ ∀ (W : World) (l : List Pt), l.length = n → Rd W A (pcells l) → Rd W A' (pcells (l.drop k)) :=
  ⟨_, fun W => run_slice_pt W A n c k n c _ none none (.inl rfl) (.inr ⟨rfl, rfl, rfl⟩) (.inr ⟨rfl, rfl⟩) h hn (Nat.le_refl _), fun W l hl hr => add_pt hr k c (fun e => by omega)⟩
section
set_option maxHeartbeats 1600000
set_option maxRecDepth 100000
theorem with_any (A : Option Addr) (c : Nat) (l : List Pt) (p : Pt) (k r : Nat) (w : World) (hx : Rd w A (pcells l)) (hc : l.length ≤ c) (hk : k ≤ l.length) (hr : r ≤ l.length) (hl : l.length ≤ 2000) :
    Calls Try.prog 41 #[.slice A l.length c, aggPt p, .int .i64 (k : Int), .int .i64 (r : Int)] w fun e w' => ∃ A' c', e = .returned (.slice A' (l.take k ++ p :: l.drop r).length c') ∧
      w'.ownsRow w.heap.size 25 3 (.slice A' (l.take k ++ p :: l.drop r).length c') (l.take k ++ p :: l.drop r).length (pcells (l.take k ++ p :: l.drop r)) ∧ RowKit.Below w.heap.size w w' := by
  have h1 := slice_head A l.length c k (by omega)
  obtain ⟨A2, h2, hv2⟩ := slice_tail A l.length c r hr hc
  obtain ⟨W, hW⟩ : ∃ W, W = w.alloc (.cells (boxPt p) 25) := ⟨_, rfl⟩
  have hbw : RowKit.Below w.heap.size w W := by rw [hW]; exact (RowKit.Below.refl _ w).alloc (Nat.le_refl _) _
  have hbx : PBox W w.heap.size p := by rw [hW]; exact PBox.new w p
  have hxW := hx.below hbw
  have HV2 := Lib.hid (hv2 W l rfl hxW); have HX := Lib.hid (rd_take3 hxW k)
  have HBW := Lib.hid hbw; have hsW := hbw.size
  obtain ⟨b0, b1, b2⟩ := hbx.cells
  have hlk : (l.take k).length = k := by rw [List.length_take]; omega
  have hld : (l.drop r).length = l.length - r := by rw [List.length_drop]
  have HLK := Lib.hid hlk; have HLD := Lib.hid hld
  clear hv2 hx hxW hbw hlk hld hbx
  obtain ⟨p1, p2, p3⟩ := p
  unfold boxPt at hW
  unfold aggPt
  simp only at hW b0 b1 b2 ⊢
  have HW := Lib.hid hW; clear hW
  go_enter Try.func41, Try.ntmps41
  go_wp2_with fail
  rw [← HW.out]
  go_region_law (first
    | (refine step_append_cut rfl (.tmp 12) (.tmp 14) rfl A k (l.take k) rfl HLK.out (rd_mvP HX.out (by repeat (first | exact Mv.refl _ W | refine Mv.alloc ?_ _ | refine Mv.drew ?_))) ⟨W.heap.size, 0, none⟩ 1 1 [(p1, p2, p3)] rfl rfl (PBox.rd (by first | exact heap_alloc_new _ _ | exact heap_alloc_new W.drew _ | exact heap_alloc_new W _)) (by simp) (by rw [HLK.out]; simp; omega) ?_
       intro v3 w3 own3 grow3
       have hm3 : Mv (fun _ => False) W w3 := Mv.grown (w1 := _) (by repeat (first | exact Mv.refl _ W | refine Mv.alloc ?_ _ | refine Mv.drew ?_)) grow3 (by simp)
       have own3' := own3.lower (Nat.le_trans hsW (Mv.size (S := fun _ => False) (by repeat (first | exact Mv.refl _ W | refine Mv.alloc ?_ _ | refine Mv.drew ?_))))
       have hs3 := hm3.size
       have HM3 := Lib.hid hm3; have HO3 := Lib.hid own3'
       clear own3 grow3 hm3 own3')
    | (refine step_append_pt rfl (.tmp 15) (.tmp 18) rfl w.heap.size v3 (l.take k ++ [(p1, p2, p3)]) rfl (own_mvP (S := fun _ => False) HO3.out (by repeat (first | exact Mv.refl _ w3 | refine Mv.alloc ?_ _ | refine Mv.drew ?_)) (fun _ _ f => f)) A2 (c - r) (l.length - r) (l.drop r) rfl HLD.out (rd_mvP (rd_mvP HV2.out HM3.out) (by repeat (first | exact Mv.refl _ w3 | refine Mv.alloc ?_ _ | refine Mv.drew ?_))) (by rw [List.length_append, HLK.out, HLD.out]; simp; omega) (Nat.le_trans (Nat.le_trans hsW hs3) (Mv.size (S := fun _ => False) (by repeat (first | exact Mv.refl _ w3 | refine Mv.alloc ?_ _ | refine Mv.drew ?_)))) ?_
       intro v4 w4 own4 grow4
       have hb4 : RowKit.Below w.heap.size w w4 := Below.grown (w := _) (HBW.out.trans ((Mv.below (HM3.out.trans (T := fun _ => False) (by repeat (first | exact Mv.refl _ w3 | refine Mv.alloc ?_ _ | refine Mv.drew ?_)) (fun _ _ f => f))).mono hsW)) grow4 (Nat.le_trans (Nat.le_trans hsW hs3) (Mv.size (S := fun _ => False) (by repeat (first | exact Mv.refl _ w3 | refine Mv.alloc ?_ _ | refine Mv.drew ?_)))) (fun k hk => (HO3.out.lt k hk).1)
       have HB4 := Lib.hid hb4; have HO4 := Lib.hid own4
       clear hb4 own4 grow4)
    | fail)
  all_goals
    go_wp2
    go_ret
    have ho := HO4.out
    rw [List.append_assoc, List.singleton_append] at ho
    obtain ⟨A', c', e, -, -, -⟩ := own_rd_pt ho
    subst e
    exact ⟨A', c', rfl, ho, HB4.out⟩
theorem clone_any (A : Option Addr) (c : Nat) (l : List Pt) (w : World) (hx : Rd w A (pcells l)) (hl : l.length ≤ 2000) :
    Calls Try.prog 39 #[.slice A l.length c] w fun e w' => ∃ A' c', e = .returned (.slice A' l.length c') ∧ w'.ownsRow w.heap.size 25 3 (.slice A' l.length c') l.length (pcells l) ∧ RowKit.Below w.heap.size w w' := by
  cases A with
  | none =>
    obtain rfl := pt_nil hx
    have heq := fun (W : World) => Go.Lib.run_eql_slice_nil (P := Try.prog) W 22 25 none 0 c 0 0 Try.underlying22
    simp only [Option.isNone_none, Option.isNone_some] at heq
    go_enter Try.func39, Try.ntmps39
    go_wp2
    go_ret
    exact ⟨none, 0, rfl, World.ownsRow_nil _ _ _ _, Below.refl _ _⟩
  | some ad =>
    have hown := own_empty_pt w
    have hbw : RowKit.Below w.heap.size w (w.alloc (.cells #[] 25)) := (RowKit.Below.refl _ w).alloc (Nat.le_refl _) _
    have HBW := Lib.hid hbw; have HX := Lib.hid (hx.alloc (.cells #[] 25)); have HO := Lib.hid hown
    clear hown hbw hx
    have heq := fun (W : World) => Go.Lib.run_eql_slice_nil (P := Try.prog) W 22 25 (some ad) l.length c 0 0 Try.underlying22
    simp only [Option.isNone_none, Option.isNone_some] at heq
    go_enter Try.func39, Try.ntmps39
    go_wp2_with (first
      | (at_builtin; go_must (refine wpList_append_pt rfl _ _ rfl rfl w.heap.size _ [] rfl HO.out (some ad) c l rfl HX.out (by simp; omega) (by simp) ?_; intro v3 w3 own3 grow3))
      | fail)
    have hb3 : RowKit.Below w.heap.size w w3 := HBW.out.grown grow3 (by simp) (fun k h => (HO.out.lt k h).1)
    rw [List.nil_append] at own3
    have HB3 := Lib.hid hb3; clear hb3 grow3
    have HO3 := Lib.hid own3; clear own3
    go_wp2
    go_ret
    obtain ⟨A', c', e, -⟩ := own_rd_pt HO3.out
    subst e
    exact ⟨A', c', rfl, HO3.out, HB3.out⟩
end
end Go.Proofs.Ytinjdlplbficiaa
