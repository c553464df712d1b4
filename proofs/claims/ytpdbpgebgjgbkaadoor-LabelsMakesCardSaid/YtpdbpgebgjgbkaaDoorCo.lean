/-
  Labels in memory of their own.
-/
import Derived.Test.YtpdbpgebgjgbkaaDoorMa
import Derived.Test.YtpdbpgebgjgbkaaDoorPs
namespace Go.Proofs.YtpdbpgebgjgbkaaDoor
set_option linter.unusedVariables false
set_option linter.unusedSimpArgs false
open Go.RowKit
section
set_option maxHeartbeats 1600000
set_option maxRecDepth 100000
theorem copied_any (A : Option Addr) (c : Nat) (l : List Lb) (w : World) (hx : Rd w A (lcells l)) (hl : l.length ≤ 1000000) :
    Calls Tryd.prog 17 #[.slice A l.length c] w fun e w' => ∃ A' c', e = .returned (.slice A' l.length c') ∧ w'.ownsRow w.heap.size 51 2 (.slice A' l.length c') l.length (lcells l) ∧ Below w.heap.size w w' := by
  obtain ⟨i0, hi, hz0, hz1, hz2⟩ := info_parts infoLb
  have hown : (w.alloc (.cells #[] 51)).ownsRow w.heap.size 51 2 (.slice (some ⟨w.heap.size, 0, none⟩) 0 0) 0 [] := own_whole (l := []) (Nat.le_refl _) (by decide) (heap_alloc_new w _)
  have hbw : RowKit.Below w.heap.size w (w.alloc (.cells #[] 51)) := (RowKit.Below.refl _ w).alloc (Nat.le_refl _) _
  have HBW := Lib.hid hbw; clear hbw
  cases A with
  | none =>
    obtain rfl := lb_nil hx
    have hrun := fun ty => run_append_none (P := Tryd.prog) w.heap.size 25 ty 51 i0 2 Tryd.underlying25 hi _ 0 c [] hown
    have HO := Lib.hid hown; clear hown hi hz0 hz1 hz2
    go_enter Tryd.func17, Tryd.ntmps17
    go_wp2
    go_ret
    exact ⟨_, _, rfl, HO.out, HBW.out⟩
  | some ad =>
    have hx1 := hx.alloc (.cells #[] 51)
    have HX := Lib.hid hx1; clear hx hx1
    have HO := Lib.hid hown; clear hown
    go_enter Tryd.func17, Tryd.ntmps17
    go_wp2_with (first
      | (at_builtin; go_must (refine wpList_append_own _ rfl _ _ 25 rfl w.heap.size 51 i0 (.agg #[.string ⟨#[]⟩, .string ⟨#[]⟩]) 2 32 Tryd.underlying25 hi hz0 hz1 hz2 rfl (by decide) _ 0 [] rfl HO.out ad l.length c (lcells l) rfl (lcells_len l) (rd_cells HX.out) (lcells_one' l) (by unfold maxLen; omega) (by omega) (by simp) ?_; intro v3 w3 own3 grow3 _))
      | fail)
    have hb3 : RowKit.Below w.heap.size w w3 := HBW.out.grown grow3 (by simp) (fun k h => (HO.out.lt k h).1)
    rw [Nat.zero_add, List.nil_append] at own3
    have HB3 := Lib.hid hb3; clear hb3 grow3
    have HO3 := Lib.hid own3; clear own3
    go_wp2
    go_ret
    obtain ⟨A', c', e, -⟩ := own_rdL HO3.out
    subst e
    exact ⟨A', c', rfl, HO3.out, HB3.out⟩
end
end Go.Proofs.YtpdbpgebgjgbkaaDoor
