/-
  Parse: the pattern of a text, or its fault.
-/
import Derived.Test.YtfohmepjedehfabQz
namespace Go.Proofs.Ytfohmepjedehfab
set_option linter.unusedVariables false
set_option linter.unusedSimpArgs false
open Go.RowKit
def rxP (b : Bs) : Except Flt Re := if 256 < b.length then .error (0, 3) else wholeP (placesAt 0 b)
def PaOut (s : ByteArray) (w : World) (r : Except Flt Re) (e : Ending) (w' : World) : Prop :=
  match r with
  | .ok t => ∃ b, e = .returned (.tuple #[.pointer (some ⟨b, 0, none⟩), .int .i64 0, .int .i64 0]) ∧ w.heap.size ≤ b ∧ RexIs w' b s t ∧ RowKit.Below w.heap.size w w'
  | .error f => e = .returned (.tuple #[.pointer none, .int .i64 (f.1 : Nat), .int .i64 (f.2 : Nat)]) ∧ RowKit.Below w.heap.size w w'
section
set_option maxHeartbeats 3200000
set_option maxRecDepth 100000
theorem parse_any (s : ByteArray) (w : World) : Calls Try.prog 24 #[.string s] w (PaOut s w (rxP (bl s))) := by
  obtain ⟨R, hR⟩ : ∃ R, rxP (bl s) = R := ⟨_, rfl⟩
  rw [hR]
  unfold rxP at hR
  rw [bl_len] at hR
  by_cases hs : 256 < s.size
  · rw [if_pos hs] at hR
    have HR := Lib.hid hR; clear hR
    have g : (256 : Int) < (s.size : Int) := by omega
    go_enter Try.func24, Try.ntmps24
    go_wp2
    go_ret3
    rw [← HR.out]
    exact ⟨rfl, RowKit.Below.refl _ _⟩
  · rw [if_neg hs] at hR
    have hr := read_any s w (by omega)
    rw [hR] at hr
    have g : ¬ (256 : Int) < (s.size : Int) := by omega
    have HRD := Lib.hid hr
    clear hr hR hs
    go_enter Try.func24, Try.ntmps24
    go_wp2_with fail
    refine HRD.out.mono ?_
    intro e w1 ho
    cases R with
    | error f =>
      obtain ⟨rfl, hb⟩ := ho
      have HB := Lib.hid hb; clear hb
      go_wp2
      go_quiet (fail)
      go_wp2
      go_ret3
      exact ⟨rfl, below_drewN (HB.out.alloc HB.out.size _) _⟩
    | ok t =>
      obtain ⟨b, rfl, h1, h2, h3⟩ := ho
      have H1 := Lib.hid (And.intro h1 (And.intro h2 h3)); clear h1 h2 h3
      go_wp2
      go_quiet (fail)
      go_wp2
      go_ret3
      have hbb := below_drewN ((RowKit.Below.refl w1.heap.size w1).alloc (Nat.le_refl _) (.cells #[.int .i64 0, .int .i64 0] 69)) nq
      exact ⟨b, rfl, H1.out.1, H1.out.2.1.below hbb, H1.out.2.2.trans (hbb.mono H1.out.2.2.size)⟩
end
end Go.Proofs.Ytfohmepjedehfab
