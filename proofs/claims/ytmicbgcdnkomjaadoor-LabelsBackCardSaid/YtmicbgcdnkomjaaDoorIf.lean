/-
  slices.IndexFunc over labels: the first one of which a function value says so, whatever memory that takes of its own.
-/
import Derived.Test.YtmicbgcdnkomjaaDoorLr
import Derived.Deep.LoopGhost
import Derived.Shelf.Abstract
namespace Go.Proofs.YtmicbgcdnkomjaaDoor
set_option linter.unusedVariables false
set_option linter.unusedSimpArgs false
open Go.RowKit
/-- A function value tells of a label, in whatever world of a class, what p says, and turns nothing that was there. -/
def Tells (g : Nat) (lb : Array Value) (p : Lb → Bool) (S : World → Prop) : Prop :=
  ∀ (W : World) (x : Lb), S W → Calls Tryd.prog g (#[.agg #[.string x.1, .string x.2]] ++ lb) W fun e w' => e = .returned (.bool (p x)) ∧ Below W.heap.size W w'
def idxP (p : Lb → Bool) (l : List Lb) : Int := if l.findIdx p < l.length then (l.findIdx p : Nat) else -1
section
set_option maxHeartbeats 1600000
set_option maxRecDepth 100000
theorem ifn_any (A : Option Addr) (c : Nat) (l : List Lb) (w : World) (g : Nat) (lb : Array Value) (p : Lb → Bool) (S : World → Prop) (eg : ∀ args w, (callFunc g args).run Tryd.prog w = .ok (.enter g args) w)
    (hp : Tells g lb p S) (hS : ∀ W, Below w.heap.size w W → S W) (hx : Rd w A (lcells l)) (hl : l.length ≤ 1000000) :
    Calls Tryd.prog 88 #[.slice A l.length c, .func (.func g) #[] lb] w fun e w' => e = .returned (.int .i64 (idxP p l)) ∧ Below w.heap.size w w' := by
  obtain ⟨R, hR⟩ : ∃ R, R = idxP p l := ⟨_, rfl⟩
  rw [← hR]
  have HR := Lib.hid hR; clear hR
  have HP := Lib.hid hp; clear hp
  have HS := Lib.hid hS; clear hS
  go_enter Tryd.func88, Tryd.ntmps88
  go_wp2
  go_loopw [8] (fun s8 wr => ∃ k : Nat, k ≤ l.length ∧ s8 = .int .i64 k ∧ Aside (Below w.heap.size w wr) ∧ Aside (∀ j, (h : j < k) → (h' : j < l.length) → p l[j] = false)) (fun s8 _ => l.length - (intOf s8).toNat)
  case atStart => exact ⟨0, Nat.zero_le _, rfl, Below.refl _ w, fun j hj => absurd hj (Nat.not_lt_zero _)⟩
  case round =>
    obtain ⟨k, hk, rfl, B, F⟩ := hrel
    by_cases hlt : k < l.length
    · have hxr := hx.below B.out
      obtain ⟨b, off, rfl, c0, c1⟩ := lb_at hxr hlt
      have hcall := HP.out wr l[k] (HS.out wr B.out)
      generalize hy : l[k] = y at c0 c1 hcall
      have HY := Lib.hid hy; clear hy hxr hx
      obtain ⟨y1, y2⟩ := y
      have k0 : (0 : Int) ≤ (k : Int) := by omega
      have k1 : (k : Int) < (l.length : Int) := by omega
      cases hq : p (y1, y2) with
      | true =>
        rw [hq] at hcall
        have HQ := Lib.hid hq; clear hq
        have HC := Lib.hid hcall; clear hcall
        go_wp2_with (first | (go_at_fn g; refine HC.out.mono ?_; rintro e w1 ⟨rfl, hb⟩) | fail)
        go_ret
        refine ⟨?_, B.out.trans (hb.mono B.out.size)⟩
        rw [HR.out]
        unfold idxP
        have : l.findIdx p = k := by
          rw [List.findIdx_eq hlt]
          exact ⟨by rw [HY.out]; exact HQ.out, fun j hj => F.out j hj (by omega)⟩
        rw [this, if_pos hlt]
        rfl
      | false =>
        rw [hq] at hcall
        have HQ := Lib.hid hq; clear hq
        have HC := Lib.hid hcall; clear hcall
        go_wp2_with (first | (go_at_fn g; refine HC.out.mono ?_; rintro e w1 ⟨rfl, hb⟩) | fail)
        go_roundw
        case rel =>
          refine ⟨k + 1, by omega, by go_num, (show Aside _ from B.out.trans (hb.mono B.out.size)), (show Aside _ from fun j hj hj' => ?_)⟩
          by_cases e : j = k
          · subst e; rw [HY.out]; exact HQ.out
          · exact F.out j (by omega) hj'
        case measure => simp [intOf]; omega
    · obtain rfl : k = l.length := by omega
      go_wp2
      go_ret
      refine ⟨?_, B.out⟩
      rw [HR.out]
      unfold idxP
      have hn : ¬ l.findIdx p < l.length := fun h => by
        have := List.findIdx_getElem (w := h)
        rw [F.out _ h h] at this
        cases this
      rw [if_neg hn]
      rfl
end
end Go.Proofs.YtmicbgcdnkomjaaDoor
