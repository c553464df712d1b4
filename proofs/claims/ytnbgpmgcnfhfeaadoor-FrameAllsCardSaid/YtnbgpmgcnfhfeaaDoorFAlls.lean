/-
  FrameAlls (P2.3): for every bytes all frames, as far as they are whole, how many bytes these have, and what is wrong behind them, are the plain answers'. The condition is the table's: it holds what its initialiser lays, which the card ties to the program's text.
-/
import Derived.Test.YtnbgpmgcnfhfeaaDoorFt
import Derived.Test.YtnbgpmgcnfhfeaaDoorFa
namespace Go.Proofs.YtnbgpmgcnfhfeaaDoor
set_option linter.unusedVariables false
set_option linter.unusedSimpArgs false
open Go.ChangeShapes Go.WideShapes Go.ChangeAt Go.RowKit

section
set_option maxHeartbeats 1600000
set_option maxRecDepth 100000
theorem falls_walk (A : Option Addr) (ca : Nat) (xs : List UInt8) (w : World) (ht : StepsMet w) (hx : Rd w A (xs.map Bv)) (hc : xs.length ≤ ca) (hca : ca ≤ 9223372036854775807) :
    Calls Tryd.prog 7 #[.slice A xs.length ca] w fun e w' => e = .returned (.bool true) ∧ Below w.heap.size w w' := by
  have HT := Lib.hid ht; clear ht
  go_enter Tryd.func7, Tryd.ntmps7
  go_wp2_with fail
  refine (live_any _ HT.out).mono ?_
  rintro e w1 ⟨rfl, hb1⟩
  have hx1 := hx.below hb1
  have HT1 := Lib.hid (HT.out.below hb1)
  clear hx HT
  by_cases h1 : (xs.length : Int) ≤ 4000
  · go_wp2_with fail
    refine (all_any A ca xs w1 HT1.out hx1 hc (by omega) hca).mono ?_
    rintro e w2 ⟨v2, P, rfl, hP, hPd, hb2⟩
    obtain ⟨A2, c2, rfl, -⟩ := own_rd hP.1
    have hx2 := hx1.below hb2
    have hb2' := hb1.trans (hb2.mono hb1.size)
    clear hx1 HT1 hb1 hb2
    have hrl := allF_le xs
    obtain ⟨r, hr⟩ : ∃ r, r = allF xs := ⟨_, rfl⟩
    rw [← hr] at hPd hrl ⊢
    have HR := Lib.hid hr; clear hr
    obtain ⟨L, m, c⟩ := r
    simp only at hPd hrl ⊢
    have HPD := Lib.hid hPd; clear hPd
    have HRL := Lib.hid hrl; clear hrl
    go_wp2_with fail
    refine (rall_any A ca xs w2 hx2 hc (by omega) hca).mono ?_
    rintro e w3 ⟨v3, Q, rfl, hQ, hQd, hb3⟩
    obtain ⟨A3, c3, rfl, -⟩ := own_rd hQ.1
    rw [← HR.out] at hQd ⊢
    simp only at hQd ⊢
    have HQD := Lib.hid hQd; clear hQd
    have hP3 := hP.below hb3
    have hb3' := hb2'.trans (hb3.mono hb2'.size)
    clear hx2 hb2' hb3 hP
    have hPQ := hP3.rd
    have hQQ := hQ.rd
    have hll : P.length ≤ 4000 ∧ ∀ p ∈ P, p.2.2.length ≤ 4000 := by
      refine ⟨?_, fun p hp => ?_⟩
      · have := HRL.out.1; rw [← HPD.out, List.length_map] at this; omega
      · have := HRL.out.2 p.2.2 (by rw [← HPD.out]; exact List.mem_map.2 ⟨p, hp, rfl⟩); omega
    obtain ⟨l1, l2⟩ := hll
    have L2 := Lib.hid l2; clear l2
    go_wp2_with fail
    refine (same_yes A2 A3 c2 c3 P Q w3 (by rw [HPD.out, HQD.out]) hPQ.1 hQQ.1 hPQ.2 hQQ.2 (by omega) (fun p hp => by have := L2.out p hp; omega)).mono ?_
    rintro e w4 ⟨rfl, nn, rfl⟩
    go_wp2
    go_ret
    exact ⟨rfl, below_drewN hb3' nn⟩
  · have h1' : decide (4000 < (xs.length : Int)) = true := by simp; omega
    clear h1
    go_wp2_with fail
    refine (live_any _ HT1.out).mono ?_
    rintro e w2 ⟨rfl, hb2⟩
    go_wp2
    go_ret
    exact ⟨rfl, hb1.trans (hb2.mono hb1.size)⟩

theorem frameAlls_contract (H : Type) (enc : TypeId × Value → H) (W : World) (base : Nat) (args : Array Value) (ds gs : List (DataW H)) (before : List MemPlace)
    (hval : ∀ (j : Nat) t v, Tryd.f7.params[j]? = some t → args[j]? = some v → Value.okWide Tryd.prog W .any base t v)
    (hW : DataW.Whole enc Tryd.prog Tryd.f7.params.toList Rows.frameAllsSpec.vars false W args.toList ds gs before) (hL : laidMetH Tryd.prog Rows.frameAllsRow.laid W) :
    Calls Tryd.prog 7 args W fun e W' => ∃ v, e = .returned v ∧ Rows.frameAllsSpec.post enc Tryd.prog Tryd.f7 false true false false W args v W' := by
  have hW' := hW
  obtain ⟨p, q, hA0, hV, rfl, hfz, hnd⟩ := hW
  have hA : DataW.TrodAll enc Tryd.prog W 0 (fun _ => true) true Tryd.f7.params.toList args.toList ds p := hA0
  rw [Tryd.params7] at hA hval
  obtain ⟨v0, vs0, d0, ds0, p0, q0, hargs, rfl, rfl, h0, r0⟩ := trodAll_cons hA
  obtain ⟨rfl, rfl, rfl⟩ := trodAll_nil r0
  obtain rfl : args = #[v0] := by cases args; simp_all
  obtain ⟨rfl, rfl⟩ := trodVars_none hV
  obtain ⟨A0, c0, xs0, rfl, hm0, hx0⟩ := open_bytes Tryd.underlying23 Tryd.underlying5 (by kernel_rfl) (hval 0 23 v0 rfl rfl) h0
  clear hA0 hA
  unfold maxLen at hm0
  refine (falls_walk A0 c0 xs0 W (table hL) hx0 (by omega) (by omega)).mono fun e W' ⟨he, hg⟩ => ?_
  subst he
  exact ⟨_, rfl, law_end laidOut (by kernel_rfl) (by kernel_rfl) Tryd.underlying4 rfl hW' ⟨rfl, rfl, rfl⟩ hg⟩

theorem frameAlls_met (os : Os) : laidMet Tryd.prog Rows.frameAllsRow.laid ((laidWorld os).forCall (fun _ _ => 0) ⟨#[], #[.slice none 0 0], []⟩).memory :=
  laidMet_of_run' 8 (by kernel_rfl) (by kernel_rfl)
theorem frameAlls_reads (os : Os) {H : Type} (enc : TypeId × Value → H) : ∃ places, DataW.whole enc Tryd.prog ((laidWorld os).forCall (fun _ _ => 0) ⟨#[], #[.slice none 0 0], []⟩).memory Tryd.f7.params.toList Rows.frameAllsSpec.vars false (#[.slice none 0 0] : Array Value).toList 8 = some ([.nil], [], places) :=
  ⟨[], by kernel_rfl⟩

set_option maxRecDepth 100000 in
theorem frameAlls_lifted (os : Os) (started : os.Started) (H : Type) (enc : TypeId × Value → H) (F : Stop.Interp) :
    ReturnsInHanded {} Tryd.checked os 7 .any ((OpenSpec.ofChange Rows.frameAllsSpec).preRow enc Tryd.prog Tryd.f7 Rows.frameAllsRow.domain false Rows.frameAllsRow.laid) (((OpenSpec.ofChange Rows.frameAllsSpec).at F).post enc Tryd.prog Tryd.f7 false true false false) := by
  obtain ⟨places, hx⟩ := frameAlls_reads os enc
  refine returnsInHanded_of_row (C := Tryd.checked) (s := OpenSpec.ofChange Rows.frameAllsSpec) ownKn started (by kernel_rfl) Tryd.func7
    (witness_row_at (enc := enc) (C := Tryd.checked) false (laidWorld os) #[.slice none 0 0] rfl (by kernel_rfl) (by kernel_rfl) (by kernel_rfl)
      (OpenSpec.preRow_of_cond 8 hx (by kernel_rfl) (fun k hk => by cases hk) (by kernel_rfl) (frameAlls_met os))) ?_
  intro W base args ds gs before hval hW _ _ _ hL _ _
  exact frameAlls_contract H enc W base args ds gs before hval hW hL

theorem frameAlls_said : Rows.FrameAllsSaid :=
  OpenClaim.holds_of_cond 7 Tryd.f7 rfl rfl rfl rfl rfl rfl rfl ⟨rfl, rfl, rfl, rfl, rfl⟩ rfl rfl rfl rfl rfl (by kernel_rfl) Tryd.func7 (by kernel_rfl)
    (of_decide_eq_true (by kernel_rfl)) (by unfold Func.isWrapper; first | (rw [if_pos (by decide +kernel)]; kernel_rfl) | (rw [if_neg (by decide +kernel)]; exact ⟨rfl, rfl⟩))
    (fun os started H enc _ F => by rw [OpenClaim.pre_eq_preRow]; exact frameAlls_lifted os started H enc F)

theorem frameAlls_plain (f : FuncId) (fn : Func) (hf : Tryd.pinned.checked.prog.funcNamed "manometer/manometerlaw02.FrameAlls" = some f) (hfn : Tryd.pinned.checked.prog.funcs[f]? = some fn) :
    false = Tryd.pinned.checked.prog.looks [] ∧ ∀ (j : Nat) t, fn.params[j]? = some t → Tryd.pinned.checked.prog.wantsStandIn t = false := by
  obtain rfl : f = 7 := Option.some.inj ((show Tryd.prog.funcNamed "manometer/manometerlaw02.FrameAlls" = some 7 by kernel_rfl).symm.trans hf) |>.symm
  obtain rfl : fn = Tryd.f7 := (Option.some.inj (Tryd.func7.symm.trans hfn)).symm
  refine ⟨by kernel_rfl, fun j t ht => ?_⟩
  rw [Tryd.params7] at ht
  have hm : t = 23 := by simpa using Array.mem_of_getElem? ht
  rcases hm with rfl
  · exact (show Tryd.prog.wantsStandIn 23 = false by kernel_rfl)

theorem frameAlls_card : Rows.FrameAllsCardSaid :=
  Claim7.holds_tied_plain_at .later [] _ _ _ _ frameAlls_said (fun _ h => by cases h) (by kernel_rfl) (fun _ h => by cases h) frameAlls_row_tie rfl ⟨rfl, rfl⟩ (by kernel_rfl) rfl frameAlls_plain (by kernel_rfl)
#print axioms frameAlls_card
end
end Go.Proofs.YtnbgpmgcnfhfeaaDoor
